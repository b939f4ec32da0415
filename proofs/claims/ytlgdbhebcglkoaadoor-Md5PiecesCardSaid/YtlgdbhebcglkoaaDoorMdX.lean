/-
  Strings of bytes that lie anywhere; what the reference's Word computes.
-/
import Derived.Test.YtlgdbhebcglkoaaDoorMdW
import Derived.Laws.BytesString
namespace Go.Proofs.YtlgdbhebcglkoaaDoor
open Go.RowKit Go.Shelf
theorem conv_any (w : World) (B : Nat) (A : Option Addr) (n c : Nat) (xs : List Int) (h : Rd w B A n (u8s xs)) : (convert 25 9 (.slice A n c)).run Tryd.prog w = .ok (.string (strOfNums xs)) w := by
  have hl := h.1
  rw [u8s_length] at hl
  rcases A with _ | ad
  · have h0 : n = 0 := by
      rcases Nat.eq_zero_or_pos n with h0 | h0
      · exact h0
      · obtain ⟨_, e, _⟩ := h.2 h0
        cases e
    subst h0
    obtain rfl := List.eq_nil_of_length_eq_zero hl
    exact (run_convert_bytes_nil w 25 5 Tryd.underlying25 Tryd.underlying5 0 c 9 Tryd.underlying9).trans rfl
  · have hc : (loadCells ad n).run Tryd.prog w = .ok (xs.map (Value.int .u8)).toArray w := by
      have := run_loadCells_list (P := Tryd.prog) w ad (u8s xs) (fun j v hv => by
        rcases Nat.eq_zero_or_pos n with h0 | h0
        · have := (List.getElem?_eq_some_iff.1 hv).1
          rw [u8s_length] at this
          omega
        · obtain ⟨ad', e, _, hcl⟩ := h.2 h0
          cases e
          exact hcl j v hv)
      rw [u8s_length, hl] at this
      exact this
    rw [run_convert_bytes_string w 25 9 5 (some ad) n c Tryd.underlying25 Tryd.underlying5 Tryd.underlying9, run_bytesToString w ad n c xs hc, foldl_push_bytes]
    simp [strOfNums, ByteArray.empty, ByteArray.emptyWithCapacity]
    rfl
set_option maxRecDepth 100000 in
set_option maxHeartbeats 4000000 in
theorem rword_any (A : Option Addr) (m cc : Nat) (P : List Int) (hP : Bts P) (hm : m ≤ 1099511627776) (hcc : m ≤ cc) (w : World) (hr : Rd w w.heap.size A m (u8s P)) :
    Calls Tryd.prog 32 #[.slice A m cc] w fun e w' => e = .returned (.int .u64 (wordL P : Int)) ∧ Kept w w' := by
  have C0 := Lib.hid (rsum_any A m cc P hP hm hcc w hr)
  have HW8 : Hid (wordL P = wdv ((sumL P).drop 8)) := rfl
  have hSl := sumL_length P
  have hget : ∀ j, j < 8 → (u8s (sumL P))[8 + j]? = some (.int .u8 (((sumL P).drop 8).getD j 0)) := fun j hj => by
    rw [u8s_get _ _ (by rw [hSl]; omega)]
    simp
  have Hget := Lib.hid hget
  have Hdl : Hid (((sumL P).drop 8).length = 8) := by show _ = _; rw [List.length_drop, hSl]
  have Hdb := Lib.hid ((sumL_bts P).drop 8)
  have Hone := Lib.hid (row_all' (sumL P))
  have HLs : Hid ((u8s (sumL P)).toArray.size = 16) := by show _ = _; rw [List.size_toArray, u8s_length, hSl]
  have Hsz : Hid ((Tryd.prog.info? 30).map (·.size) = some (u8s (sumL P)).toArray.size) := by show _ = _; rw [HLs.out]; exact size16b
  generalize (sumL P).drop 8 = S8 at *
  generalize u8s (sumL P) = L at *
  generalize wordL P = wv at *
  clear hSl hget hr hP
  go_enter Tryd.func32, Tryd.ntmps32
  go_upto_region 2 with (first
    | (go_at_call 21; refine C0.out.mono ?_; rintro e w1 ⟨rfl, k1⟩; have K1 := Lib.hid k1; clear k1)
    | ((refine wpList_store_row ?c0 30 (.tmp 3) (.tmp 7) ?c1 w1.heap.size L.toArray ?c2 ?c3 _ _ (hnew _ rfl) ?c4 ?c5 ?c6 ?_); (case c0 => with_reducible rfl); (case c1 => with_reducible rfl); (case c2 => rfl); (case c3 => rfl); (case c4 => exact Hsz.out); (case c5 => exact HLs.out.symm); (case c6 => exact Hone.out)))
  have k2 : Kept w1 (World.setRow (w1.alloc (.cells z16 30)) w1.heap.size L.toArray) := below_setRow ((Below.refl _ w1).alloc (Nat.le_refl _) _) (Nat.le_refl _) _
  have m2 : (World.setRow (w1.alloc (.cells z16 30)) w1.heap.size L.toArray).heap[w1.heap.size]? = some (.cells L.toArray 30 (0, 0)) := setRow_heap _ _ _ _ _ _ (hnew _ rfl)
  have hk2 := below_kept K1.out k2
  generalize World.setRow (w1.alloc (.cells z16 30)) w1.heap.size L.toArray = w2 at *
  obtain ⟨g, hg⟩ : ∃ g, g = w1.heap.size := ⟨_, rfl⟩
  rw [← hg] at m2 ⊢
  have M2 := Lib.hid m2
  have HK2 := Lib.hid hk2
  clear k2 m2 hk2 hg Hsz HLs Hone
  go_wp2_with fail
  go_loopw [4, 5] (fun x i wr => ∃ (j y : Nat), j ≤ 8 ∧ i = .int .i64 ((8 + j : Nat) : Int) ∧ x = .int .u64 (y : Int) ∧ Hid (y = wdv (S8.take j)) ∧ wr = w2) (fun _ i _ => 16 - (intOf i).toNat)
  case atStart => exact ⟨0, 0, by omega, rfl, rfl, rfl, rfl⟩
  case round =>
    obtain ⟨j, y, hj, rfl, rfl, hy, hwr⟩ := hrel
    obtain rfl : w2 = wr := hwr.symm
    obtain ⟨e8, he8⟩ : ∃ x, 8 + j = x := ⟨_, rfl⟩
    rw [he8]
    by_cases hj8 : j < 8
    · have heI : (e8 : Int) < 16 := by omega
      have hyb : y < 72057594037927936 := by
        have h := wdv_lt (S8.take j) (Hdb.out.take j)
        rw [← hy.out, List.length_take, Hdl.out, Nat.min_eq_left (by omega)] at h
        have h2 : 256 ^ j ≤ 256 ^ 7 := Nat.pow_le_pow_right (by omega) (by omega)
        omega
      obtain ⟨cb, hcb⟩ : ∃ cb, cb = S8.getD j 0 := ⟨_, rfl⟩
      have hc := Hdb.out.getD j
      rw [← hcb] at hc
      obtain ⟨c, hcc'⟩ := Int.eq_ofNat_of_zero_le hc.1
      have hc256 : c < 256 := by omega
      have hcell : w2.cell? ⟨g, e8, none⟩ = some (.int .u8 (c : Int)) := by
        rw [cell_of_row _ _ _ _ _ _ M2.out, List.getElem?_toArray, ← he8, Hget.out j hj8, ← hcb, hcc']
      have hw0 : IntKind.u64.wrap ((y : Int) * 256) = (y : Int) * 256 := by rw [IntKind.wrap_u64]; omega
      have hw1 : IntKind.u64.wrap (c : Int) = (c : Int) := by rw [IntKind.wrap_u64]; omega
      have Hn : Hid (y * 256 + c = wdv (S8.take (j + 1))) := by
        show _ = _
        rw [List.take_add_one, show S8[j]? = some cb from by rw [hcb]; simp [Hdl.out, hj8], Option.toList_some, wdv_snoc, ← hy.out, hcc']
        rfl
      obtain ⟨y', hy'⟩ : ∃ y', y * 256 + c = y' := ⟨_, rfl⟩
      have hor : (y : Int) * 256 + (c : Int) = (y' : Int) := by omega
      have hor2 : IntKind.u64.wrap (y' : Int) = (y' : Int) := by rw [IntKind.wrap_u64]; omega
      have hor3 : IntKind.u64.wrap ((y : Int) * 256 + (c : Int)) = (y' : Int) := by rw [hor, hor2]
      rw [hy'] at Hn
      have He8 := Lib.hid he8
      clear hcb hy' he8
      go_wp2_with fail
      go_roundw
      case rel => exact ⟨j + 1, y', by omega, by rw [← Nat.add_assoc, He8.out]; go_num, rfl, Hn, trivial⟩
      case measure => have := He8.out; simp [intOf]; omega
    · obtain rfl : j = 8 := by omega
      obtain rfl : e8 = 16 := by omega
      obtain rfl : y = wv := by rw [hy.out, HW8.out, List.take_of_length_le (by rw [Hdl.out]; omega)]
      go_wp2_with fail
      go_ret
      exact ⟨rfl, HK2.out⟩
end Go.Proofs.YtlgdbhebcglkoaaDoor
