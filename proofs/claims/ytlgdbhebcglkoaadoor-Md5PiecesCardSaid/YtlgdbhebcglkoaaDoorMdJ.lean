/-
  What Word, Modulo and Text of package md5 compute.
-/
import Derived.Test.YtlgdbhebcglkoaaDoorMdI
namespace Go.Proofs.YtlgdbhebcglkoaaDoor
open Go.RowKit Go.Shelf
/-- Bytes as one number, the first one highest. -/
def wdv (l : List Int) : Nat := l.foldl (fun w c => w * 256 + c.toNat) 0
theorem wdv_snoc (l : List Int) (c : Int) : wdv (l ++ [c]) = wdv l * 256 + c.toNat := by simp [wdv]
theorem wdv_lt (l : List Int) (hb : Bts l) : wdv l < 256 ^ l.length := by
  obtain ⟨n, hn⟩ : ∃ n, n = l.length := ⟨_, rfl⟩
  induction n generalizing l with
  | zero =>
    obtain rfl := List.eq_nil_of_length_eq_zero hn.symm
    simp [wdv]
  | succ n ih =>
    have hne : l ≠ [] := by intro h; rw [h] at hn; simp at hn
    have hl := List.dropLast_concat_getLast hne
    have hb1 : Bts l.dropLast := fun c hc => hb c (List.dropLast_subset _ hc)
    have hb2 := hb _ (List.getLast_mem hne)
    have h1 := ih l.dropLast hb1 (by rw [List.length_dropLast]; omega)
    rw [← hl, wdv_snoc, List.length_append, List.length_cons, List.length_nil, Nat.pow_add]
    omega
theorem Bts.take {l : List Int} (h : Bts l) (k : Nat) : Bts (l.take k) := fun c hc => h c (List.mem_of_mem_take hc)
theorem Bts.drop {l : List Int} (h : Bts l) (k : Nat) : Bts (l.drop k) := fun c hc => h c (List.mem_of_mem_drop hc)
/-- The word of bytes. -/
def wordL (P : List Int) : Nat := wdv ((sumL P).drop 8)
theorem sumL_bts (P : List Int) : Bts (sumL P) := dig_bts _
theorem wordL_lt (P : List Int) : wordL P < 18446744073709551616 := by
  have h := wdv_lt ((sumL P).drop 8) ((sumL_bts P).drop 8)
  rw [List.length_drop, sumL_length] at h
  exact h
theorem or_byte (x c : Nat) (hx : x < 72057594037927936) (hc : c < 256) : bits .or .u64 ((x : Int) * 256) (c : Int) = ((x * 256 + c : Nat) : Int) := by
  have e : (x : Int) * 256 = ((x * 256 : Nat) : Int) := by simp
  rw [e, u64_or_nat _ _ (by omega) (by omega), nat_join 8 _ _ (by omega) (by omega)]
set_option maxRecDepth 100000 in
set_option maxHeartbeats 2000000 in
theorem word_any (A : Option Addr) (m cc : Nat) (P : List Int) (hP : Bts P) (hm : m ≤ 70368744177664) (hcc : m ≤ cc) (w : World) (hr : Rd w w.heap.size A m (u8s P)) (hT : Tab w) :
    Calls Tryd.prog 30 #[.slice A m cc] w fun e w' => e = .returned (.int .u64 (wordL P : Int)) ∧ Below w.heap.size w w' := by
  have C0 := Lib.hid (sum_any A m cc P hP hm hcc w hr hT)
  have hWv : wordL P = wdv ((sumL P).drop 8) := rfl
  have hdb := (sumL_bts P).drop 8
  have hlen : (u8s (sumL P)).length = 16 := by rw [u8s_length, sumL_length]
  have hone := u8s_one (sumL P)
  have hdl : ((sumL P).drop 8).length = 8 := by rw [List.length_drop, sumL_length]
  have hget : ∀ k, k < 8 → (u8s (sumL P))[8 + k]? = some (.int .u8 (((sumL P).drop 8).getD k 0)) := fun k hk => by
    rw [u8s_get _ _ (by rw [sumL_length]; omega)]
    simp
  generalize hD : (sumL P).drop 8 = D at hdb hdl hget hWv
  generalize u8s (sumL P) = L at C0 hlen hone hget
  have Hone := Lib.hid hone
  have Hlen := Lib.hid hlen
  have Hget := Lib.hid hget
  have Hdl := Lib.hid hdl
  have Hdb := Lib.hid hdb
  generalize wordL P = wv at hWv ⊢
  have HW := Lib.hid hWv
  clear hone hlen hr hT hD hP hget hdl hdb hWv
  have Hsz : Hid ((Tryd.prog.info? 30).map (·.size) = some L.toArray.size) := by show _ = _; rw [List.size_toArray, Hlen.out]; exact size16b
  have Hszl : Hid ((Tryd.prog.info? 30).map (·.size) = some L.length) := by show _ = _; rw [Hlen.out]; exact size16b
  go_enter Tryd.func30, Tryd.ntmps30
  go_wp2_with (first
    | (go_at_call 24; refine C0.out.mono ?_; rintro e w1 ⟨rfl, hb1⟩; have HB1 := Lib.hid hb1; clear hb1)
    | (refine wpList_store_at rfl 30 (.tmp 4) (.tmp 8) rfl w1.heap.size 0 L rfl rfl 30 z16.toList (hnew _ rfl) Hszl.out ?c1 Hone.out ?_; (case c1 => rw [Hlen.out]; decide)))
  rw [splice_all _ _ (by rw [Hlen.out]; rfl)]
  have hg2 : (World.setRow (w1.alloc (.cells z16 30)) w1.heap.size L.toArray).heap[w1.heap.size]? = some (.cells L.toArray 30 (0, 0)) := setRow_heap _ _ _ _ _ _ (heap_alloc_new _ _)
  have hb2 : Below w.heap.size w (World.setRow (w1.alloc (.cells z16 30)) w1.heap.size L.toArray) := below_setRow (HB1.out.alloc HB1.out.size _) HB1.out.size _
  generalize World.setRow (w1.alloc (.cells z16 30)) w1.heap.size L.toArray = w2 at hg2 hb2 ⊢
  have HG2 := Lib.hid hg2
  clear hg2
  go_loopw [3, 11] (fun x i wr => ∃ (k : Nat) (y : Nat), k ≤ 8 ∧ i = .int .i64 k ∧ x = .int .u64 (y : Int) ∧ Hid (y = wdv (D.take k)) ∧ wr = w2) (fun _ i _ => 8 - (intOf i).toNat)
  case atStart => exact ⟨0, 0, by omega, rfl, rfl, rfl, rfl⟩
  case round =>
    obtain ⟨k, y, hk, rfl, rfl, hy, rfl⟩ := hrel
    by_cases hk8 : k < 8
    · have hyb : y < 72057594037927936 := by
        have h := wdv_lt (D.take k) (Hdb.out.take k)
        rw [← hy.out, List.length_take, Hdl.out, Nat.min_eq_left (by omega)] at h
        have h2 : 256 ^ k ≤ 256 ^ 7 := Nat.pow_le_pow_right (by omega) (by omega)
        omega
      obtain ⟨cb, hcb⟩ : ∃ cb, cb = D.getD k 0 := ⟨_, rfl⟩
      have hc := Hdb.out.getD k
      rw [← hcb] at hc
      obtain ⟨c, hcc'⟩ := Int.eq_ofNat_of_zero_le hc.1
      have hc256 : c < 256 := by omega
      have hcell : wr.cell? ⟨w1.heap.size, 8 + k, none⟩ = some (.int .u8 (c : Int)) := by
        rw [cell_of_row _ _ _ _ _ _ HG2.out, List.getElem?_toArray, Hget.out k hk8, ← hcb, hcc']
      have hsh : (y : Int) * 256 % 18446744073709551616 = (y : Int) * 256 := by omega
      have hw0 : IntKind.u64.wrap ((y : Int) * 256) = (y : Int) * 256 := by rw [IntKind.wrap_u64]; exact hsh
      have hor := or_byte y c hyb hc256
      have Hn : Hid (y * 256 + c = wdv (D.take (k + 1))) := by
        show _ = _
        rw [List.take_add_one, show D[k]? = some cb from by rw [hcb]; simp [Hdl.out, hk8], Option.toList_some, wdv_snoc, ← hy.out, hcc']
        rfl
      obtain ⟨y', hy'⟩ : ∃ y', y * 256 + c = y' := ⟨_, rfl⟩
      rw [hy'] at hor Hn
      clear hcb hy'
      go_wp2_with fail
      go_roundw
      case rel => exact ⟨k + 1, y', by omega, by go_num, rfl, Hn, trivial⟩
      case measure => simp [intOf]; omega
    · obtain rfl : k = 8 := by omega
      go_wp2_with fail
      go_ret
      refine ⟨?_, hb2⟩
      rw [HW.out, hy.out, List.take_of_length_le (by rw [Hdl.out]; omega)]
      rfl
theorem modulo_zero (A : Option Addr) (m cc : Nat) (w : World) : Calls Tryd.prog 29 #[.slice A m cc, .int .u64 0] w fun e w' => e = .returned (.tuple #[.int .u64 0, .int .i64 2]) ∧ w = w' := by
  go_enter Tryd.func29, Tryd.ntmps29
  go_wp2_with fail
  go_ret2
  exact ⟨rfl, rfl⟩
theorem modulo_any (A : Option Addr) (m cc : Nat) (P : List Int) (hP : Bts P) (hm : m ≤ 70368744177664) (hcc : m ≤ cc) (n : Nat) (hn : 0 < n) (w : World) (hr : Rd w w.heap.size A m (u8s P)) (hT : Tab w) :
    Calls Tryd.prog 29 #[.slice A m cc, .int .u64 (n : Int)] w fun e w' => e = .returned (.tuple #[.int .u64 ((wordL P % n : Nat) : Int), .int .i64 0]) ∧ Below w.heap.size w w' := by
  have C0 := Lib.hid (word_any A m cc P hP hm hcc w hr hT)
  have hn0 : ((n : Int) == 0) = false := by simp; omega
  have hn1 : ¬ (n : Int) = 0 := by omega
  have e : ((wordL P : Nat) : Int) % (n : Int) = ((wordL P % n : Nat) : Int) := by simp
  have e2 : ((wordL P : Nat) : Int).tmod (n : Int) = ((wordL P % n : Nat) : Int) := by rw [Int.tmod_eq_emod_of_nonneg (by omega)]; simp
  generalize ((wordL P % n : Nat) : Int) = r at *
  generalize ((wordL P : Nat) : Int) = x at *
  have he0 := e
  clear hr hT hP
  go_enter Tryd.func29, Tryd.ntmps29
  go_wp2_with (go_at_call 30; refine C0.out.mono ?_; rintro e w1 ⟨rfl, hb1⟩)
  go_ret2
  exact ⟨rfl, hb1⟩
end Go.Proofs.YtlgdbhebcglkoaaDoor
