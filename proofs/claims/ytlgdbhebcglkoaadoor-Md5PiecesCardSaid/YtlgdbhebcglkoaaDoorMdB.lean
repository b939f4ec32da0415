/-
  What words of package md5 computes.
-/
import Derived.Test.YtlgdbhebcglkoaaDoorMdM
import Derived.Test.YtlgdbhebcglkoaaDoorWords
import Derived.Laws.Shifts
namespace Go.Proofs.YtlgdbhebcglkoaaDoor
open Go.RowKit
/-- A byte of an array of bytes. -/
theorem run_idx_agg {P : Program} (t e : TypeId) (n : Nat) (i0 : TypeInfo) (d : TypeDesc) (ht : P.underlying t = some (.array n e)) (he : P.underlying e = some d) (hd : (match d with | .struct _ | .array _ _ => true | _ => false) = false)
    (hi : P.info? e = some i0) (hs : i0.size = 1) (cs : Array Value) (k : Nat) (hk : k < n) (v : Value) (hv : cs[k]? = some v) (W : World) :
    (Instr.index t (.agg cs) (.int .i64 (k : Int))).run P W = .ok v W := by
  have hagg : (isAgg e).run P W = .ok false W := by
    unfold isAgg
    rw [Sem.run_bind, run_underlying he W]
    cases d <;> simp_all
  have hin : (0 ≤ (k : Int) ∧ (k : Int) < (n : Int)) := ⟨by omega, by omega⟩
  simp [Instr.index, run_underlying ht, asIntOf, hin, part, Sem.run_bind, hagg, sizeOf, typeInfo, hi, hs, hv]
  intro h
  omega
theorem info_u8 : ∃ i, Tryd.prog.info? 5 = some i ∧ i.size = 1 := by
  have h : (Tryd.prog.info? 5).map (·.size) = some 1 := by kernel_rfl
  rcases hi : Tryd.prog.info? 5 with _ | i
  · rw [hi] at h; cases h
  · rw [hi] at h; exact ⟨i, rfl, Option.some.inj h⟩
theorem size64 : (Tryd.prog.info? 48).map (·.size) = some 64 := by kernel_rfl
theorem halloc {w : World} {g : Nat} {x : Obj} (o : Obj) (h : w.heap[g]? = some x) : (w.alloc o).heap[g]? = some x := (Below.heap_alloc w o g (Array.getElem?_eq_some_iff.1 h).1).trans h
/-- The row of words after k bytes. -/
def mrow (l : List Int) (k : Nat) : List Value := (List.range 16).map fun j => .int .u32 (wdN l j (min 4 (k - 4 * j)) : Int)
theorem mrow_zero (l : List Int) : #[Value.int .u32 0, .int .u32 0, .int .u32 0, .int .u32 0, .int .u32 0, .int .u32 0, .int .u32 0, .int .u32 0, .int .u32 0, .int .u32 0, .int .u32 0, .int .u32 0, .int .u32 0, .int .u32 0, .int .u32 0, .int .u32 0] = (mrow l 0).toArray := by
  unfold mrow
  simp only [Nat.zero_sub, Nat.min_zero, wdN_zero]
  rfl
theorem hnew {w : World} {g : Nat} (o : Obj) (h : g = w.heap.size) : (w.alloc o).heap[g]? = some o := by subst h; exact heap_alloc_new w o
theorem mrow_succ (l : List Int) (k q r o : Nat) (hk : k < 64) (hq : k / 4 = q) (hr : k % 4 = r) (ho : o = wdN l q (r + 1)) :
    ((mrow l k).toArray.setIfInBounds q (.int .u32 (o : Int))) = (mrow l (k + 1)).toArray := by
  apply Array.ext_getElem?
  intro j
  rw [Array.getElem?_setIfInBounds, List.getElem?_toArray, List.getElem?_toArray]
  have hs : (mrow l k).toArray.size = 16 := by simp [mrow]
  rw [hs]
  by_cases hj : j < 16
  · simp only [mrow, List.getElem?_map, List.getElem?_range hj, Option.map_some]
    by_cases hjq : q = j
    · subst hjq
      rw [if_pos rfl, if_pos hj, ho, show min 4 (k + 1 - 4 * q) = r + 1 from by omega]
    · rw [if_neg hjq, show min 4 (k + 1 - 4 * j) = min 4 (k - 4 * j) from by omega]
  · have e : ∀ k, (mrow l k)[j]? = none := fun k => by rw [List.getElem?_eq_none]; simp [mrow]; omega
    rw [e, e]
    split
    · rename_i h
      rw [if_neg (by omega)]
    · rfl
theorem wdN_or (l : List Int) (hb : Bts l) (q r : Nat) (hr : r < 4) (o : Nat) (x : Int) (ho : o = wdN l q r) (hx : x = l.getD (4 * q + r) 0) :
    bits .or .u32 (o : Int) (x * 2 ^ (8 * r) % 4294967296) = (wdN l q (r + 1) : Int) := by
  have h1 := wdN_lt l hb q r
  have h2 := hb.getD (4 * q + r)
  rw [← hx] at h2
  rw [wdN_succ, ← ho, ← hx]
  rw [← ho] at h1
  obtain ⟨n, rfl⟩ := Int.eq_ofNat_of_zero_le h2.1
  have hp : 256 ^ r = 2 ^ (8 * r) := by rw [Nat.pow_mul]
  have hm : n * 2 ^ (8 * r) < 4294967296 := by
    have h3 : n * 2 ^ (8 * r) ≤ 255 * 2 ^ (8 * r) := Nat.mul_le_mul_right _ (by omega)
    have h4 : 2 ^ (8 * r) ≤ 2 ^ 24 := Nat.pow_le_pow_right (by omega) (by omega)
    omega
  have e : (n : Int) * 2 ^ (8 * r) % 4294967296 = ((n * 2 ^ (8 * r) : Nat) : Int) := by
    have : ((n * 2 ^ (8 * r) : Nat) : Int) = (n : Int) * 2 ^ (8 * r) := by simp
    rw [← this]
    omega
  have h5 : 2 ^ (8 * r) ≤ 2 ^ 24 := Nat.pow_le_pow_right (by omega) (by omega)
  rw [hp] at h1
  rw [e, u32_or_nat _ _ (by omega) hm, hp, Int.toNat_natCast, Nat.or_comm, nat_join (8 * r) _ _ (Nat.mul_mod_left _ _) h1, Nat.add_comm]
theorem size16w : (Tryd.prog.info? 88).map (·.size) = some 16 := by kernel_rfl
theorem mrow_size (l : List Int) (k : Nat) : (mrow l k).toArray.size = 16 := by simp [mrow]
theorem mrow_one (l : List Int) (k : Nat) : (mrow l k).toArray.all (·.oneCell') = true := by
  simp [mrow, Value.oneCell']
set_option maxRecDepth 100000 in
set_option maxHeartbeats 2000000 in
theorem words_any (l : List Int) (hl : l.length = 64) (hb : Bts l) (w : World) :
    Calls Tryd.prog 47 #[.agg (u8s l).toArray] w fun e w' => e = .returned (.agg (mrow l 64).toArray) ∧ Below w.heap.size w w' := by
  have hsz : (Tryd.prog.info? 48).map (·.size) = some (u8s l).toArray.size := by rw [size64]; simp [u8s_length, hl]
  obtain ⟨i0, hi0, hi1⟩ := info_u8
  have hlu : (u8s l).length = 64 := by rw [u8s_length, hl]
  have hidx : ∀ k : Nat, k < 64 → ∀ W, (Instr.index 48 (.agg (u8s l).toArray) (.int .i64 (k : Int))).run Tryd.prog W = .ok (.int .u8 (l.getD k 0)) W := fun k hk W =>
    run_idx_agg 48 5 64 i0 _ Tryd.underlying48 Tryd.underlying5 rfl hi0 hi1 _ k hk _ (by rw [List.getElem?_toArray]; exact u8s_get l k (by omega)) W
  have Hidx := Lib.hid hidx
  clear hidx
  obtain ⟨L, hL⟩ : ∃ L, L = (u8s l).toArray := ⟨_, rfl⟩
  rw [← hL] at hsz ⊢
  have Hsz := Lib.hid hsz
  have HL := Lib.hid hL
  clear hsz hL hlu
  go_enter Tryd.func47, Tryd.ntmps47
  go_wp2_with ((refine wpList_load_row ?c0 48 (.tmp 1) ?c1 w.heap.size ?c2 48 L (0, 0) _ (halloc _ (halloc _ (heap_alloc_new w _))) Tryd.underlying48 ?c3 Hsz.out ?_); (case c0 => with_reducible rfl); (case c1 => with_reducible rfl); (case c2 => rfl); (case c3 => rfl))
  go_loopw [7] (fun i wr => ∃ k : Nat, k ≤ 64 ∧ i = .int .i64 k ∧ Below w.heap.size w wr ∧ Hid (wr.heap[w.heap.size + 1 + 1]? = some (.cells (mrow l k).toArray 88 (0, 0))) ∧ Hid (wr.heap[w.heap.size + 1]? = some (.cells (mrow l 0).toArray 88 (0, 0)))) (fun i _ => 64 - (intOf i).toNat)
  case atStart =>
    refine ⟨0, by omega, rfl, (((Below.refl _ w).alloc (Nat.le_refl _) _).alloc (by simp) _).alloc (by simp; omega) _, ?_, ?_⟩
    · show _ = _
      rw [← mrow_zero]
      exact hnew _ (by simp)
    · show _ = _
      rw [← mrow_zero]
      exact halloc _ (hnew _ (by simp))
  case round =>
    obtain ⟨k, hk, rfl, hB, hm, hz⟩ := hrel
    by_cases hk64 : k < 64
    · obtain ⟨x, hx⟩ : ∃ x, x = l.getD k 0 := ⟨_, rfl⟩
      have hix := Hidx.out k hk64
      rw [← HL.out, ← hx] at hix
      have hxb := hb.getD k
      rw [← hx] at hxb
      obtain ⟨x0, x1⟩ := hxb
      obtain ⟨q, hq⟩ : ∃ q, k / 4 = q := ⟨_, rfl⟩
      obtain ⟨r, hr⟩ : ∃ r, k % 4 = r := ⟨_, rfl⟩
      have hq1 : (k : Int) / 4 = (q : Int) := by omega
      have hr1 : (k : Int) % 4 = (r : Int) := by omega
      have hq16 : q < 16 := by omega
      have hr4 : r < 4 := by omega
      have hkr : k = 4 * q + r := by omega
      obtain ⟨o, ho⟩ : ∃ o, o = wdN l q r := ⟨_, rfl⟩
      have hcell : wr.cell? ⟨w.heap.size + 1 + 1, q, none⟩ = some (.int .u32 (o : Int)) := by
        rw [cell_of_row _ _ _ _ _ _ hm.out]
        simp [mrow, hq16, ho]
        rw [show min 4 (k - 4 * q) = r from by omega]
      have hfro : wr.frozen? ⟨w.heap.size + 1 + 1, q, none⟩ = false := by simp [World.frozen?, hm.out]
      have hor := wdN_or l hb q r hr4 o x ho (by rw [hx, hkr])
      obtain ⟨o', ho'⟩ : ∃ o', o' = wdN l q (r + 1) := ⟨_, rfl⟩
      rw [← ho'] at hor
      have Hs := Lib.hid (mrow_succ l k q r o' hk64 hq hr ho')
      clear hx ho hr hq hkr ho'
      go_wp2_with fail
      go_region
      go_wp2_with fail
      go_roundw
      case rel =>
        refine ⟨k + 1, by omega, by go_num, (hB.setCell (p := ⟨w.heap.size + 1 + 1, q, none⟩) (by show w.heap.size ≤ w.heap.size + 1 + 1; omega) _).drew, ?_, ?_⟩
        · show _ = _
          rw [← Hs.out]
          exact heap_setCell_same _ _ _ _ _ _ hm.out
        · show _ = _
          rw [show ∀ W : World, W.drew.heap = W.heap from fun _ => rfl, heap_setCell_other _ _ _ _ (by show w.heap.size + 1 ≠ w.heap.size + 1 + 1; omega)]
          exact hz.out
      case measure => simp [intOf]; omega
    · obtain rfl : k = 64 := by omega
      go_wp2_with (first | ((refine wpList_load_row ?c0 88 (.tmp 3) ?c1 (w.heap.size + 1 + 1) ?c2 88 (mrow l 64).toArray (0, 0) _ hm.out Tryd.underlying88 ?c3 (by rw [size16w, mrow_size]) ?_); (case c0 => with_reducible rfl); (case c1 => with_reducible rfl); (case c2 => rfl); (case c3 => rfl)) | ((refine wpList_store_row ?c0 88 (.tmp 2) (.tmp 24) ?c1 (w.heap.size + 1) (mrow l 64).toArray ?c2 ?c3 _ _ hz.out ?c4 ?c5 ?c6 ?_); (case c0 => with_reducible rfl); (case c1 => with_reducible rfl); (case c2 => rfl); (case c3 => rfl); (case c4 => exact (by rw [size16w, mrow_size])); (case c5 => rw [mrow_size, mrow_size]); (case c6 => exact mrow_one _ _)))
      exact bodyPost_ret (results_cell_row Tryd.results47 _ _ (w.heap.size + 1) _ (mrow l 64).toArray (0, 0) _ rfl (setRow_heap _ _ _ _ _ _ hz.out) Tryd.underlying88 rfl (by rw [size16w, mrow_size])) rfl ⟨rfl, below_setRow hB (by omega) _⟩
theorem mrow_get (l : List Int) (hb : Bts l) (j : Nat) (hj : j < 16) : (mrow l 64)[j]? = some (V (wd l j)) := by
  simp [mrow, hj]
  rw [show min 4 (64 - 4 * j) = 4 from by omega, wd_toNat l hb]
end Go.Proofs.YtlgdbhebcglkoaaDoor
