/-
  Digests that are there: New, Len, none.
-/
import Derived.Test.YtlgdbhebcglkoaaDoorMdY
namespace Go.Proofs.YtlgdbhebcglkoaaDoor
open Go.RowKit Go.Shelf
/-- The cells of a digest: its state, its rest, its length. -/
def dcells (s : St) (R : List Int) (n : Nat) : List Value := ([V s.1, V s.2.1, V s.2.2.1, V s.2.2.2] ++ u8s R) ++ [.int .i64 (n : Int)]
theorem dcells_length (s : St) (R : List Int) (n : Nat) (hR : R.length = 64) : (dcells s R n).length = 69 := by simp [dcells, u8s_length, hR]
theorem dcells_state (s : St) (R : List Int) (n : Nat) : (dcells s R n)[0]? = some (V s.1) ∧ (dcells s R n)[1]? = some (V s.2.1) ∧ (dcells s R n)[2]? = some (V s.2.2.1) ∧ (dcells s R n)[3]? = some (V s.2.2.2) := ⟨rfl, rfl, rfl, rfl⟩
theorem dcells_len (s : St) (R : List Int) (n : Nat) (hR : R.length = 64) : (dcells s R n)[68]? = some (.int .i64 (n : Int)) := by
  unfold dcells
  rw [List.getElem?_append_right (by simp [u8s_length, hR])]
  simp [u8s_length, hR]
theorem dcells_rest (s : St) (R : List Int) (n j : Nat) (hR : R.length = 64) (hj : j < 64) : (dcells s R n)[4 + j]? = some (.int .u8 (R.getD j 0)) := by
  unfold dcells
  rw [List.getElem?_append_left (by simp [u8s_length, hR]; omega), List.getElem?_append_right (by simp)]
  simp only [List.length_cons, List.length_nil]
  rw [show 4 + j - (0 + 1 + 1 + 1 + 1) = j from by omega]
  exact u8s_get R j (by omega)
/-- Block g is a digest of these. -/
def DAt (g : Nat) (s : St) (R : List Int) (n : Nat) (w : World) : Prop := w.heap[g]? = some (.cells (dcells s R n).toArray 50 (0, 0)) ∧ R.length = 64
section
variable {g n : Nat} {s : St} {R : List Int} {w w' : World}
theorem DAt.kept (h : DAt g s R n w) (k : Kept w w') : DAt g s R n w' := ⟨heap_kept k h.1, h.2⟩
theorem DAt.c (h : DAt g s R n w) (j : Nat) (v : Value) (hv : (dcells s R n)[j]? = some v) : w.cell? ⟨g, j, none⟩ = some v := by
  rw [cell_of_row _ _ _ _ _ _ h.1]
  simpa using hv
/-- There is a digest: it has bytes, or the first state. -/
theorem none_no (h : DAt g s R n w) (hs : n = 0 → s ≠ stZ) : Calls Tryd.prog 37 #[.pointer (some ⟨g, 0, none⟩)] w fun e w' => e = .returned (.bool false) ∧ w = w' := by
  have h68 := h.c 68 _ (dcells_len s R n h.2)
  have h0 := h.c 0 _ (dcells_state s R n).1
  have h1 := h.c 1 _ (dcells_state s R n).2.1
  have h2 := h.c 2 _ (dcells_state s R n).2.2.1
  have h3 := h.c 3 _ (dcells_state s R n).2.2.2
  by_cases hn : n = 0
  · subst hn
    have hst := hs rfl
    obtain ⟨a, b, c, d⟩ := s
    have heq : ∀ W, (Op.equalIn 10000 24 (.agg #[V a, V b, V c, V d]) (.agg #[.int .u32 0, .int .u32 0, .int .u32 0, .int .u32 0])).run Tryd.prog W = .ok false W := fun W => by
      have h := eq_state (a, b, c, d) stZ W
      rw [decide_eq_false hst] at h
      exact h
    clear h hs hst
    go_enter Tryd.func37, Tryd.ntmps37
    go_wp2_with fail
    go_ret
    exact ⟨rfl, rfl⟩
  · have hn0 : ((n : Int) == 0) = false := by simp; omega
    clear h hs
    go_enter Tryd.func37, Tryd.ntmps37
    go_wp2_with fail
    go_ret
    exact ⟨rfl, rfl⟩
theorem len_any (h : DAt g s R n w) (hs : n = 0 → s ≠ stZ) : Calls Tryd.prog 22 #[.pointer (some ⟨g, 0, none⟩)] w fun e w' => e = .returned (.int .i64 (n : Int)) ∧ w = w' := by
  have h68 := h.c 68 _ (dcells_len s R n h.2)
  have C := Lib.hid (none_no h hs)
  clear h hs
  go_enter Tryd.func22, Tryd.ntmps22
  go_wp2_with (go_at_call 37; refine C.out.mono ?_; rintro e w1 ⟨rfl, rfl⟩)
  go_ret
  exact ⟨rfl, rfl⟩
end
theorem new_any (w : World) : Calls Tryd.prog 17 #[] w fun e w' => ∃ g, e = .returned (.pointer (some ⟨g, 0, none⟩)) ∧ w.heap.size ≤ g ∧ DAt g st0 (List.replicate 64 0) 0 w' ∧ Kept w w' := by
  have hzr := zrun
  have hzs : z69.size = 69 := by decide
  have CSt : Hid (∀ W, Calls Tryd.prog 26 #[] W fun e w' => e = .returned (.agg #[.int .u32 1732584193, .int .u32 4023233417, .int .u32 2562383102, .int .u32 271733878]) ∧ Kept W w') := fun W => start_any W
  go_enter Tryd.func17, Tryd.ntmps17
  go_wp2_with (go_at_call 26; refine (CSt.out _).mono ?_; rintro e w1 ⟨rfl, k1⟩; have K1 := Lib.hid k1; clear k1)
  have hrow : ((((z69.setIfInBounds 0 (Value.int .u32 1732584193)).setIfInBounds 1 (Value.int .u32 4023233417)).setIfInBounds 2 (Value.int .u32 2562383102)).setIfInBounds 3 (Value.int .u32 271733878)) = (dcells st0 (List.replicate 64 0) 0).toArray := by kernel_rfl
  rw [hrow]
  go_ret
  exact ⟨_, rfl, K1.out.size, ⟨heap_alloc_new w1 _, by simp⟩, below_alloc0 K1.out _⟩
section
variable {g n : Nat} {s : St} {R : List Int} {w : World}
/-- The bytes behind the full blocks, where they lie. -/
theorem open_any (h : DAt g s R n w) (hn : n ≤ 1099511627776) : Calls Tryd.prog 39 #[.pointer (some ⟨g, 0, none⟩)] w fun e w' => e = .returned (.slice (some ⟨g, 4, none⟩) (n % 64) 64) ∧ w.heap = w'.heap ∧ Kept w w' := by
  have h68 := h.c 68 _ (dcells_len s R n h.2)
  obtain ⟨r, hr⟩ : ∃ r, n % 64 = r := ⟨_, rfl⟩
  have hr1 : (n : Int) % 64 = (r : Int) := by omega
  have hr2 : (n : Int).tmod 64 = (r : Int) := by rw [Int.tmod_eq_emod_of_nonneg (by omega)]; exact hr1
  have hr3 : (r : Int) ≤ 64 := by omega
  have hr4 : (0 : Int) ≤ (r : Int) := by omega
  have Hr := Lib.hid hr
  clear h hr
  go_enter Tryd.func39, Tryd.ntmps39
  go_wp2_with fail
  go_quiet (fail)
  go_wp2_with fail
  go_ret
  exact ⟨by rw [Hr.out]; rfl, rfl, below_drewN (Below.refl _ w) nq⟩
theorem dcells_one (s : St) (R : List Int) (n : Nat) : ∀ v ∈ dcells s R n, v.oneCell' = true := by
  intro v hv
  unfold dcells at hv
  rcases List.mem_append.1 hv with h | h
  · rcases List.mem_append.1 h with h | h
    · simp at h
      rcases h with rfl | rfl | rfl | rfl <;> rfl
    · exact u8s_one R v h
  · rw [List.mem_singleton.1 h]
    rfl
theorem size69 : (Tryd.prog.info? 50).map (·.size) = some 69 := by kernel_rfl
/-- Reset of a digest that is there. -/
theorem reset_any (h : DAt g s R n w) (hs : n = 0 → s ≠ stZ) : Calls Tryd.prog 18 #[.pointer (some ⟨g, 0, none⟩)] w fun e w' => e = .returned (.int .i64 0) ∧ DAt g st0 (List.replicate 64 0) 0 w' ∧ Below g w w' ∧ (∀ k, k ≠ g → k < w.heap.size → w'.heap[k]? = w.heap[k]?) := by
  have hzr := zrun
  have hzs : z69.size = 69 := by decide
  have CSt : Hid (∀ W, Calls Tryd.prog 26 #[] W fun e w' => e = .returned (.agg #[.int .u32 1732584193, .int .u32 4023233417, .int .u32 2562383102, .int .u32 271733878]) ∧ Kept W w') := fun W => start_any W
  have hrow : ((((z69.setIfInBounds 0 (Value.int .u32 1732584193)).setIfInBounds 1 (Value.int .u32 4023233417)).setIfInBounds 2 (Value.int .u32 2562383102)).setIfInBounds 3 (Value.int .u32 271733878)) = (dcells st0 (List.replicate 64 0) 0).toArray := by kernel_rfl
  have C := Lib.hid (none_no h hs)
  have H := Lib.hid h
  have Hrow := Lib.hid hrow
  have hlt : g < w.heap.size := heap_lt h.1
  have hdl := dcells_length st0 (List.replicate 64 0) 0 (by simp)
  have hol := dcells_length s R n h.2
  have Hsz : Hid ((Tryd.prog.info? 50).map (·.size) = some (dcells st0 (List.replicate 64 0) 0).length) := by show _ = _; rw [hdl]; exact size69
  have Hone := Lib.hid (dcells_one st0 (List.replicate 64 0) 0)
  generalize hD : dcells st0 (List.replicate 64 0) 0 = D at *
  have HD := Lib.hid hD
  have Hdl := Lib.hid hdl
  have Hol := Lib.hid hol
  clear h hs hrow hdl hol hD
  go_enter Tryd.func18, Tryd.ntmps18
  go_wp2_with (first
    | (go_at_call 37; refine C.out.mono ?_; rintro e w1 ⟨rfl, rfl⟩)
    | (go_at_call 26; refine (CSt.out _).mono ?_; rintro e w1 ⟨rfl, k1⟩; have K1 := Lib.hid k1; clear k1)
    | (refine wpList_store_at rfl 50 (.tmp 8) (.tmp 7) rfl g 0 D rfl ?c1 50 (dcells s R n) (heap_kept K1.out H.out.1) Hsz.out ?c2 Hone.out ?_; (case c1 => exact congrArg Value.agg Hrow.out); (case c2 => rw [Hdl.out, Hol.out]; exact Nat.le_refl _)))
  rw [splice_all _ _ (by rw [Hdl.out, Hol.out])]
  go_ret
  refine ⟨rfl, ⟨by rw [HD.out]; exact setRow_heap _ _ _ _ _ _ (heap_kept K1.out H.out.1), by simp⟩, below_setRow (Below.mono K1.out (Nat.le_of_lt hlt)) (Nat.le_refl _) _, fun k hk hkw => ?_⟩
  rw [setRow_other _ _ _ _ hk]
  exact Below.block K1.out k hkw
end
end Go.Proofs.YtlgdbhebcglkoaaDoor
