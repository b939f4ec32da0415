/-
  Write of a digest that is there: words on its blocks.
-/
import Derived.Test.YtlgdbhebcglkoaaDoorMdZ3
import Derived.Test.YtlgdbhebcglkoaaDoorMdZ5
import Derived.Test.YtlgdbhebcglkoaaDoorHeldIn
namespace Go.Proofs.YtlgdbhebcglkoaaDoor
open Go.RowKit Go.Shelf
theorem setRow_cell_other (w : World) (g : Nat) (cs : Array Value) (p : Addr) (h : p.block ≠ g) : (w.setRow g cs).cell? p = w.cell? p := by
  unfold World.cell?
  rw [setRow_other _ _ _ _ h]
theorem range_row0 {w : World} {g : Nat} {L : List Value} {t : TypeId} {fr : Nat × Nat} (h : w.heap[g]? = some (.cells L.toArray t fr)) : w.rangeAt g 0 L := fun j v hv => by
  rw [cell_of_row _ _ _ _ _ _ h]
  simpa using hv
theorem splice_state (s s2 : St) (R : List Int) (n : Nat) : splice (dcells s R n) 0 [V s2.1, V s2.2.1, V s2.2.2.1, V s2.2.2.2] = dcells s2 R n := by
  simp [splice, dcells]
theorem splice_rest (s : St) (R X : List Int) (n : Nat) (hR : R.length = 64) (hX : X.length = 64) : splice (dcells s R n) 4 (u8s X) = dcells s X n := by
  have h1 : (dcells s R n).take 4 = [V s.1, V s.2.1, V s.2.2.1, V s.2.2.2] := by simp [dcells]
  have h2 : (dcells s R n).drop (4 + (u8s X).length) = [.int .i64 (n : Int)] := by
    unfold dcells
    rw [List.drop_append_of_le_length (by simp [u8s_length, hR, hX]), List.drop_of_length_le (by simp [u8s_length, hR, hX])]
    rfl
  unfold splice
  rw [h1, h2]
  rfl
theorem dcells_setLen (s : St) (R : List Int) (n k : Nat) (hR : R.length = 64) : (dcells s R n).toArray.setIfInBounds 68 (.int .i64 (k : Int)) = (dcells s R k).toArray := by
  apply Array.toList_inj.1
  rw [Array.toList_setIfInBounds]
  show (dcells s R n).set 68 _ = dcells s R k
  unfold dcells
  rw [List.set_append_right _ _ (by simp [u8s_length, hR])]
  simp [u8s_length, hR]
theorem kV_size : kV.size = 64 := by simp [kV]
theorem rV_size : rV.size = 16 := by simp [rV]
/-- The tables stay where nothing but a digest turns. -/
theorem tab_but {g n : Nat} {s : St} {R : List Int} {w W : World} (hT : Tab w) (h : DAt g s R n w) (hk : ∀ k, k ≠ g → k < w.heap.size → W.heap[k]? = w.heap[k]?) : Tab W := by
  obtain ⟨⟨t1, f1, h1⟩, ⟨t2, f2, h2⟩⟩ := hT
  have hl := dcells_length s R n h.2
  refine ⟨⟨t1, f1, (hk _ (fun e => ?_) (heap_lt h1)).trans h1⟩, ⟨t2, f2, (hk _ (fun e => ?_) (heap_lt h2)).trans h2⟩⟩
  · rw [e, h.1] at h1
    injection h1 with h1
    injection h1 with h1
    have := congrArg Array.size h1
    rw [kV_size, List.size_toArray, hl] at this
    omega
  · rw [e, h.1] at h2
    injection h2 with h2
    injection h2 with h2
    have := congrArg Array.size h2
    rw [rV_size, List.size_toArray, hl] at this
    omega
/-- What holds before each round: block g is what the blocks so far made of the digest, all else that was there is as it was. -/
def WInv (g n b0 : Nat) (c0 : St × List Int) (w : World) (pre : List (List Int × Nat)) (W : World) : Prop :=
  (DAt g (foldD c0 pre).1 (foldD c0 pre).2 n W ∧ W.heap[b0]? = some (.cells #[.pointer (some ⟨g, 0, none⟩)] 33 (0, 0))) ∧ Below g w W ∧ ∀ k, k ≠ g → k < w.heap.size → W.heap[k]? = w.heap[k]?
theorem WInv.abd {g n b0 : Nat} {c0 : St × List Int} {w : World} {B : Nat} (hg : g < w.heap.size) (hb : b0 < B) (hB : w.heap.size ≤ B) : Abd B (WInv g n b0 c0 w) := by
  intro pre X Y row ⟨⟨hD, hc⟩, hb', hk⟩ hgr hr
  have key : ∀ k, k < B → k < X.heap.size → Y.heap[k]? = X.heap[k]? := fun k hk hk' => hgr.block k hk' (fun e => by have := hr _ e.symm; omega)
  refine ⟨⟨⟨(key g (by omega) (heap_lt hD.1)).trans hD.1, hD.2⟩, (key b0 hb (heap_lt hc)).trans hc⟩, hb'.grown hgr (Nat.le_trans (by omega) hb'.size) (fun k e => Nat.le_trans (by omega) (hr k e)), fun k hkg hkw => (key k (by omega) (Nat.lt_of_lt_of_le hkw hb'.size)).trans (hk k hkg hkw)⟩
/-- A block of one's own, laid behind all. -/
theorem WInv.below {g n b0 : Nat} {c0 : St × List Int} {w W W' : World} {pre : List (List Int × Nat)} (h : WInv g n b0 c0 w pre W) (hb : Below W.heap.size W W') (hg : g ≤ w.heap.size) : WInv g n b0 c0 w pre W' := by
  obtain ⟨⟨hD, hc⟩, hb', hk⟩ := h
  have key : ∀ k, k < W.heap.size → W'.heap[k]? = W.heap[k]? := fun k hk => hb.block k hk
  exact ⟨⟨⟨(key g (heap_lt hD.1)).trans hD.1, hD.2⟩, (key b0 (heap_lt hc)).trans hc⟩, hb'.trans (hb.mono (Nat.le_trans hg hb'.size)), fun k hkg hkw => (key k (Nat.lt_of_lt_of_le hkw hb'.size)).trans (hk k hkg hkw)⟩
/-- The digest's own block, turned. -/
theorem WInv.turned {g n b0 : Nat} {c0 : St × List Int} {w W : World} {pre : List (List Int × Nat)} {x : List Int × Nat} (h : WInv g n b0 c0 w pre W) (hne : b0 ≠ g) (cs : List Value) (hcs : cs = dcells (updD (foldD c0 pre) x).1 (updD (foldD c0 pre) x).2 n) (hl : (updD (foldD c0 pre) x).2.length = 64) : WInv g n b0 c0 w (pre ++ [x]) (W.setRow g cs.toArray) := by
  obtain ⟨⟨hD, hc⟩, hb', hk⟩ := h
  refine ⟨⟨⟨?_, ?_⟩, (setRow_other _ _ _ _ hne).trans hc⟩, below_setRow hb' (Nat.le_refl _) _, fun k hkg hkw => (setRow_other _ _ _ _ hkg).trans (hk k hkg hkw)⟩
  · rw [foldD_snoc, ← hcs]
    exact setRow_heap _ _ _ _ _ _ hD.1
  · rw [foldD_snoc]
    exact hl
end Go.Proofs.YtlgdbhebcglkoaaDoor
