/-
  What Made makes: labels that are well formed, each name once.
-/
import Derived.Test.YtlhekeokognhmaaGreatDoorLbS
import Derived.Test.YtlhekeokognhmaaGreatDoorLbU
namespace Go.Proofs.YtlhekeokognhmaaGreatDoor
open Go.RowKit Go.Shelf Go.Maps Go.Sort
def mkL (ps : List (Nat × Nat)) : List Lab := ps.foldl (fun out p => made1 out (madeL p)) []
theorem getD_mem {l : List ByteArray} {i : Nat} (h : i < l.length) (d : ByteArray) : l.getD i d ∈ l := by
  rw [List.getD_eq_getElem?_getD, List.getElem?_eq_getElem h]
  exact List.getElem_mem h
theorem madeL_ok (p : Nat × Nat) : wrE (madeL p) = 0 := by
  unfold wrE madeL
  dsimp only
  rw [if_pos (nms_ok _ (getD_mem (by show p.1 % 16 < 16; omega) _)), if_pos (vls_ok _ (getD_mem (by show p.2 % 8 < 8; omega) _))]
theorem madeL_name (p : Nat × Nat) : (madeL p).1 ∈ nms := getD_mem (by show p.1 % 16 < 16; omega) _
/-- A property of labels that each made one has. -/
theorem made_all {q : Lab → Prop} : ∀ (ps : List (Nat × Nat)) (out : List Lab), (∀ x ∈ out, q x) → (∀ p, q (madeL p)) → ∀ x ∈ ps.foldl (fun out p => made1 out (madeL p)) out, q x
  | [], _, h, _ => h
  | p :: ps, out, h, hq => by
    refine made_all ps _ ?_ hq
    intro x hx
    unfold made1 at hx
    rcases List.mem_append.1 hx with hx | hx
    · exact h x (List.mem_filter.1 hx).1
    · rw [List.mem_singleton.1 hx]
      exact hq p
/-- Names are there once. -/
def Once (L : List Lab) : Prop := L.Pairwise fun x y => x.1 ≠ y.1
theorem made_once : ∀ (ps : List (Nat × Nat)) (out : List Lab), Once out → Once (ps.foldl (fun out p => made1 out (madeL p)) out)
  | [], _, h => h
  | p :: ps, out, h => by
    refine made_once ps _ ?_
    unfold made1 Once
    refine List.pairwise_append.2 ⟨h.filter _, List.pairwise_singleton _ _, ?_⟩
    intro x hx y hy
    rw [List.mem_singleton.1 hy]
    have := (List.mem_filter.1 hx).2
    simpa using this
theorem mkL_once (ps : List (Nat × Nat)) : Once (mkL ps) := made_once ps [] List.Pairwise.nil
theorem mkL_ok (ps : List (Nat × Nat)) : ∀ x ∈ mkL ps, wrE x = 0 := made_all ps [] (fun _ h => by cases h) madeL_ok
theorem mkL_names (ps : List (Nat × Nat)) : ∀ x ∈ mkL ps, x.1 ∈ nms := made_all ps [] (fun _ h => by cases h) madeL_name
theorem fwE_ok : ∀ {L : List Lab}, (∀ x ∈ L, wrE x = 0) → fwE L = 0
  | [], _ => rfl
  | x :: L, h => by
    unfold fwE
    rw [if_pos (h x (List.mem_cons_self ..))]
    exact fwE_ok fun y hy => h y (List.mem_cons_of_mem _ hy)
/-- Distinct names, all among some, are no more than these. -/
theorem once_len : ∀ (N : List Str) (L : List Lab), Once L → (∀ x ∈ L, x.1.data.toList ∈ N) → L.length ≤ N.length
  | N, [], _, _ => Nat.zero_le _
  | N, x :: L, h, hN => by
    obtain ⟨h1, h2⟩ := List.pairwise_cons.1 h
    have hx := hN x (List.mem_cons_self ..)
    have h3 := once_len (N.erase x.1.data.toList) L h2 (fun y hy => (List.mem_erase_of_ne (fun e => h1 y hy (data_inj e.symm))).2 (hN y (List.mem_cons_of_mem _ hy)))
    rw [List.length_erase_of_mem hx] at h3
    have := List.length_pos_of_mem hx
    rw [List.length_cons]
    omega
theorem mkL_len (ps : List (Nat × Nat)) : (mkL ps).length ≤ 16 := once_len (nms.map fun s => s.data.toList) _ (mkL_once ps) (fun x hx => List.mem_map.2 ⟨x.1, mkL_names ps x hx, rfl⟩)
theorem fold_once : ∀ (L : List Lab) (acc : List Lab), Once (acc ++ L) → (L.map keyL).foldl addKey (acc.map keyL) = (acc ++ L).map keyL
  | [], acc, _ => by simp
  | x :: L, acc, h => by
    have h2 : Once ((acc ++ [x]) ++ L) := by rw [List.append_assoc]; exact h
    rw [List.map_cons, List.foldl_cons]
    have hk : addKey (acc.map keyL) (keyL x) = (acc ++ [x]).map keyL := by
      unfold addKey
      rw [if_neg]
      · simp
      · intro e
        obtain ⟨y, hy, e⟩ := List.any_eq_true.1 e
        obtain ⟨z, hz, rfl⟩ := List.mem_map.1 hy
        have hne : z.1 ≠ x.1 := (List.pairwise_append.1 h).2.2 z hz x (List.mem_cons_self ..)
        apply hne
        apply data_inj
        simpa [keyL, Lit.sameKey] using e
    rw [hk, fold_once L (acc ++ [x]) h2, List.append_assoc]
    rfl
theorem once_tw {L : List Lab} (h : Once L) : twB L = false := by
  unfold twB
  have := fold_once L [] h
  rw [List.map_nil] at this
  rw [this]
  simp
/-- What Made makes, Of takes, and what comes out is right. -/
theorem mkL_right (ps : List (Nat × Nat)) : rgtB ((puts [] ((mkL ps).map lb)).map bl) = true :=
  made_right (fwE_ok (mkL_ok ps)) (by
    have h1 := puts_len [] ((mkL ps).map lb)
    have h2 := mkL_len ps
    rw [List.length_map, List.length_nil] at h1
    omega)
end Go.Proofs.YtlhekeokognhmaaGreatDoor
