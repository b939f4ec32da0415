/-
  Labels in order, with values, are right; right labels are in order. How labels compare, in plain words.
-/
import Derived.Test.YtlhekeokognhmaaGreatDoorLbQ
import Derived.Sort.Walk0
namespace Go.Proofs.YtlhekeokognhmaaGreatDoor
open Go.RowKit Go.Shelf Go.Maps Go.Sort
theorem less_is (a b : ByteArray) : Op.bytesLess a.toList b.toList = decide (a.data.toList < b.data.toList) := by
  rw [Lib.toList_data, Lib.toList_data]
  exact bytesLess_eq _ _
theorem data_inj {a b : ByteArray} (h : a.data.toList = b.data.toList) : a = b := ByteArray.ext (Array.toList_inj.1 h)
theorem leS_is (a b : ByteArray) : leS a b = true ↔ a.data.toList < b.data.toList ∨ a = b := by
  unfold leS
  rw [Bool.or_eq_true, less_is, decide_eq_true_eq, str_beq, decide_eq_true_eq]
theorem ord_ok {p : Option ByteArray} {x : Lab} (h : wrE x = 0) (hx : x.2 ≠ ⟨#[]⟩) (hp : ∀ y, p = some y → y.data.toList < x.1.data.toList) : ordE p x = 0 := by
  unfold ordE
  rw [if_pos h, if_neg]
  rintro (e | ⟨y, e, hl⟩)
  · exact hx e
  · rcases (leS_is _ _).1 hl with h2 | h2
    · exact str_lt_irrefl _ (str_lt_trans (hp y e) h2)
    · have := hp y e
      rw [h2] at this
      exact str_lt_irrefl _ this
theorem ord_lt {p : Option ByteArray} {x : Lab} (h : ordE p x = 0) : ∀ y, p = some y → y.data.toList < x.1.data.toList := by
  intro y hy
  unfold ordE at h
  split at h
  · split at h
    · cases h
    · rename_i h2
      rcases str_tri y.data.toList x.1.data.toList with h3 | h3 | h3
      · exact h3
      · exact absurd (.inr ⟨y, hy, (leS_is _ _).2 (.inr (data_inj h3.symm))⟩) h2
      · exact absurd (.inr ⟨y, hy, (leS_is _ _).2 (.inl h3)⟩) h2
  · rename_i h2
    exact absurd h h2
theorem chk_srt : ∀ (i : Nat) (p : Option ByteArray) (L : List Lab), (∀ y, p = some y → ∀ x ∈ L, y.data.toList < x.1.data.toList) → (L.Pairwise fun a b => a.1.data.toList < b.1.data.toList) → (∀ x ∈ L, wrE x = 0 ∧ x.2 ≠ ⟨#[]⟩) → (chkFrom i p L).2 = 0
  | _, _, [], _, _, _ => rfl
  | i, p, x :: L, hp, hs, hw => by
    obtain ⟨h1, h2⟩ := List.pairwise_cons.1 hs
    have hx := hw x (List.mem_cons_self ..)
    unfold chkFrom
    rw [if_pos (ord_ok hx.1 hx.2 fun y e => hp y e x (List.mem_cons_self ..))]
    exact chk_srt (i + 1) (some x.1) L (fun y e z hz => by cases e; exact h1 z hz) h2 (fun z hz => hw z (List.mem_cons_of_mem _ hz))
theorem srt_chk : ∀ (i : Nat) (p : Option ByteArray) (L : List Lab), (chkFrom i p L).2 = 0 → (L.Pairwise fun a b => a.1.data.toList < b.1.data.toList) ∧ ∀ y, p = some y → ∀ x ∈ L, y.data.toList < x.1.data.toList
  | _, _, [], _ => ⟨List.Pairwise.nil, fun _ _ _ h => by cases h⟩
  | i, p, x :: L, h => by
    unfold chkFrom at h
    split at h
    · rename_i h0
      obtain ⟨h1, h2⟩ := srt_chk (i + 1) (some x.1) L h
      have hx := h2 x.1 rfl
      refine ⟨List.pairwise_cons.2 ⟨fun z hz => hx z hz, h1⟩, fun y e z hz => ?_⟩
      rcases List.mem_cons.1 hz with rfl | hz
      · exact ord_lt h0 y e
      · exact str_lt_trans (ord_lt h0 y e) (hx z hz)
    · rename_i h0
      exact absurd h h0
/-- Labels are right if they are few, in order, well formed, and have values; and only then. -/
theorem right_iff (L : List Lab) : rgtB L = true ↔ L.length ≤ 64 ∧ (L.Pairwise fun a b => a.1.data.toList < b.1.data.toList) ∧ ∀ x ∈ L, wrE x = 0 ∧ x.2 ≠ ⟨#[]⟩ := by
  constructor
  · intro h
    have hl := right_len h
    refine ⟨hl, ?_, right_all h⟩
    unfold rgtB chk at h
    rw [if_neg (by omega)] at h
    exact (srt_chk 0 none L (by simpa using h)).1
  · rintro ⟨hl, hs, hw⟩
    unfold rgtB chk
    rw [if_neg (by omega), chk_srt 0 none L (fun _ e => by cases e) hs hw]
    rfl
/-- What Of makes is right. -/
theorem made_right {L : List Lab} (h0 : fwE L = 0) (hl : (puts [] (L.map lb)).length ≤ 64) : rgtB ((puts [] (L.map lb)).map bl) = true := by
  refine (right_iff _).2 ⟨by rw [List.length_map]; exact hl, ?_, ?_⟩
  · rw [List.pairwise_map]
    exact puts_srt (m := []) List.Pairwise.nil (L.map lb)
  · intro x hx
    obtain ⟨y, hy, rfl⟩ := List.mem_map.1 hx
    have h1 := puts_full (m := []) (fun _ h => by cases h) (L.map lb) y hy
    have h2 : wrE (bl y) = 0 := puts_all (p := fun z => wrE (bl z) = 0) (m := []) (fun _ h => by cases h) (fun z hz => by
      obtain ⟨u, hu, rfl⟩ := List.mem_map.1 hz
      exact fwE_zero h0 u hu) y hy
    exact ⟨h2, fun e => h1 (str_empty.2 e)⟩
end Go.Proofs.YtlhekeokognhmaaGreatDoor
