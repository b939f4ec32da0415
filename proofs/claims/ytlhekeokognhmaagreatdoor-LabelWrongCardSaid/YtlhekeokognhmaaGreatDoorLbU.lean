/-
  How labels compare: an order.
-/
import Derived.Test.YtlhekeokognhmaaGreatDoorLbT
namespace Go.Proofs.YtlhekeokognhmaaGreatDoor
open Go.RowKit Go.Shelf Go.Maps Go.Sort
/-- A comparison of three answers. -/
structure O3 {α : Type} (f : α → α → Int) : Prop where
  three : ∀ a b, f a b = -1 ∨ f a b = 0 ∨ f a b = 1
  zero : ∀ a b, f a b = 0 ↔ a = b
  turn : ∀ a b, f b a = - f a b
  trans : ∀ a b c, f a b = -1 → f b c = -1 → f a c = -1
theorem cmpS_is (a b : ByteArray) : cmpS a b = if a.data.toList < b.data.toList then -1 else if a = b then 0 else 1 := by
  unfold cmpS
  rw [less_is, str_beq]
  simp
theorem cmpS_neg {a b : ByteArray} : cmpS a b = -1 ↔ a.data.toList < b.data.toList := by
  rw [cmpS_is]
  split
  · rename_i h; exact ⟨fun _ => h, fun _ => rfl⟩
  · rename_i h
    refine ⟨fun e => ?_, fun e => absurd e h⟩
    split at e <;> cases e
theorem cmpS_o3 : O3 cmpS where
  three a b := by
    rw [cmpS_is]
    split
    · exact .inl rfl
    · split
      · exact .inr (.inl rfl)
      · exact .inr (.inr rfl)
  zero a b := by
    rw [cmpS_is]
    split
    · rename_i h
      exact ⟨fun e => (by cases e), fun e => (by rw [e] at h; exact absurd h (str_lt_irrefl _))⟩
    · split
      · rename_i h; exact ⟨fun _ => h, fun _ => rfl⟩
      · rename_i h; exact ⟨fun e => (by cases e), fun e => absurd e h⟩
  turn a b := by
    rw [cmpS_is, cmpS_is]
    rcases str_tri a.data.toList b.data.toList with h | h | h
    · have h2 : ¬ b.data.toList < a.data.toList := fun e => str_lt_irrefl _ (str_lt_trans h e)
      have h3 : ¬ b = a := fun e => by rw [e] at h; exact str_lt_irrefl _ h
      rw [if_neg h2, if_neg h3, if_pos h]
      rfl
    · have := data_inj h
      subst this
      rw [if_neg (str_lt_irrefl _), if_pos rfl]
      rfl
    · have h2 : ¬ a.data.toList < b.data.toList := fun e => str_lt_irrefl _ (str_lt_trans h e)
      have h3 : ¬ a = b := fun e => by rw [e] at h; exact str_lt_irrefl _ h
      rw [if_pos h, if_neg h2, if_neg h3]
  trans a b c h1 h2 := cmpS_neg.2 (str_lt_trans (cmpS_neg.1 h1) (cmpS_neg.1 h2))
theorem cmp1_o3 : O3 cmp1 where
  three x y := by
    unfold cmp1
    split
    · exact cmpS_o3.three _ _
    · exact cmpS_o3.three _ _
  zero x y := by
    unfold cmp1
    split
    · rename_i h
      rw [cmpS_o3.zero] at h ⊢
      exact ⟨fun e => Prod.ext h e, fun e => by rw [e]⟩
    · rename_i h
      exact ⟨fun e => absurd e h, fun e => absurd ((cmpS_o3.zero _ _).2 (by rw [e])) h⟩
  turn x y := by
    unfold cmp1
    rw [cmpS_o3.turn x.1 y.1, cmpS_o3.turn x.2 y.2]
    by_cases h : cmpS x.1 y.1 = 0
    · rw [if_pos h, if_pos (by omega)]
    · rw [if_neg h, if_neg (by omega)]
  trans x y z := by
    unfold cmp1
    intro h1 h2
    by_cases a : cmpS x.1 y.1 = 0
    · rw [if_pos a] at h1
      rw [(cmpS_o3.zero _ _).1 a]
      by_cases b : cmpS y.1 z.1 = 0
      · rw [if_pos b] at h2 ⊢
        exact cmpS_o3.trans _ _ _ h1 h2
      · rw [if_neg b] at h2 ⊢
        exact h2
    · rw [if_neg a] at h1
      by_cases b : cmpS y.1 z.1 = 0
      · rw [← (cmpS_o3.zero _ _).1 b, if_neg a]
        exact h1
      · rw [if_neg b] at h2
        have := cmpS_o3.trans _ _ _ h1 h2
        rw [if_neg (by omega)]
        exact this
theorem cmpL_three : ∀ L E, cmpL L E = -1 ∨ cmpL L E = 0 ∨ cmpL L E = 1
  | [], [] => .inr (.inl rfl)
  | [], _ :: _ => .inl rfl
  | _ :: _, [] => .inr (.inr rfl)
  | x :: L, y :: E => by
    unfold cmpL
    split
    · exact cmpL_three L E
    · exact cmp1_o3.three x y
theorem cmpL_zero : ∀ L E, cmpL L E = 0 ↔ L = E
  | [], [] => ⟨fun _ => rfl, fun _ => rfl⟩
  | [], _ :: _ => ⟨fun e => (by cases e), fun e => (by cases e)⟩
  | _ :: _, [] => ⟨fun e => (by cases e), fun e => (by cases e)⟩
  | x :: L, y :: E => by
    unfold cmpL
    split
    · rename_i h
      rw [cmpL_zero L E, (cmp1_o3.zero x y).1 h]
      exact ⟨fun e => by rw [e], fun e => by injection e⟩
    · rename_i h
      exact ⟨fun e => absurd e h, fun e => absurd ((cmp1_o3.zero x y).2 (by injection e)) h⟩
theorem cmpL_turn : ∀ L E, cmpL E L = - cmpL L E
  | [], [] => rfl
  | [], _ :: _ => rfl
  | _ :: _, [] => rfl
  | x :: L, y :: E => by
    have h := cmp1_o3.turn x y
    unfold cmpL
    rw [h]
    by_cases a : cmp1 x y = 0
    · rw [if_pos a, if_pos (by omega)]
      exact cmpL_turn L E
    · rw [if_neg a, if_neg (by omega)]
theorem cmpL_trans : ∀ L E F, cmpL L E = -1 → cmpL E F = -1 → cmpL L F = -1
  | [], [], _, h, _ => by cases h
  | [], _ :: _, [], _, h => by cases h
  | [], _ :: _, _ :: _, _, _ => rfl
  | _ :: _, [], _, h, _ => by cases h
  | _ :: _, _ :: _, [], _, h => by cases h
  | x :: L, y :: E, z :: F, h1, h2 => by
    unfold cmpL at h1 h2 ⊢
    by_cases a : cmp1 x y = 0
    · rw [if_pos a] at h1
      rw [(cmp1_o3.zero _ _).1 a]
      by_cases b : cmp1 y z = 0
      · rw [if_pos b] at h2 ⊢
        exact cmpL_trans L E F h1 h2
      · rw [if_neg b] at h2 ⊢
        exact h2
    · rw [if_neg a] at h1
      by_cases b : cmp1 y z = 0
      · rw [← (cmp1_o3.zero _ _).1 b, if_neg a]
        exact h1
      · rw [if_neg b] at h2
        have := cmp1_o3.trans _ _ _ h1 h2
        rw [if_neg (by omega)]
        exact this
theorem cmpL_o3 : O3 cmpL := ⟨cmpL_three, cmpL_zero, cmpL_turn, cmpL_trans⟩
theorem O3.le {α : Type} {f : α → α → Int} (h : O3 f) {a b c : α} (h1 : f a b ≤ 0) (h2 : f b c ≤ 0) : f a c ≤ 0 := by
  rcases h.three a b with e | e | e
  · rcases h.three b c with e2 | e2 | e2
    · have := h.trans a b c e e2; omega
    · rw [← (h.zero b c).1 e2]; omega
    · omega
  · rw [(h.zero a b).1 e]; exact h2
  · omega
/-- A part from the front is before the whole. -/
theorem cmpL_part : ∀ (L : List Lab) (k : Nat), k < L.length → cmpL (L.take k) L = -1
  | [], k, h => by simp at h
  | x :: L, 0, _ => rfl
  | x :: L, k + 1, h => by
    rw [List.take_succ_cons]
    unfold cmpL
    rw [if_pos ((cmp1_o3.zero x x).2 rfl)]
    exact cmpL_part L k (by simpa using h)
end Go.Proofs.YtlhekeokognhmaaGreatDoor
