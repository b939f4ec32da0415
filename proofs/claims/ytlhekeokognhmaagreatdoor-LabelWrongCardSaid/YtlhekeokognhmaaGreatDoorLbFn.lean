/-
  Right labels as what they have by name: what is put, merged, kept, dropped of them.
-/
import Derived.Test.YtlhekeokognhmaaGreatDoorLbOrd
namespace Go.Proofs.YtlhekeokognhmaaGreatDoor
open Go.RowKit Go.Shelf Go.Maps Go.Sort
/-- The labels that Of makes, as labels. -/
def putR (L : List Lab) : List Lab := (puts [] (L.map lb)).map bl
theorem bl_map : ∀ m : List Lb, (m.map bl).map lb = m
  | [] => rfl
  | x :: m => by rw [List.map_cons, List.map_cons, bl_map m]
theorem lb_map : ∀ m : List Lab, (m.map lb).map bl = m
  | [] => rfl
  | x :: m => by rw [List.map_cons, List.map_cons, lb_map m]
theorem rt_srt {R : List Lab} (h : rgtB R = true) : Srt (R.map lb) := by
  have := ((right_iff R).1 h).2.1
  unfold Srt
  rw [List.pairwise_map]
  exact this
theorem rt_full {R : List Lab} (h : rgtB R = true) : Full (R.map lb) := fun x hx => by
  obtain ⟨y, hy, rfl⟩ := List.mem_map.1 hx
  exact fun e => (right_all h y hy).2 (str_nil.1 e)
theorem get_find (s : ByteArray) (R : List Lab) : getL s R = ⟨((find (R.map lb) s.data.toList).getD []).toArray⟩ := by
  have := getL_find s (R.map lb)
  rwa [lb_map] at this
theorem get_putR (s : ByteArray) (L : List Lab) : getL s (putR L) = ⟨((upds (fun _ => none) (L.map lb) s.data.toList).getD []).toArray⟩ := by
  unfold putR
  rw [getL_find, find_puts srt_nil, find_nil]
theorem putR_self {R : List Lab} (h : rgtB R = true) : putR R = R := by
  unfold putR
  rw [puts_self (rt_srt h) (rt_full h), lb_map]
theorem get_right {R : List Lab} (h : rgtB R = true) (s : ByteArray) (f : Str → Option Str) : upds f (R.map lb) s.data.toList = if getL s R = ⟨#[]⟩ then f s.data.toList else some (getL s R).data.toList := by
  rw [upds_full (rt_srt h) (rt_full h), get_find]
  cases e : find (R.map lb) s.data.toList with
  | none =>
    show _ = if (⟨#[]⟩ : ByteArray) = ⟨#[]⟩ then _ else _
    rw [if_pos rfl]
    rfl
  | some v =>
    have hv := rt_full h _ (find_mem e)
    rw [if_neg]
    · rfl
    · exact fun e2 => hv (str_nil.2 e2)
/-- Merged labels have what the first ones have, or else what the others have. -/
theorem get_merge {L E : List Lab} (hL : rgtB L = true) (hE : rgtB E = true) (s : ByteArray) : getL s (putR (E ++ L)) = if getL s L = ⟨#[]⟩ then getL s E else getL s L := by
  rw [get_putR, List.map_append, upds_app, get_right hL]
  split
  · rw [get_right hE]
    split
    · rename_i e; rw [e]; rfl
    · rfl
  · rfl
theorem putR_twice {L : List Lab} (hL : rgtB L = true) : putR (L ++ L) = L := by
  have h1 : puts [] ((L ++ L).map lb) = L.map lb := by
    refine srt_ext (puts_srt srt_nil _) (rt_srt hL) fun k => ?_
    rw [find_puts srt_nil, List.map_append, upds_app, upds_full (rt_srt hL) (rt_full hL), upds_full (rt_srt hL) (rt_full hL), find_nil]
    cases find (L.map lb) k <;> rfl
  unfold putR
  rw [h1, lb_map]
/-- Right labels whose names are among the sixteen. -/
def RN (R : List Lab) : Prop := rgtB R = true ∧ ∀ x ∈ R, x.1 ∈ nms
theorem putR_all {p : Lab → Prop} {L : List Lab} (h : ∀ x ∈ L, p x) : ∀ x ∈ putR L, p x := fun x hx => by
  obtain ⟨y, hy, rfl⟩ := List.mem_map.1 hx
  exact puts_all (p := fun z => p (bl z)) (m := []) (fun _ h => by cases h) (fun z hz => by
    obtain ⟨u, hu, rfl⟩ := List.mem_map.1 hz
    exact h u hu) y hy
theorem srt_len {l : List Lb} (h : Srt l) (hn : ∀ x ∈ l, (bl x).1 ∈ nms) : l.length ≤ 16 := by
  have h2 : (l.map fun x => (bl x).1).Pairwise (· ≠ ·) := by
    rw [List.pairwise_map]
    have h' : l.Pairwise fun a b => a.1 < b.1 := h
    exact h'.imp fun {a b} hlt e => by
      have : a.1 = b.1 := by
        have e2 := congrArg (fun s : ByteArray => s.data.toList) e
        exact e2
      rw [this] at hlt
      exact str_lt_irrefl _ hlt
  have := nodup_sub _ nms h2 fun s hs => by
    obtain ⟨x, hx, rfl⟩ := List.mem_map.1 hs
    exact hn x hx
  rwa [List.length_map] at this
theorem putR_len {L : List Lab} (hn : ∀ x ∈ L, x.1 ∈ nms) : (putR L).length ≤ 16 := by
  unfold putR
  rw [List.length_map]
  exact srt_len (puts_srt srt_nil _) fun x hx => putR_all hn (bl x) (List.mem_map_of_mem hx)
theorem putR_RN {L : List Lab} (h0 : ∀ x ∈ L, wrE x = 0) (hn : ∀ x ∈ L, x.1 ∈ nms) : RN (putR L) :=
  ⟨made_right (fwE_ok h0) (by have := putR_len hn; unfold putR at this; rw [List.length_map] at this; omega), putR_all hn⟩
theorem RN.len {R : List Lab} (h : RN R) : R.length ≤ 16 := by
  have := putR_len h.2
  rwa [putR_self h.1] at this
theorem rightL_RN (ps : List (Nat × Nat)) : RN (rightL ps) := ⟨mkL_right ps, rightL_names ps⟩
theorem merge_RN {L E : List Lab} (hL : RN L) (hE : RN E) : RN (putR (E ++ L)) :=
  putR_RN (fun x hx => by
    rcases List.mem_append.1 hx with h | h
    · exact (right_all hE.1 x h).1
    · exact (right_all hL.1 x h).1) (fun x hx => by
    rcases List.mem_append.1 hx with h | h
    · exact hE.2 x h
    · exact hL.2 x h)
/-- What is set is got, and the others stay. -/
theorem get_set {L : List Lab} (hL : rgtB L = true) (y : Lab) (s : ByteArray) : getL s (putR (L ++ [y])) = if s = y.1 then y.2 else getL s L := by
  rw [get_putR, List.map_append, upds_app]
  show (⟨((upd (upds (fun _ => none) (L.map lb)) (lb y) s.data.toList).getD []).toArray⟩ : ByteArray) = _
  unfold upd
  by_cases e : s = y.1
  · rw [if_pos (by rw [e]), if_pos e]
    split
    · rename_i e2
      rw [str_nil.1 e2]
      rfl
    · rfl
  · rw [if_neg (fun e2 => e (data_inj e2).symm), if_neg e, get_right hL]
    split
    · rename_i e2; rw [e2]; rfl
    · rfl
theorem set_chain (a all : List Lab) (y : Lab) : putR (putR (a ++ all) ++ [y]) = putR (a ++ (all ++ [y])) := by
  unfold putR
  congr 1
  rw [List.map_append, bl_map, puts_app, puts_self (puts_srt srt_nil _) (puts_full (fun _ h => by cases h) _), ← puts_app, ← List.map_append, List.append_assoc]
theorem set_RN {L : List Lab} (hL : RN L) {y : Lab} (hy : wrE y = 0) (hn : y.1 ∈ nms) : RN (putR (L ++ [y])) :=
  putR_RN (fun x hx => by
    rcases List.mem_append.1 hx with h | h
    · exact (right_all hL.1 x h).1
    · rw [List.mem_singleton.1 h]; exact hy) (fun x hx => by
    rcases List.mem_append.1 hx with h | h
    · exact hL.2 x h
    · rw [List.mem_singleton.1 h]; exact hn)
/-- Part of right labels is right. -/
theorem filter_RN {L : List Lab} (hL : RN L) (p : Lab → Bool) : RN (L.filter p) := by
  refine ⟨?_, fun x hx => hL.2 x (List.mem_filter.1 hx).1⟩
  obtain ⟨h1, h2, h3⟩ := (right_iff L).1 hL.1
  exact (right_iff _).2 ⟨Nat.le_trans (List.length_filter_le _ _) h1, h2.filter p, fun x hx => h3 x (List.mem_filter.1 hx).1⟩
theorem right_ext {L E : List Lab} (hL : rgtB L = true) (hE : rgtB E = true) (h : ∀ s, getL s L = getL s E) : L = E := by
  have h1 : L.map lb = E.map lb := by
    refine srt_ext (rt_srt hL) (rt_srt hE) fun k => ?_
    have a1 := get_right hL ⟨k.toArray⟩ (fun _ => none)
    have a2 := get_right hE ⟨k.toArray⟩ (fun _ => none)
    rw [upds_full (rt_srt hL) (rt_full hL), Option.or_none] at a1
    rw [upds_full (rt_srt hE) (rt_full hE), Option.or_none] at a2
    rw [show k = (⟨k.toArray⟩ : ByteArray).data.toList from rfl, a1, a2, h]
  have := congrArg (List.map bl) h1
  rwa [lb_map, lb_map] at this
theorem get_filter {L : List Lab} (p : ByteArray → Bool) (s : ByteArray) : getL s (L.filter fun y => p y.1) = if p s then getL s L else ⟨#[]⟩ := by
  induction L with
  | nil => cases p s <;> rfl
  | cons x L ih =>
    by_cases hx : p x.1 = true
    · rw [List.filter_cons_of_pos (p := fun y : Lab => p y.1) (a := x) hx]
      unfold getL
      rw [ih]
      by_cases e : x.1 = s
      · rw [if_pos e, if_pos e, if_pos (by rw [← e]; exact hx)]
      · rw [if_neg e, if_neg e]
    · rw [List.filter_cons_of_neg (p := fun y : Lab => p y.1) (a := x) hx, ih]
      by_cases e : x.1 = s
      · rw [if_neg (by rw [← e]; exact hx), if_neg (by rw [← e]; exact hx)]
      · conv => rhs; unfold getL
        rw [if_neg e]
/-- What is kept and what is dropped are all together. -/
theorem parts_all {L : List Lab} (hL : RN L) (p : ByteArray → Bool) : putR ((L.filter fun y => !p y.1) ++ L.filter fun y => p y.1) = L := by
  have h1 := filter_RN hL fun y => p y.1
  have h2 := filter_RN hL fun y => !p y.1
  refine right_ext (merge_RN h1 h2).1 hL.1 fun s => ?_
  rw [get_merge h1.1 h2.1, get_filter p, get_filter fun s => !p s]
  cases hp : p s
  · simp
  · simp
    intro e
    exact e.symm
theorem parts_len (L : List Lab) (p : ByteArray → Bool) : (L.filter fun y => p y.1).length + (L.filter fun y => !p y.1).length = L.length := by
  induction L with
  | nil => rfl
  | cons x L ih =>
    cases h : p x.1
    · rw [List.filter_cons_of_neg (by simp [h]), List.filter_cons_of_pos (by simp [h]), List.length_cons, List.length_cons]
      omega
    · rw [List.filter_cons_of_pos (by simp [h]), List.filter_cons_of_neg (by simp [h]), List.length_cons, List.length_cons]
      omega
end Go.Proofs.YtlhekeokognhmaaGreatDoor
