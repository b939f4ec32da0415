/-
  What right labels have, name by name; the order of labels does not matter. Right labels as what they have by name: what is put, merged, kept, dropped of them.
-/
import Derived.Test.YtlhekeokognhmaaGreatDoorMgba
namespace Go.Proofs.YtlhekeokognhmaaGreatDoor
open Go.RowKit Go.Shelf Go.Maps Go.Sort
theorem getL_find (s : ByteArray) : ∀ m : List Lb, getL s (m.map bl) = ⟨((find m s.data.toList).getD []).toArray⟩
  | [] => rfl
  | x :: m => by
    have ih := getL_find s m
    rw [List.map_cons]
    unfold getL find
    by_cases h : x.1 = s.data.toList
    · have h2 : (bl x).1 = s := data_inj h
      rw [if_pos h, if_pos h2]
      rfl
    · have h2 : ¬ (bl x).1 = s := fun e => h (by rw [← e])
      rw [if_neg h, if_neg h2]
      exact ih
def OnceB (l : List Lb) : Prop := l.Pairwise fun x y => x.1 ≠ y.1
theorem once_lb {L : List Lab} (h : Once L) : OnceB (L.map lb) := by
  unfold OnceB
  rw [List.pairwise_map]
  exact h.imp fun hne e => hne (data_inj e)
theorem upds_no (k : Str) : ∀ (l : List Lb) (f : Str → Option Str), (∀ x ∈ l, x.1 ≠ k) → upds f l k = f k
  | [], _, _ => rfl
  | x :: l, f, h => by
    have := upds_no k l (upd f x) fun y hy => h y (List.mem_cons_of_mem _ hy)
    show upds (upd f x) l k = _
    rw [this]
    unfold upd
    rw [if_neg (h x (List.mem_cons_self ..))]
theorem upds_once : ∀ (l : List Lb) (f : Str → Option Str), OnceB l → ∀ x ∈ l, upds f l x.1 = if x.2 = [] then none else some x.2
  | [], _, _, _, h => by cases h
  | y :: l, f, ho, x, hx => by
    obtain ⟨h1, h2⟩ := List.pairwise_cons.1 ho
    show upds (upd f y) l x.1 = _
    rcases List.mem_cons.1 hx with rfl | hx
    · rw [upds_no _ l _ fun z hz => (h1 z hz).symm]
      unfold upd
      rw [if_pos rfl]
    · exact upds_once l _ h2 x hx
theorem srt_nil : Srt [] := List.Pairwise.nil
theorem puts_same {l m : List Lb} (hl : OnceB l) (hm : OnceB m) (h : ∀ x, x ∈ l ↔ x ∈ m) : puts [] l = puts [] m := by
  refine srt_ext (puts_srt srt_nil l) (puts_srt srt_nil m) fun k => ?_
  rw [find_puts srt_nil, find_puts srt_nil]
  by_cases hk : ∃ x ∈ l, x.1 = k
  · obtain ⟨x, hx, rfl⟩ := hk
    rw [upds_once l _ hl x hx, upds_once m _ hm x ((h x).1 hx)]
  · rw [upds_no k l _ fun x hx e => hk ⟨x, hx, e⟩, upds_no k m _ fun x hx e => hk ⟨x, (h x).2 hx, e⟩]
/-- What the last label with a name has. -/
def wantF (s : ByteArray) (L : List Lab) : ByteArray := L.foldl (fun v x => if x.1 = s then x.2 else v) ⟨#[]⟩
theorem wantF_snoc (s : ByteArray) (L : List Lab) (x : Lab) : wantF s (L ++ [x]) = if x.1 = s then x.2 else wantF s L := by
  unfold wantF
  rw [List.foldl_append]
  rfl
theorem want_no (s : ByteArray) : ∀ (L : List Lab) (v : ByteArray), (∀ x ∈ L, x.1 ≠ s) → L.foldl (fun v x => if x.1 = s then x.2 else v) v = v
  | [], _, _ => rfl
  | x :: L, v, h => by
    rw [List.foldl_cons, if_neg (h x (List.mem_cons_self ..))]
    exact want_no s L v fun y hy => h y (List.mem_cons_of_mem _ hy)
theorem want_once : ∀ (L : List Lab) (v : ByteArray), Once L → ∀ x ∈ L, L.foldl (fun v y => if y.1 = x.1 then y.2 else v) v = x.2
  | [], _, _, _, h => by cases h
  | y :: L, v, ho, x, hx => by
    obtain ⟨h1, h2⟩ := List.pairwise_cons.1 ho
    rw [List.foldl_cons]
    rcases List.mem_cons.1 hx with rfl | hx
    · rw [if_pos rfl]
      exact want_no _ L _ fun z hz => (h1 z hz).symm
    · exact want_once L _ h2 x hx
theorem str_eta (s : ByteArray) : (⟨s.data.toList.toArray⟩ : ByteArray) = s := rfl
theorem str_nil {s : ByteArray} : s.data.toList = [] ↔ s = ⟨#[]⟩ := ⟨fun h => data_inj h, fun h => by rw [h]⟩
/-- What right labels have is what the last label of that name had. -/
theorem get_want {L : List Lab} (h : Once L) (s : ByteArray) : getL s ((puts [] (L.map lb)).map bl) = wantF s L := by
  rw [getL_find, find_puts srt_nil]
  by_cases hk : ∃ x ∈ L, x.1 = s
  · obtain ⟨x, hx, rfl⟩ := hk
    have h1 := upds_once (L.map lb) (find []) (once_lb h) (lb x) (List.mem_map_of_mem hx)
    have h2 : upds (find []) (L.map lb) x.1.data.toList = _ := h1
    rw [h2]
    unfold wantF
    rw [want_once L _ h x hx]
    split
    · rename_i e
      have : x.2 = ⟨#[]⟩ := str_nil.1 e
      rw [this]; rfl
    · rfl
  · have h2 : upds (find []) (L.map lb) s.data.toList = none := by
      refine upds_no _ _ _ fun y hy e => ?_
      obtain ⟨x, hx, rfl⟩ := List.mem_map.1 hy
      exact hk ⟨x, hx, data_inj e⟩
    rw [h2]
    unfold wantF
    rw [want_no _ _ _ fun x hx e => hk ⟨x, hx, e⟩]
    rfl
theorem nodup_sub {α : Type} [DecidableEq α] : ∀ (l m : List α), l.Pairwise (· ≠ ·) → (∀ x ∈ l, x ∈ m) → l.length ≤ m.length
  | [], m, _, _ => Nat.zero_le _
  | x :: l, m, h, hm => by
    obtain ⟨h1, h2⟩ := List.pairwise_cons.1 h
    have hx := hm x (List.mem_cons_self ..)
    have h3 := nodup_sub l (m.erase x) h2 fun y hy => (List.mem_erase_of_ne (fun e => h1 y hy e.symm)).2 (hm y (List.mem_cons_of_mem _ hy))
    rw [List.length_erase_of_mem hx] at h3
    have := List.length_pos_of_mem hx
    rw [List.length_cons]
    omega
theorem nms_once : nms.Pairwise (· ≠ ·) := by
  have h : nms.Pairwise fun a b => a.data.toList ≠ b.data.toList := by decide +kernel
  exact h.imp fun hne e => hne (by rw [e])
theorem get_mem {L : List Lab} {s : ByteArray} (h : getL s L ≠ ⟨#[]⟩) : s ∈ L.map (·.1) := by
  induction L with
  | nil => exact absurd rfl h
  | cons x L ih =>
    unfold getL at h
    split at h
    · rename_i e
      rw [List.map_cons, e]
      exact List.mem_cons_self ..
    · rw [List.map_cons]
      exact List.mem_cons_of_mem _ (ih h)
theorem right_srt {R : List Lab} (h : rgtB R = true) : R.Pairwise fun a b => a.1 ≠ b.1 := by
  have := ((right_iff R).1 h).2.1
  exact this.imp (fun {a b} (hlt : a.1.data.toList < b.1.data.toList) (e : a.1 = b.1) => str_lt_irrefl _ (by rw [e] at hlt; exact hlt))
theorem get_of_mem {R : List Lab} (h : R.Pairwise fun a b => a.1 ≠ b.1) {x : Lab} (hx : x ∈ R) : getL x.1 R = x.2 := by
  induction R with
  | nil => cases hx
  | cons y R ih =>
    obtain ⟨h1, h2⟩ := List.pairwise_cons.1 h
    unfold getL
    rcases List.mem_cons.1 hx with rfl | hx
    · rw [if_pos rfl]
    · rw [if_neg (h1 x hx)]
      exact ih h2 hx
/-- How many of the first names have a value. -/
def cntF (f : ByteArray → ByteArray) (i : Nat) : Nat := ((nms.take i).filter fun s => decide (f s ≠ ⟨#[]⟩)).length
theorem cntF_step (f : ByteArray → ByteArray) {i : Nat} {s : ByteArray} (h : nms[i]? = some s) : cntF f (i + 1) = if f s = ⟨#[]⟩ then cntF f i else cntF f i + 1 := by
  unfold cntF
  rw [List.take_add_one, h, List.filter_append, List.length_append]
  by_cases e : f s = ⟨#[]⟩
  · rw [if_pos e]; simp [e]
  · rw [if_neg e]; simp [e]
theorem cntF_le (f : ByteArray → ByteArray) (i : Nat) : cntF f i ≤ 16 := by
  unfold cntF
  refine Nat.le_trans (List.length_filter_le _ _) ?_
  rw [List.length_take]
  exact Nat.min_le_right _ _
theorem right_vals {R : List Lab} (h : rgtB R = true) : ∀ x ∈ R, x.2.size ≤ 281474976710656 := fun x hx => by
  have := (small_of (right_all h x hx).1).2
  omega
theorem cnt_right {R : List Lab} (h : rgtB R = true) (hn : ∀ x ∈ R, x.1 ∈ nms) : cntF (fun s => getL s R) 16 = R.length := by
  have ho := right_srt h
  have hv := right_all h
  unfold cntF
  rw [List.take_of_length_le (by decide)]
  refine Nat.le_antisymm ?_ ?_
  · rw [show R.length = (R.map (·.1)).length from List.length_map .. |>.symm]
    refine nodup_sub _ _ (nms_once.filter _) fun s hs => ?_
    have := (List.mem_filter.1 hs).2
    exact get_mem (by simpa using this)
  · rw [show R.length = (R.map (·.1)).length from List.length_map .. |>.symm]
    refine nodup_sub _ _ (by rw [List.pairwise_map]; exact ho) fun s hs => ?_
    obtain ⟨x, hx, rfl⟩ := List.mem_map.1 hs
    refine List.mem_filter.2 ⟨hn x hx, ?_⟩
    show decide (getL x.1 R ≠ ⟨#[]⟩) = true
    rw [get_of_mem ho hx]
    exact decide_eq_true (hv x hx).2
theorem puts_names {p : Str → Prop} {l : List Lb} (h : ∀ x ∈ l, p x.1) : ∀ x ∈ puts [] l, p x.1 := puts_all (p := fun x => p x.1) (fun _ h => by cases h) h
theorem rightL_names (ps : List (Nat × Nat)) : ∀ x ∈ rightL ps, x.1 ∈ nms := by
  intro x hx
  obtain ⟨y, hy, rfl⟩ := List.mem_map.1 hx
  have := puts_names (p := fun k => (⟨k.toArray⟩ : ByteArray) ∈ nms) (l := (mkL ps).map lb) (fun z hz => by
    obtain ⟨u, hu, rfl⟩ := List.mem_map.1 hz
    exact mkL_names ps u hu) y hy
  exact this
theorem rightL_get (ps : List (Nat × Nat)) (s : ByteArray) : getL s (rightL ps) = wantF s (mkL ps) := get_want (mkL_once ps) s
/-- Turned round, they are the same. -/
theorem turned {L : List Lab} (h : Once L) (k : Nat) : Once (L.drop k ++ L.take k) ∧ puts [] ((L.drop k ++ L.take k).map lb) = puts [] (L.map lb) := by
  have hp : (L.drop k ++ L.take k).Perm L := List.perm_append_comm.trans (by rw [List.take_append_drop])
  have ho : Once (L.drop k ++ L.take k) := hp.symm.pairwise h fun hne e => hne e.symm
  refine ⟨ho, puts_same (once_lb ho) (once_lb h) fun x => ?_⟩
  exact (hp.map lb).mem_iff
end Go.Proofs.YtlhekeokognhmaaGreatDoor
namespace Go.Proofs.YtlhekeokognhmaaGreatDoor
open Go.RowKit Go.Shelf Go.Maps Go.Sort
/-- The labels that Of makes, as labels. -/
def putR (L : List Lab) : List Lab := (puts [] (L.map lb)).map bl
theorem bl_map : ∀ m : List Lb, (m.map bl).map lb = m
  | [] => rfl
  | x :: m => by rw [List.map_cons, List.map_cons, bl_map m]
theorem lb_map : ∀ m : List Lab, (m.map lb).map bl = m
  | [] => rfl
  | x :: m => by rw [List.map_cons, List.map_cons, lb_map m]
theorem rt_srt {R : List Lab} (h : rgtB R = true) : Srt (R.map lb) := by
  have := ((right_iff R).1 h).2.1
  unfold Srt
  rw [List.pairwise_map]
  exact this
theorem rt_full {R : List Lab} (h : rgtB R = true) : Full (R.map lb) := fun x hx => by
  obtain ⟨y, hy, rfl⟩ := List.mem_map.1 hx
  exact fun e => (right_all h y hy).2 (str_nil.1 e)
theorem get_find (s : ByteArray) (R : List Lab) : getL s R = ⟨((find (R.map lb) s.data.toList).getD []).toArray⟩ := by
  have := getL_find s (R.map lb)
  rwa [lb_map] at this
theorem get_putR (s : ByteArray) (L : List Lab) : getL s (putR L) = ⟨((upds (fun _ => none) (L.map lb) s.data.toList).getD []).toArray⟩ := by
  unfold putR
  rw [getL_find, find_puts srt_nil, find_nil]
theorem putR_self {R : List Lab} (h : rgtB R = true) : putR R = R := by
  unfold putR
  rw [puts_self (rt_srt h) (rt_full h), lb_map]
theorem get_right {R : List Lab} (h : rgtB R = true) (s : ByteArray) (f : Str → Option Str) : upds f (R.map lb) s.data.toList = if getL s R = ⟨#[]⟩ then f s.data.toList else some (getL s R).data.toList := by
  rw [upds_full (rt_srt h) (rt_full h), get_find]
  cases e : find (R.map lb) s.data.toList with
  | none =>
    show _ = if (⟨#[]⟩ : ByteArray) = ⟨#[]⟩ then _ else _
    rw [if_pos rfl]
    rfl
  | some v =>
    have hv := rt_full h _ (find_mem e)
    rw [if_neg]
    · rfl
    · exact fun e2 => hv (str_nil.2 e2)
/-- Merged labels have what the first ones have, or else what the others have. -/
theorem get_merge {L E : List Lab} (hL : rgtB L = true) (hE : rgtB E = true) (s : ByteArray) : getL s (putR (E ++ L)) = if getL s L = ⟨#[]⟩ then getL s E else getL s L := by
  rw [get_putR, List.map_append, upds_app, get_right hL]
  split
  · rw [get_right hE]
    split
    · rename_i e; rw [e]; rfl
    · rfl
  · rfl
theorem putR_twice {L : List Lab} (hL : rgtB L = true) : putR (L ++ L) = L := by
  have h1 : puts [] ((L ++ L).map lb) = L.map lb := by
    refine srt_ext (puts_srt srt_nil _) (rt_srt hL) fun k => ?_
    rw [find_puts srt_nil, List.map_append, upds_app, upds_full (rt_srt hL) (rt_full hL), upds_full (rt_srt hL) (rt_full hL), find_nil]
    cases find (L.map lb) k <;> rfl
  unfold putR
  rw [h1, lb_map]
/-- Right labels whose names are among the sixteen. -/
def RN (R : List Lab) : Prop := rgtB R = true ∧ ∀ x ∈ R, x.1 ∈ nms
theorem putR_all {p : Lab → Prop} {L : List Lab} (h : ∀ x ∈ L, p x) : ∀ x ∈ putR L, p x := fun x hx => by
  obtain ⟨y, hy, rfl⟩ := List.mem_map.1 hx
  exact puts_all (p := fun z => p (bl z)) (m := []) (fun _ h => by cases h) (fun z hz => by
    obtain ⟨u, hu, rfl⟩ := List.mem_map.1 hz
    exact h u hu) y hy
theorem srt_len {l : List Lb} (h : Srt l) (hn : ∀ x ∈ l, (bl x).1 ∈ nms) : l.length ≤ 16 := by
  have h2 : (l.map fun x => (bl x).1).Pairwise (· ≠ ·) := by
    rw [List.pairwise_map]
    have h' : l.Pairwise fun a b => a.1 < b.1 := h
    exact h'.imp fun {a b} hlt e => by
      have : a.1 = b.1 := by
        have e2 := congrArg (fun s : ByteArray => s.data.toList) e
        exact e2
      rw [this] at hlt
      exact str_lt_irrefl _ hlt
  have := nodup_sub _ nms h2 fun s hs => by
    obtain ⟨x, hx, rfl⟩ := List.mem_map.1 hs
    exact hn x hx
  rwa [List.length_map] at this
theorem putR_len {L : List Lab} (hn : ∀ x ∈ L, x.1 ∈ nms) : (putR L).length ≤ 16 := by
  unfold putR
  rw [List.length_map]
  exact srt_len (puts_srt srt_nil _) fun x hx => putR_all hn (bl x) (List.mem_map_of_mem hx)
theorem putR_RN {L : List Lab} (h0 : ∀ x ∈ L, wrE x = 0) (hn : ∀ x ∈ L, x.1 ∈ nms) : RN (putR L) :=
  ⟨made_right (fwE_ok h0) (by have := putR_len hn; unfold putR at this; rw [List.length_map] at this; omega), putR_all hn⟩
theorem RN.len {R : List Lab} (h : RN R) : R.length ≤ 16 := by
  have := putR_len h.2
  rwa [putR_self h.1] at this
theorem rightL_RN (ps : List (Nat × Nat)) : RN (rightL ps) := ⟨mkL_right ps, rightL_names ps⟩
theorem merge_RN {L E : List Lab} (hL : RN L) (hE : RN E) : RN (putR (E ++ L)) :=
  putR_RN (fun x hx => by
    rcases List.mem_append.1 hx with h | h
    · exact (right_all hE.1 x h).1
    · exact (right_all hL.1 x h).1) (fun x hx => by
    rcases List.mem_append.1 hx with h | h
    · exact hE.2 x h
    · exact hL.2 x h)
/-- What is set is got, and the others stay. -/
theorem get_set {L : List Lab} (hL : rgtB L = true) (y : Lab) (s : ByteArray) : getL s (putR (L ++ [y])) = if s = y.1 then y.2 else getL s L := by
  rw [get_putR, List.map_append, upds_app]
  show (⟨((upd (upds (fun _ => none) (L.map lb)) (lb y) s.data.toList).getD []).toArray⟩ : ByteArray) = _
  unfold upd
  by_cases e : s = y.1
  · rw [if_pos (by rw [e]), if_pos e]
    split
    · rename_i e2
      rw [str_nil.1 e2]
      rfl
    · rfl
  · rw [if_neg (fun e2 => e (data_inj e2).symm), if_neg e, get_right hL]
    split
    · rename_i e2; rw [e2]; rfl
    · rfl
theorem set_chain (a all : List Lab) (y : Lab) : putR (putR (a ++ all) ++ [y]) = putR (a ++ (all ++ [y])) := by
  unfold putR
  congr 1
  rw [List.map_append, bl_map, puts_app, puts_self (puts_srt srt_nil _) (puts_full (fun _ h => by cases h) _), ← puts_app, ← List.map_append, List.append_assoc]
theorem set_RN {L : List Lab} (hL : RN L) {y : Lab} (hy : wrE y = 0) (hn : y.1 ∈ nms) : RN (putR (L ++ [y])) :=
  putR_RN (fun x hx => by
    rcases List.mem_append.1 hx with h | h
    · exact (right_all hL.1 x h).1
    · rw [List.mem_singleton.1 h]; exact hy) (fun x hx => by
    rcases List.mem_append.1 hx with h | h
    · exact hL.2 x h
    · rw [List.mem_singleton.1 h]; exact hn)
/-- Part of right labels is right. -/
theorem filter_RN {L : List Lab} (hL : RN L) (p : Lab → Bool) : RN (L.filter p) := by
  refine ⟨?_, fun x hx => hL.2 x (List.mem_filter.1 hx).1⟩
  obtain ⟨h1, h2, h3⟩ := (right_iff L).1 hL.1
  exact (right_iff _).2 ⟨Nat.le_trans (List.length_filter_le _ _) h1, h2.filter p, fun x hx => h3 x (List.mem_filter.1 hx).1⟩
theorem right_ext {L E : List Lab} (hL : rgtB L = true) (hE : rgtB E = true) (h : ∀ s, getL s L = getL s E) : L = E := by
  have h1 : L.map lb = E.map lb := by
    refine srt_ext (rt_srt hL) (rt_srt hE) fun k => ?_
    have a1 := get_right hL ⟨k.toArray⟩ (fun _ => none)
    have a2 := get_right hE ⟨k.toArray⟩ (fun _ => none)
    rw [upds_full (rt_srt hL) (rt_full hL), Option.or_none] at a1
    rw [upds_full (rt_srt hE) (rt_full hE), Option.or_none] at a2
    rw [show k = (⟨k.toArray⟩ : ByteArray).data.toList from rfl, a1, a2, h]
  have := congrArg (List.map bl) h1
  rwa [lb_map, lb_map] at this
theorem get_filter {L : List Lab} (p : ByteArray → Bool) (s : ByteArray) : getL s (L.filter fun y => p y.1) = if p s then getL s L else ⟨#[]⟩ := by
  induction L with
  | nil => cases p s <;> rfl
  | cons x L ih =>
    by_cases hx : p x.1 = true
    · rw [List.filter_cons_of_pos (p := fun y : Lab => p y.1) (a := x) hx]
      unfold getL
      rw [ih]
      by_cases e : x.1 = s
      · rw [if_pos e, if_pos e, if_pos (by rw [← e]; exact hx)]
      · rw [if_neg e, if_neg e]
    · rw [List.filter_cons_of_neg (p := fun y : Lab => p y.1) (a := x) hx, ih]
      by_cases e : x.1 = s
      · rw [if_neg (by rw [← e]; exact hx), if_neg (by rw [← e]; exact hx)]
      · conv => rhs; unfold getL
        rw [if_neg e]
/-- What is kept and what is dropped are all together. -/
theorem parts_all {L : List Lab} (hL : RN L) (p : ByteArray → Bool) : putR ((L.filter fun y => !p y.1) ++ L.filter fun y => p y.1) = L := by
  have h1 := filter_RN hL fun y => p y.1
  have h2 := filter_RN hL fun y => !p y.1
  refine right_ext (merge_RN h1 h2).1 hL.1 fun s => ?_
  rw [get_merge h1.1 h2.1, get_filter p, get_filter fun s => !p s]
  cases hp : p s
  · simp
  · simp
    intro e
    exact e.symm
theorem parts_len (L : List Lab) (p : ByteArray → Bool) : (L.filter fun y => p y.1).length + (L.filter fun y => !p y.1).length = L.length := by
  induction L with
  | nil => rfl
  | cons x L ih =>
    cases h : p x.1
    · rw [List.filter_cons_of_neg (by simp [h]), List.filter_cons_of_pos (by simp [h]), List.length_cons, List.length_cons]
      omega
    · rw [List.filter_cons_of_pos (by simp [h]), List.filter_cons_of_neg (by simp [h]), List.length_cons, List.length_cons]
      omega
end Go.Proofs.YtlhekeokognhmaaGreatDoor
