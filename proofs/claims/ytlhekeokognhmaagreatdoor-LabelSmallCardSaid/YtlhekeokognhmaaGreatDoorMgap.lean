/-
  What the laws' awake calls give: answers as rows that can be read. Names: the names that labels are made of. Labels in order, with values, are right; right labels are in order. How labels compare, in plain words. How labels compare: an order. What Made makes: labels that are well formed, each name once.
-/
import Derived.Test.YtlhekeokognhmaaGreatDoorMgao
import Derived.Sort.Walk0
namespace Go.Proofs.YtlhekeokognhmaaGreatDoor
open Go.RowKit Go.Shelf Go.Maps Go.Sort
theorem sortedV_rd {B : Nat} {m : List Lb} {v : Value} {x : Int} {w' : World} {M : List Lab} (h : SortedV B m v x w') (hM : m.map bl = M) (hl : M.length ≤ 64) : x = 0 ∧ ∃ A c, v = .slice A M.length c ∧ RdL w' w'.heap.size A M := by
  have hlen : m.length = M.length := by rw [← hM, List.length_map]
  rcases h with ⟨h, _⟩ | ⟨_, hx, ho⟩
  · omega
  · obtain ⟨A, c, rfl, _, hr⟩ := own_rd ho
    rw [hM, hlen] at hr
    exact ⟨hx, A, c, by rw [hlen], hr⟩
/-- What a call answers: labels that can be read, and no error. -/
def Good (M : List Lab) (w : World) (e : Ending) (w' : World) : Prop := ∃ A c, e = .returned (.tuple #[.slice A M.length c, .int .i64 0]) ∧ RdL w' w'.heap.size A M ∧ Kept w w'
section
variable (A A1 : Option Addr) (c c1 : Nat) (L E M : List Lab) (w : World)
theorem of_good (hL : L.length ≤ 400000) (hr : RdL w w.heap.size A L) (hT : Tab w) (h0 : fwE L = 0) (h1 : twB L = false) (hM : (puts [] (L.map lb)).map bl = M) (hl : M.length ≤ 64) :
    Calls Tryz.prog 13 #[.slice A L.length c] w fun e w' => Good M w e w' :=
  (of_any A c L (by omega) w hr hT).mono fun e w' ⟨h, hk⟩ => by
    rcases h with ⟨h, _⟩ | ⟨_, h, _⟩ | ⟨_, _, v, x, rfl, h⟩
    · exact absurd h0 h
    · rw [h1] at h; cases h
    · obtain ⟨rfl, A', c', rfl, hr'⟩ := sortedV_rd h hM hl
      exact ⟨A', c', rfl, hr', hk⟩
theorem of_twice (hL : L.length ≤ 400000) (hr : RdL w w.heap.size A L) (hT : Tab w) (h0 : fwE L = 0) (h1 : twB L = true) :
    Calls Tryz.prog 13 #[.slice A L.length c] w fun e w' => e = .returned (.tuple #[.slice none 0 0, .int .i64 43]) ∧ Kept w w' :=
  (of_any A c L (by omega) w hr hT).mono fun e w' ⟨h, hk⟩ => by
    rcases h with ⟨h, _⟩ | ⟨_, _, h⟩ | ⟨_, h, _⟩
    · exact absurd h0 h
    · exact ⟨h, hk⟩
    · rw [h1] at h; cases h
theorem ans_good {B : Nat} {bad : Option Int} {m : List Lb} {e : Ending} {w' : World} (hb : bad = none) (hM : m.map bl = M) (hl : M.length ≤ 64) (h : ∃ v x, e = .returned (.tuple #[v, .int .i64 x]) ∧ AnsV B bad m v x w' ∧ Kept w w') : Good M w e w' := by
  subst hb
  obtain ⟨v, x, rfl, h, hk⟩ := h
  obtain ⟨rfl, A', c', rfl, hr'⟩ := sortedV_rd h hM hl
  exact ⟨A', c', rfl, hr', hk⟩
theorem set_good (hL : L.length ≤ 400000) (hE : E.length ≤ 400000) (hr : RdL w w.heap.size A L) (hr1 : RdL w w.heap.size A1 E) (hT : Tab w) (hb : setBad L E = none) (hM : (puts [] ((L ++ E).map lb)).map bl = M) (hl : M.length ≤ 64) :
    Calls Tryz.prog 15 #[.slice A L.length c, .slice A1 E.length c1] w fun e w' => Good M w e w' :=
  (set_any A A1 c c1 L E hL hE w hr hr1 hT).mono fun _ _ h => ans_good M w hb hM hl h
theorem merge_good (hL : L.length ≤ 400000) (hE : E.length ≤ 400000) (hr : RdL w w.heap.size A L) (hr1 : RdL w w.heap.size A1 E) (hT : Tab w) (hb : mergeBad L E = none) (hM : (puts [] ((E ++ L).map lb)).map bl = M) (hl : M.length ≤ 64) :
    Calls Tryz.prog 14 #[.slice A L.length c, .slice A1 E.length c1] w fun e w' => Good M w e w' :=
  (merge_any A A1 c c1 L E hL hE w hr hr1 hT).mono fun _ _ h => ans_good M w hb hM hl h
theorem export_good (hL : L.length ≤ 400000) (hE : E.length ≤ 400000) (hr : RdL w w.heap.size A L) (hr1 : RdL w w.heap.size A1 E) (hT : Tab w) (hb : mergeBad L E = none) (hM : (expF L E (puts [] ((E ++ L).map lb))).map bl = M) (hl : M.length ≤ 64) :
    Calls Tryz.prog 20 #[.slice A L.length c, .slice A1 E.length c1] w fun e w' => Good M w e w' :=
  (export_any A A1 c c1 L E hL hE w hr hr1 hT).mono fun _ _ h => ans_good M w hb hM hl h
theorem drop_good (hL : L.length ≤ 400000) (ns : List ByteArray) (hN : ns.length ≤ 4611686018427387904) (hr : RdL w w.heap.size A L) (hr1 : Rd w w.heap.size A1 ns.length (strs ns)) (hT : Tab w) (hb : rgtB L = true) (hM : (L.filter fun y => !inB y.1 ns) = M) :
    Calls Tryz.prog 25 #[.slice A L.length c, .slice A1 ns.length c1] w fun e w' => Good M w e w' :=
  (keep_any A c L hL A1 c1 ns hN w hr hr1 hT).2.mono fun e w' ⟨v, x, he, h, hk⟩ => by
    subst he
    unfold FltV at h
    rw [if_pos hb] at h
    obtain ⟨rfl, h⟩ := h
    obtain ⟨A', c', rfl, _, hr'⟩ := own_rd h
    rw [hM] at hr'
    exact ⟨A', c', by rw [← hM], hr', hk⟩
end
section
variable (a b c d e f : ByteArray) (W : World)
theorem ofLit (ns : List ByteArray) (hn : ns.length ≤ 1000) :
    Calls Tryz.prog 9 #[.slice (some ⟨W.heap.size, 0, none⟩) ns.length ns.length] (W.alloc (.cells (strs ns).toArray 9)) fun e w' => ∃ A c, e = .returned (.slice A (pairs ns).length c) ∧ RdL w' w'.heap.size A (pairs ns) ∧ Kept W w' := by
  have hk := (Below.refl W.heap.size W).alloc (Nat.le_refl _) (.cells (strs ns).toArray 9)
  have hrd := rdNew W (strs ns) 9
  have hsl : (strs ns).length = ns.length := by simp [strs]
  rw [hsl] at hrd
  refine (ofS_any (some ⟨W.heap.size, 0, none⟩) ns.length ns (by omega) _ hrd).mono ?_
  rintro e w' ⟨v, rfl, ho, hk'⟩
  obtain ⟨A, c, rfl, _, hr⟩ := own_rd ho
  rw [← pairs_length] at hr ⊢
  exact ⟨A, c, rfl, hr, Below.trans hk (Below.mono hk' (by simp))⟩
theorem of2 : Calls Tryz.prog 9 #[.slice (some ⟨W.heap.size, 0, none⟩) 2 2] (W.alloc (.cells #[.string a, .string b] 9)) fun e w' => ∃ A c, e = .returned (.slice A 1 c) ∧ RdL w' w'.heap.size A [(a, b)] ∧ Kept W w' := ofLit W [a, b] (by simp)
theorem of4 : Calls Tryz.prog 9 #[.slice (some ⟨W.heap.size, 0, none⟩) 4 4] (W.alloc (.cells #[.string a, .string b, .string c, .string d] 9)) fun e w' => ∃ A c', e = .returned (.slice A 2 c') ∧ RdL w' w'.heap.size A [(a, b), (c, d)] ∧ Kept W w' := ofLit W [a, b, c, d] (by simp)
theorem of6 : Calls Tryz.prog 9 #[.slice (some ⟨W.heap.size, 0, none⟩) 6 6] (W.alloc (.cells #[.string a, .string b, .string c, .string d, .string e, .string f] 9)) fun e' w' => ∃ A c', e' = .returned (.slice A 3 c') ∧ RdL w' w'.heap.size A [(a, b), (c, d), (e, f)] ∧ Kept W w' := ofLit W [a, b, c, d, e, f] (by simp)
end
end Go.Proofs.YtlhekeokognhmaaGreatDoor
namespace Go.Proofs.YtlhekeokognhmaaGreatDoor
open Go.RowKit Go.Shelf Go.Maps Go.Sort
def nms : List ByteArray := [⟨#[97]⟩, ⟨#[98]⟩, ⟨#[99]⟩, ⟨#[106, 111, 98]⟩, ⟨#[105, 110, 115, 116, 97, 110, 99, 101]⟩, ⟨#[95, 95, 110, 97, 109, 101, 95, 95]⟩, ⟨#[95, 95, 97, 100, 100, 114, 101, 115, 115, 95, 95]⟩, ⟨#[95, 95, 109, 101, 116, 97, 95, 120]⟩, ⟨#[101, 120, 112, 111, 114, 116, 101, 100, 95, 97]⟩, ⟨#[101, 120, 112, 111, 114, 116, 101, 100, 95, 98]⟩, ⟨#[101, 120, 112, 111, 114, 116, 101, 100, 95, 106, 111, 98]⟩, ⟨#[101, 120, 112, 111, 114, 116, 101, 100, 95, 101, 120, 112, 111, 114, 116, 101, 100, 95, 97]⟩, ⟨#[108, 101]⟩, ⟨#[65]⟩, ⟨#[95]⟩, ⟨#[120, 57]⟩]
def vls : List ByteArray := [⟨#[]⟩, ⟨#[49]⟩, ⟨#[50]⟩, ⟨#[195, 169]⟩, ⟨#[117, 112]⟩, ⟨#[97, 32, 98]⟩, ⟨#[10]⟩, ⟨#[57]⟩]
theorem nms_ok : ∀ s ∈ nms, nmB namB s = true := by
  have h : nms.all (fun s => nmB namB s) = true := by kernel_rfl
  exact fun s hs => List.all_eq_true.1 h s hs
theorem vls_ok : ∀ s ∈ vls, valB s = true := by
  have h : vls.all (fun s => valB s) = true := by kernel_rfl
  exact fun s hs => List.all_eq_true.1 h s hs
theorem names_any (w : World) : Calls Tryz.prog 96 #[] w fun e w' => ∃ g, e = .returned (.slice (some ⟨g, 0, none⟩) 16 16) ∧ w.heap.size ≤ g ∧ Hid (w'.heap[g]? = some (.cells (strs nms).toArray 9)) ∧ Kept w w' := by
  go_enter Tryz.func96, Tryz.ntmps96
  go_wp2_with fail
  go_ret
  exact ⟨_, rfl, Nat.le_refl _, heap_alloc_new _ _, (Below.refl w.heap.size w).alloc (Nat.le_refl _) _⟩
/-- What Made makes of bytes: a label of each, the newest last, its name once. -/
def madeL (p : Nat × Nat) : Lab := (nms.getD (p.1 % 16) ⟨#[]⟩, vls.getD (p.2 % 8) ⟨#[]⟩)
def made1 (out : List Lab) (x : Lab) : List Lab := (out.filter fun y => decide (y.1 ≠ x.1)) ++ [x]
end Go.Proofs.YtlhekeokognhmaaGreatDoor
namespace Go.Proofs.YtlhekeokognhmaaGreatDoor
open Go.RowKit Go.Shelf Go.Maps Go.Sort
theorem less_is (a b : ByteArray) : Op.bytesLess a.toList b.toList = decide (a.data.toList < b.data.toList) := by
  rw [Lib.toList_data, Lib.toList_data]
  exact bytesLess_eq _ _
theorem data_inj {a b : ByteArray} (h : a.data.toList = b.data.toList) : a = b := ByteArray.ext (Array.toList_inj.1 h)
theorem leS_is (a b : ByteArray) : leS a b = true ↔ a.data.toList < b.data.toList ∨ a = b := by
  unfold leS
  rw [Bool.or_eq_true, less_is, decide_eq_true_eq, str_beq, decide_eq_true_eq]
theorem ord_ok {p : Option ByteArray} {x : Lab} (h : wrE x = 0) (hx : x.2 ≠ ⟨#[]⟩) (hp : ∀ y, p = some y → y.data.toList < x.1.data.toList) : ordE p x = 0 := by
  unfold ordE
  rw [if_pos h, if_neg]
  rintro (e | ⟨y, e, hl⟩)
  · exact hx e
  · rcases (leS_is _ _).1 hl with h2 | h2
    · exact str_lt_irrefl _ (str_lt_trans (hp y e) h2)
    · have := hp y e
      rw [h2] at this
      exact str_lt_irrefl _ this
theorem ord_lt {p : Option ByteArray} {x : Lab} (h : ordE p x = 0) : ∀ y, p = some y → y.data.toList < x.1.data.toList := by
  intro y hy
  unfold ordE at h
  split at h
  · split at h
    · cases h
    · rename_i h2
      rcases str_tri y.data.toList x.1.data.toList with h3 | h3 | h3
      · exact h3
      · exact absurd (.inr ⟨y, hy, (leS_is _ _).2 (.inr (data_inj h3.symm))⟩) h2
      · exact absurd (.inr ⟨y, hy, (leS_is _ _).2 (.inl h3)⟩) h2
  · rename_i h2
    exact absurd h h2
theorem chk_srt : ∀ (i : Nat) (p : Option ByteArray) (L : List Lab), (∀ y, p = some y → ∀ x ∈ L, y.data.toList < x.1.data.toList) → (L.Pairwise fun a b => a.1.data.toList < b.1.data.toList) → (∀ x ∈ L, wrE x = 0 ∧ x.2 ≠ ⟨#[]⟩) → (chkFrom i p L).2 = 0
  | _, _, [], _, _, _ => rfl
  | i, p, x :: L, hp, hs, hw => by
    obtain ⟨h1, h2⟩ := List.pairwise_cons.1 hs
    have hx := hw x (List.mem_cons_self ..)
    unfold chkFrom
    rw [if_pos (ord_ok hx.1 hx.2 fun y e => hp y e x (List.mem_cons_self ..))]
    exact chk_srt (i + 1) (some x.1) L (fun y e z hz => by cases e; exact h1 z hz) h2 (fun z hz => hw z (List.mem_cons_of_mem _ hz))
theorem srt_chk : ∀ (i : Nat) (p : Option ByteArray) (L : List Lab), (chkFrom i p L).2 = 0 → (L.Pairwise fun a b => a.1.data.toList < b.1.data.toList) ∧ ∀ y, p = some y → ∀ x ∈ L, y.data.toList < x.1.data.toList
  | _, _, [], _ => ⟨List.Pairwise.nil, fun _ _ _ h => by cases h⟩
  | i, p, x :: L, h => by
    unfold chkFrom at h
    split at h
    · rename_i h0
      obtain ⟨h1, h2⟩ := srt_chk (i + 1) (some x.1) L h
      have hx := h2 x.1 rfl
      refine ⟨List.pairwise_cons.2 ⟨fun z hz => hx z hz, h1⟩, fun y e z hz => ?_⟩
      rcases List.mem_cons.1 hz with rfl | hz
      · exact ord_lt h0 y e
      · exact str_lt_trans (ord_lt h0 y e) (hx z hz)
    · rename_i h0
      exact absurd h h0
/-- Labels are right if they are few, in order, well formed, and have values; and only then. -/
theorem right_iff (L : List Lab) : rgtB L = true ↔ L.length ≤ 64 ∧ (L.Pairwise fun a b => a.1.data.toList < b.1.data.toList) ∧ ∀ x ∈ L, wrE x = 0 ∧ x.2 ≠ ⟨#[]⟩ := by
  constructor
  · intro h
    have hl := right_len h
    refine ⟨hl, ?_, right_all h⟩
    unfold rgtB chk at h
    rw [if_neg (by omega)] at h
    exact (srt_chk 0 none L (by simpa using h)).1
  · rintro ⟨hl, hs, hw⟩
    unfold rgtB chk
    rw [if_neg (by omega), chk_srt 0 none L (fun _ e => by cases e) hs hw]
    rfl
/-- What Of makes is right. -/
theorem made_right {L : List Lab} (h0 : fwE L = 0) (hl : (puts [] (L.map lb)).length ≤ 64) : rgtB ((puts [] (L.map lb)).map bl) = true := by
  refine (right_iff _).2 ⟨by rw [List.length_map]; exact hl, ?_, ?_⟩
  · rw [List.pairwise_map]
    exact puts_srt (m := []) List.Pairwise.nil (L.map lb)
  · intro x hx
    obtain ⟨y, hy, rfl⟩ := List.mem_map.1 hx
    have h1 := puts_full (m := []) (fun _ h => by cases h) (L.map lb) y hy
    have h2 : wrE (bl y) = 0 := puts_all (p := fun z => wrE (bl z) = 0) (m := []) (fun _ h => by cases h) (fun z hz => by
      obtain ⟨u, hu, rfl⟩ := List.mem_map.1 hz
      exact fwE_zero h0 u hu) y hy
    exact ⟨h2, fun e => h1 (str_empty.2 e)⟩
end Go.Proofs.YtlhekeokognhmaaGreatDoor
namespace Go.Proofs.YtlhekeokognhmaaGreatDoor
open Go.RowKit Go.Shelf Go.Maps Go.Sort
/-- A comparison of three answers. -/
structure O3 {α : Type} (f : α → α → Int) : Prop where
  three : ∀ a b, f a b = -1 ∨ f a b = 0 ∨ f a b = 1
  zero : ∀ a b, f a b = 0 ↔ a = b
  turn : ∀ a b, f b a = - f a b
  trans : ∀ a b c, f a b = -1 → f b c = -1 → f a c = -1
theorem cmpS_is (a b : ByteArray) : cmpS a b = if a.data.toList < b.data.toList then -1 else if a = b then 0 else 1 := by
  unfold cmpS
  rw [less_is, str_beq]
  simp
theorem cmpS_neg {a b : ByteArray} : cmpS a b = -1 ↔ a.data.toList < b.data.toList := by
  rw [cmpS_is]
  split
  · rename_i h; exact ⟨fun _ => h, fun _ => rfl⟩
  · rename_i h
    refine ⟨fun e => ?_, fun e => absurd e h⟩
    split at e <;> cases e
theorem cmpS_o3 : O3 cmpS where
  three a b := by
    rw [cmpS_is]
    split
    · exact .inl rfl
    · split
      · exact .inr (.inl rfl)
      · exact .inr (.inr rfl)
  zero a b := by
    rw [cmpS_is]
    split
    · rename_i h
      exact ⟨fun e => (by cases e), fun e => (by rw [e] at h; exact absurd h (str_lt_irrefl _))⟩
    · split
      · rename_i h; exact ⟨fun _ => h, fun _ => rfl⟩
      · rename_i h; exact ⟨fun e => (by cases e), fun e => absurd e h⟩
  turn a b := by
    rw [cmpS_is, cmpS_is]
    rcases str_tri a.data.toList b.data.toList with h | h | h
    · have h2 : ¬ b.data.toList < a.data.toList := fun e => str_lt_irrefl _ (str_lt_trans h e)
      have h3 : ¬ b = a := fun e => by rw [e] at h; exact str_lt_irrefl _ h
      rw [if_neg h2, if_neg h3, if_pos h]
      rfl
    · have := data_inj h
      subst this
      rw [if_neg (str_lt_irrefl _), if_pos rfl]
      rfl
    · have h2 : ¬ a.data.toList < b.data.toList := fun e => str_lt_irrefl _ (str_lt_trans h e)
      have h3 : ¬ a = b := fun e => by rw [e] at h; exact str_lt_irrefl _ h
      rw [if_pos h, if_neg h2, if_neg h3]
  trans a b c h1 h2 := cmpS_neg.2 (str_lt_trans (cmpS_neg.1 h1) (cmpS_neg.1 h2))
theorem cmp1_o3 : O3 cmp1 where
  three x y := by
    unfold cmp1
    split
    · exact cmpS_o3.three _ _
    · exact cmpS_o3.three _ _
  zero x y := by
    unfold cmp1
    split
    · rename_i h
      rw [cmpS_o3.zero] at h ⊢
      exact ⟨fun e => Prod.ext h e, fun e => by rw [e]⟩
    · rename_i h
      exact ⟨fun e => absurd e h, fun e => absurd ((cmpS_o3.zero _ _).2 (by rw [e])) h⟩
  turn x y := by
    unfold cmp1
    rw [cmpS_o3.turn x.1 y.1, cmpS_o3.turn x.2 y.2]
    by_cases h : cmpS x.1 y.1 = 0
    · rw [if_pos h, if_pos (by omega)]
    · rw [if_neg h, if_neg (by omega)]
  trans x y z := by
    unfold cmp1
    intro h1 h2
    by_cases a : cmpS x.1 y.1 = 0
    · rw [if_pos a] at h1
      rw [(cmpS_o3.zero _ _).1 a]
      by_cases b : cmpS y.1 z.1 = 0
      · rw [if_pos b] at h2 ⊢
        exact cmpS_o3.trans _ _ _ h1 h2
      · rw [if_neg b] at h2 ⊢
        exact h2
    · rw [if_neg a] at h1
      by_cases b : cmpS y.1 z.1 = 0
      · rw [← (cmpS_o3.zero _ _).1 b, if_neg a]
        exact h1
      · rw [if_neg b] at h2
        have := cmpS_o3.trans _ _ _ h1 h2
        rw [if_neg (by omega)]
        exact this
theorem cmpL_three : ∀ L E, cmpL L E = -1 ∨ cmpL L E = 0 ∨ cmpL L E = 1
  | [], [] => .inr (.inl rfl)
  | [], _ :: _ => .inl rfl
  | _ :: _, [] => .inr (.inr rfl)
  | x :: L, y :: E => by
    unfold cmpL
    split
    · exact cmpL_three L E
    · exact cmp1_o3.three x y
theorem cmpL_zero : ∀ L E, cmpL L E = 0 ↔ L = E
  | [], [] => ⟨fun _ => rfl, fun _ => rfl⟩
  | [], _ :: _ => ⟨fun e => (by cases e), fun e => (by cases e)⟩
  | _ :: _, [] => ⟨fun e => (by cases e), fun e => (by cases e)⟩
  | x :: L, y :: E => by
    unfold cmpL
    split
    · rename_i h
      rw [cmpL_zero L E, (cmp1_o3.zero x y).1 h]
      exact ⟨fun e => by rw [e], fun e => by injection e⟩
    · rename_i h
      exact ⟨fun e => absurd e h, fun e => absurd ((cmp1_o3.zero x y).2 (by injection e)) h⟩
theorem cmpL_turn : ∀ L E, cmpL E L = - cmpL L E
  | [], [] => rfl
  | [], _ :: _ => rfl
  | _ :: _, [] => rfl
  | x :: L, y :: E => by
    have h := cmp1_o3.turn x y
    unfold cmpL
    rw [h]
    by_cases a : cmp1 x y = 0
    · rw [if_pos a, if_pos (by omega)]
      exact cmpL_turn L E
    · rw [if_neg a, if_neg (by omega)]
theorem cmpL_trans : ∀ L E F, cmpL L E = -1 → cmpL E F = -1 → cmpL L F = -1
  | [], [], _, h, _ => by cases h
  | [], _ :: _, [], _, h => by cases h
  | [], _ :: _, _ :: _, _, _ => rfl
  | _ :: _, [], _, h, _ => by cases h
  | _ :: _, _ :: _, [], _, h => by cases h
  | x :: L, y :: E, z :: F, h1, h2 => by
    unfold cmpL at h1 h2 ⊢
    by_cases a : cmp1 x y = 0
    · rw [if_pos a] at h1
      rw [(cmp1_o3.zero _ _).1 a]
      by_cases b : cmp1 y z = 0
      · rw [if_pos b] at h2 ⊢
        exact cmpL_trans L E F h1 h2
      · rw [if_neg b] at h2 ⊢
        exact h2
    · rw [if_neg a] at h1
      by_cases b : cmp1 y z = 0
      · rw [← (cmp1_o3.zero _ _).1 b, if_neg a]
        exact h1
      · rw [if_neg b] at h2
        have := cmp1_o3.trans _ _ _ h1 h2
        rw [if_neg (by omega)]
        exact this
theorem cmpL_o3 : O3 cmpL := ⟨cmpL_three, cmpL_zero, cmpL_turn, cmpL_trans⟩
theorem O3.le {α : Type} {f : α → α → Int} (h : O3 f) {a b c : α} (h1 : f a b ≤ 0) (h2 : f b c ≤ 0) : f a c ≤ 0 := by
  rcases h.three a b with e | e | e
  · rcases h.three b c with e2 | e2 | e2
    · have := h.trans a b c e e2; omega
    · rw [← (h.zero b c).1 e2]; omega
    · omega
  · rw [(h.zero a b).1 e]; exact h2
  · omega
/-- A part from the front is before the whole. -/
theorem cmpL_part : ∀ (L : List Lab) (k : Nat), k < L.length → cmpL (L.take k) L = -1
  | [], k, h => by simp at h
  | x :: L, 0, _ => rfl
  | x :: L, k + 1, h => by
    rw [List.take_succ_cons]
    unfold cmpL
    rw [if_pos ((cmp1_o3.zero x x).2 rfl)]
    exact cmpL_part L k (by simpa using h)
end Go.Proofs.YtlhekeokognhmaaGreatDoor
namespace Go.Proofs.YtlhekeokognhmaaGreatDoor
open Go.RowKit Go.Shelf Go.Maps Go.Sort
def mkL (ps : List (Nat × Nat)) : List Lab := ps.foldl (fun out p => made1 out (madeL p)) []
theorem getD_mem {l : List ByteArray} {i : Nat} (h : i < l.length) (d : ByteArray) : l.getD i d ∈ l := by
  rw [List.getD_eq_getElem?_getD, List.getElem?_eq_getElem h]
  exact List.getElem_mem h
theorem madeL_ok (p : Nat × Nat) : wrE (madeL p) = 0 := by
  unfold wrE madeL
  dsimp only
  rw [if_pos (nms_ok _ (getD_mem (by show p.1 % 16 < 16; omega) _)), if_pos (vls_ok _ (getD_mem (by show p.2 % 8 < 8; omega) _))]
theorem madeL_name (p : Nat × Nat) : (madeL p).1 ∈ nms := getD_mem (by show p.1 % 16 < 16; omega) _
/-- A property of labels that each made one has. -/
theorem made_all {q : Lab → Prop} : ∀ (ps : List (Nat × Nat)) (out : List Lab), (∀ x ∈ out, q x) → (∀ p, q (madeL p)) → ∀ x ∈ ps.foldl (fun out p => made1 out (madeL p)) out, q x
  | [], _, h, _ => h
  | p :: ps, out, h, hq => by
    refine made_all ps _ ?_ hq
    intro x hx
    unfold made1 at hx
    rcases List.mem_append.1 hx with hx | hx
    · exact h x (List.mem_filter.1 hx).1
    · rw [List.mem_singleton.1 hx]
      exact hq p
/-- Names are there once. -/
def Once (L : List Lab) : Prop := L.Pairwise fun x y => x.1 ≠ y.1
theorem made_once : ∀ (ps : List (Nat × Nat)) (out : List Lab), Once out → Once (ps.foldl (fun out p => made1 out (madeL p)) out)
  | [], _, h => h
  | p :: ps, out, h => by
    refine made_once ps _ ?_
    unfold made1 Once
    refine List.pairwise_append.2 ⟨h.filter _, List.pairwise_singleton _ _, ?_⟩
    intro x hx y hy
    rw [List.mem_singleton.1 hy]
    have := (List.mem_filter.1 hx).2
    simpa using this
theorem mkL_once (ps : List (Nat × Nat)) : Once (mkL ps) := made_once ps [] List.Pairwise.nil
theorem mkL_ok (ps : List (Nat × Nat)) : ∀ x ∈ mkL ps, wrE x = 0 := made_all ps [] (fun _ h => by cases h) madeL_ok
theorem mkL_names (ps : List (Nat × Nat)) : ∀ x ∈ mkL ps, x.1 ∈ nms := made_all ps [] (fun _ h => by cases h) madeL_name
theorem fwE_ok : ∀ {L : List Lab}, (∀ x ∈ L, wrE x = 0) → fwE L = 0
  | [], _ => rfl
  | x :: L, h => by
    unfold fwE
    rw [if_pos (h x (List.mem_cons_self ..))]
    exact fwE_ok fun y hy => h y (List.mem_cons_of_mem _ hy)
/-- Distinct names, all among some, are no more than these. -/
theorem once_len : ∀ (N : List Str) (L : List Lab), Once L → (∀ x ∈ L, x.1.data.toList ∈ N) → L.length ≤ N.length
  | N, [], _, _ => Nat.zero_le _
  | N, x :: L, h, hN => by
    obtain ⟨h1, h2⟩ := List.pairwise_cons.1 h
    have hx := hN x (List.mem_cons_self ..)
    have h3 := once_len (N.erase x.1.data.toList) L h2 (fun y hy => (List.mem_erase_of_ne (fun e => h1 y hy (data_inj e.symm))).2 (hN y (List.mem_cons_of_mem _ hy)))
    rw [List.length_erase_of_mem hx] at h3
    have := List.length_pos_of_mem hx
    rw [List.length_cons]
    omega
theorem mkL_len (ps : List (Nat × Nat)) : (mkL ps).length ≤ 16 := once_len (nms.map fun s => s.data.toList) _ (mkL_once ps) (fun x hx => List.mem_map.2 ⟨x.1, mkL_names ps x hx, rfl⟩)
theorem fold_once : ∀ (L : List Lab) (acc : List Lab), Once (acc ++ L) → (L.map keyL).foldl addKey (acc.map keyL) = (acc ++ L).map keyL
  | [], acc, _ => by simp
  | x :: L, acc, h => by
    have h2 : Once ((acc ++ [x]) ++ L) := by rw [List.append_assoc]; exact h
    rw [List.map_cons, List.foldl_cons]
    have hk : addKey (acc.map keyL) (keyL x) = (acc ++ [x]).map keyL := by
      unfold addKey
      rw [if_neg]
      · simp
      · intro e
        obtain ⟨y, hy, e⟩ := List.any_eq_true.1 e
        obtain ⟨z, hz, rfl⟩ := List.mem_map.1 hy
        have hne : z.1 ≠ x.1 := (List.pairwise_append.1 h).2.2 z hz x (List.mem_cons_self ..)
        apply hne
        apply data_inj
        simpa [keyL, Lit.sameKey] using e
    rw [hk, fold_once L (acc ++ [x]) h2, List.append_assoc]
    rfl
theorem once_tw {L : List Lab} (h : Once L) : twB L = false := by
  unfold twB
  have := fold_once L [] h
  rw [List.map_nil] at this
  rw [this]
  simp
/-- What Made makes, Of takes, and what comes out is right. -/
theorem mkL_right (ps : List (Nat × Nat)) : rgtB ((puts [] ((mkL ps).map lb)).map bl) = true :=
  made_right (fwE_ok (mkL_ok ps)) (by
    have h1 := puts_len [] ((mkL ps).map lb)
    have h2 := mkL_len ps
    rw [List.length_map, List.length_nil] at h1
    omega)
end Go.Proofs.YtlhekeokognhmaaGreatDoor
