/-
  What the laws' awake calls give: answers as rows that can be read.
-/
import Derived.Test.YtlhekeokognhmaaGreatDoorLbP
namespace Go.Proofs.YtlhekeokognhmaaGreatDoor
open Go.RowKit Go.Shelf Go.Maps Go.Sort
theorem sortedV_rd {B : Nat} {m : List Lb} {v : Value} {x : Int} {w' : World} {M : List Lab} (h : SortedV B m v x w') (hM : m.map bl = M) (hl : M.length ≤ 64) : x = 0 ∧ ∃ A c, v = .slice A M.length c ∧ RdL w' w'.heap.size A M := by
  have hlen : m.length = M.length := by rw [← hM, List.length_map]
  rcases h with ⟨h, _⟩ | ⟨_, hx, ho⟩
  · omega
  · obtain ⟨A, c, rfl, _, hr⟩ := own_rd ho
    rw [hM, hlen] at hr
    exact ⟨hx, A, c, by rw [hlen], hr⟩
/-- What a call answers: labels that can be read, and no error. -/
def Good (M : List Lab) (w : World) (e : Ending) (w' : World) : Prop := ∃ A c, e = .returned (.tuple #[.slice A M.length c, .int .i64 0]) ∧ RdL w' w'.heap.size A M ∧ Kept w w'
section
variable (A A1 : Option Addr) (c c1 : Nat) (L E M : List Lab) (w : World)
theorem of_good (hL : L.length ≤ 400000) (hr : RdL w w.heap.size A L) (hT : Tab w) (h0 : fwE L = 0) (h1 : twB L = false) (hM : (puts [] (L.map lb)).map bl = M) (hl : M.length ≤ 64) :
    Calls Tryz.prog 13 #[.slice A L.length c] w fun e w' => Good M w e w' :=
  (of_any A c L (by omega) w hr hT).mono fun e w' ⟨h, hk⟩ => by
    rcases h with ⟨h, _⟩ | ⟨_, h, _⟩ | ⟨_, _, v, x, rfl, h⟩
    · exact absurd h0 h
    · rw [h1] at h; cases h
    · obtain ⟨rfl, A', c', rfl, hr'⟩ := sortedV_rd h hM hl
      exact ⟨A', c', rfl, hr', hk⟩
theorem of_twice (hL : L.length ≤ 400000) (hr : RdL w w.heap.size A L) (hT : Tab w) (h0 : fwE L = 0) (h1 : twB L = true) :
    Calls Tryz.prog 13 #[.slice A L.length c] w fun e w' => e = .returned (.tuple #[.slice none 0 0, .int .i64 43]) ∧ Kept w w' :=
  (of_any A c L (by omega) w hr hT).mono fun e w' ⟨h, hk⟩ => by
    rcases h with ⟨h, _⟩ | ⟨_, _, h⟩ | ⟨_, h, _⟩
    · exact absurd h0 h
    · exact ⟨h, hk⟩
    · rw [h1] at h; cases h
theorem ans_good {B : Nat} {bad : Option Int} {m : List Lb} {e : Ending} {w' : World} (hb : bad = none) (hM : m.map bl = M) (hl : M.length ≤ 64) (h : ∃ v x, e = .returned (.tuple #[v, .int .i64 x]) ∧ AnsV B bad m v x w' ∧ Kept w w') : Good M w e w' := by
  subst hb
  obtain ⟨v, x, rfl, h, hk⟩ := h
  obtain ⟨rfl, A', c', rfl, hr'⟩ := sortedV_rd h hM hl
  exact ⟨A', c', rfl, hr', hk⟩
theorem set_good (hL : L.length ≤ 400000) (hE : E.length ≤ 400000) (hr : RdL w w.heap.size A L) (hr1 : RdL w w.heap.size A1 E) (hT : Tab w) (hb : setBad L E = none) (hM : (puts [] ((L ++ E).map lb)).map bl = M) (hl : M.length ≤ 64) :
    Calls Tryz.prog 15 #[.slice A L.length c, .slice A1 E.length c1] w fun e w' => Good M w e w' :=
  (set_any A A1 c c1 L E hL hE w hr hr1 hT).mono fun _ _ h => ans_good M w hb hM hl h
theorem merge_good (hL : L.length ≤ 400000) (hE : E.length ≤ 400000) (hr : RdL w w.heap.size A L) (hr1 : RdL w w.heap.size A1 E) (hT : Tab w) (hb : mergeBad L E = none) (hM : (puts [] ((E ++ L).map lb)).map bl = M) (hl : M.length ≤ 64) :
    Calls Tryz.prog 14 #[.slice A L.length c, .slice A1 E.length c1] w fun e w' => Good M w e w' :=
  (merge_any A A1 c c1 L E hL hE w hr hr1 hT).mono fun _ _ h => ans_good M w hb hM hl h
theorem export_good (hL : L.length ≤ 400000) (hE : E.length ≤ 400000) (hr : RdL w w.heap.size A L) (hr1 : RdL w w.heap.size A1 E) (hT : Tab w) (hb : mergeBad L E = none) (hM : (expF L E (puts [] ((E ++ L).map lb))).map bl = M) (hl : M.length ≤ 64) :
    Calls Tryz.prog 20 #[.slice A L.length c, .slice A1 E.length c1] w fun e w' => Good M w e w' :=
  (export_any A A1 c c1 L E hL hE w hr hr1 hT).mono fun _ _ h => ans_good M w hb hM hl h
theorem drop_good (hL : L.length ≤ 400000) (ns : List ByteArray) (hN : ns.length ≤ 4611686018427387904) (hr : RdL w w.heap.size A L) (hr1 : Rd w w.heap.size A1 ns.length (strs ns)) (hT : Tab w) (hb : rgtB L = true) (hM : (L.filter fun y => !inB y.1 ns) = M) :
    Calls Tryz.prog 25 #[.slice A L.length c, .slice A1 ns.length c1] w fun e w' => Good M w e w' :=
  (keep_any A c L hL A1 c1 ns hN w hr hr1 hT).2.mono fun e w' ⟨v, x, he, h, hk⟩ => by
    subst he
    unfold FltV at h
    rw [if_pos hb] at h
    obtain ⟨rfl, h⟩ := h
    obtain ⟨A', c', rfl, _, hr'⟩ := own_rd h
    rw [hM] at hr'
    exact ⟨A', c', by rw [← hM], hr', hk⟩
end
section
variable (a b c d e f : ByteArray) (W : World)
theorem ofLit (ns : List ByteArray) (hn : ns.length ≤ 1000) :
    Calls Tryz.prog 9 #[.slice (some ⟨W.heap.size, 0, none⟩) ns.length ns.length] (W.alloc (.cells (strs ns).toArray 9)) fun e w' => ∃ A c, e = .returned (.slice A (pairs ns).length c) ∧ RdL w' w'.heap.size A (pairs ns) ∧ Kept W w' := by
  have hk := (Below.refl W.heap.size W).alloc (Nat.le_refl _) (.cells (strs ns).toArray 9)
  have hrd := rdNew W (strs ns) 9
  have hsl : (strs ns).length = ns.length := by simp [strs]
  rw [hsl] at hrd
  refine (ofS_any (some ⟨W.heap.size, 0, none⟩) ns.length ns (by omega) _ hrd).mono ?_
  rintro e w' ⟨v, rfl, ho, hk'⟩
  obtain ⟨A, c, rfl, _, hr⟩ := own_rd ho
  rw [← pairs_length] at hr ⊢
  exact ⟨A, c, rfl, hr, Below.trans hk (Below.mono hk' (by simp))⟩
theorem of2 : Calls Tryz.prog 9 #[.slice (some ⟨W.heap.size, 0, none⟩) 2 2] (W.alloc (.cells #[.string a, .string b] 9)) fun e w' => ∃ A c, e = .returned (.slice A 1 c) ∧ RdL w' w'.heap.size A [(a, b)] ∧ Kept W w' := ofLit W [a, b] (by simp)
theorem of4 : Calls Tryz.prog 9 #[.slice (some ⟨W.heap.size, 0, none⟩) 4 4] (W.alloc (.cells #[.string a, .string b, .string c, .string d] 9)) fun e w' => ∃ A c', e = .returned (.slice A 2 c') ∧ RdL w' w'.heap.size A [(a, b), (c, d)] ∧ Kept W w' := ofLit W [a, b, c, d] (by simp)
theorem of6 : Calls Tryz.prog 9 #[.slice (some ⟨W.heap.size, 0, none⟩) 6 6] (W.alloc (.cells #[.string a, .string b, .string c, .string d, .string e, .string f] 9)) fun e' w' => ∃ A c', e' = .returned (.slice A 3 c') ∧ RdL w' w'.heap.size A [(a, b), (c, d), (e, f)] ∧ Kept W w' := ofLit W [a, b, c, d, e, f] (by simp)
end
end Go.Proofs.YtlhekeokognhmaaGreatDoor
