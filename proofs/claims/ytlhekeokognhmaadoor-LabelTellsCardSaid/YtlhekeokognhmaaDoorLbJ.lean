/-
  Set and Merge.
-/
import Derived.Test.YtlhekeokognhmaaDoorMgam
namespace Go.Proofs.YtlhekeokognhmaaDoor
open Go.RowKit Go.Shelf Go.Maps Go.Sort
/-- What right labels are, one by one. -/
theorem chkFrom_right : ∀ {i : Nat} {p : Option ByteArray} {L : List Lab}, (chkFrom i p L).2 = 0 → ∀ x ∈ L, wrE x = 0 ∧ x.2 ≠ ⟨#[]⟩
  | i, p, y :: L, h, x, hx => by
    unfold chkFrom at h
    split at h
    · rename_i h0
      rcases List.mem_cons.1 hx with rfl | hx
      · unfold ordE at h0
        split at h0
        · rename_i h1
          refine ⟨h1, fun e => ?_⟩
          rw [if_pos (.inl e)] at h0
          cases h0
        · rename_i h1
          exact absurd h0 h1
      · exact chkFrom_right h x hx
    · rename_i h0
      exact absurd h h0
theorem right_len {L : List Lab} (h : rgtB L = true) : L.length ≤ 64 := by
  unfold rgtB chk at h
  split at h
  · cases h
  · omega
theorem right_all {L : List Lab} (h : rgtB L = true) : ∀ x ∈ L, wrE x = 0 ∧ x.2 ≠ ⟨#[]⟩ := by
  have hl := right_len h
  unfold rgtB chk at h
  rw [if_neg (by omega)] at h
  exact chkFrom_right (by simpa using h)
/-- An answer: an error's number, or labels in order, or too many. -/
def AnsV (B : Nat) (bad : Option Int) (m : List Lb) (v : Value) (x : Int) (w' : World) : Prop :=
  match bad with
  | some q => v = .slice none 0 0 ∧ x = q
  | none => SortedV B m v x w'
section
variable (A A1 : Option Addr) (c c1 : Nat) (L E : List Lab) (w : World)
theorem put2 (hr : RdL w w.heap.size A L) (hr1 : RdL w w.heap.size A1 E) (hL : L.length ≤ 400000) (hE : E.length ≤ 400000) (hs : ∀ x ∈ L, smallL x) (hs1 : ∀ x ∈ E, smallL x) (W : World) (h : Kept w W) :
    Calls Tryd.prog 47 #[.slice (some ⟨W.heap.size, 0, none⟩) 2 2] (W.alloc (.cells #[.slice A L.length c, .slice A1 E.length c1] 22)) fun e w' => ∃ b n D, e = .returned (.map (some b)) ∧ w'.ownsMap Tryd.prog 9 PE b n D ∧ MapIs D (find (puts [] ((L ++ E).map lb))) ∧ Kept W w' := by
  have hk := (Below.refl W.heap.size W).alloc (Nat.le_refl _) (.cells #[.slice A L.length c, .slice A1 E.length c1] 22)
  refine (put_any (some ⟨W.heap.size, 0, none⟩) 2 [(A, c, L), (A1, c1, E)] (by simp) (W.alloc (.cells #[.slice A L.length c, .slice A1 E.length c1] 22)) (rdNew W [.slice A L.length c, .slice A1 E.length c1] 22) ?_ ?_ ?_).mono ?_
  · intro r hr'
    simp only [List.mem_cons, List.not_mem_nil, or_false] at hr'
    rcases hr' with rfl | rfl
    · exact ⟨(hr.below (Below.trans h (hk.mono (Below.size h)))).more (Nat.le_trans (Below.size h) (by simp)), by show L.length ≤ _; omega⟩
    · exact ⟨(hr1.below (Below.trans h (hk.mono (Below.size h)))).more (Nat.le_trans (Below.size h) (by simp)), by show E.length ≤ _; omega⟩
  · intro r hr'
    simp only [List.mem_cons, List.not_mem_nil, or_false] at hr'
    rcases hr' with rfl | rfl
    · exact hs
    · exact hs1
  · simp; omega
  · rintro e w' ⟨b, n, D, rfl, ho, hD, _, _, hk'⟩
    refine ⟨b, n, D, rfl, ho, ?_, Below.trans hk (Below.mono hk' (by simp))⟩
    simpa using hD
theorem sorted2 (hL : L.length ≤ 400000) (hE : E.length ≤ 400000) (hs : ∀ x ∈ L, smallL x) (hs1 : ∀ x ∈ E, smallL x) (W : World) (b n : Nat) (D : DataW H0) (ho : W.ownsMap Tryd.prog 9 PE b n D) (hD : MapIs D (find (puts [] ((L ++ E).map lb)))) :
    Calls Tryd.prog 46 #[.map (some b)] W fun e w' => ∃ v x, e = .returned (.tuple #[v, .int .i64 x]) ∧ SortedV W.heap.size (puts [] ((L ++ E).map lb)) v x w' ∧ Kept W w' := by
  have := putSorted W [(none, 0, L), (none, 0, E)] (fun r hr' => by
    simp only [List.mem_cons, List.not_mem_nil, or_false] at hr'
    rcases hr' with rfl | rfl
    · exact hs
    · exact hs1) (by simp; omega) b n D ho (by simpa using hD)
  simpa using this
end
def setBad (L E : List Lab) : Option Int := if rgtB L = true then (if fwE E = 0 then none else some (fwE E)) else some 44
set_option maxRecDepth 100000 in
theorem set_any (A A1 : Option Addr) (c c1 : Nat) (L E : List Lab) (hL : L.length ≤ 400000) (hE : E.length ≤ 400000) (w : World) (hr : RdL w w.heap.size A L) (hr1 : RdL w w.heap.size A1 E) (hT : Tab w) :
    Calls Tryd.prog 20 #[.slice A L.length c, .slice A1 E.length c1] w fun e w' => ∃ v x, e = .returned (.tuple #[v, .int .i64 x]) ∧ AnsV w.heap.size (setBad L E) (puts [] ((L ++ E).map lb)) v x w' ∧ Kept w w' := by
  have CR := Lib.hid (right_any A c L (by omega) w hr hT)
  have CF : Hid (∀ W, Kept w W → Calls Tryd.prog 44 #[.slice A1 E.length c1] W fun e w' => e = .returned (.int .i64 (fwE E)) ∧ Kept W w') := fun W h => firstWrong_any A1 c1 E (by omega) W ((hr1.below h).more h.size) (hT.below h)
  unfold setBad
  by_cases hR : rgtB L = true
  · rw [if_pos hR]
    have hs : ∀ x ∈ L, smallL x := fun x hx => small_of (right_all hR x hx).1
    rw [hR] at CR
    by_cases h0 : fwE E = 0
    · rw [if_pos h0]
      have hs1 : ∀ x ∈ E, smallL x := fun x hx => small_of (fwE_zero h0 x hx)
      have CP := Lib.hid (put2 A A1 c c1 L E w hr hr1 hL hE hs hs1)
      have CS := Lib.hid (sorted2 L E hL hE hs hs1)
      rw [h0] at CF
      generalize puts [] ((L ++ E).map lb) = m at *
      clear hr hr1 hT hs hs1 hR h0 hL hE
      go_enter Tryd.func20, Tryd.ntmps20
      go_wp2_with (first
        | (go_at_call 14; refine CR.out.mono ?_; rintro e w1 ⟨rfl, hk⟩; have HK1 := Lib.hid hk; clear hk)
        | (go_at_call 44; refine (CF.out _ HK1.out).mono ?_; rintro e w2 ⟨rfl, hk⟩; have HK2 := Lib.hid (below_kept HK1.out hk); clear hk)
        | (go_at_call 47; refine (CP.out _ HK2.out).mono ?_; rintro e w3 ⟨b, n, D, rfl, ho, hD, hk⟩; have HO := Lib.hid ho; have HD := Lib.hid hD; have HK3 := Lib.hid (below_kept HK2.out hk); clear ho hD hk)
        | (go_at_call 46; refine (CS.out _ _ _ _ HO.out HD.out).mono ?_; rintro e w4 ⟨v, x, rfl, h4, hk⟩; have H4 := Lib.hid h4; have HK4 := Lib.hid (below_kept HK3.out hk); clear h4 hk))
      go_ret2
      exact ⟨_, _, rfl, H4.out.more (Below.size HK3.out), HK4.out⟩
    · rw [if_neg h0]
      have hb : (fwE E != 0) = true := bne_iff_ne.2 h0
      generalize fwE E = ee at *
      clear hr hr1 hT hs hR hL hE
      go_enter Tryd.func20, Tryd.ntmps20
      go_wp2_with (first
        | (go_at_call 14; refine CR.out.mono ?_; rintro e w1 ⟨rfl, hk⟩; have HK1 := Lib.hid hk; clear hk)
        | (go_at_call 44; refine (CF.out _ HK1.out).mono ?_; rintro e w2 ⟨rfl, hk⟩; have HK2 := Lib.hid (below_kept HK1.out hk); clear hk))
      go_ret2
      exact ⟨_, _, rfl, ⟨rfl, rfl⟩, HK2.out⟩
  · rw [if_neg hR]
    have hf : rgtB L = false := by simpa using hR
    rw [hf] at CR
    clear hr hr1 hT hR hL hE
    go_enter Tryd.func20, Tryd.ntmps20
    go_wp2_with (go_at_call 14; refine CR.out.mono ?_; rintro e w1 ⟨rfl, hk⟩; have HK1 := Lib.hid hk; clear hk)
    go_ret2
    exact ⟨_, _, rfl, ⟨rfl, rfl⟩, HK1.out⟩
def mergeBad (L E : List Lab) : Option Int := if rgtB L = true ∧ rgtB E = true then none else some 44
set_option maxRecDepth 100000 in
theorem merge_any (A A1 : Option Addr) (c c1 : Nat) (L E : List Lab) (hL : L.length ≤ 400000) (hE : E.length ≤ 400000) (w : World) (hr : RdL w w.heap.size A L) (hr1 : RdL w w.heap.size A1 E) (hT : Tab w) :
    Calls Tryd.prog 21 #[.slice A L.length c, .slice A1 E.length c1] w fun e w' => ∃ v x, e = .returned (.tuple #[v, .int .i64 x]) ∧ AnsV w.heap.size (mergeBad L E) (puts [] ((E ++ L).map lb)) v x w' ∧ Kept w w' := by
  have CR := Lib.hid (right_any A c L (by omega) w hr hT)
  have CQ : Hid (∀ W, Kept w W → Calls Tryd.prog 14 #[.slice A1 E.length c1] W fun e w' => e = .returned (.bool (rgtB E)) ∧ Kept W w') := fun W h => right_any A1 c1 E (by omega) W ((hr1.below h).more h.size) (hT.below h)
  unfold mergeBad
  rcases hR : rgtB L with _ | _
  · rw [if_neg (by simp)]
    rw [hR] at CR
    clear hr hr1 hT hR hL hE
    go_enter Tryd.func21, Tryd.ntmps21
    go_wp2_with (go_at_call 14; refine CR.out.mono ?_; rintro e w1 ⟨rfl, hk⟩; have HK1 := Lib.hid hk; clear hk)
    go_ret2
    exact ⟨_, _, rfl, ⟨rfl, rfl⟩, HK1.out⟩
  · rcases hQ : rgtB E with _ | _
    · rw [if_neg (by simp)]
      rw [hR] at CR
      rw [hQ] at CQ
      clear hr hr1 hT hR hQ hL hE
      go_enter Tryd.func21, Tryd.ntmps21
      go_wp2_with (first
        | (go_at_call 14; refine (CQ.out _ HK1.out).mono ?_; rintro e w2 ⟨rfl, hk⟩; have HK2 := Lib.hid (below_kept HK1.out hk); clear hk)
        | (go_at_call 14; refine CR.out.mono ?_; rintro e w1 ⟨rfl, hk⟩; have HK1 := Lib.hid hk; clear hk))
      go_ret2
      exact ⟨_, _, rfl, ⟨rfl, rfl⟩, HK2.out⟩
    · rw [if_pos ⟨rfl, rfl⟩]
      have hs : ∀ x ∈ L, smallL x := fun x hx => small_of (right_all hR x hx).1
      have hs1 : ∀ x ∈ E, smallL x := fun x hx => small_of (right_all hQ x hx).1
      have CP := Lib.hid (put2 A1 A c1 c E L w hr1 hr hE hL hs1 hs)
      have CS := Lib.hid (sorted2 E L hE hL hs1 hs)
      rw [hR] at CR
      rw [hQ] at CQ
      generalize puts [] ((E ++ L).map lb) = m at *
      clear hr hr1 hT hR hQ hL hE hs hs1
      go_enter Tryd.func21, Tryd.ntmps21
      go_wp2_with (first
        | (go_at_call 14; refine (CQ.out _ HK1.out).mono ?_; rintro e w2 ⟨rfl, hk⟩; have HK2 := Lib.hid (below_kept HK1.out hk); clear hk)
        | (go_at_call 14; refine CR.out.mono ?_; rintro e w1 ⟨rfl, hk⟩; have HK1 := Lib.hid hk; clear hk)
        | (go_at_call 47; refine (CP.out _ HK2.out).mono ?_; rintro e w3 ⟨b, n, D, rfl, ho, hD, hk⟩; have HO := Lib.hid ho; have HD := Lib.hid hD; have HK3 := Lib.hid (below_kept HK2.out hk); clear ho hD hk)
        | (go_at_call 46; refine (CS.out _ _ _ _ HO.out HD.out).mono ?_; rintro e w4 ⟨v, x, rfl, h4, hk⟩; have H4 := Lib.hid h4; have HK4 := Lib.hid (below_kept HK3.out hk); clear h4 hk))
      go_ret2
      exact ⟨_, _, rfl, H4.out.more (Below.size HK3.out), HK4.out⟩
end Go.Proofs.YtlhekeokognhmaaDoor
