/-
  Right, index, Get. Set and Merge.
-/
import Derived.Test.YtlhekeokognhmaaGreatDoorMgaj
namespace Go.Proofs.YtlhekeokognhmaaGreatDoor
open Go.RowKit Go.Shelf Go.Maps Go.Sort
def rgtB (L : List Lab) : Bool := (chk L).2 == 0
theorem right_any (A : Option Addr) (c : Nat) (L : List Lab) (hL : L.length ≤ 4611686018427387904) (w : World) (hr : RdL w w.heap.size A L) (hT : Tab w) :
    Calls Tryz.prog 16 #[.slice A L.length c] w fun e w' => e = .returned (.bool (rgtB L)) ∧ Kept w w' := by
  have C := Lib.hid (check_any' A c L hL w hr hT)
  unfold rgtB
  generalize chk L = p at *
  obtain ⟨i, x⟩ := p
  clear hr hT
  go_enter Tryz.func16, Tryz.ntmps16
  go_wp2_with (go_at_call 12; refine C.out.mono ?_; rintro e w1 ⟨rfl, hk⟩; have HK := Lib.hid hk; clear hk)
  go_ret
  exact ⟨rfl, HK.out⟩
def idxFrom (s : ByteArray) : Nat → List Lab → Int
  | _, [] => -1
  | i, x :: L => if x.1 = s then (i : Int) else idxFrom s (i + 1) L
def getL (s : ByteArray) : List Lab → ByteArray
  | [] => ⟨#[]⟩
  | x :: L => if x.1 = s then x.2 else getL s L
theorem idx_get (s : ByteArray) : ∀ (i : Nat) (L : List Lab), (idxFrom s i L = -1 ∧ getL s L = ⟨#[]⟩ ∧ ∀ x ∈ L, x.1 ≠ s) ∨ (∃ j x, j < L.length ∧ idxFrom s i L = ((i + j : Nat) : Int) ∧ L[j]? = some x ∧ getL s L = x.2 ∧ x.1 = s)
  | i, [] => .inl ⟨rfl, rfl, fun _ h => by cases h⟩
  | i, x :: L => by
    unfold idxFrom getL
    by_cases h : x.1 = s
    · rw [if_pos h, if_pos h]
      exact .inr ⟨0, x, by simp, rfl, rfl, rfl, h⟩
    · rw [if_neg h, if_neg h]
      rcases idx_get s (i + 1) L with ⟨h1, h2, h3⟩ | ⟨j, y, h1, h2, h3, h4, h5⟩
      · refine .inl ⟨h1, h2, fun z hz => ?_⟩
        rcases List.mem_cons.1 hz with rfl | hz
        · exact h
        · exact h3 z hz
      · exact .inr ⟨j + 1, y, by simp; omega, by rw [h2]; congr 1; omega, h3, h4, h5⟩
theorem index1_any (x : Lab) (s : ByteArray) (g : Nat) (w : World) (hg : w.cell? ⟨g, 0, none⟩ = some (.string s)) (b : Bool) (hb : b = decide (x.1 = s)) :
    Calls Tryz.prog 101 #[.agg #[.string x.1, .string x.2], .pointer (some ⟨g, 0, none⟩)] w fun e w' => e = .returned (.bool b) ∧ Kept w w' := by
  have hg1 : (w.alloc (.cells #[.string x.1, .string x.2] 33)).cell? ⟨g, 0, none⟩ = some (.string s) := (Below.cell ((Below.refl w.heap.size w).alloc (Nat.le_refl _) _) (block_lt_of_cell hg)).trans hg
  have hk : Kept w (w.alloc (.cells #[.string x.1, .string x.2] 33)) := (Below.refl w.heap.size w).alloc (Nat.le_refl _) _
  have HK := Lib.hid hk
  clear hk hg
  obtain ⟨xa, xb⟩ := x
  dsimp only at hb
  by_cases h : xa = s
  · subst h
    rw [decide_eq_true rfl] at hb
    subst hb
    go_enter Tryz.func101, Tryz.ntmps101
    go_wp2_with fail
    go_ret
    exact ⟨by simp, HK.out⟩
  · have he : (xa.toList == s.toList) = false := str_ne (fun e => h (bys_eq e))
    rw [decide_eq_false h] at hb
    subst hb
    clear h
    go_enter Tryz.func101, Tryz.ntmps101
    go_wp2_with fail
    go_ret
    exact ⟨rfl, HK.out⟩
set_option maxRecDepth 100000 in
theorem indexFunc_any (A : Option Addr) (c : Nat) (L : List Lab) (hL : L.length ≤ 4611686018427387904) (s : ByteArray) (g : Nat) (w : World) (hr : RdL w w.heap.size A L) (hg : w.cell? ⟨g, 0, none⟩ = some (.string s)) :
    Calls Tryz.prog 100 #[.slice A L.length c, .func (.func 101) #[] #[.pointer (some ⟨g, 0, none⟩)]] w fun e w' => e = .returned (.int .i64 (idxFrom s 0 L)) ∧ Kept w w' := by
  have HR := Lib.hid hr
  have HG := Lib.hid hg
  obtain ⟨n, hn⟩ : ∃ n, n = L.length := ⟨_, rfl⟩
  have Hn := Lib.hid hn
  rw [← hn] at hL ⊢
  clear hr hn hg
  go_enter Tryz.func100, Tryz.ntmps100
  go_wp2_with fail
  go_loopw [8] (fun v8 wr => ∃ k : Nat, k ≤ n ∧ v8 = .int .i64 k ∧ Hid (Kept w wr) ∧ Hid (idxFrom s 0 L = idxFrom s k (L.drop k))) (fun v8 _ => n - (intOf v8).toNat)
  case atStart => exact ⟨0, by omega, rfl, Below.refl _ _, rfl⟩
  case round =>
    obtain ⟨k, hk, rfl, hkr, hf⟩ := hrel
    by_cases hkn : k < n
    · obtain ⟨ad, x, rfl, hadb, hx, hd, hc0, hc1⟩ := rdl_at HR.out (by rw [← Hn.out]; exact hkn)
      have e0 := (Below.cell hkr.out (by rw [addBlock]; exact hadb)).trans hc0
      have e1 := (Below.cell hkr.out (by rw [addBlock]; exact hadb)).trans hc1
      have Hcl := Lib.hid (lab_cells e0 e1)
      have Hst : Hid (idxFrom s k (L.drop k) = if x.1 = s then (k : Int) else idxFrom s (k + 1) (L.drop (k + 1))) := by show _ = _; rw [hd]; rfl
      have hgr : wr.cell? ⟨g, 0, none⟩ = some (.string s) := (Below.cell hkr.out (block_lt_of_cell HG.out)).trans HG.out
      have CI := Lib.hid (fun b hb => index1_any x s g wr hgr b hb)
      clear hc0 hc1 hx hd e0 e1 hgr
      by_cases hxs : x.1 = s
      · have C1 := Lib.hid (CI.out true (decide_eq_true hxs).symm)
        rw [if_pos hxs] at Hst
        clear hxs CI
        go_wp2_with (first | (refine wpList_load_at rfl 33 (.tmp 14) rfl (ad.add (k * 2)) rfl #[.string x.1, .string x.2] _ Hcl.out Tryz.underlying33 rfl sizeL ?_) | (go_at_call 101; refine C1.out.mono ?_; rintro e w2 ⟨rfl, hk2⟩; have HK2 := Lib.hid (below_kept hkr.out hk2); clear hk2))
        go_ret
        exact ⟨by rw [hf.out, Hst.out]; rfl, HK2.out⟩
      · have C1 := Lib.hid (CI.out false (decide_eq_false hxs).symm)
        rw [if_neg hxs] at Hst
        clear hxs CI
        go_wp2_with (first | (refine wpList_load_at rfl 33 (.tmp 14) rfl (ad.add (k * 2)) rfl #[.string x.1, .string x.2] _ Hcl.out Tryz.underlying33 rfl sizeL ?_) | (go_at_call 101; refine C1.out.mono ?_; rintro e w2 ⟨rfl, hk2⟩; have HK2 := Lib.hid (below_kept hkr.out hk2); clear hk2))
        go_roundw
        case rel => exact ⟨k + 1, by omega, by go_num, HK2, by show _ = _; rw [hf.out, Hst.out]⟩
        case measure => simp [intOf]; omega
    · obtain rfl : k = n := by omega
      go_wp2_with fail
      go_ret
      refine ⟨?_, hkr.out⟩
      rw [hf.out, List.drop_of_length_le (by rw [← Hn.out]; exact Nat.le_refl _)]
      rfl
theorem index_any (A : Option Addr) (c : Nat) (L : List Lab) (hL : L.length ≤ 4611686018427387904) (s : ByteArray) (w : World) (hr : RdL w w.heap.size A L) :
    Calls Tryz.prog 65 #[.slice A L.length c, .string s] w fun e w' => e = .returned (.int .i64 (idxFrom s 0 L)) ∧ Kept w w' := by
  have hk : Kept w (w.alloc (.cells #[.string s] 9)) := (Below.refl w.heap.size w).alloc (Nat.le_refl _) _
  have C := Lib.hid (indexFunc_any A c L hL s w.heap.size (w.alloc (.cells #[.string s] 9)) ((hr.below hk).more hk.size) (by rw [cell_of_row _ _ _ _ _ _ (heap_alloc_new w _)]; rfl))
  have HK := Lib.hid hk
  clear hk hr
  go_enter Tryz.func65, Tryz.ntmps65
  go_wp2_with (go_at_call 100; refine C.out.mono ?_; rintro e w1 ⟨rfl, hk⟩; have HK1 := Lib.hid hk; clear hk)
  go_ret
  exact ⟨rfl, Below.trans HK.out (Below.mono HK1.out (Below.size HK.out))⟩
set_option maxRecDepth 100000 in
theorem get_any (A : Option Addr) (c : Nat) (L : List Lab) (hL : L.length ≤ 1000000) (hs : ∀ x ∈ L, x.2.size ≤ 281474976710656) (s : ByteArray) (w : World) (hr : RdL w w.heap.size A L) :
    Calls Tryz.prog 50 #[.slice A L.length c, .string s] w fun e w' => e = .returned (.string (getL s L)) ∧ Kept w w' := by
  have C := Lib.hid (index_any A c L (by omega) s w hr)
  rcases idx_get s 0 L with ⟨h1, h2, _⟩ | ⟨j, x, h1, h2, h3, h4, _⟩
  · rw [h1] at C
    rw [h2]
    clear h1 h2 hr hs
    go_enter Tryz.func50, Tryz.ntmps50
    go_wp2_with (go_at_call 65; refine C.out.mono ?_; rintro e w1 ⟨rfl, hk⟩; have HK := Lib.hid hk; clear hk)
    go_ret
    exact ⟨rfl, HK.out⟩
  · rw [Nat.zero_add] at h2
    rw [h2] at C
    rw [h4]
    obtain ⟨ad, y, rfl, hadb, hy, _, _, hc1⟩ := rdl_at hr h1
    rw [h3] at hy
    cases hy
    have CC := Lib.hid (fun W => sclone_any x.2 W (hs x (List.mem_of_getElem? h3)))
    have Hc1 : Hid (∀ W, Kept w W → W.cell? ⟨(ad.add (j * 2)).block, (ad.add (j * 2)).off + 1, none⟩ = some (.string x.2)) := fun W h => by rw [show (⟨(ad.add (j * 2)).block, (ad.add (j * 2)).off + 1, none⟩ : Addr) = (ad.add (j * 2)).add 1 from rfl, addr_add_add]; exact (Below.cell h (by rw [addBlock]; exact hadb)).trans hc1
    obtain ⟨n, hn⟩ : ∃ n, n = L.length := ⟨_, rfl⟩
    rw [← hn] at h1 hL C ⊢
    clear h2 h3 h4 hr hs hc1 hadb hn
    go_enter Tryz.func50, Tryz.ntmps50
    go_wp2_with (first
      | (go_at_call 65; refine C.out.mono ?_; rintro e w1 ⟨rfl, hk⟩; have HK := Lib.hid hk; clear hk; have hcc := Hc1.out _ HK.out)
      | (go_at_call 90; refine (CC.out _).mono ?_; rintro e w2 ⟨rfl, hk⟩; have HK2 := Lib.hid (below_kept HK.out hk); clear hk))
    go_ret
    exact ⟨rfl, HK2.out⟩
end Go.Proofs.YtlhekeokognhmaaGreatDoor
namespace Go.Proofs.YtlhekeokognhmaaGreatDoor
open Go.RowKit Go.Shelf Go.Maps Go.Sort
/-- What right labels are, one by one. -/
theorem chkFrom_right : ∀ {i : Nat} {p : Option ByteArray} {L : List Lab}, (chkFrom i p L).2 = 0 → ∀ x ∈ L, wrE x = 0 ∧ x.2 ≠ ⟨#[]⟩
  | i, p, y :: L, h, x, hx => by
    unfold chkFrom at h
    split at h
    · rename_i h0
      rcases List.mem_cons.1 hx with rfl | hx
      · unfold ordE at h0
        split at h0
        · rename_i h1
          refine ⟨h1, fun e => ?_⟩
          rw [if_pos (.inl e)] at h0
          cases h0
        · rename_i h1
          exact absurd h0 h1
      · exact chkFrom_right h x hx
    · rename_i h0
      exact absurd h h0
theorem right_len {L : List Lab} (h : rgtB L = true) : L.length ≤ 64 := by
  unfold rgtB chk at h
  split at h
  · cases h
  · omega
theorem right_all {L : List Lab} (h : rgtB L = true) : ∀ x ∈ L, wrE x = 0 ∧ x.2 ≠ ⟨#[]⟩ := by
  have hl := right_len h
  unfold rgtB chk at h
  rw [if_neg (by omega)] at h
  exact chkFrom_right (by simpa using h)
/-- An answer: an error's number, or labels in order, or too many. -/
def AnsV (B : Nat) (bad : Option Int) (m : List Lb) (v : Value) (x : Int) (w' : World) : Prop :=
  match bad with
  | some q => v = .slice none 0 0 ∧ x = q
  | none => SortedV B m v x w'
section
variable (A A1 : Option Addr) (c c1 : Nat) (L E : List Lab) (w : World)
theorem put2 (hr : RdL w w.heap.size A L) (hr1 : RdL w w.heap.size A1 E) (hL : L.length ≤ 400000) (hE : E.length ≤ 400000) (hs : ∀ x ∈ L, smallL x) (hs1 : ∀ x ∈ E, smallL x) (W : World) (h : Kept w W) :
    Calls Tryz.prog 64 #[.slice (some ⟨W.heap.size, 0, none⟩) 2 2] (W.alloc (.cells #[.slice A L.length c, .slice A1 E.length c1] 22)) fun e w' => ∃ b n D, e = .returned (.map (some b)) ∧ w'.ownsMap Tryz.prog 9 PE b n D ∧ MapIs D (find (puts [] ((L ++ E).map lb))) ∧ Kept W w' := by
  have hk := (Below.refl W.heap.size W).alloc (Nat.le_refl _) (.cells #[.slice A L.length c, .slice A1 E.length c1] 22)
  refine (put_any (some ⟨W.heap.size, 0, none⟩) 2 [(A, c, L), (A1, c1, E)] (by simp) (W.alloc (.cells #[.slice A L.length c, .slice A1 E.length c1] 22)) (rdNew W [.slice A L.length c, .slice A1 E.length c1] 22) ?_ ?_ ?_).mono ?_
  · intro r hr'
    simp only [List.mem_cons, List.not_mem_nil, or_false] at hr'
    rcases hr' with rfl | rfl
    · exact ⟨(hr.below (Below.trans h (hk.mono (Below.size h)))).more (Nat.le_trans (Below.size h) (by simp)), by show L.length ≤ _; omega⟩
    · exact ⟨(hr1.below (Below.trans h (hk.mono (Below.size h)))).more (Nat.le_trans (Below.size h) (by simp)), by show E.length ≤ _; omega⟩
  · intro r hr'
    simp only [List.mem_cons, List.not_mem_nil, or_false] at hr'
    rcases hr' with rfl | rfl
    · exact hs
    · exact hs1
  · simp; omega
  · rintro e w' ⟨b, n, D, rfl, ho, hD, _, _, hk'⟩
    refine ⟨b, n, D, rfl, ho, ?_, Below.trans hk (Below.mono hk' (by simp))⟩
    simpa using hD
theorem sorted2 (hL : L.length ≤ 400000) (hE : E.length ≤ 400000) (hs : ∀ x ∈ L, smallL x) (hs1 : ∀ x ∈ E, smallL x) (W : World) (b n : Nat) (D : DataW H0) (ho : W.ownsMap Tryz.prog 9 PE b n D) (hD : MapIs D (find (puts [] ((L ++ E).map lb)))) :
    Calls Tryz.prog 63 #[.map (some b)] W fun e w' => ∃ v x, e = .returned (.tuple #[v, .int .i64 x]) ∧ SortedV W.heap.size (puts [] ((L ++ E).map lb)) v x w' ∧ Kept W w' := by
  have := putSorted W [(none, 0, L), (none, 0, E)] (fun r hr' => by
    simp only [List.mem_cons, List.not_mem_nil, or_false] at hr'
    rcases hr' with rfl | rfl
    · exact hs
    · exact hs1) (by simp; omega) b n D ho (by simpa using hD)
  simpa using this
end
def setBad (L E : List Lab) : Option Int := if rgtB L = true then (if fwE E = 0 then none else some (fwE E)) else some 44
set_option maxRecDepth 100000 in
theorem set_any (A A1 : Option Addr) (c c1 : Nat) (L E : List Lab) (hL : L.length ≤ 400000) (hE : E.length ≤ 400000) (w : World) (hr : RdL w w.heap.size A L) (hr1 : RdL w w.heap.size A1 E) (hT : Tab w) :
    Calls Tryz.prog 15 #[.slice A L.length c, .slice A1 E.length c1] w fun e w' => ∃ v x, e = .returned (.tuple #[v, .int .i64 x]) ∧ AnsV w.heap.size (setBad L E) (puts [] ((L ++ E).map lb)) v x w' ∧ Kept w w' := by
  have CR := Lib.hid (right_any A c L (by omega) w hr hT)
  have CF : Hid (∀ W, Kept w W → Calls Tryz.prog 61 #[.slice A1 E.length c1] W fun e w' => e = .returned (.int .i64 (fwE E)) ∧ Kept W w') := fun W h => firstWrong_any A1 c1 E (by omega) W ((hr1.below h).more h.size) (hT.below h)
  unfold setBad
  by_cases hR : rgtB L = true
  · rw [if_pos hR]
    have hs : ∀ x ∈ L, smallL x := fun x hx => small_of (right_all hR x hx).1
    rw [hR] at CR
    by_cases h0 : fwE E = 0
    · rw [if_pos h0]
      have hs1 : ∀ x ∈ E, smallL x := fun x hx => small_of (fwE_zero h0 x hx)
      have CP := Lib.hid (put2 A A1 c c1 L E w hr hr1 hL hE hs hs1)
      have CS := Lib.hid (sorted2 L E hL hE hs hs1)
      rw [h0] at CF
      generalize puts [] ((L ++ E).map lb) = m at *
      clear hr hr1 hT hs hs1 hR h0 hL hE
      go_enter Tryz.func15, Tryz.ntmps15
      go_wp2_with (first
        | (go_at_call 16; refine CR.out.mono ?_; rintro e w1 ⟨rfl, hk⟩; have HK1 := Lib.hid hk; clear hk)
        | (go_at_call 61; refine (CF.out _ HK1.out).mono ?_; rintro e w2 ⟨rfl, hk⟩; have HK2 := Lib.hid (below_kept HK1.out hk); clear hk)
        | (go_at_call 64; refine (CP.out _ HK2.out).mono ?_; rintro e w3 ⟨b, n, D, rfl, ho, hD, hk⟩; have HO := Lib.hid ho; have HD := Lib.hid hD; have HK3 := Lib.hid (below_kept HK2.out hk); clear ho hD hk)
        | (go_at_call 63; refine (CS.out _ _ _ _ HO.out HD.out).mono ?_; rintro e w4 ⟨v, x, rfl, h4, hk⟩; have H4 := Lib.hid h4; have HK4 := Lib.hid (below_kept HK3.out hk); clear h4 hk))
      go_ret2
      exact ⟨_, _, rfl, H4.out.more (Below.size HK3.out), HK4.out⟩
    · rw [if_neg h0]
      have hb : (fwE E != 0) = true := bne_iff_ne.2 h0
      generalize fwE E = ee at *
      clear hr hr1 hT hs hR hL hE
      go_enter Tryz.func15, Tryz.ntmps15
      go_wp2_with (first
        | (go_at_call 16; refine CR.out.mono ?_; rintro e w1 ⟨rfl, hk⟩; have HK1 := Lib.hid hk; clear hk)
        | (go_at_call 61; refine (CF.out _ HK1.out).mono ?_; rintro e w2 ⟨rfl, hk⟩; have HK2 := Lib.hid (below_kept HK1.out hk); clear hk))
      go_ret2
      exact ⟨_, _, rfl, ⟨rfl, rfl⟩, HK2.out⟩
  · rw [if_neg hR]
    have hf : rgtB L = false := by simpa using hR
    rw [hf] at CR
    clear hr hr1 hT hR hL hE
    go_enter Tryz.func15, Tryz.ntmps15
    go_wp2_with (go_at_call 16; refine CR.out.mono ?_; rintro e w1 ⟨rfl, hk⟩; have HK1 := Lib.hid hk; clear hk)
    go_ret2
    exact ⟨_, _, rfl, ⟨rfl, rfl⟩, HK1.out⟩
def mergeBad (L E : List Lab) : Option Int := if rgtB L = true ∧ rgtB E = true then none else some 44
set_option maxRecDepth 100000 in
theorem merge_any (A A1 : Option Addr) (c c1 : Nat) (L E : List Lab) (hL : L.length ≤ 400000) (hE : E.length ≤ 400000) (w : World) (hr : RdL w w.heap.size A L) (hr1 : RdL w w.heap.size A1 E) (hT : Tab w) :
    Calls Tryz.prog 14 #[.slice A L.length c, .slice A1 E.length c1] w fun e w' => ∃ v x, e = .returned (.tuple #[v, .int .i64 x]) ∧ AnsV w.heap.size (mergeBad L E) (puts [] ((E ++ L).map lb)) v x w' ∧ Kept w w' := by
  have CR := Lib.hid (right_any A c L (by omega) w hr hT)
  have CQ : Hid (∀ W, Kept w W → Calls Tryz.prog 16 #[.slice A1 E.length c1] W fun e w' => e = .returned (.bool (rgtB E)) ∧ Kept W w') := fun W h => right_any A1 c1 E (by omega) W ((hr1.below h).more h.size) (hT.below h)
  unfold mergeBad
  rcases hR : rgtB L with _ | _
  · rw [if_neg (by simp)]
    rw [hR] at CR
    clear hr hr1 hT hR hL hE
    go_enter Tryz.func14, Tryz.ntmps14
    go_wp2_with (go_at_call 16; refine CR.out.mono ?_; rintro e w1 ⟨rfl, hk⟩; have HK1 := Lib.hid hk; clear hk)
    go_ret2
    exact ⟨_, _, rfl, ⟨rfl, rfl⟩, HK1.out⟩
  · rcases hQ : rgtB E with _ | _
    · rw [if_neg (by simp)]
      rw [hR] at CR
      rw [hQ] at CQ
      clear hr hr1 hT hR hQ hL hE
      go_enter Tryz.func14, Tryz.ntmps14
      go_wp2_with (first
        | (go_at_call 16; refine (CQ.out _ HK1.out).mono ?_; rintro e w2 ⟨rfl, hk⟩; have HK2 := Lib.hid (below_kept HK1.out hk); clear hk)
        | (go_at_call 16; refine CR.out.mono ?_; rintro e w1 ⟨rfl, hk⟩; have HK1 := Lib.hid hk; clear hk))
      go_ret2
      exact ⟨_, _, rfl, ⟨rfl, rfl⟩, HK2.out⟩
    · rw [if_pos ⟨rfl, rfl⟩]
      have hs : ∀ x ∈ L, smallL x := fun x hx => small_of (right_all hR x hx).1
      have hs1 : ∀ x ∈ E, smallL x := fun x hx => small_of (right_all hQ x hx).1
      have CP := Lib.hid (put2 A1 A c1 c E L w hr1 hr hE hL hs1 hs)
      have CS := Lib.hid (sorted2 E L hE hL hs1 hs)
      rw [hR] at CR
      rw [hQ] at CQ
      generalize puts [] ((E ++ L).map lb) = m at *
      clear hr hr1 hT hR hQ hL hE hs hs1
      go_enter Tryz.func14, Tryz.ntmps14
      go_wp2_with (first
        | (go_at_call 16; refine (CQ.out _ HK1.out).mono ?_; rintro e w2 ⟨rfl, hk⟩; have HK2 := Lib.hid (below_kept HK1.out hk); clear hk)
        | (go_at_call 16; refine CR.out.mono ?_; rintro e w1 ⟨rfl, hk⟩; have HK1 := Lib.hid hk; clear hk)
        | (go_at_call 64; refine (CP.out _ HK2.out).mono ?_; rintro e w3 ⟨b, n, D, rfl, ho, hD, hk⟩; have HO := Lib.hid ho; have HD := Lib.hid hD; have HK3 := Lib.hid (below_kept HK2.out hk); clear ho hD hk)
        | (go_at_call 63; refine (CS.out _ _ _ _ HO.out HD.out).mono ?_; rintro e w4 ⟨v, x, rfl, h4, hk⟩; have H4 := Lib.hid h4; have HK4 := Lib.hid (below_kept HK3.out hk); clear h4 hk))
      go_ret2
      exact ⟨_, _, rfl, H4.out.more (Below.size HK3.out), HK4.out⟩
end Go.Proofs.YtlhekeokognhmaaGreatDoor
