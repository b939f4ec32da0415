/-
  What Points and Count of package utf compute.
-/
import Derived.Test.YtdgpbminmlpebaaDoorUtfF
import Derived.Test.YtdgpbminmlpebaaDoorUtfT
import Derived.Test.YtdgpbminmlpebaaDoorMath4
import Derived.RangeFuncBox
import Derived.RangeFuncNested
namespace Go.Proofs.YtdgpbminmlpebaaDoor
open Go.RowKit Go.Shelf Mt
attribute [local go_sem] Oper.semAt_some

/-- The code points of the bytes, in new memory. -/
def PtsOk (l : List Int) (w : World) (e : Ending) (w' : World) : Prop :=
  ∃ (A : Option Addr) (c : Nat), e = .returned (.tuple #[.slice A (pts l).length c, .int .i64 0]) ∧ Rd w' w'.heap.size A (pts l).length (i64s (pts l)) ∧ Below w.heap.size w w'
theorem short_bd {s : ByteArray} (h : shortE s = 0) : s.size ≤ 1048576 ∧ chkE (bys s) = 0 := by
  unfold shortE at h
  split at h
  · cases h
  · exact ⟨by omega, h⟩
/-- The collected code points after some rounds. -/
def sofar (pre : List (Int × Int)) : List Value := i64s (pre.map (·.2))
theorem sofar_snoc (pre : List (Int × Int)) (x : Int × Int) : sofar (pre ++ [x]) = sofar pre ++ i64s [x.2] := by simp [sofar, i64s]

set_option maxRecDepth 100000 in
set_option maxHeartbeats 2000000 in
theorem points_in (n : Nat) (hn : 3 ≤ n) (s : ByteArray) (he : Hid (shortE s = 0)) (w : World) (hT : Tab w) :
    CallsIn Fence.wide n Tryd.prog 18 #[.string s] w (PtsOk (bys s) w) := by
  have h1 : 1 ≤ n := by omega
  have hsz := (short_bd he.out).1
  have hs : s.size ≤ 140737488351232 := by omega
  obtain ⟨i0, hi, hz0, hz1, hz2⟩ := info_parts info3
  have hc := fun (w : World) (hT : Tab w) => checkShort_any s hs w hT
  rw [he.out] at hc
  have Hc := Lib.hid hc
  clear hc
  refine callsIn_of_wp_marks Tryd.func18 rfl trivial ?_ rfl
  simp only [Tryd.ntmps18, List.size_toArray, List.length_cons, List.length_nil, Nat.reduceAdd, Nat.reduceSub, Array.replicate_succ, Array.replicate_zero, List.push_toArray, List.append_toArray, List.nil_append, List.cons_append]
  gi_wp2_with (first
    | (refine ⟨trivial, ?_⟩; gi_at_call 45; refine (callsIn_wide.2 (Hc.out _ hT)).mono ?_; rintro e w1 ⟨rfl, hb1⟩)
    | (refine ⟨trivial, ?_⟩; gi_at_call 46; refine (callsIn_wide.2 (points_any s _)).mono ?_; rintro e w' ⟨rfl, rfl⟩))
  have hz1' : w.heap.size ≤ w1.heap.size := hb1.size
  have bO := Boxed.new w1 26 (.slice none 0 0)
  have bN := Boxed.new (w1.alloc (.cells #[.slice none 0 0] 26)) 9 (.string s)
  rw [World.size_alloc] at bN
  have hB0 : Below w.heap.size w ((w1.alloc (.cells #[.slice none 0 0] 26)).alloc (.cells #[.string s] 9)) := (hb1.alloc hz1' _).alloc (by simp; omega) _
  have hT2 : Tab ((w1.alloc (.cells #[.slice none 0 0] 26)).alloc (.cells #[.string s] 9)) := hT.below hB0
  have hT0 : 0 < w.heap.size := by obtain ⟨t, fr, h⟩ := hT; exact (Array.getElem?_eq_some_iff.1 h).1
  refine wpIn_rangeFunc_ownF rfl h1 (gf := 54) (lb := #[.pointer (some ⟨w1.heap.size + 1, 0, none⟩)]) rfl trivial (enters_of Tryd.func54 (by kernel_rfl) rfl)
    (points_stops (n - 1) (by omega) (w1.heap.size + 1) w.heap.size s hs _ bN.cell (by simp) hT2 hT0) kpB_t (kpB_b (by simp; omega) (by simp)) (Below.refl _ _) (fun _ => rfl)
    (fun pre W => ((∃ v, Boxed W w1.heap.size 26 v ∧ W.ownsRow w.heap.size 3 1 v pre.length (sofar pre) ∧ True) ∧ Boxed W (w1.heap.size + 1) 9 (.string s)) ∧ Below w.heap.size w W)
    (fun _ _ _ => False)
    (OwnFrom.and (OwnFrom.and (Own.from (holdsRow_own w.heap.size w1.heap.size 26 3 1 (fun pre => pre.length) sofar (fun _ _ => True)) _) (Own.from (boxed_own _ _ (fun _ => .string s)) _)) (ownFrom_below (Nat.le_refl _) (by simp; omega)))
    (fun _ _ _ _ _ hs _ _ => hs)
    ⟨⟨⟨_, bO.alloc _, World.ownsRow_nil _ _ _ _, trivial⟩, bN⟩, hB0⟩
    (fun x => { tmps := #[.string s, undef, .slice none 0 0, .int .i64 0, .int .i64 0, .pointer (some ⟨w1.heap.size, 0, none⟩), undef, .int .i64 x.2, .string s, .int .i64 0, .int .i64 0, .bool false, undef, .string s, .func (.func 54) #[] #[.pointer (some ⟨w1.heap.size + 1, 0, none⟩)], .int .i64 x.1, .int .i64 x.2, undef, undef, undef, undef, undef], defers := [] }) ?assign ?body ?done ?stop
  case assign =>
    intro l x W K hK
    gi_wp2
    exact hK
  case body =>
    rintro l pre x W ⟨⟨⟨v, hv, hrow, _⟩, hbn⟩, hB⟩ hlt
    have hc := hv.cell
    have Hrow := Lib.hid hrow
    have hBs := hB.size
    clear hrow
    gi_wp2_with (gi_at_builtin; refine wpListIn_append_own _ rfl _ _ 26 rfl w.heap.size 3 i0 (.int .i64 0) 1 8 Tryd.underlying26 hi hz0 hz1 hz2 rfl (by decide) _ _ _ rfl (Hrow.out.alloc _) ⟨W.heap.size, 0, none⟩ 1 1 (i64s [x.2]) rfl rfl (cells_new _ _ _) (i64s_one _) (by unfold maxLen; omega) (by omega) (by simp; omega) ?_; intro v' w2 hown' hgrow _; obtain ⟨g', cap', rfl⟩ := ownsRow_succ hown'; obtain ⟨hv1, hv2, hr2, hk2, hb2⟩ := hv.appended (by decide) Hrow.out hBs hz1' hown' hgrow; have hc1 := hv1.cell; have hf1 := hv1.frozen; have Hr2 := Lib.hid hr2; have Hgrow := Lib.hid hgrow; clear hr2 hown' hgrow)
    have hbn2 : Boxed (w2.setCell ⟨w1.heap.size, 0, none⟩ (.slice (some ⟨g', 0, none⟩) (pre.length + 1) cap')) (w1.heap.size + 1) 9 (.string s) :=
      ((hbn.alloc _).kept Hgrow.out (hbn.not_row (by decide) Hrow.out)).other (by omega) _
    exact ⟨hk2, ⟨hb2, hbn2.trans hbn.symm⟩, ⟨⟨_, hv2, by rw [List.length_append, sofar_snoc]; exact Hr2.out, trivial⟩, hbn2⟩, hB.trans hb2⟩
  case done =>
    rintro D ys W hD rfl ⟨⟨⟨v, hv, hrow, _⟩, _⟩, hB⟩ hK
    have hc := hv.cell
    have Hrow := Lib.hid hrow
    clear hrow
    gi_wp2
    refine ⟨by simp, .inl ⟨_, _, rfl, run_takeDeferred hK, ?_⟩⟩
    obtain ⟨A, c, rfl, _⟩ := own_slice Hrow.out
    have ho := ownsRow_putObj Hrow.out (.deferred none) hK rfl
    have hlen : (allSteps (bys s)).length = (pts (bys s)).length := by simp [pts]
    rw [hlen] at ho
    refine ⟨_, results_tmp2 rfl _ _ _, A, c, ?_, Rd.of_own ho, hB.trans (belowK_b (w := w) (Nat.le_refl _) W D _ _ (by simp at hD; omega) hK rfl rfl)⟩
    rw [← hlen]
    rfl
  case stop =>
    rintro D c pre W _ _ h _
    exact h.elim
/-- POINTS, of a string that is not too long and valid. -/
theorem points_yes (s : ByteArray) (he : shortE s = 0) (w : World) (hT : Tab w) : Calls Tryd.prog 18 #[.string s] w (PtsOk (bys s) w) :=
  callsIn_wide.1 (points_in 3 (Nat.le_refl _) s he w hT)
theorem points_no (s : ByteArray) (hs : s.size ≤ 140737488351232) (he : shortE s ≠ 0) (w : World) (hT : Tab w) :
    Calls Tryd.prog 18 #[.string s] w fun e w' => e = .returned (.tuple #[.slice none 0 0, .int .i64 (shortE s)]) ∧ Below w.heap.size w w' := by
  have hc := fun (w : World) (hT : Tab w) => checkShort_any s hs w hT
  generalize shortE s = ee at hc he ⊢
  have Hc := Lib.hid hc
  have h1 : (ee == 0) = false := beq_eq_false_iff_ne.2 he
  have h2 : (ee != 0) = true := bne_iff_ne.2 he
  clear he hc
  go_enter Tryd.func18, Tryd.ntmps18
  go_wp2_with (go_at_call 45; refine (Hc.out _ hT).mono ?_; rintro e w1 ⟨rfl, hb1⟩)
  go_ret2
  exact ⟨rfl, hb1⟩
theorem count_no (s : ByteArray) (hs : s.size ≤ 140737488351232) (he : shortE s ≠ 0) (w : World) (hT : Tab w) :
    Calls Tryd.prog 19 #[.string s] w fun e w' => e = .returned (.tuple #[.int .i64 0, .int .i64 (shortE s)]) ∧ Below w.heap.size w w' := by
  have hc := fun (w : World) (hT : Tab w) => checkShort_any s hs w hT
  generalize shortE s = ee at hc he ⊢
  have Hc := Lib.hid hc
  have h1 : (ee == 0) = false := beq_eq_false_iff_ne.2 he
  have h2 : (ee != 0) = true := bne_iff_ne.2 he
  clear he hc
  go_enter Tryd.func19, Tryd.ntmps19
  go_wp2_with (go_at_call 45; refine (Hc.out _ hT).mono ?_; rintro e w1 ⟨rfl, hb1⟩)
  go_ret2
  exact ⟨rfl, hb1⟩

set_option maxRecDepth 100000 in
set_option maxHeartbeats 2000000 in
theorem count_in (n : Nat) (hn : 3 ≤ n) (s : ByteArray) (he : Hid (shortE s = 0)) (w : World) (hT : Tab w) :
    CallsIn Fence.wide n Tryd.prog 19 #[.string s] w fun e w' => e = .returned (.tuple #[.int .i64 (pts (bys s)).length, .int .i64 0]) ∧ Below w.heap.size w w' := by
  have h1 : 1 ≤ n := by omega
  have hsz := (short_bd he.out).1
  have hs : s.size ≤ 140737488351232 := by omega
  have hc := fun (w : World) (hT : Tab w) => checkShort_any s hs w hT
  rw [he.out] at hc
  have Hc := Lib.hid hc
  clear hc
  refine callsIn_of_wp_marks Tryd.func19 rfl trivial ?_ rfl
  simp only [Tryd.ntmps19, List.size_toArray, List.length_cons, List.length_nil, Nat.reduceAdd, Nat.reduceSub, Array.replicate_succ, Array.replicate_zero, List.push_toArray, List.append_toArray, List.nil_append, List.cons_append]
  gi_wp2_with (first
    | (refine ⟨trivial, ?_⟩; gi_at_call 45; refine (callsIn_wide.2 (Hc.out _ hT)).mono ?_; rintro e w1 ⟨rfl, hb1⟩)
    | (refine ⟨trivial, ?_⟩; gi_at_call 46; refine (callsIn_wide.2 (points_any s _)).mono ?_; rintro e w' ⟨rfl, rfl⟩))
  have hz1' : w.heap.size ≤ w1.heap.size := hb1.size
  have bO := Boxed.new w1 3 (.int .i64 0)
  have bN := Boxed.new (w1.alloc (.cells #[.int .i64 0] 3)) 9 (.string s)
  rw [World.size_alloc] at bN
  have hB0 : Below w.heap.size w ((w1.alloc (.cells #[.int .i64 0] 3)).alloc (.cells #[.string s] 9)) := (hb1.alloc hz1' _).alloc (by simp; omega) _
  have hT2 : Tab ((w1.alloc (.cells #[.int .i64 0] 3)).alloc (.cells #[.string s] 9)) := hT.below hB0
  have hT0 : 0 < w.heap.size := by obtain ⟨t, fr, h⟩ := hT; exact (Array.getElem?_eq_some_iff.1 h).1
  refine wpIn_rangeFunc_ownF rfl h1 (gf := 54) (lb := #[.pointer (some ⟨w1.heap.size + 1, 0, none⟩)]) rfl trivial (enters_of Tryd.func54 (by kernel_rfl) rfl)
    (points_stops (n - 1) (by omega) (w1.heap.size + 1) w.heap.size s hs _ bN.cell (by simp) hT2 hT0) kpB_t (kpB_b (by simp; omega) (by simp)) (Below.refl _ _) (fun _ => rfl)
    (fun pre W => Boxed W w1.heap.size 3 (.int .i64 (pre.length : Nat)) ∧ Below w.heap.size w W)
    (fun _ _ _ => False)
    (OwnFrom.and (Own.from (boxed_own _ _ (fun pre : List (Int × Int) => .int .i64 (pre.length : Nat))) _) (ownFrom_below (Nat.le_refl _) (by simp; omega)))
    (fun _ _ _ _ _ hs _ _ => hs)
    ⟨bO.alloc _, hB0⟩
    (fun x => { tmps := #[.string s, undef, .int .i64 0, .int .i64 0, .int .i64 0, .pointer (some ⟨w1.heap.size, 0, none⟩), .string s, .int .i64 0, .int .i64 0, .bool false, undef, .string s, .func (.func 54) #[] #[.pointer (some ⟨w1.heap.size + 1, 0, none⟩)], .int .i64 x.1, .int .i64 x.2, undef, undef, undef], defers := [] }) ?assign ?body ?done ?stop
  case assign =>
    intro l x W K hK
    gi_wp2
    simpa [encP] using hK
  case body =>
    rintro l pre x W ⟨hv, hB⟩ hlt
    have hc := hv.cell
    have hf := hv.frozen
    gi_wp2
    refine ⟨KeepsOthers.setCell _ _ _, kpB_set W _ (by omega) (by omega), ?_, hB.setCell (p := ⟨w1.heap.size, 0, none⟩) hz1' _⟩
    have := hv.set (.int .i64 ((pre.length : Int) + 1))
    rw [List.length_append]
    exact this
  case done =>
    rintro D ys W hD rfl ⟨hv, hB⟩ hK
    have hc := hv.cell
    have hlen : (allSteps (bys s)).length = (pts (bys s)).length := by simp [pts]
    have Hlen := Lib.hid hlen
    clear hlen
    gi_wp2
    refine ⟨by simp, .inl ⟨_, _, rfl, run_takeDeferred hK, ?_⟩⟩
    refine ⟨_, results_tmp2 rfl _ _ _, ?_, hB.trans (belowK_b (w := w) (Nat.le_refl _) W D _ _ (by simp at hD; omega) hK rfl rfl)⟩
    rw [← Hlen.out]
    rfl
  case stop =>
    rintro D c pre W _ _ h _
    exact h.elim
/-- COUNT, of a string that is not too long and valid. -/
theorem count_yes (s : ByteArray) (he : shortE s = 0) (w : World) (hT : Tab w) : Calls Tryd.prog 19 #[.string s] w fun e w' => e = .returned (.tuple #[.int .i64 (pts (bys s)).length, .int .i64 0]) ∧ Below w.heap.size w w' :=
  callsIn_wide.1 (count_in 3 (Nat.le_refl _) s he w hT)
end Go.Proofs.YtdgpbminmlpebaaDoor
