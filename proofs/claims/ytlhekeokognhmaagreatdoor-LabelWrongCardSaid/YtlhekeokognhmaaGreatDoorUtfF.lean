/-
  What Check, Valid and checkShort of package utf compute.
-/
import Derived.Test.YtlhekeokognhmaaGreatDoorFence
import Derived.Test.YtlhekeokognhmaaGreatDoorUtfE
namespace Go.Proofs.YtlhekeokognhmaaGreatDoor
open Go.RowKit Go.Shelf Mt
attribute [local go_sem] Oper.semAt_some

set_option maxRecDepth 100000 in
set_option maxHeartbeats 2000000 in
theorem check_in (n : Nat) (hn : 3 ≤ n) (s : ByteArray) (hs : s.size ≤ 140737488351232) (w : World) (hT : Tab w) :
    CallsIn Fence.wide n Tryz.prog 106 #[.string s] w fun e w' => e = .returned (.tuple #[.int .i64 (fin (bys s)), .int .i64 (chkE (bys s))]) ∧ Below w.heap.size w w' := by
  have h1 : 1 ≤ n := by omega
  refine callsIn_of_wp_marks Tryz.func106 rfl trivial ?_ rfl
  simp only [Tryz.ntmps106, List.size_toArray, List.length_cons, List.length_nil, Nat.reduceAdd, Nat.reduceSub, Array.replicate_succ, Array.replicate_zero, List.push_toArray, List.append_toArray, List.nil_append, List.cons_append]
  gi_wp2_with (refine ⟨trivial, ?_⟩; gi_at_call 114; refine (callsIn_wide.2 (points_any s _)).mono ?_; rintro e w' ⟨rfl, rfl⟩)
  have hc0 := box_new w (.int .i64 0) 3
  have hc1 := box_new (w.alloc (.cells #[.int .i64 0] 3)) (.string s) 9
  rw [World.size_alloc] at hc1
  have hB0 : Below w.heap.size w ((w.alloc (.cells #[.int .i64 0] 3)).alloc (.cells #[.string s] 9)) := ((Below.refl _ w).alloc (Nat.le_refl _) _).alloc (by simp) _
  have hT2 : Tab ((w.alloc (.cells #[.int .i64 0] 3)).alloc (.cells #[.string s] 9)) := hT.below hB0
  have hT0 : 1 < w.heap.size := by obtain ⟨t, fr, h⟩ := hT; exact (Array.getElem?_eq_some_iff.1 h).1
  refine wpIn_rangeFunc_ownF rfl h1 (gf := 121) (lb := #[.pointer (some ⟨w.heap.size + 1, 0, none⟩)]) rfl trivial (enters_of Tryz.func121 (by kernel_rfl) rfl)
    (points_stops (n - 1) (by omega) (w.heap.size + 1) w.heap.size s hs _ hc1.1 (by simp) hT2 hT0) kpB_t (kpB_b (by simp; omega) (by simp)) (Below.refl _ _) (fun _ => rfl)
    (fun pre W => (W.cell? ⟨w.heap.size, 0, none⟩ = some (.int .i64 (lastOf 0 pre)) ∧ W.frozen? ⟨w.heap.size, 0, none⟩ = false) ∧ Below w.heap.size w W)
    (fun _ _ _ => False)
    (OwnFrom.and (Own.from (fun s A B row hs hg hr => ⟨cell_kept hs.1 hg hr, (frozen_kept hs.1 hg hr).trans hs.2⟩) _) (ownFrom_below (Nat.le_refl _) (by simp; omega)))
    (fun _ _ _ _ _ hs _ _ => hs)
    ⟨⟨box_alloc _ hc0.1, box_alloc_f _ hc0.1 hc0.2⟩, hB0⟩
    (fun x => { tmps := #[.string s, undef, .int .i64 0, .int .i64 0, .pointer (some ⟨w.heap.size, 0, none⟩), .int .i64 x.1, undef, undef, undef, .string s, .func (.func 121) #[] #[.pointer (some ⟨w.heap.size + 1, 0, none⟩)], .int .i64 x.1, .int .i64 x.2, undef, undef, undef, undef, undef, undef, undef, undef, undef, undef, undef, undef, undef, undef, undef], defers := [] }) ?assign ?body ?done ?stop
  case assign =>
    intro l x W K hK
    gi_wp2
    exact hK
  case body =>
    rintro l pre x W ⟨⟨hc, hf⟩, hB⟩ _
    gi_wp2
    exact ⟨KeepsOthers.setCell _ _ _, kpB_set W _ (Nat.le_refl _) (by omega), ⟨by rw [lastOf_snoc]; exact World.cell?_setCell_same' _ _ _ (by rw [hc]; rfl), by rw [World.frozen?_setCell]; exact hf⟩, hB.setCell (p := ⟨w.heap.size, 0, none⟩) (Nat.le_refl _) _⟩
  case done =>
    rintro D ys W hD rfl ⟨⟨hc, _⟩, hB⟩ hK
    rw [lastOf_all _ (bys_bd s)] at hc
    have hTW : Tab W := hT.below hB
    have hDW : D < W.heap.size := (Array.getElem?_eq_some_iff.1 hK).1
    have hlt : w.heap.size < W.heap.size := by simp at hD; omega
    have hq := fin_le (bys s) (bys_bd s)
    rw [bys_length] at hq
    generalize hqq : fin (bys s) = q at hc hq
    have Hqq := Lib.hid hqq
    clear hqq
    by_cases hfin : q = s.size
    · subst hfin
      have e1 : ((s.size : Int) == (s.size : Int)) = true := by simp
      gi_wp2
      refine ⟨by simp, .inl ⟨_, _, rfl, run_takeDeferred hK, ?_⟩⟩
      refine ⟨_, results_tmp2 rfl _ _ _, ?_, hB.trans (belowK_b (w := w) (Nat.le_refl _) W D _ _ (by simp at hD; omega) hK rfl rfl)⟩
      rw [Hqq.out, show chkE (bys s) = 0 from by unfold chkE; rw [Hqq.out, bys_length, if_pos rfl]]
      rfl
    · have e1 : ((q : Int) == (s.size : Int)) = false := by rw [beq_eq_false_iff_ne]; omega
      obtain ⟨x, nn, ee, hr⟩ : ∃ x nn ee, Hid (rd ((bys s).drop q) = (x, nn, ee)) := ⟨_, _, _, rfl⟩
      have rc : ∀ w, Tab w → Calls Tryz.prog 115 #[.string s, .int .i64 (q : Int)] w fun e w' => e = .returned (.tuple #[.int .i64 x, .int .i64 nn, .int .i64 ee]) ∧ Below w.heap.size w w' := by
        intro w hTw
        have := read_any s q hs w hTw
        rw [show rdAt (bys s) (q : Int) = rd ((bys s).drop q) from by unfold rdAt; rw [bys_length, if_neg (by omega), Int.toNat_natCast], hr.out] at this
        exact this
      have Rc := Lib.hid rc
      have Hfin := Lib.hid hfin
      clear rc hfin
      gi_wp2_with (refine ⟨trivial, ?_⟩; gi_at_call 115; refine (callsIn_wide.2 (Rc.out _ hTW)).mono ?_; rintro e w1 ⟨rfl, hb⟩; have hc1 : w1.cell? ⟨w.heap.size, 0, none⟩ = some (.int .i64 (q : Int)) := (hb.cell (p := ⟨w.heap.size, 0, none⟩) hlt).trans hc); have hK1 : w1.heap[D]? = some (.deferred (some [])) := (hb.block D hDW).trans hK
      refine ⟨by simp, .inl ⟨_, _, rfl, run_takeDeferred hK1, ?_⟩⟩
      refine ⟨_, results_tmp2 rfl _ _ _, ?_, (hB.trans (hb.mono (by omega))).trans (belowK_b (w := w) (Nat.le_refl _) w1 D _ _ (by simp at hD; omega) hK1 rfl rfl)⟩
      rw [Hqq.out, show chkE (bys s) = ee from by unfold chkE; rw [Hqq.out, bys_length, if_neg Hfin.out, hr.out]]
      rfl
  case stop =>
    rintro D c pre W _ _ h _
    exact h.elim
/-- CHECK: the first offset at which a string is not good, and how. -/
theorem check_any (s : ByteArray) (hs : s.size ≤ 140737488351232) (w : World) (hT : Tab w) :
    Calls Tryz.prog 106 #[.string s] w fun e w' => e = .returned (.tuple #[.int .i64 (fin (bys s)), .int .i64 (chkE (bys s))]) ∧ Below w.heap.size w w' :=
  callsIn_wide.1 (check_in 3 (Nat.le_refl _) s hs w hT)
theorem valid_yes (s : ByteArray) (hs : s.size ≤ 140737488351232) (h : chkE (bys s) = 0) (w : World) (hT : Tab w) :
    Calls Tryz.prog 88 #[.string s] w fun e w' => e = .returned (.bool true) ∧ Below w.heap.size w w' := by
  have hc := check_any s hs w hT
  rw [h] at hc
  have Hc := Lib.hid hc
  clear hc h
  go_enter Tryz.func88, Tryz.ntmps88
  go_wp2_with (go_at_call 106; refine Hc.out.mono ?_; rintro e w' ⟨rfl, hb⟩)
  go_ret
  exact ⟨rfl, hb⟩
theorem valid_no (s : ByteArray) (hs : s.size ≤ 140737488351232) (h : chkE (bys s) ≠ 0) (w : World) (hT : Tab w) :
    Calls Tryz.prog 88 #[.string s] w fun e w' => e = .returned (.bool false) ∧ Below w.heap.size w w' := by
  have hc := check_any s hs w hT
  generalize chkE (bys s) = ee at hc h
  have Hc := Lib.hid hc
  clear hc
  have h1 : (ee == 0) = false := beq_eq_false_iff_ne.2 h
  have h2 : (ee != 0) = true := bne_iff_ne.2 h
  clear h
  go_enter Tryz.func88, Tryz.ntmps88
  go_wp2_with (go_at_call 106; refine Hc.out.mono ?_; rintro e w' ⟨rfl, hb⟩)
  go_ret
  exact ⟨rfl, hb⟩
/-- Whether a string is valid. -/
def vldB (s : ByteArray) : Bool := decide (chkE (bys s) = 0)
theorem valid_any (s : ByteArray) (hs : s.size ≤ 140737488351232) (w : World) (hT : Tab w) :
    Calls Tryz.prog 88 #[.string s] w fun e w' => e = .returned (.bool (vldB s)) ∧ Below w.heap.size w w' := by
  by_cases h : chkE (bys s) = 0
  · rw [show vldB s = true from decide_eq_true h]
    exact valid_yes s hs h w hT
  · rw [show vldB s = false from decide_eq_false h]
    exact valid_no s hs h w hT
/-- The error of a string that is too long or not valid. -/
def shortE (s : ByteArray) : Int := if 1048576 < s.size then 3 else chkE (bys s)
end Go.Proofs.YtlhekeokognhmaaGreatDoor
