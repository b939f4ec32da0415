/-
  What the iterator points of package utf yields: the code points of a string, each with the offset behind it. What Check, Valid and checkShort of package utf compute. What Clone of package strings computes: the same bytes.
-/
import Derived.Test.YtlhekeokognhmaaGreatDoorMgac
import Derived.RangeFuncNested
import Derived.RangeFuncBound
import Derived.RangeFuncCalls
import Derived.RangeFuncLeaves
import Derived.RangeFuncFrom
import Derived.Shelf.Abstract
import Derived.Shelf.RegionOpen
import Derived.OwnWalkIn
import Derived.TacticsInMore
import Derived.LoopNIn
import Derived.LoopIn
import Derived.Test.YtlhekeokognhmaaGreatDoorMgad
import Derived.Test.YtlhekeokognhmaaGreatDoorProg
import Derived.Lib.Strings
import Derived.Lib.Walk
import Derived.Lib.BufferWrite
import Derived.Lib.UnsafeStr
import Derived.Lib.Hide
import Derived.Laws.MakeOwn
import Derived.WalkKit
import Derived.ProofKit
namespace Go.Proofs.YtlhekeokognhmaaGreatDoor
open Go.RowKit Go.Shelf Mt
attribute [local go_sem] Oper.semAt_some

abbrev encP (p : Int × Int) : Array Value := #[.int .i64 p.1, .int .i64 p.2]
set_option maxRecDepth 100000 in
set_option maxHeartbeats 2000000 in
theorem points1_in (n : Nat) (hn : 1 ≤ n) (l Bn n₀ : Nat) (s : ByteArray) (hs : s.size ≤ 140737488351232) (J Jx : List (Int × Int) → World → Prop)
    (W : World) (hJ : AbidesFrom W.heap.size J) (hY : ∀ pre x W1, J pre W1 → pre.length < s.size → YieldAt Fence.wide (n - 1) Tryz.prog l (encP x) W1 fun e W' =>
      (e = .returned (.bool true) ∧ J (pre ++ [x]) W' ∧ KpB n₀ Bn W1 W') ∨ (e = .returned (.bool false) ∧ Jx (pre ++ [x]) W'))
    (hBn : W.cell? ⟨Bn, 0, none⟩ = some (.string s)) (hBn0 : Bn < W.heap.size) (hT : Tab W) (hT0 : 1 < n₀) (h0 : J [] W) :
    CallsIn Fence.wide n Tryz.prog 121 #[.func (.yield l) #[] #[], .pointer (some ⟨Bn, 0, none⟩)] W fun e W' => (∃ v, e = .returned v) ∧
      ((∃ ys, ys = allSteps (bys s) ∧ J ys W') ∨ (∃ pre, pre <+: allSteps (bys s) ∧ Jx pre W')) := by
  refine callsIn_of_wp Tryz.func121 rfl trivial ?_ rfl
  simp only [Tryz.ntmps121, List.size_toArray, List.length_cons, List.length_nil, Nat.reduceAdd, Nat.reduceSub, Array.replicate_succ, Array.replicate_zero, List.push_toArray, List.append_toArray, List.nil_append, List.cons_append]
  refine wpIn_scope_wide ?_
  gi_wp2
  refine wpIn_label ?_
  gi_wp2
  gi_loopw [3] (fun i wr => ∃ (a f : Nat) (pre : List (Int × Int)), i = .int .i64 a ∧ Hid (allSteps (bys s) = pre ++ steps (bys s) f a) ∧ s.size + 1 ≤ f + a ∧ a ≤ s.size ∧ pre.length ≤ a ∧ J pre wr ∧ wr.cell? ⟨Bn, 0, none⟩ = some (.string s) ∧ Tab wr ∧ Bn < wr.heap.size)
    (fun i _ => s.size - (intOf i).toNat)
  case atStart =>
    exact ⟨0, s.size + 1, [], rfl, by show _ = [] ++ _; rw [← bys_length]; rfl, by omega, by omega, by simp, h0, hBn, hT, hBn0⟩
  case round =>
    obtain ⟨a, f, pre, rfl, hst, hfa, ha, hpl, hJs, hbx, hTb, hnw⟩ := hrel
    obtain ⟨x, nn, ee, hr⟩ : ∃ x nn ee, Hid (rd ((bys s).drop a) = (x, nn, ee)) := ⟨_, _, _, rfl⟩
    have rc : ∀ w, Tab w → Calls Tryz.prog 115 #[.string s, .int .i64 (a : Int)] w fun e w' => e = .returned (.tuple #[.int .i64 x, .int .i64 nn, .int .i64 ee]) ∧ Below w.heap.size w w' := by
      intro w hTw
      have := read_any s a hs w hTw
      rw [show rdAt (bys s) (a : Int) = rd ((bys s).drop a) from by unfold rdAt; rw [bys_length, if_neg (by omega), Int.toNat_natCast], hr.out] at this
      exact this
    have Rc := Lib.hid rc
    clear rc
    obtain ⟨f, rfl⟩ : ∃ g, f = g + 1 := ⟨f - 1, by omega⟩
    by_cases he : ee = 0
    · subst he
      have hbd := rd_ok_bd (fun c hc => bys_bd s c (List.mem_of_mem_drop hc)) (show (rd ((bys s).drop a)).2.2 = 0 from by rw [hr.out])
      rw [hr.out, List.length_drop, bys_length] at hbd
      obtain ⟨hb1, hb2, hb3⟩ := hbd
      have hst2 : Hid (allSteps (bys s) = (pre ++ [((a : Int) + nn, x)]) ++ steps (bys s) f (a + nn.toNat)) := by
        show _ = _
        rw [hst.out, steps_go (by rw [hr.out]), hr.out, List.append_assoc]
        rfl
      have hlen : pre.length < s.size := by dsimp only at hb1 hb3; omega
      dsimp only at hb1 hb2 hb3
      gi_wp2_with (refine ⟨trivial, ?_⟩; gi_at_call 115; refine (callsIn_wide.2 (Rc.out _ hTb)).mono ?_; rintro e w1 ⟨rfl, hb⟩; obtain ⟨fn, tmps, assign, body, hy, hR⟩ := hY pre ((a : Int) + nn, x) w1 (hJ _ _ _ none hJs (grown_of_below hb) (fun r e => by cases e)) hlen; dsimp only [encP] at hy)
      refine hR.mono ?_
      rintro e W3 (⟨rfl, hJ3, hk3⟩ | ⟨rfl, hJx3⟩)
      · gi_wp2
        go_roundw
        case rel =>
          refine ⟨a + nn.toNat, f, pre ++ [((a : Int) + nn, x)], by rw [show (a : Int) + nn = ((a + nn.toNat : Nat) : Int) from by omega], hst2, by omega, by omega, by rw [List.length_append, List.length_singleton]; omega, hJ3, ?_, ?_, ?_⟩
          · exact (World.cell?_of_block (w := w1) (a := ⟨Bn, 0, none⟩) hk3.2).trans ((hb.cell (p := ⟨Bn, 0, none⟩) (by show Bn < _; omega)).trans hbx)
          · obtain ⟨t, fr, ht⟩ := hTb.below hb
            exact ⟨t, fr, (hk3.1.block _ hT0).trans ht⟩
          · have h1 := hk3.1.size
            have h2 := hb.size
            omega
        case measure => simp [intOf]; omega
      · gi_wp2
        rw [Exit.noGoto_ret]
        refine bodyPost_ret (results_none rfl _ _ _) rfl ?_
        exact ⟨⟨_, rfl⟩, .inr ⟨_, ⟨_, hst2.out.symm⟩, hJx3⟩⟩
    · have h1 : (ee == 0) = false := beq_eq_false_iff_ne.2 he
      have h2 : (ee != 0) = true := bne_iff_ne.2 he
      have hst2 : Hid (pre = allSteps (bys s)) := by
        show _ = _
        rw [hst.out, steps_stop (by rw [hr.out]; exact he), List.append_nil]
      clear he
      gi_wp2_with (refine ⟨trivial, ?_⟩; gi_at_call 115; refine (callsIn_wide.2 (Rc.out _ hTb)).mono ?_; rintro e w1 ⟨rfl, hb⟩)
      rw [Exit.noGoto_normal]
      go_end0
      exact ⟨⟨_, rfl⟩, .inl ⟨pre, hst2.out, hJ _ _ _ none hJs (grown_of_below hb) (fun r e => by cases e)⟩⟩

/-- THE ITERATOR's WORD: all code points have come, or a part has, a round having said no more. -/
theorem points_stops (n : Nat) (hn : 1 ≤ n) (Bn n₀ : Nat) (s : ByteArray) (hs : s.size ≤ 140737488351232) (w : World) (hBn : w.cell? ⟨Bn, 0, none⟩ = some (.string s)) (hBn0 : Bn < w.heap.size) (hT : Tab w) (hT0 : 1 < n₀) :
    SeqStopsK Fence.wide n Tryz.prog 121 #[.pointer (some ⟨Bn, 0, none⟩)] encP (KpB n₀ Bn) (fun xs => xs = allSteps (bys s)) (fun pre => pre <+: allSteps (bys s)) s.size w :=
  fun l J Jx W hW hJ _ hY h0 => points1_in n hn l Bn n₀ s hs J Jx W hJ hY ((hW.cell (p := ⟨Bn, 0, none⟩) (by show Bn < _; omega)).trans hBn) (by have := hW.size; omega) (hT.below hW) hT0 h0

theorem points_any (s : ByteArray) (w : World) : Calls Tryz.prog 114 #[.string s] w fun e w' => e = .returned (.func (.func 121) #[] #[.pointer (some ⟨w.heap.size, 0, none⟩)]) ∧ w' = w.alloc (.cells #[.string s] 9) := by
  go_enter Tryz.func114, Tryz.ntmps114
  go_wp2
  go_ret
  exact ⟨rfl, rfl⟩
end Go.Proofs.YtlhekeokognhmaaGreatDoor
namespace Go.Proofs.YtlhekeokognhmaaGreatDoor
open Go.RowKit Go.Shelf Mt
attribute [local go_sem] Oper.semAt_some

set_option maxRecDepth 100000 in
set_option maxHeartbeats 2000000 in
theorem check_in (n : Nat) (hn : 3 ≤ n) (s : ByteArray) (hs : s.size ≤ 140737488351232) (w : World) (hT : Tab w) :
    CallsIn Fence.wide n Tryz.prog 106 #[.string s] w fun e w' => e = .returned (.tuple #[.int .i64 (fin (bys s)), .int .i64 (chkE (bys s))]) ∧ Below w.heap.size w w' := by
  have h1 : 1 ≤ n := by omega
  refine callsIn_of_wp_marks Tryz.func106 rfl trivial ?_ rfl
  simp only [Tryz.ntmps106, List.size_toArray, List.length_cons, List.length_nil, Nat.reduceAdd, Nat.reduceSub, Array.replicate_succ, Array.replicate_zero, List.push_toArray, List.append_toArray, List.nil_append, List.cons_append]
  gi_wp2_with (refine ⟨trivial, ?_⟩; gi_at_call 114; refine (callsIn_wide.2 (points_any s _)).mono ?_; rintro e w' ⟨rfl, rfl⟩)
  have hc0 := box_new w (.int .i64 0) 3
  have hc1 := box_new (w.alloc (.cells #[.int .i64 0] 3)) (.string s) 9
  rw [World.size_alloc] at hc1
  have hB0 : Below w.heap.size w ((w.alloc (.cells #[.int .i64 0] 3)).alloc (.cells #[.string s] 9)) := ((Below.refl _ w).alloc (Nat.le_refl _) _).alloc (by simp) _
  have hT2 : Tab ((w.alloc (.cells #[.int .i64 0] 3)).alloc (.cells #[.string s] 9)) := hT.below hB0
  have hT0 : 1 < w.heap.size := by obtain ⟨t, fr, h⟩ := hT; exact (Array.getElem?_eq_some_iff.1 h).1
  refine wpIn_rangeFunc_ownF rfl h1 (gf := 121) (lb := #[.pointer (some ⟨w.heap.size + 1, 0, none⟩)]) rfl trivial (enters_of Tryz.func121 (by kernel_rfl) rfl)
    (points_stops (n - 1) (by omega) (w.heap.size + 1) w.heap.size s hs _ hc1.1 (by simp) hT2 hT0) kpB_t (kpB_b (by simp; omega) (by simp)) (Below.refl _ _) (fun _ => rfl)
    (fun pre W => (W.cell? ⟨w.heap.size, 0, none⟩ = some (.int .i64 (lastOf 0 pre)) ∧ W.frozen? ⟨w.heap.size, 0, none⟩ = false) ∧ Below w.heap.size w W)
    (fun _ _ _ => False)
    (OwnFrom.and (Own.from (fun s A B row hs hg hr => ⟨cell_kept hs.1 hg hr, (frozen_kept hs.1 hg hr).trans hs.2⟩) _) (ownFrom_below (Nat.le_refl _) (by simp; omega)))
    (fun _ _ _ _ _ hs _ _ => hs)
    ⟨⟨box_alloc _ hc0.1, box_alloc_f _ hc0.1 hc0.2⟩, hB0⟩
    (fun x => { tmps := #[.string s, undef, .int .i64 0, .int .i64 0, .pointer (some ⟨w.heap.size, 0, none⟩), .int .i64 x.1, undef, undef, undef, .string s, .func (.func 121) #[] #[.pointer (some ⟨w.heap.size + 1, 0, none⟩)], .int .i64 x.1, .int .i64 x.2, undef, undef, undef, undef, undef, undef, undef, undef, undef, undef, undef, undef, undef, undef, undef], defers := [] }) ?assign ?body ?done ?stop
  case assign =>
    intro l x W K hK
    gi_wp2
    exact hK
  case body =>
    rintro l pre x W ⟨⟨hc, hf⟩, hB⟩ _
    gi_wp2
    exact ⟨KeepsOthers.setCell _ _ _, kpB_set W _ (Nat.le_refl _) (by omega), ⟨by rw [lastOf_snoc]; exact World.cell?_setCell_same' _ _ _ (by rw [hc]; rfl), by rw [World.frozen?_setCell]; exact hf⟩, hB.setCell (p := ⟨w.heap.size, 0, none⟩) (Nat.le_refl _) _⟩
  case done =>
    rintro D ys W hD rfl ⟨⟨hc, _⟩, hB⟩ hK
    rw [lastOf_all _ (bys_bd s)] at hc
    have hTW : Tab W := hT.below hB
    have hDW : D < W.heap.size := (Array.getElem?_eq_some_iff.1 hK).1
    have hlt : w.heap.size < W.heap.size := by simp at hD; omega
    have hq := fin_le (bys s) (bys_bd s)
    rw [bys_length] at hq
    generalize hqq : fin (bys s) = q at hc hq
    have Hqq := Lib.hid hqq
    clear hqq
    by_cases hfin : q = s.size
    · subst hfin
      have e1 : ((s.size : Int) == (s.size : Int)) = true := by simp
      gi_wp2
      refine ⟨by simp, .inl ⟨_, _, rfl, run_takeDeferred hK, ?_⟩⟩
      refine ⟨_, results_tmp2 rfl _ _ _, ?_, hB.trans (belowK_b (w := w) (Nat.le_refl _) W D _ _ (by simp at hD; omega) hK rfl rfl)⟩
      rw [Hqq.out, show chkE (bys s) = 0 from by unfold chkE; rw [Hqq.out, bys_length, if_pos rfl]]
      rfl
    · have e1 : ((q : Int) == (s.size : Int)) = false := by rw [beq_eq_false_iff_ne]; omega
      obtain ⟨x, nn, ee, hr⟩ : ∃ x nn ee, Hid (rd ((bys s).drop q) = (x, nn, ee)) := ⟨_, _, _, rfl⟩
      have rc : ∀ w, Tab w → Calls Tryz.prog 115 #[.string s, .int .i64 (q : Int)] w fun e w' => e = .returned (.tuple #[.int .i64 x, .int .i64 nn, .int .i64 ee]) ∧ Below w.heap.size w w' := by
        intro w hTw
        have := read_any s q hs w hTw
        rw [show rdAt (bys s) (q : Int) = rd ((bys s).drop q) from by unfold rdAt; rw [bys_length, if_neg (by omega), Int.toNat_natCast], hr.out] at this
        exact this
      have Rc := Lib.hid rc
      have Hfin := Lib.hid hfin
      clear rc hfin
      gi_wp2_with (refine ⟨trivial, ?_⟩; gi_at_call 115; refine (callsIn_wide.2 (Rc.out _ hTW)).mono ?_; rintro e w1 ⟨rfl, hb⟩; have hc1 : w1.cell? ⟨w.heap.size, 0, none⟩ = some (.int .i64 (q : Int)) := (hb.cell (p := ⟨w.heap.size, 0, none⟩) hlt).trans hc); have hK1 : w1.heap[D]? = some (.deferred (some [])) := (hb.block D hDW).trans hK
      refine ⟨by simp, .inl ⟨_, _, rfl, run_takeDeferred hK1, ?_⟩⟩
      refine ⟨_, results_tmp2 rfl _ _ _, ?_, (hB.trans (hb.mono (by omega))).trans (belowK_b (w := w) (Nat.le_refl _) w1 D _ _ (by simp at hD; omega) hK1 rfl rfl)⟩
      rw [Hqq.out, show chkE (bys s) = ee from by unfold chkE; rw [Hqq.out, bys_length, if_neg Hfin.out, hr.out]]
      rfl
  case stop =>
    rintro D c pre W _ _ h _
    exact h.elim
/-- CHECK: the first offset at which a string is not good, and how. -/
theorem check_any (s : ByteArray) (hs : s.size ≤ 140737488351232) (w : World) (hT : Tab w) :
    Calls Tryz.prog 106 #[.string s] w fun e w' => e = .returned (.tuple #[.int .i64 (fin (bys s)), .int .i64 (chkE (bys s))]) ∧ Below w.heap.size w w' :=
  callsIn_wide.1 (check_in 3 (Nat.le_refl _) s hs w hT)
theorem valid_yes (s : ByteArray) (hs : s.size ≤ 140737488351232) (h : chkE (bys s) = 0) (w : World) (hT : Tab w) :
    Calls Tryz.prog 88 #[.string s] w fun e w' => e = .returned (.bool true) ∧ Below w.heap.size w w' := by
  have hc := check_any s hs w hT
  rw [h] at hc
  have Hc := Lib.hid hc
  clear hc h
  go_enter Tryz.func88, Tryz.ntmps88
  go_wp2_with (go_at_call 106; refine Hc.out.mono ?_; rintro e w' ⟨rfl, hb⟩)
  go_ret
  exact ⟨rfl, hb⟩
theorem valid_no (s : ByteArray) (hs : s.size ≤ 140737488351232) (h : chkE (bys s) ≠ 0) (w : World) (hT : Tab w) :
    Calls Tryz.prog 88 #[.string s] w fun e w' => e = .returned (.bool false) ∧ Below w.heap.size w w' := by
  have hc := check_any s hs w hT
  generalize chkE (bys s) = ee at hc h
  have Hc := Lib.hid hc
  clear hc
  have h1 : (ee == 0) = false := beq_eq_false_iff_ne.2 h
  have h2 : (ee != 0) = true := bne_iff_ne.2 h
  clear h
  go_enter Tryz.func88, Tryz.ntmps88
  go_wp2_with (go_at_call 106; refine Hc.out.mono ?_; rintro e w' ⟨rfl, hb⟩)
  go_ret
  exact ⟨rfl, hb⟩
/-- Whether a string is valid. -/
def vldB (s : ByteArray) : Bool := decide (chkE (bys s) = 0)
theorem valid_any (s : ByteArray) (hs : s.size ≤ 140737488351232) (w : World) (hT : Tab w) :
    Calls Tryz.prog 88 #[.string s] w fun e w' => e = .returned (.bool (vldB s)) ∧ Below w.heap.size w w' := by
  by_cases h : chkE (bys s) = 0
  · rw [show vldB s = true from decide_eq_true h]
    exact valid_yes s hs h w hT
  · rw [show vldB s = false from decide_eq_false h]
    exact valid_no s hs h w hT
/-- The error of a string that is too long or not valid. -/
def shortE (s : ByteArray) : Int := if 1048576 < s.size then 3 else chkE (bys s)
end Go.Proofs.YtlhekeokognhmaaGreatDoor
namespace Go.Proofs.YtlhekeokognhmaaGreatDoor
open Go.RowKit
theorem infoB : (Tryz.prog.info? 5).map (fun i => (i.zero, i.size, i.bytes)) = some (some (.int .u8 0), 1, 1) := by kernel_rfl

set_option maxHeartbeats 4000000 in
set_option maxRecDepth 100000 in
theorem clone_any (s : ByteArray) (w : World) (hlim : s.size ≤ 281474976710656) :
    Calls Tryz.prog 108 #[.string s] w fun e w' => e = .returned (.string s) ∧ Below w.heap.size w w' := by
  by_cases h0 : s.size = 0
  · have hs : s = ⟨#[]⟩ := by
      apply ByteArray.ext
      exact Array.eq_empty_of_size_eq_zero h0
    subst hs
    go_enter Tryz.func108, Tryz.ntmps108
    go_wp2
    go_ret
    exact ⟨rfl, Below.refl _ _⟩
  · obtain ⟨i0, hi, hz0, hz1, hz2⟩ := info_parts infoB
    have hinfo : (Tryz.prog.info? 5).map (·.size) = some 1 := by rw [hi]; simp [hz1]
    have hco : Tryz.prog.cellsOf 5 = 1 := by simp [Program.cellsOf, hi, hz1]
    obtain ⟨M, hM⟩ : ∃ M, M = madeCells (Value.int .u8 0).cells (((s.size : Nat) : Int).toNat * i0.size) := ⟨_, rfl⟩
    have hMs : M.size = s.size := by rw [hM, size_madeCells, hz1]; simp
    have hmk : ∀ W : World, (Instr.makeSlice 26 (.int .i64 (s.size : Int)) (.int .i64 (s.size : Int))).run Tryz.prog W = .ok (.slice (some ⟨W.heap.size, 0, none⟩) s.size s.size) (W.alloc (.cells M 5)) := fun W => by
      have h := run_make (P := Tryz.prog) W 26 5 i0 (.int .u8 0) Tryz.underlying26 hi hz0 .i64 .i64 (s.size : Int) (s.size : Int) (by omega) (by omega) (by rw [hz2]; omega) (by omega)
      rw [← hM] at h
      simpa using h
    clear hM
    have hcp := Lib.run_copy_row_string (P := Tryz.prog) (w.alloc (.cells M 5)) 26 9 3 5 w.heap.size 0 s.size s.size s M 5 Tryz.underlying26 hinfo (heap_alloc_new w _) (Nat.le_refl _) (by omega)
    obtain ⟨Y, hY⟩ : ∃ Y, Y = (M.toList.take 0 ++ Lib.byteCells s.data.toList ++ M.toList.drop (0 + s.size)).toArray := ⟨_, rfl⟩
    rw [← hY] at hcp
    have hYl : Y.toList = Lib.byteCells s.data.toList := by
      rw [hY, List.toList_toArray, List.take_zero, List.nil_append, List.drop_of_length_le (by rw [Array.length_toList]; omega), List.append_nil]
    have hYs : Y.size = s.size := by rw [← Array.length_toList, hYl, Lib.byteCells_length, ← Lib.size_eq]
    have hgY : ((w.alloc (.cells M 5)).setRow w.heap.size Y).heap[w.heap.size]? = some (.cells Y 5 (0, 0)) := setRow_heap _ _ M _ 5 (0, 0) (heap_alloc_new w _)
    have hne : s.data.toList ≠ [] := fun e => h0 (by rw [Lib.size_eq, e]; rfl)
    have hUS := Lib.run_unsafeString_row (P := Tryz.prog) ((w.alloc (.cells M 5)).setRow w.heap.size Y) 120 3 9 5 Tryz.underlying120 hco w.heap.size Y.size (by unfold World.shape?; rw [hgY]) s.data.toList hne (by rw [← Lib.size_eq]; omega) (by rw [← Lib.size_eq]; omega)
      (fun j x hx => Lib.cells_of_row hgY Y.size j _ (by rw [List.take_of_length_le (by rw [Array.length_toList]; exact Nat.le_refl _), hYl]; simp [Lib.byteCells, hx]))
    rw [← Lib.size_eq] at hUS
    clear hY
    go_enter Tryz.func108, Tryz.ntmps108
    go_wp2
    go_ret
    have hb1 : Below w.heap.size w (w.alloc (.cells M 5)) := (Below.refl _ w).alloc (Nat.le_refl _) _
    have hb2 : Below w.heap.size (w.alloc (.cells M 5)) ((w.alloc (.cells M 5)).setRow w.heap.size Y) := ⟨rfl, rfl, rfl, by simp, fun k hk => setRow_other _ _ _ _ (by omega)⟩
    exact ⟨rfl, Lib.below_freeze (hb1.trans hb2) (p := ⟨w.heap.size, 0, none⟩) (Nat.le_refl _) _⟩

theorem sclone_any (s : ByteArray) (w : World) (hlim : s.size ≤ 281474976710656) :
    Calls Tryz.prog 90 #[.string s] w fun e w' => e = .returned (.string s) ∧ Below w.heap.size w w' := by
  go_enter Tryz.func90, Tryz.ntmps90
  go_wp2_with (go_at_call 108; refine (clone_any s _ hlim).mono ?_; rintro e w' ⟨rfl, hb⟩)
  go_ret
  exact ⟨rfl, hb⟩
end Go.Proofs.YtlhekeokognhmaaGreatDoor
