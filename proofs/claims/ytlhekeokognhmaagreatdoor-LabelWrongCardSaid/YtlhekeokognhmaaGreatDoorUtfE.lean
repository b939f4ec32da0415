/-
  What the iterator points of package utf yields: the code points of a string, each with the offset behind it.
-/
import Derived.Test.YtlhekeokognhmaaGreatDoorFence
import Derived.RangeFuncNested
import Derived.RangeFuncBound
import Derived.RangeFuncCalls
import Derived.RangeFuncLeaves
import Derived.RangeFuncFrom
import Derived.Shelf.Abstract
import Derived.Shelf.RegionOpen
import Derived.OwnWalkIn
import Derived.TacticsInMore
import Derived.LoopNIn
import Derived.LoopIn
import Derived.Test.YtlhekeokognhmaaGreatDoorUtfD
import Derived.Test.YtlhekeokognhmaaGreatDoorMath2
namespace Go.Proofs.YtlhekeokognhmaaGreatDoor
open Go.RowKit Go.Shelf Mt
attribute [local go_sem] Oper.semAt_some

abbrev encP (p : Int × Int) : Array Value := #[.int .i64 p.1, .int .i64 p.2]
set_option maxRecDepth 100000 in
set_option maxHeartbeats 2000000 in
theorem points1_in (n : Nat) (hn : 1 ≤ n) (l Bn n₀ : Nat) (s : ByteArray) (hs : s.size ≤ 140737488351232) (J Jx : List (Int × Int) → World → Prop)
    (W : World) (hJ : AbidesFrom W.heap.size J) (hY : ∀ pre x W1, J pre W1 → pre.length < s.size → YieldAt Fence.wide (n - 1) Tryz.prog l (encP x) W1 fun e W' =>
      (e = .returned (.bool true) ∧ J (pre ++ [x]) W' ∧ KpB n₀ Bn W1 W') ∨ (e = .returned (.bool false) ∧ Jx (pre ++ [x]) W'))
    (hBn : W.cell? ⟨Bn, 0, none⟩ = some (.string s)) (hBn0 : Bn < W.heap.size) (hT : Tab W) (hT0 : 1 < n₀) (h0 : J [] W) :
    CallsIn Fence.wide n Tryz.prog 121 #[.func (.yield l) #[] #[], .pointer (some ⟨Bn, 0, none⟩)] W fun e W' => (∃ v, e = .returned v) ∧
      ((∃ ys, ys = allSteps (bys s) ∧ J ys W') ∨ (∃ pre, pre <+: allSteps (bys s) ∧ Jx pre W')) := by
  refine callsIn_of_wp Tryz.func121 rfl trivial ?_ rfl
  simp only [Tryz.ntmps121, List.size_toArray, List.length_cons, List.length_nil, Nat.reduceAdd, Nat.reduceSub, Array.replicate_succ, Array.replicate_zero, List.push_toArray, List.append_toArray, List.nil_append, List.cons_append]
  refine wpIn_scope_wide ?_
  gi_wp2
  refine wpIn_label ?_
  gi_wp2
  gi_loopw [3] (fun i wr => ∃ (a f : Nat) (pre : List (Int × Int)), i = .int .i64 a ∧ Hid (allSteps (bys s) = pre ++ steps (bys s) f a) ∧ s.size + 1 ≤ f + a ∧ a ≤ s.size ∧ pre.length ≤ a ∧ J pre wr ∧ wr.cell? ⟨Bn, 0, none⟩ = some (.string s) ∧ Tab wr ∧ Bn < wr.heap.size)
    (fun i _ => s.size - (intOf i).toNat)
  case atStart =>
    exact ⟨0, s.size + 1, [], rfl, by show _ = [] ++ _; rw [← bys_length]; rfl, by omega, by omega, by simp, h0, hBn, hT, hBn0⟩
  case round =>
    obtain ⟨a, f, pre, rfl, hst, hfa, ha, hpl, hJs, hbx, hTb, hnw⟩ := hrel
    obtain ⟨x, nn, ee, hr⟩ : ∃ x nn ee, Hid (rd ((bys s).drop a) = (x, nn, ee)) := ⟨_, _, _, rfl⟩
    have rc : ∀ w, Tab w → Calls Tryz.prog 115 #[.string s, .int .i64 (a : Int)] w fun e w' => e = .returned (.tuple #[.int .i64 x, .int .i64 nn, .int .i64 ee]) ∧ Below w.heap.size w w' := by
      intro w hTw
      have := read_any s a hs w hTw
      rw [show rdAt (bys s) (a : Int) = rd ((bys s).drop a) from by unfold rdAt; rw [bys_length, if_neg (by omega), Int.toNat_natCast], hr.out] at this
      exact this
    have Rc := Lib.hid rc
    clear rc
    obtain ⟨f, rfl⟩ : ∃ g, f = g + 1 := ⟨f - 1, by omega⟩
    by_cases he : ee = 0
    · subst he
      have hbd := rd_ok_bd (fun c hc => bys_bd s c (List.mem_of_mem_drop hc)) (show (rd ((bys s).drop a)).2.2 = 0 from by rw [hr.out])
      rw [hr.out, List.length_drop, bys_length] at hbd
      obtain ⟨hb1, hb2, hb3⟩ := hbd
      have hst2 : Hid (allSteps (bys s) = (pre ++ [((a : Int) + nn, x)]) ++ steps (bys s) f (a + nn.toNat)) := by
        show _ = _
        rw [hst.out, steps_go (by rw [hr.out]), hr.out, List.append_assoc]
        rfl
      have hlen : pre.length < s.size := by dsimp only at hb1 hb3; omega
      dsimp only at hb1 hb2 hb3
      gi_wp2_with (refine ⟨trivial, ?_⟩; gi_at_call 115; refine (callsIn_wide.2 (Rc.out _ hTb)).mono ?_; rintro e w1 ⟨rfl, hb⟩; obtain ⟨fn, tmps, assign, body, hy, hR⟩ := hY pre ((a : Int) + nn, x) w1 (hJ _ _ _ none hJs (grown_of_below hb) (fun r e => by cases e)) hlen; dsimp only [encP] at hy)
      refine hR.mono ?_
      rintro e W3 (⟨rfl, hJ3, hk3⟩ | ⟨rfl, hJx3⟩)
      · gi_wp2
        go_roundw
        case rel =>
          refine ⟨a + nn.toNat, f, pre ++ [((a : Int) + nn, x)], by rw [show (a : Int) + nn = ((a + nn.toNat : Nat) : Int) from by omega], hst2, by omega, by omega, by rw [List.length_append, List.length_singleton]; omega, hJ3, ?_, ?_, ?_⟩
          · exact (World.cell?_of_block (w := w1) (a := ⟨Bn, 0, none⟩) hk3.2).trans ((hb.cell (p := ⟨Bn, 0, none⟩) (by show Bn < _; omega)).trans hbx)
          · obtain ⟨t, fr, ht⟩ := hTb.below hb
            exact ⟨t, fr, (hk3.1.block _ hT0).trans ht⟩
          · have h1 := hk3.1.size
            have h2 := hb.size
            omega
        case measure => simp [intOf]; omega
      · gi_wp2
        rw [Exit.noGoto_ret]
        refine bodyPost_ret (results_none rfl _ _ _) rfl ?_
        exact ⟨⟨_, rfl⟩, .inr ⟨_, ⟨_, hst2.out.symm⟩, hJx3⟩⟩
    · have h1 : (ee == 0) = false := beq_eq_false_iff_ne.2 he
      have h2 : (ee != 0) = true := bne_iff_ne.2 he
      have hst2 : Hid (pre = allSteps (bys s)) := by
        show _ = _
        rw [hst.out, steps_stop (by rw [hr.out]; exact he), List.append_nil]
      clear he
      gi_wp2_with (refine ⟨trivial, ?_⟩; gi_at_call 115; refine (callsIn_wide.2 (Rc.out _ hTb)).mono ?_; rintro e w1 ⟨rfl, hb⟩)
      rw [Exit.noGoto_normal]
      go_end0
      exact ⟨⟨_, rfl⟩, .inl ⟨pre, hst2.out, hJ _ _ _ none hJs (grown_of_below hb) (fun r e => by cases e)⟩⟩

/-- THE ITERATOR's WORD: all code points have come, or a part has, a round having said no more. -/
theorem points_stops (n : Nat) (hn : 1 ≤ n) (Bn n₀ : Nat) (s : ByteArray) (hs : s.size ≤ 140737488351232) (w : World) (hBn : w.cell? ⟨Bn, 0, none⟩ = some (.string s)) (hBn0 : Bn < w.heap.size) (hT : Tab w) (hT0 : 1 < n₀) :
    SeqStopsK Fence.wide n Tryz.prog 121 #[.pointer (some ⟨Bn, 0, none⟩)] encP (KpB n₀ Bn) (fun xs => xs = allSteps (bys s)) (fun pre => pre <+: allSteps (bys s)) s.size w :=
  fun l J Jx W hW hJ _ hY h0 => points1_in n hn l Bn n₀ s hs J Jx W hJ hY ((hW.cell (p := ⟨Bn, 0, none⟩) (by show Bn < _; omega)).trans hBn) (by have := hW.size; omega) (hT.below hW) hT0 h0

theorem points_any (s : ByteArray) (w : World) : Calls Tryz.prog 114 #[.string s] w fun e w' => e = .returned (.func (.func 121) #[] #[.pointer (some ⟨w.heap.size, 0, none⟩)]) ∧ w' = w.alloc (.cells #[.string s] 9) := by
  go_enter Tryz.func114, Tryz.ntmps114
  go_wp2
  go_ret
  exact ⟨rfl, rfl⟩
end Go.Proofs.YtlhekeokognhmaaGreatDoor
