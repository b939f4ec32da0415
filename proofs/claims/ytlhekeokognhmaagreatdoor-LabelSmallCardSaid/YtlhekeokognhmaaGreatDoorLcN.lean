/-
  The reference of layer 4: names, what is wrong with a label, find, Check, Right, Get.
-/
import Derived.Test.YtlhekeokognhmaaGreatDoorMgax
import Derived.Deep.DeepCutAuto
import Derived.Laws.Cover1
namespace Go.Proofs.YtlhekeokognhmaaGreatDoor
open Go.RowKit Go.Shelf

set_option maxRecDepth 100000 in
set_option maxHeartbeats 2000000 in
theorem refname_false (s : ByteArray) (hs : s.size ≤ 1000000) (w : World) : Calls Tryz.prog 47 #[.string s, .bool false] w fun e w' => e = .returned (.bool (nmB namB s)) ∧ Kept w w' := by
  have Hbl := Lib.hid (bys_length s)
  by_cases h0 : s.size = 0
  · have hn : nmB namB s = false := by unfold nmB; simp [h0]
    rw [hn]
    have h0' : ((s.size : Int) == 0) = true := by simp [h0]
    clear h0
    go_enter Tryz.func47, Tryz.ntmps47
    go_wp2_with fail
    go_ret
    exact ⟨rfl, Below.refl _ _⟩
  have h0' : ((s.size : Int) == 0) = false := beq_eq_false_iff_ne.2 (by omega)
  by_cases h1 : s.size ≤ 128
  case neg =>
    have hn : nmB namB s = false := by unfold nmB; simp [h1]
    rw [hn]
    have h1' : (128 : Int) < (s.size : Int) := by omega
    clear h0 h1
    go_enter Tryz.func47, Tryz.ntmps47
    go_wp2_with fail
    go_ret
    exact ⟨rfl, Below.refl _ _⟩
  have h1' : ¬ (128 : Int) < (s.size : Int) := by omega
  have hpos : (0 : Int) < (s.size : Int) := by omega
  obtain ⟨c0, hc0⟩ : ∃ c, c = (bys s).getD 0 0 := ⟨_, rfl⟩
  have hidx : ∀ W, (Instr.index 9 (.string s) (.int .i64 0)).run Tryz.prog W = .ok (.int .u8 c0) W := idx_at s (bys s) rfl 0 0 rfl c0 (by rw [hc0, List.getD_eq_getElem?_getD, List.getElem?_eq_getElem (by rw [bys_length]; omega)]; rfl)
  by_cases hd : 48 ≤ c0 ∧ c0 ≤ 57
  · have hn : nmB namB s = false := by unfold nmB; rw [← hc0, show digB c0 = true by unfold digB; simp; omega]; simp
    rw [hn]
    obtain ⟨hd1, hd2⟩ := hd
    clear hc0 h0
    go_enter Tryz.func47, Tryz.ntmps47
    go_wp2_with fail
    go_ret
    exact ⟨rfl, Below.refl _ _⟩
  have hdB : digB c0 = false := by unfold digB; simp; omega
  have Hn : Hid (nmB namB s = (bys s).all namB) := by show _ = _; unfold nmB; rw [← hc0, hdB]; simp [h0, h1]
  have hd1 : (48 : Int) ≤ c0 → ¬ c0 ≤ 57 := fun h1 h2 => hd ⟨h1, h2⟩
  clear hd hdB hc0 h0
  by_cases hd2 : (48 : Int) ≤ c0
  all_goals
    first
      | (have hd3 : ¬ c0 ≤ 57 := hd1 hd2)
      | skip
    clear hd1
    go_enter Tryz.func47, Tryz.ntmps47
    go_wp2_with fail
    go_loopw [5] (fun v5 wr => ∃ k q : Nat, k ≤ s.size ∧ v5 = .int .i64 k ∧ wr = w.drewN q ∧ Hid (((bys s).take k).all namB = true)) (fun v5 _ => s.size - (intOf v5).toNat)
    case atStart => exact ⟨0, 0, by omega, rfl, rfl, rfl⟩
    case round =>
      obtain ⟨k, q, hk, rfl, rfl, ha⟩ := hrel
      by_cases hkn : k < s.size
      · obtain ⟨c, hc1, hc2⟩ := drop_get (bys s) k (by rw [Hbl.out]; exact hkn)
        have ic := idx_at s (bys s) rfl k k rfl c hc1
        have Hck : Hid ((bys s).take (k + 1) = (bys s).take k ++ [c]) := by
          show _ = _
          rw [List.take_add_one, hc1]; rfl
        have Hmem : Hid (c ∈ bys s) := List.mem_of_getElem? hc1
        clear hc1 hc2 hidx
        try clear hd2
        try clear hd3
        rcases classes c with hc | hc | hc | hc | hc | hc | hc | hc | hc | hc
        · have hp : namB c = false := by unfold namB letB digB; simp; omega
          have a0 : decide ((97 : Int) ≤ c) = false := decide_eq_false (by omega)
          have p0 : ¬ ((97 : Int) ≤ c) := by omega
          have a1 : decide (c ≤ 122) = true := decide_eq_true (by omega)
          have p1 : (c ≤ 122) := by omega
          have a2 : decide ((65 : Int) ≤ c) = false := decide_eq_false (by omega)
          have p2 : ¬ ((65 : Int) ≤ c) := by omega
          have a3 : decide (c ≤ 90) = true := decide_eq_true (by omega)
          have p3 : (c ≤ 90) := by omega
          have a4 : decide ((48 : Int) ≤ c) = false := decide_eq_false (by omega)
          have p4 : ¬ ((48 : Int) ≤ c) := by omega
          have a5 : decide (c ≤ 57) = true := decide_eq_true (by omega)
          have p5 : (c ≤ 57) := by omega
          have n0 : (c != 95) = true := bne_iff_ne.2 (by omega)
          have n1 : (c != 58) = true := bne_iff_ne.2 (by omega)
          clear hc
          go_wp2_with fail
          go_quiet (fail)
          go_wp2_with fail
          go_ret
          exact ⟨by rw [Hn.out, show (bys s).all namB = false from List.all_eq_false.2 ⟨c, Hmem.out, by rw [hp]; simp⟩]; rfl, below_drewN (Below.refl _ _) _⟩
        · have hp : namB c = true := by unfold namB letB digB; simp; omega
          have a0 : decide ((97 : Int) ≤ c) = false := decide_eq_false (by omega)
          have p0 : ¬ ((97 : Int) ≤ c) := by omega
          have a1 : decide (c ≤ 122) = true := decide_eq_true (by omega)
          have p1 : (c ≤ 122) := by omega
          have a2 : decide ((65 : Int) ≤ c) = false := decide_eq_false (by omega)
          have p2 : ¬ ((65 : Int) ≤ c) := by omega
          have a3 : decide (c ≤ 90) = true := decide_eq_true (by omega)
          have p3 : (c ≤ 90) := by omega
          have a4 : decide ((48 : Int) ≤ c) = true := decide_eq_true (by omega)
          have p4 : ((48 : Int) ≤ c) := by omega
          have a5 : decide (c ≤ 57) = true := decide_eq_true (by omega)
          have p5 : (c ≤ 57) := by omega
          have n0 : (c != 95) = true := bne_iff_ne.2 (by omega)
          have n1 : (c != 58) = true := bne_iff_ne.2 (by omega)
          clear hc
          go_wp2_with fail
          go_quiet (fail)
          go_wp2_with fail
          go_roundw
          case rel => exact ⟨k + 1, _, by omega, by go_num, rfl, by show _ = _; rw [Hck.out, List.all_append, ha.out]; simp [hp]⟩
          case measure => simp [intOf]; omega
        · have hp : namB c = false := by unfold namB letB digB; simp; omega
          have a0 : decide ((97 : Int) ≤ c) = false := decide_eq_false (by omega)
          have p0 : ¬ ((97 : Int) ≤ c) := by omega
          have a1 : decide (c ≤ 122) = true := decide_eq_true (by omega)
          have p1 : (c ≤ 122) := by omega
          have a2 : decide ((65 : Int) ≤ c) = false := decide_eq_false (by omega)
          have p2 : ¬ ((65 : Int) ≤ c) := by omega
          have a3 : decide (c ≤ 90) = true := decide_eq_true (by omega)
          have p3 : (c ≤ 90) := by omega
          have a4 : decide ((48 : Int) ≤ c) = true := decide_eq_true (by omega)
          have p4 : ((48 : Int) ≤ c) := by omega
          have a5 : decide (c ≤ 57) = false := decide_eq_false (by omega)
          have p5 : ¬ (c ≤ 57) := by omega
          have n0 : (c != 95) = true := bne_iff_ne.2 (by omega)
          have n1 : (c != 58) = false := by rw [hc]; rfl
          clear hc
          go_wp2_with fail
          go_quiet (fail)
          go_wp2_with fail
          go_ret
          exact ⟨by rw [Hn.out, show (bys s).all namB = false from List.all_eq_false.2 ⟨c, Hmem.out, by rw [hp]; simp⟩]; rfl, below_drewN (Below.refl _ _) _⟩
        · have hp : namB c = false := by unfold namB letB digB; simp; omega
          have a0 : decide ((97 : Int) ≤ c) = false := decide_eq_false (by omega)
          have p0 : ¬ ((97 : Int) ≤ c) := by omega
          have a1 : decide (c ≤ 122) = true := decide_eq_true (by omega)
          have p1 : (c ≤ 122) := by omega
          have a2 : decide ((65 : Int) ≤ c) = false := decide_eq_false (by omega)
          have p2 : ¬ ((65 : Int) ≤ c) := by omega
          have a3 : decide (c ≤ 90) = true := decide_eq_true (by omega)
          have p3 : (c ≤ 90) := by omega
          have a4 : decide ((48 : Int) ≤ c) = true := decide_eq_true (by omega)
          have p4 : ((48 : Int) ≤ c) := by omega
          have a5 : decide (c ≤ 57) = false := decide_eq_false (by omega)
          have p5 : ¬ (c ≤ 57) := by omega
          have n0 : (c != 95) = true := bne_iff_ne.2 (by omega)
          have n1 : (c != 58) = true := bne_iff_ne.2 (by omega)
          clear hc
          go_wp2_with fail
          go_quiet (fail)
          go_wp2_with fail
          go_ret
          exact ⟨by rw [Hn.out, show (bys s).all namB = false from List.all_eq_false.2 ⟨c, Hmem.out, by rw [hp]; simp⟩]; rfl, below_drewN (Below.refl _ _) _⟩
        · have hp : namB c = true := by unfold namB letB digB; simp; omega
          have a0 : decide ((97 : Int) ≤ c) = false := decide_eq_false (by omega)
          have p0 : ¬ ((97 : Int) ≤ c) := by omega
          have a1 : decide (c ≤ 122) = true := decide_eq_true (by omega)
          have p1 : (c ≤ 122) := by omega
          have a2 : decide ((65 : Int) ≤ c) = true := decide_eq_true (by omega)
          have p2 : ((65 : Int) ≤ c) := by omega
          have a3 : decide (c ≤ 90) = true := decide_eq_true (by omega)
          have p3 : (c ≤ 90) := by omega
          have a4 : decide ((48 : Int) ≤ c) = true := decide_eq_true (by omega)
          have p4 : ((48 : Int) ≤ c) := by omega
          have a5 : decide (c ≤ 57) = false := decide_eq_false (by omega)
          have p5 : ¬ (c ≤ 57) := by omega
          have n0 : (c != 95) = true := bne_iff_ne.2 (by omega)
          have n1 : (c != 58) = true := bne_iff_ne.2 (by omega)
          clear hc
          go_wp2_with fail
          go_quiet (fail)
          go_wp2_with fail
          go_roundw
          case rel => exact ⟨k + 1, _, by omega, by go_num, rfl, by show _ = _; rw [Hck.out, List.all_append, ha.out]; simp [hp]⟩
          case measure => simp [intOf]; omega
        · have hp : namB c = false := by unfold namB letB digB; simp; omega
          have a0 : decide ((97 : Int) ≤ c) = false := decide_eq_false (by omega)
          have p0 : ¬ ((97 : Int) ≤ c) := by omega
          have a1 : decide (c ≤ 122) = true := decide_eq_true (by omega)
          have p1 : (c ≤ 122) := by omega
          have a2 : decide ((65 : Int) ≤ c) = true := decide_eq_true (by omega)
          have p2 : ((65 : Int) ≤ c) := by omega
          have a3 : decide (c ≤ 90) = false := decide_eq_false (by omega)
          have p3 : ¬ (c ≤ 90) := by omega
          have a4 : decide ((48 : Int) ≤ c) = true := decide_eq_true (by omega)
          have p4 : ((48 : Int) ≤ c) := by omega
          have a5 : decide (c ≤ 57) = false := decide_eq_false (by omega)
          have p5 : ¬ (c ≤ 57) := by omega
          have n0 : (c != 95) = true := bne_iff_ne.2 (by omega)
          have n1 : (c != 58) = true := bne_iff_ne.2 (by omega)
          clear hc
          go_wp2_with fail
          go_quiet (fail)
          go_wp2_with fail
          go_ret
          exact ⟨by rw [Hn.out, show (bys s).all namB = false from List.all_eq_false.2 ⟨c, Hmem.out, by rw [hp]; simp⟩]; rfl, below_drewN (Below.refl _ _) _⟩
        · have hp : namB c = true := by unfold namB letB digB; simp; omega
          have a0 : decide ((97 : Int) ≤ c) = false := decide_eq_false (by omega)
          have p0 : ¬ ((97 : Int) ≤ c) := by omega
          have a1 : decide (c ≤ 122) = true := decide_eq_true (by omega)
          have p1 : (c ≤ 122) := by omega
          have a2 : decide ((65 : Int) ≤ c) = true := decide_eq_true (by omega)
          have p2 : ((65 : Int) ≤ c) := by omega
          have a3 : decide (c ≤ 90) = false := decide_eq_false (by omega)
          have p3 : ¬ (c ≤ 90) := by omega
          have a4 : decide ((48 : Int) ≤ c) = true := decide_eq_true (by omega)
          have p4 : ((48 : Int) ≤ c) := by omega
          have a5 : decide (c ≤ 57) = false := decide_eq_false (by omega)
          have p5 : ¬ (c ≤ 57) := by omega
          have n0 : (c != 95) = false := by rw [hc]; rfl
          have n1 : (c != 58) = true := bne_iff_ne.2 (by omega)
          clear hc
          go_wp2_with fail
          go_quiet (fail)
          go_wp2_with fail
          go_roundw
          case rel => exact ⟨k + 1, _, by omega, by go_num, rfl, by show _ = _; rw [Hck.out, List.all_append, ha.out]; simp [hp]⟩
          case measure => simp [intOf]; omega
        · have hp : namB c = false := by unfold namB letB digB; simp; omega
          have a0 : decide ((97 : Int) ≤ c) = false := decide_eq_false (by omega)
          have p0 : ¬ ((97 : Int) ≤ c) := by omega
          have a1 : decide (c ≤ 122) = true := decide_eq_true (by omega)
          have p1 : (c ≤ 122) := by omega
          have a2 : decide ((65 : Int) ≤ c) = true := decide_eq_true (by omega)
          have p2 : ((65 : Int) ≤ c) := by omega
          have a3 : decide (c ≤ 90) = false := decide_eq_false (by omega)
          have p3 : ¬ (c ≤ 90) := by omega
          have a4 : decide ((48 : Int) ≤ c) = true := decide_eq_true (by omega)
          have p4 : ((48 : Int) ≤ c) := by omega
          have a5 : decide (c ≤ 57) = false := decide_eq_false (by omega)
          have p5 : ¬ (c ≤ 57) := by omega
          have n0 : (c != 95) = true := bne_iff_ne.2 (by omega)
          have n1 : (c != 58) = true := bne_iff_ne.2 (by omega)
          clear hc
          go_wp2_with fail
          go_quiet (fail)
          go_wp2_with fail
          go_ret
          exact ⟨by rw [Hn.out, show (bys s).all namB = false from List.all_eq_false.2 ⟨c, Hmem.out, by rw [hp]; simp⟩]; rfl, below_drewN (Below.refl _ _) _⟩
        · have hp : namB c = true := by unfold namB letB digB; simp; omega
          have a0 : decide ((97 : Int) ≤ c) = true := decide_eq_true (by omega)
          have p0 : ((97 : Int) ≤ c) := by omega
          have a1 : decide (c ≤ 122) = true := decide_eq_true (by omega)
          have p1 : (c ≤ 122) := by omega
          have a2 : decide ((65 : Int) ≤ c) = true := decide_eq_true (by omega)
          have p2 : ((65 : Int) ≤ c) := by omega
          have a3 : decide (c ≤ 90) = false := decide_eq_false (by omega)
          have p3 : ¬ (c ≤ 90) := by omega
          have a4 : decide ((48 : Int) ≤ c) = true := decide_eq_true (by omega)
          have p4 : ((48 : Int) ≤ c) := by omega
          have a5 : decide (c ≤ 57) = false := decide_eq_false (by omega)
          have p5 : ¬ (c ≤ 57) := by omega
          have n0 : (c != 95) = true := bne_iff_ne.2 (by omega)
          have n1 : (c != 58) = true := bne_iff_ne.2 (by omega)
          clear hc
          go_wp2_with fail
          go_quiet (fail)
          go_wp2_with fail
          go_roundw
          case rel => exact ⟨k + 1, _, by omega, by go_num, rfl, by show _ = _; rw [Hck.out, List.all_append, ha.out]; simp [hp]⟩
          case measure => simp [intOf]; omega
        · have hp : namB c = false := by unfold namB letB digB; simp; omega
          have a0 : decide ((97 : Int) ≤ c) = true := decide_eq_true (by omega)
          have p0 : ((97 : Int) ≤ c) := by omega
          have a1 : decide (c ≤ 122) = false := decide_eq_false (by omega)
          have p1 : ¬ (c ≤ 122) := by omega
          have a2 : decide ((65 : Int) ≤ c) = true := decide_eq_true (by omega)
          have p2 : ((65 : Int) ≤ c) := by omega
          have a3 : decide (c ≤ 90) = false := decide_eq_false (by omega)
          have p3 : ¬ (c ≤ 90) := by omega
          have a4 : decide ((48 : Int) ≤ c) = true := decide_eq_true (by omega)
          have p4 : ((48 : Int) ≤ c) := by omega
          have a5 : decide (c ≤ 57) = false := decide_eq_false (by omega)
          have p5 : ¬ (c ≤ 57) := by omega
          have n0 : (c != 95) = true := bne_iff_ne.2 (by omega)
          have n1 : (c != 58) = true := bne_iff_ne.2 (by omega)
          clear hc
          go_wp2_with fail
          go_quiet (fail)
          go_wp2_with fail
          go_ret
          exact ⟨by rw [Hn.out, show (bys s).all namB = false from List.all_eq_false.2 ⟨c, Hmem.out, by rw [hp]; simp⟩]; rfl, below_drewN (Below.refl _ _) _⟩
      · obtain rfl : k = s.size := by omega
        go_wp2_with fail
        go_ret
        refine ⟨?_, below_drewN (Below.refl _ _) _⟩
        have h2 := ha.out
        rw [List.take_of_length_le (by rw [Hbl.out]; exact Nat.le_refl _)] at h2
        rw [Hn.out, h2]
        rfl

set_option maxRecDepth 100000 in
set_option maxHeartbeats 2000000 in
theorem refname_true (s : ByteArray) (hs : s.size ≤ 1000000) (w : World) : Calls Tryz.prog 47 #[.string s, .bool true] w fun e w' => e = .returned (.bool (nmB metB s)) ∧ Kept w w' := by
  have Hbl := Lib.hid (bys_length s)
  by_cases h0 : s.size = 0
  · have hn : nmB metB s = false := by unfold nmB; simp [h0]
    rw [hn]
    have h0' : ((s.size : Int) == 0) = true := by simp [h0]
    clear h0
    go_enter Tryz.func47, Tryz.ntmps47
    go_wp2_with fail
    go_ret
    exact ⟨rfl, Below.refl _ _⟩
  have h0' : ((s.size : Int) == 0) = false := beq_eq_false_iff_ne.2 (by omega)
  by_cases h1 : s.size ≤ 128
  case neg =>
    have hn : nmB metB s = false := by unfold nmB; simp [h1]
    rw [hn]
    have h1' : (128 : Int) < (s.size : Int) := by omega
    clear h0 h1
    go_enter Tryz.func47, Tryz.ntmps47
    go_wp2_with fail
    go_ret
    exact ⟨rfl, Below.refl _ _⟩
  have h1' : ¬ (128 : Int) < (s.size : Int) := by omega
  have hpos : (0 : Int) < (s.size : Int) := by omega
  obtain ⟨c0, hc0⟩ : ∃ c, c = (bys s).getD 0 0 := ⟨_, rfl⟩
  have hidx : ∀ W, (Instr.index 9 (.string s) (.int .i64 0)).run Tryz.prog W = .ok (.int .u8 c0) W := idx_at s (bys s) rfl 0 0 rfl c0 (by rw [hc0, List.getD_eq_getElem?_getD, List.getElem?_eq_getElem (by rw [bys_length]; omega)]; rfl)
  by_cases hd : 48 ≤ c0 ∧ c0 ≤ 57
  · have hn : nmB metB s = false := by unfold nmB; rw [← hc0, show digB c0 = true by unfold digB; simp; omega]; simp
    rw [hn]
    obtain ⟨hd1, hd2⟩ := hd
    clear hc0 h0
    go_enter Tryz.func47, Tryz.ntmps47
    go_wp2_with fail
    go_ret
    exact ⟨rfl, Below.refl _ _⟩
  have hdB : digB c0 = false := by unfold digB; simp; omega
  have Hn : Hid (nmB metB s = (bys s).all metB) := by show _ = _; unfold nmB; rw [← hc0, hdB]; simp [h0, h1]
  have hd1 : (48 : Int) ≤ c0 → ¬ c0 ≤ 57 := fun h1 h2 => hd ⟨h1, h2⟩
  clear hd hdB hc0 h0
  by_cases hd2 : (48 : Int) ≤ c0
  all_goals
    first
      | (have hd3 : ¬ c0 ≤ 57 := hd1 hd2)
      | skip
    clear hd1
    go_enter Tryz.func47, Tryz.ntmps47
    go_wp2_with fail
    go_loopw [5] (fun v5 wr => ∃ k q : Nat, k ≤ s.size ∧ v5 = .int .i64 k ∧ wr = w.drewN q ∧ Hid (((bys s).take k).all metB = true)) (fun v5 _ => s.size - (intOf v5).toNat)
    case atStart => exact ⟨0, 0, by omega, rfl, rfl, rfl⟩
    case round =>
      obtain ⟨k, q, hk, rfl, rfl, ha⟩ := hrel
      by_cases hkn : k < s.size
      · obtain ⟨c, hc1, hc2⟩ := drop_get (bys s) k (by rw [Hbl.out]; exact hkn)
        have ic := idx_at s (bys s) rfl k k rfl c hc1
        have Hck : Hid ((bys s).take (k + 1) = (bys s).take k ++ [c]) := by
          show _ = _
          rw [List.take_add_one, hc1]; rfl
        have Hmem : Hid (c ∈ bys s) := List.mem_of_getElem? hc1
        clear hc1 hc2 hidx
        try clear hd2
        try clear hd3
        rcases classes c with hc | hc | hc | hc | hc | hc | hc | hc | hc | hc
        · have hp : metB c = false := by unfold metB namB letB digB; simp; omega
          have a0 : decide ((97 : Int) ≤ c) = false := decide_eq_false (by omega)
          have p0 : ¬ ((97 : Int) ≤ c) := by omega
          have a1 : decide (c ≤ 122) = true := decide_eq_true (by omega)
          have p1 : (c ≤ 122) := by omega
          have a2 : decide ((65 : Int) ≤ c) = false := decide_eq_false (by omega)
          have p2 : ¬ ((65 : Int) ≤ c) := by omega
          have a3 : decide (c ≤ 90) = true := decide_eq_true (by omega)
          have p3 : (c ≤ 90) := by omega
          have a4 : decide ((48 : Int) ≤ c) = false := decide_eq_false (by omega)
          have p4 : ¬ ((48 : Int) ≤ c) := by omega
          have a5 : decide (c ≤ 57) = true := decide_eq_true (by omega)
          have p5 : (c ≤ 57) := by omega
          have n0 : (c != 95) = true := bne_iff_ne.2 (by omega)
          have n1 : (c != 58) = true := bne_iff_ne.2 (by omega)
          clear hc
          go_wp2_with fail
          go_quiet (fail)
          go_wp2_with fail
          go_ret
          exact ⟨by rw [Hn.out, show (bys s).all metB = false from List.all_eq_false.2 ⟨c, Hmem.out, by rw [hp]; simp⟩]; rfl, below_drewN (Below.refl _ _) _⟩
        · have hp : metB c = true := by unfold metB namB letB digB; simp; omega
          have a0 : decide ((97 : Int) ≤ c) = false := decide_eq_false (by omega)
          have p0 : ¬ ((97 : Int) ≤ c) := by omega
          have a1 : decide (c ≤ 122) = true := decide_eq_true (by omega)
          have p1 : (c ≤ 122) := by omega
          have a2 : decide ((65 : Int) ≤ c) = false := decide_eq_false (by omega)
          have p2 : ¬ ((65 : Int) ≤ c) := by omega
          have a3 : decide (c ≤ 90) = true := decide_eq_true (by omega)
          have p3 : (c ≤ 90) := by omega
          have a4 : decide ((48 : Int) ≤ c) = true := decide_eq_true (by omega)
          have p4 : ((48 : Int) ≤ c) := by omega
          have a5 : decide (c ≤ 57) = true := decide_eq_true (by omega)
          have p5 : (c ≤ 57) := by omega
          have n0 : (c != 95) = true := bne_iff_ne.2 (by omega)
          have n1 : (c != 58) = true := bne_iff_ne.2 (by omega)
          clear hc
          go_wp2_with fail
          go_quiet (fail)
          go_wp2_with fail
          go_roundw
          case rel => exact ⟨k + 1, _, by omega, by go_num, rfl, by show _ = _; rw [Hck.out, List.all_append, ha.out]; simp [hp]⟩
          case measure => simp [intOf]; omega
        · have hp : metB c = true := by unfold metB namB letB digB; simp; omega
          have a0 : decide ((97 : Int) ≤ c) = false := decide_eq_false (by omega)
          have p0 : ¬ ((97 : Int) ≤ c) := by omega
          have a1 : decide (c ≤ 122) = true := decide_eq_true (by omega)
          have p1 : (c ≤ 122) := by omega
          have a2 : decide ((65 : Int) ≤ c) = false := decide_eq_false (by omega)
          have p2 : ¬ ((65 : Int) ≤ c) := by omega
          have a3 : decide (c ≤ 90) = true := decide_eq_true (by omega)
          have p3 : (c ≤ 90) := by omega
          have a4 : decide ((48 : Int) ≤ c) = true := decide_eq_true (by omega)
          have p4 : ((48 : Int) ≤ c) := by omega
          have a5 : decide (c ≤ 57) = false := decide_eq_false (by omega)
          have p5 : ¬ (c ≤ 57) := by omega
          have n0 : (c != 95) = true := bne_iff_ne.2 (by omega)
          have n1 : (c != 58) = false := by rw [hc]; rfl
          clear hc
          go_wp2_with fail
          go_quiet (fail)
          go_wp2_with fail
          go_roundw
          case rel => exact ⟨k + 1, _, by omega, by go_num, rfl, by show _ = _; rw [Hck.out, List.all_append, ha.out]; simp [hp]⟩
          case measure => simp [intOf]; omega
        · have hp : metB c = false := by unfold metB namB letB digB; simp; omega
          have a0 : decide ((97 : Int) ≤ c) = false := decide_eq_false (by omega)
          have p0 : ¬ ((97 : Int) ≤ c) := by omega
          have a1 : decide (c ≤ 122) = true := decide_eq_true (by omega)
          have p1 : (c ≤ 122) := by omega
          have a2 : decide ((65 : Int) ≤ c) = false := decide_eq_false (by omega)
          have p2 : ¬ ((65 : Int) ≤ c) := by omega
          have a3 : decide (c ≤ 90) = true := decide_eq_true (by omega)
          have p3 : (c ≤ 90) := by omega
          have a4 : decide ((48 : Int) ≤ c) = true := decide_eq_true (by omega)
          have p4 : ((48 : Int) ≤ c) := by omega
          have a5 : decide (c ≤ 57) = false := decide_eq_false (by omega)
          have p5 : ¬ (c ≤ 57) := by omega
          have n0 : (c != 95) = true := bne_iff_ne.2 (by omega)
          have n1 : (c != 58) = true := bne_iff_ne.2 (by omega)
          clear hc
          go_wp2_with fail
          go_quiet (fail)
          go_wp2_with fail
          go_ret
          exact ⟨by rw [Hn.out, show (bys s).all metB = false from List.all_eq_false.2 ⟨c, Hmem.out, by rw [hp]; simp⟩]; rfl, below_drewN (Below.refl _ _) _⟩
        · have hp : metB c = true := by unfold metB namB letB digB; simp; omega
          have a0 : decide ((97 : Int) ≤ c) = false := decide_eq_false (by omega)
          have p0 : ¬ ((97 : Int) ≤ c) := by omega
          have a1 : decide (c ≤ 122) = true := decide_eq_true (by omega)
          have p1 : (c ≤ 122) := by omega
          have a2 : decide ((65 : Int) ≤ c) = true := decide_eq_true (by omega)
          have p2 : ((65 : Int) ≤ c) := by omega
          have a3 : decide (c ≤ 90) = true := decide_eq_true (by omega)
          have p3 : (c ≤ 90) := by omega
          have a4 : decide ((48 : Int) ≤ c) = true := decide_eq_true (by omega)
          have p4 : ((48 : Int) ≤ c) := by omega
          have a5 : decide (c ≤ 57) = false := decide_eq_false (by omega)
          have p5 : ¬ (c ≤ 57) := by omega
          have n0 : (c != 95) = true := bne_iff_ne.2 (by omega)
          have n1 : (c != 58) = true := bne_iff_ne.2 (by omega)
          clear hc
          go_wp2_with fail
          go_quiet (fail)
          go_wp2_with fail
          go_roundw
          case rel => exact ⟨k + 1, _, by omega, by go_num, rfl, by show _ = _; rw [Hck.out, List.all_append, ha.out]; simp [hp]⟩
          case measure => simp [intOf]; omega
        · have hp : metB c = false := by unfold metB namB letB digB; simp; omega
          have a0 : decide ((97 : Int) ≤ c) = false := decide_eq_false (by omega)
          have p0 : ¬ ((97 : Int) ≤ c) := by omega
          have a1 : decide (c ≤ 122) = true := decide_eq_true (by omega)
          have p1 : (c ≤ 122) := by omega
          have a2 : decide ((65 : Int) ≤ c) = true := decide_eq_true (by omega)
          have p2 : ((65 : Int) ≤ c) := by omega
          have a3 : decide (c ≤ 90) = false := decide_eq_false (by omega)
          have p3 : ¬ (c ≤ 90) := by omega
          have a4 : decide ((48 : Int) ≤ c) = true := decide_eq_true (by omega)
          have p4 : ((48 : Int) ≤ c) := by omega
          have a5 : decide (c ≤ 57) = false := decide_eq_false (by omega)
          have p5 : ¬ (c ≤ 57) := by omega
          have n0 : (c != 95) = true := bne_iff_ne.2 (by omega)
          have n1 : (c != 58) = true := bne_iff_ne.2 (by omega)
          clear hc
          go_wp2_with fail
          go_quiet (fail)
          go_wp2_with fail
          go_ret
          exact ⟨by rw [Hn.out, show (bys s).all metB = false from List.all_eq_false.2 ⟨c, Hmem.out, by rw [hp]; simp⟩]; rfl, below_drewN (Below.refl _ _) _⟩
        · have hp : metB c = true := by unfold metB namB letB digB; simp; omega
          have a0 : decide ((97 : Int) ≤ c) = false := decide_eq_false (by omega)
          have p0 : ¬ ((97 : Int) ≤ c) := by omega
          have a1 : decide (c ≤ 122) = true := decide_eq_true (by omega)
          have p1 : (c ≤ 122) := by omega
          have a2 : decide ((65 : Int) ≤ c) = true := decide_eq_true (by omega)
          have p2 : ((65 : Int) ≤ c) := by omega
          have a3 : decide (c ≤ 90) = false := decide_eq_false (by omega)
          have p3 : ¬ (c ≤ 90) := by omega
          have a4 : decide ((48 : Int) ≤ c) = true := decide_eq_true (by omega)
          have p4 : ((48 : Int) ≤ c) := by omega
          have a5 : decide (c ≤ 57) = false := decide_eq_false (by omega)
          have p5 : ¬ (c ≤ 57) := by omega
          have n0 : (c != 95) = false := by rw [hc]; rfl
          have n1 : (c != 58) = true := bne_iff_ne.2 (by omega)
          clear hc
          go_wp2_with fail
          go_quiet (fail)
          go_wp2_with fail
          go_roundw
          case rel => exact ⟨k + 1, _, by omega, by go_num, rfl, by show _ = _; rw [Hck.out, List.all_append, ha.out]; simp [hp]⟩
          case measure => simp [intOf]; omega
        · have hp : metB c = false := by unfold metB namB letB digB; simp; omega
          have a0 : decide ((97 : Int) ≤ c) = false := decide_eq_false (by omega)
          have p0 : ¬ ((97 : Int) ≤ c) := by omega
          have a1 : decide (c ≤ 122) = true := decide_eq_true (by omega)
          have p1 : (c ≤ 122) := by omega
          have a2 : decide ((65 : Int) ≤ c) = true := decide_eq_true (by omega)
          have p2 : ((65 : Int) ≤ c) := by omega
          have a3 : decide (c ≤ 90) = false := decide_eq_false (by omega)
          have p3 : ¬ (c ≤ 90) := by omega
          have a4 : decide ((48 : Int) ≤ c) = true := decide_eq_true (by omega)
          have p4 : ((48 : Int) ≤ c) := by omega
          have a5 : decide (c ≤ 57) = false := decide_eq_false (by omega)
          have p5 : ¬ (c ≤ 57) := by omega
          have n0 : (c != 95) = true := bne_iff_ne.2 (by omega)
          have n1 : (c != 58) = true := bne_iff_ne.2 (by omega)
          clear hc
          go_wp2_with fail
          go_quiet (fail)
          go_wp2_with fail
          go_ret
          exact ⟨by rw [Hn.out, show (bys s).all metB = false from List.all_eq_false.2 ⟨c, Hmem.out, by rw [hp]; simp⟩]; rfl, below_drewN (Below.refl _ _) _⟩
        · have hp : metB c = true := by unfold metB namB letB digB; simp; omega
          have a0 : decide ((97 : Int) ≤ c) = true := decide_eq_true (by omega)
          have p0 : ((97 : Int) ≤ c) := by omega
          have a1 : decide (c ≤ 122) = true := decide_eq_true (by omega)
          have p1 : (c ≤ 122) := by omega
          have a2 : decide ((65 : Int) ≤ c) = true := decide_eq_true (by omega)
          have p2 : ((65 : Int) ≤ c) := by omega
          have a3 : decide (c ≤ 90) = false := decide_eq_false (by omega)
          have p3 : ¬ (c ≤ 90) := by omega
          have a4 : decide ((48 : Int) ≤ c) = true := decide_eq_true (by omega)
          have p4 : ((48 : Int) ≤ c) := by omega
          have a5 : decide (c ≤ 57) = false := decide_eq_false (by omega)
          have p5 : ¬ (c ≤ 57) := by omega
          have n0 : (c != 95) = true := bne_iff_ne.2 (by omega)
          have n1 : (c != 58) = true := bne_iff_ne.2 (by omega)
          clear hc
          go_wp2_with fail
          go_quiet (fail)
          go_wp2_with fail
          go_roundw
          case rel => exact ⟨k + 1, _, by omega, by go_num, rfl, by show _ = _; rw [Hck.out, List.all_append, ha.out]; simp [hp]⟩
          case measure => simp [intOf]; omega
        · have hp : metB c = false := by unfold metB namB letB digB; simp; omega
          have a0 : decide ((97 : Int) ≤ c) = true := decide_eq_true (by omega)
          have p0 : ((97 : Int) ≤ c) := by omega
          have a1 : decide (c ≤ 122) = false := decide_eq_false (by omega)
          have p1 : ¬ (c ≤ 122) := by omega
          have a2 : decide ((65 : Int) ≤ c) = true := decide_eq_true (by omega)
          have p2 : ((65 : Int) ≤ c) := by omega
          have a3 : decide (c ≤ 90) = false := decide_eq_false (by omega)
          have p3 : ¬ (c ≤ 90) := by omega
          have a4 : decide ((48 : Int) ≤ c) = true := decide_eq_true (by omega)
          have p4 : ((48 : Int) ≤ c) := by omega
          have a5 : decide (c ≤ 57) = false := decide_eq_false (by omega)
          have p5 : ¬ (c ≤ 57) := by omega
          have n0 : (c != 95) = true := bne_iff_ne.2 (by omega)
          have n1 : (c != 58) = true := bne_iff_ne.2 (by omega)
          clear hc
          go_wp2_with fail
          go_quiet (fail)
          go_wp2_with fail
          go_ret
          exact ⟨by rw [Hn.out, show (bys s).all metB = false from List.all_eq_false.2 ⟨c, Hmem.out, by rw [hp]; simp⟩]; rfl, below_drewN (Below.refl _ _) _⟩
      · obtain rfl : k = s.size := by omega
        go_wp2_with fail
        go_ret
        refine ⟨?_, below_drewN (Below.refl _ _) _⟩
        have h2 := ha.out
        rw [List.take_of_length_le (by rw [Hbl.out]; exact Nat.le_refl _)] at h2
        rw [Hn.out, h2]
        rfl
end Go.Proofs.YtlhekeokognhmaaGreatDoor
