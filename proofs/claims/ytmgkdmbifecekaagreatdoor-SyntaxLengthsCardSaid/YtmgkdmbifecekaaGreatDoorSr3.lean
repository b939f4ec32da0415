/-
  Package syntax: a reader reads how many times something comes.
-/
import Derived.Test.YtmgkdmbifecekaaGreatDoorMlap
set_option linter.all false
set_option linter.unusedSimpArgs false
set_option linter.unusedVariables false
set_option linter.unusedSectionVars false
namespace Go.Proofs.YtmgkdmbifecekaaGreatDoor
open Go.RowKit Go.Shelf
theorem take_b (g : Nat) (l p : Bs) (b : Bool) (hb : Lib.hasPrefix l p = b) (W : World) (h : RdrAt W g (b8 l)) : Calls Tryz.prog 66 #[.pointer (some ⟨g, 0, none⟩), .string (b8 p)] W fun e w' => e = .returned (.bool b) ∧ RdrAt w' g (b8 (Lib.trimPrefix l p)) ∧ W.grownBy w' (some g) := by
  have := take_any g (b8 l) (b8 p) W h
  rw [b8_list, b8_list, hb] at this
  exact this
theorem trim_no {l p : Bs} (h : Lib.hasPrefix l p = false) : Lib.trimPrefix l p = l := by
  unfold Lib.trimPrefix
  rw [h]
  rfl
theorem hasPre (l p : Bs) (b : Bool) (hb : Lib.hasPrefix l p = b) (W : World) : Calls Tryz.prog 50 #[.string (b8 l), .string (b8 p)] W fun e w' => e = .returned (.bool b) ∧ W = w' := by
  refine (sh_strings_HasPrefix (b8 l) (b8 p) W).mono ?_
  rintro e w' ⟨rfl, rfl⟩
  rw [b8_list, b8_list, hb]
  exact ⟨rfl, rfl⟩
/-- What braces may hold. -/
def brOk (l : Bs) : Bool := numOk l && (!(Lib.hasPrefix (numR l) [44]) || Lib.hasPrefix (Lib.trimPrefix (numR l) [44]) [125] || numOk (Lib.trimPrefix (numR l) [44]))
theorem numR_le (l : Bs) : (numR l).length ≤ l.length := (List.dropWhile_sublist _).length_le
theorem trim_le (l p : Bs) : (Lib.trimPrefix l p).length ≤ l.length := by
  unfold Lib.trimPrefix
  split
  · rw [List.length_drop]; omega
  · omega
def BrPost (g : Nat) (l : Bs) (W : World) (e : Ending) (w' : World) : Prop :=
  W.grownBy w' (some g) ∧ match brcP l with
    | some (a, b, r) => e = .returned (.tuple #[.int .i64 a, .int .i64 b, .bool true]) ∧ RdrAt w' g (b8 r)
    | none => ∃ (a b : Int) (q : Bs), e = .returned (.tuple #[.int .i64 a, .int .i64 b, .bool false]) ∧ RdrAt w' g (b8 q)
section
variable (g : Nat) (l : Bs) (hl : l.length ≤ 1000000) (W : World)
include hl
set_option maxRecDepth 10000 in
set_option maxHeartbeats 4000000 in
theorem braced_no (hn : numP l = none) (h : numOk l = true) (hr : RdrAt W g (b8 l)) : Calls Tryz.prog 119 #[.pointer (some ⟨g, 0, none⟩)] W (BrPost g l W) := by
  have hL1 := numR_le l
  have hL2 := trim_le (numR l) [44]
  have Hr := Lib.hid hr
  have Hg : Hid (W.grownBy W (some g)) := ⟨rfl, rfl, rfl, Nat.le_refl _, fun _ _ _ => rfl⟩
  have hp : Hid (brcP l = none) := by
    show _ = _
    unfold brcP; rw [hn]
  clear hr
  go_enter Tryz.func119, Tryz.ntmps119
  go_wp2_with fail
  refine (rnum_any g l (by omega) h _ Hr.out).mono ?_
  rintro e w1 ⟨a, rfl, hv1, h01, h11, hr1, hg1⟩
  replace Hr := Lib.hid hr1
  replace Hg : Hid (W.grownBy w1 (some g)) := grown_trans Hg.out hg1
  clear hr1 hg1
  rw [hn]
  dsimp only [Option.isSome]
  clear hv1
  go_wp2_with fail
  go_ret3
  unfold BrPost
  rw [hp.out]
  exact ⟨Hg.out, _, _, _, rfl, Hr.out⟩
set_option maxRecDepth 10000 in
set_option maxHeartbeats 4000000 in
theorem braced_a1 (a : Int) (hn : numP l = some a) (h44 : Lib.hasPrefix (numR l) [44] = false) (h125 : Lib.hasPrefix (numR l) [125] = true) (ht : tmsB a a = true) (h : numOk l = true) (hr : RdrAt W g (b8 l)) : Calls Tryz.prog 119 #[.pointer (some ⟨g, 0, none⟩)] W (BrPost g l W) := by
  have hL1 := numR_le l
  have hL2 := trim_le (numR l) [44]
  have Hr := Lib.hid hr
  have Hg : Hid (W.grownBy W (some g)) := ⟨rfl, rfl, rfl, Nat.le_refl _, fun _ _ _ => rfl⟩
  have hp : Hid (brcP l = some (a, a, Lib.trimPrefix (numR l) [125])) := by
    show _ = _
    unfold brcP; rw [hn]; simp [h44, h125, ht]
  clear hr
  go_enter Tryz.func119, Tryz.ntmps119
  go_wp2_with fail
  refine (rnum_any g l (by omega) h _ Hr.out).mono ?_
  rintro e w1 ⟨a1, rfl, hv1, h01, h11, hr1, hg1⟩
  replace Hr := Lib.hid hr1
  replace Hg : Hid (W.grownBy w1 (some g)) := grown_trans Hg.out hg1
  clear hr1 hg1
  have hv := hv1 _ hn
  rw [hn]
  subst hv
  clear hv1
  dsimp only [Option.isSome]
  go_wp2_with fail
  refine (take_b g (numR l) [44] false h44 _ Hr.out).mono ?_
  rintro e w2 ⟨rfl, hr2, hg2⟩
  rw [trim_no h44] at hr2
  replace Hr := Lib.hid hr2
  replace Hg : Hid (W.grownBy w2 (some g)) := grown_trans Hg.out hg2
  clear hr2 hg2
  go_wp2_with fail
  refine (take_b g (numR l) [125] true h125 _ Hr.out).mono ?_
  rintro e w3 ⟨rfl, hr3, hg3⟩
  replace Hr := Lib.hid hr3
  replace Hg : Hid (W.grownBy w3 (some g)) := grown_trans Hg.out hg3
  clear hr3 hg3
  go_wp2_with fail
  refine (times_any a1 a1 _).mono ?_
  rintro e w4 ⟨rfl, rfl⟩
  rw [ht]
  go_wp2_with fail
  go_ret3
  unfold BrPost
  rw [hp.out]
  exact ⟨Hg.out, rfl, Hr.out⟩
set_option maxRecDepth 10000 in
set_option maxHeartbeats 4000000 in
theorem braced_a2 (a : Int) (hn : numP l = some a) (h44 : Lib.hasPrefix (numR l) [44] = false) (h125 : Lib.hasPrefix (numR l) [125] = true) (ht : tmsB a a = false) (h : numOk l = true) (hr : RdrAt W g (b8 l)) : Calls Tryz.prog 119 #[.pointer (some ⟨g, 0, none⟩)] W (BrPost g l W) := by
  have hL1 := numR_le l
  have hL2 := trim_le (numR l) [44]
  have Hr := Lib.hid hr
  have Hg : Hid (W.grownBy W (some g)) := ⟨rfl, rfl, rfl, Nat.le_refl _, fun _ _ _ => rfl⟩
  have hp : Hid (brcP l = none) := by
    show _ = _
    unfold brcP; rw [hn]; simp [h44, h125, ht]
  clear hr
  go_enter Tryz.func119, Tryz.ntmps119
  go_wp2_with fail
  refine (rnum_any g l (by omega) h _ Hr.out).mono ?_
  rintro e w1 ⟨a1, rfl, hv1, h01, h11, hr1, hg1⟩
  replace Hr := Lib.hid hr1
  replace Hg : Hid (W.grownBy w1 (some g)) := grown_trans Hg.out hg1
  clear hr1 hg1
  have hv := hv1 _ hn
  rw [hn]
  subst hv
  clear hv1
  dsimp only [Option.isSome]
  go_wp2_with fail
  refine (take_b g (numR l) [44] false h44 _ Hr.out).mono ?_
  rintro e w2 ⟨rfl, hr2, hg2⟩
  rw [trim_no h44] at hr2
  replace Hr := Lib.hid hr2
  replace Hg : Hid (W.grownBy w2 (some g)) := grown_trans Hg.out hg2
  clear hr2 hg2
  go_wp2_with fail
  refine (take_b g (numR l) [125] true h125 _ Hr.out).mono ?_
  rintro e w3 ⟨rfl, hr3, hg3⟩
  replace Hr := Lib.hid hr3
  replace Hg : Hid (W.grownBy w3 (some g)) := grown_trans Hg.out hg3
  clear hr3 hg3
  go_wp2_with fail
  refine (times_any a1 a1 _).mono ?_
  rintro e w4 ⟨rfl, rfl⟩
  rw [ht]
  go_wp2_with fail
  go_ret3
  unfold BrPost
  rw [hp.out]
  exact ⟨Hg.out, _, _, _, rfl, Hr.out⟩
set_option maxRecDepth 10000 in
set_option maxHeartbeats 4000000 in
theorem braced_a3 (a : Int) (hn : numP l = some a) (h44 : Lib.hasPrefix (numR l) [44] = false) (h125 : Lib.hasPrefix (numR l) [125] = false) (h : numOk l = true) (hr : RdrAt W g (b8 l)) : Calls Tryz.prog 119 #[.pointer (some ⟨g, 0, none⟩)] W (BrPost g l W) := by
  have hL1 := numR_le l
  have hL2 := trim_le (numR l) [44]
  have Hr := Lib.hid hr
  have Hg : Hid (W.grownBy W (some g)) := ⟨rfl, rfl, rfl, Nat.le_refl _, fun _ _ _ => rfl⟩
  have hp : Hid (brcP l = none) := by
    show _ = _
    unfold brcP; rw [hn]; simp [h44, h125]
  clear hr
  go_enter Tryz.func119, Tryz.ntmps119
  go_wp2_with fail
  refine (rnum_any g l (by omega) h _ Hr.out).mono ?_
  rintro e w1 ⟨a1, rfl, hv1, h01, h11, hr1, hg1⟩
  replace Hr := Lib.hid hr1
  replace Hg : Hid (W.grownBy w1 (some g)) := grown_trans Hg.out hg1
  clear hr1 hg1
  have hv := hv1 _ hn
  rw [hn]
  subst hv
  clear hv1
  dsimp only [Option.isSome]
  go_wp2_with fail
  refine (take_b g (numR l) [44] false h44 _ Hr.out).mono ?_
  rintro e w2 ⟨rfl, hr2, hg2⟩
  rw [trim_no h44] at hr2
  replace Hr := Lib.hid hr2
  replace Hg : Hid (W.grownBy w2 (some g)) := grown_trans Hg.out hg2
  clear hr2 hg2
  go_wp2_with fail
  refine (take_b g (numR l) [125] false h125 _ Hr.out).mono ?_
  rintro e w3 ⟨rfl, hr3, hg3⟩
  rw [trim_no h125] at hr3
  replace Hr := Lib.hid hr3
  replace Hg : Hid (W.grownBy w3 (some g)) := grown_trans Hg.out hg3
  clear hr3 hg3
  go_wp2_with fail
  go_ret3
  unfold BrPost
  rw [hp.out]
  exact ⟨Hg.out, _, _, _, rfl, Hr.out⟩
set_option maxRecDepth 10000 in
set_option maxHeartbeats 4000000 in
theorem braced_b1 (a : Int) (hn : numP l = some a) (h44 : Lib.hasPrefix (numR l) [44] = true) (h125 : Lib.hasPrefix (Lib.trimPrefix (numR l) [44]) [125] = true) (ht : tmsB a (-1) = true) (h : numOk l = true) (hr : RdrAt W g (b8 l)) : Calls Tryz.prog 119 #[.pointer (some ⟨g, 0, none⟩)] W (BrPost g l W) := by
  have hL1 := numR_le l
  have hL2 := trim_le (numR l) [44]
  have Hr := Lib.hid hr
  have Hg : Hid (W.grownBy W (some g)) := ⟨rfl, rfl, rfl, Nat.le_refl _, fun _ _ _ => rfl⟩
  have hp : Hid (brcP l = some (a, -1, Lib.trimPrefix (Lib.trimPrefix (numR l) [44]) [125])) := by
    show _ = _
    unfold brcP; rw [hn]; simp [h44, h125, ht]
  clear hr
  go_enter Tryz.func119, Tryz.ntmps119
  go_wp2_with fail
  refine (rnum_any g l (by omega) h _ Hr.out).mono ?_
  rintro e w1 ⟨a1, rfl, hv1, h01, h11, hr1, hg1⟩
  replace Hr := Lib.hid hr1
  replace Hg : Hid (W.grownBy w1 (some g)) := grown_trans Hg.out hg1
  clear hr1 hg1
  have hv := hv1 _ hn
  rw [hn]
  subst hv
  clear hv1
  dsimp only [Option.isSome]
  go_wp2_with fail
  refine (take_b g (numR l) [44] true h44 _ Hr.out).mono ?_
  rintro e w2 ⟨rfl, hr2, hg2⟩
  replace Hr := Lib.hid hr2
  replace Hg : Hid (W.grownBy w2 (some g)) := grown_trans Hg.out hg2
  clear hr2 hg2
  have hcc : w2.cell? ⟨g, 0, none⟩ = some (.string (b8 (Lib.trimPrefix (numR l) [44]))) := by rw [cell_of_row _ _ _ _ _ _ Hr.out]; rfl
  go_wp2_with fail
  refine (hasPre (Lib.trimPrefix (numR l) [44]) [125] true h125 _).mono ?_
  rintro e w3 ⟨rfl, rfl⟩
  clear hcc
  go_wp2_with fail
  refine (take_b g (Lib.trimPrefix (numR l) [44]) [125] true h125 _ Hr.out).mono ?_
  rintro e w3 ⟨rfl, hr3, hg3⟩
  replace Hr := Lib.hid hr3
  replace Hg : Hid (W.grownBy w3 (some g)) := grown_trans Hg.out hg3
  clear hr3 hg3
  go_wp2_with fail
  refine (times_any a1 (-1) _).mono ?_
  rintro e w4 ⟨rfl, rfl⟩
  rw [ht]
  go_wp2_with fail
  go_ret3
  unfold BrPost
  rw [hp.out]
  exact ⟨Hg.out, rfl, Hr.out⟩
set_option maxRecDepth 10000 in
set_option maxHeartbeats 4000000 in
theorem braced_b2 (a : Int) (hn : numP l = some a) (h44 : Lib.hasPrefix (numR l) [44] = true) (h125 : Lib.hasPrefix (Lib.trimPrefix (numR l) [44]) [125] = true) (ht : tmsB a (-1) = false) (h : numOk l = true) (hr : RdrAt W g (b8 l)) : Calls Tryz.prog 119 #[.pointer (some ⟨g, 0, none⟩)] W (BrPost g l W) := by
  have hL1 := numR_le l
  have hL2 := trim_le (numR l) [44]
  have Hr := Lib.hid hr
  have Hg : Hid (W.grownBy W (some g)) := ⟨rfl, rfl, rfl, Nat.le_refl _, fun _ _ _ => rfl⟩
  have hp : Hid (brcP l = none) := by
    show _ = _
    unfold brcP; rw [hn]; simp [h44, h125, ht]
  clear hr
  go_enter Tryz.func119, Tryz.ntmps119
  go_wp2_with fail
  refine (rnum_any g l (by omega) h _ Hr.out).mono ?_
  rintro e w1 ⟨a1, rfl, hv1, h01, h11, hr1, hg1⟩
  replace Hr := Lib.hid hr1
  replace Hg : Hid (W.grownBy w1 (some g)) := grown_trans Hg.out hg1
  clear hr1 hg1
  have hv := hv1 _ hn
  rw [hn]
  subst hv
  clear hv1
  dsimp only [Option.isSome]
  go_wp2_with fail
  refine (take_b g (numR l) [44] true h44 _ Hr.out).mono ?_
  rintro e w2 ⟨rfl, hr2, hg2⟩
  replace Hr := Lib.hid hr2
  replace Hg : Hid (W.grownBy w2 (some g)) := grown_trans Hg.out hg2
  clear hr2 hg2
  have hcc : w2.cell? ⟨g, 0, none⟩ = some (.string (b8 (Lib.trimPrefix (numR l) [44]))) := by rw [cell_of_row _ _ _ _ _ _ Hr.out]; rfl
  go_wp2_with fail
  refine (hasPre (Lib.trimPrefix (numR l) [44]) [125] true h125 _).mono ?_
  rintro e w3 ⟨rfl, rfl⟩
  clear hcc
  go_wp2_with fail
  refine (take_b g (Lib.trimPrefix (numR l) [44]) [125] true h125 _ Hr.out).mono ?_
  rintro e w3 ⟨rfl, hr3, hg3⟩
  replace Hr := Lib.hid hr3
  replace Hg : Hid (W.grownBy w3 (some g)) := grown_trans Hg.out hg3
  clear hr3 hg3
  go_wp2_with fail
  refine (times_any a1 (-1) _).mono ?_
  rintro e w4 ⟨rfl, rfl⟩
  rw [ht]
  go_wp2_with fail
  go_ret3
  unfold BrPost
  rw [hp.out]
  exact ⟨Hg.out, _, _, _, rfl, Hr.out⟩
set_option maxRecDepth 10000 in
set_option maxHeartbeats 4000000 in
theorem braced_c0 (a : Int) (hn : numP l = some a) (h44 : Lib.hasPrefix (numR l) [44] = true) (h125 : Lib.hasPrefix (Lib.trimPrefix (numR l) [44]) [125] = false) (h2 : numOk (Lib.trimPrefix (numR l) [44]) = true) (hm : numP (Lib.trimPrefix (numR l) [44]) = none) (h : numOk l = true) (hr : RdrAt W g (b8 l)) : Calls Tryz.prog 119 #[.pointer (some ⟨g, 0, none⟩)] W (BrPost g l W) := by
  have hL1 := numR_le l
  have hL2 := trim_le (numR l) [44]
  have Hr := Lib.hid hr
  have Hg : Hid (W.grownBy W (some g)) := ⟨rfl, rfl, rfl, Nat.le_refl _, fun _ _ _ => rfl⟩
  have hp : Hid (brcP l = none) := by
    show _ = _
    unfold brcP; rw [hn]; simp [h44, h125, hm]
  clear hr
  go_enter Tryz.func119, Tryz.ntmps119
  go_wp2_with fail
  refine (rnum_any g l (by omega) h _ Hr.out).mono ?_
  rintro e w1 ⟨a1, rfl, hv1, h01, h11, hr1, hg1⟩
  replace Hr := Lib.hid hr1
  replace Hg : Hid (W.grownBy w1 (some g)) := grown_trans Hg.out hg1
  clear hr1 hg1
  have hv := hv1 _ hn
  rw [hn]
  subst hv
  clear hv1
  dsimp only [Option.isSome]
  go_wp2_with fail
  refine (take_b g (numR l) [44] true h44 _ Hr.out).mono ?_
  rintro e w2 ⟨rfl, hr2, hg2⟩
  replace Hr := Lib.hid hr2
  replace Hg : Hid (W.grownBy w2 (some g)) := grown_trans Hg.out hg2
  clear hr2 hg2
  have hcc : w2.cell? ⟨g, 0, none⟩ = some (.string (b8 (Lib.trimPrefix (numR l) [44]))) := by rw [cell_of_row _ _ _ _ _ _ Hr.out]; rfl
  go_wp2_with fail
  refine (hasPre (Lib.trimPrefix (numR l) [44]) [125] false h125 _).mono ?_
  rintro e w3 ⟨rfl, rfl⟩
  clear hcc
  go_wp2_with fail
  refine (rnum_any g (Lib.trimPrefix (numR l) [44]) (by omega) h2 _ Hr.out).mono ?_
  rintro e w3 ⟨b1, rfl, hv3, h03, h13, hr3, hg3⟩
  replace Hr := Lib.hid hr3
  replace Hg : Hid (W.grownBy w3 (some g)) := grown_trans Hg.out hg3
  clear hr3 hg3
  rw [hm]
  dsimp only [Option.isSome]
  clear hv3
  go_wp2_with fail
  go_ret3
  unfold BrPost
  rw [hp.out]
  exact ⟨Hg.out, _, _, _, rfl, Hr.out⟩
set_option maxRecDepth 10000 in
set_option maxHeartbeats 4000000 in
theorem braced_c1 (a : Int) (hn : numP l = some a) (h44 : Lib.hasPrefix (numR l) [44] = true) (h125 : Lib.hasPrefix (Lib.trimPrefix (numR l) [44]) [125] = false) (h2 : numOk (Lib.trimPrefix (numR l) [44]) = true) (b : Int) (hm : numP (Lib.trimPrefix (numR l) [44]) = some b) (hc : Lib.hasPrefix (numR (Lib.trimPrefix (numR l) [44])) [125] = true) (ht : tmsB a b = true) (h : numOk l = true) (hr : RdrAt W g (b8 l)) : Calls Tryz.prog 119 #[.pointer (some ⟨g, 0, none⟩)] W (BrPost g l W) := by
  have hL1 := numR_le l
  have hL2 := trim_le (numR l) [44]
  have Hr := Lib.hid hr
  have Hg : Hid (W.grownBy W (some g)) := ⟨rfl, rfl, rfl, Nat.le_refl _, fun _ _ _ => rfl⟩
  have hp : Hid (brcP l = some (a, b, Lib.trimPrefix (numR (Lib.trimPrefix (numR l) [44])) [125])) := by
    show _ = _
    unfold brcP; rw [hn]; simp [h44, h125, hm, hc, ht]
  clear hr
  go_enter Tryz.func119, Tryz.ntmps119
  go_wp2_with fail
  refine (rnum_any g l (by omega) h _ Hr.out).mono ?_
  rintro e w1 ⟨a1, rfl, hv1, h01, h11, hr1, hg1⟩
  replace Hr := Lib.hid hr1
  replace Hg : Hid (W.grownBy w1 (some g)) := grown_trans Hg.out hg1
  clear hr1 hg1
  have hv := hv1 _ hn
  rw [hn]
  subst hv
  clear hv1
  dsimp only [Option.isSome]
  go_wp2_with fail
  refine (take_b g (numR l) [44] true h44 _ Hr.out).mono ?_
  rintro e w2 ⟨rfl, hr2, hg2⟩
  replace Hr := Lib.hid hr2
  replace Hg : Hid (W.grownBy w2 (some g)) := grown_trans Hg.out hg2
  clear hr2 hg2
  have hcc : w2.cell? ⟨g, 0, none⟩ = some (.string (b8 (Lib.trimPrefix (numR l) [44]))) := by rw [cell_of_row _ _ _ _ _ _ Hr.out]; rfl
  go_wp2_with fail
  refine (hasPre (Lib.trimPrefix (numR l) [44]) [125] false h125 _).mono ?_
  rintro e w3 ⟨rfl, rfl⟩
  clear hcc
  go_wp2_with fail
  refine (rnum_any g (Lib.trimPrefix (numR l) [44]) (by omega) h2 _ Hr.out).mono ?_
  rintro e w3 ⟨b1, rfl, hv3, h03, h13, hr3, hg3⟩
  replace Hr := Lib.hid hr3
  replace Hg : Hid (W.grownBy w3 (some g)) := grown_trans Hg.out hg3
  clear hr3 hg3
  have hv := hv3 _ hm
  rw [hm]
  subst hv
  clear hv3
  dsimp only [Option.isSome]
  go_wp2_with fail
  refine (take_b g (numR (Lib.trimPrefix (numR l) [44])) [125] true hc _ Hr.out).mono ?_
  rintro e w4 ⟨rfl, hr4, hg4⟩
  replace Hr := Lib.hid hr4
  replace Hg : Hid (W.grownBy w4 (some g)) := grown_trans Hg.out hg4
  clear hr4 hg4
  go_wp2_with fail
  refine (times_any a1 b1 _).mono ?_
  rintro e w5 ⟨rfl, rfl⟩
  rw [ht]
  go_wp2_with fail
  go_ret3
  unfold BrPost
  rw [hp.out]
  exact ⟨Hg.out, rfl, Hr.out⟩
set_option maxRecDepth 10000 in
set_option maxHeartbeats 4000000 in
theorem braced_c2 (a : Int) (hn : numP l = some a) (h44 : Lib.hasPrefix (numR l) [44] = true) (h125 : Lib.hasPrefix (Lib.trimPrefix (numR l) [44]) [125] = false) (h2 : numOk (Lib.trimPrefix (numR l) [44]) = true) (b : Int) (hm : numP (Lib.trimPrefix (numR l) [44]) = some b) (hc : Lib.hasPrefix (numR (Lib.trimPrefix (numR l) [44])) [125] = true) (ht : tmsB a b = false) (h : numOk l = true) (hr : RdrAt W g (b8 l)) : Calls Tryz.prog 119 #[.pointer (some ⟨g, 0, none⟩)] W (BrPost g l W) := by
  have hL1 := numR_le l
  have hL2 := trim_le (numR l) [44]
  have Hr := Lib.hid hr
  have Hg : Hid (W.grownBy W (some g)) := ⟨rfl, rfl, rfl, Nat.le_refl _, fun _ _ _ => rfl⟩
  have hp : Hid (brcP l = none) := by
    show _ = _
    unfold brcP; rw [hn]; simp [h44, h125, hm, hc, ht]
  clear hr
  go_enter Tryz.func119, Tryz.ntmps119
  go_wp2_with fail
  refine (rnum_any g l (by omega) h _ Hr.out).mono ?_
  rintro e w1 ⟨a1, rfl, hv1, h01, h11, hr1, hg1⟩
  replace Hr := Lib.hid hr1
  replace Hg : Hid (W.grownBy w1 (some g)) := grown_trans Hg.out hg1
  clear hr1 hg1
  have hv := hv1 _ hn
  rw [hn]
  subst hv
  clear hv1
  dsimp only [Option.isSome]
  go_wp2_with fail
  refine (take_b g (numR l) [44] true h44 _ Hr.out).mono ?_
  rintro e w2 ⟨rfl, hr2, hg2⟩
  replace Hr := Lib.hid hr2
  replace Hg : Hid (W.grownBy w2 (some g)) := grown_trans Hg.out hg2
  clear hr2 hg2
  have hcc : w2.cell? ⟨g, 0, none⟩ = some (.string (b8 (Lib.trimPrefix (numR l) [44]))) := by rw [cell_of_row _ _ _ _ _ _ Hr.out]; rfl
  go_wp2_with fail
  refine (hasPre (Lib.trimPrefix (numR l) [44]) [125] false h125 _).mono ?_
  rintro e w3 ⟨rfl, rfl⟩
  clear hcc
  go_wp2_with fail
  refine (rnum_any g (Lib.trimPrefix (numR l) [44]) (by omega) h2 _ Hr.out).mono ?_
  rintro e w3 ⟨b1, rfl, hv3, h03, h13, hr3, hg3⟩
  replace Hr := Lib.hid hr3
  replace Hg : Hid (W.grownBy w3 (some g)) := grown_trans Hg.out hg3
  clear hr3 hg3
  have hv := hv3 _ hm
  rw [hm]
  subst hv
  clear hv3
  dsimp only [Option.isSome]
  go_wp2_with fail
  refine (take_b g (numR (Lib.trimPrefix (numR l) [44])) [125] true hc _ Hr.out).mono ?_
  rintro e w4 ⟨rfl, hr4, hg4⟩
  replace Hr := Lib.hid hr4
  replace Hg : Hid (W.grownBy w4 (some g)) := grown_trans Hg.out hg4
  clear hr4 hg4
  go_wp2_with fail
  refine (times_any a1 b1 _).mono ?_
  rintro e w5 ⟨rfl, rfl⟩
  rw [ht]
  go_wp2_with fail
  go_ret3
  unfold BrPost
  rw [hp.out]
  exact ⟨Hg.out, _, _, _, rfl, Hr.out⟩
set_option maxRecDepth 10000 in
set_option maxHeartbeats 4000000 in
theorem braced_c3 (a : Int) (hn : numP l = some a) (h44 : Lib.hasPrefix (numR l) [44] = true) (h125 : Lib.hasPrefix (Lib.trimPrefix (numR l) [44]) [125] = false) (h2 : numOk (Lib.trimPrefix (numR l) [44]) = true) (b : Int) (hm : numP (Lib.trimPrefix (numR l) [44]) = some b) (hc : Lib.hasPrefix (numR (Lib.trimPrefix (numR l) [44])) [125] = false) (h : numOk l = true) (hr : RdrAt W g (b8 l)) : Calls Tryz.prog 119 #[.pointer (some ⟨g, 0, none⟩)] W (BrPost g l W) := by
  have hL1 := numR_le l
  have hL2 := trim_le (numR l) [44]
  have Hr := Lib.hid hr
  have Hg : Hid (W.grownBy W (some g)) := ⟨rfl, rfl, rfl, Nat.le_refl _, fun _ _ _ => rfl⟩
  have hp : Hid (brcP l = none) := by
    show _ = _
    unfold brcP; rw [hn]; simp [h44, h125, hm, hc]
  clear hr
  go_enter Tryz.func119, Tryz.ntmps119
  go_wp2_with fail
  refine (rnum_any g l (by omega) h _ Hr.out).mono ?_
  rintro e w1 ⟨a1, rfl, hv1, h01, h11, hr1, hg1⟩
  replace Hr := Lib.hid hr1
  replace Hg : Hid (W.grownBy w1 (some g)) := grown_trans Hg.out hg1
  clear hr1 hg1
  have hv := hv1 _ hn
  rw [hn]
  subst hv
  clear hv1
  dsimp only [Option.isSome]
  go_wp2_with fail
  refine (take_b g (numR l) [44] true h44 _ Hr.out).mono ?_
  rintro e w2 ⟨rfl, hr2, hg2⟩
  replace Hr := Lib.hid hr2
  replace Hg : Hid (W.grownBy w2 (some g)) := grown_trans Hg.out hg2
  clear hr2 hg2
  have hcc : w2.cell? ⟨g, 0, none⟩ = some (.string (b8 (Lib.trimPrefix (numR l) [44]))) := by rw [cell_of_row _ _ _ _ _ _ Hr.out]; rfl
  go_wp2_with fail
  refine (hasPre (Lib.trimPrefix (numR l) [44]) [125] false h125 _).mono ?_
  rintro e w3 ⟨rfl, rfl⟩
  clear hcc
  go_wp2_with fail
  refine (rnum_any g (Lib.trimPrefix (numR l) [44]) (by omega) h2 _ Hr.out).mono ?_
  rintro e w3 ⟨b1, rfl, hv3, h03, h13, hr3, hg3⟩
  replace Hr := Lib.hid hr3
  replace Hg : Hid (W.grownBy w3 (some g)) := grown_trans Hg.out hg3
  clear hr3 hg3
  have hv := hv3 _ hm
  rw [hm]
  subst hv
  clear hv3
  dsimp only [Option.isSome]
  go_wp2_with fail
  refine (take_b g (numR (Lib.trimPrefix (numR l) [44])) [125] false hc _ Hr.out).mono ?_
  rintro e w4 ⟨rfl, hr4, hg4⟩
  rw [trim_no hc] at hr4
  replace Hr := Lib.hid hr4
  replace Hg : Hid (W.grownBy w4 (some g)) := grown_trans Hg.out hg4
  clear hr4 hg4
  go_wp2_with fail
  go_ret3
  unfold BrPost
  rw [hp.out]
  exact ⟨Hg.out, _, _, _, rfl, Hr.out⟩
theorem braced_any (h : brOk l = true) (hr : RdrAt W g (b8 l)) : Calls Tryz.prog 119 #[.pointer (some ⟨g, 0, none⟩)] W (BrPost g l W) := by
  unfold brOk at h
  rw [Bool.and_eq_true] at h
  obtain ⟨hk, ho⟩ := h
  cases hn : numP l with
  | none => exact braced_no g l hl W hn hk hr
  | some a =>
    cases h44 : Lib.hasPrefix (numR l) [44] with
    | false =>
      cases h125 : Lib.hasPrefix (numR l) [125] with
      | false => exact braced_a3 g l hl W a hn h44 h125 hk hr
      | true =>
        cases ht : tmsB a a with
        | true => exact braced_a1 g l hl W a hn h44 h125 ht hk hr
        | false => exact braced_a2 g l hl W a hn h44 h125 ht hk hr
    | true =>
      cases h125 : Lib.hasPrefix (Lib.trimPrefix (numR l) [44]) [125] with
      | true =>
        cases ht : tmsB a (-1) with
        | true => exact braced_b1 g l hl W a hn h44 h125 ht hk hr
        | false => exact braced_b2 g l hl W a hn h44 h125 ht hk hr
      | false =>
        have h2 : numOk (Lib.trimPrefix (numR l) [44]) = true := by simpa [h44, h125] using ho
        cases hm : numP (Lib.trimPrefix (numR l) [44]) with
        | none => exact braced_c0 g l hl W a hn h44 h125 h2 hm hk hr
        | some b =>
          cases hc : Lib.hasPrefix (numR (Lib.trimPrefix (numR l) [44])) [125] with
          | false => exact braced_c3 g l hl W a hn h44 h125 h2 b hm hc hk hr
          | true =>
            cases ht : tmsB a b with
            | true => exact braced_c1 g l hl W a hn h44 h125 h2 b hm hc ht hk hr
            | false => exact braced_c2 g l hl W a hn h44 h125 h2 b hm hc ht hk hr
end
end Go.Proofs.YtmgkdmbifecekaaGreatDoor
