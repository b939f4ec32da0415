/-
  Package syntax: parts joined. Package syntax: told, of what said answers. Package syntax: Right, Nullable, Groups, Lengths, of what told answers.
-/
import Derived.Test.YtmgkdmbifecekaaGreatDoorSyU
set_option linter.all false
set_option linter.unusedSimpArgs false
set_option linter.unusedVariables false
set_option linter.unusedSectionVars false
namespace Go.Proofs.YtmgkdmbifecekaaGreatDoor
open Go.RowKit Go.Shelf
theorem sizeNd : (Tryz.prog.info? 25).map (·.size) = some 6 := by kernel_rfl
theorem joined_0 (k : Int) (A : Option Addr) (c : Nat) (w : World) : Calls Tryz.prog 68 #[.int .u8 k, .slice A 0 c] w fun e w' => e = .returned (ndV 1 none 0 0 0 0 false none 0 0) ∧ Kept w w' := by
  go_enter Tryz.func68, Tryz.ntmps68
  go_wp2_with fail
  exact bodyPost_ret (results_cell_row Tryz.results68 _ _ w.heap.size _ #[.int .u8 1, .slice none 0 0, .int .i64 0, .int .i64 0, .bool false, .slice none 0 0] (0, 0) _ rfl (heap_alloc_new _ _) Tryz.underlying25 rfl sizeNd) rfl ⟨rfl, (Below.refl _ w).alloc (Nat.le_refl _) _⟩
theorem joined_2 (k : Int) (A : Option Addr) (n c : Nat) (hn : 2 ≤ n) (w : World) : Calls Tryz.prog 68 #[.int .u8 k, .slice A n c] w fun e w' => e = .returned (ndV k none 0 0 0 0 false A n c) ∧ Kept w w' := by
  have h0 : ((n : Int) == 0) = false := by rw [beq_eq_false_iff_ne]; omega
  have h1 : ((n : Int) == 1) = false := by rw [beq_eq_false_iff_ne]; omega
  go_enter Tryz.func68, Tryz.ntmps68
  go_wp2_with fail
  exact bodyPost_ret (results_cell_row Tryz.results68 _ _ w.heap.size _ #[.int .u8 k, .slice none 0 0, .int .i64 0, .int .i64 0, .bool false, .slice A n c] (0, 0) _ rfl (heap_alloc_new _ _) Tryz.underlying25 rfl sizeNd) rfl ⟨rfl, (Below.refl _ w).alloc (Nat.le_refl _) _⟩
theorem joined_1 (k : Int) (ad : Addr) (c : Nat) (kd : Int) (A1 : Option Addr) (sn c1 : Nat) (mn mx : Int) (lz : Bool) (A2 : Option Addr) (un c2 : Nat) (w : World) (hb : ad.block < w.heap.size)
    (h : ∀ j v, (#[.int .u8 kd, .slice A1 sn c1, .int .i64 mn, .int .i64 mx, .bool lz, .slice A2 un c2] : Array Value)[j]? = some v → w.cell? (ad.add j) = some v) :
    Calls Tryz.prog 68 #[.int .u8 k, .slice (some ad) 1 c] w fun e w' => e = .returned (ndV kd A1 sn c1 mn mx lz A2 un c2) ∧ Kept w w' := by
  have Hc : Hid (∀ W, Kept w W → ∀ j v, (#[.int .u8 kd, .slice A1 sn c1, .int .i64 mn, .int .i64 mx, .bool lz, .slice A2 un c2] : Array Value)[j]? = some v → W.cell? (ad.add j) = some v) := fun W hW j v hv => (Below.cell hW (by rw [addBlock]; exact hb)).trans (h j v hv)
  have hK : Kept w (w.alloc (.cells #[.int .u8 0, .slice none 0 0, .int .i64 0, .int .i64 0, .bool false, .slice none 0 0] 25)) := (Below.refl _ w).alloc (Nat.le_refl _) _
  have Hcl := Lib.hid (Hc.out _ hK)
  clear h Hc hK
  go_enter Tryz.func68, Tryz.ntmps68
  go_wp2_with (refine wpList_load_at rfl 25 (.tmp 13) rfl ad rfl #[.int .u8 kd, .slice A1 sn c1, .int .i64 mn, .int .i64 mx, .bool lz, .slice A2 un c2] _ Hcl.out Tryz.underlying25 rfl sizeNd ?_)
  exact bodyPost_ret (results_cell_row Tryz.results68 _ _ w.heap.size _ #[.int .u8 kd, .slice A1 sn c1, .int .i64 mn, .int .i64 mx, .bool lz, .slice A2 un c2] (0, 0) _ rfl (heap_alloc_new _ _) Tryz.underlying25 rfl sizeNd) rfl ⟨rfl, (Below.refl _ w).alloc (Nat.le_refl _) _⟩
end Go.Proofs.YtmgkdmbifecekaaGreatDoor
namespace Go.Proofs.YtmgkdmbifecekaaGreatDoor
open Go.RowKit Go.Shelf
def okT (f : Fct) (ok : Bool) : Bool := ok && !f.loops && decide (f.groups ≤ 30) && decide (f.depth ≤ 40)
def zeroT : Fct := ⟨0, 0, 0, 0, false, false⟩
theorem sizeFc : (Tryz.prog.info? 98).map (·.size) = some 6 := by kernel_rfl
/-- Facts in a cell, and a bool: what a function hands back. -/
theorem res_facts {fn : Func} {p u : Tmp} (h : fn.results = #[.cell p 98, .tmp u]) (tmps : Array Value) (w : World) (g : Nat) (cs : Array Value) (hs : cs.size = 6) (hp : tmps.getD p undef = .pointer (some ⟨g, 0, none⟩)) (hg : w.heap[g]? = some (.cells cs 98 (0, 0))) :
    (results fn tmps).run Tryz.prog w = .ok (.tuple #[.agg cs, tmps.getD u undef]) w := by
  rw [results_cell_tmp h, hp]
  have hl := run_loadVar_at (P := Tryz.prog) w ⟨g, 0, none⟩ 98 cs _ (fun j v hv => by rw [add0, cell_of_row _ _ _ _ _ _ hg]; exact hv) Tryz.underlying98 rfl (by rw [sizeFc, hs])
  simp [asAddr, hl, Result.andThen]
section
variable (k : Int) (A1 : Option Addr) (sn c1 : Nat) (mn mx : Int) (lz : Bool) (A2 : Option Addr) (un c2 : Nat) (w : World)
end
end Go.Proofs.YtmgkdmbifecekaaGreatDoor
namespace Go.Proofs.YtmgkdmbifecekaaGreatDoor
open Go.RowKit Go.Shelf
section
variable (k : Int) (A1 : Option Addr) (sn c1 : Nat) (mn mx : Int) (lz : Bool) (A2 : Option Addr) (un c2 : Nat) (w : World) (F : Fct) (b : Bool) (CT : Hid (∀ W, Kept w W → Calls Tryz.prog 46 #[ndV k A1 sn c1 mn mx lz A2 un c2] W fun e w' => e = .returned (.tuple #[fctV F, .bool b]) ∧ Kept W w'))
include CT
theorem right_of : Calls Tryz.prog 20 #[ndV k A1 sn c1 mn mx lz A2 un c2] w fun e w' => e = .returned (.bool b) ∧ Kept w w' := by
  have HK0 : Hid (Kept w (w.alloc (.cells #[.int .u8 k, .slice A1 sn c1, .int .i64 mn, .int .i64 mx, .bool lz, .slice A2 un c2] 25))) := (Below.refl _ w).alloc (Nat.le_refl _) _
  have C1 := Lib.hid (CT.out _ HK0.out)
  clear CT
  go_enter Tryz.func20, Tryz.ntmps20
  go_wp2_with fail
  refine C1.out.mono ?_
  rintro e w1 ⟨rfl, hk⟩
  have HK := Lib.hid (below_kept HK0.out hk)
  clear hk C1
  obtain ⟨d, g, l, m, en, lo⟩ := F
  unfold fctV
  dsimp only
  go_wp2_with fail
  go_ret
  exact ⟨rfl, below_alloc0 HK.out _⟩
set_option maxHeartbeats 1000000 in
theorem nullable_of : Calls Tryz.prog 22 #[ndV k A1 sn c1 mn mx lz A2 un c2] w fun e w' => e = .returned (.tuple #[.bool (b && (F.least == 0)), .int .i64 (if b = true then 0 else 73)]) ∧ Kept w w' := by
  have HK0 : Hid (Kept w (w.alloc (.cells #[.int .u8 k, .slice A1 sn c1, .int .i64 mn, .int .i64 mx, .bool lz, .slice A2 un c2] 25))) := (Below.refl _ w).alloc (Nat.le_refl _) _
  have C1 := Lib.hid (CT.out _ HK0.out)
  clear CT
  obtain ⟨d, g, l, m, en, lo⟩ := F
  cases b
  all_goals
    go_enter Tryz.func22, Tryz.ntmps22
    go_wp2_with fail
    refine C1.out.mono ?_
    rintro e w1 ⟨rfl, hk⟩
    have HK := Lib.hid (below_alloc0 (below_kept HK0.out hk) (.cells #[.int .i64 d, .int .i64 g, .int .i64 l, .int .i64 m, .bool en, .bool lo] 98))
    clear hk C1
    unfold fctV
    dsimp only
    go_wp2_with fail
    go_ret2
    exact ⟨by first | rfl | simp, HK.out⟩
set_option maxHeartbeats 1000000 in
theorem groups_of : Calls Tryz.prog 24 #[ndV k A1 sn c1 mn mx lz A2 un c2] w fun e w' => e = .returned (.tuple #[.int .i64 (if b = true then F.groups else 0), .int .i64 (if b = true then 0 else 73)]) ∧ Kept w w' := by
  have HK0 : Hid (Kept w (w.alloc (.cells #[.int .u8 k, .slice A1 sn c1, .int .i64 mn, .int .i64 mx, .bool lz, .slice A2 un c2] 25))) := (Below.refl _ w).alloc (Nat.le_refl _) _
  have C1 := Lib.hid (CT.out _ HK0.out)
  clear CT
  obtain ⟨d, g, l, m, en, lo⟩ := F
  cases b
  all_goals
    go_enter Tryz.func24, Tryz.ntmps24
    go_wp2_with fail
    refine C1.out.mono ?_
    rintro e w1 ⟨rfl, hk⟩
    have HK := Lib.hid (below_alloc0 (below_kept HK0.out hk) (.cells #[.int .i64 d, .int .i64 g, .int .i64 l, .int .i64 m, .bool en, .bool lo] 98))
    clear hk C1
    unfold fctV
    dsimp only
    go_wp2_with fail
    go_ret2
    exact ⟨by first | rfl | simp, HK.out⟩
set_option maxHeartbeats 1000000 in
theorem lengths_of : Calls Tryz.prog 23 #[ndV k A1 sn c1 mn mx lz A2 un c2] w fun e w' => e = .returned (.tuple #[.int .i64 (if b = true then F.least else 0), .int .i64 (if b = true then (if F.endless = true then (-1) else F.most) else 0), .int .i64 (if b = true then 0 else 73)]) ∧ Kept w w' := by
  have HK0 : Hid (Kept w (w.alloc (.cells #[.int .u8 k, .slice A1 sn c1, .int .i64 mn, .int .i64 mx, .bool lz, .slice A2 un c2] 25))) := (Below.refl _ w).alloc (Nat.le_refl _) _
  have C1 := Lib.hid (CT.out _ HK0.out)
  clear CT
  obtain ⟨d, g, l, m, en, lo⟩ := F
  cases b
  all_goals cases en
  · go_enter Tryz.func23, Tryz.ntmps23
    go_wp2_with fail
    refine C1.out.mono ?_
    rintro e w1 ⟨rfl, hk⟩
    have HK := Lib.hid (below_alloc0 (below_kept HK0.out hk) (.cells #[.int .i64 d, .int .i64 g, .int .i64 l, .int .i64 m, .bool false, .bool lo] 98))
    clear hk C1
    unfold fctV
    dsimp only
    go_wp2_with fail
    go_ret3
    exact ⟨by first | rfl | simp, HK.out⟩
  · go_enter Tryz.func23, Tryz.ntmps23
    go_wp2_with fail
    refine C1.out.mono ?_
    rintro e w1 ⟨rfl, hk⟩
    have HK := Lib.hid (below_alloc0 (below_kept HK0.out hk) (.cells #[.int .i64 d, .int .i64 g, .int .i64 l, .int .i64 m, .bool true, .bool lo] 98))
    clear hk C1
    unfold fctV
    dsimp only
    go_wp2_with fail
    go_ret3
    exact ⟨by first | rfl | simp, HK.out⟩
  · go_enter Tryz.func23, Tryz.ntmps23
    go_wp2_with fail
    refine C1.out.mono ?_
    rintro e w1 ⟨rfl, hk⟩
    have HK := Lib.hid (below_alloc0 (below_kept HK0.out hk) (.cells #[.int .i64 d, .int .i64 g, .int .i64 l, .int .i64 m, .bool false, .bool lo] 98))
    clear hk C1
    unfold fctV
    dsimp only
    go_wp2_with fail
    go_region
    all_goals try go_wp2
    all_goals go_ret3
    all_goals exact ⟨by first | rfl | simp, below_drew0 HK.out⟩
  · go_enter Tryz.func23, Tryz.ntmps23
    go_wp2_with fail
    refine C1.out.mono ?_
    rintro e w1 ⟨rfl, hk⟩
    have HK := Lib.hid (below_alloc0 (below_kept HK0.out hk) (.cells #[.int .i64 d, .int .i64 g, .int .i64 l, .int .i64 m, .bool true, .bool lo] 98))
    clear hk C1
    unfold fctV
    dsimp only
    go_wp2_with fail
    go_ret3
    exact ⟨by first | rfl | simp, HK.out⟩
end
end Go.Proofs.YtmgkdmbifecekaaGreatDoor
