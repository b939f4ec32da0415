/-
  Package syntax: parts joined. Package syntax: told, of what said answers. Package syntax: Right, Nullable, Groups, Lengths, of what told answers.
-/
import Derived.Test.YtmgkdmbifecekaaGreatDoorSyU
namespace Go.Proofs.YtmgkdmbifecekaaGreatDoor
open Go.RowKit Go.Shelf
theorem sizeNd : (Tryz.prog.info? 25).map (·.size) = some 6 := by kernel_rfl
theorem joined_0 (k : Int) (A : Option Addr) (c : Nat) (w : World) : Calls Tryz.prog 68 #[.int .u8 k, .slice A 0 c] w fun e w' => e = .returned (ndV 1 none 0 0 0 0 false none 0 0) ∧ Kept w w' := by
  go_enter Tryz.func68, Tryz.ntmps68
  go_wp2_with fail
  exact bodyPost_ret (results_cell_row Tryz.results68 _ _ w.heap.size _ #[.int .u8 1, .slice none 0 0, .int .i64 0, .int .i64 0, .bool false, .slice none 0 0] (0, 0) _ rfl (heap_alloc_new _ _) Tryz.underlying25 rfl sizeNd) rfl ⟨rfl, (Below.refl _ w).alloc (Nat.le_refl _) _⟩
theorem joined_2 (k : Int) (A : Option Addr) (n c : Nat) (hn : 2 ≤ n) (w : World) : Calls Tryz.prog 68 #[.int .u8 k, .slice A n c] w fun e w' => e = .returned (ndV k none 0 0 0 0 false A n c) ∧ Kept w w' := by
  have h0 : ((n : Int) == 0) = false := by rw [beq_eq_false_iff_ne]; omega
  have h1 : ((n : Int) == 1) = false := by rw [beq_eq_false_iff_ne]; omega
  go_enter Tryz.func68, Tryz.ntmps68
  go_wp2_with fail
  exact bodyPost_ret (results_cell_row Tryz.results68 _ _ w.heap.size _ #[.int .u8 k, .slice none 0 0, .int .i64 0, .int .i64 0, .bool false, .slice A n c] (0, 0) _ rfl (heap_alloc_new _ _) Tryz.underlying25 rfl sizeNd) rfl ⟨rfl, (Below.refl _ w).alloc (Nat.le_refl _) _⟩
theorem joined_1 (k : Int) (ad : Addr) (c : Nat) (kd : Int) (A1 : Option Addr) (sn c1 : Nat) (mn mx : Int) (lz : Bool) (A2 : Option Addr) (un c2 : Nat) (w : World) (hb : ad.block < w.heap.size)
    (h : ∀ j v, (#[.int .u8 kd, .slice A1 sn c1, .int .i64 mn, .int .i64 mx, .bool lz, .slice A2 un c2] : Array Value)[j]? = some v → w.cell? (ad.add j) = some v) :
    Calls Tryz.prog 68 #[.int .u8 k, .slice (some ad) 1 c] w fun e w' => e = .returned (ndV kd A1 sn c1 mn mx lz A2 un c2) ∧ Kept w w' := by
  have Hc : Hid (∀ W, Kept w W → ∀ j v, (#[.int .u8 kd, .slice A1 sn c1, .int .i64 mn, .int .i64 mx, .bool lz, .slice A2 un c2] : Array Value)[j]? = some v → W.cell? (ad.add j) = some v) := fun W hW j v hv => (Below.cell hW (by rw [addBlock]; exact hb)).trans (h j v hv)
  have hK : Kept w (w.alloc (.cells #[.int .u8 0, .slice none 0 0, .int .i64 0, .int .i64 0, .bool false, .slice none 0 0] 25)) := (Below.refl _ w).alloc (Nat.le_refl _) _
  have Hcl := Lib.hid (Hc.out _ hK)
  clear h Hc hK
  go_enter Tryz.func68, Tryz.ntmps68
  go_wp2_with (refine wpList_load_at rfl 25 (.tmp 13) rfl ad rfl #[.int .u8 kd, .slice A1 sn c1, .int .i64 mn, .int .i64 mx, .bool lz, .slice A2 un c2] _ Hcl.out Tryz.underlying25 rfl sizeNd ?_)
  exact bodyPost_ret (results_cell_row Tryz.results68 _ _ w.heap.size _ #[.int .u8 kd, .slice A1 sn c1, .int .i64 mn, .int .i64 mx, .bool lz, .slice A2 un c2] (0, 0) _ rfl (heap_alloc_new _ _) Tryz.underlying25 rfl sizeNd) rfl ⟨rfl, (Below.refl _ w).alloc (Nat.le_refl _) _⟩
end Go.Proofs.YtmgkdmbifecekaaGreatDoor
namespace Go.Proofs.YtmgkdmbifecekaaGreatDoor
open Go.RowKit Go.Shelf
def okT (f : Fct) (ok : Bool) : Bool := ok && !f.loops && decide (f.groups ≤ 30) && decide (f.depth ≤ 40)
def zeroT : Fct := ⟨0, 0, 0, 0, false, false⟩
theorem sizeFc : (Tryz.prog.info? 98).map (·.size) = some 6 := by kernel_rfl
/-- Facts in a cell, and a bool: what a function hands back. -/
theorem res_facts {fn : Func} {p u : Tmp} (h : fn.results = #[.cell p 98, .tmp u]) (tmps : Array Value) (w : World) (g : Nat) (cs : Array Value) (hs : cs.size = 6) (hp : tmps.getD p undef = .pointer (some ⟨g, 0, none⟩)) (hg : w.heap[g]? = some (.cells cs 98 (0, 0))) :
    (results fn tmps).run Tryz.prog w = .ok (.tuple #[.agg cs, tmps.getD u undef]) w := by
  rw [results_cell_tmp h, hp]
  have hl := run_loadVar_at (P := Tryz.prog) w ⟨g, 0, none⟩ 98 cs _ (fun j v hv => by rw [add0, cell_of_row _ _ _ _ _ _ hg]; exact hv) Tryz.underlying98 rfl (by rw [sizeFc, hs])
  simp [asAddr, hl, Result.andThen]
section
variable (k : Int) (A1 : Option Addr) (sn c1 : Nat) (mn mx : Int) (lz : Bool) (A2 : Option Addr) (un c2 : Nat) (w : World)
set_option maxHeartbeats 1000000 in
theorem told_of (f : Fct) (ok : Bool) (CS : Hid (∀ W, Kept w W → Calls Tryz.prog 45 #[ndV k A1 sn c1 mn mx lz A2 un c2, .int .i64 40] W fun e w' => e = .returned (.tuple #[fctV f, .bool ok]) ∧ Kept W w')) :
    Calls Tryz.prog 46 #[ndV k A1 sn c1 mn mx lz A2 un c2] w fun e w' => e = .returned (.tuple #[fctV (if okT f ok = true then f else zeroT), .bool (okT f ok)]) ∧ Kept w w' := by
  obtain ⟨d, g, l, m, en, lo⟩ := f
  obtain ⟨wa, hwa⟩ : ∃ x, x = (w.alloc (.cells #[.int .u8 k, .slice A1 sn c1, .int .i64 mn, .int .i64 mx, .bool lz, .slice A2 un c2] 25)).alloc (.cells #[.int .i64 0, .int .i64 0, .int .i64 0, .int .i64 0, .bool false, .bool false] 98) := ⟨_, rfl⟩
  have HK : Hid (Kept w wa) := by rw [hwa]; exact ((Below.refl _ w).alloc (Nat.le_refl _) _).alloc (by simp) _
  have Hz : Hid (wa.heap[w.heap.size + 1]? = some (.cells #[.int .i64 0, .int .i64 0, .int .i64 0, .int .i64 0, .bool false, .bool false] 98 (0, 0))) := by
    show _ = _
    have := heap_alloc_new (w.alloc (.cells #[.int .u8 k, .slice A1 sn c1, .int .i64 mn, .int .i64 mx, .bool lz, .slice A2 un c2] 25)) (.cells #[.int .i64 0, .int .i64 0, .int .i64 0, .int .i64 0, .bool false, .bool false] 98)
    rw [World.size_alloc] at this
    rw [hwa]
    exact this
  by_cases hgood : okT ⟨d, g, l, m, en, lo⟩ ok = true
  · rw [if_pos hgood, hgood]
    have h4 : ok = true ∧ lo = false ∧ g ≤ 30 ∧ d ≤ 40 := by
      unfold okT at hgood
      simp at hgood
      exact ⟨hgood.1.1.1, hgood.1.1.2, hgood.1.2, hgood.2⟩
    obtain ⟨rfl, rfl, hg30, hd40⟩ := h4
    clear hgood
    go_enter Tryz.func46, Tryz.ntmps46
    go_wp2_with fail
    rw [← hwa]
    clear hwa
    refine (CS.out wa HK.out).mono ?_
    rintro e w1 ⟨rfl, hk1⟩
    have M1 := Lib.hid (heap_kept hk1 Hz.out)
    have HK1 := Lib.hid (below_kept HK.out hk1)
    have hne : w.heap.size + 1 < w1.heap.size := heap_lt M1.out
    have M2 : Hid ((w1.alloc (.cells #[.int .i64 d, .int .i64 g, .int .i64 l, .int .i64 m, .bool en, .bool false] 98)).heap[w.heap.size + 1]? = some (.cells #[.int .i64 0, .int .i64 0, .int .i64 0, .int .i64 0, .bool false, .bool false] 98 (0, 0))) := (Below.heap_alloc _ _ _ hne).trans M1.out
    clear hk1 CS Hz M1
    unfold fctV
    dsimp only
    go_wp2_with ((refine wpList_store_row ?c0 98 (.tmp 2) (.tmp 28) ?c1 (w.heap.size + 1) #[.int .i64 d, .int .i64 g, .int .i64 l, .int .i64 m, .bool en, .bool false] ?c2 ?c3 _ _ M2.out ?c4 ?c5 ?c6 ?_); (case c0 => with_reducible rfl); (case c1 => with_reducible rfl); (case c2 => rfl); (case c3 => rfl); (case c4 => exact sizeFc); (case c5 => rfl); (case c6 => simp [Value.oneCell']))
    refine bodyPost_ret (res_facts Tryz.results46 _ _ (w.heap.size + 1) #[.int .i64 d, .int .i64 g, .int .i64 l, .int .i64 m, .bool en, .bool false] rfl rfl (setRow_heap _ _ _ _ _ _ M2.out)) rfl ⟨rfl, ?_⟩
    exact below_setRow (HK1.out.alloc HK1.out.size _) (by omega) _
  · have hb : okT ⟨d, g, l, m, en, lo⟩ ok = false := eq_false_of_ne_true hgood
    rw [if_neg hgood, hb]
    have hc : ok = false ∨ lo = true ∨ 30 < g ∨ 40 < d := by
      unfold okT at hb
      cases ok
      · exact .inl rfl
      · cases lo
        · simp at hb
          by_cases h : g ≤ 30
          · exact .inr (.inr (.inr (hb h)))
          · exact .inr (.inr (.inl (by omega)))
        · exact .inr (.inl rfl)
    clear hgood hb
    cases ok
    · clear hc
      go_enter Tryz.func46, Tryz.ntmps46
      go_wp2_with fail
      rw [← hwa]
      clear hwa
      refine (CS.out wa HK.out).mono ?_
      rintro e w1 ⟨rfl, hk1⟩
      have M1 := Lib.hid (heap_kept hk1 Hz.out)
      have HK1 := Lib.hid (below_kept HK.out hk1)
      have hne : w.heap.size + 1 < w1.heap.size := heap_lt M1.out
      have M2 : Hid ((w1.alloc (.cells #[.int .i64 d, .int .i64 g, .int .i64 l, .int .i64 m, .bool en, .bool lo] 98)).heap[w.heap.size + 1]? = some (.cells #[.int .i64 0, .int .i64 0, .int .i64 0, .int .i64 0, .bool false, .bool false] 98 (0, 0))) := (Below.heap_alloc _ _ _ hne).trans M1.out
      clear hk1 CS Hz M1
      unfold fctV
      dsimp only
      go_wp2_with ((refine wpList_store_row ?c0 98 (.tmp 2) (.tmp 27) ?c1 (w.heap.size + 1) #[.int .i64 0, .int .i64 0, .int .i64 0, .int .i64 0, .bool false, .bool false] ?c2 ?c3 _ _ M2.out ?c4 ?c5 ?c6 ?_); (case c0 => with_reducible rfl); (case c1 => with_reducible rfl); (case c2 => rfl); (case c3 => rfl); (case c4 => exact sizeFc); (case c5 => rfl); (case c6 => simp [Value.oneCell']))
      refine bodyPost_ret (res_facts Tryz.results46 _ _ (w.heap.size + 1) #[.int .i64 0, .int .i64 0, .int .i64 0, .int .i64 0, .bool false, .bool false] rfl rfl (setRow_heap _ _ _ _ _ _ M2.out)) rfl ⟨rfl, ?_⟩
      exact below_setRow (HK1.out.alloc HK1.out.size _) (by omega) _
    · cases lo
      · by_cases h30 : 30 < g
        · clear hc
          go_enter Tryz.func46, Tryz.ntmps46
          go_wp2_with fail
          rw [← hwa]
          clear hwa
          refine (CS.out wa HK.out).mono ?_
          rintro e w1 ⟨rfl, hk1⟩
          have M1 := Lib.hid (heap_kept hk1 Hz.out)
          have HK1 := Lib.hid (below_kept HK.out hk1)
          have hne : w.heap.size + 1 < w1.heap.size := heap_lt M1.out
          have M2 : Hid ((w1.alloc (.cells #[.int .i64 d, .int .i64 g, .int .i64 l, .int .i64 m, .bool en, .bool false] 98)).heap[w.heap.size + 1]? = some (.cells #[.int .i64 0, .int .i64 0, .int .i64 0, .int .i64 0, .bool false, .bool false] 98 (0, 0))) := (Below.heap_alloc _ _ _ hne).trans M1.out
          clear hk1 CS Hz M1
          unfold fctV
          dsimp only
          go_wp2_with ((refine wpList_store_row ?c0 98 (.tmp 2) (.tmp 27) ?c1 (w.heap.size + 1) #[.int .i64 0, .int .i64 0, .int .i64 0, .int .i64 0, .bool false, .bool false] ?c2 ?c3 _ _ M2.out ?c4 ?c5 ?c6 ?_); (case c0 => with_reducible rfl); (case c1 => with_reducible rfl); (case c2 => rfl); (case c3 => rfl); (case c4 => exact sizeFc); (case c5 => rfl); (case c6 => simp [Value.oneCell']))
          refine bodyPost_ret (res_facts Tryz.results46 _ _ (w.heap.size + 1) #[.int .i64 0, .int .i64 0, .int .i64 0, .int .i64 0, .bool false, .bool false] rfl rfl (setRow_heap _ _ _ _ _ _ M2.out)) rfl ⟨rfl, ?_⟩
          exact below_setRow (HK1.out.alloc HK1.out.size _) (by omega) _
        · have h40 : 40 < d := by
            rcases hc with h | h | h | h
            · cases h
            · cases h
            · exact absurd h h30
            · exact h
          clear hc
          go_enter Tryz.func46, Tryz.ntmps46
          go_wp2_with fail
          rw [← hwa]
          clear hwa
          refine (CS.out wa HK.out).mono ?_
          rintro e w1 ⟨rfl, hk1⟩
          have M1 := Lib.hid (heap_kept hk1 Hz.out)
          have HK1 := Lib.hid (below_kept HK.out hk1)
          have hne : w.heap.size + 1 < w1.heap.size := heap_lt M1.out
          have M2 : Hid ((w1.alloc (.cells #[.int .i64 d, .int .i64 g, .int .i64 l, .int .i64 m, .bool en, .bool false] 98)).heap[w.heap.size + 1]? = some (.cells #[.int .i64 0, .int .i64 0, .int .i64 0, .int .i64 0, .bool false, .bool false] 98 (0, 0))) := (Below.heap_alloc _ _ _ hne).trans M1.out
          clear hk1 CS Hz M1
          unfold fctV
          dsimp only
          go_wp2_with ((refine wpList_store_row ?c0 98 (.tmp 2) (.tmp 27) ?c1 (w.heap.size + 1) #[.int .i64 0, .int .i64 0, .int .i64 0, .int .i64 0, .bool false, .bool false] ?c2 ?c3 _ _ M2.out ?c4 ?c5 ?c6 ?_); (case c0 => with_reducible rfl); (case c1 => with_reducible rfl); (case c2 => rfl); (case c3 => rfl); (case c4 => exact sizeFc); (case c5 => rfl); (case c6 => simp [Value.oneCell']))
          refine bodyPost_ret (res_facts Tryz.results46 _ _ (w.heap.size + 1) #[.int .i64 0, .int .i64 0, .int .i64 0, .int .i64 0, .bool false, .bool false] rfl rfl (setRow_heap _ _ _ _ _ _ M2.out)) rfl ⟨rfl, ?_⟩
          exact below_setRow (HK1.out.alloc HK1.out.size _) (by omega) _
      · clear hc
        go_enter Tryz.func46, Tryz.ntmps46
        go_wp2_with fail
        rw [← hwa]
        clear hwa
        refine (CS.out wa HK.out).mono ?_
        rintro e w1 ⟨rfl, hk1⟩
        have M1 := Lib.hid (heap_kept hk1 Hz.out)
        have HK1 := Lib.hid (below_kept HK.out hk1)
        have hne : w.heap.size + 1 < w1.heap.size := heap_lt M1.out
        have M2 : Hid ((w1.alloc (.cells #[.int .i64 d, .int .i64 g, .int .i64 l, .int .i64 m, .bool en, .bool true] 98)).heap[w.heap.size + 1]? = some (.cells #[.int .i64 0, .int .i64 0, .int .i64 0, .int .i64 0, .bool false, .bool false] 98 (0, 0))) := (Below.heap_alloc _ _ _ hne).trans M1.out
        clear hk1 CS Hz M1
        unfold fctV
        dsimp only
        go_wp2_with ((refine wpList_store_row ?c0 98 (.tmp 2) (.tmp 27) ?c1 (w.heap.size + 1) #[.int .i64 0, .int .i64 0, .int .i64 0, .int .i64 0, .bool false, .bool false] ?c2 ?c3 _ _ M2.out ?c4 ?c5 ?c6 ?_); (case c0 => with_reducible rfl); (case c1 => with_reducible rfl); (case c2 => rfl); (case c3 => rfl); (case c4 => exact sizeFc); (case c5 => rfl); (case c6 => simp [Value.oneCell']))
        refine bodyPost_ret (res_facts Tryz.results46 _ _ (w.heap.size + 1) #[.int .i64 0, .int .i64 0, .int .i64 0, .int .i64 0, .bool false, .bool false] rfl rfl (setRow_heap _ _ _ _ _ _ M2.out)) rfl ⟨rfl, ?_⟩
        exact below_setRow (HK1.out.alloc HK1.out.size _) (by omega) _
end
end Go.Proofs.YtmgkdmbifecekaaGreatDoor
namespace Go.Proofs.YtmgkdmbifecekaaGreatDoor
open Go.RowKit Go.Shelf
section
variable (k : Int) (A1 : Option Addr) (sn c1 : Nat) (mn mx : Int) (lz : Bool) (A2 : Option Addr) (un c2 : Nat) (w : World) (F : Fct) (b : Bool) (CT : Hid (∀ W, Kept w W → Calls Tryz.prog 46 #[ndV k A1 sn c1 mn mx lz A2 un c2] W fun e w' => e = .returned (.tuple #[fctV F, .bool b]) ∧ Kept W w'))
include CT
theorem right_of : Calls Tryz.prog 20 #[ndV k A1 sn c1 mn mx lz A2 un c2] w fun e w' => e = .returned (.bool b) ∧ Kept w w' := by
  have HK0 : Hid (Kept w (w.alloc (.cells #[.int .u8 k, .slice A1 sn c1, .int .i64 mn, .int .i64 mx, .bool lz, .slice A2 un c2] 25))) := (Below.refl _ w).alloc (Nat.le_refl _) _
  have C1 := Lib.hid (CT.out _ HK0.out)
  clear CT
  go_enter Tryz.func20, Tryz.ntmps20
  go_wp2_with fail
  refine C1.out.mono ?_
  rintro e w1 ⟨rfl, hk⟩
  have HK := Lib.hid (below_kept HK0.out hk)
  clear hk C1
  obtain ⟨d, g, l, m, en, lo⟩ := F
  unfold fctV
  dsimp only
  go_wp2_with fail
  go_ret
  exact ⟨rfl, below_alloc0 HK.out _⟩
set_option maxHeartbeats 1000000 in
theorem nullable_of : Calls Tryz.prog 22 #[ndV k A1 sn c1 mn mx lz A2 un c2] w fun e w' => e = .returned (.tuple #[.bool (b && (F.least == 0)), .int .i64 (if b = true then 0 else 73)]) ∧ Kept w w' := by
  have HK0 : Hid (Kept w (w.alloc (.cells #[.int .u8 k, .slice A1 sn c1, .int .i64 mn, .int .i64 mx, .bool lz, .slice A2 un c2] 25))) := (Below.refl _ w).alloc (Nat.le_refl _) _
  have C1 := Lib.hid (CT.out _ HK0.out)
  clear CT
  obtain ⟨d, g, l, m, en, lo⟩ := F
  cases b
  all_goals
    go_enter Tryz.func22, Tryz.ntmps22
    go_wp2_with fail
    refine C1.out.mono ?_
    rintro e w1 ⟨rfl, hk⟩
    have HK := Lib.hid (below_alloc0 (below_kept HK0.out hk) (.cells #[.int .i64 d, .int .i64 g, .int .i64 l, .int .i64 m, .bool en, .bool lo] 98))
    clear hk C1
    unfold fctV
    dsimp only
    go_wp2_with fail
    go_ret2
    exact ⟨by first | rfl | simp, HK.out⟩
set_option maxHeartbeats 1000000 in
theorem groups_of : Calls Tryz.prog 24 #[ndV k A1 sn c1 mn mx lz A2 un c2] w fun e w' => e = .returned (.tuple #[.int .i64 (if b = true then F.groups else 0), .int .i64 (if b = true then 0 else 73)]) ∧ Kept w w' := by
  have HK0 : Hid (Kept w (w.alloc (.cells #[.int .u8 k, .slice A1 sn c1, .int .i64 mn, .int .i64 mx, .bool lz, .slice A2 un c2] 25))) := (Below.refl _ w).alloc (Nat.le_refl _) _
  have C1 := Lib.hid (CT.out _ HK0.out)
  clear CT
  obtain ⟨d, g, l, m, en, lo⟩ := F
  cases b
  all_goals
    go_enter Tryz.func24, Tryz.ntmps24
    go_wp2_with fail
    refine C1.out.mono ?_
    rintro e w1 ⟨rfl, hk⟩
    have HK := Lib.hid (below_alloc0 (below_kept HK0.out hk) (.cells #[.int .i64 d, .int .i64 g, .int .i64 l, .int .i64 m, .bool en, .bool lo] 98))
    clear hk C1
    unfold fctV
    dsimp only
    go_wp2_with fail
    go_ret2
    exact ⟨by first | rfl | simp, HK.out⟩
set_option maxHeartbeats 1000000 in
theorem lengths_of : Calls Tryz.prog 23 #[ndV k A1 sn c1 mn mx lz A2 un c2] w fun e w' => e = .returned (.tuple #[.int .i64 (if b = true then F.least else 0), .int .i64 (if b = true then (if F.endless = true then (-1) else F.most) else 0), .int .i64 (if b = true then 0 else 73)]) ∧ Kept w w' := by
  have HK0 : Hid (Kept w (w.alloc (.cells #[.int .u8 k, .slice A1 sn c1, .int .i64 mn, .int .i64 mx, .bool lz, .slice A2 un c2] 25))) := (Below.refl _ w).alloc (Nat.le_refl _) _
  have C1 := Lib.hid (CT.out _ HK0.out)
  clear CT
  obtain ⟨d, g, l, m, en, lo⟩ := F
  cases b
  all_goals cases en
  · go_enter Tryz.func23, Tryz.ntmps23
    go_wp2_with fail
    refine C1.out.mono ?_
    rintro e w1 ⟨rfl, hk⟩
    have HK := Lib.hid (below_alloc0 (below_kept HK0.out hk) (.cells #[.int .i64 d, .int .i64 g, .int .i64 l, .int .i64 m, .bool false, .bool lo] 98))
    clear hk C1
    unfold fctV
    dsimp only
    go_wp2_with fail
    go_ret3
    exact ⟨by first | rfl | simp, HK.out⟩
  · go_enter Tryz.func23, Tryz.ntmps23
    go_wp2_with fail
    refine C1.out.mono ?_
    rintro e w1 ⟨rfl, hk⟩
    have HK := Lib.hid (below_alloc0 (below_kept HK0.out hk) (.cells #[.int .i64 d, .int .i64 g, .int .i64 l, .int .i64 m, .bool true, .bool lo] 98))
    clear hk C1
    unfold fctV
    dsimp only
    go_wp2_with fail
    go_ret3
    exact ⟨by first | rfl | simp, HK.out⟩
  · go_enter Tryz.func23, Tryz.ntmps23
    go_wp2_with fail
    refine C1.out.mono ?_
    rintro e w1 ⟨rfl, hk⟩
    have HK := Lib.hid (below_alloc0 (below_kept HK0.out hk) (.cells #[.int .i64 d, .int .i64 g, .int .i64 l, .int .i64 m, .bool false, .bool lo] 98))
    clear hk C1
    unfold fctV
    dsimp only
    go_wp2_with fail
    go_region
    all_goals try go_wp2
    all_goals go_ret3
    all_goals exact ⟨by first | rfl | simp, below_drew0 HK.out⟩
  · go_enter Tryz.func23, Tryz.ntmps23
    go_wp2_with fail
    refine C1.out.mono ?_
    rintro e w1 ⟨rfl, hk⟩
    have HK := Lib.hid (below_alloc0 (below_kept HK0.out hk) (.cells #[.int .i64 d, .int .i64 g, .int .i64 l, .int .i64 m, .bool true, .bool lo] 98))
    clear hk C1
    unfold fctV
    dsimp only
    go_wp2_with fail
    go_ret3
    exact ⟨by first | rfl | simp, HK.out⟩
end
end Go.Proofs.YtmgkdmbifecekaaGreatDoor
