/-
  What Cut of package utf computes.
-/
import Derived.Test.YtdgpbminmlpebaaDoorUtfF
import Derived.Test.YtdgpbminmlpebaaDoorUtfG
namespace Go.Proofs.YtdgpbminmlpebaaDoor
open Go.RowKit Go.Shelf Mt
attribute [local go_sem] Oper.semAt_some

/-- All offsets are at most k. -/
def AllLe (k : Int) (l : List (Int × Int)) : Prop := ∀ p ∈ l, p.1 ≤ k
theorem AllLe.snoc {k : Int} {l : List (Int × Int)} {x : Int × Int} (h : AllLe k l) (hx : x.1 ≤ k) : AllLe k (l ++ [x]) := by
  intro p hp
  rcases List.mem_append.1 hp with h' | h'
  · exact h p h'
  · rw [List.mem_singleton.1 h']; exact hx
/-- The last offset is beyond k, no one before it; v is the last one before it. -/
def CutStop (k v : Int) (xs : List (Int × Int)) : Prop := ∃ pre x, xs = pre ++ [x] ∧ AllLe k pre ∧ k < x.1 ∧ v = lastOf 0 pre
theorem cut_all {k : Int} {l : List Int} (h : AllLe k (allSteps l)) : lastOf 0 (allSteps l) = cutEnd l k := by
  unfold cutEnd
  rw [takeWhile_of_all (fun p hp => decide_eq_true (h p hp))]
theorem cut_stop {k v : Int} {l : List Int} {xs : List (Int × Int)} (h : CutStop k v xs) (hp : xs <+: allSteps l) : v = cutEnd l k := by
  obtain ⟨pre, x, rfl, h1, h2, rfl⟩ := h
  unfold cutEnd
  rw [takeWhile_of_prefix hp (fun p hp => decide_eq_true (h1 p hp)) (decide_eq_false (by omega))]

set_option maxRecDepth 100000 in
set_option maxHeartbeats 2000000 in
theorem cut_in (n : Nat) (hn : 3 ≤ n) (s : ByteArray) (hs : s.size ≤ 140737488351232) (k : Int) (hk0 : 0 ≤ k) (he : Hid (shortE s = 0)) (w : World) (hT : Tab w) :
    CallsIn Fence.wide n Tryd.prog 20 #[.string s, .int .i64 k] w fun e w' => e = .returned (.tuple #[.string (s.extract 0 (cutEnd (bys s) k).toNat), .int .i64 0]) ∧ Below w.heap.size w w' := by
  have h1 : 1 ≤ n := by omega
  have hc := fun (w : World) (hT : Tab w) => checkShort_any s hs w hT
  rw [he.out] at hc
  have Hc := Lib.hid hc
  clear hc
  refine callsIn_of_wp_marks Tryd.func20 rfl trivial ?_ rfl
  simp only [Tryd.ntmps20, List.size_toArray, List.length_cons, List.length_nil, Nat.reduceAdd, Nat.reduceSub, Array.replicate_succ, Array.replicate_zero, List.push_toArray, List.append_toArray, List.nil_append, List.cons_append]
  gi_wp2_with (first
    | (refine ⟨trivial, ?_⟩; gi_at_call 45; refine (callsIn_wide.2 (Hc.out _ (hT.below ((Below.refl _ w).alloc (Nat.le_refl _) _)))).mono ?_; rintro e w1 ⟨rfl, hb1⟩)
    | (refine ⟨trivial, ?_⟩; gi_at_call 46; refine (callsIn_wide.2 (points_any s _)).mono ?_; rintro e w' ⟨rfl, rfl⟩))
  have hz1 : w.heap.size < w1.heap.size := by have := hb1.size; simp at this; omega
  have hkb := (box_new w (.int .i64 k) 3)
  have hk1 : w1.cell? ⟨w.heap.size, 0, none⟩ = some (.int .i64 k) := (hb1.cell (p := ⟨w.heap.size, 0, none⟩) (by simp)).trans hkb.1
  have hc0 := box_new w1 (.int .i64 0) 3
  have hc1 := box_new (w1.alloc (.cells #[.int .i64 0] 3)) (.string s) 9
  rw [World.size_alloc] at hc1
  have hBw : Below w.heap.size w w1 := ((Below.refl _ w).alloc (Nat.le_refl _) _).trans (hb1.mono (by simp))
  have hB0 : Below w.heap.size w ((w1.alloc (.cells #[.int .i64 0] 3)).alloc (.cells #[.string s] 9)) := (hBw.alloc (by omega) _).alloc (by simp; omega) _
  have hT2 : Tab ((w1.alloc (.cells #[.int .i64 0] 3)).alloc (.cells #[.string s] 9)) := hT.below hB0
  have hT0 : 0 < w.heap.size := by obtain ⟨t, fr, h⟩ := hT; exact (Array.getElem?_eq_some_iff.1 h).1
  refine wpIn_rangeFunc_ownF rfl h1 (gf := 54) (lb := #[.pointer (some ⟨w1.heap.size + 1, 0, none⟩)]) rfl trivial (enters_of Tryd.func54 (by kernel_rfl) rfl)
    (points_stops (n - 1) (by omega) (w1.heap.size + 1) w.heap.size s hs _ hc1.1 (by simp) hT2 hT0) kpB_t (kpB_b (by simp; omega) (by simp)) (Below.refl _ _) (fun _ => rfl)
    (fun pre W => (AllLe k pre ∧ W.cell? ⟨w.heap.size, 0, none⟩ = some (.int .i64 k) ∧ W.cell? ⟨w1.heap.size, 0, none⟩ = some (.int .i64 (lastOf 0 pre)) ∧ W.frozen? ⟨w1.heap.size, 0, none⟩ = false) ∧ Below w.heap.size w W)
    (fun c xs W => (c = .exit 0 ∧ ∃ v, CutStop k v xs ∧ W.cell? ⟨w1.heap.size, 0, none⟩ = some (.int .i64 v)) ∧ Below w.heap.size w W)
    (OwnFrom.and (Own.from (fun s A B row hs hg hr => ⟨hs.1, cell_kept hs.2.1 hg hr, cell_kept hs.2.2.1 hg hr, (frozen_kept hs.2.2.1 hg hr).trans hs.2.2.2⟩) _) (ownFrom_below (Nat.le_refl _) (by simp; omega)))
    (fun c => OwnFrom.and (Own.from (fun s A B row hs hg hr => ⟨hs.1, (by obtain ⟨v, h1, h2⟩ := hs.2; exact ⟨v, h1, cell_kept h2 hg hr⟩)⟩) _) (ownFrom_below (Nat.le_refl _) (by simp; omega)))
    ⟨⟨fun _ h => absurd h (by simp), box_alloc _ (box_alloc _ hk1), box_alloc _ hc0.1, box_alloc_f _ hc0.1 hc0.2⟩, hB0⟩
    (fun x => { tmps := #[.string s, .int .i64 k, undef, .pointer (some ⟨w.heap.size, 0, none⟩), .string ⟨#[]⟩, .int .i64 0, .int .i64 0, .pointer (some ⟨w1.heap.size, 0, none⟩), .int .i64 x.1, .int .i64 k, .bool false, .bool false, undef, undef, undef, .bool false, .string s, .int .i64 0, .int .i64 0, .bool false, undef, .string s, .func (.func 54) #[] #[.pointer (some ⟨w1.heap.size + 1, 0, none⟩)], .int .i64 x.1, .int .i64 x.2, undef, undef, undef, undef, undef, undef, undef, undef], defers := [] }) ?assign ?body ?done ?stop
  case assign =>
    intro l x W K hK
    gi_wp2
    exact hK
  case body =>
    rintro l pre x W ⟨⟨hp, hck, hcr, hfr⟩, hB⟩ _
    by_cases hx : k < x.1
    · gi_wp2
      exact ⟨KeepsOthers.refl _, ⟨rfl, _, ⟨pre, x, rfl, hp, hx, rfl⟩, hcr⟩, hB⟩
    · gi_wp2
      exact ⟨KeepsOthers.setCell _ _ _, kpB_set W _ (by omega) (by omega), ⟨hp.snoc (by omega), (World.cell?_setCell_other W _ _ _ (by first | (simp; done) | (simp; omega))).trans hck, by rw [lastOf_snoc]; exact World.cell?_setCell_same' _ _ _ (by rw [hcr]; rfl), by rw [World.frozen?_setCell]; exact hfr⟩, hB.setCell (p := ⟨w1.heap.size, 0, none⟩) (by show _ ≤ w1.heap.size; omega) _⟩
  case done =>
    rintro D ys W hD rfl ⟨⟨hne, _, hcr, _⟩, hB⟩ hK
    rw [cut_all hne] at hcr
    clear hne
    have hDW : D < W.heap.size := (Array.getElem?_eq_some_iff.1 hK).1
    have hDw : w.heap.size ≤ D := by simp at hD; omega
    have hcb := cutEnd_bd (bys s) (bys_bd s) k
    rw [bys_length] at hcb
    generalize hqq : cutEnd (bys s) k = q at hcb hcr
    have Hqq := Lib.hid hqq
    clear hqq
    obtain ⟨hq0, hq1⟩ := hcb
    gi_wp2_with (refine ⟨trivial, ?_⟩; gi_at_call 47; refine (callsIn_wide.2 (sclone_any _ _ (by rw [ByteArray.size_extract]; omega))).mono ?_; rintro e w2 ⟨rfl, hb⟩; have hK1 : w2.heap[D]? = some (.deferred (some [])) := (hb.block D hDW).trans hK)
    refine ⟨by simp, .inl ⟨_, _, rfl, run_takeDeferred hK1, ?_⟩⟩
    refine ⟨_, results_tmp2 rfl _ _ _, ?_, (hB.trans (hb.mono (by omega))).trans (belowK_b (w := w) (Nat.le_refl _) w2 D _ _ (by omega) hK1 rfl rfl)⟩
    rw [Hqq.out]
    rfl
  case stop =>
    rintro D c pre W hD hpre ⟨⟨rfl, v, hcs, hcr⟩, hB⟩ hK
    obtain rfl := cut_stop hcs hpre
    clear hcs hpre
    have hDW : D < W.heap.size := (Array.getElem?_eq_some_iff.1 hK).1
    have hDw : w.heap.size ≤ D := by simp at hD; omega
    have hcb := cutEnd_bd (bys s) (bys_bd s) k
    rw [bys_length] at hcb
    generalize hqq : cutEnd (bys s) k = q at hcb hcr
    have Hqq := Lib.hid hqq
    clear hqq
    obtain ⟨hq0, hq1⟩ := hcb
    gi_wp2_with (refine ⟨trivial, ?_⟩; gi_at_call 47; refine (callsIn_wide.2 (sclone_any _ _ (by rw [ByteArray.size_extract]; omega))).mono ?_; rintro e w2 ⟨rfl, hb⟩; have hK1 : w2.heap[D]? = some (.deferred (some [])) := (hb.block D hDW).trans hK)
    refine ⟨by simp, .inl ⟨_, _, rfl, run_takeDeferred hK1, ?_⟩⟩
    refine ⟨_, results_tmp2 rfl _ _ _, ?_, (hB.trans (hb.mono (by omega))).trans (belowK_b (w := w) (Nat.le_refl _) w2 D _ _ (by omega) hK1 rfl rfl)⟩
    rw [Hqq.out]
    rfl

/-- CUT, of a string that is not too long and valid. -/
theorem cut_yes (s : ByteArray) (hs : s.size ≤ 140737488351232) (k : Int) (hk0 : 0 ≤ k) (he : shortE s = 0) (w : World) (hT : Tab w) :
    Calls Tryd.prog 20 #[.string s, .int .i64 k] w fun e w' => e = .returned (.tuple #[.string (s.extract 0 (cutEnd (bys s) k).toNat), .int .i64 0]) ∧ Below w.heap.size w w' :=
  callsIn_wide.1 (cut_in 3 (Nat.le_refl _) s hs k hk0 he w hT)
theorem cut_neg (s : ByteArray) (k : Int) (hk : k < 0) (hl : (s.size : Int) ≤ 1048576) (w : World) :
    Calls Tryd.prog 20 #[.string s, .int .i64 k] w fun e w' => e = .returned (.tuple #[.string ⟨#[]⟩, .int .i64 2]) ∧ Below w.heap.size w w' := by
  go_enter Tryd.func20, Tryd.ntmps20
  go_wp2
  go_ret2
  exact ⟨rfl, (Below.refl _ _).alloc (Nat.le_refl _) _⟩
theorem cut_bad (s : ByteArray) (hs : s.size ≤ 140737488351232) (k : Int) (hk : 0 ≤ k ∨ 1048576 < (s.size : Int)) (he : shortE s ≠ 0) (w : World) (hT : Tab w) :
    Calls Tryd.prog 20 #[.string s, .int .i64 k] w fun e w' => e = .returned (.tuple #[.string ⟨#[]⟩, .int .i64 (shortE s)]) ∧ Below w.heap.size w w' := by
  have hc := fun (w : World) (hT : Tab w) => checkShort_any s hs w hT
  generalize shortE s = ee at hc he ⊢
  have Hc := Lib.hid hc
  clear hc
  have h1 : (ee == 0) = false := beq_eq_false_iff_ne.2 he
  have h2 : (ee != 0) = true := bne_iff_ne.2 he
  clear he
  have fin : ∀ w1, Below (w.alloc (.cells #[.int .i64 k] 3)).heap.size (w.alloc (.cells #[.int .i64 k] 3)) w1 → Below w.heap.size w w1 := fun w1 hb => ((Below.refl _ w).alloc (Nat.le_refl _) _).trans (hb.mono (by simp))
  have Fin := Lib.hid fin
  clear fin
  by_cases h3 : 0 ≤ k
  · clear hk
    go_enter Tryd.func20, Tryd.ntmps20
    go_wp2_with (go_at_call 45; refine (Hc.out _ (hT.below ((Below.refl _ w).alloc (Nat.le_refl _) _))).mono ?_; rintro e w1 ⟨rfl, hb1⟩)
    go_ret2
    exact ⟨rfl, Fin.out _ hb1⟩
  · have h4 : 1048576 < (s.size : Int) := by omega
    clear hk
    go_enter Tryd.func20, Tryd.ntmps20
    go_wp2_with (go_at_call 45; refine (Hc.out _ (hT.below ((Below.refl _ w).alloc (Nat.le_refl _) _))).mono ?_; rintro e w1 ⟨rfl, hb1⟩)
    go_ret2
    exact ⟨rfl, Fin.out _ hb1⟩
/-- What Cut answers: the string's bytes, the error. -/
def cutR (s : ByteArray) (k : Int) : ByteArray × Int :=
  if k < 0 ∧ (s.size : Int) ≤ 1048576 then (⟨#[]⟩, 2) else if shortE s = 0 then (s.extract 0 (cutEnd (bys s) k).toNat, 0) else (⟨#[]⟩, shortE s)
theorem shortE_big {s : ByteArray} (h : 1048576 < (s.size : Int)) : shortE s = 3 := if_pos (by omega)
/-- CUT, whatever the string and the number are. -/
theorem cut_any (s : ByteArray) (hs : s.size ≤ 140737488351232) (k : Int) (w : World) (hT : Tab w) :
    Calls Tryd.prog 20 #[.string s, .int .i64 k] w fun e w' => e = .returned (.tuple #[.string (cutR s k).1, .int .i64 (cutR s k).2]) ∧ Below w.heap.size w w' := by
  by_cases h : k < 0 ∧ (s.size : Int) ≤ 1048576
  · rw [show cutR s k = (⟨#[]⟩, 2) from if_pos h]
    exact cut_neg s k h.1 h.2 w
  · by_cases he : shortE s = 0
    · rw [show cutR s k = (s.extract 0 (cutEnd (bys s) k).toNat, 0) from by unfold cutR; rw [if_neg h, if_pos he]]
      refine cut_yes s hs k ?_ he w hT
      rcases Int.lt_or_le k 0 with h1 | h1
      · have := shortE_big (s := s) (by omega)
        rw [this] at he; cases he
      · exact h1
    · rw [show cutR s k = (⟨#[]⟩, shortE s) from by unfold cutR; rw [if_neg h, if_neg he]]
      exact cut_bad s hs k (by omega) he w hT
end Go.Proofs.YtdgpbminmlpebaaDoor
