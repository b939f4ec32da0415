/-
  What Add, Back and Sum of package hash compute.
-/
import Derived.Test.YtbjidgbohblmiaaHashB
namespace Go.Proofs.Ytbjidgbohblmiaa
open Go.RowKit Go.Shelf
attribute [local go_sem] Oper.semAt_some

set_option maxRecDepth 100000 in
set_option maxHeartbeats 2000000 in
theorem add_in (n : Nat) (hn : 4 ≤ n) (h : BitVec 64) (s : ByteArray) (hs : s.size ≤ 9223372036854775807) (w : World) :
    CallsIn Fence.wide n Try.prog 18 #[U h, .string s] w fun e w' => e = .returned (U (addL h s.data.toList)) ∧ Below w.heap.size w w' := by
  have h1 : 1 ≤ n := by omega
  have h2 : 1 ≤ n - 1 - 1 := by omega
  refine callsIn_of_wp_marks Try.func18 rfl trivial ?_ rfl
  simp only [Try.ntmps18, List.size_toArray, List.length_cons, List.length_nil, Nat.reduceAdd, Nat.reduceSub, Array.replicate_succ, Array.replicate_zero, List.push_toArray, List.append_toArray, List.nil_append, List.cons_append]
  gi_wp2_with (refine ⟨trivial, ?_⟩; gi_at_call 35; refine (callsIn_wide.2 (forward_any s _)).mono ?_; rintro e w' ⟨rfl, rfl⟩)
  have hc0 := box_new w (U h) 22
  have hc1 := box_new (w.alloc (.cells #[U h] 22)) (.string s) 9
  rw [World.size_alloc] at hc1
  have hB0 : Below w.heap.size w ((w.alloc (.cells #[U h] 22)).alloc (.cells #[.string s] 9)) := ((Below.refl _ w).alloc (Nat.le_refl _) _).alloc (by simp) _
  refine wpIn_rangeFunc_ownF rfl h1 (gf := 41) (lb := #[.pointer (some ⟨w.heap.size + 1, 0, none⟩)]) rfl trivial (enters_of Try.func41 (by kernel_rfl) rfl)
    (forward_stops (n - 1) (by omega) (w.heap.size + 1) w.heap.size s hs _ hc1.1 (by simp)) kpB_t (kpB_b (by simp; omega) (by simp)) (Below.refl _ _) (fun _ => rfl)
    (fun pre W => (W.cell? ⟨w.heap.size, 0, none⟩ = some (U (addL h pre)) ∧ W.frozen? ⟨w.heap.size, 0, none⟩ = false) ∧ Below w.heap.size w W)
    (fun _ _ _ => False)
    (OwnFrom.and (Own.from (fun s A B row hs hg hr => ⟨cell_kept hs.1 hg hr, (frozen_kept hs.1 hg hr).trans hs.2⟩) _) (ownFrom_below (Nat.le_refl _) (by simp; omega)))
    (fun _ _ _ _ _ hs _ _ => hs)
    ⟨⟨box_alloc _ hc0.1, box_alloc_f _ hc0.1 hc0.2⟩, hB0⟩
    (fun x => { tmps := #[U h, .string s, .pointer (some ⟨w.heap.size, 0, none⟩), undef, .int .u64 0, .int .u8 (x.toNat : Int), .string s, .func (.func 41) #[] #[.pointer (some ⟨w.heap.size + 1, 0, none⟩)], .int .u8 (x.toNat : Int), undef, undef, undef, undef], defers := [] }) ?assign ?body ?done ?stop
  case assign =>
    intro l x W K hK
    gi_wp2
    exact hK
  case body =>
    rintro l pre x W ⟨⟨hc, hf⟩, hB⟩ _
    generalize hg : addL h pre = g at hc
    have Hg := Lib.hid hg
    clear hg
    gi_wp2_with (refine ⟨trivial, ?_⟩; gi_at_call 36; refine (CallsIn.inRound l (callsIn_wide.2 (step8 _ _ _))).mono ?_; rintro e w' ⟨rfl, rfl⟩)
    exact ⟨KeepsOthers.setCell _ _ _, kpB_set W _ (Nat.le_refl _) (by omega), ⟨by rw [addL_snoc, Hg.out]; exact World.cell?_setCell_same' _ _ _ (by rw [hc]; rfl), by rw [World.frozen?_setCell]; exact hf⟩, hB.setCell (p := ⟨w.heap.size, 0, none⟩) (Nat.le_refl _) _⟩
  case done =>
    rintro D ys W hD rfl ⟨⟨hc, _⟩, hB⟩ hK
    generalize hg : addL h s.data.toList = g at hc
    have Hg := Lib.hid hg
    clear hg
    gi_wp2
    refine ⟨by simp, .inl ⟨_, _, rfl, run_takeDeferred hK, ?_⟩⟩
    exact ⟨_, results_tmp rfl _ _ _, by rw [Hg.out]; rfl, hB.trans (belowK_b (w := w) (Nat.le_refl _) W D _ _ (by simp at hD; omega) hK rfl rfl)⟩
  case stop =>
    rintro D c pre W _ _ h _
    exact h.elim
/-- ADD: the steps with all bytes. -/
theorem add_any (h : BitVec 64) (s : ByteArray) (hs : s.size ≤ 9223372036854775807) (w : World) :
    Calls Try.prog 18 #[U h, .string s] w fun e w' => e = .returned (U (addL h s.data.toList)) ∧ Below w.heap.size w w' :=
  callsIn_wide.1 (add_in 4 (Nat.le_refl _) h s hs w)
/-- The chapter's Offset. -/
def Of : BitVec 64 := 14695981039346656037#64
theorem of_U : U Of = .int .u64 14695981039346656037 := congrArg (Value.int .u64) (by decide)
theorem sum_any (s : ByteArray) (hs : s.size ≤ 9223372036854775807) (w : World) :
    Calls Try.prog 20 #[.string s] w fun e w' => e = .returned (U (addL Of s.data.toList)) ∧ Below w.heap.size w w' := by
  have hA := fun w => add_any Of s hs w
  rw [of_U] at hA
  generalize addL Of s.data.toList = g at hA ⊢
  go_enter Try.func20, Try.ntmps20
  go_wp2_with (go_at_call 18; refine (hA _).mono ?_; rintro e w' ⟨rfl, hb⟩)
  go_ret
  exact ⟨rfl, hb⟩

theorem bk8_wrap (h : BitVec 64) (b : UInt8) : bits .xor .u64 (IntKind.u64.wrap ((h.toNat : Int) * 14886173955864302971)) (b.toNat : Int) = ((bk8 h b).toNat : Int) := by
  have e := xor_u64 (h * Pi) (B8 b.toNat)
  rw [b8_toNat (by omega) (u8_le b), ← mul_u64, pi_toNat] at e
  exact e
theorem backL_snoc (h : BitVec 64) (l : List UInt8) (b : UInt8) : (l ++ [b]).foldl bk8 h = bk8 (l.foldl bk8 h) b := by simp
set_option maxRecDepth 100000 in
set_option maxHeartbeats 2000000 in
theorem back_in (n : Nat) (hn : 4 ≤ n) (h : BitVec 64) (s : ByteArray) (hs : s.size ≤ 9223372036854775807) (w : World) :
    CallsIn Fence.wide n Try.prog 19 #[U h, .string s] w fun e w' => e = .returned (U (backL h s.data.toList)) ∧ Below w.heap.size w w' := by
  have h1 : 1 ≤ n := by omega
  have h2 : 1 ≤ n - 1 - 1 := by omega
  refine callsIn_of_wp_marks Try.func19 rfl trivial ?_ rfl
  simp only [Try.ntmps19, List.size_toArray, List.length_cons, List.length_nil, Nat.reduceAdd, Nat.reduceSub, Array.replicate_succ, Array.replicate_zero, List.push_toArray, List.append_toArray, List.nil_append, List.cons_append]
  gi_wp2_with (refine ⟨trivial, ?_⟩; gi_at_call 37; refine (callsIn_wide.2 (backward_any s _)).mono ?_; rintro e w' ⟨rfl, rfl⟩)
  have hc0 := box_new w (U h) 22
  have hc1 := box_new (w.alloc (.cells #[U h] 22)) (.string s) 9
  rw [World.size_alloc] at hc1
  have hB0 : Below w.heap.size w ((w.alloc (.cells #[U h] 22)).alloc (.cells #[.string s] 9)) := ((Below.refl _ w).alloc (Nat.le_refl _) _).alloc (by simp) _
  refine wpIn_rangeFunc_ownF rfl h1 (gf := 42) (lb := #[.pointer (some ⟨w.heap.size + 1, 0, none⟩)]) rfl trivial (enters_of Try.func42 (by kernel_rfl) rfl)
    (backward_stops (n - 1) (by omega) (w.heap.size + 1) w.heap.size s hs _ hc1.1 (by simp)) kpB_t (kpB_b (by simp; omega) (by simp)) (Below.refl _ _) (fun _ => rfl)
    (fun pre W => (W.cell? ⟨w.heap.size, 0, none⟩ = some (U (pre.foldl bk8 h)) ∧ W.frozen? ⟨w.heap.size, 0, none⟩ = false) ∧ Below w.heap.size w W)
    (fun _ _ _ => False)
    (OwnFrom.and (Own.from (fun s A B row hs hg hr => ⟨cell_kept hs.1 hg hr, (frozen_kept hs.1 hg hr).trans hs.2⟩) _) (ownFrom_below (Nat.le_refl _) (by simp; omega)))
    (fun _ _ _ _ _ hs _ _ => hs)
    ⟨⟨box_alloc _ hc0.1, box_alloc_f _ hc0.1 hc0.2⟩, hB0⟩
    (fun x => { tmps := #[U h, .string s, .pointer (some ⟨w.heap.size, 0, none⟩), undef, .int .u64 0, .int .u8 (x.toNat : Int), .string s, .func (.func 42) #[] #[.pointer (some ⟨w.heap.size + 1, 0, none⟩)], .int .u8 (x.toNat : Int), undef, undef, undef, undef, undef, undef], defers := [] }) ?assign ?body ?done ?stop
  case assign =>
    intro l x W K hK
    gi_wp2
    exact hK
  case body =>
    rintro l pre x W ⟨⟨hc, hf⟩, hB⟩ _
    generalize hg : pre.foldl bk8 h = g at hc
    have Hg := Lib.hid hg
    clear hg
    have hw := bk8_wrap g x
    have u0 : (0 : Int) ≤ (x.toNat : Int) := by omega
    have u1 := u8_le x
    gi_wp2
    exact ⟨KeepsOthers.setCell _ _ _, kpB_set W _ (Nat.le_refl _) (by omega), ⟨by rw [backL_snoc, Hg.out]; exact World.cell?_setCell_same' _ _ _ (by rw [hc]; rfl), by rw [World.frozen?_setCell]; exact hf⟩, hB.setCell (p := ⟨w.heap.size, 0, none⟩) (Nat.le_refl _) _⟩
  case done =>
    rintro D ys W hD rfl ⟨⟨hc, _⟩, hB⟩ hK
    change _ = some (U (backL h s.data.toList)) at hc
    generalize hg : backL h s.data.toList = g at hc
    have Hg := Lib.hid hg
    clear hg
    gi_wp2
    refine ⟨by simp, .inl ⟨_, _, rfl, run_takeDeferred hK, ?_⟩⟩
    exact ⟨_, results_tmp rfl _ _ _, by rw [Hg.out]; rfl, hB.trans (belowK_b (w := w) (Nat.le_refl _) W D _ _ (by simp at hD; omega) hK rfl rfl)⟩
  case stop =>
    rintro D c pre W _ _ h _
    exact h.elim
/-- BACK: the hash from which the steps with all bytes lead here. -/
theorem back_any (h : BitVec 64) (s : ByteArray) (hs : s.size ≤ 9223372036854775807) (w : World) :
    Calls Try.prog 19 #[U h, .string s] w fun e w' => e = .returned (U (backL h s.data.toList)) ∧ Below w.heap.size w w' :=
  callsIn_wide.1 (back_in 4 (Nat.le_refl _) h s hs w)
end Go.Proofs.Ytbjidgbohblmiaa
