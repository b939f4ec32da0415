/-
  The walk of Md5Wrong.
-/
import Derived.Test.YtlgdbhebcglkoaaDoorMdN
import Derived.Deep.DeepCutAuto
namespace Go.Proofs.YtlgdbhebcglkoaaDoor
open Go.RowKit
theorem nat_slice0 (n : Nat) : True := trivial
set_option maxRecDepth 100000 in
set_option maxHeartbeats 2000000 in
theorem wrong_walk (st : St) (A : Option Addr) (n c : Nat) (hn : n ≤ c) (hc : c ≤ maxLen) (x : Int) (hx0 : -9223372036854775808 ≤ x) (hx1 : x ≤ 9223372036854775807) (w : World) (hT : Tab w) :
    Calls Tryd.prog 12 #[.agg (vals st), .slice A n c, .int .i64 x] w fun e w' => e = .returned (.bool true) ∧ Below w.heap.size w w' := by
  unfold maxLen at hc
  have HT := Lib.hid hT
  have C := Lib.hid (fun A n k hn W => step_no st A n k hn W)
  obtain ⟨L, hL⟩ : ∃ L, L = vals st := ⟨_, rfl⟩
  have hLz : L.size = 4 := by rw [hL]; rfl
  rw [← hL] at C ⊢
  clear hL hT
  have Hsz : Hid ((Tryd.prog.info? 24).map (·.size) = some L.size) := by show _ = _; rw [hLz]; exact size4
  clear hLz
  go_enter Tryd.func12, Tryd.ntmps12
  go_upto_region 1 with fail
  generalize hw0 : World.alloc w _ = w0
  have hB0 : Below w.heap.size w w0 := by rw [← hw0]; exact (Below.refl _ w).alloc (Nat.le_refl _) _
  have hg0 : w0.heap[w.heap.size]? = some (.cells L 24 (0, 0)) := by rw [← hw0]; exact heap_alloc_new _ _
  have hz0 : w.heap.size < w0.heap.size := (Array.getElem?_eq_some_iff.1 hg0).1
  clear hw0
  go_cut [1] (fun v1 wx => (∃ A' m c', v1 = .slice A' m c' ∧ m ≤ c') ∧ wx = w0)
  case first =>
    by_cases h3 : n ≤ 300
    · have h3' : (n : Int) ≤ 300 := by omega
      go_wp2_with fail
      go_meet
      exact ⟨⟨_, _, _, rfl, by omega⟩, rfl⟩
    · have h3' : ¬ (n : Int) ≤ 300 := by omega
      have h4 : (300 : Int) ≤ (n : Int) := by omega
      have h5 : (300 : Int) ≤ (c : Int) := by omega
      go_wp2_with fail
      go_meet
      exact ⟨⟨_, _, _, rfl, by omega⟩, rfl⟩
  case rest =>
  obtain ⟨⟨A1, m1, c1, rfl, hm1⟩, hw⟩ := hcut
  obtain rfl : w0 = wc := hw.symm
  clear hn hc
  go_upto_if 22 with fail
  go_cut [1] (fun v1 wx => (∃ A' m c', v1 = .slice A' m c' ∧ m ≠ 64) ∧ wx = w0)
  case first =>
    by_cases h6 : m1 = 64
    · have h6' : ((m1 : Int) == 64) = true := by simp; omega
      have h7 : (1 : Int) ≤ (m1 : Int) := by omega
      go_wp2_with fail
      all_goals
        go_meet
        exact ⟨⟨_, _, _, rfl, by omega⟩, rfl⟩
    · have h6' : ((m1 : Int) == 64) = false := by simp; omega
      go_wp2_with fail
      all_goals
        go_meet
        exact ⟨⟨_, _, _, rfl, by omega⟩, rfl⟩
  case rest =>
  clear hm1
  obtain ⟨⟨A2, m2, c2, rfl, hm2⟩, hw⟩ := hcut
  obtain rfl : w0 = wc := hw.symm
  go_upto_region 5 with (first
    | ((refine wpList_load_row ?c0 24 (.tmp 3) ?c1 w.heap.size ?c2 24 L (0, 0) _ hg0 Tryd.underlying24 ?c3 Hsz.out ?_); (case c0 => with_reducible rfl); (case c1 => with_reducible rfl); (case c2 => rfl); (case c3 => rfl))
    | (go_at_call 27; refine (C.out _ _ _ hm2 _).mono ?_; rintro e w1 ⟨rfl, hb1⟩; have HB1 := Lib.hid (hB0.trans (hb1.mono hB0.size)); clear hb1)
    | ((refine wpList_store_row ?c0 24 (.tmp 7) (.tmp 29) ?c1 w1.heap.size #[.int .u32 0, .int .u32 0, .int .u32 0, .int .u32 0] ?c2 ?c3 _ _ (hnew _ rfl) ?c4 ?c5 ?c6 ?_); (case c0 => with_reducible rfl); (case c1 => with_reducible rfl); (case c2 => rfl); (case c3 => rfl); (case c4 => exact size4); (case c5 => rfl); (case c6 => simp [Value.oneCell'])))
  generalize hw2 : World.setRow _ w1.heap.size _ = w2
  have hB2 : Below w.heap.size w w2 := by rw [← hw2]; exact below_setRow (HB1.out.alloc HB1.out.size _) HB1.out.size _
  have hg2 : w2.heap[w1.heap.size]? = some (.cells #[.int .u32 0, .int .u32 0, .int .u32 0, .int .u32 0] 24 (0, 0)) := by rw [← hw2]; exact setRow_heap _ _ _ _ _ _ (heap_alloc_new _ _)
  clear hw2 HB1 hB0 hg0 hz0
  have HB2 := Lib.hid hB2
  have HG2 := Lib.hid hg2
  have HAw := Lib.hid (awake_any w2 (HT.out.below hB2))
  clear hB2 hg2
  have Y := Lib.hid (fun n hn W => padding_no n hn W)
  go_cut [9, 10] (fun v9 v10 wx => (v9 = .slice none 0 0 ∧ v10 = .int .i64 2) ∧ wx = w2)
  case first =>
    by_cases h8 : x < -1
    · have h9 : x ≤ -1 := by omega
      go_wp2_with (go_at_call 25; refine (Y.out _ ?h _).mono ?_; (case h => omega); rintro e w' ⟨rfl, rfl⟩)
      all_goals (go_meet; exact ⟨⟨rfl, rfl⟩, rfl⟩)
    · have h9 : -1 ≤ x := by omega
      go_wp2_with (go_at_call 25; refine (Y.out _ ?h _).mono ?_; (case h => omega); rintro e w' ⟨rfl, rfl⟩)
      all_goals (go_meet; exact ⟨⟨rfl, rfl⟩, rfl⟩)
  case rest =>
  obtain ⟨⟨rfl, rfl⟩, hw⟩ := hcut
  obtain rfl : w2 = wc := hw.symm
  go_upto_region 6 with fail
  go_cut [11, 12] (fun v9 v10 wx => (v9 = .slice none 0 0 ∧ v10 = .int .i64 2) ∧ wx = w2)
  case first =>
    by_cases h8 : x < 1099511627777
    · have h9 : x ≤ 1099511627777 := by omega
      go_wp2_with (go_at_call 25; refine (Y.out _ ?h _).mono ?_; (case h => omega); rintro e w' ⟨rfl, rfl⟩)
      all_goals (go_meet; exact ⟨⟨rfl, rfl⟩, rfl⟩)
    · have h9 : 1099511627777 ≤ x := by omega
      go_wp2_with (go_at_call 25; refine (Y.out _ ?h _).mono ?_; (case h => omega); rintro e w' ⟨rfl, rfl⟩)
      all_goals (go_meet; exact ⟨⟨rfl, rfl⟩, rfl⟩)
  case rest =>
  obtain ⟨⟨rfl, rfl⟩, hw⟩ := hcut
  obtain rfl : w2 = wc := hw.symm
  clear Y
  have hez := eq_zero
  unfold z4 at hez
  go_wp2_with (first
    | (go_at_call 29; refine (modulo_zero _ _ _ _).mono ?_; rintro e w' ⟨rfl, rfl⟩)
    | ((refine wpList_load_row ?c0 24 (.tmp 7) ?c1 w1.heap.size ?c2 24 #[.int .u32 0, .int .u32 0, .int .u32 0, .int .u32 0] (0, 0) _ HG2.out Tryd.underlying24 ?c3 size4 ?_); (case c0 => with_reducible rfl); (case c1 => with_reducible rfl); (case c2 => rfl); (case c3 => rfl))
    | (go_at_call 14; refine HAw.out.mono ?_; rintro e w3 ⟨rfl, hb3⟩; have HB3 := Lib.hid (HB2.out.trans (hb3.mono HB2.out.size)); clear hb3))
  go_ret
  exact ⟨rfl, HB3.out⟩
end Go.Proofs.YtlgdbhebcglkoaaDoor
