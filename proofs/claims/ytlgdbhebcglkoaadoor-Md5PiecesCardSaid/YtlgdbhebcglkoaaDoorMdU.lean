/-
  What the reference's Padding computes; the walk of pads.
-/
import Derived.Test.YtlgdbhebcglkoaaDoorMdN
import Derived.Test.YtlgdbhebcglkoaaDoorMdG
namespace Go.Proofs.YtlgdbhebcglkoaaDoor
open Go.RowKit Go.Shelf
set_option maxRecDepth 100000 in
set_option maxHeartbeats 2000000 in
theorem rpadding_any (n : Nat) (hn : n ≤ 70368744177664) (w : World) :
    Calls Tryd.prog 34 #[.int .i64 (n : Int)] w fun e w' => ∃ v, e = .returned v ∧ w'.ownsRow w.heap.size 5 1 v (72 - (n + 8) % 64) (u8s (padL n)) ∧ Below w.heap.size w w' := by
  obtain ⟨m, hm⟩ : ∃ m, (n + 8) % 64 = m := ⟨_, rfl⟩
  have hm64 : m < 64 := by omega
  obtain ⟨i0, hi, hz0, hz1, hz2⟩ := info_parts infoB
  have hph : padHead n = 128 :: List.replicate (63 - m) 0 := by rw [padHead, hm]
  have Hph := Lib.hid hph
  have Hm := Lib.hid hm
  have HmI : Hid (∀ j : Nat, j ≤ 63 - m → ((n : Int) + ((j + 1 : Nat) : Int) + 8) % 64 = 0 → j = 63 - m) := by
    intro j hj h
    omega
  have HmJ : Hid (((n : Int) + ((63 - m + 1 : Nat) : Int) + 8) % 64 = 0) := by
    show _ = _
    omega
  clear hph hm
  go_enter Tryd.func34, Tryd.ntmps34
  go_wp2_with fail
  have hown0 : (w.alloc (.cells #[.int .u8 128] 5)).ownsRow w.heap.size 5 1 (.slice (some ⟨w.heap.size, 0, none⟩) 1 1) 1 (u8s [128]) :=
    ⟨rfl, .inr ⟨w.heap.size, 1, _, rfl, Nat.le_refl _, heap_alloc_new _ _, by omega, by unfold maxLen; omega, rfl, rfl⟩⟩
  go_loopw [3] (fun v wr => ∃ (j : Nat) (A : Option Addr) (c : Nat), j ≤ 63 - m ∧ v = .slice A (j + 1) c ∧ Hid (wr.ownsRow w.heap.size 5 1 v (j + 1) (u8s (128 :: List.replicate j 0))) ∧ Below w.heap.size w wr) (fun v _ => 64 - lenOf v)
  case atStart => exact ⟨0, _, _, by omega, rfl, hown0, (Below.refl _ w).alloc (Nat.le_refl _) _⟩
  case round =>
    clear hown0
    obtain ⟨j, A, c, hj, rfl, hown, hB⟩ := hrel
    have hbs := hB.size
    by_cases hjm : j = 63 - m
    · subst hjm
      have hc := HmJ.out
      have hcI : ((n : Int) + ((63 - m : Nat) : Int) + 1 + 8) % 64 = 0 := by omega
      have hcW : ((n : Int) + (((63 - m : Nat) : Int) + 1) + 8) % 64 = 0 := by omega
      have hcT : ((n : Int) + (((63 - m : Nat) : Int) + 1) + 8).tmod 64 = 0 := by rw [Int.tmod_eq_emod_of_nonneg (by omega)]; exact hcW
      have hown1 : Hid (wr.ownsRow w.heap.size 5 1 (.slice A (63 - m + 1) c) (64 - m) (u8s (padHead n))) := by
        show World.ownsRow _ _ _ _ _ _ _
        rw [Hph.out, show 64 - m = 63 - m + 1 from by omega]
        exact hown.out
      clear hown HmI HmJ hc
      obtain ⟨pm, hpm⟩ : ∃ pm, 63 - m = pm := ⟨_, rfl⟩
      rw [hpm] at hcI hcW hcT hown1 ⊢
      have hpm2 : pm ≤ 63 := by omega
      have Hpm := Lib.hid hpm
      clear hpm
      go_wp2_with fail
      clear hcI hcW hcT hj
      obtain ⟨h64, hh64⟩ : ∃ x, 64 - m = x := ⟨_, rfl⟩
      rw [hh64] at hown1
      have Hh64 := Lib.hid hh64
      have hh642 : h64 ≤ 64 := by omega
      clear hh64
      obtain ⟨w2, rfl⟩ : ∃ x, x = wr := ⟨_, rfl⟩
      have HB2 := Lib.hid hB
      clear hB hbs
      obtain ⟨v2, hv2⟩ : ∃ v, v = Value.slice A (pm + 1) c := ⟨_, rfl⟩
      rw [← hv2] at hown1
      have hat : Hid (w2.ownsRow w.heap.size 5 1 (Value.slice A (pm + 1) c) (h64 + 0) (u8s (padHead n ++ (le8 (8 * n)).take 0))) := by
        show World.ownsRow _ _ _ _ _ _ _
        rw [List.take_zero, List.append_nil, ← hv2]
        exact hown1.out
      clear hown1 hv2
      go_loopw [3, 4, 5] (fun v x i wr => ∃ (j y : Nat), j ≤ 8 ∧ i = .int .i64 j ∧ x = .int .i64 y ∧ Hid (8 * n / 256 ^ j = y) ∧ Hid (wr.ownsRow w.heap.size 5 1 v (h64 + j) (u8s (padHead n ++ (le8 (8 * n)).take j))) ∧ Below w.heap.size w wr) (fun _ _ i _ => 8 - (intOf i).toNat)
      case atStart => exact ⟨0, 8 * n, by omega, rfl, by go_num, by show _ = _; simp, hat, HB2.out⟩
      case round =>
        clear hat
        obtain ⟨j, y, hj, rfl, rfl, hy, hown, hB⟩ := hrel
        by_cases hj8 : j < 8
        · have hyb : y ≤ 8 * n := by rw [← hy.out]; exact Nat.div_le_self _ _
          have hyb2 : (y : Int) ≤ 562949953421312 := by omega
          obtain ⟨z, hz⟩ : ∃ z, y % 256 = z := ⟨_, rfl⟩
          have hz256 : z < 256 := by omega
          have hz1' : (y : Int) % 256 = (z : Int) := by omega
          have hz2' : (y : Int).tmod 256 = (z : Int) := by rw [Int.tmod_eq_emod_of_nonneg (by omega)]; exact hz1'
          have hz3' : (z : Int) % 256 = (z : Int) := by omega
          obtain ⟨y', hy'⟩ : ∃ y', y / 256 = y' := ⟨_, rfl⟩
          have hy1 : (y : Int) / 256 = (y' : Int) := by omega
          have hy2 : (y : Int).tdiv 256 = (y' : Int) := by rw [Int.tdiv_eq_ediv_of_nonneg (by omega)]; exact hy1
          have Hn1 : Hid (8 * n / 256 ^ (j + 1) = y') := by
            show _ = _
            rw [Nat.pow_succ, ← Nat.div_div_eq_div_mul, hy.out, hy']
          have Hn2 : Hid ((le8 (8 * n)).take (j + 1) = (le8 (8 * n)).take j ++ [(z : Int)]) := by
            show _ = _
            rw [le8_succ _ _ hj8, hy.out, hz]
          clear hz hy' hyb
          have hbs := hB.size
          go_wp2_with (at_builtin; refine wpList_app_any _ rfl _ _ 25 rfl w.heap.size 5 i0 (.int .u8 0) 1 Tryd.underlying25 hi hz0 hz1 hz2 rfl _ (h64 + j) (u8s (padHead n ++ (le8 (8 * n)).take j)) rfl (own_alloc hown.out _) _ _ 1 _ (u8s [(z : Int)]) rfl (rdNew wr (u8s [(z : Int)]) 5) (u8s_one _) (by unfold maxLen; omega) (by omega) (by simp; omega) ?_; intro v' w3 hown3 hg3; have Hown3 := Lib.hid hown3; have Hg3 := Lib.hid hg3; clear hown3 hg3)
          have hBn : Below w.heap.size w w3 := (hB.alloc hbs _).grown Hg3.out (by simp; omega) (fun j e => (hown.out.lt j e).1)
          go_roundw
          case rel => exact ⟨j + 1, y', by omega, by go_num, rfl, Hn1, by show World.ownsRow _ _ _ _ _ _ _; rw [Hn2.out, ← List.append_assoc, u8s_append]; exact Hown3.out, hBn⟩
          case measure => simp [intOf]; omega
        · obtain rfl : j = 8 := by omega
          go_wp2_with fail
          go_ret
          refine ⟨_, rfl, ?_, hB⟩
          have h := hown.out
          rw [List.take_of_length_le (by rw [le8_length]; omega)] at h
          rw [Hm.out, show 72 - m = h64 + 8 from by have := Hh64.out; omega]
          exact h
    · have hne := fun h => hjm (HmI.out j hj h)
      have hcI : ¬ ((n : Int) + ((j : Int) + 1) + 8) % 64 = 0 := by intro h; apply hne; omega
      have hcT : ¬ ((n : Int) + ((j : Int) + 1) + 8).tmod 64 = 0 := by rw [Int.tmod_eq_emod_of_nonneg (by omega)]; exact hcI
      clear hne HmI HmJ
      go_wp2_with (at_builtin; refine wpList_app_any _ rfl _ _ 25 rfl w.heap.size 5 i0 (.int .u8 0) 1 Tryd.underlying25 hi hz0 hz1 hz2 rfl _ (j + 1) (u8s (128 :: List.replicate j 0)) rfl (own_alloc hown.out _) _ _ 1 _ (u8s [0]) rfl (rdNew wr (u8s [0]) 5) (u8s_one _) (by unfold maxLen; omega) (by omega) (by simp; omega) ?_; intro v' w3 hown3 hg3; have Hown3 := Lib.hid hown3; have Hg3 := Lib.hid hg3; clear hown3 hg3)
      have hBn : Below w.heap.size w w3 := (hB.alloc hbs _).grown Hg3.out (by simp; omega) (fun j e => (hown.out.lt j e).1)
      obtain ⟨A', c', rfl, hc'⟩ := own_slice Hown3.out
      go_roundw
      case rel => exact ⟨j + 1, A', c', by omega, rfl, by
        have h := Hown3.out
        rw [← u8s_append, List.cons_append, show List.replicate j (0 : Int) ++ [0] = List.replicate (j + 1) 0 from by rw [List.replicate_succ']] at h
        exact h, hBn⟩
      case measure => show 64 - (j + 1 + 1) < 64 - (j + 1); omega
theorem pads_own (w : World) (n : Nat) (hn : n ≤ 1099511627776) :
    Calls Tryd.prog 34 #[.int .i64 (n : Int)] w fun e w' => ∃ g c, e = .returned (.slice (some ⟨g, 0, none⟩) (72 - (n + 8) % 64) c) ∧ Rd w' w'.heap.size (some ⟨g, 0, none⟩) (72 - (n + 8) % 64) (u8s (padL n)) ∧ Kept w w' := by
  refine (rpadding_any n (by omega) w).mono ?_
  rintro e w' ⟨v, rfl, hv, hb⟩
  obtain ⟨A, c, rfl, hc⟩ := own_slice hv
  rcases hv.2 with ⟨h1, _⟩ | ⟨g, cap, cur, h1, h2, _⟩
  · injection h1 with h1 h3 h4; omega
  · injection h1 with h1 h3 h4
    subst h1
    exact ⟨g, c, rfl, Rd.of_own hv, hb⟩
set_option maxRecDepth 100000 in
set_option maxHeartbeats 2000000 in
theorem pads_any (n : Int) (h0 : -9223372036854775808 ≤ n) (h1 : n ≤ 9223372036854775807) (w : World) :
    Calls Tryd.prog 15 #[.int .i64 n] w fun e w' => e = .returned (.bool true) ∧ Below w.heap.size w w' := by
  by_cases hn : n < 0 ∨ 1099511627776 < n
  · have P := Lib.hid (fun W => padding_no n hn W)
    by_cases hz : n < 0
    · clear hn
      go_enter Tryd.func15, Tryd.ntmps15
      go_wp2_with (go_at_call 25; refine (P.out _).mono ?_; rintro e w1 ⟨rfl, rfl⟩)
      go_ret
      exact ⟨rfl, Below.refl _ _⟩
    · have hz2 : 1099511627776 < n := by omega
      clear hn
      go_enter Tryd.func15, Tryd.ntmps15
      go_wp2_with (go_at_call 25; refine (P.out _).mono ?_; rintro e w1 ⟨rfl, rfl⟩)
      go_ret
      exact ⟨rfl, Below.refl _ _⟩
  · obtain ⟨k, rfl⟩ := Int.eq_ofNat_of_zero_le (by omega : 0 ≤ n)
    have hk : k ≤ 1099511627776 := by omega
    have hk1 : ¬ 1099511627776 < (k : Int) := by omega
    have P := Lib.hid (pad_at k (72 - (k + 8) % 64) k rfl hk rfl (by omega))
    have Q := Lib.hid (fun W => pads_own W k hk)
    obtain ⟨q, hq⟩ : ∃ q, 72 - (k + 8) % 64 = q := ⟨_, rfl⟩
    rw [hq] at P Q
    obtain ⟨T, hTT⟩ : ∃ T, T = padL k := ⟨_, rfl⟩
    rw [← hTT] at P Q
    clear hq hTT hn
    go_enter Tryd.func15, Tryd.ntmps15
    go_upto_region 4 with (go_at_call 25; refine (P.out _).mono ?_; rintro e w1 ⟨g1, c1, rfl, hr1, hb1⟩)
    have Hc1 : Hid (∀ W, Kept w1 W → (convert 25 9 (.slice (some ⟨g1, 0, none⟩) q c1)).run Tryd.prog W = .ok (.string (strOfNums T)) W) := fun W h => conv_rd W _ g1 q c1 T (rd_kept h hr1)
    have HB1 := Lib.hid hb1
    have h27 := Hc1.out w1.drew (Below.refl _ w1).drew
    clear hr1 hb1
    go_region_with (go_at_call 34; refine (Q.out _).mono ?_; rintro e w2 ⟨g2, c2, rfl, hr2, hb2⟩; have hk2 := below_kept (Below.refl _ w1).drew hb2; have h27b := Hc1.out w2 hk2; have h30 := conv_rd w2 _ g2 q c2 T hr2; have HB2 := Lib.hid (HB1.out.trans (Below.mono hk2 HB1.out.size)); clear hr2 hb2 hk2)
    all_goals
      go_wp2_with fail
      go_ret
      exact ⟨rfl, HB2.out⟩
set_option maxRecDepth 100000 in
theorem md5pads_walk (n : Int) (h0 : -9223372036854775808 ≤ n) (h1 : n ≤ 9223372036854775807) (w : World) (hT : Tab w) :
    Calls Tryd.prog 4 #[.int .i64 n] w fun e w' => e = .returned (.bool true) ∧ Below w.heap.size w w' := by
  have P := Lib.hid (pads_any n h0 h1 w)
  have HT := Lib.hid hT
  clear hT
  go_enter Tryd.func4, Tryd.ntmps4
  go_wp2_with (first
    | (go_at_call 15; refine P.out.mono ?_; rintro e w1 ⟨rfl, hb1⟩; have HB1 := Lib.hid hb1; clear hb1)
    | (go_at_call 14; refine (awake_any _ (HT.out.below HB1.out)).mono ?_; rintro e w2 ⟨rfl, hb2⟩; have HB2 := Lib.hid (HB1.out.trans (hb2.mono HB1.out.size)); clear hb2))
  go_ret
  exact ⟨rfl, HB2.out⟩
end Go.Proofs.YtlgdbhebcglkoaaDoor
