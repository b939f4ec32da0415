/-
  The walk of Md5Blocks.
-/
import Derived.Test.YtlgdbhebcglkoaaDoorMdN
import Derived.Test.YtlgdbhebcglkoaaDoorMdO
import Derived.Deep.DeepCutAuto
import Derived.Deep.RegionHeld3
namespace Go.Proofs.YtlgdbhebcglkoaaDoor
open Go.RowKit Go.Shelf
theorem range_kept' {w w' : World} {g o : Nat} {L : List Value} (hk : Kept w w') (hg : g < w.heap.size) (h : w.rangeAt g o L) : w'.rangeAt g o L :=
  fun j v hv => (Below.cell hk (p := ⟨g, o + j, none⟩) hg).trans (h j v hv)
theorem row_all' (Z : List Int) : (u8s Z).toArray.all (·.oneCell') = true := by
  rw [Array.all_eq_true_iff_forall_mem]
  intro v hv
  exact u8s_one Z v (by simpa using hv)
theorem i64_or_nat (a b : Nat) (ha : a < 9223372036854775808) (hb : b < 9223372036854775808) : bits .or .i64 (a : Int) (b : Int) = ((a ||| b : Nat) : Int) := by
  have hx : a ||| b < 2 ^ 63 := Nat.or_lt_two_pow (by omega) (by omega)
  show IntKind.i64.wrap ((BitVec.ofInt 64 (a : Int) ||| BitVec.ofInt 64 (b : Int)).toNat : Int) = _
  rw [BitVec.toNat_or, ofInt_u64 a (by omega), ofInt_u64 b (by omega)]
  rw [IntWalk.i64_in _ (by omega)]
theorem rd_take' {w : World} {B n : Nat} {A : Option Addr} {xs : List Value} (h : Rd w B A n xs) (k : Nat) (hk : k ≤ n) : Rd w B A k (xs.take k) := by
  refine ⟨by rw [List.length_take, h.1]; omega, fun h0 => ?_⟩
  obtain ⟨ad, e, hb, hc⟩ := h.2 (by omega)
  refine ⟨ad, e, hb, fun j u hu => hc j u ?_⟩
  have hj : j < (xs.take k).length := (List.getElem?_eq_some_iff.1 hu).1
  rw [List.length_take] at hj
  rw [List.getElem?_take, if_pos (by omega)] at hu
  exact hu
theorem u8s_take' (l : List Int) (k : Nat) : (u8s l).take k = u8s (l.take k) := by unfold u8s; rw [List.map_take]
/-- The padding, byte by byte. -/
theorem padL_zero (n q : Nat) (hq : 72 - (n + 8) % 64 = q) (j : Nat) (h0 : 0 < j) (h1 : j < q - 8) : (padL n).getD j 0 = 0 := by
  have hl := padHead_length n
  rw [padL, List.getD_eq_getElem?_getD, List.getElem?_append_left (by omega)]
  obtain ⟨i, rfl⟩ : ∃ i, j = i + 1 := ⟨j - 1, by omega⟩
  rw [padHead, List.getElem?_cons_succ, List.getElem?_replicate, if_pos (by omega)]
  rfl
theorem padL_first (n : Nat) : (padL n).getD 0 0 = 128 := rfl
theorem padL_last (n q : Nat) (hq : 72 - (n + 8) % 64 = q) (j : Nat) (hj : j < 8) : (padL n).getD (q - 8 + j) 0 = ((8 * n / 256 ^ j % 256 : Nat) : Int) := by
  have hl := padHead_length n
  rw [padL, List.getD_eq_getElem?_getD, List.getElem?_append_right (by omega), show q - 8 + j - (padHead n).length = j from by omega]
  simp [le8, hj]
theorem bits_step (x j : Nat) : x % 256 ^ (j + 1) = (x % 256 ^ j) + (x / 256 ^ j % 256) * 256 ^ j := by
  rw [Nat.pow_succ, Nat.mod_mul, Nat.mul_comm (256 ^ j)]
theorem bits_or (x j : Nat) (hx : x < 65536) : bits .or .i64 ((x % 256 ^ j : Nat) : Int) ((x / 256 ^ j % 256 * 256 ^ j : Nat) : Int) = ((x % 256 ^ (j + 1) : Nat) : Int) := by
  have hp : 0 < 256 ^ j := Nat.pow_pos (by omega)
  have h1 : x % 256 ^ j < 256 ^ j := Nat.mod_lt _ hp
  have h2 : x % 256 ^ j ≤ x := Nat.mod_le _ _
  have h3 : x / 256 ^ j % 256 * 256 ^ j ≤ x := Nat.le_trans (Nat.mul_le_mul_right _ (Nat.mod_le _ _)) (Nat.div_mul_le_self _ _)
  rw [i64_or_nat _ _ (by omega) (by omega), bits_step, Nat.or_comm]
  have h4 : (256 : Nat) ^ j = 2 ^ (8 * j) := by rw [Nat.pow_mul]
  rw [h4] at h1 ⊢
  rw [nat_join (8 * j) _ _ (Nat.mul_mod_left _ _) h1]
  congr 1
  omega
/-- Padding, where it lies, and that it has its room. -/
theorem pad_cap (n q : Nat) (hn : n ≤ 1099511627776) (hq : 72 - (n + 8) % 64 = q) (hq0 : 0 < q) (w : World) :
    Calls Tryd.prog 25 #[.int .i64 (n : Int)] w fun e w' => ∃ g c, e = .returned (.tuple #[.slice (some ⟨g, 0, none⟩) q c, .int .i64 0]) ∧ q ≤ c ∧ Rd w' w'.heap.size (some ⟨g, 0, none⟩) q (u8s (padL n)) ∧ Below w.heap.size w w' := by
  refine (padding_yes n hn w).mono ?_
  rintro e w' ⟨v, rfl, hv, hb⟩
  rw [hq] at hv
  obtain ⟨A, c, rfl, hc⟩ := own_slice hv
  rcases hv.2 with ⟨h1, _⟩ | ⟨g, cap, cur, h1, h2, _⟩
  · injection h1 with h1 h3 h4; omega
  · injection h1 with h1 h3 h4
    subst h1
    exact ⟨g, c, rfl, hc, Rd.of_own hv, hb⟩
set_option maxRecDepth 100000 in
set_option maxHeartbeats 8000000 in
theorem blocks_walk (A0 : Option Addr) (n0 c0 : Nat) (hn0 : n0 ≤ c0) (hc0 : c0 ≤ maxLen) (P0 : List Int) (hP0 : Bts P0) (w : World) (hr0 : Rd w w.heap.size A0 n0 (u8s P0)) (hT : Tab w) :
    Calls Tryd.prog 8 #[.slice A0 n0 c0] w fun e w' => e = .returned (.bool true) ∧ Below w.heap.size w w' := by
  unfold maxLen at hc0
  obtain ⟨i0, hi, hz0, hz1, hz2⟩ := info_parts infoB
  have HT := Lib.hid hT
  have Hr0 := Lib.hid hr0
  have HP0 := Lib.hid hP0
  clear hT hr0 hP0
  go_enter Tryd.func8, Tryd.ntmps8
  go_upto_region 1 with fail
  go_cut [0] (fun v0 wx => (∃ k, v0 = .slice A0 k c0 ∧ k ≤ 3000 ∧ k ≤ n0) ∧ wx = w)
  case first =>
    by_cases h3 : (n0 : Int) ≤ 3000
    · go_wp2_with fail
      go_meet
      exact ⟨⟨_, rfl, by omega, by omega⟩, rfl⟩
    · have h4 : (3000 : Int) ≤ (n0 : Int) := by omega
      have h5 : (3000 : Int) ≤ (c0 : Int) := by omega
      go_wp2_with fail
      go_meet
      exact ⟨⟨_, rfl, by omega, by omega⟩, rfl⟩
  case rest =>
  obtain ⟨⟨k, rfl, hk3, hkn⟩, hw⟩ := hcut
  obtain rfl : w = wc := hw.symm
  obtain ⟨P, hP⟩ : ∃ P, P = P0.take k := ⟨_, rfl⟩
  have HPb : Hid (Bts P) := by rw [hP]; exact HP0.out.take k
  have HrP : Hid (Rd w w.heap.size A0 k (u8s P)) := by
    have := rd_take' Hr0.out k hkn
    rw [u8s_take', ← hP] at this
    exact this
  have hkc : k ≤ c0 := by omega
  have hPl : P.length = k := by have := HrP.out.1; rwa [u8s_length] at this
  clear hP Hr0 HP0 hkn hn0 hc0 hw
  have CS : Hid (∀ W, Below w.heap.size w W → Calls Tryd.prog 24 #[.slice A0 k c0] W fun e w' => e = .returned (.agg (u8s (sumL P)).toArray) ∧ Kept W w') := fun W h => sum_any A0 k c0 P HPb.out (by omega) hkc W ((HrP.out.below h).more h.size) (HT.out.below h)
  obtain ⟨q, hq⟩ : ∃ q, 72 - (k + 8) % 64 = q := ⟨_, rfl⟩
  have CP := Lib.hid (pad_cap k q (by omega) hq (by omega))
  have hq9 : 9 ≤ q := by omega
  have hq72 : q ≤ 72 := by omega
  obtain ⟨nb, hnb⟩ : ∃ nb, k + q = 64 * nb := ⟨(k + q) / 64, by omega⟩
  have hqm : ((k : Int) + (q : Int)) % 64 = 0 := by omega
  have hqt : ((k : Int) + (q : Int)).tmod 64 = 0 := by rw [Int.tmod_eq_emod_of_nonneg (by omega)]; exact hqm
  have hqI9 : ¬ (q : Int) < 9 := by omega
  have hqI72 : ¬ (72 : Int) < (q : Int) := by omega
  have Hlast := Lib.hid (padL_last k q hq)
  have Hzero := Lib.hid (padL_zero k q hq)
  have HTl : Hid ((padL k).length = q) := by show _ = _; rw [padL_length]; exact hq
  have HTb := Lib.hid (padL_bts k)
  have HTf := Lib.hid (padL_first k)
  have HSum : Hid (sumL P = dig (runB st0 (allY (P ++ padL k)))) := by show _ = _; rw [sumL, hPl]
  obtain ⟨T, hT⟩ : ∃ T, T = padL k := ⟨_, rfl⟩
  rw [← hT] at CP Hlast Hzero HTl HTb HTf HSum
  clear hT hq
  go_upto_region 3 with (go_at_call 25; refine (CP.out _).mono ?_; rintro e w1 ⟨g, c1, rfl, hqc, hr1, hb1⟩; have Hr1 := Lib.hid hr1; have HB1 := Lib.hid hb1; clear hr1 hb1)
  have hcell : ∀ j, j < q → w1.cell? ⟨g, j, none⟩ = some (.int .u8 (T.getD j 0)) := fun j hj => by
    obtain ⟨ad, e, _, hc⟩ := Hr1.out.2 (by omega)
    cases e
    have := hc j _ (u8s_get T j (by have := HTl.out; omega))
    rwa [add0] at this
  have hc0' : w1.cell? ⟨g, 0, none⟩ = some (.int .u8 128) := by rw [hcell 0 (by omega), HTf.out]
  have Hcell := Lib.hid hcell
  clear hcell
  have hqI0 : (0 : Int) < (q : Int) := by omega
  go_upto_region 6 with fail
  go_wp2_with fail
  go_loopw [5, 55] (fun x i wr => ∃ (j y : Nat), j ≤ 8 ∧ i = .int .i64 j ∧ x = .int .i64 (y : Int) ∧ Hid (y = 8 * k % 256 ^ j) ∧ wr = w1) (fun _ i _ => 8 - (intOf i).toNat)
  case atStart => exact ⟨0, 0, by omega, rfl, rfl, by show _ = _; simp [Nat.mod_one], rfl⟩
  case round =>
    obtain ⟨j, y, hj, rfl, rfl, hy, rfl⟩ := hrel
    by_cases hj8 : j < 8
    · obtain ⟨c, hc⟩ : ∃ c, 8 * k / 256 ^ j % 256 = c := ⟨_, rfl⟩
      have hor := bits_or (8 * k) j (by omega)
      have hle : c * 256 ^ j ≤ 8 * k := by rw [← hc]; exact Nat.le_trans (Nat.mul_le_mul_right _ (Nat.mod_le _ _)) (Nat.div_mul_le_self _ _)
      have hla := Hlast.out j hj8
      rw [hc] at hor hla
      rw [← hy.out] at hor
      obtain ⟨sh, hsh⟩ : ∃ sh, c * 256 ^ j = sh := ⟨_, rfl⟩
      rw [hsh] at hor hle
      have hshI : (c : Int) * 2 ^ (8 * j) = (sh : Int) := by rw [← hsh, show (256 : Nat) ^ j = 2 ^ (8 * j) from by rw [Nat.pow_mul]]; simp
      have hshW : IntKind.i64.wrap ((c : Int) * 2 ^ (8 * j)) = (sh : Int) := by rw [hshI, IntWalk.i64_in _ (by omega)]
      obtain ⟨q8, hq8⟩ : ∃ q8, q8 + 8 = q := ⟨q - 8, by omega⟩
      have hq8I : (q : Int) - 8 = (q8 : Int) := by omega
      obtain ⟨qj, hqj⟩ : ∃ qj, q8 + j = qj := ⟨_, rfl⟩
      have hqjI : (q8 : Int) + (j : Int) = (qj : Int) := by omega
      have hqjq : (qj : Int) < (q : Int) := by omega
      have hcl := Hcell.out qj (by omega)
      rw [show qj = q - 8 + j from by omega, hla, show q - 8 + j = qj from by omega] at hcl
      have hcw : IntKind.i64.wrap (c : Int) = (c : Int) := by rw [IntWalk.i64_in _ (by omega)]
      have Hn : Hid (8 * k % 256 ^ (j + 1) = 8 * k % 256 ^ (j + 1)) := rfl
      obtain ⟨y', hy'⟩ : ∃ y', 8 * k % 256 ^ (j + 1) = y' := ⟨_, rfl⟩
      rw [hy'] at hor
      have Hy' : Hid (y' = 8 * k % 256 ^ (j + 1)) := hy'.symm
      clear hc hsh hla hq8 hqj hy' Hn
      go_wp2_with fail
      go_roundw
      case rel => exact ⟨j + 1, y', by omega, by go_num, rfl, Hy', trivial⟩
      case measure => simp [intOf]; omega
    · obtain rfl : j = 8 := by omega
      have hy8 : y = 8 * k := by rw [hy.out, Nat.mod_eq_of_lt (by omega)]
      subst hy8
      obtain ⟨q8, hq8⟩ : ∃ q8, q8 + 8 = q := ⟨q - 8, by omega⟩
      have hq8I : (q : Int) - 8 = (q8 : Int) := by omega
      have hq81 : (1 : Int) ≤ (q8 : Int) := by omega
      have hq8q : (q8 : Int) ≤ (q : Int) := by omega
      have hq8c : (q8 : Int) ≤ (c1 : Int) := by omega
      have hq8c1 : (1 : Int) ≤ (c1 : Int) := by omega
      go_wp2_with fail
      obtain ⟨w2, rfl⟩ : ∃ x, x = wr := ⟨_, rfl⟩
      clear hj hj8 hy hqI9 hqI72 hqm hqt hc0' Hlast HTf CP
      obtain ⟨q9, hq9'⟩ : ∃ q9, q8 - 1 = q9 := ⟨_, rfl⟩
      rw [hq9']
      have hq9q : q9 + 9 = q := by omega
      clear hq9' hq8I hq81 hq8q hq8c hq8
      go_loopw [79] (fun i wr => ∃ j : Nat, j ≤ q9 ∧ i = .int .i64 j ∧ wr = w2) (fun i _ => q9 - (intOf i).toNat)
      case atStart => exact ⟨0, by omega, rfl, rfl⟩
      case round =>
        obtain ⟨j, hj, rfl, hwr⟩ := hrel
        obtain rfl : w2 = wr := hwr.symm
        by_cases hj9 : j < q9
        · have hjI : (j : Int) < (q9 : Int) := by omega
          have hcl := Hcell.out (1 + j) (by omega)
          rw [Hzero.out (1 + j) (by omega) (by omega)] at hcl
          go_wp2_with fail
          go_roundw
          case rel => exact ⟨j + 1, by omega, by go_num, trivial⟩
          case measure => simp [intOf]; omega
        · have hjI : ¬ (j : Int) < (q9 : Int) := by omega
          have hb2 := HB1.out
          have hrP2 : Rd w2 w2.heap.size A0 k (u8s P) := (HrP.out.below hb2).more hb2.size
          have HrP2 := Lib.hid hrP2
          have hbz := Below.refl w2.heap.size w2
          clear hrP2 hb2 Hcell Hzero hj hj9
          go_upto_region 19 with (first
            | (at_builtin; refine wpList_app_any _ rfl _ _ 25 rfl w2.heap.size 5 i0 (.int .u8 0) 1 Tryd.underlying25 hi hz0 hz1 hz2 rfl _ (0 + k) ([] ++ u8s P) rfl Hown3.out _ (some ⟨g, 0, none⟩) q c1 (u8s T) rfl (Hr1.out.below HB3.out) (u8s_one _) (by unfold maxLen; omega) (by omega) (HB3.out.size) ?_; intro v4 w4 hown4 hg4; have Hown4 := Lib.hid hown4; have HB4 := Lib.hid (HB3.out.grown hg4 HB3.out.size (fun j e => (Hown3.out.lt j e).1)); clear hown4 hg4)
            | (at_builtin; refine wpList_app_any _ rfl _ _ 25 rfl w2.heap.size 5 i0 (.int .u8 0) 1 Tryd.underlying25 hi hz0 hz1 hz2 rfl _ 0 [] rfl (own_none (heap_alloc_new w2 _) (Nat.le_refl _)) _ A0 k c0 (u8s P) rfl (HrP2.out.below (hbz.alloc (Nat.le_refl _) _)) (u8s_one _) (by unfold maxLen; omega) (by omega) (by simp) ?_; intro v3 w3 hown3 hg3; have Hown3 := Lib.hid hown3; have HB3 := Lib.hid ((hbz.alloc (Nat.le_refl _) _).grown hg3 (by simp) (fun j e => by cases e; exact Nat.le_refl _)); clear hown3 hg3)
            | (go_at_call 26; refine (start_any _).mono ?_; rintro e w5 ⟨rfl, k5⟩; have K5 := Lib.hid k5; clear k5)
            | ((refine wpList_store_row ?c0 24 (.tmp 10) (.tmp 91) ?c1 w5.heap.size v0 ?c2 ?c3 _ _ (hnew _ rfl) ?c4 ?c5 ?c6 ?_); (case c0 => with_reducible rfl); (case c1 => with_reducible rfl); (case c2 => rfl); (case c3 => rfl); (case c4 => exact size4); (case c5 => rfl); (case c6 => simp [v0, Value.oneCell'])))
          have k56 : Kept w5 (World.setRow (w5.alloc (.cells z4 24)) w5.heap.size v0) := below_setRow ((Below.refl _ w5).alloc (Nat.le_refl _) _) (Nat.le_refl _) _
          have m6 : (World.setRow (w5.alloc (.cells z4 24)) w5.heap.size v0).heap[w5.heap.size]? = some (.cells v0 24 (0, 0)) := setRow_heap _ _ _ _ _ _ (hnew _ rfl)
          obtain ⟨w6, hw6⟩ : ∃ x, x = World.setRow (w5.alloc (.cells z4 24)) w5.heap.size v0 := ⟨_, rfl⟩
          rw [← hw6] at k56 m6
          change Code.wp _ _ _ _ (World.setRow (w5.alloc (.cells z4 24)) w5.heap.size v0)
          rw [← hw6]
          clear hw6
          obtain ⟨D, hD⟩ : ∃ D, D = P ++ T := ⟨_, rfl⟩
          obtain ⟨N, hN⟩ : ∃ N, N = 0 + k + q := ⟨_, rfl⟩
          have hDl : D.length = N := by rw [hD, List.length_append, hPl, HTl.out, hN]; omega
          have hDb : Bts D := by
            intro x hx
            rw [hD] at hx
            rcases List.mem_append.1 hx with h | h
            · exact HPb.out x h
            · exact HTb.out x h
          have hown : w4.ownsRow w2.heap.size 5 1 v4 N (u8s D) := by
            have h := Hown4.out
            rw [List.nil_append, ← u8s_append, ← hD, ← hN] at h
            exact h
          rw [← hD] at HSum
          have hN64 : N = 64 * nb := by omega
          have hN9 : 9 ≤ N := by omega
          have hnbB : nb ≤ 49 := by omega
          clear Hown4 Hown3 HTb hD hN hnb HTl
          obtain ⟨A4, c4, rfl, hc4⟩ := own_slice hown
          have hrd4 := Rd.of_own hown
          obtain ⟨gw, rfl⟩ : ∃ gw, A4 = some ⟨gw, 0, none⟩ := by
            rcases hown.2 with ⟨_, h1⟩ | ⟨g, _, _, h1, _⟩
            · omega
            · injection h1 with h1; exact ⟨g, h1⟩
          have hrd5 := rd_kept K5.out hrd4
          have Hrd := Lib.hid hrd5
          have HK05 := Lib.hid (below_kept (below_kept HB1.out HB4.out) K5.out)
          obtain ⟨gs, hgs⟩ : ∃ gs, gs = w5.heap.size := ⟨_, rfl⟩
          rw [← hgs] at m6 ⊢
          have Hgs := Lib.hid hgs
          have M6 := Lib.hid m6
          have K56 := Lib.hid k56
          have HDb := Lib.hid hDb
          have HDl := Lib.hid hDl
          clear hown hrd4 hrd5 hgs m6 k56 hDb hDl K5 HB3 HB4 Hr1 HrP2 hbz HB1
          go_wp2_with fail
          go_loopw [11] (fun i wr => ∃ n o : Nat, n ≤ nb ∧ o = 64 * n ∧ i = .int .i64 (o : Int) ∧ Hid (Kept w5 wr) ∧ Hid (wr.heap[gs]? = some (.cells (vals (runB st0 (fulls D n))) 24 (0, 0)))) (fun i _ => 64 * nb - (intOf i).toNat)
          case atStart => exact ⟨0, 0, by omega, by omega, rfl, K56, M6⟩
          case round =>
            clear M6 K56
            obtain ⟨n, o, hn, ho, rfl, hK, hgs⟩ := hrel
            by_cases hnb : n < nb
            · have hoI : (o : Int) < ((64 * nb : Nat) : Int) := by omega
              obtain ⟨oe, hoe⟩ : ∃ oe, o + 64 = oe := ⟨_, rfl⟩
              have hoeI : (o : Int) + 64 = (oe : Int) := by omega
              have hoeW : IntKind.i64.wrap ((o : Int) + 64) = (oe : Int) := by rw [IntWalk.i64_in _ (by omega)]; exact hoeI
              have hoI2 : (oe : Int) ≤ ((64 * nb : Nat) : Int) := by omega
              have hoI3 : (oe : Int) ≤ (c4 : Int) := by omega
              have hoI4 : (o : Int) ≤ (oe : Int) := by omega
              have hoI0 : (0 : Int) ≤ (o : Int) := by omega
              have hoI5 : ¬ (c4 : Int) = (o : Int) := by omega
              have hoI6 : ¬ c4 = o := by omega
              have hoI7 : oe - o = 64 := by omega
              have hoI8 : c4 - o ≠ 0 := by omega
              have hoI9 : o < c4 := by omega
              obtain ⟨l, hl⟩ : ∃ l, l = (D.drop o).take 64 := ⟨_, rfl⟩
              have hll : l.length = 64 := by rw [hl, List.length_take, List.length_drop, HDl.out]; omega
              have hlb : Bts l := by rw [hl]; exact (HDb.out.drop _).take _
              have hblk : blk D (64 * (n + 1)) = l := by rw [blk_full D n (by rw [HDl.out]; omega), hl, ho]
              have hrg : w5.rangeAt gw o (u8s l) := by
                intro j v hv
                obtain ⟨ad, e, _, hc⟩ := Hrd.out.2 (by omega)
                cases e
                have hj : j < 64 := by
                  have := (List.getElem?_eq_some_iff.1 hv).1
                  rw [u8s_length, hll] at this
                  exact this
                have := hc (o + j) v (by
                  rw [← hv, hl]
                  unfold u8s
                  rw [List.getElem?_map, List.getElem?_map, List.getElem?_take, if_pos hj, List.getElem?_drop])
                rwa [add0] at this
              have hgwl : gw < w5.heap.size := by
                obtain ⟨ad, e, hlt, _⟩ := Hrd.out.2 (by omega)
                cases e
                exact hlt
              obtain ⟨⟨a, b, c, d⟩, hst⟩ : ∃ st, runB st0 (fulls D n) = st := ⟨_, rfl⟩
              obtain ⟨⟨x, y, z, u⟩, hst2⟩ : ∃ st, stp (a, b, c, d) l = st := ⟨_, rfl⟩
              have Hnext : Hid (runB st0 (fulls D (n + 1)) = (x, y, z, u)) := by
                show _ = _
                rw [fulls_succ, runB_snoc, hst, hblk]
                exact hst2
              rw [hst] at hgs
              have hg0 : wr.heap[gs]? = some (.cells #[V a, V b, V c, V d] 24 (0, 0)) := hgs.out
              have CStep : Hid (∀ {cc : Nat} (W : World), Below wr.heap.size wr W → Calls Tryd.prog 27 #[.agg #[V a, V b, V c, V d], .slice (some ⟨gw, o, none⟩) 64 cc] W fun e w' => e = .returned (.tuple #[.agg #[V x, V y, V z, V u], .int .i64 0]) ∧ Kept W w') := by
                intro cc W h
                have hk := below_kept hK.out h
                refine (step_yes a b c d l hll hlb gw o cc W (range_kept' hk hgwl hrg) (HT.out.below (below_kept HK05.out hk))).mono ?_
                rintro e w' ⟨rfl, k⟩
                rw [hst2]
                exact ⟨rfl, k⟩
              have Hg0 := Lib.hid hg0
              have hgsl := heap_lt hg0
              clear hgs hst hst2 hl hll hlb hblk hrg hgwl
              have Ho := Lib.hid ho
              have Hoe := Lib.hid hoe
              clear ho hoe
              have hoeW2 : IntKind.i64.wrap (oe : Int) = (oe : Int) := by rw [IntWalk.i64_in _ (by omega)]
              clear hoeW
              go_upto_region 22 with fail
              have Hk : Hid (∀ W, Below wr.heap.size wr W → (W.cell? ⟨gs, 0, none⟩ = some (V a) ∧ W.cell? ⟨gs, 1, none⟩ = some (V b) ∧ W.cell? ⟨gs, 2, none⟩ = some (V c) ∧ W.cell? ⟨gs, 3, none⟩ = some (V d)) ∧ Below wr.heap.size wr W) := by
                refine fun W h => ⟨⟨?_, ?_, ?_, ?_⟩, h⟩ <;> (rw [cell_of_row _ _ _ _ _ _ ((h.block _ (heap_lt hg0)).trans hg0)]; rfl)
              have hb0 := Below.refl wr.heap.size wr
              go_cut [12, 13] (fun v7 v8 wx => ∃ g, v7 = .pointer (some ⟨g, 0, none⟩) ∧ v8 = .int .i64 0 ∧ Hid (wx.heap[g]? = some (.cells #[V x, V y, V z, V u] 24 (0, 0))) ∧ wr.heap.size ≤ g ∧ Below wr.heap.size wr wx)
              case first =>
                clear hg0 
                go_region_held3 (fun W => (W.cell? ⟨gs, 0, none⟩ = some (V a) ∧ W.cell? ⟨gs, 1, none⟩ = some (V b) ∧ W.cell? ⟨gs, 2, none⟩ = some (V c) ∧ W.cell? ⟨gs, 3, none⟩ = some (V d)) ∧ Below wr.heap.size wr W)
                  ((refine Hk.out _ ?_; (repeat (first | with_reducible assumption | with_reducible refine below_drew0 ?_ | with_reducible refine below_alloc0 ?_ _ | (refine Below.setCell ?_ (by first | assumption | (show wr.heap.size ≤ wr.heap.size; exact Nat.le_refl _)) _))); done))
                  (first
                    | (go_at_call 27; refine (CStep.out _ (below_drew0 (below_alloc0 hb0 _))).mono ?_; rintro e w1 ⟨rfl, k1⟩; have e0 := heap_kept k1 (heap_drew0 (heap_new' _ rfl)); have hbk := below_kept (below_drew0 (below_alloc0 hb0 _)) k1; have hz1 := Below.size hbk; have d0 : w1.cell? ⟨wr.heap.size, 0, none⟩ = some (.int .u32 0) := (cell_of_row _ _ _ _ _ _ e0); have d1 : w1.cell? ⟨wr.heap.size, 1, none⟩ = some (.int .u32 0) := (cell_of_row _ _ _ _ _ _ e0); have d2 : w1.cell? ⟨wr.heap.size, 2, none⟩ = some (.int .u32 0) := (cell_of_row _ _ _ _ _ _ e0); have d3 : w1.cell? ⟨wr.heap.size, 3, none⟩ = some (.int .u32 0) := (cell_of_row _ _ _ _ _ _ e0); have f0 : ∀ j, w1.frozen? ⟨wr.heap.size, j, none⟩ = false := (fun j => (by simp [World.frozen?, e0])); dsimp only)
                    | (go_at_call 27; refine (CStep.out _ (below_drew0 hb0)).mono ?_; rintro e w1 ⟨rfl, k1⟩; have hbk := below_kept (below_drew0 hb0) k1; have hz1 := Below.size hbk; dsimp only))
                all_goals (rename_i hS; have hBl := hS.2; clear hS)
                all_goals (go_wp2_with fail; go_meet)
                · exact ⟨w1.heap.size, rfl, rfl, heap_alloc_new _ _, hz1, hBl⟩
                · exact ⟨wr.heap.size, rfl, rfl, heap_setCell_same _ _ 3 _ _ _ (heap_setCell_same _ _ 2 _ _ _ (heap_setCell_same _ _ 1 _ _ _ (heap_setCell_same _ _ 0 _ _ _ e0))), Nat.le_refl _, hBl⟩
              case rest =>
              obtain ⟨g12, rfl, rfl, hg12, hge12, hB12⟩ := hcut
              clear Hk hb0
              have Hg0c := Lib.hid (heap_kept hB12 Hg0.out)
              have HB12 := Lib.hid (below_kept hK.out hB12)
              clear hB12 hge12 CStep Hg0 hgsl
              obtain ⟨w7, rfl⟩ : ∃ x, x = wc := ⟨_, rfl⟩
              go_wp2_with (first
                | ((refine wpList_load_row ?c0 24 (.tmp 12) ?c1 g12 ?c2 24 #[V x, V y, V z, V u] (0, 0) _ hg12.out Tryd.underlying24 ?c3 size4 ?_); (case c0 => with_reducible rfl); (case c1 => with_reducible rfl); (case c2 => rfl); (case c3 => rfl))
                | ((refine wpList_store_row ?c0 24 (.tmp 10) (.tmp 110) ?c1 gs #[V x, V y, V z, V u] ?c2 ?c3 _ _ Hg0c.out ?c4 ?c5 ?c6 ?_); (case c0 => with_reducible rfl); (case c1 => with_reducible rfl); (case c2 => rfl); (case c3 => rfl); (case c4 => exact size4); (case c5 => rfl); (case c6 => simp [Value.oneCell'])))
              go_roundw
              case rel =>
                refine ⟨n + 1, oe, by omega, by have h1 := Ho.out; have h2 := Hoe.out; omega, rfl, ?_, ?_⟩
                · exact below_setRow HB12.out (by rw [Hgs.out]; exact Nat.le_refl _) _
                · show _ = _
                  rw [Hnext.out]
                  exact setRow_heap _ _ _ _ _ _ Hg0c.out
              case measure =>
                have h2 := Hoe.out
                simp [intOf]
                omega
            · obtain rfl : n = nb := by omega
              have hoI : ¬ (o : Int) < ((64 * n : Nat) : Int) := by omega
              have hfin : fulls D n = allY D := by
                unfold allY
                rw [HDl.out, hN64, Nat.mul_div_cancel_left _ (by omega), Nat.mul_mod_right, if_neg (by omega), List.append_nil]
              rw [hfin] at hgs
              have hSum := HSum.out
              obtain ⟨st, hst⟩ : ∃ st, runB st0 (allY D) = st := ⟨_, rfl⟩
              rw [hst] at hgs hSum
              rw [hSum] at CS
              have hdl := dig_length st
              have Hone := Lib.hid (row_all' (dig st))
              have Hdl : Hid ((u8s (dig st)).toArray.size = 16) := by show _ = _; rw [List.size_toArray, u8s_length, hdl]
              have Hdz : Hid ((Tryd.prog.info? 30).map (·.size) = some (u8s (dig st)).toArray.size) := by show _ = _; rw [Hdl.out]; exact size16b
              obtain ⟨iu, hu0, hu1⟩ := info_u8
              have hdget : ∀ j : Nat, j < 16 → (dig st).getD j 0 = (((wrd st (j / 4)).toNat / 256 ^ (j % 4) % 256 : Nat) : Int) := fun j hj => by
                rw [List.getD_eq_getElem?_getD]
                unfold dig
                rw [List.getElem?_map, List.getElem?_range hj]
                rfl
              have hidA : ∀ j : Nat, j < 16 → ∀ W, (Instr.index 30 (.agg (u8s (dig st)).toArray) (.int .i64 (j : Int))).run Tryd.prog W = .ok (.int .u8 (((wrd st (j / 4)).toNat / 256 ^ (j % 4) % 256 : Nat) : Int)) W := fun j hj W => by
                rw [← hdget j hj]
                exact run_idx_agg 30 5 16 iu _ Tryd.underlying30 Tryd.underlying5 rfl hu0 hu1 _ j hj _ (by rw [List.getElem?_toArray]; exact u8s_get _ j (by rw [hdl]; exact hj)) W
              have HidA := Lib.hid hidA
              have HK := Lib.hid (below_kept HK05.out hK.out)
              have Hgr := hgs
              generalize (u8s (dig st)).toArray = LS at *
              clear hfin hSum hst HSum hdl hdget hidA hK hgs Hrd hoI HDb HDl hi hz0 hz1 hz2
              go_upto_region 28 with (first
                | (go_at_call 24; refine (CS.out _ HK.out).mono ?_; rintro e w8 ⟨rfl, k8⟩; have K8 := Lib.hid k8; clear k8)
                | ((refine wpList_store_row ?c0 30 (.tmp 14) (.tmp 112) ?c1 w8.heap.size LS ?c2 ?c3 _ _ (hnew _ rfl) ?c4 ?c5 ?c6 ?_); (case c0 => with_reducible rfl); (case c1 => with_reducible rfl); (case c2 => rfl); (case c3 => rfl); (case c4 => exact Hdz.out); (case c5 => exact Hdl.out.symm); (case c6 => exact Hone.out))
                | ((refine wpList_load_row ?c0 30 (.tmp 14) ?c1 w8.heap.size ?c2 30 LS (0, 0) _ (setRow_heap _ _ _ _ _ _ (hnew _ rfl)) Tryd.underlying30 ?c3 Hdz.out ?_); (case c0 => with_reducible rfl); (case c1 => with_reducible rfl); (case c2 => rfl); (case c3 => rfl)))
              have k9 : Kept w8 (World.setRow (w8.alloc (.cells z16 30)) w8.heap.size LS) := below_setRow ((Below.refl _ w8).alloc (Nat.le_refl _) _) (Nat.le_refl _) _
              obtain ⟨w9, hw9⟩ : ∃ x, x = World.setRow (w8.alloc (.cells z16 30)) w8.heap.size LS := ⟨_, rfl⟩
              rw [← hw9] at k9
              change Code.wp _ _ _ _ (World.setRow (w8.alloc (.cells z16 30)) w8.heap.size LS)
              rw [← hw9]
              clear hw9
              have HG := Lib.hid (heap_kept (below_kept K8.out k9) Hgr.out)
              have HK9 := Lib.hid (below_kept (below_kept HK.out K8.out) k9)
              obtain ⟨g14, hg14⟩ : ∃ g, g = w8.heap.size := ⟨_, rfl⟩
              rw [← hg14]
              clear hg14 k9 K8 HK Hgr CS Hdz Hone Hdl
              go_loopw [114] (fun i wr => ∃ j : Nat, j ≤ 16 ∧ i = .int .i64 j ∧ wr = w9) (fun i _ => 16 - (intOf i).toNat)
              case atStart => exact ⟨0, by omega, rfl, rfl⟩
              case round =>
                obtain ⟨j, hj, rfl, hwr⟩ := hrel
                obtain rfl : w9 = wr := hwr.symm
                by_cases hj16 : j < 16
                · have hjI : (j : Int) < 16 := by omega
                  obtain ⟨j4, hj4⟩ : ∃ x, j / 4 = x := ⟨_, rfl⟩
                  obtain ⟨r4, hr4⟩ : ∃ x, j % 4 = x := ⟨_, rfl⟩
                  have e1 : (j : Int) / 4 = (j4 : Int) := by omega
                  have e2 : (j : Int) % 4 = (r4 : Int) := by omega
                  have h44 : j4 < 4 := by omega
                  have hr44 : r4 < 4 := by omega
                  have hia := HidA.out j hj16
                  rw [hj4, hr4] at hia
                  obtain ⟨ww, hww⟩ : ∃ x, wrd st j4 = x := ⟨_, rfl⟩
                  rw [hww] at hia
                  have hcell : w9.cell? ⟨gs, j4, none⟩ = some (V ww) := by
                    rw [cell_of_row _ _ _ _ _ _ HG.out, ← hww]
                    rcases (by omega : j4 = 0 ∨ j4 = 1 ∨ j4 = 2 ∨ j4 = 3) with rfl | rfl | rfl | rfl <;> rfl
                  have hv : ((ww.toNat : Int) / 2 ^ (r4 * 8) % 256) = ((ww.toNat / 256 ^ r4 % 256 : Nat) : Int) := by
                    have : (256 : Nat) ^ r4 = 2 ^ (r4 * 8) := by rw [Nat.mul_comm, Nat.pow_mul]
                    rw [this]
                    simp
                  have hv2 : ((ww.toNat : Int) / 2 ^ (8 * r4) % 256) = ((ww.toNat / 256 ^ r4 % 256 : Nat) : Int) := by
                    rw [Nat.mul_comm 8 r4]
                    exact hv
                  generalize ww.toNat / 256 ^ r4 % 256 = dv at *
                  clear hww hj4 hr4
                  go_wp2_with fail
                  go_roundw
                  case rel => exact ⟨j + 1, by omega, by go_num, trivial⟩
                  case measure => simp [intOf]; omega
                · have hjI : ¬ (j : Int) < 16 := by omega
                  go_wp2_with (go_at_call 14; refine (awake_any _ (HT.out.below HK9.out)).mono ?_; rintro e w10 ⟨rfl, k10⟩; have K10 := Lib.hid (below_kept HK9.out k10); clear k10)
                  go_ret
                  exact ⟨rfl, K10.out⟩
end Go.Proofs.YtlgdbhebcglkoaaDoor
