/-
  What the reference of hashes computes: Step, Add, Last, Zeros.
-/
import Derived.Test.YtbjidgbohblmiaaHashM
namespace Go.Proofs.Ytbjidgbohblmiaa
open Go.RowKit

theorem xor_low (h b : Nat) (hb : b < 256) : h - h % 256 + (h % 256 ^^^ b) = h ^^^ b := by
  have h1 : (h ^^^ b) / 2 ^ 8 = h / 2 ^ 8 := by rw [Nat.xor_div_two_pow, Nat.div_eq_of_lt (by omega : b < 2 ^ 8), Nat.xor_zero]
  have h2 : (h ^^^ b) % 2 ^ 8 = h % 2 ^ 8 ^^^ b := by rw [Nat.xor_mod_two_pow, Nat.mod_eq_of_lt (by omega : b < 2 ^ 8)]
  have h3 : (2 : Nat) ^ 8 = 256 := by decide
  rw [h3] at h1 h2
  omega
theorem xor8_lt (a b : Nat) (ha : a < 256) (hb : b < 256) : a ^^^ b < 256 := Nat.xor_lt_two_pow (n := 8) ha hb
theorem refstep_any (h : BitVec 64) (b : Int) (b0 : 0 ≤ b) (b1 : b ≤ 255) (w : World) :
    Calls Try.prog 32 #[U h, .int .u8 b] w fun e w' => e = .returned (U (st h (B8 b))) ∧ w = w' := by
  obtain ⟨k, rfl⟩ := Int.eq_ofNat_of_zero_le b0
  have hk : k < 256 := by omega
  have hr : (h.toNat : Int) % 256 = ((h.toNat % 256 : Nat) : Int) := by omega
  obtain ⟨r, hr2⟩ : ∃ r, h.toNat % 256 = r := ⟨_, rfl⟩
  rw [hr2] at hr
  have hr3 : r < 256 := by omega
  have hx := u8_xor_nat r k hr3 hk
  obtain ⟨x, hx2⟩ : ∃ x, r ^^^ k = x := ⟨_, rfl⟩
  have hx3 : x < 256 := by rw [← hx2]; exact xor8_lt r k hr3 hk
  have hlow := xor_low h.toNat k hk
  rw [hr2, hx2] at hlow
  rw [hx2] at hx
  have hs : IntKind.u64.wrap ((h.toNat : Int) - (r : Int)) = (h.toNat : Int) - r := by rw [IntKind.wrap_u64]; have := toNat_lt h; omega
  have ha : IntKind.u64.wrap ((h.toNat : Int) - (r : Int) + (x : Int)) = ((h.toNat ^^^ k : Nat) : Int) := by
    rw [IntKind.wrap_u64, ← hlow]
    have h1 : h.toNat ^^^ k < 2 ^ 64 := Nat.xor_lt_two_pow h.isLt (by omega)
    rw [← hlow] at h1
    omega
  have hm : IntKind.u64.wrap (((h.toNat ^^^ k : Nat) : Int) * 1099511628211) = ((st h (B8 (k : Int))).toNat : Int) := by
    have e : ((h.toNat ^^^ k : Nat) : Int) = ((h ^^^ B8 (k : Int)).toNat : Int) := by
      rw [BitVec.toNat_xor, show (B8 (k : Int)).toNat = k from by have := b8_toNat b0 b1; omega]
    rw [e, ← pr_toNat, mul_u64]
    rfl
  generalize st h (B8 (k : Int)) = N at hm ⊢
  generalize ((h.toNat ^^^ k : Nat) : Int) = Y at ha hm
  clear hlow hr2 hx2
  go_enter Try.func32, Try.ntmps32
  go_wp2
  go_ret
  exact ⟨rfl, rfl⟩
theorem refstep8 (h : BitVec 64) (b : UInt8) (w : World) :
    Calls Try.prog 32 #[U h, .int .u8 (b.toNat : Int)] w fun e w' => e = .returned (U (st8 h b)) ∧ w = w' := refstep_any h _ (by omega) (u8_le b) w

theorem refadd_any (h : BitVec 64) (s : ByteArray) (hs : s.size ≤ 9223372036854775807) (w : World) :
    Calls Try.prog 28 #[U h, .string s] w fun e w' => e = .returned (U (addL h s.data.toList)) ∧ w = w' := by
  go_enter Try.func28, Try.ntmps28
  go_wp2_with fail
  go_loopw [0, 5] (fun v i wr => ∃ (k : Nat) (g : BitVec 64), k ≤ s.size ∧ i = .int .i64 k ∧ v = U g ∧ Hid (g = addL h (s.data.toList.take k)) ∧ w = wr) (fun _ i _ => s.size - (intOf i).toNat)
  case atStart => exact ⟨0, h, by omega, rfl, rfl, rfl, rfl⟩
  case round =>
    obtain ⟨k, g, hk, rfl, rfl, hg, rfl⟩ := hrel
    by_cases hks : k < s.size
    · have hst := refstep8 g s[k]
      have hg2 : Hid (st8 g s[k] = addL h (s.data.toList.take (k + 1))) := by
        show _ = _
        rw [take_snoc s k hks, addL_snoc, hg.out]
      go_wp2_with (go_at_call 32; refine (hst _).mono ?_; rintro e w' ⟨rfl, rfl⟩)
      go_roundw
      case rel => exact ⟨k + 1, _, by omega, by go_num, rfl, hg2, trivial⟩
      case measure => simp [intOf]; omega
    · obtain rfl : k = s.size := by omega
      rw [List.take_of_length_le (by simp)] at hg
      obtain rfl := hg.out
      go_wp2_with fail
      go_ret
      exact ⟨rfl, rfl⟩

def LastOk (a c : BitVec 64) (w : World) (e : Ending) (w' : World) : Prop :=
  (((lst a c).toNat : Int) ≤ 255 ∧ e = .returned (.tuple #[.int .u8 ((lst a c).toNat : Int), .int .i64 0]) ∨ ¬ ((lst a c).toNat : Int) ≤ 255 ∧ e = .returned (.tuple #[.int .u8 0, .int .i64 6])) ∧ w = w'
theorem lst_of_st {a c : BitVec 64} {k : Int} (h : st a (B8 k) = c) : lst a c = B8 k := by
  rw [← h]
  unfold lst st
  rw [BitVec.mul_assoc, pr_pi, BitVec.mul_one, BitVec.xor_comm, ← BitVec.xor_assoc, BitVec.xor_self, BitVec.zero_xor]
theorem reflast_any (a c : BitVec 64) (w : World) : Calls Try.prog 33 #[U a, U c] w (LastOk a c w) := by
  go_enter Try.func33, Try.ntmps33
  go_wp2_with fail
  have hlim : (256 : Int) ≤ 256 := by omega
  go_loopw [6] (fun i wr => ∃ (k : Nat), k ≤ 256 ∧ i = .int .i64 k ∧ Hid (∀ j, j < k → st a (B8 (j : Int)) ≠ c) ∧ w = wr) (fun i _ => 256 - (intOf i).toNat)
  case atStart => exact ⟨0, by omega, rfl, fun j hj => absurd hj (by omega), rfl⟩
  case round =>
    obtain ⟨k, hk, rfl, hno, rfl⟩ := hrel
    by_cases hks : k < 256
    · have hst := refstep_any a (k : Int) (by omega) (by omega)
      have hki : (k : Int) < 256 := by omega
      by_cases he : st a (B8 (k : Int)) = c
      · have hl := lst_of_st he
        have hbk := b8_toNat (b := (k : Int)) (by omega) (by omega)
        rw [he] at hst
        have Hl := Lib.hid hl
        have Hbk := Lib.hid hbk
        clear he hl hbk
        go_wp2_with (go_at_call 32; refine (hst _).mono ?_; rintro e w' ⟨rfl, rfl⟩)
        go_ret2
        exact ⟨.inl ⟨by rw [Hl.out, Hbk.out]; omega, by rw [Hl.out, Hbk.out]; rfl⟩, rfl⟩
      · have hne : (((st a (B8 (k : Int))).toNat : Int) == (c.toNat : Int)) = false := by rw [beq_U, decide_eq_false he]
        have He : Hid (∀ j, j < k + 1 → st a (B8 (j : Int)) ≠ c) := fun j hj => by
          rcases Nat.lt_or_ge j k with h | h
          · exact hno.out j h
          · obtain rfl : j = k := by omega
            exact he
        clear he
        generalize st a (B8 (k : Int)) = g at hst hne
        go_wp2_with (go_at_call 32; refine (hst _).mono ?_; rintro e w' ⟨rfl, rfl⟩)
        go_roundw
        case rel => exact ⟨k + 1, by omega, by go_num, He, trivial⟩
        case measure => simp [intOf]; omega
    · obtain rfl : k = 256 := by omega
      go_wp2_with fail
      go_ret2
      refine ⟨.inr ⟨fun h => ?_, rfl⟩, rfl⟩
      refine hno.out (lst a c).toNat (by omega) ?_
      rw [show B8 ((lst a c).toNat : Int) = lst a c from ofInt_toNat _, st_lst]

theorem refzeros_no (h : BitVec 64) (n : Int) (hn : n < 0) (w : World) :
    Calls Try.prog 30 #[U h, .int .i64 n] w fun e w' => e = .returned (.tuple #[.int .u64 0, .int .i64 2]) ∧ w = w' := by
  go_enter Try.func30, Try.ntmps30
  go_wp2_with fail
  go_ret2
  exact ⟨rfl, rfl⟩
theorem pow_step (m k : Nat) (h : k % 2 = 1) : m + (m + m) * (k / 2) = m * k := by
  have e : k = 2 * (k / 2) + 1 := by omega
  generalize k / 2 = q at e ⊢
  subst e
  rw [Nat.mul_add, Nat.mul_one, ← Nat.mul_assoc, Nat.mul_two, Nat.add_comm]
theorem pow_step0 (m k : Nat) (h : k % 2 = 0) : (m + m) * (k / 2) = m * k := by
  have e : k = 2 * (k / 2) := by omega
  generalize k / 2 = q at e ⊢
  subst e
  rw [← Nat.mul_assoc, Nat.mul_two]
theorem refzeros_yes (h : BitVec 64) (n : Nat) (hn : n ≤ 9223372036854775807) (w : World) :
    Calls Try.prog 30 #[U h, .int .i64 (n : Int)] w fun e w' => e = .returned (.tuple #[U (h * pw n), .int .i64 0]) ∧ w = w' := by
  have hpr : (1099511628211 : Int) = (Pr.toNat : Int) := pr_toNat.symm
  go_enter Try.func30, Try.ntmps30
  go_wp2_with fail
  go_loopw [0, 1, 6] (fun v i b wr => ∃ (k m : Nat) (g p : BitVec 64), k ≤ n ∧ i = .int .i64 k ∧ v = U g ∧ b = U p ∧ Hid (p = pw m) ∧ Hid (g * pw (m * k) = h * pw n) ∧ w = wr) (fun _ i _ _ => (intOf i).toNat)
  case atStart => exact ⟨n, 1, h, Pr, by omega, rfl, rfl, congrArg (Value.int .u64) hpr, by show Pr = pw 0 * Pr; exact (BitVec.one_mul Pr).symm, by show _ = _; rw [Nat.one_mul], rfl⟩
  case round =>
    obtain ⟨k, m, g, p, hk, rfl, rfl, rfl, hp, hg, rfl⟩ := hrel
    clear hpr
    by_cases hks : 0 < k
    · have hk0 : (0 : Int) < k := by omega
      obtain ⟨q, hq⟩ : ∃ q, k / 2 = q := ⟨_, rfl⟩
      have hd : (k : Int) / 2 = (q : Int) := by omega
      have hw := mul_u64 p p
      have Hp : Hid (p * p = pw (m + m)) := by show _ = _; rw [pw_add, hp.out]
      generalize p * p = p2 at hw Hp
      by_cases h2 : k % 2 = 1
      · have e1 : ((k : Int) % 2 == 1) = true := by simp; omega
        have hv := mul_u64 g p
        have Hg : Hid (g * p * pw ((m + m) * q) = h * pw n) := by
          show _ = _
          rw [← hg.out, ← pow_step m k h2, hq, pw_add, hp.out, BitVec.mul_assoc]
        generalize g * p = g2 at hv Hg
        clear h2 hq
        go_wp2_with fail
        go_roundw
        case rel => exact ⟨q, m + m, g2, p2, by omega, rfl, rfl, rfl, Hp, Hg, trivial⟩
        case measure => simp [intOf]; omega
      · have e1 : ((k : Int) % 2 == 1) = false := by rw [beq_eq_false_iff_ne]; omega
        have Hg : Hid (g * pw ((m + m) * q) = h * pw n) := by
          show _ = _
          rw [← hg.out, ← pow_step0 m k (by omega), hq]
        clear h2 hq
        go_wp2_with fail
        go_roundw
        case rel => exact ⟨q, m + m, g, p2, by omega, rfl, rfl, rfl, Hp, Hg, trivial⟩
        case measure => simp [intOf]; omega
    · obtain rfl : k = 0 := by omega
      have e : g = h * pw n := by have := hg.out; rw [Nat.mul_zero] at this; rw [← this]; exact (BitVec.mul_one g).symm
      have He := Lib.hid e
      clear hg hp e
      go_wp2_with fail
      go_ret2
      exact ⟨by rw [← He.out]; rfl, rfl⟩
end Go.Proofs.Ytbjidgbohblmiaa
