/-
  Words of 32 bits as bit vectors, and what mix of package md5 and bits.RotateLeft32 compute.
-/
import Derived.Laws.BitsAllLaws
import Derived.Test.YtlgdbhebcglkoaaDoorProg
import Derived.WalkKit
import Derived.ProofKit
namespace Go.Proofs.YtlgdbhebcglkoaaDoor
open Go.RowKit
/-- A word as a value. -/
abbrev V (h : BitVec 32) : Value := .int .u32 (h.toNat : Int)
theorem v_lt (h : BitVec 32) : (h.toNat : Int) < 4294967296 := by have := h.isLt; omega
theorem and_v (a b : BitVec 32) : bits .and .u32 (a.toNat : Int) (b.toNat : Int) = ((a &&& b).toNat : Int) := by
  rw [u32_and_nat _ _ a.isLt b.isLt, BitVec.toNat_and]
theorem or_v (a b : BitVec 32) : bits .or .u32 (a.toNat : Int) (b.toNat : Int) = ((a ||| b).toNat : Int) := by
  rw [u32_or_nat _ _ a.isLt b.isLt, BitVec.toNat_or]
theorem xor_v (a b : BitVec 32) : bits .xor .u32 (a.toNat : Int) (b.toNat : Int) = ((a ^^^ b).toNat : Int) := by
  rw [u32_xor_nat _ _ a.isLt b.isLt, BitVec.toNat_xor]
theorem add_v (a b : BitVec 32) : IntKind.u32.wrap ((a.toNat : Int) + (b.toNat : Int)) = ((a + b).toNat : Int) := by
  rw [IntKind.wrap_u32, BitVec.toNat_add]
  omega
theorem v_inj {a b : BitVec 32} (h : (a.toNat : Int) = (b.toNat : Int)) : a = b := BitVec.eq_of_toNat_eq (by omega)
theorem not_v (a : BitVec 32) : bits .xor .u32 IntKind.u32.max (a.toNat : Int) = ((~~~a).toNat : Int) := by
  rw [show IntKind.u32.max = (((4294967295#32 : BitVec 32).toNat : Nat) : Int) from rfl, xor_v]
  congr 2
/-- F and g of a turn. -/
def mF (i : Nat) (b c d : BitVec 32) : BitVec 32 :=
  if i < 16 then (b &&& c) ||| (~~~b &&& d) else if i < 32 then (d &&& b) ||| (~~~d &&& c) else if i < 48 then b ^^^ c ^^^ d else c ^^^ (b ||| ~~~d)
def mG (i : Nat) : Nat := if i < 16 then i else if i < 32 then (5 * i + 1) % 16 else if i < 48 then (3 * i + 5) % 16 else 7 * i % 16
theorem mG_lt (i : Nat) (h : i < 64) : mG i < 16 := by unfold mG; split <;> (try split) <;> (try split) <;> omega
theorem tup2 {a b : BitVec 32} {x y : Int} (h : a = b) (g : x = y) : Ending.returned (.tuple #[V a, .int .i64 x]) = .returned (.tuple #[V b, .int .i64 y]) := by rw [h, g]
theorem mix_any (i : Nat) (hi : i < 64) (b c d : BitVec 32) (w : World) :
    Calls Tryd.prog 48 #[.int .i64 (i : Int), V b, V c, V d] w fun e w' => e = .returned (.tuple #[V (mF i b c d), .int .i64 (mG i : Int)]) ∧ w = w' := by
  rcases (by omega : i < 16 ∨ (16 ≤ i ∧ i < 32) ∨ (32 ≤ i ∧ i < 48) ∨ (48 ≤ i ∧ i < 64)) with hF | hF | hF | hF
  · have h0 : ((i : Int) / 16 == 0) = true := by rw [beq_iff_eq]; omega
    go_enter Tryd.func48, Tryd.ntmps48
    go_wp2_with fail
    go_ret2
    refine ⟨?_, rfl⟩
    simp only [not_v, and_v, or_v, xor_v]
    exact tup2 (by rw [mF, if_pos hF]) (by rw [mG, if_pos hF])
  · have h0 : ((i : Int) / 16 == 0) = false := by rw [beq_eq_false_iff_ne]; omega
    have h1 : ((i : Int) / 16 == 1) = true := by rw [beq_iff_eq]; omega
    go_enter Tryd.func48, Tryd.ntmps48
    go_wp2_with fail
    go_ret2
    refine ⟨?_, rfl⟩
    simp only [not_v, and_v, or_v, xor_v]
    exact tup2 (by rw [mF, if_neg (by omega), if_pos hF.2]) (by rw [mG, if_neg (by omega), if_pos hF.2]; omega)
  · have h0 : ((i : Int) / 16 == 0) = false := by rw [beq_eq_false_iff_ne]; omega
    have h1 : ((i : Int) / 16 == 1) = false := by rw [beq_eq_false_iff_ne]; omega
    have h2 : ((i : Int) / 16 == 2) = true := by rw [beq_iff_eq]; omega
    go_enter Tryd.func48, Tryd.ntmps48
    go_wp2_with fail
    go_ret2
    refine ⟨?_, rfl⟩
    simp only [not_v, and_v, or_v, xor_v]
    exact tup2 (by rw [mF, if_neg (by omega), if_neg (by omega), if_pos hF.2]) (by rw [mG, if_neg (by omega), if_neg (by omega), if_pos hF.2]; omega)
  · have h0 : ((i : Int) / 16 == 0) = false := by rw [beq_eq_false_iff_ne]; omega
    have h1 : ((i : Int) / 16 == 1) = false := by rw [beq_eq_false_iff_ne]; omega
    have h2 : ((i : Int) / 16 == 2) = false := by rw [beq_eq_false_iff_ne]; omega
    go_enter Tryd.func48, Tryd.ntmps48
    go_wp2_with fail
    go_ret2
    refine ⟨?_, rfl⟩
    simp only [not_v, and_v, or_v, xor_v]
    exact tup2 (by rw [mF, if_neg (by omega), if_neg (by omega), if_neg (by omega)]) (by rw [mG, if_neg (by omega), if_neg (by omega), if_neg (by omega)]; omega)
/-- To rotate a word. -/
def rotl (t r : Nat) : Nat := t % 2 ^ (32 - r) * 2 ^ r + t / 2 ^ (32 - r)
theorem pow_split (r : Nat) (hr : r ≤ 32) : 2 ^ (32 - r) * 2 ^ r = 4294967296 := by rw [← Nat.pow_add, Nat.sub_add_cancel hr]
theorem rotl_lt (t r : Nat) (hr : r ≤ 32) (ht : t < 4294967296) : rotl t r < 4294967296 := by
  have h1 := pow_split r hr
  have h2 : t % 2 ^ (32 - r) < 2 ^ (32 - r) := Nat.mod_lt _ (Nat.pow_pos (by omega))
  have h3 : t / 2 ^ (32 - r) < 2 ^ r := by
    rw [Nat.div_lt_iff_lt_mul (Nat.pow_pos (by omega)), Nat.mul_comm]; omega
  unfold rotl
  generalize t % 2 ^ (32 - r) = q at *
  generalize t / 2 ^ (32 - r) = p at *
  generalize 2 ^ (32 - r) = A at *
  generalize 2 ^ r = B at *
  have h4 : (q + 1) * B ≤ A * B := Nat.mul_le_mul_right _ h2
  rw [Nat.succ_mul] at h4
  omega
def rot (t : BitVec 32) (r : Nat) : BitVec 32 := BitVec.ofNat 32 (rotl t.toNat r)
theorem rot_toNat (t : BitVec 32) (r : Nat) (hr : r ≤ 32) : (rot t r).toNat = rotl t.toNat r := by
  unfold rot
  rw [BitVec.toNat_ofNat, Nat.mod_eq_of_lt (rotl_lt _ _ hr t.isLt)]
theorem rot_or (t : BitVec 32) (r : Nat) (hr : r ≤ 32) : bits .or .u32 ((t.toNat : Int) * 2 ^ r % 4294967296) ((t.toNat : Int) / 2 ^ (32 - r)) = ((rot t r).toNat : Int) := by
  have ht := t.isLt
  rw [rot_toNat t r hr]
  generalize t.toNat = t at *
  have h1 := pow_split r hr
  have e1 : (t : Int) * 2 ^ r % 4294967296 = ((t * 2 ^ r % 4294967296 : Nat) : Int) := by simp
  have e2 : (t : Int) / 2 ^ (32 - r) = ((t / 2 ^ (32 - r) : Nat) : Int) := by simp
  have h3 : t / 2 ^ (32 - r) < 2 ^ r := by
    rw [Nat.div_lt_iff_lt_mul (Nat.pow_pos (by omega)), Nat.mul_comm]; omega
  have h5 : 2 ^ r ≤ 4294967296 := by
    have := Nat.pow_le_pow_right (n := 2) (by omega) hr
    exact this
  rw [e1, e2, u32_or_nat _ _ (Nat.mod_lt _ (by omega)) (by omega)]
  congr 1
  rw [← h1, Nat.mul_mod_mul_right, nat_join r _ _ (Nat.mul_mod_left _ _) h3]
  rfl
theorem rot_any (t : BitVec 32) (r : Nat) (hr : r < 32) (w : World) :
    Calls Tryd.prog 49 #[V t, .int .i64 (r : Int)] w fun e w' => e = .returned (V (rot t r)) ∧ w = w' := by
  have he : bits .and .u64 (r : Int) 31 = (r : Int) := by
    have := u64_and_nat r 31 (by omega) (by omega)
    rw [nat_mask5, Nat.mod_eq_of_lt hr] at this
    exact this
  have hs : (32 - (r : Int)).toNat = 32 - r := by omega
  have ho := rot_or t r (by omega)
  go_enter Tryd.func49, Tryd.ntmps49
  go_wp2_with fail
  go_ret
  exact ⟨rfl, rfl⟩
/-- To rotate by one, as often as is told. -/
theorem rotl_zero (t : Nat) (ht : t < 4294967296) : rotl t 0 = t := by
  unfold rotl
  simp
  omega
theorem rotl_succ (t r : Nat) (hr : r < 32) (ht : t < 4294967296) : rotl t r * 2 % 4294967296 + rotl t r / 2147483648 = rotl t (r + 1) := by
  have h1 := pow_split (r + 1) (by omega)
  unfold rotl
  have ea : 2 ^ (32 - r) = 2 ^ (32 - (r + 1)) * 2 := by rw [← Nat.pow_succ]; congr 1; omega
  have eb : 2 ^ (r + 1) = 2 ^ r * 2 := Nat.pow_succ ..
  rw [ea, eb, Nat.mod_mul, ← Nat.div_div_eq_div_mul]
  rw [eb] at h1
  have hA : 0 < 2 ^ (32 - (r + 1)) := Nat.pow_pos (by omega)
  generalize 2 ^ (32 - (r + 1)) = A at *
  generalize 2 ^ r = B at *
  have h2 : t % A < A := Nat.mod_lt _ hA
  have h3 : t / A < B * 2 := by rw [Nat.div_lt_iff_lt_mul hA, Nat.mul_comm]; omega
  generalize t % A = q at *
  generalize t / A = u at *
  have h4 : (q + 1) * B ≤ A * B := Nat.mul_le_mul_right _ h2
  have h5 : A * (B * 2) = A * B * 2 := (Nat.mul_assoc ..).symm
  have h6 : (q + A * (u % 2)) * B = q * B + u % 2 * (A * B) := by
    rw [Nat.add_mul, Nat.mul_right_comm, Nat.mul_comm (A * B)]
  have h7 : q * (B * 2) = q * B * 2 := (Nat.mul_assoc ..).symm
  rw [h6, h7]
  rw [Nat.succ_mul] at h4
  generalize q * B = m at *
  rw [h5] at h1
  generalize A * B = M at *
  obtain rfl : M = 2147483648 := by omega
  omega
end Go.Proofs.YtlgdbhebcglkoaaDoor
