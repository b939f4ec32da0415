/-
  What the small functions of package hash compute: step, Modulo, Last.
-/
import Derived.Test.YtbjidgbohblmiaaProg
import Derived.Test.YtbjidgbohblmiaaBits
import Derived.WalkKit
import Derived.ProofKit
namespace Go.Proofs.Ytbjidgbohblmiaa
open Go.RowKit
/-- The chapter's Prime, and what undoes a product with it. -/
def Pr : BitVec 64 := 1099511628211#64
def Pi : BitVec 64 := 14886173955864302971#64
theorem pr_pi : Pr * Pi = 1#64 := by decide
/-- A step. -/
def st (h b : BitVec 64) : BitVec 64 := (h ^^^ b) * Pr
/-- A byte as a number of 64 bits. -/
abbrev B8 (b : Int) : BitVec 64 := BitVec.ofInt 64 b

theorem b8_toNat {b : Int} (b0 : 0 ≤ b) (b1 : b ≤ 255) : ((B8 b).toNat : Int) = b := toNat_ofInt b b0 (by omega)
theorem pr_toNat : ((Pr.toNat : Nat) : Int) = 1099511628211 := by decide
theorem pi_toNat : ((Pi.toNat : Nat) : Int) = 14886173955864302971 := by decide
theorem st_wrap (h : BitVec 64) {b : Int} (b0 : 0 ≤ b) (b1 : b ≤ 255) : IntKind.u64.wrap (bits .xor .u64 (h.toNat : Int) b * 1099511628211) = ((st h (B8 b)).toNat : Int) := by
  have e := xor_u64 h (B8 b)
  rw [b8_toNat b0 b1] at e
  rw [e, ← pr_toNat, mul_u64]
  rfl

theorem step_any (h : BitVec 64) (b : Int) (b0 : 0 ≤ b) (b1 : b ≤ 255) (w : World) :
    Calls Try.prog 36 #[U h, .int .u8 b] w fun e w' => e = .returned (U (st h (B8 b))) ∧ w = w' := by
  have hw := st_wrap h b0 b1
  go_enter Try.func36, Try.ntmps36
  go_wp2
  go_ret
  exact ⟨rfl, rfl⟩

/-- What leads from one hash to another one, if it is a byte. -/
def lst (a b : BitVec 64) : BitVec 64 := b * Pi ^^^ a
theorem lst_wrap (a b : BitVec 64) : bits .xor .u64 (IntKind.u64.wrap ((b.toNat : Int) * 14886173955864302971)) (a.toNat : Int) = ((lst a b).toNat : Int) := by
  rw [← pi_toNat, mul_u64, xor_u64]
  rfl
theorem last_yes (a b : BitVec 64) (h : ((lst a b).toNat : Int) ≤ 255) (w : World) :
    Calls Try.prog 23 #[U a, U b] w fun e w' => e = .returned (.tuple #[.int .u8 ((lst a b).toNat : Int), .int .i64 0]) ∧ w = w' := by
  have hw := lst_wrap a b
  have h0' : 0 ≤ ((lst a b).toNat : Int) := by omega
  generalize ((lst a b).toNat : Int) = x at hw h h0' ⊢
  go_enter Try.func23, Try.ntmps23
  go_wp2
  go_ret2
  exact ⟨rfl, rfl⟩
theorem last_no (a b : BitVec 64) (h : ¬ ((lst a b).toNat : Int) ≤ 255) (w : World) :
    Calls Try.prog 23 #[U a, U b] w fun e w' => e = .returned (.tuple #[.int .u8 0, .int .i64 6]) ∧ w = w' := by
  have hw := lst_wrap a b
  generalize ((lst a b).toNat : Int) = x at hw h
  have h1 : 255 < x := by omega
  go_enter Try.func23, Try.ntmps23
  go_wp2
  go_ret2
  exact ⟨rfl, rfl⟩
theorem modulo_no (a : BitVec 64) (n : Int) (h : n < 1) (w : World) :
    Calls Try.prog 26 #[U a, .int .i64 n] w fun e w' => e = .returned (.tuple #[.int .i64 0, .int .i64 2]) ∧ w = w' := by
  go_enter Try.func26, Try.ntmps26
  go_wp2
  go_ret2
  exact ⟨rfl, rfl⟩
theorem modulo_yes (a : BitVec 64) (n : Int) (h : 1 ≤ n) (h2 : n ≤ 9223372036854775807) (w : World) :
    Calls Try.prog 26 #[U a, .int .i64 n] w fun e w' => e = .returned (.tuple #[.int .i64 ((a.toNat : Int) % n), .int .i64 0]) ∧ w = w' := by
  have h3 : ¬ n = 0 := by omega
  have hw : wrap64 ((a.toNat : Int) % n) = (a.toNat : Int) % n := by
    have h4 := Int.emod_nonneg (a.toNat : Int) h3
    have h5 := Int.emod_lt_of_pos (a.toNat : Int) (by omega : 0 < n)
    unfold wrap64; omega
  go_enter Try.func26, Try.ntmps26
  go_wp2
  go_ret2
  exact ⟨congrArg (fun x => Ending.returned (.tuple #[.int .i64 x, .int .i64 0])) hw, rfl⟩
end Go.Proofs.Ytbjidgbohblmiaa
