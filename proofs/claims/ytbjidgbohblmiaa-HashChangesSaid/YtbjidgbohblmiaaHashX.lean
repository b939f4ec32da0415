/-
  Small words for the statements of package hash: strings of one byte.
-/
import Derived.Test.YtbjidgbohblmiaaHashW
import Derived.Test.YtbjidgbohblmiaaHashM
namespace Go.Proofs.Ytbjidgbohblmiaa
open Go.RowKit
/-- A string of one byte. -/
theorem conv1 (W : World) (v : Int) : (convert 30 9 (.slice (some ⟨W.heap.size, 0, none⟩) 1 1)).run Try.prog (W.alloc (.cells #[.int .u8 v] 5)) = .ok (.string (strOfNums [v])) (W.alloc (.cells #[.int .u8 v] 5)) :=
  conv_rd (W.alloc (.cells #[.int .u8 v] 5)) (W.heap.size + 1) W.heap.size 1 1 [v] ⟨rfl, fun _ => ⟨_, rfl, Nat.lt_succ_self _, cells_new W (u8s [v]) 5⟩⟩
theorem byteOf (b : Int) (b0 : 0 ≤ b) (b1 : b ≤ 255) : ∃ c : UInt8, (c.toNat : Int) = b ∧ (strOfNums [b]).data.toList = [c] := by
  refine ⟨UInt8.ofNat b.toNat, ?_, rfl⟩
  rw [UInt8.toNat_ofNat', Nat.mod_eq_of_lt (by omega)]
  omega
theorem add1 (h : BitVec 64) (b : Int) (b0 : 0 ≤ b) (b1 : b ≤ 255) (w : World) :
    Calls Try.prog 18 #[U h, .string (strOfNums [b])] w fun e w' => e = .returned (U (st h (B8 b))) ∧ Below w.heap.size w w' := by
  obtain ⟨c, hc, hl⟩ := byteOf b b0 b1
  have := add_any h (strOfNums [b]) (by rw [strOfNums_size]; simp) w
  have e : addL h [c] = st h (B8 c.toNat) := rfl
  rw [hl, e, hc] at this
  exact this
theorem lst_st' (a : BitVec 64) (b : Int) : lst a (st a (B8 b)) = B8 b := by
  unfold lst st
  rw [BitVec.mul_assoc, pr_pi, BitVec.mul_one, BitVec.xor_comm, ← BitVec.xor_assoc, BitVec.xor_self, BitVec.zero_xor]
theorem toBV {x : Int} (h : 0 ≤ x ∧ x ≤ 18446744073709551615) : ∃ b : BitVec 64, x = (b.toNat : Int) := ⟨BitVec.ofInt 64 x, (toNat_ofInt x h.1 (by omega)).symm⟩
end Go.Proofs.Ytbjidgbohblmiaa
