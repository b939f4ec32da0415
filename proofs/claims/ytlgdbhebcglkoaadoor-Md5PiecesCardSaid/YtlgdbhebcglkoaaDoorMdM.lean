/-
  MD5 as plain mathematics: turns, steps, paddings, digests.
-/
import Derived.Test.YtlgdbhebcglkoaaDoorMdA
namespace Go.Proofs.YtlgdbhebcglkoaaDoor
open Go.RowKit
/-- A state: four words. -/
abbrev St := BitVec 32 × BitVec 32 × BitVec 32 × BitVec 32
def vals (s : St) : Array Value := #[V s.1, V s.2.1, V s.2.2.1, V s.2.2.2]
def Kl : List Nat := [3614090360, 3905402710, 606105819, 3250441966, 4118548399, 1200080426, 2821735955, 4249261313, 1770035416, 2336552879, 4294925233, 2304563134, 1804603682, 4254626195, 2792965006, 1236535329, 4129170786, 3225465664, 643717713, 3921069994, 3593408605, 38016083, 3634488961, 3889429448, 568446438, 3275163606, 4107603335, 1163531501, 2850285829, 4243563512, 1735328473, 2368359562, 4294588738, 2272392833, 1839030562, 4259657740, 2763975236, 1272893353, 4139469664, 3200236656, 681279174, 3936430074, 3572445317, 76029189, 3654602809, 3873151461, 530742520, 3299628645, 4096336452, 1126891415, 2878612391, 4237533241, 1700485571, 2399980690, 4293915773, 2240044497, 1873313359, 4264355552, 2734768916, 1309151649, 4149444226, 3174756917, 718787259, 3951481745]
def Rl : List Nat := [7, 12, 17, 22, 5, 9, 14, 20, 4, 11, 16, 23, 6, 10, 15, 21]
def mK (i : Nat) : BitVec 32 := BitVec.ofNat 32 (Kl.getD i 0)
def mR (i : Nat) : Nat := Rl.getD (i / 16 * 4 + i % 4) 0
theorem mR_lt (i : Nat) : mR i < 32 := by
  unfold mR
  rw [List.getD_eq_getElem?_getD]
  rcases h : Rl[i / 16 * 4 + i % 4]? with _ | r
  · simp
  · have hm := List.mem_of_getElem? h
    have : ∀ r ∈ Rl, r < 32 := by decide
    exact this r hm
/-- A word of a block: four bytes, the lowest one first. -/
def wdN (l : List Int) (g n : Nat) : Nat := ((List.range n).map fun t => (l.getD (4 * g + t) 0).toNat * 256 ^ t).sum
def wd (l : List Int) (g : Nat) : BitVec 32 := BitVec.ofNat 32 (wdN l g 4)
/-- A turn, and the first n turns. -/
def turn (l : List Int) (i : Nat) (s : St) : St := (s.2.2.2, s.2.1 + rot (s.1 + mF i s.2.1 s.2.2.1 s.2.2.2 + mK i + wd l (mG i)) (mR i), s.2.1, s.2.2.1)
def turnsL (l : List Int) : Nat → St → St
  | 0, s => s
  | n + 1, s => turn l n (turnsL l n s)
/-- The sum of two states, and a step. -/
def addS (s t : St) : St := (s.1 + t.1, s.2.1 + t.2.1, s.2.2.1 + t.2.2.1, s.2.2.2 + t.2.2.2)
def stp (s : St) (l : List Int) : St := addS s (turnsL l 64 s)
theorem wdN_zero (l : List Int) (g : Nat) : wdN l g 0 = 0 := rfl
theorem wdN_succ (l : List Int) (g n : Nat) : wdN l g (n + 1) = wdN l g n + (l.getD (4 * g + n) 0).toNat * 256 ^ n := by
  unfold wdN
  rw [List.range_succ, List.map_append, List.sum_append]
  simp
def Bts (l : List Int) : Prop := ∀ c ∈ l, 0 ≤ c ∧ c ≤ 255
theorem Bts.getD {l : List Int} (h : Bts l) (i : Nat) : 0 ≤ l.getD i 0 ∧ l.getD i 0 ≤ 255 := by
  rw [List.getD_eq_getElem?_getD]
  rcases hi : l[i]? with _ | r
  · simp
  · exact h r (List.mem_of_getElem? hi)
theorem wdN_lt (l : List Int) (h : Bts l) (g n : Nat) : wdN l g n < 256 ^ n := by
  induction n with
  | zero => simp [wdN_zero]
  | succ n ih =>
    rw [wdN_succ, Nat.pow_succ]
    have h1 := h.getD (4 * g + n)
    have h2 : (l.getD (4 * g + n) 0).toNat * 256 ^ n ≤ 255 * 256 ^ n := Nat.mul_le_mul_right _ (by omega)
    omega
theorem wd_toNat (l : List Int) (h : Bts l) (g : Nat) : (wd l g).toNat = wdN l g 4 := by
  have := wdN_lt l h g 4
  unfold wd
  rw [BitVec.toNat_ofNat, Nat.mod_eq_of_lt (by omega)]
end Go.Proofs.YtlgdbhebcglkoaaDoor
