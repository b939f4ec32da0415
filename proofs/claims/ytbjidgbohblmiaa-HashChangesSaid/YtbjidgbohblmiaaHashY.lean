/-
  Mathematics of the parts of a list of which one string differs in one byte.
-/
import Derived.Test.YtbjidgbohblmiaaHashP
import Derived.Test.YtbjidgbohblmiaaHashX
namespace Go.Proofs.Ytbjidgbohblmiaa
open Go.RowKit
theorem st_inj {g h : BitVec 64} {b : BitVec 64} (e : st g b = st h b) : g = h := by
  have e1 : st g b * Pi ^^^ b = st h b * Pi ^^^ b := by rw [e]
  unfold st at e1
  rw [BitVec.mul_assoc, BitVec.mul_assoc, pr_pi, BitVec.mul_one, BitVec.mul_one, BitVec.xor_assoc, BitVec.xor_assoc, BitVec.xor_self, BitVec.xor_zero, BitVec.xor_zero] at e1
  exact e1
theorem lenK_inj {g h : BitVec 64} {n : Nat} (k : Nat) (e : lenK g n k = lenK h n k) : g = h := by
  induction k with
  | zero => exact e
  | succ k ih => exact ih (st_inj e)
theorem partS_inj {g h : BitVec 64} {s : ByteArray} (e : partS g s = partS h s) : g = h := lenK_inj 8 (addL_inj e)
theorem foldP_inj (l : List ByteArray) {g h : BitVec 64} (e : l.foldl partS g = l.foldl partS h) : g = h := by
  induction l generalizing g h with
  | nil => exact e
  | cons s l ih => exact partS_inj (ih e)
/-- One byte of a string replaced. -/
def putB (s : ByteArray) (k : Nat) (c : UInt8) : ByteArray := ⟨(s.data.toList.set k c).toArray⟩
theorem putB_size (s : ByteArray) (k : Nat) (c : UInt8) : (putB s k c).size = s.size := by
  show ((s.data.toList.set k c).toArray).size = s.data.size
  rw [List.size_toArray, List.length_set, Array.length_toList]
theorem putB_list (s : ByteArray) (k : Nat) (c : UInt8) : (putB s k c).data.toList = s.data.toList.set k c := rfl
theorem putB_bys (s : ByteArray) (k : Nat) (c : UInt8) (j : Nat) (hj : j < s.size) : (bys (putB s k c))[j]? = some (if j = k then (c.toNat : Int) else (s[j].toNat : Int)) := by
  unfold bys
  rw [putB_list, List.getElem?_map, List.getElem?_set]
  have hl : j < s.data.toList.length := by simpa using hj
  by_cases e : j = k
  · subst e
    rw [if_pos rfl, if_pos hl, if_pos rfl]; rfl
  · rw [if_neg (Ne.symm e), if_neg e, List.getElem?_eq_getElem hl]; rfl
theorem addL_put (h : BitVec 64) (s : ByteArray) (k : Nat) (hk : k < s.size) (c : UInt8) (hc : c ≠ s[k]) : addL h s.data.toList ≠ addL h (putB s k c).data.toList := by
  have hl : k < s.data.toList.length := by simpa using hk
  have e1 : s.data.toList = s.data.toList.take k ++ s[k] :: s.data.toList.drop (k + 1) := by
    rw [← drop_cons s k hk, List.take_append_drop]
  have e2 : (putB s k c).data.toList = s.data.toList.take k ++ c :: s.data.toList.drop (k + 1) := by
    rw [putB_list, List.set_eq_take_append_cons_drop, if_pos hl]
  rw [e1, e2, addL_append, addL_append]
  intro e
  have e3 : addL (st8 (addL h (s.data.toList.take k)) s[k]) (s.data.toList.drop (k + 1)) = addL (st8 (addL h (s.data.toList.take k)) c) (s.data.toList.drop (k + 1)) := e
  exact hc (st8_inj (addL_inj e3)).symm
theorem partsL_put (s : ByteArray) (k : Nat) (hk : k < s.size) (c : UInt8) (hc : c ≠ s[k]) (own : List ByteArray) : partsL (s :: own) ≠ partsL (putB s k c :: own) := by
  intro e
  have e2 := foldP_inj own (show own.foldl partS (partS Of s) = own.foldl partS (partS Of (putB s k c)) from e)
  unfold partS at e2
  rw [putB_size] at e2
  exact addL_put _ s k hk c hc e2
/-- A byte and itself changed by what is not 0. -/
theorem xor_byte (b : UInt8) (m : Int) (m1 : 1 ≤ m) (m2 : m ≤ 255) : ∃ c : UInt8, bits .xor .u8 (b.toNat : Int) m = (c.toNat : Int) ∧ c ≠ b := by
  obtain ⟨k, rfl⟩ := Int.eq_ofNat_of_zero_le (by omega : 0 ≤ m)
  have hb := b.toNat_lt
  have h1 := u8_xor_nat b.toNat k (by omega) (by omega)
  have h2 := xor8_lt b.toNat k (by omega) (by omega)
  refine ⟨UInt8.ofNat (b.toNat ^^^ k), ?_, fun e => ?_⟩
  · rw [h1, UInt8.toNat_ofNat', Nat.mod_eq_of_lt (by omega)]
  · have e1 := congrArg UInt8.toNat e
    rw [UInt8.toNat_ofNat', Nat.mod_eq_of_lt (by omega)] at e1
    have e2 : b.toNat ^^^ (b.toNat ^^^ k) = b.toNat ^^^ b.toNat := by rw [e1]
    rw [← Nat.xor_assoc, Nat.xor_self, Nat.zero_xor] at e2
    omega
end Go.Proofs.Ytbjidgbohblmiaa
