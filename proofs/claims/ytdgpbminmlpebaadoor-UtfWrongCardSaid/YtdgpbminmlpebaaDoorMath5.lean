/-
  Plain mathematics: a string of code points, read at each of its offsets.
-/
import Derived.Test.YtdgpbminmlpebaaDoorMath4
namespace Go.Proofs.YtdgpbminmlpebaaDoor.Mt
theorem take_snoc' {l : List Int} {k : Nat} (h : k < l.length) : l.take (k + 1) = l.take k ++ [l.getD k 0] := by
  rw [List.take_succ_eq_append_getElem h]
  simp [List.getD, h]
theorem split_at {l : List Int} {k : Nat} (h : k < l.length) : l = l.take k ++ l.getD k 0 :: l.drop (k + 1) := by
  conv => lhs; rw [← List.take_append_drop k l, List.drop_eq_getElem_cons h]
  simp [List.getD, h]
theorem getD_pt {l : List Int} (h : AllPt l) {k : Nat} (hk : k < l.length) : isPt (l.getD k 0) = true := h _ (by simp [List.getD, hk])
theorem back_len {l : List Int} {k : Nat} (h : k < l.length) : (forms (l.take (k + 1))).length = (forms (l.take k)).length + (szP (l.getD k 0)).toNat := by
  rw [take_snoc' h, forms_append, List.length_append, ← form_length']
  simp [forms]
theorem back_le {l : List Int} {k : Nat} (h : k < l.length) : (forms (l.take k)).length + (szP (l.getD k 0)).toNat ≤ (forms l).length := by
  rw [← back_len h]
  conv => rhs; rw [← List.take_append_drop (k + 1) l, forms_append, List.length_append]
  omega
theorem back_drop {l : List Int} {k : Nat} (h : k < l.length) (i : Nat) (hi : (i : Int) < szP (l.getD k 0)) : (forms l).drop ((forms (l.take k)).length + i) = (form (l.getD k 0)).drop i ++ forms (l.drop (k + 1)) := by
  have e : forms l = forms (l.take k) ++ (form (l.getD k 0) ++ forms (l.drop (k + 1))) := by
    conv => lhs; rw [split_at h]
    rw [forms_append, forms_cons]
  have hf := form_length (l.getD k 0)
  rw [e, ← List.drop_drop, List.drop_left, List.drop_append_of_le_length (by omega)]
theorem back_read {l : List Int} (hp : AllPt l) {k : Nat} (h : k < l.length) : rdAt (forms l) ((forms (l.take k)).length : Nat) = (l.getD k 0, szP (l.getD k 0), 0) := by
  have hb := szP_bd (l.getD k 0)
  have hle := back_le h
  have := back_drop h 0 (by omega)
  rw [Nat.add_zero, List.drop_zero] at this
  unfold rdAt
  rw [if_neg (by omega), Int.toNat_natCast, this, rd_form (getD_pt hp h)]
theorem back_mid {l : List Int} (hp : AllPt l) {k : Nat} (h : k < l.length) {i : Nat} (h1 : 1 ≤ i) (h2 : (i : Int) < szP (l.getD k 0)) : rdAt (forms l) (((forms (l.take k)).length : Int) + i) = (0, 0, 11) := by
  have hle := back_le h
  unfold rdAt
  rw [if_neg (by omega), show (((forms (l.take k)).length : Int) + i).toNat = (forms (l.take k)).length + i from by omega, back_drop h i h2, form_mid (getD_pt hp h) i h1 h2]
end Go.Proofs.YtdgpbminmlpebaaDoor.Mt
