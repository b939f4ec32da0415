/-
  Strings by their bytes; what Pick of the statements' own kit computes.
-/
import Derived.Test.YtdgpbminmlpebaaDoorUtfT
import Derived.Test.YtdgpbminmlpebaaDoorUtfH
namespace Go.Proofs.YtdgpbminmlpebaaDoor
open Go.RowKit Mt
theorem strNum_bys (s : ByteArray) : strOfNums (bys s) = s := by
  apply ByteArray.ext
  unfold strOfNums bys
  apply Array.toList_inj.1
  simp [Function.comp_def]
theorem bys_eq {s t : ByteArray} (h : bys s = bys t) : s = t := by rw [← strNum_bys s, h, strNum_bys]
theorem bys_app (s t : ByteArray) : bys (s ++ t) = bys s ++ bys t := by simp [bys]
theorem extTo (t : ByteArray) (l : List Int) (h : bys t = l) (k : Nat) : t.extract 0 k = strOfNums (l.take k) := by
  apply bys_eq
  rw [bys_extract, h, List.drop_zero, Nat.sub_zero, bys_strOfNums]
  intro c hc
  exact bys_bd t c (by rw [h]; exact List.mem_of_mem_take hc)
theorem extFrom (t : ByteArray) (l : List Int) (h : bys t = l) (k : Nat) : t.extract k t.size = strOfNums (l.drop k) := by
  apply bys_eq
  rw [bys_extract, h, bys_strOfNums, List.take_of_length_le (by rw [← h, List.length_drop, bys_length]; omega)]
  intro c hc
  exact bys_bd t c (by rw [h]; exact List.mem_of_mem_drop hc)
theorem checkAt (s : ByteArray) (a e : Int) (h1 : (fin (bys s) : Int) = a) (h2 : chkE (bys s) = e) (hs : s.size ≤ 140737488351232) (w : World) (hT : Tab w) :
    Calls Tryd.prog 22 #[.string s] w fun e' w' => e' = .returned (.tuple #[.int .i64 a, .int .i64 e]) ∧ Below w.heap.size w w' := by
  have := check_any s hs w hT
  rwa [h1, h2] at this
/-- A number modulo another. -/
def pickOf (x m : Int) : Int := if x.tmod m < 0 then x.tmod m + m else x.tmod m
theorem pickOf_bd (x m : Int) (hm : 1 ≤ m) : 0 ≤ pickOf x m ∧ pickOf x m < m := by
  have h1 := Int.tmod_lt_of_pos x (show 0 < m by omega)
  have h2 := Int.lt_tmod_of_pos x (show 0 < m by omega)
  unfold pickOf
  split <;> omega
theorem pick_any (x m : Int) (hm : 1 ≤ m) (hm2 : m ≤ 1000000) (w : World) : Calls Tryd.prog 28 #[.int .i64 x, .int .i64 m] w fun e w' => e = .returned (.int .i64 (pickOf x m)) ∧ w = w' := by
  have h1 := Int.tmod_lt_of_pos x (show 0 < m by omega)
  have h2 := Int.lt_tmod_of_pos x (show 0 < m by omega)
  by_cases h0 : 0 ≤ x
  · have h3 : x.tmod m = x % m := Int.tmod_eq_emod_of_nonneg h0
    have hp : Hid (pickOf x m = x % m) := by
      show _ = _
      unfold pickOf
      rw [h3, if_neg (by have := Int.emod_nonneg x (show m ≠ 0 by omega); omega)]
    have h4 := Int.emod_nonneg x (show m ≠ 0 by omega)
    clear h1 h2 h3
    go_enter Tryd.func28, Tryd.ntmps28
    go_wp2
    go_ret
    exact ⟨by rw [hp.out]; rfl, rfl⟩
  · by_cases h4 : x.tmod m < 0
    · have hp : Hid (pickOf x m = x.tmod m + m) := if_pos h4
      go_enter Tryd.func28, Tryd.ntmps28
      go_wp2
      go_ret
      exact ⟨by rw [hp.out]; rfl, rfl⟩
    · have hp : Hid (pickOf x m = x.tmod m) := if_neg h4
      go_enter Tryd.func28, Tryd.ntmps28
      go_wp2
      go_ret
      exact ⟨by rw [hp.out]; rfl, rfl⟩
end Go.Proofs.YtdgpbminmlpebaaDoor
