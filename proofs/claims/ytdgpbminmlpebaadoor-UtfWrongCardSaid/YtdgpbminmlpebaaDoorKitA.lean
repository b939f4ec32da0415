/-
  What SameBytes, SameInts and Pick of the statements' own kit compute.
-/
import Derived.Test.YtdgpbminmlpebaaDoorProg
import Derived.Test.YtdgpbminmlpebaaDoorWords
import Derived.WalkKit
import Derived.WalkSmall
import Derived.ProofKit
import Derived.BigQuiet
import Derived.Deep.QuietTactic
namespace Go.Proofs.YtdgpbminmlpebaaDoor
open Go.RowKit

theorem take_eq_snoc {xs ys : List Value} {k : Nat} {x : Value} (h : xs.take k = ys.take k) (hx : xs[k]? = some x) (hy : ys[k]? = some x) : xs.take (k + 1) = ys.take (k + 1) := by
  rw [List.take_add_one, List.take_add_one, h, hx, hy]
theorem ne_of_get {xs ys : List Value} {k : Nat} {x y : Value} (hx : xs[k]? = some x) (hy : ys[k]? = some y) (h : x ≠ y) : xs ≠ ys := by
  rintro rfl
  rw [hx] at hy
  exact h (Option.some.inj hy)

/-- A call answers yes just if two lists are the same, and leaves the world but for draws. -/
def SameOk (xs ys : List Value) (w : World) (e : Ending) (w' : World) : Prop :=
  ∃ b : Bool, e = .returned (.bool b) ∧ (b = true ↔ xs = ys) ∧ ∃ q, w' = w.drewN q
theorem sameOk_no {xs ys : List Value} (h : xs ≠ ys) (w : World) (q : Nat) : SameOk xs ys w (.returned (.bool false)) (w.drewN q) := ⟨false, rfl, ⟨(fun h => by cases h), fun e => absurd e h⟩, q, rfl⟩
theorem sameOk_yes {xs ys : List Value} (h : xs = ys) (w : World) (q : Nat) : SameOk xs ys w (.returned (.bool true)) (w.drewN q) := ⟨true, rfl, ⟨fun _ => h, fun _ => rfl⟩, q, rfl⟩

set_option maxHeartbeats 1000000 in
theorem same_bytes_eq (w : World) (B : Nat) (A A' : Option Addr) (n c c' : Nat) (xs ys : List Int) (hx : Rd w B A n (u8s xs)) (hy : Rd w B A' n (u8s ys)) (hn : n ≤ 140737488355328) :
    Calls Tryd.prog 37 #[.slice A n c, .slice A' n c'] w (SameOk (u8s xs) (u8s ys) w) := by
  have Hx := Lib.hid hx
  have Hy := Lib.hid hy
  clear hx hy
  go_enter Tryd.func37, Tryd.ntmps37
  go_wp2
  go_loopw [5] (fun i wr => ∃ k q : Nat, k ≤ n ∧ i = .int .i64 k ∧ wr = w.drewN q ∧ Hid ((u8s xs).take k = (u8s ys).take k)) (fun i _ => n - (intOf i).toNat)
  case atStart => exact ⟨0, 0, by omega, rfl, rfl, rfl⟩
  case round =>
    obtain ⟨k, q, hk, rfl, rfl, ht⟩ := hrel
    by_cases hkn : k < n
    · obtain ⟨ad, u, rfl, _, hu, hcu⟩ := Hx.out.at_ hkn
      obtain ⟨bd, v, rfl, _, hv, hcv⟩ := Hy.out.at_ hkn
      have hl1 : k < xs.length := by have := Hx.out.1; rw [u8s_length] at this; omega
      have hl2 : k < ys.length := by have := Hy.out.1; rw [u8s_length] at this; omega
      rw [u8s_get xs k hl1] at hu
      rw [u8s_get ys k hl2] at hv
      obtain rfl := Option.some.inj hu
      obtain rfl := Option.some.inj hv
      have Hu := Lib.hid (u8s_get xs k hl1)
      have Hv := Lib.hid (u8s_get ys k hl2)
      clear hu hv
      generalize xs.getD k 0 = x at *
      generalize ys.getD k 0 = y at *
      by_cases he : x = y
      · subst he
        go_wp2
        go_quiet (fail)
        go_wp2
        go_roundw
        case rel => exact ⟨k + 1, _, by omega, by go_num, rfl, take_eq_snoc ht.out Hu.out Hv.out⟩
        case measure => simp [intOf]; omega
      · have Hne := Lib.hid he
        have h1 : (x == y) = false := by simpa using he
        have h2 : (x != y) = true := by simpa using he
        clear he
        go_wp2
        go_quiet (fail)
        go_wp2
        go_ret
        rw [World.drewN_drewN]
        exact sameOk_no (ne_of_get Hu.out Hv.out (fun e => Hne.out (by injection e))) _ _
    · obtain rfl : k = n := by omega
      go_wp2
      go_ret
      refine sameOk_yes ?_ _ _
      have := ht.out
      rw [List.take_of_length_le (by rw [Hx.out.1]; exact Nat.le_refl _), List.take_of_length_le (by rw [Hy.out.1]; exact Nat.le_refl _)] at this
      exact this
theorem same_bytes (w : World) (B : Nat) (A A' : Option Addr) (n n' c c' : Nat) (xs ys : List Int) (hx : Rd w B A n (u8s xs)) (hy : Rd w B A' n' (u8s ys)) (hn : n ≤ 140737488355328) :
    Calls Tryd.prog 37 #[.slice A n c, .slice A' n' c'] w (SameOk (u8s xs) (u8s ys) w) := by
  by_cases h : n = n'
  · subst h
    exact same_bytes_eq w B A A' n c c' xs ys hx hy hn
  · have hne : u8s xs ≠ u8s ys := fun e => h (by rw [← hx.1, ← hy.1, e])
    have Hne := Lib.hid hne
    have h1 : ((n : Int) == (n' : Int)) = false := by rw [beq_eq_false_iff_ne]; omega
    have h2 : ((n : Int) != (n' : Int)) = true := by rw [bne_iff_ne]; omega
    clear hne h hx hy
    go_enter Tryd.func37, Tryd.ntmps37
    go_wp2
    go_ret
    exact sameOk_no Hne.out w 0
end Go.Proofs.YtdgpbminmlpebaaDoor
