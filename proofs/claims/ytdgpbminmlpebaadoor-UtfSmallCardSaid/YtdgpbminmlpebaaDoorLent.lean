/-
  What LentInts and KeptInts of the statements' own kit compute: a list with marks behind it, and whether they are still there.
-/
import Derived.Test.YtdgpbminmlpebaaDoorApp
import Derived.Test.YtdgpbminmlpebaaDoorUtfT
namespace Go.Proofs.YtdgpbminmlpebaaDoor
open Go.RowKit Mt
/-- The marks behind a list. -/
def markL : List Int := (List.range 12).map fun i : Nat => (8000024 : Int) + i
theorem markL_get (k : Nat) (hk : k < 12) : markL[k]? = some (8000024 + (k : Int)) := by
  unfold markL
  rw [List.getElem?_map, List.getElem?_range hk]
  rfl
theorem markL_snoc (k : Nat) (hk : k < 12) : markL.take (k + 1) = markL.take k ++ [8000024 + (k : Int)] := by
  rw [List.take_add_one, markL_get k hk]; rfl
theorem mark_any (i : Int) (h0 : 0 ≤ i) (h1 : i ≤ 1000000) (w : World) : Calls Tryd.prog 53 #[.int .i64 1, .int .i64 i] w fun e w' => e = .returned (.int .i64 (8000024 + i)) ∧ w = w' := by
  go_enter Tryd.func53, Tryd.ntmps53
  go_wp2
  go_ret
  exact ⟨rfl, rfl⟩
/-- A list with marks behind it, in new memory. -/
def LentOk (zs : List Int) (n : Nat) (w : World) (e : Ending) (w' : World) : Prop :=
  ∃ (A : Option Addr) (c : Nat), e = .returned (.slice A n c) ∧ n + 12 ≤ c ∧ Rd w' w'.heap.size A (n + 12) (i64s (zs ++ markL)) ∧ Below w.heap.size w w'
set_option maxHeartbeats 1000000 in
theorem lent_any (zs : List Int) (A : Option Addr) (n c : Nat) (w : World) (hr : Rd w w.heap.size A n (i64s zs)) (hn : n ≤ 1000000) :
    Calls Tryd.prog 43 #[.slice A n c] w (LentOk zs n w) := by
  have Hr := Lib.hid hr
  clear hr
  obtain ⟨i0, hi, hz0, hz1, hz2⟩ := info_parts info3
  go_enter Tryd.func43, Tryd.ntmps43
  go_wp2_with (first
    | (at_make; refine wpList_make_own _ rfl _ _ 26 rfl w.heap.size 3 i0 (.int .i64 0) 1 Tryd.underlying26 hi hz0 hz1 .i64 .i64 _ (n + 12) rfl rfl (by omega) (by rw [hz2]; omega) (by unfold maxLen; omega) (Nat.le_refl _) ?_; intro w1 hown1 hg1; have Hown1 := Lib.hid hown1; have Hg1 := Lib.hid hg1; have hs1 := hg1.size; clear hown1 hg1)
    | (at_builtin; refine wpList_app_any _ rfl _ _ 26 rfl w.heap.size 3 i0 (.int .i64 0) 8 Tryd.underlying26 hi hz0 hz1 hz2 rfl _ 0 [] rfl Hown1.out w.heap.size A n c (i64s zs) rfl (Hr.out.below (below_of_grown Hg1.out (Nat.le_refl _) (fun k e => by cases e))) (i64s_one _) (by unfold maxLen; omega) (by omega) (by omega) ?_; intro v2 w2 hown2 hg2; have Hown2 := Lib.hid hown2; have Hg2 := Lib.hid hg2; clear hown2 hg2))
  have hB2 : Below w.heap.size w w2 := (below_of_grown Hg1.out (Nat.le_refl _) (fun k e => by cases e)).grown Hg2.out hs1 (fun k e => (Hown1.out.lt k e).1)
  have hown2' : w2.ownsRow w.heap.size 3 1 v2 n (i64s zs) := by have := Hown2.out; rwa [Nat.zero_add, List.nil_append] at this
  have Ho := Lib.hid hown2'
  clear Hown1 Hg1 hs1 Hown2 Hg2 hown2' Hr
  go_loopw [3, 4] (fun v i wr => ∃ k : Nat, k ≤ 12 ∧ i = .int .i64 k ∧ Hid (wr.ownsRow w.heap.size 3 1 v (n + k) (i64s (zs ++ markL.take k))) ∧ Below w.heap.size w wr) (fun _ i _ => 12 - (intOf i).toNat)
  case atStart => exact ⟨0, by omega, rfl, by show World.ownsRow _ _ _ _ _ _ _; rw [List.take_zero, List.append_nil]; exact Ho.out, hB2⟩
  case round =>
    obtain ⟨k, hk, rfl, hown, hb⟩ := hrel
    by_cases hkn : k < 12
    · have Hsn := Lib.hid (markL_snoc k hkn)
      have hbs := hb.size
      go_wp2_with (first
        | (go_at_call 53; refine (mark_any _ (by omega) (by omega) _).mono ?_; rintro e w1 ⟨rfl, rfl⟩)
        | (at_builtin; refine wpList_append_own _ rfl _ _ 26 rfl w.heap.size 3 i0 (.int .i64 0) 1 8 Tryd.underlying26 hi hz0 hz1 hz2 rfl (by decide) _ _ _ rfl (hown.out.alloc _) ⟨wr.heap.size, 0, none⟩ 1 1 (i64s [8000024 + (k : Int)]) rfl rfl (cells_new _ _ _) (i64s_one _) (by unfold maxLen; omega) (by omega) (by simp; omega) ?_; intro v' w1 hown1 hgrow1 _; have Hown1 := Lib.hid hown1; clear hown1))
      have hB : Below w.heap.size w w1 := (hb.alloc hbs _).grown hgrow1 (by simp; omega) (fun j e => (hown.out.lt j e).1)
      go_roundw
      case rel => exact ⟨k + 1, by omega, by go_num, by show World.ownsRow _ _ _ _ _ _ _; rw [Hsn.out, ← List.append_assoc, i64s_append]; exact Hown1.out, hB⟩
      case measure => simp [intOf]; omega
    · obtain rfl : k = 12 := by omega
      have hown' := hown.out
      rw [show markL.take 12 = markL from rfl] at hown'
      obtain ⟨A', c', rfl, hc'⟩ := own_slice hown'
      have hr' := Lib.hid (Rd.of_own hown')
      have hnc : (n : Int) ≤ c' := by omega
      clear hown hown'
      go_wp2
      go_ret
      exact ⟨A', c', rfl, hc', hr'.out, hb⟩

set_option maxHeartbeats 2000000 in
/-- KEPTINTS: what still lies there as it was laid: yes. -/
theorem kept_yes (xs : List Int) (A A' : Option Addr) (n c c' B : Nat) (w : World) (hx : Rd w B A (n + 12) (i64s (xs ++ markL))) (hy : Rd w B A' n (i64s xs)) (hc : n + 12 ≤ c) (hn : n ≤ 1000000) :
    Calls Tryd.prog 44 #[.slice A n c, .slice A' n c'] w fun e w' => e = .returned (.bool true) ∧ Below w.heap.size w w' := by
  have hxl : xs.length = n := by have := hy.1; rwa [i64s_length] at this
  have Hx := Lib.hid hx
  have Hy := Lib.hid hy
  have Hl := Lib.hid hxl
  clear hx hy hxl
  have hc3 : (n : Int) + 12 ≤ c := by omega
  go_enter Tryd.func44, Tryd.ntmps44
  go_wp2
  go_loopw [6] (fun i wr => ∃ k q : Nat, k ≤ n + 12 ∧ i = .int .i64 k ∧ wr = w.drewN q) (fun i _ => n + 12 - (intOf i).toNat)
  case atStart => exact ⟨0, 0, by omega, rfl, rfl⟩
  case round =>
    obtain ⟨k, q, hk, rfl, rfl⟩ := hrel
    by_cases hkn : k < n + 12
    · obtain ⟨ad, u, rfl, _, hu, hcu⟩ := Hx.out.at_ hkn
      have hk1 : (k : Int) < n + 12 := by omega
      by_cases hk2 : k < n
      · obtain ⟨bd, v, rfl, _, hv, hcv⟩ := Hy.out.at_ hk2
        have e1 := i64s_get xs k (by rw [Hl.out]; exact hk2)
        rw [e1] at hv
        rw [i64s_append, List.getElem?_append_left (by rw [i64s_length, Hl.out]; exact hk2), e1] at hu
        obtain rfl := Option.some.inj hu
        obtain rfl := Option.some.inj hv
        clear hu hv e1
        generalize xs.getD k 0 = x at *
        have hk3 : (k : Int) < n := by omega
        have hk4 : ¬ n ≤ k := by omega
        go_wp2
        go_quiet (fail)
        go_wp2
        go_roundw
        case rel => exact ⟨k + 1, _, by omega, by go_num, rfl⟩
        case measure => simp [intOf]; omega
      · have e1 := markL_get (k - n) (by omega)
        have e2 : (i64s markL)[k - n]? = some (.int .i64 (8000024 + ((k - n : Nat) : Int))) := by unfold i64s; rw [List.getElem?_map, e1]; rfl
        rw [i64s_append, List.getElem?_append_right (by rw [i64s_length, Hl.out]; omega), i64s_length, Hl.out, e2] at hu
        obtain rfl := Option.some.inj hu
        rw [show ((k - n : Nat) : Int) = (k : Int) - n from by omega] at hcu
        clear hu e1 e2
        have hk3 : ¬ (k : Int) < n := by omega
        have hk4 : n ≤ k := by omega
        have hk5 : 0 ≤ (k : Int) - n := by omega
        have hk6 : (k : Int) - n ≤ 1000000 := by omega
        go_wp2
        go_quiet ((refine (mark_any _ hk5 hk6 _).mono ?_; rintro e w2 ⟨rfl, rfl⟩; exact ⟨rfl, _, rfl⟩))
        go_wp2
        go_roundw
        case rel => exact ⟨k + 1, _, by omega, by go_num, rfl⟩
        case measure => simp [intOf]; omega
    · obtain rfl : k = n + 12 := by omega
      go_wp2
      go_ret
      exact ⟨rfl, below_drewN (Below.refl _ _) q⟩
end Go.Proofs.YtdgpbminmlpebaaDoor
