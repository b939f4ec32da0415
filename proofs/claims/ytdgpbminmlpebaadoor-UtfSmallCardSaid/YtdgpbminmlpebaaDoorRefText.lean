/-
  What Text of the reference computes.
-/
import Derived.Test.YtdgpbminmlpebaaDoorApp
import Derived.Test.YtdgpbminmlpebaaDoorUtfT
namespace Go.Proofs.YtdgpbminmlpebaaDoor
open Go.RowKit Mt
theorem own_below {w w' : World} {base : Nat} {e : TypeId} {size : Nat} {v : Value} {n : Nat} {xs : List Value} (h : w.ownsRow base e size v n xs) (hb : Below w.heap.size w w') : w'.ownsRow base e size v n xs :=
  h.kept (row := none) ⟨hb.os, hb.tape, hb.output, hb.size, fun k hk _ => hb.block k hk⟩ (by cases v.ownBlock <;> simp)
set_option maxHeartbeats 1000000 in
theorem reftext_in (l : List Int) (A : Option Addr) (n c : Nat) (w : World) (hr : Rd w w.heap.size A n (i64s l)) (hn : n ≤ 1048576) :
    Calls Tryd.prog 17 #[.slice A n c] w (TextOk (textR l) w) := by
  have Hr := Lib.hid hr
  have hl : l.length = n := by have := hr.1; rwa [i64s_length] at this
  have Hl := Lib.hid hl
  clear hr hl
  obtain ⟨i0, hi, hz0, hz1, hz2⟩ := info_parts info5
  go_enter Tryd.func17, Tryd.ntmps17
  go_wp2
  go_loopw [4, 5] (fun v i wr => ∃ k m : Nat, k ≤ n ∧ i = .int .i64 k ∧ m ≤ 4 * k ∧ Hid (wr.ownsRow w.heap.size 5 1 v m (u8s (forms (l.take k)))) ∧ Below w.heap.size w wr ∧ Hid ((l.take k).all isPt = true)) (fun _ i _ => n - (intOf i).toNat)
  case atStart => exact ⟨0, 0, by omega, rfl, by omega, World.ownsRow_nil _ _ _ _, Below.refl _ _, rfl⟩
  case round =>
    obtain ⟨k, m, hk, rfl, hm, hown, hb, hall⟩ := hrel
    by_cases hkn : k < n
    · obtain ⟨ad, u, rfl, hadb, hu, hcu⟩ := Hr.out.at_ hkn
      rw [i64s_get l k (by rw [Hl.out]; exact hkn)] at hu
      obtain rfl := Option.some.inj hu
      have hcu' : wr.cell? (ad.add k) = some (.int .i64 (l.getD k 0)) := (hb.cell (p := ad.add k) (by rw [addBlock]; exact hadb)).trans hcu
      have htk : Hid (l.take (k + 1) = l.take k ++ [l.getD k 0]) := by
        show _ = _
        have hlt : k < l.length := by rw [Hl.out]; exact hkn
        rw [List.take_succ_eq_append_getElem hlt]
        simp [List.getD, hlt]
      clear hu hcu
      generalize l.getD k 0 = x at *
      have hbs := hb.size
      by_cases hx : isPt x = true
      · have cN := refpoint_any x
        rw [hx] at cN
        have CN := Lib.hid cN
        have Hx := Lib.hid hx
        have hfl := form_pos x
        clear hx cN
        go_wp2_with (first
          | (go_at_call 36; refine (CN.out _).mono ?_; rintro e w1 ⟨rfl, rfl⟩)
          | (go_at_call 38; refine (refform_any x Hx.out _).mono ?_; rintro e w2 ⟨A2, c2, rfl, hr2, hb2⟩; have Hr2 := Lib.hid hr2; have hs2 := hb2.size; have Hb2 := Lib.hid hb2; clear hr2 hb2)
          | (at_builtin; refine wpList_app_any _ rfl _ _ 22 rfl w.heap.size 5 i0 (.int .u8 0) 1 Tryd.underlying22 hi hz0 hz1 hz2 rfl _ m (u8s (forms (l.take k))) rfl (own_below hown.out Hb2.out) _ A2 _ c2 (u8s (form x)) rfl Hr2.out (u8s_one _) (by unfold maxLen; omega) (by omega) (by omega) ?_; intro v' w3 hown3 hg3; have Hown3 := Lib.hid hown3; have Hg3 := Lib.hid hg3; clear hown3 hg3))
        have hB : Below w.heap.size w w3 := (hb.trans (Hb2.out.mono hbs)).grown Hg3.out (by omega) (fun j e => (hown.out.lt j e).1)
        go_roundw
        case rel => exact ⟨k + 1, m + (form x).length, by omega, by go_num, by omega, by show World.ownsRow _ _ _ _ _ _ _; rw [htk.out, forms_append, show forms [x] = form x from by simp [forms], u8s_append]; exact Hown3.out, hB, by show _ = _; rw [htk.out, List.all_append, hall.out]; simp [Hx.out]⟩
        case measure => simp [intOf]; omega
      · have hx' : isPt x = false := by simpa using hx
        have cN := refpoint_any x
        rw [hx'] at cN
        have CN := Lib.hid cN
        have Hx := Lib.hid hx'
        clear hx hx' cN
        go_wp2_with (go_at_call 36; refine (CN.out _).mono ?_; rintro e w1 ⟨rfl, rfl⟩)
        go_ret2
        refine ⟨?_, hb⟩
        have : l.all isPt = false := by
          rw [← List.take_append_drop (k + 1) l, htk.out]
          simp [Hx.out]
        rw [show textR l = (⟨#[]⟩, 2) from by unfold textR; rw [this]; rfl]
        rfl
    · obtain rfl : k = n := by omega
      have e : l.take k = l := List.take_of_length_le (by rw [Hl.out]; exact Nat.le_refl _)
      rw [e] at hown hall
      have hcv := conv_own wr hown.out
      clear e
      go_wp2
      go_ret2
      refine ⟨?_, hb⟩
      rw [show textR l = (strOfNums (forms l), 0) from by unfold textR; rw [if_pos hall.out]]
      rfl
end Go.Proofs.YtdgpbminmlpebaaDoor
