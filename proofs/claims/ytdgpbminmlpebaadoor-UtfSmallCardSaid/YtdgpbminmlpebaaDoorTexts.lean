/-
  What the statements' texts computes: yes.
-/
import Derived.Test.YtdgpbminmlpebaaDoorLent
import Derived.Test.YtdgpbminmlpebaaDoorRefText
import Derived.Test.YtdgpbminmlpebaaDoorKitB
namespace Go.Proofs.YtdgpbminmlpebaaDoor
open Go.RowKit Mt
theorem texts_long (A : Option Addr) (n c : Nat) (hn : 1000 < n) (w : World) : Calls Tryd.prog 16 #[.slice A n c] w fun e w' => e = .returned (.bool true) ∧ Below w.heap.size w w' := by
  have h1 : (1000 : Int) < n := by omega
  go_enter Tryd.func16, Tryd.ntmps16
  go_wp2
  go_ret
  exact ⟨rfl, Below.refl _ _⟩
theorem textR_bd (l : List Int) : 0 ≤ (textR l).2 ∧ (textR l).2 ≤ 2 := by unfold textR; split <;> simp
set_option maxRecDepth 100000 in
set_option maxHeartbeats 2000000 in
theorem texts_short (zs : List Int) (A : Option Addr) (n c : Nat) (hn : n ≤ 1000) (w : World) (hr : Rd w w.heap.size A n (i64s zs)) :
    Calls Tryd.prog 16 #[.slice A n c] w fun e w' => e = .returned (.bool true) ∧ Below w.heap.size w w' := by
  have h1 : ¬ (1000 : Int) < n := by omega
  have Hr := Lib.hid hr
  have hzl : zs.length = n := by have := hr.1; rwa [i64s_length] at this
  have Hl := Lib.hid hzl
  clear hr hzl
  obtain ⟨tb0, tb1⟩ := textR_bd zs
  have cT := fun (A : Option Addr) (c : Nat) (w : World) (hr : Rd w w.heap.size A n (i64s zs)) => text_in zs A n c w hr (by omega)
  have cR := fun (A : Option Addr) (c : Nat) (w : World) (hr : Rd w w.heap.size A n (i64s zs)) => reftext_in zs A n c w hr (by omega)
  generalize textR zs = R at *
  obtain ⟨S, E⟩ := R
  unfold TextOk at cT cR
  dsimp only at *
  have CT := Lib.hid cT; have CR := Lib.hid cR
  clear cT cR
  go_enter Tryd.func16, Tryd.ntmps16
  go_wp2_with fail
  refine (lent_any zs A n c w Hr.out (by omega)).mono ?_
  rintro e w1 ⟨A1, c1, rfl, hc1, hr1, hb1⟩
  have Hr1 := Lib.hid hr1
  clear hr1
  have hpre : Rd w1 w1.heap.size A1 n (i64s zs) := by
    refine ⟨by rw [i64s_length]; exact Hl.out, fun h0 => ?_⟩
    obtain ⟨ad, e, hb, hc⟩ := Hr1.out.2 (by omega)
    refine ⟨ad, e, hb, fun j u hu => hc j u ?_⟩
    rw [i64s_append, List.getElem?_append_left (by have := (List.getElem?_eq_some_iff.1 hu).1; exact this)]
    exact hu
  have Hp := Lib.hid hpre
  clear hpre
  go_wp2_with fail
  refine (CT.out A1 c1 w1 Hp.out).mono ?_
  rintro e w2 ⟨rfl, hb2⟩
  have hB2 : Below w.heap.size w w2 := hb1.trans (hb2.mono hb1.size)
  go_wp2_with fail
  refine (CR.out A c w2 ((Hr.out.below hB2).more hB2.size)).mono ?_
  rintro e w3 ⟨rfl, hb3⟩
  have hB3 : Below w.heap.size w w3 := hB2.trans (hb3.mono hB2.size)
  have hb13 : Below w1.heap.size w1 w3 := hb2.trans (hb3.mono hb2.size)
  go_wp2_with fail
  refine (kept_yes zs A1 A n c1 c w3.heap.size w3 ((Hr1.out.below hb13).more hb13.size) ((Hr.out.below hB3).more hB3.size) hc1 (by omega)).mono ?_
  rintro e w4 ⟨rfl, hb4⟩
  have hB4 : Below w.heap.size w w4 := hB3.trans (hb4.mono hB3.size)
  clear hb13 hb4 hb3 hb2 hb1 hB2 hB3
  go_wp2_with fail
  go_ret
  exact ⟨rfl, hB4⟩
/-- TEXTS: yes. -/
theorem texts_any (zs : List Int) (A : Option Addr) (n c : Nat) (w : World) (hr : Rd w w.heap.size A n (i64s zs)) :
    Calls Tryd.prog 16 #[.slice A n c] w fun e w' => e = .returned (.bool true) ∧ Below w.heap.size w w' := by
  by_cases h : n ≤ 1000
  · exact texts_short zs A n c h w hr
  · exact texts_long A n c (by omega) w
end Go.Proofs.YtdgpbminmlpebaaDoor
