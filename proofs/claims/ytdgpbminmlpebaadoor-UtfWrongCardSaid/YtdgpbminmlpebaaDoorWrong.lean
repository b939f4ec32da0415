/-
  UtfWrong, walked.
-/
import Derived.Test.YtdgpbminmlpebaaDoorStepApp
import Derived.Test.YtdgpbminmlpebaaDoorMade2
import Derived.Test.YtdgpbminmlpebaaDoorMath9
import Derived.Test.YtdgpbminmlpebaaDoorKitB
import Derived.Test.YtdgpbminmlpebaaDoorAwake
import Derived.WalkLawsBesides
import Derived.Deep.RegionWith
import Derived.Deep.RegionHeld3
namespace Go.Proofs.YtdgpbminmlpebaaDoor.utfWrong
open Go.ChangeShapes Go.WideShapes Go.ChangeAt Go.RowKit Go.WideMaps Go.WideElems Mt
open Go.ChangeMaps (shut_map_nil open_string shut_string)
theorem at2_any (x : Int) (h0 : 0 ≤ x) (h1 : x ≤ 65535) (w : World) : Calls Tryd.prog 33 #[.int .u16 x] w fun e w' => e = .returned (.int .u8 (x % 8)) ∧ w = w' := by
  have q0 : 0 ≤ x % 8 := by omega
  have q1 : x % 8 < 8 := by omega
  go_enter Tryd.func33, Tryd.ntmps33
  go_wp2
  go_ret
  exact ⟨rfl, rfl⟩
set_option maxRecDepth 100000 in
set_option maxHeartbeats 4000000 in
theorem walk1 (A : Option Addr) (n c : Nat) (ps : List Int) (t : ByteArray) (x at_ : Int) (k : Nat) (w : World) (hT : Tab w) (ha : 0 ≤ at_ ∧ at_ ≤ 65535) (hx : -9223372036854775808 ≤ x ∧ x ≤ 9223372036854775807) (hk : Hid (at_ % ((ps.length : Int) + 1) = (k : Int))) (hkp : k ≤ ps.length) (hpl : ps.length ≤ 200) (htz : t.size ≤ 800)
    (cm : ∀ w', Below w.heap.size w w' → Calls Tryd.prog 23 #[.slice A n c] w' fun e w2 => ∃ A2 c2, e = .returned (.slice A2 ps.length c2) ∧ Rd w2 w2.heap.size A2 ps.length (i64s ps) ∧ Below w'.heap.size w' w2 ∧ ps.length ≤ c2)
    (ctx : ∀ A c w, Rd w w.heap.size A ps.length (i64s ps) → Calls Tryd.prog 21 #[.slice A ps.length c] w fun e w' => e = .returned (.tuple #[.string t, .int .i64 0]) ∧ Below w.heap.size w w')
    (ctn : ∀ y A c w, isPt y = false → Rd w w.heap.size A (ps.length + 1) (i64s (ps.take k ++ [y] ++ ps.drop k)) → Calls Tryd.prog 21 #[.slice A (ps.length + 1) c] w fun e w' => e = .returned (.tuple #[.string ⟨#[]⟩, .int .i64 2]) ∧ Below w.heap.size w w')
    (hbent : 0 < t.size → ∃ (i f : Nat) (P V R : ByteArray), Hid (at_ % (t.size : Int) = (i : Int)) ∧ i < t.size ∧ f ≤ i ∧ P.size ≤ 800 ∧ R.size ≤ 800 ∧ V.size = 1 ∧ Hid (strOfNums [248 + at_ % 8] = V) ∧
      (∀ W, (Instr.slice 9 (.string t) none (some (.int .i64 (i : Int))) none).run Tryd.prog W = .ok (.string P) W) ∧
      (∀ W, (Instr.slice 9 (.string t) (some (.int .i64 ((i : Int) + 1))) none none).run Tryd.prog W = .ok (.string R) W) ∧
      (∀ w, Tab w → Calls Tryd.prog 22 #[.string (P ++ V ++ R)] w fun e w' => e = .returned (.tuple #[.int .i64 (f : Int), .int .i64 11]) ∧ Below w.heap.size w w') ∧
      (∀ w, Tab w → Calls Tryd.prog 25 #[.string (P ++ V ++ R)] w fun e w' => e = .returned (.bool false) ∧ Below w.heap.size w w')) :
    Calls Tryd.prog 12 #[.slice A n c, .int .i64 x, .int .u16 at_] w fun e w' => e = .returned (.bool true) ∧ Below w.heap.size w w' := by
  have Hbent := Lib.hid hbent
  have Hm := Lib.hid cm; have Htx := Lib.hid ctx; have HN := Lib.hid ctn
  obtain ⟨ha0, ha1⟩ := ha
  obtain ⟨hx0, hx1⟩ := hx
  have k0 : (0 : Int) ≤ k := by omega
  have k1 : (k : Int) ≤ ps.length := by omega
  have p1 : (1 : Int) ≤ (ps.length : Int) + 1 := by omega
  have hpb := pickOf_bd x 2048 (by omega)
  have HP := Lib.hid (fun w => pick_any x 2048 (by omega) (by omega) w)
  clear cm ctx ctn hbent
  go_enter Tryd.func12, Tryd.ntmps12
  go_wp2_with fail
  refine (awake_any w hT).mono ?_
  rintro e w1 ⟨rfl, hB1⟩
  go_wp2_with fail
  refine (Hm.out w1 hB1).mono ?_
  rintro e w2 ⟨A2, c2, rfl, hr2, hb2, hc2⟩
  have hB2 : Below w.heap.size w w2 := hB1.trans (hb2.mono hB1.size)
  have Hr2 := Lib.hid hr2
  clear hr2
  have k2 : (k : Int) ≤ c2 := by omega
  have k3 : (ps.length : Int) ≤ c2 := by omega
  go_wp2_with fail
  refine (Htx.out A2 c2 w2 Hr2.out).mono ?_
  rintro e w3 ⟨rfl, hb3⟩
  have hB3 : Below w.heap.size w w3 := hB2.trans (hb3.mono hB2.size)
  have Hr3 := Lib.hid ((Hr2.out.below hb3).more hb3.size)
  clear Hr2 Hm Htx
  go_wp2_with fail
  rw [hk.out]
  refine (HP.out _).mono ?_
  rintro e w' ⟨rfl, rfl⟩
  clear HP
  generalize pickOf x 2048 = p at *
  obtain ⟨hp0, hp1⟩ := hpb
  go_wp2_with fail
  have hl3 : ∀ j, j < 3 → (w3.alloc (.cells (i64s (badL x p)).toArray 3)).cell? ⟨w3.heap.size, j, none⟩ = some (.int .i64 ((badL x p).getD j 0)) := fun j hj => by
    have := cells_new w3 (i64s (badL x p)) 3 j _ (i64s_get (badL x p) j hj)
    rwa [add0] at this
  have Hl3 := Lib.hid hl3
  clear hl3
  have Hbad := Lib.hid (badL_no x p hp0 hp1)
  go_loopw [60] (fun i wr => ∃ k : Nat, k ≤ 3 ∧ i = .int .i64 k ∧ Below w.heap.size w wr ∧ Below (w3.heap.size + 1) (w3.alloc (.cells (i64s (badL x p)).toArray 3)) wr) (fun i _ => 3 - (intOf i).toNat)
  case atStart => exact ⟨0, by omega, rfl, hB3.alloc hB3.size _, Below.refl _ _⟩
  case round =>
    obtain ⟨j, hj, rfl, hBr, hbr⟩ := hrel
    have Hbr := Lib.hid hbr
    have hsz : w3.heap.size + 1 ≤ wr.heap.size := by have := hbr.size; simp at this; exact this
    by_cases hj3 : j < 3
    · have hcell : wr.cell? ⟨w3.heap.size, j, none⟩ = some (.int .i64 ((badL x p).getD j 0)) := (hbr.cell (p := ⟨w3.heap.size, j, none⟩) (by show w3.heap.size < _; omega)).trans (Hl3.out j hj3)
      obtain ⟨n1, n2⟩ := Hbad.out j hj3
      have Hn1 := Lib.hid n1; have Hn2 := Lib.hid n2
      have Hrr := Lib.hid (((Hr3.out.step (o := .cells (i64s (badL x p)).toArray 3) (Nat.le_refl _) (Below.refl _ _)).below (hbr.mono (by simp))).more hbr.size)
      clear hbr n1 n2
      generalize (badL x p).getD j 0 = y at *
      go_wp2_with fail
      refine (size_no y Hn1.out _).mono ?_
      rintro e w' ⟨rfl, rfl⟩
      go_wp2_with fail
      refine (append_no y Hn1.out _ _).mono ?_
      rintro e w' ⟨rfl, rfl⟩
      go_wp2_with fail
      have hBW : Below w.heap.size w (wr.alloc (.cells #[.int .u8 1] 5)) := hBr.alloc hBr.size _
      have hbW : Below (w3.heap.size + 1) (w3.alloc (.cells (i64s (badL x p)).toArray 3)) (wr.alloc (.cells #[.int .u8 1] 5)) := Hbr.out.alloc hsz _
      have Hrw := Lib.hid (Hrr.out.step (o := .cells #[.int .u8 1] 5) (Nat.le_refl _) (Below.refl _ _))
      clear Hbr hBr hsz hcell
      have HBW := Lib.hid hBW; have HbW := Lib.hid hbW
      clear hBW hbW Hrr
      generalize wr.alloc (.cells #[.int .u8 1] 5) = W at *
      have Hrp := Lib.hid (Hrw.out.part k hkp)
      have hrq := Hrw.out.rest' k hkp hc2
      generalize hif : (if c2 = k then A2 else Option.map (fun x => x.add k) A2) = A7 at hrq
      have Hrq := Lib.hid hrq
      clear hrq
      go_region_held3 (fun _ => True) (trivial) ((first
        | (refine app_first2 (W := W) (W.heap.size + 1) W.heap.size y A2 k c2 (ps.take k) (by rfl) _ _ (by rfl) (by rfl) (by rfl) (none_a W _ _) (by omega) (new_bad1 W y _) (by omega) (((Below.refl _ W).alloc (Nat.le_refl _) _).alloc (by simp) _).drew Hrp.out (by omega) ?_; intro v1 w4 ho1 hbd1 hb1)
        | (refine app_first2 (W := W) W.heap.size (W.heap.size + 1) y A2 k c2 (ps.take k) (by rfl) _ _ (by rfl) (by rfl) (by rfl) (none_b W _ _) (by omega) (new_bad2 W y _) (by omega) (((Below.refl _ W).alloc (Nat.le_refl _) _).alloc (by simp) _).drew Hrp.out (by omega) ?_; intro v1 w4 ho1 hbd1 hb1)
        | (refine app_first1 (W := W) W.heap.size A2 k c2 (ps.take k) (by rfl) _ _ (by rfl) (by rfl) (by rfl) (none_c W _) (by omega) ((Below.refl _ W).alloc (Nat.le_refl _) _).drew Hrp.out (by omega) ?_; intro v1 w4 ho1 hb1)
        | (refine app_second (W := W) _ y v1 k (ps.take k) (by rfl) _ _ (by rfl) (by rfl) (by rfl) ho1.out hbd1.out hb1.out (by omega) ?_; intro v2 w5 ho2 hb2)
        | (refine app_second (W := W) w4.heap.size y v1 k (ps.take k) (by rfl) _ _ (by rfl) (by rfl) (by rfl) (ho1.out.alloc _) (new_bad w4 y) (hb1.out.alloc hb1.out.size _) (by omega) ?_; intro v2 w5 ho2 hb2)
        | (refine app_third (W := W) (ps.length + 1) v2 (k + 1) (ps.take k ++ [y]) A7 (ps.length - k) (c2 - k) (ps.drop k) (by rfl) _ _ (by rfl) (by rfl) (by rfl) ho2.out hb2.out Hrq.out (by omega) (by omega) ?_; intro A6 c6 w6 hr6 hb6)
        | (go_at_call 21; refine (HN.out y A6 c6 w6 Hn1.out hr6.out).mono ?_; rintro e w7 ⟨rfl, hb7⟩; dsimp only)))
      all_goals
        have hx7 : Below W.heap.size W w7 := hb6.out.trans (hb7.mono hb6.out.size)
        have hB7 : Below w.heap.size w w7 := HBW.out.trans (hx7.mono HBW.out.size)
        have hsz : w3.heap.size + 1 ≤ W.heap.size := by have := HbW.out.size; simp at this; exact this
        have hb77 := Lib.hid (HbW.out.trans (hx7.mono hsz))
        clear ho1 ho2 hr6 hb6 hb7 hx7 Hrp Hrq Hrw HN hb1
        go_wp2_with fail
        refine (split_no y Hn2.out _).mono ?_
        rintro e w' ⟨rfl, rfl⟩
        go_wp2_with fail
        refine (point_no Hn1.out _).mono ?_
        rintro e w' ⟨rfl, rfl⟩
        go_wp2_with fail
        go_roundw
        case rel => exact ⟨j + 1, by omega, by go_num, hB7, hb77.out⟩
        case measure => simp [intOf]; omega
    · obtain rfl : j = 3 := by omega
      clear hbr Hbr hsz HN Hr3 Hl3 Hbad hB3
      have q0 : 0 ≤ at_ % 8 := by omega
      have q1 : at_ % 8 < 8 := by omega
      have m0 : (0 : Int) ≤ t.size := by omega
      have m1 : (t.size : Int) ≤ 800 := by omega
      go_wp2_with fail
      refine (read_bad t (min x (-1)) (by omega) _).mono ?_
      rintro e w4 ⟨rfl, hb4⟩
      have hB4 : Below w.heap.size w w4 := hBr.trans (hb4.mono hBr.size)
      go_wp2_with fail
      refine (read_bad t (max x ((t.size : Int) + 1)) (by omega) _).mono ?_
      rintro e w5 ⟨rfl, hb5⟩
      have hB5 : Below w.heap.size w w5 := hB4.trans (hb5.mono hB4.size)
      go_wp2_with fail
      refine (read_end t (t.size : Int) rfl _).mono ?_
      rintro e w6 ⟨rfl, hb6⟩
      have hB6 : Below w.heap.size w w6 := hB5.trans (hb6.mono hB5.size)
      clear hb4 hb5 hb6 hB4 hB5 hBr
      by_cases ht : t.size = 0
      · have e1 : ((t.size : Int) == 0) = true := by rw [ht]; rfl
        clear ht
        go_wp2_with fail
        go_ret
        exact ⟨rfl, hB6⟩
      · have e1 : ((t.size : Int) == 0) = false := by rw [beq_eq_false_iff_ne]; omega
        have p2 : (1 : Int) ≤ t.size := by omega
        obtain ⟨i, f, P, V, R, hi, hit, hfi, hP, hR, hV, hVn, s1, s2, c1, c2⟩ := Hbent.out (by omega)
        have i0 : (0 : Int) ≤ i := by omega
        have i1 : (i : Int) < t.size := by omega
        have i2 : (i : Int) ≤ 800 := by omega
        have f1 : (f : Int) ≤ i := by omega
        have z1 : ¬ 9223372036854775807 < P.size + V.size := by omega
        have z2 : ¬ 9223372036854775807 < P.size + V.size + R.size := by omega
        have z3 : ¬ 9223372036854775807 < (P ++ V).size + R.size := by rw [ByteArray.size_append]; omega
        have C1 := Lib.hid c1; have C2 := Lib.hid c2
        have hcv : (convert 22 9 (.slice (some ⟨w6.heap.size, 0, none⟩) 1 1)).run Tryd.prog (w6.alloc (.cells #[.int .u8 (248 + at_ % 8)] 5)).drew = .ok (.string V) (w6.alloc (.cells #[.int .u8 (248 + at_ % 8)] 5)).drew := by
          rw [← hVn.out]
          exact conv_own (base := 0) (n := 1) (xs := [248 + at_ % 8]) _ ⟨rfl, .inr ⟨_, 1, _, rfl, Nat.zero_le _, heap_alloc_new w6 _, Nat.le_refl _, by unfold maxLen; omega, rfl, rfl⟩⟩
        have hB7 : Below w.heap.size w (w6.alloc (.cells #[.int .u8 (248 + at_ % 8)] 5)).drew := (hB6.alloc hB6.size _).drew
        have hw8 : IntKind.u8.wrap (248 + at_ % 8) = 248 + at_ % 8 := by rw [IntKind.wrap_u8]; omega
        have hw64 : IntKind.i64.wrap ((i : Int) + 1) = (i : Int) + 1 := by rw [IntKind.wrap_i64]; omega
        clear c1 c2 ht hit hfi hP hR hV
        go_wp2_with fail
        rw [hi.out]
        go_region_with (go_at_call 33; refine (at2_any at_ ha0 ha1 _).mono ?_; rintro e w' ⟨rfl, rfl⟩)
        clear hcv hw8 hw64
        generalize (w6.alloc (.cells #[.int .u8 (248 + at_ % 8)] 5)).drew = w7 at *
        go_wp2_with fail
        refine (C1.out _ (hT.below hB7)).mono ?_
        rintro e w8 ⟨rfl, hb8⟩
        have hB8 : Below w.heap.size w w8 := hB7.trans (hb8.mono hB7.size)
        go_wp2_with fail
        refine (C2.out _ (hT.below hB8)).mono ?_
        rintro e w9 ⟨rfl, hb9⟩
        have hB9 : Below w.heap.size w w9 := hB8.trans (hb9.mono hB8.size)
        go_wp2_with fail
        go_ret
        exact ⟨rfl, hB9⟩
end Go.Proofs.YtdgpbminmlpebaaDoor.utfWrong
