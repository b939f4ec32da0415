/-
  What Check, Points and Cut of the reference compute.
-/
import Derived.Test.YtdgpbminmlpebaaDoorRefRead
import Derived.Test.YtdgpbminmlpebaaDoorUtfP
import Derived.Test.YtdgpbminmlpebaaDoorUtfH
namespace Go.Proofs.YtdgpbminmlpebaaDoor
open Go.RowKit Mt
theorem finF_go {l : List Int} {f a : Nat} (h : (rd (l.drop a)).2.2 = 0) : finF l (f + 1) a = finF l f (a + (rd (l.drop a)).2.1.toNat) := if_pos h
theorem finF_no {l : List Int} {f a : Nat} (h : ¬ (rd (l.drop a)).2.2 = 0) : finF l (f + 1) a = a := if_neg h
theorem rd_end {l : List Int} {a : Nat} (h : l.length ≤ a) : ¬ (rd (l.drop a)).2.2 = 0 := by rw [List.drop_of_length_le h]; decide
theorem chkE_end {l : List Int} (h : fin l = l.length) : chkE l = 0 := if_pos h
theorem chkE_at {l : List Int} {a : Nat} (h : fin l = a) (ha : a < l.length) : chkE l = (rd (l.drop a)).2.2 := by unfold chkE; rw [h, if_neg (by omega)]
theorem tw_no {α : Type} {q : α → Bool} {p : α} (h : q p = false) (l : List α) : (l ++ [p]).takeWhile q = l.takeWhile q := by
  induction l with
  | nil => simp [h]
  | cons x t ih =>
    rw [List.cons_append, List.takeWhile_cons, List.takeWhile_cons, ih]
theorem tw_yes {α : Type} {q : α → Bool} {p : α} (h : q p = true) (l : List α) (k : ∀ x ∈ l, q x = true) : (l ++ [p]).takeWhile q = l ++ [p] :=
  takeWhile_of_all fun y hy => by
    rcases List.mem_append.1 hy with hy | hy
    · exact k y hy
    · rw [List.mem_singleton.1 hy]; exact h
theorem own_below' {w w' : World} {base : Nat} {e : TypeId} {size : Nat} {v : Value} {n : Nat} {xs : List Value} (h : w.ownsRow base e size v n xs) (hb : Below w.heap.size w w') : w'.ownsRow base e size v n xs :=
  h.kept (row := none) ⟨hb.os, hb.tape, hb.output, hb.size, fun k hk _ => hb.block k hk⟩ (by cases v.ownBlock <;> simp)
set_option maxRecDepth 100000 in
set_option maxHeartbeats 2000000 in
theorem refcheck_any (s : ByteArray) (hs : s.size ≤ 140737488351232) (w : World) :
    Calls Tryd.prog 40 #[.string s] w fun e w' => e = .returned (.tuple #[.int .i64 (fin (bys s)), .int .i64 (chkE (bys s))]) ∧ Below w.heap.size w w' := by
  have hbl := bys_length s
  have Hbl := Lib.hid hbl
  have hfl := fin_le (bys s) (bys_bd s)
  rw [hbl] at hfl
  clear hbl
  go_enter Tryd.func40, Tryd.ntmps40
  go_wp2
  go_loopw [4] (fun v wr => ∃ a f : Nat, a ≤ s.size ∧ s.size < f + a ∧ v = .int .i64 a ∧ Below w.heap.size w wr ∧ Hid (finF (bys s) f a = fin (bys s))) (fun v _ => s.size - (intOf v).toNat)
  case atStart => exact ⟨0, s.size + 1, by omega, by omega, rfl, Below.refl _ _, by show _ = _; unfold fin; rw [Hbl.out]⟩
  case round =>
    obtain ⟨a, f, ha, hf, rfl, hb, hfin⟩ := hrel
    obtain ⟨f', rfl⟩ : ∃ f', f = f' + 1 := ⟨f - 1, by omega⟩
    by_cases has : a < s.size
    · have h1 : (a : Int) < s.size := by omega
      obtain ⟨hne, h0, hat, hll⟩ := miss_at has
      have cr := refread_any s hs (a : Int) (by omega) 
      rw [hat] at cr
      have hok := fun h => rd_ok_bd (l := (bys s).drop a) h0 h
      have hgo := fun h => (finF_go (f := f') (a := a) (l := bys s) h).symm.trans hfin.out
      have hno := fun h => (finF_no (f := f') (a := a) (l := bys s) h).symm.trans hfin.out
      have hce := fun h => chkE_at (l := bys s) (a := a) h (by rw [Hbl.out]; exact has)
      rw [hll] at hok
      generalize rd ((bys s).drop a) = R at *
      obtain ⟨x, n, e⟩ := R
      unfold ReadOk at cr
      dsimp only at *
      have CR := Lib.hid cr; have Hok := Lib.hid hok; have Hgo := Lib.hid hgo; have Hno := Lib.hid hno; have Hce := Lib.hid hce
      clear cr hok hgo hno hce hne h0 hat hll
      by_cases he : e = 0
      · obtain ⟨hn1, hn4, hnl⟩ := Hok.out he
        have Hg := Lib.hid (Hgo.out he)
        clear Hok Hgo Hno Hce
        subst he
        go_wp2_with fail
        refine (CR.out _).mono ?_
        rintro e' w3 ⟨rfl, hb3⟩
        have hB3 : Below w.heap.size w w3 := hb.trans (hb3.mono hb.size)
        clear hb3
        go_wp2
        go_roundw
        case rel => exact ⟨a + n.toNat, f', by omega, by omega, by go_num, hB3, Hg.out⟩
        case measure => simp [intOf]; omega
      · have Hf := Lib.hid (Hno.out he)
        have Hc := Lib.hid (Hce.out (Hno.out he).symm)
        have e1 : (e == 0) = false := by rw [beq_eq_false_iff_ne]; exact he
        have e2 : (e != 0) = true := by rw [bne_iff_ne]; exact he
        clear Hok Hgo Hno Hce
        go_wp2_with fail
        refine (CR.out _).mono ?_
        rintro e' w3 ⟨rfl, hb3⟩
        have hB3 : Below w.heap.size w w3 := hb.trans (hb3.mono hb.size)
        clear hb3
        go_wp2
        go_ret2
        exact ⟨by rw [Hc.out, ← Hf.out]; rfl, hB3⟩
    · have h1 : a = s.size := by omega
      have h2 : Hid (fin (bys s) = s.size) := by
        show _ = _
        rw [← hfin.out, finF_no (rd_end (by rw [Hbl.out]; omega)), h1]
      have h3 : Hid (chkE (bys s) = 0) := chkE_end (by rw [h2.out, Hbl.out])
      subst h1
      clear hfin
      go_wp2
      go_ret2
      exact ⟨by rw [h3.out, h2.out]; rfl, hb⟩
set_option maxRecDepth 100000 in
set_option maxHeartbeats 2000000 in
theorem refpoints_yes (s : ByteArray) (he : shortE s = 0) (w : World) : Calls Tryd.prog 41 #[.string s] w (PtsOk (bys s) w) := by
  obtain ⟨hsz, hch⟩ := short_bd he
  have hbl := bys_length s
  have hfe := (chkE_zero (bys_bd s)).1 hch
  have ck := refcheck_any s (by omega) w
  rw [hch] at ck
  have Hck := Lib.hid ck; have Hbl := Lib.hid hbl; have Hfe := Lib.hid hfe
  clear ck hch hbl he hfe
  obtain ⟨i0, hi, hz0, hz1, hz2⟩ := info_parts info3
  have h0 : ¬ (1048576 : Int) < s.size := by omega
  go_enter Tryd.func41, Tryd.ntmps41
  go_wp2_with fail
  refine Hck.out.mono ?_
  rintro e w1 ⟨rfl, hb1⟩
  clear Hck
  go_wp2_with fail
  go_loopw [6, 7] (fun u v wr => ∃ (a f : Nat) (don : List Int), a ≤ s.size ∧ s.size < f + a ∧ v = .int .i64 a ∧ don.length ≤ a ∧ Hid (wr.ownsRow w.heap.size 3 1 u don.length (i64s don)) ∧ Below w.heap.size w wr ∧ Hid (finF (bys s) f a = (bys s).length) ∧ Hid (pts (bys s) = don ++ (steps (bys s) f a).map (·.2))) (fun _ v _ => s.size - (intOf v).toNat)
  case atStart => exact ⟨0, s.size + 1, [], by omega, by omega, rfl, by simp, World.ownsRow_nil _ _ _ _, hb1, by show _ = _; rw [← Hfe.out]; unfold fin; rw [Hbl.out], by show _ = _; unfold pts allSteps; rw [Hbl.out]; rfl⟩
  case round =>
    obtain ⟨a, f, don, ha, hf, rfl, hdl, hown, hb, hfin, hpt⟩ := hrel
    obtain ⟨f', rfl⟩ : ∃ f', f = f' + 1 := ⟨f - 1, by omega⟩
    by_cases has : a < s.size
    · have h1 : (a : Int) < s.size := by omega
      obtain ⟨hne, h0, hat, hll⟩ := miss_at has
      have cr := refread_any s (by omega) (a : Int) (by omega)
      rw [hat] at cr
      have hok0 : (rd ((bys s).drop a)).2.2 = 0 := by
        refine Classical.byContradiction fun h => ?_
        have := (finF_no (f := f') (a := a) (l := bys s) h).symm.trans hfin.out
        rw [Hbl.out] at this
        omega
      have hok := rd_ok_bd (l := (bys s).drop a) h0 hok0
      have hgo := (finF_go (f := f') (a := a) (l := bys s) hok0).symm.trans hfin.out
      have hst := steps_go (f := f') (a := a) (l := bys s) hok0
      rw [hll] at hok
      generalize rd ((bys s).drop a) = R at *
      obtain ⟨x, n, e⟩ := R
      unfold ReadOk at cr
      dsimp only at *
      subst hok0
      obtain ⟨hn1, hn4, hnl⟩ := hok
      have CR := Lib.hid cr; have Hgo := Lib.hid hgo; have Hst := Lib.hid hst
      clear cr hgo hst hne h0 hat hll
      go_wp2_with fail
      refine (CR.out _).mono ?_
      rintro e' w3 ⟨rfl, hb3⟩
      have hB3 : Below w.heap.size w w3 := hb.trans (hb3.mono hb.size)
      have Hown3 := Lib.hid (own_below' hown.out hb3)
      have hbs := hB3.size
      clear hb3 hown
      go_wp2_with (at_builtin; refine wpList_append_own _ rfl _ _ 26 rfl w.heap.size 3 i0 (.int .i64 0) 1 8 Tryd.underlying26 hi hz0 hz1 hz2 rfl (by decide) _ _ _ rfl (Hown3.out.alloc _) ⟨w3.heap.size, 0, none⟩ 1 1 (i64s [x]) rfl rfl (cells_new _ _ _) (i64s_one _) (by unfold maxLen; omega) (by omega) (by simp; omega) ?_; intro v' w4 hown4 hgrow4 _; have Hown4 := Lib.hid hown4; clear hown4)
      have hB : Below w.heap.size w w4 := (hB3.alloc hbs _).grown hgrow4 (by simp; omega) (fun j e => (Hown3.out.lt j e).1)
      go_roundw
      case rel => exact ⟨a + n.toNat, f', don ++ [x], by omega, by omega, by go_num, by rw [List.length_append]; simp; omega, by show World.ownsRow _ _ _ _ _ _ _; rw [List.length_append, i64s_append]; exact Hown4.out, hB, Hgo.out, by show _ = _; rw [hpt.out, Hst.out]; simp⟩
      case measure => simp [intOf]; omega
    · have h1 : a = s.size := by omega
      have h2 : Hid (pts (bys s) = don) := by
        show _ = _
        rw [hpt.out, steps_stop (rd_end (by rw [Hbl.out]; omega))]
        simp
      subst h1
      clear hfin hpt
      obtain ⟨A', c', rfl, _⟩ := own_slice hown.out
      go_wp2
      go_ret2
      exact ⟨A', c', by rw [h2.out]; rfl, by rw [h2.out]; exact Rd.of_own hown.out, hb⟩
theorem refpoints_long (s : ByteArray) (h : 1048576 < s.size) (w : World) :
    Calls Tryd.prog 41 #[.string s] w fun e w' => e = .returned (.tuple #[.slice none 0 0, .int .i64 3]) ∧ Below w.heap.size w w' := by
  have h1 : (1048576 : Int) < s.size := by omega
  go_enter Tryd.func41, Tryd.ntmps41
  go_wp2
  go_ret2
  exact ⟨rfl, Below.refl _ _⟩
theorem refpoints_bad (s : ByteArray) (hs : s.size ≤ 1048576) (he : chkE (bys s) ≠ 0) (w : World) :
    Calls Tryd.prog 41 #[.string s] w fun e w' => e = .returned (.tuple #[.slice none 0 0, .int .i64 (chkE (bys s))]) ∧ Below w.heap.size w w' := by
  have h1 : ¬ (1048576 : Int) < s.size := by omega
  have ck := refcheck_any s (by omega) w
  generalize chkE (bys s) = E at *
  have e1 : (E == 0) = false := by rw [beq_eq_false_iff_ne]; exact he
  have e2 : (E != 0) = true := by rw [bne_iff_ne]; exact he
  have Hck := Lib.hid ck
  clear ck
  go_enter Tryd.func41, Tryd.ntmps41
  go_wp2_with fail
  refine Hck.out.mono ?_
  rintro e w1 ⟨rfl, hb1⟩
  clear Hck
  go_wp2_with fail
  go_ret2
  exact ⟨rfl, hb1⟩
theorem refcut_long (s : ByteArray) (h : 1048576 < s.size) (k : Int) (w : World) :
    Calls Tryd.prog 42 #[.string s, .int .i64 k] w fun e w' => e = .returned (.tuple #[.string ⟨#[]⟩, .int .i64 3]) ∧ Below w.heap.size w w' := by
  have h1 : (1048576 : Int) < s.size := by omega
  go_enter Tryd.func42, Tryd.ntmps42
  go_wp2
  go_ret2
  exact ⟨rfl, Below.refl _ _⟩
theorem refcut_bad (s : ByteArray) (hs : s.size ≤ 1048576) (he : chkE (bys s) ≠ 0) (k : Int) (hk : 0 ≤ k) (w : World) :
    Calls Tryd.prog 42 #[.string s, .int .i64 k] w fun e w' => e = .returned (.tuple #[.string ⟨#[]⟩, .int .i64 (chkE (bys s))]) ∧ Below w.heap.size w w' := by
  have h1 : ¬ (1048576 : Int) < s.size := by omega
  have ck := refcheck_any s (by omega) w
  generalize chkE (bys s) = E at *
  have e1 : (E == 0) = false := by rw [beq_eq_false_iff_ne]; exact he
  have e2 : (E != 0) = true := by rw [bne_iff_ne]; exact he
  have Hck := Lib.hid ck
  clear ck
  go_enter Tryd.func42, Tryd.ntmps42
  go_wp2_with fail
  refine Hck.out.mono ?_
  rintro e w1 ⟨rfl, hb1⟩
  clear Hck
  go_wp2_with fail
  go_ret2
  exact ⟨rfl, hb1⟩
theorem refpoints_no (s : ByteArray) (hs : s.size ≤ 140737488351232) (he : shortE s ≠ 0) (w : World) :
    Calls Tryd.prog 41 #[.string s] w fun e w' => e = .returned (.tuple #[.slice none 0 0, .int .i64 (shortE s)]) ∧ Below w.heap.size w w' := by
  have _ := hs
  by_cases h : 1048576 < s.size
  · rw [show shortE s = 3 from if_pos h]
    exact refpoints_long s h w
  · have e : shortE s = chkE (bys s) := if_neg h
    rw [e] at he ⊢
    exact refpoints_bad s (by omega) he w
theorem refcut_neg (s : ByteArray) (k : Int) (hk : k < 0) (hl : s.size ≤ 1048576) (w : World) :
    Calls Tryd.prog 42 #[.string s, .int .i64 k] w fun e w' => e = .returned (.tuple #[.string ⟨#[]⟩, .int .i64 2]) ∧ Below w.heap.size w w' := by
  have h1 : ¬ (1048576 : Int) < s.size := by omega
  go_enter Tryd.func42, Tryd.ntmps42
  go_wp2
  go_ret2
  exact ⟨rfl, Below.refl _ _⟩
set_option maxRecDepth 100000 in
set_option maxHeartbeats 2000000 in
theorem refcut_yes (s : ByteArray) (k : Int) (hk0 : 0 ≤ k) (he : shortE s = 0) (w : World) :
    Calls Tryd.prog 42 #[.string s, .int .i64 k] w fun e w' => e = .returned (.tuple #[.string (s.extract 0 (cutEnd (bys s) k).toNat), .int .i64 0]) ∧ Below w.heap.size w w' := by
  obtain ⟨hsz, hch⟩ := short_bd he
  have hbl := bys_length s
  have hfe := (chkE_zero (bys_bd s)).1 hch
  have ck := refcheck_any s (by omega) w
  rw [hch] at ck
  have hcb := cutEnd_bd (bys s) (bys_bd s) k
  rw [hbl] at hcb
  have Hcb := Lib.hid hcb
  have Hck := Lib.hid ck; have Hbl := Lib.hid hbl; have Hfe := Lib.hid hfe
  clear ck hch hbl he hfe hcb
  have h0 : ¬ (1048576 : Int) < s.size := by omega
  have hsl : ∀ (E : Int), 0 ≤ E → E ≤ s.size → ∀ W, (Instr.slice 9 (.string s) none (some (.int .i64 E)) none).run Tryd.prog W = .ok (.string (s.extract 0 E.toNat)) W := fun E h1 h2 W =>
    run_slice_string_h (P := Tryd.prog) W 9 s Tryd.underlying9 .i64 E h1 h2
  have Hsl := Lib.hid hsl
  clear hsl
  go_enter Tryd.func42, Tryd.ntmps42
  go_wp2_with fail
  refine Hck.out.mono ?_
  rintro e w1 ⟨rfl, hb1⟩
  clear Hck
  go_wp2_with fail
  go_loopw [8, 9] (fun u v wr => ∃ (a f : Nat) (E : Int) (don : List (Int × Int)), a ≤ s.size ∧ s.size < f + a ∧ v = .int .i64 a ∧ u = .int .i64 E ∧ Below w.heap.size w wr ∧ Hid (finF (bys s) f a = (bys s).length) ∧ Hid (allSteps (bys s) = don ++ steps (bys s) f a) ∧ Hid (∀ p ∈ don, p.1 ≤ (a : Int)) ∧ Hid (E = lastOf 0 (don.takeWhile fun p => decide (p.1 ≤ k)))) (fun _ v _ => s.size - (intOf v).toNat)
  case atStart => exact ⟨0, s.size + 1, 0, [], by omega, by omega, rfl, rfl, hb1, by show _ = _; rw [← Hfe.out]; unfold fin; rw [Hbl.out], by show _ = _; unfold allSteps; rw [Hbl.out]; rfl, (fun p h => by cases h), rfl⟩
  case round =>
    obtain ⟨a, f, E, don, ha, hf, rfl, rfl, hb, hfin, hpt, hdl, hE⟩ := hrel
    obtain ⟨f', rfl⟩ : ∃ f', f = f' + 1 := ⟨f - 1, by omega⟩
    by_cases has : a < s.size
    · have h1 : (a : Int) < s.size := by omega
      obtain ⟨hne, h0, hat, hll⟩ := miss_at has
      have cr := refread_any s (by omega) (a : Int) (by omega)
      rw [hat] at cr
      have hok0 : (rd ((bys s).drop a)).2.2 = 0 := by
        refine Classical.byContradiction fun h => ?_
        have := (finF_no (f := f') (a := a) (l := bys s) h).symm.trans hfin.out
        rw [Hbl.out] at this
        omega
      have hok := rd_ok_bd (l := (bys s).drop a) h0 hok0
      have hgo := (finF_go (f := f') (a := a) (l := bys s) hok0).symm.trans hfin.out
      have hst := steps_go (f := f') (a := a) (l := bys s) hok0
      rw [hll] at hok
      generalize rd ((bys s).drop a) = R at *
      obtain ⟨x, n, e⟩ := R
      unfold ReadOk at cr
      dsimp only at *
      subst hok0
      obtain ⟨hn1, hn4, hnl⟩ := hok
      have CR := Lib.hid cr; have Hgo := Lib.hid hgo; have Hst := Lib.hid hst
      clear cr hgo hst hne h0 hat hll
      have hdl' : Hid (∀ p ∈ don ++ [((a : Int) + n, x)], p.1 ≤ ((a + n.toNat : Nat) : Int)) := fun p hp => by
        rcases List.mem_append.1 hp with hp | hp
        · have := hdl.out p hp; omega
        · rw [List.mem_singleton.1 hp]; show (a : Int) + n ≤ _; omega
      by_cases hk : (a : Int) + n ≤ k
      · go_wp2_with fail
        refine (CR.out _).mono ?_
        rintro e' w3 ⟨rfl, hb3⟩
        have hB3 : Below w.heap.size w w3 := hb.trans (hb3.mono hb.size)
        clear hb3
        go_wp2
        go_roundw
        case rel => exact ⟨a + n.toNat, f', (a : Int) + n, don ++ [((a : Int) + n, x)], by omega, by omega, by go_num, rfl, hB3, Hgo.out, by show _ = _; rw [hpt.out, Hst.out]; simp, hdl'.out, by show _ = _; rw [tw_yes (by simpa using hk) don (fun p hp => by have := hdl.out p hp; simp; omega), lastOf_snoc]⟩
        case measure => simp [intOf]; omega
      · go_wp2_with fail
        refine (CR.out _).mono ?_
        rintro e' w3 ⟨rfl, hb3⟩
        have hB3 : Below w.heap.size w w3 := hb.trans (hb3.mono hb.size)
        clear hb3
        go_wp2
        go_roundw
        case rel => exact ⟨a + n.toNat, f', E, don ++ [((a : Int) + n, x)], by omega, by omega, by go_num, rfl, hB3, Hgo.out, by show _ = _; rw [hpt.out, Hst.out]; simp, hdl'.out, by show _ = _; rw [tw_no (by simpa using hk) don]; exact hE.out⟩
        case measure => simp [intOf]; omega
    · have h1 : a = s.size := by omega
      have h2 : Hid (cutEnd (bys s) k = E) := by
        show _ = _
        rw [hE.out]
        unfold cutEnd
        rw [hpt.out, steps_stop (rd_end (by rw [Hbl.out]; omega)), List.append_nil]
      obtain ⟨hE0, hE1⟩ := Hcb.out
      rw [h2.out] at hE0 hE1
      have hsl := Hsl.out E hE0 hE1
      subst h1
      clear hfin hpt hdl hE
      go_wp2
      go_ret2
      exact ⟨by rw [h2.out]; rfl, hb⟩
theorem refcut_any (s : ByteArray) (hs : s.size ≤ 140737488351232) (k : Int) (w : World) :
    Calls Tryd.prog 42 #[.string s, .int .i64 k] w fun e w' => e = .returned (.tuple #[.string (cutR s k).1, .int .i64 (cutR s k).2]) ∧ Below w.heap.size w w' := by
  have _ := hs
  unfold cutR
  by_cases h : 1048576 < s.size
  · have h3 : shortE s = 3 := if_pos h
    rw [if_neg (by omega), if_neg (by rw [h3]; decide), h3]
    exact refcut_long s h k w
  · by_cases hk : k < 0
    · rw [if_pos ⟨hk, by omega⟩]
      exact refcut_neg s k hk (by omega) w
    · have e : shortE s = chkE (bys s) := if_neg h
      rw [if_neg (by omega)]
      by_cases he : shortE s = 0
      · rw [if_pos he]
        exact refcut_yes s k (by omega) he w
      · rw [if_neg he, e]
        exact refcut_bad s (by omega) (by rw [← e]; exact he) k (by omega) w
end Go.Proofs.YtdgpbminmlpebaaDoor
