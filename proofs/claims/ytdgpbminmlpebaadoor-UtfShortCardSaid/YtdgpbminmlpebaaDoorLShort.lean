/-
  PROVED: gauger/gaugerlaw01.UtfShort returns true for every input, and each argument reads afterwards as it read before.
  Conditions: those of the given row and card alone (package variable utf.beginnings starts as the program's text lays it; the card ties that to the text).
-/
import Derived.Test.YtdgpbminmlpebaaDoorLaw
import Derived.Test.YtdgpbminmlpebaaDoorAwake
import Derived.Test.YtdgpbminmlpebaaDoorOpen
import Derived.Test.YtdgpbminmlpebaaDoorMade
import Derived.Test.YtdgpbminmlpebaaDoorMath6

namespace Go.Proofs.YtdgpbminmlpebaaDoor.utfShort
open Go.ChangeShapes Go.WideShapes Go.ChangeAt Go.RowKit Go.WideMaps Go.WideElems Mt
open Go.ChangeMaps (shut_map_nil open_string shut_string)


theorem params_ok : ∀ t ∈ Tryd.f10.params.toList, Tryd.prog.readableRec t = true ∧ t < Tryd.prog.types.size := by
  have h : Tryd.f10.params.toList.all (fun t => Tryd.prog.readableRec t && decide (t < Tryd.prog.types.size)) = true := by kernel_rfl
  intro t ht
  have := List.all_eq_true.1 h t ht
  simpa using this

theorem strOfNums_bys (s : ByteArray) : strOfNums (bys s) = s := by
  apply ByteArray.ext
  unfold strOfNums bys
  apply Array.toList_inj.1
  simp [Function.comp_def]
theorem bys_inj {s t : ByteArray} (h : bys s = bys t) : s = t := by rw [← strOfNums_bys s, h, strOfNums_bys]
set_option maxRecDepth 100000 in
set_option maxHeartbeats 4000000 in
theorem walkEq (A : Option Addr) (n c : Nat) (ps : List Int) (t C P : ByteArray) (at_ : Int) (k m : Nat) (w : World) (hT : Tab w) (ha : 0 ≤ at_ ∧ at_ ≤ 65535) (hk : Hid (at_ % ((t.size : Int) + 1) = (k : Int))) (hkt : k ≤ t.size) (htz : t.size ≤ 800) (hC : C.size = m)
    (cm : ∀ w', Below w.heap.size w w' → Calls Tryd.prog 23 #[.slice A n c] w' fun e w2 => ∃ A2 c2, e = .returned (.slice A2 ps.length c2) ∧ Rd w2 w2.heap.size A2 ps.length (i64s ps) ∧ Below w'.heap.size w' w2)
    (ctx : ∀ A c w, Rd w w.heap.size A ps.length (i64s ps) → Calls Tryd.prog 21 #[.slice A ps.length c] w fun e w' => e = .returned (.tuple #[.string t, .int .i64 0]) ∧ Below w.heap.size w w')
    (cc : ∀ w, Tab w → Calls Tryd.prog 20 #[.string t, .int .i64 (k : Int)] w fun e w' => e = .returned (.tuple #[.string C, .int .i64 0]) ∧ Below w.heap.size w w')
    (hsl : ∀ W, (Instr.slice 9 (.string t) none (some (.int .i64 (k : Int))) none).run Tryd.prog W = .ok (.string P) W)
    (hm : m = k) (c1 : (∀ w, Tab w → Calls Tryd.prog 22 #[.string P] w fun e w' => e = .returned (.tuple #[.int .i64 (k : Int), .int .i64 0]) ∧ Below w.heap.size w w')) :
    Calls Tryd.prog 10 #[.slice A n c, .int .u16 at_] w fun e w' => e = .returned (.bool true) ∧ Below w.heap.size w w' := by
  have Hm := Lib.hid cm; have Htx := Lib.hid ctx; have HC := Lib.hid cc; have H1 := Lib.hid c1
  obtain ⟨ha0, ha1⟩ := ha
  subst hm
  have k0 : (0 : Int) ≤ m := by omega
  have k1 : ((m : Int)) ≤ t.size := by omega
  have p1 : (1 : Int) ≤ (t.size : Int) + 1 := by omega
  have e1 : ((C.size : Int) != (m : Int)) = false := by rw [hC]; simp
  have e2 : ((m : Int) == (m : Int)) = true := by simp
  have e3 : ((m : Int) != (C.size : Int)) = false := by rw [hC]; simp
  have e4 : ¬ (m : Int) < C.size := by omega
  clear cm ctx cc c1 hC
  go_enter Tryd.func10, Tryd.ntmps10
  go_wp2_with fail
  refine (awake_any w hT).mono ?_
  rintro e w1 ⟨rfl, hB1⟩
  go_wp2_with fail
  refine (Hm.out w1 hB1).mono ?_
  rintro e w2 ⟨A2, c2, rfl, hr2, hb2⟩
  have hB2 : Below w.heap.size w w2 := hB1.trans (hb2.mono hB1.size)
  have Hr2 := Lib.hid hr2
  clear hr2
  go_wp2_with fail
  refine (Htx.out A2 c2 w2 Hr2.out).mono ?_
  rintro e w3 ⟨rfl, hb3⟩
  have hB3 : Below w.heap.size w w3 := hB2.trans (hb3.mono hB2.size)
  go_wp2_with fail
  rw [hk.out]
  refine (HC.out _ (hT.below hB3)).mono ?_
  rintro e w4 ⟨rfl, hb4⟩
  have hB4 : Below w.heap.size w w4 := hB3.trans (hb4.mono hB3.size)
  go_wp2_with fail
  refine (H1.out _ (hT.below hB4)).mono ?_
  rintro e w5 ⟨rfl, hb5⟩
  have hB5 : Below w.heap.size w w5 := hB4.trans (hb5.mono hB4.size)
  go_wp2_with fail
  go_ret
  exact ⟨rfl, hB5⟩
set_option maxRecDepth 100000 in
set_option maxHeartbeats 4000000 in
theorem walkLt (A : Option Addr) (n c : Nat) (ps : List Int) (t C P : ByteArray) (at_ : Int) (k m : Nat) (w : World) (hT : Tab w) (ha : 0 ≤ at_ ∧ at_ ≤ 65535) (hk : Hid (at_ % ((t.size : Int) + 1) = (k : Int))) (hkt : k ≤ t.size) (htz : t.size ≤ 800) (hC : C.size = m)
    (cm : ∀ w', Below w.heap.size w w' → Calls Tryd.prog 23 #[.slice A n c] w' fun e w2 => ∃ A2 c2, e = .returned (.slice A2 ps.length c2) ∧ Rd w2 w2.heap.size A2 ps.length (i64s ps) ∧ Below w'.heap.size w' w2)
    (ctx : ∀ A c w, Rd w w.heap.size A ps.length (i64s ps) → Calls Tryd.prog 21 #[.slice A ps.length c] w fun e w' => e = .returned (.tuple #[.string t, .int .i64 0]) ∧ Below w.heap.size w w')
    (cc : ∀ w, Tab w → Calls Tryd.prog 20 #[.string t, .int .i64 (k : Int)] w fun e w' => e = .returned (.tuple #[.string C, .int .i64 0]) ∧ Below w.heap.size w w')
    (hsl : ∀ W, (Instr.slice 9 (.string t) none (some (.int .i64 (k : Int))) none).run Tryd.prog W = .ok (.string P) W)
    (hm : m < k) (hP : (P.size : Int) ≤ 1000)
    (c1 : (∀ w, Tab w → Calls Tryd.prog 22 #[.string P] w fun e w' => e = .returned (.tuple #[.int .i64 (m : Int), .int .i64 10]) ∧ Below w.heap.size w w')) (c2 : (∀ w, Tab w → Calls Tryd.prog 26 #[.string P, .int .i64 (m : Int)] w fun e w' => e = .returned (.tuple #[.int .i64 0, .int .i64 0, .int .i64 10]) ∧ Below w.heap.size w w')) (c3 : (∀ w, Tab w → Calls Tryd.prog 26 #[.string (P ++ ⟨#[65]⟩), .int .i64 (m : Int)] w fun e w' => e = .returned (.tuple #[.int .i64 0, .int .i64 0, .int .i64 11]) ∧ Below w.heap.size w w')) (c4 : (∀ w, Tab w → Calls Tryd.prog 22 #[.string (P ++ ⟨#[255]⟩)] w fun e w' => e = .returned (.tuple #[.int .i64 (m : Int), .int .i64 11]) ∧ Below w.heap.size w w')) :
    Calls Tryd.prog 10 #[.slice A n c, .int .u16 at_] w fun e w' => e = .returned (.bool true) ∧ Below w.heap.size w w' := by
  have Hm := Lib.hid cm; have Htx := Lib.hid ctx; have HC := Lib.hid cc; have H1 := Lib.hid c1; have H2 := Lib.hid c2; have H3 := Lib.hid c3; have H4 := Lib.hid c4
  obtain ⟨ha0, ha1⟩ := ha
  have k0 : (0 : Int) ≤ k := by omega
  have k1 : ((k : Int)) ≤ t.size := by omega
  have p1 : (1 : Int) ≤ (t.size : Int) + 1 := by omega
  have e2 : ((m : Int) == (k : Int)) = false := by rw [beq_eq_false_iff_ne]; omega
  have e5 : ((m : Int) == (m : Int)) = true := by simp
  have e3 : ((m : Int) != (C.size : Int)) = false := by rw [hC]; simp
  have e4 : ¬ (k : Int) < C.size := by omega
  clear cm ctx cc c1 c2 c3 c4 hC hm
  go_enter Tryd.func10, Tryd.ntmps10
  go_wp2_with fail
  refine (awake_any w hT).mono ?_
  rintro e w1 ⟨rfl, hB1⟩
  go_wp2_with fail
  refine (Hm.out w1 hB1).mono ?_
  rintro e w2 ⟨A2, c2, rfl, hr2, hb2⟩
  have hB2 : Below w.heap.size w w2 := hB1.trans (hb2.mono hB1.size)
  have Hr2 := Lib.hid hr2
  clear hr2
  go_wp2_with fail
  refine (Htx.out A2 c2 w2 Hr2.out).mono ?_
  rintro e w3 ⟨rfl, hb3⟩
  have hB3 : Below w.heap.size w w3 := hB2.trans (hb3.mono hB2.size)
  go_wp2_with fail
  rw [hk.out]
  refine (HC.out _ (hT.below hB3)).mono ?_
  rintro e w4 ⟨rfl, hb4⟩
  have hB4 : Below w.heap.size w w4 := hB3.trans (hb4.mono hB3.size)
  go_wp2_with fail
  refine (H1.out _ (hT.below hB4)).mono ?_
  rintro e w5 ⟨rfl, hb5⟩
  have hB5 : Below w.heap.size w w5 := hB4.trans (hb5.mono hB4.size)
  go_wp2_with fail
  refine (H2.out _ (hT.below hB5)).mono ?_
  rintro e w6 ⟨rfl, hb6⟩
  have hB6 : Below w.heap.size w w6 := hB5.trans (hb6.mono hB5.size)
  go_wp2_with fail
  refine (H3.out _ (hT.below hB6)).mono ?_
  rintro e w7 ⟨rfl, hb7⟩
  have hB7 : Below w.heap.size w w7 := hB6.trans (hb7.mono hB6.size)
  go_wp2_with fail
  refine (H4.out _ (hT.below hB7)).mono ?_
  rintro e w8 ⟨rfl, hb8⟩
  have hB8 : Below w.heap.size w w8 := hB7.trans (hb8.mono hB7.size)
  go_wp2_with fail
  go_ret
  exact ⟨rfl, hB8⟩
theorem check_at (s : ByteArray) (a e : Int) (h1 : (fin (bys s) : Int) = a) (h2 : chkE (bys s) = e) (hs : s.size ≤ 140737488351232) (w : World) (hT : Tab w) :
    Calls Tryd.prog 22 #[.string s] w fun e' w' => e' = .returned (.tuple #[.int .i64 a, .int .i64 e]) ∧ Below w.heap.size w w' := by
  have := check_any s hs w hT
  rwa [h1, h2] at this
theorem bys_append (s t : ByteArray) : bys (s ++ t) = bys s ++ bys t := by simp [bys]
theorem ext0 (t : ByteArray) (l : List Int) (h : bys t = l) (k : Nat) : t.extract 0 k = strOfNums (l.take k) := by
  apply bys_inj
  rw [bys_extract, h, List.drop_zero, Nat.sub_zero, bys_strOfNums]
  intro c hc
  exact bys_bd t c (by rw [h]; exact List.mem_of_mem_take hc)
theorem read_at' (s : ByteArray) (q : List Int) (pre : List Int) (hb : bys s = pre ++ q) (x n e : Int) (h : rd q = (x, n, e)) (hs : s.size ≤ 140737488351232) (w : World) (hT : Tab w) :
    Calls Tryd.prog 26 #[.string s, .int .i64 (pre.length : Int)] w fun e' w' => e' = .returned (.tuple #[.int .i64 x, .int .i64 n, .int .i64 e]) ∧ Below w.heap.size w w' := by
  refine read_at s _ x n e ?_ hs w hT
  unfold rdAt
  rw [hb, if_neg (by rw [List.length_append]; omega), Int.toNat_natCast, List.drop_left, h]
theorem walk (zs : List Int) (hz : ∀ z ∈ zs, (Lit.int .u32 z).wf = true) (A : Option Addr) (n c : Nat) (at_ : Int) (ha : 0 ≤ at_ ∧ at_ ≤ 65535) (w : World) (hr : Rd w w.heap.size A n (u32s zs)) (hnc : n ≤ c) (hc : c ≤ maxLen) (hT : Tab w) :
    Calls Tryd.prog 10 #[.slice A n c, .int .u16 at_] w fun e w' => e = .returned (.bool true) ∧ Below w.heap.size w w' := by
  have hap := madeL_pt zs
  have hml := madeL_len zs
  have hfl := forms_len (madeL zs)
  have cm := fun (w' : World) (h : Below w.heap.size w w') => made_eq zs hz A n c w' ((hr.below h).more h.size) hnc hc
  generalize madeL zs = ps at *
  have hbt := bys_strOfNums (forms_bd hap)
  have hts : (strOfNums (forms ps)).size = (forms ps).length := strOfNums_size _
  have he : shortE (strOfNums (forms ps)) = 0 := by
    unfold shortE
    rw [if_neg (by omega), hbt, chkE_forms hap]
  obtain ⟨k, hk⟩ := Int.eq_ofNat_of_zero_le (show 0 ≤ at_ % (((strOfNums (forms ps)).size : Int) + 1) from Int.emod_nonneg _ (by omega))
  have hkt : k ≤ (strOfNums (forms ps)).size := by have := Int.emod_lt_of_pos at_ (show (0 : Int) < ((strOfNums (forms ps)).size : Int) + 1 by omega); omega
  obtain ⟨j, hj, hce, hjk, hjx⟩ := cut_forms hap (k : Int) (by omega)
  have hbC := bys_strOfNums (forms_bd (hap.take j))
  have hCs : (strOfNums (forms (ps.take j))).size = (forms (ps.take j)).length := strOfNums_size _
  have hbP : bys (strOfNums ((forms ps).take k)) = (forms ps).take k := bys_strOfNums (fun c hc => forms_bd hap c (List.mem_of_mem_take hc))
  have hPs : (strOfNums ((forms ps).take k)).size = k := by rw [strOfNums_size, List.length_take]; omega
  have cc := fun (w : World) (hT : Tab w) => cut_yes (strOfNums (forms ps)) (by omega) (k : Int) (by omega) he w hT
  have e1 : (strOfNums (forms ps)).extract 0 (cutEnd (bys (strOfNums (forms ps))) k).toNat = strOfNums (forms (ps.take j)) := by
    rw [ext0 _ _ hbt, hbt, hce, Int.toNat_natCast, forms_take]
  rw [e1] at cc
  have hsl : ∀ W, (Instr.slice 9 (.string (strOfNums (forms ps))) none (some (.int .i64 (k : Int))) none).run Tryd.prog W = .ok (.string (strOfNums ((forms ps).take k))) W := by
    intro W
    have := run_slice_string_h (P := Tryd.prog) W 9 (strOfNums (forms ps)) Tryd.underlying9 .i64 (k : Int) (by omega) (by omega)
    rw [this, Int.toNat_natCast, ext0 _ _ hbt]
  have ctx := fun (A : Option Addr) (c : Nat) (w : World) (hr : Rd w w.heap.size A ps.length (i64s ps)) => text_pts ps hap A ps.length c w hr (by omega)
  by_cases hm : (forms (ps.take j)).length = k
  · refine walkEq A n c ps (strOfNums (forms ps)) _ (strOfNums ((forms ps).take k)) at_ k _ w hT ha hk hkt (by omega) hCs cm ctx cc hsl hm (fun w hT => check_at _ _ _ ?_ ?_ (by omega) w hT)
    · rw [hbP, ← hm, forms_take, fin_forms (hap.take j)]
    · rw [hbP, ← hm, forms_take, chkE_forms (hap.take j)]
  · have hmk : (forms (ps.take j)).length < k := by omega
    have hjl : j < ps.length := by
      rcases Nat.lt_or_ge j ps.length with h | h
      · exact h
      · rw [List.take_of_length_le h] at hmk; omega
    have hkx := hjx hjl
    have hsz := form_length (ps.getD j 0)
    obtain ⟨i, rfl⟩ : ∃ i, k = (forms (ps.take j)).length + i := ⟨k - (forms (ps.take j)).length, by omega⟩
    have hcut := rd_cut (getD_pt hap hjl) i (by omega) (by omega)
    have hq : (forms ps).take ((forms (ps.take j)).length + i) = forms (ps.take j) ++ (form (ps.getD j 0)).take i := by
      rw [List.take_add, forms_take, forms_drop, show ps.drop j = ps.getD j 0 :: ps.drop (j + 1) from by rw [List.drop_eq_getElem_cons hjl]; simp [List.getD, hjl], forms_cons, List.take_append_of_le_length (by omega)]
    have hne : (form (ps.getD j 0)).take i ≠ [] := by
      intro h
      have := congrArg List.length h
      rw [List.length_take, List.length_nil] at this
      omega
    rw [hq] at hbP
    have hd : (rd ((form (ps.getD j 0)).take i)).2.2 ≠ 0 := by rw [hcut.1]; decide
    have ha1 : bys (strOfNums ((forms ps).take ((forms (ps.take j)).length + i)) ++ ⟨#[65]⟩) = forms (ps.take j) ++ ((form (ps.getD j 0)).take i ++ [65]) := by rw [bys_append, hq, hbP, List.append_assoc]; rfl
    have ha2 : bys (strOfNums ((forms ps).take ((forms (ps.take j)).length + i)) ++ ⟨#[255]⟩) = forms (ps.take j) ++ ((form (ps.getD j 0)).take i ++ [255]) := by rw [bys_append, hq, hbP, List.append_assoc]; rfl
    have hz2 : ∀ b : UInt8, (strOfNums ((forms ps).take ((forms (ps.take j)).length + i)) ++ ⟨#[b]⟩).size ≤ 140737488351232 := by
      intro b
      have h1 : (⟨#[b]⟩ : ByteArray).size = 1 := rfl
      rw [ByteArray.size_append, h1, hPs]
      omega
    rw [hq] at hPs ha1 ha2 hz2 hsl
    refine walkLt A n c ps (strOfNums (forms ps)) _ (strOfNums (forms (ps.take j) ++ (form (ps.getD j 0)).take i)) at_ _ _ w hT ha hk hkt (by omega) hCs cm ctx cc hsl hmk (by omega) (fun w hT => check_at _ _ _ ?_ ?_ (by omega) w hT) (fun w hT => ?_) (fun w hT => ?_) (fun w hT => check_at _ _ _ ?_ ?_ (hz2 255) w hT)
    · rw [hbP, fin_stop (hap.take j) hd]
    · rw [hbP, chkE_stop (hap.take j) hd hne, hcut.1]
    · exact read_at' _ _ _ hbP _ _ _ hcut.1 (by omega) w hT
    · exact read_at' _ _ _ ha1 _ _ _ (hcut.2 65 (by omega)) (hz2 65) w hT
    · rw [ha2, fin_stop (hap.take j) (by rw [hcut.2 255 (by omega)]; decide)]
    · rw [ha2, chkE_stop (hap.take j) (by rw [hcut.2 255 (by omega)]; decide) (by simp), hcut.2 255 (by omega)]

set_option maxRecDepth 100000 in
/-- WHAT THE WALK GIVES, for every argument and every world that holds the table. -/
theorem contract (H : Type) (enc : TypeId × Value → H) (W : World) (base : Nat) (args : Array Value) (ds gs : List (DataW H)) (before : List MemPlace)
    (hval : ∀ (j : Nat) t v, Tryd.f10.params[j]? = some t → args[j]? = some v → Value.okWide Tryd.prog W .any base t v)
    (hW : DataW.Whole enc Tryd.prog Tryd.f10.params.toList Rows.utfShortSpec.vars false W args.toList ds gs before) (hL : laidMetH Tryd.prog Rows.utfShortRow.laid W) :
    Calls Tryd.prog 10 args W fun e W' => ∃ v, e = .returned v ∧ Rows.utfShortSpec.post enc Tryd.prog Tryd.f10 false true false false W args v W' := by
  have hW' := hW
  have hT : Tab W := tab_of_laid hL
  obtain ⟨p, q, hA0, hV, rfl, hfz, hnd⟩ := hW
  have hA : DataW.TrodAll enc Tryd.prog W 0 (fun _ => true) true Tryd.f10.params.toList args.toList ds p := hA0
  rw [Tryd.params10] at hA hval
  obtain ⟨v0, vs0, d0, ds0, p0, q0, hargs, rfl, rfl, h0, r0⟩ := trodAll_cons hA
  obtain ⟨v1, vs1, d1, ds1, p1, q1, rfl, rfl, rfl, h1, r1⟩ := trodAll_cons r0
  obtain ⟨rfl, rfl, rfl⟩ := trodAll_nil r1
  obtain rfl : args = #[v0, v1] := by cases args; simp_all
  obtain ⟨rfl, rfl⟩ := trodVars_none hV
  obtain ⟨A0, n0, c0, zs0, rfl, hn0, hm0, hr0, hz0⟩ := open_rd Tryd.underlying39 Tryd.underlying52 (by kernel_rfl) (hval 0 39 v0 rfl rfl) h0
  obtain ⟨x1, rfl, rfl, rfl, w1⟩ := open_int Tryd.underlying50 (hval 1 50 v1 rfl rfl) h1
  have b1 := bounds_u16 w1
  refine (walk zs0 hz0 A0 n0 c0 x1 b1 W hr0 hn0 hm0 hT).mono fun e W' ⟨he, hb⟩ => ?_
  subst he
  exact ⟨_, rfl, law_post rfl rfl params_ok hW' rfl hb⟩

/-- A WORLD FOR THE WITNESS: the settled one, the table holding what its initialiser lays. -/
noncomputable def laidWorld (os : Os) : World :=
  { World.holding Tryd.prog os ⟨#[], #[], []⟩ with heap := (World.holding Tryd.prog os ⟨#[], #[], []⟩).heap.modify 0 fun
      | .cells _ t frozen => .cells tabV t frozen
      | o => o }
theorem laid_met (os : Os) : laidMet Tryd.prog Rows.utfShortRow.laid ((laidWorld os).forCall (fun _ _ => 0) ⟨#[], #[.slice none 0 0, .int .u16 0], []⟩).memory :=
  laidMet_of_run' 8 (by kernel_rfl) (by kernel_rfl)
theorem reads (os : Os) {H : Type} (enc : TypeId × Value → H) : ∃ places, DataW.whole enc Tryd.prog ((laidWorld os).forCall (fun _ _ => 0) ⟨#[], #[.slice none 0 0, .int .u16 0], []⟩).memory Tryd.f10.params.toList Rows.utfShortSpec.vars false (#[.slice none 0 0, .int .u16 0] : Array Value).toList 8 = some ([.nil, .lit (.int .u16 0)], [], places) :=
  ⟨[], by kernel_rfl⟩

set_option maxRecDepth 100000 in
/-- THE FIRST FORM's STEP. -/
theorem lifted (os : Os) (started : os.Started) (H : Type) (enc : TypeId × Value → H) (F : Stop.Interp) :
    ReturnsInHanded {} Tryd.checked os 10 .any ((OpenSpec.ofChange Rows.utfShortSpec).preRow enc Tryd.prog Tryd.f10 Rows.utfShortRow.domain false Rows.utfShortRow.laid) (((OpenSpec.ofChange Rows.utfShortSpec).at F).post enc Tryd.prog Tryd.f10 false true false false) := by
  obtain ⟨places, hx⟩ := reads os enc
  refine returnsInHanded_of_row (C := Tryd.checked) (s := OpenSpec.ofChange Rows.utfShortSpec) gOwn started (by kernel_rfl) Tryd.func10
    (witness_row_at (enc := enc) (C := Tryd.checked) false (laidWorld os) #[.slice none 0 0, .int .u16 0] rfl (by kernel_rfl) (by kernel_rfl) (by kernel_rfl)
      (OpenSpec.preRow_of_cond 8 hx (by kernel_rfl) (fun k hk => by cases hk) (by kernel_rfl) (laid_met os))) ?_
  intro W base args ds gs before hval hW _ _ _ hL _ _
  exact contract H enc W base args ds gs before hval hW hL

theorem said : Rows.UtfShortSaid :=
  OpenClaim.holds_of_cond 10 Tryd.f10 rfl rfl rfl rfl rfl rfl rfl ⟨rfl, rfl, rfl, rfl, rfl⟩ rfl rfl rfl rfl rfl (by kernel_rfl) Tryd.func10 (by kernel_rfl)
    (of_decide_eq_true (by kernel_rfl)) (by unfold Func.isWrapper; first | (rw [if_pos (by decide +kernel)]; kernel_rfl) | (rw [if_neg (by decide +kernel)]; exact ⟨rfl, rfl⟩))
    (fun os started H enc _ F => by rw [OpenClaim.pre_eq_preRow]; exact lifted os started H enc F)

/-- No parameter wants a stand-in; the program's own looks are off: what the card asks. -/
theorem plain (f : FuncId) (fn : Func) (hf : Tryd.pinned.checked.prog.funcNamed "gauger/gaugerlaw01.UtfShort" = some f) (hfn : Tryd.pinned.checked.prog.funcs[f]? = some fn) :
    false = Tryd.pinned.checked.prog.looks [] ∧ ∀ (j : Nat) t, fn.params[j]? = some t → Tryd.pinned.checked.prog.wantsStandIn t = false := by
  obtain rfl : f = 10 := Option.some.inj ((show Tryd.prog.funcNamed "gauger/gaugerlaw01.UtfShort" = some 10 by kernel_rfl).symm.trans hf) |>.symm
  obtain rfl : fn = Tryd.f10 := (Option.some.inj (Tryd.func10.symm.trans hfn)).symm
  refine ⟨by kernel_rfl, fun j t ht => ?_⟩
  have hm : t ∈ Tryd.f10.params := Array.mem_of_getElem? ht
  have hall : Tryd.f10.params.all (fun t => !Tryd.prog.wantsStandIn t) = true := by kernel_rfl
  have := (Array.all_eq_true_iff_forall_mem.1 hall) t hm
  have h2 : Tryd.prog.wantsStandIn t = false := by simpa using this
  exact h2

/-- THE CARD. -/
theorem card : Rows.UtfShortCardSaid :=
  Claim7.holds_tied_plain_at .later [] _ _ _ _ said (fun _ h => by cases h) (by kernel_rfl) (fun _ h => by cases h) utfShort_row_tie rfl ⟨rfl, rfl⟩ (by kernel_rfl) rfl plain (by kernel_rfl)
end Go.Proofs.YtdgpbminmlpebaaDoor.utfShort
