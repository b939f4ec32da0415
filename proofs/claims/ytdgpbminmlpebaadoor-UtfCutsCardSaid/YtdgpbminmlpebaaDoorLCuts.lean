/-
  PROVED: gauger/gaugerlaw01.UtfCuts returns true for every input, and each argument reads afterwards as it read before.
  Conditions: those of the given row and card alone (package variable utf.beginnings starts as the program's text lays it; the card ties that to the text).
-/
import Derived.Test.YtdgpbminmlpebaaDoorLaw
import Derived.Test.YtdgpbminmlpebaaDoorAwake
import Derived.Test.YtdgpbminmlpebaaDoorOpen
import Derived.Test.YtdgpbminmlpebaaDoorMade
import Derived.Test.YtdgpbminmlpebaaDoorMath6
import Derived.Test.YtdgpbminmlpebaaDoorKitB

namespace Go.Proofs.YtdgpbminmlpebaaDoor.utfCuts
open Go.ChangeShapes Go.WideShapes Go.ChangeAt Go.RowKit Go.WideMaps Go.WideElems Mt
open Go.ChangeMaps (shut_map_nil open_string shut_string)


theorem params_ok : ∀ t ∈ Tryd.f9.params.toList, Tryd.prog.readableRec t = true ∧ t < Tryd.prog.types.size := by
  have h : Tryd.f9.params.toList.all (fun t => Tryd.prog.readableRec t && decide (t < Tryd.prog.types.size)) = true := by kernel_rfl
  intro t ht
  have := List.all_eq_true.1 h t ht
  simpa using this

set_option maxRecDepth 100000 in
set_option maxHeartbeats 2000000 in
theorem walk (zs : List Int) (hz : ∀ z ∈ zs, (Lit.int .u32 z).wf = true) (A : Option Addr) (n c : Nat) (x : Int) (hx : -9223372036854775808 ≤ x ∧ x ≤ 9223372036854775807) (w : World) (hr : Rd w w.heap.size A n (u32s zs)) (hnc : n ≤ c) (hc : c ≤ maxLen) (hT : Tab w) :
    Calls Tryd.prog 9 #[.slice A n c, .int .i64 x] w fun e w' => e = .returned (.bool true) ∧ Below w.heap.size w w' := by
  have hap := madeL_pt zs
  have hml := madeL_len zs
  have hfl := forms_len (madeL zs)
  have cm := fun (w' : World) (h : Below w.heap.size w w') => made_eq zs hz A n c w' ((hr.below h).more h.size) hnc hc
  generalize madeL zs = ps at *
  have hbt := bys_strOfNums (forms_bd hap)
  have hts : (strOfNums (forms ps)).size = (forms ps).length := strOfNums_size _
  have he : shortE (strOfNums (forms ps)) = 0 := by
    unfold shortE
    rw [if_neg (by omega), hbt, chkE_forms hap]
  have Hap := Lib.hid hap
  have ctx := fun (A : Option Addr) (c : Nat) (w : World) (hr : Rd w w.heap.size A ps.length (i64s ps)) => text_pts ps hap A ps.length c w hr (by omega)
  -- what one round needs, at whatever number
  have hrd : ∀ kk : Int, 0 ≤ kk → ∃ (C D : ByteArray) (y sz : Int), C.size ≤ (strOfNums (forms ps)).size ∧ (C.size : Int) ≤ kk ∧ (C.size < (strOfNums (forms ps)).size → 1 ≤ sz ∧ kk - C.size < sz) ∧
      (∀ w, Tab w → Calls Tryd.prog 20 #[.string (strOfNums (forms ps)), .int .i64 kk] w fun e w' => e = .returned (.tuple #[.string C, .int .i64 0]) ∧ Below w.heap.size w w') ∧
      (∀ W, (Instr.slice 9 (.string (strOfNums (forms ps))) none (some (.int .i64 (C.size : Int))) none).run Tryd.prog W = .ok (.string C) W) ∧
      (∀ W, (Instr.slice 9 (.string (strOfNums (forms ps))) (some (.int .i64 (C.size : Int))) none none).run Tryd.prog W = .ok (.string D) W) ∧
      (strOfNums (forms ps)).extract 0 C.size = C ∧ (strOfNums (forms ps)).extract C.size (strOfNums (forms ps)).size = D ∧
      (∀ w, Tab w → Calls Tryd.prog 25 #[.string C] w fun e w' => e = .returned (.bool true) ∧ Below w.heap.size w w') ∧
      (∀ w, Tab w → Calls Tryd.prog 25 #[.string D] w fun e w' => e = .returned (.bool true) ∧ Below w.heap.size w w') ∧
      (C.size < (strOfNums (forms ps)).size → ∀ w, Tab w → Calls Tryd.prog 26 #[.string (strOfNums (forms ps)), .int .i64 (C.size : Int)] w fun e w' => e = .returned (.tuple #[.int .i64 y, .int .i64 sz, .int .i64 0]) ∧ Below w.heap.size w w') := by
    intro kk hkk
    obtain ⟨j, hj, hce, hjk, hjx⟩ := cut_forms hap kk hkk
    have hbC := bys_strOfNums (forms_bd (hap.take j))
    have hbD := bys_strOfNums (forms_bd (hap.drop j))
    have hCs : (strOfNums (forms (ps.take j))).size = (forms (ps.take j)).length := strOfNums_size _
    have hDs : (strOfNums (forms (ps.drop j))).size = (forms (ps.drop j)).length := strOfNums_size _
    have hsum : (forms ps).length = (forms (ps.take j)).length + (forms (ps.drop j)).length := by
      conv => lhs; rw [← List.take_append_drop j ps, forms_append, List.length_append]
    have hjl : (forms (ps.take j)).length < (forms ps).length → j < ps.length := by
      intro h
      rcases Nat.lt_or_ge j ps.length with h' | h'
      · exact h'
      · rw [List.take_of_length_le h'] at h; omega
    refine ⟨strOfNums (forms (ps.take j)), strOfNums (forms (ps.drop j)), ps.getD j 0, szP (ps.getD j 0), by omega, by omega, fun h => ?_, fun w hT => ?_, fun W => ?_, fun W => ?_, ?_, ?_, fun w hT => ?_, fun w hT => ?_, fun h w hT => ?_⟩
    · have := hjx (hjl (by omega))
      have := szP_bd (ps.getD j 0)
      omega
    · have := cut_yes (strOfNums (forms ps)) (by omega) kk hkk he w hT
      rw [extTo _ _ hbt, hbt, hce, Int.toNat_natCast, forms_take] at this
      exact this
    · have := run_slice_string_h (P := Tryd.prog) W 9 (strOfNums (forms ps)) Tryd.underlying9 .i64 ((strOfNums (forms (ps.take j))).size : Int) (by omega) (by omega)
      rw [this, Int.toNat_natCast, extTo _ _ hbt, hCs, forms_take]
    · have := run_slice_string_l (P := Tryd.prog) W 9 (strOfNums (forms ps)) Tryd.underlying9 .i64 ((strOfNums (forms (ps.take j))).size : Int) (by omega) (by omega)
      rw [this, Int.toNat_natCast, extFrom _ _ hbt, hCs, forms_drop]
    · rw [extTo _ _ hbt, hCs, forms_take]
    · rw [extFrom _ _ hbt, hCs, forms_drop]
    · exact valid_yes _ (by omega) (by rw [hbC]; exact chkE_forms (hap.take j)) w hT
    · exact valid_yes _ (by omega) (by rw [hbD]; exact chkE_forms (hap.drop j)) w hT
    · have := back_read hap (hjl (by omega))
      rw [hCs]
      exact read_at _ _ _ _ _ (by rw [hbt]; exact this) (by omega) w hT
  have cneg := fun (k : Int) (hk : k < 0) (w : World) => cut_neg (strOfNums (forms ps)) k hk (by omega) w
  have ht8 : (strOfNums (forms ps)).size ≤ 800 := by omega
  clear hbt hts he hap hfl hz hr hnc hc
  generalize strOfNums (forms ps) = t at *
  have Hrd := Lib.hid hrd; have Hm := Lib.hid cm; have Htx := Lib.hid ctx; have HN := Lib.hid cneg
  clear hrd cm ctx cneg
  obtain ⟨hx0, hx1⟩ := hx
  have hpb := pickOf_bd x ((t.size : Int) + 3) (by omega)
  have HP := Lib.hid (fun w => pick_any x ((t.size : Int) + 3) (by omega) (by omega) w)
  have hl2 : ∀ (p q : Int), ∀ (W : World), ∀ j, j < 2 → (W.alloc (.cells (i64s [p, q]).toArray 3)).cell? ⟨W.heap.size, j, none⟩ = some (.int .i64 ([p, q].getD j 0)) := fun p q W j hj => by
    have := cells_new W (i64s [p, q]) 3 j _ (i64s_get [p, q] j hj)
    rwa [add0] at this
  have Hl2 := Lib.hid hl2
  clear hl2
  go_enter Tryd.func9, Tryd.ntmps9
  go_wp2_with fail
  refine (awake_any w hT).mono ?_
  rintro e w1 ⟨rfl, hB1⟩
  go_wp2_with fail
  refine (Hm.out w1 hB1).mono ?_
  rintro e w2 ⟨A2, c2, rfl, hr2, hb2⟩
  have hB2 : Below w.heap.size w w2 := hB1.trans (hb2.mono hB1.size)
  have Hr2 := Lib.hid hr2
  clear hr2
  go_wp2_with fail
  refine (Htx.out A2 c2 w2 Hr2.out).mono ?_
  rintro e w3 ⟨rfl, hb3⟩
  have hB3 : Below w.heap.size w w3 := hB2.trans (hb3.mono hB2.size)
  clear Hm Htx Hr2 hb2 hb3 hB1 hB2
  go_wp2_with fail
  refine (HP.out _).mono ?_
  rintro e w' ⟨rfl, rfl⟩
  generalize pickOf x ((t.size : Int) + 3) = p at *
  obtain ⟨hp0, hp1⟩ := hpb
  go_wp2_with fail
  have Hcs := Lib.hid (Hl2.out p (max x 0) w3)
  have HMX : Hid (∀ j, j < 2 → 0 ≤ [p, (max x 0)].getD j 0 ∧ [p, (max x 0)].getD j 0 ≤ 9223372036854775807) := by
    intro j hj
    rcases (by omega : j = 0 ∨ j = 1) with rfl | rfl
    · exact ⟨hp0, by show p ≤ _; omega⟩
    · exact ⟨by show (0 : Int) ≤ (max x 0); omega, by show ((max x 0) : Int) ≤ _; omega⟩
  go_loopw [33] (fun i wr => ∃ k : Nat, k ≤ 2 ∧ i = .int .i64 k ∧ Below w.heap.size w wr ∧ Below (w3.heap.size + 1) (w3.alloc (.cells (i64s [p, (max x 0)]).toArray 3)) wr) (fun i _ => 2 - (intOf i).toNat)
  case atStart => exact ⟨0, by omega, rfl, hB3.alloc hB3.size _, Below.refl _ _⟩
  case round =>
    obtain ⟨k, hk, rfl, hBr, hbr⟩ := hrel
    have Hbr := Lib.hid hbr
    have hsz : w3.heap.size + 1 ≤ wr.heap.size := by have := hbr.size; simp at this; exact this
    by_cases hk2 : k < 2
    · have hcell : wr.cell? ⟨w3.heap.size, k, none⟩ = some (.int .i64 ([p, (max x 0)].getD k 0)) := (hbr.cell (p := ⟨w3.heap.size, k, none⟩) (by show w3.heap.size < _; omega)).trans (Hcs.out k hk2)
      obtain ⟨hk0, hk1⟩ := HMX.out k hk2
      clear hbr
      generalize [p, (max x 0)].getD k 0 = kk at *
      obtain ⟨C, D, y, sz, hC1, hC2, hC3, q1, q2, q3, qC, qD, q4, q5, q6⟩ := Hrd.out kk hk0
      have Q1 := Lib.hid q1; have Q4 := Lib.hid q4; have Q5 := Lib.hid q5; have Q6 := Lib.hid q6
      clear q1 q4 q5 q6
      have f1 : ¬ kk < (C.size : Int) := by omega
      have f2 : ¬ (t.size : Int) < (C.size : Int) := by omega
      by_cases hCt : C.size = t.size
      · have e1 : ((C.size : Int) == (t.size : Int)) = true := by rw [hCt]; simp
        clear hCt
        clear hC3 Q6
        go_wp2_with fail
        refine (Q1.out _ (hT.below hBr)).mono ?_
        rintro e w4 ⟨rfl, hb4⟩
        have hB4 : Below w.heap.size w w4 := hBr.trans (hb4.mono hBr.size)
        go_wp2_with fail
        refine (Q4.out _ (hT.below hB4)).mono ?_
        rintro e w5 ⟨rfl, hb5⟩
        have hB5 : Below w.heap.size w w5 := hB4.trans (hb5.mono hB4.size)
        go_wp2_with fail
        refine (Q5.out _ (hT.below hB5)).mono ?_
        rintro e w6 ⟨rfl, hb6⟩
        have hB6 : Below w.heap.size w w6 := hB5.trans (hb6.mono hB5.size)
        have hx6 : Below wr.heap.size wr w6 := hb4.trans ((hb5.mono hb4.size).trans (hb6.mono (Nat.le_trans hb4.size hb5.size)))
        go_wp2_with fail
        go_roundw
        case rel => exact ⟨k + 1, by omega, by go_num, hB6, Hbr.out.trans (hx6.mono hsz)⟩
        case measure => first | (simp [intOf]; omega) | omega
      · have e1 : ((C.size : Int) == (t.size : Int)) = false := by rw [beq_eq_false_iff_ne]; omega
        have HCt := Lib.hid hCt
        clear hCt
        have Q7 := Lib.hid (Q6.out (by have := HCt.out; omega))
        obtain ⟨g1, g2⟩ := hC3 (by have := HCt.out; omega)
        have g3 : ¬ sz < 1 := by omega
        have g4 : ¬ sz ≤ kk - (C.size : Int) := by omega
        clear hC3 Q6
        go_wp2_with fail
        refine (Q1.out _ (hT.below hBr)).mono ?_
        rintro e w4 ⟨rfl, hb4⟩
        have hB4 : Below w.heap.size w w4 := hBr.trans (hb4.mono hBr.size)
        go_wp2_with fail
        refine (Q4.out _ (hT.below hB4)).mono ?_
        rintro e w5 ⟨rfl, hb5⟩
        have hB5 : Below w.heap.size w w5 := hB4.trans (hb5.mono hB4.size)
        go_wp2_with fail
        refine (Q5.out _ (hT.below hB5)).mono ?_
        rintro e w6 ⟨rfl, hb6⟩
        have hB6 : Below w.heap.size w w6 := hB5.trans (hb6.mono hB5.size)
        go_wp2_with fail
        refine (Q7.out _ (hT.below hB6)).mono ?_
        rintro e w7 ⟨rfl, hb7⟩
        have hB7 : Below w.heap.size w w7 := hB6.trans (hb7.mono hB6.size)
        have hx7 : Below wr.heap.size wr w7 := hb4.trans ((hb5.mono hb4.size).trans ((hb6.mono (Nat.le_trans hb4.size hb5.size)).trans (hb7.mono (Nat.le_trans hb4.size (Nat.le_trans hb5.size hb6.size)))))
        go_wp2_with fail
        go_roundw
        case rel => exact ⟨k + 1, by omega, by go_num, hB7, Hbr.out.trans (hx7.mono hsz)⟩
        case measure => first | (simp [intOf]; omega) | omega
    · clear hbr Hbr Hcs HMX Hl2 HP Hrd
      go_wp2_with fail
      refine (HN.out (min x (-1)) (by omega) _).mono ?_
      rintro e w4 ⟨rfl, hb4⟩
      go_wp2_with fail
      go_ret
      exact ⟨rfl, hBr.trans (hb4.mono hBr.size)⟩

set_option maxRecDepth 100000 in
/-- WHAT THE WALK GIVES, for every argument and every world that holds the table. -/
theorem contract (H : Type) (enc : TypeId × Value → H) (W : World) (base : Nat) (args : Array Value) (ds gs : List (DataW H)) (before : List MemPlace)
    (hval : ∀ (j : Nat) t v, Tryd.f9.params[j]? = some t → args[j]? = some v → Value.okWide Tryd.prog W .any base t v)
    (hW : DataW.Whole enc Tryd.prog Tryd.f9.params.toList Rows.utfCutsSpec.vars false W args.toList ds gs before) (hL : laidMetH Tryd.prog Rows.utfCutsRow.laid W) :
    Calls Tryd.prog 9 args W fun e W' => ∃ v, e = .returned v ∧ Rows.utfCutsSpec.post enc Tryd.prog Tryd.f9 false true false false W args v W' := by
  have hW' := hW
  have hT : Tab W := tab_of_laid hL
  obtain ⟨p, q, hA0, hV, rfl, hfz, hnd⟩ := hW
  have hA : DataW.TrodAll enc Tryd.prog W 0 (fun _ => true) true Tryd.f9.params.toList args.toList ds p := hA0
  rw [Tryd.params9] at hA hval
  obtain ⟨v0, vs0, d0, ds0, p0, q0, hargs, rfl, rfl, h0, r0⟩ := trodAll_cons hA
  obtain ⟨v1, vs1, d1, ds1, p1, q1, rfl, rfl, rfl, h1, r1⟩ := trodAll_cons r0
  obtain ⟨rfl, rfl, rfl⟩ := trodAll_nil r1
  obtain rfl : args = #[v0, v1] := by cases args; simp_all
  obtain ⟨rfl, rfl⟩ := trodVars_none hV
  obtain ⟨A0, n0, c0, zs0, rfl, hn0, hm0, hr0, hz0⟩ := open_rd Tryd.underlying39 Tryd.underlying52 (by kernel_rfl) (hval 0 39 v0 rfl rfl) h0
  obtain ⟨x1, rfl, rfl, rfl, w1⟩ := open_int Tryd.underlying3 (hval 1 3 v1 rfl rfl) h1
  have b1 := bounds_i64 w1
  refine (walk zs0 hz0 A0 n0 c0 x1 b1 W hr0 hn0 hm0 hT).mono fun e W' ⟨he, hb⟩ => ?_
  subst he
  exact ⟨_, rfl, law_post rfl rfl params_ok hW' rfl hb⟩

/-- A WORLD FOR THE WITNESS: the settled one, the table holding what its initialiser lays. -/
noncomputable def laidWorld (os : Os) : World :=
  { World.holding Tryd.prog os ⟨#[], #[], []⟩ with heap := (World.holding Tryd.prog os ⟨#[], #[], []⟩).heap.modify 0 fun
      | .cells _ t frozen => .cells tabV t frozen
      | o => o }
theorem laid_met (os : Os) : laidMet Tryd.prog Rows.utfCutsRow.laid ((laidWorld os).forCall (fun _ _ => 0) ⟨#[], #[.slice none 0 0, .int .i64 0], []⟩).memory :=
  laidMet_of_run' 8 (by kernel_rfl) (by kernel_rfl)
theorem reads (os : Os) {H : Type} (enc : TypeId × Value → H) : ∃ places, DataW.whole enc Tryd.prog ((laidWorld os).forCall (fun _ _ => 0) ⟨#[], #[.slice none 0 0, .int .i64 0], []⟩).memory Tryd.f9.params.toList Rows.utfCutsSpec.vars false (#[.slice none 0 0, .int .i64 0] : Array Value).toList 8 = some ([.nil, .lit (.int .i64 0)], [], places) :=
  ⟨[], by kernel_rfl⟩

set_option maxRecDepth 100000 in
/-- THE FIRST FORM's STEP. -/
theorem lifted (os : Os) (started : os.Started) (H : Type) (enc : TypeId × Value → H) (F : Stop.Interp) :
    ReturnsInHanded {} Tryd.checked os 9 .any ((OpenSpec.ofChange Rows.utfCutsSpec).preRow enc Tryd.prog Tryd.f9 Rows.utfCutsRow.domain false Rows.utfCutsRow.laid) (((OpenSpec.ofChange Rows.utfCutsSpec).at F).post enc Tryd.prog Tryd.f9 false true false false) := by
  obtain ⟨places, hx⟩ := reads os enc
  refine returnsInHanded_of_row (C := Tryd.checked) (s := OpenSpec.ofChange Rows.utfCutsSpec) gOwn started (by kernel_rfl) Tryd.func9
    (witness_row_at (enc := enc) (C := Tryd.checked) false (laidWorld os) #[.slice none 0 0, .int .i64 0] rfl (by kernel_rfl) (by kernel_rfl) (by kernel_rfl)
      (OpenSpec.preRow_of_cond 8 hx (by kernel_rfl) (fun k hk => by cases hk) (by kernel_rfl) (laid_met os))) ?_
  intro W base args ds gs before hval hW _ _ _ hL _ _
  exact contract H enc W base args ds gs before hval hW hL

theorem said : Rows.UtfCutsSaid :=
  OpenClaim.holds_of_cond 9 Tryd.f9 rfl rfl rfl rfl rfl rfl rfl ⟨rfl, rfl, rfl, rfl, rfl⟩ rfl rfl rfl rfl rfl (by kernel_rfl) Tryd.func9 (by kernel_rfl)
    (of_decide_eq_true (by kernel_rfl)) (by unfold Func.isWrapper; first | (rw [if_pos (by decide +kernel)]; kernel_rfl) | (rw [if_neg (by decide +kernel)]; exact ⟨rfl, rfl⟩))
    (fun os started H enc _ F => by rw [OpenClaim.pre_eq_preRow]; exact lifted os started H enc F)

/-- No parameter wants a stand-in; the program's own looks are off: what the card asks. -/
theorem plain (f : FuncId) (fn : Func) (hf : Tryd.pinned.checked.prog.funcNamed "gauger/gaugerlaw01.UtfCuts" = some f) (hfn : Tryd.pinned.checked.prog.funcs[f]? = some fn) :
    false = Tryd.pinned.checked.prog.looks [] ∧ ∀ (j : Nat) t, fn.params[j]? = some t → Tryd.pinned.checked.prog.wantsStandIn t = false := by
  obtain rfl : f = 9 := Option.some.inj ((show Tryd.prog.funcNamed "gauger/gaugerlaw01.UtfCuts" = some 9 by kernel_rfl).symm.trans hf) |>.symm
  obtain rfl : fn = Tryd.f9 := (Option.some.inj (Tryd.func9.symm.trans hfn)).symm
  refine ⟨by kernel_rfl, fun j t ht => ?_⟩
  have hm : t ∈ Tryd.f9.params := Array.mem_of_getElem? ht
  have hall : Tryd.f9.params.all (fun t => !Tryd.prog.wantsStandIn t) = true := by kernel_rfl
  have := (Array.all_eq_true_iff_forall_mem.1 hall) t hm
  have h2 : Tryd.prog.wantsStandIn t = false := by simpa using this
  exact h2

/-- THE CARD. -/
theorem card : Rows.UtfCutsCardSaid :=
  Claim7.holds_tied_plain_at .later [] _ _ _ _ said (fun _ h => by cases h) (by kernel_rfl) (fun _ h => by cases h) utfCuts_row_tie rfl ⟨rfl, rfl⟩ (by kernel_rfl) rfl plain (by kernel_rfl)
end Go.Proofs.YtdgpbminmlpebaaDoor.utfCuts
