/-
  PROVED: gauger/gaugerlaw01.UtfOrder returns true for every input, and each argument reads afterwards as it read before.
  Conditions: those of the given row and card alone (package variable utf.beginnings starts as the program's text lays it; the card ties that to the text).
-/
import Derived.Test.YtdgpbminmlpebaaDoorLaw
import Derived.Test.YtdgpbminmlpebaaDoorAwake
import Derived.Test.YtdgpbminmlpebaaDoorOpen
import Derived.Test.YtdgpbminmlpebaaDoorMade
import Derived.Test.YtdgpbminmlpebaaDoorMath7
import Derived.Test.YtdgpbminmlpebaaDoorKitB
import Derived.WalkLawsBesides

namespace Go.Proofs.YtdgpbminmlpebaaDoor.utfOrder
open Go.ChangeShapes Go.WideShapes Go.ChangeAt Go.RowKit Go.WideMaps Go.WideElems Mt
open Go.ChangeMaps (shut_map_nil open_string shut_string)


theorem params_ok : ∀ t ∈ Tryd.f8.params.toList, Tryd.prog.readableRec t = true ∧ t < Tryd.prog.types.size := by
  have h : Tryd.f8.params.toList.all (fun t => Tryd.prog.readableRec t && decide (t < Tryd.prog.types.size)) = true := by kernel_rfl
  intro t ht
  have := List.all_eq_true.1 h t ht
  simpa using this

theorem less_bytes (a b : List UInt8) : Op.bytesLess a b = ltL (a.map fun c => (c.toNat : Int)) (b.map fun c => (c.toNat : Int)) := by
  induction a generalizing b with
  | nil => cases b <;> rfl
  | cons x a ih =>
    cases b with
    | nil => rfl
    | cons y b =>
      simp only [Op.bytesLess, List.map_cons, ltL]
      rw [ih b]
      have e1 : (x < y) = ((x.toNat : Int) < (y.toNat : Int)) := by rw [UInt8.lt_iff_toNat_lt]; simp
      by_cases h1 : (x.toNat : Int) < (y.toNat : Int)
      · rw [if_pos h1]; simp [e1, h1]
      · rw [if_neg h1]
        by_cases h2 : (y.toNat : Int) < (x.toNat : Int)
        · rw [if_pos h2]
          have h3 : (x == y) = false := by
            rw [beq_eq_false_iff_ne]
            rintro rfl
            omega
          simp [e1, h1, h3]
        · rw [if_neg h2]
          have h3 : x = y := UInt8.toNat_inj.1 (by omega)
          subst h3
          simp [e1]
theorem less_str (s t : ByteArray) : Op.bytesLess s.toList t.toList = ltL (bys s) (bys t) := by
  rw [Lib.toList_data, Lib.toList_data, less_bytes]
  rfl
theorem i64s_inj {a b : List Int} (h : i64s a = i64s b) : a = b := by
  have := congrArg (List.map fun v => match v with | Value.int _ q => q | _ => 0) h
  simpa [i64s, Function.comp_def] using this
theorem same_ints_E (w : World) (B : Nat) (A A' : Option Addr) (n n' c c' : Nat) (xs ys : List Int) (hx : Rd w B A n (i64s xs)) (hy : Rd w B A' n' (i64s ys)) (hn : n ≤ 140737488355328) (E : Bool) (hE : E = decide (xs = ys)) :
    Calls Tryd.prog 24 #[.slice A n c, .slice A' n' c'] w fun e w' => e = .returned (.bool E) ∧ Below w.heap.size w w' := by
  refine (same_ints w B A A' n n' c c' xs ys hx hy hn).mono ?_
  rintro e w' ⟨b, rfl, h, q, rfl⟩
  have : b = E := by
    rw [hE, Bool.eq_iff_iff, h, decide_eq_true_iff]
    exact ⟨i64s_inj, fun e => by rw [e]⟩
  rw [this]
  exact ⟨rfl, below_drewN (Below.refl _ _) q⟩
set_option maxRecDepth 100000 in
set_option maxHeartbeats 2000000 in
theorem walk (zs ys : List Int) (hz : ∀ z ∈ zs, (Lit.int .u32 z).wf = true) (hy : ∀ z ∈ ys, (Lit.int .u32 z).wf = true) (A A' : Option Addr) (n n' c c' : Nat) (w : World) (hr : Rd w w.heap.size A n (u32s zs)) (hnc : n ≤ c) (hc : c ≤ maxLen) (hr' : Rd w w.heap.size A' n' (u32s ys)) (hnc' : n' ≤ c') (hc' : c' ≤ maxLen) (hT : Tab w) :
    Calls Tryd.prog 8 #[.slice A n c, .slice A' n' c'] w fun e w' => e = .returned (.bool true) ∧ Below w.heap.size w w' := by
  have hap := madeL_pt zs
  have haq := madeL_pt ys
  have hml := madeL_len zs
  have hmq := madeL_len ys
  have cm := fun (w' : World) (h : Below w.heap.size w w') => made_eq zs hz A n c w' ((hr.below h).more h.size) hnc hc
  have cq := fun (w' : World) (h : Below w.heap.size w w') => made_eq ys hy A' n' c' w' ((hr'.below h).more h.size) hnc' hc'
  generalize madeL zs = ps at *
  generalize madeL ys = qs at *
  have ctx := fun (A : Option Addr) (c : Nat) (w : World) (hr : Rd w w.heap.size A ps.length (i64s ps)) => text_pts ps hap A ps.length c w hr (by omega)
  have ctq := fun (A : Option Addr) (c : Nat) (w : World) (hr : Rd w w.heap.size A qs.length (i64s qs)) => text_pts qs haq A qs.length c w hr (by omega)
  have hbs := bys_strOfNums (forms_bd hap)
  have hbt := bys_strOfNums (forms_bd haq)
  have hls : Op.bytesLess (strOfNums (forms ps)).toList (strOfNums (forms qs)).toList = ltL ps qs := by rw [less_str, hbs, hbt, ltL_forms hap haq]
  obtain ⟨E, hE⟩ : ∃ E : Bool, E = decide (ps = qs) := ⟨_, rfl⟩
  have hst2 : ((strOfNums (forms ps)).toList == (strOfNums (forms qs)).toList) = E := by
    rw [hE, Bool.eq_iff_iff, beq_iff_eq, decide_eq_true_iff, Lib.toList_data, Lib.toList_data]
    constructor
    · intro h
      have := congrArg bys (ByteArray.ext (Array.toList_inj.1 h))
      rw [hbs, hbt] at this
      exact forms_inj hap haq this
    · intro h; rw [h]
  clear hbs hbt hap haq hz hy hr hr' hnc hnc' hc hc'
  generalize strOfNums (forms ps) = s at *
  generalize strOfNums (forms qs) = t at *
  have HE := Lib.hid hE; have Hls := Lib.hid hls; have Hm := Lib.hid cm; have Hq := Lib.hid cq; have Htx := Lib.hid ctx; have Htq := Lib.hid ctq
  clear hE hls cm cq ctx ctq
  obtain ⟨M, hM⟩ : ∃ M : Nat, M = min ps.length qs.length := ⟨_, rfl⟩
  have hM1 : M ≤ ps.length := by omega
  have hM2 : M ≤ qs.length := by omega
  have hM3 : M = ps.length ∨ M = qs.length := by omega
  have HM3 := Lib.hid hM3
  have hmin : min (ps.length : Int) (qs.length : Int) = (M : Int) := by omega
  clear hM hM3
  go_enter Tryd.func8, Tryd.ntmps8
  go_wp2_with fail
  refine (awake_any w hT).mono ?_
  rintro e w1 ⟨rfl, hB1⟩
  go_wp2_with fail
  refine (Hm.out w1 hB1).mono ?_
  rintro e w2 ⟨A2, c2, rfl, hr2, hb2⟩
  have hB2 : Below w.heap.size w w2 := hB1.trans (hb2.mono hB1.size)
  have Hr2 := Lib.hid hr2
  clear hr2
  go_wp2_with fail
  refine (Hq.out w2 hB2).mono ?_
  rintro e w3 ⟨A3, c3, rfl, hr3, hb3⟩
  have hB3 : Below w.heap.size w w3 := hB2.trans (hb3.mono hB2.size)
  have Hr3 := Lib.hid hr3
  have H23 := Lib.hid ((Hr2.out.below hb3).more hb3.size)
  clear hr3 Hr2
  go_wp2_with fail
  refine (Htx.out A2 c2 w3 H23.out).mono ?_
  rintro e w4 ⟨rfl, hb4⟩
  have hB4 : Below w.heap.size w w4 := hB3.trans (hb4.mono hB3.size)
  go_wp2_with fail
  refine (Htq.out A3 c3 w4 ((Hr3.out.below hb4).more hb4.size)).mono ?_
  rintro e w5 ⟨rfl, hb5⟩
  have hB5 : Below w.heap.size w w5 := hB4.trans (hb5.mono hB4.size)
  have hx5 : Below w3.heap.size w3 w5 := hb4.trans (hb5.mono hb4.size)
  go_wp2_with fail
  refine (same_ints_E w5 w5.heap.size A2 A3 ps.length qs.length c2 c3 ps qs ((H23.out.below hx5).more hx5.size) ((Hr3.out.below hx5).more hx5.size) (by omega) E HE.out).mono ?_
  rintro e w6 ⟨rfl, hb6⟩
  have hB6 : Below w.heap.size w w6 := hB5.trans (hb6.mono hB5.size)
  have hx6 : Below w3.heap.size w3 w6 := hx5.trans (hb6.mono hx5.size)
  clear hb2 hb3 hb4 hb5 hb6 hB1 hB2 hB3 hB4 hB5 hx5 Hm Hq Htx Htq
  go_wp2_with fail
  go_loopw [11] (fun i wr => ∃ k : Nat, k ≤ ps.length ∧ k ≤ qs.length ∧ i = .int .i64 k ∧ Hid (ps.take k = qs.take k) ∧ Below w.heap.size w wr ∧ Below w3.heap.size w3 wr) (fun i _ => ps.length - (intOf i).toNat)
  case atStart => exact ⟨0, by omega, by omega, rfl, rfl, hB6, hx6⟩
  case round =>
    obtain ⟨k, hk1, hk2, rfl, htk, hBr, hxr⟩ := hrel
    have i0 : (0 : Int) ≤ k := by omega
    by_cases hkM : k < M
    · have hkp : k < ps.length := by omega
      have hkq : k < qs.length := by omega
      obtain ⟨ad, u, rfl, hadb, hu, hcu⟩ := H23.out.at_ hkp
      obtain ⟨bd, v, rfl, hbdb, hv, hcv⟩ := Hr3.out.at_ hkq
      rw [i64s_get ps k hkp] at hu
      rw [i64s_get qs k hkq] at hv
      obtain rfl := Option.some.inj hu
      obtain rfl := Option.some.inj hv
      have hcu' : wr.cell? (ad.add k) = some (.int .i64 (ps.getD k 0)) := (hxr.cell (p := ad.add k) (by rw [addBlock]; exact hadb)).trans hcu
      have hcv' : wr.cell? (bd.add k) = some (.int .i64 (qs.getD k 0)) := (hxr.cell (p := bd.add k) (by rw [addBlock]; exact hbdb)).trans hcv
      have Hts := Lib.hid (show ps.getD k 0 = qs.getD k 0 → ps.take (k + 1) = qs.take (k + 1) from fun h => by rw [take_snoc' hkp, take_snoc' hkq, htk.out, h])
      have Hlt := Lib.hid (show ltL ps qs = if ps.getD k 0 < qs.getD k 0 then true else if qs.getD k 0 < ps.getD k 0 then false else ltL (ps.drop (k + 1)) (qs.drop (k + 1)) from by rw [ltL_drop htk.out, drop_cons hkp, drop_cons hkq]; rfl)
      clear hu hv hcu hcv
      generalize ps.getD k 0 = x at *
      generalize qs.getD k 0 = y at *
      have i1 : (k : Int) < ps.length := by omega
      have i2 : (k : Int) < qs.length := by omega
      have i3 : (k : Int) < M := by omega
      have i4 : decide (k < M) = true := by simpa using hkM
      by_cases he : x = y
      · have e1 : (x == y) = true := by simp [he]
        have Hte := Lib.hid (Hts.out he)
        clear he Hts Hlt
        go_wp2
        go_quiet (fail)
        go_wp2_with fail
        go_roundw
        case rel => exact ⟨k + 1, by omega, by omega, by go_num, Hte, below_drewN hBr _, below_drewN hxr _⟩
        case measure => first | (simp [intOf]; omega) | omega
      · have e1 : (x == y) = false := by simpa using he
        have Hne := Lib.hid he
        have i5 : ((k : Int) == (ps.length : Int)) = false := by rw [beq_eq_false_iff_ne]; omega
        have Hl2 : Hid (Op.bytesLess s.toList t.toList = decide (x < y)) := by
          show _ = _
          rw [Hls.out, Hlt.out]
          by_cases h : x < y
          · simp [h]
          · rw [if_neg h, if_pos (by have := Hne.out; omega)]; simp [h]
        have hl2 := Hl2.out
        clear he Hts Hlt
        go_wp2
        go_quiet (fail)
        go_wp2_with fail
        go_quiet (fail)
        go_wp2_with fail
        go_ret
        exact ⟨rfl, below_drewN hBr _⟩
    · have hke : k = M := by omega
      have i4 : decide (k < M) = false := by simp; omega
      have i6 : ¬ (k : Int) < M := by omega
      by_cases hkp : k = ps.length
      · have i5 : ((k : Int) == (ps.length : Int)) = true := by rw [beq_iff_eq]; omega
        by_cases hkq : k < qs.length
        · have hl2 : Hid (Op.bytesLess s.toList t.toList = true) := by
            show _ = _
            rw [Hls.out, ltL_drop htk.out, List.drop_of_length_le (show ps.length ≤ k by omega), drop_cons hkq]; rfl
          have hl3 := hl2.out
          have i2 : (k : Int) < qs.length := by omega
          clear hke hkM hkp
          go_wp2
          go_quiet (fail)
          go_wp2_with fail
          go_ret
          exact ⟨rfl, below_drewN hBr _⟩
        · have hl2 : Hid (Op.bytesLess s.toList t.toList = false) := by
            show _ = _
            rw [Hls.out, ltL_drop htk.out, List.drop_of_length_le (show qs.length ≤ k by omega), ltL_nil]
          have hl3 := hl2.out
          have i2 : ¬ (k : Int) < qs.length := by omega
          clear hke hkM hkp
          go_wp2
          go_quiet (fail)
          go_wp2_with fail
          go_ret
          exact ⟨rfl, below_drewN hBr _⟩
      · have i5 : ((k : Int) == (ps.length : Int)) = false := by rw [beq_eq_false_iff_ne]; omega
        have hl2 : Hid (Op.bytesLess s.toList t.toList = false) := by
          show _ = _
          rw [Hls.out, ltL_drop htk.out, List.drop_of_length_le (show qs.length ≤ k by have := HM3.out; omega), ltL_nil]
        have hl3 := hl2.out
        clear hke hkM hkp
        go_wp2
        go_quiet (fail)
        go_wp2_with fail
        go_ret
        exact ⟨rfl, below_drewN hBr _⟩

set_option maxRecDepth 100000 in
/-- WHAT THE WALK GIVES, for every argument and every world that holds the table. -/
theorem contract (H : Type) (enc : TypeId × Value → H) (W : World) (base : Nat) (args : Array Value) (ds gs : List (DataW H)) (before : List MemPlace)
    (hval : ∀ (j : Nat) t v, Tryd.f8.params[j]? = some t → args[j]? = some v → Value.okWide Tryd.prog W .any base t v)
    (hW : DataW.Whole enc Tryd.prog Tryd.f8.params.toList Rows.utfOrderSpec.vars false W args.toList ds gs before) (hL : laidMetH Tryd.prog Rows.utfOrderRow.laid W) :
    Calls Tryd.prog 8 args W fun e W' => ∃ v, e = .returned v ∧ Rows.utfOrderSpec.post enc Tryd.prog Tryd.f8 false true false false W args v W' := by
  have hW' := hW
  have hT : Tab W := tab_of_laid hL
  obtain ⟨p, q, hA0, hV, rfl, hfz, hnd⟩ := hW
  have hA : DataW.TrodAll enc Tryd.prog W 0 (fun _ => true) true Tryd.f8.params.toList args.toList ds p := hA0
  rw [Tryd.params8] at hA hval
  obtain ⟨v0, vs0, d0, ds0, p0, q0, hargs, rfl, rfl, h0, r0⟩ := trodAll_cons hA
  obtain ⟨v1, vs1, d1, ds1, p1, q1, rfl, rfl, rfl, h1, r1⟩ := trodAll_cons r0
  obtain ⟨rfl, rfl, rfl⟩ := trodAll_nil r1
  obtain rfl : args = #[v0, v1] := by cases args; simp_all
  obtain ⟨rfl, rfl⟩ := trodVars_none hV
  obtain ⟨A0, n0, c0, zs0, rfl, hn0, hm0, hr0, hz0⟩ := open_rd Tryd.underlying39 Tryd.underlying52 (by kernel_rfl) (hval 0 39 v0 rfl rfl) h0
  obtain ⟨A1, n1, c1, zs1, rfl, hn1, hm1, hr1, hz1⟩ := open_rd Tryd.underlying39 Tryd.underlying52 (by kernel_rfl) (hval 1 39 v1 rfl rfl) h1
  refine (walk zs0 zs1 hz0 hz1 A0 A1 n0 n1 c0 c1 W hr0 hn0 hm0 hr1 hn1 hm1 hT).mono fun e W' ⟨he, hb⟩ => ?_
  subst he
  exact ⟨_, rfl, law_post rfl rfl params_ok hW' rfl hb⟩

/-- A WORLD FOR THE WITNESS: the settled one, the table holding what its initialiser lays. -/
noncomputable def laidWorld (os : Os) : World :=
  { World.holding Tryd.prog os ⟨#[], #[], []⟩ with heap := (World.holding Tryd.prog os ⟨#[], #[], []⟩).heap.modify 0 fun
      | .cells _ t frozen => .cells tabV t frozen
      | o => o }
theorem laid_met (os : Os) : laidMet Tryd.prog Rows.utfOrderRow.laid ((laidWorld os).forCall (fun _ _ => 0) ⟨#[], #[.slice none 0 0, .slice none 0 0], []⟩).memory :=
  laidMet_of_run' 8 (by kernel_rfl) (by kernel_rfl)
theorem reads (os : Os) {H : Type} (enc : TypeId × Value → H) : ∃ places, DataW.whole enc Tryd.prog ((laidWorld os).forCall (fun _ _ => 0) ⟨#[], #[.slice none 0 0, .slice none 0 0], []⟩).memory Tryd.f8.params.toList Rows.utfOrderSpec.vars false (#[.slice none 0 0, .slice none 0 0] : Array Value).toList 8 = some ([.nil, .nil], [], places) :=
  ⟨[], by kernel_rfl⟩

set_option maxRecDepth 100000 in
/-- THE FIRST FORM's STEP. -/
theorem lifted (os : Os) (started : os.Started) (H : Type) (enc : TypeId × Value → H) (F : Stop.Interp) :
    ReturnsInHanded {} Tryd.checked os 8 .any ((OpenSpec.ofChange Rows.utfOrderSpec).preRow enc Tryd.prog Tryd.f8 Rows.utfOrderRow.domain false Rows.utfOrderRow.laid) (((OpenSpec.ofChange Rows.utfOrderSpec).at F).post enc Tryd.prog Tryd.f8 false true false false) := by
  obtain ⟨places, hx⟩ := reads os enc
  refine returnsInHanded_of_row (C := Tryd.checked) (s := OpenSpec.ofChange Rows.utfOrderSpec) gOwn started (by kernel_rfl) Tryd.func8
    (witness_row_at (enc := enc) (C := Tryd.checked) false (laidWorld os) #[.slice none 0 0, .slice none 0 0] rfl (by kernel_rfl) (by kernel_rfl) (by kernel_rfl)
      (OpenSpec.preRow_of_cond 8 hx (by kernel_rfl) (fun k hk => by cases hk) (by kernel_rfl) (laid_met os))) ?_
  intro W base args ds gs before hval hW _ _ _ hL _ _
  exact contract H enc W base args ds gs before hval hW hL

theorem said : Rows.UtfOrderSaid :=
  OpenClaim.holds_of_cond 8 Tryd.f8 rfl rfl rfl rfl rfl rfl rfl ⟨rfl, rfl, rfl, rfl, rfl⟩ rfl rfl rfl rfl rfl (by kernel_rfl) Tryd.func8 (by kernel_rfl)
    (of_decide_eq_true (by kernel_rfl)) (by unfold Func.isWrapper; first | (rw [if_pos (by decide +kernel)]; kernel_rfl) | (rw [if_neg (by decide +kernel)]; exact ⟨rfl, rfl⟩))
    (fun os started H enc _ F => by rw [OpenClaim.pre_eq_preRow]; exact lifted os started H enc F)

/-- No parameter wants a stand-in; the program's own looks are off: what the card asks. -/
theorem plain (f : FuncId) (fn : Func) (hf : Tryd.pinned.checked.prog.funcNamed "gauger/gaugerlaw01.UtfOrder" = some f) (hfn : Tryd.pinned.checked.prog.funcs[f]? = some fn) :
    false = Tryd.pinned.checked.prog.looks [] ∧ ∀ (j : Nat) t, fn.params[j]? = some t → Tryd.pinned.checked.prog.wantsStandIn t = false := by
  obtain rfl : f = 8 := Option.some.inj ((show Tryd.prog.funcNamed "gauger/gaugerlaw01.UtfOrder" = some 8 by kernel_rfl).symm.trans hf) |>.symm
  obtain rfl : fn = Tryd.f8 := (Option.some.inj (Tryd.func8.symm.trans hfn)).symm
  refine ⟨by kernel_rfl, fun j t ht => ?_⟩
  have hm : t ∈ Tryd.f8.params := Array.mem_of_getElem? ht
  have hall : Tryd.f8.params.all (fun t => !Tryd.prog.wantsStandIn t) = true := by kernel_rfl
  have := (Array.all_eq_true_iff_forall_mem.1 hall) t hm
  have h2 : Tryd.prog.wantsStandIn t = false := by simpa using this
  exact h2

/-- THE CARD. -/
theorem card : Rows.UtfOrderCardSaid :=
  Claim7.holds_tied_plain_at .later [] _ _ _ _ said (fun _ h => by cases h) (by kernel_rfl) (fun _ h => by cases h) utfOrder_row_tie rfl ⟨rfl, rfl⟩ (by kernel_rfl) rfl plain (by kernel_rfl)
end Go.Proofs.YtdgpbminmlpebaaDoor.utfOrder
