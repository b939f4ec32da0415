/-
  PROVED: gauger/gaugerlaw01.UtfBack returns true for every input, and each argument reads afterwards as it read before.
  Conditions: those of the given row and card alone (package variable utf.beginnings starts as the program's text lays it; the card ties that to the text).
-/
import Derived.Test.YtdgpbminmlpebaaDoorLaw
import Derived.Test.YtdgpbminmlpebaaDoorAwake
import Derived.Test.YtdgpbminmlpebaaDoorOpen
import Derived.Test.YtdgpbminmlpebaaDoorMade
import Derived.Test.YtdgpbminmlpebaaDoorUtfP
import Derived.Test.YtdgpbminmlpebaaDoorMath5

namespace Go.Proofs.YtdgpbminmlpebaaDoor.utfBack
open Go.ChangeShapes Go.WideShapes Go.ChangeAt Go.RowKit Go.WideMaps Go.WideElems Mt
open Go.ChangeMaps (shut_map_nil open_string shut_string)


theorem params_ok : ∀ t ∈ Tryd.f7.params.toList, Tryd.prog.readableRec t = true ∧ t < Tryd.prog.types.size := by
  have h : Tryd.f7.params.toList.all (fun t => Tryd.prog.readableRec t && decide (t < Tryd.prog.types.size)) = true := by kernel_rfl
  intro t ht
  have := List.all_eq_true.1 h t ht
  simpa using this

theorem strOfNums_bys (s : ByteArray) : strOfNums (bys s) = s := by
  apply ByteArray.ext
  unfold strOfNums bys
  apply Array.toList_inj.1
  simp [Function.comp_def]
theorem same_ints_yes (w : World) (B : Nat) (A A' : Option Addr) (n c c' : Nat) (xs : List Int) (hx : Rd w B A n (i64s xs)) (hy : Rd w B A' n (i64s xs)) (hn : n ≤ 140737488355328) :
    Calls Tryd.prog 24 #[.slice A n c, .slice A' n c'] w fun e w' => e = .returned (.bool true) ∧ Below w.heap.size w w' := by
  refine (same_ints w B A A' n n c c' xs xs hx hy hn).mono ?_
  rintro e w' ⟨b, rfl, h, q, rfl⟩
  rw [h.2 rfl]
  exact ⟨rfl, below_drewN (Below.refl _ _) q⟩
set_option maxRecDepth 100000 in
set_option maxHeartbeats 8000000 in
theorem walk (zs : List Int) (hz : ∀ z ∈ zs, (Lit.int .u32 z).wf = true) (A : Option Addr) (n c : Nat) (s : ByteArray) (w : World) (hr : Rd w w.heap.size A n (u32s zs)) (hnc : n ≤ c) (hc : c ≤ maxLen) (hT : Tab w) :
    Calls Tryd.prog 7 #[.slice A n c, .string s] w fun e w' => e = .returned (.bool true) ∧ Below w.heap.size w w' := by
  go_enter Tryd.func7, Tryd.ntmps7
  go_wp2_with fail
  refine (awake_any w hT).mono ?_
  rintro e w1 ⟨rfl, hB1⟩
  go_wp2_with fail
  refine (made_any zs hz A n c w1 ((hr.below hB1).more hB1.size) hnc hc).mono ?_
  rintro e w2 ⟨A2, c2, ps, rfl, hap, hm, hr2, hb2⟩
  have hB2 : Below w.heap.size w w2 := hB1.trans (hb2.mono hB1.size)
  clear hr hz hB1 hb2 hnc hc
  have hfl := forms_len ps
  have hsz : (strOfNums (forms ps)).size = (forms ps).length := strOfNums_size _
  have Hbt := Lib.hid (bys_strOfNums (forms_bd hap))
  have Hap := Lib.hid hap
  have htx := fun (w' : World) (h : Below w2.heap.size w2 w') => text_pts ps hap A2 ps.length c2 w' ((hr2.below h).more h.size) (by omega)
  have Hstr := Lib.hid (rfl : strOfNums (forms ps) = strOfNums (forms ps))
  have he : shortE (strOfNums (forms ps)) = 0 := by
    unfold shortE
    rw [if_neg (by omega), Hbt.out, chkE_forms hap]
  have hpt : pts (bys (strOfNums (forms ps))) = ps := by rw [Hbt.out, pts_forms hap]
  have cP := fun (w : World) (hT : Tab w) => points_yes (strOfNums (forms ps)) he w hT
  have cC := fun (w : World) (hT : Tab w) => count_yes (strOfNums (forms ps)) he w hT
  have cV := fun (w : World) (hT : Tab w) => valid_yes (strOfNums (forms ps)) (by omega) (by rw [Hbt.out]; exact chkE_forms hap) w hT
  have cR := fun (at_ x m e : Int) (h : rdAt (forms ps) at_ = (x, m, e)) (w : World) (hT : Tab w) => read_at (strOfNums (forms ps)) at_ x m e (by rw [Hbt.out]; exact h) (by omega) w hT
  rw [hpt] at cC
  unfold PtsOk at cP
  rw [hpt] at cP
  have Htx := Lib.hid htx; have HP := Lib.hid cP; have HC := Lib.hid cC; have HV := Lib.hid cV; have HR := Lib.hid cR
  clear htx cP cC cV cR hpt he hap
  generalize strOfNums (forms ps) = t at *
  go_wp2_with fail
  refine (Htx.out _ (Below.refl _ _)).mono ?_
  rintro e w3 ⟨rfl, hb3⟩
  have hB3 : Below w.heap.size w w3 := hB2.trans (hb3.mono hB2.size)
  go_wp2_with fail
  refine (HP.out _ (hT.below hB3)).mono ?_
  rintro e w4 ⟨A4, c4, rfl, hr4, hb4⟩
  have hB4 : Below w.heap.size w w4 := hB3.trans (hb4.mono hB3.size)
  have hx24 : Below w2.heap.size w2 w4 := hb3.trans (hb4.mono hb3.size)
  go_wp2_with fail
  refine (HC.out _ (hT.below hB4)).mono ?_
  rintro e w5 ⟨rfl, hb5⟩
  have hB5 : Below w.heap.size w w5 := hB4.trans (hb5.mono hB4.size)
  have hx25 : Below w2.heap.size w2 w5 := hx24.trans (hb5.mono hx24.size)
  go_wp2_with fail
  refine (same_ints_yes _ w5.heap.size A4 A2 ps.length c4 c2 ps ((hr4.below hb5).more hb5.size) ((hr2.below hx25).more hx25.size) (by omega)).mono ?_
  rintro e w6 ⟨rfl, hb6⟩
  have hB6 : Below w.heap.size w w6 := hB5.trans (hb6.mono hB5.size)
  have hx26 : Below w2.heap.size w2 w6 := hx25.trans (hb6.mono hx25.size)
  go_wp2_with fail
  refine (HV.out _ (hT.below hB6)).mono ?_
  rintro e w7 ⟨rfl, hb7⟩
  have hB7 : Below w.heap.size w w7 := hB6.trans (hb7.mono hB6.size)
  have hx27 : Below w2.heap.size w2 w7 := hx26.trans (hb7.mono hx26.size)
  clear hb3 hb4 hb5 hb6 hb7 hB3 hB4 hB5 hB6 hx24 hx25 hx26 hr4 HP HC HV Htx
  have Hr2 := Lib.hid hr2
  have Hsz := Lib.hid hsz
  clear hr2 hsz
  go_wp2_with fail
  go_loopw [12, 71] (fun a i wr => ∃ k q : Nat, k ≤ ps.length ∧ i = .int .i64 k ∧ a = .int .i64 q ∧ Hid (q = (forms (ps.take k)).length) ∧ q ≤ (forms ps).length ∧ Below w.heap.size w wr ∧ Below w2.heap.size w2 wr) (fun _ i _ => ps.length - (intOf i).toNat)
  case atStart => exact ⟨0, 0, by omega, rfl, rfl, rfl, by omega, hB7, hx27⟩
  case round =>
    obtain ⟨k, q, hk, rfl, rfl, hq, hql, hBr, hxr⟩ := hrel
    by_cases hkn : k < ps.length
    · obtain ⟨ad, u, rfl, hadb, hu, hcu⟩ := Hr2.out.at_ hkn
      rw [i64s_get ps k hkn] at hu
      obtain rfl := Option.some.inj hu
      have hcu' : wr.cell? (ad.add k) = some (.int .i64 (ps.getD k 0)) := (hxr.cell (p := ad.add k) (by rw [addBlock]; exact hadb)).trans hcu
      have hx := getD_pt Hap.out hkn
      have hrd := back_read Hap.out hkn
      have hle := back_le hkn
      have Hlen := Lib.hid (back_len hkn)
      have hmid := fun (i : Nat) (h1 : 1 ≤ i) (h2 : (i : Int) < szP (ps.getD k 0)) => back_mid Hap.out hkn h1 h2
      rw [← hq.out] at hrd hle hmid
      have cS := fun (w : World) => size_yes (ps.getD k 0) hx w
      have hszb := szP_bd (ps.getD k 0)
      clear hu hcu hx
      generalize ps.getD k 0 = x at *
      generalize szP x = sz at *
      obtain ⟨z, rfl⟩ := Int.eq_ofNat_of_zero_le (show 0 ≤ sz by omega)
      obtain ⟨hz1, hz4⟩ := hszb
      rw [Int.toNat_natCast] at hle
      have R0 := Lib.hid (HR.out _ _ _ _ hrd)
      have R1 := Lib.hid (fun (i : Nat) (h1 : 1 ≤ i) (h2 : (i : Int) < z) => HR.out _ _ _ _ (hmid i h1 h2))
      have CS := Lib.hid cS
      clear hrd hmid cS
      have e1 : (x == x) = true := by simp
      have e2 : ((z : Int) == (z : Int)) = true := by simp
      have e3 : ¬ (z : Int) < 1 := by omega
      go_wp2_with fail
      refine (R0.out _ (hT.below hBr)).mono ?_
      rintro e w8 ⟨rfl, hb8⟩
      have hB8 : Below w.heap.size w w8 := hBr.trans (hb8.mono hBr.size)
      have hx8 : Below w2.heap.size w2 w8 := hxr.trans (hb8.mono hxr.size)
      go_wp2_with fail
      refine (CS.out _).mono ?_
      rintro e w' ⟨rfl, rfl⟩
      go_wp2_with fail
      obtain ⟨wo, hwo⟩ : ∃ wo : World, wo = w8 := ⟨_, rfl⟩
      subst hwo
      go_loopw [20] (fun i wi => ∃ j : Nat, 1 ≤ j ∧ j ≤ z ∧ i = .int .i64 j ∧ Below w.heap.size w wi ∧ Below w2.heap.size w2 wi) (fun i _ => z - (intOf i).toNat)
      case atStart => exact ⟨1, by omega, by omega, rfl, hB8, hx8⟩
      case round =>
        obtain ⟨j, hj1, hjz, rfl, hBi, hxi⟩ := hrel
        by_cases hjl : j < z
        · have R2 := Lib.hid (R1.out j hj1 (by omega))
          go_wp2_with fail
          refine (R2.out _ (hT.below hBi)).mono ?_
          rintro e w9 ⟨rfl, hb9⟩
          go_wp2_with fail
          go_roundw
          case rel => exact ⟨j + 1, by omega, by omega, by go_num, hBi.trans (hb9.mono hBi.size), hxi.trans (hb9.mono hxi.size)⟩
          case measure => first | (simp [intOf]; omega) | omega
        · go_wp2_with fail
          go_roundw
          case rel => exact ⟨k + 1, q + z, by omega, by go_num, by go_num, by show _ = _; rw [Hlen.out, ← hq.out, Int.toNat_natCast], by omega, hBi, hxi⟩
          case measure => first | (simp [intOf]; omega) | omega
    · have hke : k = ps.length := by omega
      have hqt : q = t.size := by rw [hq.out, hke, List.take_length]; exact Hsz.out.symm
      clear hq hql hkn hk
      subst hqt
      have e1 : ((t.size : Int) != (t.size : Int)) = false := by simp
      have e2 : ((t.size : Int) == (t.size : Int)) = true := by simp
      clear Hr2 HR Hsz
      by_cases hs1 : 1000 < s.size
      · have hs2 : (1000 : Int) < s.size := by omega
        go_wp2_with fail
        go_ret
        exact ⟨rfl, hBr⟩
      · have hs2 : ¬ (1000 : Int) < s.size := by omega
        have hss : shortE s = chkE (bys s) := by unfold shortE; rw [if_neg (by omega)]
        by_cases hc0 : chkE (bys s) = 0
        · have cP := fun (w : World) (hT : Tab w) => points_yes s (by rw [hss, hc0]) w hT
          have hfp := forms_pts (bys_bd s) hc0
          have hpp := pts_pt (bys_bd s)
          have hpl := forms_len (pts (bys s))
          rw [hfp, bys_length] at hpl
          have cT := fun (A : Option Addr) (c : Nat) (w : World) (hr : Rd w w.heap.size A (pts (bys s)).length (i64s (pts (bys s)))) => text_pts (pts (bys s)) hpp A (pts (bys s)).length c w hr (by omega)
          rw [hfp, strOfNums_bys] at cT
          have HP := Lib.hid cP; have HT := Lib.hid cT
          clear cP cT hfp hpp hpl hss hc0
          go_wp2_with fail
          refine (HP.out _ (hT.below hBr)).mono ?_
          rintro e w4 ⟨A5, c5, rfl, hr5, hb4⟩
          have hB4 : Below w.heap.size w w4 := hBr.trans (hb4.mono hBr.size)
          have Hr5 := Lib.hid hr5
          clear hr5
          go_wp2_with fail
          refine (HT.out A5 c5 _ Hr5.out).mono ?_
          rintro e w5 ⟨rfl, hb5⟩
          go_wp2_with fail
          go_ret
          exact ⟨rfl, hB4.trans (hb5.mono hB4.size)⟩
        · have cP := fun (w : World) (hT : Tab w) => points_no s (by omega) (by rw [hss]; exact hc0) w hT
          have cV := fun (w : World) (hT : Tab w) => valid_no s (by omega) hc0 w hT
          rw [hss] at cP
          generalize chkE (bys s) = ee at *
          have HP := Lib.hid cP; have HV := Lib.hid cV
          have h1 : (ee == 0) = false := beq_eq_false_iff_ne.2 hc0
          have h2 : (ee != 0) = true := bne_iff_ne.2 hc0
          clear cP cV hss hc0
          go_wp2_with fail
          refine (HP.out _ (hT.below hBr)).mono ?_
          rintro e w4 ⟨rfl, hb4⟩
          have hB4 : Below w.heap.size w w4 := hBr.trans (hb4.mono hBr.size)
          go_wp2_with fail
          refine (HV.out _ (hT.below hB4)).mono ?_
          rintro e w5 ⟨rfl, hb5⟩
          go_wp2_with fail
          go_ret
          exact ⟨rfl, hB4.trans (hb5.mono hB4.size)⟩

set_option maxRecDepth 100000 in
/-- WHAT THE WALK GIVES, for every argument and every world that holds the table. -/
theorem contract (H : Type) (enc : TypeId × Value → H) (W : World) (base : Nat) (args : Array Value) (ds gs : List (DataW H)) (before : List MemPlace)
    (hval : ∀ (j : Nat) t v, Tryd.f7.params[j]? = some t → args[j]? = some v → Value.okWide Tryd.prog W .any base t v)
    (hW : DataW.Whole enc Tryd.prog Tryd.f7.params.toList Rows.utfBackSpec.vars false W args.toList ds gs before) (hL : laidMetH Tryd.prog Rows.utfBackRow.laid W) :
    Calls Tryd.prog 7 args W fun e W' => ∃ v, e = .returned v ∧ Rows.utfBackSpec.post enc Tryd.prog Tryd.f7 false true false false W args v W' := by
  have hW' := hW
  have hT : Tab W := tab_of_laid hL
  obtain ⟨p, q, hA0, hV, rfl, hfz, hnd⟩ := hW
  have hA : DataW.TrodAll enc Tryd.prog W 0 (fun _ => true) true Tryd.f7.params.toList args.toList ds p := hA0
  rw [Tryd.params7] at hA hval
  obtain ⟨v0, vs0, d0, ds0, p0, q0, hargs, rfl, rfl, h0, r0⟩ := trodAll_cons hA
  obtain ⟨v1, vs1, d1, ds1, p1, q1, rfl, rfl, rfl, h1, r1⟩ := trodAll_cons r0
  obtain ⟨rfl, rfl, rfl⟩ := trodAll_nil r1
  obtain rfl : args = #[v0, v1] := by cases args; simp_all
  obtain ⟨rfl, rfl⟩ := trodVars_none hV
  obtain ⟨A0, n0, c0, zs0, rfl, hn0, hm0, hr0, hz0⟩ := open_rd Tryd.underlying39 Tryd.underlying52 (by kernel_rfl) (hval 0 39 v0 rfl rfl) h0
  obtain ⟨s1, rfl, rfl, rfl, hs1⟩ := open_string Tryd.underlying9 (hval 1 9 v1 rfl rfl) h1
  refine (walk zs0 hz0 A0 n0 c0 s1 W hr0 hn0 hm0 hT).mono fun e W' ⟨he, hb⟩ => ?_
  subst he
  exact ⟨_, rfl, law_post rfl rfl params_ok hW' rfl hb⟩

/-- A WORLD FOR THE WITNESS: the settled one, the table holding what its initialiser lays. -/
noncomputable def laidWorld (os : Os) : World :=
  { World.holding Tryd.prog os ⟨#[], #[], []⟩ with heap := (World.holding Tryd.prog os ⟨#[], #[], []⟩).heap.modify 0 fun
      | .cells _ t frozen => .cells tabV t frozen
      | o => o }
theorem laid_met (os : Os) : laidMet Tryd.prog Rows.utfBackRow.laid ((laidWorld os).forCall (fun _ _ => 0) ⟨#[], #[.slice none 0 0, .string ⟨#[]⟩], []⟩).memory :=
  laidMet_of_run' 8 (by kernel_rfl) (by kernel_rfl)
theorem reads (os : Os) {H : Type} (enc : TypeId × Value → H) : ∃ places, DataW.whole enc Tryd.prog ((laidWorld os).forCall (fun _ _ => 0) ⟨#[], #[.slice none 0 0, .string ⟨#[]⟩], []⟩).memory Tryd.f7.params.toList Rows.utfBackSpec.vars false (#[.slice none 0 0, .string ⟨#[]⟩] : Array Value).toList 8 = some ([.nil, .lit (.string [])], [], places) :=
  ⟨[], by kernel_rfl⟩

set_option maxRecDepth 100000 in
/-- THE FIRST FORM's STEP. -/
theorem lifted (os : Os) (started : os.Started) (H : Type) (enc : TypeId × Value → H) (F : Stop.Interp) :
    ReturnsInHanded {} Tryd.checked os 7 .any ((OpenSpec.ofChange Rows.utfBackSpec).preRow enc Tryd.prog Tryd.f7 Rows.utfBackRow.domain false Rows.utfBackRow.laid) (((OpenSpec.ofChange Rows.utfBackSpec).at F).post enc Tryd.prog Tryd.f7 false true false false) := by
  obtain ⟨places, hx⟩ := reads os enc
  refine returnsInHanded_of_row (C := Tryd.checked) (s := OpenSpec.ofChange Rows.utfBackSpec) gOwn started (by kernel_rfl) Tryd.func7
    (witness_row_at (enc := enc) (C := Tryd.checked) false (laidWorld os) #[.slice none 0 0, .string ⟨#[]⟩] rfl (by kernel_rfl) (by kernel_rfl) (by kernel_rfl)
      (OpenSpec.preRow_of_cond 8 hx (by kernel_rfl) (fun k hk => by cases hk) (by kernel_rfl) (laid_met os))) ?_
  intro W base args ds gs before hval hW _ _ _ hL _ _
  exact contract H enc W base args ds gs before hval hW hL

theorem said : Rows.UtfBackSaid :=
  OpenClaim.holds_of_cond 7 Tryd.f7 rfl rfl rfl rfl rfl rfl rfl ⟨rfl, rfl, rfl, rfl, rfl⟩ rfl rfl rfl rfl rfl (by kernel_rfl) Tryd.func7 (by kernel_rfl)
    (of_decide_eq_true (by kernel_rfl)) (by unfold Func.isWrapper; first | (rw [if_pos (by decide +kernel)]; kernel_rfl) | (rw [if_neg (by decide +kernel)]; exact ⟨rfl, rfl⟩))
    (fun os started H enc _ F => by rw [OpenClaim.pre_eq_preRow]; exact lifted os started H enc F)

/-- No parameter wants a stand-in; the program's own looks are off: what the card asks. -/
theorem plain (f : FuncId) (fn : Func) (hf : Tryd.pinned.checked.prog.funcNamed "gauger/gaugerlaw01.UtfBack" = some f) (hfn : Tryd.pinned.checked.prog.funcs[f]? = some fn) :
    false = Tryd.pinned.checked.prog.looks [] ∧ ∀ (j : Nat) t, fn.params[j]? = some t → Tryd.pinned.checked.prog.wantsStandIn t = false := by
  obtain rfl : f = 7 := Option.some.inj ((show Tryd.prog.funcNamed "gauger/gaugerlaw01.UtfBack" = some 7 by kernel_rfl).symm.trans hf) |>.symm
  obtain rfl : fn = Tryd.f7 := (Option.some.inj (Tryd.func7.symm.trans hfn)).symm
  refine ⟨by kernel_rfl, fun j t ht => ?_⟩
  have hm : t ∈ Tryd.f7.params := Array.mem_of_getElem? ht
  have hall : Tryd.f7.params.all (fun t => !Tryd.prog.wantsStandIn t) = true := by kernel_rfl
  have := (Array.all_eq_true_iff_forall_mem.1 hall) t hm
  have h2 : Tryd.prog.wantsStandIn t = false := by simpa using this
  exact h2

/-- THE CARD. -/
theorem card : Rows.UtfBackCardSaid :=
  Claim7.holds_tied_plain_at .later [] _ _ _ _ said (fun _ h => by cases h) (by kernel_rfl) (fun _ h => by cases h) utfBack_row_tie rfl ⟨rfl, rfl⟩ (by kernel_rfl) rfl plain (by kernel_rfl)
end Go.Proofs.YtdgpbminmlpebaaDoor.utfBack
