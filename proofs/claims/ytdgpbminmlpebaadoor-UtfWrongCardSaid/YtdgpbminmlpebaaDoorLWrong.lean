/-
  PROVED: gauger/gaugerlaw01.UtfWrong returns true for every input, and each argument reads afterwards as it read before.
  Conditions: those of the given row and card alone (package variable utf.beginnings starts as the program's text lays it; the card ties that to the text).
-/
import Derived.Test.YtdgpbminmlpebaaDoorLaw
import Derived.Test.YtdgpbminmlpebaaDoorWrong
import Derived.Test.YtdgpbminmlpebaaDoorOpen

namespace Go.Proofs.YtdgpbminmlpebaaDoor.utfWrong
open Go.ChangeShapes Go.WideShapes Go.ChangeAt Go.RowKit Go.WideMaps Go.WideElems Mt
open Go.ChangeMaps (shut_map_nil open_string shut_string)


theorem params_ok : ∀ t ∈ Tryd.f12.params.toList, Tryd.prog.readableRec t = true ∧ t < Tryd.prog.types.size := by
  have h : Tryd.f12.params.toList.all (fun t => Tryd.prog.readableRec t && decide (t < Tryd.prog.types.size)) = true := by kernel_rfl
  intro t ht
  have := List.all_eq_true.1 h t ht
  simpa using this

theorem textR_no {l : List Int} (h : l.all isPt = false) : textR l = (⟨#[]⟩, 2) := by unfold textR; rw [h]; rfl
theorem walk (zs : List Int) (hz : ∀ z ∈ zs, (Lit.int .u32 z).wf = true) (A : Option Addr) (n c : Nat) (x : Int) (hx : -9223372036854775808 ≤ x ∧ x ≤ 9223372036854775807) (at_ : Int) (ha : 0 ≤ at_ ∧ at_ ≤ 65535) (w : World) (hr : Rd w w.heap.size A n (u32s zs)) (hnc : n ≤ c) (hc : c ≤ maxLen) (hT : Tab w) :
    Calls Tryd.prog 12 #[.slice A n c, .int .i64 x, .int .u16 at_] w fun e w' => e = .returned (.bool true) ∧ Below w.heap.size w w' := by
  have hap := madeL_pt zs
  have hml := madeL_len zs
  have hfl := forms_len (madeL zs)
  have cm := fun (w' : World) (h : Below w.heap.size w w') => made_cap zs hz A n c w' ((hr.below h).more h.size) hnc hc
  generalize madeL zs = ps at *
  have hbt := bys_strOfNums (forms_bd hap)
  have hts : (strOfNums (forms ps)).size = (forms ps).length := strOfNums_size _
  obtain ⟨k, hk⟩ := Int.eq_ofNat_of_zero_le (show 0 ≤ at_ % ((ps.length : Int) + 1) from Int.emod_nonneg _ (by omega))
  have hkp : k ≤ ps.length := by have := Int.emod_lt_of_pos at_ (show (0 : Int) < (ps.length : Int) + 1 by omega); omega
  have ctx := fun (A : Option Addr) (c : Nat) (w : World) (hr : Rd w w.heap.size A ps.length (i64s ps)) => text_pts ps hap A ps.length c w hr (by omega)
  refine walk1 A n c ps (strOfNums (forms ps)) x at_ k w hT ha hx hk hkp hml (by omega) cm ctx (fun y A c w hy hr => ?_) (fun h0 => ?_)
  · have := text_in (ps.take k ++ [y] ++ ps.drop k) A (ps.length + 1) c w hr (by omega)
    rw [textR_no (by rw [List.all_append, List.all_append]; simp [hy])] at this
    exact this
  · obtain ⟨i, hi⟩ := Int.eq_ofNat_of_zero_le (show 0 ≤ at_ % ((strOfNums (forms ps)).size : Int) from Int.emod_nonneg _ (by omega))
    have hit : i < (strOfNums (forms ps)).size := by have := Int.emod_lt_of_pos at_ (show (0 : Int) < ((strOfNums (forms ps)).size : Int) by omega); omega
    have q0 : 0 ≤ at_ % 8 := by omega
    have q1 : at_ % 8 < 8 := by omega
    have hb := bent_bad hap (show i < (forms ps).length by omega) (b := 248 + at_ % 8) (by omega)
    have hbP : bys (strOfNums ((forms ps).take i)) = (forms ps).take i := bys_strOfNums (fun c hc => forms_bd hap c (List.mem_of_mem_take hc))
    have hbR : bys (strOfNums ((forms ps).drop (i + 1))) = (forms ps).drop (i + 1) := bys_strOfNums (fun c hc => forms_bd hap c (List.mem_of_mem_drop hc))
    have hbV : bys (strOfNums [248 + at_ % 8]) = [248 + at_ % 8] := bys_strOfNums (fun c hc => by rw [List.mem_singleton] at hc; omega)
    have hPs : (strOfNums ((forms ps).take i)).size = i := by rw [strOfNums_size, List.length_take]; omega
    have hRs : (strOfNums ((forms ps).drop (i + 1))).size = (forms ps).length - (i + 1) := by rw [strOfNums_size, List.length_drop]
    have hVs : (strOfNums [248 + at_ % 8]).size = 1 := strOfNums_size _
    have hS : bys (strOfNums ((forms ps).take i) ++ strOfNums [248 + at_ % 8] ++ strOfNums ((forms ps).drop (i + 1))) = bent (forms ps) i (248 + at_ % 8) := by
      rw [bys_app, bys_app, hbP, hbV, hbR]; rfl
    have hSs : (strOfNums ((forms ps).take i) ++ strOfNums [248 + at_ % 8] ++ strOfNums ((forms ps).drop (i + 1))).size ≤ 140737488351232 := by
      rw [ByteArray.size_append, ByteArray.size_append]; omega
    refine ⟨i, fin (bent (forms ps) i (248 + at_ % 8)), strOfNums ((forms ps).take i), strOfNums [248 + at_ % 8], strOfNums ((forms ps).drop (i + 1)), hi, hit, hb.1, by omega, by omega, hVs, rfl, fun W => ?_, fun W => ?_, fun w hT => ?_, fun w hT => ?_⟩
    · have := run_slice_string_h (P := Tryd.prog) W 9 (strOfNums (forms ps)) Tryd.underlying9 .i64 (i : Int) (by omega) (by omega)
      rw [this, Int.toNat_natCast, extTo _ _ hbt]
    · have := run_slice_string_l (P := Tryd.prog) W 9 (strOfNums (forms ps)) Tryd.underlying9 .i64 ((i : Int) + 1) (by omega) (by omega)
      rw [this, show ((i : Int) + 1).toNat = i + 1 by omega, extFrom _ _ hbt]
    · exact checkAt _ _ _ (by rw [hS]) (by rw [hS]; exact hb.2) hSs w hT
    · exact valid_no _ hSs (by rw [hS, hb.2]; decide) w hT

set_option maxRecDepth 100000 in
/-- WHAT THE WALK GIVES, for every argument and every world that holds the table. -/
theorem contract (H : Type) (enc : TypeId × Value → H) (W : World) (base : Nat) (args : Array Value) (ds gs : List (DataW H)) (before : List MemPlace)
    (hval : ∀ (j : Nat) t v, Tryd.f12.params[j]? = some t → args[j]? = some v → Value.okWide Tryd.prog W .any base t v)
    (hW : DataW.Whole enc Tryd.prog Tryd.f12.params.toList Rows.utfWrongSpec.vars false W args.toList ds gs before) (hL : laidMetH Tryd.prog Rows.utfWrongRow.laid W) :
    Calls Tryd.prog 12 args W fun e W' => ∃ v, e = .returned v ∧ Rows.utfWrongSpec.post enc Tryd.prog Tryd.f12 false true false false W args v W' := by
  have hW' := hW
  have hT : Tab W := tab_of_laid hL
  obtain ⟨p, q, hA0, hV, rfl, hfz, hnd⟩ := hW
  have hA : DataW.TrodAll enc Tryd.prog W 0 (fun _ => true) true Tryd.f12.params.toList args.toList ds p := hA0
  rw [Tryd.params12] at hA hval
  obtain ⟨v0, vs0, d0, ds0, p0, q0, hargs, rfl, rfl, h0, r0⟩ := trodAll_cons hA
  obtain ⟨v1, vs1, d1, ds1, p1, q1, rfl, rfl, rfl, h1, r1⟩ := trodAll_cons r0
  obtain ⟨v2, vs2, d2, ds2, p2, q2, rfl, rfl, rfl, h2, r2⟩ := trodAll_cons r1
  obtain ⟨rfl, rfl, rfl⟩ := trodAll_nil r2
  obtain rfl : args = #[v0, v1, v2] := by cases args; simp_all
  obtain ⟨rfl, rfl⟩ := trodVars_none hV
  obtain ⟨A0, n0, c0, zs0, rfl, hn0, hm0, hr0, hz0⟩ := open_rd Tryd.underlying39 Tryd.underlying52 (by kernel_rfl) (hval 0 39 v0 rfl rfl) h0
  obtain ⟨x1, rfl, rfl, rfl, w1⟩ := open_int Tryd.underlying3 (hval 1 3 v1 rfl rfl) h1
  have b1 := bounds_i64 w1
  obtain ⟨x2, rfl, rfl, rfl, w2⟩ := open_int Tryd.underlying50 (hval 2 50 v2 rfl rfl) h2
  have b2 := bounds_u16 w2
  refine (walk zs0 hz0 A0 n0 c0 x1 b1 x2 b2 W hr0 hn0 hm0 hT).mono fun e W' ⟨he, hb⟩ => ?_
  subst he
  exact ⟨_, rfl, law_post rfl rfl params_ok hW' rfl hb⟩

/-- A WORLD FOR THE WITNESS: the settled one, the table holding what its initialiser lays. -/
noncomputable def laidWorld (os : Os) : World :=
  { World.holding Tryd.prog os ⟨#[], #[], []⟩ with heap := (World.holding Tryd.prog os ⟨#[], #[], []⟩).heap.modify 0 fun
      | .cells _ t frozen => .cells tabV t frozen
      | o => o }
theorem laid_met (os : Os) : laidMet Tryd.prog Rows.utfWrongRow.laid ((laidWorld os).forCall (fun _ _ => 0) ⟨#[], #[.slice none 0 0, .int .i64 0, .int .u16 0], []⟩).memory :=
  laidMet_of_run' 8 (by kernel_rfl) (by kernel_rfl)
theorem reads (os : Os) {H : Type} (enc : TypeId × Value → H) : ∃ places, DataW.whole enc Tryd.prog ((laidWorld os).forCall (fun _ _ => 0) ⟨#[], #[.slice none 0 0, .int .i64 0, .int .u16 0], []⟩).memory Tryd.f12.params.toList Rows.utfWrongSpec.vars false (#[.slice none 0 0, .int .i64 0, .int .u16 0] : Array Value).toList 8 = some ([.nil, .lit (.int .i64 0), .lit (.int .u16 0)], [], places) :=
  ⟨[], by kernel_rfl⟩

set_option maxRecDepth 100000 in
/-- THE FIRST FORM's STEP. -/
theorem lifted (os : Os) (started : os.Started) (H : Type) (enc : TypeId × Value → H) (F : Stop.Interp) :
    ReturnsInHanded {} Tryd.checked os 12 .any ((OpenSpec.ofChange Rows.utfWrongSpec).preRow enc Tryd.prog Tryd.f12 Rows.utfWrongRow.domain false Rows.utfWrongRow.laid) (((OpenSpec.ofChange Rows.utfWrongSpec).at F).post enc Tryd.prog Tryd.f12 false true false false) := by
  obtain ⟨places, hx⟩ := reads os enc
  refine returnsInHanded_of_row (C := Tryd.checked) (s := OpenSpec.ofChange Rows.utfWrongSpec) gOwn started (by kernel_rfl) Tryd.func12
    (witness_row_at (enc := enc) (C := Tryd.checked) false (laidWorld os) #[.slice none 0 0, .int .i64 0, .int .u16 0] rfl (by kernel_rfl) (by kernel_rfl) (by kernel_rfl)
      (OpenSpec.preRow_of_cond 8 hx (by kernel_rfl) (fun k hk => by cases hk) (by kernel_rfl) (laid_met os))) ?_
  intro W base args ds gs before hval hW _ _ _ hL _ _
  exact contract H enc W base args ds gs before hval hW hL

theorem said : Rows.UtfWrongSaid :=
  OpenClaim.holds_of_cond 12 Tryd.f12 rfl rfl rfl rfl rfl rfl rfl ⟨rfl, rfl, rfl, rfl, rfl⟩ rfl rfl rfl rfl rfl (by kernel_rfl) Tryd.func12 (by kernel_rfl)
    (of_decide_eq_true (by kernel_rfl)) (by unfold Func.isWrapper; first | (rw [if_pos (by decide +kernel)]; kernel_rfl) | (rw [if_neg (by decide +kernel)]; exact ⟨rfl, rfl⟩))
    (fun os started H enc _ F => by rw [OpenClaim.pre_eq_preRow]; exact lifted os started H enc F)

/-- No parameter wants a stand-in; the program's own looks are off: what the card asks. -/
theorem plain (f : FuncId) (fn : Func) (hf : Tryd.pinned.checked.prog.funcNamed "gauger/gaugerlaw01.UtfWrong" = some f) (hfn : Tryd.pinned.checked.prog.funcs[f]? = some fn) :
    false = Tryd.pinned.checked.prog.looks [] ∧ ∀ (j : Nat) t, fn.params[j]? = some t → Tryd.pinned.checked.prog.wantsStandIn t = false := by
  obtain rfl : f = 12 := Option.some.inj ((show Tryd.prog.funcNamed "gauger/gaugerlaw01.UtfWrong" = some 12 by kernel_rfl).symm.trans hf) |>.symm
  obtain rfl : fn = Tryd.f12 := (Option.some.inj (Tryd.func12.symm.trans hfn)).symm
  refine ⟨by kernel_rfl, fun j t ht => ?_⟩
  have hm : t ∈ Tryd.f12.params := Array.mem_of_getElem? ht
  have hall : Tryd.f12.params.all (fun t => !Tryd.prog.wantsStandIn t) = true := by kernel_rfl
  have := (Array.all_eq_true_iff_forall_mem.1 hall) t hm
  have h2 : Tryd.prog.wantsStandIn t = false := by simpa using this
  exact h2

/-- THE CARD. -/
theorem card : Rows.UtfWrongCardSaid :=
  Claim7.holds_tied_plain_at .later [] _ _ _ _ said (fun _ h => by cases h) (by kernel_rfl) (fun _ h => by cases h) utfWrong_row_tie rfl ⟨rfl, rfl⟩ (by kernel_rfl) rfl plain (by kernel_rfl)
end Go.Proofs.YtdgpbminmlpebaaDoor.utfWrong
