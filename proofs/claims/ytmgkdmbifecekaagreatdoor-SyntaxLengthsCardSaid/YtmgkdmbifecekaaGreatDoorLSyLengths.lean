/-
  PROVED: gauger/gaugerlaw07.SyntaxLengths returns true for every input, and each argument reads afterwards as it read before.
  Conditions: those of the given row and card alone (the package variables that the row lists start as the program's text lays them; the card ties that to the text).
-/
import Derived.Test.YtmgkdmbifecekaaGreatDoorMlaa
import Derived.Test.YtmgkdmbifecekaaGreatDoorMlbe
import Derived.Test.YtmgkdmbifecekaaGreatDoorSlw
set_option linter.all false
set_option linter.unusedSimpArgs false
set_option linter.unusedVariables false
set_option linter.unusedSectionVars false
namespace Go.Proofs.YtmgkdmbifecekaaGreatDoor.syntaxLengths
open Go.ChangeShapes Go.WideShapes Go.ChangeAt Go.RowKit Go.WideMaps Go.WideElems
open Go.ChangeMaps (shut_map_nil open_string shut_string)
open Go.Shelf

theorem tk (L : List (Int × Int × Int)) (n : Nat) : L.take n = L.take (min L.length n) := by
  rcases Nat.le_total L.length n with h | h
  · rw [Nat.min_eq_left h, List.take_of_length_le h, List.take_of_length_le (Nat.le_refl _)]
  · rw [Nat.min_eq_right h]
theorem cm (n : Nat) (A : Option Addr) (c : Nat) (L : List (Int × Int × Int)) (hn : L.length ≤ c) (hs : ∀ x ∈ L, SmOk x) (w : World) (hr : Rd w w.heap.size A (L.length * 3) (smalls L)) :
    Hid (∀ W, Kept w W → Calls Tryz.prog 17 #[.slice A (min L.length n) c] W fun e w' => ∃ k A1 sn c1 mn mx lz A2 un c2, e = .returned (ndV k A1 sn c1 mn mx lz A2 un c2) ∧ NodeM W.heap.size w' (madeT (L.take n)) (ndV k A1 sn c1 mn mx lz A2 un c2) ∧ Kept W w') := by
  refine Lib.hid (fun W hW => ?_)
  have hl : (L.take n).length = min L.length n := by rw [List.length_take, Nat.min_comm]
  have hr2 := rd_take (min L.length n) (Nat.min_le_left _ _) hr
  rw [← tk] at hr2
  have := made_nd (L.take n) A c (by rw [hl]; omega) (fun x hx => hs x (List.mem_of_mem_take hx)) W (rd_kept hW hr2) _ rfl
  rw [hl] at this
  exact this
theorem tg (L : List (Int × Int × Int)) : TrG (madeT (L.take 15)) ∧ (factsT (madeT (L.take 15))).depth ≤ 16 ∧ (factsT (madeT (L.take 15))).groups ≤ 15 := by
  have h := madeT_g (L.take 15) 15 (by rw [List.length_take]; omega)
  exact ⟨h.1, by have := h.2.1; omega, by have := h.2.2; omega⟩
theorem walk (w : World) (A0 : Option Addr) (c0 : Nat) (L0 : List (Int × Int × Int)) (hn0 : L0.length ≤ c0) (hm0 : c0 ≤ maxLen) (hs0 : ∀ x ∈ L0, SmOk x) (hr0 : Rd w w.heap.size A0 (L0.length * 3) (smalls L0)) (A1 : Option Addr) (c1 : Nat) (L1 : List (Int × Int × Int)) (hn1 : L1.length ≤ c1) (hm1 : c1 ≤ maxLen) (hs1 : ∀ x ∈ L1, SmOk x) (hr1 : Rd w w.heap.size A1 (L1.length * 3) (smalls L1)) :
    Calls Tryz.prog 7 #[.slice A0 L0.length c0, .slice A1 L1.length c1] w fun e w' => e = .returned (.bool true) ∧ Below w.heap.size w w' :=
  lengths_of_made _ _ (tg L0) (tg L1) w A0 A1 L0.length L1.length c0 c1 hn0 hn1 hm0 hm1 (cm 15 A0 c0 L0 hn0 hs0 w hr0) (cm 15 A1 c1 L1 hn1 hs1 w hr1)

theorem params_ok : ∀ t ∈ Tryz.f7.params.toList, Tryz.prog.readableRec t = true ∧ t < Tryz.prog.types.size := by
  have h : Tryz.f7.params.toList.all (fun t => Tryz.prog.readableRec t && decide (t < Tryz.prog.types.size)) = true := by kernel_rfl
  intro t ht
  have := List.all_eq_true.1 h t ht
  simpa using this

set_option maxRecDepth 100000 in
set_option maxHeartbeats 2000000 in
/-- WHAT THE WALK GIVES, for every argument and every world that holds the tables. -/
theorem contract (H : Type) (enc : TypeId × Value → H) (W : World) (base : Nat) (args : Array Value) (ds gs : List (DataW H)) (before : List MemPlace)
    (hval : ∀ (j : Nat) t v, Tryz.f7.params[j]? = some t → args[j]? = some v → Value.okWide Tryz.prog W .any base t v)
    (hW : DataW.Whole enc Tryz.prog Tryz.f7.params.toList Rows.syntaxLengthsSpec.vars false W args.toList ds gs before) (hL : laidMetH Tryz.prog Rows.syntaxLengthsRow.laid W) :
    Calls Tryz.prog 7 args W fun e W' => ∃ v, e = .returned v ∧ Rows.syntaxLengthsSpec.post enc Tryz.prog Tryz.f7 false true false false W args v W' := by
  have hW' := hW
  have hT : (fun (_ : World) => True) W := (fun _ => trivial) hL
  obtain ⟨p, q, hA0, hV, rfl, hfz, hnd⟩ := hW
  have hA : DataW.TrodAll enc Tryz.prog W 0 (fun _ => true) true Tryz.f7.params.toList args.toList ds p := hA0
  rw [Tryz.params7] at hA hval
  obtain ⟨v0, vs0, d0, ds0, p0, q0, hargs, rfl, rfl, h0, r0⟩ := trodAll_cons hA
  obtain ⟨v1, vs1, d1, ds1, p1, q1, rfl, rfl, rfl, h1, r1⟩ := trodAll_cons r0
  obtain ⟨rfl, rfl, rfl⟩ := trodAll_nil r1
  obtain rfl : args = #[v0, v1] := by cases args; simp_all
  obtain ⟨rfl, rfl⟩ := trodVars_none hV
  obtain ⟨A0, c0, L0, rfl, hn0, hm0, hs0, hr0⟩ := open_sm3 (hval 0 30 v0 rfl rfl) h0
  obtain ⟨A1, c1, L1, rfl, hn1, hm1, hs1, hr1⟩ := open_sm3 (hval 1 30 v1 rfl rfl) h1
  refine (walk W A0 c0 L0 hn0 hm0 hs0 hr0 A1 c1 L1 hn1 hm1 hs1 hr1).mono fun e W' ⟨he, hb⟩ => ?_
  subst he
  exact ⟨_, rfl, law_post rfl rfl params_ok hW' rfl hb⟩

/-- A WORLD FOR THE WITNESS: the settled one, the tables holding what their initialisers lay. -/
noncomputable def laidWorld (os : Os) : World := World.laidAll Tryz.prog os Rows.syntaxLengthsRow.laid
theorem laid_met (os : Os) : laidMet Tryz.prog Rows.syntaxLengthsRow.laid ((laidWorld os).forCall (fun _ _ => 0) ⟨#[], #[.slice none 0 0, .slice none 0 0], []⟩).memory :=
  laidMet_laidAll _ (by kernel_rfl) (by kernel_rfl)
theorem variablesZ (os : Os) : ((laidWorld os).forCall (fun _ _ => 0) ⟨#[], #[.slice none 0 0, .slice none 0 0], []⟩).variablesZipB Tryz.prog = true := by kernel_rfl
theorem shaped (os : Os) : ((laidWorld os).forCall (fun _ _ => 0) ⟨#[], #[.slice none 0 0, .slice none 0 0], []⟩).Shaped Tryz.prog := World.shaped_of_ZipB (variablesZ os) (by kernel_rfl)
theorem reads (os : Os) {H : Type} (enc : TypeId × Value → H) : ∃ places, DataW.whole enc Tryz.prog ((laidWorld os).forCall (fun _ _ => 0) ⟨#[], #[.slice none 0 0, .slice none 0 0], []⟩).memory Tryz.f7.params.toList Rows.syntaxLengthsSpec.vars false (#[.slice none 0 0, .slice none 0 0] : Array Value).toList 8 = some ([.nil, .nil], [], places) :=
  ⟨[], by kernel_rfl⟩

set_option maxRecDepth 100000 in
/-- THE FIRST FORM's STEP. -/
theorem lifted (os : Os) (started : os.Started) (H : Type) (enc : TypeId × Value → H) (F : Stop.Interp) :
    ReturnsInHanded {} Tryz.checked os 7 .any ((OpenSpec.ofChange Rows.syntaxLengthsSpec).preRow enc Tryz.prog Tryz.f7 Rows.syntaxLengthsRow.domain false Rows.syntaxLengthsRow.laid) (((OpenSpec.ofChange Rows.syntaxLengthsSpec).at F).post enc Tryz.prog Tryz.f7 false true false false) := by
  obtain ⟨places, hx⟩ := reads os enc
  refine returnsInHanded_of_row (C := Tryz.checked) (s := OpenSpec.ofChange Rows.syntaxLengthsSpec) gOwn started (by kernel_rfl) Tryz.func7
    (witness_row_shaped (enc := enc) (C := Tryz.checked) false (laidWorld os) #[.slice none 0 0, .slice none 0 0] (World.laidAll_os _ _ _) (shaped os) (by kernel_rfl)
      (OpenSpec.preRow_of_cond 8 hx (by kernel_rfl) (fun k hk => by cases hk) (by kernel_rfl) (laid_met os))) ?_
  intro W base args ds gs before hval hW _ _ _ hL _ _
  exact contract H enc W base args ds gs before hval hW hL

theorem said : Rows.SyntaxLengthsSaid :=
  OpenClaim.holds_of_cond 7 Tryz.f7 rfl rfl rfl rfl rfl rfl rfl ⟨rfl, rfl, rfl, rfl, rfl⟩ rfl rfl rfl rfl rfl (by kernel_rfl) Tryz.func7 (by kernel_rfl)
    (of_decide_eq_true (by kernel_rfl)) (by unfold Func.isWrapper; first | (rw [if_pos (by decide +kernel)]; kernel_rfl) | (rw [if_neg (by decide +kernel)]; exact ⟨rfl, rfl⟩))
    (fun os started H enc _ F => by rw [OpenClaim.pre_eq_preRow]; exact lifted os started H enc F)

/-- No parameter wants a stand-in; the program's own looks are off: what the card asks. -/
theorem plain (f : FuncId) (fn : Func) (hf : Tryz.pinned.checked.prog.funcNamed "gauger/gaugerlaw07.SyntaxLengths" = some f) (hfn : Tryz.pinned.checked.prog.funcs[f]? = some fn) :
    true = Tryz.pinned.checked.prog.looks [] ∧ ∀ (j : Nat) t, fn.params[j]? = some t → Tryz.pinned.checked.prog.wantsStandIn t = false := by
  obtain rfl : f = 7 := Option.some.inj ((show Tryz.prog.funcNamed "gauger/gaugerlaw07.SyntaxLengths" = some 7 by kernel_rfl).symm.trans hf) |>.symm
  obtain rfl : fn = Tryz.f7 := (Option.some.inj (Tryz.func7.symm.trans hfn)).symm
  refine ⟨by kernel_rfl, fun j t ht => ?_⟩
  have hm : t ∈ Tryz.f7.params := Array.mem_of_getElem? ht
  have hall : Tryz.f7.params.all (fun t => !Tryz.prog.wantsStandIn t) = true := by kernel_rfl
  have := (Array.all_eq_true_iff_forall_mem.1 hall) t hm
  have h2 : Tryz.prog.wantsStandIn t = false := by simpa using this
  exact h2

/-- THE CARD. -/
theorem card : Rows.SyntaxLengthsCardSaid :=
  Claim7.holds_tied_plain_at .later [] _ _ _ _ said (fun _ h => by cases h) (by kernel_rfl) (fun _ h => by cases h) syntaxLengths_row_tie rfl ⟨rfl, rfl⟩ (by kernel_rfl) rfl plain (by kernel_rfl)
end Go.Proofs.YtmgkdmbifecekaaGreatDoor.syntaxLengths
