/-
  PROVED: gauger/gaugerlaw01.UtfPairs returns true for every input, and each argument reads afterwards as it read before.
  Conditions: those of the given row and card alone (package variable utf.beginnings starts as the program's text lays it; the card ties that to the text).
-/
import Derived.Test.YtdgpbminmlpebaaDoorLaw
import Derived.Test.YtdgpbminmlpebaaDoorAwake

namespace Go.Proofs.YtdgpbminmlpebaaDoor.utfPairs
open Go.ChangeShapes Go.WideShapes Go.ChangeAt Go.RowKit Go.WideMaps Go.WideElems Mt
open Go.ChangeMaps (shut_map_nil open_string shut_string)


theorem params_ok : ∀ t ∈ Tryd.f11.params.toList, Tryd.prog.readableRec t = true ∧ t < Tryd.prog.types.size := by
  have h : Tryd.f11.params.toList.all (fun t => Tryd.prog.readableRec t && decide (t < Tryd.prog.types.size)) = true := by kernel_rfl
  intro t ht
  have := List.all_eq_true.1 h t ht
  simpa using this

set_option maxHeartbeats 2000000 in
theorem walk2 (a b n h l X y r s : Int) (Hh : Hid (55296 + a % 1024 = h)) (Hl : Hid (56320 + b % 1024 = l)) (Hy : Hid (65536 + n % 1048576 = y)) (a0 : 0 ≤ a ∧ a ≤ 65535) (b0 : 0 ≤ b ∧ b ≤ 65535) (n0 : 0 ≤ n ∧ n ≤ 4294967295) (w : World) (hT : Tab w)
    (c1 : ∀ w, Calls Tryd.prog 29 #[.int .i64 h, .int .i64 l] w fun e w' => e = .returned (.tuple #[.int .i64 X, .int .i64 0]) ∧ w = w')
    (c2 : ∀ w, Calls Tryd.prog 30 #[.int .i64 X] w fun e w' => e = .returned (.tuple #[.int .i64 h, .int .i64 l, .int .i64 0]) ∧ w = w')
    (c3 : ∀ w, Calls Tryd.prog 30 #[.int .i64 y] w fun e w' => e = .returned (.tuple #[.int .i64 r, .int .i64 s, .int .i64 0]) ∧ w = w')
    (c4 : ∀ w, Calls Tryd.prog 29 #[.int .i64 r, .int .i64 s] w fun e w' => e = .returned (.tuple #[.int .i64 y, .int .i64 0]) ∧ w = w')
    (hX : isPt X = true) (hX2 : 65536 ≤ X) (hh : isPt h = false) (hl : isPt l = false) (hr : isPt r = false) (hs : isPt s = false)
    (c5 : ∀ w, Calls Tryd.prog 29 #[.int .i64 l, .int .i64 h] w fun e w' => e = .returned (.tuple #[.int .i64 0, .int .i64 2]) ∧ w = w')
    (c6 : ∀ w, Calls Tryd.prog 29 #[.int .i64 h, .int .i64 h] w fun e w' => e = .returned (.tuple #[.int .i64 0, .int .i64 2]) ∧ w = w')
    (c7 : ∀ w, Calls Tryd.prog 29 #[.int .i64 l, .int .i64 l] w fun e w' => e = .returned (.tuple #[.int .i64 0, .int .i64 2]) ∧ w = w') :
    Calls Tryd.prog 11 #[.int .u16 a, .int .u16 b, .int .u32 n] w fun e w' => e = .returned (.bool true) ∧ Below w.heap.size w w' := by
  have C1 := Lib.hid c1; have C2 := Lib.hid c2; have C3 := Lib.hid c3; have C4 := Lib.hid c4; have C5 := Lib.hid c5; have C6 := Lib.hid c6; have C7 := Lib.hid c7
  have HX := Lib.hid hX; have HH := Lib.hid hh; have HL := Lib.hid hl; have HR := Lib.hid hr; have HS := Lib.hid hs
  clear c1 c2 c3 c4 c5 c6 c7 hX hh hl hr hs
  obtain ⟨a01, a02⟩ := a0
  obtain ⟨b01, b02⟩ := b0
  obtain ⟨n01, n02⟩ := n0
  have a1 : 0 ≤ a % 1024 := by omega
  have a2 : a % 1024 < 1024 := by omega
  have b1 : 0 ≤ b % 1024 := by omega
  have b2 : b % 1024 < 1024 := by omega
  have n1 : 0 ≤ n % 1048576 := by omega
  have n2 : n % 1048576 < 1048576 := by omega
  go_enter Tryd.func11, Tryd.ntmps11
  go_wp2_with fail
  refine (awake_any w hT).mono ?_
  rintro e w1 ⟨rfl, hB⟩
  go_wp2_with fail
  rw [Hh.out, Hl.out]
  refine (C1.out _).mono ?_
  rintro e w' ⟨rfl, rfl⟩
  go_wp2_with fail
  refine (C2.out _).mono ?_
  rintro e w' ⟨rfl, rfl⟩
  go_wp2_with fail
  rw [Hy.out]
  refine (C3.out _).mono ?_
  rintro e w' ⟨rfl, rfl⟩
  go_wp2_with fail
  refine (C4.out _).mono ?_
  rintro e w' ⟨rfl, rfl⟩
  go_wp2_with fail
  refine (point_yes HX.out _).mono ?_
  rintro e w' ⟨rfl, rfl⟩
  go_wp2_with fail
  refine (point_no HH.out _).mono ?_
  rintro e w' ⟨rfl, rfl⟩
  go_wp2_with fail
  refine (point_no HL.out _).mono ?_
  rintro e w' ⟨rfl, rfl⟩
  go_wp2_with fail
  refine (point_no HR.out _).mono ?_
  rintro e w' ⟨rfl, rfl⟩
  go_wp2_with fail
  refine (point_no HS.out _).mono ?_
  rintro e w' ⟨rfl, rfl⟩
  go_wp2_with fail
  refine (C5.out _).mono ?_
  rintro e w' ⟨rfl, rfl⟩
  go_wp2_with fail
  refine (C6.out _).mono ?_
  rintro e w' ⟨rfl, rfl⟩
  go_wp2_with fail
  refine (C7.out _).mono ?_
  rintro e w' ⟨rfl, rfl⟩
  go_wp2_with fail
  go_ret
  exact ⟨rfl, hB⟩
theorem walk (a b n : Int) (ha : 0 ≤ a ∧ a ≤ 65535) (hb : 0 ≤ b ∧ b ≤ 65535) (hn : 0 ≤ n ∧ n ≤ 4294967295) (w : World) (hT : Tab w) :
    Calls Tryd.prog 11 #[.int .u16 a, .int .u16 b, .int .u32 n] w fun e w' => e = .returned (.bool true) ∧ Below w.heap.size w w' := by
  obtain ⟨h, hh⟩ : ∃ h, 55296 + a % 1024 = h := ⟨_, rfl⟩
  obtain ⟨l, hl⟩ : ∃ l, 56320 + b % 1024 = l := ⟨_, rfl⟩
  obtain ⟨y, hy⟩ : ∃ y, 65536 + n % 1048576 = y := ⟨_, rfl⟩
  obtain ⟨X, hX⟩ : ∃ X, 65536 + 1024 * (h - 55296) + l - 56320 = X := ⟨_, rfl⟩
  have e1 : 55296 + (X - 65536) / 1024 = h := by omega
  have e2 : 56320 + (X - 65536) % 1024 = l := by omega
  obtain ⟨r, hr⟩ : ∃ r, 55296 + (y - 65536) / 1024 = r := ⟨_, rfl⟩
  obtain ⟨s, hs⟩ : ∃ s, 56320 + (y - 65536) % 1024 = s := ⟨_, rfl⟩
  have e3 : 65536 + 1024 * (r - 55296) + s - 56320 = y := by omega
  refine walk2 a b n h l X y r s hh hl hy ha hb hn w hT (fun w => ?_) (fun w => ?_) (fun w => ?_) (fun w => ?_) (isPt_mk (by omega)) (by omega) (isPt_not (by omega)) (isPt_not (by omega)) (isPt_not (by omega)) (isPt_not (by omega)) (fun w => pair_no _ _ (by omega) w) (fun w => pair_no _ _ (by omega) w) (fun w => pair_no _ _ (by omega) w)
  · have := pair_yes h l (by omega) w; rwa [hX] at this
  · have := split_yes X (by omega) (by omega) w; rwa [e1, e2] at this
  · have := split_yes y (by omega) (by omega) w; rwa [hr, hs] at this
  · have := pair_yes r s (by omega) w; rwa [e3] at this

set_option maxRecDepth 100000 in
/-- WHAT THE WALK GIVES, for every argument and every world that holds the table. -/
theorem contract (H : Type) (enc : TypeId × Value → H) (W : World) (base : Nat) (args : Array Value) (ds gs : List (DataW H)) (before : List MemPlace)
    (hval : ∀ (j : Nat) t v, Tryd.f11.params[j]? = some t → args[j]? = some v → Value.okWide Tryd.prog W .any base t v)
    (hW : DataW.Whole enc Tryd.prog Tryd.f11.params.toList Rows.utfPairsSpec.vars false W args.toList ds gs before) (hL : laidMetH Tryd.prog Rows.utfPairsRow.laid W) :
    Calls Tryd.prog 11 args W fun e W' => ∃ v, e = .returned v ∧ Rows.utfPairsSpec.post enc Tryd.prog Tryd.f11 false true false false W args v W' := by
  have hW' := hW
  have hT : Tab W := tab_of_laid hL
  obtain ⟨p, q, hA0, hV, rfl, hfz, hnd⟩ := hW
  have hA : DataW.TrodAll enc Tryd.prog W 0 (fun _ => true) true Tryd.f11.params.toList args.toList ds p := hA0
  rw [Tryd.params11] at hA hval
  obtain ⟨v0, vs0, d0, ds0, p0, q0, hargs, rfl, rfl, h0, r0⟩ := trodAll_cons hA
  obtain ⟨v1, vs1, d1, ds1, p1, q1, rfl, rfl, rfl, h1, r1⟩ := trodAll_cons r0
  obtain ⟨v2, vs2, d2, ds2, p2, q2, rfl, rfl, rfl, h2, r2⟩ := trodAll_cons r1
  obtain ⟨rfl, rfl, rfl⟩ := trodAll_nil r2
  obtain rfl : args = #[v0, v1, v2] := by cases args; simp_all
  obtain ⟨rfl, rfl⟩ := trodVars_none hV
  obtain ⟨x0, rfl, rfl, rfl, w0⟩ := open_int Tryd.underlying50 (hval 0 50 v0 rfl rfl) h0
  have b0 := bounds_u16 w0
  obtain ⟨x1, rfl, rfl, rfl, w1⟩ := open_int Tryd.underlying50 (hval 1 50 v1 rfl rfl) h1
  have b1 := bounds_u16 w1
  obtain ⟨x2, rfl, rfl, rfl, w2⟩ := open_int Tryd.underlying52 (hval 2 52 v2 rfl rfl) h2
  have b2 := bounds_u32 w2
  refine (walk x0 x1 x2 (by omega) (by omega) (by omega) W hT).mono fun e W' ⟨he, hb⟩ => ?_
  subst he
  exact ⟨_, rfl, law_post rfl rfl params_ok hW' rfl hb⟩

/-- A WORLD FOR THE WITNESS: the settled one, the table holding what its initialiser lays. -/
noncomputable def laidWorld (os : Os) : World :=
  { World.holding Tryd.prog os ⟨#[], #[], []⟩ with heap := (World.holding Tryd.prog os ⟨#[], #[], []⟩).heap.modify 0 fun
      | .cells _ t frozen => .cells tabV t frozen
      | o => o }
theorem laid_met (os : Os) : laidMet Tryd.prog Rows.utfPairsRow.laid ((laidWorld os).forCall (fun _ _ => 0) ⟨#[], #[.int .u16 0, .int .u16 0, .int .u32 0], []⟩).memory :=
  laidMet_of_run' 8 (by kernel_rfl) (by kernel_rfl)
theorem reads (os : Os) {H : Type} (enc : TypeId × Value → H) : ∃ places, DataW.whole enc Tryd.prog ((laidWorld os).forCall (fun _ _ => 0) ⟨#[], #[.int .u16 0, .int .u16 0, .int .u32 0], []⟩).memory Tryd.f11.params.toList Rows.utfPairsSpec.vars false (#[.int .u16 0, .int .u16 0, .int .u32 0] : Array Value).toList 8 = some ([.lit (.int .u16 0), .lit (.int .u16 0), .lit (.int .u32 0)], [], places) :=
  ⟨[], by kernel_rfl⟩

set_option maxRecDepth 100000 in
/-- THE FIRST FORM's STEP. -/
theorem lifted (os : Os) (started : os.Started) (H : Type) (enc : TypeId × Value → H) (F : Stop.Interp) :
    ReturnsInHanded {} Tryd.checked os 11 .any ((OpenSpec.ofChange Rows.utfPairsSpec).preRow enc Tryd.prog Tryd.f11 Rows.utfPairsRow.domain false Rows.utfPairsRow.laid) (((OpenSpec.ofChange Rows.utfPairsSpec).at F).post enc Tryd.prog Tryd.f11 false true false false) := by
  obtain ⟨places, hx⟩ := reads os enc
  refine returnsInHanded_of_row (C := Tryd.checked) (s := OpenSpec.ofChange Rows.utfPairsSpec) gOwn started (by kernel_rfl) Tryd.func11
    (witness_row_at (enc := enc) (C := Tryd.checked) false (laidWorld os) #[.int .u16 0, .int .u16 0, .int .u32 0] rfl (by kernel_rfl) (by kernel_rfl) (by kernel_rfl)
      (OpenSpec.preRow_of_cond 8 hx (by kernel_rfl) (fun k hk => by cases hk) (by kernel_rfl) (laid_met os))) ?_
  intro W base args ds gs before hval hW _ _ _ hL _ _
  exact contract H enc W base args ds gs before hval hW hL

theorem said : Rows.UtfPairsSaid :=
  OpenClaim.holds_of_cond 11 Tryd.f11 rfl rfl rfl rfl rfl rfl rfl ⟨rfl, rfl, rfl, rfl, rfl⟩ rfl rfl rfl rfl rfl (by kernel_rfl) Tryd.func11 (by kernel_rfl)
    (of_decide_eq_true (by kernel_rfl)) (by unfold Func.isWrapper; first | (rw [if_pos (by decide +kernel)]; kernel_rfl) | (rw [if_neg (by decide +kernel)]; exact ⟨rfl, rfl⟩))
    (fun os started H enc _ F => by rw [OpenClaim.pre_eq_preRow]; exact lifted os started H enc F)

/-- No parameter wants a stand-in; the program's own looks are off: what the card asks. -/
theorem plain (f : FuncId) (fn : Func) (hf : Tryd.pinned.checked.prog.funcNamed "gauger/gaugerlaw01.UtfPairs" = some f) (hfn : Tryd.pinned.checked.prog.funcs[f]? = some fn) :
    false = Tryd.pinned.checked.prog.looks [] ∧ ∀ (j : Nat) t, fn.params[j]? = some t → Tryd.pinned.checked.prog.wantsStandIn t = false := by
  obtain rfl : f = 11 := Option.some.inj ((show Tryd.prog.funcNamed "gauger/gaugerlaw01.UtfPairs" = some 11 by kernel_rfl).symm.trans hf) |>.symm
  obtain rfl : fn = Tryd.f11 := (Option.some.inj (Tryd.func11.symm.trans hfn)).symm
  refine ⟨by kernel_rfl, fun j t ht => ?_⟩
  have hm : t ∈ Tryd.f11.params := Array.mem_of_getElem? ht
  have hall : Tryd.f11.params.all (fun t => !Tryd.prog.wantsStandIn t) = true := by kernel_rfl
  have := (Array.all_eq_true_iff_forall_mem.1 hall) t hm
  have h2 : Tryd.prog.wantsStandIn t = false := by simpa using this
  exact h2

/-- THE CARD. -/
theorem card : Rows.UtfPairsCardSaid :=
  Claim7.holds_tied_plain_at .later [] _ _ _ _ said (fun _ h => by cases h) (by kernel_rfl) (fun _ h => by cases h) utfPairs_row_tie rfl ⟨rfl, rfl⟩ (by kernel_rfl) rfl plain (by kernel_rfl)
end Go.Proofs.YtdgpbminmlpebaaDoor.utfPairs
