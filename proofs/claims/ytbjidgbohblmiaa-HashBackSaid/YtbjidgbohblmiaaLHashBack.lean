/-
  PROVED: gauger/gaugerlaw02.HashBack returns true for every input, and each argument reads afterwards as it read before.
  Conditions: those of the given row alone.
-/
import Derived.Test.YtbjidgbohblmiaaLaw0
import Derived.Test.YtbjidgbohblmiaaHashX

namespace Go.Proofs.Ytbjidgbohblmiaa.hashBack
open Go.ChangeShapes Go.WideShapes Go.ChangeAt Go.RowKit Go.WideMaps Go.WideElems
open Go.ChangeMaps (shut_map_nil open_string shut_string)


theorem cut_size (s : ByteArray) : (s.extract 0 (if 2000 < (s.size : Int) then 2000 else (s.size : Int)).toNat).size ≤ 2000 := by
  rw [ByteArray.size_extract]; split <;> omega
theorem app_data (S T : ByteArray) : (S ++ T).data.toList = S.data.toList ++ T.data.toList := by simp
/-- The walk behind the cuts. -/
def Facts (g h : BitVec 64) (S T : ByteArray) (a b c : BitVec 64) : Prop :=
  (∀ w, Calls Try.prog 18 #[U g, .string S] w fun e w' => e = .returned (U a) ∧ Below w.heap.size w w') ∧
  (∀ w, Calls Try.prog 18 #[U h, .string S] w fun e w' => e = .returned (U b) ∧ Below w.heap.size w w') ∧
  (∀ w, Calls Try.prog 19 #[U a, .string S] w fun e w' => e = .returned (U g) ∧ Below w.heap.size w w') ∧
  (∀ w, Calls Try.prog 19 #[U b, .string S] w fun e w' => e = .returned (U h) ∧ Below w.heap.size w w') ∧
  (∃ p, (∀ w, Calls Try.prog 19 #[U g, .string S] w fun e w' => e = .returned (U p) ∧ Below w.heap.size w w') ∧ ∀ w, Calls Try.prog 18 #[U p, .string S] w fun e w' => e = .returned (U g) ∧ Below w.heap.size w w') ∧
  (∀ w, Calls Try.prog 18 #[U a, .string T] w fun e w' => e = .returned (U c) ∧ Below w.heap.size w w') ∧
  (∀ w, Calls Try.prog 18 #[U g, .string (S ++ T)] w fun e w' => e = .returned (U c) ∧ Below w.heap.size w w') ∧
  (∀ w, Calls Try.prog 19 #[U c, .string (S ++ T)] w fun e w' => e = .returned (U g) ∧ Below w.heap.size w w') ∧
  (∀ w, Calls Try.prog 19 #[U c, .string T] w fun e w' => e = .returned (U a) ∧ Below w.heap.size w w') ∧
  (∃ q, (∀ w, Calls Try.prog 20 #[.string S] w fun e w' => e = .returned (U q) ∧ Below w.heap.size w w') ∧ ∀ w, Calls Try.prog 18 #[.int .u64 14695981039346656037, .string S] w fun e w' => e = .returned (U q) ∧ Below w.heap.size w w') ∧
  ((((a.toNat : Int) == (b.toNat : Int)) = ((g.toNat : Int) == (h.toNat : Int)))) ∧
  (S.size ≤ 2000 ∧ T.size ≤ 2000)
theorem back_add_any (g : BitVec 64) (S : ByteArray) (hS : S.size ≤ 4000) (w : World) : Calls Try.prog 19 #[U (addL g S.data.toList), .string S] w fun e w' => e = .returned (U g) ∧ Below w.heap.size w w' := by
  have := back_any (addL g S.data.toList) S (by omega) w
  rwa [back_add] at this
theorem add_back_any (g : BitVec 64) (S : ByteArray) (hS : S.size ≤ 4000) (w : World) : Calls Try.prog 18 #[U (backL g S.data.toList), .string S] w fun e w' => e = .returned (U g) ∧ Below w.heap.size w w' := by
  have := add_any (backL g S.data.toList) S (by omega) w
  rwa [add_back] at this
theorem facts (g h : BitVec 64) (S T : ByteArray) (hS : S.size ≤ 2000) (hT : T.size ≤ 2000) : ∃ a b c, Facts g h S T a b c := by
  have hST : (S ++ T).size ≤ 4000 := by simp; omega
  have c1 := add_any g S (by omega)
  have c2 := add_any h S (by omega)
  have c3 := back_add_any g S (by omega)
  have c4 := back_add_any h S (by omega)
  have c5 := back_any g S (by omega)
  have c5' := add_back_any g S (by omega)
  have c6 := add_any (addL g S.data.toList) T (by omega)
  have c7 := add_any g (S ++ T) (by omega)
  have c8 := back_add_any g (S ++ T) hST
  have c9 := back_add_any (addL g S.data.toList) T (by omega)
  have d1 := sum_any S (by omega)
  have d2 := add_any Of S (by omega)
  have eq : (((addL g S.data.toList).toNat : Int) == ((addL h S.data.toList).toNat : Int)) = ((g.toNat : Int) == (h.toNat : Int)) := by
    rw [beq_U, beq_U]
    by_cases e : g = h
    · subst e; simp
    · rw [decide_eq_false e, decide_eq_false (fun k => e (addL_inj k))]
  rw [app_data, addL_append] at c7 c8
  rw [of_U] at d2
  generalize addL g S.data.toList = a at *
  generalize addL h S.data.toList = b at *
  generalize addL a T.data.toList = c at *
  generalize backL g S.data.toList = p at *
  generalize addL Of S.data.toList = q at *
  exact ⟨a, b, c, c1, c2, c3, c4, ⟨p, c5, c5'⟩, c6, c7, c8, c9, ⟨q, d1, d2⟩, eq, hS, hT⟩
set_option maxHeartbeats 4000000 in
set_option maxRecDepth 100000 in
theorem walk (g h : BitVec 64) (s t : ByteArray) (w : World) :
    Calls Try.prog 7 #[U g, U h, .string s, .string t] w fun e w' => e = .returned (.bool true) ∧ Below w.heap.size w w' := by
  have z1 := cut_size s
  have z2 := cut_size t
  go_enter Try.func7, Try.ntmps7
  go_wp2_with fail
  go_region
  generalize (if (2000 : Int) < (s.size : Int) then (2000 : Int) else (s.size : Int)) = m1 at z1 ⊢
  generalize (if (2000 : Int) < (t.size : Int) then (2000 : Int) else (t.size : Int)) = m2 at z2 ⊢
  generalize ByteArray.extract s 0 _ = S at z1 ⊢
  generalize ByteArray.extract t 0 _ = T at z2 ⊢
  have hB0 : Below w.heap.size w w.drew := (Below.refl _ _).drew
  generalize w.drew = w0 at hB0 ⊢
  obtain ⟨a, b, c, F⟩ := facts g h S T z1 z2
  obtain ⟨c1, c2, c3, c4, ⟨p, c5, c5'⟩, c6, c7, c8, c9, ⟨q, d1, d2⟩, he, z1, z2⟩ := F
  have Z : ¬ (9223372036854775807 : Int) < (S.size : Int) + (T.size : Int) := by omega
  have Z' : ¬ 9223372036854775807 < S.size + T.size := by omega
  have C1 := Lib.hid c1; have C2 := Lib.hid c2; have C3 := Lib.hid c3; have C4 := Lib.hid c4; have C5 := Lib.hid c5; have C5' := Lib.hid c5'; have C6 := Lib.hid c6; have C7 := Lib.hid c7; have C8 := Lib.hid c8; have C9 := Lib.hid c9; have D1 := Lib.hid d1; have D2 := Lib.hid d2
  clear c1 c2 c3 c4 c5 c5' c6 c7 c8 c9 d1 d2
  go_wp2_with fail
  refine (C1.out _).mono ?_
  rintro e w1 ⟨rfl, hb1⟩
  have hB1 := hB0.trans (hb1.mono hB0.size)
  clear hb1 hB0
  go_wp2_with fail
  refine (C2.out _).mono ?_
  rintro e w2 ⟨rfl, hb2⟩
  have hB2 := hB1.trans (hb2.mono hB1.size)
  clear hb2 hB1
  go_wp2_with fail
  refine (C3.out _).mono ?_
  rintro e w3 ⟨rfl, hb3⟩
  have hB3 := hB2.trans (hb3.mono hB2.size)
  clear hb3 hB2
  go_wp2_with fail
  refine (C4.out _).mono ?_
  rintro e w4 ⟨rfl, hb4⟩
  have hB4 := hB3.trans (hb4.mono hB3.size)
  clear hb4 hB3
  go_wp2_with fail
  refine (C5.out _).mono ?_
  rintro e w5 ⟨rfl, hb5⟩
  have hB5 := hB4.trans (hb5.mono hB4.size)
  clear hb5 hB4
  go_wp2_with fail
  refine (C5'.out _).mono ?_
  rintro e w6 ⟨rfl, hb6⟩
  have hB6 := hB5.trans (hb6.mono hB5.size)
  clear hb6 hB5
  go_wp2_with fail
  refine (C6.out _).mono ?_
  rintro e w7 ⟨rfl, hb7⟩
  have hB7 := hB6.trans (hb7.mono hB6.size)
  clear hb7 hB6
  go_wp2_with fail
  refine (C7.out _).mono ?_
  rintro e w8 ⟨rfl, hb8⟩
  have hB8 := hB7.trans (hb8.mono hB7.size)
  clear hb8 hB7
  go_wp2_with fail
  refine (C8.out _).mono ?_
  rintro e w9 ⟨rfl, hb9⟩
  have hB9 := hB8.trans (hb9.mono hB8.size)
  clear hb9 hB8
  go_wp2_with fail
  refine (C9.out _).mono ?_
  rintro e w10 ⟨rfl, hb10⟩
  have hB10 := hB9.trans (hb10.mono hB9.size)
  clear hb10 hB9
  go_wp2_with fail
  refine (C3.out _).mono ?_
  rintro e w11 ⟨rfl, hb11⟩
  have hB11 := hB10.trans (hb11.mono hB10.size)
  clear hb11 hB10
  go_wp2_with fail
  refine (D1.out _).mono ?_
  rintro e w12 ⟨rfl, hb12⟩
  have hB12 := hB11.trans (hb12.mono hB11.size)
  clear hb12 hB11
  go_wp2_with fail
  refine (D2.out _).mono ?_
  rintro e w13 ⟨rfl, hb13⟩
  have hB13 := hB12.trans (hb13.mono hB12.size)
  clear hb13 hB12
  go_wp2_with fail
  refine (hawake_any _).mono ?_
  rintro e w14 ⟨rfl, hb14⟩
  have hB14 := hB13.trans (hb14.mono hB13.size)
  clear hb14 hB13
  go_wp2_with fail
  go_ret
  exact ⟨rfl, hB14⟩
theorem walk' (x y : Int) (s t : ByteArray) (hx : 0 ≤ x ∧ x ≤ 18446744073709551615) (hy : 0 ≤ y ∧ y ≤ 18446744073709551615) (w : World) :
    Calls Try.prog 7 #[.int .u64 x, .int .u64 y, .string s, .string t] w fun e w' => e = .returned (.bool true) ∧ Below w.heap.size w w' := by
  obtain ⟨g, rfl⟩ := toBV hx
  obtain ⟨h, rfl⟩ := toBV hy
  exact walk g h s t w

theorem params_ok : ∀ t ∈ Try.f7.params.toList, Try.prog.readableRec t = true ∧ t < Try.prog.types.size := by
  have h : Try.f7.params.toList.all (fun t => Try.prog.readableRec t && decide (t < Try.prog.types.size)) = true := by kernel_rfl
  intro t ht
  have := List.all_eq_true.1 h t ht
  simpa using this

set_option maxRecDepth 100000 in
set_option maxHeartbeats 2000000 in
theorem lifted (os : Os) (started : os.Started) (H : Type) (enc : TypeId × Value → H) :
    ReturnsInHanded {} Try.checked os 7 .any (Rows.hashBackSpec.pre6 enc Try.prog Try.f7 Rows.hashBackRow.domain false) (Rows.hashBackSpec.post enc Try.prog Try.f7 false true false false) := by
  refine returnsInHanded_of_change (C := Try.checked) gOwn started (by kernel_rfl) Try.func7
    (ChangeSpec.witness6 (enc := enc) (C := Try.checked) false ⟨#[], #[.int .u64 0, .int .u64 0, .string ⟨#[]⟩, .string ⟨#[]⟩], []⟩ 8 (by kernel_rfl) (by kernel_rfl) (by kernel_rfl) (by kernel_rfl)) ?_
  intro W base args ds gs before hval0 hW hcnd _
  have hval : ∀ (j : Nat) t v, Try.f7.params[j]? = some t → args[j]? = some v → Value.okWide Try.prog W .any base t v := hval0
  have hW' := hW
  obtain ⟨p, q, hA0, hV, rfl, hfz, hnd⟩ := hW
  have hA : DataW.TrodAll enc Try.prog W 0 (fun _ => true) true Try.f7.params.toList args.toList ds p := hA0
  rw [Try.params7] at hA hval
  obtain ⟨v0, vs0, d0, ds0, p0, q0, hargs, rfl, rfl, h0, r0⟩ := trodAll_cons hA
  obtain ⟨v1, vs1, d1, ds1, p1, q1, rfl, rfl, rfl, h1, r1⟩ := trodAll_cons r0
  obtain ⟨v2, vs2, d2, ds2, p2, q2, rfl, rfl, rfl, h2, r2⟩ := trodAll_cons r1
  obtain ⟨v3, vs3, d3, ds3, p3, q3, rfl, rfl, rfl, h3, r3⟩ := trodAll_cons r2
  obtain ⟨rfl, rfl, rfl⟩ := trodAll_nil r3
  obtain rfl : args = #[v0, v1, v2, v3] := by cases args; simp_all
  obtain ⟨rfl, rfl⟩ := trodVars_none hV
  obtain ⟨x0, rfl, rfl, rfl, w0⟩ := open_int Try.underlying22 (hval 0 22 v0 rfl rfl) h0
  have b0 := bounds_u64 w0
  obtain ⟨x1, rfl, rfl, rfl, w1⟩ := open_int Try.underlying22 (hval 1 22 v1 rfl rfl) h1
  have b1 := bounds_u64 w1
  obtain ⟨s2, rfl, rfl, rfl, hs2⟩ := open_string Try.underlying9 (hval 2 9 v2 rfl rfl) h2
  obtain ⟨s3, rfl, rfl, rfl, hs3⟩ := open_string Try.underlying9 (hval 3 9 v3 rfl rfl) h3
  refine (walk' x0 x1 s2 s3 (by omega) (by omega) W).mono fun e W' ⟨he, hb⟩ => ?_
  subst he
  exact ⟨_, rfl, law_post rfl rfl params_ok hW' rfl hb⟩

theorem said : Rows.HashBackSaid :=
  OpenClaim.holds_of_wide 7 Try.f7 rfl rfl rfl rfl rfl rfl rfl ⟨rfl, rfl, rfl, rfl, rfl⟩ rfl rfl rfl rfl rfl (by kernel_rfl) Try.func7 (by kernel_rfl)
    (of_decide_eq_true (by kernel_rfl)) (by unfold Func.isWrapper; first | (rw [if_pos (by decide +kernel)]; kernel_rfl) | (rw [if_neg (by decide +kernel)]; exact ⟨rfl, rfl⟩))
    (fun os started H enc _ => lifted os started H enc)
end Go.Proofs.Ytbjidgbohblmiaa.hashBack
