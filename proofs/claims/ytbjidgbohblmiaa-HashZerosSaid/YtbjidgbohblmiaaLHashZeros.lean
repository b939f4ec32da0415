/-
  PROVED: gauger/gaugerlaw02.HashZeros returns true for every input, and each argument reads afterwards as it read before.
  Conditions: those of the given row alone.
-/
import Derived.Test.YtbjidgbohblmiaaLaw0
import Derived.Test.YtbjidgbohblmiaaHashX
import Derived.Laws.MakeOwn

namespace Go.Proofs.Ytbjidgbohblmiaa.hashZeros
open Go.ChangeShapes Go.WideShapes Go.ChangeAt Go.RowKit Go.WideMaps Go.WideElems
open Go.ChangeMaps (shut_map_nil open_string shut_string)


theorem zeros_i (h : BitVec 64) (z : Int) (h0 : 0 ≤ z) (h1 : z ≤ 9223372036854775807) (w : World) :
    Calls Try.prog 22 #[U h, .int .i64 z] w fun e w' => e = .returned (.tuple #[U (h * pw z.toNat), .int .i64 0]) ∧ Below w.heap.size w w' := by
  obtain ⟨n, rfl⟩ := Int.eq_ofNat_of_zero_le h0
  exact zeros_yes h n (by omega) w
theorem infoB : (Try.prog.info? 5).map (fun i => (i.zero, i.size, i.bytes)) = some (some (.int .u8 0), 1, 1) := by kernel_rfl
theorem zcell (K : Nat) (j : Nat) (u : Value) (h : (u8s (List.replicate K 0))[j]? = some u) : (madeCells (Value.int .u8 0).cells K)[j]? = some u := by
  rw [← Array.getElem?_toList, show madeCells (Value.int .u8 0).cells K = madeCells #[Value.int .u8 0] K from rfl, toList_madeCells_one]
  unfold u8s at h
  rwa [List.map_replicate] at h
set_option maxHeartbeats 1000000 in
theorem walk (h : BitVec 64) (m n f : Int) (m0 : 0 ≤ m) (m1 : m ≤ 4294967295) (n0 : 0 ≤ n) (n1 : n ≤ 4294967295) (f0 : 0 ≤ f) (f1 : f ≤ 65535) (w : World) :
    Calls Try.prog 9 #[U h, .int .u32 m, .int .u32 n, .int .u16 f] w fun e w' => e = .returned (.bool true) ∧ Below w.heap.size w w' := by
  have c1 := fun w => zeros_i h (m * 256) (by omega) (by omega) w
  have c2 := fun w => zeros_i (h * pw (m * 256).toNat) (n * 256) (by omega) (by omega) w
  have c3 := fun w => zeros_i h (m * 256 + n * 256) (by omega) (by omega) w
  rw [show (m * 256 + n * 256).toNat = (m * 256).toNat + (n * 256).toNat from by omega, pw_add, ← BitVec.mul_assoc] at c3
  have c4 := fun w => zeros_i h 0 (by omega) (by omega) w
  rw [show h * pw (0 : Int).toNat = h from BitVec.mul_one h] at c4
  obtain ⟨k, hk⟩ : ∃ k : Nat, f % 301 = (k : Int) := ⟨(f % 301).toNat, by omega⟩
  have hk2 : k ≤ 300 := by omega
  have c5 := fun w => zeros_i h (k : Int) (by omega) (by omega) w
  rw [Int.toNat_natCast] at c5
  have c6 := fun w => add_any h (strOfNums (List.replicate k 0)) (by rw [strOfNums_size]; simp; omega) w
  rw [show (strOfNums (List.replicate k 0)).data.toList = List.replicate k 0 from by rw [strOfNums_data, List.map_replicate]; rfl, addL_zeros] at c6
  generalize h * pw k = Z at c5 c6
  generalize (h * pw (m * 256).toNat) * pw (n * 256).toNat = Q at c2 c3
  generalize h * pw (m * 256).toNat = P at c1 c2
  obtain ⟨i0, hi, hz0, hz1, hz2⟩ := info_parts infoB
  have hmk : ∀ W : World, (Instr.makeSlice 30 (.int .i64 (k : Int)) (.int .i64 (k : Int))).run Try.prog W = .ok (.slice (some ⟨W.heap.size, 0, none⟩) k k) (W.alloc (.cells (madeCells (Value.int .u8 0).cells k) 5)) := fun W => by
    have := run_make (P := Try.prog) W 30 5 i0 (.int .u8 0) Try.underlying30 hi hz0 .i64 .i64 (k : Int) (k : Int) (by omega) (by omega) (by rw [hz2]; omega) (by omega)
    rw [hz1] at this
    simpa using this
  have hcv : ∀ W : World, (convert 30 9 (.slice (some ⟨W.heap.size, 0, none⟩) k k)).run Try.prog (W.alloc (.cells (madeCells (Value.int .u8 0).cells k) 5)) = .ok (.string (strOfNums (List.replicate k 0))) (W.alloc (.cells (madeCells (Value.int .u8 0).cells k) 5)) := fun W =>
    conv_rd _ (W.heap.size + 1) W.heap.size k k (List.replicate k 0) ⟨by simp [u8s], fun _ => ⟨_, rfl, Nat.lt_succ_self _, fun j u hu => by
      rw [add0, cell_of_row _ W.heap.size j _ 5 (0, 0) (heap_alloc_new W _)]
      exact zcell k j u hu⟩⟩
  generalize madeCells (Value.int .u8 0).cells k = C at hmk hcv
  generalize strOfNums (List.replicate k 0) = S at hcv c6
  have C1 := Lib.hid c1; have C2 := Lib.hid c2; have C3 := Lib.hid c3; have C4 := Lib.hid c4; have C5 := Lib.hid c5; have C6 := Lib.hid c6
  clear c1 c2 c3 c4 c5 c6 hi hz0 hz1 hz2
  go_enter Try.func9, Try.ntmps9
  go_wp2_with fail
  refine (C1.out _).mono ?_
  rintro e w1 ⟨rfl, hB1⟩
  go_wp2_with fail
  refine (C2.out _).mono ?_
  rintro e w2 ⟨rfl, hb2⟩
  have hB2 := hB1.trans (hb2.mono hB1.size)
  clear hb2 hB1
  go_wp2_with fail
  refine (C3.out _).mono ?_
  rintro e w3 ⟨rfl, hb3⟩
  have hB3 := hB2.trans (hb3.mono hB2.size)
  clear hb3 hB2
  go_wp2_with fail
  refine (C4.out _).mono ?_
  rintro e w4 ⟨rfl, hb4⟩
  have hB4 := hB3.trans (hb4.mono hB3.size)
  clear hb4 hB3
  go_wp2_with fail
  refine (C5.out _).mono ?_
  rintro e w5 ⟨rfl, hb5⟩
  have hB5 := hB4.trans (hb5.mono hB4.size)
  clear hb5 hB4
  go_wp2_with fail
  refine (C6.out _).mono ?_
  rintro e w6 ⟨rfl, hb6⟩
  have hB6 := (hB5.alloc hB5.size _).trans (hb6.mono (by have := hB5.size; simp; omega))
  clear hb6 hB5
  go_wp2_with fail
  refine (hawake_any _).mono ?_
  rintro e w7 ⟨rfl, hb7⟩
  go_wp2_with fail
  go_ret
  exact ⟨rfl, hB6.trans (hb7.mono hB6.size)⟩
theorem walk' (x m n f : Int) (hx : 0 ≤ x ∧ x ≤ 18446744073709551615) (m0 : 0 ≤ m) (m1 : m ≤ 4294967295) (n0 : 0 ≤ n) (n1 : n ≤ 4294967295) (f0 : 0 ≤ f) (f1 : f ≤ 65535) (w : World) :
    Calls Try.prog 9 #[.int .u64 x, .int .u32 m, .int .u32 n, .int .u16 f] w fun e w' => e = .returned (.bool true) ∧ Below w.heap.size w w' := by
  obtain ⟨h, rfl⟩ := toBV hx
  exact walk h m n f m0 m1 n0 n1 f0 f1 w

theorem params_ok : ∀ t ∈ Try.f9.params.toList, Try.prog.readableRec t = true ∧ t < Try.prog.types.size := by
  have h : Try.f9.params.toList.all (fun t => Try.prog.readableRec t && decide (t < Try.prog.types.size)) = true := by kernel_rfl
  intro t ht
  have := List.all_eq_true.1 h t ht
  simpa using this

set_option maxRecDepth 100000 in
theorem lifted (os : Os) (started : os.Started) (H : Type) (enc : TypeId × Value → H) :
    ReturnsInHanded {} Try.checked os 9 .any (Rows.hashZerosSpec.pre6 enc Try.prog Try.f9 Rows.hashZerosRow.domain false) (Rows.hashZerosSpec.post enc Try.prog Try.f9 false true false false) := by
  refine returnsInHanded_of_change (C := Try.checked) gOwn started (by kernel_rfl) Try.func9
    (ChangeSpec.witness6 (enc := enc) (C := Try.checked) false ⟨#[], #[.int .u64 0, .int .u32 0, .int .u32 0, .int .u16 0], []⟩ 8 (by kernel_rfl) (by kernel_rfl) (by kernel_rfl) (by kernel_rfl)) ?_
  intro W base args ds gs before hval0 hW hcnd _
  have hval : ∀ (j : Nat) t v, Try.f9.params[j]? = some t → args[j]? = some v → Value.okWide Try.prog W .any base t v := hval0
  have hW' := hW
  obtain ⟨p, q, hA0, hV, rfl, hfz, hnd⟩ := hW
  have hA : DataW.TrodAll enc Try.prog W 0 (fun _ => true) true Try.f9.params.toList args.toList ds p := hA0
  rw [Try.params9] at hA hval
  obtain ⟨v0, vs0, d0, ds0, p0, q0, hargs, rfl, rfl, h0, r0⟩ := trodAll_cons hA
  obtain ⟨v1, vs1, d1, ds1, p1, q1, rfl, rfl, rfl, h1, r1⟩ := trodAll_cons r0
  obtain ⟨v2, vs2, d2, ds2, p2, q2, rfl, rfl, rfl, h2, r2⟩ := trodAll_cons r1
  obtain ⟨v3, vs3, d3, ds3, p3, q3, rfl, rfl, rfl, h3, r3⟩ := trodAll_cons r2
  obtain ⟨rfl, rfl, rfl⟩ := trodAll_nil r3
  obtain rfl : args = #[v0, v1, v2, v3] := by cases args; simp_all
  obtain ⟨rfl, rfl⟩ := trodVars_none hV
  obtain ⟨x0, rfl, rfl, rfl, w0⟩ := open_int Try.underlying22 (hval 0 22 v0 rfl rfl) h0
  have b0 := bounds_u64 w0
  obtain ⟨x1, rfl, rfl, rfl, w1⟩ := open_int Try.underlying38 (hval 1 38 v1 rfl rfl) h1
  have b1 := bounds_u32 w1
  obtain ⟨x2, rfl, rfl, rfl, w2⟩ := open_int Try.underlying38 (hval 2 38 v2 rfl rfl) h2
  have b2 := bounds_u32 w2
  obtain ⟨x3, rfl, rfl, rfl, w3⟩ := open_int Try.underlying35 (hval 3 35 v3 rfl rfl) h3
  have b3 := bounds_u16 w3
  refine (walk' x0 x1 x2 x3 (by omega) (by omega) (by omega) (by omega) (by omega) (by omega) (by omega) W).mono fun e W' ⟨he, hb⟩ => ?_
  subst he
  exact ⟨_, rfl, law_post rfl rfl params_ok hW' rfl hb⟩

theorem said : Rows.HashZerosSaid :=
  OpenClaim.holds_of_wide 9 Try.f9 rfl rfl rfl rfl rfl rfl rfl ⟨rfl, rfl, rfl, rfl, rfl⟩ rfl rfl rfl rfl rfl (by kernel_rfl) Try.func9 (by kernel_rfl)
    (of_decide_eq_true (by kernel_rfl)) (by unfold Func.isWrapper; first | (rw [if_pos (by decide +kernel)]; kernel_rfl) | (rw [if_neg (by decide +kernel)]; exact ⟨rfl, rfl⟩))
    (fun os started H enc _ => lifted os started H enc)
end Go.Proofs.Ytbjidgbohblmiaa.hashZeros
