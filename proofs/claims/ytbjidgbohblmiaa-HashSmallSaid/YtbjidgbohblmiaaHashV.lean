/-
  What the statements' helpers reads and numbers compute: yes.
-/
import Derived.Test.YtbjidgbohblmiaaHashU
import Derived.Test.YtbjidgbohblmiaaHashX
namespace Go.Proofs.Ytbjidgbohblmiaa
open Go.RowKit

theorem reads_any (s : ByteArray) (hs : s.size ≤ 9223372036854775807) (w : World) : Calls Try.prog 17 #[.string s] w fun e w' => e = .returned (.bool true) ∧ Below w.heap.size w w' := by
  by_cases h : s.size = 16 ∧ allHex s.data.toList
  · have c1 : ∀ w, Calls Try.prog 25 #[.string s] w fun e w' => e = .returned (.tuple #[U (rdH s.data.toList), .int .i64 0]) ∧ Below w.heap.size w w' := fun w => by
      refine (read_any s w).mono ?_
      rintro e w' ⟨k | k, hb⟩
      · exact ⟨k.2.2, hb⟩
      · exact absurd h k.1
    have c2 : ∀ w, Calls Try.prog 34 #[.string s] w fun e w' => e = .returned (.tuple #[U (rdH s.data.toList), .int .i64 0]) ∧ Below w.heap.size w w' := fun w => by
      refine (refread_any s hs w).mono ?_
      rintro e w' ⟨k | k, hb⟩
      · exact ⟨k.2.2, hb⟩
      · exact absurd h k.1
    generalize rdH s.data.toList = y at c1 c2
    clear h
    go_enter Try.func17, Try.ntmps17
    go_wp2_with fail
    refine (c1 _).mono ?_
    rintro e w1 ⟨rfl, hb1⟩
    go_wp2_with fail
    refine (c2 _).mono ?_
    rintro e w2 ⟨rfl, hb2⟩
    go_wp2_with fail
    go_ret
    exact ⟨rfl, hb1.trans (hb2.mono hb1.size)⟩
  · have c1 : ∀ w, Calls Try.prog 25 #[.string s] w fun e w' => e = .returned (.tuple #[.int .u64 0, .int .i64 20]) ∧ Below w.heap.size w w' := fun w => by
      refine (read_any s w).mono ?_
      rintro e w' ⟨k | k, hb⟩
      · exact absurd ⟨k.1, k.2.1⟩ h
      · exact ⟨k.2, hb⟩
    have c2 : ∀ w, Calls Try.prog 34 #[.string s] w fun e w' => e = .returned (.tuple #[.int .u64 0, .int .i64 20]) ∧ Below w.heap.size w w' := fun w => by
      refine (refread_any s hs w).mono ?_
      rintro e w' ⟨k | k, hb⟩
      · exact absurd ⟨k.1, k.2.1⟩ h
      · exact ⟨k.2, hb⟩
    clear h
    go_enter Try.func17, Try.ntmps17
    go_wp2_with fail
    refine (c1 _).mono ?_
    rintro e w1 ⟨rfl, hb1⟩
    go_wp2_with fail
    refine (c2 _).mono ?_
    rintro e w2 ⟨rfl, hb2⟩
    go_wp2_with fail
    go_ret
    exact ⟨rfl, hb1.trans (hb2.mono hb1.size)⟩

theorem last_both (a c : BitVec 64) : ∃ r k : Int, (∀ w, Calls Try.prog 23 #[U a, U c] w fun e w' => e = .returned (.tuple #[.int .u8 r, .int .i64 k]) ∧ w = w') ∧ (∀ w, Calls Try.prog 33 #[U a, U c] w fun e w' => e = .returned (.tuple #[.int .u8 r, .int .i64 k]) ∧ w = w') := by
  by_cases h : ((lst a c).toNat : Int) ≤ 255
  · refine ⟨((lst a c).toNat : Int), 0, fun w => last_yes a c h w, fun w => (reflast_any a c w).mono ?_⟩
    rintro e w' ⟨k | k, rfl⟩
    · exact ⟨k.2, rfl⟩
    · exact absurd h k.1
  · refine ⟨0, 6, fun w => last_no a c h w, fun w => (reflast_any a c w).mono ?_⟩
    rintro e w' ⟨k | k, rfl⟩
    · exact absurd k.1 h
    · exact ⟨k.2, rfl⟩
/-- What Zeros answers, here and there. -/
theorem zeros_both (h : BitVec 64) (n : Int) (h2 : n ≤ 9223372036854775807) : ∃ (X : BitVec 64) (E : Int), (∀ w, Calls Try.prog 22 #[U h, .int .i64 n] w fun e w' => e = .returned (.tuple #[U X, .int .i64 E]) ∧ Below w.heap.size w w') ∧ (∀ w, Calls Try.prog 30 #[U h, .int .i64 n] w fun e w' => e = .returned (.tuple #[U X, .int .i64 E]) ∧ w = w') := by
  by_cases hn : n < 0
  · refine ⟨0#64, 2, fun w => (zeros_no h n hn w).mono ?_, fun w => refzeros_no h n hn w⟩
    rintro e w' ⟨rfl, rfl⟩
    exact ⟨rfl, Below.refl _ _⟩
  · obtain ⟨k, rfl⟩ := Int.eq_ofNat_of_zero_le (by omega : 0 ≤ n)
    exact ⟨h * pw k, 0, fun w => zeros_yes h k (by omega) w, fun w => refzeros_yes h k (by omega) w⟩
theorem text_both (h : BitVec 64) : ∃ T, (∀ w, Calls Try.prog 24 #[U h] w fun e w' => e = .returned (.string T) ∧ Below w.heap.size w w') ∧ (∀ w, Calls Try.prog 31 #[U h] w fun e w' => e = .returned (.string T) ∧ Below w.heap.size w w') :=
  ⟨txtS h, fun w => text_any h w, fun w => reftext_any h w⟩
def NumOk (w : World) (e : Ending) (w' : World) : Prop := e = .returned (.bool true) ∧ Below w.heap.size w w'
theorem cells3 (w : World) (l : List Value) (t : TypeId) (j : Nat) (u : Value) (h : l[j]? = some u) : (w.alloc (.cells l.toArray t)).cell? ⟨w.heap.size, j, none⟩ = some u := by
  have := cells_new w l t j u h
  rwa [add0] at this

set_option maxRecDepth 100000 in
set_option maxHeartbeats 2000000 in
theorem numbers_lo (h to : BitVec 64) (n b : Int) (b0 : 0 ≤ b) (b1 : b ≤ 255) (hn : ¬ 1 ≤ n) (hn2 : n ≤ 9223372036854775807) (w : World) :
    Calls Try.prog 16 #[U h, U to, .int .i64 n, .int .u8 b] w (NumOk w) := by
  obtain ⟨X, E, cz, cy⟩ := zeros_both h n hn2
  obtain ⟨T, ct, cu⟩ := text_both h
  have cs := refstep_any h b b0 b1
  have hself : (T.toList == T.toList) = true := by simp
  have hB0 : Below w.heap.size w w := Below.refl _ _
  have hn1 : n < 1 := by omega
  have cm := modulo_no h n hn1
  have CZ := Lib.hid cz; have CY := Lib.hid cy; have CT := Lib.hid ct; have CU := Lib.hid cu; have CS := Lib.hid cs; have CM := Lib.hid cm
  clear cz cy ct cu cs cm hn
  obtain ⟨N, hN⟩ : ∃ N, st h (B8 b) = N := ⟨_, rfl⟩
  rw [hN] at CS
  clear hN
  go_enter Try.func16, Try.ntmps16
  go_wp2_with fail
  refine (CZ.out _).mono ?_
  rintro e w1 ⟨rfl, hB1⟩
  go_wp2_with fail
  refine (CY.out _).mono ?_
  rintro e w' ⟨rfl, rfl⟩
  go_wp2_with fail
  refine (CM.out _).mono ?_
  rintro e w' ⟨rfl, rfl⟩
  go_wp2_with fail
  refine (CT.out _).mono ?_
  rintro e w2 ⟨rfl, hb2⟩
  have hB2 := hB1.trans (hb2.mono hB1.size)
  clear hb2 hB1 hB0
  go_wp2_with fail
  refine (CU.out _).mono ?_
  rintro e w3 ⟨rfl, hb3⟩
  have hB3 := hB2.trans (hb3.mono hB2.size)
  clear hb3 hB2
  go_wp2_with fail

  refine (CS.out _).mono ?_
  rintro e w' ⟨rfl, rfl⟩
  go_wp2_with fail
  have hcl := fun j u hu => cells3 w3 [U to, U N, U h] 22 j u hu
  have Hcl := Lib.hid hcl
  have hB4 := hB3.alloc hB3.size (.cells [U to, U N, U h].toArray 22)
  clear hcl CZ CY CM CT CU CS
  go_loopw [104] (fun i wr => ∃ k : Nat, k ≤ 3 ∧ i = .int .i64 k ∧ wr = w3.alloc (.cells [U to, U N, U h].toArray 22)) (fun i _ => 3 - (intOf i).toNat)
  case atStart => exact ⟨0, by omega, rfl, rfl⟩
  case round =>
    obtain ⟨k, hk, rfl, rfl⟩ := hrel
    by_cases hk3 : k < 3
    · obtain ⟨c, hc⟩ : ∃ c : BitVec 64, [U to, U N, U h][k]? = some (U c) := by
        rcases (by omega : k = 0 ∨ k = 1 ∨ k = 2) with rfl | rfl | rfl
        · exact ⟨to, rfl⟩
        · exact ⟨N, rfl⟩
        · exact ⟨h, rfl⟩
      have hcell := Hcl.out k _ hc
      obtain ⟨r, g, cl, cr⟩ := last_both h c
      clear hc
      go_wp2_with fail
      refine (cl _).mono ?_
      rintro e w' ⟨rfl, rfl⟩
      go_wp2_with fail
      refine (cr _).mono ?_
      rintro e w' ⟨rfl, rfl⟩
      go_wp2_with fail
      go_roundw
      case rel => exact ⟨k + 1, by omega, by go_num, trivial⟩
      case measure => simp [intOf]; omega
    · obtain rfl : k = 3 := by omega
      go_wp2_with fail
      go_ret
      exact ⟨rfl, hB4⟩

set_option maxRecDepth 100000 in
set_option maxHeartbeats 2000000 in
theorem numbers_hi (h to : BitVec 64) (n b : Int) (b0 : 0 ≤ b) (b1 : b ≤ 255) (hn : 1 ≤ n) (hn2 : n ≤ 9223372036854775807) (w : World) :
    Calls Try.prog 16 #[U h, U to, .int .i64 n, .int .u8 b] w (NumOk w) := by
  obtain ⟨X, E, cz, cy⟩ := zeros_both h n hn2
  obtain ⟨T, ct, cu⟩ := text_both h
  have cs := refstep_any h b b0 b1
  have hself : (T.toList == T.toList) = true := by simp
  have hB0 : Below w.heap.size w w := Below.refl _ _
  have hn0 : ¬ n = 0 := by omega
  have hn1 : 1 ≤ n := hn
  have cm := modulo_yes h n hn hn2
  have hlt := toNat_lt h
  have m0 := Int.emod_nonneg (h.toNat : Int) hn0
  have m1 := Int.emod_lt_of_pos (h.toNat : Int) (by omega : 0 < n)
  have m2 := Int.emod_add_mul_ediv (h.toNat : Int) n
  have q0 : 0 ≤ (h.toNat : Int) / n := Int.ediv_nonneg (by omega) (by omega)
  have q1 : 0 ≤ (h.toNat : Int) / n * n := Int.mul_nonneg q0 (by omega)
  obtain ⟨q, hq⟩ : ∃ q, (h.toNat : Int) / n = q := ⟨_, rfl⟩
  obtain ⟨M, hM⟩ : ∃ M, (h.toNat : Int) % n = M := ⟨_, rfl⟩
  rw [Int.mul_comm n, hq, hM] at m2
  rw [hq] at q1 q0
  rw [hM] at cm m0 m1
  have q2 : q ≤ q * n := by have := Int.mul_le_mul_of_nonneg_left hn q0; omega
  have e0 : IntKind.u64.wrap q = q := by rw [IntKind.wrap_u64]; omega
  have e1 : IntKind.u64.wrap (q * n) = q * n := by rw [IntKind.wrap_u64]; omega
  have e2 : IntKind.u64.wrap ((h.toNat : Int) - q * n) = M := by rw [IntKind.wrap_u64]; omega
  have m3 : M ≤ 9223372036854775806 := by omega
  have m4 : ¬ n ≤ M := by omega
  clear hM m2 hlt q2
  have CZ := Lib.hid cz; have CY := Lib.hid cy; have CT := Lib.hid ct; have CU := Lib.hid cu; have CS := Lib.hid cs; have CM := Lib.hid cm
  clear cz cy ct cu cs cm hn
  obtain ⟨N, hN⟩ : ∃ N, st h (B8 b) = N := ⟨_, rfl⟩
  rw [hN] at CS
  clear hN
  go_enter Try.func16, Try.ntmps16
  go_wp2_with fail
  refine (CZ.out _).mono ?_
  rintro e w1 ⟨rfl, hB1⟩
  go_wp2_with fail
  refine (CY.out _).mono ?_
  rintro e w' ⟨rfl, rfl⟩
  go_wp2_with fail
  refine (CM.out _).mono ?_
  rintro e w' ⟨rfl, rfl⟩
  go_wp2_with fail
  refine (CT.out _).mono ?_
  rintro e w2 ⟨rfl, hb2⟩
  have hB2 := hB1.trans (hb2.mono hB1.size)
  clear hb2 hB1 hB0
  go_wp2_with fail
  refine (CU.out _).mono ?_
  rintro e w3 ⟨rfl, hb3⟩
  have hB3 := hB2.trans (hb3.mono hB2.size)
  clear hb3 hB2
  go_wp2_with fail

  refine (CS.out _).mono ?_
  rintro e w' ⟨rfl, rfl⟩
  go_wp2_with fail
  have hcl := fun j u hu => cells3 w3 [U to, U N, U h] 22 j u hu
  have Hcl := Lib.hid hcl
  have hB4 := hB3.alloc hB3.size (.cells [U to, U N, U h].toArray 22)
  clear hcl CZ CY CM CT CU CS
  go_loopw [104] (fun i wr => ∃ k : Nat, k ≤ 3 ∧ i = .int .i64 k ∧ wr = w3.alloc (.cells [U to, U N, U h].toArray 22)) (fun i _ => 3 - (intOf i).toNat)
  case atStart => exact ⟨0, by omega, rfl, rfl⟩
  case round =>
    obtain ⟨k, hk, rfl, rfl⟩ := hrel
    by_cases hk3 : k < 3
    · obtain ⟨c, hc⟩ : ∃ c : BitVec 64, [U to, U N, U h][k]? = some (U c) := by
        rcases (by omega : k = 0 ∨ k = 1 ∨ k = 2) with rfl | rfl | rfl
        · exact ⟨to, rfl⟩
        · exact ⟨N, rfl⟩
        · exact ⟨h, rfl⟩
      have hcell := Hcl.out k _ hc
      obtain ⟨r, g, cl, cr⟩ := last_both h c
      clear hc
      go_wp2_with fail
      refine (cl _).mono ?_
      rintro e w' ⟨rfl, rfl⟩
      go_wp2_with fail
      refine (cr _).mono ?_
      rintro e w' ⟨rfl, rfl⟩
      go_wp2_with fail
      go_roundw
      case rel => exact ⟨k + 1, by omega, by go_num, trivial⟩
      case measure => simp [intOf]; omega
    · obtain rfl : k = 3 := by omega
      go_wp2_with fail
      go_ret
      exact ⟨rfl, hB4⟩

theorem numbers_any (h to : BitVec 64) (n b : Int) (b0 : 0 ≤ b) (b1 : b ≤ 255) (hn2 : n ≤ 9223372036854775807) (w : World) :
    Calls Try.prog 16 #[U h, U to, .int .i64 n, .int .u8 b] w (NumOk w) := by
  by_cases hn : 1 ≤ n
  · exact numbers_hi h to n b b0 b1 hn hn2 w
  · exact numbers_lo h to n b b0 b1 hn hn2 w
end Go.Proofs.Ytbjidgbohblmiaa
