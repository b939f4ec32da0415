/-
  PROVED: gauger/gaugerlaw02.HashTexts returns true for every input, and each argument reads afterwards as it read before.
  Conditions: those of the given row alone.
-/
import Derived.Test.YtbjidgbohblmiaaLaw0
import Derived.Test.YtbjidgbohblmiaaHashX

namespace Go.Proofs.Ytbjidgbohblmiaa.hashTexts
open Go.ChangeShapes Go.WideShapes Go.ChangeAt Go.RowKit Go.WideMaps Go.WideElems
open Go.ChangeMaps (shut_map_nil open_string shut_string)


set_option maxHeartbeats 1000000 in
set_option maxRecDepth 100000 in
theorem wOk1 (a b : BitVec 64) (s T V : ByteArray) (n K Q : Int) (w : World) (hs : ¬ (100 : Int) < s.size) (hn : n < 1)
    (hT : T.size = 16) (hTV : (T.toList == V.toList) = ((a.toNat : Int) == (b.toNat : Int)))
    (hK0 : 0 ≤ K) (hK1 : K < 1) (hK2 : K ≤ 18446744073709551615) (hQ : IntKind.u64.wrap ((a.toNat : Int) - K) = Q) (hQ2 : (Q % 1 == 0) = true) (hQ0 : 0 ≤ Q) (hN0 : 0 ≤ 1) (hN1 : 1 ≤ 1) (hN2 : 1 ≤ 9223372036854775807)
    (ct : ∀ w, Calls Try.prog 24 #[U a] w fun e w' => e = .returned (.string T) ∧ Below w.heap.size w w')
    (cu : ∀ w, Calls Try.prog 24 #[U b] w fun e w' => e = .returned (.string V) ∧ Below w.heap.size w w')
    (cr : ∀ w, Calls Try.prog 25 #[.string T] w fun e w' => e = .returned (.tuple #[U a, .int .i64 0]) ∧ Below w.heap.size w w')
    (y : BitVec 64) (cs : ∀ w, Calls Try.prog 25 #[.string s] w fun e w' => e = .returned (.tuple #[U y, .int .i64 0]) ∧ Below w.heap.size w w') (cy : ∀ w, Calls Try.prog 24 #[U y] w fun e w' => e = .returned (.string s) ∧ Below w.heap.size w w')
    (cm : ∀ w, Calls Try.prog 26 #[U a, .int .i64 1] w fun e w' => e = .returned (.tuple #[.int .i64 K, .int .i64 0]) ∧ Below w.heap.size w w') :
    Calls Try.prog 11 #[U a, U b, .string s, .int .i64 n] w fun e w' => e = .returned (.bool true) ∧ Below w.heap.size w w' := by
  have CT := Lib.hid ct; have CU := Lib.hid cu; have CR := Lib.hid cr; have CS := Lib.hid cs; have CM := Lib.hid cm; have CY := Lib.hid cy
  clear ct cu cr cs cm cy
  have hT16 : ((T.size : Int) == 16) = true := by rw [hT]; rfl
  have hT16' : ((T.size : Int) != 16) = false := by rw [hT]; rfl
  have hself : (s.toList == s.toList) = true := by simp
  have hN : ¬ 1 = 0 := by omega
  have hB0 : Below w.heap.size w w := Below.refl _ _
  clear hT
  go_enter Try.func11, Try.ntmps11
  go_wp2_with fail
  refine (CT.out _).mono ?_
  rintro e w1 ⟨rfl, hb1⟩
  have hB1 := hB0.trans (hb1.mono hB0.size)
  clear hb1 hB0
  go_wp2_with fail
  refine (CU.out _).mono ?_
  rintro e w2 ⟨rfl, hb2⟩
  have hB2 := hB1.trans (hb2.mono hB1.size)
  clear hb2 hB1
  go_wp2_with fail
  refine (CR.out _).mono ?_
  rintro e w3 ⟨rfl, hb3⟩
  have hB3 := hB2.trans (hb3.mono hB2.size)
  clear hb3 hB2
  go_wp2_with fail
  refine (CS.out _).mono ?_
  rintro e w4 ⟨rfl, hb4⟩
  have hB4 := hB3.trans (hb4.mono hB3.size)
  clear hb4 hB3
  go_wp2_with fail
  refine (CY.out _).mono ?_
  rintro e w5 ⟨rfl, hb5⟩
  have hB5 := hB4.trans (hb5.mono hB4.size)
  clear hb5 hB4
  go_wp2_with fail
  refine (CM.out _).mono ?_
  rintro e w6 ⟨rfl, hb6⟩
  have hB6 := hB5.trans (hb6.mono hB5.size)
  clear hb6 hB5
  go_wp2_with fail
  refine (hawake_any _).mono ?_
  rintro e w7 ⟨rfl, hb7⟩
  have hB7 := hB6.trans (hb7.mono hB6.size)
  clear hb7 hB6
  go_wp2_with fail
  go_ret
  exact ⟨rfl, hB7⟩

set_option maxHeartbeats 1000000 in
set_option maxRecDepth 100000 in
theorem wOk2 (a b : BitVec 64) (s T V : ByteArray) (n K Q : Int) (w : World) (hs : ¬ (100 : Int) < s.size) (hn : ¬ n < 1)
    (hT : T.size = 16) (hTV : (T.toList == V.toList) = ((a.toNat : Int) == (b.toNat : Int)))
    (hK0 : 0 ≤ K) (hK1 : K < n) (hK2 : K ≤ 18446744073709551615) (hQ : IntKind.u64.wrap ((a.toNat : Int) - K) = Q) (hQ2 : (Q % n == 0) = true) (hQ0 : 0 ≤ Q) (hN0 : 0 ≤ n) (hN1 : 1 ≤ n) (hN2 : n ≤ 9223372036854775807)
    (ct : ∀ w, Calls Try.prog 24 #[U a] w fun e w' => e = .returned (.string T) ∧ Below w.heap.size w w')
    (cu : ∀ w, Calls Try.prog 24 #[U b] w fun e w' => e = .returned (.string V) ∧ Below w.heap.size w w')
    (cr : ∀ w, Calls Try.prog 25 #[.string T] w fun e w' => e = .returned (.tuple #[U a, .int .i64 0]) ∧ Below w.heap.size w w')
    (y : BitVec 64) (cs : ∀ w, Calls Try.prog 25 #[.string s] w fun e w' => e = .returned (.tuple #[U y, .int .i64 0]) ∧ Below w.heap.size w w') (cy : ∀ w, Calls Try.prog 24 #[U y] w fun e w' => e = .returned (.string s) ∧ Below w.heap.size w w')
    (cm : ∀ w, Calls Try.prog 26 #[U a, .int .i64 n] w fun e w' => e = .returned (.tuple #[.int .i64 K, .int .i64 0]) ∧ Below w.heap.size w w') :
    Calls Try.prog 11 #[U a, U b, .string s, .int .i64 n] w fun e w' => e = .returned (.bool true) ∧ Below w.heap.size w w' := by
  have CT := Lib.hid ct; have CU := Lib.hid cu; have CR := Lib.hid cr; have CS := Lib.hid cs; have CM := Lib.hid cm; have CY := Lib.hid cy
  clear ct cu cr cs cm cy
  have hT16 : ((T.size : Int) == 16) = true := by rw [hT]; rfl
  have hT16' : ((T.size : Int) != 16) = false := by rw [hT]; rfl
  have hself : (s.toList == s.toList) = true := by simp
  have hN : ¬ n = 0 := by omega
  have hB0 : Below w.heap.size w w := Below.refl _ _
  clear hT
  go_enter Try.func11, Try.ntmps11
  go_wp2_with fail
  refine (CT.out _).mono ?_
  rintro e w1 ⟨rfl, hb1⟩
  have hB1 := hB0.trans (hb1.mono hB0.size)
  clear hb1 hB0
  go_wp2_with fail
  refine (CU.out _).mono ?_
  rintro e w2 ⟨rfl, hb2⟩
  have hB2 := hB1.trans (hb2.mono hB1.size)
  clear hb2 hB1
  go_wp2_with fail
  refine (CR.out _).mono ?_
  rintro e w3 ⟨rfl, hb3⟩
  have hB3 := hB2.trans (hb3.mono hB2.size)
  clear hb3 hB2
  go_wp2_with fail
  refine (CS.out _).mono ?_
  rintro e w4 ⟨rfl, hb4⟩
  have hB4 := hB3.trans (hb4.mono hB3.size)
  clear hb4 hB3
  go_wp2_with fail
  refine (CY.out _).mono ?_
  rintro e w5 ⟨rfl, hb5⟩
  have hB5 := hB4.trans (hb5.mono hB4.size)
  clear hb5 hB4
  go_wp2_with fail
  refine (CM.out _).mono ?_
  rintro e w6 ⟨rfl, hb6⟩
  have hB6 := hB5.trans (hb6.mono hB5.size)
  clear hb6 hB5
  go_wp2_with fail
  refine (hawake_any _).mono ?_
  rintro e w7 ⟨rfl, hb7⟩
  have hB7 := hB6.trans (hb7.mono hB6.size)
  clear hb7 hB6
  go_wp2_with fail
  go_ret
  exact ⟨rfl, hB7⟩

set_option maxHeartbeats 1000000 in
set_option maxRecDepth 100000 in
theorem wNo1 (a b : BitVec 64) (s T V : ByteArray) (n K Q : Int) (w : World) (hs : ¬ (100 : Int) < s.size) (hn : n < 1)
    (hT : T.size = 16) (hTV : (T.toList == V.toList) = ((a.toNat : Int) == (b.toNat : Int)))
    (hK0 : 0 ≤ K) (hK1 : K < 1) (hK2 : K ≤ 18446744073709551615) (hQ : IntKind.u64.wrap ((a.toNat : Int) - K) = Q) (hQ2 : (Q % 1 == 0) = true) (hQ0 : 0 ≤ Q) (hN0 : 0 ≤ 1) (hN1 : 1 ≤ 1) (hN2 : 1 ≤ 9223372036854775807)
    (ct : ∀ w, Calls Try.prog 24 #[U a] w fun e w' => e = .returned (.string T) ∧ Below w.heap.size w w')
    (cu : ∀ w, Calls Try.prog 24 #[U b] w fun e w' => e = .returned (.string V) ∧ Below w.heap.size w w')
    (cr : ∀ w, Calls Try.prog 25 #[.string T] w fun e w' => e = .returned (.tuple #[U a, .int .i64 0]) ∧ Below w.heap.size w w')
    (cs : ∀ w, Calls Try.prog 25 #[.string s] w fun e w' => e = .returned (.tuple #[.int .u64 0, .int .i64 20]) ∧ Below w.heap.size w w')
    (cm : ∀ w, Calls Try.prog 26 #[U a, .int .i64 1] w fun e w' => e = .returned (.tuple #[.int .i64 K, .int .i64 0]) ∧ Below w.heap.size w w') :
    Calls Try.prog 11 #[U a, U b, .string s, .int .i64 n] w fun e w' => e = .returned (.bool true) ∧ Below w.heap.size w w' := by
  have CT := Lib.hid ct; have CU := Lib.hid cu; have CR := Lib.hid cr; have CS := Lib.hid cs; have CM := Lib.hid cm
  clear ct cu cr cs cm
  have hT16 : ((T.size : Int) == 16) = true := by rw [hT]; rfl
  have hT16' : ((T.size : Int) != 16) = false := by rw [hT]; rfl
  have hself : (s.toList == s.toList) = true := by simp
  have hN : ¬ 1 = 0 := by omega
  have hB0 : Below w.heap.size w w := Below.refl _ _
  clear hT
  go_enter Try.func11, Try.ntmps11
  go_wp2_with fail
  refine (CT.out _).mono ?_
  rintro e w1 ⟨rfl, hb1⟩
  have hB1 := hB0.trans (hb1.mono hB0.size)
  clear hb1 hB0
  go_wp2_with fail
  refine (CU.out _).mono ?_
  rintro e w2 ⟨rfl, hb2⟩
  have hB2 := hB1.trans (hb2.mono hB1.size)
  clear hb2 hB1
  go_wp2_with fail
  refine (CR.out _).mono ?_
  rintro e w3 ⟨rfl, hb3⟩
  have hB3 := hB2.trans (hb3.mono hB2.size)
  clear hb3 hB2
  go_wp2_with fail
  refine (CS.out _).mono ?_
  rintro e w4 ⟨rfl, hb4⟩
  have hB4 := hB3.trans (hb4.mono hB3.size)
  clear hb4 hB3
  go_wp2_with fail
  refine (CM.out _).mono ?_
  rintro e w5 ⟨rfl, hb5⟩
  have hB5 := hB4.trans (hb5.mono hB4.size)
  clear hb5 hB4
  go_wp2_with fail
  refine (hawake_any _).mono ?_
  rintro e w6 ⟨rfl, hb6⟩
  have hB6 := hB5.trans (hb6.mono hB5.size)
  clear hb6 hB5
  go_wp2_with fail
  go_ret
  exact ⟨rfl, hB6⟩

set_option maxHeartbeats 1000000 in
set_option maxRecDepth 100000 in
theorem wNo2 (a b : BitVec 64) (s T V : ByteArray) (n K Q : Int) (w : World) (hs : ¬ (100 : Int) < s.size) (hn : ¬ n < 1)
    (hT : T.size = 16) (hTV : (T.toList == V.toList) = ((a.toNat : Int) == (b.toNat : Int)))
    (hK0 : 0 ≤ K) (hK1 : K < n) (hK2 : K ≤ 18446744073709551615) (hQ : IntKind.u64.wrap ((a.toNat : Int) - K) = Q) (hQ2 : (Q % n == 0) = true) (hQ0 : 0 ≤ Q) (hN0 : 0 ≤ n) (hN1 : 1 ≤ n) (hN2 : n ≤ 9223372036854775807)
    (ct : ∀ w, Calls Try.prog 24 #[U a] w fun e w' => e = .returned (.string T) ∧ Below w.heap.size w w')
    (cu : ∀ w, Calls Try.prog 24 #[U b] w fun e w' => e = .returned (.string V) ∧ Below w.heap.size w w')
    (cr : ∀ w, Calls Try.prog 25 #[.string T] w fun e w' => e = .returned (.tuple #[U a, .int .i64 0]) ∧ Below w.heap.size w w')
    (cs : ∀ w, Calls Try.prog 25 #[.string s] w fun e w' => e = .returned (.tuple #[.int .u64 0, .int .i64 20]) ∧ Below w.heap.size w w')
    (cm : ∀ w, Calls Try.prog 26 #[U a, .int .i64 n] w fun e w' => e = .returned (.tuple #[.int .i64 K, .int .i64 0]) ∧ Below w.heap.size w w') :
    Calls Try.prog 11 #[U a, U b, .string s, .int .i64 n] w fun e w' => e = .returned (.bool true) ∧ Below w.heap.size w w' := by
  have CT := Lib.hid ct; have CU := Lib.hid cu; have CR := Lib.hid cr; have CS := Lib.hid cs; have CM := Lib.hid cm
  clear ct cu cr cs cm
  have hT16 : ((T.size : Int) == 16) = true := by rw [hT]; rfl
  have hT16' : ((T.size : Int) != 16) = false := by rw [hT]; rfl
  have hself : (s.toList == s.toList) = true := by simp
  have hN : ¬ n = 0 := by omega
  have hB0 : Below w.heap.size w w := Below.refl _ _
  clear hT
  go_enter Try.func11, Try.ntmps11
  go_wp2_with fail
  refine (CT.out _).mono ?_
  rintro e w1 ⟨rfl, hb1⟩
  have hB1 := hB0.trans (hb1.mono hB0.size)
  clear hb1 hB0
  go_wp2_with fail
  refine (CU.out _).mono ?_
  rintro e w2 ⟨rfl, hb2⟩
  have hB2 := hB1.trans (hb2.mono hB1.size)
  clear hb2 hB1
  go_wp2_with fail
  refine (CR.out _).mono ?_
  rintro e w3 ⟨rfl, hb3⟩
  have hB3 := hB2.trans (hb3.mono hB2.size)
  clear hb3 hB2
  go_wp2_with fail
  refine (CS.out _).mono ?_
  rintro e w4 ⟨rfl, hb4⟩
  have hB4 := hB3.trans (hb4.mono hB3.size)
  clear hb4 hB3
  go_wp2_with fail
  refine (CM.out _).mono ?_
  rintro e w5 ⟨rfl, hb5⟩
  have hB5 := hB4.trans (hb5.mono hB4.size)
  clear hb5 hB4
  go_wp2_with fail
  refine (hawake_any _).mono ?_
  rintro e w6 ⟨rfl, hb6⟩
  have hB6 := hB5.trans (hb6.mono hB5.size)
  clear hb6 hB5
  go_wp2_with fail
  go_ret
  exact ⟨rfl, hB6⟩

set_option maxHeartbeats 1000000 in
set_option maxRecDepth 100000 in
theorem wBig1 (a b : BitVec 64) (s T V : ByteArray) (n K Q : Int) (w : World) (hs : (100 : Int) < s.size) (hn : n < 1)
    (hT : T.size = 16) (hTV : (T.toList == V.toList) = ((a.toNat : Int) == (b.toNat : Int)))
    (hK0 : 0 ≤ K) (hK1 : K < 1) (hK2 : K ≤ 18446744073709551615) (hQ : IntKind.u64.wrap ((a.toNat : Int) - K) = Q) (hQ2 : (Q % 1 == 0) = true) (hQ0 : 0 ≤ Q) (hN0 : 0 ≤ 1) (hN1 : 1 ≤ 1) (hN2 : 1 ≤ 9223372036854775807)
    (ct : ∀ w, Calls Try.prog 24 #[U a] w fun e w' => e = .returned (.string T) ∧ Below w.heap.size w w')
    (cu : ∀ w, Calls Try.prog 24 #[U b] w fun e w' => e = .returned (.string V) ∧ Below w.heap.size w w')
    (cr : ∀ w, Calls Try.prog 25 #[.string T] w fun e w' => e = .returned (.tuple #[U a, .int .i64 0]) ∧ Below w.heap.size w w')
    (cs : ∀ w, Calls Try.prog 25 #[.string (s.extract 0 100)] w fun e w' => e = .returned (.tuple #[.int .u64 0, .int .i64 20]) ∧ Below w.heap.size w w')
    (cm : ∀ w, Calls Try.prog 26 #[U a, .int .i64 1] w fun e w' => e = .returned (.tuple #[.int .i64 K, .int .i64 0]) ∧ Below w.heap.size w w') :
    Calls Try.prog 11 #[U a, U b, .string s, .int .i64 n] w fun e w' => e = .returned (.bool true) ∧ Below w.heap.size w w' := by
  have CT := Lib.hid ct; have CU := Lib.hid cu; have CR := Lib.hid cr; have CS := Lib.hid cs; have CM := Lib.hid cm
  clear ct cu cr cs cm
  have hT16 : ((T.size : Int) == 16) = true := by rw [hT]; rfl
  have hT16' : ((T.size : Int) != 16) = false := by rw [hT]; rfl
  have hself : (s.toList == s.toList) = true := by simp
  have hN : ¬ 1 = 0 := by omega
  have hB0 : Below w.heap.size w w := Below.refl _ _
  clear hT
  go_enter Try.func11, Try.ntmps11
  go_wp2_with fail
  refine (CT.out _).mono ?_
  rintro e w1 ⟨rfl, hb1⟩
  have hB1 := hB0.trans (hb1.mono hB0.size)
  clear hb1 hB0
  go_wp2_with fail
  refine (CU.out _).mono ?_
  rintro e w2 ⟨rfl, hb2⟩
  have hB2 := hB1.trans (hb2.mono hB1.size)
  clear hb2 hB1
  go_wp2_with fail
  refine (CR.out _).mono ?_
  rintro e w3 ⟨rfl, hb3⟩
  have hB3 := hB2.trans (hb3.mono hB2.size)
  clear hb3 hB2
  go_wp2_with fail
  refine (CS.out _).mono ?_
  rintro e w4 ⟨rfl, hb4⟩
  have hB4 := hB3.trans (hb4.mono hB3.size)
  clear hb4 hB3
  go_wp2_with fail
  refine (CM.out _).mono ?_
  rintro e w5 ⟨rfl, hb5⟩
  have hB5 := hB4.trans (hb5.mono hB4.size)
  clear hb5 hB4
  go_wp2_with fail
  refine (hawake_any _).mono ?_
  rintro e w6 ⟨rfl, hb6⟩
  have hB6 := hB5.trans (hb6.mono hB5.size)
  clear hb6 hB5
  go_wp2_with fail
  go_ret
  exact ⟨rfl, hB6⟩

set_option maxHeartbeats 1000000 in
set_option maxRecDepth 100000 in
theorem wBig2 (a b : BitVec 64) (s T V : ByteArray) (n K Q : Int) (w : World) (hs : (100 : Int) < s.size) (hn : ¬ n < 1)
    (hT : T.size = 16) (hTV : (T.toList == V.toList) = ((a.toNat : Int) == (b.toNat : Int)))
    (hK0 : 0 ≤ K) (hK1 : K < n) (hK2 : K ≤ 18446744073709551615) (hQ : IntKind.u64.wrap ((a.toNat : Int) - K) = Q) (hQ2 : (Q % n == 0) = true) (hQ0 : 0 ≤ Q) (hN0 : 0 ≤ n) (hN1 : 1 ≤ n) (hN2 : n ≤ 9223372036854775807)
    (ct : ∀ w, Calls Try.prog 24 #[U a] w fun e w' => e = .returned (.string T) ∧ Below w.heap.size w w')
    (cu : ∀ w, Calls Try.prog 24 #[U b] w fun e w' => e = .returned (.string V) ∧ Below w.heap.size w w')
    (cr : ∀ w, Calls Try.prog 25 #[.string T] w fun e w' => e = .returned (.tuple #[U a, .int .i64 0]) ∧ Below w.heap.size w w')
    (cs : ∀ w, Calls Try.prog 25 #[.string (s.extract 0 100)] w fun e w' => e = .returned (.tuple #[.int .u64 0, .int .i64 20]) ∧ Below w.heap.size w w')
    (cm : ∀ w, Calls Try.prog 26 #[U a, .int .i64 n] w fun e w' => e = .returned (.tuple #[.int .i64 K, .int .i64 0]) ∧ Below w.heap.size w w') :
    Calls Try.prog 11 #[U a, U b, .string s, .int .i64 n] w fun e w' => e = .returned (.bool true) ∧ Below w.heap.size w w' := by
  have CT := Lib.hid ct; have CU := Lib.hid cu; have CR := Lib.hid cr; have CS := Lib.hid cs; have CM := Lib.hid cm
  clear ct cu cr cs cm
  have hT16 : ((T.size : Int) == 16) = true := by rw [hT]; rfl
  have hT16' : ((T.size : Int) != 16) = false := by rw [hT]; rfl
  have hself : (s.toList == s.toList) = true := by simp
  have hN : ¬ n = 0 := by omega
  have hB0 : Below w.heap.size w w := Below.refl _ _
  clear hT
  go_enter Try.func11, Try.ntmps11
  go_wp2_with fail
  refine (CT.out _).mono ?_
  rintro e w1 ⟨rfl, hb1⟩
  have hB1 := hB0.trans (hb1.mono hB0.size)
  clear hb1 hB0
  go_wp2_with fail
  refine (CU.out _).mono ?_
  rintro e w2 ⟨rfl, hb2⟩
  have hB2 := hB1.trans (hb2.mono hB1.size)
  clear hb2 hB1
  go_wp2_with fail
  refine (CR.out _).mono ?_
  rintro e w3 ⟨rfl, hb3⟩
  have hB3 := hB2.trans (hb3.mono hB2.size)
  clear hb3 hB2
  go_wp2_with fail
  refine (CS.out _).mono ?_
  rintro e w4 ⟨rfl, hb4⟩
  have hB4 := hB3.trans (hb4.mono hB3.size)
  clear hb4 hB3
  go_wp2_with fail
  refine (CM.out _).mono ?_
  rintro e w5 ⟨rfl, hb5⟩
  have hB5 := hB4.trans (hb5.mono hB4.size)
  clear hb5 hB4
  go_wp2_with fail
  refine (hawake_any _).mono ?_
  rintro e w6 ⟨rfl, hb6⟩
  have hB6 := hB5.trans (hb6.mono hB5.size)
  clear hb6 hB5
  go_wp2_with fail
  go_ret
  exact ⟨rfl, hB6⟩

theorem txt_any (a : BitVec 64) (w : World) : Calls Try.prog 24 #[U a] w fun e w' => e = .returned (.string (txtS a)) ∧ Below w.heap.size w w' := text_any a w
theorem rdt_any (a : BitVec 64) (w : World) : Calls Try.prog 25 #[.string (txtS a)] w fun e w' => e = .returned (.tuple #[U a, .int .i64 0]) ∧ Below w.heap.size w w' := by
  refine (read_any (txtS a) w).mono ?_
  rintro e w' ⟨h | h, hb⟩
  · rw [rd_txt] at h; exact ⟨h.2.2, hb⟩
  · exact absurd ⟨txtS_size a, txtS_hex a⟩ h.1
theorem hTV (a b : BitVec 64) : ((txtS a).toList == (txtS b).toList) = ((a.toNat : Int) == (b.toNat : Int)) := by
  rw [beq_U]
  by_cases e : a = b
  · subst e; simp
  · rw [decide_eq_false e, str_ne]
    intro k
    exact e (txtS_inj (bys_eq k))
theorem hK0 (x n : Int) (hn : 1 ≤ n) : 0 ≤ x % n := Int.emod_nonneg _ (by omega)
theorem hK1 (x n : Int) (hn : 1 ≤ n) : x % n < n := Int.emod_lt_of_pos _ (by omega)
theorem hK2 (a : BitVec 64) (n : Int) (hn : 1 ≤ n) : (a.toNat : Int) % n ≤ 18446744073709551615 := by
  have h1 := toNat_lt a
  have h2 : (a.toNat : Int) % n ≤ (a.toNat : Int) := by
    have h3 := Int.emod_add_mul_ediv (a.toNat : Int) n
    have h4 : 0 ≤ n * ((a.toNat : Int) / n) := Int.mul_nonneg (by omega) (Int.ediv_nonneg (by omega) (by omega))
    omega
  omega
theorem hQ (a : BitVec 64) (n : Int) (hn : 1 ≤ n) : IntKind.u64.wrap ((a.toNat : Int) - (a.toNat : Int) % n) = (a.toNat : Int) - (a.toNat : Int) % n := by
  have h1 := toNat_lt a
  have h3 := Int.emod_add_mul_ediv (a.toNat : Int) n
  have h4 : 0 ≤ n * ((a.toNat : Int) / n) := Int.mul_nonneg (by omega) (Int.ediv_nonneg (by omega) (by omega))
  have h5 := hK0 (a.toNat : Int) n hn
  rw [IntKind.wrap_u64]
  omega
theorem hQ2 (x n : Int) (_ : 1 ≤ n) : ((x - x % n) % n == 0) = true := by
  rw [beq_iff_eq]
  exact Int.emod_eq_zero_of_dvd (Int.dvd_self_sub_emod)
theorem hQ3 (a : BitVec 64) (n : Int) (hn : 1 ≤ n) : 0 ≤ (a.toNat : Int) - (a.toNat : Int) % n := by
  have h3 := Int.emod_add_mul_ediv (a.toNat : Int) n
  have h4 : 0 ≤ n * ((a.toNat : Int) / n) := Int.mul_nonneg (by omega) (Int.ediv_nonneg (by omega) (by omega))
  omega
theorem mod_any (a : BitVec 64) (n : Int) (h : 1 ≤ n) (h2 : n ≤ 9223372036854775807) (w : World) : Calls Try.prog 26 #[U a, .int .i64 n] w fun e w' => e = .returned (.tuple #[.int .i64 ((a.toNat : Int) % n), .int .i64 0]) ∧ Below w.heap.size w w' := by
  refine (modulo_yes a n h h2 w).mono ?_
  rintro e w' ⟨rfl, rfl⟩
  exact ⟨rfl, Below.refl _ _⟩
theorem walk (a b : BitVec 64) (s : ByteArray) (n : Int) (hn2 : n ≤ 9223372036854775807) (w : World) :
    Calls Try.prog 11 #[U a, U b, .string s, .int .i64 n] w fun e w' => e = .returned (.bool true) ∧ Below w.heap.size w w' := by
  have rno : ∀ S : ByteArray, ¬ (S.size = 16 ∧ allHex S.data.toList) → ∀ w, Calls Try.prog 25 #[.string S] w fun e w' => e = .returned (.tuple #[.int .u64 0, .int .i64 20]) ∧ Below w.heap.size w w' := by
    intro S hS w
    refine (read_any S w).mono ?_
    rintro e w' ⟨h | h, hb⟩
    · exact absurd ⟨h.1, h.2.1⟩ hS
    · exact ⟨h.2, hb⟩
  by_cases hs : (100 : Int) < s.size
  · have hr := rno (s.extract 0 100) (fun k => by have := k.1; rw [ByteArray.size_extract] at this; omega)
    by_cases hn : n < 1
    · exact wBig1 a b s (txtS a) (txtS b) n ((a.toNat : Int) % 1) ((a.toNat : Int) - (a.toNat : Int) % 1) w hs hn (txtS_size a) (hTV a b) (hK0 _ _ (by omega)) (hK1 _ _ (by omega)) (hK2 _ _ (by omega)) (hQ _ _ (by omega)) (hQ2 _ _ (by omega)) (hQ3 _ _ (by omega)) (by omega) (by omega) (by omega) (txt_any a) (txt_any b) (rdt_any a) hr (mod_any a 1 (by omega) (by omega))
    · exact wBig2 a b s (txtS a) (txtS b) n ((a.toNat : Int) % n) ((a.toNat : Int) - (a.toNat : Int) % n) w hs hn (txtS_size a) (hTV a b) (hK0 _ _ (by omega)) (hK1 _ _ (by omega)) (hK2 _ _ (by omega)) (hQ _ _ (by omega)) (hQ2 _ _ (by omega)) (hQ3 _ _ (by omega)) (by omega) (by omega) (by omega) (txt_any a) (txt_any b) (rdt_any a) hr (mod_any a n (by omega) (by omega))
  · by_cases hr : s.size = 16 ∧ allHex s.data.toList
    · have cs : ∀ w, Calls Try.prog 25 #[.string s] w fun e w' => e = .returned (.tuple #[U (rdH s.data.toList), .int .i64 0]) ∧ Below w.heap.size w w' := by
        intro w
        refine (read_any s w).mono ?_
        rintro e w' ⟨h | h, hb⟩
        · exact ⟨h.2.2, hb⟩
        · exact absurd hr h.1
      have cy := txt_any (rdH s.data.toList)
      rw [txt_rd s hr.1 hr.2] at cy
      by_cases hn : n < 1
      · exact wOk1 a b s (txtS a) (txtS b) n ((a.toNat : Int) % 1) ((a.toNat : Int) - (a.toNat : Int) % 1) w hs hn (txtS_size a) (hTV a b) (hK0 _ _ (by omega)) (hK1 _ _ (by omega)) (hK2 _ _ (by omega)) (hQ _ _ (by omega)) (hQ2 _ _ (by omega)) (hQ3 _ _ (by omega)) (by omega) (by omega) (by omega) (txt_any a) (txt_any b) (rdt_any a) _ cs cy (mod_any a 1 (by omega) (by omega))
      · exact wOk2 a b s (txtS a) (txtS b) n ((a.toNat : Int) % n) ((a.toNat : Int) - (a.toNat : Int) % n) w hs hn (txtS_size a) (hTV a b) (hK0 _ _ (by omega)) (hK1 _ _ (by omega)) (hK2 _ _ (by omega)) (hQ _ _ (by omega)) (hQ2 _ _ (by omega)) (hQ3 _ _ (by omega)) (by omega) (by omega) (by omega) (txt_any a) (txt_any b) (rdt_any a) _ cs cy (mod_any a n (by omega) (by omega))
    · have hr := rno s hr
      by_cases hn : n < 1
      · exact wNo1 a b s (txtS a) (txtS b) n ((a.toNat : Int) % 1) ((a.toNat : Int) - (a.toNat : Int) % 1) w hs hn (txtS_size a) (hTV a b) (hK0 _ _ (by omega)) (hK1 _ _ (by omega)) (hK2 _ _ (by omega)) (hQ _ _ (by omega)) (hQ2 _ _ (by omega)) (hQ3 _ _ (by omega)) (by omega) (by omega) (by omega) (txt_any a) (txt_any b) (rdt_any a) hr (mod_any a 1 (by omega) (by omega))
      · exact wNo2 a b s (txtS a) (txtS b) n ((a.toNat : Int) % n) ((a.toNat : Int) - (a.toNat : Int) % n) w hs hn (txtS_size a) (hTV a b) (hK0 _ _ (by omega)) (hK1 _ _ (by omega)) (hK2 _ _ (by omega)) (hQ _ _ (by omega)) (hQ2 _ _ (by omega)) (hQ3 _ _ (by omega)) (by omega) (by omega) (by omega) (txt_any a) (txt_any b) (rdt_any a) hr (mod_any a n (by omega) (by omega))
theorem walk' (x y : Int) (s : ByteArray) (n : Int) (hx : 0 ≤ x ∧ x ≤ 18446744073709551615) (hy : 0 ≤ y ∧ y ≤ 18446744073709551615) (hn2 : n ≤ 9223372036854775807) (w : World) :
    Calls Try.prog 11 #[.int .u64 x, .int .u64 y, .string s, .int .i64 n] w fun e w' => e = .returned (.bool true) ∧ Below w.heap.size w w' := by
  obtain ⟨a, rfl⟩ := toBV hx
  obtain ⟨b, rfl⟩ := toBV hy
  exact walk a b s n hn2 w

theorem params_ok : ∀ t ∈ Try.f11.params.toList, Try.prog.readableRec t = true ∧ t < Try.prog.types.size := by
  have h : Try.f11.params.toList.all (fun t => Try.prog.readableRec t && decide (t < Try.prog.types.size)) = true := by kernel_rfl
  intro t ht
  have := List.all_eq_true.1 h t ht
  simpa using this

set_option maxRecDepth 100000 in
set_option maxHeartbeats 2000000 in
theorem lifted (os : Os) (started : os.Started) (H : Type) (enc : TypeId × Value → H) :
    ReturnsInHanded {} Try.checked os 11 .any (Rows.hashTextsSpec.pre6 enc Try.prog Try.f11 Rows.hashTextsRow.domain false) (Rows.hashTextsSpec.post enc Try.prog Try.f11 false true false false) := by
  refine returnsInHanded_of_change (C := Try.checked) gOwn started (by kernel_rfl) Try.func11
    (ChangeSpec.witness6 (enc := enc) (C := Try.checked) false ⟨#[], #[.int .u64 0, .int .u64 0, .string ⟨#[]⟩, .int .i64 0], []⟩ 8 (by kernel_rfl) (by kernel_rfl) (by kernel_rfl) (by kernel_rfl)) ?_
  intro W base args ds gs before hval0 hW hcnd _
  have hval : ∀ (j : Nat) t v, Try.f11.params[j]? = some t → args[j]? = some v → Value.okWide Try.prog W .any base t v := hval0
  have hW' := hW
  obtain ⟨p, q, hA0, hV, rfl, hfz, hnd⟩ := hW
  have hA : DataW.TrodAll enc Try.prog W 0 (fun _ => true) true Try.f11.params.toList args.toList ds p := hA0
  rw [Try.params11] at hA hval
  obtain ⟨v0, vs0, d0, ds0, p0, q0, hargs, rfl, rfl, h0, r0⟩ := trodAll_cons hA
  obtain ⟨v1, vs1, d1, ds1, p1, q1, rfl, rfl, rfl, h1, r1⟩ := trodAll_cons r0
  obtain ⟨v2, vs2, d2, ds2, p2, q2, rfl, rfl, rfl, h2, r2⟩ := trodAll_cons r1
  obtain ⟨v3, vs3, d3, ds3, p3, q3, rfl, rfl, rfl, h3, r3⟩ := trodAll_cons r2
  obtain ⟨rfl, rfl, rfl⟩ := trodAll_nil r3
  obtain rfl : args = #[v0, v1, v2, v3] := by cases args; simp_all
  obtain ⟨rfl, rfl⟩ := trodVars_none hV
  obtain ⟨x0, rfl, rfl, rfl, w0⟩ := open_int Try.underlying22 (hval 0 22 v0 rfl rfl) h0
  have b0 := bounds_u64 w0
  obtain ⟨x1, rfl, rfl, rfl, w1⟩ := open_int Try.underlying22 (hval 1 22 v1 rfl rfl) h1
  have b1 := bounds_u64 w1
  obtain ⟨s2, rfl, rfl, rfl, hs2⟩ := open_string Try.underlying9 (hval 2 9 v2 rfl rfl) h2
  obtain ⟨x3, rfl, rfl, rfl, w3⟩ := open_int Try.underlying3 (hval 3 3 v3 rfl rfl) h3
  have b3 := bounds_i64 w3
  refine (walk' x0 x1 s2 x3 (by omega) (by omega) (by omega) W).mono fun e W' ⟨he, hb⟩ => ?_
  subst he
  exact ⟨_, rfl, law_post rfl rfl params_ok hW' rfl hb⟩

theorem said : Rows.HashTextsSaid :=
  OpenClaim.holds_of_wide 11 Try.f11 rfl rfl rfl rfl rfl rfl rfl ⟨rfl, rfl, rfl, rfl, rfl⟩ rfl rfl rfl rfl rfl (by kernel_rfl) Try.func11 (by kernel_rfl)
    (of_decide_eq_true (by kernel_rfl)) (by unfold Func.isWrapper; first | (rw [if_pos (by decide +kernel)]; kernel_rfl) | (rw [if_neg (by decide +kernel)]; exact ⟨rfl, rfl⟩))
    (fun os started H enc _ => lifted os started H enc)
end Go.Proofs.Ytbjidgbohblmiaa.hashTexts
