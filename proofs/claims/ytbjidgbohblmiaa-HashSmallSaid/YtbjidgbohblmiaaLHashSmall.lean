/-
  PROVED: gauger/gaugerlaw02.HashSmall returns true for every input, and each argument reads afterwards as it read before.
  Conditions: those of the given row alone.
-/
import Derived.Test.YtbjidgbohblmiaaLaw0
import Derived.Test.YtbjidgbohblmiaaHashV
import Derived.Test.YtbjidgbohblmiaaHashQ
import Derived.Test.YtbjidgbohblmiaaHashW
import Derived.Test.YtbjidgbohblmiaaHashX
import Derived.BigRegion

namespace Go.Proofs.Ytbjidgbohblmiaa.hashSmall
open Go.ChangeShapes Go.WideShapes Go.ChangeAt Go.RowKit Go.WideMaps Go.WideElems
open Go.ChangeMaps (shut_map_nil open_string shut_string)


/-- The numbers of the statement: seven hashes, nine counts. -/
def hsL : List (BitVec 64) := [0#64, 1#64, 255#64, 256#64, 18446744073709551615#64, 14695981039346656037#64, 9223372036854775808#64]
def nsL : List Int := [-9223372036854775808, -1, 0, 1, 2, 63, 64, 1099511627776, 9223372036854775807]
theorem nsL_le (k : Nat) (hk : k < 9) : nsL.getD k 0 ≤ 9223372036854775807 := by
  have : ∀ j : Fin 9, nsL.getD j.1 0 ≤ 9223372036854775807 := by decide
  exact this ⟨k, hk⟩
theorem hsU (k : Nat) (hk : k < 7) : (hsL.map U)[k]? = some (U (hsL.getD k 0#64)) := by
  rcases (by omega : k = 0 ∨ k = 1 ∨ k = 2 ∨ k = 3 ∨ k = 4 ∨ k = 5 ∨ k = 6) with rfl | rfl | rfl | rfl | rfl | rfl | rfl <;> rfl
theorem nsU (k : Nat) (hk : k < 9) : (nsL.map (Value.int .i64))[k]? = some (.int .i64 (nsL.getD k 0)) := by
  rcases (by omega : k = 0 ∨ k = 1 ∨ k = 2 ∨ k = 3 ∨ k = 4 ∨ k = 5 ∨ k = 6 ∨ k = 7 ∨ k = 8) with rfl | rfl | rfl | rfl | rfl | rfl | rfl | rfl | rfl <;> rfl
theorem three {a b c : ByteArray} (ha : a.size ≤ 17) (hb : b.size = 1) (hc : c.size ≤ 17) : (a ++ b ++ c).size ≤ 100 := by
  rw [ByteArray.size_append, ByteArray.size_append]; omega
/-- A string of two bytes. -/
theorem conv2 (W : World) (o : Obj) (a b : Int) : (convert 30 9 (.slice (some ⟨W.heap.size + 1, 0, none⟩) 2 2)).run Try.prog ((W.alloc o).alloc (.cells #[.int .u8 a, .int .u8 b] 5)) = .ok (.string (strOfNums [a, b])) ((W.alloc o).alloc (.cells #[.int .u8 a, .int .u8 b] 5)) := by
  have h := conv_rd ((W.alloc o).alloc (.cells #[.int .u8 a, .int .u8 b] 5)) ((W.alloc o).heap.size + 1) (W.alloc o).heap.size 2 2 [a, b] ⟨rfl, fun _ => ⟨_, rfl, Nat.lt_succ_self _, cells_new (W.alloc o) (u8s [a, b]) 5⟩⟩
  rwa [World.size_alloc] at h
theorem tells3 (h : BitVec 64) (S1 S2 S3 : ByteArray) (t1 : S1.size ≤ 9223372036854775807) (t2 : S2.size ≤ 9223372036854775807) (t3 : S3.size ≤ 9223372036854775807) (W : World) (o1 o2 : Obj) :
    Calls Try.prog 14 #[U h, .slice (some ⟨W.heap.size + 1 + 1, 0, none⟩) 3 3] (((W.alloc o1).alloc o2).alloc (.cells #[.string S1, .string S2, .string S3] 9)) fun e w' => e = .returned (.bool true) ∧ Below (((W.alloc o1).alloc o2).alloc (.cells #[.string S1, .string S2, .string S3] 9)).heap.size (((W.alloc o1).alloc o2).alloc (.cells #[.string S1, .string S2, .string S3] 9)) w' := by
  have hr := rdNew ((W.alloc o1).alloc o2) (strs [S1, S2, S3]) 9
  have e : ((W.alloc o1).alloc o2).heap.size = W.heap.size + 1 + 1 := by simp
  rw [e] at hr
  exact tells_any h [S1, S2, S3] _ 3 3 _ hr (by omega) (by intro s hs; simp at hs; rcases hs with rfl | rfl | rfl; exact t1; exact t2; exact t3)
theorem tells3' (S1 S2 S3 : ByteArray) (t1 : S1.size ≤ 9223372036854775807) (t2 : S2.size ≤ 9223372036854775807) (t3 : S3.size ≤ 9223372036854775807) (W : World) :
    Calls Try.prog 14 #[.int .u64 7, .slice (some ⟨W.heap.size, 0, none⟩) 3 3] (W.alloc (.cells #[.string S1, .string S2, .string S3] 9)) fun e w' => e = .returned (.bool true) ∧ Below (W.alloc (.cells #[.string S1, .string S2, .string S3] 9)).heap.size (W.alloc (.cells #[.string S1, .string S2, .string S3] 9)) w' :=
  tells_any 7#64 [S1, S2, S3] _ 3 3 _ (rdNew W (strs [S1, S2, S3]) 9) (by omega) (by intro s hs; simp at hs; rcases hs with rfl | rfl | rfl; exact t1; exact t2; exact t3)
theorem tells0 (W : World) : Calls Try.prog 14 #[.int .u64 7, .slice none 0 0] W fun e w' => e = .returned (.bool true) ∧ Below W.heap.size W w' :=
  tells_any 7#64 [] none 0 0 W Rd.nil (by omega) (fun _ h => by cases h)
theorem numbers0 (h : BitVec 64) (n : Int) (hn : n ≤ 9223372036854775807) (W : World) : Calls Try.prog 16 #[U h, .int .u64 0, .int .i64 n, .int .u8 0] W fun e w' => e = .returned (.bool true) ∧ Below W.heap.size W w' :=
  numbers_any h 0#64 n 0 (by omega) (by omega) hn W
set_option maxRecDepth 100000 in
set_option maxHeartbeats 8000000 in
theorem walk (w : World) : Calls Try.prog 6 #[] w fun e w' => e = .returned (.bool true) ∧ Below w.heap.size w w' := by
  go_enter Try.func6, Try.ntmps6
  go_wp2_with fail
  have hh := fun j u hu => cells3 w (hsL.map U) 22 j u hu
  have Hh := Lib.hid hh
  clear hh
  go_loopw [12] (fun i wr => ∃ k : Nat, k ≤ 7 ∧ i = .int .i64 k ∧ Below w.heap.size w wr ∧ Below (w.heap.size + 1) (w.alloc (.cells (hsL.map U).toArray 22)) wr) (fun i _ => 7 - (intOf i).toNat)
  case atStart => exact ⟨0, by omega, rfl, (Below.refl _ _).alloc (Nat.le_refl _) _, Below.refl _ _⟩
  case round =>
    obtain ⟨k, hk, rfl, hB, hb⟩ := hrel
    obtain ⟨wa, rfl⟩ : ∃ wa, wa = wr := ⟨_, rfl⟩
    by_cases hk7 : k < 7
    · have hk7i : (k : Int) < 7 := by omega
      have hcell : wa.cell? ⟨w.heap.size, k, none⟩ = some (U (hsL.getD k 0#64)) := (hb.cell (p := ⟨w.heap.size, k, none⟩) (by show w.heap.size < _; omega)).trans (Hh.out k _ (hsU k hk7))
      generalize hsL.getD k 0#64 = h at hcell
      have hsz : w.heap.size + 1 ≤ wa.heap.size := by have := hb.size; simp at this; exact this
      have HB := Lib.hid hB
      have Hb := Lib.hid hb
      clear hB hb
      go_wp2_with fail
      go_loopw [16] (fun i wr2 => ∃ b : Nat, b ≤ 256 ∧ i = .int .i64 b ∧ Below (w.heap.size + 1) wa wr2) (fun i _ => 256 - (intOf i).toNat)
      case atStart => exact ⟨0, by omega, rfl, Below.refl _ _⟩
      case round =>
        obtain ⟨b, hb256, rfl, hb2⟩ := hrel
        obtain ⟨wb, rfl⟩ : ∃ wb, wb = wr := ⟨_, rfl⟩
        by_cases hbl : b < 256
        · have hbi : (b : Int) < 256 := by omega
          have hs2 := hb2.size
          have cv1 := fun W => conv1 W (b : Int)
          obtain ⟨z, hz, hz0, hz1⟩ : ∃ z : Int, IntKind.u8.wrap ((b : Int) * 7) = z ∧ 0 ≤ z ∧ z ≤ 255 := ⟨_, rfl, by rw [IntKind.wrap_u8']; omega, by rw [IntKind.wrap_u8']; omega⟩
          have cv2 := fun W o => conv2 W o (b : Int) z
          have t1 : (strOfNums [(b : Int)]).size ≤ 9223372036854775807 := by rw [strOfNums_size]; simp
          have t2 : (strOfNums [(b : Int), z]).size ≤ 9223372036854775807 := by rw [strOfNums_size]; simp
          generalize strOfNums [(b : Int)] = S1 at cv1 t1
          generalize strOfNums [(b : Int), z] = S2 at cv2 t2
          have ct := fun (W : World) (o1 o2 : Obj) => tells3 h S1 S2 ⟨#[]⟩ t1 t2 (by decide) W o1 o2
          obtain ⟨to, hto⟩ : ∃ to : BitVec 64, IntKind.u64.wrap (IntKind.u64.wrap ((h.toNat : Int) * (b : Int)) + 1) = (to.toNat : Int) := ⟨_, wrap_ofInt _⟩
          have cn := numbers_any h to ((b : Int) - 5) (b : Int) (by omega) (by omega) (by omega)
          have CT := Lib.hid ct; have CN := Lib.hid cn
          clear ct cn t1 t2
          go_wp2_with fail
          refine (CT.out _ _ _).mono ?_
          rintro e w5 ⟨rfl, hb5⟩
          have hB5 : Below (w.heap.size + 1) wa w5 := (((hb2.alloc (by omega) _).alloc (by simp; omega) _).alloc (by simp; omega) _).trans (hb5.mono (by simp; omega))
          clear hb5 CT cv1 cv2
          go_wp2_with fail
          refine (CN.out _).mono ?_
          rintro e w6 ⟨rfl, hb6⟩
          have hB6 : Below (w.heap.size + 1) wa w6 := hB5.trans (hb6.mono (by have := hB5.size; omega))
          clear hb6 hB5 CN
          go_wp2_with fail
          go_roundw
          case rel => exact ⟨b + 1, by omega, by go_num, hB6⟩
          case measure => simp [intOf]; omega
        · have hbi : ¬ (b : Int) < 256 := by omega
          clear hbl hb256
          have hs2 := hb2.size
          have hn := fun j u hu => cells3 wb (nsL.map (Value.int .i64)) 3 j u hu
          have Hn := Lib.hid hn
          clear hn
          go_wp2_with fail
          go_loopw [51] (fun i wr3 => ∃ j : Nat, j ≤ 9 ∧ i = .int .i64 j ∧ Below (w.heap.size + 1) wa wr3 ∧ Below (wb.heap.size + 1) (wb.alloc (.cells (nsL.map (Value.int .i64)).toArray 3)) wr3) (fun i _ => 9 - (intOf i).toNat)
          case atStart => exact ⟨0, by omega, rfl, hb2.alloc (by omega) _, Below.refl _ _⟩
          case round =>
            obtain ⟨j, hj, rfl, hb3, hb4⟩ := hrel
            by_cases hj9 : j < 9
            · have hj9i : (j : Int) < 9 := by omega
              have hcell3 : wr.cell? ⟨wb.heap.size, j, none⟩ = some (.int .i64 (nsL.getD j 0)) := (hb4.cell (p := ⟨wb.heap.size, j, none⟩) (by show wb.heap.size < _; omega)).trans (Hn.out j _ (nsU j hj9))
              have hnl := nsL_le j hj9
              generalize nsL.getD j 0 = n at hcell3 hnl
              have hs3 := hb3.size
              have hs4 : wb.heap.size + 1 ≤ wr.heap.size := by have := hb4.size; simp at this; exact this
              have Hb3 := Lib.hid hb3
              have Hb4 := Lib.hid hb4
              clear hb3 hb4
              go_wp2_with fail
              refine (numbers0 h n hnl _).mono ?_
              rintro e w6 ⟨rfl, hb6⟩
              have hB6 : Below (w.heap.size + 1) wa w6 := Hb3.out.trans (hb6.mono (by omega))
              have hB7 : Below (wb.heap.size + 1) (wb.alloc (.cells (nsL.map (Value.int .i64)).toArray 3)) w6 := Hb4.out.trans (hb6.mono hs4)
              clear hb6
              go_wp2_with fail
              go_roundw
              case rel => exact ⟨j + 1, by omega, by go_num, hB6, hB7⟩
              case measure => simp [intOf]; omega
            · obtain rfl : j = 9 := by omega
              go_wp2_with fail
              go_roundw
              case rel => exact ⟨k + 1, by omega, by go_num, HB.out.trans (hb3.mono (by omega)), Hb.out.trans hb3⟩
              case measure => simp [intOf]; omega
    · obtain rfl : k = 7 := by omega
      clear hb Hh
      go_wp2_with fail
      refine (tells0 _).mono ?_
      rintro e w1 ⟨rfl, hb1⟩
      have hB1 := hB.trans (hb1.mono hB.size)
      clear hb1 hB
      go_wp2_with fail
      refine (tells3' ⟨#[]⟩ ⟨#[]⟩ ⟨#[97]⟩ (by decide) (by decide) (by decide) _).mono ?_
      rintro e w2 ⟨rfl, hb2⟩
      have hB2 : Below w.heap.size w w2 := (hB1.alloc hB1.size _).trans (hb2.mono (by have := hB1.size; simp; omega))
      clear hb2 hB1
      go_wp2_with fail
      refine (tells3' ⟨#[97]⟩ ⟨#[]⟩ ⟨#[]⟩ (by decide) (by decide) (by decide) _).mono ?_
      rintro e w3 ⟨rfl, hb3⟩
      have hB3 : Below w.heap.size w w3 := (hB2.alloc hB2.size _).trans (hb3.mono (by have := hB2.size; simp; omega))
      clear hb3 hB2
      go_wp2_with fail
      generalize ht : (⟨#[48, 49, 50, 51, 52, 53, 54, 55, 56, 57, 97, 98, 99, 100, 101, 102]⟩ : ByteArray) = t
      have ht16 : t.size = 16 := by rw [← ht]; decide
      clear ht
      go_loopw [76] (fun i wr => ∃ k : Nat, k ≤ 17 ∧ i = .int .i64 k ∧ Below w.heap.size w wr) (fun i _ => 17 - (intOf i).toNat)
      case atStart => exact ⟨0, by omega, rfl, hB3⟩
      case round =>
        obtain ⟨i, hi, rfl, hB4⟩ := hrel
        obtain ⟨wa, rfl⟩ : ∃ wa, wa = wr := ⟨_, rfl⟩
        clear hB3
        by_cases hi17 : i < 17
        · have hii : (i : Int) < 17 := by omega
          go_wp2_with fail
          go_region
          have q1 : (t.extract 0 i).size ≤ 17 := by rw [ByteArray.size_extract]; omega
          have q2 : (t.extract i 16).size ≤ 17 := by rw [ByteArray.size_extract]; omega
          have q3 : (t.extract 0 (if (i : Int) - 1 < 0 then (0 : Int) else (i : Int) - 1).toNat).size ≤ 17 := by rw [ByteArray.size_extract]; split <;> omega
          generalize (if (i : Int) - 1 < 0 then (0 : Int) else (i : Int) - 1) = m at q3 ⊢
          generalize t.extract 0 i = X1 at q1 ⊢
          generalize t.extract i 16 = X2 at q2 ⊢
          generalize t.extract 0 m.toNat = X3 at q3 ⊢
          have p3 : (X1 ++ ⟨#[48]⟩ ++ X2).size ≤ 100 := three q1 (by decide) q2
          have p4 : (X3 ++ ⟨#[103]⟩ ++ X2).size ≤ 100 := three q3 (by decide) q2
          have p5 : (X3 ++ ⟨#[65]⟩ ++ X2).size ≤ 100 := three q3 (by decide) q2
          have p6 : (X3 ++ ⟨#[47]⟩ ++ X2).size ≤ 100 := three q3 (by decide) q2
          have p7 : (X3 ++ ⟨#[0]⟩ ++ X2).size ≤ 100 := three q3 (by decide) q2
          generalize X1 ++ ⟨#[48]⟩ ++ X2 = S3 at p3 ⊢
          generalize X3 ++ ⟨#[103]⟩ ++ X2 = S4 at p4 ⊢
          generalize X3 ++ ⟨#[65]⟩ ++ X2 = S5 at p5 ⊢
          generalize X3 ++ ⟨#[47]⟩ ++ X2 = S6 at p6 ⊢
          generalize X3 ++ ⟨#[0]⟩ ++ X2 = S7 at p7 ⊢
          obtain ⟨L, hL, hLs⟩ : ∃ L : List ByteArray, (#[Value.string X1, Value.string X2, Value.string S3, Value.string S4, Value.string S5, Value.string S6, Value.string S7] : Array Value) = (strs L).toArray ∧ L.length = 7 ∧ ∀ s ∈ L, s.size ≤ 100 :=
            ⟨[X1, X2, S3, S4, S5, S6, S7], rfl, rfl, by intro s hs; simp at hs; rcases hs with rfl | rfl | rfl | rfl | rfl | rfl | rfl <;> omega⟩
          rw [hL]
          obtain ⟨hL7, hLs⟩ := hLs
          have hcs : ∀ j (hj : j < L.length), ((wa.alloc (.cells (strs L).toArray 9)).drew).cell? ⟨wa.heap.size, j, none⟩ = some (.string L[j]) := fun j hj => cells3 wa (strs L) 9 j _ (strs_get L j hj)
          have hsW : ((wa.alloc (.cells (strs L).toArray 9)).drew).heap.size = wa.heap.size + 1 := by show (wa.alloc _).heap.size = _; simp
          have hBW : Below w.heap.size w ((wa.alloc (.cells (strs L).toArray 9)).drew) := (hB4.alloc hB4.size _).drew
          have Hcs := Lib.hid hcs; have HsW := Lib.hid hsW; have HLs := Lib.hid hLs; have HL7 := Lib.hid hL7
          have hsa := hB4.size
          clear hcs hsW hLs hL hL7 q1 q2 q3 p3 p4 p5 p6 p7 hB4
          generalize (wa.alloc (.cells (strs L).toArray 9)).drew = W1 at *
          go_wp2_with fail
          go_loopw [135] (fun i wr => ∃ k : Nat, k ≤ 7 ∧ i = .int .i64 k ∧ Below (wa.heap.size + 1) W1 wr) (fun i _ => 7 - (intOf i).toNat)
          case atStart => exact ⟨0, by omega, rfl, Below.refl _ _⟩
          case round =>
            obtain ⟨k, hk, rfl, hb5⟩ := hrel
            have hs5 := hb5.size
            rw [HsW.out] at hs5
            by_cases hk7 : k < 7
            · have hk7i : (k : Int) < 7 := by omega
              have hkL : k < L.length := by rw [HL7.out]; exact hk7
              have hcell : wr.cell? ⟨wa.heap.size, k, none⟩ = some (.string L[k]) := (hb5.cell (p := ⟨wa.heap.size, k, none⟩) (by show wa.heap.size < _; omega)).trans (Hcs.out k hkL)
              have hsk := HLs.out _ (List.getElem_mem hkL)
              generalize L[k] = s at hcell hsk
              have cr := reads_any s (by omega)
              go_wp2_with fail
              refine (cr _).mono ?_
              rintro e w6 ⟨rfl, hb6⟩
              have hB6 := hb5.trans (hb6.mono hs5)
              clear hb6
              go_wp2_with fail
              go_roundw
              case rel => exact ⟨k + 1, by omega, by go_num, hB6⟩
              case measure => simp [intOf]; omega
            · have hk7i : ¬ (k : Int) < 7 := by omega
              clear hk7
              go_wp2_with fail
              go_roundw
              case rel => exact ⟨i + 1, by omega, by go_num, hBW.trans (hb5.mono (by omega))⟩
              case measure => simp [intOf]; omega
        · have hii : ¬ (i : Int) < 17 := by omega
          clear hi17
          have r1 := reads_any ⟨#[]⟩ (by decide)
          have r2 := reads_any ⟨#[48, 48, 48, 48, 48, 48, 48, 48, 48, 48, 48, 48, 48, 48, 48, 48, 48]⟩ (by decide)
          have r3 := reads_any ⟨#[102, 102, 102, 102, 102, 102, 102, 102, 102, 102, 102, 102, 102, 102, 102, 102]⟩ (by decide)
          have R1 := Lib.hid r1; have R2 := Lib.hid r2; have R3 := Lib.hid r3
          clear r1 r2 r3
          go_wp2_with fail
          refine (R1.out _).mono ?_
          rintro e w5 ⟨rfl, hb5⟩
          have hB5 := hB4.trans (hb5.mono hB4.size)
          clear hb5 hB4
          go_wp2_with fail
          refine (R2.out _).mono ?_
          rintro e w6 ⟨rfl, hb6⟩
          have hB6 := hB5.trans (hb6.mono hB5.size)
          clear hb6 hB5
          go_wp2_with fail
          refine (R3.out _).mono ?_
          rintro e w7 ⟨rfl, hb7⟩
          have hB7 := hB6.trans (hb7.mono hB6.size)
          clear hb7 hB6
          go_wp2_with fail
          refine (hawake_any _).mono ?_
          rintro e w8 ⟨rfl, hb8⟩
          have hB8 := hB7.trans (hb8.mono hB7.size)
          clear hb8 hB7
          go_wp2_with fail
          go_ret
          exact ⟨rfl, hB8⟩

theorem params_ok : ∀ t ∈ Try.f6.params.toList, Try.prog.readableRec t = true ∧ t < Try.prog.types.size := by
  have h : Try.f6.params.toList.all (fun t => Try.prog.readableRec t && decide (t < Try.prog.types.size)) = true := by kernel_rfl
  intro t ht
  have := List.all_eq_true.1 h t ht
  simpa using this

set_option maxRecDepth 100000 in
set_option maxHeartbeats 2000000 in
theorem lifted (os : Os) (started : os.Started) (H : Type) (enc : TypeId × Value → H) :
    ReturnsInHanded {} Try.checked os 6 .any (Rows.hashSmallSpec.pre6 enc Try.prog Try.f6 Rows.hashSmallRow.domain false) (Rows.hashSmallSpec.post enc Try.prog Try.f6 false true false false) := by
  refine returnsInHanded_of_change (C := Try.checked) gOwn started (by kernel_rfl) Try.func6
    (ChangeSpec.witness6 (enc := enc) (C := Try.checked) false ⟨#[], #[], []⟩ 8 (by kernel_rfl) (by kernel_rfl) (by kernel_rfl) (by kernel_rfl)) ?_
  intro W base args ds gs before hval0 hW hcnd _
  have hval : ∀ (j : Nat) t v, Try.f6.params[j]? = some t → args[j]? = some v → Value.okWide Try.prog W .any base t v := hval0
  have hW' := hW
  obtain ⟨p, q, hA0, hV, rfl, hfz, hnd⟩ := hW
  have hA : DataW.TrodAll enc Try.prog W 0 (fun _ => true) true Try.f6.params.toList args.toList ds p := hA0
  rw [Try.params6] at hA hval
  obtain ⟨hargs, rfl, rfl⟩ := trodAll_nil hA
  obtain rfl : args = #[] := by cases args; simp_all
  obtain ⟨rfl, rfl⟩ := trodVars_none hV
  refine (walk W).mono fun e W' ⟨he, hb⟩ => ?_
  subst he
  exact ⟨_, rfl, law_post rfl rfl params_ok hW' rfl hb⟩

theorem said : Rows.HashSmallSaid :=
  OpenClaim.holds_of_wide 6 Try.f6 rfl rfl rfl rfl rfl rfl rfl ⟨rfl, rfl, rfl, rfl, rfl⟩ rfl rfl rfl rfl rfl (by kernel_rfl) Try.func6 (by kernel_rfl)
    (of_decide_eq_true (by kernel_rfl)) (by unfold Func.isWrapper; first | (rw [if_pos (by decide +kernel)]; kernel_rfl) | (rw [if_neg (by decide +kernel)]; exact ⟨rfl, rfl⟩))
    (fun os started H enc _ => lifted os started H enc)
end Go.Proofs.Ytbjidgbohblmiaa.hashSmall
