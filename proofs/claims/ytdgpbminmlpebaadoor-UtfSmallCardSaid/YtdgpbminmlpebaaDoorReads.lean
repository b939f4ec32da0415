/-
  What the statements' reads computes: yes.
-/
import Derived.Test.YtdgpbminmlpebaaDoorRefChk
import Derived.Test.YtdgpbminmlpebaaDoorAwake
namespace Go.Proofs.YtdgpbminmlpebaaDoor
open Go.RowKit Mt
theorem rdAt_bd (s : ByteArray) (a : Int) : 0 ≤ (rdAt (bys s) a).2.2 ∧ (rdAt (bys s) a).2.2 ≤ 11 := by
  unfold rdAt
  split
  · simp
  · by_cases h : (rd ((bys s).drop a.toNat)).2.2 = 0
    · rw [h]; simp
    · by_cases hn : (bys s).drop a.toNat = []
      · rw [hn]; simp [rd]
      · rcases rd_err hn (fun c hc => bys_bd s c (List.mem_of_mem_drop hc)) h with ⟨e, _⟩ | e <;> rw [e] <;> simp
theorem chkE_bd (s : ByteArray) : 0 ≤ chkE (bys s) ∧ chkE (bys s) ≤ 11 := by
  unfold chkE
  split
  · simp
  · have := rdAt_bd s (fin (bys s) : Nat)
    unfold rdAt at this
    rw [if_neg (by have := fin_le (bys s) (bys_bd s); omega), Int.toNat_natCast] at this
    exact this
theorem cutR_bd (s : ByteArray) (k : Int) : 0 ≤ (cutR s k).2 ∧ (cutR s k).2 ≤ 11 := by
  unfold cutR
  split
  · simp
  · split
    · simp
    · unfold shortE
      split
      · simp
      · exact chkE_bd s
theorem ints_yes (w : World) (B : Nat) (A A' : Option Addr) (n c c' : Nat) (xs : List Int) (hx : Rd w B A n (i64s xs)) (hy : Rd w B A' n (i64s xs)) (hn : n ≤ 140737488355328) :
    Calls Tryd.prog 24 #[.slice A n c, .slice A' n c'] w fun e w' => e = .returned (.bool true) ∧ Below w.heap.size w w' := by
  refine (same_ints w B A A' n n c c' xs xs hx hy hn).mono ?_
  rintro e w' ⟨b, rfl, h, q, rfl⟩
  rw [h.2 rfl]
  exact ⟨rfl, below_drewN (Below.refl _ _) q⟩
theorem reads_long (s : ByteArray) (h : 2000 < s.size) (a n : Int) (w : World) : Calls Tryd.prog 15 #[.string s, .int .i64 a, .int .i64 n] w fun e w' => e = .returned (.bool true) ∧ Below w.heap.size w w' := by
  have h1 : (2000 : Int) < s.size := by omega
  go_enter Tryd.func15, Tryd.ntmps15
  go_wp2
  go_ret
  exact ⟨rfl, Below.refl _ _⟩
theorem PtsOk_rd {w w' : World} {A : Option Addr} {n : Nat} {xs : List Value} (h : Rd w w.heap.size A n xs) (hb : Below w.heap.size w w') : Rd w' w'.heap.size A n xs := (h.below hb).more hb.size
set_option maxRecDepth 100000 in
set_option maxHeartbeats 4000000 in
theorem reads_yes (s : ByteArray) (hs : s.size ≤ 2000) (a n : Int) (ha : -9223372036854775808 ≤ a ∧ a ≤ 9223372036854775807) (he : chkE (bys s) = 0) (w : World) (hT : Tab w) :
    Calls Tryd.prog 15 #[.string s, .int .i64 a, .int .i64 n] w fun e w' => e = .returned (.bool true) ∧ Below w.heap.size w w' := by
  have h1 : ¬ (2000 : Int) < s.size := by omega
  have hsE : shortE s = chkE (bys s) := if_neg (by omega)
  obtain ⟨rb0, rb1⟩ := rdAt_bd s a
  obtain ⟨cb0, cb1⟩ := cutR_bd s n
  obtain ⟨kb0, kb1⟩ := chkE_bd s
  have c1 := fun w hT => read_any s a (by omega) w hT
  have c2 := fun w => refread_any s (by omega) a ha w
  have c3 := fun w hT => check_any s (by omega) w hT
  have c4 := fun w => refcheck_any s (by omega) w
  have c8 := fun w hT => cut_any s (by omega) n w hT
  have c9 := fun w => refcut_any s (by omega) n w
  have hpl := allSteps_len (bys s) (bys_bd s)
  rw [bys_length] at hpl
  have hpl2 : (pts (bys s)).length ≤ 2000 := by unfold pts; rw [List.length_map]; omega
  clear hpl
  have c5 := fun w hT => points_yes s (by rw [hsE, he]) w hT
  have c6 := fun w => refpoints_yes s (by rw [hsE, he]) w
  have c7 := fun w hT => count_yes s (by rw [hsE, he]) w hT
  have c10 := fun w hT => valid_yes s (by omega) he w hT
  rw [he] at c3 c4
  generalize rdAt (bys s) a = R at *
  obtain ⟨x, k, e⟩ := R
  generalize cutR s n = C at *
  obtain ⟨C, u⟩ := C
  unfold ReadOk at c1 c2
  unfold PtsOk at c5 c6
  generalize pts (bys s) = P at *
  dsimp only at *
  have C1 := Lib.hid c1; have C2 := Lib.hid c2; have C3 := Lib.hid c3; have C4 := Lib.hid c4; have C5 := Lib.hid c5; have C6 := Lib.hid c6; have C7 := Lib.hid c7; have C8 := Lib.hid c8; have C9 := Lib.hid c9; have C10 := Lib.hid c10
  clear c1 c2 c3 c4 c5 c6 c7 c8 c9 c10 hsE he
  have hB0 : Below w.heap.size w w := Below.refl _ _
  go_enter Tryd.func15, Tryd.ntmps15
  go_wp2_with fail
  refine (C1.out _ hT).mono ?_
  rintro e w1 ⟨rfl, hb1⟩
  have hB1 : Below w.heap.size w w1 := hB0.trans (hb1.mono hB0.size)
  go_wp2_with fail
  refine (C2.out _).mono ?_
  rintro e w2 ⟨rfl, hb2⟩
  have hB2 : Below w.heap.size w w2 := hB1.trans (hb2.mono hB1.size)
  go_wp2_with fail
  refine (C3.out _ (hT.below hB2)).mono ?_
  rintro e w3 ⟨rfl, hb3⟩
  have hB3 : Below w.heap.size w w3 := hB2.trans (hb3.mono hB2.size)
  go_wp2_with fail
  refine (C4.out _).mono ?_
  rintro e w4 ⟨rfl, hb4⟩
  have hB4 : Below w.heap.size w w4 := hB3.trans (hb4.mono hB3.size)
  go_wp2_with fail
  refine (C5.out _ (hT.below hB4)).mono ?_
  rintro e w5 ⟨A5, k5, rfl, hr5, hb5⟩
  have hB5 : Below w.heap.size w w5 := hB4.trans (hb5.mono hB4.size)
  go_wp2_with fail
  refine (C6.out _).mono ?_
  rintro e w6 ⟨A6, k6, rfl, hr6, hb6⟩
  have hB6 : Below w.heap.size w w6 := hB5.trans (hb6.mono hB5.size)
  go_wp2_with fail
  refine (C7.out _ (hT.below hB6)).mono ?_
  rintro e w7 ⟨rfl, hb7⟩
  have hB7 : Below w.heap.size w w7 := hB6.trans (hb7.mono hB6.size)
  go_wp2_with fail
  refine (C8.out _ (hT.below hB7)).mono ?_
  rintro e w8 ⟨rfl, hb8⟩
  have hB8 : Below w.heap.size w w8 := hB7.trans (hb8.mono hB7.size)
  go_wp2_with fail
  refine (C9.out _).mono ?_
  rintro e w9 ⟨rfl, hb9⟩
  have hB9 : Below w.heap.size w w9 := hB8.trans (hb9.mono hB8.size)
  go_wp2_with fail
  refine (C10.out _ (hT.below hB9)).mono ?_
  rintro e w10 ⟨rfl, hb10⟩
  have hB10 : Below w.heap.size w w10 := hB9.trans (hb10.mono hB9.size)
  have b78 : Below w6.heap.size w6 w10 := hb7.trans ((hb8.mono hb7.size).trans ((hb9.mono (Nat.le_trans hb7.size hb8.size)).trans (hb10.mono (Nat.le_trans hb7.size (Nat.le_trans hb8.size hb9.size)))))
  have b58 : Below w5.heap.size w5 w10 := hb6.trans (b78.mono hb6.size)
  have Hr5 := Lib.hid ((PtsOk_rd hr5 b58)); have Hr6 := Lib.hid (PtsOk_rd hr6 b78)
  clear hr5 hr6 b78 b58 hb1 hb2 hb3 hb4 hb5 hb6 hb7 hb8 hb9 hb10
  go_wp2_with fail
  refine (ints_yes _ _ A5 A6 P.length k5 k6 P Hr5.out Hr6.out (by omega)).mono ?_
  rintro e w11 ⟨rfl, hb11⟩
  have hB11 : Below w.heap.size w w11 := hB10.trans (hb11.mono hB10.size)
  clear hb11
  go_wp2_with fail
  go_ret
  exact ⟨rfl, hB11⟩
set_option maxRecDepth 100000 in
set_option maxHeartbeats 4000000 in
theorem reads_no (s : ByteArray) (hs : s.size ≤ 2000) (a n : Int) (ha : -9223372036854775808 ≤ a ∧ a ≤ 9223372036854775807) (he : chkE (bys s) ≠ 0) (w : World) (hT : Tab w) :
    Calls Tryd.prog 15 #[.string s, .int .i64 a, .int .i64 n] w fun e w' => e = .returned (.bool true) ∧ Below w.heap.size w w' := by
  have h1 : ¬ (2000 : Int) < s.size := by omega
  have hsE : shortE s = chkE (bys s) := if_neg (by omega)
  obtain ⟨rb0, rb1⟩ := rdAt_bd s a
  obtain ⟨cb0, cb1⟩ := cutR_bd s n
  obtain ⟨kb0, kb1⟩ := chkE_bd s
  have c1 := fun w hT => read_any s a (by omega) w hT
  have c2 := fun w => refread_any s (by omega) a ha w
  have c3 := fun w hT => check_any s (by omega) w hT
  have c4 := fun w => refcheck_any s (by omega) w
  have c8 := fun w hT => cut_any s (by omega) n w hT
  have c9 := fun w => refcut_any s (by omega) n w
  have c5 := fun w hT => points_no s (by omega) (by rw [hsE]; exact he) w hT
  have c6 := fun w => refpoints_no s (by omega) (by rw [hsE]; exact he) w
  have c7 := fun w hT => count_no s (by omega) (by rw [hsE]; exact he) w hT
  have c10 := fun w hT => valid_no s (by omega) he w hT
  rw [hsE] at c5 c6 c7
  generalize chkE (bys s) = E at *
  have e1 : (E == 0) = false := by rw [beq_eq_false_iff_ne]; exact he
  have e2 : (E != 0) = true := by rw [bne_iff_ne]; exact he
  generalize rdAt (bys s) a = R at *
  obtain ⟨x, k, e⟩ := R
  generalize cutR s n = C at *
  obtain ⟨C, u⟩ := C
  unfold ReadOk at c1 c2
  dsimp only at *
  have C1 := Lib.hid c1; have C2 := Lib.hid c2; have C3 := Lib.hid c3; have C4 := Lib.hid c4; have C5 := Lib.hid c5; have C6 := Lib.hid c6; have C7 := Lib.hid c7; have C8 := Lib.hid c8; have C9 := Lib.hid c9; have C10 := Lib.hid c10
  clear c1 c2 c3 c4 c5 c6 c7 c8 c9 c10 hsE he
  have hB0 : Below w.heap.size w w := Below.refl _ _
  go_enter Tryd.func15, Tryd.ntmps15
  go_wp2_with fail
  refine (C1.out _ hT).mono ?_
  rintro e w1 ⟨rfl, hb1⟩
  have hB1 : Below w.heap.size w w1 := hB0.trans (hb1.mono hB0.size)
  go_wp2_with fail
  refine (C2.out _).mono ?_
  rintro e w2 ⟨rfl, hb2⟩
  have hB2 : Below w.heap.size w w2 := hB1.trans (hb2.mono hB1.size)
  go_wp2_with fail
  refine (C3.out _ (hT.below hB2)).mono ?_
  rintro e w3 ⟨rfl, hb3⟩
  have hB3 : Below w.heap.size w w3 := hB2.trans (hb3.mono hB2.size)
  go_wp2_with fail
  refine (C4.out _).mono ?_
  rintro e w4 ⟨rfl, hb4⟩
  have hB4 : Below w.heap.size w w4 := hB3.trans (hb4.mono hB3.size)
  go_wp2_with fail
  refine (C5.out _ (hT.below hB4)).mono ?_
  rintro e w5 ⟨rfl, hb5⟩
  have hB5 : Below w.heap.size w w5 := hB4.trans (hb5.mono hB4.size)
  go_wp2_with fail
  refine (C6.out _).mono ?_
  rintro e w6 ⟨rfl, hb6⟩
  have hB6 : Below w.heap.size w w6 := hB5.trans (hb6.mono hB5.size)
  go_wp2_with fail
  refine (C7.out _ (hT.below hB6)).mono ?_
  rintro e w7 ⟨rfl, hb7⟩
  have hB7 : Below w.heap.size w w7 := hB6.trans (hb7.mono hB6.size)
  go_wp2_with fail
  refine (C8.out _ (hT.below hB7)).mono ?_
  rintro e w8 ⟨rfl, hb8⟩
  have hB8 : Below w.heap.size w w8 := hB7.trans (hb8.mono hB7.size)
  go_wp2_with fail
  refine (C9.out _).mono ?_
  rintro e w9 ⟨rfl, hb9⟩
  have hB9 : Below w.heap.size w w9 := hB8.trans (hb9.mono hB8.size)
  go_wp2_with fail
  refine (C10.out _ (hT.below hB9)).mono ?_
  rintro e w10 ⟨rfl, hb10⟩
  have hB10 : Below w.heap.size w w10 := hB9.trans (hb10.mono hB9.size)
  clear hb1 hb2 hb3 hb4 hb5 hb6 hb7 hb8 hb9 hb10
  go_wp2_with fail
  refine (ints_yes _ 0 none none 0 0 0 [] Rd.nil Rd.nil (by omega)).mono ?_
  rintro e w11 ⟨rfl, hb11⟩
  have hB11 : Below w.heap.size w w11 := hB10.trans (hb11.mono hB10.size)
  clear hb11
  go_wp2_with fail
  go_ret
  exact ⟨rfl, hB11⟩
/-- READS: yes. -/
theorem reads_any (s : ByteArray) (a n : Int) (ha : -9223372036854775808 ≤ a ∧ a ≤ 9223372036854775807) (w : World) (hT : Tab w) :
    Calls Tryd.prog 15 #[.string s, .int .i64 a, .int .i64 n] w fun e w' => e = .returned (.bool true) ∧ Below w.heap.size w w' := by
  by_cases h : s.size ≤ 2000
  · by_cases he : chkE (bys s) = 0
    · exact reads_yes s h a n ha he w hT
    · exact reads_no s h a n ha he w hT
  · exact reads_long s (by omega) a n w
end Go.Proofs.YtdgpbminmlpebaaDoor
