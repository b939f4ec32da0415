/-
  Package syntax: of and and, for all facts. Package syntax: a reader reads a number.
-/
import Derived.Test.YtmgkdmbifecekaaGreatDoorSyQ
import Derived.Test.YtmgkdmbifecekaaGreatDoorSyAn
import Derived.Test.YtmgkdmbifecekaaGreatDoorSyAa
import Derived.Test.YtmgkdmbifecekaaGreatDoorSyM
import Derived.Test.YtmgkdmbifecekaaGreatDoorMlal
import Derived.Test.YtmgkdmbifecekaaGreatDoorMlak
import Derived.Test.YtmgkdmbifecekaaGreatDoorMlab
import Derived.Deep.CutBlock
import Derived.Deep.DeepCutAuto
set_option linter.all false
set_option linter.unusedSimpArgs false
set_option linter.unusedVariables false
set_option linter.unusedSectionVars false
namespace Go.Proofs.YtmgkdmbifecekaaGreatDoor
open Go.RowKit Go.Shelf
theorem wrapI (n : Int) : IntKind.i64.wrap n = wrap64 n := by
  unfold wrap64
  simp [IntKind.wrap, IntKind.signed, IntKind.bits]
  omega
theorem and_any (f g : Fct) (hf : FctIn f) (hg : FctIn g) (kind : Int) (w : World) : Calls Tryz.prog 72 #[fctV f, fctV g, .int .u8 kind] w fun e w' => e = .returned (fctV (andF f g kind)) ∧ Kept w w' := by
  obtain ⟨d1, g1, l1, m1, e1, o1⟩ := f
  obtain ⟨d2, g2, l2, m2, e2, o2⟩ := g
  have h1 := hf.g; have h2 := hg.g; have h3 := hf.l; have h4 := hg.l
  dsimp only at h1 h2 h3 h4
  have hd : max d1 d2 = if d1 ≤ d2 then d2 else d1 := Int.max_def _ _
  have hgw : IntKind.i64.wrap (g1 + g2) = g1 + g2 := by rw [wrapI, wrap64_id (by omega) (by omega)]
  have hlw : IntKind.i64.wrap (l1 + l2) = l1 + l2 := by rw [wrapI, wrap64_id (by omega) (by omega)]
  by_cases hk : kind = 4
  · subst hk
    refine (and_alt d1 g1 l1 m1 e1 o1 d2 g2 l2 m2 e2 o2 h1 h3 h2 h4 w).mono ?_
    rintro e w' ⟨rfl, hk⟩
    refine ⟨?_, hk⟩
    unfold fctV andF
    dsimp only
    rw [hgw, hd, if_pos rfl, if_pos rfl, Int.min_def, Int.max_def]
  · refine (and_no d1 g1 l1 m1 e1 o1 d2 g2 l2 m2 e2 o2 kind h1 h3 h2 h4 hk w).mono ?_
    rintro e w' ⟨rfl, hk'⟩
    refine ⟨?_, hk'⟩
    unfold fctV andF
    dsimp only
    rw [hgw, hlw, hd, if_neg hk, if_neg hk, wrapI]
theorem of_any (f : Fct) (hf : FctOk f) (k : Int) (A1 : Option Addr) (sn c1 : Nat) (mn mx : Int) (lz : Bool) (A2 : Option Addr) (un c2 : Nat) (hmn : k = 5 → 0 ≤ mn ∧ mn ≤ 1000) (w : World) :
    Calls Tryz.prog 71 #[fctV f, ndV k A1 sn c1 mn mx lz A2 un c2] w fun e w' => e = .returned (fctV (ofF f k mn mx)) ∧ Kept w w' := by
  obtain ⟨d, g, l, m, en, lo⟩ := f
  have h1 := hf.d; have h2 := hf.g; have h3 := hf.l
  dsimp only at h1 h2 h3
  by_cases hk2 : k = 2
  · subst hk2
    refine (of_set d g l m en lo A1 sn c1 mn mx lz A2 un c2 w h1).mono ?_
    rintro e w' ⟨rfl, hk⟩
    exact ⟨by simp [ofF], hk⟩
  by_cases hk6 : k = 6
  · subst hk6
    refine (of_group d g l m en lo A1 sn c1 mn mx lz A2 un c2 w h1 h2).mono ?_
    rintro e w' ⟨rfl, hk⟩
    exact ⟨by simp [ofF], hk⟩
  by_cases hk5 : k = 5
  · subst hk5
    obtain ⟨hm1, hm2⟩ := hmn rfl
    have hb : 0 ≤ mn * l := Int.mul_nonneg hm1 h3.1
    have hb2 : mn * l ≤ 1000 * 1073741824 := Int.mul_le_mul hm2 h3.2 h3.1 (by omega)
    have hlw : IntKind.i64.wrap (mn * l) = mn * l := by rw [wrapI, wrap64_id (by omega) (by omega)]
    have fin : ∀ EN LO, EN = (decide (mx = -1) || (decide (0 < mx) && en)) → LO = (lo || (decide (l = 0) && (decide (mx = -1) || decide (1 < mx)))) →
        (Calls Tryz.prog 71 #[fctV ⟨d, g, l, m, en, lo⟩, ndV 5 A1 sn c1 mn mx lz A2 un c2] w fun e w' => e = .returned (.agg #[.int .i64 (d + 1), .int .i64 g, .int .i64 (capI (IntKind.i64.wrap (mn * l))), .int .i64 (capI (IntKind.i64.wrap (mx * m))), .bool EN, .bool LO]) ∧ Kept w w') →
        Calls Tryz.prog 71 #[fctV ⟨d, g, l, m, en, lo⟩, ndV 5 A1 sn c1 mn mx lz A2 un c2] w fun e w' => e = .returned (fctV (ofF ⟨d, g, l, m, en, lo⟩ 5 mn mx)) ∧ Kept w w' := by
      intro EN LO hE hL H
      refine H.mono ?_
      rintro e w' ⟨rfl, hk⟩
      refine ⟨?_, hk⟩
      unfold fctV ofF
      rw [if_neg (by decide), if_neg (by decide), if_pos rfl, hE, hL, hlw, wrapI]
    cases lo
    · by_cases hl0 : l = 0
      · by_cases hx1 : mx = -1
        · exact fin _ _ (by simp [hx1]) (by simp [hl0, hx1]) (rep_c1 d g l m en A1 sn c1 mn mx lz A2 un c2 w h1 hl0 hx1)
        · by_cases hx2 : 1 < mx
          · exact fin _ _ (by simp [hx1]; omega) (by simp [hl0, hx2]) (rep_c2 d g l m en A1 sn c1 mn mx lz A2 un c2 w h1 hl0 hx1 hx2)
          · by_cases hx3 : 0 < mx
            · exact fin _ _ (by simp [hx1, hx3]) (by simp [hl0, hx1, hx2]) (rep_c3 d g l m en A1 sn c1 mn mx lz A2 un c2 w h1 hl0 hx1 hx3 hx2)
            · exact fin _ _ (by simp [hx1, hx3]) (by simp [hl0, hx1, hx2]) (rep_c4 d g l m en A1 sn c1 mn mx lz A2 un c2 w h1 hl0 hx1 hx3)
      · by_cases hx1 : mx = -1
        · exact fin _ _ (by simp [hx1]) (by simp [hl0]) (rep_b1 d g l m en A1 sn c1 mn mx lz A2 un c2 w h1 hl0 hx1)
        · by_cases hx3 : 0 < mx
          · exact fin _ _ (by simp [hx1, hx3]) (by simp [hl0]) (rep_b2 d g l m en A1 sn c1 mn mx lz A2 un c2 w h1 hl0 hx1 hx3)
          · exact fin _ _ (by simp [hx1, hx3]) (by simp [hl0]) (rep_b3 d g l m en A1 sn c1 mn mx lz A2 un c2 w h1 hl0 hx1 hx3)
    · by_cases hx1 : mx = -1
      · exact fin _ _ (by simp [hx1]) (by simp) (rep_a1 d g l m en A1 sn c1 mn mx lz A2 un c2 w h1 hx1)
      · by_cases hx3 : 0 < mx
        · exact fin _ _ (by simp [hx1, hx3]) (by simp) (rep_a2 d g l m en A1 sn c1 mn mx lz A2 un c2 w h1 hx1 hx3)
        · exact fin _ _ (by simp [hx1, hx3]) (by simp) (rep_a3 d g l m en A1 sn c1 mn mx lz A2 un c2 w h1 hx1 hx3)
  · refine (of_plain d g l m en lo k A1 sn c1 mn mx lz A2 un c2 w h1 hk2 hk5 hk6).mono ?_
    rintro e w' ⟨rfl, hk⟩
    exact ⟨by simp [ofF, hk2, hk5, hk6], hk⟩
end Go.Proofs.YtmgkdmbifecekaaGreatDoor
namespace Go.Proofs.YtmgkdmbifecekaaGreatDoor
open Go.RowKit Go.Shelf
theorem atoi_any (l : Bs) (n : Int) (hl : l.length ≤ 18) (h : Lib.atoi l = some n) (w : World) : Calls Tryz.prog 159 #[.string (b8 l)] w fun e w' => e = .returned (.tuple #[.int .i64 n, .nilIface]) ∧ Kept w w' := by
  refine (sh_strconv_Atoi (b8 l) n hl h w).mono ?_
  rintro e w' ⟨rfl, t, rfl⟩
  exact ⟨rfl, ⟨rfl, rfl, rfl, by rw [Lib.bytesWorld_size]; omega, fun k hk => Lib.bytesWorld_at_old w _ t k (by omega)⟩⟩
theorem itoa_any (i : Nat) (hi : i < 100) (w : World) : Calls Tryz.prog 26 #[.int .i64 i] w fun e w' => e = .returned (.string (b8 (Lib.decDigits i))) ∧ w = w' :=
  (sh_strconv_Itoa_small i hi w).mono fun _ _ h => ⟨h.1, h.2.symm⟩
theorem ext0 (l : Bs) (k : Nat) : (b8 l).extract 0 k = b8 (l.take k) := by
  apply ByteArray.ext
  simp [ByteArray.data_extract]
set_option maxRecDepth 10000 in
set_option maxHeartbeats 2000000 in
theorem number_any2 (g : Nat) (l : Bs) (hl : l.length ≤ 1000000) (h1 : 0 < (l.takeWhile digP).length) (h2 : (l.takeWhile digP).length ≤ 2) (W : World) (h : RdrAt W g (b8 l)) : Calls Tryz.prog 142 #[.pointer (some ⟨g, 0, none⟩)] W fun e w' =>
    e = .returned (.tuple #[.int .i64 (decN (l.takeWhile digP) : Nat), .bool (Lib.decDigits (decN (l.takeWhile digP)) == l.takeWhile digP)]) ∧ RdrAt w' g (b8 (numR l)) ∧ W.grownBy w' (some g) := by
  obtain ⟨ha, hlt, _⟩ := two_digits _ h1 h2 (dig_all l)
  have htk := take_num l
  obtain ⟨ds, hds⟩ : ∃ ds, ds = l.takeWhile digP := ⟨_, rfl⟩
  rw [← hds] at ha hlt htk h2 ⊢
  have CA := Lib.hid (fun w => atoi_any ds _ (by omega) ha w)
  have CI := Lib.hid (fun w => itoa_any (decN ds) hlt w)
  have CT := Lib.hid (trimLeft_dig l)
  have hr : (numR l).length ≤ l.length := (List.dropWhile_sublist _).length_le
  obtain ⟨r, hr0⟩ : ∃ r, r = numR l := ⟨_, rfl⟩
  rw [← hr0] at CT hr htk ⊢
  have hc : W.cell? ⟨g, 0, none⟩ = some (.string (b8 l)) := by rw [cell_of_row _ _ _ _ _ _ h]; rfl
  have Hh := Lib.hid h
  have hg := heap_lt h
  clear h ha hds hr0 h1
  go_enter Tryz.func142, Tryz.ntmps142
  go_upto_region 2 with (go_at_call 158; refine (CT.out _).mono ?_; rintro e w1 ⟨rfl, hk1⟩; have HK1 := Lib.hid hk1; have Hh1 := Lib.hid (heap_kept hk1 Hh.out); clear hk1)
  have hc1 : w1.cell? ⟨g, 0, none⟩ = some (.string (b8 l)) := by rw [cell_of_row _ _ _ _ _ _ Hh1.out]; rfl
  have hwr : IntKind.i64.wrap ((List.length l : Int) - (List.length r : Int)) = ((List.length l - List.length r : Nat) : Int) := by
    rw [wrapI, wrap64_id (by omega) (by omega)]
    omega
  have hle : ((List.length l - List.length r : Nat) : Int) ≤ (List.length l : Int) := by omega
  have hex : (b8 l).extract 0 (List.length l - List.length r) = b8 ds := by
    rw [ext0, htk]
  refine wp_region_held_drew (S := fun W => W.cell? ⟨g, 0, none⟩ = some (.string (b8 l))) (by kernel_rfl) ?_ (fun hHeld => ?_)
  · exact hc1
  refine tkC 0 (oi := ⟨some 13, _, _, _, _, _⟩) (v := ?_) rfl (by kernel_rfl) (fun _ _ _ h => h) (by rfl) ?_ hHeld ?_
  rotate_left
  · (intro w hSw; obtain hx := hSw; refine .inl ?_; go_simp; (try with_reducible rfl))
  try simp only [pU1, pU2, pU3, pU4]
  refine tkC 1 (oi := ⟨some 14, _, _, _, _, _⟩) (v := ?_) rfl (by kernel_rfl) (fun _ _ _ h => h) (by rfl) ?_ hHeld ?_
  rotate_left
  · (intro w hSw; obtain hx := hSw; refine .inl ?_; go_simp; (try with_reducible rfl))
  try simp only [pU1, pU2, pU3, pU4]
  refine tkC 2 (oi := ⟨some 15, _, _, _, _, _⟩) (v := ?_) rfl (by kernel_rfl) (fun _ _ _ h => h) (by rfl) ?_ hHeld ?_
  rotate_left
  · (intro w hSw; obtain hx := hSw; refine .inl ?_; go_simp; (try with_reducible rfl))
  try simp only [pU1, pU2, pU3, pU4]
  refine tkC 3 (oi := ⟨some 16, _, _, _, _, _⟩) (v := ?_) rfl (by kernel_rfl) (fun _ _ _ h => h) (by rfl) ?_ hHeld ?_
  rotate_left
  · (intro w hSw; obtain hx := hSw; refine .inl ?_; go_simp; (try with_reducible rfl))
  try simp only [pU1, pU2, pU3, pU4]
  refine tkC 4 (oi := ⟨some 17, _, _, _, _, _⟩) (v := ?_) rfl (by kernel_rfl) (fun _ _ _ h => h) (by rfl) ?_ hHeld ?_
  rotate_left
  · (intro w hSw; obtain hx := hSw; refine .inl ?_; go_simp; (try with_reducible rfl))
  try simp only [pU1, pU2, pU3, pU4]
  refine tkC 5 (oi := ⟨some 18, _, _, _, _, _⟩) (v := ?_) rfl (by kernel_rfl) (fun _ _ _ h => h) (by rfl) ?_ hHeld ?_
  rotate_left
  · (intro w hSw; obtain hx := hSw; refine .inl ?_; go_simp; (try with_reducible rfl))
  try simp only [pU1, pU2, pU3, pU4]
  refine tkC 6 (oi := ⟨some 19, _, _, _, _, _⟩) (v := ?_) rfl (by kernel_rfl) (fun _ _ _ h => h) (by rfl) ?_ hHeld ?_
  rotate_left
  · (intro w hSw; obtain hx := hSw; refine .inl ?_; go_simp; (try with_reducible rfl))
  try simp only [pU1, pU2, pU3, pU4]
  refine tkC 7 (oi := ⟨some 20, _, _, _, _, _⟩) (v := ?_) rfl (by kernel_rfl) (fun _ _ _ h => h) (by rfl) ?_ hHeld ?_
  rotate_left
  · (intro w hSw; obtain hx := hSw; refine .inl ?_; go_simp; (try with_reducible rfl))
  try simp only [pU1, pU2, pU3, pU4]
  refine tkC 8 (oi := ⟨some 21, _, _, _, _, _⟩) (v := ?_) rfl (by kernel_rfl) (fun _ _ _ h => h) (by rfl) ?_ hHeld ?_
  rotate_left
  · (intro w hSw; obtain hx := hSw; refine .inl ?_; go_simp; (try with_reducible rfl))
  try simp only [pU1, pU2, pU3, pU4]
  refine tkC 9 (oi := ⟨some 22, _, _, _, _, _⟩) (v := ?_) rfl (by kernel_rfl) (fun _ _ _ h => h) (by rfl) ?_ hHeld ?_
  rotate_left
  · (intro w hSw; obtain hx := hSw; refine .inl ?_; go_simp; (try with_reducible rfl))
  try simp only [pU1, pU2, pU3, pU4]
  refine tkC 10 (oi := ⟨some 23, _, _, _, _, _⟩) (v := ?_) rfl (by kernel_rfl) (fun _ _ _ h => h) (by rfl) ?_ hHeld ?_
  rotate_left
  · (intro w hSw; obtain hx := hSw; refine .inl ?_; go_simp; (try with_reducible rfl))
  try simp only [pU1, pU2, pU3, pU4]
  refine tkC 11 (oi := ⟨some 24, _, _, _, _, _⟩) (v := ?_) rfl (by kernel_rfl) (fun _ _ _ h => h) (by rfl) ?_ hHeld ?_
  rotate_left
  · (intro w hSw; obtain hx := hSw; refine .inl ?_; go_simp; (try with_reducible rfl))
  try simp only [pU1, pU2, pU3, pU4]
  refine tkC 12 (oi := ⟨some 25, _, _, _, _, _⟩) (v := ?_) rfl (by kernel_rfl) (fun _ _ _ h => h) (by rfl) ?_ hHeld ?_
  rotate_left
  · (intro w hSw; obtain hx := hSw; refine .inl ?_; go_simp; (try with_reducible rfl))
  try simp only [pU1, pU2, pU3, pU4]
  refine tkC 13 (oi := ⟨some 5, _, _, _, _, _⟩) (v := ?_) rfl (by kernel_rfl) (fun _ _ _ h => h) (by rfl) ?_ hHeld ?_
  rotate_left
  · (intro w hSw; obtain hx := hSw; refine .inl ?_; go_simp; (try with_reducible rfl))
  try simp only [pU1, pU2, pU3, pU4]
  refine wpAnyH_done (by kernel_rfl) ?_ _
  have Hw2 : Hid (RdrAt w1.drew g (b8 l)) := heap_drew0 Hh1.out
  have HK2 : Hid (Kept W w1.drew) := below_drew0 HK1.out
  obtain ⟨w2, hw2⟩ : ∃ x, x = w1.drew := ⟨_, rfl⟩
  rw [← hw2] at Hw2 HK2 ⊢
  have hc2 : w2.cell? ⟨g, 0, none⟩ = some (.string (b8 l)) := by rw [cell_of_row _ _ _ _ _ _ Hw2.out]; rfl
  have hf2 : w2.frozen? ⟨g, 0, none⟩ = false := by simp [World.frozen?, show w2.heap[g]? = _ from Hw2.out]
  have H3 := Lib.hid (rdr_set Hw2.out (b8 r))
  have G3 : Hid (W.grownBy (w2.setCell ⟨g, 0, none⟩ (.string (b8 r))) (some g)) := grown_trans (grown_of_kept HK2.out) (grownBy_setCell' _ _ _)
  clear hw2 hHeld hc1 hwr hle hex hc HK1 Hh1 CT Hw2 HK2 htk
  go_wp2_with (first | (go_at_call 159; refine (CA.out _).mono ?_; rintro e w3 ⟨rfl, hk3⟩; have H4 := Lib.hid (heap_kept hk3 H3.out); have G4 : Hid (W.grownBy w3 (some g)) := grown_trans G3.out (grown_of_kept hk3); clear hk3) | (go_at_call 26; refine (CI.out _).mono ?_; rintro e w4 ⟨rfl, rfl⟩))
  go_ret2
  exact ⟨rfl, H4.out, G4.out⟩
/-- A number of one or two digits comes next. -/
def numOk (l : Bs) : Bool := decide (0 < (l.takeWhile digP).length) && decide ((l.takeWhile digP).length ≤ 2)
theorem numP_eq {l : Bs} (h : numOk l = true) : numP l = if (Lib.decDigits (decN (l.takeWhile digP)) == l.takeWhile digP) = true then some ((decN (l.takeWhile digP) : Nat) : Int) else none := by
  unfold numOk at h
  simp at h
  obtain ⟨_, hlt, hi⟩ := two_digits _ h.1 h.2 (dig_all l)
  unfold numP
  by_cases hz : (l.takeWhile digP).headD 0 = 48 ∧ (l.takeWhile digP).length ≠ 1
  · have hb : (Lib.decDigits (decN (l.takeWhile digP)) == l.takeWhile digP) = false := by
      rw [beq_eq_false_iff_ne]
      intro e
      exact hi.1 e hz
    rw [if_pos (.inr (.inl hz)), hb]
    rfl
  · have hb : (Lib.decDigits (decN (l.takeWhile digP)) == l.takeWhile digP) = true := by
      rw [beq_iff_eq]
      exact hi.2 hz
    rw [hb, if_pos rfl, if_neg]
    rintro (h0 | h0 | h0)
    · omega
    · exact hz h0
    · omega
theorem rnum_any (g : Nat) (l : Bs) (hl : l.length ≤ 1000000) (h : numOk l = true) (W : World) (hr : RdrAt W g (b8 l)) : Calls Tryz.prog 142 #[.pointer (some ⟨g, 0, none⟩)] W fun e w' =>
    ∃ a : Int, e = .returned (.tuple #[.int .i64 a, .bool (numP l).isSome]) ∧ (∀ b, numP l = some b → a = b) ∧ 0 ≤ a ∧ a < 100 ∧ RdrAt w' g (b8 (numR l)) ∧ W.grownBy w' (some g) := by
  have h' := h
  unfold numOk at h'
  simp only [Bool.and_eq_true, decide_eq_true_eq] at h'
  obtain ⟨_, hlt, _⟩ := two_digits _ h'.1 h'.2 (dig_all l)
  refine (number_any2 g l hl h'.1 h'.2 W hr).mono ?_
  rintro e w' ⟨rfl, h1, h2⟩
  have hs : (numP l).isSome = (Lib.decDigits (decN (l.takeWhile digP)) == l.takeWhile digP) := by
    rw [numP_eq h]
    split
    · rename_i h9; rw [h9]; rfl
    · rename_i h9; simp only [Bool.not_eq_true] at h9; rw [h9]; rfl
  refine ⟨_, by rw [hs], fun b hb => ?_, by omega, by omega, h1, h2⟩
  rw [numP_eq h] at hb
  split at hb
  · exact Option.some.inj hb
  · cases hb
end Go.Proofs.YtmgkdmbifecekaaGreatDoor
