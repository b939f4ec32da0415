/-
  What value of the reference computes.
-/
import Derived.Test.YtlhekeokognhmaaDoorMgad
import Derived.Test.YtlhekeokognhmaaDoorMgav
import Derived.Test.YtlhekeokognhmaaDoorMgax
import Derived.Test.YtlhekeokognhmaaDoorMath8
namespace Go.Proofs.YtlhekeokognhmaaDoor
open Go.RowKit Mt
theorem valR_no {l : List Int} {X : Int} (h : rawV l = X) (k : isPt X = false) : valR l = -1 := by unfold valR; rw [h, if_neg (by rw [k]; simp)]
theorem valR_ne {l : List Int} {X : Int} (h : rawV l = X) (k : form X ≠ l) : valR l = -1 := by unfold valR; rw [h, if_neg (fun q => k q.2)]
theorem valR_yes {l : List Int} {X : Int} (h : rawV l = X) (k : isPt X = true) (q : form X = l) : valR l = X := by unfold valR; rw [h, if_pos ⟨k, q⟩]
set_option maxHeartbeats 1000000 in
theorem refval1 (s : ByteArray) (a : Int) (hL : bys s = [a]) (ha : 0 ≤ a ∧ a ≤ 255) (w : World) :
    Calls Tryd.prog 101 #[.string s] w fun e w' => e = .returned (.int .i64 (valR (bys s))) ∧ Below w.heap.size w w' := by
  have hsz : s.size = 1 := by rw [← bys_length, hL]; rfl
  obtain ⟨a0, a1⟩ := ha
  have hia := idx_at s [a] hL 0 0 rfl a rfl
  obtain ⟨X, hX⟩ : ∃ X, a = X := ⟨_, rfl⟩
  have hraw : rawV (bys s) = X := by rw [hL]; exact hX
  have e1 : ((s.size : Int) == 1) = true := by rw [hsz]; rfl
  have e2 : ((s.size : Int) == 2) = false := by rw [hsz]; rfl
  have e3 : ((s.size : Int) == 3) = false := by rw [hsz]; rfl
  have e4 : ((s.size : Int) == 4) = false := by rw [hsz]; rfl
  have HX := Lib.hid hX
  have Hraw := Lib.hid hraw
  clear hX hraw hsz hL
  have cN := refpoint_any X
  cases hp : isPt X
  · rw [hp] at cN
    have CN := Lib.hid cN
    have Hv := Lib.hid (valR_no Hraw.out hp)
    clear hp cN
    go_enter Tryd.func101, Tryd.ntmps101
    go_wp2_with fail
    rw [HX.out]
    refine (CN.out _).mono ?_
    rintro e w1 ⟨rfl, rfl⟩
    go_wp2_with fail
    go_ret
    exact ⟨by rw [Hv.out]; rfl, Below.refl _ _⟩
  · rw [hp] at cN
    have CN := Lib.hid cN
    have Hp := Lib.hid hp
    clear hp cN
    by_cases hf : form X = bys s
    · have Hv := Lib.hid (valR_yes Hraw.out Hp.out hf)
      have Hf := Lib.hid hf
      clear hf
      go_enter Tryd.func101, Tryd.ntmps101
      go_wp2_with fail
      rw [HX.out]
      refine (CN.out _).mono ?_
      rintro e w1 ⟨rfl, rfl⟩
      go_wp2_with fail
      refine (refformG_any X Hp.out _).mono ?_
      rintro e w1 ⟨g, c', rfl, hr1, hb1⟩
      have hcv := conv_rd w1 _ g _ c' (form X) hr1
      rw [Hf.out, strNum_bys, ← Hf.out] at hcv
      have Hb1 := Lib.hid hb1
      clear hr1 hb1
      go_wp2_with fail
      go_ret
      exact ⟨by rw [Hv.out]; rfl, Hb1.out⟩
    · have Hv := Lib.hid (valR_ne Hraw.out hf)
      have hne : ((strOfNums (form X)).toList == s.toList) = false := str_ne (by rw [bys_strOfNums (form_bd Hp.out)]; exact hf)
      clear hf
      go_enter Tryd.func101, Tryd.ntmps101
      go_wp2_with fail
      rw [HX.out]
      refine (CN.out _).mono ?_
      rintro e w1 ⟨rfl, rfl⟩
      go_wp2_with fail
      refine (refformG_any X Hp.out _).mono ?_
      rintro e w1 ⟨g, c', rfl, hr1, hb1⟩
      have hcv := conv_rd w1 _ g _ c' (form X) hr1
      have Hb1 := Lib.hid hb1
      clear hr1 hb1
      go_wp2_with fail
      go_ret
      exact ⟨by rw [Hv.out]; rfl, Hb1.out⟩
set_option maxHeartbeats 1000000 in
theorem refval2 (s : ByteArray) (a b : Int) (hL : bys s = [a, b]) (ha : 0 ≤ a ∧ a ≤ 255) (hb : 0 ≤ b ∧ b ≤ 255) (w : World) :
    Calls Tryd.prog 101 #[.string s] w fun e w' => e = .returned (.int .i64 (valR (bys s))) ∧ Below w.heap.size w w' := by
  have hsz : s.size = 2 := by rw [← bys_length, hL]; rfl
  obtain ⟨a0, a1⟩ := ha
  obtain ⟨b0, b1⟩ := hb
  have hia := idx_at s [a, b] hL 0 0 rfl a rfl
  have hib := idx_at s [a, b] hL 1 1 rfl b rfl
  obtain ⟨X, hX⟩ : ∃ X, 64 * (a - 192) + b - 128 = X := ⟨_, rfl⟩
  have hraw : rawV (bys s) = X := by rw [hL]; exact hX
  have e1 : ((s.size : Int) == 1) = false := by rw [hsz]; rfl
  have e2 : ((s.size : Int) == 2) = true := by rw [hsz]; rfl
  have e3 : ((s.size : Int) == 3) = false := by rw [hsz]; rfl
  have e4 : ((s.size : Int) == 4) = false := by rw [hsz]; rfl
  have HX := Lib.hid hX
  have Hraw := Lib.hid hraw
  clear hX hraw hsz hL
  have cN := refpoint_any X
  cases hp : isPt X
  · rw [hp] at cN
    have CN := Lib.hid cN
    have Hv := Lib.hid (valR_no Hraw.out hp)
    clear hp cN
    go_enter Tryd.func101, Tryd.ntmps101
    go_wp2_with fail
    go_quiet (fail)
    go_wp2_with fail
    rw [HX.out]
    refine (CN.out _).mono ?_
    rintro e w1 ⟨rfl, rfl⟩
    go_wp2_with fail
    go_ret
    exact ⟨by rw [Hv.out]; rfl, below_drewN (Below.refl _ _) _⟩
  · rw [hp] at cN
    have CN := Lib.hid cN
    have Hp := Lib.hid hp
    clear hp cN
    by_cases hf : form X = bys s
    · have Hv := Lib.hid (valR_yes Hraw.out Hp.out hf)
      have Hf := Lib.hid hf
      clear hf
      go_enter Tryd.func101, Tryd.ntmps101
      go_wp2_with fail
      go_quiet (fail)
      go_wp2_with fail
      rw [HX.out]
      refine (CN.out _).mono ?_
      rintro e w1 ⟨rfl, rfl⟩
      go_wp2_with fail
      refine (refformG_any X Hp.out _).mono ?_
      rintro e w1 ⟨g, c', rfl, hr1, hb1⟩
      have hcv := conv_rd w1 _ g _ c' (form X) hr1
      rw [Hf.out, strNum_bys, ← Hf.out] at hcv
      have Hb1 := Lib.hid hb1
      clear hr1 hb1
      go_wp2_with fail
      go_ret
      exact ⟨by rw [Hv.out]; rfl, (below_drewN (Below.refl _ _) _).trans Hb1.out⟩
    · have Hv := Lib.hid (valR_ne Hraw.out hf)
      have hne : ((strOfNums (form X)).toList == s.toList) = false := str_ne (by rw [bys_strOfNums (form_bd Hp.out)]; exact hf)
      clear hf
      go_enter Tryd.func101, Tryd.ntmps101
      go_wp2_with fail
      go_quiet (fail)
      go_wp2_with fail
      rw [HX.out]
      refine (CN.out _).mono ?_
      rintro e w1 ⟨rfl, rfl⟩
      go_wp2_with fail
      refine (refformG_any X Hp.out _).mono ?_
      rintro e w1 ⟨g, c', rfl, hr1, hb1⟩
      have hcv := conv_rd w1 _ g _ c' (form X) hr1
      have Hb1 := Lib.hid hb1
      clear hr1 hb1
      go_wp2_with fail
      go_ret
      exact ⟨by rw [Hv.out]; rfl, (below_drewN (Below.refl _ _) _).trans Hb1.out⟩
set_option maxHeartbeats 1000000 in
theorem refval3 (s : ByteArray) (a b c : Int) (hL : bys s = [a, b, c]) (ha : 0 ≤ a ∧ a ≤ 255) (hb : 0 ≤ b ∧ b ≤ 255) (hc : 0 ≤ c ∧ c ≤ 255) (w : World) :
    Calls Tryd.prog 101 #[.string s] w fun e w' => e = .returned (.int .i64 (valR (bys s))) ∧ Below w.heap.size w w' := by
  have hsz : s.size = 3 := by rw [← bys_length, hL]; rfl
  obtain ⟨a0, a1⟩ := ha
  obtain ⟨b0, b1⟩ := hb
  obtain ⟨c0, c1⟩ := hc
  have hia := idx_at s [a, b, c] hL 0 0 rfl a rfl
  have hib := idx_at s [a, b, c] hL 1 1 rfl b rfl
  have hic := idx_at s [a, b, c] hL 2 2 rfl c rfl
  obtain ⟨X, hX⟩ : ∃ X, 4096 * (a - 224) + 64 * (b - 128) + c - 128 = X := ⟨_, rfl⟩
  have hraw : rawV (bys s) = X := by rw [hL]; exact hX
  have e1 : ((s.size : Int) == 1) = false := by rw [hsz]; rfl
  have e2 : ((s.size : Int) == 2) = false := by rw [hsz]; rfl
  have e3 : ((s.size : Int) == 3) = true := by rw [hsz]; rfl
  have e4 : ((s.size : Int) == 4) = false := by rw [hsz]; rfl
  have HX := Lib.hid hX
  have Hraw := Lib.hid hraw
  clear hX hraw hsz hL
  have cN := refpoint_any X
  cases hp : isPt X
  · rw [hp] at cN
    have CN := Lib.hid cN
    have Hv := Lib.hid (valR_no Hraw.out hp)
    clear hp cN
    go_enter Tryd.func101, Tryd.ntmps101
    go_wp2_with fail
    go_quiet (fail)
    go_wp2_with fail
    rw [HX.out]
    refine (CN.out _).mono ?_
    rintro e w1 ⟨rfl, rfl⟩
    go_wp2_with fail
    go_ret
    exact ⟨by rw [Hv.out]; rfl, below_drewN (Below.refl _ _) _⟩
  · rw [hp] at cN
    have CN := Lib.hid cN
    have Hp := Lib.hid hp
    clear hp cN
    by_cases hf : form X = bys s
    · have Hv := Lib.hid (valR_yes Hraw.out Hp.out hf)
      have Hf := Lib.hid hf
      clear hf
      go_enter Tryd.func101, Tryd.ntmps101
      go_wp2_with fail
      go_quiet (fail)
      go_wp2_with fail
      rw [HX.out]
      refine (CN.out _).mono ?_
      rintro e w1 ⟨rfl, rfl⟩
      go_wp2_with fail
      refine (refformG_any X Hp.out _).mono ?_
      rintro e w1 ⟨g, c', rfl, hr1, hb1⟩
      have hcv := conv_rd w1 _ g _ c' (form X) hr1
      rw [Hf.out, strNum_bys, ← Hf.out] at hcv
      have Hb1 := Lib.hid hb1
      clear hr1 hb1
      go_wp2_with fail
      go_ret
      exact ⟨by rw [Hv.out]; rfl, (below_drewN (Below.refl _ _) _).trans Hb1.out⟩
    · have Hv := Lib.hid (valR_ne Hraw.out hf)
      have hne : ((strOfNums (form X)).toList == s.toList) = false := str_ne (by rw [bys_strOfNums (form_bd Hp.out)]; exact hf)
      clear hf
      go_enter Tryd.func101, Tryd.ntmps101
      go_wp2_with fail
      go_quiet (fail)
      go_wp2_with fail
      rw [HX.out]
      refine (CN.out _).mono ?_
      rintro e w1 ⟨rfl, rfl⟩
      go_wp2_with fail
      refine (refformG_any X Hp.out _).mono ?_
      rintro e w1 ⟨g, c', rfl, hr1, hb1⟩
      have hcv := conv_rd w1 _ g _ c' (form X) hr1
      have Hb1 := Lib.hid hb1
      clear hr1 hb1
      go_wp2_with fail
      go_ret
      exact ⟨by rw [Hv.out]; rfl, (below_drewN (Below.refl _ _) _).trans Hb1.out⟩
set_option maxHeartbeats 1000000 in
theorem refval4 (s : ByteArray) (a b c d : Int) (hL : bys s = [a, b, c, d]) (ha : 0 ≤ a ∧ a ≤ 255) (hb : 0 ≤ b ∧ b ≤ 255) (hc : 0 ≤ c ∧ c ≤ 255) (hd : 0 ≤ d ∧ d ≤ 255) (w : World) :
    Calls Tryd.prog 101 #[.string s] w fun e w' => e = .returned (.int .i64 (valR (bys s))) ∧ Below w.heap.size w w' := by
  have hsz : s.size = 4 := by rw [← bys_length, hL]; rfl
  obtain ⟨a0, a1⟩ := ha
  obtain ⟨b0, b1⟩ := hb
  obtain ⟨c0, c1⟩ := hc
  obtain ⟨d0, d1⟩ := hd
  have hia := idx_at s [a, b, c, d] hL 0 0 rfl a rfl
  have hib := idx_at s [a, b, c, d] hL 1 1 rfl b rfl
  have hic := idx_at s [a, b, c, d] hL 2 2 rfl c rfl
  have hid := idx_at s [a, b, c, d] hL 3 3 rfl d rfl
  obtain ⟨X, hX⟩ : ∃ X, 262144 * (a - 240) + 4096 * (b - 128) + 64 * (c - 128) + d - 128 = X := ⟨_, rfl⟩
  have hraw : rawV (bys s) = X := by rw [hL]; exact hX
  have e1 : ((s.size : Int) == 1) = false := by rw [hsz]; rfl
  have e2 : ((s.size : Int) == 2) = false := by rw [hsz]; rfl
  have e3 : ((s.size : Int) == 3) = false := by rw [hsz]; rfl
  have e4 : ((s.size : Int) == 4) = true := by rw [hsz]; rfl
  have HX := Lib.hid hX
  have Hraw := Lib.hid hraw
  clear hX hraw hsz hL
  have cN := refpoint_any X
  cases hp : isPt X
  · rw [hp] at cN
    have CN := Lib.hid cN
    have Hv := Lib.hid (valR_no Hraw.out hp)
    clear hp cN
    go_enter Tryd.func101, Tryd.ntmps101
    go_wp2_with fail
    go_quiet (fail)
    go_wp2_with fail
    rw [HX.out]
    refine (CN.out _).mono ?_
    rintro e w1 ⟨rfl, rfl⟩
    go_wp2_with fail
    go_ret
    exact ⟨by rw [Hv.out]; rfl, below_drewN (Below.refl _ _) _⟩
  · rw [hp] at cN
    have CN := Lib.hid cN
    have Hp := Lib.hid hp
    clear hp cN
    by_cases hf : form X = bys s
    · have Hv := Lib.hid (valR_yes Hraw.out Hp.out hf)
      have Hf := Lib.hid hf
      clear hf
      go_enter Tryd.func101, Tryd.ntmps101
      go_wp2_with fail
      go_quiet (fail)
      go_wp2_with fail
      rw [HX.out]
      refine (CN.out _).mono ?_
      rintro e w1 ⟨rfl, rfl⟩
      go_wp2_with fail
      refine (refformG_any X Hp.out _).mono ?_
      rintro e w1 ⟨g, c', rfl, hr1, hb1⟩
      have hcv := conv_rd w1 _ g _ c' (form X) hr1
      rw [Hf.out, strNum_bys, ← Hf.out] at hcv
      have Hb1 := Lib.hid hb1
      clear hr1 hb1
      go_wp2_with fail
      go_ret
      exact ⟨by rw [Hv.out]; rfl, (below_drewN (Below.refl _ _) _).trans Hb1.out⟩
    · have Hv := Lib.hid (valR_ne Hraw.out hf)
      have hne : ((strOfNums (form X)).toList == s.toList) = false := str_ne (by rw [bys_strOfNums (form_bd Hp.out)]; exact hf)
      clear hf
      go_enter Tryd.func101, Tryd.ntmps101
      go_wp2_with fail
      go_quiet (fail)
      go_wp2_with fail
      rw [HX.out]
      refine (CN.out _).mono ?_
      rintro e w1 ⟨rfl, rfl⟩
      go_wp2_with fail
      refine (refformG_any X Hp.out _).mono ?_
      rintro e w1 ⟨g, c', rfl, hr1, hb1⟩
      have hcv := conv_rd w1 _ g _ c' (form X) hr1
      have Hb1 := Lib.hid hb1
      clear hr1 hb1
      go_wp2_with fail
      go_ret
      exact ⟨by rw [Hv.out]; rfl, (below_drewN (Below.refl _ _) _).trans Hb1.out⟩
set_option maxHeartbeats 1000000 in
theorem refval0 (s : ByteArray) (h1 : s.size ≠ 1) (h2 : s.size ≠ 2) (h3 : s.size ≠ 3) (h4 : s.size ≠ 4) (w : World) :
    Calls Tryd.prog 101 #[.string s] w fun e w' => e = .returned (.int .i64 (valR (bys s))) ∧ Below w.heap.size w w' := by
  have hX : (-1 : Int) = -1 := rfl
  have hraw : rawV (bys s) = -1 := by
    have hl := bys_length s
    generalize bys s = l at *
    match l, hl with
    | [], _ => rfl
    | [_], hl => exact absurd hl.symm h1
    | [_, _], hl => exact absurd hl.symm h2
    | [_, _, _], hl => exact absurd hl.symm h3
    | [_, _, _, _], hl => exact absurd hl.symm h4
    | _ :: _ :: _ :: _ :: _ :: _, _ => rfl
  have e1 : ((s.size : Int) == 1) = false := by rw [beq_eq_false_iff_ne]; omega
  have e2 : ((s.size : Int) == 2) = false := by rw [beq_eq_false_iff_ne]; omega
  have e3 : ((s.size : Int) == 3) = false := by rw [beq_eq_false_iff_ne]; omega
  have e4 : ((s.size : Int) == 4) = false := by rw [beq_eq_false_iff_ne]; omega
  have HX := Lib.hid hX
  have Hraw := Lib.hid hraw
  clear hX hraw
  have CN := Lib.hid (refpoint_any (-1))
  have hp : isPt (-1) = false := by decide
  have Hv := Lib.hid (valR_no Hraw.out hp)
  rw [hp] at CN
  go_enter Tryd.func101, Tryd.ntmps101
  go_wp2_with fail
  refine (CN.out _).mono ?_
  rintro e w1 ⟨rfl, rfl⟩
  go_wp2_with fail
  go_ret
  exact ⟨by rw [Hv.out]; rfl, Below.refl _ _⟩
/-- VALUE. -/
theorem refval_any (s : ByteArray) (w : World) : Calls Tryd.prog 101 #[.string s] w fun e w' => e = .returned (.int .i64 (valR (bys s))) ∧ Below w.heap.size w w' := by
  have hb := bys_bd s
  have hl := bys_length s
  match h : bys s, hl with
  | [a], _ => rw [← h]; rw [h] at hb; exact refval1 s a h (hb a (by simp)) w
  | [a, b], _ => rw [← h]; rw [h] at hb; exact refval2 s a b h (hb a (by simp)) (hb b (by simp)) w
  | [a, b, c], _ => rw [← h]; rw [h] at hb; exact refval3 s a b c h (hb a (by simp)) (hb b (by simp)) (hb c (by simp)) w
  | [a, b, c, d], _ => rw [← h]; rw [h] at hb; exact refval4 s a b c d h (hb a (by simp)) (hb b (by simp)) (hb c (by simp)) (hb d (by simp)) w
  | [], hl => rw [← h]; exact refval0 s (by simp at hl; omega) (by simp at hl; omega) (by simp at hl; omega) (by simp at hl; omega) w
  | _ :: _ :: _ :: _ :: _ :: _, hl => rw [← h]; simp only [List.length_cons] at hl; exact refval0 s (by omega) (by omega) (by omega) (by omega) w
end Go.Proofs.YtlhekeokognhmaaDoor
