/-
  What value of the reference computes. What begins of the reference computes.
-/
import Derived.Test.YtlhekeokognhmaaGreatDoorMgac
import Derived.Test.YtlhekeokognhmaaGreatDoorMgas
import Derived.Test.YtlhekeokognhmaaGreatDoorMgat
import Derived.Test.YtlhekeokognhmaaGreatDoorMath8
namespace Go.Proofs.YtlhekeokognhmaaGreatDoor
open Go.RowKit Mt
theorem valR_no {l : List Int} {X : Int} (h : rawV l = X) (k : isPt X = false) : valR l = -1 := by unfold valR; rw [h, if_neg (by rw [k]; simp)]
theorem valR_ne {l : List Int} {X : Int} (h : rawV l = X) (k : form X ≠ l) : valR l = -1 := by unfold valR; rw [h, if_neg (fun q => k q.2)]
theorem valR_yes {l : List Int} {X : Int} (h : rawV l = X) (k : isPt X = true) (q : form X = l) : valR l = X := by unfold valR; rw [h, if_pos ⟨k, q⟩]
set_option maxHeartbeats 1000000 in
theorem refval1 (s : ByteArray) (a : Int) (hL : bys s = [a]) (ha : 0 ≤ a ∧ a ≤ 255) (w : World) :
    Calls Tryz.prog 116 #[.string s] w fun e w' => e = .returned (.int .i64 (valR (bys s))) ∧ Below w.heap.size w w' := by
  have hsz : s.size = 1 := by rw [← bys_length, hL]; rfl
  obtain ⟨a0, a1⟩ := ha
  have hia := idx_at s [a] hL 0 0 rfl a rfl
  obtain ⟨X, hX⟩ : ∃ X, a = X := ⟨_, rfl⟩
  have hraw : rawV (bys s) = X := by rw [hL]; exact hX
  have e1 : ((s.size : Int) == 1) = true := by rw [hsz]; rfl
  have e2 : ((s.size : Int) == 2) = false := by rw [hsz]; rfl
  have e3 : ((s.size : Int) == 3) = false := by rw [hsz]; rfl
  have e4 : ((s.size : Int) == 4) = false := by rw [hsz]; rfl
  have HX := Lib.hid hX
  have Hraw := Lib.hid hraw
  clear hX hraw hsz hL
  have cN := refpoint_any X
  cases hp : isPt X
  · rw [hp] at cN
    have CN := Lib.hid cN
    have Hv := Lib.hid (valR_no Hraw.out hp)
    clear hp cN
    go_enter Tryz.func116, Tryz.ntmps116
    go_wp2_with fail
    rw [HX.out]
    refine (CN.out _).mono ?_
    rintro e w1 ⟨rfl, rfl⟩
    go_wp2_with fail
    go_ret
    exact ⟨by rw [Hv.out]; rfl, Below.refl _ _⟩
  · rw [hp] at cN
    have CN := Lib.hid cN
    have Hp := Lib.hid hp
    clear hp cN
    by_cases hf : form X = bys s
    · have Hv := Lib.hid (valR_yes Hraw.out Hp.out hf)
      have Hf := Lib.hid hf
      clear hf
      go_enter Tryz.func116, Tryz.ntmps116
      go_wp2_with fail
      rw [HX.out]
      refine (CN.out _).mono ?_
      rintro e w1 ⟨rfl, rfl⟩
      go_wp2_with fail
      refine (refformG_any X Hp.out _).mono ?_
      rintro e w1 ⟨g, c', rfl, hr1, hb1⟩
      have hcv := conv_rd w1 _ g _ c' (form X) hr1
      rw [Hf.out, strNum_bys, ← Hf.out] at hcv
      have Hb1 := Lib.hid hb1
      clear hr1 hb1
      go_wp2_with fail
      go_ret
      exact ⟨by rw [Hv.out]; rfl, Hb1.out⟩
    · have Hv := Lib.hid (valR_ne Hraw.out hf)
      have hne : ((strOfNums (form X)).toList == s.toList) = false := str_ne (by rw [bys_strOfNums (form_bd Hp.out)]; exact hf)
      clear hf
      go_enter Tryz.func116, Tryz.ntmps116
      go_wp2_with fail
      rw [HX.out]
      refine (CN.out _).mono ?_
      rintro e w1 ⟨rfl, rfl⟩
      go_wp2_with fail
      refine (refformG_any X Hp.out _).mono ?_
      rintro e w1 ⟨g, c', rfl, hr1, hb1⟩
      have hcv := conv_rd w1 _ g _ c' (form X) hr1
      have Hb1 := Lib.hid hb1
      clear hr1 hb1
      go_wp2_with fail
      go_ret
      exact ⟨by rw [Hv.out]; rfl, Hb1.out⟩
set_option maxHeartbeats 1000000 in
theorem refval2 (s : ByteArray) (a b : Int) (hL : bys s = [a, b]) (ha : 0 ≤ a ∧ a ≤ 255) (hb : 0 ≤ b ∧ b ≤ 255) (w : World) :
    Calls Tryz.prog 116 #[.string s] w fun e w' => e = .returned (.int .i64 (valR (bys s))) ∧ Below w.heap.size w w' := by
  have hsz : s.size = 2 := by rw [← bys_length, hL]; rfl
  obtain ⟨a0, a1⟩ := ha
  obtain ⟨b0, b1⟩ := hb
  have hia := idx_at s [a, b] hL 0 0 rfl a rfl
  have hib := idx_at s [a, b] hL 1 1 rfl b rfl
  obtain ⟨X, hX⟩ : ∃ X, 64 * (a - 192) + b - 128 = X := ⟨_, rfl⟩
  have hraw : rawV (bys s) = X := by rw [hL]; exact hX
  have e1 : ((s.size : Int) == 1) = false := by rw [hsz]; rfl
  have e2 : ((s.size : Int) == 2) = true := by rw [hsz]; rfl
  have e3 : ((s.size : Int) == 3) = false := by rw [hsz]; rfl
  have e4 : ((s.size : Int) == 4) = false := by rw [hsz]; rfl
  have HX := Lib.hid hX
  have Hraw := Lib.hid hraw
  clear hX hraw hsz hL
  have cN := refpoint_any X
  cases hp : isPt X
  · rw [hp] at cN
    have CN := Lib.hid cN
    have Hv := Lib.hid (valR_no Hraw.out hp)
    clear hp cN
    go_enter Tryz.func116, Tryz.ntmps116
    go_wp2_with fail
    go_quiet (fail)
    go_wp2_with fail
    rw [HX.out]
    refine (CN.out _).mono ?_
    rintro e w1 ⟨rfl, rfl⟩
    go_wp2_with fail
    go_ret
    exact ⟨by rw [Hv.out]; rfl, below_drewN (Below.refl _ _) _⟩
  · rw [hp] at cN
    have CN := Lib.hid cN
    have Hp := Lib.hid hp
    clear hp cN
    by_cases hf : form X = bys s
    · have Hv := Lib.hid (valR_yes Hraw.out Hp.out hf)
      have Hf := Lib.hid hf
      clear hf
      go_enter Tryz.func116, Tryz.ntmps116
      go_wp2_with fail
      go_quiet (fail)
      go_wp2_with fail
      rw [HX.out]
      refine (CN.out _).mono ?_
      rintro e w1 ⟨rfl, rfl⟩
      go_wp2_with fail
      refine (refformG_any X Hp.out _).mono ?_
      rintro e w1 ⟨g, c', rfl, hr1, hb1⟩
      have hcv := conv_rd w1 _ g _ c' (form X) hr1
      rw [Hf.out, strNum_bys, ← Hf.out] at hcv
      have Hb1 := Lib.hid hb1
      clear hr1 hb1
      go_wp2_with fail
      go_ret
      exact ⟨by rw [Hv.out]; rfl, (below_drewN (Below.refl _ _) _).trans Hb1.out⟩
    · have Hv := Lib.hid (valR_ne Hraw.out hf)
      have hne : ((strOfNums (form X)).toList == s.toList) = false := str_ne (by rw [bys_strOfNums (form_bd Hp.out)]; exact hf)
      clear hf
      go_enter Tryz.func116, Tryz.ntmps116
      go_wp2_with fail
      go_quiet (fail)
      go_wp2_with fail
      rw [HX.out]
      refine (CN.out _).mono ?_
      rintro e w1 ⟨rfl, rfl⟩
      go_wp2_with fail
      refine (refformG_any X Hp.out _).mono ?_
      rintro e w1 ⟨g, c', rfl, hr1, hb1⟩
      have hcv := conv_rd w1 _ g _ c' (form X) hr1
      have Hb1 := Lib.hid hb1
      clear hr1 hb1
      go_wp2_with fail
      go_ret
      exact ⟨by rw [Hv.out]; rfl, (below_drewN (Below.refl _ _) _).trans Hb1.out⟩
set_option maxHeartbeats 1000000 in
theorem refval3 (s : ByteArray) (a b c : Int) (hL : bys s = [a, b, c]) (ha : 0 ≤ a ∧ a ≤ 255) (hb : 0 ≤ b ∧ b ≤ 255) (hc : 0 ≤ c ∧ c ≤ 255) (w : World) :
    Calls Tryz.prog 116 #[.string s] w fun e w' => e = .returned (.int .i64 (valR (bys s))) ∧ Below w.heap.size w w' := by
  have hsz : s.size = 3 := by rw [← bys_length, hL]; rfl
  obtain ⟨a0, a1⟩ := ha
  obtain ⟨b0, b1⟩ := hb
  obtain ⟨c0, c1⟩ := hc
  have hia := idx_at s [a, b, c] hL 0 0 rfl a rfl
  have hib := idx_at s [a, b, c] hL 1 1 rfl b rfl
  have hic := idx_at s [a, b, c] hL 2 2 rfl c rfl
  obtain ⟨X, hX⟩ : ∃ X, 4096 * (a - 224) + 64 * (b - 128) + c - 128 = X := ⟨_, rfl⟩
  have hraw : rawV (bys s) = X := by rw [hL]; exact hX
  have e1 : ((s.size : Int) == 1) = false := by rw [hsz]; rfl
  have e2 : ((s.size : Int) == 2) = false := by rw [hsz]; rfl
  have e3 : ((s.size : Int) == 3) = true := by rw [hsz]; rfl
  have e4 : ((s.size : Int) == 4) = false := by rw [hsz]; rfl
  have HX := Lib.hid hX
  have Hraw := Lib.hid hraw
  clear hX hraw hsz hL
  have cN := refpoint_any X
  cases hp : isPt X
  · rw [hp] at cN
    have CN := Lib.hid cN
    have Hv := Lib.hid (valR_no Hraw.out hp)
    clear hp cN
    go_enter Tryz.func116, Tryz.ntmps116
    go_wp2_with fail
    go_quiet (fail)
    go_wp2_with fail
    rw [HX.out]
    refine (CN.out _).mono ?_
    rintro e w1 ⟨rfl, rfl⟩
    go_wp2_with fail
    go_ret
    exact ⟨by rw [Hv.out]; rfl, below_drewN (Below.refl _ _) _⟩
  · rw [hp] at cN
    have CN := Lib.hid cN
    have Hp := Lib.hid hp
    clear hp cN
    by_cases hf : form X = bys s
    · have Hv := Lib.hid (valR_yes Hraw.out Hp.out hf)
      have Hf := Lib.hid hf
      clear hf
      go_enter Tryz.func116, Tryz.ntmps116
      go_wp2_with fail
      go_quiet (fail)
      go_wp2_with fail
      rw [HX.out]
      refine (CN.out _).mono ?_
      rintro e w1 ⟨rfl, rfl⟩
      go_wp2_with fail
      refine (refformG_any X Hp.out _).mono ?_
      rintro e w1 ⟨g, c', rfl, hr1, hb1⟩
      have hcv := conv_rd w1 _ g _ c' (form X) hr1
      rw [Hf.out, strNum_bys, ← Hf.out] at hcv
      have Hb1 := Lib.hid hb1
      clear hr1 hb1
      go_wp2_with fail
      go_ret
      exact ⟨by rw [Hv.out]; rfl, (below_drewN (Below.refl _ _) _).trans Hb1.out⟩
    · have Hv := Lib.hid (valR_ne Hraw.out hf)
      have hne : ((strOfNums (form X)).toList == s.toList) = false := str_ne (by rw [bys_strOfNums (form_bd Hp.out)]; exact hf)
      clear hf
      go_enter Tryz.func116, Tryz.ntmps116
      go_wp2_with fail
      go_quiet (fail)
      go_wp2_with fail
      rw [HX.out]
      refine (CN.out _).mono ?_
      rintro e w1 ⟨rfl, rfl⟩
      go_wp2_with fail
      refine (refformG_any X Hp.out _).mono ?_
      rintro e w1 ⟨g, c', rfl, hr1, hb1⟩
      have hcv := conv_rd w1 _ g _ c' (form X) hr1
      have Hb1 := Lib.hid hb1
      clear hr1 hb1
      go_wp2_with fail
      go_ret
      exact ⟨by rw [Hv.out]; rfl, (below_drewN (Below.refl _ _) _).trans Hb1.out⟩
set_option maxHeartbeats 1000000 in
theorem refval4 (s : ByteArray) (a b c d : Int) (hL : bys s = [a, b, c, d]) (ha : 0 ≤ a ∧ a ≤ 255) (hb : 0 ≤ b ∧ b ≤ 255) (hc : 0 ≤ c ∧ c ≤ 255) (hd : 0 ≤ d ∧ d ≤ 255) (w : World) :
    Calls Tryz.prog 116 #[.string s] w fun e w' => e = .returned (.int .i64 (valR (bys s))) ∧ Below w.heap.size w w' := by
  have hsz : s.size = 4 := by rw [← bys_length, hL]; rfl
  obtain ⟨a0, a1⟩ := ha
  obtain ⟨b0, b1⟩ := hb
  obtain ⟨c0, c1⟩ := hc
  obtain ⟨d0, d1⟩ := hd
  have hia := idx_at s [a, b, c, d] hL 0 0 rfl a rfl
  have hib := idx_at s [a, b, c, d] hL 1 1 rfl b rfl
  have hic := idx_at s [a, b, c, d] hL 2 2 rfl c rfl
  have hid := idx_at s [a, b, c, d] hL 3 3 rfl d rfl
  obtain ⟨X, hX⟩ : ∃ X, 262144 * (a - 240) + 4096 * (b - 128) + 64 * (c - 128) + d - 128 = X := ⟨_, rfl⟩
  have hraw : rawV (bys s) = X := by rw [hL]; exact hX
  have e1 : ((s.size : Int) == 1) = false := by rw [hsz]; rfl
  have e2 : ((s.size : Int) == 2) = false := by rw [hsz]; rfl
  have e3 : ((s.size : Int) == 3) = false := by rw [hsz]; rfl
  have e4 : ((s.size : Int) == 4) = true := by rw [hsz]; rfl
  have HX := Lib.hid hX
  have Hraw := Lib.hid hraw
  clear hX hraw hsz hL
  have cN := refpoint_any X
  cases hp : isPt X
  · rw [hp] at cN
    have CN := Lib.hid cN
    have Hv := Lib.hid (valR_no Hraw.out hp)
    clear hp cN
    go_enter Tryz.func116, Tryz.ntmps116
    go_wp2_with fail
    go_quiet (fail)
    go_wp2_with fail
    rw [HX.out]
    refine (CN.out _).mono ?_
    rintro e w1 ⟨rfl, rfl⟩
    go_wp2_with fail
    go_ret
    exact ⟨by rw [Hv.out]; rfl, below_drewN (Below.refl _ _) _⟩
  · rw [hp] at cN
    have CN := Lib.hid cN
    have Hp := Lib.hid hp
    clear hp cN
    by_cases hf : form X = bys s
    · have Hv := Lib.hid (valR_yes Hraw.out Hp.out hf)
      have Hf := Lib.hid hf
      clear hf
      go_enter Tryz.func116, Tryz.ntmps116
      go_wp2_with fail
      go_quiet (fail)
      go_wp2_with fail
      rw [HX.out]
      refine (CN.out _).mono ?_
      rintro e w1 ⟨rfl, rfl⟩
      go_wp2_with fail
      refine (refformG_any X Hp.out _).mono ?_
      rintro e w1 ⟨g, c', rfl, hr1, hb1⟩
      have hcv := conv_rd w1 _ g _ c' (form X) hr1
      rw [Hf.out, strNum_bys, ← Hf.out] at hcv
      have Hb1 := Lib.hid hb1
      clear hr1 hb1
      go_wp2_with fail
      go_ret
      exact ⟨by rw [Hv.out]; rfl, (below_drewN (Below.refl _ _) _).trans Hb1.out⟩
    · have Hv := Lib.hid (valR_ne Hraw.out hf)
      have hne : ((strOfNums (form X)).toList == s.toList) = false := str_ne (by rw [bys_strOfNums (form_bd Hp.out)]; exact hf)
      clear hf
      go_enter Tryz.func116, Tryz.ntmps116
      go_wp2_with fail
      go_quiet (fail)
      go_wp2_with fail
      rw [HX.out]
      refine (CN.out _).mono ?_
      rintro e w1 ⟨rfl, rfl⟩
      go_wp2_with fail
      refine (refformG_any X Hp.out _).mono ?_
      rintro e w1 ⟨g, c', rfl, hr1, hb1⟩
      have hcv := conv_rd w1 _ g _ c' (form X) hr1
      have Hb1 := Lib.hid hb1
      clear hr1 hb1
      go_wp2_with fail
      go_ret
      exact ⟨by rw [Hv.out]; rfl, (below_drewN (Below.refl _ _) _).trans Hb1.out⟩
set_option maxHeartbeats 1000000 in
theorem refval0 (s : ByteArray) (h1 : s.size ≠ 1) (h2 : s.size ≠ 2) (h3 : s.size ≠ 3) (h4 : s.size ≠ 4) (w : World) :
    Calls Tryz.prog 116 #[.string s] w fun e w' => e = .returned (.int .i64 (valR (bys s))) ∧ Below w.heap.size w w' := by
  have hX : (-1 : Int) = -1 := rfl
  have hraw : rawV (bys s) = -1 := by
    have hl := bys_length s
    generalize bys s = l at *
    match l, hl with
    | [], _ => rfl
    | [_], hl => exact absurd hl.symm h1
    | [_, _], hl => exact absurd hl.symm h2
    | [_, _, _], hl => exact absurd hl.symm h3
    | [_, _, _, _], hl => exact absurd hl.symm h4
    | _ :: _ :: _ :: _ :: _ :: _, _ => rfl
  have e1 : ((s.size : Int) == 1) = false := by rw [beq_eq_false_iff_ne]; omega
  have e2 : ((s.size : Int) == 2) = false := by rw [beq_eq_false_iff_ne]; omega
  have e3 : ((s.size : Int) == 3) = false := by rw [beq_eq_false_iff_ne]; omega
  have e4 : ((s.size : Int) == 4) = false := by rw [beq_eq_false_iff_ne]; omega
  have HX := Lib.hid hX
  have Hraw := Lib.hid hraw
  clear hX hraw
  have CN := Lib.hid (refpoint_any (-1))
  have hp : isPt (-1) = false := by decide
  have Hv := Lib.hid (valR_no Hraw.out hp)
  rw [hp] at CN
  go_enter Tryz.func116, Tryz.ntmps116
  go_wp2_with fail
  refine (CN.out _).mono ?_
  rintro e w1 ⟨rfl, rfl⟩
  go_wp2_with fail
  go_ret
  exact ⟨by rw [Hv.out]; rfl, Below.refl _ _⟩
/-- VALUE. -/
theorem refval_any (s : ByteArray) (w : World) : Calls Tryz.prog 116 #[.string s] w fun e w' => e = .returned (.int .i64 (valR (bys s))) ∧ Below w.heap.size w w' := by
  have hb := bys_bd s
  have hl := bys_length s
  match h : bys s, hl with
  | [a], _ => rw [← h]; rw [h] at hb; exact refval1 s a h (hb a (by simp)) w
  | [a, b], _ => rw [← h]; rw [h] at hb; exact refval2 s a b h (hb a (by simp)) (hb b (by simp)) w
  | [a, b, c], _ => rw [← h]; rw [h] at hb; exact refval3 s a b c h (hb a (by simp)) (hb b (by simp)) (hb c (by simp)) w
  | [a, b, c, d], _ => rw [← h]; rw [h] at hb; exact refval4 s a b c d h (hb a (by simp)) (hb b (by simp)) (hb c (by simp)) (hb d (by simp)) w
  | [], hl => rw [← h]; exact refval0 s (by simp at hl; omega) (by simp at hl; omega) (by simp at hl; omega) (by simp at hl; omega) w
  | _ :: _ :: _ :: _ :: _ :: _, hl => rw [← h]; simp only [List.length_cons] at hl; exact refval0 s (by omega) (by omega) (by omega) (by omega) w
end Go.Proofs.YtlhekeokognhmaaGreatDoor
namespace Go.Proofs.YtlhekeokognhmaaGreatDoor
open Go.RowKit Mt
/-- Yes just if a form begins so. -/
def BegOk (l : List Int) (w : World) (e : Ending) (w' : World) : Prop := ∃ b : Bool, e = .returned (.bool b) ∧ (b = true ↔ begS l) ∧ Below w.heap.size w w'
def strLen : Value → Nat
  | .string t => t.size
  | _ => 0
theorem conv1 (W : World) (v : Int) : (convert 26 9 (.slice (some ⟨W.heap.size, 0, none⟩) 1 1)).run Tryz.prog (W.alloc (.cells #[.int .u8 v] 5)) = .ok (.string (strOfNums [v])) (W.alloc (.cells #[.int .u8 v] 5)) :=
  conv_rd _ _ _ 1 1 [v] (rdNew W (u8s [v]) 5)
theorem bys_one (v : Int) (h : 0 ≤ v ∧ v ≤ 255) : bys (strOfNums [v]) = [v] := bys_strOfNums (by intro c hc; rw [List.mem_singleton.1 hc]; exact h)
theorem one_size (v : Int) : (strOfNums [v]).size = 1 := strOfNums_size _
theorem rep_snoc (l : List Int) (x : Int) (j : Nat) : (l ++ x :: List.replicate j 128) ++ [128] = l ++ x :: List.replicate (j + 1) 128 := by
  rw [List.append_assoc, List.cons_append, List.replicate_succ']
set_option maxRecDepth 100000 in
set_option maxHeartbeats 2000000 in
theorem refbeg_any (s : ByteArray) (hs : s.size ≤ 3) (w : World) : Calls Tryz.prog 117 #[.string s] w (BegOk (bys s) w) := by
  have hcat : ∀ t : ByteArray, ∀ v : Int, (t ++ strOfNums [v]).size = t.size + 1 := fun t v => by rw [ByteArray.size_append, one_size]
  have Hcat := Lib.hid hcat
  clear hcat
  go_enter Tryz.func117, Tryz.ntmps117
  go_wp2
  go_loopw [3] (fun v wr => ∃ k : Nat, s.size + 1 ≤ k ∧ k ≤ 5 ∧ v = .int .i64 k ∧ Below w.heap.size w wr ∧ Hid (∀ m i : Nat, s.size < m → m < k → i < 2 → valR (compl (bys s) m i) < 0)) (fun v _ => 5 - (intOf v).toNat)
  case atStart => exact ⟨s.size + 1, by omega, by omega, rfl, Below.refl _ _, fun m i h1 h2 _ => by omega⟩
  case round =>
    obtain ⟨k, hk1, hk2, rfl, hb, hno⟩ := hrel
    by_cases hk : k < 5
    · have hk4 : (k : Int) ≤ 4 := by omega
      go_wp2
      go_loopw [4] (fun v wr => ∃ i : Nat, i ≤ 2 ∧ v = .int .i64 i ∧ Below w.heap.size w wr ∧ Hid (∀ i' : Nat, i' < i → valR (compl (bys s) k i') < 0)) (fun v _ => 2 - (intOf v).toNat)
      case atStart => exact ⟨0, by omega, rfl, hb, fun i' h => by omega⟩
      case round =>
        obtain ⟨i, hi, rfl, hb2, hno2⟩ := hrel
        by_cases hi2 : i < 2
        · obtain ⟨v, hv⟩ : ∃ v : Int, 128 + 63 * (i : Int) = v := ⟨_, rfl⟩
          have hv0 : 0 ≤ v := by omega
          have hv1 : v ≤ 255 := by omega
          have hcv := conv1 wr v
          have Hv := Lib.hid hv
          have hnl : ¬ (9223372036854775807 < s.size + (strOfNums [v]).size) := by rw [one_size]; omega
          go_wp2_with fail
          clear hcv hnl hv
          go_loopw [5] (fun u wq => ∃ (t : ByteArray) (j : Nat), u = .string t ∧ t.size = s.size + 1 + j ∧ s.size + 1 + j ≤ k ∧ Below w.heap.size w wq ∧ Hid (bys t = bys s ++ v :: List.replicate j 128)) (fun u _ => k - strLen u)
          case atStart => exact ⟨_, 0, rfl, Hcat.out _ _, by omega, hb2.alloc hb2.size _, by show bys _ = _; rw [bys_app, bys_one v ⟨hv0, hv1⟩]; rfl⟩
          case round =>
            obtain ⟨t, j, rfl, htj, hjk, hb3, hbt⟩ := hrel
            have Htj := Lib.hid htj
            by_cases hj : s.size + 1 + j < k
            · have h1 : (t.size : Int) < k := by omega
              have hcv := conv1 wr 128
              have hnl : ¬ (9223372036854775807 < t.size + (strOfNums [128]).size) := by rw [one_size]; omega
              clear htj
              go_wp2
              go_roundw
              case rel => exact ⟨_, j + 1, rfl, by rw [Hcat.out, Htj.out]; omega, by omega, hb3.alloc hb3.size _, by show bys _ = _; rw [bys_app, bys_one 128 (by omega), hbt.out, rep_snoc]⟩
              case measure => simp only [strLen]; rw [Hcat.out, Htj.out]; omega
            · have h1 : ¬ (t.size : Int) < k := by omega
              have hc : Hid (bys t = compl (bys s) k i) := by
                show _ = _
                rw [hbt.out]
                unfold compl
                rw [bys_length, Hv.out, show k - s.size - 1 = j from by omega]
              clear htj hbt
              have cv := refval_any t
              rw [hc.out] at cv
              have CV := Lib.hid cv
              clear cv
              go_wp2_with fail
              refine (CV.out _).mono ?_
              rintro e w3 ⟨rfl, hb4⟩
              have hB3 : Below w.heap.size w w3 := hb3.trans (hb4.mono hb3.size)
              clear hb4 CV
              have hlow : -1 ≤ valR (compl (bys s) k i) := by
                by_cases h : 0 ≤ valR (compl (bys s) k i)
                · omega
                · unfold valR at h ⊢
                  split
                  · next q => have := (isPt_bds q.1).1; omega
                  · omega
              obtain ⟨V, hV⟩ : ∃ V, valR (compl (bys s) k i) = V := ⟨_, rfl⟩
              have HV := Lib.hid hV
              rw [hV] at hlow ⊢
              clear hV
              by_cases hV0 : 0 ≤ V
              · go_wp2
                go_ret
                exact ⟨true, rfl, ⟨fun _ => ⟨k, i, by rw [bys_length]; omega, by omega, hi2, by rw [HV.out]; exact hV0⟩, fun _ => rfl⟩, hB3⟩
              · go_wp2
                go_roundw
                case rel => exact ⟨i + 1, by omega, by go_num, hB3, fun i' h => by
                  rcases Nat.lt_or_ge i' i with h' | h'
                  · exact hno2.out i' h'
                  · obtain rfl : i' = i := by omega
                    rw [HV.out]; omega⟩
                case measure => simp [intOf]; omega
        · have h1 : i = 2 := by omega
          subst h1
          go_wp2
          go_roundw
          case rel => exact ⟨k + 1, by omega, by omega, by go_num, hb2, fun m i h1 h2 h3 => by
            rcases Nat.lt_or_ge m k with h' | h'
            · exact hno.out m i h1 h' h3
            · obtain rfl : m = k := by omega
              exact hno2.out i h3⟩
          case measure => simp [intOf]; omega
    · have h5 : k = 5 := by omega
      subst h5
      go_wp2
      go_ret
      refine ⟨false, rfl, ⟨fun h => (by cases h), fun ⟨m, i, h1, h2, h3, h4⟩ => ?_⟩, hb⟩
      have := hno.out m i (by rw [bys_length] at h1; exact h1) (by omega) h3
      omega
end Go.Proofs.YtlhekeokognhmaaGreatDoor
