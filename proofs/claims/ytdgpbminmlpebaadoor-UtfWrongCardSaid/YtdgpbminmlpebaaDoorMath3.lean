/-
  Plain mathematics: what is written is read back; what is read was written so.
-/
import Derived.Test.YtdgpbminmlpebaaDoorMath2
namespace Go.Proofs.YtdgpbminmlpebaaDoor.Mt
theorem lead_1 {c : Int} (h : c ≤ 127) : lead c = some (0, 0, 0, 1) := by unfold lead; rw [if_pos h]
theorem lead_2 {c : Int} (h : 194 ≤ c) (h2 : c ≤ 223) : lead c = some (192, 128, 191, 2) := by unfold lead; repeat (first | rw [if_pos (by omega)] | rw [if_neg (by omega)])
theorem lead_c {c : Int} (h : 128 ≤ c) (h2 : c ≤ 193) : lead c = none := by unfold lead; repeat (first | rw [if_pos (by omega)] | rw [if_neg (by omega)])
theorem lead_h {c : Int} (h : 245 ≤ c) : lead c = none := by unfold lead; repeat (first | rw [if_pos (by omega)] | rw [if_neg (by omega)])
/-- The bounds of the second byte behind a first one. -/
def lo3 (c : Int) : Int := if c = 224 then 160 else 128
def hi3 (c : Int) : Int := if c = 237 then 159 else 191
def lo4 (c : Int) : Int := if c = 240 then 144 else 128
def hi4 (c : Int) : Int := if c = 244 then 143 else 191
theorem lead_3 {c : Int} (h : 224 ≤ c) (h2 : c ≤ 239) : lead c = some (224, lo3 c, hi3 c, 3) := by
  unfold lead lo3 hi3
  by_cases a : c = 224
  · subst a; decide
  · by_cases b : c = 237
    · subst b; decide
    · rw [if_neg a, if_neg b]
      by_cases d : c ≤ 236
      · repeat (first | rw [if_pos (by omega)] | rw [if_neg (by omega)])
      · repeat (first | rw [if_pos (by omega)] | rw [if_neg (by omega)])
theorem lead_4 {c : Int} (h : 240 ≤ c) (h2 : c ≤ 244) : lead c = some (240, lo4 c, hi4 c, 4) := by
  unfold lead lo4 hi4
  by_cases a : c = 240
  · subst a; decide
  · by_cases b : c = 244
    · subst b; decide
    · rw [if_neg a, if_neg b]
      repeat (first | rw [if_pos (by omega)] | rw [if_neg (by omega)])
theorem isPt_bds {x : Int} (h : isPt x = true) : 0 ≤ x ∧ x ≤ 1114111 ∧ (x < 55296 ∨ 57343 < x) := isPt_bd h
theorem rd_form {x : Int} (h : isPt x = true) (r : List Int) : rd (form x ++ r) = (x, szP x, 0) := by
  obtain ⟨h0, h1, h2⟩ := isPt_bds h
  by_cases c1 : x < 128
  · rw [form_1 c1, szP_1 c1]
    exact rd_ok (m := 0) (lo := 0) (hi := 0) (lead_1 (by omega)) (by show cont (x - 0) 0 0 (r.take 0) = _; rw [List.take_zero, Int.sub_zero]; rfl) (by omega)
  · by_cases c2 : x < 2048
    · rw [form_2 c1 c2, szP_2 c1 c2]
      refine rd_ok (lead_2 (by omega) (by omega)) ?_ (fun hh => by have := Int.natCast_nonneg r.length; simp at hh; omega)
      show cont (192 + x / 64 - 192) 128 191 [128 + x % 64] = some x
      rw [cont_in (by omega) (by omega)]
      show some _ = some x
      congr 1; omega
    · by_cases c3 : x < 65536
      · rw [form_3 c2 c3, szP_3 c2 c3]
        refine rd_ok (lead_3 (by omega) (by omega)) ?_ (fun hh => by have := Int.natCast_nonneg r.length; simp at hh; omega)
        show cont (224 + x / 4096 - 224) (lo3 _) (hi3 _) [128 + x / 64 % 64, 128 + x % 64] = some x
        rw [cont_in (by unfold lo3; split <;> omega) (by unfold hi3; split <;> omega), cont_in (by omega) (by omega)]
        show some _ = some x
        congr 1; omega
      · rw [form_4 c3, szP_4 c3]
        refine rd_ok (lead_4 (by omega) (by omega)) ?_ (fun hh => by have := Int.natCast_nonneg r.length; simp at hh; omega)
        show cont (240 + x / 262144 - 240) (lo4 _) (hi4 _) [128 + x / 4096 % 64, 128 + x / 64 % 64, 128 + x % 64] = some x
        rw [cont_in (by unfold lo4; split <;> omega) (by unfold hi4; split <;> omega), cont_in (by omega) (by omega), cont_in (by omega) (by omega)]
        show some _ = some x
        congr 1; omega
/-- No form begins with a byte that is not first in one. -/
theorem rd_mid {c : Int} (h : 128 ≤ c) (h2 : c ≤ 193) (r : List Int) : rd (c :: r) = (0, 0, 11) := rd_none (lead_c h h2)
theorem form_mid {x : Int} (h : isPt x = true) (i : Nat) (h1 : 1 ≤ i) (h2 : (i : Int) < szP x) (r : List Int) : rd ((form x).drop i ++ r) = (0, 0, 11) := by
  obtain ⟨h0, _, _⟩ := isPt_bds h
  by_cases c1 : x < 128
  · rw [szP_1 c1] at h2; omega
  · by_cases c2 : x < 2048
    · rw [szP_2 c1 c2] at h2
      rw [form_2 c1 c2]
      obtain rfl : i = 1 := by omega
      exact rd_mid (by omega) (by omega) _
    · by_cases c3 : x < 65536
      · rw [szP_3 c2 c3] at h2
        rw [form_3 c2 c3]
        rcases (by omega : i = 1 ∨ i = 2) with rfl | rfl
        · exact rd_mid (by omega) (by omega) _
        · exact rd_mid (by omega) (by omega) _
      · rw [szP_4 c3] at h2
        rw [form_4 c3]
        rcases (by omega : i = 1 ∨ i = 2 ∨ i = 3) with rfl | rfl | rfl
        · exact rd_mid (by omega) (by omega) _
        · exact rd_mid (by omega) (by omega) _
        · exact rd_mid (by omega) (by omega) _
theorem form_bd {x : Int} (h : isPt x = true) : ∀ c ∈ form x, 0 ≤ c ∧ c ≤ 255 := by
  obtain ⟨h0, h1, _⟩ := isPt_bds h
  intro c hc
  unfold form at hc
  split at hc
  · simp at hc; omega
  · split at hc
    · simp at hc; omega
    · split at hc
      · simp at hc; omega
      · simp at hc; omega
/-- What was read is a code point, and its form is what is there. -/
theorem rd_inv {l : List Int} (h0 : ∀ c ∈ l, 0 ≤ c ∧ c ≤ 255) (h : (rd l).2.2 = 0) : isPt (rd l).1 = true ∧ l = form (rd l).1 ++ l.drop (rd l).2.1.toNat ∧ (rd l).2.1 = szP (rd l).1 := by
  cases l with
  | nil => cases h
  | cons c t =>
    have hc := h0 c (by simp)
    by_cases a1 : c ≤ 127
    · have := lead_1 a1
      have e : rd (c :: t) = (c, 1, 0) := rd_ok this (by show cont (c - 0) 0 0 (t.take 0) = _; rw [List.take_zero, Int.sub_zero]; rfl) (by omega)
      rw [e]
      exact ⟨isPt_mk (by omega), by rw [form_1 (by omega)]; rfl, (szP_1 (by omega)).symm⟩
    · by_cases a2 : c ≤ 193
      · rw [rd_none (lead_c (by omega) a2)] at h; cases h
      · by_cases a3 : c ≤ 223
        · have hl := lead_2 (by omega) a3
          cases t with
          | nil => rw [rd_short (x := c - 192) hl rfl (by simp)] at h; cases h
          | cons b1 t =>
            by_cases k1 : 128 ≤ b1 ∧ b1 ≤ 191
            · have e : rd (c :: b1 :: t) = ((c - 192) * 64 + (b1 - 128), 2, 0) := rd_ok hl (cont_in k1.1 k1.2) (by simp only [List.length_cons]; omega)
              rw [e]
              refine ⟨isPt_mk (by dsimp only; omega), ?_, (szP_2 (by dsimp only; omega) (by dsimp only; omega)).symm⟩
              dsimp only
              rw [form_2 (by omega) (by omega)]
              show c :: b1 :: t = (192 + ((c - 192) * 64 + (b1 - 128)) / 64) :: (128 + ((c - 192) * 64 + (b1 - 128)) % 64) :: t
              rw [show 192 + ((c - 192) * 64 + (b1 - 128)) / 64 = c from by omega, show 128 + ((c - 192) * 64 + (b1 - 128)) % 64 = b1 from by omega]
            · rw [rd_bad hl (cont_out k1)] at h; cases h
        · by_cases a4 : c ≤ 239
          · have hl := lead_3 (by omega) a4
            match t with
            | [] => rw [rd_short (x := c - 224) hl rfl (by simp)] at h; cases h
            | [b1] =>
              by_cases k1 : lo3 c ≤ b1 ∧ b1 ≤ hi3 c
              · rw [rd_short hl (cont_in k1.1 k1.2) (by simp)] at h; cases h
              · rw [rd_bad hl (cont_out k1)] at h; cases h
            | b1 :: b2 :: t =>
              by_cases k1 : lo3 c ≤ b1 ∧ b1 ≤ hi3 c
              · by_cases k2 : 128 ≤ b2 ∧ b2 ≤ 191
                · have e : rd (c :: b1 :: b2 :: t) = (((c - 224) * 64 + (b1 - 128)) * 64 + (b2 - 128), 3, 0) := rd_ok hl (by show cont (c - 224) (lo3 c) (hi3 c) [b1, b2] = _; rw [cont_in k1.1 k1.2, cont_in k2.1 k2.2]; rfl) (by simp only [List.length_cons]; omega)
                  rw [e]
                  obtain ⟨k3, k4⟩ := k1
                  have k5 : 128 ≤ b1 ∧ b1 ≤ 191 ∧ (c = 224 → 160 ≤ b1) ∧ (c = 237 → b1 ≤ 159) := by unfold lo3 at k3; unfold hi3 at k4; split at k3 <;> split at k4 <;> omega
                  refine ⟨isPt_mk (by dsimp only; omega), ?_, (szP_3 (by dsimp only; omega) (by dsimp only; omega)).symm⟩
                  dsimp only
                  rw [form_3 (by omega) (by omega)]
                  show c :: b1 :: b2 :: t = (224 + (((c - 224) * 64 + (b1 - 128)) * 64 + (b2 - 128)) / 4096) :: (128 + (((c - 224) * 64 + (b1 - 128)) * 64 + (b2 - 128)) / 64 % 64) :: (128 + (((c - 224) * 64 + (b1 - 128)) * 64 + (b2 - 128)) % 64) :: t
                  rw [show 224 + (((c - 224) * 64 + (b1 - 128)) * 64 + (b2 - 128)) / 4096 = c from by omega, show 128 + (((c - 224) * 64 + (b1 - 128)) * 64 + (b2 - 128)) / 64 % 64 = b1 from by omega, show 128 + (((c - 224) * 64 + (b1 - 128)) * 64 + (b2 - 128)) % 64 = b2 from by omega]
                · rw [rd_bad hl (by show cont (c - 224) (lo3 c) (hi3 c) [b1, b2] = _; rw [cont_in k1.1 k1.2, cont_out k2])] at h; cases h
              · rw [rd_bad hl (cont_out k1)] at h; cases h
          · by_cases a5 : c ≤ 244
            · have hl := lead_4 (by omega) a5
              match t with
              | [] => rw [rd_short (x := c - 240) hl rfl (by simp)] at h; cases h
              | [b1] =>
                by_cases k1 : lo4 c ≤ b1 ∧ b1 ≤ hi4 c
                · rw [rd_short hl (cont_in k1.1 k1.2) (by simp)] at h; cases h
                · rw [rd_bad hl (cont_out k1)] at h; cases h
              | [b1, b2] =>
                by_cases k1 : lo4 c ≤ b1 ∧ b1 ≤ hi4 c
                · by_cases k2 : 128 ≤ b2 ∧ b2 ≤ 191
                  · rw [rd_short hl (by show cont (c - 240) (lo4 c) (hi4 c) [b1, b2] = _; rw [cont_in k1.1 k1.2, cont_in k2.1 k2.2]; rfl) (by simp)] at h; cases h
                  · rw [rd_bad hl (by show cont (c - 240) (lo4 c) (hi4 c) [b1, b2] = _; rw [cont_in k1.1 k1.2, cont_out k2])] at h; cases h
                · rw [rd_bad hl (cont_out k1)] at h; cases h
              | b1 :: b2 :: b3 :: t =>
                by_cases k1 : lo4 c ≤ b1 ∧ b1 ≤ hi4 c
                · by_cases k2 : 128 ≤ b2 ∧ b2 ≤ 191
                  · by_cases k6 : 128 ≤ b3 ∧ b3 ≤ 191
                    · have e : rd (c :: b1 :: b2 :: b3 :: t) = ((((c - 240) * 64 + (b1 - 128)) * 64 + (b2 - 128)) * 64 + (b3 - 128), 4, 0) := rd_ok hl (by show cont (c - 240) (lo4 c) (hi4 c) [b1, b2, b3] = _; rw [cont_in k1.1 k1.2, cont_in k2.1 k2.2, cont_in k6.1 k6.2]; rfl) (by simp only [List.length_cons]; omega)
                      rw [e]
                      obtain ⟨k3, k4⟩ := k1
                      have k5 : 128 ≤ b1 ∧ b1 ≤ 191 ∧ (c = 240 → 144 ≤ b1) ∧ (c = 244 → b1 ≤ 143) := by unfold lo4 at k3; unfold hi4 at k4; split at k3 <;> split at k4 <;> omega
                      generalize hX : (((c - 240) * 64 + (b1 - 128)) * 64 + (b2 - 128)) * 64 + (b3 - 128) = X
                      refine ⟨isPt_mk (by dsimp only; omega), ?_, (szP_4 (by dsimp only; omega)).symm⟩
                      dsimp only
                      rw [form_4 (by omega)]
                      show c :: b1 :: b2 :: b3 :: t = (240 + X / 262144) :: (128 + X / 4096 % 64) :: (128 + X / 64 % 64) :: (128 + X % 64) :: t
                      rw [show 240 + X / 262144 = c from by omega, show 128 + X / 4096 % 64 = b1 from by omega, show 128 + X / 64 % 64 = b2 from by omega, show 128 + X % 64 = b3 from by omega]
                    · rw [rd_bad hl (by show cont (c - 240) (lo4 c) (hi4 c) [b1, b2, b3] = _; rw [cont_in k1.1 k1.2, cont_in k2.1 k2.2, cont_out k6])] at h; cases h
                  · rw [rd_bad hl (by show cont (c - 240) (lo4 c) (hi4 c) [b1, b2, b3] = _; rw [cont_in k1.1 k1.2, cont_out k2])] at h; cases h
                · rw [rd_bad hl (cont_out k1)] at h; cases h
            · rw [rd_none (lead_h (by omega))] at h; cases h
end Go.Proofs.YtdgpbminmlpebaaDoor.Mt
