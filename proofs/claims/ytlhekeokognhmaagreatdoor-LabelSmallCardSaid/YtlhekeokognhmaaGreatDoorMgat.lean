/-
  Plain mathematics: what is written is read back; what is read was written so. Plain mathematics on strings of code points: written, read back, cut. What Text of package utf computes; what the statements' helpers made and SameInts compute. What Cut of package utf computes. Strings by their bytes; what Pick of the statements' own kit computes.
-/
import Derived.Test.YtlhekeokognhmaaGreatDoorMgad
import Derived.Test.YtlhekeokognhmaaGreatDoorMgac
import Derived.Test.YtlhekeokognhmaaGreatDoorMgaa
import Derived.Test.YtlhekeokognhmaaGreatDoorMgas
import Derived.Laws.BytesArg
import Derived.Test.YtlhekeokognhmaaGreatDoorMgae
namespace Go.Proofs.YtlhekeokognhmaaGreatDoor.Mt
theorem lead_1 {c : Int} (h : c ≤ 127) : lead c = some (0, 0, 0, 1) := by unfold lead; rw [if_pos h]
theorem lead_2 {c : Int} (h : 194 ≤ c) (h2 : c ≤ 223) : lead c = some (192, 128, 191, 2) := by unfold lead; repeat (first | rw [if_pos (by omega)] | rw [if_neg (by omega)])
theorem lead_c {c : Int} (h : 128 ≤ c) (h2 : c ≤ 193) : lead c = none := by unfold lead; repeat (first | rw [if_pos (by omega)] | rw [if_neg (by omega)])
theorem lead_h {c : Int} (h : 245 ≤ c) : lead c = none := by unfold lead; repeat (first | rw [if_pos (by omega)] | rw [if_neg (by omega)])
/-- The bounds of the second byte behind a first one. -/
def lo3 (c : Int) : Int := if c = 224 then 160 else 128
def hi3 (c : Int) : Int := if c = 237 then 159 else 191
def lo4 (c : Int) : Int := if c = 240 then 144 else 128
def hi4 (c : Int) : Int := if c = 244 then 143 else 191
theorem lead_3 {c : Int} (h : 224 ≤ c) (h2 : c ≤ 239) : lead c = some (224, lo3 c, hi3 c, 3) := by
  unfold lead lo3 hi3
  by_cases a : c = 224
  · subst a; decide
  · by_cases b : c = 237
    · subst b; decide
    · rw [if_neg a, if_neg b]
      by_cases d : c ≤ 236
      · repeat (first | rw [if_pos (by omega)] | rw [if_neg (by omega)])
      · repeat (first | rw [if_pos (by omega)] | rw [if_neg (by omega)])
theorem lead_4 {c : Int} (h : 240 ≤ c) (h2 : c ≤ 244) : lead c = some (240, lo4 c, hi4 c, 4) := by
  unfold lead lo4 hi4
  by_cases a : c = 240
  · subst a; decide
  · by_cases b : c = 244
    · subst b; decide
    · rw [if_neg a, if_neg b]
      repeat (first | rw [if_pos (by omega)] | rw [if_neg (by omega)])
theorem isPt_bds {x : Int} (h : isPt x = true) : 0 ≤ x ∧ x ≤ 1114111 ∧ (x < 55296 ∨ 57343 < x) := isPt_bd h
theorem rd_form {x : Int} (h : isPt x = true) (r : List Int) : rd (form x ++ r) = (x, szP x, 0) := by
  obtain ⟨h0, h1, h2⟩ := isPt_bds h
  by_cases c1 : x < 128
  · rw [form_1 c1, szP_1 c1]
    exact rd_ok (m := 0) (lo := 0) (hi := 0) (lead_1 (by omega)) (by show cont (x - 0) 0 0 (r.take 0) = _; rw [List.take_zero, Int.sub_zero]; rfl) (by omega)
  · by_cases c2 : x < 2048
    · rw [form_2 c1 c2, szP_2 c1 c2]
      refine rd_ok (lead_2 (by omega) (by omega)) ?_ (fun hh => by have := Int.natCast_nonneg r.length; simp at hh; omega)
      show cont (192 + x / 64 - 192) 128 191 [128 + x % 64] = some x
      rw [cont_in (by omega) (by omega)]
      show some _ = some x
      congr 1; omega
    · by_cases c3 : x < 65536
      · rw [form_3 c2 c3, szP_3 c2 c3]
        refine rd_ok (lead_3 (by omega) (by omega)) ?_ (fun hh => by have := Int.natCast_nonneg r.length; simp at hh; omega)
        show cont (224 + x / 4096 - 224) (lo3 _) (hi3 _) [128 + x / 64 % 64, 128 + x % 64] = some x
        rw [cont_in (by unfold lo3; split <;> omega) (by unfold hi3; split <;> omega), cont_in (by omega) (by omega)]
        show some _ = some x
        congr 1; omega
      · rw [form_4 c3, szP_4 c3]
        refine rd_ok (lead_4 (by omega) (by omega)) ?_ (fun hh => by have := Int.natCast_nonneg r.length; simp at hh; omega)
        show cont (240 + x / 262144 - 240) (lo4 _) (hi4 _) [128 + x / 4096 % 64, 128 + x / 64 % 64, 128 + x % 64] = some x
        rw [cont_in (by unfold lo4; split <;> omega) (by unfold hi4; split <;> omega), cont_in (by omega) (by omega), cont_in (by omega) (by omega)]
        show some _ = some x
        congr 1; omega
/-- No form begins with a byte that is not first in one. -/
theorem rd_mid {c : Int} (h : 128 ≤ c) (h2 : c ≤ 193) (r : List Int) : rd (c :: r) = (0, 0, 11) := rd_none (lead_c h h2)
theorem form_mid {x : Int} (h : isPt x = true) (i : Nat) (h1 : 1 ≤ i) (h2 : (i : Int) < szP x) (r : List Int) : rd ((form x).drop i ++ r) = (0, 0, 11) := by
  obtain ⟨h0, _, _⟩ := isPt_bds h
  by_cases c1 : x < 128
  · rw [szP_1 c1] at h2; omega
  · by_cases c2 : x < 2048
    · rw [szP_2 c1 c2] at h2
      rw [form_2 c1 c2]
      obtain rfl : i = 1 := by omega
      exact rd_mid (by omega) (by omega) _
    · by_cases c3 : x < 65536
      · rw [szP_3 c2 c3] at h2
        rw [form_3 c2 c3]
        rcases (by omega : i = 1 ∨ i = 2) with rfl | rfl
        · exact rd_mid (by omega) (by omega) _
        · exact rd_mid (by omega) (by omega) _
      · rw [szP_4 c3] at h2
        rw [form_4 c3]
        rcases (by omega : i = 1 ∨ i = 2 ∨ i = 3) with rfl | rfl | rfl
        · exact rd_mid (by omega) (by omega) _
        · exact rd_mid (by omega) (by omega) _
        · exact rd_mid (by omega) (by omega) _
theorem form_bd {x : Int} (h : isPt x = true) : ∀ c ∈ form x, 0 ≤ c ∧ c ≤ 255 := by
  obtain ⟨h0, h1, _⟩ := isPt_bds h
  intro c hc
  unfold form at hc
  split at hc
  · simp at hc; omega
  · split at hc
    · simp at hc; omega
    · split at hc
      · simp at hc; omega
      · simp at hc; omega
/-- What was read is a code point, and its form is what is there. -/
theorem rd_inv {l : List Int} (h0 : ∀ c ∈ l, 0 ≤ c ∧ c ≤ 255) (h : (rd l).2.2 = 0) : isPt (rd l).1 = true ∧ l = form (rd l).1 ++ l.drop (rd l).2.1.toNat ∧ (rd l).2.1 = szP (rd l).1 := by
  cases l with
  | nil => cases h
  | cons c t =>
    have hc := h0 c (by simp)
    by_cases a1 : c ≤ 127
    · have := lead_1 a1
      have e : rd (c :: t) = (c, 1, 0) := rd_ok this (by show cont (c - 0) 0 0 (t.take 0) = _; rw [List.take_zero, Int.sub_zero]; rfl) (by omega)
      rw [e]
      exact ⟨isPt_mk (by omega), by rw [form_1 (by omega)]; rfl, (szP_1 (by omega)).symm⟩
    · by_cases a2 : c ≤ 193
      · rw [rd_none (lead_c (by omega) a2)] at h; cases h
      · by_cases a3 : c ≤ 223
        · have hl := lead_2 (by omega) a3
          cases t with
          | nil => rw [rd_short (x := c - 192) hl rfl (by simp)] at h; cases h
          | cons b1 t =>
            by_cases k1 : 128 ≤ b1 ∧ b1 ≤ 191
            · have e : rd (c :: b1 :: t) = ((c - 192) * 64 + (b1 - 128), 2, 0) := rd_ok hl (cont_in k1.1 k1.2) (by simp only [List.length_cons]; omega)
              rw [e]
              refine ⟨isPt_mk (by dsimp only; omega), ?_, (szP_2 (by dsimp only; omega) (by dsimp only; omega)).symm⟩
              dsimp only
              rw [form_2 (by omega) (by omega)]
              show c :: b1 :: t = (192 + ((c - 192) * 64 + (b1 - 128)) / 64) :: (128 + ((c - 192) * 64 + (b1 - 128)) % 64) :: t
              rw [show 192 + ((c - 192) * 64 + (b1 - 128)) / 64 = c from by omega, show 128 + ((c - 192) * 64 + (b1 - 128)) % 64 = b1 from by omega]
            · rw [rd_bad hl (cont_out k1)] at h; cases h
        · by_cases a4 : c ≤ 239
          · have hl := lead_3 (by omega) a4
            match t with
            | [] => rw [rd_short (x := c - 224) hl rfl (by simp)] at h; cases h
            | [b1] =>
              by_cases k1 : lo3 c ≤ b1 ∧ b1 ≤ hi3 c
              · rw [rd_short hl (cont_in k1.1 k1.2) (by simp)] at h; cases h
              · rw [rd_bad hl (cont_out k1)] at h; cases h
            | b1 :: b2 :: t =>
              by_cases k1 : lo3 c ≤ b1 ∧ b1 ≤ hi3 c
              · by_cases k2 : 128 ≤ b2 ∧ b2 ≤ 191
                · have e : rd (c :: b1 :: b2 :: t) = (((c - 224) * 64 + (b1 - 128)) * 64 + (b2 - 128), 3, 0) := rd_ok hl (by show cont (c - 224) (lo3 c) (hi3 c) [b1, b2] = _; rw [cont_in k1.1 k1.2, cont_in k2.1 k2.2]; rfl) (by simp only [List.length_cons]; omega)
                  rw [e]
                  obtain ⟨k3, k4⟩ := k1
                  have k5 : 128 ≤ b1 ∧ b1 ≤ 191 ∧ (c = 224 → 160 ≤ b1) ∧ (c = 237 → b1 ≤ 159) := by unfold lo3 at k3; unfold hi3 at k4; split at k3 <;> split at k4 <;> omega
                  refine ⟨isPt_mk (by dsimp only; omega), ?_, (szP_3 (by dsimp only; omega) (by dsimp only; omega)).symm⟩
                  dsimp only
                  rw [form_3 (by omega) (by omega)]
                  show c :: b1 :: b2 :: t = (224 + (((c - 224) * 64 + (b1 - 128)) * 64 + (b2 - 128)) / 4096) :: (128 + (((c - 224) * 64 + (b1 - 128)) * 64 + (b2 - 128)) / 64 % 64) :: (128 + (((c - 224) * 64 + (b1 - 128)) * 64 + (b2 - 128)) % 64) :: t
                  rw [show 224 + (((c - 224) * 64 + (b1 - 128)) * 64 + (b2 - 128)) / 4096 = c from by omega, show 128 + (((c - 224) * 64 + (b1 - 128)) * 64 + (b2 - 128)) / 64 % 64 = b1 from by omega, show 128 + (((c - 224) * 64 + (b1 - 128)) * 64 + (b2 - 128)) % 64 = b2 from by omega]
                · rw [rd_bad hl (by show cont (c - 224) (lo3 c) (hi3 c) [b1, b2] = _; rw [cont_in k1.1 k1.2, cont_out k2])] at h; cases h
              · rw [rd_bad hl (cont_out k1)] at h; cases h
          · by_cases a5 : c ≤ 244
            · have hl := lead_4 (by omega) a5
              match t with
              | [] => rw [rd_short (x := c - 240) hl rfl (by simp)] at h; cases h
              | [b1] =>
                by_cases k1 : lo4 c ≤ b1 ∧ b1 ≤ hi4 c
                · rw [rd_short hl (cont_in k1.1 k1.2) (by simp)] at h; cases h
                · rw [rd_bad hl (cont_out k1)] at h; cases h
              | [b1, b2] =>
                by_cases k1 : lo4 c ≤ b1 ∧ b1 ≤ hi4 c
                · by_cases k2 : 128 ≤ b2 ∧ b2 ≤ 191
                  · rw [rd_short hl (by show cont (c - 240) (lo4 c) (hi4 c) [b1, b2] = _; rw [cont_in k1.1 k1.2, cont_in k2.1 k2.2]; rfl) (by simp)] at h; cases h
                  · rw [rd_bad hl (by show cont (c - 240) (lo4 c) (hi4 c) [b1, b2] = _; rw [cont_in k1.1 k1.2, cont_out k2])] at h; cases h
                · rw [rd_bad hl (cont_out k1)] at h; cases h
              | b1 :: b2 :: b3 :: t =>
                by_cases k1 : lo4 c ≤ b1 ∧ b1 ≤ hi4 c
                · by_cases k2 : 128 ≤ b2 ∧ b2 ≤ 191
                  · by_cases k6 : 128 ≤ b3 ∧ b3 ≤ 191
                    · have e : rd (c :: b1 :: b2 :: b3 :: t) = ((((c - 240) * 64 + (b1 - 128)) * 64 + (b2 - 128)) * 64 + (b3 - 128), 4, 0) := rd_ok hl (by show cont (c - 240) (lo4 c) (hi4 c) [b1, b2, b3] = _; rw [cont_in k1.1 k1.2, cont_in k2.1 k2.2, cont_in k6.1 k6.2]; rfl) (by simp only [List.length_cons]; omega)
                      rw [e]
                      obtain ⟨k3, k4⟩ := k1
                      have k5 : 128 ≤ b1 ∧ b1 ≤ 191 ∧ (c = 240 → 144 ≤ b1) ∧ (c = 244 → b1 ≤ 143) := by unfold lo4 at k3; unfold hi4 at k4; split at k3 <;> split at k4 <;> omega
                      generalize hX : (((c - 240) * 64 + (b1 - 128)) * 64 + (b2 - 128)) * 64 + (b3 - 128) = X
                      refine ⟨isPt_mk (by dsimp only; omega), ?_, (szP_4 (by dsimp only; omega)).symm⟩
                      dsimp only
                      rw [form_4 (by omega)]
                      show c :: b1 :: b2 :: b3 :: t = (240 + X / 262144) :: (128 + X / 4096 % 64) :: (128 + X / 64 % 64) :: (128 + X % 64) :: t
                      rw [show 240 + X / 262144 = c from by omega, show 128 + X / 4096 % 64 = b1 from by omega, show 128 + X / 64 % 64 = b2 from by omega, show 128 + X % 64 = b3 from by omega]
                    · rw [rd_bad hl (by show cont (c - 240) (lo4 c) (hi4 c) [b1, b2, b3] = _; rw [cont_in k1.1 k1.2, cont_in k2.1 k2.2, cont_out k6])] at h; cases h
                  · rw [rd_bad hl (by show cont (c - 240) (lo4 c) (hi4 c) [b1, b2, b3] = _; rw [cont_in k1.1 k1.2, cont_out k2])] at h; cases h
                · rw [rd_bad hl (cont_out k1)] at h; cases h
            · rw [rd_none (lead_h (by omega))] at h; cases h
end Go.Proofs.YtlhekeokognhmaaGreatDoor.Mt
namespace Go.Proofs.YtlhekeokognhmaaGreatDoor.Mt
/-- All are code points. -/
def AllPt (l : List Int) : Prop := ∀ x ∈ l, isPt x = true
theorem AllPt.tail {x : Int} {l : List Int} (h : AllPt (x :: l)) : AllPt l := fun y hy => h y (by simp [hy])
theorem AllPt.head {x : Int} {l : List Int} (h : AllPt (x :: l)) : isPt x = true := h x (by simp)
/-- The forms of code points, one after the other. -/
def forms (l : List Int) : List Int := l.flatMap form
theorem forms_cons (x : Int) (l : List Int) : forms (x :: l) = form x ++ forms l := by simp [forms]
theorem forms_append (a b : List Int) : forms (a ++ b) = forms a ++ forms b := by simp [forms]
theorem forms_bd {l : List Int} (h : AllPt l) : ∀ c ∈ forms l, 0 ≤ c ∧ c ≤ 255 := by
  intro c hc
  obtain ⟨x, hx, hc⟩ := List.mem_flatMap.1 hc
  exact form_bd (h x hx) c hc
/-- Each code point with the offset behind it. -/
def offs (a : Int) : List Int → List (Int × Int)
  | [] => []
  | x :: t => (a + szP x, x) :: offs (a + szP x) t
theorem offs_snd (a : Int) (l : List Int) : (offs a l).map (·.2) = l := by
  induction l generalizing a with
  | nil => rfl
  | cons x t ih => simp only [offs, List.map_cons, ih]
theorem offs_length (a : Int) (l : List Int) : (offs a l).length = l.length := by
  have := congrArg List.length (offs_snd a l)
  simpa using this
theorem form_pos (x : Int) : 1 ≤ (form x).length ∧ (form x).length ≤ 4 := by have := form_length x; have := szP_bd x; omega
theorem forms_len (l : List Int) : l.length ≤ (forms l).length ∧ (forms l).length ≤ 4 * l.length := by
  induction l with
  | nil => simp [forms]
  | cons x t ih =>
    have := form_pos x
    rw [forms_cons, List.length_append, List.length_cons]
    omega
theorem steps_forms (pre l : List Int) (hl : AllPt l) (f : Nat) (hf : l.length < f) : steps (pre ++ forms l) f pre.length = offs pre.length l ∧ finF (pre ++ forms l) f pre.length = (pre ++ forms l).length := by
  induction l generalizing pre f with
  | nil =>
    obtain ⟨f, rfl⟩ : ∃ g, f = g + 1 := ⟨f - 1, by simp at hf; omega⟩
    have e : (pre ++ forms []).drop pre.length = [] := by simp [forms]
    have h : ¬ (rd ((pre ++ forms []).drop pre.length)).2.2 = 0 := by rw [e]; decide
    exact ⟨steps_stop h, by show (if _ then _ else _) = _; rw [if_neg h]; simp [forms]⟩
  | cons x t ih =>
    obtain ⟨f, rfl⟩ : ∃ g, f = g + 1 := ⟨f - 1, by simp at hf; omega⟩
    have e : (pre ++ forms (x :: t)).drop pre.length = form x ++ forms t := by rw [List.drop_left, forms_cons]
    have hr := rd_form hl.head (forms t)
    rw [← e] at hr
    have h : (rd ((pre ++ forms (x :: t)).drop pre.length)).2.2 = 0 := by rw [hr]
    have hb := szP_bd x
    have hlen : pre.length + (szP x).toNat = (pre ++ form x).length := by rw [List.length_append, form_length']
    have := ih (pre ++ form x) hl.tail f (by simp at hf; omega)
    rw [List.append_assoc, ← forms_cons] at this
    refine ⟨?_, ?_⟩
    · rw [steps_go h, hr]
      dsimp only
      rw [hlen, this.1]
      show _ = (_, x) :: offs ((pre.length : Int) + szP x) t
      rw [show ((pre ++ form x).length : Int) = (pre.length : Int) + szP x from by rw [← hlen]; omega]
    · show (if _ then _ else _) = _
      rw [if_pos h, hr]
      dsimp only
      rw [hlen, this.2]
theorem allSteps_forms {l : List Int} (hl : AllPt l) : allSteps (forms l) = offs 0 l := by
  have := (steps_forms [] l hl ((forms l).length + 1) (by have := forms_len l; omega)).1
  simpa [allSteps] using this
theorem fin_forms {l : List Int} (hl : AllPt l) : fin (forms l) = (forms l).length := by
  have := (steps_forms [] l hl ((forms l).length + 1) (by have := forms_len l; omega)).2
  simpa [fin] using this
theorem chkE_forms {l : List Int} (hl : AllPt l) : chkE (forms l) = 0 := if_pos (fin_forms hl)
theorem finF_stop (l : List Int) (h0 : ∀ c ∈ l, 0 ≤ c ∧ c ≤ 255) (f a : Nat) (ha : a ≤ l.length) (hf : l.length < f + a) : ¬ (rd (l.drop (finF l f a))).2.2 = 0 := by
  induction f generalizing a with
  | zero => omega
  | succ f ih =>
    show ¬ (rd (l.drop (if _ then _ else _))).2.2 = 0
    split
    · next h =>
      have hb := rd_ok_bd (fun c hc => h0 c (List.mem_of_mem_drop hc)) h
      rw [List.length_drop] at hb
      exact ih _ (by omega) (by omega)
    · next h => exact h
theorem chkE_zero {l : List Int} (h0 : ∀ c ∈ l, 0 ≤ c ∧ c ≤ 255) : chkE l = 0 ↔ fin l = l.length := by
  constructor
  · intro h
    unfold chkE at h
    split at h
    · assumption
    · exact absurd h (finF_stop l h0 _ 0 (Nat.zero_le _) (by omega))
  · intro h; exact if_pos h
theorem steps_inv (l : List Int) (h0 : ∀ c ∈ l, 0 ≤ c ∧ c ≤ 255) (f a : Nat) : l.drop a = forms ((steps l f a).map (·.2)) ++ l.drop (finF l f a) ∧ AllPt ((steps l f a).map (·.2)) ∧ steps l f a = offs a ((steps l f a).map (·.2)) := by
  induction f generalizing a with
  | zero => exact ⟨rfl, (fun _ h => by cases h), rfl⟩
  | succ f ih =>
    by_cases h : (rd (l.drop a)).2.2 = 0
    · obtain ⟨h1, h2, h3⟩ := rd_inv (fun c hc => h0 c (List.mem_of_mem_drop hc)) h
      obtain ⟨i1, i2, i3⟩ := ih (a + (rd (l.drop a)).2.1.toNat)
      have hb := szP_bd (rd (l.drop a)).1
      rw [steps_go h]
      refine ⟨?_, ?_, ?_⟩
      · rw [List.map_cons, forms_cons, List.append_assoc]
        show _ = _ ++ (_ ++ l.drop (if _ then _ else _))
        rw [if_pos h, ← i1, ← List.drop_drop]
        exact h2
      · intro y hy
        rcases List.mem_cons.1 hy with rfl | hy
        · exact h1
        · exact i2 y hy
      · rw [List.map_cons]
        show _ = ((a : Int) + szP (rd (l.drop a)).1, _) :: offs ((a : Int) + szP (rd (l.drop a)).1) _
        rw [← h3, show (a : Int) + (rd (l.drop a)).2.1 = ((a + (rd (l.drop a)).2.1.toNat : Nat) : Int) from by omega, ← i3]
    · rw [steps_stop h]
      refine ⟨?_, (fun _ h => by cases h), rfl⟩
      show _ = [] ++ l.drop (if _ then _ else _)
      rw [if_neg h]; rfl
/-- The code points of a string. -/
def pts (l : List Int) : List Int := (allSteps l).map (·.2)
theorem pts_forms {l : List Int} (hl : AllPt l) : pts (forms l) = l := by unfold pts; rw [allSteps_forms hl, offs_snd]
theorem pts_pt {l : List Int} (h0 : ∀ c ∈ l, 0 ≤ c ∧ c ≤ 255) : AllPt (pts l) := (steps_inv l h0 _ 0).2.1
theorem forms_pts {l : List Int} (h0 : ∀ c ∈ l, 0 ≤ c ∧ c ≤ 255) (h : chkE l = 0) : forms (pts l) = l := by
  have h1 := (steps_inv l h0 (l.length + 1) 0).1
  have h2 := (chkE_zero h0).1 h
  unfold fin at h2
  rw [h2, List.drop_length, List.append_nil, List.drop_zero] at h1
  exact h1.symm
theorem allSteps_len (l : List Int) (h0 : ∀ c ∈ l, 0 ≤ c ∧ c ≤ 255) : (allSteps l).length ≤ l.length := by
  have h1 := (steps_inv l h0 (l.length + 1) 0).1
  have := congrArg List.length h1
  rw [List.length_append, List.drop_zero] at this
  have h2 := forms_len ((steps l (l.length + 1) 0).map (·.2))
  rw [List.length_map] at h2
  unfold allSteps
  omega
end Go.Proofs.YtlhekeokognhmaaGreatDoor.Mt
namespace Go.Proofs.YtlhekeokognhmaaGreatDoor
open Go.RowKit Mt

theorem info3 : (Tryz.prog.info? 3).map (fun i => (i.zero, i.size, i.bytes)) = some (some (.int .i64 0), 1, 8) := by kernel_rfl
/-- What Text answers. -/
def textR (l : List Int) : ByteArray × Int := if l.all isPt then (strOfNums (forms l), 0) else (⟨#[]⟩, 2)
def TextOk (r : ByteArray × Int) (w : World) (e : Ending) (w' : World) : Prop := e = .returned (.tuple #[.string r.1, .int .i64 r.2]) ∧ Below w.heap.size w w'
/-- The code point that is made of a number. -/
def ptOf (z : Int) : Int := if 55296 ≤ z % 1114112 ∧ z % 1114112 ≤ 57343 then z % 1114112 - 55296 else z % 1114112
theorem ptOf_pt (z : Int) : isPt (ptOf z) = true := by
  unfold ptOf
  split
  · exact isPt_mk (by omega)
  · exact isPt_mk (by omega)
end Go.Proofs.YtlhekeokognhmaaGreatDoor
namespace Go.Proofs.YtlhekeokognhmaaGreatDoor
open Go.RowKit Go.Shelf Mt
attribute [local go_sem] Oper.semAt_some

/-- All offsets are at most k. -/
def AllLe (k : Int) (l : List (Int × Int)) : Prop := ∀ p ∈ l, p.1 ≤ k
theorem AllLe.snoc {k : Int} {l : List (Int × Int)} {x : Int × Int} (h : AllLe k l) (hx : x.1 ≤ k) : AllLe k (l ++ [x]) := by
  intro p hp
  rcases List.mem_append.1 hp with h' | h'
  · exact h p h'
  · rw [List.mem_singleton.1 h']; exact hx
/-- The last offset is beyond k, no one before it; v is the last one before it. -/
def CutStop (k v : Int) (xs : List (Int × Int)) : Prop := ∃ pre x, xs = pre ++ [x] ∧ AllLe k pre ∧ k < x.1 ∧ v = lastOf 0 pre
theorem cut_all {k : Int} {l : List Int} (h : AllLe k (allSteps l)) : lastOf 0 (allSteps l) = cutEnd l k := by
  unfold cutEnd
  rw [takeWhile_of_all (fun p hp => decide_eq_true (h p hp))]
theorem cut_stop {k v : Int} {l : List Int} {xs : List (Int × Int)} (h : CutStop k v xs) (hp : xs <+: allSteps l) : v = cutEnd l k := by
  obtain ⟨pre, x, rfl, h1, h2, rfl⟩ := h
  unfold cutEnd
  rw [takeWhile_of_prefix hp (fun p hp => decide_eq_true (h1 p hp)) (decide_eq_false (by omega))]

/-- What Cut answers: the string's bytes, the error. -/
def cutR (s : ByteArray) (k : Int) : ByteArray × Int :=
  if k < 0 ∧ (s.size : Int) ≤ 1048576 then (⟨#[]⟩, 2) else if shortE s = 0 then (s.extract 0 (cutEnd (bys s) k).toNat, 0) else (⟨#[]⟩, shortE s)
theorem shortE_big {s : ByteArray} (h : 1048576 < (s.size : Int)) : shortE s = 3 := if_pos (by omega)
end Go.Proofs.YtlhekeokognhmaaGreatDoor
namespace Go.Proofs.YtlhekeokognhmaaGreatDoor
open Go.RowKit Mt
theorem checkAt (s : ByteArray) (a e : Int) (h1 : (fin (bys s) : Int) = a) (h2 : chkE (bys s) = e) (hs : s.size ≤ 140737488351232) (w : World) (hT : Tab w) :
    Calls Tryz.prog 106 #[.string s] w fun e' w' => e' = .returned (.tuple #[.int .i64 a, .int .i64 e]) ∧ Below w.heap.size w w' := by
  have := check_any s hs w hT
  rwa [h1, h2] at this
/-- A number modulo another. -/
def pickOf (x m : Int) : Int := if x.tmod m < 0 then x.tmod m + m else x.tmod m
theorem pickOf_bd (x m : Int) (hm : 1 ≤ m) : 0 ≤ pickOf x m ∧ pickOf x m < m := by
  have h1 := Int.tmod_lt_of_pos x (show 0 < m by omega)
  have h2 := Int.lt_tmod_of_pos x (show 0 < m by omega)
  unfold pickOf
  split <;> omega
end Go.Proofs.YtlhekeokognhmaaGreatDoor
