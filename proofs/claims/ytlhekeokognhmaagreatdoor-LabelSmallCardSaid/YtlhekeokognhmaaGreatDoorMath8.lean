/-
  How the reference reads: a code point whose form some bytes are is looked for. Of numbers alone.
-/
import Derived.Test.YtlhekeokognhmaaGreatDoorMgau
namespace Go.Proofs.YtlhekeokognhmaaGreatDoor.Mt
/-- The number that some bytes would be. -/
def rawV : List Int → Int
  | [a] => a
  | [a, b] => 64 * (a - 192) + b - 128
  | [a, b, c] => 4096 * (a - 224) + 64 * (b - 128) + c - 128
  | [a, b, c, d] => 262144 * (a - 240) + 4096 * (b - 128) + 64 * (c - 128) + d - 128
  | _ => -1
/-- The code point whose form some bytes are; -1 if there is none. -/
def valR (l : List Int) : Int := if isPt (rawV l) = true ∧ form (rawV l) = l then rawV l else -1
theorem rawV_form {x : Int} (h : isPt x = true) : rawV (form x) = x := by
  obtain ⟨h0, h1, _⟩ := isPt_bds h
  by_cases a : x < 128
  · rw [form_1 a]; rfl
  · by_cases b : x < 2048
    · rw [form_2 a b]; show 64 * (192 + x / 64 - 192) + (128 + x % 64) - 128 = x; omega
    · by_cases c : x < 65536
      · rw [form_3 b c]; show 4096 * (224 + x / 4096 - 224) + 64 * (128 + x / 64 % 64 - 128) + (128 + x % 64) - 128 = x; omega
      · rw [form_4 c]; show 262144 * (240 + x / 262144 - 240) + 4096 * (128 + x / 4096 % 64 - 128) + 64 * (128 + x / 64 % 64 - 128) + (128 + x % 64) - 128 = x; omega
theorem valR_form {x : Int} (h : isPt x = true) : valR (form x) = x := by
  unfold valR
  rw [rawV_form h, if_pos ⟨h, rfl⟩]
theorem valR_inv {l : List Int} (h : 0 ≤ valR l) : isPt (valR l) = true ∧ form (valR l) = l := by
  unfold valR at h ⊢
  split at h
  · next k => rw [if_pos k]; exact k
  · omega
/-- Some bytes, and behind them the least or the greatest byte that is not first, and least ones up to m. -/
def compl (l : List Int) (m i : Nat) : List Int := l ++ (128 + 63 * (i : Int)) :: List.replicate (m - l.length - 1) 128
def begS (l : List Int) : Prop := ∃ m i : Nat, l.length < m ∧ m ≤ 4 ∧ i < 2 ∧ 0 ≤ valR (compl l m i)
theorem hit {L : List Int} {n : Nat} (hn : n ≤ L.length) (h : 0 ≤ valR (L.take n)) : rd L = (valR (L.take n), (n : Int), 0) := by
  obtain ⟨h1, h2⟩ := valR_inv h
  have e : L = form (valR (L.take n)) ++ L.drop n := by rw [h2, List.take_append_drop]
  have hl := form_length (valR (L.take n))
  rw [h2, List.length_take] at hl
  rw [congrArg rd e, rd_form h1, ← hl, Nat.min_eq_left hn]
theorem miss {L : List Int} (h0 : ∀ c ∈ L, 0 ≤ c ∧ c ≤ 255) (h : ∀ m : Nat, 1 ≤ m → m ≤ 4 → m ≤ L.length → valR (L.take m) < 0) : (rd L).2.2 ≠ 0 := by
  intro he
  obtain ⟨h1, h2, h3⟩ := rd_inv h0 he
  have hb := szP_bd (rd L).1
  have hlen : (form (rd L).1).length = (rd L).2.1.toNat := by rw [form_length', h3]
  have hle : (rd L).2.1.toNat ≤ L.length := by
    have := congrArg List.length h2
    rw [List.length_append, hlen] at this
    omega
  obtain ⟨k, hk⟩ : ∃ k, (rd L).2.1.toNat = k := ⟨_, rfl⟩
  rw [hk] at h2 hlen hle
  have ht := congrArg (List.take k) h2
  rw [List.take_left' hlen] at ht
  have := h k (by omega) (by omega) hle
  rw [ht, valR_form h1] at this
  have := (isPt_bds h1).1
  omega
theorem rd_err {L : List Int} (hne : L ≠ []) (h0 : ∀ c ∈ L, 0 ≤ c ∧ c ≤ 255) (he : (rd L).2.2 ≠ 0) : rd L = (0, 0, 10) ∧ L.length < 4 ∨ rd L = (0, 0, 11) := by
  cases L with
  | nil => exact absurd rfl hne
  | cons c t =>
    have hc := h0 c (by simp)
    cases hl : lead c with
    | none => exact .inr (rd_none hl)
    | some q =>
      obtain ⟨m, lo, hi, n⟩ := q
      have hb := lead_bd hc.1 hl
      cases hk : cont (c - m) lo hi (t.take (n - 1).toNat) with
      | none => exact .inr (rd_bad hl hk)
      | some x =>
        by_cases hn : (t.length : Int) + 1 < n
        · exact .inl ⟨rd_short hl hk hn, by simp only [List.length_cons]; omega⟩
        · rw [rd_ok hl hk hn] at he; exact absurd rfl he
theorem rd_full {L : List Int} {x : Int} (h0 : ∀ c ∈ L, 0 ≤ c ∧ c ≤ 255) (h : rd L = (x, (L.length : Int), 0)) : 0 ≤ valR L := by
  have h' : (rd L).2.2 = 0 := by rw [h]
  obtain ⟨h1, h2, _⟩ := rd_inv h0 h'
  rw [h] at h1 h2
  dsimp only at h1 h2
  rw [Int.toNat_natCast, List.drop_length, List.append_nil] at h2
  rw [h2, valR_form h1]
  exact (isPt_bds h1).1
theorem beg_of {L : List Int} {m i : Nat} (h1 : L.length < m) (h2 : m ≤ 4) (h3 : i < 2) {w : List Int} (hw : compl L m i = w) (hb : ∀ c ∈ w, 0 ≤ c ∧ c ≤ 255) {x : Int} (h : rd w = (x, (w.length : Int), 0)) : begS L :=
  ⟨m, i, h1, h2, h3, by rw [hw]; exact rd_full hb h⟩
theorem bd_cons {c : Int} {l : List Int} (h : 0 ≤ c ∧ c ≤ 255) (k : ∀ d ∈ l, 0 ≤ d ∧ d ≤ 255) : ∀ d ∈ c :: l, 0 ≤ d ∧ d ≤ 255 := by
  intro d hd
  rcases List.mem_cons.1 hd with rfl | hd
  · exact h
  · exact k d hd
theorem bd_nil : ∀ d ∈ ([] : List Int), 0 ≤ d ∧ d ≤ 255 := fun _ h => by cases h
theorem no_zero {x n : Int} {p : Prop} (h : (x, n, (0 : Int)) = ((0 : Int), (0 : Int), (10 : Int))) : p := by
  have := congrArg (fun p : Int × Int × Int => p.2.2) h
  simp at this
theorem beg_yes {L : List Int} (h0 : ∀ c ∈ L, 0 ≤ c ∧ c ≤ 255) (h : rd L = (0, 0, 10)) : begS L := by
  cases L with
  | nil => cases h
  | cons c t =>
    have hc := h0 c (by simp)
    by_cases a1 : c ≤ 127
    · have e : rd (c :: t) = (c, 1, 0) := rd_ok (lead_1 a1) (by show cont (c - 0) 0 0 (t.take 0) = _; rw [List.take_zero, Int.sub_zero]; rfl) (by omega)
      rw [e] at h; exact no_zero h
    · by_cases a2 : c ≤ 193
      · rw [rd_none (lead_c (by omega) a2)] at h; cases h
      · by_cases a3 : c ≤ 223
        · have hl := lead_2 (by omega) a3
          cases t with
          | nil => exact beg_of (L := [c]) (m := 2) (i := 0) (by simp) (by decide) (by decide) (w := [c, 128]) rfl (bd_cons hc (bd_cons (by omega) bd_nil)) (rd_ok hl (cont_in (by omega) (by omega)) (by simp))
          | cons b1 t =>
            by_cases k1 : 128 ≤ b1 ∧ b1 ≤ 191
            · rw [show rd (c :: b1 :: t) = ((c - 192) * 64 + (b1 - 128), 2, 0) from rd_ok hl (cont_in k1.1 k1.2) (by simp only [List.length_cons]; omega)] at h; exact no_zero h
            · rw [rd_bad hl (cont_out k1)] at h; cases h
        · by_cases a4 : c ≤ 239
          · have hl := lead_3 (by omega) a4
            match t with
            | [] =>
              by_cases e : c = 224
              · exact beg_of (L := [c]) (m := 3) (i := 1) (by simp) (by decide) (by decide) (w := [c, 191, 128]) rfl (bd_cons hc (bd_cons (by omega) (bd_cons (by omega) bd_nil))) (rd_ok hl ((cont_in (by unfold lo3; split <;> omega) (by unfold hi3; split <;> omega)).trans (cont_in (by omega) (by omega))) (by simp))
              · exact beg_of (L := [c]) (m := 3) (i := 0) (by simp) (by decide) (by decide) (w := [c, 128, 128]) rfl (bd_cons hc (bd_cons (by omega) (bd_cons (by omega) bd_nil))) (rd_ok hl ((cont_in (by unfold lo3; split <;> omega) (by unfold hi3; split <;> omega)).trans (cont_in (by omega) (by omega))) (by simp))
            | [b1] =>
              by_cases k1 : lo3 c ≤ b1 ∧ b1 ≤ hi3 c
              · exact beg_of (L := [c, b1]) (m := 3) (i := 0) (by simp) (by decide) (by decide) (w := [c, b1, 128]) rfl (bd_cons hc (bd_cons (h0 b1 (by simp)) (bd_cons (by omega) bd_nil))) (rd_ok hl ((cont_in k1.1 k1.2).trans (cont_in (by omega) (by omega))) (by simp))
              · rw [rd_bad hl (cont_out k1)] at h; cases h
            | b1 :: b2 :: t =>
              by_cases k1 : lo3 c ≤ b1 ∧ b1 ≤ hi3 c
              · by_cases k2 : 128 ≤ b2 ∧ b2 ≤ 191
                · rw [rd_ok hl ((cont_in k1.1 k1.2).trans (cont_in k2.1 k2.2)) (by simp only [List.length_cons]; omega)] at h; exact no_zero h
                · rw [rd_bad hl ((cont_in k1.1 k1.2).trans (cont_out k2))] at h; cases h
              · rw [rd_bad hl (cont_out k1)] at h; cases h
          · by_cases a5 : c ≤ 244
            · have hl := lead_4 (by omega) a5
              match t with
              | [] =>
                by_cases e : c = 240
                · exact beg_of (L := [c]) (m := 4) (i := 1) (by simp) (by decide) (by decide) (w := [c, 191, 128, 128]) rfl (bd_cons hc (bd_cons (by omega) (bd_cons (by omega) (bd_cons (by omega) bd_nil)))) (rd_ok hl ((cont_in (by unfold lo4; split <;> omega) (by unfold hi4; split <;> omega)).trans ((cont_in (by omega) (by omega)).trans (cont_in (by omega) (by omega)))) (by simp))
                · exact beg_of (L := [c]) (m := 4) (i := 0) (by simp) (by decide) (by decide) (w := [c, 128, 128, 128]) rfl (bd_cons hc (bd_cons (by omega) (bd_cons (by omega) (bd_cons (by omega) bd_nil)))) (rd_ok hl ((cont_in (by unfold lo4; split <;> omega) (by unfold hi4; split <;> omega)).trans ((cont_in (by omega) (by omega)).trans (cont_in (by omega) (by omega)))) (by simp))
              | [b1] =>
                by_cases k1 : lo4 c ≤ b1 ∧ b1 ≤ hi4 c
                · exact beg_of (L := [c, b1]) (m := 4) (i := 0) (by simp) (by decide) (by decide) (w := [c, b1, 128, 128]) rfl (bd_cons hc (bd_cons (h0 b1 (by simp)) (bd_cons (by omega) (bd_cons (by omega) bd_nil)))) (rd_ok hl ((cont_in k1.1 k1.2).trans ((cont_in (by omega) (by omega)).trans (cont_in (by omega) (by omega)))) (by simp))
                · rw [rd_bad hl (cont_out k1)] at h; cases h
              | [b1, b2] =>
                by_cases k1 : lo4 c ≤ b1 ∧ b1 ≤ hi4 c
                · by_cases k2 : 128 ≤ b2 ∧ b2 ≤ 191
                  · exact beg_of (L := [c, b1, b2]) (m := 4) (i := 0) (by simp) (by decide) (by decide) (w := [c, b1, b2, 128]) rfl (bd_cons hc (bd_cons (h0 b1 (by simp)) (bd_cons (h0 b2 (by simp)) (bd_cons (by omega) bd_nil)))) (rd_ok hl ((cont_in k1.1 k1.2).trans ((cont_in k2.1 k2.2).trans (cont_in (by omega) (by omega)))) (by simp))
                  · rw [rd_bad hl ((cont_in k1.1 k1.2).trans (cont_out k2))] at h; cases h
                · rw [rd_bad hl (cont_out k1)] at h; cases h
              | b1 :: b2 :: b3 :: t =>
                rcases rd_err (L := c :: b1 :: b2 :: b3 :: t) (by simp) h0 (by rw [h]; decide) with ⟨_, k⟩ | k
                · simp only [List.length_cons] at k; omega
                · rw [k] at h; cases h
            · rw [rd_none (lead_h (by omega))] at h; cases h
theorem beg_no {L : List Int} (hne : L ≠ []) (h : begS L) : rd L = (0, 0, 10) := by
  obtain ⟨m, i, h1, h2, h3, h4⟩ := h
  obtain ⟨k1, k2⟩ := valR_inv h4
  have hpos : 1 ≤ L.length := by
    rcases Nat.eq_zero_or_pos L.length with h | h
    · exact absurd (List.eq_nil_of_length_eq_zero h) hne
    · exact h
  have ht : (form (valR (compl L m i))).take L.length = L := by rw [k2]; unfold compl; rw [List.take_left' rfl]
  have hs := form_length (valR (compl L m i))
  rw [k2] at hs
  have hc : L.length < (compl L m i).length := by unfold compl; rw [List.length_append, List.length_cons]; omega
  have := (rd_cut k1 L.length hpos (by rw [← hs]; omega)).1
  rwa [ht] at this
end Go.Proofs.YtlhekeokognhmaaGreatDoor.Mt
