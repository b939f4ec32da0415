/-
  Plain mathematics on bytes and code points, used by the walks; no program is mentioned.
-/
namespace Go.Proofs.YtlhekeokognhmaaGreatDoor.Mt
/-- The number is a code point. -/
def isPt (x : Int) : Bool := decide (0 ≤ x ∧ x ≤ 1114111 ∧ (x < 55296 ∨ 57343 < x))
/-- How many bytes the form of a code point has. -/
def szP (x : Int) : Int := if x < 128 then 1 else if x < 2048 then 2 else if x < 65536 then 3 else 4
/-- The form of a code point, as numbers. -/
def form (x : Int) : List Int :=
  if x < 128 then [x] else if x < 2048 then [192 + x / 64, 128 + x % 64]
  else if x < 65536 then [224 + x / 4096, 128 + x / 64 % 64, 128 + x % 64]
  else [240 + x / 262144, 128 + x / 4096 % 64, 128 + x / 64 % 64, 128 + x % 64]
theorem form_length (x : Int) : ((form x).length : Int) = szP x := by
  unfold form szP; split; · simp
  split; · simp
  split <;> simp
theorem form_length' (x : Int) : (form x).length = (szP x).toNat := by have := form_length x; omega
theorem szP_bd (x : Int) : 1 ≤ szP x ∧ szP x ≤ 4 := by
  unfold szP
  split
  · omega
  · split
    · omega
    · split <;> omega
theorem szP_1 {x : Int} (h : x < 128) : szP x = 1 := by unfold szP; rw [if_pos h]
theorem szP_2 {x : Int} (h : ¬ x < 128) (h2 : x < 2048) : szP x = 2 := by unfold szP; rw [if_neg h, if_pos h2]
theorem szP_3 {x : Int} (h : ¬ x < 2048) (h2 : x < 65536) : szP x = 3 := by unfold szP; rw [if_neg (by omega), if_neg h, if_pos h2]
theorem szP_4 {x : Int} (h : ¬ x < 65536) : szP x = 4 := by unfold szP; rw [if_neg (by omega), if_neg (by omega), if_neg h]
theorem form_1 {x : Int} (h : x < 128) : form x = [x] := by unfold form; rw [if_pos h]
theorem form_2 {x : Int} (h : ¬ x < 128) (h2 : x < 2048) : form x = [192 + x / 64, 128 + x % 64] := by unfold form; rw [if_neg h, if_pos h2]
theorem form_3 {x : Int} (h : ¬ x < 2048) (h2 : x < 65536) : form x = [224 + x / 4096, 128 + x / 64 % 64, 128 + x % 64] := by unfold form; rw [if_neg (by omega), if_neg h, if_pos h2]
theorem form_4 {x : Int} (h : ¬ x < 65536) : form x = [240 + x / 262144, 128 + x / 4096 % 64, 128 + x / 64 % 64, 128 + x % 64] := by unfold form; rw [if_neg (by omega), if_neg (by omega), if_neg h]
/-- What Pair answers. -/
def okPair (h l : Int) : Bool := decide (55296 ≤ h ∧ h < 56320 ∧ 56320 ≤ l ∧ l ≤ 57343)
theorem isPt_mk {x : Int} (h : 0 ≤ x ∧ x ≤ 1114111 ∧ (x < 55296 ∨ 57343 < x)) : isPt x = true := by unfold isPt; exact decide_eq_true h
theorem isPt_not {x : Int} (h : ¬ (0 ≤ x ∧ x ≤ 1114111 ∧ (x < 55296 ∨ 57343 < x))) : isPt x = false := by unfold isPt; exact decide_eq_false h
theorem isPt_bd {x : Int} (h : isPt x = true) : 0 ≤ x ∧ x ≤ 1114111 ∧ (x < 55296 ∨ 57343 < x) := of_decide_eq_true h
/-- What forms with a first byte have in common: mark, low, high, size. -/
def lead (c : Int) : Option (Int × Int × Int × Int) :=
  if c ≤ 127 then some (0, 0, 0, 1) else if c ≤ 193 then none else if c ≤ 223 then some (192, 128, 191, 2)
  else if c ≤ 224 then some (224, 160, 191, 3) else if c ≤ 236 then some (224, 128, 191, 3) else if c ≤ 237 then some (224, 128, 159, 3) else if c ≤ 239 then some (224, 128, 191, 3)
  else if c ≤ 240 then some (240, 144, 191, 4) else if c ≤ 243 then some (240, 128, 191, 4) else if c ≤ 244 then some (240, 128, 143, 4) else none
theorem lead_bd {c m lo hi n : Int} (h0 : 0 ≤ c) (h : lead c = some (m, lo, hi, n)) : m ≤ c ∧ c - m ≤ 127 ∧ 0 ≤ lo ∧ hi ≤ 191 ∧ 1 ≤ n ∧ n ≤ 4 ∧ (128 ≤ lo ∨ n = 1) ∧ 0 ≤ m ∧ 0 ≤ hi ∧ (n = 1 → m = 0) := by
  unfold lead at h
  repeat (first
    | (split at h; (first | (simp only [Option.some.injEq, Prod.mk.injEq] at h; obtain ⟨rfl, rfl, rfl, rfl⟩ := h; omega) | cases h))
    | (simp only [Option.some.injEq, Prod.mk.injEq] at h; obtain ⟨rfl, rfl, rfl, rfl⟩ := h; omega)
    | cases h)
/-- The bytes behind the first one, read into a number; none if one of them is bad. -/
def cont (x lo hi : Int) : List Int → Option Int
  | [] => some x
  | c :: t => if lo ≤ c ∧ c ≤ hi then cont (x * 64 + (c - 128)) 128 191 t else none
/-- What Read answers at the beginning of some bytes: the code point, its size, the error. -/
def rd : List Int → Int × Int × Int
  | [] => (0, 0, 6)
  | c :: t => match lead c with
    | none => (0, 0, 11)
    | some (m, lo, hi, n) => match cont (c - m) lo hi (t.take (n - 1).toNat) with
      | none => (0, 0, 11)
      | some x => if (t.length : Int) + 1 < n then (0, 0, 10) else (x, n, 0)
theorem rd_none {c : Int} {t : List Int} (h : lead c = none) : rd (c :: t) = (0, 0, 11) := by simp only [rd, h]
theorem rd_bad {c : Int} {t : List Int} {m lo hi n : Int} (h : lead c = some (m, lo, hi, n)) (hc : cont (c - m) lo hi (t.take (n - 1).toNat) = none) : rd (c :: t) = (0, 0, 11) := by simp only [rd, h, hc]
theorem rd_short {c : Int} {t : List Int} {m lo hi n x : Int} (h : lead c = some (m, lo, hi, n)) (hc : cont (c - m) lo hi (t.take (n - 1).toNat) = some x) (hn : (t.length : Int) + 1 < n) : rd (c :: t) = (0, 0, 10) := by simp only [rd, h, hc, if_pos hn]
theorem rd_ok {c : Int} {t : List Int} {m lo hi n x : Int} (h : lead c = some (m, lo, hi, n)) (hc : cont (c - m) lo hi (t.take (n - 1).toNat) = some x) (hn : ¬ (t.length : Int) + 1 < n) : rd (c :: t) = (x, n, 0) := by simp only [rd, h, hc, if_neg hn]
theorem cont_in {x lo hi c : Int} {t : List Int} (h1 : lo ≤ c) (h2 : c ≤ hi) : cont x lo hi (c :: t) = cont (x * 64 + (c - 128)) 128 191 t := if_pos ⟨h1, h2⟩
theorem cont_out {x lo hi c : Int} {t : List Int} (h : ¬ (lo ≤ c ∧ c ≤ hi)) : cont x lo hi (c :: t) = none := if_neg h
/-- What Read answers. -/
def rdAt (l : List Int) (at_ : Int) : Int × Int × Int :=
  if at_ < 0 ∨ (l.length : Int) < at_ then (0, 0, 2) else rd (l.drop at_.toNat)
end Go.Proofs.YtlhekeokognhmaaGreatDoor.Mt
