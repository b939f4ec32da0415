/-
  Mathematics of hashes: a step can be undone; bytes 0; texts and what is read of them.
-/
import Derived.Test.YtbjidgbohblmiaaHashF
namespace Go.Proofs.Ytbjidgbohblmiaa
theorem snocInd {α : Type} {p : List α → Prop} (nil : p []) (snoc : ∀ l a, p l → p (l ++ [a])) (l : List α) : p l := by
  rw [← List.reverse_reverse l]
  generalize l.reverse = t
  induction t with
  | nil => exact nil
  | cons a t ih => rw [List.reverse_cons]; exact snoc _ _ ih

theorem bk_st (h : BitVec 64) (b : UInt8) : bk8 (st8 h b) b = h := by
  unfold bk8 st8 st
  rw [BitVec.mul_assoc, pr_pi, BitVec.mul_one, BitVec.xor_assoc, BitVec.xor_self, BitVec.xor_zero]
theorem pi_pr : Pi * Pr = 1#64 := by decide
theorem st_bk (h : BitVec 64) (b : UInt8) : st8 (bk8 h b) b = h := by
  unfold bk8 st8 st
  rw [BitVec.xor_assoc, BitVec.xor_self, BitVec.xor_zero, BitVec.mul_assoc, pi_pr, BitVec.mul_one]
theorem backL_cons (h : BitVec 64) (b : UInt8) (l : List UInt8) : backL h (b :: l) = bk8 (backL h l) b := by simp [backL]
theorem back_add (h : BitVec 64) (l : List UInt8) : backL (addL h l) l = h := by
  induction l generalizing h with
  | nil => rfl
  | cons b l ih =>
    rw [backL_cons]
    show bk8 (backL (addL (st8 h b) l) l) b = h
    rw [ih, bk_st]
theorem add_back (h : BitVec 64) (l : List UInt8) : addL (backL h l) l = h := by
  induction l generalizing h with
  | nil => rfl
  | cons b l ih =>
    rw [backL_cons]
    show addL (st8 (bk8 (backL h l) b) b) l = h
    rw [st_bk, ih]
theorem addL_inj {g h : BitVec 64} {l : List UInt8} (e : addL g l = addL h l) : g = h := by
  rw [← back_add g l, e, back_add]
theorem st8_inj {h : BitVec 64} {b c : UInt8} (e : st8 h b = st8 h c) : b = c := by
  have e1 : bk8 (st8 h b) b = bk8 (st8 h c) b := by rw [e]
  rw [bk_st] at e1
  unfold bk8 st8 st at e1
  rw [BitVec.mul_assoc, pr_pi, BitVec.mul_one, BitVec.xor_assoc] at e1
  have e2 : h ^^^ h = h ^^^ (h ^^^ (B8 c.toNat ^^^ B8 b.toNat)) := by rw [← e1]
  rw [BitVec.xor_self, ← BitVec.xor_assoc, BitVec.xor_self, BitVec.zero_xor] at e2
  have e3 : B8 c.toNat = B8 b.toNat := by
    have : B8 c.toNat ^^^ (B8 c.toNat ^^^ B8 b.toNat) = B8 c.toNat ^^^ 0#64 := by rw [← e2]
    rw [← BitVec.xor_assoc, BitVec.xor_self, BitVec.zero_xor, BitVec.xor_zero] at this
    exact this.symm
  have e4 := congrArg (fun x : BitVec 64 => (x.toNat : Int)) e3
  rw [b8_toNat (by omega) (u8_le c), b8_toNat (by omega) (u8_le b)] at e4
  exact UInt8.toNat_inj.1 (by omega)
/-- What leads on from a to what a byte makes of a is that byte. -/
theorem lst_st (a : BitVec 64) (b : UInt8) : lst a (st8 a b) = B8 b.toNat := by
  unfold lst st8 st
  rw [BitVec.mul_assoc, pr_pi, BitVec.mul_one, BitVec.xor_comm, ← BitVec.xor_assoc, BitVec.xor_self, BitVec.zero_xor]
theorem st_lst (a c : BitVec 64) : st a (lst a c) = c := by
  unfold lst st
  rw [BitVec.xor_comm a, BitVec.xor_assoc, BitVec.xor_self, BitVec.xor_zero, BitVec.mul_assoc, pi_pr, BitVec.mul_one]
theorem addL_zeros (h : BitVec 64) (k : Nat) : addL h (List.replicate k 0) = h * pw k := by
  induction k with
  | zero => simp [addL, pw]
  | succ k ih =>
    rw [List.replicate_succ', addL_snoc, ih, pw]
    unfold st8 st
    rw [show B8 ((0 : UInt8).toNat : Int) = 0#64 from by decide, BitVec.xor_zero, BitVec.mul_assoc]

/-- The number of which digits are the digits. -/
def rdN (ds : List Nat) : Nat := ds.foldl (fun a d => a * 16 + d) 0
theorem rdN_snoc (ds : List Nat) (d : Nat) : rdN (ds ++ [d]) = rdN ds * 16 + d := by simp [rdN]
theorem rdN_nibs (h m : Nat) (hm : m ≤ 16) (hh : h < 18446744073709551616) : rdN ((List.range m).map (nib h)) = h / 16 ^ (16 - m) := by
  induction m with
  | zero =>
    show 0 = _
    rw [Nat.div_eq_of_lt (by rw [show (16 : Nat) ^ (16 - 0) = 18446744073709551616 from by decide]; exact hh)]
  | succ m ih =>
    rw [List.range_succ, List.map_append, List.map_cons, List.map_nil, rdN_snoc, ih (by omega)]
    unfold nib
    have e : (16 : Nat) ^ (16 - m) = 16 ^ (15 - m) * 16 := by rw [← Nat.pow_succ]; congr 1; omega
    rw [e, ← Nat.div_div_eq_div_mul, show 16 - (m + 1) = 15 - m from by omega]
    omega
theorem rdN_lt (ds : List Nat) (h : ∀ d ∈ ds, d < 16) : rdN ds < 16 ^ ds.length := by
  induction ds using snocInd with
  | nil => simp [rdN]
  | snoc ds d ih =>
    have h1 := ih (fun x hx => h x (by simp [hx]))
    have h2 := h d (by simp)
    rw [rdN_snoc, List.length_append, List.length_singleton, Nat.pow_succ]
    omega
theorem rdN_digit (ds : List Nat) (h : ∀ d ∈ ds, d < 16) (k d : Nat) (hk : ds[k]? = some d) : rdN ds / 16 ^ (ds.length - 1 - k) % 16 = d := by
  induction ds using snocInd with
  | nil => cases hk
  | snoc ds c ih =>
    have hc := h c (by simp)
    have h1 := fun x hx => h x (List.mem_append_left [c] hx)
    rw [rdN_snoc, List.length_append, List.length_singleton]
    rcases Nat.lt_or_ge k ds.length with hlt | hge
    · rw [List.getElem?_append_left hlt] at hk
      have e := ih h1 hk
      rw [show ds.length + 1 - 1 - k = ds.length - 1 - k + 1 from by omega, Nat.pow_succ, Nat.mul_comm (16 ^ _) 16, ← Nat.div_div_eq_div_mul, show (rdN ds * 16 + c) / 16 = rdN ds from by omega]
      exact e
    · rw [List.getElem?_append_right hge] at hk
      have e0 : k - ds.length = 0 := by
        have := (List.getElem?_eq_some_iff.1 hk).1
        simp at this
        omega
      rw [e0] at hk
      obtain rfl : c = d := by simpa using hk
      rw [show ds.length + 1 - 1 - k = 0 from by omega, Nat.pow_zero, Nat.div_one]
      omega
theorem hexv_some {b : UInt8} {v : Nat} (hv : v < 16) (h : (b.toNat : Int) = dg v) : hexv b = some v := by
  unfold dg at h
  unfold hexv
  split at h
  · rw [if_pos ⟨by omega, by omega⟩]; congr 1; omega
  · rw [if_neg (by omega), if_pos ⟨by omega, by omega⟩]; congr 1; omega
theorem hexv_dg {b : UInt8} {v : Nat} (h : hexv b = some v) : v < 16 ∧ (b.toNat : Int) = dg v := by
  unfold hexv at h
  unfold dg
  split at h
  · have := Option.some.inj h; rw [if_pos (by omega)]; omega
  · split at h
    · have := Option.some.inj h; rw [if_neg (by omega)]; omega
    · cases h
theorem rdH_N (l : List UInt8) : rdH l = BitVec.ofNat 64 (rdN (l.map fun b => (hexv b).getD 0)) := by
  induction l using snocInd with
  | nil => rfl
  | snoc l b ih =>
    rw [rdH_snoc, List.map_append, List.map_cons, List.map_nil, rdN_snoc, ih]
    unfold hx
    rw [BitVec.ofNat_add, BitVec.ofNat_mul]
theorem dg_bd (n : Nat) (hn : n < 16) : 0 ≤ dg n ∧ dg n ≤ 255 := by unfold dg; split <;> omega
theorem txt_bd (h : Nat) : ∀ c ∈ txt h, 0 ≤ c ∧ c ≤ 255 := by
  intro c hc
  obtain ⟨k, _, rfl⟩ := List.mem_map.1 hc
  exact dg_bd _ (nib_lt h k)
def txtS (h : BitVec 64) : ByteArray := strOfNums (txt h.toNat)
theorem txtS_bys (h : BitVec 64) : bys (txtS h) = txt h.toNat := bys_strOfNums (txt_bd _)
theorem txtS_size (h : BitVec 64) : (txtS h).size = 16 := by rw [← bys_length, txtS_bys, txt_len]
theorem txtS_get (h : BitVec 64) (k : Nat) (hk : k < 16) : ∃ b, (txtS h).data.toList[k]? = some b ∧ hexv b = some (nib h.toNat k) := by
  have h1 : (bys (txtS h))[k]? = some (dg (nib h.toNat k)) := by rw [txtS_bys, txt_get _ _ hk]
  unfold bys at h1
  rw [List.getElem?_map] at h1
  obtain ⟨b, hb, e⟩ := Option.map_eq_some_iff.1 h1
  exact ⟨b, hb, hexv_some (nib_lt _ _) e⟩
theorem txtS_len (h : BitVec 64) : (txtS h).data.toList.length = 16 := by have := txtS_size h; simpa using this
theorem txtS_hex (h : BitVec 64) : allHex (txtS h).data.toList := by
  intro b hb
  obtain ⟨k, hk, e⟩ := List.mem_iff_getElem.1 hb
  obtain ⟨c, hc, hv⟩ := txtS_get h k (by rw [txtS_len] at hk; exact hk)
  rw [List.getElem?_eq_getElem hk, e] at hc
  rw [Option.some.inj hc, hv]
  rfl
/-- What is written is read back. -/
theorem rd_txt (h : BitVec 64) : rdH (txtS h).data.toList = h := by
  rw [rdH_N]
  have e : ((txtS h).data.toList.map fun b => (hexv b).getD 0) = (List.range 16).map (nib h.toNat) := by
    apply List.ext_getElem?
    intro k
    rcases Nat.lt_or_ge k 16 with hk | hk
    · obtain ⟨b, hb, hv⟩ := txtS_get h k hk
      rw [List.getElem?_map, hb, Option.map_some, hv, List.getElem?_map, List.getElem?_range hk]
      rfl
    · rw [List.getElem?_eq_none (by rw [List.length_map, txtS_len]; exact hk), List.getElem?_eq_none (by simpa using hk)]
  rw [e, rdN_nibs _ _ (Nat.le_refl _) h.isLt, Nat.sub_self, Nat.pow_zero, Nat.div_one, BitVec.ofNat_toNat, BitVec.setWidth_eq]
theorem txtS_inj {a b : BitVec 64} (h : txtS a = txtS b) : a = b := by rw [← rd_txt a, h, rd_txt]
/-- What is read is written so. -/
theorem txt_rd (s : ByteArray) (hs : s.size = 16) (ha : allHex s.data.toList) : txtS (rdH s.data.toList) = s := by
  have hl : s.data.toList.length = 16 := by simpa using hs
  have h16 : ∀ d ∈ s.data.toList.map (fun b => (hexv b).getD 0), d < 16 := by
    intro d hd
    obtain ⟨b, hb, rfl⟩ := List.mem_map.1 hd
    obtain ⟨v, hv⟩ := Option.isSome_iff_exists.1 (ha b hb)
    rw [hv]
    exact (hexv_dg hv).1
  have hlt := rdN_lt _ h16
  rw [List.length_map, hl] at hlt
  have hn : (rdH s.data.toList).toNat = rdN (s.data.toList.map fun b => (hexv b).getD 0) := by
    rw [rdH_N, BitVec.toNat_ofNat, Nat.mod_eq_of_lt hlt]
  apply bys_eq
  rw [txtS_bys, hn]
  apply List.ext_getElem?
  intro k
  rcases Nat.lt_or_ge k 16 with hk | hk
  · rw [txt_get _ _ hk]
    have hb : s.data.toList[k]? = some s.data.toList[k] := List.getElem?_eq_getElem (by omega)
    obtain ⟨v, hv⟩ := Option.isSome_iff_exists.1 (ha _ (List.getElem_mem (by omega : k < s.data.toList.length)))
    have hd := rdN_digit _ h16 k v (by rw [List.getElem?_map, hb, Option.map_some, hv]; rfl)
    rw [List.length_map, hl] at hd
    unfold bys
    rw [List.getElem?_map, hb, Option.map_some, (hexv_dg hv).2]
    unfold nib
    rw [hd]
  · rw [List.getElem?_eq_none (by rw [txt_len]; exact hk), List.getElem?_eq_none (by rw [bys_length]; omega)]
end Go.Proofs.Ytbjidgbohblmiaa
