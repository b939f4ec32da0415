/-
  What Read of package md5 computes.
-/
import Derived.Test.YtlgdbhebcglkoaaDoorMdO
import Derived.Lib.Bytealg
import Derived.Laws.Externs
namespace Go.Proofs.YtlgdbhebcglkoaaDoor
open Go.RowKit Go.Shelf
theorem indexS_any (s : ByteArray) (c : Int) (w : World) :
    Calls Tryd.prog 50 #[.string s, .int .u8 c] w fun e w' => e = .returned (.int .i64 (Lib.indexByte s.data.toList c.toNat.toUInt8)) ∧ w = w' := by
  go_enter Tryd.func50, Tryd.ntmps50
  go_wp2
  rw [run_callFunc_extern Tryd.func51 (by kernel_rfl) (by kernel_rfl) (by kernel_rfl) (e := Extern.BytealgIndexByte.indexByte) (by kernel_rfl), Lib.run_indexByteString]
  simp only [Result.andThen]
  rw [Oper.upon_value]
  go_wp2
  go_ret
  exact ⟨rfl, rfl⟩
theorem index_any (s : ByteArray) (c : Int) (w : World) :
    Calls Tryd.prog 43 #[.string s, .int .u8 c] w fun e w' => e = .returned (.int .i64 (Lib.indexByte s.data.toList c.toNat.toUInt8)) ∧ w = w' := by
  go_enter Tryd.func43, Tryd.ntmps43
  go_wp2_with (go_at_call 50; refine (indexS_any _ _ _).mono ?_; rintro e w' ⟨rfl, rfl⟩)
  go_ret
  exact ⟨rfl, rfl⟩
/-- What a digit stands for; -1 for what is no digit. -/
def hx (c : Int) : Int := Lib.indexByte hexS.data.toList c.toNat.toUInt8
theorem hx_cases (c : Int) (h0 : 0 ≤ c) (h1 : c ≤ 255) : (hx c = -1 ∧ ∀ n : Nat, n < 16 → dg n ≠ c) ∨ ∃ n : Nat, n < 16 ∧ hx c = (n : Int) ∧ dg n = c := by
  obtain ⟨m, rfl⟩ := Int.eq_ofNat_of_zero_le h0
  have h : ∀ m : Fin 256, (hx (m.1 : Int) = -1 ∧ ∀ n : Fin 16, dg n.1 ≠ (m.1 : Int)) ∨ ∃ n : Fin 16, hx (m.1 : Int) = (n.1 : Int) ∧ dg n.1 = (m.1 : Int) := by decide +kernel
  rcases h ⟨m, by omega⟩ with ⟨a, b⟩ | ⟨n, a, b⟩
  · exact .inl ⟨a, fun n hn => b ⟨n, hn⟩⟩
  · exact .inr ⟨n.1, n.2, a, b⟩
theorem hx_dg (n : Nat) (h : n < 16) : hx (dg n) = (n : Int) := by
  have h' : ∀ n : Fin 16, hx (dg n.1) = (n.1 : Int) := by decide +kernel
  exact h' ⟨n, h⟩
theorem or16 (o d : Nat) (ho : o < 16) (hd : d < 16) : bits .or .u8 ((o : Int) * 16) (d : Int) = ((o * 16 + d : Nat) : Int) := by
  have h : ∀ o d : Fin 16, bits .or .u8 ((o.1 : Int) * 16) (d.1 : Int) = ((o.1 * 16 + d.1 : Nat) : Int) := by decide +kernel
  exact h ⟨o, ho⟩ ⟨d, hd⟩
/-- The bytes that digits make, the first k of them. -/
def hv (l : List Int) (i : Nat) : Nat := (hx (l.getD i 0)).toNat
def rK (l : List Int) (k : Nat) : List Int := (List.range 16).map fun j => if k ≤ 2 * j then 0 else if k = 2 * j + 1 then (hv l (2 * j) : Int) else ((hv l (2 * j) * 16 + hv l (2 * j + 1) : Nat) : Int)
theorem rK_length (l : List Int) (k : Nat) : (rK l k).length = 16 := by simp [rK]
theorem rK_get (l : List Int) (k j : Nat) (hj : j < 16) : (rK l k)[j]? = some (if k ≤ 2 * j then 0 else if k = 2 * j + 1 then (hv l (2 * j) : Int) else ((hv l (2 * j) * 16 + hv l (2 * j + 1) : Nat) : Int)) := by
  unfold rK
  rw [List.getElem?_map, List.getElem?_range hj]
  rfl
theorem rK_zero (l : List Int) : rK l 0 = List.replicate 16 0 := by
  unfold rK
  simp
  rfl
/-- All digits up to k. -/
def digs (l : List Int) (k : Nat) : Prop := ∀ i, i < k → hv l i < 16 ∧ dg (hv l i) = l.getD i 0
theorem rK_old (l : List Int) (k : Nat) (hk : k < 32) (hd : digs l k) : ∃ o : Nat, o < 16 ∧ (rK l k).getD (k / 2) 0 = (o : Int) ∧ (k % 2 = 0 → o = 0) ∧ (k % 2 = 1 → o = hv l (k - 1)) := by
  rw [List.getD_eq_getElem?_getD, rK_get _ _ _ (by omega)]
  rcases (by omega : k % 2 = 0 ∨ k % 2 = 1) with h | h
  · exact ⟨0, by omega, by rw [if_pos (by omega)]; rfl, fun _ => rfl, fun h => by omega⟩
  · refine ⟨hv l (k - 1), (hd _ (by omega)).1, ?_, fun h => by omega, fun _ => rfl⟩
    rw [if_neg (by omega), if_pos (by omega), show 2 * (k / 2) = k - 1 from by omega]
    rfl
theorem rK_succ (l : List Int) (k o d : Nat) (hk : k < 32) (h0 : k % 2 = 0 → o = 0) (h1 : k % 2 = 1 → o = hv l (k - 1)) (hd : d = hv l k) :
    (u8s (rK l k)).toArray.setIfInBounds (k / 2) (.int .u8 ((o * 16 + d : Nat) : Int)) = (u8s (rK l (k + 1))).toArray := by
  apply Array.toList_inj.1
  rw [Array.toList_setIfInBounds]
  show (u8s (rK l k)).set (k / 2) _ = u8s (rK l (k + 1))
  apply List.ext_getElem?
  intro j
  unfold u8s
  rw [List.getElem?_set, List.getElem?_map, List.getElem?_map, List.length_map, rK_length]
  by_cases hj : j < 16
  · rw [rK_get _ _ _ hj, rK_get _ _ _ hj]
    by_cases hkj : k / 2 = j
    · rw [if_pos hkj, if_pos (by omega)]
      simp only [Option.map_some]
      rcases (by omega : k % 2 = 0 ∨ k % 2 = 1) with h | h
      · rw [if_neg (by omega), if_pos (by omega), h0 h, hd, show 2 * j = k from by omega]
        simp
      · rw [if_neg (by omega), if_neg (by omega), h1 h, hd, show 2 * j = k - 1 from by omega, show k - 1 + 1 = k from by omega]
    · rw [if_neg hkj]
      simp only [Option.map_some]
      congr 2
      by_cases h : k ≤ 2 * j
      · rw [if_pos h, if_pos (by omega)]
      · rw [if_neg h, if_neg (by omega), if_neg (by omega), if_neg (by omega)]
  · rw [if_neg (by omega), List.getElem?_eq_none (by rw [rK_length]; omega), List.getElem?_eq_none (by rw [rK_length]; omega)]
theorem rK_bts (l : List Int) (hd : digs l 32) : Bts (rK l 32) := by
  intro c hc
  obtain ⟨j, hj, rfl⟩ := List.mem_map.1 hc
  have hj := List.mem_range.1 hj
  have h1 := (hd (2 * j) (by omega)).1
  have h2 := (hd (2 * j + 1) (by omega)).1
  rw [if_neg (by omega), if_neg (by omega)]
  omega
theorem tx_get (D : List Int) (j : Nat) (hj : j < D.length) : (tx D).getD (2 * j) 0 = dg ((D.getD j 0).toNat / 16) ∧ (tx D).getD (2 * j + 1) 0 = dg ((D.getD j 0).toNat % 16) := by
  induction D generalizing j with
  | nil => simp at hj
  | cons c D ih =>
    cases j with
    | zero => exact ⟨rfl, rfl⟩
    | succ j =>
      have := ih j (by simpa using hj)
      exact this
theorem tx_rK (l : List Int) (hl : l.length = 32) (hd : digs l 32) : tx (rK l 32) = l := by
  have hlen : (tx (rK l 32)).length = 32 := by rw [tx_length, rK_length]
  have e : ∀ (a : List Int) i, i < a.length → a[i]? = some (a.getD i 0) := fun a i h => by simp [h]
  apply List.ext_getElem?
  intro i
  by_cases hi : i < 32
  · rw [e _ _ (by omega), e l _ (by omega)]
    congr 1
    obtain ⟨h1, h2⟩ := tx_get (rK l 32) (i / 2) (by rw [rK_length]; omega)
    have hg : (rK l 32).getD (i / 2) 0 = ((hv l (2 * (i / 2)) * 16 + hv l (2 * (i / 2) + 1) : Nat) : Int) := by
      rw [List.getD_eq_getElem?_getD, rK_get _ _ _ (by omega), if_neg (by omega), if_neg (by omega)]
      rfl
    rw [hg, Int.toNat_natCast] at h1 h2
    have b1 := hd (2 * (i / 2)) (by omega)
    have b2 := hd (2 * (i / 2) + 1) (by omega)
    rcases (by omega : 2 * (i / 2) = i ∨ 2 * (i / 2) + 1 = i) with h | h
    · rw [h] at h1 b1
      rw [h1, show (hv l i * 16 + hv l (i + 1)) / 16 = hv l i from by rw [h] at b2; omega]
      exact b1.2
    · rw [h] at h2 b2
      rw [h2, show (hv l (2 * (i / 2)) * 16 + hv l i) % 16 = hv l i from by omega]
      exact b2.2
  · rw [List.getElem?_eq_none (by omega), List.getElem?_eq_none (by omega)]
/-- Every byte of a text is a digit. -/
theorem tx_digs (D : List Int) (hb : Bts D) : digs (tx D) (tx D).length := by
  intro i hi
  rw [tx_length] at hi
  obtain ⟨h1, h2⟩ := tx_get D (i / 2) (by omega)
  have hb := hb.getD (i / 2)
  unfold hv
  rcases (by omega : 2 * (i / 2) = i ∨ 2 * (i / 2) + 1 = i) with h | h
  · rw [h] at h1
    rw [h1, hx_dg _ (by omega), Int.toNat_natCast]
    exact ⟨by omega, rfl⟩
  · rw [h] at h2
    rw [h2, hx_dg _ (by omega), Int.toNat_natCast]
    exact ⟨by omega, rfl⟩
theorem tx_inj (D E : List Int) (hD : Bts D) (hE : Bts E) (hl : D.length = E.length) (h : tx D = tx E) : D = E := by
  have e : ∀ (a : List Int) i, i < a.length → a[i]? = some (a.getD i 0) := fun a i h => by simp [h]
  apply List.ext_getElem?
  intro i
  by_cases hi : i < D.length
  · rw [e _ _ hi, e _ _ (by omega)]
    congr 1
    obtain ⟨h1, h2⟩ := tx_get D i hi
    obtain ⟨h3, h4⟩ := tx_get E i (by omega)
    have b1 := hD.getD i
    have b2 := hE.getD i
    rw [h, h3] at h1
    rw [h, h4] at h2
    have g1 := congrArg hx h1
    have g2 := congrArg hx h2
    rw [hx_dg _ (by omega), hx_dg _ (by omega)] at g1 g2
    omega
  · rw [List.getElem?_eq_none (by omega), List.getElem?_eq_none (by omega)]
/-- No digest has this text. -/
def noTx (s : ByteArray) : Prop := ∀ D, D.length = 16 → Bts D → s ≠ strOfNums (tx D)
theorem noTx_size (s : ByteArray) (h : s.size ≠ 32) : noTx s := by
  intro D hl hb e
  have := congrArg (fun s => (bys s).length) e
  simp only [bys_strOfNums (tx_bts D hb), bys_length, tx_length, hl] at this
  exact h this
theorem noTx_digit (s : ByteArray) (i : Nat) (hi : i < s.size) (h : ∀ n : Nat, n < 16 → dg n ≠ (bys s).getD i 0) : noTx s := by
  intro D hl hb e
  have he := congrArg bys e
  rw [bys_strOfNums (tx_bts D hb)] at he
  have := tx_digs D hb i (by rw [← he, bys_length]; exact hi)
  rw [he] at h
  exact h _ this.1 this.2
end Go.Proofs.YtlgdbhebcglkoaaDoor
