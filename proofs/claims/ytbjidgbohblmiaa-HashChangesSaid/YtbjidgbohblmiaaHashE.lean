/-
  What Text of package hash computes.
-/
import Derived.Test.YtbjidgbohblmiaaHashD
import Derived.Test.YtbjidgbohblmiaaOwn
namespace Go.Proofs.Ytbjidgbohblmiaa
open Go.RowKit
/-- A hexadecimal digit; the text of a number of 64 bits, the highest digit first. -/
def dg (n : Nat) : Int := if n < 10 then 48 + (n : Int) else 87 + (n : Int)
def nib (h k : Nat) : Nat := h / 16 ^ (15 - k) % 16
def txt (h : Nat) : List Int := (List.range 16).map fun k => dg (nib h k)
theorem nib_lt (h k : Nat) : nib h k < 16 := Nat.mod_lt _ (by omega)
theorem txt_len (h : Nat) : (txt h).length = 16 := by simp [txt]
theorem txt_get (h k : Nat) (hk : k < 16) : (txt h)[k]? = some (dg (nib h k)) := by simp [txt, hk]
theorem nib_top (h k : Nat) (hk : k < 16) : (h * 16 ^ k % 18446744073709551616) / 1152921504606846976 = nib h k := by
  have e1 : 18446744073709551616 = 16 ^ (15 - k) * 16 * 16 ^ k := by
    rw [← Nat.pow_succ, ← Nat.pow_add, show 15 - k + 1 + k = 16 from by omega]
  have e2 : 1152921504606846976 = 16 ^ (15 - k) * 16 ^ k := by
    rw [← Nat.pow_add, show 15 - k + k = 15 from by omega]
  have hp : 0 < 16 ^ k := Nat.pow_pos (by omega)
  rw [e1, e2, Nat.mul_mod_mul_right, Nat.mul_div_mul_right _ _ hp, Nat.mod_mul_right_div_self]
  rfl
theorem nib_next (h k : Nat) : (h * 16 ^ k % 18446744073709551616) * 16 % 18446744073709551616 = h * 16 ^ (k + 1) % 18446744073709551616 := by
  rw [Nat.mod_mul_mod, Nat.mul_assoc, ← Nat.pow_succ]
def hexS : ByteArray := ⟨#[48, 49, 50, 51, 52, 53, 54, 55, 56, 57, 97, 98, 99, 100, 101, 102]⟩
theorem hex_get (n : Nat) (hn : n < 16) : (bys hexS)[n]? = some (dg n) := by
  have : ∀ n : Fin 16, (bys hexS)[n.1]? = some (dg n.1) := by decide
  exact this ⟨n, hn⟩
theorem idx_u (n : Nat) (hn : n < 16) (W : World) : (Instr.index 9 (.string hexS) (.int .u64 (n : Int))).run Try.prog W = .ok (.int .u8 (dg n)) W := by
  have hs : hexS.size = 16 := by decide
  have hj : n < hexS.size := by omega
  have hc : (hexS[n].toNat : Int) = dg n := by
    have := bys_get hexS n hj
    rw [hex_get n hn] at this
    exact (Option.some.inj this).symm
  rw [run_index_string W 9 hexS .u64 (n : Int) Try.underlying9, dif_pos ⟨by omega, by omega⟩]
  simp only [Int.toNat_natCast, hc]

set_option maxHeartbeats 1000000 in
theorem text_any (h : BitVec 64) (w : World) : Calls Try.prog 24 #[U h] w fun e w' => e = .returned (.string (strOfNums (txt h.toNat))) ∧ Below w.heap.size w w' := by
  have hidx := fun n hn W => idx_u n hn W
  rw [show hexS = ⟨#[48, 49, 50, 51, 52, 53, 54, 55, 56, 57, 97, 98, 99, 100, 101, 102]⟩ from rfl] at hidx
  go_enter Try.func24, Try.ntmps24
  go_wp2_with fail
  go_loopw [0, 5] (fun v i wr => ∃ (k : Nat) (x : Nat), k ≤ 16 ∧ i = .int .i64 k ∧ v = .int .u64 x ∧ Hid (x = h.toNat * 16 ^ k % 18446744073709551616) ∧ Below w.heap.size w wr ∧
    (∀ j, j < k → wr.cell? ⟨w.heap.size, j, none⟩ = some (.int .u8 (dg (nib h.toNat j)))) ∧ (∀ j, j < 16 → (wr.cell? ⟨w.heap.size, j, none⟩).isSome = true ∧ wr.frozen? ⟨w.heap.size, j, none⟩ = false)) (fun _ i _ => 16 - (intOf i).toNat)
  case atStart =>
    refine ⟨0, h.toNat, by omega, rfl, rfl, ?_, (Below.refl _ _).alloc (Nat.le_refl _) _, fun j hj => absurd hj (by omega), fun j hj => ?_⟩
    · show _ = _
      rw [Nat.pow_zero, Nat.mul_one, Nat.mod_eq_of_lt h.isLt]
    · rcases (by omega : j = 0 ∨ j = 1 ∨ j = 2 ∨ j = 3 ∨ j = 4 ∨ j = 5 ∨ j = 6 ∨ j = 7 ∨ j = 8 ∨ j = 9 ∨ j = 10 ∨ j = 11 ∨ j = 12 ∨ j = 13 ∨ j = 14 ∨ j = 15) with rfl | rfl | rfl | rfl | rfl | rfl | rfl | rfl | rfl | rfl | rfl | rfl | rfl | rfl | rfl | rfl <;> constructor <;> simp
  case round =>
    obtain ⟨k, x, hk, rfl, rfl, hx, hb, hd, hf⟩ := hrel
    by_cases hk16 : k < 16
    · obtain ⟨q, hq⟩ : ∃ q, nib h.toNat k = q := ⟨_, rfl⟩
      have hq16 : q < 16 := by rw [← hq]; exact nib_lt _ _
      have hqx : (x : Int) / 1152921504606846976 = (q : Int) := by
        have := nib_top h.toNat k hk16
        rw [← hx.out, hq] at this
        omega
      obtain ⟨y, hy⟩ : ∃ y : Nat, Hid (y = h.toNat * 16 ^ (k + 1) % 18446744073709551616) ∧ IntKind.u64.wrap ((x : Int) * 16) = (y : Int) := by
        refine ⟨x * 16 % 18446744073709551616, ?_, ?_⟩
        · show _ = _
          rw [hx.out, nib_next]
        · rw [IntKind.wrap_u64]; omega
      obtain ⟨hy, hw⟩ := hy
      have hi := hidx q hq16
      obtain ⟨hcs, hfz⟩ := hf k hk16
      obtain ⟨u, hcu⟩ := Option.isSome_iff_exists.1 hcs
      have Hd := Lib.hid hd
      have Hf := Lib.hid hf
      have Hq := Lib.hid hq
      obtain ⟨D, hD⟩ : ∃ D, dg q = D := ⟨_, rfl⟩
      have HD := Lib.hid hD
      rw [hD] at hi
      clear hidx hcs hd hf hq hq16 hD
      go_wp2_with fail
      go_roundw
      case rel =>
        refine ⟨k + 1, y, by omega, by go_num, rfl, hy, hb.setCell (p := ⟨w.heap.size, k, none⟩) (Nat.le_refl _) _, fun j hj => ?_, fun j hj => ?_⟩
        · by_cases e : j = k
          · subst e
            rw [World.cell?_setCell_same' _ _ _ (by rw [hcu]; rfl), Hq.out, HD.out]
          · rw [World.cell?_setCell_other _ _ _ _ (by intro e2; injection e2 with _ e2; exact e e2.symm)]
            exact Hd.out j (by omega)
        · rw [World.frozen?_setCell]
          refine ⟨?_, (Hf.out j hj).2⟩
          by_cases e : j = k
          · subst e
            rw [World.cell?_setCell_same' _ _ _ (by rw [hcu]; rfl)]
            rfl
          · rw [World.cell?_setCell_other _ _ _ _ (by intro e2; injection e2 with _ e2; exact e e2.symm)]
            exact (Hf.out j hj).1
      case measure => simp [intOf]; omega
    · obtain rfl : k = 16 := by omega
      have hlt : w.heap.size < wr.heap.size := by
        have := hd 0 (by omega)
        unfold World.cell? at this
        rcases Nat.lt_or_ge w.heap.size wr.heap.size with h1 | h1
        · exact h1
        · rw [Array.getElem?_eq_none h1] at this; cases this
      have hcv := conv_rd wr wr.heap.size w.heap.size 16 16 (txt h.toNat) ⟨by rw [u8s_length, txt_len], fun _ => ⟨_, rfl, hlt, fun j u hu => by
        have hj : j < 16 := by
          have := (List.getElem?_eq_some_iff.1 hu).1
          rwa [u8s_length, txt_len] at this
        rw [add0, hd j hj, ← hu]
        simp [u8s, txt_get _ _ hj]⟩⟩
      clear hd hf hx hidx
      go_wp2_with fail
      go_ret
      exact ⟨rfl, hb⟩
end Go.Proofs.Ytbjidgbohblmiaa
