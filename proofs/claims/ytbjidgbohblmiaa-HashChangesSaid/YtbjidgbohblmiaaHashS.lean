/-
  What the reference of hashes computes: half and Back.
-/
import Derived.Test.YtbjidgbohblmiaaHashR
import Derived.BigQuiet
import Derived.Deep.QuietTactic
namespace Go.Proofs.Ytbjidgbohblmiaa
open Go.RowKit

theorem below_drewN' {B : Nat} {w w1 : World} (h : Below B w w1) (q : Nat) : Below B w (w1.drewN q) := h.trans ⟨rfl, rfl, rfl, Nat.le_refl _, fun _ _ => rfl⟩
/-- One bit more is right. -/
theorem bit_same (A H p : Nat) (hp : 0 < p) (h : A % p = H % p) (hb : A / p % 2 = H / p % 2) : A % (p * 2) = H % (p * 2) := by
  rw [Nat.mod_mul, Nat.mod_mul, h, hb]
theorem bit_flip (A H p c : Nat) (hp : 0 < p) (h : A % p = H % p) (hb : A / p % 2 ≠ H / p % 2) : (A + p * (2 * c + 1)) % (p * 2) = H % (p * 2) := by
  have e : A + p * (2 * c + 1) = A + p + p * 2 * c := by rw [Nat.mul_add, Nat.mul_one, ← Nat.mul_assoc]; omega
  rw [e, Nat.add_mul_mod_self_left, Nat.mod_mul, Nat.mod_mul, Nat.add_mod_right, h, Nat.add_div_right _ hp]
  have : (A / p + 1) % 2 = H / p % 2 := by omega
  rw [this]
theorem mod_two_pow_64 (A i : Nat) (hi : i ≤ 64) : A % 18446744073709551616 % 2 ^ i = A % 2 ^ i := by
  rw [show 18446744073709551616 = 2 ^ i * 2 ^ (64 - i) from by rw [← Nat.pow_add, show i + (64 - i) = 64 from by omega], Nat.mod_mul_right_mod]
theorem div_mod_two (A i : Nat) (hi : i < 64) : A % 18446744073709551616 / 2 ^ i % 2 = A / 2 ^ i % 2 := by
  rw [show 18446744073709551616 = 2 ^ i * 2 ^ (64 - i) from by rw [← Nat.pow_add, show i + (64 - i) = 64 from by omega], Nat.mod_mul_right_div_self, show (2 : Nat) ^ (64 - i) = 2 * 2 ^ (63 - i) from by rw [← Nat.pow_succ']; congr 1; omega, Nat.mod_mul_right_mod]
/-- What lowers to a hash when multiplied is the product with what undoes it. -/
theorem half_end (x : Nat) (h : BitVec 64) (hx : x < 2 ^ 64) (he : x * 1099511628211 % 2 ^ 64 = h.toNat % 2 ^ 64) : BitVec.ofNat 64 x = h * Pi := by
  have e1 : BitVec.ofNat 64 x * Pr = h := by
    apply BitVec.eq_of_toNat_eq
    rw [BitVec.toNat_mul, BitVec.toNat_ofNat, Nat.mod_eq_of_lt hx, show Pr.toNat = 1099511628211 from by decide, he, Nat.mod_eq_of_lt h.isLt]
  rw [← e1, BitVec.mul_assoc, pr_pi, BitVec.mul_one]

set_option maxHeartbeats 1000000 in
theorem half_any (h : BitVec 64) (w : World) :
    Calls Try.prog 39 #[U h] w fun e w' => e = .returned (U (h * Pi)) ∧ Below w.heap.size w w' := by
  obtain ⟨H, hH⟩ : ∃ H, h.toNat = H := ⟨_, rfl⟩
  have hH64 : (H : Int) < 18446744073709551616 := by have := toNat_lt h; omega
  unfold U
  rw [hH]
  have HH := Lib.hid hH
  clear hH
  go_enter Try.func39, Try.ntmps39
  go_wp2_with fail
  go_loopw [3, 4] (fun v i wr => ∃ (k x q : Nat), k ≤ 64 ∧ i = .int .i64 k ∧ v = .int .u64 x ∧ Hid (x < 2 ^ k) ∧ Hid (x * 1099511628211 % 2 ^ k = H % 2 ^ k) ∧ wr = w.drewN q) (fun _ i _ => 64 - (intOf i).toNat)
  case atStart => exact ⟨0, 0, 0, by omega, rfl, rfl, by show _ < _; decide, by show _ = _; simp; omega, rfl⟩
  case round =>
    obtain ⟨k, x, q, hk, rfl, rfl, hx, he, rfl⟩ := hrel
    by_cases hks : k < 64
    · have hki : (k : Int) < 64 := by omega
      have hP0 : 0 < 2 ^ k := Nat.pow_pos (by omega)
      have hP1 : 2 ^ k < 18446744073709551616 := by
        rw [show 18446744073709551616 = 2 ^ 64 from rfl]
        exact Nat.pow_lt_pow_right (by omega) hks
      have hx1 := hx.out
      have hx2 : x + 2 ^ k < 18446744073709551616 := by
        have : 2 ^ k * 2 ≤ 2 ^ 64 := by rw [← Nat.pow_succ]; exact Nat.pow_le_pow_right (by omega) hks
        omega
      obtain ⟨X, hX⟩ : ∃ X, x * 1099511628211 % 18446744073709551616 = X := ⟨_, rfl⟩
      have e1 : IntKind.u64.wrap ((x : Int) * 1099511628211) = (X : Int) := by rw [IntKind.wrap_u64]; omega
      have hcast : ((2 : Int) ^ k) = ((2 ^ k : Nat) : Int) := by rw [Int.natCast_pow]; rfl
      obtain ⟨a, ha⟩ : ∃ a, X / 2 ^ k = a := ⟨_, rfl⟩
      obtain ⟨b, hb⟩ : ∃ b, H / 2 ^ k = b := ⟨_, rfl⟩
      have e2 : (X : Int) / (2 : Int) ^ k = (a : Int) := by rw [hcast, ← ha]; exact (Int.natCast_ediv _ _).symm
      have e3 : (H : Int) / (2 : Int) ^ k = (b : Int) := by rw [hcast, ← hb]; exact (Int.natCast_ediv _ _).symm
      have hab : a % 2 = x * 1099511628211 / 2 ^ k % 2 := by rw [← ha, ← hX]; exact div_mod_two _ _ hks
      have e4 : IntKind.u64.wrap ((2 : Int) ^ k) = ((2 ^ k : Nat) : Int) := by rw [hcast, IntKind.wrap_u64]; omega
      have e5 : IntKind.u64.wrap ((x : Int) + ((2 ^ k : Nat) : Int)) = ((x + 2 ^ k : Nat) : Int) := by rw [IntKind.wrap_u64]; omega
      obtain ⟨P, hP⟩ : ∃ P, 2 ^ k = P := ⟨_, rfl⟩
      by_cases hne : a % 2 = b % 2
      · have f1 : ((a : Int) % 2 == (b : Int) % 2) = true := by simp; omega
        have f2 : ((a : Int) % 2 != (b : Int) % 2) = false := by rw [bne, f1]; rfl
        have He : Hid (x * 1099511628211 % 2 ^ (k + 1) = H % 2 ^ (k + 1)) := by
          show _ = _
          rw [Nat.pow_succ]
          exact bit_same _ _ _ hP0 he.out (by rw [← hab, hb, hne])
        have Hx : Hid (x < 2 ^ (k + 1)) := by show _ < _; rw [Nat.pow_succ]; omega
        clear hP hP0 hP1 hx1 hx2 hX hcast ha hb hab e4 e5 hne f1
        go_wp2_with fail
        go_quiet (fail)
        go_wp2_with fail
        go_roundw
        case rel => exact ⟨k + 1, x, _, by omega, by go_num, rfl, Hx, He, rfl⟩
        case measure => simp [intOf]; omega
      · have f1 : ((a : Int) % 2 == (b : Int) % 2) = false := by rw [beq_eq_false_iff_ne]; omega
        have f2 : ((a : Int) % 2 != (b : Int) % 2) = true := by rw [bne, f1]; rfl
        have He : Hid ((x + P) * 1099511628211 % 2 ^ (k + 1) = H % 2 ^ (k + 1)) := by
          show _ = _
          rw [Nat.pow_succ, Nat.add_mul, ← hP, show 1099511628211 = 2 * 549755814105 + 1 from rfl]
          exact bit_flip _ _ _ _ hP0 he.out (by rw [← hab, hb]; exact hne)
        have Hx : Hid (x + P < 2 ^ (k + 1)) := by show _ < _; rw [Nat.pow_succ]; omega
        rw [hP] at e4 e5
        obtain ⟨y, hy⟩ : ∃ y, x + P = y := ⟨_, rfl⟩
        rw [hy] at e5 He Hx
        clear hP hP0 hP1 hx1 hx2 hX hcast ha hb hab hne f1 hy
        go_wp2_with fail
        go_quiet (fail)
        go_wp2_with fail
        go_roundw
        case rel => exact ⟨k + 1, y, _, by omega, by go_num, rfl, Hx, He, rfl⟩
        case measure => simp [intOf]; omega
    · obtain rfl : k = 64 := by omega
      have hr := half_end x h hx.out (by rw [HH.out]; exact he.out)
      have Hr : Hid ((x : Int) = ((h * Pi).toNat : Int)) := by
        show _ = _
        rw [← hr, BitVec.toNat_ofNat, Nat.mod_eq_of_lt hx.out]
      clear hx he hr
      go_wp2_with fail
      go_ret
      exact ⟨by rw [← Hr.out]; rfl, below_drewN' (Below.refl _ _) q⟩

theorem drop_cons (s : ByteArray) (k : Nat) (hk : k < s.size) : s.data.toList.drop k = s[k] :: s.data.toList.drop (k + 1) := by
  have hl : k < s.data.toList.length := by simpa using hk
  rw [List.drop_eq_getElem_cons hl]
  congr 1
theorem bk8_low (x : BitVec 64) (b : UInt8) (h : BitVec 64) (e : h * Pi = x) : ((x.toNat ^^^ b.toNat : Nat) : Int) = ((bk8 h b).toNat : Int) := by
  unfold bk8
  rw [e, BitVec.toNat_xor, show (B8 (b.toNat : Int)).toNat = b.toNat from by have := b8_toNat (b := (b.toNat : Int)) (by omega) (u8_le b); omega]

set_option maxHeartbeats 1000000 in
theorem refback_any (h : BitVec 64) (s : ByteArray) (hs : s.size ≤ 9223372036854775807) (w : World) :
    Calls Try.prog 29 #[U h, .string s] w fun e w' => e = .returned (U (backL h s.data.toList)) ∧ Below w.heap.size w w' := by
  go_enter Try.func29, Try.ntmps29
  go_wp2_with fail
  go_loopw [0, 5] (fun v i wr => ∃ (k : Nat) (g : BitVec 64), k ≤ s.size ∧ i = .int .i64 ((k : Int) - 1) ∧ v = U g ∧ Hid (g = (s.data.toList.drop k).reverse.foldl bk8 h) ∧ Below w.heap.size w wr) (fun _ i _ => (intOf i + 1).toNat)
  case atStart => exact ⟨s.size, h, by omega, by go_num, rfl, by show _ = _; rw [List.drop_of_length_le (by simp)]; rfl, Below.refl _ _⟩
  case round =>
    obtain ⟨k, g, hk, rfl, rfl, hg, hB⟩ := hrel
    by_cases hks : 0 < k
    · obtain ⟨k, rfl⟩ : ∃ j, k = j + 1 := ⟨k - 1, by omega⟩
      have hks : k < s.size := by omega
      rw [show ((k + 1 : Nat) : Int) - 1 = (k : Int) from by omega]
      have hg2 : Hid (bk8 g s[k] = (s.data.toList.drop k).reverse.foldl bk8 h) := by
        show _ = _
        rw [drop_cons s k hks, List.reverse_cons, backL_snoc, hg.out]
      obtain ⟨x, hx⟩ : ∃ x, g * Pi = x := ⟨_, rfl⟩
      have ch := half_any g
      rw [hx] at ch
      have hb8 := s[k].toNat_lt
      obtain ⟨b, hb⟩ : ∃ b, s[k].toNat = b := ⟨_, rfl⟩
      have hxs := bk8_low x s[k] g hx
      obtain ⟨G, hG⟩ : ∃ G, bk8 g s[k] = G := ⟨_, rfl⟩
      rw [hG] at hg2 hxs
      rw [hb] at hxs hb8
      have hb8' : b < 256 := by omega
      obtain ⟨r, hr2⟩ : ∃ r, x.toNat % 256 = r := ⟨_, rfl⟩
      have hr : (x.toNat : Int) % 256 = (r : Int) := by omega
      have hr3 : r < 256 := by omega
      have hv := u8_xor_nat r b hr3 hb8'
      obtain ⟨y, hy2⟩ : ∃ y, r ^^^ b = y := ⟨_, rfl⟩
      have hy3 : y < 256 := by rw [← hy2]; exact xor8_lt r b hr3 hb8'
      have hlow := xor_low x.toNat b hb8'
      rw [hr2, hy2] at hlow
      rw [hy2] at hv
      have hs1 : IntKind.u64.wrap ((x.toNat : Int) - (r : Int)) = (x.toNat : Int) - r := by rw [IntKind.wrap_u64]; have := toNat_lt x; omega
      have ha : IntKind.u64.wrap ((x.toNat : Int) - (r : Int) + (y : Int)) = (G.toNat : Int) := by
        rw [IntKind.wrap_u64, ← hxs, ← hlow]
        have h1 : x.toNat ^^^ b < 2 ^ 64 := Nat.xor_lt_two_pow x.isLt (by omega)
        rw [← hlow] at h1
        omega
      have hi : ∀ W, (Instr.index 9 (.string s) (.int .i64 (k : Int))).run Try.prog W = .ok (.int .u8 (b : Int)) W := by
        intro W
        rw [run_index_string W 9 s .i64 (k : Int) Try.underlying9, dif_pos ⟨by omega, by omega⟩]
        simp only [Int.toNat_natCast, hb]
      clear hlow hr2 hy2 hxs hG hb hx hks
      go_wp2_with (go_at_call 39; refine (ch _).mono ?_; rintro e w1 ⟨rfl, hb1⟩)
      go_roundw
      case rel => exact ⟨k, G, by omega, by go_num, rfl, hg2, hB.trans (hb1.mono hB.size)⟩
      case measure => simp [intOf]
    · obtain rfl : k = 0 := by omega
      have e : g = backL h s.data.toList := hg.out
      have He := Lib.hid e
      clear hg e
      go_wp2_with fail
      go_ret
      exact ⟨by rw [← He.out]; rfl, hB⟩
end Go.Proofs.Ytbjidgbohblmiaa
