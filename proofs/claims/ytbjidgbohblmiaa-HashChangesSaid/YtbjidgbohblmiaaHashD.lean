/-
  What Zeros of package hash computes.
-/
import Derived.Test.YtbjidgbohblmiaaHashC
import Derived.Laws.EntriesVeiled
namespace Go.Proofs.Ytbjidgbohblmiaa
open Go.RowKit

/-- Prime to the power of a number. -/
def pw : Nat → BitVec 64
  | 0 => 1#64
  | n + 1 => pw n * Pr
theorem pw_add (a b : Nat) : pw (a + b) = pw a * pw b := by
  induction b with
  | zero => simp [pw]
  | succ b ih => rw [← Nat.add_assoc, pw, pw, ih, BitVec.mul_assoc]
theorem pw_even (k : Nat) (h : k % 2 = 0) : pw (k / 2) * pw (k / 2) = pw k := by
  rw [← pw_add]; congr 1; omega
theorem pw_odd (k : Nat) (h : k % 2 ≠ 0) : pw (k / 2) * pw (k / 2) * Pr = pw k := by
  rw [← pw_add, ← pw]; congr 1; omega
theorem mulPr_u64 (a : BitVec 64) : IntKind.u64.wrap ((a.toNat : Int) * 1099511628211) = ((a * Pr).toNat : Int) := by
  rw [← pr_toNat, mul_u64]

theorem power_any (f : Nat) : ∀ (k : Nat) (Bp : Nat) (w : World), k ≤ f → k ≤ 9223372036854775807 → w.cell? ⟨Bp, 0, none⟩ = some (.func (.func 38) #[] #[.pointer (some ⟨Bp, 0, none⟩)]) →
    Calls Try.prog 38 #[.int .i64 (k : Int), .pointer (some ⟨Bp, 0, none⟩)] w fun e w' => e = .returned (U (pw k)) ∧ w = w' := by
  induction f with
  | zero =>
    intro k Bp w hk _ hc
    obtain rfl : k = 0 := by omega
    go_enter Try.func38, Try.ntmps38
    go_wp2_with fail
    go_ret
    exact ⟨rfl, rfl⟩
  | succ f ih =>
    intro k Bp w hk hk2 hc
    by_cases h0 : k = 0
    · subst h0
      go_enter Try.func38, Try.ntmps38
      go_wp2_with fail
      go_ret
      exact ⟨rfl, rfl⟩
    · obtain ⟨m, hm⟩ : ∃ m, k / 2 = m := ⟨_, rfl⟩
      have ih := ih m Bp w (by omega) (by omega) hc
      have hd : ((k : Int) / 2) = (m : Int) := by omega
      have e0 : ((k : Int) == 0) = false := by rw [beq_eq_false_iff_ne]; omega
      by_cases h2 : k % 2 = 0
      · have e1 : ((k : Int) % 2 == 0) = true := by simp; omega
        have hp := pw_even k h2
        rw [hm] at hp
        generalize pw m = p at hp ih
        generalize pw k = r at hp ⊢
        have hw := mul_u64 p p
        rw [hp] at hw
        clear h0 h2 hp hm
        go_enter Try.func38, Try.ntmps38
        go_wp2_with (go_at_call 38; refine ih.mono ?_; rintro e w' ⟨rfl, rfl⟩)
        go_ret
        exact ⟨rfl, rfl⟩
      · have e1 : ((k : Int) % 2 == 0) = false := by rw [beq_eq_false_iff_ne]; omega
        have hp := pw_odd k h2
        rw [hm] at hp
        generalize pw m = p at hp ih
        generalize pw k = r at hp ⊢
        have hw := mul_u64 p p
        generalize p * p = q at hp hw
        have hv := mulPr_u64 q
        rw [hp] at hv
        clear h0 h2 hp hm
        go_enter Try.func38, Try.ntmps38
        go_wp2_with (go_at_call 38; refine ih.mono ?_; rintro e w' ⟨rfl, rfl⟩)
        go_ret
        exact ⟨rfl, rfl⟩
theorem zeros_no (h : BitVec 64) (n : Int) (hn : n < 0) (w : World) :
    Calls Try.prog 22 #[U h, .int .i64 n] w fun e w' => e = .returned (.tuple #[.int .u64 0, .int .i64 2]) ∧ w = w' := by
  go_enter Try.func22, Try.ntmps22
  go_wp2_with fail
  go_ret2
  exact ⟨rfl, rfl⟩
theorem zeros_yes (h : BitVec 64) (n : Nat) (hn : n ≤ 9223372036854775807) (w : World) :
    Calls Try.prog 22 #[U h, .int .i64 (n : Int)] w fun e w' => e = .returned (.tuple #[U (h * pw n), .int .i64 0]) ∧ Below w.heap.size w w' := by
  have hp := fun W hc => power_any n n w.heap.size W (Nat.le_refl _) hn hc
  have hw := mul_u64 h (pw n)
  generalize pw n = p at hp hw ⊢
  generalize h * p = r at hw ⊢
  go_enter Try.func22, Try.ntmps22
  go_wp2_with (go_at_call 38; refine (hp _ (by simp)).mono ?_; rintro e w' ⟨rfl, rfl⟩)
  go_ret2
  exact ⟨rfl, (Below.refl _ _).alloc (Nat.le_refl _) _⟩
end Go.Proofs.Ytbjidgbohblmiaa
