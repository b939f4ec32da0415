/-
  What the reference of hashes computes: digit, Text, Read.
-/
import Derived.Test.YtbjidgbohblmiaaHashS
import Derived.Test.YtbjidgbohblmiaaOwn
namespace Go.Proofs.Ytbjidgbohblmiaa
open Go.RowKit

theorem digit_any (n : Nat) (hn : n < 16) (w : World) : Calls Try.prog 40 #[.int .u64 (n : Int)] w fun e w' => e = .returned (.int .u8 (dg n)) ∧ w = w' := by
  by_cases h : n < 10
  · have h1 : (n : Int) < 10 := by omega
    have hd : dg n = 48 + (n : Int) := by unfold dg; rw [if_pos h]
    rw [hd]
    clear hd h
    go_enter Try.func40, Try.ntmps40
    go_wp2_with fail
    go_ret
    exact ⟨rfl, rfl⟩
  · have h1 : ¬ (n : Int) < 10 := by omega
    have hd : dg n = 87 + (n : Int) := by unfold dg; rw [if_neg h]
    rw [hd]
    clear hd h
    go_enter Try.func40, Try.ntmps40
    go_wp2_with fail
    go_ret
    exact ⟨rfl, rfl⟩
theorem info5 : (Try.prog.info? 5).map (fun i => (i.zero, i.size, i.bytes)) = some (some (.int .u8 0), 1, 1) := by kernel_rfl
theorem txt_take (h m : Nat) (hm : m < 16) : (txt h).take (m + 1) = (txt h).take m ++ [dg (nib h m)] := by
  rw [List.take_add_one, txt_get _ _ hm]
  rfl
set_option maxHeartbeats 1000000 in
theorem reftext_any (h : BitVec 64) (w : World) :
    Calls Try.prog 31 #[U h] w fun e w' => e = .returned (.string (txtS h)) ∧ Below w.heap.size w w' := by
  obtain ⟨i0, hi, hz0, hz1, hz2⟩ := info_parts info5
  obtain ⟨H, hH⟩ : ∃ H, h.toNat = H := ⟨_, rfl⟩
  have hS : txtS h = strOfNums (txt H) := by rw [← hH]; rfl
  rw [hS]
  have hH64 : (H : Int) < 18446744073709551616 := by have := toNat_lt h; omega
  unfold U
  rw [hH]
  clear hS hH
  go_enter Try.func31, Try.ntmps31
  go_wp2_with fail
  go_loopw [3, 4] (fun v i wr => ∃ (j : Nat), j ≤ 16 ∧ i = .int .i64 ((j : Int) - 1) ∧ Hid (wr.ownsRow w.heap.size 5 1 v (16 - j) (u8s ((txt H).take (16 - j)))) ∧ Below w.heap.size w wr) (fun _ i _ => (intOf i + 1).toNat)
  case atStart => exact ⟨16, by omega, by go_num, World.ownsRow_nil _ _ _ _, Below.refl _ _⟩
  case round =>
    obtain ⟨j, hj, rfl, hown, hb⟩ := hrel
    by_cases hj0 : 0 < j
    · obtain ⟨k, rfl⟩ : ∃ k, j = k + 1 := ⟨j - 1, by omega⟩
      rw [show ((k + 1 : Nat) : Int) - 1 = (k : Int) from by omega]
      have hk : (k : Int) ≤ 15 := by omega
      have hcast : ((2 : Int) ^ (4 * k)) = ((16 ^ k : Nat) : Int) := by
        rw [Int.natCast_pow, Int.pow_mul]; rfl
      obtain ⟨a, ha⟩ : ∃ a, H / 16 ^ k = a := ⟨_, rfl⟩
      have e2 : (H : Int) / (2 : Int) ^ (4 * k) = (a : Int) := by rw [hcast, ← ha]; exact (Int.natCast_ediv _ _).symm
      obtain ⟨n, hn⟩ : ∃ n, a % 16 = n := ⟨_, rfl⟩
      have e3 : (a : Int) % 16 = (n : Int) := by omega
      have hn16 : n < 16 := by omega
      have cd := digit_any n hn16
      have htk : Hid ((txt H).take (16 - k) = (txt H).take (16 - (k + 1)) ++ [dg n]) := by
        show _ = _
        rw [show 16 - k = 16 - (k + 1) + 1 from by omega, txt_take H _ (by omega)]
        have : nib H (16 - (k + 1)) = n := by unfold nib; rw [show 15 - (16 - (k + 1)) = k from by omega, ha, hn]
        rw [this]
      generalize dg n = D at cd htk
      clear hcast ha hn hn16
      have hbs := hb.size
      go_wp2_with (first
        | (go_at_call 40; refine (cd _).mono ?_; rintro e w1 ⟨rfl, rfl⟩)
        | (at_builtin; refine wpList_app_any _ rfl _ _ 30 rfl w.heap.size 5 i0 (.int .u8 0) 1 Try.underlying30 hi hz0 hz1 hz2 rfl _ (16 - (k + 1)) (u8s ((txt H).take (16 - (k + 1)))) rfl (own_alloc hown.out _) _ _ 1 _ (u8s [D]) rfl (rdNew wr (u8s [D]) 5) (u8s_one _) (by unfold maxLen; omega) (by omega) (by simp; omega) ?_; intro v' w3 hown3 hg3; have Hown3 := Lib.hid hown3; have Hg3 := Lib.hid hg3; clear hown3 hg3))
      have hB : Below w.heap.size w w3 := (hb.alloc hbs _).grown Hg3.out (by simp; omega) (fun j e => (hown.out.lt j e).1)
      go_roundw
      case rel => exact ⟨k, by omega, by go_num, by show World.ownsRow _ _ _ _ _ _ _; rw [htk.out, u8s_append]; have := Hown3.out; rwa [show 16 - (k + 1) + 1 = 16 - k from by omega] at this, hB⟩
      case measure => simp [intOf]
    · obtain rfl : j = 0 := by omega
      have e : (txt H).take (16 - 0) = txt H := List.take_of_length_le (by rw [txt_len]; exact Nat.le_refl _)
      rw [e] at hown
      have hcv := conv_own wr hown.out
      clear e
      go_wp2_with fail
      go_ret
      exact ⟨rfl, hb⟩
end Go.Proofs.Ytbjidgbohblmiaa
