/-
  What padding and Padding of package md5 compute; Start and Step.
-/
import Derived.Test.YtlgdbhebcglkoaaDoorMdC
import Derived.Test.YtlgdbhebcglkoaaDoorOwn
import Derived.Laws.MakeOwn
namespace Go.Proofs.YtlgdbhebcglkoaaDoor
open Go.RowKit
/-- A number as eight bytes, the lowest first. -/
def le8 (x : Nat) : List Int := (List.range 8).map fun i => ((x / 256 ^ i % 256 : Nat) : Int)
def padHead (n : Nat) : List Int := 128 :: List.replicate (63 - (n + 8) % 64) 0
def padL (n : Nat) : List Int := padHead n ++ le8 (8 * n)
theorem le8_length (x : Nat) : (le8 x).length = 8 := by simp [le8]
theorem padHead_length (n : Nat) : (padHead n).length = 64 - (n + 8) % 64 := by simp [padHead]; omega
theorem padL_length (n : Nat) : (padL n).length = 72 - (n + 8) % 64 := by rw [padL, List.length_append, padHead_length, le8_length]; omega
theorem le8_succ (x j : Nat) (hj : j < 8) : (le8 x).take (j + 1) = (le8 x).take j ++ [((x / 256 ^ j % 256 : Nat) : Int)] := by
  rw [List.take_add_one]
  congr 1
  simp [le8, hj]
theorem made_u8 (k : Nat) : madeCells (Value.int .u8 0).cells k = (u8s (List.replicate k 0)).toArray := by
  apply Array.toList_inj.1
  rw [show madeCells (Value.int .u8 0).cells k = madeCells #[Value.int .u8 0] k from rfl, toList_madeCells_one]
  simp [u8s]
theorem infoB : (Tryd.prog.info? 5).map (fun i => (i.zero, i.size, i.bytes)) = some (some (.int .u8 0), 1, 1) := by kernel_rfl
set_option maxRecDepth 100000 in
set_option maxHeartbeats 2000000 in
theorem padding_any (n : Nat) (hn : n ≤ 140737488355328) (w : World) :
    Calls Tryd.prog 42 #[.int .i64 (n : Int)] w fun e w' => ∃ v, e = .returned v ∧ w'.ownsRow w.heap.size 5 1 v (72 - (n + 8) % 64) (u8s (padL n)) ∧ Below w.heap.size w w' := by
  obtain ⟨m, hm⟩ : ∃ m, (n + 8) % 64 = m := ⟨_, rfl⟩
  have hm1 : ((n : Int) + 8) % 64 = (m : Int) := by omega
  have hm64 : m < 64 := by omega
  obtain ⟨i0, hi, hz0, hz1, hz2⟩ := info_parts infoB
  have hmk : ∀ W : World, (Instr.makeSlice 25 (.int .i64 (64 - (m : Int))) (.int .i64 (64 - (m : Int) + 8))).run Tryd.prog W = .ok (.slice (some ⟨W.heap.size, 0, none⟩) (64 - m) (72 - m)) (W.alloc (.cells (u8s (List.replicate (72 - m) 0)).toArray 5)) := fun W => by
    have := run_make (P := Tryd.prog) W 25 5 i0 (.int .u8 0) Tryd.underlying25 hi hz0 .i64 .i64 (64 - (m : Int)) (64 - (m : Int) + 8) (by omega) (by omega) (by rw [hz2]; omega) (by omega)
    rw [hz1, show (64 - (m : Int)).toNat = 64 - m from by omega, show (64 - (m : Int) + 8).toNat = 72 - m from by omega, Nat.mul_one, made_u8] at this
    exact this
  obtain ⟨C, hC⟩ : ∃ C, C = (u8s (List.replicate (72 - m) 0)).toArray := ⟨_, rfl⟩
  rw [← hC] at hmk
  have HC := Lib.hid hC
  have Hm := Lib.hid hm
  clear hC hm
  have hpos : 0 < 64 - (m : Int) := by omega
  have hc0 : ∀ W : World, (W.alloc (.cells C 5)).cell? ⟨W.heap.size, 0, none⟩ = some (.int .u8 0) := fun W => by
    rw [cell_of_row _ _ _ _ _ _ (hnew _ rfl), HC.out, List.getElem?_toArray, u8s_get _ _ (by simp; omega)]
    rw [List.getD_eq_getElem?_getD, List.getElem?_replicate, if_pos (by omega)]
    rfl
  go_enter Tryd.func42, Tryd.ntmps42
  go_wp2_with fail
  have hown0 : (w.alloc (.cells (C.setIfInBounds 0 (Value.int .u8 128)) 5)).ownsRow w.heap.size 5 1 (.slice (some ⟨w.heap.size, 0, none⟩) (64 - m) (72 - m)) (64 - m) (u8s (padHead n)) := by
    refine ⟨by rw [u8s_length, padHead_length, Hm.out, Nat.mul_one], .inr ⟨w.heap.size, 72 - m, _, rfl, Nat.le_refl _, hnew _ rfl, by omega, by unfold maxLen; omega, ?_, ?_⟩⟩
    · rw [HC.out]; simp [u8s]
    · rw [HC.out, Nat.mul_one, Array.toList_setIfInBounds]
      have e1 : 72 - m = (71 - m) + 1 := by omega
      have e2 : 64 - m = (63 - m) + 1 := by omega
      rw [e1, e2, padHead, Hm.out]
      simp [u8s, List.replicate_succ, List.take_replicate]
      omega
  clear hm1 hmk hpos hc0
  go_loopw [4, 5, 19] (fun v x i wr => ∃ (j y : Nat), j ≤ 8 ∧ i = .int .i64 j ∧ x = .int .u64 y ∧ Hid (8 * n / 256 ^ j = y) ∧ Hid (wr.ownsRow w.heap.size 5 1 v (64 - m + j) (u8s (padHead n ++ (le8 (8 * n)).take j))) ∧ Below w.heap.size w wr) (fun _ _ i _ => 8 - (intOf i).toNat)
  case atStart => exact ⟨0, 8 * n, by omega, rfl, by go_num, by show _ = _; simp, by show World.ownsRow _ _ _ _ _ _ _; rw [List.take_zero, List.append_nil]; exact hown0, (Below.refl _ w).alloc (Nat.le_refl _) _⟩
  case round =>
    clear hown0
    obtain ⟨j, y, hj, rfl, rfl, hy, hown, hB⟩ := hrel
    by_cases hj8 : j < 8
    · have hyb : y ≤ 8 * n := by rw [← hy.out]; exact Nat.div_le_self _ _
      have hyb2 : (y : Int) ≤ 1125899906842624 := by omega
      obtain ⟨z, hz⟩ : ∃ z, y % 256 = z := ⟨_, rfl⟩
      have hz1' : (y : Int) % 256 = (z : Int) := by omega
      obtain ⟨y', hy'⟩ : ∃ y', y / 256 = y' := ⟨_, rfl⟩
      have hy1 : (y : Int) / 256 = (y' : Int) := by omega
      have Hn1 : Hid (8 * n / 256 ^ (j + 1) = y') := by
        show _ = _
        rw [Nat.pow_succ, ← Nat.div_div_eq_div_mul, hy.out, hy']
      have Hn2 : Hid ((le8 (8 * n)).take (j + 1) = (le8 (8 * n)).take j ++ [(z : Int)]) := by
        show _ = _
        rw [le8_succ _ _ hj8, hy.out, hz]
      clear hz hy' hyb
      have hbs := hB.size
      go_wp2_with (at_builtin; refine wpList_app_any _ rfl _ _ 25 rfl w.heap.size 5 i0 (.int .u8 0) 1 Tryd.underlying25 hi hz0 hz1 hz2 rfl _ (64 - m + j) (u8s (padHead n ++ (le8 (8 * n)).take j)) rfl (own_alloc hown.out _) _ _ 1 _ (u8s [(z : Int)]) rfl (rdNew wr (u8s [(z : Int)]) 5) (u8s_one _) (by unfold maxLen; omega) (by omega) (by simp; omega) ?_; intro v' w3 hown3 hg3; have Hown3 := Lib.hid hown3; have Hg3 := Lib.hid hg3; clear hown3 hg3)
      have hBn : Below w.heap.size w w3 := (hB.alloc hbs _).grown Hg3.out (by simp; omega) (fun j e => (hown.out.lt j e).1)
      go_roundw
      case rel => exact ⟨j + 1, y', by omega, by go_num, rfl, Hn1, by show World.ownsRow _ _ _ _ _ _ _; rw [Hn2.out, ← List.append_assoc, u8s_append]; exact Hown3.out, hBn⟩
      case measure => simp [intOf]; omega
    · obtain rfl : j = 8 := by omega
      go_wp2_with fail
      go_ret
      refine ⟨_, rfl, ?_, hB⟩
      have h := hown.out
      rw [List.take_of_length_le (by rw [le8_length]; omega)] at h
      rw [Hm.out, show 72 - m = 64 - m + 8 from by omega]
      exact h
end Go.Proofs.YtlgdbhebcglkoaaDoor
