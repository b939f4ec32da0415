/-
  What the reference's constants, rotated and Step compute.
-/
import Derived.Test.YtlgdbhebcglkoaaDoorMdO
import Derived.Test.YtlgdbhebcglkoaaDoorNear
import Derived.Deep.DeepCutAuto
import Derived.Deep.RegionHeld3
namespace Go.Proofs.YtlgdbhebcglkoaaDoor
open Go.RowKit Go.Shelf
set_option maxRecDepth 100000 in
theorem rconst_any (w : World) : Calls Tryd.prog 44 #[] w fun e w' => e = .returned (.slice (some ⟨w.heap.size, 0, none⟩) 64 64) ∧ w'.heap[w.heap.size]? = some (.cells kV 22 (0, 0)) ∧ Kept w w' := by
  go_enter Tryd.func44, Tryd.ntmps44
  go_wp2_with fail
  go_ret
  exact ⟨rfl, heap_alloc_new w _, (Below.refl _ w).alloc (Nat.le_refl _) _⟩
set_option maxRecDepth 100000 in
theorem rotated_any (t : BitVec 32) (r : Nat) (hr : r < 32) (w : World) :
    Calls Tryd.prog 45 #[V t, .int .i64 (r : Int)] w fun e w' => e = .returned (V (rot t r)) ∧ w = w' := by
  have Ht := Lib.hid t.isLt
  have Hrot := Lib.hid (rot_toNat t r (by omega))
  obtain ⟨t0, ht0⟩ : ∃ t0, t0 = t.toNat := ⟨_, rfl⟩
  rw [← ht0] at Hrot Ht
  show Calls _ _ #[.int .u32 (t.toNat : Int), _] _ _
  rw [← ht0]
  clear ht0
  go_enter Tryd.func45, Tryd.ntmps45
  go_wp2_with fail
  go_loopw [0, 5] (fun x i wr => ∃ k y : Nat, k ≤ r ∧ i = .int .i64 (k : Int) ∧ x = .int .u32 (y : Int) ∧ Hid (y = rotl t0 k) ∧ w = wr) (fun _ i _ => r - (intOf i).toNat)
  case atStart => exact ⟨0, t0, by omega, rfl, rfl, (rotl_zero t0 Ht.out).symm, rfl⟩
  case round =>
    obtain ⟨k, y, hk, rfl, rfl, hy, rfl⟩ := hrel
    by_cases hkr : k < r
    · have hkI : (k : Int) < (r : Int) := by omega
      have hyl : y < 4294967296 := by rw [hy.out]; exact rotl_lt t0 k (by omega) Ht.out
      have hs := rotl_succ t0 k (by omega) Ht.out
      rw [← hy.out] at hs
      obtain ⟨m, hm⟩ : ∃ m, y * 2 % 4294967296 = m := ⟨_, rfl⟩
      obtain ⟨q, hq⟩ : ∃ q, y / 2147483648 = q := ⟨_, rfl⟩
      obtain ⟨s, hs'⟩ : ∃ s, rotl t0 (k + 1) = s := ⟨_, rfl⟩
      have hsl : s < 4294967296 := by rw [← hs']; exact rotl_lt t0 (k + 1) (by omega) Ht.out
      rw [hm, hq, hs'] at hs
      have h1 : IntKind.u32.wrap ((y : Int) * 2) = (m : Int) := by rw [IntKind.wrap_u32]; omega
      have h2 : (y : Int) / 2147483648 = (q : Int) := by omega
      have h3 : IntKind.u32.wrap ((m : Int) + (q : Int)) = (s : Int) := by rw [IntKind.wrap_u32]; omega
      have h6 : (q : Int) % 4294967296 = (q : Int) := by omega
      have h4 : (y : Int) * 2 % 4294967296 = (m : Int) := by omega
      have h5 : ((m : Int) + (q : Int)) % 4294967296 = (s : Int) := by omega
      have Hn : Hid (s = rotl t0 (k + 1)) := hs'.symm
      clear hm hq hs hs' hyl hsl
      go_wp2_with fail
      go_roundw
      case rel => exact ⟨k + 1, s, by omega, by go_num, rfl, Hn, trivial⟩
      case measure => simp [intOf]; omega
    · obtain rfl : k = r := by omega
      have hkI : ¬ (k : Int) < (k : Int) := by omega
      have Hfin : Hid (((rot t k).toNat : Int) = (y : Int)) := by show _ = _; rw [Hrot.out, hy.out]
      go_wp2_with fail
      go_ret
      refine ⟨?_, rfl⟩
      show _ = Ending.returned (.int .u32 ((rot t k).toNat : Int))
      rw [Hfin.out]
      rfl
theorem wdN_four (l : List Int) (g : Nat) : wdN l g 4 = (l.getD (4 * g) 0).toNat + 256 * (l.getD (4 * g + 1) 0).toNat + 65536 * (l.getD (4 * g + 2) 0).toNat + 16777216 * (l.getD (4 * g + 3) 0).toNat := by
  rw [wdN_succ, wdN_succ, wdN_succ, wdN_succ, wdN_zero]
  simp only [Nat.add_zero]
  omega
/-- The words of a block, the first n of them. -/
def wds (l : List Int) (n : Nat) : List Value := (List.range n).map fun j => V (wd l j)
theorem wds_length (l : List Int) (n : Nat) : (wds l n).length = n := by simp [wds]
theorem wds_succ (l : List Int) (n : Nat) : wds l (n + 1) = wds l n ++ [V (wd l n)] := by unfold wds; rw [List.range_succ, List.map_append]; rfl
theorem wds_get (l : List Int) (n j : Nat) (h : j < n) : (wds l n)[j]? = some (V (wd l j)) := by unfold wds; rw [List.getElem?_map, List.getElem?_range h]; rfl
theorem infoU : (Tryd.prog.info? 22).map (fun i => (i.zero, i.size, i.bytes)) = some (some (.int .u32 0), 1, 4) := by kernel_rfl
/-- The rows of rotations. -/
def rotRow (q : Nat) : Array Value := ((List.range 4).map fun r => Value.int .i64 (Rl.getD (q * 4 + r) 0 : Int)).toArray
set_option maxRecDepth 100000 in
set_option maxHeartbeats 8000000 in
theorem rstep_any (a b c d : BitVec 32) (l : List Int) (hl : l.length = 64) (hb : Bts l) (g off : Nat) (cc : Nat) (w : World) (hr : w.rangeAt g off (u8s l)) :
    Calls Tryd.prog 33 #[.agg #[V a, V b, V c, V d], .slice (some ⟨g, off, none⟩) 64 cc] w fun e w' => e = .returned (.agg (vals (stp (a, b, c, d) l))) ∧ Kept w w' := by
  obtain ⟨i0, hi, hz0, hz1, hz2⟩ := info_parts infoU
  have hg : g < w.heap.size := block_lt_of_cell (hr 0 _ (u8s_get l 0 (by omega)))
  have hcell : ∀ W, Kept w W → ∀ j, j < 64 → W.cell? ⟨g, off + j, none⟩ = some (.int .u8 (l.getD j 0)) := fun W h j hj =>
    (Below.cell h (p := ⟨g, off + j, none⟩) hg).trans (hr j _ (u8s_get l j (by omega)))
  have Hcell := Lib.hid hcell
  have Hb := Lib.hid hb
  have Hg := Lib.hid hg
  clear hcell hr hl hb hg
  go_enter Tryd.func33, Tryd.ntmps33
  go_wp2_with fail
  generalize hw0 : World.alloc (World.alloc w _) _ = w0
  have hB0 : Below w.heap.size w w0 := by rw [← hw0]; exact ((Below.refl _ w).alloc (Nat.le_refl _) _).alloc (by simp) _
  have hg0 : w0.heap[w.heap.size]? = some (.cells #[V a, V b, V c, V d] 69 (0, 0)) := by rw [← hw0]; exact halloc _ (heap_alloc_new w _)
  have hg1 : w0.heap[w.heap.size + 1]? = some (.cells #[.int .u32 0, .int .u32 0, .int .u32 0, .int .u32 0] 69 (0, 0)) := by rw [← hw0]; exact hnew _ (by simp)
  clear hw0
  have HB0 := Lib.hid hB0
  have Hg0 := Lib.hid hg0
  have Hg1 := Lib.hid hg1
  clear hB0 hg0 hg1
  go_loopw [5, 6] (fun v i wr => ∃ j o : Nat, j ≤ 16 ∧ o = 4 * j ∧ i = .int .i64 (o : Int) ∧ Hid (Kept w0 wr) ∧ Hid (wr.ownsRow w0.heap.size 22 1 v j (wds l j))) (fun _ i _ => 64 - (intOf i).toNat)
  case atStart => exact ⟨0, 0, by omega, rfl, rfl, Below.refl _ _, ⟨rfl, .inl ⟨rfl, rfl⟩⟩⟩
  case round =>
    obtain ⟨j, o, hj, ho, rfl, hK, hown⟩ := hrel
    by_cases hj16 : j < 16
    · have hoI : (o : Int) < 64 := by omega
      have hko := below_kept HB0.out hK.out
      have hc0 := Hcell.out wr hko o (by omega)
      have hc1 := Hcell.out wr hko (o + 1) (by omega)
      have hc2 := Hcell.out wr hko (o + 2) (by omega)
      have hc3 := Hcell.out wr hko (o + 3) (by omega)
      have hw4 := wdN_four l j
      have hwt := wd_toNat l Hb.out j
      rw [← ho] at hw4
      have b0 := Hb.out.getD o
      have b1 := Hb.out.getD (o + 1)
      have b2 := Hb.out.getD (o + 2)
      have b3 := Hb.out.getD (o + 3)
      obtain ⟨x0, e0⟩ := Int.eq_ofNat_of_zero_le b0.1
      obtain ⟨x1, e1⟩ := Int.eq_ofNat_of_zero_le b1.1
      obtain ⟨x2, e2⟩ := Int.eq_ofNat_of_zero_le b2.1
      obtain ⟨x3, e3⟩ := Int.eq_ofNat_of_zero_le b3.1
      rw [e0] at hc0 b0 hw4
      rw [e1] at hc1 b1 hw4
      rw [e2] at hc2 b2 hw4
      rw [e3] at hc3 b3 hw4
      simp only [Int.toNat_natCast] at hw4
      have hv0 : IntKind.u32.wrap (x0 : Int) = (x0 : Int) := by rw [IntKind.wrap_u32]; omega
      have hv1 : IntKind.u32.wrap (x1 : Int) = (x1 : Int) := by rw [IntKind.wrap_u32]; omega
      have hv2 : IntKind.u32.wrap (x2 : Int) = (x2 : Int) := by rw [IntKind.wrap_u32]; omega
      have hv3 : IntKind.u32.wrap (x3 : Int) = (x3 : Int) := by rw [IntKind.wrap_u32]; omega
      obtain ⟨m1, hm1⟩ : ∃ m, 256 * x1 = m := ⟨_, rfl⟩
      obtain ⟨m2, hm2⟩ : ∃ m, 65536 * x2 = m := ⟨_, rfl⟩
      obtain ⟨m3, hm3⟩ : ∃ m, 16777216 * x3 = m := ⟨_, rfl⟩
      have hp1 : IntKind.u32.wrap (256 * (x1 : Int)) = (m1 : Int) := by rw [IntKind.wrap_u32]; omega
      have hp2 : IntKind.u32.wrap (65536 * (x2 : Int)) = (m2 : Int) := by rw [IntKind.wrap_u32]; omega
      have hp3 : IntKind.u32.wrap (16777216 * (x3 : Int)) = (m3 : Int) := by rw [IntKind.wrap_u32]; omega
      obtain ⟨s1, hs1⟩ : ∃ m, x0 + m1 = m := ⟨_, rfl⟩
      obtain ⟨s2, hs2⟩ : ∃ m, s1 + m2 = m := ⟨_, rfl⟩
      obtain ⟨s3, hs3⟩ : ∃ m, s2 + m3 = m := ⟨_, rfl⟩
      have hq1 : IntKind.u32.wrap ((x0 : Int) + (m1 : Int)) = (s1 : Int) := by rw [IntKind.wrap_u32]; omega
      have hq2 : IntKind.u32.wrap ((s1 : Int) + (m2 : Int)) = (s2 : Int) := by rw [IntKind.wrap_u32]; omega
      have hq3 : IntKind.u32.wrap ((s2 : Int) + (m3 : Int)) = (s3 : Int) := by rw [IntKind.wrap_u32]; omega
      have Hs3 : Hid (V (wd l j) = .int .u32 (s3 : Int)) := by
        show Value.int .u32 _ = _
        rw [hwt]
        congr 1
        omega
      have hone : ∀ u ∈ [Value.int .u32 (s3 : Int)], u.oneCell' = true := by intro u hu; rw [List.mem_singleton.1 hu]; rfl
      have Hone := Lib.hid hone
      obtain ⟨o1, ho1⟩ : ∃ x, o + 1 = x := ⟨_, rfl⟩
      have hi1 : (o : Int) + 1 = (o1 : Int) := by omega
      have hw1i : IntKind.i64.wrap (o1 : Int) = (o1 : Int) := by rw [IntWalk.i64_in _ (by omega)]
      have hj1i : (o1 : Int) < 64 := by omega
      obtain ⟨o2, ho2⟩ : ∃ x, o + 2 = x := ⟨_, rfl⟩
      have hi2 : (o : Int) + 2 = (o2 : Int) := by omega
      have hw2i : IntKind.i64.wrap (o2 : Int) = (o2 : Int) := by rw [IntWalk.i64_in _ (by omega)]
      have hj2i : (o2 : Int) < 64 := by omega
      obtain ⟨o3, ho3⟩ : ∃ x, o + 3 = x := ⟨_, rfl⟩
      have hi3 : (o : Int) + 3 = (o3 : Int) := by omega
      have hw3i : IntKind.i64.wrap (o3 : Int) = (o3 : Int) := by rw [IntWalk.i64_in _ (by omega)]
      have hj3i : (o3 : Int) < 64 := by omega
      rw [ho1] at hc1
      rw [ho2] at hc2
      rw [ho3] at hc3
      have hns : ∀ o, wr.heap.size ≤ (wr.drew.alloc o).heap.size := fun o => Below.size ((Below.refl wr.heap.size wr).drew.alloc (Nat.le_refl _) o)
      have Ho := Lib.hid ho
      have Hk : Hid (∀ W, Below w0.heap.size wr W → (W.cell? ⟨g, off + o, none⟩ = some (.int .u8 (x0 : Int)) ∧ W.cell? ⟨g, off + o1, none⟩ = some (.int .u8 (x1 : Int)) ∧ W.cell? ⟨g, off + o2, none⟩ = some (.int .u8 (x2 : Int)) ∧ W.cell? ⟨g, off + o3, none⟩ = some (.int .u8 (x3 : Int))) ∧ Below w0.heap.size wr W) := by
        intro W h
        have hgl : g < w0.heap.size := Nat.lt_of_lt_of_le Hg.out HB0.out.size
        exact ⟨⟨(Below.cell h (p := ⟨g, off + o, none⟩) hgl).trans hc0, (Below.cell h (p := ⟨g, off + o1, none⟩) hgl).trans hc1, (Below.cell h (p := ⟨g, off + o2, none⟩) hgl).trans hc2, (Below.cell h (p := ⟨g, off + o3, none⟩) hgl).trans hc3⟩, h⟩
      have hb00 := Below.refl w0.heap.size wr
      have hsw := Below.size hK.out
      clear ho1 ho2 ho3 hc0 hc1 hc2 hc3 hw4 hwt b0 b1 b2 b3 e0 e1 e2 e3 hm1 hm2 hm3 hs1 hs2 hs3 ho hko hone
      go_upto_region 5 with fail
      go_region_held3 (fun W => (W.cell? ⟨g, off + o, none⟩ = some (.int .u8 (x0 : Int)) ∧ W.cell? ⟨g, off + o1, none⟩ = some (.int .u8 (x1 : Int)) ∧ W.cell? ⟨g, off + o2, none⟩ = some (.int .u8 (x2 : Int)) ∧ W.cell? ⟨g, off + o3, none⟩ = some (.int .u8 (x3 : Int))) ∧ Below w0.heap.size wr W)
        ((refine Hk.out _ ?_; (repeat (first | with_reducible assumption | with_reducible refine Below.drew ?_ | with_reducible refine Below.alloc ?_ hsw _)); done))
        (first
          | (refine step_app_any rfl _ _ 83 rfl w0.heap.size 22 i0 (.int .u32 0) 4 Tryd.underlying83 hi hz0 hz1 hz2 rfl _ j (wds l j) rfl (own_alloc (w := wr.drew) hown.out _) _ _ 1 _ [Value.int .u32 (s3 : Int)] rfl (rdNew wr.drew [Value.int .u32 (s3 : Int)] 22) Hone.out (by unfold maxLen; omega) (by omega) (Nat.le_trans hsw (hns _)) ?_; intro v' w3 hown3 hg3; have hb3 := Below.grown (Below.alloc (Below.drew hb00) hsw (.cells [Value.int .u32 (s3 : Int)].toArray 22)) hg3 (Nat.le_trans hsw (hns _)) (fun j e => (hown.out.lt j e).1); have Hown3 := Lib.hid hown3; clear hown3 hg3))
      rename_i hS
      have HK3 := Lib.hid (Below.trans hK.out hb3)
      have hoJ : (o : Int) + 4 ≤ 64 := by have := Ho.out; omega
      clear hS hb3 hi1 hi2 hi3 hw1i hw2i hw3i hj1i hj2i hj3i hv0 hv1 hv2 hv3 hp1 hp2 hp3 hq1 hq2 hq3 Hk hb00
      go_wp2_with fail
      go_roundw
      case rel =>
        refine ⟨j + 1, o + 4, by omega, by have := Ho.out; omega, by go_num, HK3, ?_⟩
        show World.ownsRow _ _ _ _ _ _ _
        rw [wds_succ, Hs3.out]
        exact Hown3.out
      case measure => simp [intOf]; omega
    · obtain rfl : j = 16 := by omega
      obtain rfl : o = 64 := by omega
      obtain ⟨w1, rfl⟩ : ∃ x, x = wr := ⟨_, rfl⟩
      obtain ⟨Am, cm, rfl, hcm⟩ := own_slice hown.out
      obtain ⟨gm, rfl⟩ : ∃ gm, Am = some ⟨gm, 0, none⟩ := by
        rcases hown.out.2 with ⟨_, h1⟩ | ⟨g, _, _, h1, _⟩
        · omega
        · injection h1 with h1; exact ⟨g, h1⟩
      have Hrm := Lib.hid (Rd.of_own hown.out)
      have hcmI : (16 : Int) ≤ (cm : Int) := by omega
      clear hown ho hj hj16 Hcell
      go_upto_region 8 with (go_at_call 44; refine (rconst_any _).mono ?_; rintro e w2 ⟨rfl, hk2, k2⟩; have Hk2 := Lib.hid hk2; have K2 := Lib.hid k2; clear hk2 k2)
      --L2
      generalize hw3 : World.alloc (World.alloc (World.alloc (World.alloc (World.alloc w2 _) _) _) _) _ = w3
      have k3 : Kept w2 w3 := by
        rw [← hw3]
        exact below_alloc0 (below_alloc0 (below_alloc0 (below_alloc0 (below_alloc0 (Below.refl _ w2) _) _) _) _) _
      have hR0 : w3.heap[w2.heap.size]? = some (.cells (rotRow 0) 3 (0, 0)) := by rw [← hw3]; exact halloc _ (halloc _ (halloc _ (halloc _ (heap_alloc_new w2 _))))
      have hR1 : w3.heap[w2.heap.size + 1]? = some (.cells (rotRow 1) 3 (0, 0)) := by rw [← hw3]; exact halloc _ (halloc _ (halloc _ (hnew _ (by simp))))
      have hR2 : w3.heap[w2.heap.size + 1 + 1]? = some (.cells (rotRow 2) 3 (0, 0)) := by rw [← hw3]; exact halloc _ (halloc _ (hnew _ (by simp)))
      have hR3 : w3.heap[w2.heap.size + 1 + 1 + 1]? = some (.cells (rotRow 3) 3 (0, 0)) := by rw [← hw3]; exact halloc _ (hnew _ (by simp))
      have hRO : w3.heap[w2.heap.size + 1 + 1 + 1 + 1]? = some (.cells #[.slice (some ⟨w2.heap.size, 0, none⟩) 4 4, .slice (some ⟨w2.heap.size + 1, 0, none⟩) 4 4, .slice (some ⟨w2.heap.size + 1 + 1, 0, none⟩) 4 4, .slice (some ⟨w2.heap.size + 1 + 1 + 1, 0, none⟩) 4 4] 46 (0, 0)) := by rw [← hw3]; exact hnew _ (by simp)
      clear hw3
      obtain ⟨go, hgo⟩ : ∃ x, x = w2.heap.size + 1 + 1 + 1 + 1 := ⟨_, rfl⟩
      rw [← hgo] at hRO
      have HcR : Hid (∀ q, q < 4 → ∃ gq, w3.cell? ⟨go, q, none⟩ = some (.slice (some ⟨gq, 0, none⟩) 4 4) ∧ ∀ r, r < 4 → w3.cell? ⟨gq, r, none⟩ = some (.int .i64 (Rl.getD (q * 4 + r) 0 : Int))) := by
        intro q hq
        rcases (by omega : q = 0 ∨ q = 1 ∨ q = 2 ∨ q = 3) with rfl | rfl | rfl | rfl
        · exact ⟨w2.heap.size, by rw [cell_of_row _ _ _ _ _ _ hRO]; rfl, fun r hr => by rw [cell_of_row _ _ _ _ _ _ hR0]; rcases (by omega : r = 0 ∨ r = 1 ∨ r = 2 ∨ r = 3) with rfl | rfl | rfl | rfl <;> rfl⟩
        · exact ⟨w2.heap.size + 1, by rw [cell_of_row _ _ _ _ _ _ hRO]; rfl, fun r hr => by rw [cell_of_row _ _ _ _ _ _ hR1]; rcases (by omega : r = 0 ∨ r = 1 ∨ r = 2 ∨ r = 3) with rfl | rfl | rfl | rfl <;> rfl⟩
        · exact ⟨w2.heap.size + 1 + 1, by rw [cell_of_row _ _ _ _ _ _ hRO]; rfl, fun r hr => by rw [cell_of_row _ _ _ _ _ _ hR2]; rcases (by omega : r = 0 ∨ r = 1 ∨ r = 2 ∨ r = 3) with rfl | rfl | rfl | rfl <;> rfl⟩
        · exact ⟨w2.heap.size + 1 + 1 + 1, by rw [cell_of_row _ _ _ _ _ _ hRO]; rfl, fun r hr => by rw [cell_of_row _ _ _ _ _ _ hR3]; rcases (by omega : r = 0 ∨ r = 1 ∨ r = 2 ∨ r = 3) with rfl | rfl | rfl | rfl <;> rfl⟩
      have HcK : Hid (∀ i, i < 64 → w3.cell? ⟨w1.heap.size, i, none⟩ = some (V (mK i))) := by
        intro i hi
        rw [cell_of_row _ _ _ _ _ _ (heap_kept k3 Hk2.out)]
        simp [kV, hi]
      have HcM : Hid (∀ j, j < 16 → w3.cell? ⟨gm, j, none⟩ = some (V (wd l j))) := by
        intro j hj
        obtain ⟨ad, e, _, hc⟩ := (rd_kept (below_kept K2.out k3) Hrm.out).2 (by omega)
        cases e
        have := hc j _ (wds_get l 16 j hj)
        rwa [add0] at this
      have k03 := below_kept (below_kept hK.out K2.out) k3
      have hg0 := heap_kept k03 Hg0.out
      have Hg1' := Lib.hid (heap_kept k03 Hg1.out)
      have HK3 := Lib.hid (HB0.out.trans (Below.mono k03 HB0.out.size))
      have HgS := Lib.hid hg0
      obtain ⟨gk, hgk⟩ : ∃ x, x = w1.heap.size := ⟨_, rfl⟩
      rw [← hgk] at HcK ⊢
      rw [← hgo]
      have hc0 : w3.cell? ⟨w.heap.size, 0, none⟩ = some (V a) := by rw [cell_of_row _ _ _ _ _ _ hg0]; rfl
      have hc1 : w3.cell? ⟨w.heap.size, 1, none⟩ = some (V b) := by rw [cell_of_row _ _ _ _ _ _ hg0]; rfl
      have hc2 : w3.cell? ⟨w.heap.size, 2, none⟩ = some (V c) := by rw [cell_of_row _ _ _ _ _ _ hg0]; rfl
      have hc3 : w3.cell? ⟨w.heap.size, 3, none⟩ = some (V d) := by rw [cell_of_row _ _ _ _ _ _ hg0]; rfl
      clear hR0 hR1 hR2 hR3 hRO k3 k03 hg0 hgo hgk Hk2 K2 Hrm HB0 Hg0 Hg1 hi hz0 hz1 hz2 hcm
      go_quiet (fail)
      clear hc0 hc1 hc2 hc3
      go_wp2_with fail
      go_loopw [9, 10, 11, 12, 13] (fun va vb vc vd iv wr => ∃ (i : Nat) (p q r s : BitVec 32), i ≤ 64 ∧ iv = .int .i64 i ∧ va = V p ∧ vb = V q ∧ vc = V r ∧ vd = V s ∧ Hid (turnsL l i (a, b, c, d) = (p, q, r, s)) ∧ Below w.heap.size w wr ∧ Hid (wr.heap = w3.heap)) (fun _ _ _ _ iv _ => 64 - (intOf iv).toNat)
      case atStart => exact ⟨0, a, b, c, d, by omega, rfl, rfl, rfl, rfl, rfl, rfl, below_drewN HK3.out _, rfl⟩
      case round =>
        obtain ⟨i, p, q, r, s, hi, rfl, rfl, rfl, rfl, rfl, ht, hBr, hh⟩ := hrel
        by_cases hi64 : i < 64
        · have hiI : (i : Int) < 64 := by omega
          have hcw : ∀ p : Addr, wr.cell? p = w3.cell? p := fun p => World.cell?_of_block (by rw [hh.out])
          have cK := HcK.out i hi64
          rw [← hcw] at cK
          obtain ⟨kk, hkk⟩ : ∃ x, mK i = x := ⟨_, rfl⟩
          rw [hkk] at cK
          obtain ⟨q16, hq16⟩ : ∃ x, i / 16 = x := ⟨_, rfl⟩
          obtain ⟨r4, hr4⟩ : ∃ x, i % 4 = x := ⟨_, rfl⟩
          obtain ⟨rr, hrr⟩ : ∃ x, mR i = x := ⟨_, rfl⟩
          have hr32 : rr < 32 := by rw [← hrr]; exact mR_lt i
          obtain ⟨gq, cO, cR'⟩ := HcR.out q16 (by omega)
          have cR := cR' r4 (by omega)
          rw [← hcw] at cO cR
          rw [show Rl.getD (q16 * 4 + r4) 0 = rr from by rw [← hrr, mR, hq16, hr4]] at cR
          have hkq : (i : Int) / 16 = (q16 : Int) := by omega
          have hkr : (i : Int) % 4 = (r4 : Int) := by omega
          have hq4 : (q16 : Int) < 4 := by omega
          have hr44 : (r4 : Int) < 4 := by omega
          have HcM' := HcM
          have HcM : Hid (∀ j, j < 16 → wr.cell? ⟨gm, j, none⟩ = some (V (wd l j))) := fun j hj => (hcw _).trans (HcM'.out j hj)
          clear hq16 hr4 cR' HcM' hcw
          rcases (by omega : i < 16 ∨ (16 ≤ i ∧ i < 32) ∨ (32 ≤ i ∧ i < 48) ∨ (48 ≤ i ∧ i < 64)) with hF | hF | hF | hF
          · have hi16 : ¬ (16 : Int) ≤ (i : Int) := by omega
            have hi32 : ¬ (32 : Int) ≤ (i : Int) := by omega
            have hi48 : ¬ (48 : Int) ≤ (i : Int) := by omega
            obtain ⟨x1, hx1⟩ : ∃ x, q &&& r = x := ⟨_, rfl⟩
            obtain ⟨n1, hn1⟩ : ∃ x, ~~~q = x := ⟨_, rfl⟩
            obtain ⟨x2, hx2⟩ : ∃ x, n1 &&& s = x := ⟨_, rfl⟩
            obtain ⟨x3, hx3⟩ : ∃ x, x1 ||| x2 = x := ⟨_, rfl⟩
            have f1 := and_v q r
            have f2 := not_v q
            have f3 := and_v n1 s
            have f4 := or_v x1 x2
            rw [hx1] at f1
            rw [hn1] at f2
            rw [hx2] at f3
            rw [hx3] at f4
            have hFf : mF i q r s = x3 := by rw [mF, if_pos (by omega), hx1, hn1, hx2, hx3]
            have hGg : mG i = i := by rw [mG, if_pos (by omega)]
            have cM := HcM.out i (by omega)
            obtain ⟨mm, hmm⟩ : ∃ x, wd l i = x := ⟨_, rfl⟩
            rw [hmm] at cM
            obtain ⟨t1, ht1⟩ : ∃ x, p + x3 = x := ⟨_, rfl⟩
            obtain ⟨t2, ht2⟩ : ∃ x, t1 + kk = x := ⟨_, rfl⟩
            obtain ⟨tt, htt⟩ : ∃ x, t2 + mm = x := ⟨_, rfl⟩
            obtain ⟨ro, hro⟩ : ∃ x, rot tt rr = x := ⟨_, rfl⟩
            obtain ⟨qq, hqq⟩ : ∃ x, q + ro = x := ⟨_, rfl⟩
            have e1 := add_v p x3
            have e2 := add_v t1 kk
            have e3 := add_v t2 mm
            have e4 := add_v q ro
            rw [ht1] at e1
            rw [ht2] at e2
            rw [htt] at e3
            rw [hqq] at e4
            have CR := Lib.hid fun W => rotated_any tt rr hr32 W
            rw [hro] at CR
            have Hnext : Hid (turnsL l (i + 1) (a, b, c, d) = (s, qq, q, r)) := by
              show turn l i (turnsL l i (a, b, c, d)) = _
              rw [ht.out]
              unfold turn
              simp only [hFf, hkk, hGg, hmm, hrr, ht1, ht2, htt, hro, hqq]
            have hgI : (i : Int) < 16 := by omega
            clear hx1 hn1 hx2 hx3 hFf hGg hmm ht1 ht2 htt hro hqq hkk hrr
            go_wp2_with fail
            go_quiet (fail)
            go_wp2_with (go_at_call 45; refine (CR.out _).mono ?_; rintro e w' ⟨rfl, rfl⟩)
            go_roundw
            case rel => exact ⟨i + 1, s, qq, q, r, by omega, by go_num, rfl, rfl, rfl, rfl, Hnext, below_drewN hBr _, hh⟩
            case measure => simp [intOf]; omega
          · have hi16 : (16 : Int) ≤ (i : Int) := by omega
            have hi32 : ¬ (32 : Int) ≤ (i : Int) := by omega
            have hi48 : ¬ (48 : Int) ≤ (i : Int) := by omega
            obtain ⟨x1, hx1⟩ : ∃ x, q &&& r = x := ⟨_, rfl⟩
            obtain ⟨n1, hn1⟩ : ∃ x, ~~~q = x := ⟨_, rfl⟩
            obtain ⟨x2, hx2⟩ : ∃ x, n1 &&& s = x := ⟨_, rfl⟩
            obtain ⟨x3, hx3⟩ : ∃ x, x1 ||| x2 = x := ⟨_, rfl⟩
            have f1 := and_v q r
            have f2 := not_v q
            have f3 := and_v n1 s
            have f4 := or_v x1 x2
            rw [hx1] at f1
            rw [hn1] at f2
            rw [hx2] at f3
            rw [hx3] at f4
            obtain ⟨y1, hy1⟩ : ∃ x, s &&& q = x := ⟨_, rfl⟩
            obtain ⟨n2, hn2⟩ : ∃ x, ~~~s = x := ⟨_, rfl⟩
            obtain ⟨y2, hy2⟩ : ∃ x, n2 &&& r = x := ⟨_, rfl⟩
            obtain ⟨y3, hy3⟩ : ∃ x, y1 ||| y2 = x := ⟨_, rfl⟩
            have f5 := and_v s q
            have f6 := not_v s
            have f7 := and_v n2 r
            have f8 := or_v y1 y2
            rw [hy1] at f5
            rw [hn2] at f6
            rw [hy2] at f7
            rw [hy3] at f8
            obtain ⟨g1, hg1⟩ : ∃ x, (5 * i + 1) % 16 = x := ⟨_, rfl⟩
            have hg1I : (5 * (i : Int) + 1) % 16 = (g1 : Int) := by omega
            have hg1T : (5 * (i : Int) + 1).tmod 16 = (g1 : Int) := by rw [Int.tmod_eq_emod_of_nonneg (by omega)]; exact hg1I
            have hg1B : g1 < 16 := by omega
            have hFf : mF i q r s = y3 := by rw [mF, if_neg (by omega), if_pos (by omega), hy1, hn2, hy2, hy3]
            have hGg : mG i = g1 := by rw [mG, if_neg (by omega), if_pos (by omega), hg1]
            have cM := HcM.out g1 (by omega)
            obtain ⟨mm, hmm⟩ : ∃ x, wd l g1 = x := ⟨_, rfl⟩
            rw [hmm] at cM
            obtain ⟨t1, ht1⟩ : ∃ x, p + y3 = x := ⟨_, rfl⟩
            obtain ⟨t2, ht2⟩ : ∃ x, t1 + kk = x := ⟨_, rfl⟩
            obtain ⟨tt, htt⟩ : ∃ x, t2 + mm = x := ⟨_, rfl⟩
            obtain ⟨ro, hro⟩ : ∃ x, rot tt rr = x := ⟨_, rfl⟩
            obtain ⟨qq, hqq⟩ : ∃ x, q + ro = x := ⟨_, rfl⟩
            have e1 := add_v p y3
            have e2 := add_v t1 kk
            have e3 := add_v t2 mm
            have e4 := add_v q ro
            rw [ht1] at e1
            rw [ht2] at e2
            rw [htt] at e3
            rw [hqq] at e4
            have CR := Lib.hid fun W => rotated_any tt rr hr32 W
            rw [hro] at CR
            have Hnext : Hid (turnsL l (i + 1) (a, b, c, d) = (s, qq, q, r)) := by
              show turn l i (turnsL l i (a, b, c, d)) = _
              rw [ht.out]
              unfold turn
              simp only [hFf, hkk, hGg, hmm, hrr, ht1, ht2, htt, hro, hqq]
            have hgI : (g1 : Int) < 16 := by omega
            clear hx1 hn1 hx2 hx3 hFf hGg hmm ht1 ht2 htt hro hqq hkk hrr hy1 hn2 hy2 hy3 hg1
            go_wp2_with fail
            go_quiet (fail)
            go_wp2_with (go_at_call 45; refine (CR.out _).mono ?_; rintro e w' ⟨rfl, rfl⟩)
            go_roundw
            case rel => exact ⟨i + 1, s, qq, q, r, by omega, by go_num, rfl, rfl, rfl, rfl, Hnext, below_drewN hBr _, hh⟩
            case measure => simp [intOf]; omega
          · have hi16 : (16 : Int) ≤ (i : Int) := by omega
            have hi32 : (32 : Int) ≤ (i : Int) := by omega
            have hi48 : ¬ (48 : Int) ≤ (i : Int) := by omega
            obtain ⟨x1, hx1⟩ : ∃ x, q &&& r = x := ⟨_, rfl⟩
            obtain ⟨n1, hn1⟩ : ∃ x, ~~~q = x := ⟨_, rfl⟩
            obtain ⟨x2, hx2⟩ : ∃ x, n1 &&& s = x := ⟨_, rfl⟩
            obtain ⟨x3, hx3⟩ : ∃ x, x1 ||| x2 = x := ⟨_, rfl⟩
            have f1 := and_v q r
            have f2 := not_v q
            have f3 := and_v n1 s
            have f4 := or_v x1 x2
            rw [hx1] at f1
            rw [hn1] at f2
            rw [hx2] at f3
            rw [hx3] at f4
            obtain ⟨y1, hy1⟩ : ∃ x, s &&& q = x := ⟨_, rfl⟩
            obtain ⟨n2, hn2⟩ : ∃ x, ~~~s = x := ⟨_, rfl⟩
            obtain ⟨y2, hy2⟩ : ∃ x, n2 &&& r = x := ⟨_, rfl⟩
            obtain ⟨y3, hy3⟩ : ∃ x, y1 ||| y2 = x := ⟨_, rfl⟩
            have f5 := and_v s q
            have f6 := not_v s
            have f7 := and_v n2 r
            have f8 := or_v y1 y2
            rw [hy1] at f5
            rw [hn2] at f6
            rw [hy2] at f7
            rw [hy3] at f8
            obtain ⟨g1, hg1⟩ : ∃ x, (5 * i + 1) % 16 = x := ⟨_, rfl⟩
            have hg1I : (5 * (i : Int) + 1) % 16 = (g1 : Int) := by omega
            have hg1T : (5 * (i : Int) + 1).tmod 16 = (g1 : Int) := by rw [Int.tmod_eq_emod_of_nonneg (by omega)]; exact hg1I
            have hg1B : g1 < 16 := by omega
            obtain ⟨z1, hz1'⟩ : ∃ x, q ^^^ r = x := ⟨_, rfl⟩
            obtain ⟨z2, hz2'⟩ : ∃ x, z1 ^^^ s = x := ⟨_, rfl⟩
            have f9 := xor_v q r
            have f10 := xor_v z1 s
            rw [hz1'] at f9
            rw [hz2'] at f10
            obtain ⟨g2, hg2⟩ : ∃ x, (3 * i + 5) % 16 = x := ⟨_, rfl⟩
            have hg2I : (3 * (i : Int) + 5) % 16 = (g2 : Int) := by omega
            have hg2T : (3 * (i : Int) + 5).tmod 16 = (g2 : Int) := by rw [Int.tmod_eq_emod_of_nonneg (by omega)]; exact hg2I
            have hg2B : g2 < 16 := by omega
            have hFf : mF i q r s = z2 := by rw [mF, if_neg (by omega), if_neg (by omega), if_pos (by omega), hz1', hz2']
            have hGg : mG i = g2 := by rw [mG, if_neg (by omega), if_neg (by omega), if_pos (by omega), hg2]
            have cM := HcM.out g2 (by omega)
            obtain ⟨mm, hmm⟩ : ∃ x, wd l g2 = x := ⟨_, rfl⟩
            rw [hmm] at cM
            obtain ⟨t1, ht1⟩ : ∃ x, p + z2 = x := ⟨_, rfl⟩
            obtain ⟨t2, ht2⟩ : ∃ x, t1 + kk = x := ⟨_, rfl⟩
            obtain ⟨tt, htt⟩ : ∃ x, t2 + mm = x := ⟨_, rfl⟩
            obtain ⟨ro, hro⟩ : ∃ x, rot tt rr = x := ⟨_, rfl⟩
            obtain ⟨qq, hqq⟩ : ∃ x, q + ro = x := ⟨_, rfl⟩
            have e1 := add_v p z2
            have e2 := add_v t1 kk
            have e3 := add_v t2 mm
            have e4 := add_v q ro
            rw [ht1] at e1
            rw [ht2] at e2
            rw [htt] at e3
            rw [hqq] at e4
            have CR := Lib.hid fun W => rotated_any tt rr hr32 W
            rw [hro] at CR
            have Hnext : Hid (turnsL l (i + 1) (a, b, c, d) = (s, qq, q, r)) := by
              show turn l i (turnsL l i (a, b, c, d)) = _
              rw [ht.out]
              unfold turn
              simp only [hFf, hkk, hGg, hmm, hrr, ht1, ht2, htt, hro, hqq]
            have hgI : (g2 : Int) < 16 := by omega
            clear hx1 hn1 hx2 hx3 hFf hGg hmm ht1 ht2 htt hro hqq hkk hrr hy1 hn2 hy2 hy3 hg1 hz1' hz2' hg2
            go_wp2_with fail
            go_quiet (fail)
            go_wp2_with (go_at_call 45; refine (CR.out _).mono ?_; rintro e w' ⟨rfl, rfl⟩)
            go_roundw
            case rel => exact ⟨i + 1, s, qq, q, r, by omega, by go_num, rfl, rfl, rfl, rfl, Hnext, below_drewN hBr _, hh⟩
            case measure => simp [intOf]; omega
          · have hi16 : (16 : Int) ≤ (i : Int) := by omega
            have hi32 : (32 : Int) ≤ (i : Int) := by omega
            have hi48 : (48 : Int) ≤ (i : Int) := by omega
            obtain ⟨x1, hx1⟩ : ∃ x, q &&& r = x := ⟨_, rfl⟩
            obtain ⟨n1, hn1⟩ : ∃ x, ~~~q = x := ⟨_, rfl⟩
            obtain ⟨x2, hx2⟩ : ∃ x, n1 &&& s = x := ⟨_, rfl⟩
            obtain ⟨x3, hx3⟩ : ∃ x, x1 ||| x2 = x := ⟨_, rfl⟩
            have f1 := and_v q r
            have f2 := not_v q
            have f3 := and_v n1 s
            have f4 := or_v x1 x2
            rw [hx1] at f1
            rw [hn1] at f2
            rw [hx2] at f3
            rw [hx3] at f4
            obtain ⟨y1, hy1⟩ : ∃ x, s &&& q = x := ⟨_, rfl⟩
            obtain ⟨n2, hn2⟩ : ∃ x, ~~~s = x := ⟨_, rfl⟩
            obtain ⟨y2, hy2⟩ : ∃ x, n2 &&& r = x := ⟨_, rfl⟩
            obtain ⟨y3, hy3⟩ : ∃ x, y1 ||| y2 = x := ⟨_, rfl⟩
            have f5 := and_v s q
            have f6 := not_v s
            have f7 := and_v n2 r
            have f8 := or_v y1 y2
            rw [hy1] at f5
            rw [hn2] at f6
            rw [hy2] at f7
            rw [hy3] at f8
            obtain ⟨g1, hg1⟩ : ∃ x, (5 * i + 1) % 16 = x := ⟨_, rfl⟩
            have hg1I : (5 * (i : Int) + 1) % 16 = (g1 : Int) := by omega
            have hg1T : (5 * (i : Int) + 1).tmod 16 = (g1 : Int) := by rw [Int.tmod_eq_emod_of_nonneg (by omega)]; exact hg1I
            have hg1B : g1 < 16 := by omega
            obtain ⟨z1, hz1'⟩ : ∃ x, q ^^^ r = x := ⟨_, rfl⟩
            obtain ⟨z2, hz2'⟩ : ∃ x, z1 ^^^ s = x := ⟨_, rfl⟩
            have f9 := xor_v q r
            have f10 := xor_v z1 s
            rw [hz1'] at f9
            rw [hz2'] at f10
            obtain ⟨g2, hg2⟩ : ∃ x, (3 * i + 5) % 16 = x := ⟨_, rfl⟩
            have hg2I : (3 * (i : Int) + 5) % 16 = (g2 : Int) := by omega
            have hg2T : (3 * (i : Int) + 5).tmod 16 = (g2 : Int) := by rw [Int.tmod_eq_emod_of_nonneg (by omega)]; exact hg2I
            have hg2B : g2 < 16 := by omega
            obtain ⟨u1, hu1⟩ : ∃ x, q ||| n2 = x := ⟨_, rfl⟩
            obtain ⟨u2, hu2⟩ : ∃ x, r ^^^ u1 = x := ⟨_, rfl⟩
            have f11 := or_v q n2
            have f12 := xor_v r u1
            rw [hu1] at f11
            rw [hu2] at f12
            obtain ⟨g3, hg3⟩ : ∃ x, 7 * i % 16 = x := ⟨_, rfl⟩
            have hg3I : 7 * (i : Int) % 16 = (g3 : Int) := by omega
            have hg3T : (7 * (i : Int)).tmod 16 = (g3 : Int) := by rw [Int.tmod_eq_emod_of_nonneg (by omega)]; exact hg3I
            have hg3B : g3 < 16 := by omega
            have hFf : mF i q r s = u2 := by rw [mF, if_neg (by omega), if_neg (by omega), if_neg (by omega), hn2, hu1, hu2]
            have hGg : mG i = g3 := by rw [mG, if_neg (by omega), if_neg (by omega), if_neg (by omega), hg3]
            have cM := HcM.out g3 (by omega)
            obtain ⟨mm, hmm⟩ : ∃ x, wd l g3 = x := ⟨_, rfl⟩
            rw [hmm] at cM
            obtain ⟨t1, ht1⟩ : ∃ x, p + u2 = x := ⟨_, rfl⟩
            obtain ⟨t2, ht2⟩ : ∃ x, t1 + kk = x := ⟨_, rfl⟩
            obtain ⟨tt, htt⟩ : ∃ x, t2 + mm = x := ⟨_, rfl⟩
            obtain ⟨ro, hro⟩ : ∃ x, rot tt rr = x := ⟨_, rfl⟩
            obtain ⟨qq, hqq⟩ : ∃ x, q + ro = x := ⟨_, rfl⟩
            have e1 := add_v p u2
            have e2 := add_v t1 kk
            have e3 := add_v t2 mm
            have e4 := add_v q ro
            rw [ht1] at e1
            rw [ht2] at e2
            rw [htt] at e3
            rw [hqq] at e4
            have CR := Lib.hid fun W => rotated_any tt rr hr32 W
            rw [hro] at CR
            have Hnext : Hid (turnsL l (i + 1) (a, b, c, d) = (s, qq, q, r)) := by
              show turn l i (turnsL l i (a, b, c, d)) = _
              rw [ht.out]
              unfold turn
              simp only [hFf, hkk, hGg, hmm, hrr, ht1, ht2, htt, hro, hqq]
            have hgI : (g3 : Int) < 16 := by omega
            clear hx1 hn1 hx2 hx3 hFf hGg hmm ht1 ht2 htt hro hqq hkk hrr hy1 hn2 hy2 hy3 hg1 hz1' hz2' hg2 hu1 hu2 hg3
            go_wp2_with fail
            go_quiet (fail)
            go_wp2_with (go_at_call 45; refine (CR.out _).mono ?_; rintro e w' ⟨rfl, rfl⟩)
            go_roundw
            case rel => exact ⟨i + 1, s, qq, q, r, by omega, by go_num, rfl, rfl, rfl, rfl, Hnext, below_drewN hBr _, hh⟩
            case measure => simp [intOf]; omega
        · obtain rfl : i = 64 := by omega
          have hx : wr.heap[w.heap.size]? = some (.cells #[V a, V b, V c, V d] 69 (0, 0)) := by rw [hh.out]; exact HgS.out
          have hr : wr.heap[w.heap.size + 1]? = some (.cells #[.int .u32 0, .int .u32 0, .int .u32 0, .int .u32 0] 69 (0, 0)) := by rw [hh.out]; exact Hg1'.out
          have hc0 : wr.cell? ⟨w.heap.size, 0, none⟩ = some (V a) := by rw [cell_of_row _ _ _ _ _ _ hx]; rfl
          have hc1 : wr.cell? ⟨w.heap.size, 1, none⟩ = some (V b) := by rw [cell_of_row _ _ _ _ _ _ hx]; rfl
          have hc2 : wr.cell? ⟨w.heap.size, 2, none⟩ = some (V c) := by rw [cell_of_row _ _ _ _ _ _ hx]; rfl
          have hc3 : wr.cell? ⟨w.heap.size, 3, none⟩ = some (V d) := by rw [cell_of_row _ _ _ _ _ _ hx]; rfl
          have hres : vals (stp (a, b, c, d) l) = #[V (a + p), V (b + q), V (c + r), V (d + s)] := by
            unfold stp
            rw [ht.out]
            rfl
          have e0 := add_v a p
          have e1 := add_v b q
          have e2 := add_v c r
          have e3 := add_v d s
          generalize a + p = xa at *
          generalize b + q = xb at *
          generalize c + r = xc at *
          generalize d + s = xd at *
          have Hr := Lib.hid hr
          have Hres := Lib.hid hres
          clear hx hr hres
          have hsz4 : (Tryd.prog.info? 69).map (·.size) = some 4 := by kernel_rfl
          have Hsz4 := Lib.hid hsz4
          clear hsz4
          go_wp2_with ((refine wpList_store_row ?c0 69 (.tmp 4) (.tmp 161) ?c1 (w.heap.size + 1) #[V xa, V xb, V xc, V xd] ?c2 ?c3 _ _ Hr.out ?c4 ?c5 ?c6 ?_); (case c0 => with_reducible rfl); (case c1 => with_reducible rfl); (case c2 => rfl); (case c3 => rfl); (case c4 => exact Hsz4.out); (case c5 => rfl); (case c6 => simp [Value.oneCell']))
          exact bodyPost_ret (results_cell_row Tryd.results33 _ _ (w.heap.size + 1) _ #[V xa, V xb, V xc, V xd] (0, 0) _ rfl (setRow_heap _ _ _ _ _ _ Hr.out) Tryd.underlying69 rfl Hsz4.out) rfl ⟨by rw [Hres.out], below_setRow hBr (by omega) _⟩
end Go.Proofs.YtlgdbhebcglkoaaDoor
