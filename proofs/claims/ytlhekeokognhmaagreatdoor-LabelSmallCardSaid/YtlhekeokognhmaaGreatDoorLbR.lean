/-
  awake: the chapter's examples.
-/
import Derived.Test.YtlhekeokognhmaaGreatDoorMgap
namespace Go.Proofs.YtlhekeokognhmaaGreatDoor
open Go.RowKit Go.Shelf Go.Maps Go.Sort
def goodN : List ByteArray := [⟨#[106, 111, 98]⟩, ⟨#[95, 95, 110, 97, 109, 101, 95, 95]⟩, ⟨#[97, 49]⟩, ⟨#[95]⟩]
def badN : List ByteArray := [⟨#[49, 97]⟩, ⟨#[97, 45, 98]⟩, ⟨#[97, 58, 98]⟩, ⟨#[195, 169]⟩, ⟨#[]⟩]
theorem goodN_all : ∀ s ∈ goodN, nmB namB s = true := by
  have h : goodN.all (fun s => nmB namB s) = true := by kernel_rfl
  exact fun s hs => List.all_eq_true.1 h s hs
theorem badN_all : ∀ s ∈ badN, nmB namB s = false := by
  have h : badN.all (fun s => !nmB namB s) = true := by kernel_rfl
  exact fun s hs => by have := List.all_eq_true.1 h s hs; simpa using this
theorem goodN_at (W : World) (k : Nat) (hk : k < 4) : ∃ s, (W.alloc (.cells #[.string ⟨#[106, 111, 98]⟩, .string ⟨#[95, 95, 110, 97, 109, 101, 95, 95]⟩, .string ⟨#[97, 49]⟩, .string ⟨#[95]⟩] 9)).cell? ⟨W.heap.size, k, none⟩ = some (.string s) ∧ nmB namB s = true := by
  have hM : (W.alloc (.cells #[.string ⟨#[106, 111, 98]⟩, .string ⟨#[95, 95, 110, 97, 109, 101, 95, 95]⟩, .string ⟨#[97, 49]⟩, .string ⟨#[95]⟩] 9)).heap[W.heap.size]? = some (.cells #[.string ⟨#[106, 111, 98]⟩, .string ⟨#[95, 95, 110, 97, 109, 101, 95, 95]⟩, .string ⟨#[97, 49]⟩, .string ⟨#[95]⟩] 9) := heap_alloc_new _ _
  rcases (by omega : k = 0 ∨ k = 1 ∨ k = 2 ∨ k = 3) with rfl | rfl | rfl | rfl <;>
    exact ⟨_, by rw [cell_of_row _ _ _ _ _ _ hM]; rfl, by kernel_rfl⟩
theorem badN_at (W : World) (k : Nat) (hk : k < 5) : ∃ s, (W.alloc (.cells #[.string ⟨#[49, 97]⟩, .string ⟨#[97, 45, 98]⟩, .string ⟨#[97, 58, 98]⟩, .string ⟨#[195, 169]⟩, .string ⟨#[]⟩] 9)).cell? ⟨W.heap.size, k, none⟩ = some (.string s) ∧ nmB namB s = false := by
  have hM : (W.alloc (.cells #[.string ⟨#[49, 97]⟩, .string ⟨#[97, 45, 98]⟩, .string ⟨#[97, 58, 98]⟩, .string ⟨#[195, 169]⟩, .string ⟨#[]⟩] 9)).heap[W.heap.size]? = some (.cells #[.string ⟨#[49, 97]⟩, .string ⟨#[97, 45, 98]⟩, .string ⟨#[97, 58, 98]⟩, .string ⟨#[195, 169]⟩, .string ⟨#[]⟩] 9) := heap_alloc_new _ _
  rcases (by omega : k = 0 ∨ k = 1 ∨ k = 2 ∨ k = 3 ∨ k = 4) with rfl | rfl | rfl | rfl | rfl <;>
    exact ⟨_, by rw [cell_of_row _ _ _ _ _ _ hM]; rfl, by kernel_rfl⟩
set_option maxRecDepth 100000 in
set_option maxHeartbeats 40000000 in
theorem awake_any (w : World) (hT : Tab w) : Calls Tryz.prog 7 #[] w fun e w' => e = .returned (.bool true) ∧ Kept w w' := by
  have HG := Lib.hid (goodN_at w)
  have HT := Lib.hid hT
  clear hT
  go_enter Tryz.func7, Tryz.ntmps7
  go_wp2_with fail
  obtain ⟨w0, hw0⟩ : ∃ x, x = w.alloc (.cells #[.string ⟨#[106, 111, 98]⟩, .string ⟨#[95, 95, 110, 97, 109, 101, 95, 95]⟩, .string ⟨#[97, 49]⟩, .string ⟨#[95]⟩] 9) := ⟨_, rfl⟩
  have HK0 : Hid (Kept w w0) := by rw [hw0]; exact (Below.refl w.heap.size w).alloc (Nat.le_refl _) _
  have hsz : w.heap.size < w0.heap.size := by rw [hw0]; simp
  rw [← hw0] at HG ⊢
  clear hw0
  go_loopw [21] (fun v21 wr => ∃ k : Nat, k ≤ 4 ∧ v21 = .int .i64 k ∧ Hid (Kept w0 wr)) (fun v21 _ => 4 - (intOf v21).toNat)
  case atStart => exact ⟨0, by omega, rfl, Below.refl _ _⟩
  case round =>
    obtain ⟨k, hk, rfl, hkr⟩ := hrel
    by_cases hkn : k < 4
    · obtain ⟨s, hs, hn⟩ := HG.out k hkn
      have hc := (Below.cell hkr.out (p := ⟨w.heap.size, k, none⟩) hsz).trans hs
      have C := Lib.hid (name_any s wr)
      rw [hn] at C
      clear hs hn
      go_wp2_with (go_at_call 42; refine C.out.mono ?_; rintro e w2 ⟨rfl, hk2⟩; have HK2 := Lib.hid (below_kept hkr.out hk2); clear hk2)
      go_roundw
      case rel => exact ⟨k + 1, by omega, by go_num, HK2⟩
      case measure => simp [intOf]; omega
    · have hkn4 : ¬ (k : Int) < 4 := by omega
      obtain ⟨k4, rfl⟩ : ∃ x, x = k := ⟨_, rfl⟩
      obtain ⟨w1, rfl⟩ : ∃ x, x = wr := ⟨_, rfl⟩
      have HB := Lib.hid (badN_at w1)
      go_wp2_with fail
      obtain ⟨w2, hw2⟩ : ∃ x, x = w1.alloc (.cells #[.string ⟨#[49, 97]⟩, .string ⟨#[97, 45, 98]⟩, .string ⟨#[97, 58, 98]⟩, .string ⟨#[195, 169]⟩, .string ⟨#[]⟩] 9) := ⟨_, rfl⟩
      have HK2 : Hid (Kept w w2) := by rw [hw2]; exact below_alloc0 (below_kept HK0.out hkr.out) _
      have hsz2 : w1.heap.size < w2.heap.size := by rw [hw2]; simp
      rw [← hw2] at HB ⊢
      clear hw2 HG hsz hkr hkn4 hkn hk
      go_loopw [31] (fun v31 wr => ∃ k : Nat, k ≤ 5 ∧ v31 = .int .i64 k ∧ Hid (Kept w2 wr)) (fun v31 _ => 5 - (intOf v31).toNat)
      case atStart => exact ⟨0, by omega, rfl, Below.refl _ _⟩
      case round =>
        obtain ⟨k, hk, rfl, hkr⟩ := hrel
        by_cases hkn : k < 5
        · obtain ⟨s, hs, hn⟩ := HB.out k hkn
          have hc := (Below.cell hkr.out (p := ⟨w1.heap.size, k, none⟩) hsz2).trans hs
          have C := Lib.hid (name_any s wr)
          rw [hn] at C
          clear hs hn
          go_wp2_with (go_at_call 42; refine C.out.mono ?_; rintro e w3 ⟨rfl, hk2⟩; have HK3 := Lib.hid (below_kept hkr.out hk2); clear hk2)
          go_roundw
          case rel => exact ⟨k + 1, by omega, by go_num, HK3⟩
          case measure => simp [intOf]; omega
        · have hkn5 : ¬ (k : Int) < 5 := by omega
          have HK3 := Lib.hid (below_kept HK2.out hkr.out)
          obtain ⟨wa, rfl⟩ : ∃ x, x = wr := ⟨_, rfl⟩
          clear HB hsz2 hkr HK2 HK0
          go_wp2_with fail
          refine (of6 _ _ _ _ _ _ _).mono ?_
          rintro e w1_ ⟨Aq1, cq1, rfl, hr, hk⟩
          have RLq1 : Hid (RdL w1_ w1_.heap.size Aq1 [(⟨#[106, 111, 98]⟩, ⟨#[120]⟩), (⟨#[97]⟩, ⟨#[49]⟩), (⟨#[98]⟩, ⟨#[]⟩)]) := hr
          have K1 := Lib.hid (below_kept HK3.out hk)
          clear hr hk HK3
          go_wp2_with fail
          refine (of_good Aq1 cq1 [(⟨#[106, 111, 98]⟩, ⟨#[120]⟩), (⟨#[97]⟩, ⟨#[49]⟩), (⟨#[98]⟩, ⟨#[]⟩)] [(⟨#[97]⟩, ⟨#[49]⟩), (⟨#[106, 111, 98]⟩, ⟨#[120]⟩)] _ (by simp) RLq1.out (HT.out.below K1.out) (by kernel_rfl) (by kernel_rfl) (by kernel_rfl) (by simp)).mono ?_
          rintro e w2_ ⟨Aa, ca, rfl, hr, hk⟩
          replace RLq1 := Lib.hid ((RLq1.out.below hk).more (Below.size hk))
          have RLa : Hid (RdL w2_ w2_.heap.size Aa [(⟨#[97]⟩, ⟨#[49]⟩), (⟨#[106, 111, 98]⟩, ⟨#[120]⟩)]) := hr
          have K2 := Lib.hid (below_kept K1.out hk)
          clear hr hk K1
          clear RLq1
          go_wp2_with fail
          refine (of4 _ _ _ _ _).mono ?_
          rintro e w3_ ⟨Aq1, cq1, rfl, hr, hk⟩
          replace RLa := Lib.hid ((RLa.out.below hk).more (Below.size hk))
          have RLq1 : Hid (RdL w3_ w3_.heap.size Aq1 [(⟨#[97]⟩, ⟨#[49]⟩), (⟨#[97]⟩, ⟨#[]⟩)]) := hr
          have K3 := Lib.hid (below_kept K2.out hk)
          clear hr hk K2
          go_wp2_with fail
          refine (of_twice Aq1 cq1 [(⟨#[97]⟩, ⟨#[49]⟩), (⟨#[97]⟩, ⟨#[]⟩)] _ (by simp) RLq1.out (HT.out.below K3.out) (by kernel_rfl) (by kernel_rfl)).mono ?_
          rintro e w4_ ⟨rfl, hk⟩
          replace RLa := Lib.hid ((RLa.out.below hk).more (Below.size hk))
          replace RLq1 := Lib.hid ((RLq1.out.below hk).more (Below.size hk))
          have K4 := Lib.hid (below_kept K3.out hk)
          clear hk K3
          clear RLq1
          go_wp2_with fail
          refine (of4 _ _ _ _ _).mono ?_
          rintro e w5_ ⟨Aq1, cq1, rfl, hr, hk⟩
          replace RLa := Lib.hid ((RLa.out.below hk).more (Below.size hk))
          have RLq1 : Hid (RdL w5_ w5_.heap.size Aq1 [(⟨#[97]⟩, ⟨#[49]⟩), (⟨#[106, 111, 98]⟩, ⟨#[120]⟩)]) := hr
          have K5 := Lib.hid (below_kept K4.out hk)
          clear hr hk K4
          go_wp2_with fail
          refine (of4 _ _ _ _ _).mono ?_
          rintro e w6_ ⟨Aq2, cq2, rfl, hr, hk⟩
          replace RLa := Lib.hid ((RLa.out.below hk).more (Below.size hk))
          replace RLq1 := Lib.hid ((RLq1.out.below hk).more (Below.size hk))
          have RLq2 : Hid (RdL w6_ w6_.heap.size Aq2 [(⟨#[97]⟩, ⟨#[]⟩), (⟨#[99]⟩, ⟨#[50]⟩)]) := hr
          have K6 := Lib.hid (below_kept K5.out hk)
          clear hr hk K5
          go_wp2_with fail
          refine (set_good Aq1 Aq2 cq1 cq2 [(⟨#[97]⟩, ⟨#[49]⟩), (⟨#[106, 111, 98]⟩, ⟨#[120]⟩)] [(⟨#[97]⟩, ⟨#[]⟩), (⟨#[99]⟩, ⟨#[50]⟩)] [(⟨#[99]⟩, ⟨#[50]⟩), (⟨#[106, 111, 98]⟩, ⟨#[120]⟩)] _ (by simp) (by simp) RLq1.out RLq2.out (HT.out.below K6.out) (by kernel_rfl) (by kernel_rfl) (by simp)).mono ?_
          rintro e w7_ ⟨Ab, cb, rfl, hr, hk⟩
          replace RLa := Lib.hid ((RLa.out.below hk).more (Below.size hk))
          replace RLq1 := Lib.hid ((RLq1.out.below hk).more (Below.size hk))
          replace RLq2 := Lib.hid ((RLq2.out.below hk).more (Below.size hk))
          have RLb : Hid (RdL w7_ w7_.heap.size Ab [(⟨#[99]⟩, ⟨#[50]⟩), (⟨#[106, 111, 98]⟩, ⟨#[120]⟩)]) := hr
          have K7 := Lib.hid (below_kept K6.out hk)
          clear hr hk K6
          clear RLq1
          clear RLq2
          go_wp2_with fail
          refine (of2 _ _ _).mono ?_
          rintro e w8_ ⟨Aq1, cq1, rfl, hr, hk⟩
          replace RLa := Lib.hid ((RLa.out.below hk).more (Below.size hk))
          replace RLb := Lib.hid ((RLb.out.below hk).more (Below.size hk))
          have RLq1 : Hid (RdL w8_ w8_.heap.size Aq1 [(⟨#[97]⟩, ⟨#[49]⟩)]) := hr
          have K8 := Lib.hid (below_kept K7.out hk)
          clear hr hk K7
          go_wp2_with fail
          refine (of4 _ _ _ _ _).mono ?_
          rintro e w9_ ⟨Aq2, cq2, rfl, hr, hk⟩
          replace RLa := Lib.hid ((RLa.out.below hk).more (Below.size hk))
          replace RLb := Lib.hid ((RLb.out.below hk).more (Below.size hk))
          replace RLq1 := Lib.hid ((RLq1.out.below hk).more (Below.size hk))
          have RLq2 : Hid (RdL w9_ w9_.heap.size Aq2 [(⟨#[97]⟩, ⟨#[50]⟩), (⟨#[98]⟩, ⟨#[51]⟩)]) := hr
          have K9 := Lib.hid (below_kept K8.out hk)
          clear hr hk K8
          go_wp2_with fail
          refine (merge_good Aq1 Aq2 cq1 cq2 [(⟨#[97]⟩, ⟨#[49]⟩)] [(⟨#[97]⟩, ⟨#[50]⟩), (⟨#[98]⟩, ⟨#[51]⟩)] [(⟨#[97]⟩, ⟨#[49]⟩), (⟨#[98]⟩, ⟨#[51]⟩)] _ (by simp) (by simp) RLq1.out RLq2.out (HT.out.below K9.out) (by kernel_rfl) (by kernel_rfl) (by simp)).mono ?_
          rintro e w10_ ⟨Ac, cc, rfl, hr, hk⟩
          replace RLa := Lib.hid ((RLa.out.below hk).more (Below.size hk))
          replace RLb := Lib.hid ((RLb.out.below hk).more (Below.size hk))
          replace RLq1 := Lib.hid ((RLq1.out.below hk).more (Below.size hk))
          replace RLq2 := Lib.hid ((RLq2.out.below hk).more (Below.size hk))
          have RLc : Hid (RdL w10_ w10_.heap.size Ac [(⟨#[97]⟩, ⟨#[49]⟩), (⟨#[98]⟩, ⟨#[51]⟩)]) := hr
          have K10 := Lib.hid (below_kept K9.out hk)
          clear hr hk K9
          clear RLq1
          clear RLq2
          go_wp2_with fail
          refine (of2 _ _ _).mono ?_
          rintro e w11_ ⟨Aq1, cq1, rfl, hr, hk⟩
          replace RLa := Lib.hid ((RLa.out.below hk).more (Below.size hk))
          replace RLb := Lib.hid ((RLb.out.below hk).more (Below.size hk))
          replace RLc := Lib.hid ((RLc.out.below hk).more (Below.size hk))
          have RLq1 : Hid (RdL w11_ w11_.heap.size Aq1 [(⟨#[106, 111, 98]⟩, ⟨#[116]⟩)]) := hr
          have K11 := Lib.hid (below_kept K10.out hk)
          clear hr hk K10
          go_wp2_with fail
          refine (of4 _ _ _ _ _).mono ?_
          rintro e w12_ ⟨Aq2, cq2, rfl, hr, hk⟩
          replace RLa := Lib.hid ((RLa.out.below hk).more (Below.size hk))
          replace RLb := Lib.hid ((RLb.out.below hk).more (Below.size hk))
          replace RLc := Lib.hid ((RLc.out.below hk).more (Below.size hk))
          replace RLq1 := Lib.hid ((RLq1.out.below hk).more (Below.size hk))
          have RLq2 : Hid (RdL w12_ w12_.heap.size Aq2 [(⟨#[106, 111, 98]⟩, ⟨#[115]⟩), (⟨#[120]⟩, ⟨#[49]⟩)]) := hr
          have K12 := Lib.hid (below_kept K11.out hk)
          clear hr hk K11
          go_wp2_with fail
          refine (export_good Aq1 Aq2 cq1 cq2 [(⟨#[106, 111, 98]⟩, ⟨#[116]⟩)] [(⟨#[106, 111, 98]⟩, ⟨#[115]⟩), (⟨#[120]⟩, ⟨#[49]⟩)] [(⟨#[101, 120, 112, 111, 114, 116, 101, 100, 95, 106, 111, 98]⟩, ⟨#[115]⟩), (⟨#[106, 111, 98]⟩, ⟨#[116]⟩), (⟨#[120]⟩, ⟨#[49]⟩)] _ (by simp) (by simp) RLq1.out RLq2.out (HT.out.below K12.out) (by kernel_rfl) (by kernel_rfl) (by simp)).mono ?_
          rintro e w13_ ⟨Ad, cd, rfl, hr, hk⟩
          replace RLa := Lib.hid ((RLa.out.below hk).more (Below.size hk))
          replace RLb := Lib.hid ((RLb.out.below hk).more (Below.size hk))
          replace RLc := Lib.hid ((RLc.out.below hk).more (Below.size hk))
          replace RLq1 := Lib.hid ((RLq1.out.below hk).more (Below.size hk))
          replace RLq2 := Lib.hid ((RLq2.out.below hk).more (Below.size hk))
          have RLd : Hid (RdL w13_ w13_.heap.size Ad [(⟨#[101, 120, 112, 111, 114, 116, 101, 100, 95, 106, 111, 98]⟩, ⟨#[115]⟩), (⟨#[106, 111, 98]⟩, ⟨#[116]⟩), (⟨#[120]⟩, ⟨#[49]⟩)]) := hr
          have K13 := Lib.hid (below_kept K12.out hk)
          clear hr hk K12
          clear RLq1
          clear RLq2
          go_wp2_with fail
          refine (of2 _ _ _).mono ?_
          rintro e w14_ ⟨Aq1, cq1, rfl, hr, hk⟩
          replace RLa := Lib.hid ((RLa.out.below hk).more (Below.size hk))
          replace RLb := Lib.hid ((RLb.out.below hk).more (Below.size hk))
          replace RLc := Lib.hid ((RLc.out.below hk).more (Below.size hk))
          replace RLd := Lib.hid ((RLd.out.below hk).more (Below.size hk))
          have RLq1 : Hid (RdL w14_ w14_.heap.size Aq1 [(⟨#[106, 111, 98]⟩, ⟨#[116]⟩)]) := hr
          have K14 := Lib.hid (below_kept K13.out hk)
          clear hr hk K13
          go_wp2_with fail
          refine (of6 _ _ _ _ _ _ _).mono ?_
          rintro e w15_ ⟨Aq2, cq2, rfl, hr, hk⟩
          replace RLa := Lib.hid ((RLa.out.below hk).more (Below.size hk))
          replace RLb := Lib.hid ((RLb.out.below hk).more (Below.size hk))
          replace RLc := Lib.hid ((RLc.out.below hk).more (Below.size hk))
          replace RLd := Lib.hid ((RLd.out.below hk).more (Below.size hk))
          replace RLq1 := Lib.hid ((RLq1.out.below hk).more (Below.size hk))
          have RLq2 : Hid (RdL w15_ w15_.heap.size Aq2 [(⟨#[101, 120, 112, 111, 114, 116, 101, 100, 95, 106, 111, 98]⟩, ⟨#[117]⟩), (⟨#[106, 111, 98]⟩, ⟨#[115]⟩), (⟨#[120]⟩, ⟨#[49]⟩)]) := hr
          have K15 := Lib.hid (below_kept K14.out hk)
          clear hr hk K14
          go_wp2_with fail
          refine (export_good Aq1 Aq2 cq1 cq2 [(⟨#[106, 111, 98]⟩, ⟨#[116]⟩)] [(⟨#[101, 120, 112, 111, 114, 116, 101, 100, 95, 106, 111, 98]⟩, ⟨#[117]⟩), (⟨#[106, 111, 98]⟩, ⟨#[115]⟩), (⟨#[120]⟩, ⟨#[49]⟩)] [(⟨#[101, 120, 112, 111, 114, 116, 101, 100, 95, 106, 111, 98]⟩, ⟨#[117]⟩), (⟨#[106, 111, 98]⟩, ⟨#[116]⟩), (⟨#[120]⟩, ⟨#[49]⟩)] _ (by simp) (by simp) RLq1.out RLq2.out (HT.out.below K15.out) (by kernel_rfl) (by kernel_rfl) (by simp)).mono ?_
          rintro e w16_ ⟨Ae, ce, rfl, hr, hk⟩
          replace RLa := Lib.hid ((RLa.out.below hk).more (Below.size hk))
          replace RLb := Lib.hid ((RLb.out.below hk).more (Below.size hk))
          replace RLc := Lib.hid ((RLc.out.below hk).more (Below.size hk))
          replace RLd := Lib.hid ((RLd.out.below hk).more (Below.size hk))
          replace RLq1 := Lib.hid ((RLq1.out.below hk).more (Below.size hk))
          replace RLq2 := Lib.hid ((RLq2.out.below hk).more (Below.size hk))
          have RLe : Hid (RdL w16_ w16_.heap.size Ae [(⟨#[101, 120, 112, 111, 114, 116, 101, 100, 95, 106, 111, 98]⟩, ⟨#[117]⟩), (⟨#[106, 111, 98]⟩, ⟨#[116]⟩), (⟨#[120]⟩, ⟨#[49]⟩)]) := hr
          have K16 := Lib.hid (below_kept K15.out hk)
          clear hr hk K15
          clear RLq1
          clear RLq2
          go_wp2_with fail
          refine (of4 _ _ _ _ _).mono ?_
          rintro e w17_ ⟨Aq1, cq1, rfl, hr, hk⟩
          replace RLa := Lib.hid ((RLa.out.below hk).more (Below.size hk))
          replace RLb := Lib.hid ((RLb.out.below hk).more (Below.size hk))
          replace RLc := Lib.hid ((RLc.out.below hk).more (Below.size hk))
          replace RLd := Lib.hid ((RLd.out.below hk).more (Below.size hk))
          replace RLe := Lib.hid ((RLe.out.below hk).more (Below.size hk))
          have RLq1 : Hid (RdL w17_ w17_.heap.size Aq1 [(⟨#[97]⟩, ⟨#[49]⟩), (⟨#[98]⟩, ⟨#[50]⟩)]) := hr
          have K17 := Lib.hid (below_kept K16.out hk)
          clear hr hk K16
          go_wp2_with fail
          have hal := (Below.refl w17_.heap.size w17_).alloc (Nat.le_refl _) (.cells #[.string ⟨#[98]⟩] 9)
          have R1 : Rd (w17_.alloc (.cells #[.string ⟨#[98]⟩] 9)) (w17_.alloc (.cells #[.string ⟨#[98]⟩] 9)).heap.size (some ⟨w17_.heap.size, 0, none⟩) 1 [.string ⟨#[98]⟩] := rdNew w17_ [.string ⟨#[98]⟩] 9
          refine (drop_good Aq1 (some ⟨w17_.heap.size, 0, none⟩) cq1 1 [(⟨#[97]⟩, ⟨#[49]⟩), (⟨#[98]⟩, ⟨#[50]⟩)] [(⟨#[97]⟩, ⟨#[49]⟩)] _ (by simp) [⟨#[98]⟩] (by simp) ((RLq1.out.below hal).more (Below.size hal)) R1 (HT.out.below (below_kept K17.out hal)) (by kernel_rfl) (by kernel_rfl)).mono ?_
          rintro e w18_ ⟨Af, cf, rfl, hr, hk0⟩
          have hk : Kept w17_ w18_ := Below.trans hal (Below.mono hk0 (by simp))
          replace RLa := Lib.hid ((RLa.out.below hk).more (Below.size hk))
          replace RLb := Lib.hid ((RLb.out.below hk).more (Below.size hk))
          replace RLc := Lib.hid ((RLc.out.below hk).more (Below.size hk))
          replace RLd := Lib.hid ((RLd.out.below hk).more (Below.size hk))
          replace RLe := Lib.hid ((RLe.out.below hk).more (Below.size hk))
          replace RLq1 := Lib.hid ((RLq1.out.below hk).more (Below.size hk))
          have RLf : Hid (RdL w18_ w18_.heap.size Af [(⟨#[97]⟩, ⟨#[49]⟩)]) := hr
          have K18 := Lib.hid (below_kept K17.out hk)
          clear hr hk hk0 hal R1 K17
          clear RLq1
          go_wp2_with fail
          refine (metric_any ⟨#[97, 58, 98]⟩ _).mono ?_
          rintro e w19_ ⟨rfl, hk⟩
          replace RLa := Lib.hid ((RLa.out.below hk).more (Below.size hk))
          replace RLb := Lib.hid ((RLb.out.below hk).more (Below.size hk))
          replace RLc := Lib.hid ((RLc.out.below hk).more (Below.size hk))
          replace RLd := Lib.hid ((RLd.out.below hk).more (Below.size hk))
          replace RLe := Lib.hid ((RLe.out.below hk).more (Below.size hk))
          replace RLf := Lib.hid ((RLf.out.below hk).more (Below.size hk))
          have K19 := Lib.hid (below_kept K18.out hk)
          clear hk K18
          rw [show nmB metB ⟨#[97, 58, 98]⟩ = true by kernel_rfl]
          go_wp2_with fail
          refine (of2 _ _ _).mono ?_
          rintro e w20_ ⟨Aq1, cq1, rfl, hr, hk⟩
          replace RLa := Lib.hid ((RLa.out.below hk).more (Below.size hk))
          replace RLb := Lib.hid ((RLb.out.below hk).more (Below.size hk))
          replace RLc := Lib.hid ((RLc.out.below hk).more (Below.size hk))
          replace RLd := Lib.hid ((RLd.out.below hk).more (Below.size hk))
          replace RLe := Lib.hid ((RLe.out.below hk).more (Below.size hk))
          replace RLf := Lib.hid ((RLf.out.below hk).more (Below.size hk))
          have RLq1 : Hid (RdL w20_ w20_.heap.size Aq1 [(⟨#[97]⟩, ⟨#[49]⟩)]) := hr
          have K20 := Lib.hid (below_kept K19.out hk)
          clear hr hk K19
          go_wp2_with fail
          refine (of4 _ _ _ _ _).mono ?_
          rintro e w21_ ⟨Aq2, cq2, rfl, hr, hk⟩
          replace RLa := Lib.hid ((RLa.out.below hk).more (Below.size hk))
          replace RLb := Lib.hid ((RLb.out.below hk).more (Below.size hk))
          replace RLc := Lib.hid ((RLc.out.below hk).more (Below.size hk))
          replace RLd := Lib.hid ((RLd.out.below hk).more (Below.size hk))
          replace RLe := Lib.hid ((RLe.out.below hk).more (Below.size hk))
          replace RLf := Lib.hid ((RLf.out.below hk).more (Below.size hk))
          replace RLq1 := Lib.hid ((RLq1.out.below hk).more (Below.size hk))
          have RLq2 : Hid (RdL w21_ w21_.heap.size Aq2 [(⟨#[97]⟩, ⟨#[49]⟩), (⟨#[98]⟩, ⟨#[50]⟩)]) := hr
          have K21 := Lib.hid (below_kept K20.out hk)
          clear hr hk K20
          go_wp2_with fail
          refine (compare_any Aq1 Aq2 cq1 cq2 [(⟨#[97]⟩, ⟨#[49]⟩)] [(⟨#[97]⟩, ⟨#[49]⟩), (⟨#[98]⟩, ⟨#[50]⟩)] (by simp) (by simp) _ RLq1.out RLq2.out).mono ?_
          rintro e w22_ ⟨rfl, hk⟩
          replace RLa := Lib.hid ((RLa.out.below hk).more (Below.size hk))
          replace RLb := Lib.hid ((RLb.out.below hk).more (Below.size hk))
          replace RLc := Lib.hid ((RLc.out.below hk).more (Below.size hk))
          replace RLd := Lib.hid ((RLd.out.below hk).more (Below.size hk))
          replace RLe := Lib.hid ((RLe.out.below hk).more (Below.size hk))
          replace RLf := Lib.hid ((RLf.out.below hk).more (Below.size hk))
          replace RLq1 := Lib.hid ((RLq1.out.below hk).more (Below.size hk))
          replace RLq2 := Lib.hid ((RLq2.out.below hk).more (Below.size hk))
          have K22 := Lib.hid (below_kept K21.out hk)
          clear hk K21
          rw [show cmpL [(⟨#[97]⟩, ⟨#[49]⟩)] [(⟨#[97]⟩, ⟨#[49]⟩), (⟨#[98]⟩, ⟨#[50]⟩)] = -1 by kernel_rfl]
          clear RLq1
          clear RLq2
          go_wp2_with fail
          have hal := (Below.refl w22_.heap.size w22_).alloc (Nat.le_refl _) (.cells #[.slice Aa 2 ca, .slice Ab 2 cb, .slice Ac 2 cc, .slice Ad 3 cd, .slice Ae 3 ce, .slice Af 1 cf] 28)
          have RR : Hid (Rd (w22_.alloc (.cells #[.slice Aa 2 ca, .slice Ab 2 cb, .slice Ac 2 cc, .slice Ad 3 cd, .slice Ae 3 ce, .slice Af 1 cf] 28)) (w22_.alloc (.cells #[.slice Aa 2 ca, .slice Ab 2 cb, .slice Ac 2 cc, .slice Ad 3 cd, .slice Ae 3 ce, .slice Af 1 cf] 28)).heap.size (some ⟨w22_.heap.size, 0, none⟩) 6 (lrows [(Aa, ca, [(⟨#[97]⟩, ⟨#[49]⟩), (⟨#[106, 111, 98]⟩, ⟨#[120]⟩)]), (Ab, cb, [(⟨#[99]⟩, ⟨#[50]⟩), (⟨#[106, 111, 98]⟩, ⟨#[120]⟩)]), (Ac, cc, [(⟨#[97]⟩, ⟨#[49]⟩), (⟨#[98]⟩, ⟨#[51]⟩)]), (Ad, cd, [(⟨#[101, 120, 112, 111, 114, 116, 101, 100, 95, 106, 111, 98]⟩, ⟨#[115]⟩), (⟨#[106, 111, 98]⟩, ⟨#[116]⟩), (⟨#[120]⟩, ⟨#[49]⟩)]), (Ae, ce, [(⟨#[101, 120, 112, 111, 114, 116, 101, 100, 95, 106, 111, 98]⟩, ⟨#[117]⟩), (⟨#[106, 111, 98]⟩, ⟨#[116]⟩), (⟨#[120]⟩, ⟨#[49]⟩)]), (Af, cf, [(⟨#[97]⟩, ⟨#[49]⟩)])])) := rdNew w22_ (lrows [(Aa, ca, [(⟨#[97]⟩, ⟨#[49]⟩), (⟨#[106, 111, 98]⟩, ⟨#[120]⟩)]), (Ab, cb, [(⟨#[99]⟩, ⟨#[50]⟩), (⟨#[106, 111, 98]⟩, ⟨#[120]⟩)]), (Ac, cc, [(⟨#[97]⟩, ⟨#[49]⟩), (⟨#[98]⟩, ⟨#[51]⟩)]), (Ad, cd, [(⟨#[101, 120, 112, 111, 114, 116, 101, 100, 95, 106, 111, 98]⟩, ⟨#[115]⟩), (⟨#[106, 111, 98]⟩, ⟨#[116]⟩), (⟨#[120]⟩, ⟨#[49]⟩)]), (Ae, ce, [(⟨#[101, 120, 112, 111, 114, 116, 101, 100, 95, 106, 111, 98]⟩, ⟨#[117]⟩), (⟨#[106, 111, 98]⟩, ⟨#[116]⟩), (⟨#[120]⟩, ⟨#[49]⟩)]), (Af, cf, [(⟨#[97]⟩, ⟨#[49]⟩)])]) 28
          replace RLa := Lib.hid ((RLa.out.below hal).more (Below.size hal))
          replace RLb := Lib.hid ((RLb.out.below hal).more (Below.size hal))
          replace RLc := Lib.hid ((RLc.out.below hal).more (Below.size hal))
          replace RLd := Lib.hid ((RLd.out.below hal).more (Below.size hal))
          replace RLe := Lib.hid ((RLe.out.below hal).more (Below.size hal))
          replace RLf := Lib.hid ((RLf.out.below hal).more (Below.size hal))
          have K23 := Lib.hid (below_kept K22.out hal)
          generalize hgg : w22_.alloc (.cells #[.slice Aa 2 ca, .slice Ab 2 cb, .slice Ac 2 cc, .slice Ad 3 cd, .slice Ae 3 ce, .slice Af 1 cf] 28) = w23_ at RR RLa RLb RLc RLd RLe RLf K23 ⊢
          have hz : w22_.heap.size + 1 = w23_.heap.size := by rw [← hgg]; simp
          rw [hz]
          clear hal hgg hz K22
          go_wp2_with fail
          refine (of4 _ _ _ _ _).mono ?_
          rintro e w24_ ⟨Ap0, cp0, rfl, hr, hk⟩
          replace RLa := Lib.hid ((RLa.out.below hk).more (Below.size hk))
          replace RLb := Lib.hid ((RLb.out.below hk).more (Below.size hk))
          replace RLc := Lib.hid ((RLc.out.below hk).more (Below.size hk))
          replace RLd := Lib.hid ((RLd.out.below hk).more (Below.size hk))
          replace RLe := Lib.hid ((RLe.out.below hk).more (Below.size hk))
          replace RLf := Lib.hid ((RLf.out.below hk).more (Below.size hk))
          replace RR := Lib.hid ((RR.out.below hk).more (Below.size hk))
          have RLp0 : Hid (RdL w24_ w24_.heap.size Ap0 [(⟨#[97]⟩, ⟨#[49]⟩), (⟨#[106, 111, 98]⟩, ⟨#[120]⟩)]) := hr
          have K24 := Lib.hid (below_kept K23.out hk)
          clear hr hk K23
          go_wp2_with fail
          refine (of4 _ _ _ _ _).mono ?_
          rintro e w25_ ⟨Ap1, cp1, rfl, hr, hk⟩
          replace RLa := Lib.hid ((RLa.out.below hk).more (Below.size hk))
          replace RLb := Lib.hid ((RLb.out.below hk).more (Below.size hk))
          replace RLc := Lib.hid ((RLc.out.below hk).more (Below.size hk))
          replace RLd := Lib.hid ((RLd.out.below hk).more (Below.size hk))
          replace RLe := Lib.hid ((RLe.out.below hk).more (Below.size hk))
          replace RLf := Lib.hid ((RLf.out.below hk).more (Below.size hk))
          replace RLp0 := Lib.hid ((RLp0.out.below hk).more (Below.size hk))
          replace RR := Lib.hid ((RR.out.below hk).more (Below.size hk))
          have RLp1 : Hid (RdL w25_ w25_.heap.size Ap1 [(⟨#[99]⟩, ⟨#[50]⟩), (⟨#[106, 111, 98]⟩, ⟨#[120]⟩)]) := hr
          have K25 := Lib.hid (below_kept K24.out hk)
          clear hr hk K24
          go_wp2_with fail
          refine (of4 _ _ _ _ _).mono ?_
          rintro e w26_ ⟨Ap2, cp2, rfl, hr, hk⟩
          replace RLa := Lib.hid ((RLa.out.below hk).more (Below.size hk))
          replace RLb := Lib.hid ((RLb.out.below hk).more (Below.size hk))
          replace RLc := Lib.hid ((RLc.out.below hk).more (Below.size hk))
          replace RLd := Lib.hid ((RLd.out.below hk).more (Below.size hk))
          replace RLe := Lib.hid ((RLe.out.below hk).more (Below.size hk))
          replace RLf := Lib.hid ((RLf.out.below hk).more (Below.size hk))
          replace RLp0 := Lib.hid ((RLp0.out.below hk).more (Below.size hk))
          replace RLp1 := Lib.hid ((RLp1.out.below hk).more (Below.size hk))
          replace RR := Lib.hid ((RR.out.below hk).more (Below.size hk))
          have RLp2 : Hid (RdL w26_ w26_.heap.size Ap2 [(⟨#[97]⟩, ⟨#[49]⟩), (⟨#[98]⟩, ⟨#[51]⟩)]) := hr
          have K26 := Lib.hid (below_kept K25.out hk)
          clear hr hk K25
          go_wp2_with fail
          refine (of6 _ _ _ _ _ _ _).mono ?_
          rintro e w27_ ⟨Ap3, cp3, rfl, hr, hk⟩
          replace RLa := Lib.hid ((RLa.out.below hk).more (Below.size hk))
          replace RLb := Lib.hid ((RLb.out.below hk).more (Below.size hk))
          replace RLc := Lib.hid ((RLc.out.below hk).more (Below.size hk))
          replace RLd := Lib.hid ((RLd.out.below hk).more (Below.size hk))
          replace RLe := Lib.hid ((RLe.out.below hk).more (Below.size hk))
          replace RLf := Lib.hid ((RLf.out.below hk).more (Below.size hk))
          replace RLp0 := Lib.hid ((RLp0.out.below hk).more (Below.size hk))
          replace RLp1 := Lib.hid ((RLp1.out.below hk).more (Below.size hk))
          replace RLp2 := Lib.hid ((RLp2.out.below hk).more (Below.size hk))
          replace RR := Lib.hid ((RR.out.below hk).more (Below.size hk))
          have RLp3 : Hid (RdL w27_ w27_.heap.size Ap3 [(⟨#[101, 120, 112, 111, 114, 116, 101, 100, 95, 106, 111, 98]⟩, ⟨#[115]⟩), (⟨#[106, 111, 98]⟩, ⟨#[116]⟩), (⟨#[120]⟩, ⟨#[49]⟩)]) := hr
          have K27 := Lib.hid (below_kept K26.out hk)
          clear hr hk K26
          go_wp2_with fail
          refine (of6 _ _ _ _ _ _ _).mono ?_
          rintro e w28_ ⟨Ap4, cp4, rfl, hr, hk⟩
          replace RLa := Lib.hid ((RLa.out.below hk).more (Below.size hk))
          replace RLb := Lib.hid ((RLb.out.below hk).more (Below.size hk))
          replace RLc := Lib.hid ((RLc.out.below hk).more (Below.size hk))
          replace RLd := Lib.hid ((RLd.out.below hk).more (Below.size hk))
          replace RLe := Lib.hid ((RLe.out.below hk).more (Below.size hk))
          replace RLf := Lib.hid ((RLf.out.below hk).more (Below.size hk))
          replace RLp0 := Lib.hid ((RLp0.out.below hk).more (Below.size hk))
          replace RLp1 := Lib.hid ((RLp1.out.below hk).more (Below.size hk))
          replace RLp2 := Lib.hid ((RLp2.out.below hk).more (Below.size hk))
          replace RLp3 := Lib.hid ((RLp3.out.below hk).more (Below.size hk))
          replace RR := Lib.hid ((RR.out.below hk).more (Below.size hk))
          have RLp4 : Hid (RdL w28_ w28_.heap.size Ap4 [(⟨#[101, 120, 112, 111, 114, 116, 101, 100, 95, 106, 111, 98]⟩, ⟨#[117]⟩), (⟨#[106, 111, 98]⟩, ⟨#[116]⟩), (⟨#[120]⟩, ⟨#[49]⟩)]) := hr
          have K28 := Lib.hid (below_kept K27.out hk)
          clear hr hk K27
          go_wp2_with fail
          refine (of2 _ _ _).mono ?_
          rintro e w29_ ⟨Ap5, cp5, rfl, hr, hk⟩
          replace RLa := Lib.hid ((RLa.out.below hk).more (Below.size hk))
          replace RLb := Lib.hid ((RLb.out.below hk).more (Below.size hk))
          replace RLc := Lib.hid ((RLc.out.below hk).more (Below.size hk))
          replace RLd := Lib.hid ((RLd.out.below hk).more (Below.size hk))
          replace RLe := Lib.hid ((RLe.out.below hk).more (Below.size hk))
          replace RLf := Lib.hid ((RLf.out.below hk).more (Below.size hk))
          replace RLp0 := Lib.hid ((RLp0.out.below hk).more (Below.size hk))
          replace RLp1 := Lib.hid ((RLp1.out.below hk).more (Below.size hk))
          replace RLp2 := Lib.hid ((RLp2.out.below hk).more (Below.size hk))
          replace RLp3 := Lib.hid ((RLp3.out.below hk).more (Below.size hk))
          replace RLp4 := Lib.hid ((RLp4.out.below hk).more (Below.size hk))
          replace RR := Lib.hid ((RR.out.below hk).more (Below.size hk))
          have RLp5 : Hid (RdL w29_ w29_.heap.size Ap5 [(⟨#[97]⟩, ⟨#[49]⟩)]) := hr
          have K29 := Lib.hid (below_kept K28.out hk)
          clear hr hk K28
          go_wp2_with fail
          have hal := (Below.refl w29_.heap.size w29_).alloc (Nat.le_refl _) (.cells #[.slice Ap0 2 cp0, .slice Ap1 2 cp1, .slice Ap2 2 cp2, .slice Ap3 3 cp3, .slice Ap4 3 cp4, .slice Ap5 1 cp5] 28)
          have RS := rdNew w29_ (lrows [(Ap0, cp0, [(⟨#[97]⟩, ⟨#[49]⟩), (⟨#[106, 111, 98]⟩, ⟨#[120]⟩)]), (Ap1, cp1, [(⟨#[99]⟩, ⟨#[50]⟩), (⟨#[106, 111, 98]⟩, ⟨#[120]⟩)]), (Ap2, cp2, [(⟨#[97]⟩, ⟨#[49]⟩), (⟨#[98]⟩, ⟨#[51]⟩)]), (Ap3, cp3, [(⟨#[101, 120, 112, 111, 114, 116, 101, 100, 95, 106, 111, 98]⟩, ⟨#[115]⟩), (⟨#[106, 111, 98]⟩, ⟨#[116]⟩), (⟨#[120]⟩, ⟨#[49]⟩)]), (Ap4, cp4, [(⟨#[101, 120, 112, 111, 114, 116, 101, 100, 95, 106, 111, 98]⟩, ⟨#[117]⟩), (⟨#[106, 111, 98]⟩, ⟨#[116]⟩), (⟨#[120]⟩, ⟨#[49]⟩)]), (Ap5, cp5, [(⟨#[97]⟩, ⟨#[49]⟩)])]) 28
          replace RLa := Lib.hid ((RLa.out.below hal).more (Below.size hal))
          replace RLb := Lib.hid ((RLb.out.below hal).more (Below.size hal))
          replace RLc := Lib.hid ((RLc.out.below hal).more (Below.size hal))
          replace RLd := Lib.hid ((RLd.out.below hal).more (Below.size hal))
          replace RLe := Lib.hid ((RLe.out.below hal).more (Below.size hal))
          replace RLf := Lib.hid ((RLf.out.below hal).more (Below.size hal))
          replace RLp0 := Lib.hid ((RLp0.out.below hal).more (Below.size hal))
          replace RLp1 := Lib.hid ((RLp1.out.below hal).more (Below.size hal))
          replace RLp2 := Lib.hid ((RLp2.out.below hal).more (Below.size hal))
          replace RLp3 := Lib.hid ((RLp3.out.below hal).more (Below.size hal))
          replace RLp4 := Lib.hid ((RLp4.out.below hal).more (Below.size hal))
          replace RLp5 := Lib.hid ((RLp5.out.below hal).more (Below.size hal))
          replace RR := Lib.hid ((RR.out.below hal).more (Below.size hal))
          have X1 := sameLL_any (some ⟨w22_.heap.size, 0, none⟩) (some ⟨w29_.heap.size, 0, none⟩) 6 6 [(Aa, ca, [(⟨#[97]⟩, ⟨#[49]⟩), (⟨#[106, 111, 98]⟩, ⟨#[120]⟩)]), (Ab, cb, [(⟨#[99]⟩, ⟨#[50]⟩), (⟨#[106, 111, 98]⟩, ⟨#[120]⟩)]), (Ac, cc, [(⟨#[97]⟩, ⟨#[49]⟩), (⟨#[98]⟩, ⟨#[51]⟩)]), (Ad, cd, [(⟨#[101, 120, 112, 111, 114, 116, 101, 100, 95, 106, 111, 98]⟩, ⟨#[115]⟩), (⟨#[106, 111, 98]⟩, ⟨#[116]⟩), (⟨#[120]⟩, ⟨#[49]⟩)]), (Ae, ce, [(⟨#[101, 120, 112, 111, 114, 116, 101, 100, 95, 106, 111, 98]⟩, ⟨#[117]⟩), (⟨#[106, 111, 98]⟩, ⟨#[116]⟩), (⟨#[120]⟩, ⟨#[49]⟩)]), (Af, cf, [(⟨#[97]⟩, ⟨#[49]⟩)])] [(Ap0, cp0, [(⟨#[97]⟩, ⟨#[49]⟩), (⟨#[106, 111, 98]⟩, ⟨#[120]⟩)]), (Ap1, cp1, [(⟨#[99]⟩, ⟨#[50]⟩), (⟨#[106, 111, 98]⟩, ⟨#[120]⟩)]), (Ap2, cp2, [(⟨#[97]⟩, ⟨#[49]⟩), (⟨#[98]⟩, ⟨#[51]⟩)]), (Ap3, cp3, [(⟨#[101, 120, 112, 111, 114, 116, 101, 100, 95, 106, 111, 98]⟩, ⟨#[115]⟩), (⟨#[106, 111, 98]⟩, ⟨#[116]⟩), (⟨#[120]⟩, ⟨#[49]⟩)]), (Ap4, cp4, [(⟨#[101, 120, 112, 111, 114, 116, 101, 100, 95, 106, 111, 98]⟩, ⟨#[117]⟩), (⟨#[106, 111, 98]⟩, ⟨#[116]⟩), (⟨#[120]⟩, ⟨#[49]⟩)]), (Ap5, cp5, [(⟨#[97]⟩, ⟨#[49]⟩)])] rfl (by simp) _ RR.out RS (by
            intro r hr'
            simp only [List.mem_cons, List.not_mem_nil, or_false] at hr'
            rcases hr' with rfl | rfl | rfl | rfl | rfl | rfl
            · exact ⟨RLa.out, by simp⟩
            · exact ⟨RLb.out, by simp⟩
            · exact ⟨RLc.out, by simp⟩
            · exact ⟨RLd.out, by simp⟩
            · exact ⟨RLe.out, by simp⟩
            · exact ⟨RLf.out, by simp⟩) (by
            intro r hr'
            simp only [List.mem_cons, List.not_mem_nil, or_false] at hr'
            rcases hr' with rfl | rfl | rfl | rfl | rfl | rfl
            · exact ⟨RLp0.out, by simp⟩
            · exact ⟨RLp1.out, by simp⟩
            · exact ⟨RLp2.out, by simp⟩
            · exact ⟨RLp3.out, by simp⟩
            · exact ⟨RLp4.out, by simp⟩
            · exact ⟨RLp5.out, by simp⟩)
          have hs : sameLL [(Aa, ca, [(⟨#[97]⟩, ⟨#[49]⟩), (⟨#[106, 111, 98]⟩, ⟨#[120]⟩)]), (Ab, cb, [(⟨#[99]⟩, ⟨#[50]⟩), (⟨#[106, 111, 98]⟩, ⟨#[120]⟩)]), (Ac, cc, [(⟨#[97]⟩, ⟨#[49]⟩), (⟨#[98]⟩, ⟨#[51]⟩)]), (Ad, cd, [(⟨#[101, 120, 112, 111, 114, 116, 101, 100, 95, 106, 111, 98]⟩, ⟨#[115]⟩), (⟨#[106, 111, 98]⟩, ⟨#[116]⟩), (⟨#[120]⟩, ⟨#[49]⟩)]), (Ae, ce, [(⟨#[101, 120, 112, 111, 114, 116, 101, 100, 95, 106, 111, 98]⟩, ⟨#[117]⟩), (⟨#[106, 111, 98]⟩, ⟨#[116]⟩), (⟨#[120]⟩, ⟨#[49]⟩)]), (Af, cf, [(⟨#[97]⟩, ⟨#[49]⟩)])] [(Ap0, cp0, [(⟨#[97]⟩, ⟨#[49]⟩), (⟨#[106, 111, 98]⟩, ⟨#[120]⟩)]), (Ap1, cp1, [(⟨#[99]⟩, ⟨#[50]⟩), (⟨#[106, 111, 98]⟩, ⟨#[120]⟩)]), (Ap2, cp2, [(⟨#[97]⟩, ⟨#[49]⟩), (⟨#[98]⟩, ⟨#[51]⟩)]), (Ap3, cp3, [(⟨#[101, 120, 112, 111, 114, 116, 101, 100, 95, 106, 111, 98]⟩, ⟨#[115]⟩), (⟨#[106, 111, 98]⟩, ⟨#[116]⟩), (⟨#[120]⟩, ⟨#[49]⟩)]), (Ap4, cp4, [(⟨#[101, 120, 112, 111, 114, 116, 101, 100, 95, 106, 111, 98]⟩, ⟨#[117]⟩), (⟨#[106, 111, 98]⟩, ⟨#[116]⟩), (⟨#[120]⟩, ⟨#[49]⟩)]), (Ap5, cp5, [(⟨#[97]⟩, ⟨#[49]⟩)])] = true := by simp [sameLL]
          rw [hs] at X1
          refine X1.mono ?_
          rintro e wz ⟨rfl, hk⟩
          go_wp2_with fail
          go_ret
          exact ⟨rfl, Below.trans K29.out (Below.mono (Below.trans hal (Below.mono hk (by simp))) (Below.size K29.out))⟩
end Go.Proofs.YtlhekeokognhmaaGreatDoor
