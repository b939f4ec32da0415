/-
  LabelSmall: the round of its first loop.
-/
import Derived.Test.YtlhekeokognhmaaGreatDoorMgbr
import Derived.Deep.CutBlock
namespace Go.Proofs.YtlhekeokognhmaaGreatDoor
open Go.RowKit Go.Shelf Go.Maps Go.Sort
set_option maxRecDepth 100000 in
set_option maxHeartbeats 40000000 in
theorem sp_1 (w : World) (hT : Tab w) : (sp0 w hT).1.1 := by
  delta sp0 mk5
  dsimp -zeta only
  clear hT
  intro HT ia1 ia2 ia3 wr u0 u1 u2 u18 u19 u20 u21 u22 u23 u24 u25 u26 u27 u28 u29 u30 u31 u32 u33 u34 u35 u36 u37 u38 u39 u40 u41 u42 u43 u44 u45 u46 u47 u48 u49 u50 u51 u52 u53 u54 k hk hkr hkn
  have h1 : (k : Int) < 256 := by omega
  have hR : Rd (wr.alloc (.cells #[.int .u8 k] 5)) (wr.alloc (.cells #[.int .u8 k] 5)).heap.size (some ⟨wr.heap.size, 0, none⟩) 1 (u8s [(k : Int)]) := rdNew wr [.int .u8 k] 5
  have hcv := conv_rows _ _ _ 1 1 [(k : Int)] hR
  have hsz : (strOfNums [(k : Int)]).size = 1 := by unfold strOfNums; simp [ByteArray.size]
  clear hR
  go_wp2_with fail
  clear hcv
  obtain ⟨wa, hwa⟩ : ∃ x, x = wr.alloc (.cells #[.int .u8 k] 5) := ⟨_, rfl⟩
  have K : Hid (Kept w wa) := by rw [hwa]; exact below_alloc0 hkr.out _
  have hz : wr.heap.size + 1 = wa.heap.size := by rw [hwa]; simp
  rw [← hwa, hz]
  clear hwa hz
  revert hsz
  generalize strOfNums [(k : Int)] = s
  intro hsz
  refine (of2 _ _ _).mono ?_
  rintro e w1 ⟨A1, c1, rfl, hr, hk1⟩
  replace K := kk K hk1
  clear hk1
  go_wp2_with fail
  refine (tells_any s (by simp only [ByteArray.size_append, hsz]; decide) A1 c1 [(⟨#[97]⟩, s)] _ hr (HT.out _ K.out)).mono ?_
  rintro e w2 ⟨rfl, hk2⟩
  replace K := kk K hk2
  clear hk2 hr
  obtain ⟨wa, rfl⟩ : ∃ x, x = w2 := ⟨_, rfl⟩
  go_wp2_with fail
  refine (of4 _ _ _ _ _).mono ?_
  rintro e w1 ⟨A1, c1, rfl, hr, hk1⟩
  replace K := kk K hk1
  clear hk1
  go_wp2_with fail
  refine (tells_any (⟨#[97]⟩ ++ s) (by simp only [ByteArray.size_append, hsz]; decide) A1 c1 [(s, ⟨#[97]⟩), (⟨#[97]⟩ ++ s, ⟨#[98]⟩)] _ hr (HT.out _ K.out)).mono ?_
  rintro e w2 ⟨rfl, hk2⟩
  replace K := kk K hk2
  clear hk2 hr
  obtain ⟨wa, rfl⟩ : ∃ x, x = w2 := ⟨_, rfl⟩
  go_wp2_with fail
  refine (of2 _ _ _).mono ?_
  rintro e w1 ⟨A1, c1, rfl, hr, hk1⟩
  replace K := kk K hk1
  clear hk1
  go_wp2_with fail
  refine (tells_any (s ++ ⟨#[97]⟩) (by simp only [ByteArray.size_append, hsz]; decide) A1 c1 [(⟨#[97]⟩ ++ s ++ ⟨#[97]⟩, s ++ ⟨#[195, 169]⟩)] _ hr (HT.out _ K.out)).mono ?_
  rintro e w2 ⟨rfl, hk2⟩
  replace K := kk K hk2
  clear hk2 hr
  obtain ⟨wa, rfl⟩ : ∃ x, x = w2 := ⟨_, rfl⟩
  go_wp2_with fail
  go_roundw
  case rel => exact ⟨k + 1, by omega, by go_num, K⟩
  case measure => simp [intOf]; omega
end Go.Proofs.YtlhekeokognhmaaGreatDoor
