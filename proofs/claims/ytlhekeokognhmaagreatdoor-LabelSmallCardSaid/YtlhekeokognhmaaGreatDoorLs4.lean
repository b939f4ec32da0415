/-
  LabelSmall: the round of its last loop.
-/
import Derived.Test.YtlhekeokognhmaaGreatDoorMgbr
import Derived.Deep.CutBlock
namespace Go.Proofs.YtlhekeokognhmaaGreatDoor
open Go.RowKit Go.Shelf Go.Maps Go.Sort
set_option maxRecDepth 100000 in
set_option maxHeartbeats 40000000 in
theorem sp_4 (w : World) (hT : Tab w) : (sp0 w hT).1.2.2.2.1 := by
  delta sp0 mk5
  dsimp -zeta only
  clear hT
  intro HT ia1 ia2 ia3 u1 u2 u18 u19 u20 u21 u22 u23 u24 u25 u26 u27 u28 u29 u30 u31 u32 u33 u34 u35 u36 u37 u38 u39 u40 u41 u42 u43 u44 u45 u46 u47 u48 u49 u50 u51 u52 u53 u54 ia4 w1 ia5 ia6 ia7 ia8 ia9 ia10 u4 u5 u58 u59 u60 u61 u62 u63 u64 u65 u66 u67 u68 u69 u70 u71 u72 u73 u74 u75 u76 u77 u78 u79 u80 u81 u82 u83 u84 u85 u86 u87 u88 u89 u90 u91 u92 u93 u94 u95 ia11 w2 ia12 ia13 ia14 ia15 w0 g6 ia16 u0 u8 u10 u12 u13 u108 u109 u110 u111 u112 u113 u114 u115 u116 u117 u118 u119 u120 u121 u122 u123 u124 u125 u126 u127 u128 u129 u130 u131 u132 u133 u134 u135 u136 u137 u138 u139 u140 u141 u142 u143 u144 u145 u146 u147 u148 u149 u150 u151 u152 u153 u154 u155 u156 u157 u158 k3 ia17 ia18 w3 K3 i0 hi0 hz0 hz1 hz2 ia19 ia20 ia21 ia22 ia23 h1 wr u14 u15 u160 u161 u162 u163 u164 u165 u166 u167 u168 u169 u170 u171 u172 u173 u174 u175 u176 u177 k L hk hL hkr hown hkn h2
  have hR := rdNew wr [.int .u8 (97 + (k : Int) / 26), .int .u8 (97 + (k : Int) % 26)] 5
  have hcv := conv_rows _ _ _ 2 2 [97 + (k : Int) / 26, 97 + (k : Int) % 26] hR
  have hsz : (strOfNums [97 + (k : Int) / 26, 97 + (k : Int) % 26]).size = 2 := by unfold strOfNums; simp [ByteArray.size]
  obtain ⟨s, hs⟩ : ∃ s, s = strOfNums [97 + (k : Int) / 26, 97 + (k : Int) % 26] := ⟨_, rfl⟩
  rw [← hs] at hcv hsz
  clear hR hs
  have hrd := rdNew (wr.alloc (.cells #[.int .u8 (97 + (k : Int) / 26), .int .u8 (97 + (k : Int) % 26)] 5)) [.string (⟨#[110]⟩ ++ s), .string ⟨#[118]⟩] 33
  have hz1' : (wr.alloc (.cells #[.int .u8 (97 + (k : Int) / 26), .int .u8 (97 + (k : Int) % 26)] 5)).heap.size = wr.heap.size + 1 := by simp
  rw [hz1'] at hrd
  have Hrd := Lib.hid hrd
  have hsK := hkr.out.size
  have Ho := Lib.hid (own_alloc (own_alloc hown.out (.cells #[.int .u8 (97 + (k : Int) / 26), .int .u8 (97 + (k : Int) % 26)] 5)) (.cells #[.string (⟨#[110]⟩ ++ s), .string ⟨#[118]⟩] 33))
  have Kb : Hid (Kept w3 ((wr.alloc (.cells #[.int .u8 (97 + (k : Int) / 26), .int .u8 (97 + (k : Int) % 26)] 5)).alloc (.cells #[.string (⟨#[110]⟩ ++ s), .string ⟨#[118]⟩] 33))) := (hkr.out.alloc hsK _).alloc (by rw [hz1']; omega) _
  clear hrd hz1'
  have hsz2 : ¬ 9223372036854775807 < 1 + s.size := by omega
  go_wp2_with (at_builtin; refine wpList_appG rfl _ _ 28 28 rfl Tryz.underlying28 w3.heap.size i0 _ 32 Tryz.underlying28 hi0 hz0 hz1 hz2 rfl _ k (labs L) rfl Ho.out _ 1 1 [.string (⟨#[110]⟩ ++ s), .string ⟨#[118]⟩] rfl Hrd.out (by intro u hu; simp at hu; rcases hu with rfl | rfl <;> rfl) (by unfold maxLen; omega) (by omega) (by simp; omega) ?_; intro v2 w2 hown2 hg2; have Hown2 := Lib.hid hown2; have K2 : Hid (Kept w3 w2) := Below.grown Kb.out hg2 (by simp; omega) (fun j e => (Ho.out.lt j e).1); clear hown2 hg2)
  clear Hrd Ho Kb hcv hsz2
  obtain ⟨wq, rfl⟩ : ∃ x, x = wr := ⟨_, rfl⟩
  go_roundw
  case rel =>
    refine ⟨k + 1, L ++ [(⟨#[110]⟩ ++ s, ⟨#[118]⟩)], by omega, by simp [hL], by go_num, K2, ?_⟩
    show World.ownsRow _ _ _ _ _ _ _
    rw [labs_snoc]
    exact Hown2.out
  case measure => simp [intOf]; omega
end Go.Proofs.YtlhekeokognhmaaGreatDoor
