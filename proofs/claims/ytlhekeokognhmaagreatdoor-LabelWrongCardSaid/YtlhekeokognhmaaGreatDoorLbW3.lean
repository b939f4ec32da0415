/-
  LabelWrong: region 31; the whole, of what right gives.
-/
import Derived.Test.YtlhekeokognhmaaGreatDoorLbW2
import Derived.Test.YtlhekeokognhmaaGreatDoorLbW1
import Derived.Deep.CutBlock
namespace Go.Proofs.YtlhekeokognhmaaGreatDoor
open Go.RowKit Go.Shelf Go.Maps Go.Sort
set_option maxRecDepth 100000 in
set_option maxHeartbeats 40000000 in
theorem wrB (p : List (Nat × Nat)) (a : Value) (k : Nat) (hk : k ≤ 255) (t : Nat) (ht : t ≤ 255) (w : World) (hT : Tab w) (C1 : RightIs p a w) : (wr1 p a k hk t ht w hT C1).1.1 := by
  delta wr1 mk2
  dsimp -zeta only
  clear C1 hT
  intro HT L n1 i0 hi0 hz0 hz1 hz2 nL l1 HnL k7 hk77 hmod Q0 w1 w2 A1 c1 HCap R1 K2 w3 w4 g9 g7 hge9 hne h7 h9 K4 wc u6 u11 u12 u13 u14 u15 u16 u17 u18 u19 u31 u32 u33 u34 u35 u36 u37 u38 u39 u40 u41 u42 u43 u44 u45 u46 u47 u48 u49 u50 u51 u52 u53 u54 u55 u56 u57 u58 u59 u60 u61 u62 u63 u64 u65 u66 u67 u68 u69 u70 u71 u72 u73 u74 u75 u76 u77 u78 u79 u80 u81 u82 u83 u84 u85 u86 u87 u88 u89 u90 u91 u92 u93 u94 u95 u96 u97 u98 u99 u100 u101 u102 u103 u104 u105 u106 u107 u108 u109 u110 u111 u112 u113 u114 u115 u116 u117 u118 u119 u120 u121 u122 u123 u124 u125 u126 u127 u128 u129 u130 u131 u132 u133 u134 u135 u136 u137 u138 u139 u140 u141 u142 u143 u144 u145 u146 u147 u148 u149 u150 u151 u152 u153 u154 u155 u156 u157 u158 u159 u160 u161 u162 u163 u164 u165 u166 u167 u168 u169 u170 u171 u172 u173 u174 u175 u176 u177 u178 u179 u180 u181 u182 u183 u184 u185 u186 u187 u188 u189 u190 u191 u192 u193 u194 u195 u196 u197 u198 u199 u200 u201 u205 u206 u207 u208 u209 u210 u211 u212 u213 u214 u215 u216 u217 u218 u219 u220 nm vl wt hbad hx9 hx7 hkx B Kx0 ax0 J0 K1 a1 a2
  obtain ⟨w0, hw0⟩ : ∃ x, x = wc.drew := ⟨_, rfl⟩
  have h7 : w0.cell? ⟨g7, 0, none⟩ = some (.slice A1 nL c1) := by rw [hw0]; exact cell_of_row _ _ _ _ _ _ (heap_drew0 hx7.out)
  have h90 : w0.cell? ⟨g9, 0, none⟩ = some (.string nm) := by rw [hw0]; exact cell_of_row _ _ _ _ _ _ (heap_drew0 hx9.out)
  have h91 : w0.cell? ⟨g9, 1, none⟩ = some (.string vl) := by rw [hw0]; exact cell_of_row _ _ _ _ _ _ (heap_drew0 hx9.out)
  have hlt7 : g7 < w0.heap.size := by rw [hw0]; exact heap_lt (heap_drew0 hx7.out)
  have hlt9 : g9 < w0.heap.size := by rw [hw0]; exact heap_lt (heap_drew0 hx9.out)
  have HRL : Hid (∀ W, w0.grownBy W none → Rd W W.heap.size A1 (nL * 2) (labs L)) := fun W hW => by
    have h2 := R1.out.below (below_kept hkx.out (below_drew0 (Below.refl wc.heap.size wc)))
    rw [← hw0, ← HnL.out] at h2
    exact rd_grown (h2.more (by rw [hw0]; exact hkx.out.size)) hW (fun ad _ => by simp) hW.size
  have Hfin : Hid (∀ W, Kept w0 W → Kept wc W) := fun W h => by rw [hw0] at h; exact below_kept (below_drew0 (Below.refl wc.heap.size wc)) h
  refine wp_region_held_drew (S := fun W => wc.drew.grownBy W none) (by kernel_rfl) (grown_kept (Below.refl _ _) _) (fun hHeld => ?_)
  rw [← hw0] at hHeld ⊢
  clear hbad B hx9 hx7 hkx R1 HnL HT n1 hk ht hk77 hmod HCap K2 K4 hge9 hne hw0
  refine wpAnyH_take (i := 1) (oi := ⟨some 140, _, _, _, _, _⟩) rfl (by kernel_rfl) (by kernel_rfl) (by kernel_rfl) (fun _ _ _ h => h) (yields_cell (by rfl) _ _ rfl ⟨g7, 0, none⟩ rfl (.slice A1 nL c1) (fun w v h => load_labs w _ v h) (hlt7) (by simp) (h7)) hHeld ?_
  try simp only [Act.put, List.setIfInBounds_toArray, List.set_cons_zero, List.set_cons_succ]
  refine wpAnyH_take (i := 3) (oi := ⟨some 142, _, _, _, _, _⟩) rfl (by kernel_rfl) (by kernel_rfl) (by kernel_rfl) (fun _ _ _ h => h) (yields_lab (by rfl) _ rfl g9 rfl _ _ hlt9 (by simp) h90 h91) hHeld ?_
  try simp only [Act.put, List.setIfInBounds_toArray, List.set_cons_zero, List.set_cons_succ]
  refine wpAnyH_ready (rs := [0, 4, 6]) (by kernel_rfl) (by simp) ?_
  refine AllReadyH.cons (o := ⟨some 139, _, _, _, _, _⟩) rfl (fun K hK => ?_) (AllReadyH.cons (o := ⟨some 143, _, _, _, _, _⟩) rfl (fun K hK => ?_) (AllReadyH.cons (o := ⟨some 20, _, _, _, _, _⟩) rfl (fun K hK => ?_) (AllReadyH.nil)))
  · as_aux_lemma =>
    go_simp
    obtain ⟨wn, hwn, hd0, hk, hlt⟩ := new_row w0 #[] 33
    obtain ⟨g0, hg0⟩ : ∃ g, g = w0.heap.size := ⟨_, rfl⟩
    rw [← hwn, ← hg0]
    rw [← hg0] at hd0
    have hge0 : w0.heap.size ≤ g0 := by rw [hg0]; exact hHeld.size
    have own0 : Hid (wn.ownsRow w0.heap.size 33 2 (.slice (some ⟨g0, 0, none⟩) 0 0) 0 (labs [])) := ⟨rfl, .inr ⟨_, 0, #[], rfl, hge0, hd0, Nat.le_refl _, Nat.zero_le _, rfl, rfl⟩⟩
    have hHn : w0.grownBy wn none := grown_new hHeld (grown_kept hk none) (fun k e => by cases e)
    refine hK.out _ _ hHn (fun _ => ?_)
    replace hHeld := hHn
    clear hHn hk hwn hd0 hg0 hlt hge0
    obtain ⟨wc, rfl⟩ : ∃ x, x = wn := ⟨_, rfl⟩
    clear hK K
    try simp only [Act.put, List.setIfInBounds_toArray, List.set_cons_zero, List.set_cons_succ]
    refine wpAnyH_ready (rs := [2, 4, 6]) (by kernel_rfl) (by simp) ?_
    refine AllReadyH.cons (o := ⟨some 141, _, _, _, _, _⟩) rfl (fun K hK => ?_) (AllReadyH.cons (o := ⟨some 143, _, _, _, _, _⟩) rfl (fun K hK => ?_) (AllReadyH.cons (o := ⟨some 20, _, _, _, _, _⟩) rfl (fun K hK => ?_) (AllReadyH.nil)))
    · skip
      refine step_appG rfl _ _ 28 rfl w0.heap.size i0 (.agg #[.string ⟨#[]⟩, .string ⟨#[]⟩]) 32 Tryz.underlying28 hi0 hz0 hz1 hz2 rfl _ 0 (labs []) rfl own0.out A1 nL c1 (labs L) rfl (HRL.out _ hHeld) ?_ (by unfold maxLen; omega) (by omega) hHeld.size ?_
      · exact labs_one _
      intro v2 wn hown hg
      have hHn : w0.grownBy wn none := grown_new hHeld hg (fun k e => (own0.out.lt k e).1)
      have Own2 := Lib.hid hown
      refine hK.out _ _ hHn (fun _ => ?_)
      replace hHeld := hHn
      clear hHn hown hg own0
      obtain ⟨wc, rfl⟩ : ∃ x, x = wn := ⟨_, rfl⟩
      clear hK K
      try simp only [Act.put, List.setIfInBounds_toArray, List.set_cons_zero, List.set_cons_succ]
      refine wpAnyH_ready (rs := [4, 6]) (by kernel_rfl) (by simp) ?_
      refine AllReadyH.cons (o := ⟨some 143, _, _, _, _, _⟩) rfl (fun K hK => ?_) (AllReadyH.cons (o := ⟨some 20, _, _, _, _, _⟩) rfl (fun K hK => ?_) (AllReadyH.nil))
      · go_simp
        obtain ⟨wn, hwn, hd0, hk, hlt⟩ := new_row wc #[.string nm, .string vl] 33
        obtain ⟨gD, hgD⟩ : ∃ g, g = wc.heap.size := ⟨_, rfl⟩
        rw [← hwn, ← hgD]
        rw [← hgD] at hd0
        replace Own2 := Lib.hid (own_below Own2.out hk)
        have HD := Lib.hid hd0
        have hHn : w0.grownBy wn none := grown_new hHeld (grown_kept hk none) (fun k e => by cases e)
        refine hK.out _ _ hHn (fun _ => ?_)
        replace hHeld := hHn
        clear hHn hk hwn hd0 hgD hlt
        obtain ⟨wc, rfl⟩ : ∃ x, x = wn := ⟨_, rfl⟩
        clear hK K
        try simp only [Act.put, List.setIfInBounds_toArray, List.set_cons_zero, List.set_cons_succ]
        refine wpAnyH_ready (rs := [5, 6]) (by kernel_rfl) (by simp) ?_
        refine AllReadyH.cons (o := ⟨some 144, _, _, _, _, _⟩) rfl (fun K hK => ?_) (AllReadyH.cons (o := ⟨some 20, _, _, _, _, _⟩) rfl (fun K hK => ?_) (AllReadyH.nil))
        · skip
          refine step_appG rfl _ _ 28 rfl w0.heap.size i0 (.agg #[.string ⟨#[]⟩, .string ⟨#[]⟩]) 32 Tryz.underlying28 hi0 hz0 hz1 hz2 rfl v2 (0 + nL) (labs [] ++ labs L) rfl Own2.out (some ⟨gD, 0, none⟩) 1 1 [.string nm, .string vl] rfl (rd_two HD.out) ?_ (by unfold maxLen; omega) (by omega) hHeld.size ?_
          · intro u hu; simp at hu; rcases hu with rfl | rfl <;> rfl
          intro v5 wn hown hg
          have hHn : w0.grownBy wn none := grown_new hHeld hg (fun k e => (Own2.out.lt k e).1)
          have Own5 := Lib.hid hown
          refine hK.out _ _ hHn (fun _ => ?_)
          replace hHeld := hHn
          clear hHn hown hg Own2 HD
          obtain ⟨wc, rfl⟩ : ∃ x, x = wn := ⟨_, rfl⟩
          clear hK K
          try simp only [Act.put, List.setIfInBounds_toArray, List.set_cons_zero, List.set_cons_succ]
          refine wpAnyH_ready (rs := [6]) (by kernel_rfl) (by simp) ?_
          refine AllReadyH.cons (o := ⟨some 20, _, _, _, _, _⟩) rfl (fun K hK => ?_) (AllReadyH.nil)
          · go_simp
            obtain ⟨wn, hwn, hd0, hk, hlt⟩ := new_row wc #[.slice none 0 0] 28
            obtain ⟨g20, hg20⟩ : ∃ g, g = wc.heap.size := ⟨_, rfl⟩
            rw [← hwn, ← hg20]
            rw [← hg20] at hd0
            have hge20 : w0.heap.size ≤ g20 := by rw [hg20]; exact hHeld.size
            replace Own5 := Lib.hid (own_below Own5.out hk)
            have hA := Lib.hid hd0
            have hHn : w0.grownBy wn none := grown_new hHeld (grown_kept hk none) (fun k e => by cases e)
            refine hK.out _ _ hHn (fun _ => ?_)
            replace hHeld := hHn
            clear hHn hk hwn hd0 hg20 hlt
            obtain ⟨wc, rfl⟩ : ∃ x, x = wn := ⟨_, rfl⟩
            clear hK K
            try simp only [Act.put, List.setIfInBounds_toArray, List.set_cons_zero, List.set_cons_succ]
            refine wpAnyH_ready (rs := [7]) (by kernel_rfl) (by simp) ?_
            refine AllReadyH.cons (o := ⟨none, _, _, _, _, _⟩) rfl (fun K hK => ?_) (AllReadyH.nil)
            · have d0 : wc.cell? ⟨g20, 0, none⟩ = some (.slice none 0 0) := cell_of_row _ g20 0 _ _ _ hA.out
              have f0 : ∀ j, wc.frozen? ⟨g20, j, none⟩ = false := fun j => by simp [World.frozen?, hA.out]
              obtain ⟨A20, c20, hv5, _, hr5⟩ := own_rd Own5.out
              have hn5 := own_ne Own5.out hA.out (by decide)
              have e5 : 0 + nL + 1 = nL + 1 := by omega
              rw [e5] at hv5 hr5
              clear Own5
              subst hv5
              have hgs := grown_set wc g20 0 (.slice A20 (nL + 1) c20)
              have R20 := Lib.hid (rd_grown hr5 hgs (fun ad e e2 => hn5 (by rw [e]; exact e2.symm)) hgs.size)
              have hA2 := Lib.hid (heap_setCell_same wc g20 0 _ _ (.slice A20 (nL + 1) c20) hA.out)
              have hHn : w0.grownBy _ none := grown_new hHeld hgs (fun k e => by injection e with e; omega)
              clear e5 hr5 hn5 hgs
              go_simp
              refine hK.out _ _ hHn (fun _ => ?_)
              clear d0 f0 hA
              clear hK K
              try simp only [Act.put, List.setIfInBounds_toArray, List.set_cons_zero, List.set_cons_succ]
              refine wpAnyH_done (by kernel_rfl) ?_ _
              go_wp2_with fail
              go_meet
              exact ⟨g20, A20, c20, rfl, hA2, R20, Hfin.out _ (grown_keptN hHn)⟩
        · go_simp
          obtain ⟨wn, hwn, hd0, hk, hlt⟩ := new_row wc #[.slice none 0 0] 28
          obtain ⟨g20, hg20⟩ : ∃ g, g = wc.heap.size := ⟨_, rfl⟩
          rw [← hwn, ← hg20]
          rw [← hg20] at hd0
          have hge20 : w0.heap.size ≤ g20 := by rw [hg20]; exact hHeld.size
          replace Own2 := Lib.hid (own_below Own2.out hk)
          replace HD := Lib.hid (heap_kept hk HD.out)
          have hA := Lib.hid hd0
          have hHn : w0.grownBy wn none := grown_new hHeld (grown_kept hk none) (fun k e => by cases e)
          refine hK.out _ _ hHn (fun _ => ?_)
          replace hHeld := hHn
          clear hHn hk hwn hd0 hg20 hlt
          obtain ⟨wc, rfl⟩ : ∃ x, x = wn := ⟨_, rfl⟩
          clear hK K
          try simp only [Act.put, List.setIfInBounds_toArray, List.set_cons_zero, List.set_cons_succ]
          refine wpAnyH_ready (rs := [5]) (by kernel_rfl) (by simp) ?_
          refine AllReadyH.cons (o := ⟨some 144, _, _, _, _, _⟩) rfl (fun K hK => ?_) (AllReadyH.nil)
          · skip
            refine step_appG rfl _ _ 28 rfl w0.heap.size i0 (.agg #[.string ⟨#[]⟩, .string ⟨#[]⟩]) 32 Tryz.underlying28 hi0 hz0 hz1 hz2 rfl v2 (0 + nL) (labs [] ++ labs L) rfl Own2.out (some ⟨gD, 0, none⟩) 1 1 [.string nm, .string vl] rfl (rd_two HD.out) ?_ (by unfold maxLen; omega) (by omega) hHeld.size ?_
            · intro u hu; simp at hu; rcases hu with rfl | rfl <;> rfl
            intro v5 wn hown hg
            have hHn : w0.grownBy wn none := grown_new hHeld hg (fun k e => (Own2.out.lt k e).1)
            have Own5 := Lib.hid hown
            replace hA := Lib.hid ((hg.block g20 (heap_lt hA.out) (own_ne Own2.out hA.out (by decide))).trans hA.out)
            refine hK.out _ _ hHn (fun _ => ?_)
            replace hHeld := hHn
            clear hHn hown hg Own2 HD
            obtain ⟨wc, rfl⟩ : ∃ x, x = wn := ⟨_, rfl⟩
            clear hK K
            try simp only [Act.put, List.setIfInBounds_toArray, List.set_cons_zero, List.set_cons_succ]
            refine wpAnyH_ready (rs := [7]) (by kernel_rfl) (by simp) ?_
            refine AllReadyH.cons (o := ⟨none, _, _, _, _, _⟩) rfl (fun K hK => ?_) (AllReadyH.nil)
            · have d0 : wc.cell? ⟨g20, 0, none⟩ = some (.slice none 0 0) := cell_of_row _ g20 0 _ _ _ hA.out
              have f0 : ∀ j, wc.frozen? ⟨g20, j, none⟩ = false := fun j => by simp [World.frozen?, hA.out]
              obtain ⟨A20, c20, hv5, _, hr5⟩ := own_rd Own5.out
              have hn5 := own_ne Own5.out hA.out (by decide)
              have e5 : 0 + nL + 1 = nL + 1 := by omega
              rw [e5] at hv5 hr5
              clear Own5
              subst hv5
              have hgs := grown_set wc g20 0 (.slice A20 (nL + 1) c20)
              have R20 := Lib.hid (rd_grown hr5 hgs (fun ad e e2 => hn5 (by rw [e]; exact e2.symm)) hgs.size)
              have hA2 := Lib.hid (heap_setCell_same wc g20 0 _ _ (.slice A20 (nL + 1) c20) hA.out)
              have hHn : w0.grownBy _ none := grown_new hHeld hgs (fun k e => by injection e with e; omega)
              clear e5 hr5 hn5 hgs
              go_simp
              refine hK.out _ _ hHn (fun _ => ?_)
              clear d0 f0 hA
              clear hK K
              try simp only [Act.put, List.setIfInBounds_toArray, List.set_cons_zero, List.set_cons_succ]
              refine wpAnyH_done (by kernel_rfl) ?_ _
              go_wp2_with fail
              go_meet
              exact ⟨g20, A20, c20, rfl, hA2, R20, Hfin.out _ (grown_keptN hHn)⟩
      · go_simp
        obtain ⟨wn, hwn, hd0, hk, hlt⟩ := new_row wc #[.slice none 0 0] 28
        obtain ⟨g20, hg20⟩ : ∃ g, g = wc.heap.size := ⟨_, rfl⟩
        rw [← hwn, ← hg20]
        rw [← hg20] at hd0
        have hge20 : w0.heap.size ≤ g20 := by rw [hg20]; exact hHeld.size
        replace Own2 := Lib.hid (own_below Own2.out hk)
        have hA := Lib.hid hd0
        have hHn : w0.grownBy wn none := grown_new hHeld (grown_kept hk none) (fun k e => by cases e)
        refine hK.out _ _ hHn (fun _ => ?_)
        replace hHeld := hHn
        clear hHn hk hwn hd0 hg20 hlt
        obtain ⟨wc, rfl⟩ : ∃ x, x = wn := ⟨_, rfl⟩
        clear hK K
        try simp only [Act.put, List.setIfInBounds_toArray, List.set_cons_zero, List.set_cons_succ]
        refine wpAnyH_ready (rs := [4]) (by kernel_rfl) (by simp) ?_
        refine AllReadyH.cons (o := ⟨some 143, _, _, _, _, _⟩) rfl (fun K hK => ?_) (AllReadyH.nil)
        · go_simp
          obtain ⟨wn, hwn, hd0, hk, hlt⟩ := new_row wc #[.string nm, .string vl] 33
          obtain ⟨gD, hgD⟩ : ∃ g, g = wc.heap.size := ⟨_, rfl⟩
          rw [← hwn, ← hgD]
          rw [← hgD] at hd0
          replace Own2 := Lib.hid (own_below Own2.out hk)
          replace hA := Lib.hid (heap_kept hk hA.out)
          have HD := Lib.hid hd0
          have hHn : w0.grownBy wn none := grown_new hHeld (grown_kept hk none) (fun k e => by cases e)
          refine hK.out _ _ hHn (fun _ => ?_)
          replace hHeld := hHn
          clear hHn hk hwn hd0 hgD hlt
          obtain ⟨wc, rfl⟩ : ∃ x, x = wn := ⟨_, rfl⟩
          clear hK K
          try simp only [Act.put, List.setIfInBounds_toArray, List.set_cons_zero, List.set_cons_succ]
          refine wpAnyH_ready (rs := [5]) (by kernel_rfl) (by simp) ?_
          refine AllReadyH.cons (o := ⟨some 144, _, _, _, _, _⟩) rfl (fun K hK => ?_) (AllReadyH.nil)
          · skip
            refine step_appG rfl _ _ 28 rfl w0.heap.size i0 (.agg #[.string ⟨#[]⟩, .string ⟨#[]⟩]) 32 Tryz.underlying28 hi0 hz0 hz1 hz2 rfl v2 (0 + nL) (labs [] ++ labs L) rfl Own2.out (some ⟨gD, 0, none⟩) 1 1 [.string nm, .string vl] rfl (rd_two HD.out) ?_ (by unfold maxLen; omega) (by omega) hHeld.size ?_
            · intro u hu; simp at hu; rcases hu with rfl | rfl <;> rfl
            intro v5 wn hown hg
            have hHn : w0.grownBy wn none := grown_new hHeld hg (fun k e => (Own2.out.lt k e).1)
            have Own5 := Lib.hid hown
            replace hA := Lib.hid ((hg.block g20 (heap_lt hA.out) (own_ne Own2.out hA.out (by decide))).trans hA.out)
            refine hK.out _ _ hHn (fun _ => ?_)
            replace hHeld := hHn
            clear hHn hown hg Own2 HD
            obtain ⟨wc, rfl⟩ : ∃ x, x = wn := ⟨_, rfl⟩
            clear hK K
            try simp only [Act.put, List.setIfInBounds_toArray, List.set_cons_zero, List.set_cons_succ]
            refine wpAnyH_ready (rs := [7]) (by kernel_rfl) (by simp) ?_
            refine AllReadyH.cons (o := ⟨none, _, _, _, _, _⟩) rfl (fun K hK => ?_) (AllReadyH.nil)
            · have d0 : wc.cell? ⟨g20, 0, none⟩ = some (.slice none 0 0) := cell_of_row _ g20 0 _ _ _ hA.out
              have f0 : ∀ j, wc.frozen? ⟨g20, j, none⟩ = false := fun j => by simp [World.frozen?, hA.out]
              obtain ⟨A20, c20, hv5, _, hr5⟩ := own_rd Own5.out
              have hn5 := own_ne Own5.out hA.out (by decide)
              have e5 : 0 + nL + 1 = nL + 1 := by omega
              rw [e5] at hv5 hr5
              clear Own5
              subst hv5
              have hgs := grown_set wc g20 0 (.slice A20 (nL + 1) c20)
              have R20 := Lib.hid (rd_grown hr5 hgs (fun ad e e2 => hn5 (by rw [e]; exact e2.symm)) hgs.size)
              have hA2 := Lib.hid (heap_setCell_same wc g20 0 _ _ (.slice A20 (nL + 1) c20) hA.out)
              have hHn : w0.grownBy _ none := grown_new hHeld hgs (fun k e => by injection e with e; omega)
              clear e5 hr5 hn5 hgs
              go_simp
              refine hK.out _ _ hHn (fun _ => ?_)
              clear d0 f0 hA
              clear hK K
              try simp only [Act.put, List.setIfInBounds_toArray, List.set_cons_zero, List.set_cons_succ]
              refine wpAnyH_done (by kernel_rfl) ?_ _
              go_wp2_with fail
              go_meet
              exact ⟨g20, A20, c20, rfl, hA2, R20, Hfin.out _ (grown_keptN hHn)⟩
    · go_simp
      obtain ⟨wn, hwn, hd0, hk, hlt⟩ := new_row wc #[.string nm, .string vl] 33
      obtain ⟨gD, hgD⟩ : ∃ g, g = wc.heap.size := ⟨_, rfl⟩
      rw [← hwn, ← hgD]
      rw [← hgD] at hd0
      have hnD : gD ≠ g0 := by have := (own0.out.lt g0 rfl).2; omega
      replace own0 := Lib.hid (own_below own0.out hk)
      have HD := Lib.hid hd0
      have hHn : w0.grownBy wn none := grown_new hHeld (grown_kept hk none) (fun k e => by cases e)
      refine hK.out _ _ hHn (fun _ => ?_)
      replace hHeld := hHn
      clear hHn hk hwn hd0 hgD hlt
      obtain ⟨wc, rfl⟩ : ∃ x, x = wn := ⟨_, rfl⟩
      clear hK K
      try simp only [Act.put, List.setIfInBounds_toArray, List.set_cons_zero, List.set_cons_succ]
      refine wpAnyH_ready (rs := [2, 6]) (by kernel_rfl) (by simp) ?_
      refine AllReadyH.cons (o := ⟨some 141, _, _, _, _, _⟩) rfl (fun K hK => ?_) (AllReadyH.cons (o := ⟨some 20, _, _, _, _, _⟩) rfl (fun K hK => ?_) (AllReadyH.nil))
      · skip
        refine step_appG rfl _ _ 28 rfl w0.heap.size i0 (.agg #[.string ⟨#[]⟩, .string ⟨#[]⟩]) 32 Tryz.underlying28 hi0 hz0 hz1 hz2 rfl _ 0 (labs []) rfl own0.out A1 nL c1 (labs L) rfl (HRL.out _ hHeld) ?_ (by unfold maxLen; omega) (by omega) hHeld.size ?_
        · exact labs_one _
        intro v2 wn hown hg
        have hHn : w0.grownBy wn none := grown_new hHeld hg (fun k e => (own0.out.lt k e).1)
        have Own2 := Lib.hid hown
        replace HD := Lib.hid ((hg.block gD (heap_lt HD.out) (fun e => hnD (by injection e))).trans HD.out)
        refine hK.out _ _ hHn (fun _ => ?_)
        replace hHeld := hHn
        clear hHn hown hg own0
        obtain ⟨wc, rfl⟩ : ∃ x, x = wn := ⟨_, rfl⟩
        clear hK K
        try simp only [Act.put, List.setIfInBounds_toArray, List.set_cons_zero, List.set_cons_succ]
        refine wpAnyH_ready (rs := [5, 6]) (by kernel_rfl) (by simp) ?_
        refine AllReadyH.cons (o := ⟨some 144, _, _, _, _, _⟩) rfl (fun K hK => ?_) (AllReadyH.cons (o := ⟨some 20, _, _, _, _, _⟩) rfl (fun K hK => ?_) (AllReadyH.nil))
        · skip
          refine step_appG rfl _ _ 28 rfl w0.heap.size i0 (.agg #[.string ⟨#[]⟩, .string ⟨#[]⟩]) 32 Tryz.underlying28 hi0 hz0 hz1 hz2 rfl v2 (0 + nL) (labs [] ++ labs L) rfl Own2.out (some ⟨gD, 0, none⟩) 1 1 [.string nm, .string vl] rfl (rd_two HD.out) ?_ (by unfold maxLen; omega) (by omega) hHeld.size ?_
          · intro u hu; simp at hu; rcases hu with rfl | rfl <;> rfl
          intro v5 wn hown hg
          have hHn : w0.grownBy wn none := grown_new hHeld hg (fun k e => (Own2.out.lt k e).1)
          have Own5 := Lib.hid hown
          refine hK.out _ _ hHn (fun _ => ?_)
          replace hHeld := hHn
          clear hHn hown hg Own2 HD
          obtain ⟨wc, rfl⟩ : ∃ x, x = wn := ⟨_, rfl⟩
          clear hK K
          try simp only [Act.put, List.setIfInBounds_toArray, List.set_cons_zero, List.set_cons_succ]
          refine wpAnyH_ready (rs := [6]) (by kernel_rfl) (by simp) ?_
          refine AllReadyH.cons (o := ⟨some 20, _, _, _, _, _⟩) rfl (fun K hK => ?_) (AllReadyH.nil)
          · go_simp
            obtain ⟨wn, hwn, hd0, hk, hlt⟩ := new_row wc #[.slice none 0 0] 28
            obtain ⟨g20, hg20⟩ : ∃ g, g = wc.heap.size := ⟨_, rfl⟩
            rw [← hwn, ← hg20]
            rw [← hg20] at hd0
            have hge20 : w0.heap.size ≤ g20 := by rw [hg20]; exact hHeld.size
            replace Own5 := Lib.hid (own_below Own5.out hk)
            have hA := Lib.hid hd0
            have hHn : w0.grownBy wn none := grown_new hHeld (grown_kept hk none) (fun k e => by cases e)
            refine hK.out _ _ hHn (fun _ => ?_)
            replace hHeld := hHn
            clear hHn hk hwn hd0 hg20 hlt
            obtain ⟨wc, rfl⟩ : ∃ x, x = wn := ⟨_, rfl⟩
            clear hK K
            try simp only [Act.put, List.setIfInBounds_toArray, List.set_cons_zero, List.set_cons_succ]
            refine wpAnyH_ready (rs := [7]) (by kernel_rfl) (by simp) ?_
            refine AllReadyH.cons (o := ⟨none, _, _, _, _, _⟩) rfl (fun K hK => ?_) (AllReadyH.nil)
            · have d0 : wc.cell? ⟨g20, 0, none⟩ = some (.slice none 0 0) := cell_of_row _ g20 0 _ _ _ hA.out
              have f0 : ∀ j, wc.frozen? ⟨g20, j, none⟩ = false := fun j => by simp [World.frozen?, hA.out]
              obtain ⟨A20, c20, hv5, _, hr5⟩ := own_rd Own5.out
              have hn5 := own_ne Own5.out hA.out (by decide)
              have e5 : 0 + nL + 1 = nL + 1 := by omega
              rw [e5] at hv5 hr5
              clear Own5
              subst hv5
              have hgs := grown_set wc g20 0 (.slice A20 (nL + 1) c20)
              have R20 := Lib.hid (rd_grown hr5 hgs (fun ad e e2 => hn5 (by rw [e]; exact e2.symm)) hgs.size)
              have hA2 := Lib.hid (heap_setCell_same wc g20 0 _ _ (.slice A20 (nL + 1) c20) hA.out)
              have hHn : w0.grownBy _ none := grown_new hHeld hgs (fun k e => by injection e with e; omega)
              clear e5 hr5 hn5 hgs
              go_simp
              refine hK.out _ _ hHn (fun _ => ?_)
              clear d0 f0 hA
              clear hK K
              try simp only [Act.put, List.setIfInBounds_toArray, List.set_cons_zero, List.set_cons_succ]
              refine wpAnyH_done (by kernel_rfl) ?_ _
              go_wp2_with fail
              go_meet
              exact ⟨g20, A20, c20, rfl, hA2, R20, Hfin.out _ (grown_keptN hHn)⟩
        · go_simp
          obtain ⟨wn, hwn, hd0, hk, hlt⟩ := new_row wc #[.slice none 0 0] 28
          obtain ⟨g20, hg20⟩ : ∃ g, g = wc.heap.size := ⟨_, rfl⟩
          rw [← hwn, ← hg20]
          rw [← hg20] at hd0
          have hge20 : w0.heap.size ≤ g20 := by rw [hg20]; exact hHeld.size
          replace Own2 := Lib.hid (own_below Own2.out hk)
          replace HD := Lib.hid (heap_kept hk HD.out)
          have hA := Lib.hid hd0
          have hHn : w0.grownBy wn none := grown_new hHeld (grown_kept hk none) (fun k e => by cases e)
          refine hK.out _ _ hHn (fun _ => ?_)
          replace hHeld := hHn
          clear hHn hk hwn hd0 hg20 hlt
          obtain ⟨wc, rfl⟩ : ∃ x, x = wn := ⟨_, rfl⟩
          clear hK K
          try simp only [Act.put, List.setIfInBounds_toArray, List.set_cons_zero, List.set_cons_succ]
          refine wpAnyH_ready (rs := [5]) (by kernel_rfl) (by simp) ?_
          refine AllReadyH.cons (o := ⟨some 144, _, _, _, _, _⟩) rfl (fun K hK => ?_) (AllReadyH.nil)
          · skip
            refine step_appG rfl _ _ 28 rfl w0.heap.size i0 (.agg #[.string ⟨#[]⟩, .string ⟨#[]⟩]) 32 Tryz.underlying28 hi0 hz0 hz1 hz2 rfl v2 (0 + nL) (labs [] ++ labs L) rfl Own2.out (some ⟨gD, 0, none⟩) 1 1 [.string nm, .string vl] rfl (rd_two HD.out) ?_ (by unfold maxLen; omega) (by omega) hHeld.size ?_
            · intro u hu; simp at hu; rcases hu with rfl | rfl <;> rfl
            intro v5 wn hown hg
            have hHn : w0.grownBy wn none := grown_new hHeld hg (fun k e => (Own2.out.lt k e).1)
            have Own5 := Lib.hid hown
            replace hA := Lib.hid ((hg.block g20 (heap_lt hA.out) (own_ne Own2.out hA.out (by decide))).trans hA.out)
            refine hK.out _ _ hHn (fun _ => ?_)
            replace hHeld := hHn
            clear hHn hown hg Own2 HD
            obtain ⟨wc, rfl⟩ : ∃ x, x = wn := ⟨_, rfl⟩
            clear hK K
            try simp only [Act.put, List.setIfInBounds_toArray, List.set_cons_zero, List.set_cons_succ]
            refine wpAnyH_ready (rs := [7]) (by kernel_rfl) (by simp) ?_
            refine AllReadyH.cons (o := ⟨none, _, _, _, _, _⟩) rfl (fun K hK => ?_) (AllReadyH.nil)
            · have d0 : wc.cell? ⟨g20, 0, none⟩ = some (.slice none 0 0) := cell_of_row _ g20 0 _ _ _ hA.out
              have f0 : ∀ j, wc.frozen? ⟨g20, j, none⟩ = false := fun j => by simp [World.frozen?, hA.out]
              obtain ⟨A20, c20, hv5, _, hr5⟩ := own_rd Own5.out
              have hn5 := own_ne Own5.out hA.out (by decide)
              have e5 : 0 + nL + 1 = nL + 1 := by omega
              rw [e5] at hv5 hr5
              clear Own5
              subst hv5
              have hgs := grown_set wc g20 0 (.slice A20 (nL + 1) c20)
              have R20 := Lib.hid (rd_grown hr5 hgs (fun ad e e2 => hn5 (by rw [e]; exact e2.symm)) hgs.size)
              have hA2 := Lib.hid (heap_setCell_same wc g20 0 _ _ (.slice A20 (nL + 1) c20) hA.out)
              have hHn : w0.grownBy _ none := grown_new hHeld hgs (fun k e => by injection e with e; omega)
              clear e5 hr5 hn5 hgs
              go_simp
              refine hK.out _ _ hHn (fun _ => ?_)
              clear d0 f0 hA
              clear hK K
              try simp only [Act.put, List.setIfInBounds_toArray, List.set_cons_zero, List.set_cons_succ]
              refine wpAnyH_done (by kernel_rfl) ?_ _
              go_wp2_with fail
              go_meet
              exact ⟨g20, A20, c20, rfl, hA2, R20, Hfin.out _ (grown_keptN hHn)⟩
      · go_simp
        obtain ⟨wn, hwn, hd0, hk, hlt⟩ := new_row wc #[.slice none 0 0] 28
        obtain ⟨g20, hg20⟩ : ∃ g, g = wc.heap.size := ⟨_, rfl⟩
        rw [← hwn, ← hg20]
        rw [← hg20] at hd0
        have hge20 : w0.heap.size ≤ g20 := by rw [hg20]; exact hHeld.size
        replace own0 := Lib.hid (own_below own0.out hk)
        replace HD := Lib.hid (heap_kept hk HD.out)
        have hA := Lib.hid hd0
        have hHn : w0.grownBy wn none := grown_new hHeld (grown_kept hk none) (fun k e => by cases e)
        refine hK.out _ _ hHn (fun _ => ?_)
        replace hHeld := hHn
        clear hHn hk hwn hd0 hg20 hlt
        obtain ⟨wc, rfl⟩ : ∃ x, x = wn := ⟨_, rfl⟩
        clear hK K
        try simp only [Act.put, List.setIfInBounds_toArray, List.set_cons_zero, List.set_cons_succ]
        refine wpAnyH_ready (rs := [2]) (by kernel_rfl) (by simp) ?_
        refine AllReadyH.cons (o := ⟨some 141, _, _, _, _, _⟩) rfl (fun K hK => ?_) (AllReadyH.nil)
        · skip
          refine step_appG rfl _ _ 28 rfl w0.heap.size i0 (.agg #[.string ⟨#[]⟩, .string ⟨#[]⟩]) 32 Tryz.underlying28 hi0 hz0 hz1 hz2 rfl _ 0 (labs []) rfl own0.out A1 nL c1 (labs L) rfl (HRL.out _ hHeld) ?_ (by unfold maxLen; omega) (by omega) hHeld.size ?_
          · exact labs_one _
          intro v2 wn hown hg
          have hHn : w0.grownBy wn none := grown_new hHeld hg (fun k e => (own0.out.lt k e).1)
          have Own2 := Lib.hid hown
          replace HD := Lib.hid ((hg.block gD (heap_lt HD.out) (fun e => hnD (by injection e))).trans HD.out)
          replace hA := Lib.hid ((hg.block g20 (heap_lt hA.out) (own_ne own0.out hA.out (by decide))).trans hA.out)
          refine hK.out _ _ hHn (fun _ => ?_)
          replace hHeld := hHn
          clear hHn hown hg own0
          obtain ⟨wc, rfl⟩ : ∃ x, x = wn := ⟨_, rfl⟩
          clear hK K
          try simp only [Act.put, List.setIfInBounds_toArray, List.set_cons_zero, List.set_cons_succ]
          refine wpAnyH_ready (rs := [5]) (by kernel_rfl) (by simp) ?_
          refine AllReadyH.cons (o := ⟨some 144, _, _, _, _, _⟩) rfl (fun K hK => ?_) (AllReadyH.nil)
          · skip
            refine step_appG rfl _ _ 28 rfl w0.heap.size i0 (.agg #[.string ⟨#[]⟩, .string ⟨#[]⟩]) 32 Tryz.underlying28 hi0 hz0 hz1 hz2 rfl v2 (0 + nL) (labs [] ++ labs L) rfl Own2.out (some ⟨gD, 0, none⟩) 1 1 [.string nm, .string vl] rfl (rd_two HD.out) ?_ (by unfold maxLen; omega) (by omega) hHeld.size ?_
            · intro u hu; simp at hu; rcases hu with rfl | rfl <;> rfl
            intro v5 wn hown hg
            have hHn : w0.grownBy wn none := grown_new hHeld hg (fun k e => (Own2.out.lt k e).1)
            have Own5 := Lib.hid hown
            replace hA := Lib.hid ((hg.block g20 (heap_lt hA.out) (own_ne Own2.out hA.out (by decide))).trans hA.out)
            refine hK.out _ _ hHn (fun _ => ?_)
            replace hHeld := hHn
            clear hHn hown hg Own2 HD
            obtain ⟨wc, rfl⟩ : ∃ x, x = wn := ⟨_, rfl⟩
            clear hK K
            try simp only [Act.put, List.setIfInBounds_toArray, List.set_cons_zero, List.set_cons_succ]
            refine wpAnyH_ready (rs := [7]) (by kernel_rfl) (by simp) ?_
            refine AllReadyH.cons (o := ⟨none, _, _, _, _, _⟩) rfl (fun K hK => ?_) (AllReadyH.nil)
            · have d0 : wc.cell? ⟨g20, 0, none⟩ = some (.slice none 0 0) := cell_of_row _ g20 0 _ _ _ hA.out
              have f0 : ∀ j, wc.frozen? ⟨g20, j, none⟩ = false := fun j => by simp [World.frozen?, hA.out]
              obtain ⟨A20, c20, hv5, _, hr5⟩ := own_rd Own5.out
              have hn5 := own_ne Own5.out hA.out (by decide)
              have e5 : 0 + nL + 1 = nL + 1 := by omega
              rw [e5] at hv5 hr5
              clear Own5
              subst hv5
              have hgs := grown_set wc g20 0 (.slice A20 (nL + 1) c20)
              have R20 := Lib.hid (rd_grown hr5 hgs (fun ad e e2 => hn5 (by rw [e]; exact e2.symm)) hgs.size)
              have hA2 := Lib.hid (heap_setCell_same wc g20 0 _ _ (.slice A20 (nL + 1) c20) hA.out)
              have hHn : w0.grownBy _ none := grown_new hHeld hgs (fun k e => by injection e with e; omega)
              clear e5 hr5 hn5 hgs
              go_simp
              refine hK.out _ _ hHn (fun _ => ?_)
              clear d0 f0 hA
              clear hK K
              try simp only [Act.put, List.setIfInBounds_toArray, List.set_cons_zero, List.set_cons_succ]
              refine wpAnyH_done (by kernel_rfl) ?_ _
              go_wp2_with fail
              go_meet
              exact ⟨g20, A20, c20, rfl, hA2, R20, Hfin.out _ (grown_keptN hHn)⟩
    · go_simp
      obtain ⟨wn, hwn, hd0, hk, hlt⟩ := new_row wc #[.slice none 0 0] 28
      obtain ⟨g20, hg20⟩ : ∃ g, g = wc.heap.size := ⟨_, rfl⟩
      rw [← hwn, ← hg20]
      rw [← hg20] at hd0
      have hge20 : w0.heap.size ≤ g20 := by rw [hg20]; exact hHeld.size
      replace own0 := Lib.hid (own_below own0.out hk)
      have hA := Lib.hid hd0
      have hHn : w0.grownBy wn none := grown_new hHeld (grown_kept hk none) (fun k e => by cases e)
      refine hK.out _ _ hHn (fun _ => ?_)
      replace hHeld := hHn
      clear hHn hk hwn hd0 hg20 hlt
      obtain ⟨wc, rfl⟩ : ∃ x, x = wn := ⟨_, rfl⟩
      clear hK K
      try simp only [Act.put, List.setIfInBounds_toArray, List.set_cons_zero, List.set_cons_succ]
      refine wpAnyH_ready (rs := [2, 4]) (by kernel_rfl) (by simp) ?_
      refine AllReadyH.cons (o := ⟨some 141, _, _, _, _, _⟩) rfl (fun K hK => ?_) (AllReadyH.cons (o := ⟨some 143, _, _, _, _, _⟩) rfl (fun K hK => ?_) (AllReadyH.nil))
      · skip
        refine step_appG rfl _ _ 28 rfl w0.heap.size i0 (.agg #[.string ⟨#[]⟩, .string ⟨#[]⟩]) 32 Tryz.underlying28 hi0 hz0 hz1 hz2 rfl _ 0 (labs []) rfl own0.out A1 nL c1 (labs L) rfl (HRL.out _ hHeld) ?_ (by unfold maxLen; omega) (by omega) hHeld.size ?_
        · exact labs_one _
        intro v2 wn hown hg
        have hHn : w0.grownBy wn none := grown_new hHeld hg (fun k e => (own0.out.lt k e).1)
        have Own2 := Lib.hid hown
        replace hA := Lib.hid ((hg.block g20 (heap_lt hA.out) (own_ne own0.out hA.out (by decide))).trans hA.out)
        refine hK.out _ _ hHn (fun _ => ?_)
        replace hHeld := hHn
        clear hHn hown hg own0
        obtain ⟨wc, rfl⟩ : ∃ x, x = wn := ⟨_, rfl⟩
        clear hK K
        try simp only [Act.put, List.setIfInBounds_toArray, List.set_cons_zero, List.set_cons_succ]
        refine wpAnyH_ready (rs := [4]) (by kernel_rfl) (by simp) ?_
        refine AllReadyH.cons (o := ⟨some 143, _, _, _, _, _⟩) rfl (fun K hK => ?_) (AllReadyH.nil)
        · go_simp
          obtain ⟨wn, hwn, hd0, hk, hlt⟩ := new_row wc #[.string nm, .string vl] 33
          obtain ⟨gD, hgD⟩ : ∃ g, g = wc.heap.size := ⟨_, rfl⟩
          rw [← hwn, ← hgD]
          rw [← hgD] at hd0
          replace Own2 := Lib.hid (own_below Own2.out hk)
          replace hA := Lib.hid (heap_kept hk hA.out)
          have HD := Lib.hid hd0
          have hHn : w0.grownBy wn none := grown_new hHeld (grown_kept hk none) (fun k e => by cases e)
          refine hK.out _ _ hHn (fun _ => ?_)
          replace hHeld := hHn
          clear hHn hk hwn hd0 hgD hlt
          obtain ⟨wc, rfl⟩ : ∃ x, x = wn := ⟨_, rfl⟩
          clear hK K
          try simp only [Act.put, List.setIfInBounds_toArray, List.set_cons_zero, List.set_cons_succ]
          refine wpAnyH_ready (rs := [5]) (by kernel_rfl) (by simp) ?_
          refine AllReadyH.cons (o := ⟨some 144, _, _, _, _, _⟩) rfl (fun K hK => ?_) (AllReadyH.nil)
          · skip
            refine step_appG rfl _ _ 28 rfl w0.heap.size i0 (.agg #[.string ⟨#[]⟩, .string ⟨#[]⟩]) 32 Tryz.underlying28 hi0 hz0 hz1 hz2 rfl v2 (0 + nL) (labs [] ++ labs L) rfl Own2.out (some ⟨gD, 0, none⟩) 1 1 [.string nm, .string vl] rfl (rd_two HD.out) ?_ (by unfold maxLen; omega) (by omega) hHeld.size ?_
            · intro u hu; simp at hu; rcases hu with rfl | rfl <;> rfl
            intro v5 wn hown hg
            have hHn : w0.grownBy wn none := grown_new hHeld hg (fun k e => (Own2.out.lt k e).1)
            have Own5 := Lib.hid hown
            replace hA := Lib.hid ((hg.block g20 (heap_lt hA.out) (own_ne Own2.out hA.out (by decide))).trans hA.out)
            refine hK.out _ _ hHn (fun _ => ?_)
            replace hHeld := hHn
            clear hHn hown hg Own2 HD
            obtain ⟨wc, rfl⟩ : ∃ x, x = wn := ⟨_, rfl⟩
            clear hK K
            try simp only [Act.put, List.setIfInBounds_toArray, List.set_cons_zero, List.set_cons_succ]
            refine wpAnyH_ready (rs := [7]) (by kernel_rfl) (by simp) ?_
            refine AllReadyH.cons (o := ⟨none, _, _, _, _, _⟩) rfl (fun K hK => ?_) (AllReadyH.nil)
            · have d0 : wc.cell? ⟨g20, 0, none⟩ = some (.slice none 0 0) := cell_of_row _ g20 0 _ _ _ hA.out
              have f0 : ∀ j, wc.frozen? ⟨g20, j, none⟩ = false := fun j => by simp [World.frozen?, hA.out]
              obtain ⟨A20, c20, hv5, _, hr5⟩ := own_rd Own5.out
              have hn5 := own_ne Own5.out hA.out (by decide)
              have e5 : 0 + nL + 1 = nL + 1 := by omega
              rw [e5] at hv5 hr5
              clear Own5
              subst hv5
              have hgs := grown_set wc g20 0 (.slice A20 (nL + 1) c20)
              have R20 := Lib.hid (rd_grown hr5 hgs (fun ad e e2 => hn5 (by rw [e]; exact e2.symm)) hgs.size)
              have hA2 := Lib.hid (heap_setCell_same wc g20 0 _ _ (.slice A20 (nL + 1) c20) hA.out)
              have hHn : w0.grownBy _ none := grown_new hHeld hgs (fun k e => by injection e with e; omega)
              clear e5 hr5 hn5 hgs
              go_simp
              refine hK.out _ _ hHn (fun _ => ?_)
              clear d0 f0 hA
              clear hK K
              try simp only [Act.put, List.setIfInBounds_toArray, List.set_cons_zero, List.set_cons_succ]
              refine wpAnyH_done (by kernel_rfl) ?_ _
              go_wp2_with fail
              go_meet
              exact ⟨g20, A20, c20, rfl, hA2, R20, Hfin.out _ (grown_keptN hHn)⟩
      · go_simp
        obtain ⟨wn, hwn, hd0, hk, hlt⟩ := new_row wc #[.string nm, .string vl] 33
        obtain ⟨gD, hgD⟩ : ∃ g, g = wc.heap.size := ⟨_, rfl⟩
        rw [← hwn, ← hgD]
        rw [← hgD] at hd0
        have hnD : gD ≠ g0 := by have := (own0.out.lt g0 rfl).2; omega
        replace own0 := Lib.hid (own_below own0.out hk)
        replace hA := Lib.hid (heap_kept hk hA.out)
        have HD := Lib.hid hd0
        have hHn : w0.grownBy wn none := grown_new hHeld (grown_kept hk none) (fun k e => by cases e)
        refine hK.out _ _ hHn (fun _ => ?_)
        replace hHeld := hHn
        clear hHn hk hwn hd0 hgD hlt
        obtain ⟨wc, rfl⟩ : ∃ x, x = wn := ⟨_, rfl⟩
        clear hK K
        try simp only [Act.put, List.setIfInBounds_toArray, List.set_cons_zero, List.set_cons_succ]
        refine wpAnyH_ready (rs := [2]) (by kernel_rfl) (by simp) ?_
        refine AllReadyH.cons (o := ⟨some 141, _, _, _, _, _⟩) rfl (fun K hK => ?_) (AllReadyH.nil)
        · skip
          refine step_appG rfl _ _ 28 rfl w0.heap.size i0 (.agg #[.string ⟨#[]⟩, .string ⟨#[]⟩]) 32 Tryz.underlying28 hi0 hz0 hz1 hz2 rfl _ 0 (labs []) rfl own0.out A1 nL c1 (labs L) rfl (HRL.out _ hHeld) ?_ (by unfold maxLen; omega) (by omega) hHeld.size ?_
          · exact labs_one _
          intro v2 wn hown hg
          have hHn : w0.grownBy wn none := grown_new hHeld hg (fun k e => (own0.out.lt k e).1)
          have Own2 := Lib.hid hown
          replace HD := Lib.hid ((hg.block gD (heap_lt HD.out) (fun e => hnD (by injection e))).trans HD.out)
          replace hA := Lib.hid ((hg.block g20 (heap_lt hA.out) (own_ne own0.out hA.out (by decide))).trans hA.out)
          refine hK.out _ _ hHn (fun _ => ?_)
          replace hHeld := hHn
          clear hHn hown hg own0
          obtain ⟨wc, rfl⟩ : ∃ x, x = wn := ⟨_, rfl⟩
          clear hK K
          try simp only [Act.put, List.setIfInBounds_toArray, List.set_cons_zero, List.set_cons_succ]
          refine wpAnyH_ready (rs := [5]) (by kernel_rfl) (by simp) ?_
          refine AllReadyH.cons (o := ⟨some 144, _, _, _, _, _⟩) rfl (fun K hK => ?_) (AllReadyH.nil)
          · skip
            refine step_appG rfl _ _ 28 rfl w0.heap.size i0 (.agg #[.string ⟨#[]⟩, .string ⟨#[]⟩]) 32 Tryz.underlying28 hi0 hz0 hz1 hz2 rfl v2 (0 + nL) (labs [] ++ labs L) rfl Own2.out (some ⟨gD, 0, none⟩) 1 1 [.string nm, .string vl] rfl (rd_two HD.out) ?_ (by unfold maxLen; omega) (by omega) hHeld.size ?_
            · intro u hu; simp at hu; rcases hu with rfl | rfl <;> rfl
            intro v5 wn hown hg
            have hHn : w0.grownBy wn none := grown_new hHeld hg (fun k e => (Own2.out.lt k e).1)
            have Own5 := Lib.hid hown
            replace hA := Lib.hid ((hg.block g20 (heap_lt hA.out) (own_ne Own2.out hA.out (by decide))).trans hA.out)
            refine hK.out _ _ hHn (fun _ => ?_)
            replace hHeld := hHn
            clear hHn hown hg Own2 HD
            obtain ⟨wc, rfl⟩ : ∃ x, x = wn := ⟨_, rfl⟩
            clear hK K
            try simp only [Act.put, List.setIfInBounds_toArray, List.set_cons_zero, List.set_cons_succ]
            refine wpAnyH_ready (rs := [7]) (by kernel_rfl) (by simp) ?_
            refine AllReadyH.cons (o := ⟨none, _, _, _, _, _⟩) rfl (fun K hK => ?_) (AllReadyH.nil)
            · have d0 : wc.cell? ⟨g20, 0, none⟩ = some (.slice none 0 0) := cell_of_row _ g20 0 _ _ _ hA.out
              have f0 : ∀ j, wc.frozen? ⟨g20, j, none⟩ = false := fun j => by simp [World.frozen?, hA.out]
              obtain ⟨A20, c20, hv5, _, hr5⟩ := own_rd Own5.out
              have hn5 := own_ne Own5.out hA.out (by decide)
              have e5 : 0 + nL + 1 = nL + 1 := by omega
              rw [e5] at hv5 hr5
              clear Own5
              subst hv5
              have hgs := grown_set wc g20 0 (.slice A20 (nL + 1) c20)
              have R20 := Lib.hid (rd_grown hr5 hgs (fun ad e e2 => hn5 (by rw [e]; exact e2.symm)) hgs.size)
              have hA2 := Lib.hid (heap_setCell_same wc g20 0 _ _ (.slice A20 (nL + 1) c20) hA.out)
              have hHn : w0.grownBy _ none := grown_new hHeld hgs (fun k e => by injection e with e; omega)
              clear e5 hr5 hn5 hgs
              go_simp
              refine hK.out _ _ hHn (fun _ => ?_)
              clear d0 f0 hA
              clear hK K
              try simp only [Act.put, List.setIfInBounds_toArray, List.set_cons_zero, List.set_cons_succ]
              refine wpAnyH_done (by kernel_rfl) ?_ _
              go_wp2_with fail
              go_meet
              exact ⟨g20, A20, c20, rfl, hA2, R20, Hfin.out _ (grown_keptN hHn)⟩
  · as_aux_lemma =>
    go_simp
    obtain ⟨wn, hwn, hd0, hk, hlt⟩ := new_row w0 #[.string nm, .string vl] 33
    obtain ⟨gD, hgD⟩ : ∃ g, g = w0.heap.size := ⟨_, rfl⟩
    rw [← hwn, ← hgD]
    rw [← hgD] at hd0
    have HD := Lib.hid hd0
    have hHn : w0.grownBy wn none := grown_new hHeld (grown_kept hk none) (fun k e => by cases e)
    refine hK.out _ _ hHn (fun _ => ?_)
    replace hHeld := hHn
    clear hHn hk hwn hd0 hgD hlt
    obtain ⟨wc, rfl⟩ : ∃ x, x = wn := ⟨_, rfl⟩
    clear hK K
    try simp only [Act.put, List.setIfInBounds_toArray, List.set_cons_zero, List.set_cons_succ]
    refine wpAnyH_ready (rs := [0, 6]) (by kernel_rfl) (by simp) ?_
    refine AllReadyH.cons (o := ⟨some 139, _, _, _, _, _⟩) rfl (fun K hK => ?_) (AllReadyH.cons (o := ⟨some 20, _, _, _, _, _⟩) rfl (fun K hK => ?_) (AllReadyH.nil))
    · go_simp
      obtain ⟨wn, hwn, hd0, hk, hlt⟩ := new_row wc #[] 33
      obtain ⟨g0, hg0⟩ : ∃ g, g = wc.heap.size := ⟨_, rfl⟩
      rw [← hwn, ← hg0]
      rw [← hg0] at hd0
      have hge0 : w0.heap.size ≤ g0 := by rw [hg0]; exact hHeld.size
      have own0 : Hid (wn.ownsRow w0.heap.size 33 2 (.slice (some ⟨g0, 0, none⟩) 0 0) 0 (labs [])) := ⟨rfl, .inr ⟨_, 0, #[], rfl, hge0, hd0, Nat.le_refl _, Nat.zero_le _, rfl, rfl⟩⟩
      have hnD : gD ≠ g0 := by have := heap_lt HD.out; omega
      replace HD := Lib.hid (heap_kept hk HD.out)
      have hHn : w0.grownBy wn none := grown_new hHeld (grown_kept hk none) (fun k e => by cases e)
      refine hK.out _ _ hHn (fun _ => ?_)
      replace hHeld := hHn
      clear hHn hk hwn hd0 hg0 hlt hge0
      obtain ⟨wc, rfl⟩ : ∃ x, x = wn := ⟨_, rfl⟩
      clear hK K
      try simp only [Act.put, List.setIfInBounds_toArray, List.set_cons_zero, List.set_cons_succ]
      refine wpAnyH_ready (rs := [2, 6]) (by kernel_rfl) (by simp) ?_
      refine AllReadyH.cons (o := ⟨some 141, _, _, _, _, _⟩) rfl (fun K hK => ?_) (AllReadyH.cons (o := ⟨some 20, _, _, _, _, _⟩) rfl (fun K hK => ?_) (AllReadyH.nil))
      · skip
        refine step_appG rfl _ _ 28 rfl w0.heap.size i0 (.agg #[.string ⟨#[]⟩, .string ⟨#[]⟩]) 32 Tryz.underlying28 hi0 hz0 hz1 hz2 rfl _ 0 (labs []) rfl own0.out A1 nL c1 (labs L) rfl (HRL.out _ hHeld) ?_ (by unfold maxLen; omega) (by omega) hHeld.size ?_
        · exact labs_one _
        intro v2 wn hown hg
        have hHn : w0.grownBy wn none := grown_new hHeld hg (fun k e => (own0.out.lt k e).1)
        have Own2 := Lib.hid hown
        replace HD := Lib.hid ((hg.block gD (heap_lt HD.out) (fun e => hnD (by injection e))).trans HD.out)
        refine hK.out _ _ hHn (fun _ => ?_)
        replace hHeld := hHn
        clear hHn hown hg own0
        obtain ⟨wc, rfl⟩ : ∃ x, x = wn := ⟨_, rfl⟩
        clear hK K
        try simp only [Act.put, List.setIfInBounds_toArray, List.set_cons_zero, List.set_cons_succ]
        refine wpAnyH_ready (rs := [5, 6]) (by kernel_rfl) (by simp) ?_
        refine AllReadyH.cons (o := ⟨some 144, _, _, _, _, _⟩) rfl (fun K hK => ?_) (AllReadyH.cons (o := ⟨some 20, _, _, _, _, _⟩) rfl (fun K hK => ?_) (AllReadyH.nil))
        · skip
          refine step_appG rfl _ _ 28 rfl w0.heap.size i0 (.agg #[.string ⟨#[]⟩, .string ⟨#[]⟩]) 32 Tryz.underlying28 hi0 hz0 hz1 hz2 rfl v2 (0 + nL) (labs [] ++ labs L) rfl Own2.out (some ⟨gD, 0, none⟩) 1 1 [.string nm, .string vl] rfl (rd_two HD.out) ?_ (by unfold maxLen; omega) (by omega) hHeld.size ?_
          · intro u hu; simp at hu; rcases hu with rfl | rfl <;> rfl
          intro v5 wn hown hg
          have hHn : w0.grownBy wn none := grown_new hHeld hg (fun k e => (Own2.out.lt k e).1)
          have Own5 := Lib.hid hown
          refine hK.out _ _ hHn (fun _ => ?_)
          replace hHeld := hHn
          clear hHn hown hg Own2 HD
          obtain ⟨wc, rfl⟩ : ∃ x, x = wn := ⟨_, rfl⟩
          clear hK K
          try simp only [Act.put, List.setIfInBounds_toArray, List.set_cons_zero, List.set_cons_succ]
          refine wpAnyH_ready (rs := [6]) (by kernel_rfl) (by simp) ?_
          refine AllReadyH.cons (o := ⟨some 20, _, _, _, _, _⟩) rfl (fun K hK => ?_) (AllReadyH.nil)
          · go_simp
            obtain ⟨wn, hwn, hd0, hk, hlt⟩ := new_row wc #[.slice none 0 0] 28
            obtain ⟨g20, hg20⟩ : ∃ g, g = wc.heap.size := ⟨_, rfl⟩
            rw [← hwn, ← hg20]
            rw [← hg20] at hd0
            have hge20 : w0.heap.size ≤ g20 := by rw [hg20]; exact hHeld.size
            replace Own5 := Lib.hid (own_below Own5.out hk)
            have hA := Lib.hid hd0
            have hHn : w0.grownBy wn none := grown_new hHeld (grown_kept hk none) (fun k e => by cases e)
            refine hK.out _ _ hHn (fun _ => ?_)
            replace hHeld := hHn
            clear hHn hk hwn hd0 hg20 hlt
            obtain ⟨wc, rfl⟩ : ∃ x, x = wn := ⟨_, rfl⟩
            clear hK K
            try simp only [Act.put, List.setIfInBounds_toArray, List.set_cons_zero, List.set_cons_succ]
            refine wpAnyH_ready (rs := [7]) (by kernel_rfl) (by simp) ?_
            refine AllReadyH.cons (o := ⟨none, _, _, _, _, _⟩) rfl (fun K hK => ?_) (AllReadyH.nil)
            · have d0 : wc.cell? ⟨g20, 0, none⟩ = some (.slice none 0 0) := cell_of_row _ g20 0 _ _ _ hA.out
              have f0 : ∀ j, wc.frozen? ⟨g20, j, none⟩ = false := fun j => by simp [World.frozen?, hA.out]
              obtain ⟨A20, c20, hv5, _, hr5⟩ := own_rd Own5.out
              have hn5 := own_ne Own5.out hA.out (by decide)
              have e5 : 0 + nL + 1 = nL + 1 := by omega
              rw [e5] at hv5 hr5
              clear Own5
              subst hv5
              have hgs := grown_set wc g20 0 (.slice A20 (nL + 1) c20)
              have R20 := Lib.hid (rd_grown hr5 hgs (fun ad e e2 => hn5 (by rw [e]; exact e2.symm)) hgs.size)
              have hA2 := Lib.hid (heap_setCell_same wc g20 0 _ _ (.slice A20 (nL + 1) c20) hA.out)
              have hHn : w0.grownBy _ none := grown_new hHeld hgs (fun k e => by injection e with e; omega)
              clear e5 hr5 hn5 hgs
              go_simp
              refine hK.out _ _ hHn (fun _ => ?_)
              clear d0 f0 hA
              clear hK K
              try simp only [Act.put, List.setIfInBounds_toArray, List.set_cons_zero, List.set_cons_succ]
              refine wpAnyH_done (by kernel_rfl) ?_ _
              go_wp2_with fail
              go_meet
              exact ⟨g20, A20, c20, rfl, hA2, R20, Hfin.out _ (grown_keptN hHn)⟩
        · go_simp
          obtain ⟨wn, hwn, hd0, hk, hlt⟩ := new_row wc #[.slice none 0 0] 28
          obtain ⟨g20, hg20⟩ : ∃ g, g = wc.heap.size := ⟨_, rfl⟩
          rw [← hwn, ← hg20]
          rw [← hg20] at hd0
          have hge20 : w0.heap.size ≤ g20 := by rw [hg20]; exact hHeld.size
          replace Own2 := Lib.hid (own_below Own2.out hk)
          replace HD := Lib.hid (heap_kept hk HD.out)
          have hA := Lib.hid hd0
          have hHn : w0.grownBy wn none := grown_new hHeld (grown_kept hk none) (fun k e => by cases e)
          refine hK.out _ _ hHn (fun _ => ?_)
          replace hHeld := hHn
          clear hHn hk hwn hd0 hg20 hlt
          obtain ⟨wc, rfl⟩ : ∃ x, x = wn := ⟨_, rfl⟩
          clear hK K
          try simp only [Act.put, List.setIfInBounds_toArray, List.set_cons_zero, List.set_cons_succ]
          refine wpAnyH_ready (rs := [5]) (by kernel_rfl) (by simp) ?_
          refine AllReadyH.cons (o := ⟨some 144, _, _, _, _, _⟩) rfl (fun K hK => ?_) (AllReadyH.nil)
          · skip
            refine step_appG rfl _ _ 28 rfl w0.heap.size i0 (.agg #[.string ⟨#[]⟩, .string ⟨#[]⟩]) 32 Tryz.underlying28 hi0 hz0 hz1 hz2 rfl v2 (0 + nL) (labs [] ++ labs L) rfl Own2.out (some ⟨gD, 0, none⟩) 1 1 [.string nm, .string vl] rfl (rd_two HD.out) ?_ (by unfold maxLen; omega) (by omega) hHeld.size ?_
            · intro u hu; simp at hu; rcases hu with rfl | rfl <;> rfl
            intro v5 wn hown hg
            have hHn : w0.grownBy wn none := grown_new hHeld hg (fun k e => (Own2.out.lt k e).1)
            have Own5 := Lib.hid hown
            replace hA := Lib.hid ((hg.block g20 (heap_lt hA.out) (own_ne Own2.out hA.out (by decide))).trans hA.out)
            refine hK.out _ _ hHn (fun _ => ?_)
            replace hHeld := hHn
            clear hHn hown hg Own2 HD
            obtain ⟨wc, rfl⟩ : ∃ x, x = wn := ⟨_, rfl⟩
            clear hK K
            try simp only [Act.put, List.setIfInBounds_toArray, List.set_cons_zero, List.set_cons_succ]
            refine wpAnyH_ready (rs := [7]) (by kernel_rfl) (by simp) ?_
            refine AllReadyH.cons (o := ⟨none, _, _, _, _, _⟩) rfl (fun K hK => ?_) (AllReadyH.nil)
            · have d0 : wc.cell? ⟨g20, 0, none⟩ = some (.slice none 0 0) := cell_of_row _ g20 0 _ _ _ hA.out
              have f0 : ∀ j, wc.frozen? ⟨g20, j, none⟩ = false := fun j => by simp [World.frozen?, hA.out]
              obtain ⟨A20, c20, hv5, _, hr5⟩ := own_rd Own5.out
              have hn5 := own_ne Own5.out hA.out (by decide)
              have e5 : 0 + nL + 1 = nL + 1 := by omega
              rw [e5] at hv5 hr5
              clear Own5
              subst hv5
              have hgs := grown_set wc g20 0 (.slice A20 (nL + 1) c20)
              have R20 := Lib.hid (rd_grown hr5 hgs (fun ad e e2 => hn5 (by rw [e]; exact e2.symm)) hgs.size)
              have hA2 := Lib.hid (heap_setCell_same wc g20 0 _ _ (.slice A20 (nL + 1) c20) hA.out)
              have hHn : w0.grownBy _ none := grown_new hHeld hgs (fun k e => by injection e with e; omega)
              clear e5 hr5 hn5 hgs
              go_simp
              refine hK.out _ _ hHn (fun _ => ?_)
              clear d0 f0 hA
              clear hK K
              try simp only [Act.put, List.setIfInBounds_toArray, List.set_cons_zero, List.set_cons_succ]
              refine wpAnyH_done (by kernel_rfl) ?_ _
              go_wp2_with fail
              go_meet
              exact ⟨g20, A20, c20, rfl, hA2, R20, Hfin.out _ (grown_keptN hHn)⟩
      · go_simp
        obtain ⟨wn, hwn, hd0, hk, hlt⟩ := new_row wc #[.slice none 0 0] 28
        obtain ⟨g20, hg20⟩ : ∃ g, g = wc.heap.size := ⟨_, rfl⟩
        rw [← hwn, ← hg20]
        rw [← hg20] at hd0
        have hge20 : w0.heap.size ≤ g20 := by rw [hg20]; exact hHeld.size
        replace own0 := Lib.hid (own_below own0.out hk)
        replace HD := Lib.hid (heap_kept hk HD.out)
        have hA := Lib.hid hd0
        have hHn : w0.grownBy wn none := grown_new hHeld (grown_kept hk none) (fun k e => by cases e)
        refine hK.out _ _ hHn (fun _ => ?_)
        replace hHeld := hHn
        clear hHn hk hwn hd0 hg20 hlt
        obtain ⟨wc, rfl⟩ : ∃ x, x = wn := ⟨_, rfl⟩
        clear hK K
        try simp only [Act.put, List.setIfInBounds_toArray, List.set_cons_zero, List.set_cons_succ]
        refine wpAnyH_ready (rs := [2]) (by kernel_rfl) (by simp) ?_
        refine AllReadyH.cons (o := ⟨some 141, _, _, _, _, _⟩) rfl (fun K hK => ?_) (AllReadyH.nil)
        · skip
          refine step_appG rfl _ _ 28 rfl w0.heap.size i0 (.agg #[.string ⟨#[]⟩, .string ⟨#[]⟩]) 32 Tryz.underlying28 hi0 hz0 hz1 hz2 rfl _ 0 (labs []) rfl own0.out A1 nL c1 (labs L) rfl (HRL.out _ hHeld) ?_ (by unfold maxLen; omega) (by omega) hHeld.size ?_
          · exact labs_one _
          intro v2 wn hown hg
          have hHn : w0.grownBy wn none := grown_new hHeld hg (fun k e => (own0.out.lt k e).1)
          have Own2 := Lib.hid hown
          replace HD := Lib.hid ((hg.block gD (heap_lt HD.out) (fun e => hnD (by injection e))).trans HD.out)
          replace hA := Lib.hid ((hg.block g20 (heap_lt hA.out) (own_ne own0.out hA.out (by decide))).trans hA.out)
          refine hK.out _ _ hHn (fun _ => ?_)
          replace hHeld := hHn
          clear hHn hown hg own0
          obtain ⟨wc, rfl⟩ : ∃ x, x = wn := ⟨_, rfl⟩
          clear hK K
          try simp only [Act.put, List.setIfInBounds_toArray, List.set_cons_zero, List.set_cons_succ]
          refine wpAnyH_ready (rs := [5]) (by kernel_rfl) (by simp) ?_
          refine AllReadyH.cons (o := ⟨some 144, _, _, _, _, _⟩) rfl (fun K hK => ?_) (AllReadyH.nil)
          · skip
            refine step_appG rfl _ _ 28 rfl w0.heap.size i0 (.agg #[.string ⟨#[]⟩, .string ⟨#[]⟩]) 32 Tryz.underlying28 hi0 hz0 hz1 hz2 rfl v2 (0 + nL) (labs [] ++ labs L) rfl Own2.out (some ⟨gD, 0, none⟩) 1 1 [.string nm, .string vl] rfl (rd_two HD.out) ?_ (by unfold maxLen; omega) (by omega) hHeld.size ?_
            · intro u hu; simp at hu; rcases hu with rfl | rfl <;> rfl
            intro v5 wn hown hg
            have hHn : w0.grownBy wn none := grown_new hHeld hg (fun k e => (Own2.out.lt k e).1)
            have Own5 := Lib.hid hown
            replace hA := Lib.hid ((hg.block g20 (heap_lt hA.out) (own_ne Own2.out hA.out (by decide))).trans hA.out)
            refine hK.out _ _ hHn (fun _ => ?_)
            replace hHeld := hHn
            clear hHn hown hg Own2 HD
            obtain ⟨wc, rfl⟩ : ∃ x, x = wn := ⟨_, rfl⟩
            clear hK K
            try simp only [Act.put, List.setIfInBounds_toArray, List.set_cons_zero, List.set_cons_succ]
            refine wpAnyH_ready (rs := [7]) (by kernel_rfl) (by simp) ?_
            refine AllReadyH.cons (o := ⟨none, _, _, _, _, _⟩) rfl (fun K hK => ?_) (AllReadyH.nil)
            · have d0 : wc.cell? ⟨g20, 0, none⟩ = some (.slice none 0 0) := cell_of_row _ g20 0 _ _ _ hA.out
              have f0 : ∀ j, wc.frozen? ⟨g20, j, none⟩ = false := fun j => by simp [World.frozen?, hA.out]
              obtain ⟨A20, c20, hv5, _, hr5⟩ := own_rd Own5.out
              have hn5 := own_ne Own5.out hA.out (by decide)
              have e5 : 0 + nL + 1 = nL + 1 := by omega
              rw [e5] at hv5 hr5
              clear Own5
              subst hv5
              have hgs := grown_set wc g20 0 (.slice A20 (nL + 1) c20)
              have R20 := Lib.hid (rd_grown hr5 hgs (fun ad e e2 => hn5 (by rw [e]; exact e2.symm)) hgs.size)
              have hA2 := Lib.hid (heap_setCell_same wc g20 0 _ _ (.slice A20 (nL + 1) c20) hA.out)
              have hHn : w0.grownBy _ none := grown_new hHeld hgs (fun k e => by injection e with e; omega)
              clear e5 hr5 hn5 hgs
              go_simp
              refine hK.out _ _ hHn (fun _ => ?_)
              clear d0 f0 hA
              clear hK K
              try simp only [Act.put, List.setIfInBounds_toArray, List.set_cons_zero, List.set_cons_succ]
              refine wpAnyH_done (by kernel_rfl) ?_ _
              go_wp2_with fail
              go_meet
              exact ⟨g20, A20, c20, rfl, hA2, R20, Hfin.out _ (grown_keptN hHn)⟩
    · go_simp
      obtain ⟨wn, hwn, hd0, hk, hlt⟩ := new_row wc #[.slice none 0 0] 28
      obtain ⟨g20, hg20⟩ : ∃ g, g = wc.heap.size := ⟨_, rfl⟩
      rw [← hwn, ← hg20]
      rw [← hg20] at hd0
      have hge20 : w0.heap.size ≤ g20 := by rw [hg20]; exact hHeld.size
      replace HD := Lib.hid (heap_kept hk HD.out)
      have hA := Lib.hid hd0
      have hHn : w0.grownBy wn none := grown_new hHeld (grown_kept hk none) (fun k e => by cases e)
      refine hK.out _ _ hHn (fun _ => ?_)
      replace hHeld := hHn
      clear hHn hk hwn hd0 hg20 hlt
      obtain ⟨wc, rfl⟩ : ∃ x, x = wn := ⟨_, rfl⟩
      clear hK K
      try simp only [Act.put, List.setIfInBounds_toArray, List.set_cons_zero, List.set_cons_succ]
      refine wpAnyH_ready (rs := [0]) (by kernel_rfl) (by simp) ?_
      refine AllReadyH.cons (o := ⟨some 139, _, _, _, _, _⟩) rfl (fun K hK => ?_) (AllReadyH.nil)
      · go_simp
        obtain ⟨wn, hwn, hd0, hk, hlt⟩ := new_row wc #[] 33
        obtain ⟨g0, hg0⟩ : ∃ g, g = wc.heap.size := ⟨_, rfl⟩
        rw [← hwn, ← hg0]
        rw [← hg0] at hd0
        have hge0 : w0.heap.size ≤ g0 := by rw [hg0]; exact hHeld.size
        have own0 : Hid (wn.ownsRow w0.heap.size 33 2 (.slice (some ⟨g0, 0, none⟩) 0 0) 0 (labs [])) := ⟨rfl, .inr ⟨_, 0, #[], rfl, hge0, hd0, Nat.le_refl _, Nat.zero_le _, rfl, rfl⟩⟩
        have hnD : gD ≠ g0 := by have := heap_lt HD.out; omega
        replace HD := Lib.hid (heap_kept hk HD.out)
        replace hA := Lib.hid (heap_kept hk hA.out)
        have hHn : w0.grownBy wn none := grown_new hHeld (grown_kept hk none) (fun k e => by cases e)
        refine hK.out _ _ hHn (fun _ => ?_)
        replace hHeld := hHn
        clear hHn hk hwn hd0 hg0 hlt hge0
        obtain ⟨wc, rfl⟩ : ∃ x, x = wn := ⟨_, rfl⟩
        clear hK K
        try simp only [Act.put, List.setIfInBounds_toArray, List.set_cons_zero, List.set_cons_succ]
        refine wpAnyH_ready (rs := [2]) (by kernel_rfl) (by simp) ?_
        refine AllReadyH.cons (o := ⟨some 141, _, _, _, _, _⟩) rfl (fun K hK => ?_) (AllReadyH.nil)
        · skip
          refine step_appG rfl _ _ 28 rfl w0.heap.size i0 (.agg #[.string ⟨#[]⟩, .string ⟨#[]⟩]) 32 Tryz.underlying28 hi0 hz0 hz1 hz2 rfl _ 0 (labs []) rfl own0.out A1 nL c1 (labs L) rfl (HRL.out _ hHeld) ?_ (by unfold maxLen; omega) (by omega) hHeld.size ?_
          · exact labs_one _
          intro v2 wn hown hg
          have hHn : w0.grownBy wn none := grown_new hHeld hg (fun k e => (own0.out.lt k e).1)
          have Own2 := Lib.hid hown
          replace HD := Lib.hid ((hg.block gD (heap_lt HD.out) (fun e => hnD (by injection e))).trans HD.out)
          replace hA := Lib.hid ((hg.block g20 (heap_lt hA.out) (own_ne own0.out hA.out (by decide))).trans hA.out)
          refine hK.out _ _ hHn (fun _ => ?_)
          replace hHeld := hHn
          clear hHn hown hg own0
          obtain ⟨wc, rfl⟩ : ∃ x, x = wn := ⟨_, rfl⟩
          clear hK K
          try simp only [Act.put, List.setIfInBounds_toArray, List.set_cons_zero, List.set_cons_succ]
          refine wpAnyH_ready (rs := [5]) (by kernel_rfl) (by simp) ?_
          refine AllReadyH.cons (o := ⟨some 144, _, _, _, _, _⟩) rfl (fun K hK => ?_) (AllReadyH.nil)
          · skip
            refine step_appG rfl _ _ 28 rfl w0.heap.size i0 (.agg #[.string ⟨#[]⟩, .string ⟨#[]⟩]) 32 Tryz.underlying28 hi0 hz0 hz1 hz2 rfl v2 (0 + nL) (labs [] ++ labs L) rfl Own2.out (some ⟨gD, 0, none⟩) 1 1 [.string nm, .string vl] rfl (rd_two HD.out) ?_ (by unfold maxLen; omega) (by omega) hHeld.size ?_
            · intro u hu; simp at hu; rcases hu with rfl | rfl <;> rfl
            intro v5 wn hown hg
            have hHn : w0.grownBy wn none := grown_new hHeld hg (fun k e => (Own2.out.lt k e).1)
            have Own5 := Lib.hid hown
            replace hA := Lib.hid ((hg.block g20 (heap_lt hA.out) (own_ne Own2.out hA.out (by decide))).trans hA.out)
            refine hK.out _ _ hHn (fun _ => ?_)
            replace hHeld := hHn
            clear hHn hown hg Own2 HD
            obtain ⟨wc, rfl⟩ : ∃ x, x = wn := ⟨_, rfl⟩
            clear hK K
            try simp only [Act.put, List.setIfInBounds_toArray, List.set_cons_zero, List.set_cons_succ]
            refine wpAnyH_ready (rs := [7]) (by kernel_rfl) (by simp) ?_
            refine AllReadyH.cons (o := ⟨none, _, _, _, _, _⟩) rfl (fun K hK => ?_) (AllReadyH.nil)
            · have d0 : wc.cell? ⟨g20, 0, none⟩ = some (.slice none 0 0) := cell_of_row _ g20 0 _ _ _ hA.out
              have f0 : ∀ j, wc.frozen? ⟨g20, j, none⟩ = false := fun j => by simp [World.frozen?, hA.out]
              obtain ⟨A20, c20, hv5, _, hr5⟩ := own_rd Own5.out
              have hn5 := own_ne Own5.out hA.out (by decide)
              have e5 : 0 + nL + 1 = nL + 1 := by omega
              rw [e5] at hv5 hr5
              clear Own5
              subst hv5
              have hgs := grown_set wc g20 0 (.slice A20 (nL + 1) c20)
              have R20 := Lib.hid (rd_grown hr5 hgs (fun ad e e2 => hn5 (by rw [e]; exact e2.symm)) hgs.size)
              have hA2 := Lib.hid (heap_setCell_same wc g20 0 _ _ (.slice A20 (nL + 1) c20) hA.out)
              have hHn : w0.grownBy _ none := grown_new hHeld hgs (fun k e => by injection e with e; omega)
              clear e5 hr5 hn5 hgs
              go_simp
              refine hK.out _ _ hHn (fun _ => ?_)
              clear d0 f0 hA
              clear hK K
              try simp only [Act.put, List.setIfInBounds_toArray, List.set_cons_zero, List.set_cons_succ]
              refine wpAnyH_done (by kernel_rfl) ?_ _
              go_wp2_with fail
              go_meet
              exact ⟨g20, A20, c20, rfl, hA2, R20, Hfin.out _ (grown_keptN hHn)⟩
  · as_aux_lemma =>
    go_simp
    obtain ⟨wn, hwn, hd0, hk, hlt⟩ := new_row w0 #[.slice none 0 0] 28
    obtain ⟨g20, hg20⟩ : ∃ g, g = w0.heap.size := ⟨_, rfl⟩
    rw [← hwn, ← hg20]
    rw [← hg20] at hd0
    have hge20 : w0.heap.size ≤ g20 := by rw [hg20]; exact hHeld.size
    have hA := Lib.hid hd0
    have hHn : w0.grownBy wn none := grown_new hHeld (grown_kept hk none) (fun k e => by cases e)
    refine hK.out _ _ hHn (fun _ => ?_)
    replace hHeld := hHn
    clear hHn hk hwn hd0 hg20 hlt
    obtain ⟨wc, rfl⟩ : ∃ x, x = wn := ⟨_, rfl⟩
    clear hK K
    try simp only [Act.put, List.setIfInBounds_toArray, List.set_cons_zero, List.set_cons_succ]
    refine wpAnyH_ready (rs := [0, 4]) (by kernel_rfl) (by simp) ?_
    refine AllReadyH.cons (o := ⟨some 139, _, _, _, _, _⟩) rfl (fun K hK => ?_) (AllReadyH.cons (o := ⟨some 143, _, _, _, _, _⟩) rfl (fun K hK => ?_) (AllReadyH.nil))
    · go_simp
      obtain ⟨wn, hwn, hd0, hk, hlt⟩ := new_row wc #[] 33
      obtain ⟨g0, hg0⟩ : ∃ g, g = wc.heap.size := ⟨_, rfl⟩
      rw [← hwn, ← hg0]
      rw [← hg0] at hd0
      have hge0 : w0.heap.size ≤ g0 := by rw [hg0]; exact hHeld.size
      have own0 : Hid (wn.ownsRow w0.heap.size 33 2 (.slice (some ⟨g0, 0, none⟩) 0 0) 0 (labs [])) := ⟨rfl, .inr ⟨_, 0, #[], rfl, hge0, hd0, Nat.le_refl _, Nat.zero_le _, rfl, rfl⟩⟩
      replace hA := Lib.hid (heap_kept hk hA.out)
      have hHn : w0.grownBy wn none := grown_new hHeld (grown_kept hk none) (fun k e => by cases e)
      refine hK.out _ _ hHn (fun _ => ?_)
      replace hHeld := hHn
      clear hHn hk hwn hd0 hg0 hlt hge0
      obtain ⟨wc, rfl⟩ : ∃ x, x = wn := ⟨_, rfl⟩
      clear hK K
      try simp only [Act.put, List.setIfInBounds_toArray, List.set_cons_zero, List.set_cons_succ]
      refine wpAnyH_ready (rs := [2, 4]) (by kernel_rfl) (by simp) ?_
      refine AllReadyH.cons (o := ⟨some 141, _, _, _, _, _⟩) rfl (fun K hK => ?_) (AllReadyH.cons (o := ⟨some 143, _, _, _, _, _⟩) rfl (fun K hK => ?_) (AllReadyH.nil))
      · skip
        refine step_appG rfl _ _ 28 rfl w0.heap.size i0 (.agg #[.string ⟨#[]⟩, .string ⟨#[]⟩]) 32 Tryz.underlying28 hi0 hz0 hz1 hz2 rfl _ 0 (labs []) rfl own0.out A1 nL c1 (labs L) rfl (HRL.out _ hHeld) ?_ (by unfold maxLen; omega) (by omega) hHeld.size ?_
        · exact labs_one _
        intro v2 wn hown hg
        have hHn : w0.grownBy wn none := grown_new hHeld hg (fun k e => (own0.out.lt k e).1)
        have Own2 := Lib.hid hown
        replace hA := Lib.hid ((hg.block g20 (heap_lt hA.out) (own_ne own0.out hA.out (by decide))).trans hA.out)
        refine hK.out _ _ hHn (fun _ => ?_)
        replace hHeld := hHn
        clear hHn hown hg own0
        obtain ⟨wc, rfl⟩ : ∃ x, x = wn := ⟨_, rfl⟩
        clear hK K
        try simp only [Act.put, List.setIfInBounds_toArray, List.set_cons_zero, List.set_cons_succ]
        refine wpAnyH_ready (rs := [4]) (by kernel_rfl) (by simp) ?_
        refine AllReadyH.cons (o := ⟨some 143, _, _, _, _, _⟩) rfl (fun K hK => ?_) (AllReadyH.nil)
        · go_simp
          obtain ⟨wn, hwn, hd0, hk, hlt⟩ := new_row wc #[.string nm, .string vl] 33
          obtain ⟨gD, hgD⟩ : ∃ g, g = wc.heap.size := ⟨_, rfl⟩
          rw [← hwn, ← hgD]
          rw [← hgD] at hd0
          replace Own2 := Lib.hid (own_below Own2.out hk)
          replace hA := Lib.hid (heap_kept hk hA.out)
          have HD := Lib.hid hd0
          have hHn : w0.grownBy wn none := grown_new hHeld (grown_kept hk none) (fun k e => by cases e)
          refine hK.out _ _ hHn (fun _ => ?_)
          replace hHeld := hHn
          clear hHn hk hwn hd0 hgD hlt
          obtain ⟨wc, rfl⟩ : ∃ x, x = wn := ⟨_, rfl⟩
          clear hK K
          try simp only [Act.put, List.setIfInBounds_toArray, List.set_cons_zero, List.set_cons_succ]
          refine wpAnyH_ready (rs := [5]) (by kernel_rfl) (by simp) ?_
          refine AllReadyH.cons (o := ⟨some 144, _, _, _, _, _⟩) rfl (fun K hK => ?_) (AllReadyH.nil)
          · skip
            refine step_appG rfl _ _ 28 rfl w0.heap.size i0 (.agg #[.string ⟨#[]⟩, .string ⟨#[]⟩]) 32 Tryz.underlying28 hi0 hz0 hz1 hz2 rfl v2 (0 + nL) (labs [] ++ labs L) rfl Own2.out (some ⟨gD, 0, none⟩) 1 1 [.string nm, .string vl] rfl (rd_two HD.out) ?_ (by unfold maxLen; omega) (by omega) hHeld.size ?_
            · intro u hu; simp at hu; rcases hu with rfl | rfl <;> rfl
            intro v5 wn hown hg
            have hHn : w0.grownBy wn none := grown_new hHeld hg (fun k e => (Own2.out.lt k e).1)
            have Own5 := Lib.hid hown
            replace hA := Lib.hid ((hg.block g20 (heap_lt hA.out) (own_ne Own2.out hA.out (by decide))).trans hA.out)
            refine hK.out _ _ hHn (fun _ => ?_)
            replace hHeld := hHn
            clear hHn hown hg Own2 HD
            obtain ⟨wc, rfl⟩ : ∃ x, x = wn := ⟨_, rfl⟩
            clear hK K
            try simp only [Act.put, List.setIfInBounds_toArray, List.set_cons_zero, List.set_cons_succ]
            refine wpAnyH_ready (rs := [7]) (by kernel_rfl) (by simp) ?_
            refine AllReadyH.cons (o := ⟨none, _, _, _, _, _⟩) rfl (fun K hK => ?_) (AllReadyH.nil)
            · have d0 : wc.cell? ⟨g20, 0, none⟩ = some (.slice none 0 0) := cell_of_row _ g20 0 _ _ _ hA.out
              have f0 : ∀ j, wc.frozen? ⟨g20, j, none⟩ = false := fun j => by simp [World.frozen?, hA.out]
              obtain ⟨A20, c20, hv5, _, hr5⟩ := own_rd Own5.out
              have hn5 := own_ne Own5.out hA.out (by decide)
              have e5 : 0 + nL + 1 = nL + 1 := by omega
              rw [e5] at hv5 hr5
              clear Own5
              subst hv5
              have hgs := grown_set wc g20 0 (.slice A20 (nL + 1) c20)
              have R20 := Lib.hid (rd_grown hr5 hgs (fun ad e e2 => hn5 (by rw [e]; exact e2.symm)) hgs.size)
              have hA2 := Lib.hid (heap_setCell_same wc g20 0 _ _ (.slice A20 (nL + 1) c20) hA.out)
              have hHn : w0.grownBy _ none := grown_new hHeld hgs (fun k e => by injection e with e; omega)
              clear e5 hr5 hn5 hgs
              go_simp
              refine hK.out _ _ hHn (fun _ => ?_)
              clear d0 f0 hA
              clear hK K
              try simp only [Act.put, List.setIfInBounds_toArray, List.set_cons_zero, List.set_cons_succ]
              refine wpAnyH_done (by kernel_rfl) ?_ _
              go_wp2_with fail
              go_meet
              exact ⟨g20, A20, c20, rfl, hA2, R20, Hfin.out _ (grown_keptN hHn)⟩
      · go_simp
        obtain ⟨wn, hwn, hd0, hk, hlt⟩ := new_row wc #[.string nm, .string vl] 33
        obtain ⟨gD, hgD⟩ : ∃ g, g = wc.heap.size := ⟨_, rfl⟩
        rw [← hwn, ← hgD]
        rw [← hgD] at hd0
        have hnD : gD ≠ g0 := by have := (own0.out.lt g0 rfl).2; omega
        replace own0 := Lib.hid (own_below own0.out hk)
        replace hA := Lib.hid (heap_kept hk hA.out)
        have HD := Lib.hid hd0
        have hHn : w0.grownBy wn none := grown_new hHeld (grown_kept hk none) (fun k e => by cases e)
        refine hK.out _ _ hHn (fun _ => ?_)
        replace hHeld := hHn
        clear hHn hk hwn hd0 hgD hlt
        obtain ⟨wc, rfl⟩ : ∃ x, x = wn := ⟨_, rfl⟩
        clear hK K
        try simp only [Act.put, List.setIfInBounds_toArray, List.set_cons_zero, List.set_cons_succ]
        refine wpAnyH_ready (rs := [2]) (by kernel_rfl) (by simp) ?_
        refine AllReadyH.cons (o := ⟨some 141, _, _, _, _, _⟩) rfl (fun K hK => ?_) (AllReadyH.nil)
        · skip
          refine step_appG rfl _ _ 28 rfl w0.heap.size i0 (.agg #[.string ⟨#[]⟩, .string ⟨#[]⟩]) 32 Tryz.underlying28 hi0 hz0 hz1 hz2 rfl _ 0 (labs []) rfl own0.out A1 nL c1 (labs L) rfl (HRL.out _ hHeld) ?_ (by unfold maxLen; omega) (by omega) hHeld.size ?_
          · exact labs_one _
          intro v2 wn hown hg
          have hHn : w0.grownBy wn none := grown_new hHeld hg (fun k e => (own0.out.lt k e).1)
          have Own2 := Lib.hid hown
          replace HD := Lib.hid ((hg.block gD (heap_lt HD.out) (fun e => hnD (by injection e))).trans HD.out)
          replace hA := Lib.hid ((hg.block g20 (heap_lt hA.out) (own_ne own0.out hA.out (by decide))).trans hA.out)
          refine hK.out _ _ hHn (fun _ => ?_)
          replace hHeld := hHn
          clear hHn hown hg own0
          obtain ⟨wc, rfl⟩ : ∃ x, x = wn := ⟨_, rfl⟩
          clear hK K
          try simp only [Act.put, List.setIfInBounds_toArray, List.set_cons_zero, List.set_cons_succ]
          refine wpAnyH_ready (rs := [5]) (by kernel_rfl) (by simp) ?_
          refine AllReadyH.cons (o := ⟨some 144, _, _, _, _, _⟩) rfl (fun K hK => ?_) (AllReadyH.nil)
          · skip
            refine step_appG rfl _ _ 28 rfl w0.heap.size i0 (.agg #[.string ⟨#[]⟩, .string ⟨#[]⟩]) 32 Tryz.underlying28 hi0 hz0 hz1 hz2 rfl v2 (0 + nL) (labs [] ++ labs L) rfl Own2.out (some ⟨gD, 0, none⟩) 1 1 [.string nm, .string vl] rfl (rd_two HD.out) ?_ (by unfold maxLen; omega) (by omega) hHeld.size ?_
            · intro u hu; simp at hu; rcases hu with rfl | rfl <;> rfl
            intro v5 wn hown hg
            have hHn : w0.grownBy wn none := grown_new hHeld hg (fun k e => (Own2.out.lt k e).1)
            have Own5 := Lib.hid hown
            replace hA := Lib.hid ((hg.block g20 (heap_lt hA.out) (own_ne Own2.out hA.out (by decide))).trans hA.out)
            refine hK.out _ _ hHn (fun _ => ?_)
            replace hHeld := hHn
            clear hHn hown hg Own2 HD
            obtain ⟨wc, rfl⟩ : ∃ x, x = wn := ⟨_, rfl⟩
            clear hK K
            try simp only [Act.put, List.setIfInBounds_toArray, List.set_cons_zero, List.set_cons_succ]
            refine wpAnyH_ready (rs := [7]) (by kernel_rfl) (by simp) ?_
            refine AllReadyH.cons (o := ⟨none, _, _, _, _, _⟩) rfl (fun K hK => ?_) (AllReadyH.nil)
            · have d0 : wc.cell? ⟨g20, 0, none⟩ = some (.slice none 0 0) := cell_of_row _ g20 0 _ _ _ hA.out
              have f0 : ∀ j, wc.frozen? ⟨g20, j, none⟩ = false := fun j => by simp [World.frozen?, hA.out]
              obtain ⟨A20, c20, hv5, _, hr5⟩ := own_rd Own5.out
              have hn5 := own_ne Own5.out hA.out (by decide)
              have e5 : 0 + nL + 1 = nL + 1 := by omega
              rw [e5] at hv5 hr5
              clear Own5
              subst hv5
              have hgs := grown_set wc g20 0 (.slice A20 (nL + 1) c20)
              have R20 := Lib.hid (rd_grown hr5 hgs (fun ad e e2 => hn5 (by rw [e]; exact e2.symm)) hgs.size)
              have hA2 := Lib.hid (heap_setCell_same wc g20 0 _ _ (.slice A20 (nL + 1) c20) hA.out)
              have hHn : w0.grownBy _ none := grown_new hHeld hgs (fun k e => by injection e with e; omega)
              clear e5 hr5 hn5 hgs
              go_simp
              refine hK.out _ _ hHn (fun _ => ?_)
              clear d0 f0 hA
              clear hK K
              try simp only [Act.put, List.setIfInBounds_toArray, List.set_cons_zero, List.set_cons_succ]
              refine wpAnyH_done (by kernel_rfl) ?_ _
              go_wp2_with fail
              go_meet
              exact ⟨g20, A20, c20, rfl, hA2, R20, Hfin.out _ (grown_keptN hHn)⟩
    · go_simp
      obtain ⟨wn, hwn, hd0, hk, hlt⟩ := new_row wc #[.string nm, .string vl] 33
      obtain ⟨gD, hgD⟩ : ∃ g, g = wc.heap.size := ⟨_, rfl⟩
      rw [← hwn, ← hgD]
      rw [← hgD] at hd0
      replace hA := Lib.hid (heap_kept hk hA.out)
      have HD := Lib.hid hd0
      have hHn : w0.grownBy wn none := grown_new hHeld (grown_kept hk none) (fun k e => by cases e)
      refine hK.out _ _ hHn (fun _ => ?_)
      replace hHeld := hHn
      clear hHn hk hwn hd0 hgD hlt
      obtain ⟨wc, rfl⟩ : ∃ x, x = wn := ⟨_, rfl⟩
      clear hK K
      try simp only [Act.put, List.setIfInBounds_toArray, List.set_cons_zero, List.set_cons_succ]
      refine wpAnyH_ready (rs := [0]) (by kernel_rfl) (by simp) ?_
      refine AllReadyH.cons (o := ⟨some 139, _, _, _, _, _⟩) rfl (fun K hK => ?_) (AllReadyH.nil)
      · go_simp
        obtain ⟨wn, hwn, hd0, hk, hlt⟩ := new_row wc #[] 33
        obtain ⟨g0, hg0⟩ : ∃ g, g = wc.heap.size := ⟨_, rfl⟩
        rw [← hwn, ← hg0]
        rw [← hg0] at hd0
        have hge0 : w0.heap.size ≤ g0 := by rw [hg0]; exact hHeld.size
        have own0 : Hid (wn.ownsRow w0.heap.size 33 2 (.slice (some ⟨g0, 0, none⟩) 0 0) 0 (labs [])) := ⟨rfl, .inr ⟨_, 0, #[], rfl, hge0, hd0, Nat.le_refl _, Nat.zero_le _, rfl, rfl⟩⟩
        have hnD : gD ≠ g0 := by have := heap_lt HD.out; omega
        replace HD := Lib.hid (heap_kept hk HD.out)
        replace hA := Lib.hid (heap_kept hk hA.out)
        have hHn : w0.grownBy wn none := grown_new hHeld (grown_kept hk none) (fun k e => by cases e)
        refine hK.out _ _ hHn (fun _ => ?_)
        replace hHeld := hHn
        clear hHn hk hwn hd0 hg0 hlt hge0
        obtain ⟨wc, rfl⟩ : ∃ x, x = wn := ⟨_, rfl⟩
        clear hK K
        try simp only [Act.put, List.setIfInBounds_toArray, List.set_cons_zero, List.set_cons_succ]
        refine wpAnyH_ready (rs := [2]) (by kernel_rfl) (by simp) ?_
        refine AllReadyH.cons (o := ⟨some 141, _, _, _, _, _⟩) rfl (fun K hK => ?_) (AllReadyH.nil)
        · skip
          refine step_appG rfl _ _ 28 rfl w0.heap.size i0 (.agg #[.string ⟨#[]⟩, .string ⟨#[]⟩]) 32 Tryz.underlying28 hi0 hz0 hz1 hz2 rfl _ 0 (labs []) rfl own0.out A1 nL c1 (labs L) rfl (HRL.out _ hHeld) ?_ (by unfold maxLen; omega) (by omega) hHeld.size ?_
          · exact labs_one _
          intro v2 wn hown hg
          have hHn : w0.grownBy wn none := grown_new hHeld hg (fun k e => (own0.out.lt k e).1)
          have Own2 := Lib.hid hown
          replace HD := Lib.hid ((hg.block gD (heap_lt HD.out) (fun e => hnD (by injection e))).trans HD.out)
          replace hA := Lib.hid ((hg.block g20 (heap_lt hA.out) (own_ne own0.out hA.out (by decide))).trans hA.out)
          refine hK.out _ _ hHn (fun _ => ?_)
          replace hHeld := hHn
          clear hHn hown hg own0
          obtain ⟨wc, rfl⟩ : ∃ x, x = wn := ⟨_, rfl⟩
          clear hK K
          try simp only [Act.put, List.setIfInBounds_toArray, List.set_cons_zero, List.set_cons_succ]
          refine wpAnyH_ready (rs := [5]) (by kernel_rfl) (by simp) ?_
          refine AllReadyH.cons (o := ⟨some 144, _, _, _, _, _⟩) rfl (fun K hK => ?_) (AllReadyH.nil)
          · skip
            refine step_appG rfl _ _ 28 rfl w0.heap.size i0 (.agg #[.string ⟨#[]⟩, .string ⟨#[]⟩]) 32 Tryz.underlying28 hi0 hz0 hz1 hz2 rfl v2 (0 + nL) (labs [] ++ labs L) rfl Own2.out (some ⟨gD, 0, none⟩) 1 1 [.string nm, .string vl] rfl (rd_two HD.out) ?_ (by unfold maxLen; omega) (by omega) hHeld.size ?_
            · intro u hu; simp at hu; rcases hu with rfl | rfl <;> rfl
            intro v5 wn hown hg
            have hHn : w0.grownBy wn none := grown_new hHeld hg (fun k e => (Own2.out.lt k e).1)
            have Own5 := Lib.hid hown
            replace hA := Lib.hid ((hg.block g20 (heap_lt hA.out) (own_ne Own2.out hA.out (by decide))).trans hA.out)
            refine hK.out _ _ hHn (fun _ => ?_)
            replace hHeld := hHn
            clear hHn hown hg Own2 HD
            obtain ⟨wc, rfl⟩ : ∃ x, x = wn := ⟨_, rfl⟩
            clear hK K
            try simp only [Act.put, List.setIfInBounds_toArray, List.set_cons_zero, List.set_cons_succ]
            refine wpAnyH_ready (rs := [7]) (by kernel_rfl) (by simp) ?_
            refine AllReadyH.cons (o := ⟨none, _, _, _, _, _⟩) rfl (fun K hK => ?_) (AllReadyH.nil)
            · have d0 : wc.cell? ⟨g20, 0, none⟩ = some (.slice none 0 0) := cell_of_row _ g20 0 _ _ _ hA.out
              have f0 : ∀ j, wc.frozen? ⟨g20, j, none⟩ = false := fun j => by simp [World.frozen?, hA.out]
              obtain ⟨A20, c20, hv5, _, hr5⟩ := own_rd Own5.out
              have hn5 := own_ne Own5.out hA.out (by decide)
              have e5 : 0 + nL + 1 = nL + 1 := by omega
              rw [e5] at hv5 hr5
              clear Own5
              subst hv5
              have hgs := grown_set wc g20 0 (.slice A20 (nL + 1) c20)
              have R20 := Lib.hid (rd_grown hr5 hgs (fun ad e e2 => hn5 (by rw [e]; exact e2.symm)) hgs.size)
              have hA2 := Lib.hid (heap_setCell_same wc g20 0 _ _ (.slice A20 (nL + 1) c20) hA.out)
              have hHn : w0.grownBy _ none := grown_new hHeld hgs (fun k e => by injection e with e; omega)
              clear e5 hr5 hn5 hgs
              go_simp
              refine hK.out _ _ hHn (fun _ => ?_)
              clear d0 f0 hA
              clear hK K
              try simp only [Act.put, List.setIfInBounds_toArray, List.set_cons_zero, List.set_cons_succ]
              refine wpAnyH_done (by kernel_rfl) ?_ _
              go_wp2_with fail
              go_meet
              exact ⟨g20, A20, c20, rfl, hA2, R20, Hfin.out _ (grown_keptN hHn)⟩
end Go.Proofs.YtlhekeokognhmaaGreatDoor
namespace Go.Proofs.YtlhekeokognhmaaGreatDoor
open Go.RowKit Go.Shelf Go.Maps Go.Sort
theorem wrong_of (p : List (Nat × Nat)) (a : Value) (k : Nat) (hk : k ≤ 255) (t : Nat) (ht : t ≤ 255) (w : World) (hT : Tab w) (C1 : RightIs p a w) :
    Calls Tryz.prog 5 #[a, .int .u8 (k : Int), .int .u8 (t : Int)] w fun e w' => e = .returned (.bool true) ∧ Kept w w' := (wr0 p a k hk t ht w hT C1).2 (wrA p a k hk t ht w hT C1) ((wr1 p a k hk t ht w hT C1).2 (wrB p a k hk t ht w hT C1) (wrC p a k hk t ht w hT C1))
end Go.Proofs.YtlhekeokognhmaaGreatDoor
