/-
  LabelSmall: its last region, from where its orders meet.
-/
import Derived.Test.YtlhekeokognhmaaGreatDoorLsQ
import Derived.Deep.CutBlock
namespace Go.Proofs.YtlhekeokognhmaaGreatDoor
open Go.RowKit Go.Shelf Go.Maps Go.Sort
set_option maxRecDepth 100000 in
set_option maxHeartbeats 40000000 in
theorem sq_1 (w : World) (hT : Tab w) : (sq0 w hT).1 := by
  delta sq0 mk1
  dsimp -zeta only
  clear hT
  intro ia1 ia2 ia3 u1 u2 u18 u19 u20 u21 u22 u23 u24 u25 u26 u27 u28 u29 u30 u31 u32 u33 u34 u35 u36 u37 u38 u39 u40 u41 u42 u43 u44 u45 u46 u47 u48 u49 u50 u51 u52 u53 u54 ia4 w1 ia5 ia6 ia7 ia8 ia9 ia10 u4 u5 u58 u59 u60 u61 u62 u63 u64 u65 u66 u67 u68 u69 u70 u71 u72 u73 u74 u75 u76 u77 u78 u79 u80 u81 u82 u83 u84 u85 u86 u87 u88 u89 u90 u91 u92 u93 u94 u95 ia11 w2 ia12 ia13 ia14 ia15 w0 g6 ia16 u0 u8 u10 u12 u13 u108 u109 u110 u111 u112 u113 u114 u115 u116 u117 u118 u119 u120 u121 u122 u123 u124 u125 u126 u127 u128 u129 u130 u131 u132 u133 u134 u135 u136 u137 u138 u139 u140 u141 u142 u143 u144 u145 u146 u147 u148 u149 u150 u151 u152 u153 u154 u155 u156 u157 u158 k3 ia17 ia18 w3 i0 hi0 hz0 hz1 hz2 ia19 ia20 ia21 ia22 h1 u15 u160 u161 u162 u163 u164 u165 u166 u167 u168 u169 u170 u171 u172 u173 u174 u175 u176 u177 k L hk hkn w4 c14 hc14 hk65 ad had l hl1 C ia23 ia24 ia25 w5 h2 ia26 ia27 ia28 ia29 ia30 ia31 wd RL HT Hfin hc64 hc63 hk1 RLt hLk LTt RL1 hl120 wc1 wc5 g8 wc8 v9 wc9 A12 c12 wc12 wc13 g21 wc21 wc22 g29 wc29 A30 c30 wc30 wc31 g36 wc36 A37 c37 wc37 g38 wc38 A39 c39 wc39 g40 wc40 wc41 hHeld
  refine wpAnyH_take (i := 42) (oi := ⟨some 221, _, _, _, _, _⟩) (v := ?_) rfl (by kernel_rfl) (by kernel_rfl) (by kernel_rfl) (fun _ _ _ h => h) (Or.inl ⟨by rfl, ?_⟩) hHeld ?_
  rotate_left
  · (intro w hSw; go_simp; (try with_reducible rfl))
  try simp only [Act.put, List.setIfInBounds_toArray, List.set_cons_zero, List.set_cons_succ]
  refine wpAnyH_take (i := 43) (oi := ⟨some 222, _, _, _, _, _⟩) (v := ?_) rfl (by kernel_rfl) (by kernel_rfl) (by kernel_rfl) (fun _ _ _ h => h) (Or.inl ⟨by rfl, ?_⟩) hHeld ?_
  rotate_left
  · (intro w hSw; go_simp; (try with_reducible rfl))
  try simp only [Act.put, List.setIfInBounds_toArray, List.set_cons_zero, List.set_cons_succ]
  refine wpAnyH_take (i := 44) (oi := ⟨some 223, _, _, _, _, _⟩) (v := ?_) rfl (by kernel_rfl) (by kernel_rfl) (by kernel_rfl) (fun _ _ _ h => h) (Or.inl ⟨by rfl, ?_⟩) hHeld ?_
  rotate_left
  · (intro w hSw; go_simp; (try with_reducible rfl))
  try simp only [Act.put, List.setIfInBounds_toArray, List.set_cons_zero, List.set_cons_succ]
  refine wpAnyH_take (i := 45) (oi := ⟨some 224, _, _, _, _, _⟩) (v := ?_) rfl (by kernel_rfl) (by kernel_rfl) (by kernel_rfl) (fun _ _ _ h => h) (Or.inl ⟨by rfl, ?_⟩) hHeld ?_
  rotate_left
  · (intro w hSw; go_simp; (try with_reducible rfl))
  try simp only [Act.put, List.setIfInBounds_toArray, List.set_cons_zero, List.set_cons_succ]
  refine wpAnyH_take (i := 46) (oi := ⟨some 225, _, _, _, _, _⟩) (v := ?_) rfl (by kernel_rfl) (by kernel_rfl) (by kernel_rfl) (fun _ _ _ h => h) (Or.inl ⟨by rfl, ?_⟩) hHeld ?_
  rotate_left
  · (intro w hSw; go_simp; (try with_reducible rfl))
  try simp only [Act.put, List.setIfInBounds_toArray, List.set_cons_zero, List.set_cons_succ]
  refine wpAnyH_take (i := 49) (oi := ⟨some 228, _, _, _, _, _⟩) (v := ?_) rfl (by kernel_rfl) (by kernel_rfl) (by kernel_rfl) (fun _ _ _ h => h) (Or.inl ⟨by rfl, ?_⟩) hHeld ?_
  rotate_left
  · (intro w hSw; go_simp; (try with_reducible rfl))
  try simp only [Act.put, List.setIfInBounds_toArray, List.set_cons_zero, List.set_cons_succ]
  refine wpAnyH_take (i := 50) (oi := ⟨some 229, _, _, _, _, _⟩) (v := ?_) rfl (by kernel_rfl) (by kernel_rfl) (by kernel_rfl) (fun _ _ _ h => h) (Or.inl ⟨by rfl, ?_⟩) hHeld ?_
  rotate_left
  · (intro w hSw; go_simp; (try with_reducible rfl))
  try simp only [Act.put, List.setIfInBounds_toArray, List.set_cons_zero, List.set_cons_succ]
  refine wpAnyH_take (i := 51) (oi := ⟨some 230, _, _, _, _, _⟩) (v := ?_) rfl (by kernel_rfl) (by kernel_rfl) (by kernel_rfl) (fun _ _ _ h => h) (Or.inl ⟨by rfl, ?_⟩) hHeld ?_
  rotate_left
  · (intro w hSw; go_simp; (try with_reducible rfl))
  try simp only [Act.put, List.setIfInBounds_toArray, List.set_cons_zero, List.set_cons_succ]
  refine wpAnyH_ready (rs := [47, 52]) (by kernel_rfl) (by simp) ?_
  refine AllReadyH.cons (o := ⟨some 226, _, _, _, _, _⟩) rfl (fun K hK => ?_) (AllReadyH.cons (o := ⟨some 231, _, _, _, _, _⟩) rfl (fun K hK => ?_) (AllReadyH.nil))
  ·
    go_simp
    obtain ⟨wn, hwn, hd, hk, hlt⟩ := new_row wc41 #[.string (l.extract 0 119), .string ⟨#[49]⟩, .string l, .string ⟨#[50]⟩] 9
    obtain ⟨g47, hg⟩ : ∃ g, g = wc41.heap.size := ⟨_, rfl⟩
    rw [← hwn, ← hg]
    rw [← hg] at hd
    have D47 := Lib.hid hd
    have hHn : wd.grownBy wn none := grown_new hHeld (grown_kept hk none) (fun k e => by cases e)
    refine hK.out _ _ hHn (fun hx => ?_)
    replace hHeld := hHn
    clear hx hHn hk hwn hd hg hlt
    obtain ⟨wc47, rfl⟩ : ∃ x, x = wn := ⟨_, rfl⟩
    clear hK K
    try simp only [Act.put, List.setIfInBounds_toArray, List.set_cons_zero, List.set_cons_succ]
    refine wpAnyH_ready (rs := [48, 52]) (by kernel_rfl) (by simp) ?_
    refine AllReadyH.cons (o := ⟨some 227, _, _, _, _, _⟩) rfl (fun K hK => ?_) (AllReadyH.cons (o := ⟨some 231, _, _, _, _, _⟩) rfl (fun K hK => ?_) (AllReadyH.nil))
    ·
      go_simp
      refine (of4At (l.extract 0 119) ⟨#[49]⟩ l ⟨#[50]⟩ g47 _ D47.out).mono ?_
      rintro e wn ⟨A48, c48, rfl, hr, hk⟩
      clear D47
      have R48 := Lib.hid hr
      have hHn : wd.grownBy wn none := grown_new hHeld (grown_kept hk none) (fun k e => by cases e)
      refine hK.out _ _ hHn (fun hx => ?_)
      replace hHeld := hHn
      clear hx hHn hk hr
      obtain ⟨wc48, rfl⟩ : ∃ x, x = wn := ⟨_, rfl⟩
      clear hK K
      try simp only [Act.put, List.setIfInBounds_toArray, List.set_cons_zero, List.set_cons_succ]
      refine wpAnyH_ready (rs := [52]) (by kernel_rfl) (by simp) ?_
      refine AllReadyH.cons (o := ⟨some 231, _, _, _, _, _⟩) rfl (fun K hK => ?_) (AllReadyH.nil)
      go_simp
      obtain ⟨wn, hwn, hd, hk, hlt⟩ := new_row wc48 #[.string (l.extract 0 119), .string ⟨#[51]⟩, .string l, .string ⟨#[52]⟩] 9
      obtain ⟨g52, hg⟩ : ∃ g, g = wc48.heap.size := ⟨_, rfl⟩
      rw [← hwn, ← hg]
      rw [← hg] at hd
      replace R48 := Lib.hid (rd_kept hk R48.out)
      have D52 := Lib.hid hd
      have hHn : wd.grownBy wn none := grown_new hHeld (grown_kept hk none) (fun k e => by cases e)
      refine hK.out _ _ hHn (fun hx => ?_)
      replace hHeld := hHn
      clear hx hHn hk hwn hd hg hlt
      obtain ⟨wc52, rfl⟩ : ∃ x, x = wn := ⟨_, rfl⟩
      clear hK K
      try simp only [Act.put, List.setIfInBounds_toArray, List.set_cons_zero, List.set_cons_succ]
      refine wpAnyH_ready (rs := [53]) (by kernel_rfl) (by simp) ?_
      refine AllReadyH.cons (o := ⟨some 232, _, _, _, _, _⟩) rfl (fun K hK => ?_) (AllReadyH.nil)
      go_simp
      refine (of4At (l.extract 0 119) ⟨#[51]⟩ l ⟨#[52]⟩ g52 _ D52.out).mono ?_
      rintro e wn ⟨A53, c53, rfl, hr, hk⟩
      clear D52
      replace R48 := Lib.hid (rd_kept hk R48.out)
      have R53 := Lib.hid hr
      have hHn : wd.grownBy wn none := grown_new hHeld (grown_kept hk none) (fun k e => by cases e)
      refine hK.out _ _ hHn (fun hx => ?_)
      replace hHeld := hHn
      clear hx hHn hk hr
      obtain ⟨wc53, rfl⟩ : ∃ x, x = wn := ⟨_, rfl⟩
      clear hK K
      try simp only [Act.put, List.setIfInBounds_toArray, List.set_cons_zero, List.set_cons_succ]
      refine wpAnyH_ready (rs := [54]) (by kernel_rfl) (by simp) ?_
      refine AllReadyH.cons (o := ⟨some 233, _, _, _, _, _⟩) rfl (fun K hK => ?_) (AllReadyH.nil)
      go_simp
      refine (changesN [((l.extract 0 119), ⟨#[49]⟩), (l, ⟨#[50]⟩)] [((l.extract 0 119), ⟨#[51]⟩), (l, ⟨#[52]⟩)] [] [] rfl rfl rfl rfl R48.out R53.out rd_none rds_none (HT.out _ hHeld)).mono ?_
      rintro e wn ⟨rfl, hk⟩
      clear R48
      clear R53
      have hHn : wd.grownBy wn none := grown_new hHeld (grown_kept hk none) (fun k e => by cases e)
      refine hK.out _ _ hHn (fun hx => ?_)
      replace hHeld := hHn
      clear hx hHn hk 
      obtain ⟨wc54, rfl⟩ : ∃ x, x = wn := ⟨_, rfl⟩
      clear hK K
      try simp only [Act.put, List.setIfInBounds_toArray, List.set_cons_zero, List.set_cons_succ]
      refine wpAnyH_take (i := 55) (oi := ⟨some 234, _, _, _, _, _⟩) (v := ?_) rfl (by kernel_rfl) (by kernel_rfl) (by kernel_rfl) (fun _ _ _ h => h) (Or.inl ⟨by rfl, ?_⟩) hHeld ?_
      rotate_left
      · (intro w hSw; go_simp; (try with_reducible rfl))
      try simp only [Act.put, List.setIfInBounds_toArray, List.set_cons_zero, List.set_cons_succ]
      refine wpAnyH_take (i := 56) (oi := ⟨some 235, _, _, _, _, _⟩) (v := ?_) rfl (by kernel_rfl) (by kernel_rfl) (by kernel_rfl) (fun _ _ _ h => h) (Or.inl ⟨by rfl, ?_⟩) hHeld ?_
      rotate_left
      · (intro w hSw; go_simp; (try with_reducible rfl))
      try simp only [Act.put, List.setIfInBounds_toArray, List.set_cons_zero, List.set_cons_succ]
      refine wpAnyH_ready (rs := [57]) (by kernel_rfl) (by simp) ?_
      refine AllReadyH.cons (o := ⟨some 236, _, _, _, _, _⟩) rfl (fun K hK => ?_) (AllReadyH.nil)
      go_simp
      refine (changesN [] [] [] [] rfl rfl rfl rfl rd_none rd_none rd_none rds_none (HT.out _ hHeld)).mono ?_
      rintro e wn ⟨rfl, hk⟩
      have hHn : wd.grownBy wn none := grown_new hHeld (grown_kept hk none) (fun k e => by cases e)
      refine hK.out _ _ hHn (fun hx => ?_)
      replace hHeld := hHn
      clear hx hHn hk 
      obtain ⟨wc57, rfl⟩ : ∃ x, x = wn := ⟨_, rfl⟩
      clear hK K
      try simp only [Act.put, List.setIfInBounds_toArray, List.set_cons_zero, List.set_cons_succ]
      refine wpAnyH_take (i := 58) (oi := ⟨some 237, _, _, _, _, _⟩) (v := ?_) rfl (by kernel_rfl) (by kernel_rfl) (by kernel_rfl) (fun _ _ _ h => h) (Or.inl ⟨by rfl, ?_⟩) hHeld ?_
      rotate_left
      · (intro w hSw; go_simp; (try with_reducible rfl))
      try simp only [Act.put, List.setIfInBounds_toArray, List.set_cons_zero, List.set_cons_succ]
      refine wpAnyH_take (i := 59) (oi := ⟨some 238, _, _, _, _, _⟩) (v := ?_) rfl (by kernel_rfl) (by kernel_rfl) (by kernel_rfl) (fun _ _ _ h => h) (Or.inl ⟨by rfl, ?_⟩) hHeld ?_
      rotate_left
      · (intro w hSw; go_simp; (try with_reducible rfl))
      try simp only [Act.put, List.setIfInBounds_toArray, List.set_cons_zero, List.set_cons_succ]
      refine wpAnyH_ready (rs := [60]) (by kernel_rfl) (by simp) ?_
      refine AllReadyH.cons (o := ⟨some 239, _, _, _, _, _⟩) rfl (fun K hK => ?_) (AllReadyH.nil)
      go_simp
      refine (awake_any _ (HT.out _ hHeld)).mono ?_
      rintro e wn ⟨rfl, hk⟩
      have hHn : wd.grownBy wn none := grown_new hHeld (grown_kept hk none) (fun k e => by cases e)
      refine hK.out _ _ hHn (fun hx => ?_)
      replace hHeld := hHn
      clear hx hHn hk 
      obtain ⟨wc60, rfl⟩ : ∃ x, x = wn := ⟨_, rfl⟩
      clear hK K
      try simp only [Act.put, List.setIfInBounds_toArray, List.set_cons_zero, List.set_cons_succ]
      refine wpAnyH_take (i := 61) (oi := ⟨some 240, _, _, _, _, _⟩) (v := ?_) rfl (by kernel_rfl) (by kernel_rfl) (by kernel_rfl) (fun _ _ _ h => h) (Or.inl ⟨by rfl, ?_⟩) hHeld ?_
      rotate_left
      · (intro w hSw; go_simp; (try with_reducible rfl))
      try simp only [Act.put, List.setIfInBounds_toArray, List.set_cons_zero, List.set_cons_succ]
      refine wpAnyH_take (i := 62) (oi := ⟨some 0, _, _, _, _, _⟩) (v := ?_) rfl (by kernel_rfl) (by kernel_rfl) (by kernel_rfl) (fun _ _ _ h => h) (Or.inl ⟨by rfl, ?_⟩) hHeld ?_
      rotate_left
      · (intro w hSw; go_simp; (try with_reducible rfl))
      try simp only [Act.put, List.setIfInBounds_toArray, List.set_cons_zero, List.set_cons_succ]
      refine wpAnyH_done (by kernel_rfl) ?_ _
      go_wp2_with fail
      go_meet
      exact ⟨rfl, Hfin.out _ (grown_keptN hHeld)⟩
    ·
      go_simp
      obtain ⟨wn, hwn, hd, hk, hlt⟩ := new_row wc47 #[.string (l.extract 0 119), .string ⟨#[51]⟩, .string l, .string ⟨#[52]⟩] 9
      obtain ⟨g52, hg⟩ : ∃ g, g = wc47.heap.size := ⟨_, rfl⟩
      rw [← hwn, ← hg]
      rw [← hg] at hd
      replace D47 := Lib.hid (heap_kept hk D47.out)
      have D52 := Lib.hid hd
      have hHn : wd.grownBy wn none := grown_new hHeld (grown_kept hk none) (fun k e => by cases e)
      refine hK.out _ _ hHn (fun hx => ?_)
      replace hHeld := hHn
      clear hx hHn hk hwn hd hg hlt
      obtain ⟨wc52, rfl⟩ : ∃ x, x = wn := ⟨_, rfl⟩
      clear hK K
      try simp only [Act.put, List.setIfInBounds_toArray, List.set_cons_zero, List.set_cons_succ]
      refine wpAnyH_ready (rs := [48]) (by kernel_rfl) (by simp) ?_
      refine AllReadyH.cons (o := ⟨some 227, _, _, _, _, _⟩) rfl (fun K hK => ?_) (AllReadyH.nil)
      go_simp
      refine (of4At (l.extract 0 119) ⟨#[49]⟩ l ⟨#[50]⟩ g47 _ D47.out).mono ?_
      rintro e wn ⟨A48, c48, rfl, hr, hk⟩
      clear D47
      replace D52 := Lib.hid (heap_kept hk D52.out)
      have R48 := Lib.hid hr
      have hHn : wd.grownBy wn none := grown_new hHeld (grown_kept hk none) (fun k e => by cases e)
      refine hK.out _ _ hHn (fun hx => ?_)
      replace hHeld := hHn
      clear hx hHn hk hr
      obtain ⟨wc48, rfl⟩ : ∃ x, x = wn := ⟨_, rfl⟩
      clear hK K
      try simp only [Act.put, List.setIfInBounds_toArray, List.set_cons_zero, List.set_cons_succ]
      refine wpAnyH_ready (rs := [53]) (by kernel_rfl) (by simp) ?_
      refine AllReadyH.cons (o := ⟨some 232, _, _, _, _, _⟩) rfl (fun K hK => ?_) (AllReadyH.nil)
      go_simp
      refine (of4At (l.extract 0 119) ⟨#[51]⟩ l ⟨#[52]⟩ g52 _ D52.out).mono ?_
      rintro e wn ⟨A53, c53, rfl, hr, hk⟩
      clear D52
      replace R48 := Lib.hid (rd_kept hk R48.out)
      have R53 := Lib.hid hr
      have hHn : wd.grownBy wn none := grown_new hHeld (grown_kept hk none) (fun k e => by cases e)
      refine hK.out _ _ hHn (fun hx => ?_)
      replace hHeld := hHn
      clear hx hHn hk hr
      obtain ⟨wc53, rfl⟩ : ∃ x, x = wn := ⟨_, rfl⟩
      clear hK K
      try simp only [Act.put, List.setIfInBounds_toArray, List.set_cons_zero, List.set_cons_succ]
      refine wpAnyH_ready (rs := [54]) (by kernel_rfl) (by simp) ?_
      refine AllReadyH.cons (o := ⟨some 233, _, _, _, _, _⟩) rfl (fun K hK => ?_) (AllReadyH.nil)
      go_simp
      refine (changesN [((l.extract 0 119), ⟨#[49]⟩), (l, ⟨#[50]⟩)] [((l.extract 0 119), ⟨#[51]⟩), (l, ⟨#[52]⟩)] [] [] rfl rfl rfl rfl R48.out R53.out rd_none rds_none (HT.out _ hHeld)).mono ?_
      rintro e wn ⟨rfl, hk⟩
      clear R48
      clear R53
      have hHn : wd.grownBy wn none := grown_new hHeld (grown_kept hk none) (fun k e => by cases e)
      refine hK.out _ _ hHn (fun hx => ?_)
      replace hHeld := hHn
      clear hx hHn hk 
      obtain ⟨wc54, rfl⟩ : ∃ x, x = wn := ⟨_, rfl⟩
      clear hK K
      try simp only [Act.put, List.setIfInBounds_toArray, List.set_cons_zero, List.set_cons_succ]
      refine wpAnyH_take (i := 55) (oi := ⟨some 234, _, _, _, _, _⟩) (v := ?_) rfl (by kernel_rfl) (by kernel_rfl) (by kernel_rfl) (fun _ _ _ h => h) (Or.inl ⟨by rfl, ?_⟩) hHeld ?_
      rotate_left
      · (intro w hSw; go_simp; (try with_reducible rfl))
      try simp only [Act.put, List.setIfInBounds_toArray, List.set_cons_zero, List.set_cons_succ]
      refine wpAnyH_take (i := 56) (oi := ⟨some 235, _, _, _, _, _⟩) (v := ?_) rfl (by kernel_rfl) (by kernel_rfl) (by kernel_rfl) (fun _ _ _ h => h) (Or.inl ⟨by rfl, ?_⟩) hHeld ?_
      rotate_left
      · (intro w hSw; go_simp; (try with_reducible rfl))
      try simp only [Act.put, List.setIfInBounds_toArray, List.set_cons_zero, List.set_cons_succ]
      refine wpAnyH_ready (rs := [57]) (by kernel_rfl) (by simp) ?_
      refine AllReadyH.cons (o := ⟨some 236, _, _, _, _, _⟩) rfl (fun K hK => ?_) (AllReadyH.nil)
      go_simp
      refine (changesN [] [] [] [] rfl rfl rfl rfl rd_none rd_none rd_none rds_none (HT.out _ hHeld)).mono ?_
      rintro e wn ⟨rfl, hk⟩
      have hHn : wd.grownBy wn none := grown_new hHeld (grown_kept hk none) (fun k e => by cases e)
      refine hK.out _ _ hHn (fun hx => ?_)
      replace hHeld := hHn
      clear hx hHn hk 
      obtain ⟨wc57, rfl⟩ : ∃ x, x = wn := ⟨_, rfl⟩
      clear hK K
      try simp only [Act.put, List.setIfInBounds_toArray, List.set_cons_zero, List.set_cons_succ]
      refine wpAnyH_take (i := 58) (oi := ⟨some 237, _, _, _, _, _⟩) (v := ?_) rfl (by kernel_rfl) (by kernel_rfl) (by kernel_rfl) (fun _ _ _ h => h) (Or.inl ⟨by rfl, ?_⟩) hHeld ?_
      rotate_left
      · (intro w hSw; go_simp; (try with_reducible rfl))
      try simp only [Act.put, List.setIfInBounds_toArray, List.set_cons_zero, List.set_cons_succ]
      refine wpAnyH_take (i := 59) (oi := ⟨some 238, _, _, _, _, _⟩) (v := ?_) rfl (by kernel_rfl) (by kernel_rfl) (by kernel_rfl) (fun _ _ _ h => h) (Or.inl ⟨by rfl, ?_⟩) hHeld ?_
      rotate_left
      · (intro w hSw; go_simp; (try with_reducible rfl))
      try simp only [Act.put, List.setIfInBounds_toArray, List.set_cons_zero, List.set_cons_succ]
      refine wpAnyH_ready (rs := [60]) (by kernel_rfl) (by simp) ?_
      refine AllReadyH.cons (o := ⟨some 239, _, _, _, _, _⟩) rfl (fun K hK => ?_) (AllReadyH.nil)
      go_simp
      refine (awake_any _ (HT.out _ hHeld)).mono ?_
      rintro e wn ⟨rfl, hk⟩
      have hHn : wd.grownBy wn none := grown_new hHeld (grown_kept hk none) (fun k e => by cases e)
      refine hK.out _ _ hHn (fun hx => ?_)
      replace hHeld := hHn
      clear hx hHn hk 
      obtain ⟨wc60, rfl⟩ : ∃ x, x = wn := ⟨_, rfl⟩
      clear hK K
      try simp only [Act.put, List.setIfInBounds_toArray, List.set_cons_zero, List.set_cons_succ]
      refine wpAnyH_take (i := 61) (oi := ⟨some 240, _, _, _, _, _⟩) (v := ?_) rfl (by kernel_rfl) (by kernel_rfl) (by kernel_rfl) (fun _ _ _ h => h) (Or.inl ⟨by rfl, ?_⟩) hHeld ?_
      rotate_left
      · (intro w hSw; go_simp; (try with_reducible rfl))
      try simp only [Act.put, List.setIfInBounds_toArray, List.set_cons_zero, List.set_cons_succ]
      refine wpAnyH_take (i := 62) (oi := ⟨some 0, _, _, _, _, _⟩) (v := ?_) rfl (by kernel_rfl) (by kernel_rfl) (by kernel_rfl) (fun _ _ _ h => h) (Or.inl ⟨by rfl, ?_⟩) hHeld ?_
      rotate_left
      · (intro w hSw; go_simp; (try with_reducible rfl))
      try simp only [Act.put, List.setIfInBounds_toArray, List.set_cons_zero, List.set_cons_succ]
      refine wpAnyH_done (by kernel_rfl) ?_ _
      go_wp2_with fail
      go_meet
      exact ⟨rfl, Hfin.out _ (grown_keptN hHeld)⟩
  ·
    go_simp
    obtain ⟨wn, hwn, hd, hk, hlt⟩ := new_row wc41 #[.string (l.extract 0 119), .string ⟨#[51]⟩, .string l, .string ⟨#[52]⟩] 9
    obtain ⟨g52, hg⟩ : ∃ g, g = wc41.heap.size := ⟨_, rfl⟩
    rw [← hwn, ← hg]
    rw [← hg] at hd
    have D52 := Lib.hid hd
    have hHn : wd.grownBy wn none := grown_new hHeld (grown_kept hk none) (fun k e => by cases e)
    refine hK.out _ _ hHn (fun hx => ?_)
    replace hHeld := hHn
    clear hx hHn hk hwn hd hg hlt
    obtain ⟨wc52, rfl⟩ : ∃ x, x = wn := ⟨_, rfl⟩
    clear hK K
    try simp only [Act.put, List.setIfInBounds_toArray, List.set_cons_zero, List.set_cons_succ]
    refine wpAnyH_ready (rs := [47]) (by kernel_rfl) (by simp) ?_
    refine AllReadyH.cons (o := ⟨some 226, _, _, _, _, _⟩) rfl (fun K hK => ?_) (AllReadyH.nil)
    go_simp
    obtain ⟨wn, hwn, hd, hk, hlt⟩ := new_row wc52 #[.string (l.extract 0 119), .string ⟨#[49]⟩, .string l, .string ⟨#[50]⟩] 9
    obtain ⟨g47, hg⟩ : ∃ g, g = wc52.heap.size := ⟨_, rfl⟩
    rw [← hwn, ← hg]
    rw [← hg] at hd
    replace D52 := Lib.hid (heap_kept hk D52.out)
    have D47 := Lib.hid hd
    have hHn : wd.grownBy wn none := grown_new hHeld (grown_kept hk none) (fun k e => by cases e)
    refine hK.out _ _ hHn (fun hx => ?_)
    replace hHeld := hHn
    clear hx hHn hk hwn hd hg hlt
    obtain ⟨wc47, rfl⟩ : ∃ x, x = wn := ⟨_, rfl⟩
    clear hK K
    try simp only [Act.put, List.setIfInBounds_toArray, List.set_cons_zero, List.set_cons_succ]
    refine wpAnyH_ready (rs := [48]) (by kernel_rfl) (by simp) ?_
    refine AllReadyH.cons (o := ⟨some 227, _, _, _, _, _⟩) rfl (fun K hK => ?_) (AllReadyH.nil)
    go_simp
    refine (of4At (l.extract 0 119) ⟨#[49]⟩ l ⟨#[50]⟩ g47 _ D47.out).mono ?_
    rintro e wn ⟨A48, c48, rfl, hr, hk⟩
    clear D47
    replace D52 := Lib.hid (heap_kept hk D52.out)
    have R48 := Lib.hid hr
    have hHn : wd.grownBy wn none := grown_new hHeld (grown_kept hk none) (fun k e => by cases e)
    refine hK.out _ _ hHn (fun hx => ?_)
    replace hHeld := hHn
    clear hx hHn hk hr
    obtain ⟨wc48, rfl⟩ : ∃ x, x = wn := ⟨_, rfl⟩
    clear hK K
    try simp only [Act.put, List.setIfInBounds_toArray, List.set_cons_zero, List.set_cons_succ]
    refine wpAnyH_ready (rs := [53]) (by kernel_rfl) (by simp) ?_
    refine AllReadyH.cons (o := ⟨some 232, _, _, _, _, _⟩) rfl (fun K hK => ?_) (AllReadyH.nil)
    go_simp
    refine (of4At (l.extract 0 119) ⟨#[51]⟩ l ⟨#[52]⟩ g52 _ D52.out).mono ?_
    rintro e wn ⟨A53, c53, rfl, hr, hk⟩
    clear D52
    replace R48 := Lib.hid (rd_kept hk R48.out)
    have R53 := Lib.hid hr
    have hHn : wd.grownBy wn none := grown_new hHeld (grown_kept hk none) (fun k e => by cases e)
    refine hK.out _ _ hHn (fun hx => ?_)
    replace hHeld := hHn
    clear hx hHn hk hr
    obtain ⟨wc53, rfl⟩ : ∃ x, x = wn := ⟨_, rfl⟩
    clear hK K
    try simp only [Act.put, List.setIfInBounds_toArray, List.set_cons_zero, List.set_cons_succ]
    refine wpAnyH_ready (rs := [54]) (by kernel_rfl) (by simp) ?_
    refine AllReadyH.cons (o := ⟨some 233, _, _, _, _, _⟩) rfl (fun K hK => ?_) (AllReadyH.nil)
    go_simp
    refine (changesN [((l.extract 0 119), ⟨#[49]⟩), (l, ⟨#[50]⟩)] [((l.extract 0 119), ⟨#[51]⟩), (l, ⟨#[52]⟩)] [] [] rfl rfl rfl rfl R48.out R53.out rd_none rds_none (HT.out _ hHeld)).mono ?_
    rintro e wn ⟨rfl, hk⟩
    clear R48
    clear R53
    have hHn : wd.grownBy wn none := grown_new hHeld (grown_kept hk none) (fun k e => by cases e)
    refine hK.out _ _ hHn (fun hx => ?_)
    replace hHeld := hHn
    clear hx hHn hk 
    obtain ⟨wc54, rfl⟩ : ∃ x, x = wn := ⟨_, rfl⟩
    clear hK K
    try simp only [Act.put, List.setIfInBounds_toArray, List.set_cons_zero, List.set_cons_succ]
    refine wpAnyH_take (i := 55) (oi := ⟨some 234, _, _, _, _, _⟩) (v := ?_) rfl (by kernel_rfl) (by kernel_rfl) (by kernel_rfl) (fun _ _ _ h => h) (Or.inl ⟨by rfl, ?_⟩) hHeld ?_
    rotate_left
    · (intro w hSw; go_simp; (try with_reducible rfl))
    try simp only [Act.put, List.setIfInBounds_toArray, List.set_cons_zero, List.set_cons_succ]
    refine wpAnyH_take (i := 56) (oi := ⟨some 235, _, _, _, _, _⟩) (v := ?_) rfl (by kernel_rfl) (by kernel_rfl) (by kernel_rfl) (fun _ _ _ h => h) (Or.inl ⟨by rfl, ?_⟩) hHeld ?_
    rotate_left
    · (intro w hSw; go_simp; (try with_reducible rfl))
    try simp only [Act.put, List.setIfInBounds_toArray, List.set_cons_zero, List.set_cons_succ]
    refine wpAnyH_ready (rs := [57]) (by kernel_rfl) (by simp) ?_
    refine AllReadyH.cons (o := ⟨some 236, _, _, _, _, _⟩) rfl (fun K hK => ?_) (AllReadyH.nil)
    go_simp
    refine (changesN [] [] [] [] rfl rfl rfl rfl rd_none rd_none rd_none rds_none (HT.out _ hHeld)).mono ?_
    rintro e wn ⟨rfl, hk⟩
    have hHn : wd.grownBy wn none := grown_new hHeld (grown_kept hk none) (fun k e => by cases e)
    refine hK.out _ _ hHn (fun hx => ?_)
    replace hHeld := hHn
    clear hx hHn hk 
    obtain ⟨wc57, rfl⟩ : ∃ x, x = wn := ⟨_, rfl⟩
    clear hK K
    try simp only [Act.put, List.setIfInBounds_toArray, List.set_cons_zero, List.set_cons_succ]
    refine wpAnyH_take (i := 58) (oi := ⟨some 237, _, _, _, _, _⟩) (v := ?_) rfl (by kernel_rfl) (by kernel_rfl) (by kernel_rfl) (fun _ _ _ h => h) (Or.inl ⟨by rfl, ?_⟩) hHeld ?_
    rotate_left
    · (intro w hSw; go_simp; (try with_reducible rfl))
    try simp only [Act.put, List.setIfInBounds_toArray, List.set_cons_zero, List.set_cons_succ]
    refine wpAnyH_take (i := 59) (oi := ⟨some 238, _, _, _, _, _⟩) (v := ?_) rfl (by kernel_rfl) (by kernel_rfl) (by kernel_rfl) (fun _ _ _ h => h) (Or.inl ⟨by rfl, ?_⟩) hHeld ?_
    rotate_left
    · (intro w hSw; go_simp; (try with_reducible rfl))
    try simp only [Act.put, List.setIfInBounds_toArray, List.set_cons_zero, List.set_cons_succ]
    refine wpAnyH_ready (rs := [60]) (by kernel_rfl) (by simp) ?_
    refine AllReadyH.cons (o := ⟨some 239, _, _, _, _, _⟩) rfl (fun K hK => ?_) (AllReadyH.nil)
    go_simp
    refine (awake_any _ (HT.out _ hHeld)).mono ?_
    rintro e wn ⟨rfl, hk⟩
    have hHn : wd.grownBy wn none := grown_new hHeld (grown_kept hk none) (fun k e => by cases e)
    refine hK.out _ _ hHn (fun hx => ?_)
    replace hHeld := hHn
    clear hx hHn hk 
    obtain ⟨wc60, rfl⟩ : ∃ x, x = wn := ⟨_, rfl⟩
    clear hK K
    try simp only [Act.put, List.setIfInBounds_toArray, List.set_cons_zero, List.set_cons_succ]
    refine wpAnyH_take (i := 61) (oi := ⟨some 240, _, _, _, _, _⟩) (v := ?_) rfl (by kernel_rfl) (by kernel_rfl) (by kernel_rfl) (fun _ _ _ h => h) (Or.inl ⟨by rfl, ?_⟩) hHeld ?_
    rotate_left
    · (intro w hSw; go_simp; (try with_reducible rfl))
    try simp only [Act.put, List.setIfInBounds_toArray, List.set_cons_zero, List.set_cons_succ]
    refine wpAnyH_take (i := 62) (oi := ⟨some 0, _, _, _, _, _⟩) (v := ?_) rfl (by kernel_rfl) (by kernel_rfl) (by kernel_rfl) (fun _ _ _ h => h) (Or.inl ⟨by rfl, ?_⟩) hHeld ?_
    rotate_left
    · (intro w hSw; go_simp; (try with_reducible rfl))
    try simp only [Act.put, List.setIfInBounds_toArray, List.set_cons_zero, List.set_cons_succ]
    refine wpAnyH_done (by kernel_rfl) ?_ _
    go_wp2_with fail
    go_meet
    exact ⟨rfl, Hfin.out _ (grown_keptN hHeld)⟩
theorem sp_5 (w : World) (hT : Tab w) : (sp0 w hT).1.2.2.2.2 := (sq0 w hT).2 (sq_1 w hT)
end Go.Proofs.YtlhekeokognhmaaGreatDoor
