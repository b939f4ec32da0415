/-
  LabelSmall: the round of its second loop.
-/
import Derived.Test.YtlhekeokognhmaaGreatDoorMgbr
import Derived.Deep.CutBlock
namespace Go.Proofs.YtlhekeokognhmaaGreatDoor
open Go.RowKit Go.Shelf Go.Maps Go.Sort
set_option maxRecDepth 100000 in
set_option maxHeartbeats 40000000 in
theorem sp_2 (w : World) (hT : Tab w) : (sp0 w hT).1.2.1 := by
  delta sp0 mk5
  dsimp -zeta only
  clear hT
  intro HT ia1 ia2 ia3 u1 u2 u18 u19 u20 u21 u22 u23 u24 u25 u26 u27 u28 u29 u30 u31 u32 u33 u34 u35 u36 u37 u38 u39 u40 u41 u42 u43 u44 u45 u46 u47 u48 u49 u50 u51 u52 u53 u54 ia4 w1 ia5 ia6 ia7 ia8 ia9 w0 HS HK0 hsz wr u0 u4 u5 u58 u59 u60 u61 u62 u63 u64 u65 u66 u67 u68 u69 u70 u71 u72 u73 u74 u75 u76 u77 u78 u79 u80 u81 u82 u83 u84 u85 u86 u87 u88 u89 u90 u91 u92 u93 u94 u95 k hk hkr hkn
  obtain ⟨n, hn1, hn2, hs⟩ := HS.out k hkn
  have hc := (Below.cell hkr.out (p := ⟨w1.heap.size, k, none⟩) hsz).trans hs
  obtain ⟨s, hs1, C⟩ := rep_any n (by omega) 120 wr
  have C := Lib.hid C
  have K : Hid (Kept w wr) := below_kept HK0.out hkr.out
  have hs2 : (2 : Int) ≤ (s.size : Int) := by omega
  have hs5 : ¬ 9223372036854775807 < 2 + (s.size - 2) := by omega
  have hs4 : s.size ≤ maxLen := by unfold maxLen; omega
  have ht1 : ((⟨#[195, 169]⟩ : ByteArray) ++ s.extract 2 s.size).size ≤ maxLen := by simp only [ByteArray.size_append, ByteArray.size_extract]; unfold maxLen; show 2 + _ ≤ _; omega
  clear hs hs1 HS hn1 hn2 hsz
  go_upto_region 12 with (go_at_call 10; refine C.out.mono ?_; rintro e w2 ⟨rfl, hk2⟩; replace hkr := kk hkr hk2; replace K := kk K hk2; clear hk2 hc C)
  go_cut [94] (fun v94 W => v94 = .bool false ∧ Hid (Kept w2 W))
  case first =>
    obtain ⟨w0, hw0⟩ : ∃ x, x = w2.drew := ⟨_, rfl⟩
    have HT0 := HT
    replace HT : Hid (∀ W, w0.grownBy W none → Tab W) := fun W hW => HT0.out W (below_kept K.out (below_kept (below_drew0 (Below.refl w2.heap.size w2)) (by rw [hw0] at hW; exact grown_keptN hW)))
    have Hfin : Hid (∀ W, Kept w0 W → Kept w2 W) := fun W h => by rw [hw0] at h; exact below_kept (below_drew0 (Below.refl w2.heap.size w2)) h
    refine wp_region_held_drew (S := fun W => w2.drew.grownBy W none) (by kernel_rfl) (grown_kept (Below.refl _ _) _) (fun hHeld => ?_)
    rw [← hw0] at hHeld ⊢
    clear hw0 HT0 K hkr HK0
    refine wpAnyH_take (i := 0) (oi := ⟨some 63, _, _, _, _, _⟩) (v := ?_) rfl (by kernel_rfl) (by kernel_rfl) (by kernel_rfl) (fun _ _ _ h => h) (Or.inl ⟨by rfl, ?_⟩) hHeld ?_
    rotate_left
    · (intro w hSw; go_simp; (try with_reducible rfl))
    try simp only [Act.put, List.setIfInBounds_toArray, List.set_cons_zero, List.set_cons_succ]
    refine wpAnyH_take (i := 1) (oi := ⟨some 64, _, _, _, _, _⟩) (v := ?_) rfl (by kernel_rfl) (by kernel_rfl) (by kernel_rfl) (fun _ _ _ h => h) (Or.inl ⟨by rfl, ?_⟩) hHeld ?_
    rotate_left
    · (intro w hSw; go_simp; (try with_reducible rfl))
    try simp only [Act.put, List.setIfInBounds_toArray, List.set_cons_zero, List.set_cons_succ]
    refine wpAnyH_take (i := 2) (oi := ⟨some 65, _, _, _, _, _⟩) (v := ?_) rfl (by kernel_rfl) (by kernel_rfl) (by kernel_rfl) (fun _ _ _ h => h) (Or.inl ⟨by rfl, ?_⟩) hHeld ?_
    rotate_left
    · (intro w hSw; go_simp; (try with_reducible rfl))
    try simp only [Act.put, List.setIfInBounds_toArray, List.set_cons_zero, List.set_cons_succ]
    refine wpAnyH_ready (rs := [3]) (by kernel_rfl) (by simp) ?_
    refine AllReadyH.cons (o := ⟨some 66, _, _, _, _, _⟩) rfl (fun K hK => ?_) (AllReadyH.nil)
    go_simp
    obtain ⟨wn, hwn, hd, hk, hlt⟩ := new_row w0 #[.string s, .string ⟨#[97]⟩, .string ⟨#[121]⟩, .string s] 9
    obtain ⟨g3, hg⟩ : ∃ g, g = w0.heap.size := ⟨_, rfl⟩
    rw [← hwn, ← hg]
    rw [← hg] at hd
    have D3 := Lib.hid hd
    have hHn : w0.grownBy wn none := grown_new hHeld (grown_kept hk none) (fun k e => by cases e)
    refine hK.out _ _ hHn (fun _ => ?_)
    replace hHeld := hHn
    clear hHn hk hwn hd hg hlt
    obtain ⟨wc, rfl⟩ : ∃ x, x = wn := ⟨_, rfl⟩
    clear hK K
    try simp only [Act.put, List.setIfInBounds_toArray, List.set_cons_zero, List.set_cons_succ]
    refine wpAnyH_ready (rs := [4]) (by kernel_rfl) (by simp) ?_
    refine AllReadyH.cons (o := ⟨some 67, _, _, _, _, _⟩) rfl (fun K hK => ?_) (AllReadyH.nil)
    go_simp
    refine (of4At s ⟨#[97]⟩ ⟨#[121]⟩ s g3 _ D3.out).mono ?_
    rintro e wn ⟨A4, c4, rfl, hr, hk⟩
    clear D3
    have R4 := Lib.hid hr
    have hHn : w0.grownBy wn none := grown_new hHeld (grown_kept hk none) (fun k e => by cases e)
    refine hK.out _ _ hHn (fun _ => ?_)
    replace hHeld := hHn
    clear hHn hk hr
    obtain ⟨wc, rfl⟩ : ∃ x, x = wn := ⟨_, rfl⟩
    clear hK K
    try simp only [Act.put, List.setIfInBounds_toArray, List.set_cons_zero, List.set_cons_succ]
    refine wpAnyH_ready (rs := [5]) (by kernel_rfl) (by simp) ?_
    refine AllReadyH.cons (o := ⟨some 68, _, _, _, _, _⟩) rfl (fun K hK => ?_) (AllReadyH.nil)
    go_simp
    refine (tells_any s hs4 A4 c4 [(s, ⟨#[97]⟩), (⟨#[121]⟩, s)] _ R4.out (HT.out _ hHeld)).mono ?_
    rintro e wn ⟨rfl, hk⟩
    clear R4
    have hHn : w0.grownBy wn none := grown_new hHeld (grown_kept hk none) (fun k e => by cases e)
    refine hK.out _ _ hHn (fun _ => ?_)
    replace hHeld := hHn
    clear hHn hk 
    obtain ⟨wc, rfl⟩ : ∃ x, x = wn := ⟨_, rfl⟩
    clear hK K
    try simp only [Act.put, List.setIfInBounds_toArray, List.set_cons_zero, List.set_cons_succ]
    refine wpAnyH_take (i := 6) (oi := ⟨some 69, _, _, _, _, _⟩) (v := ?_) rfl (by kernel_rfl) (by kernel_rfl) (by kernel_rfl) (fun _ _ _ h => h) (Or.inl ⟨by rfl, ?_⟩) hHeld ?_
    rotate_left
    · (intro w hSw; go_simp; (try with_reducible rfl))
    try simp only [Act.put, List.setIfInBounds_toArray, List.set_cons_zero, List.set_cons_succ]
    refine wpAnyH_take (i := 7) (oi := ⟨some 70, _, _, _, _, _⟩) (v := ?_) rfl (by kernel_rfl) (by kernel_rfl) (by kernel_rfl) (fun _ _ _ h => h) (Or.inl ⟨by rfl, ?_⟩) hHeld ?_
    rotate_left
    · (intro w hSw; go_simp; (try with_reducible rfl))
    try simp only [Act.put, List.setIfInBounds_toArray, List.set_cons_zero, List.set_cons_succ]
    refine wpAnyH_take (i := 8) (oi := ⟨some 71, _, _, _, _, _⟩) (v := ?_) rfl (by kernel_rfl) (by kernel_rfl) (by kernel_rfl) (fun _ _ _ h => h) (Or.inl ⟨by rfl, ?_⟩) hHeld ?_
    rotate_left
    · (intro w hSw; go_simp; (try with_reducible rfl))
    try simp only [Act.put, List.setIfInBounds_toArray, List.set_cons_zero, List.set_cons_succ]
    refine wpAnyH_take (i := 9) (oi := ⟨some 72, _, _, _, _, _⟩) (v := ?_) rfl (by kernel_rfl) (by kernel_rfl) (by kernel_rfl) (fun _ _ _ h => h) (Or.inl ⟨by rfl, ?_⟩) hHeld ?_
    rotate_left
    · (intro w hSw; go_simp; (try with_reducible rfl))
    try simp only [Act.put, List.setIfInBounds_toArray, List.set_cons_zero, List.set_cons_succ]
    refine wpAnyH_take (i := 10) (oi := ⟨some 73, _, _, _, _, _⟩) (v := ?_) rfl (by kernel_rfl) (by kernel_rfl) (by kernel_rfl) (fun _ _ _ h => h) (Or.inl ⟨by rfl, ?_⟩) hHeld ?_
    rotate_left
    · (intro w hSw; go_simp; (try with_reducible rfl))
    try simp only [Act.put, List.setIfInBounds_toArray, List.set_cons_zero, List.set_cons_succ]
    refine wpAnyH_take (i := 11) (oi := ⟨some 74, _, _, _, _, _⟩) (v := ?_) rfl (by kernel_rfl) (by kernel_rfl) (by kernel_rfl) (fun _ _ _ h => h) (Or.inl ⟨by rfl, ?_⟩) hHeld ?_
    rotate_left
    · (intro w hSw; go_simp; (try with_reducible rfl))
    try simp only [Act.put, List.setIfInBounds_toArray, List.set_cons_zero, List.set_cons_succ]
    refine wpAnyH_take (i := 12) (oi := ⟨some 75, _, _, _, _, _⟩) (v := ?_) rfl (by kernel_rfl) (by kernel_rfl) (by kernel_rfl) (fun _ _ _ h => h) (Or.inl ⟨by rfl, ?_⟩) hHeld ?_
    rotate_left
    · (intro w hSw; go_simp; (try with_reducible rfl))
    try simp only [Act.put, List.setIfInBounds_toArray, List.set_cons_zero, List.set_cons_succ]
    refine wpAnyH_take (i := 13) (oi := ⟨some 76, _, _, _, _, _⟩) (v := ?_) rfl (by kernel_rfl) (by kernel_rfl) (by kernel_rfl) (fun _ _ _ h => h) (Or.inl ⟨by rfl, ?_⟩) hHeld ?_
    rotate_left
    · (intro w hSw; go_simp; (try with_reducible rfl))
    try simp only [Act.put, List.setIfInBounds_toArray, List.set_cons_zero, List.set_cons_succ]
    refine wpAnyH_ready (rs := [14]) (by kernel_rfl) (by simp) ?_
    refine AllReadyH.cons (o := ⟨some 77, _, _, _, _, _⟩) rfl (fun K hK => ?_) (AllReadyH.nil)
    go_simp
    obtain ⟨wn, hwn, hd, hk, hlt⟩ := new_row wc #[.string ⟨#[121]⟩, .string (⟨#[195, 169]⟩ ++ s.extract 2 s.size)] 9
    obtain ⟨g14, hg⟩ : ∃ g, g = wc.heap.size := ⟨_, rfl⟩
    rw [← hwn, ← hg]
    rw [← hg] at hd
    have D14 := Lib.hid hd
    have hHn : w0.grownBy wn none := grown_new hHeld (grown_kept hk none) (fun k e => by cases e)
    refine hK.out _ _ hHn (fun _ => ?_)
    replace hHeld := hHn
    clear hHn hk hwn hd hg hlt
    obtain ⟨wc, rfl⟩ : ∃ x, x = wn := ⟨_, rfl⟩
    clear hK K
    try simp only [Act.put, List.setIfInBounds_toArray, List.set_cons_zero, List.set_cons_succ]
    refine wpAnyH_ready (rs := [15]) (by kernel_rfl) (by simp) ?_
    refine AllReadyH.cons (o := ⟨some 78, _, _, _, _, _⟩) rfl (fun K hK => ?_) (AllReadyH.nil)
    go_simp
    refine (of2At ⟨#[121]⟩ (⟨#[195, 169]⟩ ++ s.extract 2 s.size) g14 _ D14.out).mono ?_
    rintro e wn ⟨A15, c15, rfl, hr, hk⟩
    clear D14
    have R15 := Lib.hid hr
    have hHn : w0.grownBy wn none := grown_new hHeld (grown_kept hk none) (fun k e => by cases e)
    refine hK.out _ _ hHn (fun _ => ?_)
    replace hHeld := hHn
    clear hHn hk hr
    obtain ⟨wc, rfl⟩ : ∃ x, x = wn := ⟨_, rfl⟩
    clear hK K
    try simp only [Act.put, List.setIfInBounds_toArray, List.set_cons_zero, List.set_cons_succ]
    refine wpAnyH_ready (rs := [16]) (by kernel_rfl) (by simp) ?_
    refine AllReadyH.cons (o := ⟨some 79, _, _, _, _, _⟩) rfl (fun K hK => ?_) (AllReadyH.nil)
    go_simp
    refine (tells_any (⟨#[195, 169]⟩ ++ s.extract 2 s.size) ht1 A15 c15 [(⟨#[121]⟩, (⟨#[195, 169]⟩ ++ s.extract 2 s.size))] _ R15.out (HT.out _ hHeld)).mono ?_
    rintro e wn ⟨rfl, hk⟩
    clear R15
    have hHn : w0.grownBy wn none := grown_new hHeld (grown_kept hk none) (fun k e => by cases e)
    refine hK.out _ _ hHn (fun _ => ?_)
    replace hHeld := hHn
    clear hHn hk 
    obtain ⟨wc, rfl⟩ : ∃ x, x = wn := ⟨_, rfl⟩
    clear hK K
    try simp only [Act.put, List.setIfInBounds_toArray, List.set_cons_zero, List.set_cons_succ]
    refine wpAnyH_take (i := 17) (oi := ⟨some 80, _, _, _, _, _⟩) (v := ?_) rfl (by kernel_rfl) (by kernel_rfl) (by kernel_rfl) (fun _ _ _ h => h) (Or.inl ⟨by rfl, ?_⟩) hHeld ?_
    rotate_left
    · (intro w hSw; go_simp; (try with_reducible rfl))
    try simp only [Act.put, List.setIfInBounds_toArray, List.set_cons_zero, List.set_cons_succ]
    refine wpAnyH_take (i := 18) (oi := ⟨some 81, _, _, _, _, _⟩) (v := ?_) rfl (by kernel_rfl) (by kernel_rfl) (by kernel_rfl) (fun _ _ _ h => h) (Or.inl ⟨by rfl, ?_⟩) hHeld ?_
    rotate_left
    · (intro w hSw; go_simp; (try with_reducible rfl))
    try simp only [Act.put, List.setIfInBounds_toArray, List.set_cons_zero, List.set_cons_succ]
    refine wpAnyH_take (i := 19) (oi := ⟨some 82, _, _, _, _, _⟩) (v := ?_) rfl (by kernel_rfl) (by kernel_rfl) (by kernel_rfl) (fun _ _ _ h => h) (Or.inl ⟨by rfl, ?_⟩) hHeld ?_
    rotate_left
    · (intro w hSw; go_simp; (try with_reducible rfl))
    try simp only [Act.put, List.setIfInBounds_toArray, List.set_cons_zero, List.set_cons_succ]
    refine wpAnyH_take (i := 20) (oi := ⟨some 83, _, _, _, _, _⟩) (v := ?_) rfl (by kernel_rfl) (by kernel_rfl) (by kernel_rfl) (fun _ _ _ h => h) (Or.inl ⟨by rfl, ?_⟩) hHeld ?_
    rotate_left
    · (intro w hSw; go_simp; (try with_reducible rfl))
    try simp only [Act.put, List.setIfInBounds_toArray, List.set_cons_zero, List.set_cons_succ]
    refine wpAnyH_take (i := 25) (oi := ⟨some 88, _, _, _, _, _⟩) (v := ?_) rfl (by kernel_rfl) (by kernel_rfl) (by kernel_rfl) (fun _ _ _ h => h) (Or.inl ⟨by rfl, ?_⟩) hHeld ?_
    rotate_left
    · (intro w hSw; go_simp; (try with_reducible rfl))
    try simp only [Act.put, List.setIfInBounds_toArray, List.set_cons_zero, List.set_cons_succ]
    refine wpAnyH_take (i := 26) (oi := ⟨some 89, _, _, _, _, _⟩) (v := ?_) rfl (by kernel_rfl) (by kernel_rfl) (by kernel_rfl) (fun _ _ _ h => h) (Or.inl ⟨by rfl, ?_⟩) hHeld ?_
    rotate_left
    · (intro w hSw; go_simp; (try with_reducible rfl))
    try simp only [Act.put, List.setIfInBounds_toArray, List.set_cons_zero, List.set_cons_succ]
    refine wpAnyH_ready (rs := [21, 23, 27]) (by kernel_rfl) (by simp) ?_
    refine AllReadyH.cons (o := ⟨some 84, _, _, _, _, _⟩) rfl (fun K hK => ?_) (AllReadyH.cons (o := ⟨some 86, _, _, _, _, _⟩) rfl (fun K hK => ?_) (AllReadyH.cons (o := ⟨some 90, _, _, _, _, _⟩) rfl (fun K hK => ?_) (AllReadyH.nil)))
    ·
      go_simp
      obtain ⟨wn, hwn, hd, hk, hlt⟩ := new_row wc #[.string ⟨#[120]⟩, .string s] 9
      obtain ⟨g21, hg⟩ : ∃ g, g = wc.heap.size := ⟨_, rfl⟩
      rw [← hwn, ← hg]
      rw [← hg] at hd
      have D21 := Lib.hid hd
      have hHn : w0.grownBy wn none := grown_new hHeld (grown_kept hk none) (fun k e => by cases e)
      refine hK.out _ _ hHn (fun _ => ?_)
      replace hHeld := hHn
      clear hHn hk hwn hd hg hlt
      obtain ⟨wc, rfl⟩ : ∃ x, x = wn := ⟨_, rfl⟩
      clear hK K
      try simp only [Act.put, List.setIfInBounds_toArray, List.set_cons_zero, List.set_cons_succ]
      refine wpAnyH_ready (rs := [22, 23, 27]) (by kernel_rfl) (by simp) ?_
      refine AllReadyH.cons (o := ⟨some 85, _, _, _, _, _⟩) rfl (fun K hK => ?_) (AllReadyH.cons (o := ⟨some 86, _, _, _, _, _⟩) rfl (fun K hK => ?_) (AllReadyH.cons (o := ⟨some 90, _, _, _, _, _⟩) rfl (fun K hK => ?_) (AllReadyH.nil)))
      ·
        go_simp
        refine (of2At ⟨#[120]⟩ s g21 _ D21.out).mono ?_
        rintro e wn ⟨A22, c22, rfl, hr, hk⟩
        clear D21
        have R22 := Lib.hid hr
        have hHn : w0.grownBy wn none := grown_new hHeld (grown_kept hk none) (fun k e => by cases e)
        refine hK.out _ _ hHn (fun _ => ?_)
        replace hHeld := hHn
        clear hHn hk hr
        obtain ⟨wc, rfl⟩ : ∃ x, x = wn := ⟨_, rfl⟩
        clear hK K
        try simp only [Act.put, List.setIfInBounds_toArray, List.set_cons_zero, List.set_cons_succ]
        refine wpAnyH_ready (rs := [23, 27]) (by kernel_rfl) (by simp) ?_
        refine AllReadyH.cons (o := ⟨some 86, _, _, _, _, _⟩) rfl (fun K hK => ?_) (AllReadyH.cons (o := ⟨some 90, _, _, _, _, _⟩) rfl (fun K hK => ?_) (AllReadyH.nil))
        ·
          go_simp
          obtain ⟨wn, hwn, hd, hk, hlt⟩ := new_row wc #[.string ⟨#[120]⟩, .string ⟨#[49]⟩] 9
          obtain ⟨g23, hg⟩ : ∃ g, g = wc.heap.size := ⟨_, rfl⟩
          rw [← hwn, ← hg]
          rw [← hg] at hd
          replace R22 := Lib.hid (rd_kept hk R22.out)
          have D23 := Lib.hid hd
          have hHn : w0.grownBy wn none := grown_new hHeld (grown_kept hk none) (fun k e => by cases e)
          refine hK.out _ _ hHn (fun _ => ?_)
          replace hHeld := hHn
          clear hHn hk hwn hd hg hlt
          obtain ⟨wc, rfl⟩ : ∃ x, x = wn := ⟨_, rfl⟩
          clear hK K
          try simp only [Act.put, List.setIfInBounds_toArray, List.set_cons_zero, List.set_cons_succ]
          refine wpAnyH_ready (rs := [24, 27]) (by kernel_rfl) (by simp) ?_
          refine AllReadyH.cons (o := ⟨some 87, _, _, _, _, _⟩) rfl (fun K hK => ?_) (AllReadyH.cons (o := ⟨some 90, _, _, _, _, _⟩) rfl (fun K hK => ?_) (AllReadyH.nil))
          ·
            go_simp
            refine (of2At ⟨#[120]⟩ ⟨#[49]⟩ g23 _ D23.out).mono ?_
            rintro e wn ⟨A24, c24, rfl, hr, hk⟩
            clear D23
            replace R22 := Lib.hid (rd_kept hk R22.out)
            have R24 := Lib.hid hr
            have hHn : w0.grownBy wn none := grown_new hHeld (grown_kept hk none) (fun k e => by cases e)
            refine hK.out _ _ hHn (fun _ => ?_)
            replace hHeld := hHn
            clear hHn hk hr
            obtain ⟨wc, rfl⟩ : ∃ x, x = wn := ⟨_, rfl⟩
            clear hK K
            try simp only [Act.put, List.setIfInBounds_toArray, List.set_cons_zero, List.set_cons_succ]
            refine wpAnyH_ready (rs := [27]) (by kernel_rfl) (by simp) ?_
            refine AllReadyH.cons (o := ⟨some 90, _, _, _, _, _⟩) rfl (fun K hK => ?_) (AllReadyH.nil)
            go_simp
            obtain ⟨wn, hwn, hd, hk, hlt⟩ := new_row wc #[.string ⟨#[120]⟩, .string s, .string s, .string ⟨#[49]⟩] 9
            obtain ⟨g27, hg⟩ : ∃ g, g = wc.heap.size := ⟨_, rfl⟩
            rw [← hwn, ← hg]
            rw [← hg] at hd
            replace R22 := Lib.hid (rd_kept hk R22.out)
            replace R24 := Lib.hid (rd_kept hk R24.out)
            have D27 := Lib.hid hd
            have hHn : w0.grownBy wn none := grown_new hHeld (grown_kept hk none) (fun k e => by cases e)
            refine hK.out _ _ hHn (fun _ => ?_)
            replace hHeld := hHn
            clear hHn hk hwn hd hg hlt
            obtain ⟨wc, rfl⟩ : ∃ x, x = wn := ⟨_, rfl⟩
            clear hK K
            try simp only [Act.put, List.setIfInBounds_toArray, List.set_cons_zero, List.set_cons_succ]
            refine wpAnyH_ready (rs := [28]) (by kernel_rfl) (by simp) ?_
            refine AllReadyH.cons (o := ⟨some 91, _, _, _, _, _⟩) rfl (fun K hK => ?_) (AllReadyH.nil)
            go_simp
            refine (of4At ⟨#[120]⟩ s s ⟨#[49]⟩ g27 _ D27.out).mono ?_
            rintro e wn ⟨A28, c28, rfl, hr, hk⟩
            clear D27
            replace R22 := Lib.hid (rd_kept hk R22.out)
            replace R24 := Lib.hid (rd_kept hk R24.out)
            have R28 := Lib.hid hr
            have hHn : w0.grownBy wn none := grown_new hHeld (grown_kept hk none) (fun k e => by cases e)
            refine hK.out _ _ hHn (fun _ => ?_)
            replace hHeld := hHn
            clear hHn hk hr
            obtain ⟨wc, rfl⟩ : ∃ x, x = wn := ⟨_, rfl⟩
            clear hK K
            try simp only [Act.put, List.setIfInBounds_toArray, List.set_cons_zero, List.set_cons_succ]
            refine wpAnyH_ready (rs := [29]) (by kernel_rfl) (by simp) ?_
            refine AllReadyH.cons (o := ⟨some 92, _, _, _, _, _⟩) rfl (fun K hK => ?_) (AllReadyH.nil)
            go_simp
            refine (changes_any A22 A24 A28 none c22 c24 c28 0 [(⟨#[120]⟩, s)] [(⟨#[120]⟩, ⟨#[49]⟩)] [(⟨#[120]⟩, s), (s, ⟨#[49]⟩)] [] _ R22.out R24.out R28.out ⟨rfl, fun h => absurd h (by decide)⟩ (HT.out _ hHeld)).mono ?_
            rintro e wn ⟨rfl, hk⟩
            clear R22
            clear R24
            clear R28
            have hHn : w0.grownBy wn none := grown_new hHeld (grown_kept hk none) (fun k e => by cases e)
            refine hK.out _ _ hHn (fun _ => ?_)
            replace hHeld := hHn
            clear hHn hk 
            obtain ⟨wc, rfl⟩ : ∃ x, x = wn := ⟨_, rfl⟩
            clear hK K
            try simp only [Act.put, List.setIfInBounds_toArray, List.set_cons_zero, List.set_cons_succ]
            refine wpAnyH_take (i := 30) (oi := ⟨some 93, _, _, _, _, _⟩) (v := ?_) rfl (by kernel_rfl) (by kernel_rfl) (by kernel_rfl) (fun _ _ _ h => h) (Or.inl ⟨by rfl, ?_⟩) hHeld ?_
            rotate_left
            · (intro w hSw; go_simp; (try with_reducible rfl))
            try simp only [Act.put, List.setIfInBounds_toArray, List.set_cons_zero, List.set_cons_succ]
            refine wpAnyH_take (i := 31) (oi := ⟨some 94, _, _, _, _, _⟩) (v := ?_) rfl (by kernel_rfl) (by kernel_rfl) (by kernel_rfl) (fun _ _ _ h => h) (Or.inl ⟨by rfl, ?_⟩) hHeld ?_
            rotate_left
            · (intro w hSw; go_simp; (try with_reducible rfl))
            try simp only [Act.put, List.setIfInBounds_toArray, List.set_cons_zero, List.set_cons_succ]
            refine wpAnyH_done (by kernel_rfl) ?_ _
            go_wp2_with fail
            go_meet
            exact ⟨rfl, Hfin.out _ (grown_keptN hHeld)⟩
          ·
            go_simp
            obtain ⟨wn, hwn, hd, hk, hlt⟩ := new_row wc #[.string ⟨#[120]⟩, .string s, .string s, .string ⟨#[49]⟩] 9
            obtain ⟨g27, hg⟩ : ∃ g, g = wc.heap.size := ⟨_, rfl⟩
            rw [← hwn, ← hg]
            rw [← hg] at hd
            replace D23 := Lib.hid (heap_kept hk D23.out)
            replace R22 := Lib.hid (rd_kept hk R22.out)
            have D27 := Lib.hid hd
            have hHn : w0.grownBy wn none := grown_new hHeld (grown_kept hk none) (fun k e => by cases e)
            refine hK.out _ _ hHn (fun _ => ?_)
            replace hHeld := hHn
            clear hHn hk hwn hd hg hlt
            obtain ⟨wc, rfl⟩ : ∃ x, x = wn := ⟨_, rfl⟩
            clear hK K
            try simp only [Act.put, List.setIfInBounds_toArray, List.set_cons_zero, List.set_cons_succ]
            refine wpAnyH_ready (rs := [24]) (by kernel_rfl) (by simp) ?_
            refine AllReadyH.cons (o := ⟨some 87, _, _, _, _, _⟩) rfl (fun K hK => ?_) (AllReadyH.nil)
            go_simp
            refine (of2At ⟨#[120]⟩ ⟨#[49]⟩ g23 _ D23.out).mono ?_
            rintro e wn ⟨A24, c24, rfl, hr, hk⟩
            clear D23
            replace D27 := Lib.hid (heap_kept hk D27.out)
            replace R22 := Lib.hid (rd_kept hk R22.out)
            have R24 := Lib.hid hr
            have hHn : w0.grownBy wn none := grown_new hHeld (grown_kept hk none) (fun k e => by cases e)
            refine hK.out _ _ hHn (fun _ => ?_)
            replace hHeld := hHn
            clear hHn hk hr
            obtain ⟨wc, rfl⟩ : ∃ x, x = wn := ⟨_, rfl⟩
            clear hK K
            try simp only [Act.put, List.setIfInBounds_toArray, List.set_cons_zero, List.set_cons_succ]
            refine wpAnyH_ready (rs := [28]) (by kernel_rfl) (by simp) ?_
            refine AllReadyH.cons (o := ⟨some 91, _, _, _, _, _⟩) rfl (fun K hK => ?_) (AllReadyH.nil)
            go_simp
            refine (of4At ⟨#[120]⟩ s s ⟨#[49]⟩ g27 _ D27.out).mono ?_
            rintro e wn ⟨A28, c28, rfl, hr, hk⟩
            clear D27
            replace R22 := Lib.hid (rd_kept hk R22.out)
            replace R24 := Lib.hid (rd_kept hk R24.out)
            have R28 := Lib.hid hr
            have hHn : w0.grownBy wn none := grown_new hHeld (grown_kept hk none) (fun k e => by cases e)
            refine hK.out _ _ hHn (fun _ => ?_)
            replace hHeld := hHn
            clear hHn hk hr
            obtain ⟨wc, rfl⟩ : ∃ x, x = wn := ⟨_, rfl⟩
            clear hK K
            try simp only [Act.put, List.setIfInBounds_toArray, List.set_cons_zero, List.set_cons_succ]
            refine wpAnyH_ready (rs := [29]) (by kernel_rfl) (by simp) ?_
            refine AllReadyH.cons (o := ⟨some 92, _, _, _, _, _⟩) rfl (fun K hK => ?_) (AllReadyH.nil)
            go_simp
            refine (changes_any A22 A24 A28 none c22 c24 c28 0 [(⟨#[120]⟩, s)] [(⟨#[120]⟩, ⟨#[49]⟩)] [(⟨#[120]⟩, s), (s, ⟨#[49]⟩)] [] _ R22.out R24.out R28.out ⟨rfl, fun h => absurd h (by decide)⟩ (HT.out _ hHeld)).mono ?_
            rintro e wn ⟨rfl, hk⟩
            clear R22
            clear R24
            clear R28
            have hHn : w0.grownBy wn none := grown_new hHeld (grown_kept hk none) (fun k e => by cases e)
            refine hK.out _ _ hHn (fun _ => ?_)
            replace hHeld := hHn
            clear hHn hk 
            obtain ⟨wc, rfl⟩ : ∃ x, x = wn := ⟨_, rfl⟩
            clear hK K
            try simp only [Act.put, List.setIfInBounds_toArray, List.set_cons_zero, List.set_cons_succ]
            refine wpAnyH_take (i := 30) (oi := ⟨some 93, _, _, _, _, _⟩) (v := ?_) rfl (by kernel_rfl) (by kernel_rfl) (by kernel_rfl) (fun _ _ _ h => h) (Or.inl ⟨by rfl, ?_⟩) hHeld ?_
            rotate_left
            · (intro w hSw; go_simp; (try with_reducible rfl))
            try simp only [Act.put, List.setIfInBounds_toArray, List.set_cons_zero, List.set_cons_succ]
            refine wpAnyH_take (i := 31) (oi := ⟨some 94, _, _, _, _, _⟩) (v := ?_) rfl (by kernel_rfl) (by kernel_rfl) (by kernel_rfl) (fun _ _ _ h => h) (Or.inl ⟨by rfl, ?_⟩) hHeld ?_
            rotate_left
            · (intro w hSw; go_simp; (try with_reducible rfl))
            try simp only [Act.put, List.setIfInBounds_toArray, List.set_cons_zero, List.set_cons_succ]
            refine wpAnyH_done (by kernel_rfl) ?_ _
            go_wp2_with fail
            go_meet
            exact ⟨rfl, Hfin.out _ (grown_keptN hHeld)⟩
        ·
          go_simp
          obtain ⟨wn, hwn, hd, hk, hlt⟩ := new_row wc #[.string ⟨#[120]⟩, .string s, .string s, .string ⟨#[49]⟩] 9
          obtain ⟨g27, hg⟩ : ∃ g, g = wc.heap.size := ⟨_, rfl⟩
          rw [← hwn, ← hg]
          rw [← hg] at hd
          replace R22 := Lib.hid (rd_kept hk R22.out)
          have D27 := Lib.hid hd
          have hHn : w0.grownBy wn none := grown_new hHeld (grown_kept hk none) (fun k e => by cases e)
          refine hK.out _ _ hHn (fun _ => ?_)
          replace hHeld := hHn
          clear hHn hk hwn hd hg hlt
          obtain ⟨wc, rfl⟩ : ∃ x, x = wn := ⟨_, rfl⟩
          clear hK K
          try simp only [Act.put, List.setIfInBounds_toArray, List.set_cons_zero, List.set_cons_succ]
          refine wpAnyH_ready (rs := [23]) (by kernel_rfl) (by simp) ?_
          refine AllReadyH.cons (o := ⟨some 86, _, _, _, _, _⟩) rfl (fun K hK => ?_) (AllReadyH.nil)
          go_simp
          obtain ⟨wn, hwn, hd, hk, hlt⟩ := new_row wc #[.string ⟨#[120]⟩, .string ⟨#[49]⟩] 9
          obtain ⟨g23, hg⟩ : ∃ g, g = wc.heap.size := ⟨_, rfl⟩
          rw [← hwn, ← hg]
          rw [← hg] at hd
          replace D27 := Lib.hid (heap_kept hk D27.out)
          replace R22 := Lib.hid (rd_kept hk R22.out)
          have D23 := Lib.hid hd
          have hHn : w0.grownBy wn none := grown_new hHeld (grown_kept hk none) (fun k e => by cases e)
          refine hK.out _ _ hHn (fun _ => ?_)
          replace hHeld := hHn
          clear hHn hk hwn hd hg hlt
          obtain ⟨wc, rfl⟩ : ∃ x, x = wn := ⟨_, rfl⟩
          clear hK K
          try simp only [Act.put, List.setIfInBounds_toArray, List.set_cons_zero, List.set_cons_succ]
          refine wpAnyH_ready (rs := [24]) (by kernel_rfl) (by simp) ?_
          refine AllReadyH.cons (o := ⟨some 87, _, _, _, _, _⟩) rfl (fun K hK => ?_) (AllReadyH.nil)
          go_simp
          refine (of2At ⟨#[120]⟩ ⟨#[49]⟩ g23 _ D23.out).mono ?_
          rintro e wn ⟨A24, c24, rfl, hr, hk⟩
          clear D23
          replace D27 := Lib.hid (heap_kept hk D27.out)
          replace R22 := Lib.hid (rd_kept hk R22.out)
          have R24 := Lib.hid hr
          have hHn : w0.grownBy wn none := grown_new hHeld (grown_kept hk none) (fun k e => by cases e)
          refine hK.out _ _ hHn (fun _ => ?_)
          replace hHeld := hHn
          clear hHn hk hr
          obtain ⟨wc, rfl⟩ : ∃ x, x = wn := ⟨_, rfl⟩
          clear hK K
          try simp only [Act.put, List.setIfInBounds_toArray, List.set_cons_zero, List.set_cons_succ]
          refine wpAnyH_ready (rs := [28]) (by kernel_rfl) (by simp) ?_
          refine AllReadyH.cons (o := ⟨some 91, _, _, _, _, _⟩) rfl (fun K hK => ?_) (AllReadyH.nil)
          go_simp
          refine (of4At ⟨#[120]⟩ s s ⟨#[49]⟩ g27 _ D27.out).mono ?_
          rintro e wn ⟨A28, c28, rfl, hr, hk⟩
          clear D27
          replace R22 := Lib.hid (rd_kept hk R22.out)
          replace R24 := Lib.hid (rd_kept hk R24.out)
          have R28 := Lib.hid hr
          have hHn : w0.grownBy wn none := grown_new hHeld (grown_kept hk none) (fun k e => by cases e)
          refine hK.out _ _ hHn (fun _ => ?_)
          replace hHeld := hHn
          clear hHn hk hr
          obtain ⟨wc, rfl⟩ : ∃ x, x = wn := ⟨_, rfl⟩
          clear hK K
          try simp only [Act.put, List.setIfInBounds_toArray, List.set_cons_zero, List.set_cons_succ]
          refine wpAnyH_ready (rs := [29]) (by kernel_rfl) (by simp) ?_
          refine AllReadyH.cons (o := ⟨some 92, _, _, _, _, _⟩) rfl (fun K hK => ?_) (AllReadyH.nil)
          go_simp
          refine (changes_any A22 A24 A28 none c22 c24 c28 0 [(⟨#[120]⟩, s)] [(⟨#[120]⟩, ⟨#[49]⟩)] [(⟨#[120]⟩, s), (s, ⟨#[49]⟩)] [] _ R22.out R24.out R28.out ⟨rfl, fun h => absurd h (by decide)⟩ (HT.out _ hHeld)).mono ?_
          rintro e wn ⟨rfl, hk⟩
          clear R22
          clear R24
          clear R28
          have hHn : w0.grownBy wn none := grown_new hHeld (grown_kept hk none) (fun k e => by cases e)
          refine hK.out _ _ hHn (fun _ => ?_)
          replace hHeld := hHn
          clear hHn hk 
          obtain ⟨wc, rfl⟩ : ∃ x, x = wn := ⟨_, rfl⟩
          clear hK K
          try simp only [Act.put, List.setIfInBounds_toArray, List.set_cons_zero, List.set_cons_succ]
          refine wpAnyH_take (i := 30) (oi := ⟨some 93, _, _, _, _, _⟩) (v := ?_) rfl (by kernel_rfl) (by kernel_rfl) (by kernel_rfl) (fun _ _ _ h => h) (Or.inl ⟨by rfl, ?_⟩) hHeld ?_
          rotate_left
          · (intro w hSw; go_simp; (try with_reducible rfl))
          try simp only [Act.put, List.setIfInBounds_toArray, List.set_cons_zero, List.set_cons_succ]
          refine wpAnyH_take (i := 31) (oi := ⟨some 94, _, _, _, _, _⟩) (v := ?_) rfl (by kernel_rfl) (by kernel_rfl) (by kernel_rfl) (fun _ _ _ h => h) (Or.inl ⟨by rfl, ?_⟩) hHeld ?_
          rotate_left
          · (intro w hSw; go_simp; (try with_reducible rfl))
          try simp only [Act.put, List.setIfInBounds_toArray, List.set_cons_zero, List.set_cons_succ]
          refine wpAnyH_done (by kernel_rfl) ?_ _
          go_wp2_with fail
          go_meet
          exact ⟨rfl, Hfin.out _ (grown_keptN hHeld)⟩
      ·
        go_simp
        obtain ⟨wn, hwn, hd, hk, hlt⟩ := new_row wc #[.string ⟨#[120]⟩, .string ⟨#[49]⟩] 9
        obtain ⟨g23, hg⟩ : ∃ g, g = wc.heap.size := ⟨_, rfl⟩
        rw [← hwn, ← hg]
        rw [← hg] at hd
        replace D21 := Lib.hid (heap_kept hk D21.out)
        have D23 := Lib.hid hd
        have hHn : w0.grownBy wn none := grown_new hHeld (grown_kept hk none) (fun k e => by cases e)
        refine hK.out _ _ hHn (fun _ => ?_)
        replace hHeld := hHn
        clear hHn hk hwn hd hg hlt
        obtain ⟨wc, rfl⟩ : ∃ x, x = wn := ⟨_, rfl⟩
        clear hK K
        try simp only [Act.put, List.setIfInBounds_toArray, List.set_cons_zero, List.set_cons_succ]
        refine wpAnyH_ready (rs := [22, 27]) (by kernel_rfl) (by simp) ?_
        refine AllReadyH.cons (o := ⟨some 85, _, _, _, _, _⟩) rfl (fun K hK => ?_) (AllReadyH.cons (o := ⟨some 90, _, _, _, _, _⟩) rfl (fun K hK => ?_) (AllReadyH.nil))
        ·
          go_simp
          refine (of2At ⟨#[120]⟩ s g21 _ D21.out).mono ?_
          rintro e wn ⟨A22, c22, rfl, hr, hk⟩
          clear D21
          replace D23 := Lib.hid (heap_kept hk D23.out)
          have R22 := Lib.hid hr
          have hHn : w0.grownBy wn none := grown_new hHeld (grown_kept hk none) (fun k e => by cases e)
          refine hK.out _ _ hHn (fun _ => ?_)
          replace hHeld := hHn
          clear hHn hk hr
          obtain ⟨wc, rfl⟩ : ∃ x, x = wn := ⟨_, rfl⟩
          clear hK K
          try simp only [Act.put, List.setIfInBounds_toArray, List.set_cons_zero, List.set_cons_succ]
          refine wpAnyH_ready (rs := [24, 27]) (by kernel_rfl) (by simp) ?_
          refine AllReadyH.cons (o := ⟨some 87, _, _, _, _, _⟩) rfl (fun K hK => ?_) (AllReadyH.cons (o := ⟨some 90, _, _, _, _, _⟩) rfl (fun K hK => ?_) (AllReadyH.nil))
          ·
            go_simp
            refine (of2At ⟨#[120]⟩ ⟨#[49]⟩ g23 _ D23.out).mono ?_
            rintro e wn ⟨A24, c24, rfl, hr, hk⟩
            clear D23
            replace R22 := Lib.hid (rd_kept hk R22.out)
            have R24 := Lib.hid hr
            have hHn : w0.grownBy wn none := grown_new hHeld (grown_kept hk none) (fun k e => by cases e)
            refine hK.out _ _ hHn (fun _ => ?_)
            replace hHeld := hHn
            clear hHn hk hr
            obtain ⟨wc, rfl⟩ : ∃ x, x = wn := ⟨_, rfl⟩
            clear hK K
            try simp only [Act.put, List.setIfInBounds_toArray, List.set_cons_zero, List.set_cons_succ]
            refine wpAnyH_ready (rs := [27]) (by kernel_rfl) (by simp) ?_
            refine AllReadyH.cons (o := ⟨some 90, _, _, _, _, _⟩) rfl (fun K hK => ?_) (AllReadyH.nil)
            go_simp
            obtain ⟨wn, hwn, hd, hk, hlt⟩ := new_row wc #[.string ⟨#[120]⟩, .string s, .string s, .string ⟨#[49]⟩] 9
            obtain ⟨g27, hg⟩ : ∃ g, g = wc.heap.size := ⟨_, rfl⟩
            rw [← hwn, ← hg]
            rw [← hg] at hd
            replace R22 := Lib.hid (rd_kept hk R22.out)
            replace R24 := Lib.hid (rd_kept hk R24.out)
            have D27 := Lib.hid hd
            have hHn : w0.grownBy wn none := grown_new hHeld (grown_kept hk none) (fun k e => by cases e)
            refine hK.out _ _ hHn (fun _ => ?_)
            replace hHeld := hHn
            clear hHn hk hwn hd hg hlt
            obtain ⟨wc, rfl⟩ : ∃ x, x = wn := ⟨_, rfl⟩
            clear hK K
            try simp only [Act.put, List.setIfInBounds_toArray, List.set_cons_zero, List.set_cons_succ]
            refine wpAnyH_ready (rs := [28]) (by kernel_rfl) (by simp) ?_
            refine AllReadyH.cons (o := ⟨some 91, _, _, _, _, _⟩) rfl (fun K hK => ?_) (AllReadyH.nil)
            go_simp
            refine (of4At ⟨#[120]⟩ s s ⟨#[49]⟩ g27 _ D27.out).mono ?_
            rintro e wn ⟨A28, c28, rfl, hr, hk⟩
            clear D27
            replace R22 := Lib.hid (rd_kept hk R22.out)
            replace R24 := Lib.hid (rd_kept hk R24.out)
            have R28 := Lib.hid hr
            have hHn : w0.grownBy wn none := grown_new hHeld (grown_kept hk none) (fun k e => by cases e)
            refine hK.out _ _ hHn (fun _ => ?_)
            replace hHeld := hHn
            clear hHn hk hr
            obtain ⟨wc, rfl⟩ : ∃ x, x = wn := ⟨_, rfl⟩
            clear hK K
            try simp only [Act.put, List.setIfInBounds_toArray, List.set_cons_zero, List.set_cons_succ]
            refine wpAnyH_ready (rs := [29]) (by kernel_rfl) (by simp) ?_
            refine AllReadyH.cons (o := ⟨some 92, _, _, _, _, _⟩) rfl (fun K hK => ?_) (AllReadyH.nil)
            go_simp
            refine (changes_any A22 A24 A28 none c22 c24 c28 0 [(⟨#[120]⟩, s)] [(⟨#[120]⟩, ⟨#[49]⟩)] [(⟨#[120]⟩, s), (s, ⟨#[49]⟩)] [] _ R22.out R24.out R28.out ⟨rfl, fun h => absurd h (by decide)⟩ (HT.out _ hHeld)).mono ?_
            rintro e wn ⟨rfl, hk⟩
            clear R22
            clear R24
            clear R28
            have hHn : w0.grownBy wn none := grown_new hHeld (grown_kept hk none) (fun k e => by cases e)
            refine hK.out _ _ hHn (fun _ => ?_)
            replace hHeld := hHn
            clear hHn hk 
            obtain ⟨wc, rfl⟩ : ∃ x, x = wn := ⟨_, rfl⟩
            clear hK K
            try simp only [Act.put, List.setIfInBounds_toArray, List.set_cons_zero, List.set_cons_succ]
            refine wpAnyH_take (i := 30) (oi := ⟨some 93, _, _, _, _, _⟩) (v := ?_) rfl (by kernel_rfl) (by kernel_rfl) (by kernel_rfl) (fun _ _ _ h => h) (Or.inl ⟨by rfl, ?_⟩) hHeld ?_
            rotate_left
            · (intro w hSw; go_simp; (try with_reducible rfl))
            try simp only [Act.put, List.setIfInBounds_toArray, List.set_cons_zero, List.set_cons_succ]
            refine wpAnyH_take (i := 31) (oi := ⟨some 94, _, _, _, _, _⟩) (v := ?_) rfl (by kernel_rfl) (by kernel_rfl) (by kernel_rfl) (fun _ _ _ h => h) (Or.inl ⟨by rfl, ?_⟩) hHeld ?_
            rotate_left
            · (intro w hSw; go_simp; (try with_reducible rfl))
            try simp only [Act.put, List.setIfInBounds_toArray, List.set_cons_zero, List.set_cons_succ]
            refine wpAnyH_done (by kernel_rfl) ?_ _
            go_wp2_with fail
            go_meet
            exact ⟨rfl, Hfin.out _ (grown_keptN hHeld)⟩
          ·
            go_simp
            obtain ⟨wn, hwn, hd, hk, hlt⟩ := new_row wc #[.string ⟨#[120]⟩, .string s, .string s, .string ⟨#[49]⟩] 9
            obtain ⟨g27, hg⟩ : ∃ g, g = wc.heap.size := ⟨_, rfl⟩
            rw [← hwn, ← hg]
            rw [← hg] at hd
            replace D23 := Lib.hid (heap_kept hk D23.out)
            replace R22 := Lib.hid (rd_kept hk R22.out)
            have D27 := Lib.hid hd
            have hHn : w0.grownBy wn none := grown_new hHeld (grown_kept hk none) (fun k e => by cases e)
            refine hK.out _ _ hHn (fun _ => ?_)
            replace hHeld := hHn
            clear hHn hk hwn hd hg hlt
            obtain ⟨wc, rfl⟩ : ∃ x, x = wn := ⟨_, rfl⟩
            clear hK K
            try simp only [Act.put, List.setIfInBounds_toArray, List.set_cons_zero, List.set_cons_succ]
            refine wpAnyH_ready (rs := [24]) (by kernel_rfl) (by simp) ?_
            refine AllReadyH.cons (o := ⟨some 87, _, _, _, _, _⟩) rfl (fun K hK => ?_) (AllReadyH.nil)
            go_simp
            refine (of2At ⟨#[120]⟩ ⟨#[49]⟩ g23 _ D23.out).mono ?_
            rintro e wn ⟨A24, c24, rfl, hr, hk⟩
            clear D23
            replace D27 := Lib.hid (heap_kept hk D27.out)
            replace R22 := Lib.hid (rd_kept hk R22.out)
            have R24 := Lib.hid hr
            have hHn : w0.grownBy wn none := grown_new hHeld (grown_kept hk none) (fun k e => by cases e)
            refine hK.out _ _ hHn (fun _ => ?_)
            replace hHeld := hHn
            clear hHn hk hr
            obtain ⟨wc, rfl⟩ : ∃ x, x = wn := ⟨_, rfl⟩
            clear hK K
            try simp only [Act.put, List.setIfInBounds_toArray, List.set_cons_zero, List.set_cons_succ]
            refine wpAnyH_ready (rs := [28]) (by kernel_rfl) (by simp) ?_
            refine AllReadyH.cons (o := ⟨some 91, _, _, _, _, _⟩) rfl (fun K hK => ?_) (AllReadyH.nil)
            go_simp
            refine (of4At ⟨#[120]⟩ s s ⟨#[49]⟩ g27 _ D27.out).mono ?_
            rintro e wn ⟨A28, c28, rfl, hr, hk⟩
            clear D27
            replace R22 := Lib.hid (rd_kept hk R22.out)
            replace R24 := Lib.hid (rd_kept hk R24.out)
            have R28 := Lib.hid hr
            have hHn : w0.grownBy wn none := grown_new hHeld (grown_kept hk none) (fun k e => by cases e)
            refine hK.out _ _ hHn (fun _ => ?_)
            replace hHeld := hHn
            clear hHn hk hr
            obtain ⟨wc, rfl⟩ : ∃ x, x = wn := ⟨_, rfl⟩
            clear hK K
            try simp only [Act.put, List.setIfInBounds_toArray, List.set_cons_zero, List.set_cons_succ]
            refine wpAnyH_ready (rs := [29]) (by kernel_rfl) (by simp) ?_
            refine AllReadyH.cons (o := ⟨some 92, _, _, _, _, _⟩) rfl (fun K hK => ?_) (AllReadyH.nil)
            go_simp
            refine (changes_any A22 A24 A28 none c22 c24 c28 0 [(⟨#[120]⟩, s)] [(⟨#[120]⟩, ⟨#[49]⟩)] [(⟨#[120]⟩, s), (s, ⟨#[49]⟩)] [] _ R22.out R24.out R28.out ⟨rfl, fun h => absurd h (by decide)⟩ (HT.out _ hHeld)).mono ?_
            rintro e wn ⟨rfl, hk⟩
            clear R22
            clear R24
            clear R28
            have hHn : w0.grownBy wn none := grown_new hHeld (grown_kept hk none) (fun k e => by cases e)
            refine hK.out _ _ hHn (fun _ => ?_)
            replace hHeld := hHn
            clear hHn hk 
            obtain ⟨wc, rfl⟩ : ∃ x, x = wn := ⟨_, rfl⟩
            clear hK K
            try simp only [Act.put, List.setIfInBounds_toArray, List.set_cons_zero, List.set_cons_succ]
            refine wpAnyH_take (i := 30) (oi := ⟨some 93, _, _, _, _, _⟩) (v := ?_) rfl (by kernel_rfl) (by kernel_rfl) (by kernel_rfl) (fun _ _ _ h => h) (Or.inl ⟨by rfl, ?_⟩) hHeld ?_
            rotate_left
            · (intro w hSw; go_simp; (try with_reducible rfl))
            try simp only [Act.put, List.setIfInBounds_toArray, List.set_cons_zero, List.set_cons_succ]
            refine wpAnyH_take (i := 31) (oi := ⟨some 94, _, _, _, _, _⟩) (v := ?_) rfl (by kernel_rfl) (by kernel_rfl) (by kernel_rfl) (fun _ _ _ h => h) (Or.inl ⟨by rfl, ?_⟩) hHeld ?_
            rotate_left
            · (intro w hSw; go_simp; (try with_reducible rfl))
            try simp only [Act.put, List.setIfInBounds_toArray, List.set_cons_zero, List.set_cons_succ]
            refine wpAnyH_done (by kernel_rfl) ?_ _
            go_wp2_with fail
            go_meet
            exact ⟨rfl, Hfin.out _ (grown_keptN hHeld)⟩
        ·
          go_simp
          obtain ⟨wn, hwn, hd, hk, hlt⟩ := new_row wc #[.string ⟨#[120]⟩, .string s, .string s, .string ⟨#[49]⟩] 9
          obtain ⟨g27, hg⟩ : ∃ g, g = wc.heap.size := ⟨_, rfl⟩
          rw [← hwn, ← hg]
          rw [← hg] at hd
          replace D21 := Lib.hid (heap_kept hk D21.out)
          replace D23 := Lib.hid (heap_kept hk D23.out)
          have D27 := Lib.hid hd
          have hHn : w0.grownBy wn none := grown_new hHeld (grown_kept hk none) (fun k e => by cases e)
          refine hK.out _ _ hHn (fun _ => ?_)
          replace hHeld := hHn
          clear hHn hk hwn hd hg hlt
          obtain ⟨wc, rfl⟩ : ∃ x, x = wn := ⟨_, rfl⟩
          clear hK K
          try simp only [Act.put, List.setIfInBounds_toArray, List.set_cons_zero, List.set_cons_succ]
          refine wpAnyH_ready (rs := [22]) (by kernel_rfl) (by simp) ?_
          refine AllReadyH.cons (o := ⟨some 85, _, _, _, _, _⟩) rfl (fun K hK => ?_) (AllReadyH.nil)
          go_simp
          refine (of2At ⟨#[120]⟩ s g21 _ D21.out).mono ?_
          rintro e wn ⟨A22, c22, rfl, hr, hk⟩
          clear D21
          replace D23 := Lib.hid (heap_kept hk D23.out)
          replace D27 := Lib.hid (heap_kept hk D27.out)
          have R22 := Lib.hid hr
          have hHn : w0.grownBy wn none := grown_new hHeld (grown_kept hk none) (fun k e => by cases e)
          refine hK.out _ _ hHn (fun _ => ?_)
          replace hHeld := hHn
          clear hHn hk hr
          obtain ⟨wc, rfl⟩ : ∃ x, x = wn := ⟨_, rfl⟩
          clear hK K
          try simp only [Act.put, List.setIfInBounds_toArray, List.set_cons_zero, List.set_cons_succ]
          refine wpAnyH_ready (rs := [24]) (by kernel_rfl) (by simp) ?_
          refine AllReadyH.cons (o := ⟨some 87, _, _, _, _, _⟩) rfl (fun K hK => ?_) (AllReadyH.nil)
          go_simp
          refine (of2At ⟨#[120]⟩ ⟨#[49]⟩ g23 _ D23.out).mono ?_
          rintro e wn ⟨A24, c24, rfl, hr, hk⟩
          clear D23
          replace D27 := Lib.hid (heap_kept hk D27.out)
          replace R22 := Lib.hid (rd_kept hk R22.out)
          have R24 := Lib.hid hr
          have hHn : w0.grownBy wn none := grown_new hHeld (grown_kept hk none) (fun k e => by cases e)
          refine hK.out _ _ hHn (fun _ => ?_)
          replace hHeld := hHn
          clear hHn hk hr
          obtain ⟨wc, rfl⟩ : ∃ x, x = wn := ⟨_, rfl⟩
          clear hK K
          try simp only [Act.put, List.setIfInBounds_toArray, List.set_cons_zero, List.set_cons_succ]
          refine wpAnyH_ready (rs := [28]) (by kernel_rfl) (by simp) ?_
          refine AllReadyH.cons (o := ⟨some 91, _, _, _, _, _⟩) rfl (fun K hK => ?_) (AllReadyH.nil)
          go_simp
          refine (of4At ⟨#[120]⟩ s s ⟨#[49]⟩ g27 _ D27.out).mono ?_
          rintro e wn ⟨A28, c28, rfl, hr, hk⟩
          clear D27
          replace R22 := Lib.hid (rd_kept hk R22.out)
          replace R24 := Lib.hid (rd_kept hk R24.out)
          have R28 := Lib.hid hr
          have hHn : w0.grownBy wn none := grown_new hHeld (grown_kept hk none) (fun k e => by cases e)
          refine hK.out _ _ hHn (fun _ => ?_)
          replace hHeld := hHn
          clear hHn hk hr
          obtain ⟨wc, rfl⟩ : ∃ x, x = wn := ⟨_, rfl⟩
          clear hK K
          try simp only [Act.put, List.setIfInBounds_toArray, List.set_cons_zero, List.set_cons_succ]
          refine wpAnyH_ready (rs := [29]) (by kernel_rfl) (by simp) ?_
          refine AllReadyH.cons (o := ⟨some 92, _, _, _, _, _⟩) rfl (fun K hK => ?_) (AllReadyH.nil)
          go_simp
          refine (changes_any A22 A24 A28 none c22 c24 c28 0 [(⟨#[120]⟩, s)] [(⟨#[120]⟩, ⟨#[49]⟩)] [(⟨#[120]⟩, s), (s, ⟨#[49]⟩)] [] _ R22.out R24.out R28.out ⟨rfl, fun h => absurd h (by decide)⟩ (HT.out _ hHeld)).mono ?_
          rintro e wn ⟨rfl, hk⟩
          clear R22
          clear R24
          clear R28
          have hHn : w0.grownBy wn none := grown_new hHeld (grown_kept hk none) (fun k e => by cases e)
          refine hK.out _ _ hHn (fun _ => ?_)
          replace hHeld := hHn
          clear hHn hk 
          obtain ⟨wc, rfl⟩ : ∃ x, x = wn := ⟨_, rfl⟩
          clear hK K
          try simp only [Act.put, List.setIfInBounds_toArray, List.set_cons_zero, List.set_cons_succ]
          refine wpAnyH_take (i := 30) (oi := ⟨some 93, _, _, _, _, _⟩) (v := ?_) rfl (by kernel_rfl) (by kernel_rfl) (by kernel_rfl) (fun _ _ _ h => h) (Or.inl ⟨by rfl, ?_⟩) hHeld ?_
          rotate_left
          · (intro w hSw; go_simp; (try with_reducible rfl))
          try simp only [Act.put, List.setIfInBounds_toArray, List.set_cons_zero, List.set_cons_succ]
          refine wpAnyH_take (i := 31) (oi := ⟨some 94, _, _, _, _, _⟩) (v := ?_) rfl (by kernel_rfl) (by kernel_rfl) (by kernel_rfl) (fun _ _ _ h => h) (Or.inl ⟨by rfl, ?_⟩) hHeld ?_
          rotate_left
          · (intro w hSw; go_simp; (try with_reducible rfl))
          try simp only [Act.put, List.setIfInBounds_toArray, List.set_cons_zero, List.set_cons_succ]
          refine wpAnyH_done (by kernel_rfl) ?_ _
          go_wp2_with fail
          go_meet
          exact ⟨rfl, Hfin.out _ (grown_keptN hHeld)⟩
      ·
        go_simp
        obtain ⟨wn, hwn, hd, hk, hlt⟩ := new_row wc #[.string ⟨#[120]⟩, .string s, .string s, .string ⟨#[49]⟩] 9
        obtain ⟨g27, hg⟩ : ∃ g, g = wc.heap.size := ⟨_, rfl⟩
        rw [← hwn, ← hg]
        rw [← hg] at hd
        replace D21 := Lib.hid (heap_kept hk D21.out)
        have D27 := Lib.hid hd
        have hHn : w0.grownBy wn none := grown_new hHeld (grown_kept hk none) (fun k e => by cases e)
        refine hK.out _ _ hHn (fun _ => ?_)
        replace hHeld := hHn
        clear hHn hk hwn hd hg hlt
        obtain ⟨wc, rfl⟩ : ∃ x, x = wn := ⟨_, rfl⟩
        clear hK K
        try simp only [Act.put, List.setIfInBounds_toArray, List.set_cons_zero, List.set_cons_succ]
        refine wpAnyH_ready (rs := [22, 23]) (by kernel_rfl) (by simp) ?_
        refine AllReadyH.cons (o := ⟨some 85, _, _, _, _, _⟩) rfl (fun K hK => ?_) (AllReadyH.cons (o := ⟨some 86, _, _, _, _, _⟩) rfl (fun K hK => ?_) (AllReadyH.nil))
        ·
          go_simp
          refine (of2At ⟨#[120]⟩ s g21 _ D21.out).mono ?_
          rintro e wn ⟨A22, c22, rfl, hr, hk⟩
          clear D21
          replace D27 := Lib.hid (heap_kept hk D27.out)
          have R22 := Lib.hid hr
          have hHn : w0.grownBy wn none := grown_new hHeld (grown_kept hk none) (fun k e => by cases e)
          refine hK.out _ _ hHn (fun _ => ?_)
          replace hHeld := hHn
          clear hHn hk hr
          obtain ⟨wc, rfl⟩ : ∃ x, x = wn := ⟨_, rfl⟩
          clear hK K
          try simp only [Act.put, List.setIfInBounds_toArray, List.set_cons_zero, List.set_cons_succ]
          refine wpAnyH_ready (rs := [23]) (by kernel_rfl) (by simp) ?_
          refine AllReadyH.cons (o := ⟨some 86, _, _, _, _, _⟩) rfl (fun K hK => ?_) (AllReadyH.nil)
          go_simp
          obtain ⟨wn, hwn, hd, hk, hlt⟩ := new_row wc #[.string ⟨#[120]⟩, .string ⟨#[49]⟩] 9
          obtain ⟨g23, hg⟩ : ∃ g, g = wc.heap.size := ⟨_, rfl⟩
          rw [← hwn, ← hg]
          rw [← hg] at hd
          replace D27 := Lib.hid (heap_kept hk D27.out)
          replace R22 := Lib.hid (rd_kept hk R22.out)
          have D23 := Lib.hid hd
          have hHn : w0.grownBy wn none := grown_new hHeld (grown_kept hk none) (fun k e => by cases e)
          refine hK.out _ _ hHn (fun _ => ?_)
          replace hHeld := hHn
          clear hHn hk hwn hd hg hlt
          obtain ⟨wc, rfl⟩ : ∃ x, x = wn := ⟨_, rfl⟩
          clear hK K
          try simp only [Act.put, List.setIfInBounds_toArray, List.set_cons_zero, List.set_cons_succ]
          refine wpAnyH_ready (rs := [24]) (by kernel_rfl) (by simp) ?_
          refine AllReadyH.cons (o := ⟨some 87, _, _, _, _, _⟩) rfl (fun K hK => ?_) (AllReadyH.nil)
          go_simp
          refine (of2At ⟨#[120]⟩ ⟨#[49]⟩ g23 _ D23.out).mono ?_
          rintro e wn ⟨A24, c24, rfl, hr, hk⟩
          clear D23
          replace D27 := Lib.hid (heap_kept hk D27.out)
          replace R22 := Lib.hid (rd_kept hk R22.out)
          have R24 := Lib.hid hr
          have hHn : w0.grownBy wn none := grown_new hHeld (grown_kept hk none) (fun k e => by cases e)
          refine hK.out _ _ hHn (fun _ => ?_)
          replace hHeld := hHn
          clear hHn hk hr
          obtain ⟨wc, rfl⟩ : ∃ x, x = wn := ⟨_, rfl⟩
          clear hK K
          try simp only [Act.put, List.setIfInBounds_toArray, List.set_cons_zero, List.set_cons_succ]
          refine wpAnyH_ready (rs := [28]) (by kernel_rfl) (by simp) ?_
          refine AllReadyH.cons (o := ⟨some 91, _, _, _, _, _⟩) rfl (fun K hK => ?_) (AllReadyH.nil)
          go_simp
          refine (of4At ⟨#[120]⟩ s s ⟨#[49]⟩ g27 _ D27.out).mono ?_
          rintro e wn ⟨A28, c28, rfl, hr, hk⟩
          clear D27
          replace R22 := Lib.hid (rd_kept hk R22.out)
          replace R24 := Lib.hid (rd_kept hk R24.out)
          have R28 := Lib.hid hr
          have hHn : w0.grownBy wn none := grown_new hHeld (grown_kept hk none) (fun k e => by cases e)
          refine hK.out _ _ hHn (fun _ => ?_)
          replace hHeld := hHn
          clear hHn hk hr
          obtain ⟨wc, rfl⟩ : ∃ x, x = wn := ⟨_, rfl⟩
          clear hK K
          try simp only [Act.put, List.setIfInBounds_toArray, List.set_cons_zero, List.set_cons_succ]
          refine wpAnyH_ready (rs := [29]) (by kernel_rfl) (by simp) ?_
          refine AllReadyH.cons (o := ⟨some 92, _, _, _, _, _⟩) rfl (fun K hK => ?_) (AllReadyH.nil)
          go_simp
          refine (changes_any A22 A24 A28 none c22 c24 c28 0 [(⟨#[120]⟩, s)] [(⟨#[120]⟩, ⟨#[49]⟩)] [(⟨#[120]⟩, s), (s, ⟨#[49]⟩)] [] _ R22.out R24.out R28.out ⟨rfl, fun h => absurd h (by decide)⟩ (HT.out _ hHeld)).mono ?_
          rintro e wn ⟨rfl, hk⟩
          clear R22
          clear R24
          clear R28
          have hHn : w0.grownBy wn none := grown_new hHeld (grown_kept hk none) (fun k e => by cases e)
          refine hK.out _ _ hHn (fun _ => ?_)
          replace hHeld := hHn
          clear hHn hk 
          obtain ⟨wc, rfl⟩ : ∃ x, x = wn := ⟨_, rfl⟩
          clear hK K
          try simp only [Act.put, List.setIfInBounds_toArray, List.set_cons_zero, List.set_cons_succ]
          refine wpAnyH_take (i := 30) (oi := ⟨some 93, _, _, _, _, _⟩) (v := ?_) rfl (by kernel_rfl) (by kernel_rfl) (by kernel_rfl) (fun _ _ _ h => h) (Or.inl ⟨by rfl, ?_⟩) hHeld ?_
          rotate_left
          · (intro w hSw; go_simp; (try with_reducible rfl))
          try simp only [Act.put, List.setIfInBounds_toArray, List.set_cons_zero, List.set_cons_succ]
          refine wpAnyH_take (i := 31) (oi := ⟨some 94, _, _, _, _, _⟩) (v := ?_) rfl (by kernel_rfl) (by kernel_rfl) (by kernel_rfl) (fun _ _ _ h => h) (Or.inl ⟨by rfl, ?_⟩) hHeld ?_
          rotate_left
          · (intro w hSw; go_simp; (try with_reducible rfl))
          try simp only [Act.put, List.setIfInBounds_toArray, List.set_cons_zero, List.set_cons_succ]
          refine wpAnyH_done (by kernel_rfl) ?_ _
          go_wp2_with fail
          go_meet
          exact ⟨rfl, Hfin.out _ (grown_keptN hHeld)⟩
        ·
          go_simp
          obtain ⟨wn, hwn, hd, hk, hlt⟩ := new_row wc #[.string ⟨#[120]⟩, .string ⟨#[49]⟩] 9
          obtain ⟨g23, hg⟩ : ∃ g, g = wc.heap.size := ⟨_, rfl⟩
          rw [← hwn, ← hg]
          rw [← hg] at hd
          replace D21 := Lib.hid (heap_kept hk D21.out)
          replace D27 := Lib.hid (heap_kept hk D27.out)
          have D23 := Lib.hid hd
          have hHn : w0.grownBy wn none := grown_new hHeld (grown_kept hk none) (fun k e => by cases e)
          refine hK.out _ _ hHn (fun _ => ?_)
          replace hHeld := hHn
          clear hHn hk hwn hd hg hlt
          obtain ⟨wc, rfl⟩ : ∃ x, x = wn := ⟨_, rfl⟩
          clear hK K
          try simp only [Act.put, List.setIfInBounds_toArray, List.set_cons_zero, List.set_cons_succ]
          refine wpAnyH_ready (rs := [22]) (by kernel_rfl) (by simp) ?_
          refine AllReadyH.cons (o := ⟨some 85, _, _, _, _, _⟩) rfl (fun K hK => ?_) (AllReadyH.nil)
          go_simp
          refine (of2At ⟨#[120]⟩ s g21 _ D21.out).mono ?_
          rintro e wn ⟨A22, c22, rfl, hr, hk⟩
          clear D21
          replace D27 := Lib.hid (heap_kept hk D27.out)
          replace D23 := Lib.hid (heap_kept hk D23.out)
          have R22 := Lib.hid hr
          have hHn : w0.grownBy wn none := grown_new hHeld (grown_kept hk none) (fun k e => by cases e)
          refine hK.out _ _ hHn (fun _ => ?_)
          replace hHeld := hHn
          clear hHn hk hr
          obtain ⟨wc, rfl⟩ : ∃ x, x = wn := ⟨_, rfl⟩
          clear hK K
          try simp only [Act.put, List.setIfInBounds_toArray, List.set_cons_zero, List.set_cons_succ]
          refine wpAnyH_ready (rs := [24]) (by kernel_rfl) (by simp) ?_
          refine AllReadyH.cons (o := ⟨some 87, _, _, _, _, _⟩) rfl (fun K hK => ?_) (AllReadyH.nil)
          go_simp
          refine (of2At ⟨#[120]⟩ ⟨#[49]⟩ g23 _ D23.out).mono ?_
          rintro e wn ⟨A24, c24, rfl, hr, hk⟩
          clear D23
          replace D27 := Lib.hid (heap_kept hk D27.out)
          replace R22 := Lib.hid (rd_kept hk R22.out)
          have R24 := Lib.hid hr
          have hHn : w0.grownBy wn none := grown_new hHeld (grown_kept hk none) (fun k e => by cases e)
          refine hK.out _ _ hHn (fun _ => ?_)
          replace hHeld := hHn
          clear hHn hk hr
          obtain ⟨wc, rfl⟩ : ∃ x, x = wn := ⟨_, rfl⟩
          clear hK K
          try simp only [Act.put, List.setIfInBounds_toArray, List.set_cons_zero, List.set_cons_succ]
          refine wpAnyH_ready (rs := [28]) (by kernel_rfl) (by simp) ?_
          refine AllReadyH.cons (o := ⟨some 91, _, _, _, _, _⟩) rfl (fun K hK => ?_) (AllReadyH.nil)
          go_simp
          refine (of4At ⟨#[120]⟩ s s ⟨#[49]⟩ g27 _ D27.out).mono ?_
          rintro e wn ⟨A28, c28, rfl, hr, hk⟩
          clear D27
          replace R22 := Lib.hid (rd_kept hk R22.out)
          replace R24 := Lib.hid (rd_kept hk R24.out)
          have R28 := Lib.hid hr
          have hHn : w0.grownBy wn none := grown_new hHeld (grown_kept hk none) (fun k e => by cases e)
          refine hK.out _ _ hHn (fun _ => ?_)
          replace hHeld := hHn
          clear hHn hk hr
          obtain ⟨wc, rfl⟩ : ∃ x, x = wn := ⟨_, rfl⟩
          clear hK K
          try simp only [Act.put, List.setIfInBounds_toArray, List.set_cons_zero, List.set_cons_succ]
          refine wpAnyH_ready (rs := [29]) (by kernel_rfl) (by simp) ?_
          refine AllReadyH.cons (o := ⟨some 92, _, _, _, _, _⟩) rfl (fun K hK => ?_) (AllReadyH.nil)
          go_simp
          refine (changes_any A22 A24 A28 none c22 c24 c28 0 [(⟨#[120]⟩, s)] [(⟨#[120]⟩, ⟨#[49]⟩)] [(⟨#[120]⟩, s), (s, ⟨#[49]⟩)] [] _ R22.out R24.out R28.out ⟨rfl, fun h => absurd h (by decide)⟩ (HT.out _ hHeld)).mono ?_
          rintro e wn ⟨rfl, hk⟩
          clear R22
          clear R24
          clear R28
          have hHn : w0.grownBy wn none := grown_new hHeld (grown_kept hk none) (fun k e => by cases e)
          refine hK.out _ _ hHn (fun _ => ?_)
          replace hHeld := hHn
          clear hHn hk 
          obtain ⟨wc, rfl⟩ : ∃ x, x = wn := ⟨_, rfl⟩
          clear hK K
          try simp only [Act.put, List.setIfInBounds_toArray, List.set_cons_zero, List.set_cons_succ]
          refine wpAnyH_take (i := 30) (oi := ⟨some 93, _, _, _, _, _⟩) (v := ?_) rfl (by kernel_rfl) (by kernel_rfl) (by kernel_rfl) (fun _ _ _ h => h) (Or.inl ⟨by rfl, ?_⟩) hHeld ?_
          rotate_left
          · (intro w hSw; go_simp; (try with_reducible rfl))
          try simp only [Act.put, List.setIfInBounds_toArray, List.set_cons_zero, List.set_cons_succ]
          refine wpAnyH_take (i := 31) (oi := ⟨some 94, _, _, _, _, _⟩) (v := ?_) rfl (by kernel_rfl) (by kernel_rfl) (by kernel_rfl) (fun _ _ _ h => h) (Or.inl ⟨by rfl, ?_⟩) hHeld ?_
          rotate_left
          · (intro w hSw; go_simp; (try with_reducible rfl))
          try simp only [Act.put, List.setIfInBounds_toArray, List.set_cons_zero, List.set_cons_succ]
          refine wpAnyH_done (by kernel_rfl) ?_ _
          go_wp2_with fail
          go_meet
          exact ⟨rfl, Hfin.out _ (grown_keptN hHeld)⟩
    ·
      go_simp
      obtain ⟨wn, hwn, hd, hk, hlt⟩ := new_row wc #[.string ⟨#[120]⟩, .string ⟨#[49]⟩] 9
      obtain ⟨g23, hg⟩ : ∃ g, g = wc.heap.size := ⟨_, rfl⟩
      rw [← hwn, ← hg]
      rw [← hg] at hd
      have D23 := Lib.hid hd
      have hHn : w0.grownBy wn none := grown_new hHeld (grown_kept hk none) (fun k e => by cases e)
      refine hK.out _ _ hHn (fun _ => ?_)
      replace hHeld := hHn
      clear hHn hk hwn hd hg hlt
      obtain ⟨wc, rfl⟩ : ∃ x, x = wn := ⟨_, rfl⟩
      clear hK K
      try simp only [Act.put, List.setIfInBounds_toArray, List.set_cons_zero, List.set_cons_succ]
      refine wpAnyH_ready (rs := [21, 27]) (by kernel_rfl) (by simp) ?_
      refine AllReadyH.cons (o := ⟨some 84, _, _, _, _, _⟩) rfl (fun K hK => ?_) (AllReadyH.cons (o := ⟨some 90, _, _, _, _, _⟩) rfl (fun K hK => ?_) (AllReadyH.nil))
      ·
        go_simp
        obtain ⟨wn, hwn, hd, hk, hlt⟩ := new_row wc #[.string ⟨#[120]⟩, .string s] 9
        obtain ⟨g21, hg⟩ : ∃ g, g = wc.heap.size := ⟨_, rfl⟩
        rw [← hwn, ← hg]
        rw [← hg] at hd
        replace D23 := Lib.hid (heap_kept hk D23.out)
        have D21 := Lib.hid hd
        have hHn : w0.grownBy wn none := grown_new hHeld (grown_kept hk none) (fun k e => by cases e)
        refine hK.out _ _ hHn (fun _ => ?_)
        replace hHeld := hHn
        clear hHn hk hwn hd hg hlt
        obtain ⟨wc, rfl⟩ : ∃ x, x = wn := ⟨_, rfl⟩
        clear hK K
        try simp only [Act.put, List.setIfInBounds_toArray, List.set_cons_zero, List.set_cons_succ]
        refine wpAnyH_ready (rs := [22, 27]) (by kernel_rfl) (by simp) ?_
        refine AllReadyH.cons (o := ⟨some 85, _, _, _, _, _⟩) rfl (fun K hK => ?_) (AllReadyH.cons (o := ⟨some 90, _, _, _, _, _⟩) rfl (fun K hK => ?_) (AllReadyH.nil))
        ·
          go_simp
          refine (of2At ⟨#[120]⟩ s g21 _ D21.out).mono ?_
          rintro e wn ⟨A22, c22, rfl, hr, hk⟩
          clear D21
          replace D23 := Lib.hid (heap_kept hk D23.out)
          have R22 := Lib.hid hr
          have hHn : w0.grownBy wn none := grown_new hHeld (grown_kept hk none) (fun k e => by cases e)
          refine hK.out _ _ hHn (fun _ => ?_)
          replace hHeld := hHn
          clear hHn hk hr
          obtain ⟨wc, rfl⟩ : ∃ x, x = wn := ⟨_, rfl⟩
          clear hK K
          try simp only [Act.put, List.setIfInBounds_toArray, List.set_cons_zero, List.set_cons_succ]
          refine wpAnyH_ready (rs := [24, 27]) (by kernel_rfl) (by simp) ?_
          refine AllReadyH.cons (o := ⟨some 87, _, _, _, _, _⟩) rfl (fun K hK => ?_) (AllReadyH.cons (o := ⟨some 90, _, _, _, _, _⟩) rfl (fun K hK => ?_) (AllReadyH.nil))
          ·
            go_simp
            refine (of2At ⟨#[120]⟩ ⟨#[49]⟩ g23 _ D23.out).mono ?_
            rintro e wn ⟨A24, c24, rfl, hr, hk⟩
            clear D23
            replace R22 := Lib.hid (rd_kept hk R22.out)
            have R24 := Lib.hid hr
            have hHn : w0.grownBy wn none := grown_new hHeld (grown_kept hk none) (fun k e => by cases e)
            refine hK.out _ _ hHn (fun _ => ?_)
            replace hHeld := hHn
            clear hHn hk hr
            obtain ⟨wc, rfl⟩ : ∃ x, x = wn := ⟨_, rfl⟩
            clear hK K
            try simp only [Act.put, List.setIfInBounds_toArray, List.set_cons_zero, List.set_cons_succ]
            refine wpAnyH_ready (rs := [27]) (by kernel_rfl) (by simp) ?_
            refine AllReadyH.cons (o := ⟨some 90, _, _, _, _, _⟩) rfl (fun K hK => ?_) (AllReadyH.nil)
            go_simp
            obtain ⟨wn, hwn, hd, hk, hlt⟩ := new_row wc #[.string ⟨#[120]⟩, .string s, .string s, .string ⟨#[49]⟩] 9
            obtain ⟨g27, hg⟩ : ∃ g, g = wc.heap.size := ⟨_, rfl⟩
            rw [← hwn, ← hg]
            rw [← hg] at hd
            replace R22 := Lib.hid (rd_kept hk R22.out)
            replace R24 := Lib.hid (rd_kept hk R24.out)
            have D27 := Lib.hid hd
            have hHn : w0.grownBy wn none := grown_new hHeld (grown_kept hk none) (fun k e => by cases e)
            refine hK.out _ _ hHn (fun _ => ?_)
            replace hHeld := hHn
            clear hHn hk hwn hd hg hlt
            obtain ⟨wc, rfl⟩ : ∃ x, x = wn := ⟨_, rfl⟩
            clear hK K
            try simp only [Act.put, List.setIfInBounds_toArray, List.set_cons_zero, List.set_cons_succ]
            refine wpAnyH_ready (rs := [28]) (by kernel_rfl) (by simp) ?_
            refine AllReadyH.cons (o := ⟨some 91, _, _, _, _, _⟩) rfl (fun K hK => ?_) (AllReadyH.nil)
            go_simp
            refine (of4At ⟨#[120]⟩ s s ⟨#[49]⟩ g27 _ D27.out).mono ?_
            rintro e wn ⟨A28, c28, rfl, hr, hk⟩
            clear D27
            replace R22 := Lib.hid (rd_kept hk R22.out)
            replace R24 := Lib.hid (rd_kept hk R24.out)
            have R28 := Lib.hid hr
            have hHn : w0.grownBy wn none := grown_new hHeld (grown_kept hk none) (fun k e => by cases e)
            refine hK.out _ _ hHn (fun _ => ?_)
            replace hHeld := hHn
            clear hHn hk hr
            obtain ⟨wc, rfl⟩ : ∃ x, x = wn := ⟨_, rfl⟩
            clear hK K
            try simp only [Act.put, List.setIfInBounds_toArray, List.set_cons_zero, List.set_cons_succ]
            refine wpAnyH_ready (rs := [29]) (by kernel_rfl) (by simp) ?_
            refine AllReadyH.cons (o := ⟨some 92, _, _, _, _, _⟩) rfl (fun K hK => ?_) (AllReadyH.nil)
            go_simp
            refine (changes_any A22 A24 A28 none c22 c24 c28 0 [(⟨#[120]⟩, s)] [(⟨#[120]⟩, ⟨#[49]⟩)] [(⟨#[120]⟩, s), (s, ⟨#[49]⟩)] [] _ R22.out R24.out R28.out ⟨rfl, fun h => absurd h (by decide)⟩ (HT.out _ hHeld)).mono ?_
            rintro e wn ⟨rfl, hk⟩
            clear R22
            clear R24
            clear R28
            have hHn : w0.grownBy wn none := grown_new hHeld (grown_kept hk none) (fun k e => by cases e)
            refine hK.out _ _ hHn (fun _ => ?_)
            replace hHeld := hHn
            clear hHn hk 
            obtain ⟨wc, rfl⟩ : ∃ x, x = wn := ⟨_, rfl⟩
            clear hK K
            try simp only [Act.put, List.setIfInBounds_toArray, List.set_cons_zero, List.set_cons_succ]
            refine wpAnyH_take (i := 30) (oi := ⟨some 93, _, _, _, _, _⟩) (v := ?_) rfl (by kernel_rfl) (by kernel_rfl) (by kernel_rfl) (fun _ _ _ h => h) (Or.inl ⟨by rfl, ?_⟩) hHeld ?_
            rotate_left
            · (intro w hSw; go_simp; (try with_reducible rfl))
            try simp only [Act.put, List.setIfInBounds_toArray, List.set_cons_zero, List.set_cons_succ]
            refine wpAnyH_take (i := 31) (oi := ⟨some 94, _, _, _, _, _⟩) (v := ?_) rfl (by kernel_rfl) (by kernel_rfl) (by kernel_rfl) (fun _ _ _ h => h) (Or.inl ⟨by rfl, ?_⟩) hHeld ?_
            rotate_left
            · (intro w hSw; go_simp; (try with_reducible rfl))
            try simp only [Act.put, List.setIfInBounds_toArray, List.set_cons_zero, List.set_cons_succ]
            refine wpAnyH_done (by kernel_rfl) ?_ _
            go_wp2_with fail
            go_meet
            exact ⟨rfl, Hfin.out _ (grown_keptN hHeld)⟩
          ·
            go_simp
            obtain ⟨wn, hwn, hd, hk, hlt⟩ := new_row wc #[.string ⟨#[120]⟩, .string s, .string s, .string ⟨#[49]⟩] 9
            obtain ⟨g27, hg⟩ : ∃ g, g = wc.heap.size := ⟨_, rfl⟩
            rw [← hwn, ← hg]
            rw [← hg] at hd
            replace D23 := Lib.hid (heap_kept hk D23.out)
            replace R22 := Lib.hid (rd_kept hk R22.out)
            have D27 := Lib.hid hd
            have hHn : w0.grownBy wn none := grown_new hHeld (grown_kept hk none) (fun k e => by cases e)
            refine hK.out _ _ hHn (fun _ => ?_)
            replace hHeld := hHn
            clear hHn hk hwn hd hg hlt
            obtain ⟨wc, rfl⟩ : ∃ x, x = wn := ⟨_, rfl⟩
            clear hK K
            try simp only [Act.put, List.setIfInBounds_toArray, List.set_cons_zero, List.set_cons_succ]
            refine wpAnyH_ready (rs := [24]) (by kernel_rfl) (by simp) ?_
            refine AllReadyH.cons (o := ⟨some 87, _, _, _, _, _⟩) rfl (fun K hK => ?_) (AllReadyH.nil)
            go_simp
            refine (of2At ⟨#[120]⟩ ⟨#[49]⟩ g23 _ D23.out).mono ?_
            rintro e wn ⟨A24, c24, rfl, hr, hk⟩
            clear D23
            replace D27 := Lib.hid (heap_kept hk D27.out)
            replace R22 := Lib.hid (rd_kept hk R22.out)
            have R24 := Lib.hid hr
            have hHn : w0.grownBy wn none := grown_new hHeld (grown_kept hk none) (fun k e => by cases e)
            refine hK.out _ _ hHn (fun _ => ?_)
            replace hHeld := hHn
            clear hHn hk hr
            obtain ⟨wc, rfl⟩ : ∃ x, x = wn := ⟨_, rfl⟩
            clear hK K
            try simp only [Act.put, List.setIfInBounds_toArray, List.set_cons_zero, List.set_cons_succ]
            refine wpAnyH_ready (rs := [28]) (by kernel_rfl) (by simp) ?_
            refine AllReadyH.cons (o := ⟨some 91, _, _, _, _, _⟩) rfl (fun K hK => ?_) (AllReadyH.nil)
            go_simp
            refine (of4At ⟨#[120]⟩ s s ⟨#[49]⟩ g27 _ D27.out).mono ?_
            rintro e wn ⟨A28, c28, rfl, hr, hk⟩
            clear D27
            replace R22 := Lib.hid (rd_kept hk R22.out)
            replace R24 := Lib.hid (rd_kept hk R24.out)
            have R28 := Lib.hid hr
            have hHn : w0.grownBy wn none := grown_new hHeld (grown_kept hk none) (fun k e => by cases e)
            refine hK.out _ _ hHn (fun _ => ?_)
            replace hHeld := hHn
            clear hHn hk hr
            obtain ⟨wc, rfl⟩ : ∃ x, x = wn := ⟨_, rfl⟩
            clear hK K
            try simp only [Act.put, List.setIfInBounds_toArray, List.set_cons_zero, List.set_cons_succ]
            refine wpAnyH_ready (rs := [29]) (by kernel_rfl) (by simp) ?_
            refine AllReadyH.cons (o := ⟨some 92, _, _, _, _, _⟩) rfl (fun K hK => ?_) (AllReadyH.nil)
            go_simp
            refine (changes_any A22 A24 A28 none c22 c24 c28 0 [(⟨#[120]⟩, s)] [(⟨#[120]⟩, ⟨#[49]⟩)] [(⟨#[120]⟩, s), (s, ⟨#[49]⟩)] [] _ R22.out R24.out R28.out ⟨rfl, fun h => absurd h (by decide)⟩ (HT.out _ hHeld)).mono ?_
            rintro e wn ⟨rfl, hk⟩
            clear R22
            clear R24
            clear R28
            have hHn : w0.grownBy wn none := grown_new hHeld (grown_kept hk none) (fun k e => by cases e)
            refine hK.out _ _ hHn (fun _ => ?_)
            replace hHeld := hHn
            clear hHn hk 
            obtain ⟨wc, rfl⟩ : ∃ x, x = wn := ⟨_, rfl⟩
            clear hK K
            try simp only [Act.put, List.setIfInBounds_toArray, List.set_cons_zero, List.set_cons_succ]
            refine wpAnyH_take (i := 30) (oi := ⟨some 93, _, _, _, _, _⟩) (v := ?_) rfl (by kernel_rfl) (by kernel_rfl) (by kernel_rfl) (fun _ _ _ h => h) (Or.inl ⟨by rfl, ?_⟩) hHeld ?_
            rotate_left
            · (intro w hSw; go_simp; (try with_reducible rfl))
            try simp only [Act.put, List.setIfInBounds_toArray, List.set_cons_zero, List.set_cons_succ]
            refine wpAnyH_take (i := 31) (oi := ⟨some 94, _, _, _, _, _⟩) (v := ?_) rfl (by kernel_rfl) (by kernel_rfl) (by kernel_rfl) (fun _ _ _ h => h) (Or.inl ⟨by rfl, ?_⟩) hHeld ?_
            rotate_left
            · (intro w hSw; go_simp; (try with_reducible rfl))
            try simp only [Act.put, List.setIfInBounds_toArray, List.set_cons_zero, List.set_cons_succ]
            refine wpAnyH_done (by kernel_rfl) ?_ _
            go_wp2_with fail
            go_meet
            exact ⟨rfl, Hfin.out _ (grown_keptN hHeld)⟩
        ·
          go_simp
          obtain ⟨wn, hwn, hd, hk, hlt⟩ := new_row wc #[.string ⟨#[120]⟩, .string s, .string s, .string ⟨#[49]⟩] 9
          obtain ⟨g27, hg⟩ : ∃ g, g = wc.heap.size := ⟨_, rfl⟩
          rw [← hwn, ← hg]
          rw [← hg] at hd
          replace D23 := Lib.hid (heap_kept hk D23.out)
          replace D21 := Lib.hid (heap_kept hk D21.out)
          have D27 := Lib.hid hd
          have hHn : w0.grownBy wn none := grown_new hHeld (grown_kept hk none) (fun k e => by cases e)
          refine hK.out _ _ hHn (fun _ => ?_)
          replace hHeld := hHn
          clear hHn hk hwn hd hg hlt
          obtain ⟨wc, rfl⟩ : ∃ x, x = wn := ⟨_, rfl⟩
          clear hK K
          try simp only [Act.put, List.setIfInBounds_toArray, List.set_cons_zero, List.set_cons_succ]
          refine wpAnyH_ready (rs := [22]) (by kernel_rfl) (by simp) ?_
          refine AllReadyH.cons (o := ⟨some 85, _, _, _, _, _⟩) rfl (fun K hK => ?_) (AllReadyH.nil)
          go_simp
          refine (of2At ⟨#[120]⟩ s g21 _ D21.out).mono ?_
          rintro e wn ⟨A22, c22, rfl, hr, hk⟩
          clear D21
          replace D23 := Lib.hid (heap_kept hk D23.out)
          replace D27 := Lib.hid (heap_kept hk D27.out)
          have R22 := Lib.hid hr
          have hHn : w0.grownBy wn none := grown_new hHeld (grown_kept hk none) (fun k e => by cases e)
          refine hK.out _ _ hHn (fun _ => ?_)
          replace hHeld := hHn
          clear hHn hk hr
          obtain ⟨wc, rfl⟩ : ∃ x, x = wn := ⟨_, rfl⟩
          clear hK K
          try simp only [Act.put, List.setIfInBounds_toArray, List.set_cons_zero, List.set_cons_succ]
          refine wpAnyH_ready (rs := [24]) (by kernel_rfl) (by simp) ?_
          refine AllReadyH.cons (o := ⟨some 87, _, _, _, _, _⟩) rfl (fun K hK => ?_) (AllReadyH.nil)
          go_simp
          refine (of2At ⟨#[120]⟩ ⟨#[49]⟩ g23 _ D23.out).mono ?_
          rintro e wn ⟨A24, c24, rfl, hr, hk⟩
          clear D23
          replace D27 := Lib.hid (heap_kept hk D27.out)
          replace R22 := Lib.hid (rd_kept hk R22.out)
          have R24 := Lib.hid hr
          have hHn : w0.grownBy wn none := grown_new hHeld (grown_kept hk none) (fun k e => by cases e)
          refine hK.out _ _ hHn (fun _ => ?_)
          replace hHeld := hHn
          clear hHn hk hr
          obtain ⟨wc, rfl⟩ : ∃ x, x = wn := ⟨_, rfl⟩
          clear hK K
          try simp only [Act.put, List.setIfInBounds_toArray, List.set_cons_zero, List.set_cons_succ]
          refine wpAnyH_ready (rs := [28]) (by kernel_rfl) (by simp) ?_
          refine AllReadyH.cons (o := ⟨some 91, _, _, _, _, _⟩) rfl (fun K hK => ?_) (AllReadyH.nil)
          go_simp
          refine (of4At ⟨#[120]⟩ s s ⟨#[49]⟩ g27 _ D27.out).mono ?_
          rintro e wn ⟨A28, c28, rfl, hr, hk⟩
          clear D27
          replace R22 := Lib.hid (rd_kept hk R22.out)
          replace R24 := Lib.hid (rd_kept hk R24.out)
          have R28 := Lib.hid hr
          have hHn : w0.grownBy wn none := grown_new hHeld (grown_kept hk none) (fun k e => by cases e)
          refine hK.out _ _ hHn (fun _ => ?_)
          replace hHeld := hHn
          clear hHn hk hr
          obtain ⟨wc, rfl⟩ : ∃ x, x = wn := ⟨_, rfl⟩
          clear hK K
          try simp only [Act.put, List.setIfInBounds_toArray, List.set_cons_zero, List.set_cons_succ]
          refine wpAnyH_ready (rs := [29]) (by kernel_rfl) (by simp) ?_
          refine AllReadyH.cons (o := ⟨some 92, _, _, _, _, _⟩) rfl (fun K hK => ?_) (AllReadyH.nil)
          go_simp
          refine (changes_any A22 A24 A28 none c22 c24 c28 0 [(⟨#[120]⟩, s)] [(⟨#[120]⟩, ⟨#[49]⟩)] [(⟨#[120]⟩, s), (s, ⟨#[49]⟩)] [] _ R22.out R24.out R28.out ⟨rfl, fun h => absurd h (by decide)⟩ (HT.out _ hHeld)).mono ?_
          rintro e wn ⟨rfl, hk⟩
          clear R22
          clear R24
          clear R28
          have hHn : w0.grownBy wn none := grown_new hHeld (grown_kept hk none) (fun k e => by cases e)
          refine hK.out _ _ hHn (fun _ => ?_)
          replace hHeld := hHn
          clear hHn hk 
          obtain ⟨wc, rfl⟩ : ∃ x, x = wn := ⟨_, rfl⟩
          clear hK K
          try simp only [Act.put, List.setIfInBounds_toArray, List.set_cons_zero, List.set_cons_succ]
          refine wpAnyH_take (i := 30) (oi := ⟨some 93, _, _, _, _, _⟩) (v := ?_) rfl (by kernel_rfl) (by kernel_rfl) (by kernel_rfl) (fun _ _ _ h => h) (Or.inl ⟨by rfl, ?_⟩) hHeld ?_
          rotate_left
          · (intro w hSw; go_simp; (try with_reducible rfl))
          try simp only [Act.put, List.setIfInBounds_toArray, List.set_cons_zero, List.set_cons_succ]
          refine wpAnyH_take (i := 31) (oi := ⟨some 94, _, _, _, _, _⟩) (v := ?_) rfl (by kernel_rfl) (by kernel_rfl) (by kernel_rfl) (fun _ _ _ h => h) (Or.inl ⟨by rfl, ?_⟩) hHeld ?_
          rotate_left
          · (intro w hSw; go_simp; (try with_reducible rfl))
          try simp only [Act.put, List.setIfInBounds_toArray, List.set_cons_zero, List.set_cons_succ]
          refine wpAnyH_done (by kernel_rfl) ?_ _
          go_wp2_with fail
          go_meet
          exact ⟨rfl, Hfin.out _ (grown_keptN hHeld)⟩
      ·
        go_simp
        obtain ⟨wn, hwn, hd, hk, hlt⟩ := new_row wc #[.string ⟨#[120]⟩, .string s, .string s, .string ⟨#[49]⟩] 9
        obtain ⟨g27, hg⟩ : ∃ g, g = wc.heap.size := ⟨_, rfl⟩
        rw [← hwn, ← hg]
        rw [← hg] at hd
        replace D23 := Lib.hid (heap_kept hk D23.out)
        have D27 := Lib.hid hd
        have hHn : w0.grownBy wn none := grown_new hHeld (grown_kept hk none) (fun k e => by cases e)
        refine hK.out _ _ hHn (fun _ => ?_)
        replace hHeld := hHn
        clear hHn hk hwn hd hg hlt
        obtain ⟨wc, rfl⟩ : ∃ x, x = wn := ⟨_, rfl⟩
        clear hK K
        try simp only [Act.put, List.setIfInBounds_toArray, List.set_cons_zero, List.set_cons_succ]
        refine wpAnyH_ready (rs := [21]) (by kernel_rfl) (by simp) ?_
        refine AllReadyH.cons (o := ⟨some 84, _, _, _, _, _⟩) rfl (fun K hK => ?_) (AllReadyH.nil)
        go_simp
        obtain ⟨wn, hwn, hd, hk, hlt⟩ := new_row wc #[.string ⟨#[120]⟩, .string s] 9
        obtain ⟨g21, hg⟩ : ∃ g, g = wc.heap.size := ⟨_, rfl⟩
        rw [← hwn, ← hg]
        rw [← hg] at hd
        replace D23 := Lib.hid (heap_kept hk D23.out)
        replace D27 := Lib.hid (heap_kept hk D27.out)
        have D21 := Lib.hid hd
        have hHn : w0.grownBy wn none := grown_new hHeld (grown_kept hk none) (fun k e => by cases e)
        refine hK.out _ _ hHn (fun _ => ?_)
        replace hHeld := hHn
        clear hHn hk hwn hd hg hlt
        obtain ⟨wc, rfl⟩ : ∃ x, x = wn := ⟨_, rfl⟩
        clear hK K
        try simp only [Act.put, List.setIfInBounds_toArray, List.set_cons_zero, List.set_cons_succ]
        refine wpAnyH_ready (rs := [22]) (by kernel_rfl) (by simp) ?_
        refine AllReadyH.cons (o := ⟨some 85, _, _, _, _, _⟩) rfl (fun K hK => ?_) (AllReadyH.nil)
        go_simp
        refine (of2At ⟨#[120]⟩ s g21 _ D21.out).mono ?_
        rintro e wn ⟨A22, c22, rfl, hr, hk⟩
        clear D21
        replace D23 := Lib.hid (heap_kept hk D23.out)
        replace D27 := Lib.hid (heap_kept hk D27.out)
        have R22 := Lib.hid hr
        have hHn : w0.grownBy wn none := grown_new hHeld (grown_kept hk none) (fun k e => by cases e)
        refine hK.out _ _ hHn (fun _ => ?_)
        replace hHeld := hHn
        clear hHn hk hr
        obtain ⟨wc, rfl⟩ : ∃ x, x = wn := ⟨_, rfl⟩
        clear hK K
        try simp only [Act.put, List.setIfInBounds_toArray, List.set_cons_zero, List.set_cons_succ]
        refine wpAnyH_ready (rs := [24]) (by kernel_rfl) (by simp) ?_
        refine AllReadyH.cons (o := ⟨some 87, _, _, _, _, _⟩) rfl (fun K hK => ?_) (AllReadyH.nil)
        go_simp
        refine (of2At ⟨#[120]⟩ ⟨#[49]⟩ g23 _ D23.out).mono ?_
        rintro e wn ⟨A24, c24, rfl, hr, hk⟩
        clear D23
        replace D27 := Lib.hid (heap_kept hk D27.out)
        replace R22 := Lib.hid (rd_kept hk R22.out)
        have R24 := Lib.hid hr
        have hHn : w0.grownBy wn none := grown_new hHeld (grown_kept hk none) (fun k e => by cases e)
        refine hK.out _ _ hHn (fun _ => ?_)
        replace hHeld := hHn
        clear hHn hk hr
        obtain ⟨wc, rfl⟩ : ∃ x, x = wn := ⟨_, rfl⟩
        clear hK K
        try simp only [Act.put, List.setIfInBounds_toArray, List.set_cons_zero, List.set_cons_succ]
        refine wpAnyH_ready (rs := [28]) (by kernel_rfl) (by simp) ?_
        refine AllReadyH.cons (o := ⟨some 91, _, _, _, _, _⟩) rfl (fun K hK => ?_) (AllReadyH.nil)
        go_simp
        refine (of4At ⟨#[120]⟩ s s ⟨#[49]⟩ g27 _ D27.out).mono ?_
        rintro e wn ⟨A28, c28, rfl, hr, hk⟩
        clear D27
        replace R22 := Lib.hid (rd_kept hk R22.out)
        replace R24 := Lib.hid (rd_kept hk R24.out)
        have R28 := Lib.hid hr
        have hHn : w0.grownBy wn none := grown_new hHeld (grown_kept hk none) (fun k e => by cases e)
        refine hK.out _ _ hHn (fun _ => ?_)
        replace hHeld := hHn
        clear hHn hk hr
        obtain ⟨wc, rfl⟩ : ∃ x, x = wn := ⟨_, rfl⟩
        clear hK K
        try simp only [Act.put, List.setIfInBounds_toArray, List.set_cons_zero, List.set_cons_succ]
        refine wpAnyH_ready (rs := [29]) (by kernel_rfl) (by simp) ?_
        refine AllReadyH.cons (o := ⟨some 92, _, _, _, _, _⟩) rfl (fun K hK => ?_) (AllReadyH.nil)
        go_simp
        refine (changes_any A22 A24 A28 none c22 c24 c28 0 [(⟨#[120]⟩, s)] [(⟨#[120]⟩, ⟨#[49]⟩)] [(⟨#[120]⟩, s), (s, ⟨#[49]⟩)] [] _ R22.out R24.out R28.out ⟨rfl, fun h => absurd h (by decide)⟩ (HT.out _ hHeld)).mono ?_
        rintro e wn ⟨rfl, hk⟩
        clear R22
        clear R24
        clear R28
        have hHn : w0.grownBy wn none := grown_new hHeld (grown_kept hk none) (fun k e => by cases e)
        refine hK.out _ _ hHn (fun _ => ?_)
        replace hHeld := hHn
        clear hHn hk 
        obtain ⟨wc, rfl⟩ : ∃ x, x = wn := ⟨_, rfl⟩
        clear hK K
        try simp only [Act.put, List.setIfInBounds_toArray, List.set_cons_zero, List.set_cons_succ]
        refine wpAnyH_take (i := 30) (oi := ⟨some 93, _, _, _, _, _⟩) (v := ?_) rfl (by kernel_rfl) (by kernel_rfl) (by kernel_rfl) (fun _ _ _ h => h) (Or.inl ⟨by rfl, ?_⟩) hHeld ?_
        rotate_left
        · (intro w hSw; go_simp; (try with_reducible rfl))
        try simp only [Act.put, List.setIfInBounds_toArray, List.set_cons_zero, List.set_cons_succ]
        refine wpAnyH_take (i := 31) (oi := ⟨some 94, _, _, _, _, _⟩) (v := ?_) rfl (by kernel_rfl) (by kernel_rfl) (by kernel_rfl) (fun _ _ _ h => h) (Or.inl ⟨by rfl, ?_⟩) hHeld ?_
        rotate_left
        · (intro w hSw; go_simp; (try with_reducible rfl))
        try simp only [Act.put, List.setIfInBounds_toArray, List.set_cons_zero, List.set_cons_succ]
        refine wpAnyH_done (by kernel_rfl) ?_ _
        go_wp2_with fail
        go_meet
        exact ⟨rfl, Hfin.out _ (grown_keptN hHeld)⟩
    ·
      go_simp
      obtain ⟨wn, hwn, hd, hk, hlt⟩ := new_row wc #[.string ⟨#[120]⟩, .string s, .string s, .string ⟨#[49]⟩] 9
      obtain ⟨g27, hg⟩ : ∃ g, g = wc.heap.size := ⟨_, rfl⟩
      rw [← hwn, ← hg]
      rw [← hg] at hd
      have D27 := Lib.hid hd
      have hHn : w0.grownBy wn none := grown_new hHeld (grown_kept hk none) (fun k e => by cases e)
      refine hK.out _ _ hHn (fun _ => ?_)
      replace hHeld := hHn
      clear hHn hk hwn hd hg hlt
      obtain ⟨wc, rfl⟩ : ∃ x, x = wn := ⟨_, rfl⟩
      clear hK K
      try simp only [Act.put, List.setIfInBounds_toArray, List.set_cons_zero, List.set_cons_succ]
      refine wpAnyH_ready (rs := [21, 23]) (by kernel_rfl) (by simp) ?_
      refine AllReadyH.cons (o := ⟨some 84, _, _, _, _, _⟩) rfl (fun K hK => ?_) (AllReadyH.cons (o := ⟨some 86, _, _, _, _, _⟩) rfl (fun K hK => ?_) (AllReadyH.nil))
      ·
        go_simp
        obtain ⟨wn, hwn, hd, hk, hlt⟩ := new_row wc #[.string ⟨#[120]⟩, .string s] 9
        obtain ⟨g21, hg⟩ : ∃ g, g = wc.heap.size := ⟨_, rfl⟩
        rw [← hwn, ← hg]
        rw [← hg] at hd
        replace D27 := Lib.hid (heap_kept hk D27.out)
        have D21 := Lib.hid hd
        have hHn : w0.grownBy wn none := grown_new hHeld (grown_kept hk none) (fun k e => by cases e)
        refine hK.out _ _ hHn (fun _ => ?_)
        replace hHeld := hHn
        clear hHn hk hwn hd hg hlt
        obtain ⟨wc, rfl⟩ : ∃ x, x = wn := ⟨_, rfl⟩
        clear hK K
        try simp only [Act.put, List.setIfInBounds_toArray, List.set_cons_zero, List.set_cons_succ]
        refine wpAnyH_ready (rs := [22, 23]) (by kernel_rfl) (by simp) ?_
        refine AllReadyH.cons (o := ⟨some 85, _, _, _, _, _⟩) rfl (fun K hK => ?_) (AllReadyH.cons (o := ⟨some 86, _, _, _, _, _⟩) rfl (fun K hK => ?_) (AllReadyH.nil))
        ·
          go_simp
          refine (of2At ⟨#[120]⟩ s g21 _ D21.out).mono ?_
          rintro e wn ⟨A22, c22, rfl, hr, hk⟩
          clear D21
          replace D27 := Lib.hid (heap_kept hk D27.out)
          have R22 := Lib.hid hr
          have hHn : w0.grownBy wn none := grown_new hHeld (grown_kept hk none) (fun k e => by cases e)
          refine hK.out _ _ hHn (fun _ => ?_)
          replace hHeld := hHn
          clear hHn hk hr
          obtain ⟨wc, rfl⟩ : ∃ x, x = wn := ⟨_, rfl⟩
          clear hK K
          try simp only [Act.put, List.setIfInBounds_toArray, List.set_cons_zero, List.set_cons_succ]
          refine wpAnyH_ready (rs := [23]) (by kernel_rfl) (by simp) ?_
          refine AllReadyH.cons (o := ⟨some 86, _, _, _, _, _⟩) rfl (fun K hK => ?_) (AllReadyH.nil)
          go_simp
          obtain ⟨wn, hwn, hd, hk, hlt⟩ := new_row wc #[.string ⟨#[120]⟩, .string ⟨#[49]⟩] 9
          obtain ⟨g23, hg⟩ : ∃ g, g = wc.heap.size := ⟨_, rfl⟩
          rw [← hwn, ← hg]
          rw [← hg] at hd
          replace D27 := Lib.hid (heap_kept hk D27.out)
          replace R22 := Lib.hid (rd_kept hk R22.out)
          have D23 := Lib.hid hd
          have hHn : w0.grownBy wn none := grown_new hHeld (grown_kept hk none) (fun k e => by cases e)
          refine hK.out _ _ hHn (fun _ => ?_)
          replace hHeld := hHn
          clear hHn hk hwn hd hg hlt
          obtain ⟨wc, rfl⟩ : ∃ x, x = wn := ⟨_, rfl⟩
          clear hK K
          try simp only [Act.put, List.setIfInBounds_toArray, List.set_cons_zero, List.set_cons_succ]
          refine wpAnyH_ready (rs := [24]) (by kernel_rfl) (by simp) ?_
          refine AllReadyH.cons (o := ⟨some 87, _, _, _, _, _⟩) rfl (fun K hK => ?_) (AllReadyH.nil)
          go_simp
          refine (of2At ⟨#[120]⟩ ⟨#[49]⟩ g23 _ D23.out).mono ?_
          rintro e wn ⟨A24, c24, rfl, hr, hk⟩
          clear D23
          replace D27 := Lib.hid (heap_kept hk D27.out)
          replace R22 := Lib.hid (rd_kept hk R22.out)
          have R24 := Lib.hid hr
          have hHn : w0.grownBy wn none := grown_new hHeld (grown_kept hk none) (fun k e => by cases e)
          refine hK.out _ _ hHn (fun _ => ?_)
          replace hHeld := hHn
          clear hHn hk hr
          obtain ⟨wc, rfl⟩ : ∃ x, x = wn := ⟨_, rfl⟩
          clear hK K
          try simp only [Act.put, List.setIfInBounds_toArray, List.set_cons_zero, List.set_cons_succ]
          refine wpAnyH_ready (rs := [28]) (by kernel_rfl) (by simp) ?_
          refine AllReadyH.cons (o := ⟨some 91, _, _, _, _, _⟩) rfl (fun K hK => ?_) (AllReadyH.nil)
          go_simp
          refine (of4At ⟨#[120]⟩ s s ⟨#[49]⟩ g27 _ D27.out).mono ?_
          rintro e wn ⟨A28, c28, rfl, hr, hk⟩
          clear D27
          replace R22 := Lib.hid (rd_kept hk R22.out)
          replace R24 := Lib.hid (rd_kept hk R24.out)
          have R28 := Lib.hid hr
          have hHn : w0.grownBy wn none := grown_new hHeld (grown_kept hk none) (fun k e => by cases e)
          refine hK.out _ _ hHn (fun _ => ?_)
          replace hHeld := hHn
          clear hHn hk hr
          obtain ⟨wc, rfl⟩ : ∃ x, x = wn := ⟨_, rfl⟩
          clear hK K
          try simp only [Act.put, List.setIfInBounds_toArray, List.set_cons_zero, List.set_cons_succ]
          refine wpAnyH_ready (rs := [29]) (by kernel_rfl) (by simp) ?_
          refine AllReadyH.cons (o := ⟨some 92, _, _, _, _, _⟩) rfl (fun K hK => ?_) (AllReadyH.nil)
          go_simp
          refine (changes_any A22 A24 A28 none c22 c24 c28 0 [(⟨#[120]⟩, s)] [(⟨#[120]⟩, ⟨#[49]⟩)] [(⟨#[120]⟩, s), (s, ⟨#[49]⟩)] [] _ R22.out R24.out R28.out ⟨rfl, fun h => absurd h (by decide)⟩ (HT.out _ hHeld)).mono ?_
          rintro e wn ⟨rfl, hk⟩
          clear R22
          clear R24
          clear R28
          have hHn : w0.grownBy wn none := grown_new hHeld (grown_kept hk none) (fun k e => by cases e)
          refine hK.out _ _ hHn (fun _ => ?_)
          replace hHeld := hHn
          clear hHn hk 
          obtain ⟨wc, rfl⟩ : ∃ x, x = wn := ⟨_, rfl⟩
          clear hK K
          try simp only [Act.put, List.setIfInBounds_toArray, List.set_cons_zero, List.set_cons_succ]
          refine wpAnyH_take (i := 30) (oi := ⟨some 93, _, _, _, _, _⟩) (v := ?_) rfl (by kernel_rfl) (by kernel_rfl) (by kernel_rfl) (fun _ _ _ h => h) (Or.inl ⟨by rfl, ?_⟩) hHeld ?_
          rotate_left
          · (intro w hSw; go_simp; (try with_reducible rfl))
          try simp only [Act.put, List.setIfInBounds_toArray, List.set_cons_zero, List.set_cons_succ]
          refine wpAnyH_take (i := 31) (oi := ⟨some 94, _, _, _, _, _⟩) (v := ?_) rfl (by kernel_rfl) (by kernel_rfl) (by kernel_rfl) (fun _ _ _ h => h) (Or.inl ⟨by rfl, ?_⟩) hHeld ?_
          rotate_left
          · (intro w hSw; go_simp; (try with_reducible rfl))
          try simp only [Act.put, List.setIfInBounds_toArray, List.set_cons_zero, List.set_cons_succ]
          refine wpAnyH_done (by kernel_rfl) ?_ _
          go_wp2_with fail
          go_meet
          exact ⟨rfl, Hfin.out _ (grown_keptN hHeld)⟩
        ·
          go_simp
          obtain ⟨wn, hwn, hd, hk, hlt⟩ := new_row wc #[.string ⟨#[120]⟩, .string ⟨#[49]⟩] 9
          obtain ⟨g23, hg⟩ : ∃ g, g = wc.heap.size := ⟨_, rfl⟩
          rw [← hwn, ← hg]
          rw [← hg] at hd
          replace D27 := Lib.hid (heap_kept hk D27.out)
          replace D21 := Lib.hid (heap_kept hk D21.out)
          have D23 := Lib.hid hd
          have hHn : w0.grownBy wn none := grown_new hHeld (grown_kept hk none) (fun k e => by cases e)
          refine hK.out _ _ hHn (fun _ => ?_)
          replace hHeld := hHn
          clear hHn hk hwn hd hg hlt
          obtain ⟨wc, rfl⟩ : ∃ x, x = wn := ⟨_, rfl⟩
          clear hK K
          try simp only [Act.put, List.setIfInBounds_toArray, List.set_cons_zero, List.set_cons_succ]
          refine wpAnyH_ready (rs := [22]) (by kernel_rfl) (by simp) ?_
          refine AllReadyH.cons (o := ⟨some 85, _, _, _, _, _⟩) rfl (fun K hK => ?_) (AllReadyH.nil)
          go_simp
          refine (of2At ⟨#[120]⟩ s g21 _ D21.out).mono ?_
          rintro e wn ⟨A22, c22, rfl, hr, hk⟩
          clear D21
          replace D27 := Lib.hid (heap_kept hk D27.out)
          replace D23 := Lib.hid (heap_kept hk D23.out)
          have R22 := Lib.hid hr
          have hHn : w0.grownBy wn none := grown_new hHeld (grown_kept hk none) (fun k e => by cases e)
          refine hK.out _ _ hHn (fun _ => ?_)
          replace hHeld := hHn
          clear hHn hk hr
          obtain ⟨wc, rfl⟩ : ∃ x, x = wn := ⟨_, rfl⟩
          clear hK K
          try simp only [Act.put, List.setIfInBounds_toArray, List.set_cons_zero, List.set_cons_succ]
          refine wpAnyH_ready (rs := [24]) (by kernel_rfl) (by simp) ?_
          refine AllReadyH.cons (o := ⟨some 87, _, _, _, _, _⟩) rfl (fun K hK => ?_) (AllReadyH.nil)
          go_simp
          refine (of2At ⟨#[120]⟩ ⟨#[49]⟩ g23 _ D23.out).mono ?_
          rintro e wn ⟨A24, c24, rfl, hr, hk⟩
          clear D23
          replace D27 := Lib.hid (heap_kept hk D27.out)
          replace R22 := Lib.hid (rd_kept hk R22.out)
          have R24 := Lib.hid hr
          have hHn : w0.grownBy wn none := grown_new hHeld (grown_kept hk none) (fun k e => by cases e)
          refine hK.out _ _ hHn (fun _ => ?_)
          replace hHeld := hHn
          clear hHn hk hr
          obtain ⟨wc, rfl⟩ : ∃ x, x = wn := ⟨_, rfl⟩
          clear hK K
          try simp only [Act.put, List.setIfInBounds_toArray, List.set_cons_zero, List.set_cons_succ]
          refine wpAnyH_ready (rs := [28]) (by kernel_rfl) (by simp) ?_
          refine AllReadyH.cons (o := ⟨some 91, _, _, _, _, _⟩) rfl (fun K hK => ?_) (AllReadyH.nil)
          go_simp
          refine (of4At ⟨#[120]⟩ s s ⟨#[49]⟩ g27 _ D27.out).mono ?_
          rintro e wn ⟨A28, c28, rfl, hr, hk⟩
          clear D27
          replace R22 := Lib.hid (rd_kept hk R22.out)
          replace R24 := Lib.hid (rd_kept hk R24.out)
          have R28 := Lib.hid hr
          have hHn : w0.grownBy wn none := grown_new hHeld (grown_kept hk none) (fun k e => by cases e)
          refine hK.out _ _ hHn (fun _ => ?_)
          replace hHeld := hHn
          clear hHn hk hr
          obtain ⟨wc, rfl⟩ : ∃ x, x = wn := ⟨_, rfl⟩
          clear hK K
          try simp only [Act.put, List.setIfInBounds_toArray, List.set_cons_zero, List.set_cons_succ]
          refine wpAnyH_ready (rs := [29]) (by kernel_rfl) (by simp) ?_
          refine AllReadyH.cons (o := ⟨some 92, _, _, _, _, _⟩) rfl (fun K hK => ?_) (AllReadyH.nil)
          go_simp
          refine (changes_any A22 A24 A28 none c22 c24 c28 0 [(⟨#[120]⟩, s)] [(⟨#[120]⟩, ⟨#[49]⟩)] [(⟨#[120]⟩, s), (s, ⟨#[49]⟩)] [] _ R22.out R24.out R28.out ⟨rfl, fun h => absurd h (by decide)⟩ (HT.out _ hHeld)).mono ?_
          rintro e wn ⟨rfl, hk⟩
          clear R22
          clear R24
          clear R28
          have hHn : w0.grownBy wn none := grown_new hHeld (grown_kept hk none) (fun k e => by cases e)
          refine hK.out _ _ hHn (fun _ => ?_)
          replace hHeld := hHn
          clear hHn hk 
          obtain ⟨wc, rfl⟩ : ∃ x, x = wn := ⟨_, rfl⟩
          clear hK K
          try simp only [Act.put, List.setIfInBounds_toArray, List.set_cons_zero, List.set_cons_succ]
          refine wpAnyH_take (i := 30) (oi := ⟨some 93, _, _, _, _, _⟩) (v := ?_) rfl (by kernel_rfl) (by kernel_rfl) (by kernel_rfl) (fun _ _ _ h => h) (Or.inl ⟨by rfl, ?_⟩) hHeld ?_
          rotate_left
          · (intro w hSw; go_simp; (try with_reducible rfl))
          try simp only [Act.put, List.setIfInBounds_toArray, List.set_cons_zero, List.set_cons_succ]
          refine wpAnyH_take (i := 31) (oi := ⟨some 94, _, _, _, _, _⟩) (v := ?_) rfl (by kernel_rfl) (by kernel_rfl) (by kernel_rfl) (fun _ _ _ h => h) (Or.inl ⟨by rfl, ?_⟩) hHeld ?_
          rotate_left
          · (intro w hSw; go_simp; (try with_reducible rfl))
          try simp only [Act.put, List.setIfInBounds_toArray, List.set_cons_zero, List.set_cons_succ]
          refine wpAnyH_done (by kernel_rfl) ?_ _
          go_wp2_with fail
          go_meet
          exact ⟨rfl, Hfin.out _ (grown_keptN hHeld)⟩
      ·
        go_simp
        obtain ⟨wn, hwn, hd, hk, hlt⟩ := new_row wc #[.string ⟨#[120]⟩, .string ⟨#[49]⟩] 9
        obtain ⟨g23, hg⟩ : ∃ g, g = wc.heap.size := ⟨_, rfl⟩
        rw [← hwn, ← hg]
        rw [← hg] at hd
        replace D27 := Lib.hid (heap_kept hk D27.out)
        have D23 := Lib.hid hd
        have hHn : w0.grownBy wn none := grown_new hHeld (grown_kept hk none) (fun k e => by cases e)
        refine hK.out _ _ hHn (fun _ => ?_)
        replace hHeld := hHn
        clear hHn hk hwn hd hg hlt
        obtain ⟨wc, rfl⟩ : ∃ x, x = wn := ⟨_, rfl⟩
        clear hK K
        try simp only [Act.put, List.setIfInBounds_toArray, List.set_cons_zero, List.set_cons_succ]
        refine wpAnyH_ready (rs := [21]) (by kernel_rfl) (by simp) ?_
        refine AllReadyH.cons (o := ⟨some 84, _, _, _, _, _⟩) rfl (fun K hK => ?_) (AllReadyH.nil)
        go_simp
        obtain ⟨wn, hwn, hd, hk, hlt⟩ := new_row wc #[.string ⟨#[120]⟩, .string s] 9
        obtain ⟨g21, hg⟩ : ∃ g, g = wc.heap.size := ⟨_, rfl⟩
        rw [← hwn, ← hg]
        rw [← hg] at hd
        replace D27 := Lib.hid (heap_kept hk D27.out)
        replace D23 := Lib.hid (heap_kept hk D23.out)
        have D21 := Lib.hid hd
        have hHn : w0.grownBy wn none := grown_new hHeld (grown_kept hk none) (fun k e => by cases e)
        refine hK.out _ _ hHn (fun _ => ?_)
        replace hHeld := hHn
        clear hHn hk hwn hd hg hlt
        obtain ⟨wc, rfl⟩ : ∃ x, x = wn := ⟨_, rfl⟩
        clear hK K
        try simp only [Act.put, List.setIfInBounds_toArray, List.set_cons_zero, List.set_cons_succ]
        refine wpAnyH_ready (rs := [22]) (by kernel_rfl) (by simp) ?_
        refine AllReadyH.cons (o := ⟨some 85, _, _, _, _, _⟩) rfl (fun K hK => ?_) (AllReadyH.nil)
        go_simp
        refine (of2At ⟨#[120]⟩ s g21 _ D21.out).mono ?_
        rintro e wn ⟨A22, c22, rfl, hr, hk⟩
        clear D21
        replace D27 := Lib.hid (heap_kept hk D27.out)
        replace D23 := Lib.hid (heap_kept hk D23.out)
        have R22 := Lib.hid hr
        have hHn : w0.grownBy wn none := grown_new hHeld (grown_kept hk none) (fun k e => by cases e)
        refine hK.out _ _ hHn (fun _ => ?_)
        replace hHeld := hHn
        clear hHn hk hr
        obtain ⟨wc, rfl⟩ : ∃ x, x = wn := ⟨_, rfl⟩
        clear hK K
        try simp only [Act.put, List.setIfInBounds_toArray, List.set_cons_zero, List.set_cons_succ]
        refine wpAnyH_ready (rs := [24]) (by kernel_rfl) (by simp) ?_
        refine AllReadyH.cons (o := ⟨some 87, _, _, _, _, _⟩) rfl (fun K hK => ?_) (AllReadyH.nil)
        go_simp
        refine (of2At ⟨#[120]⟩ ⟨#[49]⟩ g23 _ D23.out).mono ?_
        rintro e wn ⟨A24, c24, rfl, hr, hk⟩
        clear D23
        replace D27 := Lib.hid (heap_kept hk D27.out)
        replace R22 := Lib.hid (rd_kept hk R22.out)
        have R24 := Lib.hid hr
        have hHn : w0.grownBy wn none := grown_new hHeld (grown_kept hk none) (fun k e => by cases e)
        refine hK.out _ _ hHn (fun _ => ?_)
        replace hHeld := hHn
        clear hHn hk hr
        obtain ⟨wc, rfl⟩ : ∃ x, x = wn := ⟨_, rfl⟩
        clear hK K
        try simp only [Act.put, List.setIfInBounds_toArray, List.set_cons_zero, List.set_cons_succ]
        refine wpAnyH_ready (rs := [28]) (by kernel_rfl) (by simp) ?_
        refine AllReadyH.cons (o := ⟨some 91, _, _, _, _, _⟩) rfl (fun K hK => ?_) (AllReadyH.nil)
        go_simp
        refine (of4At ⟨#[120]⟩ s s ⟨#[49]⟩ g27 _ D27.out).mono ?_
        rintro e wn ⟨A28, c28, rfl, hr, hk⟩
        clear D27
        replace R22 := Lib.hid (rd_kept hk R22.out)
        replace R24 := Lib.hid (rd_kept hk R24.out)
        have R28 := Lib.hid hr
        have hHn : w0.grownBy wn none := grown_new hHeld (grown_kept hk none) (fun k e => by cases e)
        refine hK.out _ _ hHn (fun _ => ?_)
        replace hHeld := hHn
        clear hHn hk hr
        obtain ⟨wc, rfl⟩ : ∃ x, x = wn := ⟨_, rfl⟩
        clear hK K
        try simp only [Act.put, List.setIfInBounds_toArray, List.set_cons_zero, List.set_cons_succ]
        refine wpAnyH_ready (rs := [29]) (by kernel_rfl) (by simp) ?_
        refine AllReadyH.cons (o := ⟨some 92, _, _, _, _, _⟩) rfl (fun K hK => ?_) (AllReadyH.nil)
        go_simp
        refine (changes_any A22 A24 A28 none c22 c24 c28 0 [(⟨#[120]⟩, s)] [(⟨#[120]⟩, ⟨#[49]⟩)] [(⟨#[120]⟩, s), (s, ⟨#[49]⟩)] [] _ R22.out R24.out R28.out ⟨rfl, fun h => absurd h (by decide)⟩ (HT.out _ hHeld)).mono ?_
        rintro e wn ⟨rfl, hk⟩
        clear R22
        clear R24
        clear R28
        have hHn : w0.grownBy wn none := grown_new hHeld (grown_kept hk none) (fun k e => by cases e)
        refine hK.out _ _ hHn (fun _ => ?_)
        replace hHeld := hHn
        clear hHn hk 
        obtain ⟨wc, rfl⟩ : ∃ x, x = wn := ⟨_, rfl⟩
        clear hK K
        try simp only [Act.put, List.setIfInBounds_toArray, List.set_cons_zero, List.set_cons_succ]
        refine wpAnyH_take (i := 30) (oi := ⟨some 93, _, _, _, _, _⟩) (v := ?_) rfl (by kernel_rfl) (by kernel_rfl) (by kernel_rfl) (fun _ _ _ h => h) (Or.inl ⟨by rfl, ?_⟩) hHeld ?_
        rotate_left
        · (intro w hSw; go_simp; (try with_reducible rfl))
        try simp only [Act.put, List.setIfInBounds_toArray, List.set_cons_zero, List.set_cons_succ]
        refine wpAnyH_take (i := 31) (oi := ⟨some 94, _, _, _, _, _⟩) (v := ?_) rfl (by kernel_rfl) (by kernel_rfl) (by kernel_rfl) (fun _ _ _ h => h) (Or.inl ⟨by rfl, ?_⟩) hHeld ?_
        rotate_left
        · (intro w hSw; go_simp; (try with_reducible rfl))
        try simp only [Act.put, List.setIfInBounds_toArray, List.set_cons_zero, List.set_cons_succ]
        refine wpAnyH_done (by kernel_rfl) ?_ _
        go_wp2_with fail
        go_meet
        exact ⟨rfl, Hfin.out _ (grown_keptN hHeld)⟩
  case rest =>
    obtain ⟨rfl, hk2⟩ := hcut
    replace hkr := kk hkr hk2.out
    clear hk2 K
    go_wp2_with fail
    go_roundw
    case rel => exact ⟨k + 1, by omega, by go_num, hkr⟩
    case measure => simp [intOf]; omega
end Go.Proofs.YtlhekeokognhmaaGreatDoor
