/-
  LabelSmall: its last region, up to where its orders meet.
-/
import Derived.Test.YtlhekeokognhmaaGreatDoorMgbr
import Derived.Deep.CutBlock
namespace Go.Proofs.YtlhekeokognhmaaGreatDoor
open Go.RowKit Go.Shelf Go.Maps Go.Sort
set_option maxRecDepth 100000 in
set_option maxHeartbeats 40000000 in
noncomputable def sq0 (w : World) (hT : Tab w) : {q : Prop // q → (sp0 w hT).1.2.2.2.2} := by
  apply mk1
  · intro q1
    delta sp0 mk5
    dsimp -zeta only
    intro HT ia1 ia2 ia3 u1 u2 u18 u19 u20 u21 u22 u23 u24 u25 u26 u27 u28 u29 u30 u31 u32 u33 u34 u35 u36 u37 u38 u39 u40 u41 u42 u43 u44 u45 u46 u47 u48 u49 u50 u51 u52 u53 u54 ia4 w1 ia5 ia6 ia7 ia8 ia9 ia10 u4 u5 u58 u59 u60 u61 u62 u63 u64 u65 u66 u67 u68 u69 u70 u71 u72 u73 u74 u75 u76 u77 u78 u79 u80 u81 u82 u83 u84 u85 u86 u87 u88 u89 u90 u91 u92 u93 u94 u95 ia11 w2 ia12 ia13 ia14 ia15 w0 g6 ia16 u0 u8 u10 u12 u13 u108 u109 u110 u111 u112 u113 u114 u115 u116 u117 u118 u119 u120 u121 u122 u123 u124 u125 u126 u127 u128 u129 u130 u131 u132 u133 u134 u135 u136 u137 u138 u139 u140 u141 u142 u143 u144 u145 u146 u147 u148 u149 u150 u151 u152 u153 u154 u155 u156 u157 u158 k3 ia17 ia18 w3 K3 i0 hi0 hz0 hz1 hz2 ia19 ia20 ia21 ia22 h1 u15 u160 u161 u162 u163 u164 u165 u166 u167 u168 u169 u170 u171 u172 u173 u174 u175 u176 u177 k L hk hL hkn w4 c14 hc14 hk65 ad had RL K4 l hl1 C ia23 ia24 ia25 w5 K45 h2 ia26 ia27 ia28 ia29 ia30 ia31
    obtain ⟨wd, hwd⟩ : ∃ x, x = w5.drew := ⟨_, rfl⟩
    have hkd : Kept w5 wd := by rw [hwd]; exact below_drew0 (Below.refl w5.heap.size w5)
    have RL0 := RL
    replace RL : Hid (∀ W, wd.grownBy W none → RdL W W.heap.size (some ad) L) := fun W h => RL0.out W (below_kept K45.out (below_kept hkd (grown_keptN h)))
    have HT0 := HT
    replace HT : Hid (∀ W, wd.grownBy W none → Tab W) := fun W hW => HT0.out W (below_kept K4.out (below_kept K45.out (below_kept hkd (grown_keptN hW))))
    have Hfin : Hid (∀ W, Kept wd W → Kept w5 W) := fun W h => below_kept hkd h
    have hc64 : (64 : Int) ≤ (c14 : Int) := by omega
    have hc63 : (63 : Int) ≤ (c14 : Int) := by omega
    have hk1 : (1 : Int) ≤ (k : Int) := by omega
    have RLt : Hid (∀ n, n ≤ 65 → ∀ W, wd.grownBy W none → RdL W W.heap.size (some ad) (L.take n)) := fun n hn W h => rdl_take (RL.out W h) n
    have hLk : Hid (L.length = k) := hL
    have LTt : Hid (∀ n, n ≤ 65 → (L.take n).length = n) := fun n hn => by have := hk65.out; rw [List.length_take]; omega
    have RL1 : Hid (∀ W, wd.grownBy W none → RdL W W.heap.size (if c14 = 1 then some ad else some ⟨ad.block, ad.off + 2, none⟩) (L.drop 1)) := fun W h => by
      rw [if_neg (by have := hk65.out; omega), ← show ad.add (1 * 2) = ⟨ad.block, ad.off + 2, none⟩ from Addr.add_succ' ad 1]
      exact rdl_dropA (RL.out W h) 1
    have hl120 : l.size = 120 := hl1
    clear hL
    refine wp_region_held_drew (S := fun W => w5.drew.grownBy W none) (by kernel_rfl) (grown_kept (Below.refl _ _) _) (fun hHeld => ?_)
    rw [← hwd] at hHeld ⊢
    clear hwd hkd HT0 RL0 K45 K4 K3
    refine wpAnyH_take (i := 0) (oi := ⟨some 179, _, _, _, _, _⟩) (v := ?_) rfl (by kernel_rfl) (by kernel_rfl) (by kernel_rfl) (fun _ _ _ h => h) (Or.inl ⟨by rfl, ?_⟩) hHeld ?_
    rotate_left
    · (intro w hSw; go_simp; (try with_reducible rfl))
    try simp only [Act.put, List.setIfInBounds_toArray, List.set_cons_zero, List.set_cons_succ]
    refine wpAnyH_ready (rs := [1]) (by kernel_rfl) (by simp) ?_
    refine AllReadyH.cons (o := ⟨some 180, _, _, _, _, _⟩) rfl (fun K hK => ?_) (AllReadyH.nil)
    go_simp
    refine (tellsN L hLk.out (by decide) (RL.out _ hHeld) (HT.out _ hHeld)).mono ?_
    rintro e wn ⟨rfl, hk⟩
    have hHn : wd.grownBy wn none := grown_new hHeld (grown_kept hk none) (fun k e => by cases e)
    refine hK.out _ _ hHn (fun hx => ?_)
    replace hHeld := hHn
    clear hx hHn hk 
    obtain ⟨wc1, rfl⟩ : ∃ x, x = wn := ⟨_, rfl⟩
    clear hK K
    try simp only [Act.put, List.setIfInBounds_toArray, List.set_cons_zero, List.set_cons_succ]
    refine wpAnyH_take (i := 2) (oi := ⟨some 181, _, _, _, _, _⟩) (v := ?_) rfl (by kernel_rfl) (by kernel_rfl) (by kernel_rfl) (fun _ _ _ h => h) (Or.inl ⟨by rfl, ?_⟩) hHeld ?_
    rotate_left
    · (intro w hSw; go_simp; (try with_reducible rfl))
    try simp only [Act.put, List.setIfInBounds_toArray, List.set_cons_zero, List.set_cons_succ]
    refine wpAnyH_take (i := 3) (oi := ⟨some 182, _, _, _, _, _⟩) (v := ?_) rfl (by kernel_rfl) (by kernel_rfl) (by kernel_rfl) (fun _ _ _ h => h) (Or.inl ⟨by rfl, ?_⟩) hHeld ?_
    rotate_left
    · (intro w hSw; go_simp; (try with_reducible rfl))
    try simp only [Act.put, List.setIfInBounds_toArray, List.set_cons_zero, List.set_cons_succ]
    refine wpAnyH_take (i := 4) (oi := ⟨some 183, _, _, _, _, _⟩) (v := ?_) rfl (by kernel_rfl) (by kernel_rfl) (by kernel_rfl) (fun _ _ _ h => h) (Or.inl ⟨by rfl, ?_⟩) hHeld ?_
    rotate_left
    · (intro w hSw; go_simp; (try with_reducible rfl))
    try simp only [Act.put, List.setIfInBounds_toArray, List.set_cons_zero, List.set_cons_succ]
    refine wpAnyH_ready (rs := [5]) (by kernel_rfl) (by simp) ?_
    refine AllReadyH.cons (o := ⟨some 184, _, _, _, _, _⟩) rfl (fun K hK => ?_) (AllReadyH.nil)
    go_simp
    refine (tellsN (L.take 64) (LTt.out 64 (by omega)) (by decide) (RLt.out 64 (by omega) _ hHeld) (HT.out _ hHeld)).mono ?_
    rintro e wn ⟨rfl, hk⟩
    have hHn : wd.grownBy wn none := grown_new hHeld (grown_kept hk none) (fun k e => by cases e)
    refine hK.out _ _ hHn (fun hx => ?_)
    replace hHeld := hHn
    clear hx hHn hk 
    obtain ⟨wc5, rfl⟩ : ∃ x, x = wn := ⟨_, rfl⟩
    clear hK K
    try simp only [Act.put, List.setIfInBounds_toArray, List.set_cons_zero, List.set_cons_succ]
    refine wpAnyH_take (i := 6) (oi := ⟨some 185, _, _, _, _, _⟩) (v := ?_) rfl (by kernel_rfl) (by kernel_rfl) (by kernel_rfl) (fun _ _ _ h => h) (Or.inl ⟨by rfl, ?_⟩) hHeld ?_
    rotate_left
    · (intro w hSw; go_simp; (try with_reducible rfl))
    try simp only [Act.put, List.setIfInBounds_toArray, List.set_cons_zero, List.set_cons_succ]
    refine wpAnyH_take (i := 7) (oi := ⟨some 186, _, _, _, _, _⟩) (v := ?_) rfl (by kernel_rfl) (by kernel_rfl) (by kernel_rfl) (fun _ _ _ h => h) (Or.inl ⟨by rfl, ?_⟩) hHeld ?_
    rotate_left
    · (intro w hSw; go_simp; (try with_reducible rfl))
    try simp only [Act.put, List.setIfInBounds_toArray, List.set_cons_zero, List.set_cons_succ]
    refine wpAnyH_take (i := 10) (oi := ⟨some 189, _, _, _, _, _⟩) (v := ?_) rfl (by kernel_rfl) (by kernel_rfl) (by kernel_rfl) (fun _ _ _ h => h) (Or.inl ⟨by rfl, ?_⟩) hHeld ?_
    rotate_left
    · (intro w hSw; go_simp; (try with_reducible rfl))
    try simp only [Act.put, List.setIfInBounds_toArray, List.set_cons_zero, List.set_cons_succ]
    refine wpAnyH_take (i := 11) (oi := ⟨some 190, _, _, _, _, _⟩) (v := ?_) rfl (by kernel_rfl) (by kernel_rfl) (by kernel_rfl) (fun _ _ _ h => h) (Or.inl ⟨by rfl, ?_⟩) hHeld ?_
    rotate_left
    · (intro w hSw; go_simp; (try with_reducible rfl))
    try simp only [Act.put, List.setIfInBounds_toArray, List.set_cons_zero, List.set_cons_succ]
    refine wpAnyH_ready (rs := [8]) (by kernel_rfl) (by simp) ?_
    refine AllReadyH.cons (o := ⟨some 187, _, _, _, _, _⟩) rfl (fun K hK => ?_) (AllReadyH.nil)
    go_simp
    obtain ⟨wn, hwn, hd, hk, hlt⟩ := new_row wc5 #[.string ⟨#[122]⟩, .string ⟨#[]⟩] 9
    obtain ⟨g8, hg⟩ : ∃ g, g = wc5.heap.size := ⟨_, rfl⟩
    rw [← hwn, ← hg]
    rw [← hg] at hd
    have D8 := Lib.hid hd
    have hHn : wd.grownBy wn none := grown_new hHeld (grown_kept hk none) (fun k e => by cases e)
    refine hK.out _ _ hHn (fun hx => ?_)
    replace hHeld := hHn
    clear hx hHn hk hwn hd hg hlt
    obtain ⟨wc8, rfl⟩ : ∃ x, x = wn := ⟨_, rfl⟩
    clear hK K
    try simp only [Act.put, List.setIfInBounds_toArray, List.set_cons_zero, List.set_cons_succ]
    refine wpAnyH_ready (rs := [9]) (by kernel_rfl) (by simp) ?_
    refine AllReadyH.cons (o := ⟨some 188, _, _, _, _, _⟩) rfl (fun K hK => ?_) (AllReadyH.nil)
    go_simp
    refine (of2O ⟨#[122]⟩ ⟨#[]⟩ g8 _ D8.out).mono ?_
    rintro e wn ⟨v9, rfl, ho, hk⟩
    clear D8
    have O9 := Lib.hid (own_mono ho hHeld.size)
    have hHn : wd.grownBy wn none := grown_new hHeld (grown_kept hk none) (fun k e => by cases e)
    refine hK.out _ _ hHn (fun hx => ?_)
    replace hHeld := hHn
    clear hx hHn hk ho
    obtain ⟨wc9, rfl⟩ : ∃ x, x = wn := ⟨_, rfl⟩
    clear hK K
    try simp only [Act.put, List.setIfInBounds_toArray, List.set_cons_zero, List.set_cons_succ]
    refine wpAnyH_ready (rs := [12]) (by kernel_rfl) (by simp) ?_
    refine AllReadyH.cons (o := ⟨some 191, _, _, _, _, _⟩) rfl (fun K hK => ?_) (AllReadyH.nil)
    refine wp_appG (by kernel_rfl) _ _ 28 rfl wd.heap.size i0 (.agg #[.string ⟨#[]⟩, .string ⟨#[]⟩]) 32 Tryz.underlying28 hi0 hz0 hz1 hz2 rfl v9 1 (labs [(⟨#[122]⟩, ⟨#[]⟩)]) rfl O9.out (some ad) 64 c14 (labs (L.take 64)) rfl (by have h := RLt.out 64 (by omega) _ hHeld; unfold RdL at h; rw [LTt.out 64 (by omega)] at h; exact h) ?_ (by unfold maxLen; omega) (by omega) hHeld.size ?_
    · exact labs_one _
    intro v12 wn hown hg
    have hHn : wd.grownBy wn none := grown_new hHeld hg (fun k e => (O9.out.lt k e).1)
    obtain ⟨A12, c12, rfl, hr⟩ := own_app (n := 64) (LTt.out 64 (by omega)) hown
    have R12 := Lib.hid hr
    refine hK.out _ _ hHn (fun hx => ?_)
    replace hHeld := hHn
    clear hx hHn hg hown hr O9
    obtain ⟨wc12, rfl⟩ : ∃ x, x = wn := ⟨_, rfl⟩
    clear hK K
    try simp only [Act.put, List.setIfInBounds_toArray, List.set_cons_zero, List.set_cons_succ]
    refine wpAnyH_ready (rs := [13]) (by kernel_rfl) (by simp) ?_
    refine AllReadyH.cons (o := ⟨some 192, _, _, _, _, _⟩) rfl (fun K hK => ?_) (AllReadyH.nil)
    go_simp
    refine (tellsN ([(⟨#[122]⟩, ⟨#[]⟩)] ++ L.take 64) (by rw [List.length_append, (LTt.out 64 (by omega))]; rfl) (by decide) R12.out (HT.out _ hHeld)).mono ?_
    rintro e wn ⟨rfl, hk⟩
    clear R12
    have hHn : wd.grownBy wn none := grown_new hHeld (grown_kept hk none) (fun k e => by cases e)
    refine hK.out _ _ hHn (fun hx => ?_)
    replace hHeld := hHn
    clear hx hHn hk 
    obtain ⟨wc13, rfl⟩ : ∃ x, x = wn := ⟨_, rfl⟩
    clear hK K
    try simp only [Act.put, List.setIfInBounds_toArray, List.set_cons_zero, List.set_cons_succ]
    refine wpAnyH_take (i := 14) (oi := ⟨some 193, _, _, _, _, _⟩) (v := ?_) rfl (by kernel_rfl) (by kernel_rfl) (by kernel_rfl) (fun _ _ _ h => h) (Or.inl ⟨by rfl, ?_⟩) hHeld ?_
    rotate_left
    · (intro w hSw; go_simp; (try with_reducible rfl))
    try simp only [Act.put, List.setIfInBounds_toArray, List.set_cons_zero, List.set_cons_succ]
    refine wpAnyH_take (i := 15) (oi := ⟨some 194, _, _, _, _, _⟩) (v := ?_) rfl (by kernel_rfl) (by kernel_rfl) (by kernel_rfl) (fun _ _ _ h => h) (Or.inl ⟨by rfl, ?_⟩) hHeld ?_
    rotate_left
    · (intro w hSw; go_simp; (try with_reducible rfl))
    try simp only [Act.put, List.setIfInBounds_toArray, List.set_cons_zero, List.set_cons_succ]
    refine wpAnyH_take (i := 16) (oi := ⟨some 195, _, _, _, _, _⟩) (v := ?_) rfl (by kernel_rfl) (by kernel_rfl) (by kernel_rfl) (fun _ _ _ h => h) (Or.inl ⟨by rfl, ?_⟩) hHeld ?_
    rotate_left
    · (intro w hSw; go_simp; (try with_reducible rfl))
    try simp only [Act.put, List.setIfInBounds_toArray, List.set_cons_zero, List.set_cons_succ]
    refine wpAnyH_take (i := 17) (oi := ⟨some 196, _, _, _, _, _⟩) (v := ?_) rfl (by kernel_rfl) (by kernel_rfl) (by kernel_rfl) (fun _ _ _ h => h) (Or.inl ⟨by rfl, ?_⟩) hHeld ?_
    rotate_left
    · (intro w hSw; go_simp; (try with_reducible rfl))
    try simp only [Act.put, List.setIfInBounds_toArray, List.set_cons_zero, List.set_cons_succ]
    refine wpAnyH_take (i := 18) (oi := ⟨some 197, _, _, _, _, _⟩) (v := ?_) rfl (by kernel_rfl) (by kernel_rfl) (by kernel_rfl) (fun _ _ _ h => h) (Or.inl ⟨by rfl, ?_⟩) hHeld ?_
    rotate_left
    · (intro w hSw; go_simp; (try with_reducible rfl))
    try simp only [Act.put, List.setIfInBounds_toArray, List.set_cons_zero, List.set_cons_succ]
    refine wpAnyH_take (i := 19) (oi := ⟨some 198, _, _, _, _, _⟩) (v := ?_) rfl (by kernel_rfl) (by kernel_rfl) (by kernel_rfl) (fun _ _ _ h => h) (Or.inl ⟨by rfl, ?_⟩) hHeld ?_
    rotate_left
    · (intro w hSw; go_simp; (try with_reducible rfl))
    try simp only [Act.put, List.setIfInBounds_toArray, List.set_cons_zero, List.set_cons_succ]
    refine wpAnyH_take (i := 20) (oi := ⟨some 199, _, _, _, _, _⟩) (v := ?_) rfl (by kernel_rfl) (by kernel_rfl) (by kernel_rfl) (fun _ _ _ h => h) (Or.inl ⟨by rfl, ?_⟩) hHeld ?_
    rotate_left
    · (intro w hSw; go_simp; (try with_reducible rfl))
    try simp only [Act.put, List.setIfInBounds_toArray, List.set_cons_zero, List.set_cons_succ]
    refine wpAnyH_ready (rs := [21]) (by kernel_rfl) (by simp) ?_
    refine AllReadyH.cons (o := ⟨some 200, _, _, _, _, _⟩) rfl (fun K hK => ?_) (AllReadyH.nil)
    go_simp
    obtain ⟨wn, hwn, hd, hk, hlt⟩ := new_row wc13 #[.string ⟨#[110]⟩] 9
    obtain ⟨g21, hg⟩ : ∃ g, g = wc13.heap.size := ⟨_, rfl⟩
    rw [← hwn, ← hg]
    rw [← hg] at hd
    have D21 := Lib.hid hd
    have hHn : wd.grownBy wn none := grown_new hHeld (grown_kept hk none) (fun k e => by cases e)
    refine hK.out _ _ hHn (fun hx => ?_)
    replace hHeld := hHn
    clear hx hHn hk hwn hd hg hlt
    obtain ⟨wc21, rfl⟩ : ∃ x, x = wn := ⟨_, rfl⟩
    clear hK K
    try simp only [Act.put, List.setIfInBounds_toArray, List.set_cons_zero, List.set_cons_succ]
    refine wpAnyH_ready (rs := [22]) (by kernel_rfl) (by simp) ?_
    refine AllReadyH.cons (o := ⟨some 201, _, _, _, _, _⟩) rfl (fun K hK => ?_) (AllReadyH.nil)
    go_simp
    refine (changesN (L.take 64) (L.drop 1) L [⟨#[110]⟩] (LTt.out 64 (by omega)) (by rw [List.length_drop, hLk.out]) hLk.out rfl (RLt.out 64 (by omega) _ hHeld) (RL1.out _ hHeld) (RL.out _ hHeld) (rd_row (xs := strs [⟨#[110]⟩]) D21.out) (HT.out _ hHeld)).mono ?_
    rintro e wn ⟨rfl, hk⟩
    clear D21
    have hHn : wd.grownBy wn none := grown_new hHeld (grown_kept hk none) (fun k e => by cases e)
    refine hK.out _ _ hHn (fun hx => ?_)
    replace hHeld := hHn
    clear hx hHn hk 
    obtain ⟨wc22, rfl⟩ : ∃ x, x = wn := ⟨_, rfl⟩
    clear hK K
    try simp only [Act.put, List.setIfInBounds_toArray, List.set_cons_zero, List.set_cons_succ]
    refine wpAnyH_take (i := 23) (oi := ⟨some 202, _, _, _, _, _⟩) (v := ?_) rfl (by kernel_rfl) (by kernel_rfl) (by kernel_rfl) (fun _ _ _ h => h) (Or.inl ⟨by rfl, ?_⟩) hHeld ?_
    rotate_left
    · (intro w hSw; go_simp; (try with_reducible rfl))
    try simp only [Act.put, List.setIfInBounds_toArray, List.set_cons_zero, List.set_cons_succ]
    refine wpAnyH_take (i := 24) (oi := ⟨some 203, _, _, _, _, _⟩) (v := ?_) rfl (by kernel_rfl) (by kernel_rfl) (by kernel_rfl) (fun _ _ _ h => h) (Or.inl ⟨by rfl, ?_⟩) hHeld ?_
    rotate_left
    · (intro w hSw; go_simp; (try with_reducible rfl))
    try simp only [Act.put, List.setIfInBounds_toArray, List.set_cons_zero, List.set_cons_succ]
    refine wpAnyH_take (i := 25) (oi := ⟨some 204, _, _, _, _, _⟩) (v := ?_) rfl (by kernel_rfl) (by kernel_rfl) (by kernel_rfl) (fun _ _ _ h => h) (Or.inl ⟨by rfl, ?_⟩) hHeld ?_
    rotate_left
    · (intro w hSw; go_simp; (try with_reducible rfl))
    try simp only [Act.put, List.setIfInBounds_toArray, List.set_cons_zero, List.set_cons_succ]
    refine wpAnyH_take (i := 26) (oi := ⟨some 205, _, _, _, _, _⟩) (v := ?_) rfl (by kernel_rfl) (by kernel_rfl) (by kernel_rfl) (fun _ _ _ h => h) (Or.inl ⟨by rfl, ?_⟩) hHeld ?_
    rotate_left
    · (intro w hSw; go_simp; (try with_reducible rfl))
    try simp only [Act.put, List.setIfInBounds_toArray, List.set_cons_zero, List.set_cons_succ]
    refine wpAnyH_take (i := 27) (oi := ⟨some 206, _, _, _, _, _⟩) (v := ?_) rfl (by kernel_rfl) (by kernel_rfl) (by kernel_rfl) (fun _ _ _ h => h) (Or.inl ⟨by rfl, ?_⟩) hHeld ?_
    rotate_left
    · (intro w hSw; go_simp; (try with_reducible rfl))
    try simp only [Act.put, List.setIfInBounds_toArray, List.set_cons_zero, List.set_cons_succ]
    refine wpAnyH_take (i := 28) (oi := ⟨some 207, _, _, _, _, _⟩) (v := ?_) rfl (by kernel_rfl) (by kernel_rfl) (by kernel_rfl) (fun _ _ _ h => h) (Or.inl ⟨by rfl, ?_⟩) hHeld ?_
    rotate_left
    · (intro w hSw; go_simp; (try with_reducible rfl))
    try simp only [Act.put, List.setIfInBounds_toArray, List.set_cons_zero, List.set_cons_succ]
    refine wpAnyH_ready (rs := [29]) (by kernel_rfl) (by simp) ?_
    refine AllReadyH.cons (o := ⟨some 208, _, _, _, _, _⟩) rfl (fun K hK => ?_) (AllReadyH.nil)
    go_simp
    obtain ⟨wn, hwn, hd, hk, hlt⟩ := new_row wc22 #[.string ⟨#[122, 122]⟩, .string ⟨#[49]⟩, .string ⟨#[122, 122]⟩, .string ⟨#[]⟩] 9
    obtain ⟨g29, hg⟩ : ∃ g, g = wc22.heap.size := ⟨_, rfl⟩
    rw [← hwn, ← hg]
    rw [← hg] at hd
    have D29 := Lib.hid hd
    have hHn : wd.grownBy wn none := grown_new hHeld (grown_kept hk none) (fun k e => by cases e)
    refine hK.out _ _ hHn (fun hx => ?_)
    replace hHeld := hHn
    clear hx hHn hk hwn hd hg hlt
    obtain ⟨wc29, rfl⟩ : ∃ x, x = wn := ⟨_, rfl⟩
    clear hK K
    try simp only [Act.put, List.setIfInBounds_toArray, List.set_cons_zero, List.set_cons_succ]
    refine wpAnyH_ready (rs := [30]) (by kernel_rfl) (by simp) ?_
    refine AllReadyH.cons (o := ⟨some 209, _, _, _, _, _⟩) rfl (fun K hK => ?_) (AllReadyH.nil)
    go_simp
    refine (of4At ⟨#[122, 122]⟩ ⟨#[49]⟩ ⟨#[122, 122]⟩ ⟨#[]⟩ g29 _ D29.out).mono ?_
    rintro e wn ⟨A30, c30, rfl, hr, hk⟩
    clear D29
    have R30 := Lib.hid hr
    have hHn : wd.grownBy wn none := grown_new hHeld (grown_kept hk none) (fun k e => by cases e)
    refine hK.out _ _ hHn (fun hx => ?_)
    replace hHeld := hHn
    clear hx hHn hk hr
    obtain ⟨wc30, rfl⟩ : ∃ x, x = wn := ⟨_, rfl⟩
    clear hK K
    try simp only [Act.put, List.setIfInBounds_toArray, List.set_cons_zero, List.set_cons_succ]
    refine wpAnyH_ready (rs := [31]) (by kernel_rfl) (by simp) ?_
    refine AllReadyH.cons (o := ⟨some 210, _, _, _, _, _⟩) rfl (fun K hK => ?_) (AllReadyH.nil)
    go_simp
    refine (changesN (L.take 64) (L.take 64) [(⟨#[122, 122]⟩, ⟨#[49]⟩), (⟨#[122, 122]⟩, ⟨#[]⟩)] [] (LTt.out 64 (by omega)) (LTt.out 64 (by omega)) rfl rfl (RLt.out 64 (by omega) _ hHeld) (RLt.out 64 (by omega) _ hHeld) R30.out rds_none (HT.out _ hHeld)).mono ?_
    rintro e wn ⟨rfl, hk⟩
    clear R30
    have hHn : wd.grownBy wn none := grown_new hHeld (grown_kept hk none) (fun k e => by cases e)
    refine hK.out _ _ hHn (fun hx => ?_)
    replace hHeld := hHn
    clear hx hHn hk 
    obtain ⟨wc31, rfl⟩ : ∃ x, x = wn := ⟨_, rfl⟩
    clear hK K
    try simp only [Act.put, List.setIfInBounds_toArray, List.set_cons_zero, List.set_cons_succ]
    refine wpAnyH_take (i := 32) (oi := ⟨some 211, _, _, _, _, _⟩) (v := ?_) rfl (by kernel_rfl) (by kernel_rfl) (by kernel_rfl) (fun _ _ _ h => h) (Or.inl ⟨by rfl, ?_⟩) hHeld ?_
    rotate_left
    · (intro w hSw; go_simp; (try with_reducible rfl))
    try simp only [Act.put, List.setIfInBounds_toArray, List.set_cons_zero, List.set_cons_succ]
    refine wpAnyH_take (i := 33) (oi := ⟨some 212, _, _, _, _, _⟩) (v := ?_) rfl (by kernel_rfl) (by kernel_rfl) (by kernel_rfl) (fun _ _ _ h => h) (Or.inl ⟨by rfl, ?_⟩) hHeld ?_
    rotate_left
    · (intro w hSw; go_simp; (try with_reducible rfl))
    try simp only [Act.put, List.setIfInBounds_toArray, List.set_cons_zero, List.set_cons_succ]
    refine wpAnyH_take (i := 34) (oi := ⟨some 213, _, _, _, _, _⟩) (v := ?_) rfl (by kernel_rfl) (by kernel_rfl) (by kernel_rfl) (fun _ _ _ h => h) (Or.inl ⟨by rfl, ?_⟩) hHeld ?_
    rotate_left
    · (intro w hSw; go_simp; (try with_reducible rfl))
    try simp only [Act.put, List.setIfInBounds_toArray, List.set_cons_zero, List.set_cons_succ]
    refine wpAnyH_take (i := 35) (oi := ⟨some 214, _, _, _, _, _⟩) (v := ?_) rfl (by kernel_rfl) (by kernel_rfl) (by kernel_rfl) (fun _ _ _ h => h) (Or.inl ⟨by rfl, ?_⟩) hHeld ?_
    rotate_left
    · (intro w hSw; go_simp; (try with_reducible rfl))
    try simp only [Act.put, List.setIfInBounds_toArray, List.set_cons_zero, List.set_cons_succ]
    refine wpAnyH_ready (rs := [36, 38, 40]) (by kernel_rfl) (by simp) ?_
    refine AllReadyH.cons (o := ⟨some 215, _, _, _, _, _⟩) rfl (fun K hK => ?_) (AllReadyH.cons (o := ⟨some 217, _, _, _, _, _⟩) rfl (fun K hK => ?_) (AllReadyH.cons (o := ⟨some 219, _, _, _, _, _⟩) rfl (fun K hK => ?_) (AllReadyH.nil)))
    ·
      go_simp
      obtain ⟨wn, hwn, hd, hk, hlt⟩ := new_row wc31 #[.string ⟨#[110, 97]⟩, .string ⟨#[49]⟩, .string ⟨#[122, 122]⟩, .string ⟨#[50]⟩] 9
      obtain ⟨g36, hg⟩ : ∃ g, g = wc31.heap.size := ⟨_, rfl⟩
      rw [← hwn, ← hg]
      rw [← hg] at hd
      have D36 := Lib.hid hd
      have hHn : wd.grownBy wn none := grown_new hHeld (grown_kept hk none) (fun k e => by cases e)
      refine hK.out _ _ hHn (fun hx => ?_)
      replace hHeld := hHn
      clear hx hHn hk hwn hd hg hlt
      obtain ⟨wc36, rfl⟩ : ∃ x, x = wn := ⟨_, rfl⟩
      clear hK K
      try simp only [Act.put, List.setIfInBounds_toArray, List.set_cons_zero, List.set_cons_succ]
      refine wpAnyH_ready (rs := [37, 38, 40]) (by kernel_rfl) (by simp) ?_
      refine AllReadyH.cons (o := ⟨some 216, _, _, _, _, _⟩) rfl (fun K hK => ?_) (AllReadyH.cons (o := ⟨some 217, _, _, _, _, _⟩) rfl (fun K hK => ?_) (AllReadyH.cons (o := ⟨some 219, _, _, _, _, _⟩) rfl (fun K hK => ?_) (AllReadyH.nil)))
      ·
        go_simp
        refine (of4At ⟨#[110, 97]⟩ ⟨#[49]⟩ ⟨#[122, 122]⟩ ⟨#[50]⟩ g36 _ D36.out).mono ?_
        rintro e wn ⟨A37, c37, rfl, hr, hk⟩
        clear D36
        have R37 := Lib.hid hr
        have hHn : wd.grownBy wn none := grown_new hHeld (grown_kept hk none) (fun k e => by cases e)
        refine hK.out _ _ hHn (fun hx => ?_)
        replace hHeld := hHn
        clear hx hHn hk hr
        obtain ⟨wc37, rfl⟩ : ∃ x, x = wn := ⟨_, rfl⟩
        clear hK K
        try simp only [Act.put, List.setIfInBounds_toArray, List.set_cons_zero, List.set_cons_succ]
        refine wpAnyH_ready (rs := [38, 40]) (by kernel_rfl) (by simp) ?_
        refine AllReadyH.cons (o := ⟨some 217, _, _, _, _, _⟩) rfl (fun K hK => ?_) (AllReadyH.cons (o := ⟨some 219, _, _, _, _, _⟩) rfl (fun K hK => ?_) (AllReadyH.nil))
        ·
          go_simp
          obtain ⟨wn, hwn, hd, hk, hlt⟩ := new_row wc37 #[.string ⟨#[122, 122]⟩, .string ⟨#[49]⟩, .string ⟨#[122, 122, 122]⟩, .string ⟨#[49]⟩] 9
          obtain ⟨g38, hg⟩ : ∃ g, g = wc37.heap.size := ⟨_, rfl⟩
          rw [← hwn, ← hg]
          rw [← hg] at hd
          replace R37 := Lib.hid (rd_kept hk R37.out)
          have D38 := Lib.hid hd
          have hHn : wd.grownBy wn none := grown_new hHeld (grown_kept hk none) (fun k e => by cases e)
          refine hK.out _ _ hHn (fun hx => ?_)
          replace hHeld := hHn
          clear hx hHn hk hwn hd hg hlt
          obtain ⟨wc38, rfl⟩ : ∃ x, x = wn := ⟨_, rfl⟩
          clear hK K
          try simp only [Act.put, List.setIfInBounds_toArray, List.set_cons_zero, List.set_cons_succ]
          refine wpAnyH_ready (rs := [39, 40]) (by kernel_rfl) (by simp) ?_
          refine AllReadyH.cons (o := ⟨some 218, _, _, _, _, _⟩) rfl (fun K hK => ?_) (AllReadyH.cons (o := ⟨some 219, _, _, _, _, _⟩) rfl (fun K hK => ?_) (AllReadyH.nil))
          ·
            go_simp
            refine (of4At ⟨#[122, 122]⟩ ⟨#[49]⟩ ⟨#[122, 122, 122]⟩ ⟨#[49]⟩ g38 _ D38.out).mono ?_
            rintro e wn ⟨A39, c39, rfl, hr, hk⟩
            clear D38
            replace R37 := Lib.hid (rd_kept hk R37.out)
            have R39 := Lib.hid hr
            have hHn : wd.grownBy wn none := grown_new hHeld (grown_kept hk none) (fun k e => by cases e)
            refine hK.out _ _ hHn (fun hx => ?_)
            replace hHeld := hHn
            clear hx hHn hk hr
            obtain ⟨wc39, rfl⟩ : ∃ x, x = wn := ⟨_, rfl⟩
            clear hK K
            try simp only [Act.put, List.setIfInBounds_toArray, List.set_cons_zero, List.set_cons_succ]
            refine wpAnyH_ready (rs := [40]) (by kernel_rfl) (by simp) ?_
            refine AllReadyH.cons (o := ⟨some 219, _, _, _, _, _⟩) rfl (fun K hK => ?_) (AllReadyH.nil)
            go_simp
            obtain ⟨wn, hwn, hd, hk, hlt⟩ := new_row wc39 #[.string ⟨#[]⟩] 9
            obtain ⟨g40, hg⟩ : ∃ g, g = wc39.heap.size := ⟨_, rfl⟩
            rw [← hwn, ← hg]
            rw [← hg] at hd
            replace R37 := Lib.hid (rd_kept hk R37.out)
            replace R39 := Lib.hid (rd_kept hk R39.out)
            have D40 := Lib.hid hd
            have hHn : wd.grownBy wn none := grown_new hHeld (grown_kept hk none) (fun k e => by cases e)
            refine hK.out _ _ hHn (fun hx => ?_)
            replace hHeld := hHn
            clear hx hHn hk hwn hd hg hlt
            obtain ⟨wc40, rfl⟩ : ∃ x, x = wn := ⟨_, rfl⟩
            clear hK K
            try simp only [Act.put, List.setIfInBounds_toArray, List.set_cons_zero, List.set_cons_succ]
            refine wpAnyH_ready (rs := [41]) (by kernel_rfl) (by simp) ?_
            refine AllReadyH.cons (o := ⟨some 220, _, _, _, _, _⟩) rfl (fun K hK => ?_) (AllReadyH.nil)
            go_simp
            refine (changesN (L.take 63) [(⟨#[110, 97]⟩, ⟨#[49]⟩), (⟨#[122, 122]⟩, ⟨#[50]⟩)] [(⟨#[122, 122]⟩, ⟨#[49]⟩), (⟨#[122, 122, 122]⟩, ⟨#[49]⟩)] [⟨#[]⟩] (LTt.out 63 (by omega)) rfl rfl rfl (RLt.out 63 (by omega) _ hHeld) R37.out R39.out (rd_row (xs := strs [⟨#[]⟩]) D40.out) (HT.out _ hHeld)).mono ?_
            rintro e wn ⟨rfl, hk⟩
            clear R37
            clear R39
            clear D40
            have hHn : wd.grownBy wn none := grown_new hHeld (grown_kept hk none) (fun k e => by cases e)
            refine hK.out _ _ hHn (fun hx => ?_)
            replace hHeld := hHn
            clear hx hHn hk 
            obtain ⟨wc41, rfl⟩ : ∃ x, x = wn := ⟨_, rfl⟩
            clear hK K
            try simp only [Act.put, List.setIfInBounds_toArray, List.set_cons_zero, List.set_cons_succ]
            revert ia1 ia2 ia3 u1 u2 u18 u19 u20 u21 u22 u23 u24 u25 u26 u27 u28 u29 u30 u31 u32 u33 u34 u35 u36 u37 u38 u39 u40 u41 u42 u43 u44 u45 u46 u47 u48 u49 u50 u51 u52 u53 u54 ia4 w1 ia5 ia6 ia7 ia8 ia9 ia10 u4 u5 u58 u59 u60 u61 u62 u63 u64 u65 u66 u67 u68 u69 u70 u71 u72 u73 u74 u75 u76 u77 u78 u79 u80 u81 u82 u83 u84 u85 u86 u87 u88 u89 u90 u91 u92 u93 u94 u95 ia11 w2 ia12 ia13 ia14 ia15 w0 g6 ia16 u0 u8 u10 u12 u13 u108 u109 u110 u111 u112 u113 u114 u115 u116 u117 u118 u119 u120 u121 u122 u123 u124 u125 u126 u127 u128 u129 u130 u131 u132 u133 u134 u135 u136 u137 u138 u139 u140 u141 u142 u143 u144 u145 u146 u147 u148 u149 u150 u151 u152 u153 u154 u155 u156 u157 u158 k3 ia17 ia18 w3 i0 hi0 hz0 hz1 hz2 ia19 ia20 ia21 ia22 h1 u15 u160 u161 u162 u163 u164 u165 u166 u167 u168 u169 u170 u171 u172 u173 u174 u175 u176 u177 k L hk hkn w4 c14 hc14 hk65 ad had l hl1 C ia23 ia24 ia25 w5 h2 ia26 ia27 ia28 ia29 ia30 ia31 wd RL HT Hfin hc64 hc63 hk1 RLt hLk LTt RL1 hl120 wc1 wc5 g8 wc8 v9 wc9 A12 c12 wc12 wc13 g21 wc21 wc22 g29 wc29 A30 c30 wc30 wc31 g36 wc36 A37 c37 wc37 g38 wc38 A39 c39 wc39 g40 wc40 wc41 hHeld
            exact q1.out
          ·
            go_simp
            obtain ⟨wn, hwn, hd, hk, hlt⟩ := new_row wc38 #[.string ⟨#[]⟩] 9
            obtain ⟨g40, hg⟩ : ∃ g, g = wc38.heap.size := ⟨_, rfl⟩
            rw [← hwn, ← hg]
            rw [← hg] at hd
            replace D38 := Lib.hid (heap_kept hk D38.out)
            replace R37 := Lib.hid (rd_kept hk R37.out)
            have D40 := Lib.hid hd
            have hHn : wd.grownBy wn none := grown_new hHeld (grown_kept hk none) (fun k e => by cases e)
            refine hK.out _ _ hHn (fun hx => ?_)
            replace hHeld := hHn
            clear hx hHn hk hwn hd hg hlt
            obtain ⟨wc40, rfl⟩ : ∃ x, x = wn := ⟨_, rfl⟩
            clear hK K
            try simp only [Act.put, List.setIfInBounds_toArray, List.set_cons_zero, List.set_cons_succ]
            refine wpAnyH_ready (rs := [39]) (by kernel_rfl) (by simp) ?_
            refine AllReadyH.cons (o := ⟨some 218, _, _, _, _, _⟩) rfl (fun K hK => ?_) (AllReadyH.nil)
            go_simp
            refine (of4At ⟨#[122, 122]⟩ ⟨#[49]⟩ ⟨#[122, 122, 122]⟩ ⟨#[49]⟩ g38 _ D38.out).mono ?_
            rintro e wn ⟨A39, c39, rfl, hr, hk⟩
            clear D38
            replace D40 := Lib.hid (heap_kept hk D40.out)
            replace R37 := Lib.hid (rd_kept hk R37.out)
            have R39 := Lib.hid hr
            have hHn : wd.grownBy wn none := grown_new hHeld (grown_kept hk none) (fun k e => by cases e)
            refine hK.out _ _ hHn (fun hx => ?_)
            replace hHeld := hHn
            clear hx hHn hk hr
            obtain ⟨wc39, rfl⟩ : ∃ x, x = wn := ⟨_, rfl⟩
            clear hK K
            try simp only [Act.put, List.setIfInBounds_toArray, List.set_cons_zero, List.set_cons_succ]
            refine wpAnyH_ready (rs := [41]) (by kernel_rfl) (by simp) ?_
            refine AllReadyH.cons (o := ⟨some 220, _, _, _, _, _⟩) rfl (fun K hK => ?_) (AllReadyH.nil)
            go_simp
            refine (changesN (L.take 63) [(⟨#[110, 97]⟩, ⟨#[49]⟩), (⟨#[122, 122]⟩, ⟨#[50]⟩)] [(⟨#[122, 122]⟩, ⟨#[49]⟩), (⟨#[122, 122, 122]⟩, ⟨#[49]⟩)] [⟨#[]⟩] (LTt.out 63 (by omega)) rfl rfl rfl (RLt.out 63 (by omega) _ hHeld) R37.out R39.out (rd_row (xs := strs [⟨#[]⟩]) D40.out) (HT.out _ hHeld)).mono ?_
            rintro e wn ⟨rfl, hk⟩
            clear R37
            clear R39
            clear D40
            have hHn : wd.grownBy wn none := grown_new hHeld (grown_kept hk none) (fun k e => by cases e)
            refine hK.out _ _ hHn (fun hx => ?_)
            replace hHeld := hHn
            clear hx hHn hk 
            obtain ⟨wc41, rfl⟩ : ∃ x, x = wn := ⟨_, rfl⟩
            clear hK K
            try simp only [Act.put, List.setIfInBounds_toArray, List.set_cons_zero, List.set_cons_succ]
            exact q1.out ia2 ia3 u1 u2 u18 u19 u20 u21 u22 u23 u24 u25 u26 u27 u28 u29 u30 u31 u32 u33 u34 u35 u36 u37 u38 u39 u40 u41 u42 u43 u44 u45 u46 u47 u48 u49 u50 u51 u52 u53 u54 ia4 w1 ia6 ia7 ia8 ia9 ia10 u4 u5 u58 u59 u60 u61 u62 u63 u64 u65 u66 u67 u68 u69 u70 u71 u72 u73 u74 u75 u76 u77 u78 u79 u80 u81 u82 u83 u84 u85 u86 u87 u88 u89 u90 u91 u92 u93 u94 u95 ia11 w2 ia13 ia14 ia15 w0 g6 ia16 u0 u8 u10 u12 u13 u108 u109 u110 u111 u112 u113 u114 u115 u116 u117 u118 u119 u120 u121 u122 u123 u124 u125 u126 u127 u128 u129 u130 u131 u132 u133 u134 u135 u136 u137 u138 u139 u140 u141 u142 u143 u144 u145 u146 u147 u148 u149 u150 u151 u152 u153 u154 u155 u156 u157 u158 k3 ia17 ia18 w3 i0 hi0 hz0 hz1 hz2 ia20 ia21 ia22 h1 u15 u160 u161 u162 u163 u164 u165 u166 u167 u168 u169 u170 u171 u172 u173 u174 u175 u176 u177 k L hk hkn w4 c14 hc14 hk65 ad had l hl1 C ia24 ia25 w5 h2 ia26 ia27 ia28 ia29 ia30 ia31 wd RL HT Hfin hc64 hc63 hk1 RLt hLk LTt RL1 hl120 wc1 wc5 g8 wc8 v9 wc9 A12 c12 wc12 wc13 g21 wc21 wc22 g29 wc29 A30 c30 wc30 wc31 g36 wc36 A37 c37 wc37 g38 wc38 A39 c39 wc39 g40 wc40 wc41 hHeld
        ·
          go_simp
          obtain ⟨wn, hwn, hd, hk, hlt⟩ := new_row wc37 #[.string ⟨#[]⟩] 9
          obtain ⟨g40, hg⟩ : ∃ g, g = wc37.heap.size := ⟨_, rfl⟩
          rw [← hwn, ← hg]
          rw [← hg] at hd
          replace R37 := Lib.hid (rd_kept hk R37.out)
          have D40 := Lib.hid hd
          have hHn : wd.grownBy wn none := grown_new hHeld (grown_kept hk none) (fun k e => by cases e)
          refine hK.out _ _ hHn (fun hx => ?_)
          replace hHeld := hHn
          clear hx hHn hk hwn hd hg hlt
          obtain ⟨wc40, rfl⟩ : ∃ x, x = wn := ⟨_, rfl⟩
          clear hK K
          try simp only [Act.put, List.setIfInBounds_toArray, List.set_cons_zero, List.set_cons_succ]
          refine wpAnyH_ready (rs := [38]) (by kernel_rfl) (by simp) ?_
          refine AllReadyH.cons (o := ⟨some 217, _, _, _, _, _⟩) rfl (fun K hK => ?_) (AllReadyH.nil)
          go_simp
          obtain ⟨wn, hwn, hd, hk, hlt⟩ := new_row wc40 #[.string ⟨#[122, 122]⟩, .string ⟨#[49]⟩, .string ⟨#[122, 122, 122]⟩, .string ⟨#[49]⟩] 9
          obtain ⟨g38, hg⟩ : ∃ g, g = wc40.heap.size := ⟨_, rfl⟩
          rw [← hwn, ← hg]
          rw [← hg] at hd
          replace D40 := Lib.hid (heap_kept hk D40.out)
          replace R37 := Lib.hid (rd_kept hk R37.out)
          have D38 := Lib.hid hd
          have hHn : wd.grownBy wn none := grown_new hHeld (grown_kept hk none) (fun k e => by cases e)
          refine hK.out _ _ hHn (fun hx => ?_)
          replace hHeld := hHn
          clear hx hHn hk hwn hd hg hlt
          obtain ⟨wc38, rfl⟩ : ∃ x, x = wn := ⟨_, rfl⟩
          clear hK K
          try simp only [Act.put, List.setIfInBounds_toArray, List.set_cons_zero, List.set_cons_succ]
          refine wpAnyH_ready (rs := [39]) (by kernel_rfl) (by simp) ?_
          refine AllReadyH.cons (o := ⟨some 218, _, _, _, _, _⟩) rfl (fun K hK => ?_) (AllReadyH.nil)
          go_simp
          refine (of4At ⟨#[122, 122]⟩ ⟨#[49]⟩ ⟨#[122, 122, 122]⟩ ⟨#[49]⟩ g38 _ D38.out).mono ?_
          rintro e wn ⟨A39, c39, rfl, hr, hk⟩
          clear D38
          replace D40 := Lib.hid (heap_kept hk D40.out)
          replace R37 := Lib.hid (rd_kept hk R37.out)
          have R39 := Lib.hid hr
          have hHn : wd.grownBy wn none := grown_new hHeld (grown_kept hk none) (fun k e => by cases e)
          refine hK.out _ _ hHn (fun hx => ?_)
          replace hHeld := hHn
          clear hx hHn hk hr
          obtain ⟨wc39, rfl⟩ : ∃ x, x = wn := ⟨_, rfl⟩
          clear hK K
          try simp only [Act.put, List.setIfInBounds_toArray, List.set_cons_zero, List.set_cons_succ]
          refine wpAnyH_ready (rs := [41]) (by kernel_rfl) (by simp) ?_
          refine AllReadyH.cons (o := ⟨some 220, _, _, _, _, _⟩) rfl (fun K hK => ?_) (AllReadyH.nil)
          go_simp
          refine (changesN (L.take 63) [(⟨#[110, 97]⟩, ⟨#[49]⟩), (⟨#[122, 122]⟩, ⟨#[50]⟩)] [(⟨#[122, 122]⟩, ⟨#[49]⟩), (⟨#[122, 122, 122]⟩, ⟨#[49]⟩)] [⟨#[]⟩] (LTt.out 63 (by omega)) rfl rfl rfl (RLt.out 63 (by omega) _ hHeld) R37.out R39.out (rd_row (xs := strs [⟨#[]⟩]) D40.out) (HT.out _ hHeld)).mono ?_
          rintro e wn ⟨rfl, hk⟩
          clear R37
          clear R39
          clear D40
          have hHn : wd.grownBy wn none := grown_new hHeld (grown_kept hk none) (fun k e => by cases e)
          refine hK.out _ _ hHn (fun hx => ?_)
          replace hHeld := hHn
          clear hx hHn hk 
          obtain ⟨wc41, rfl⟩ : ∃ x, x = wn := ⟨_, rfl⟩
          clear hK K
          try simp only [Act.put, List.setIfInBounds_toArray, List.set_cons_zero, List.set_cons_succ]
          exact q1.out ia2 ia3 u1 u2 u18 u19 u20 u21 u22 u23 u24 u25 u26 u27 u28 u29 u30 u31 u32 u33 u34 u35 u36 u37 u38 u39 u40 u41 u42 u43 u44 u45 u46 u47 u48 u49 u50 u51 u52 u53 u54 ia4 w1 ia6 ia7 ia8 ia9 ia10 u4 u5 u58 u59 u60 u61 u62 u63 u64 u65 u66 u67 u68 u69 u70 u71 u72 u73 u74 u75 u76 u77 u78 u79 u80 u81 u82 u83 u84 u85 u86 u87 u88 u89 u90 u91 u92 u93 u94 u95 ia11 w2 ia13 ia14 ia15 w0 g6 ia16 u0 u8 u10 u12 u13 u108 u109 u110 u111 u112 u113 u114 u115 u116 u117 u118 u119 u120 u121 u122 u123 u124 u125 u126 u127 u128 u129 u130 u131 u132 u133 u134 u135 u136 u137 u138 u139 u140 u141 u142 u143 u144 u145 u146 u147 u148 u149 u150 u151 u152 u153 u154 u155 u156 u157 u158 k3 ia17 ia18 w3 i0 hi0 hz0 hz1 hz2 ia20 ia21 ia22 h1 u15 u160 u161 u162 u163 u164 u165 u166 u167 u168 u169 u170 u171 u172 u173 u174 u175 u176 u177 k L hk hkn w4 c14 hc14 hk65 ad had l hl1 C ia24 ia25 w5 h2 ia26 ia27 ia28 ia29 ia30 ia31 wd RL HT Hfin hc64 hc63 hk1 RLt hLk LTt RL1 hl120 wc1 wc5 g8 wc8 v9 wc9 A12 c12 wc12 wc13 g21 wc21 wc22 g29 wc29 A30 c30 wc30 wc31 g36 wc36 A37 c37 wc37 g38 wc38 A39 c39 wc39 g40 wc40 wc41 hHeld
      ·
        go_simp
        obtain ⟨wn, hwn, hd, hk, hlt⟩ := new_row wc36 #[.string ⟨#[122, 122]⟩, .string ⟨#[49]⟩, .string ⟨#[122, 122, 122]⟩, .string ⟨#[49]⟩] 9
        obtain ⟨g38, hg⟩ : ∃ g, g = wc36.heap.size := ⟨_, rfl⟩
        rw [← hwn, ← hg]
        rw [← hg] at hd
        replace D36 := Lib.hid (heap_kept hk D36.out)
        have D38 := Lib.hid hd
        have hHn : wd.grownBy wn none := grown_new hHeld (grown_kept hk none) (fun k e => by cases e)
        refine hK.out _ _ hHn (fun hx => ?_)
        replace hHeld := hHn
        clear hx hHn hk hwn hd hg hlt
        obtain ⟨wc38, rfl⟩ : ∃ x, x = wn := ⟨_, rfl⟩
        clear hK K
        try simp only [Act.put, List.setIfInBounds_toArray, List.set_cons_zero, List.set_cons_succ]
        refine wpAnyH_ready (rs := [37, 40]) (by kernel_rfl) (by simp) ?_
        refine AllReadyH.cons (o := ⟨some 216, _, _, _, _, _⟩) rfl (fun K hK => ?_) (AllReadyH.cons (o := ⟨some 219, _, _, _, _, _⟩) rfl (fun K hK => ?_) (AllReadyH.nil))
        ·
          go_simp
          refine (of4At ⟨#[110, 97]⟩ ⟨#[49]⟩ ⟨#[122, 122]⟩ ⟨#[50]⟩ g36 _ D36.out).mono ?_
          rintro e wn ⟨A37, c37, rfl, hr, hk⟩
          clear D36
          replace D38 := Lib.hid (heap_kept hk D38.out)
          have R37 := Lib.hid hr
          have hHn : wd.grownBy wn none := grown_new hHeld (grown_kept hk none) (fun k e => by cases e)
          refine hK.out _ _ hHn (fun hx => ?_)
          replace hHeld := hHn
          clear hx hHn hk hr
          obtain ⟨wc37, rfl⟩ : ∃ x, x = wn := ⟨_, rfl⟩
          clear hK K
          try simp only [Act.put, List.setIfInBounds_toArray, List.set_cons_zero, List.set_cons_succ]
          refine wpAnyH_ready (rs := [39, 40]) (by kernel_rfl) (by simp) ?_
          refine AllReadyH.cons (o := ⟨some 218, _, _, _, _, _⟩) rfl (fun K hK => ?_) (AllReadyH.cons (o := ⟨some 219, _, _, _, _, _⟩) rfl (fun K hK => ?_) (AllReadyH.nil))
          ·
            go_simp
            refine (of4At ⟨#[122, 122]⟩ ⟨#[49]⟩ ⟨#[122, 122, 122]⟩ ⟨#[49]⟩ g38 _ D38.out).mono ?_
            rintro e wn ⟨A39, c39, rfl, hr, hk⟩
            clear D38
            replace R37 := Lib.hid (rd_kept hk R37.out)
            have R39 := Lib.hid hr
            have hHn : wd.grownBy wn none := grown_new hHeld (grown_kept hk none) (fun k e => by cases e)
            refine hK.out _ _ hHn (fun hx => ?_)
            replace hHeld := hHn
            clear hx hHn hk hr
            obtain ⟨wc39, rfl⟩ : ∃ x, x = wn := ⟨_, rfl⟩
            clear hK K
            try simp only [Act.put, List.setIfInBounds_toArray, List.set_cons_zero, List.set_cons_succ]
            refine wpAnyH_ready (rs := [40]) (by kernel_rfl) (by simp) ?_
            refine AllReadyH.cons (o := ⟨some 219, _, _, _, _, _⟩) rfl (fun K hK => ?_) (AllReadyH.nil)
            go_simp
            obtain ⟨wn, hwn, hd, hk, hlt⟩ := new_row wc39 #[.string ⟨#[]⟩] 9
            obtain ⟨g40, hg⟩ : ∃ g, g = wc39.heap.size := ⟨_, rfl⟩
            rw [← hwn, ← hg]
            rw [← hg] at hd
            replace R37 := Lib.hid (rd_kept hk R37.out)
            replace R39 := Lib.hid (rd_kept hk R39.out)
            have D40 := Lib.hid hd
            have hHn : wd.grownBy wn none := grown_new hHeld (grown_kept hk none) (fun k e => by cases e)
            refine hK.out _ _ hHn (fun hx => ?_)
            replace hHeld := hHn
            clear hx hHn hk hwn hd hg hlt
            obtain ⟨wc40, rfl⟩ : ∃ x, x = wn := ⟨_, rfl⟩
            clear hK K
            try simp only [Act.put, List.setIfInBounds_toArray, List.set_cons_zero, List.set_cons_succ]
            refine wpAnyH_ready (rs := [41]) (by kernel_rfl) (by simp) ?_
            refine AllReadyH.cons (o := ⟨some 220, _, _, _, _, _⟩) rfl (fun K hK => ?_) (AllReadyH.nil)
            go_simp
            refine (changesN (L.take 63) [(⟨#[110, 97]⟩, ⟨#[49]⟩), (⟨#[122, 122]⟩, ⟨#[50]⟩)] [(⟨#[122, 122]⟩, ⟨#[49]⟩), (⟨#[122, 122, 122]⟩, ⟨#[49]⟩)] [⟨#[]⟩] (LTt.out 63 (by omega)) rfl rfl rfl (RLt.out 63 (by omega) _ hHeld) R37.out R39.out (rd_row (xs := strs [⟨#[]⟩]) D40.out) (HT.out _ hHeld)).mono ?_
            rintro e wn ⟨rfl, hk⟩
            clear R37
            clear R39
            clear D40
            have hHn : wd.grownBy wn none := grown_new hHeld (grown_kept hk none) (fun k e => by cases e)
            refine hK.out _ _ hHn (fun hx => ?_)
            replace hHeld := hHn
            clear hx hHn hk 
            obtain ⟨wc41, rfl⟩ : ∃ x, x = wn := ⟨_, rfl⟩
            clear hK K
            try simp only [Act.put, List.setIfInBounds_toArray, List.set_cons_zero, List.set_cons_succ]
            exact q1.out ia2 ia3 u1 u2 u18 u19 u20 u21 u22 u23 u24 u25 u26 u27 u28 u29 u30 u31 u32 u33 u34 u35 u36 u37 u38 u39 u40 u41 u42 u43 u44 u45 u46 u47 u48 u49 u50 u51 u52 u53 u54 ia4 w1 ia6 ia7 ia8 ia9 ia10 u4 u5 u58 u59 u60 u61 u62 u63 u64 u65 u66 u67 u68 u69 u70 u71 u72 u73 u74 u75 u76 u77 u78 u79 u80 u81 u82 u83 u84 u85 u86 u87 u88 u89 u90 u91 u92 u93 u94 u95 ia11 w2 ia13 ia14 ia15 w0 g6 ia16 u0 u8 u10 u12 u13 u108 u109 u110 u111 u112 u113 u114 u115 u116 u117 u118 u119 u120 u121 u122 u123 u124 u125 u126 u127 u128 u129 u130 u131 u132 u133 u134 u135 u136 u137 u138 u139 u140 u141 u142 u143 u144 u145 u146 u147 u148 u149 u150 u151 u152 u153 u154 u155 u156 u157 u158 k3 ia17 ia18 w3 i0 hi0 hz0 hz1 hz2 ia20 ia21 ia22 h1 u15 u160 u161 u162 u163 u164 u165 u166 u167 u168 u169 u170 u171 u172 u173 u174 u175 u176 u177 k L hk hkn w4 c14 hc14 hk65 ad had l hl1 C ia24 ia25 w5 h2 ia26 ia27 ia28 ia29 ia30 ia31 wd RL HT Hfin hc64 hc63 hk1 RLt hLk LTt RL1 hl120 wc1 wc5 g8 wc8 v9 wc9 A12 c12 wc12 wc13 g21 wc21 wc22 g29 wc29 A30 c30 wc30 wc31 g36 wc36 A37 c37 wc37 g38 wc38 A39 c39 wc39 g40 wc40 wc41 hHeld
          ·
            go_simp
            obtain ⟨wn, hwn, hd, hk, hlt⟩ := new_row wc37 #[.string ⟨#[]⟩] 9
            obtain ⟨g40, hg⟩ : ∃ g, g = wc37.heap.size := ⟨_, rfl⟩
            rw [← hwn, ← hg]
            rw [← hg] at hd
            replace D38 := Lib.hid (heap_kept hk D38.out)
            replace R37 := Lib.hid (rd_kept hk R37.out)
            have D40 := Lib.hid hd
            have hHn : wd.grownBy wn none := grown_new hHeld (grown_kept hk none) (fun k e => by cases e)
            refine hK.out _ _ hHn (fun hx => ?_)
            replace hHeld := hHn
            clear hx hHn hk hwn hd hg hlt
            obtain ⟨wc40, rfl⟩ : ∃ x, x = wn := ⟨_, rfl⟩
            clear hK K
            try simp only [Act.put, List.setIfInBounds_toArray, List.set_cons_zero, List.set_cons_succ]
            refine wpAnyH_ready (rs := [39]) (by kernel_rfl) (by simp) ?_
            refine AllReadyH.cons (o := ⟨some 218, _, _, _, _, _⟩) rfl (fun K hK => ?_) (AllReadyH.nil)
            go_simp
            refine (of4At ⟨#[122, 122]⟩ ⟨#[49]⟩ ⟨#[122, 122, 122]⟩ ⟨#[49]⟩ g38 _ D38.out).mono ?_
            rintro e wn ⟨A39, c39, rfl, hr, hk⟩
            clear D38
            replace D40 := Lib.hid (heap_kept hk D40.out)
            replace R37 := Lib.hid (rd_kept hk R37.out)
            have R39 := Lib.hid hr
            have hHn : wd.grownBy wn none := grown_new hHeld (grown_kept hk none) (fun k e => by cases e)
            refine hK.out _ _ hHn (fun hx => ?_)
            replace hHeld := hHn
            clear hx hHn hk hr
            obtain ⟨wc39, rfl⟩ : ∃ x, x = wn := ⟨_, rfl⟩
            clear hK K
            try simp only [Act.put, List.setIfInBounds_toArray, List.set_cons_zero, List.set_cons_succ]
            refine wpAnyH_ready (rs := [41]) (by kernel_rfl) (by simp) ?_
            refine AllReadyH.cons (o := ⟨some 220, _, _, _, _, _⟩) rfl (fun K hK => ?_) (AllReadyH.nil)
            go_simp
            refine (changesN (L.take 63) [(⟨#[110, 97]⟩, ⟨#[49]⟩), (⟨#[122, 122]⟩, ⟨#[50]⟩)] [(⟨#[122, 122]⟩, ⟨#[49]⟩), (⟨#[122, 122, 122]⟩, ⟨#[49]⟩)] [⟨#[]⟩] (LTt.out 63 (by omega)) rfl rfl rfl (RLt.out 63 (by omega) _ hHeld) R37.out R39.out (rd_row (xs := strs [⟨#[]⟩]) D40.out) (HT.out _ hHeld)).mono ?_
            rintro e wn ⟨rfl, hk⟩
            clear R37
            clear R39
            clear D40
            have hHn : wd.grownBy wn none := grown_new hHeld (grown_kept hk none) (fun k e => by cases e)
            refine hK.out _ _ hHn (fun hx => ?_)
            replace hHeld := hHn
            clear hx hHn hk 
            obtain ⟨wc41, rfl⟩ : ∃ x, x = wn := ⟨_, rfl⟩
            clear hK K
            try simp only [Act.put, List.setIfInBounds_toArray, List.set_cons_zero, List.set_cons_succ]
            exact q1.out ia2 ia3 u1 u2 u18 u19 u20 u21 u22 u23 u24 u25 u26 u27 u28 u29 u30 u31 u32 u33 u34 u35 u36 u37 u38 u39 u40 u41 u42 u43 u44 u45 u46 u47 u48 u49 u50 u51 u52 u53 u54 ia4 w1 ia6 ia7 ia8 ia9 ia10 u4 u5 u58 u59 u60 u61 u62 u63 u64 u65 u66 u67 u68 u69 u70 u71 u72 u73 u74 u75 u76 u77 u78 u79 u80 u81 u82 u83 u84 u85 u86 u87 u88 u89 u90 u91 u92 u93 u94 u95 ia11 w2 ia13 ia14 ia15 w0 g6 ia16 u0 u8 u10 u12 u13 u108 u109 u110 u111 u112 u113 u114 u115 u116 u117 u118 u119 u120 u121 u122 u123 u124 u125 u126 u127 u128 u129 u130 u131 u132 u133 u134 u135 u136 u137 u138 u139 u140 u141 u142 u143 u144 u145 u146 u147 u148 u149 u150 u151 u152 u153 u154 u155 u156 u157 u158 k3 ia17 ia18 w3 i0 hi0 hz0 hz1 hz2 ia20 ia21 ia22 h1 u15 u160 u161 u162 u163 u164 u165 u166 u167 u168 u169 u170 u171 u172 u173 u174 u175 u176 u177 k L hk hkn w4 c14 hc14 hk65 ad had l hl1 C ia24 ia25 w5 h2 ia26 ia27 ia28 ia29 ia30 ia31 wd RL HT Hfin hc64 hc63 hk1 RLt hLk LTt RL1 hl120 wc1 wc5 g8 wc8 v9 wc9 A12 c12 wc12 wc13 g21 wc21 wc22 g29 wc29 A30 c30 wc30 wc31 g36 wc36 A37 c37 wc37 g38 wc38 A39 c39 wc39 g40 wc40 wc41 hHeld
        ·
          go_simp
          obtain ⟨wn, hwn, hd, hk, hlt⟩ := new_row wc38 #[.string ⟨#[]⟩] 9
          obtain ⟨g40, hg⟩ : ∃ g, g = wc38.heap.size := ⟨_, rfl⟩
          rw [← hwn, ← hg]
          rw [← hg] at hd
          replace D36 := Lib.hid (heap_kept hk D36.out)
          replace D38 := Lib.hid (heap_kept hk D38.out)
          have D40 := Lib.hid hd
          have hHn : wd.grownBy wn none := grown_new hHeld (grown_kept hk none) (fun k e => by cases e)
          refine hK.out _ _ hHn (fun hx => ?_)
          replace hHeld := hHn
          clear hx hHn hk hwn hd hg hlt
          obtain ⟨wc40, rfl⟩ : ∃ x, x = wn := ⟨_, rfl⟩
          clear hK K
          try simp only [Act.put, List.setIfInBounds_toArray, List.set_cons_zero, List.set_cons_succ]
          refine wpAnyH_ready (rs := [37]) (by kernel_rfl) (by simp) ?_
          refine AllReadyH.cons (o := ⟨some 216, _, _, _, _, _⟩) rfl (fun K hK => ?_) (AllReadyH.nil)
          go_simp
          refine (of4At ⟨#[110, 97]⟩ ⟨#[49]⟩ ⟨#[122, 122]⟩ ⟨#[50]⟩ g36 _ D36.out).mono ?_
          rintro e wn ⟨A37, c37, rfl, hr, hk⟩
          clear D36
          replace D38 := Lib.hid (heap_kept hk D38.out)
          replace D40 := Lib.hid (heap_kept hk D40.out)
          have R37 := Lib.hid hr
          have hHn : wd.grownBy wn none := grown_new hHeld (grown_kept hk none) (fun k e => by cases e)
          refine hK.out _ _ hHn (fun hx => ?_)
          replace hHeld := hHn
          clear hx hHn hk hr
          obtain ⟨wc37, rfl⟩ : ∃ x, x = wn := ⟨_, rfl⟩
          clear hK K
          try simp only [Act.put, List.setIfInBounds_toArray, List.set_cons_zero, List.set_cons_succ]
          refine wpAnyH_ready (rs := [39]) (by kernel_rfl) (by simp) ?_
          refine AllReadyH.cons (o := ⟨some 218, _, _, _, _, _⟩) rfl (fun K hK => ?_) (AllReadyH.nil)
          go_simp
          refine (of4At ⟨#[122, 122]⟩ ⟨#[49]⟩ ⟨#[122, 122, 122]⟩ ⟨#[49]⟩ g38 _ D38.out).mono ?_
          rintro e wn ⟨A39, c39, rfl, hr, hk⟩
          clear D38
          replace D40 := Lib.hid (heap_kept hk D40.out)
          replace R37 := Lib.hid (rd_kept hk R37.out)
          have R39 := Lib.hid hr
          have hHn : wd.grownBy wn none := grown_new hHeld (grown_kept hk none) (fun k e => by cases e)
          refine hK.out _ _ hHn (fun hx => ?_)
          replace hHeld := hHn
          clear hx hHn hk hr
          obtain ⟨wc39, rfl⟩ : ∃ x, x = wn := ⟨_, rfl⟩
          clear hK K
          try simp only [Act.put, List.setIfInBounds_toArray, List.set_cons_zero, List.set_cons_succ]
          refine wpAnyH_ready (rs := [41]) (by kernel_rfl) (by simp) ?_
          refine AllReadyH.cons (o := ⟨some 220, _, _, _, _, _⟩) rfl (fun K hK => ?_) (AllReadyH.nil)
          go_simp
          refine (changesN (L.take 63) [(⟨#[110, 97]⟩, ⟨#[49]⟩), (⟨#[122, 122]⟩, ⟨#[50]⟩)] [(⟨#[122, 122]⟩, ⟨#[49]⟩), (⟨#[122, 122, 122]⟩, ⟨#[49]⟩)] [⟨#[]⟩] (LTt.out 63 (by omega)) rfl rfl rfl (RLt.out 63 (by omega) _ hHeld) R37.out R39.out (rd_row (xs := strs [⟨#[]⟩]) D40.out) (HT.out _ hHeld)).mono ?_
          rintro e wn ⟨rfl, hk⟩
          clear R37
          clear R39
          clear D40
          have hHn : wd.grownBy wn none := grown_new hHeld (grown_kept hk none) (fun k e => by cases e)
          refine hK.out _ _ hHn (fun hx => ?_)
          replace hHeld := hHn
          clear hx hHn hk 
          obtain ⟨wc41, rfl⟩ : ∃ x, x = wn := ⟨_, rfl⟩
          clear hK K
          try simp only [Act.put, List.setIfInBounds_toArray, List.set_cons_zero, List.set_cons_succ]
          exact q1.out ia2 ia3 u1 u2 u18 u19 u20 u21 u22 u23 u24 u25 u26 u27 u28 u29 u30 u31 u32 u33 u34 u35 u36 u37 u38 u39 u40 u41 u42 u43 u44 u45 u46 u47 u48 u49 u50 u51 u52 u53 u54 ia4 w1 ia6 ia7 ia8 ia9 ia10 u4 u5 u58 u59 u60 u61 u62 u63 u64 u65 u66 u67 u68 u69 u70 u71 u72 u73 u74 u75 u76 u77 u78 u79 u80 u81 u82 u83 u84 u85 u86 u87 u88 u89 u90 u91 u92 u93 u94 u95 ia11 w2 ia13 ia14 ia15 w0 g6 ia16 u0 u8 u10 u12 u13 u108 u109 u110 u111 u112 u113 u114 u115 u116 u117 u118 u119 u120 u121 u122 u123 u124 u125 u126 u127 u128 u129 u130 u131 u132 u133 u134 u135 u136 u137 u138 u139 u140 u141 u142 u143 u144 u145 u146 u147 u148 u149 u150 u151 u152 u153 u154 u155 u156 u157 u158 k3 ia17 ia18 w3 i0 hi0 hz0 hz1 hz2 ia20 ia21 ia22 h1 u15 u160 u161 u162 u163 u164 u165 u166 u167 u168 u169 u170 u171 u172 u173 u174 u175 u176 u177 k L hk hkn w4 c14 hc14 hk65 ad had l hl1 C ia24 ia25 w5 h2 ia26 ia27 ia28 ia29 ia30 ia31 wd RL HT Hfin hc64 hc63 hk1 RLt hLk LTt RL1 hl120 wc1 wc5 g8 wc8 v9 wc9 A12 c12 wc12 wc13 g21 wc21 wc22 g29 wc29 A30 c30 wc30 wc31 g36 wc36 A37 c37 wc37 g38 wc38 A39 c39 wc39 g40 wc40 wc41 hHeld
      ·
        go_simp
        obtain ⟨wn, hwn, hd, hk, hlt⟩ := new_row wc36 #[.string ⟨#[]⟩] 9
        obtain ⟨g40, hg⟩ : ∃ g, g = wc36.heap.size := ⟨_, rfl⟩
        rw [← hwn, ← hg]
        rw [← hg] at hd
        replace D36 := Lib.hid (heap_kept hk D36.out)
        have D40 := Lib.hid hd
        have hHn : wd.grownBy wn none := grown_new hHeld (grown_kept hk none) (fun k e => by cases e)
        refine hK.out _ _ hHn (fun hx => ?_)
        replace hHeld := hHn
        clear hx hHn hk hwn hd hg hlt
        obtain ⟨wc40, rfl⟩ : ∃ x, x = wn := ⟨_, rfl⟩
        clear hK K
        try simp only [Act.put, List.setIfInBounds_toArray, List.set_cons_zero, List.set_cons_succ]
        refine wpAnyH_ready (rs := [37, 38]) (by kernel_rfl) (by simp) ?_
        refine AllReadyH.cons (o := ⟨some 216, _, _, _, _, _⟩) rfl (fun K hK => ?_) (AllReadyH.cons (o := ⟨some 217, _, _, _, _, _⟩) rfl (fun K hK => ?_) (AllReadyH.nil))
        ·
          go_simp
          refine (of4At ⟨#[110, 97]⟩ ⟨#[49]⟩ ⟨#[122, 122]⟩ ⟨#[50]⟩ g36 _ D36.out).mono ?_
          rintro e wn ⟨A37, c37, rfl, hr, hk⟩
          clear D36
          replace D40 := Lib.hid (heap_kept hk D40.out)
          have R37 := Lib.hid hr
          have hHn : wd.grownBy wn none := grown_new hHeld (grown_kept hk none) (fun k e => by cases e)
          refine hK.out _ _ hHn (fun hx => ?_)
          replace hHeld := hHn
          clear hx hHn hk hr
          obtain ⟨wc37, rfl⟩ : ∃ x, x = wn := ⟨_, rfl⟩
          clear hK K
          try simp only [Act.put, List.setIfInBounds_toArray, List.set_cons_zero, List.set_cons_succ]
          refine wpAnyH_ready (rs := [38]) (by kernel_rfl) (by simp) ?_
          refine AllReadyH.cons (o := ⟨some 217, _, _, _, _, _⟩) rfl (fun K hK => ?_) (AllReadyH.nil)
          go_simp
          obtain ⟨wn, hwn, hd, hk, hlt⟩ := new_row wc37 #[.string ⟨#[122, 122]⟩, .string ⟨#[49]⟩, .string ⟨#[122, 122, 122]⟩, .string ⟨#[49]⟩] 9
          obtain ⟨g38, hg⟩ : ∃ g, g = wc37.heap.size := ⟨_, rfl⟩
          rw [← hwn, ← hg]
          rw [← hg] at hd
          replace D40 := Lib.hid (heap_kept hk D40.out)
          replace R37 := Lib.hid (rd_kept hk R37.out)
          have D38 := Lib.hid hd
          have hHn : wd.grownBy wn none := grown_new hHeld (grown_kept hk none) (fun k e => by cases e)
          refine hK.out _ _ hHn (fun hx => ?_)
          replace hHeld := hHn
          clear hx hHn hk hwn hd hg hlt
          obtain ⟨wc38, rfl⟩ : ∃ x, x = wn := ⟨_, rfl⟩
          clear hK K
          try simp only [Act.put, List.setIfInBounds_toArray, List.set_cons_zero, List.set_cons_succ]
          refine wpAnyH_ready (rs := [39]) (by kernel_rfl) (by simp) ?_
          refine AllReadyH.cons (o := ⟨some 218, _, _, _, _, _⟩) rfl (fun K hK => ?_) (AllReadyH.nil)
          go_simp
          refine (of4At ⟨#[122, 122]⟩ ⟨#[49]⟩ ⟨#[122, 122, 122]⟩ ⟨#[49]⟩ g38 _ D38.out).mono ?_
          rintro e wn ⟨A39, c39, rfl, hr, hk⟩
          clear D38
          replace D40 := Lib.hid (heap_kept hk D40.out)
          replace R37 := Lib.hid (rd_kept hk R37.out)
          have R39 := Lib.hid hr
          have hHn : wd.grownBy wn none := grown_new hHeld (grown_kept hk none) (fun k e => by cases e)
          refine hK.out _ _ hHn (fun hx => ?_)
          replace hHeld := hHn
          clear hx hHn hk hr
          obtain ⟨wc39, rfl⟩ : ∃ x, x = wn := ⟨_, rfl⟩
          clear hK K
          try simp only [Act.put, List.setIfInBounds_toArray, List.set_cons_zero, List.set_cons_succ]
          refine wpAnyH_ready (rs := [41]) (by kernel_rfl) (by simp) ?_
          refine AllReadyH.cons (o := ⟨some 220, _, _, _, _, _⟩) rfl (fun K hK => ?_) (AllReadyH.nil)
          go_simp
          refine (changesN (L.take 63) [(⟨#[110, 97]⟩, ⟨#[49]⟩), (⟨#[122, 122]⟩, ⟨#[50]⟩)] [(⟨#[122, 122]⟩, ⟨#[49]⟩), (⟨#[122, 122, 122]⟩, ⟨#[49]⟩)] [⟨#[]⟩] (LTt.out 63 (by omega)) rfl rfl rfl (RLt.out 63 (by omega) _ hHeld) R37.out R39.out (rd_row (xs := strs [⟨#[]⟩]) D40.out) (HT.out _ hHeld)).mono ?_
          rintro e wn ⟨rfl, hk⟩
          clear R37
          clear R39
          clear D40
          have hHn : wd.grownBy wn none := grown_new hHeld (grown_kept hk none) (fun k e => by cases e)
          refine hK.out _ _ hHn (fun hx => ?_)
          replace hHeld := hHn
          clear hx hHn hk 
          obtain ⟨wc41, rfl⟩ : ∃ x, x = wn := ⟨_, rfl⟩
          clear hK K
          try simp only [Act.put, List.setIfInBounds_toArray, List.set_cons_zero, List.set_cons_succ]
          exact q1.out ia2 ia3 u1 u2 u18 u19 u20 u21 u22 u23 u24 u25 u26 u27 u28 u29 u30 u31 u32 u33 u34 u35 u36 u37 u38 u39 u40 u41 u42 u43 u44 u45 u46 u47 u48 u49 u50 u51 u52 u53 u54 ia4 w1 ia6 ia7 ia8 ia9 ia10 u4 u5 u58 u59 u60 u61 u62 u63 u64 u65 u66 u67 u68 u69 u70 u71 u72 u73 u74 u75 u76 u77 u78 u79 u80 u81 u82 u83 u84 u85 u86 u87 u88 u89 u90 u91 u92 u93 u94 u95 ia11 w2 ia13 ia14 ia15 w0 g6 ia16 u0 u8 u10 u12 u13 u108 u109 u110 u111 u112 u113 u114 u115 u116 u117 u118 u119 u120 u121 u122 u123 u124 u125 u126 u127 u128 u129 u130 u131 u132 u133 u134 u135 u136 u137 u138 u139 u140 u141 u142 u143 u144 u145 u146 u147 u148 u149 u150 u151 u152 u153 u154 u155 u156 u157 u158 k3 ia17 ia18 w3 i0 hi0 hz0 hz1 hz2 ia20 ia21 ia22 h1 u15 u160 u161 u162 u163 u164 u165 u166 u167 u168 u169 u170 u171 u172 u173 u174 u175 u176 u177 k L hk hkn w4 c14 hc14 hk65 ad had l hl1 C ia24 ia25 w5 h2 ia26 ia27 ia28 ia29 ia30 ia31 wd RL HT Hfin hc64 hc63 hk1 RLt hLk LTt RL1 hl120 wc1 wc5 g8 wc8 v9 wc9 A12 c12 wc12 wc13 g21 wc21 wc22 g29 wc29 A30 c30 wc30 wc31 g36 wc36 A37 c37 wc37 g38 wc38 A39 c39 wc39 g40 wc40 wc41 hHeld
        ·
          go_simp
          obtain ⟨wn, hwn, hd, hk, hlt⟩ := new_row wc40 #[.string ⟨#[122, 122]⟩, .string ⟨#[49]⟩, .string ⟨#[122, 122, 122]⟩, .string ⟨#[49]⟩] 9
          obtain ⟨g38, hg⟩ : ∃ g, g = wc40.heap.size := ⟨_, rfl⟩
          rw [← hwn, ← hg]
          rw [← hg] at hd
          replace D36 := Lib.hid (heap_kept hk D36.out)
          replace D40 := Lib.hid (heap_kept hk D40.out)
          have D38 := Lib.hid hd
          have hHn : wd.grownBy wn none := grown_new hHeld (grown_kept hk none) (fun k e => by cases e)
          refine hK.out _ _ hHn (fun hx => ?_)
          replace hHeld := hHn
          clear hx hHn hk hwn hd hg hlt
          obtain ⟨wc38, rfl⟩ : ∃ x, x = wn := ⟨_, rfl⟩
          clear hK K
          try simp only [Act.put, List.setIfInBounds_toArray, List.set_cons_zero, List.set_cons_succ]
          refine wpAnyH_ready (rs := [37]) (by kernel_rfl) (by simp) ?_
          refine AllReadyH.cons (o := ⟨some 216, _, _, _, _, _⟩) rfl (fun K hK => ?_) (AllReadyH.nil)
          go_simp
          refine (of4At ⟨#[110, 97]⟩ ⟨#[49]⟩ ⟨#[122, 122]⟩ ⟨#[50]⟩ g36 _ D36.out).mono ?_
          rintro e wn ⟨A37, c37, rfl, hr, hk⟩
          clear D36
          replace D40 := Lib.hid (heap_kept hk D40.out)
          replace D38 := Lib.hid (heap_kept hk D38.out)
          have R37 := Lib.hid hr
          have hHn : wd.grownBy wn none := grown_new hHeld (grown_kept hk none) (fun k e => by cases e)
          refine hK.out _ _ hHn (fun hx => ?_)
          replace hHeld := hHn
          clear hx hHn hk hr
          obtain ⟨wc37, rfl⟩ : ∃ x, x = wn := ⟨_, rfl⟩
          clear hK K
          try simp only [Act.put, List.setIfInBounds_toArray, List.set_cons_zero, List.set_cons_succ]
          refine wpAnyH_ready (rs := [39]) (by kernel_rfl) (by simp) ?_
          refine AllReadyH.cons (o := ⟨some 218, _, _, _, _, _⟩) rfl (fun K hK => ?_) (AllReadyH.nil)
          go_simp
          refine (of4At ⟨#[122, 122]⟩ ⟨#[49]⟩ ⟨#[122, 122, 122]⟩ ⟨#[49]⟩ g38 _ D38.out).mono ?_
          rintro e wn ⟨A39, c39, rfl, hr, hk⟩
          clear D38
          replace D40 := Lib.hid (heap_kept hk D40.out)
          replace R37 := Lib.hid (rd_kept hk R37.out)
          have R39 := Lib.hid hr
          have hHn : wd.grownBy wn none := grown_new hHeld (grown_kept hk none) (fun k e => by cases e)
          refine hK.out _ _ hHn (fun hx => ?_)
          replace hHeld := hHn
          clear hx hHn hk hr
          obtain ⟨wc39, rfl⟩ : ∃ x, x = wn := ⟨_, rfl⟩
          clear hK K
          try simp only [Act.put, List.setIfInBounds_toArray, List.set_cons_zero, List.set_cons_succ]
          refine wpAnyH_ready (rs := [41]) (by kernel_rfl) (by simp) ?_
          refine AllReadyH.cons (o := ⟨some 220, _, _, _, _, _⟩) rfl (fun K hK => ?_) (AllReadyH.nil)
          go_simp
          refine (changesN (L.take 63) [(⟨#[110, 97]⟩, ⟨#[49]⟩), (⟨#[122, 122]⟩, ⟨#[50]⟩)] [(⟨#[122, 122]⟩, ⟨#[49]⟩), (⟨#[122, 122, 122]⟩, ⟨#[49]⟩)] [⟨#[]⟩] (LTt.out 63 (by omega)) rfl rfl rfl (RLt.out 63 (by omega) _ hHeld) R37.out R39.out (rd_row (xs := strs [⟨#[]⟩]) D40.out) (HT.out _ hHeld)).mono ?_
          rintro e wn ⟨rfl, hk⟩
          clear R37
          clear R39
          clear D40
          have hHn : wd.grownBy wn none := grown_new hHeld (grown_kept hk none) (fun k e => by cases e)
          refine hK.out _ _ hHn (fun hx => ?_)
          replace hHeld := hHn
          clear hx hHn hk 
          obtain ⟨wc41, rfl⟩ : ∃ x, x = wn := ⟨_, rfl⟩
          clear hK K
          try simp only [Act.put, List.setIfInBounds_toArray, List.set_cons_zero, List.set_cons_succ]
          exact q1.out ia2 ia3 u1 u2 u18 u19 u20 u21 u22 u23 u24 u25 u26 u27 u28 u29 u30 u31 u32 u33 u34 u35 u36 u37 u38 u39 u40 u41 u42 u43 u44 u45 u46 u47 u48 u49 u50 u51 u52 u53 u54 ia4 w1 ia6 ia7 ia8 ia9 ia10 u4 u5 u58 u59 u60 u61 u62 u63 u64 u65 u66 u67 u68 u69 u70 u71 u72 u73 u74 u75 u76 u77 u78 u79 u80 u81 u82 u83 u84 u85 u86 u87 u88 u89 u90 u91 u92 u93 u94 u95 ia11 w2 ia13 ia14 ia15 w0 g6 ia16 u0 u8 u10 u12 u13 u108 u109 u110 u111 u112 u113 u114 u115 u116 u117 u118 u119 u120 u121 u122 u123 u124 u125 u126 u127 u128 u129 u130 u131 u132 u133 u134 u135 u136 u137 u138 u139 u140 u141 u142 u143 u144 u145 u146 u147 u148 u149 u150 u151 u152 u153 u154 u155 u156 u157 u158 k3 ia17 ia18 w3 i0 hi0 hz0 hz1 hz2 ia20 ia21 ia22 h1 u15 u160 u161 u162 u163 u164 u165 u166 u167 u168 u169 u170 u171 u172 u173 u174 u175 u176 u177 k L hk hkn w4 c14 hc14 hk65 ad had l hl1 C ia24 ia25 w5 h2 ia26 ia27 ia28 ia29 ia30 ia31 wd RL HT Hfin hc64 hc63 hk1 RLt hLk LTt RL1 hl120 wc1 wc5 g8 wc8 v9 wc9 A12 c12 wc12 wc13 g21 wc21 wc22 g29 wc29 A30 c30 wc30 wc31 g36 wc36 A37 c37 wc37 g38 wc38 A39 c39 wc39 g40 wc40 wc41 hHeld
    ·
      go_simp
      obtain ⟨wn, hwn, hd, hk, hlt⟩ := new_row wc31 #[.string ⟨#[122, 122]⟩, .string ⟨#[49]⟩, .string ⟨#[122, 122, 122]⟩, .string ⟨#[49]⟩] 9
      obtain ⟨g38, hg⟩ : ∃ g, g = wc31.heap.size := ⟨_, rfl⟩
      rw [← hwn, ← hg]
      rw [← hg] at hd
      have D38 := Lib.hid hd
      have hHn : wd.grownBy wn none := grown_new hHeld (grown_kept hk none) (fun k e => by cases e)
      refine hK.out _ _ hHn (fun hx => ?_)
      replace hHeld := hHn
      clear hx hHn hk hwn hd hg hlt
      obtain ⟨wc38, rfl⟩ : ∃ x, x = wn := ⟨_, rfl⟩
      clear hK K
      try simp only [Act.put, List.setIfInBounds_toArray, List.set_cons_zero, List.set_cons_succ]
      refine wpAnyH_ready (rs := [36, 40]) (by kernel_rfl) (by simp) ?_
      refine AllReadyH.cons (o := ⟨some 215, _, _, _, _, _⟩) rfl (fun K hK => ?_) (AllReadyH.cons (o := ⟨some 219, _, _, _, _, _⟩) rfl (fun K hK => ?_) (AllReadyH.nil))
      ·
        go_simp
        obtain ⟨wn, hwn, hd, hk, hlt⟩ := new_row wc38 #[.string ⟨#[110, 97]⟩, .string ⟨#[49]⟩, .string ⟨#[122, 122]⟩, .string ⟨#[50]⟩] 9
        obtain ⟨g36, hg⟩ : ∃ g, g = wc38.heap.size := ⟨_, rfl⟩
        rw [← hwn, ← hg]
        rw [← hg] at hd
        replace D38 := Lib.hid (heap_kept hk D38.out)
        have D36 := Lib.hid hd
        have hHn : wd.grownBy wn none := grown_new hHeld (grown_kept hk none) (fun k e => by cases e)
        refine hK.out _ _ hHn (fun hx => ?_)
        replace hHeld := hHn
        clear hx hHn hk hwn hd hg hlt
        obtain ⟨wc36, rfl⟩ : ∃ x, x = wn := ⟨_, rfl⟩
        clear hK K
        try simp only [Act.put, List.setIfInBounds_toArray, List.set_cons_zero, List.set_cons_succ]
        refine wpAnyH_ready (rs := [37, 40]) (by kernel_rfl) (by simp) ?_
        refine AllReadyH.cons (o := ⟨some 216, _, _, _, _, _⟩) rfl (fun K hK => ?_) (AllReadyH.cons (o := ⟨some 219, _, _, _, _, _⟩) rfl (fun K hK => ?_) (AllReadyH.nil))
        ·
          go_simp
          refine (of4At ⟨#[110, 97]⟩ ⟨#[49]⟩ ⟨#[122, 122]⟩ ⟨#[50]⟩ g36 _ D36.out).mono ?_
          rintro e wn ⟨A37, c37, rfl, hr, hk⟩
          clear D36
          replace D38 := Lib.hid (heap_kept hk D38.out)
          have R37 := Lib.hid hr
          have hHn : wd.grownBy wn none := grown_new hHeld (grown_kept hk none) (fun k e => by cases e)
          refine hK.out _ _ hHn (fun hx => ?_)
          replace hHeld := hHn
          clear hx hHn hk hr
          obtain ⟨wc37, rfl⟩ : ∃ x, x = wn := ⟨_, rfl⟩
          clear hK K
          try simp only [Act.put, List.setIfInBounds_toArray, List.set_cons_zero, List.set_cons_succ]
          refine wpAnyH_ready (rs := [39, 40]) (by kernel_rfl) (by simp) ?_
          refine AllReadyH.cons (o := ⟨some 218, _, _, _, _, _⟩) rfl (fun K hK => ?_) (AllReadyH.cons (o := ⟨some 219, _, _, _, _, _⟩) rfl (fun K hK => ?_) (AllReadyH.nil))
          ·
            go_simp
            refine (of4At ⟨#[122, 122]⟩ ⟨#[49]⟩ ⟨#[122, 122, 122]⟩ ⟨#[49]⟩ g38 _ D38.out).mono ?_
            rintro e wn ⟨A39, c39, rfl, hr, hk⟩
            clear D38
            replace R37 := Lib.hid (rd_kept hk R37.out)
            have R39 := Lib.hid hr
            have hHn : wd.grownBy wn none := grown_new hHeld (grown_kept hk none) (fun k e => by cases e)
            refine hK.out _ _ hHn (fun hx => ?_)
            replace hHeld := hHn
            clear hx hHn hk hr
            obtain ⟨wc39, rfl⟩ : ∃ x, x = wn := ⟨_, rfl⟩
            clear hK K
            try simp only [Act.put, List.setIfInBounds_toArray, List.set_cons_zero, List.set_cons_succ]
            refine wpAnyH_ready (rs := [40]) (by kernel_rfl) (by simp) ?_
            refine AllReadyH.cons (o := ⟨some 219, _, _, _, _, _⟩) rfl (fun K hK => ?_) (AllReadyH.nil)
            go_simp
            obtain ⟨wn, hwn, hd, hk, hlt⟩ := new_row wc39 #[.string ⟨#[]⟩] 9
            obtain ⟨g40, hg⟩ : ∃ g, g = wc39.heap.size := ⟨_, rfl⟩
            rw [← hwn, ← hg]
            rw [← hg] at hd
            replace R37 := Lib.hid (rd_kept hk R37.out)
            replace R39 := Lib.hid (rd_kept hk R39.out)
            have D40 := Lib.hid hd
            have hHn : wd.grownBy wn none := grown_new hHeld (grown_kept hk none) (fun k e => by cases e)
            refine hK.out _ _ hHn (fun hx => ?_)
            replace hHeld := hHn
            clear hx hHn hk hwn hd hg hlt
            obtain ⟨wc40, rfl⟩ : ∃ x, x = wn := ⟨_, rfl⟩
            clear hK K
            try simp only [Act.put, List.setIfInBounds_toArray, List.set_cons_zero, List.set_cons_succ]
            refine wpAnyH_ready (rs := [41]) (by kernel_rfl) (by simp) ?_
            refine AllReadyH.cons (o := ⟨some 220, _, _, _, _, _⟩) rfl (fun K hK => ?_) (AllReadyH.nil)
            go_simp
            refine (changesN (L.take 63) [(⟨#[110, 97]⟩, ⟨#[49]⟩), (⟨#[122, 122]⟩, ⟨#[50]⟩)] [(⟨#[122, 122]⟩, ⟨#[49]⟩), (⟨#[122, 122, 122]⟩, ⟨#[49]⟩)] [⟨#[]⟩] (LTt.out 63 (by omega)) rfl rfl rfl (RLt.out 63 (by omega) _ hHeld) R37.out R39.out (rd_row (xs := strs [⟨#[]⟩]) D40.out) (HT.out _ hHeld)).mono ?_
            rintro e wn ⟨rfl, hk⟩
            clear R37
            clear R39
            clear D40
            have hHn : wd.grownBy wn none := grown_new hHeld (grown_kept hk none) (fun k e => by cases e)
            refine hK.out _ _ hHn (fun hx => ?_)
            replace hHeld := hHn
            clear hx hHn hk 
            obtain ⟨wc41, rfl⟩ : ∃ x, x = wn := ⟨_, rfl⟩
            clear hK K
            try simp only [Act.put, List.setIfInBounds_toArray, List.set_cons_zero, List.set_cons_succ]
            exact q1.out ia2 ia3 u1 u2 u18 u19 u20 u21 u22 u23 u24 u25 u26 u27 u28 u29 u30 u31 u32 u33 u34 u35 u36 u37 u38 u39 u40 u41 u42 u43 u44 u45 u46 u47 u48 u49 u50 u51 u52 u53 u54 ia4 w1 ia6 ia7 ia8 ia9 ia10 u4 u5 u58 u59 u60 u61 u62 u63 u64 u65 u66 u67 u68 u69 u70 u71 u72 u73 u74 u75 u76 u77 u78 u79 u80 u81 u82 u83 u84 u85 u86 u87 u88 u89 u90 u91 u92 u93 u94 u95 ia11 w2 ia13 ia14 ia15 w0 g6 ia16 u0 u8 u10 u12 u13 u108 u109 u110 u111 u112 u113 u114 u115 u116 u117 u118 u119 u120 u121 u122 u123 u124 u125 u126 u127 u128 u129 u130 u131 u132 u133 u134 u135 u136 u137 u138 u139 u140 u141 u142 u143 u144 u145 u146 u147 u148 u149 u150 u151 u152 u153 u154 u155 u156 u157 u158 k3 ia17 ia18 w3 i0 hi0 hz0 hz1 hz2 ia20 ia21 ia22 h1 u15 u160 u161 u162 u163 u164 u165 u166 u167 u168 u169 u170 u171 u172 u173 u174 u175 u176 u177 k L hk hkn w4 c14 hc14 hk65 ad had l hl1 C ia24 ia25 w5 h2 ia26 ia27 ia28 ia29 ia30 ia31 wd RL HT Hfin hc64 hc63 hk1 RLt hLk LTt RL1 hl120 wc1 wc5 g8 wc8 v9 wc9 A12 c12 wc12 wc13 g21 wc21 wc22 g29 wc29 A30 c30 wc30 wc31 g36 wc36 A37 c37 wc37 g38 wc38 A39 c39 wc39 g40 wc40 wc41 hHeld
          ·
            go_simp
            obtain ⟨wn, hwn, hd, hk, hlt⟩ := new_row wc37 #[.string ⟨#[]⟩] 9
            obtain ⟨g40, hg⟩ : ∃ g, g = wc37.heap.size := ⟨_, rfl⟩
            rw [← hwn, ← hg]
            rw [← hg] at hd
            replace D38 := Lib.hid (heap_kept hk D38.out)
            replace R37 := Lib.hid (rd_kept hk R37.out)
            have D40 := Lib.hid hd
            have hHn : wd.grownBy wn none := grown_new hHeld (grown_kept hk none) (fun k e => by cases e)
            refine hK.out _ _ hHn (fun hx => ?_)
            replace hHeld := hHn
            clear hx hHn hk hwn hd hg hlt
            obtain ⟨wc40, rfl⟩ : ∃ x, x = wn := ⟨_, rfl⟩
            clear hK K
            try simp only [Act.put, List.setIfInBounds_toArray, List.set_cons_zero, List.set_cons_succ]
            refine wpAnyH_ready (rs := [39]) (by kernel_rfl) (by simp) ?_
            refine AllReadyH.cons (o := ⟨some 218, _, _, _, _, _⟩) rfl (fun K hK => ?_) (AllReadyH.nil)
            go_simp
            refine (of4At ⟨#[122, 122]⟩ ⟨#[49]⟩ ⟨#[122, 122, 122]⟩ ⟨#[49]⟩ g38 _ D38.out).mono ?_
            rintro e wn ⟨A39, c39, rfl, hr, hk⟩
            clear D38
            replace D40 := Lib.hid (heap_kept hk D40.out)
            replace R37 := Lib.hid (rd_kept hk R37.out)
            have R39 := Lib.hid hr
            have hHn : wd.grownBy wn none := grown_new hHeld (grown_kept hk none) (fun k e => by cases e)
            refine hK.out _ _ hHn (fun hx => ?_)
            replace hHeld := hHn
            clear hx hHn hk hr
            obtain ⟨wc39, rfl⟩ : ∃ x, x = wn := ⟨_, rfl⟩
            clear hK K
            try simp only [Act.put, List.setIfInBounds_toArray, List.set_cons_zero, List.set_cons_succ]
            refine wpAnyH_ready (rs := [41]) (by kernel_rfl) (by simp) ?_
            refine AllReadyH.cons (o := ⟨some 220, _, _, _, _, _⟩) rfl (fun K hK => ?_) (AllReadyH.nil)
            go_simp
            refine (changesN (L.take 63) [(⟨#[110, 97]⟩, ⟨#[49]⟩), (⟨#[122, 122]⟩, ⟨#[50]⟩)] [(⟨#[122, 122]⟩, ⟨#[49]⟩), (⟨#[122, 122, 122]⟩, ⟨#[49]⟩)] [⟨#[]⟩] (LTt.out 63 (by omega)) rfl rfl rfl (RLt.out 63 (by omega) _ hHeld) R37.out R39.out (rd_row (xs := strs [⟨#[]⟩]) D40.out) (HT.out _ hHeld)).mono ?_
            rintro e wn ⟨rfl, hk⟩
            clear R37
            clear R39
            clear D40
            have hHn : wd.grownBy wn none := grown_new hHeld (grown_kept hk none) (fun k e => by cases e)
            refine hK.out _ _ hHn (fun hx => ?_)
            replace hHeld := hHn
            clear hx hHn hk 
            obtain ⟨wc41, rfl⟩ : ∃ x, x = wn := ⟨_, rfl⟩
            clear hK K
            try simp only [Act.put, List.setIfInBounds_toArray, List.set_cons_zero, List.set_cons_succ]
            exact q1.out ia2 ia3 u1 u2 u18 u19 u20 u21 u22 u23 u24 u25 u26 u27 u28 u29 u30 u31 u32 u33 u34 u35 u36 u37 u38 u39 u40 u41 u42 u43 u44 u45 u46 u47 u48 u49 u50 u51 u52 u53 u54 ia4 w1 ia6 ia7 ia8 ia9 ia10 u4 u5 u58 u59 u60 u61 u62 u63 u64 u65 u66 u67 u68 u69 u70 u71 u72 u73 u74 u75 u76 u77 u78 u79 u80 u81 u82 u83 u84 u85 u86 u87 u88 u89 u90 u91 u92 u93 u94 u95 ia11 w2 ia13 ia14 ia15 w0 g6 ia16 u0 u8 u10 u12 u13 u108 u109 u110 u111 u112 u113 u114 u115 u116 u117 u118 u119 u120 u121 u122 u123 u124 u125 u126 u127 u128 u129 u130 u131 u132 u133 u134 u135 u136 u137 u138 u139 u140 u141 u142 u143 u144 u145 u146 u147 u148 u149 u150 u151 u152 u153 u154 u155 u156 u157 u158 k3 ia17 ia18 w3 i0 hi0 hz0 hz1 hz2 ia20 ia21 ia22 h1 u15 u160 u161 u162 u163 u164 u165 u166 u167 u168 u169 u170 u171 u172 u173 u174 u175 u176 u177 k L hk hkn w4 c14 hc14 hk65 ad had l hl1 C ia24 ia25 w5 h2 ia26 ia27 ia28 ia29 ia30 ia31 wd RL HT Hfin hc64 hc63 hk1 RLt hLk LTt RL1 hl120 wc1 wc5 g8 wc8 v9 wc9 A12 c12 wc12 wc13 g21 wc21 wc22 g29 wc29 A30 c30 wc30 wc31 g36 wc36 A37 c37 wc37 g38 wc38 A39 c39 wc39 g40 wc40 wc41 hHeld
        ·
          go_simp
          obtain ⟨wn, hwn, hd, hk, hlt⟩ := new_row wc36 #[.string ⟨#[]⟩] 9
          obtain ⟨g40, hg⟩ : ∃ g, g = wc36.heap.size := ⟨_, rfl⟩
          rw [← hwn, ← hg]
          rw [← hg] at hd
          replace D38 := Lib.hid (heap_kept hk D38.out)
          replace D36 := Lib.hid (heap_kept hk D36.out)
          have D40 := Lib.hid hd
          have hHn : wd.grownBy wn none := grown_new hHeld (grown_kept hk none) (fun k e => by cases e)
          refine hK.out _ _ hHn (fun hx => ?_)
          replace hHeld := hHn
          clear hx hHn hk hwn hd hg hlt
          obtain ⟨wc40, rfl⟩ : ∃ x, x = wn := ⟨_, rfl⟩
          clear hK K
          try simp only [Act.put, List.setIfInBounds_toArray, List.set_cons_zero, List.set_cons_succ]
          refine wpAnyH_ready (rs := [37]) (by kernel_rfl) (by simp) ?_
          refine AllReadyH.cons (o := ⟨some 216, _, _, _, _, _⟩) rfl (fun K hK => ?_) (AllReadyH.nil)
          go_simp
          refine (of4At ⟨#[110, 97]⟩ ⟨#[49]⟩ ⟨#[122, 122]⟩ ⟨#[50]⟩ g36 _ D36.out).mono ?_
          rintro e wn ⟨A37, c37, rfl, hr, hk⟩
          clear D36
          replace D38 := Lib.hid (heap_kept hk D38.out)
          replace D40 := Lib.hid (heap_kept hk D40.out)
          have R37 := Lib.hid hr
          have hHn : wd.grownBy wn none := grown_new hHeld (grown_kept hk none) (fun k e => by cases e)
          refine hK.out _ _ hHn (fun hx => ?_)
          replace hHeld := hHn
          clear hx hHn hk hr
          obtain ⟨wc37, rfl⟩ : ∃ x, x = wn := ⟨_, rfl⟩
          clear hK K
          try simp only [Act.put, List.setIfInBounds_toArray, List.set_cons_zero, List.set_cons_succ]
          refine wpAnyH_ready (rs := [39]) (by kernel_rfl) (by simp) ?_
          refine AllReadyH.cons (o := ⟨some 218, _, _, _, _, _⟩) rfl (fun K hK => ?_) (AllReadyH.nil)
          go_simp
          refine (of4At ⟨#[122, 122]⟩ ⟨#[49]⟩ ⟨#[122, 122, 122]⟩ ⟨#[49]⟩ g38 _ D38.out).mono ?_
          rintro e wn ⟨A39, c39, rfl, hr, hk⟩
          clear D38
          replace D40 := Lib.hid (heap_kept hk D40.out)
          replace R37 := Lib.hid (rd_kept hk R37.out)
          have R39 := Lib.hid hr
          have hHn : wd.grownBy wn none := grown_new hHeld (grown_kept hk none) (fun k e => by cases e)
          refine hK.out _ _ hHn (fun hx => ?_)
          replace hHeld := hHn
          clear hx hHn hk hr
          obtain ⟨wc39, rfl⟩ : ∃ x, x = wn := ⟨_, rfl⟩
          clear hK K
          try simp only [Act.put, List.setIfInBounds_toArray, List.set_cons_zero, List.set_cons_succ]
          refine wpAnyH_ready (rs := [41]) (by kernel_rfl) (by simp) ?_
          refine AllReadyH.cons (o := ⟨some 220, _, _, _, _, _⟩) rfl (fun K hK => ?_) (AllReadyH.nil)
          go_simp
          refine (changesN (L.take 63) [(⟨#[110, 97]⟩, ⟨#[49]⟩), (⟨#[122, 122]⟩, ⟨#[50]⟩)] [(⟨#[122, 122]⟩, ⟨#[49]⟩), (⟨#[122, 122, 122]⟩, ⟨#[49]⟩)] [⟨#[]⟩] (LTt.out 63 (by omega)) rfl rfl rfl (RLt.out 63 (by omega) _ hHeld) R37.out R39.out (rd_row (xs := strs [⟨#[]⟩]) D40.out) (HT.out _ hHeld)).mono ?_
          rintro e wn ⟨rfl, hk⟩
          clear R37
          clear R39
          clear D40
          have hHn : wd.grownBy wn none := grown_new hHeld (grown_kept hk none) (fun k e => by cases e)
          refine hK.out _ _ hHn (fun hx => ?_)
          replace hHeld := hHn
          clear hx hHn hk 
          obtain ⟨wc41, rfl⟩ : ∃ x, x = wn := ⟨_, rfl⟩
          clear hK K
          try simp only [Act.put, List.setIfInBounds_toArray, List.set_cons_zero, List.set_cons_succ]
          exact q1.out ia2 ia3 u1 u2 u18 u19 u20 u21 u22 u23 u24 u25 u26 u27 u28 u29 u30 u31 u32 u33 u34 u35 u36 u37 u38 u39 u40 u41 u42 u43 u44 u45 u46 u47 u48 u49 u50 u51 u52 u53 u54 ia4 w1 ia6 ia7 ia8 ia9 ia10 u4 u5 u58 u59 u60 u61 u62 u63 u64 u65 u66 u67 u68 u69 u70 u71 u72 u73 u74 u75 u76 u77 u78 u79 u80 u81 u82 u83 u84 u85 u86 u87 u88 u89 u90 u91 u92 u93 u94 u95 ia11 w2 ia13 ia14 ia15 w0 g6 ia16 u0 u8 u10 u12 u13 u108 u109 u110 u111 u112 u113 u114 u115 u116 u117 u118 u119 u120 u121 u122 u123 u124 u125 u126 u127 u128 u129 u130 u131 u132 u133 u134 u135 u136 u137 u138 u139 u140 u141 u142 u143 u144 u145 u146 u147 u148 u149 u150 u151 u152 u153 u154 u155 u156 u157 u158 k3 ia17 ia18 w3 i0 hi0 hz0 hz1 hz2 ia20 ia21 ia22 h1 u15 u160 u161 u162 u163 u164 u165 u166 u167 u168 u169 u170 u171 u172 u173 u174 u175 u176 u177 k L hk hkn w4 c14 hc14 hk65 ad had l hl1 C ia24 ia25 w5 h2 ia26 ia27 ia28 ia29 ia30 ia31 wd RL HT Hfin hc64 hc63 hk1 RLt hLk LTt RL1 hl120 wc1 wc5 g8 wc8 v9 wc9 A12 c12 wc12 wc13 g21 wc21 wc22 g29 wc29 A30 c30 wc30 wc31 g36 wc36 A37 c37 wc37 g38 wc38 A39 c39 wc39 g40 wc40 wc41 hHeld
      ·
        go_simp
        obtain ⟨wn, hwn, hd, hk, hlt⟩ := new_row wc38 #[.string ⟨#[]⟩] 9
        obtain ⟨g40, hg⟩ : ∃ g, g = wc38.heap.size := ⟨_, rfl⟩
        rw [← hwn, ← hg]
        rw [← hg] at hd
        replace D38 := Lib.hid (heap_kept hk D38.out)
        have D40 := Lib.hid hd
        have hHn : wd.grownBy wn none := grown_new hHeld (grown_kept hk none) (fun k e => by cases e)
        refine hK.out _ _ hHn (fun hx => ?_)
        replace hHeld := hHn
        clear hx hHn hk hwn hd hg hlt
        obtain ⟨wc40, rfl⟩ : ∃ x, x = wn := ⟨_, rfl⟩
        clear hK K
        try simp only [Act.put, List.setIfInBounds_toArray, List.set_cons_zero, List.set_cons_succ]
        refine wpAnyH_ready (rs := [36]) (by kernel_rfl) (by simp) ?_
        refine AllReadyH.cons (o := ⟨some 215, _, _, _, _, _⟩) rfl (fun K hK => ?_) (AllReadyH.nil)
        go_simp
        obtain ⟨wn, hwn, hd, hk, hlt⟩ := new_row wc40 #[.string ⟨#[110, 97]⟩, .string ⟨#[49]⟩, .string ⟨#[122, 122]⟩, .string ⟨#[50]⟩] 9
        obtain ⟨g36, hg⟩ : ∃ g, g = wc40.heap.size := ⟨_, rfl⟩
        rw [← hwn, ← hg]
        rw [← hg] at hd
        replace D38 := Lib.hid (heap_kept hk D38.out)
        replace D40 := Lib.hid (heap_kept hk D40.out)
        have D36 := Lib.hid hd
        have hHn : wd.grownBy wn none := grown_new hHeld (grown_kept hk none) (fun k e => by cases e)
        refine hK.out _ _ hHn (fun hx => ?_)
        replace hHeld := hHn
        clear hx hHn hk hwn hd hg hlt
        obtain ⟨wc36, rfl⟩ : ∃ x, x = wn := ⟨_, rfl⟩
        clear hK K
        try simp only [Act.put, List.setIfInBounds_toArray, List.set_cons_zero, List.set_cons_succ]
        refine wpAnyH_ready (rs := [37]) (by kernel_rfl) (by simp) ?_
        refine AllReadyH.cons (o := ⟨some 216, _, _, _, _, _⟩) rfl (fun K hK => ?_) (AllReadyH.nil)
        go_simp
        refine (of4At ⟨#[110, 97]⟩ ⟨#[49]⟩ ⟨#[122, 122]⟩ ⟨#[50]⟩ g36 _ D36.out).mono ?_
        rintro e wn ⟨A37, c37, rfl, hr, hk⟩
        clear D36
        replace D38 := Lib.hid (heap_kept hk D38.out)
        replace D40 := Lib.hid (heap_kept hk D40.out)
        have R37 := Lib.hid hr
        have hHn : wd.grownBy wn none := grown_new hHeld (grown_kept hk none) (fun k e => by cases e)
        refine hK.out _ _ hHn (fun hx => ?_)
        replace hHeld := hHn
        clear hx hHn hk hr
        obtain ⟨wc37, rfl⟩ : ∃ x, x = wn := ⟨_, rfl⟩
        clear hK K
        try simp only [Act.put, List.setIfInBounds_toArray, List.set_cons_zero, List.set_cons_succ]
        refine wpAnyH_ready (rs := [39]) (by kernel_rfl) (by simp) ?_
        refine AllReadyH.cons (o := ⟨some 218, _, _, _, _, _⟩) rfl (fun K hK => ?_) (AllReadyH.nil)
        go_simp
        refine (of4At ⟨#[122, 122]⟩ ⟨#[49]⟩ ⟨#[122, 122, 122]⟩ ⟨#[49]⟩ g38 _ D38.out).mono ?_
        rintro e wn ⟨A39, c39, rfl, hr, hk⟩
        clear D38
        replace D40 := Lib.hid (heap_kept hk D40.out)
        replace R37 := Lib.hid (rd_kept hk R37.out)
        have R39 := Lib.hid hr
        have hHn : wd.grownBy wn none := grown_new hHeld (grown_kept hk none) (fun k e => by cases e)
        refine hK.out _ _ hHn (fun hx => ?_)
        replace hHeld := hHn
        clear hx hHn hk hr
        obtain ⟨wc39, rfl⟩ : ∃ x, x = wn := ⟨_, rfl⟩
        clear hK K
        try simp only [Act.put, List.setIfInBounds_toArray, List.set_cons_zero, List.set_cons_succ]
        refine wpAnyH_ready (rs := [41]) (by kernel_rfl) (by simp) ?_
        refine AllReadyH.cons (o := ⟨some 220, _, _, _, _, _⟩) rfl (fun K hK => ?_) (AllReadyH.nil)
        go_simp
        refine (changesN (L.take 63) [(⟨#[110, 97]⟩, ⟨#[49]⟩), (⟨#[122, 122]⟩, ⟨#[50]⟩)] [(⟨#[122, 122]⟩, ⟨#[49]⟩), (⟨#[122, 122, 122]⟩, ⟨#[49]⟩)] [⟨#[]⟩] (LTt.out 63 (by omega)) rfl rfl rfl (RLt.out 63 (by omega) _ hHeld) R37.out R39.out (rd_row (xs := strs [⟨#[]⟩]) D40.out) (HT.out _ hHeld)).mono ?_
        rintro e wn ⟨rfl, hk⟩
        clear R37
        clear R39
        clear D40
        have hHn : wd.grownBy wn none := grown_new hHeld (grown_kept hk none) (fun k e => by cases e)
        refine hK.out _ _ hHn (fun hx => ?_)
        replace hHeld := hHn
        clear hx hHn hk 
        obtain ⟨wc41, rfl⟩ : ∃ x, x = wn := ⟨_, rfl⟩
        clear hK K
        try simp only [Act.put, List.setIfInBounds_toArray, List.set_cons_zero, List.set_cons_succ]
        exact q1.out ia2 ia3 u1 u2 u18 u19 u20 u21 u22 u23 u24 u25 u26 u27 u28 u29 u30 u31 u32 u33 u34 u35 u36 u37 u38 u39 u40 u41 u42 u43 u44 u45 u46 u47 u48 u49 u50 u51 u52 u53 u54 ia4 w1 ia6 ia7 ia8 ia9 ia10 u4 u5 u58 u59 u60 u61 u62 u63 u64 u65 u66 u67 u68 u69 u70 u71 u72 u73 u74 u75 u76 u77 u78 u79 u80 u81 u82 u83 u84 u85 u86 u87 u88 u89 u90 u91 u92 u93 u94 u95 ia11 w2 ia13 ia14 ia15 w0 g6 ia16 u0 u8 u10 u12 u13 u108 u109 u110 u111 u112 u113 u114 u115 u116 u117 u118 u119 u120 u121 u122 u123 u124 u125 u126 u127 u128 u129 u130 u131 u132 u133 u134 u135 u136 u137 u138 u139 u140 u141 u142 u143 u144 u145 u146 u147 u148 u149 u150 u151 u152 u153 u154 u155 u156 u157 u158 k3 ia17 ia18 w3 i0 hi0 hz0 hz1 hz2 ia20 ia21 ia22 h1 u15 u160 u161 u162 u163 u164 u165 u166 u167 u168 u169 u170 u171 u172 u173 u174 u175 u176 u177 k L hk hkn w4 c14 hc14 hk65 ad had l hl1 C ia24 ia25 w5 h2 ia26 ia27 ia28 ia29 ia30 ia31 wd RL HT Hfin hc64 hc63 hk1 RLt hLk LTt RL1 hl120 wc1 wc5 g8 wc8 v9 wc9 A12 c12 wc12 wc13 g21 wc21 wc22 g29 wc29 A30 c30 wc30 wc31 g36 wc36 A37 c37 wc37 g38 wc38 A39 c39 wc39 g40 wc40 wc41 hHeld
    ·
      go_simp
      obtain ⟨wn, hwn, hd, hk, hlt⟩ := new_row wc31 #[.string ⟨#[]⟩] 9
      obtain ⟨g40, hg⟩ : ∃ g, g = wc31.heap.size := ⟨_, rfl⟩
      rw [← hwn, ← hg]
      rw [← hg] at hd
      have D40 := Lib.hid hd
      have hHn : wd.grownBy wn none := grown_new hHeld (grown_kept hk none) (fun k e => by cases e)
      refine hK.out _ _ hHn (fun hx => ?_)
      replace hHeld := hHn
      clear hx hHn hk hwn hd hg hlt
      obtain ⟨wc40, rfl⟩ : ∃ x, x = wn := ⟨_, rfl⟩
      clear hK K
      try simp only [Act.put, List.setIfInBounds_toArray, List.set_cons_zero, List.set_cons_succ]
      refine wpAnyH_ready (rs := [36, 38]) (by kernel_rfl) (by simp) ?_
      refine AllReadyH.cons (o := ⟨some 215, _, _, _, _, _⟩) rfl (fun K hK => ?_) (AllReadyH.cons (o := ⟨some 217, _, _, _, _, _⟩) rfl (fun K hK => ?_) (AllReadyH.nil))
      ·
        go_simp
        obtain ⟨wn, hwn, hd, hk, hlt⟩ := new_row wc40 #[.string ⟨#[110, 97]⟩, .string ⟨#[49]⟩, .string ⟨#[122, 122]⟩, .string ⟨#[50]⟩] 9
        obtain ⟨g36, hg⟩ : ∃ g, g = wc40.heap.size := ⟨_, rfl⟩
        rw [← hwn, ← hg]
        rw [← hg] at hd
        replace D40 := Lib.hid (heap_kept hk D40.out)
        have D36 := Lib.hid hd
        have hHn : wd.grownBy wn none := grown_new hHeld (grown_kept hk none) (fun k e => by cases e)
        refine hK.out _ _ hHn (fun hx => ?_)
        replace hHeld := hHn
        clear hx hHn hk hwn hd hg hlt
        obtain ⟨wc36, rfl⟩ : ∃ x, x = wn := ⟨_, rfl⟩
        clear hK K
        try simp only [Act.put, List.setIfInBounds_toArray, List.set_cons_zero, List.set_cons_succ]
        refine wpAnyH_ready (rs := [37, 38]) (by kernel_rfl) (by simp) ?_
        refine AllReadyH.cons (o := ⟨some 216, _, _, _, _, _⟩) rfl (fun K hK => ?_) (AllReadyH.cons (o := ⟨some 217, _, _, _, _, _⟩) rfl (fun K hK => ?_) (AllReadyH.nil))
        ·
          go_simp
          refine (of4At ⟨#[110, 97]⟩ ⟨#[49]⟩ ⟨#[122, 122]⟩ ⟨#[50]⟩ g36 _ D36.out).mono ?_
          rintro e wn ⟨A37, c37, rfl, hr, hk⟩
          clear D36
          replace D40 := Lib.hid (heap_kept hk D40.out)
          have R37 := Lib.hid hr
          have hHn : wd.grownBy wn none := grown_new hHeld (grown_kept hk none) (fun k e => by cases e)
          refine hK.out _ _ hHn (fun hx => ?_)
          replace hHeld := hHn
          clear hx hHn hk hr
          obtain ⟨wc37, rfl⟩ : ∃ x, x = wn := ⟨_, rfl⟩
          clear hK K
          try simp only [Act.put, List.setIfInBounds_toArray, List.set_cons_zero, List.set_cons_succ]
          refine wpAnyH_ready (rs := [38]) (by kernel_rfl) (by simp) ?_
          refine AllReadyH.cons (o := ⟨some 217, _, _, _, _, _⟩) rfl (fun K hK => ?_) (AllReadyH.nil)
          go_simp
          obtain ⟨wn, hwn, hd, hk, hlt⟩ := new_row wc37 #[.string ⟨#[122, 122]⟩, .string ⟨#[49]⟩, .string ⟨#[122, 122, 122]⟩, .string ⟨#[49]⟩] 9
          obtain ⟨g38, hg⟩ : ∃ g, g = wc37.heap.size := ⟨_, rfl⟩
          rw [← hwn, ← hg]
          rw [← hg] at hd
          replace D40 := Lib.hid (heap_kept hk D40.out)
          replace R37 := Lib.hid (rd_kept hk R37.out)
          have D38 := Lib.hid hd
          have hHn : wd.grownBy wn none := grown_new hHeld (grown_kept hk none) (fun k e => by cases e)
          refine hK.out _ _ hHn (fun hx => ?_)
          replace hHeld := hHn
          clear hx hHn hk hwn hd hg hlt
          obtain ⟨wc38, rfl⟩ : ∃ x, x = wn := ⟨_, rfl⟩
          clear hK K
          try simp only [Act.put, List.setIfInBounds_toArray, List.set_cons_zero, List.set_cons_succ]
          refine wpAnyH_ready (rs := [39]) (by kernel_rfl) (by simp) ?_
          refine AllReadyH.cons (o := ⟨some 218, _, _, _, _, _⟩) rfl (fun K hK => ?_) (AllReadyH.nil)
          go_simp
          refine (of4At ⟨#[122, 122]⟩ ⟨#[49]⟩ ⟨#[122, 122, 122]⟩ ⟨#[49]⟩ g38 _ D38.out).mono ?_
          rintro e wn ⟨A39, c39, rfl, hr, hk⟩
          clear D38
          replace D40 := Lib.hid (heap_kept hk D40.out)
          replace R37 := Lib.hid (rd_kept hk R37.out)
          have R39 := Lib.hid hr
          have hHn : wd.grownBy wn none := grown_new hHeld (grown_kept hk none) (fun k e => by cases e)
          refine hK.out _ _ hHn (fun hx => ?_)
          replace hHeld := hHn
          clear hx hHn hk hr
          obtain ⟨wc39, rfl⟩ : ∃ x, x = wn := ⟨_, rfl⟩
          clear hK K
          try simp only [Act.put, List.setIfInBounds_toArray, List.set_cons_zero, List.set_cons_succ]
          refine wpAnyH_ready (rs := [41]) (by kernel_rfl) (by simp) ?_
          refine AllReadyH.cons (o := ⟨some 220, _, _, _, _, _⟩) rfl (fun K hK => ?_) (AllReadyH.nil)
          go_simp
          refine (changesN (L.take 63) [(⟨#[110, 97]⟩, ⟨#[49]⟩), (⟨#[122, 122]⟩, ⟨#[50]⟩)] [(⟨#[122, 122]⟩, ⟨#[49]⟩), (⟨#[122, 122, 122]⟩, ⟨#[49]⟩)] [⟨#[]⟩] (LTt.out 63 (by omega)) rfl rfl rfl (RLt.out 63 (by omega) _ hHeld) R37.out R39.out (rd_row (xs := strs [⟨#[]⟩]) D40.out) (HT.out _ hHeld)).mono ?_
          rintro e wn ⟨rfl, hk⟩
          clear R37
          clear R39
          clear D40
          have hHn : wd.grownBy wn none := grown_new hHeld (grown_kept hk none) (fun k e => by cases e)
          refine hK.out _ _ hHn (fun hx => ?_)
          replace hHeld := hHn
          clear hx hHn hk 
          obtain ⟨wc41, rfl⟩ : ∃ x, x = wn := ⟨_, rfl⟩
          clear hK K
          try simp only [Act.put, List.setIfInBounds_toArray, List.set_cons_zero, List.set_cons_succ]
          exact q1.out ia2 ia3 u1 u2 u18 u19 u20 u21 u22 u23 u24 u25 u26 u27 u28 u29 u30 u31 u32 u33 u34 u35 u36 u37 u38 u39 u40 u41 u42 u43 u44 u45 u46 u47 u48 u49 u50 u51 u52 u53 u54 ia4 w1 ia6 ia7 ia8 ia9 ia10 u4 u5 u58 u59 u60 u61 u62 u63 u64 u65 u66 u67 u68 u69 u70 u71 u72 u73 u74 u75 u76 u77 u78 u79 u80 u81 u82 u83 u84 u85 u86 u87 u88 u89 u90 u91 u92 u93 u94 u95 ia11 w2 ia13 ia14 ia15 w0 g6 ia16 u0 u8 u10 u12 u13 u108 u109 u110 u111 u112 u113 u114 u115 u116 u117 u118 u119 u120 u121 u122 u123 u124 u125 u126 u127 u128 u129 u130 u131 u132 u133 u134 u135 u136 u137 u138 u139 u140 u141 u142 u143 u144 u145 u146 u147 u148 u149 u150 u151 u152 u153 u154 u155 u156 u157 u158 k3 ia17 ia18 w3 i0 hi0 hz0 hz1 hz2 ia20 ia21 ia22 h1 u15 u160 u161 u162 u163 u164 u165 u166 u167 u168 u169 u170 u171 u172 u173 u174 u175 u176 u177 k L hk hkn w4 c14 hc14 hk65 ad had l hl1 C ia24 ia25 w5 h2 ia26 ia27 ia28 ia29 ia30 ia31 wd RL HT Hfin hc64 hc63 hk1 RLt hLk LTt RL1 hl120 wc1 wc5 g8 wc8 v9 wc9 A12 c12 wc12 wc13 g21 wc21 wc22 g29 wc29 A30 c30 wc30 wc31 g36 wc36 A37 c37 wc37 g38 wc38 A39 c39 wc39 g40 wc40 wc41 hHeld
        ·
          go_simp
          obtain ⟨wn, hwn, hd, hk, hlt⟩ := new_row wc36 #[.string ⟨#[122, 122]⟩, .string ⟨#[49]⟩, .string ⟨#[122, 122, 122]⟩, .string ⟨#[49]⟩] 9
          obtain ⟨g38, hg⟩ : ∃ g, g = wc36.heap.size := ⟨_, rfl⟩
          rw [← hwn, ← hg]
          rw [← hg] at hd
          replace D40 := Lib.hid (heap_kept hk D40.out)
          replace D36 := Lib.hid (heap_kept hk D36.out)
          have D38 := Lib.hid hd
          have hHn : wd.grownBy wn none := grown_new hHeld (grown_kept hk none) (fun k e => by cases e)
          refine hK.out _ _ hHn (fun hx => ?_)
          replace hHeld := hHn
          clear hx hHn hk hwn hd hg hlt
          obtain ⟨wc38, rfl⟩ : ∃ x, x = wn := ⟨_, rfl⟩
          clear hK K
          try simp only [Act.put, List.setIfInBounds_toArray, List.set_cons_zero, List.set_cons_succ]
          refine wpAnyH_ready (rs := [37]) (by kernel_rfl) (by simp) ?_
          refine AllReadyH.cons (o := ⟨some 216, _, _, _, _, _⟩) rfl (fun K hK => ?_) (AllReadyH.nil)
          go_simp
          refine (of4At ⟨#[110, 97]⟩ ⟨#[49]⟩ ⟨#[122, 122]⟩ ⟨#[50]⟩ g36 _ D36.out).mono ?_
          rintro e wn ⟨A37, c37, rfl, hr, hk⟩
          clear D36
          replace D40 := Lib.hid (heap_kept hk D40.out)
          replace D38 := Lib.hid (heap_kept hk D38.out)
          have R37 := Lib.hid hr
          have hHn : wd.grownBy wn none := grown_new hHeld (grown_kept hk none) (fun k e => by cases e)
          refine hK.out _ _ hHn (fun hx => ?_)
          replace hHeld := hHn
          clear hx hHn hk hr
          obtain ⟨wc37, rfl⟩ : ∃ x, x = wn := ⟨_, rfl⟩
          clear hK K
          try simp only [Act.put, List.setIfInBounds_toArray, List.set_cons_zero, List.set_cons_succ]
          refine wpAnyH_ready (rs := [39]) (by kernel_rfl) (by simp) ?_
          refine AllReadyH.cons (o := ⟨some 218, _, _, _, _, _⟩) rfl (fun K hK => ?_) (AllReadyH.nil)
          go_simp
          refine (of4At ⟨#[122, 122]⟩ ⟨#[49]⟩ ⟨#[122, 122, 122]⟩ ⟨#[49]⟩ g38 _ D38.out).mono ?_
          rintro e wn ⟨A39, c39, rfl, hr, hk⟩
          clear D38
          replace D40 := Lib.hid (heap_kept hk D40.out)
          replace R37 := Lib.hid (rd_kept hk R37.out)
          have R39 := Lib.hid hr
          have hHn : wd.grownBy wn none := grown_new hHeld (grown_kept hk none) (fun k e => by cases e)
          refine hK.out _ _ hHn (fun hx => ?_)
          replace hHeld := hHn
          clear hx hHn hk hr
          obtain ⟨wc39, rfl⟩ : ∃ x, x = wn := ⟨_, rfl⟩
          clear hK K
          try simp only [Act.put, List.setIfInBounds_toArray, List.set_cons_zero, List.set_cons_succ]
          refine wpAnyH_ready (rs := [41]) (by kernel_rfl) (by simp) ?_
          refine AllReadyH.cons (o := ⟨some 220, _, _, _, _, _⟩) rfl (fun K hK => ?_) (AllReadyH.nil)
          go_simp
          refine (changesN (L.take 63) [(⟨#[110, 97]⟩, ⟨#[49]⟩), (⟨#[122, 122]⟩, ⟨#[50]⟩)] [(⟨#[122, 122]⟩, ⟨#[49]⟩), (⟨#[122, 122, 122]⟩, ⟨#[49]⟩)] [⟨#[]⟩] (LTt.out 63 (by omega)) rfl rfl rfl (RLt.out 63 (by omega) _ hHeld) R37.out R39.out (rd_row (xs := strs [⟨#[]⟩]) D40.out) (HT.out _ hHeld)).mono ?_
          rintro e wn ⟨rfl, hk⟩
          clear R37
          clear R39
          clear D40
          have hHn : wd.grownBy wn none := grown_new hHeld (grown_kept hk none) (fun k e => by cases e)
          refine hK.out _ _ hHn (fun hx => ?_)
          replace hHeld := hHn
          clear hx hHn hk 
          obtain ⟨wc41, rfl⟩ : ∃ x, x = wn := ⟨_, rfl⟩
          clear hK K
          try simp only [Act.put, List.setIfInBounds_toArray, List.set_cons_zero, List.set_cons_succ]
          exact q1.out ia2 ia3 u1 u2 u18 u19 u20 u21 u22 u23 u24 u25 u26 u27 u28 u29 u30 u31 u32 u33 u34 u35 u36 u37 u38 u39 u40 u41 u42 u43 u44 u45 u46 u47 u48 u49 u50 u51 u52 u53 u54 ia4 w1 ia6 ia7 ia8 ia9 ia10 u4 u5 u58 u59 u60 u61 u62 u63 u64 u65 u66 u67 u68 u69 u70 u71 u72 u73 u74 u75 u76 u77 u78 u79 u80 u81 u82 u83 u84 u85 u86 u87 u88 u89 u90 u91 u92 u93 u94 u95 ia11 w2 ia13 ia14 ia15 w0 g6 ia16 u0 u8 u10 u12 u13 u108 u109 u110 u111 u112 u113 u114 u115 u116 u117 u118 u119 u120 u121 u122 u123 u124 u125 u126 u127 u128 u129 u130 u131 u132 u133 u134 u135 u136 u137 u138 u139 u140 u141 u142 u143 u144 u145 u146 u147 u148 u149 u150 u151 u152 u153 u154 u155 u156 u157 u158 k3 ia17 ia18 w3 i0 hi0 hz0 hz1 hz2 ia20 ia21 ia22 h1 u15 u160 u161 u162 u163 u164 u165 u166 u167 u168 u169 u170 u171 u172 u173 u174 u175 u176 u177 k L hk hkn w4 c14 hc14 hk65 ad had l hl1 C ia24 ia25 w5 h2 ia26 ia27 ia28 ia29 ia30 ia31 wd RL HT Hfin hc64 hc63 hk1 RLt hLk LTt RL1 hl120 wc1 wc5 g8 wc8 v9 wc9 A12 c12 wc12 wc13 g21 wc21 wc22 g29 wc29 A30 c30 wc30 wc31 g36 wc36 A37 c37 wc37 g38 wc38 A39 c39 wc39 g40 wc40 wc41 hHeld
      ·
        go_simp
        obtain ⟨wn, hwn, hd, hk, hlt⟩ := new_row wc40 #[.string ⟨#[122, 122]⟩, .string ⟨#[49]⟩, .string ⟨#[122, 122, 122]⟩, .string ⟨#[49]⟩] 9
        obtain ⟨g38, hg⟩ : ∃ g, g = wc40.heap.size := ⟨_, rfl⟩
        rw [← hwn, ← hg]
        rw [← hg] at hd
        replace D40 := Lib.hid (heap_kept hk D40.out)
        have D38 := Lib.hid hd
        have hHn : wd.grownBy wn none := grown_new hHeld (grown_kept hk none) (fun k e => by cases e)
        refine hK.out _ _ hHn (fun hx => ?_)
        replace hHeld := hHn
        clear hx hHn hk hwn hd hg hlt
        obtain ⟨wc38, rfl⟩ : ∃ x, x = wn := ⟨_, rfl⟩
        clear hK K
        try simp only [Act.put, List.setIfInBounds_toArray, List.set_cons_zero, List.set_cons_succ]
        refine wpAnyH_ready (rs := [36]) (by kernel_rfl) (by simp) ?_
        refine AllReadyH.cons (o := ⟨some 215, _, _, _, _, _⟩) rfl (fun K hK => ?_) (AllReadyH.nil)
        go_simp
        obtain ⟨wn, hwn, hd, hk, hlt⟩ := new_row wc38 #[.string ⟨#[110, 97]⟩, .string ⟨#[49]⟩, .string ⟨#[122, 122]⟩, .string ⟨#[50]⟩] 9
        obtain ⟨g36, hg⟩ : ∃ g, g = wc38.heap.size := ⟨_, rfl⟩
        rw [← hwn, ← hg]
        rw [← hg] at hd
        replace D40 := Lib.hid (heap_kept hk D40.out)
        replace D38 := Lib.hid (heap_kept hk D38.out)
        have D36 := Lib.hid hd
        have hHn : wd.grownBy wn none := grown_new hHeld (grown_kept hk none) (fun k e => by cases e)
        refine hK.out _ _ hHn (fun hx => ?_)
        replace hHeld := hHn
        clear hx hHn hk hwn hd hg hlt
        obtain ⟨wc36, rfl⟩ : ∃ x, x = wn := ⟨_, rfl⟩
        clear hK K
        try simp only [Act.put, List.setIfInBounds_toArray, List.set_cons_zero, List.set_cons_succ]
        refine wpAnyH_ready (rs := [37]) (by kernel_rfl) (by simp) ?_
        refine AllReadyH.cons (o := ⟨some 216, _, _, _, _, _⟩) rfl (fun K hK => ?_) (AllReadyH.nil)
        go_simp
        refine (of4At ⟨#[110, 97]⟩ ⟨#[49]⟩ ⟨#[122, 122]⟩ ⟨#[50]⟩ g36 _ D36.out).mono ?_
        rintro e wn ⟨A37, c37, rfl, hr, hk⟩
        clear D36
        replace D40 := Lib.hid (heap_kept hk D40.out)
        replace D38 := Lib.hid (heap_kept hk D38.out)
        have R37 := Lib.hid hr
        have hHn : wd.grownBy wn none := grown_new hHeld (grown_kept hk none) (fun k e => by cases e)
        refine hK.out _ _ hHn (fun hx => ?_)
        replace hHeld := hHn
        clear hx hHn hk hr
        obtain ⟨wc37, rfl⟩ : ∃ x, x = wn := ⟨_, rfl⟩
        clear hK K
        try simp only [Act.put, List.setIfInBounds_toArray, List.set_cons_zero, List.set_cons_succ]
        refine wpAnyH_ready (rs := [39]) (by kernel_rfl) (by simp) ?_
        refine AllReadyH.cons (o := ⟨some 218, _, _, _, _, _⟩) rfl (fun K hK => ?_) (AllReadyH.nil)
        go_simp
        refine (of4At ⟨#[122, 122]⟩ ⟨#[49]⟩ ⟨#[122, 122, 122]⟩ ⟨#[49]⟩ g38 _ D38.out).mono ?_
        rintro e wn ⟨A39, c39, rfl, hr, hk⟩
        clear D38
        replace D40 := Lib.hid (heap_kept hk D40.out)
        replace R37 := Lib.hid (rd_kept hk R37.out)
        have R39 := Lib.hid hr
        have hHn : wd.grownBy wn none := grown_new hHeld (grown_kept hk none) (fun k e => by cases e)
        refine hK.out _ _ hHn (fun hx => ?_)
        replace hHeld := hHn
        clear hx hHn hk hr
        obtain ⟨wc39, rfl⟩ : ∃ x, x = wn := ⟨_, rfl⟩
        clear hK K
        try simp only [Act.put, List.setIfInBounds_toArray, List.set_cons_zero, List.set_cons_succ]
        refine wpAnyH_ready (rs := [41]) (by kernel_rfl) (by simp) ?_
        refine AllReadyH.cons (o := ⟨some 220, _, _, _, _, _⟩) rfl (fun K hK => ?_) (AllReadyH.nil)
        go_simp
        refine (changesN (L.take 63) [(⟨#[110, 97]⟩, ⟨#[49]⟩), (⟨#[122, 122]⟩, ⟨#[50]⟩)] [(⟨#[122, 122]⟩, ⟨#[49]⟩), (⟨#[122, 122, 122]⟩, ⟨#[49]⟩)] [⟨#[]⟩] (LTt.out 63 (by omega)) rfl rfl rfl (RLt.out 63 (by omega) _ hHeld) R37.out R39.out (rd_row (xs := strs [⟨#[]⟩]) D40.out) (HT.out _ hHeld)).mono ?_
        rintro e wn ⟨rfl, hk⟩
        clear R37
        clear R39
        clear D40
        have hHn : wd.grownBy wn none := grown_new hHeld (grown_kept hk none) (fun k e => by cases e)
        refine hK.out _ _ hHn (fun hx => ?_)
        replace hHeld := hHn
        clear hx hHn hk 
        obtain ⟨wc41, rfl⟩ : ∃ x, x = wn := ⟨_, rfl⟩
        clear hK K
        try simp only [Act.put, List.setIfInBounds_toArray, List.set_cons_zero, List.set_cons_succ]
        exact q1.out ia2 ia3 u1 u2 u18 u19 u20 u21 u22 u23 u24 u25 u26 u27 u28 u29 u30 u31 u32 u33 u34 u35 u36 u37 u38 u39 u40 u41 u42 u43 u44 u45 u46 u47 u48 u49 u50 u51 u52 u53 u54 ia4 w1 ia6 ia7 ia8 ia9 ia10 u4 u5 u58 u59 u60 u61 u62 u63 u64 u65 u66 u67 u68 u69 u70 u71 u72 u73 u74 u75 u76 u77 u78 u79 u80 u81 u82 u83 u84 u85 u86 u87 u88 u89 u90 u91 u92 u93 u94 u95 ia11 w2 ia13 ia14 ia15 w0 g6 ia16 u0 u8 u10 u12 u13 u108 u109 u110 u111 u112 u113 u114 u115 u116 u117 u118 u119 u120 u121 u122 u123 u124 u125 u126 u127 u128 u129 u130 u131 u132 u133 u134 u135 u136 u137 u138 u139 u140 u141 u142 u143 u144 u145 u146 u147 u148 u149 u150 u151 u152 u153 u154 u155 u156 u157 u158 k3 ia17 ia18 w3 i0 hi0 hz0 hz1 hz2 ia20 ia21 ia22 h1 u15 u160 u161 u162 u163 u164 u165 u166 u167 u168 u169 u170 u171 u172 u173 u174 u175 u176 u177 k L hk hkn w4 c14 hc14 hk65 ad had l hl1 C ia24 ia25 w5 h2 ia26 ia27 ia28 ia29 ia30 ia31 wd RL HT Hfin hc64 hc63 hk1 RLt hLk LTt RL1 hl120 wc1 wc5 g8 wc8 v9 wc9 A12 c12 wc12 wc13 g21 wc21 wc22 g29 wc29 A30 c30 wc30 wc31 g36 wc36 A37 c37 wc37 g38 wc38 A39 c39 wc39 g40 wc40 wc41 hHeld
end Go.Proofs.YtlhekeokognhmaaGreatDoor
