/-
  LabelSmall: the three loops.
-/
import Derived.Test.YtlhekeokognhmaaGreatDoorMgbr
import Derived.Deep.CutBlock
namespace Go.Proofs.YtlhekeokognhmaaGreatDoor
open Go.RowKit Go.Shelf Go.Maps Go.Sort
set_option maxRecDepth 100000 in
set_option maxHeartbeats 40000000 in
theorem sp_3 (w : World) (hT : Tab w) : (sp0 w hT).1.2.2.1 := by
  delta sp0 mk5
  dsimp -zeta only
  clear hT
  intro HT ia1 ia2 ia3 u1 u2 u18 u19 u20 u21 u22 u23 u24 u25 u26 u27 u28 u29 u30 u31 u32 u33 u34 u35 u36 u37 u38 u39 u40 u41 u42 u43 u44 u45 u46 u47 u48 u49 u50 u51 u52 u53 u54 ia4 w1 ia5 ia6 ia7 ia8 ia9 ia10 u4 u5 u58 u59 u60 u61 u62 u63 u64 u65 u66 u67 u68 u69 u70 u71 u72 u73 u74 u75 u76 u77 u78 u79 u80 u81 u82 u83 u84 u85 u86 u87 u88 u89 u90 u91 u92 u93 u94 u95 k w2 ia11 ia12 ia13 ia14 ia15 w0 g6 HK0 L hLn HZ HR wr u0 u8 u10 u12 u13 u108 u109 u110 u111 u112 u113 u114 u115 u116 u117 u118 u119 u120 u121 u122 u123 u124 u125 u126 u127 u128 u129 u130 u131 u132 u133 u134 u135 u136 u137 u138 u139 u140 u141 u142 u143 u144 u145 u146 u147 u148 u149 u150 u151 u152 u153 u154 u155 u156 u157 u158 k3 hk hkr hkn
  obtain ⟨ad, x, hA, had, hx, _, hc0, hc1⟩ := rdl_at (HR.out _ hkr.out) (k := k3) (by omega)
  cases hA
  have Hx : x ∈ L := List.mem_of_getElem? hx
  have had0 : (⟨g6, 0, none⟩ : Addr).add (k3 * 2) = ⟨g6, k3 * 2, none⟩ := by rw [add0]
  have Hcl := lab_cells hc0 hc1
  rw [had0] at Hcl
  have Hcl := Lib.hid Hcl
  have h1 : (k3 : Int) < 8 := by omega
  clear hx hc0 hc1 had0 had
  go_wp2_with (refine wpList_load_at rfl 33 (.tmp 109) rfl (⟨g6, k3 * 2, none⟩) rfl #[.string x.1, .string x.2] _ Hcl.out Tryz.underlying33 rfl sizeL ?_)
  obtain ⟨x3, hw, hd, hk1, _⟩ := new_row wr #[.string x.1, .string x.2] 33
  obtain ⟨g8, hg⟩ : ∃ g, g = wr.heap.size := ⟨_, rfl⟩
  rw [← hw, ← hg]
  rw [← hg] at hd
  have Dg8 : Hid (∀ W, Kept x3 W → W.heap[g8]? = some (.cells #[.string x.1, .string x.2] 33)) := fun W h => heap_kept h hd
  have Kx3 : Hid (Kept w0 x3) := below_kept hkr.out hk1
  have Jx3 : Hid (Kept w0 x3) := below_kept hkr.out hk1
  obtain ⟨v3, rfl⟩ : ∃ x, x = wr := ⟨_, rfl⟩
  clear hw hd hk1 hg Hcl hkr
  go_loopw [113] (fun v113 wr => ∃ k : Nat, k ≤ 8 ∧ v113 = .int .i64 k ∧ Hid (Kept x3 wr)) (fun v113 _ => 8 - (intOf v113).toNat)
  case atStart => exact ⟨0, by omega, rfl, Below.refl _ _⟩
  case round =>
    obtain ⟨k4, hk, rfl, hkr⟩ := hrel
    by_cases hkn : k4 < 8
    · obtain ⟨ad, y, hA, had, hx, _, hc0, hc1⟩ := rdl_at (HR.out _ (below_kept Kx3.out hkr.out)) (k := k4) (by omega)
      cases hA
      have Hy : y ∈ L := List.mem_of_getElem? hx
      have had0 : (⟨g6, 0, none⟩ : Addr).add (k4 * 2) = ⟨g6, k4 * 2, none⟩ := by rw [add0]
      have Hcl := lab_cells hc0 hc1
      rw [had0] at Hcl
      have Hcl := Lib.hid Hcl
      have h1 : (k4 : Int) < 8 := by omega
      clear hx hc0 hc1 had0 had
      go_wp2_with (refine wpList_load_at rfl 33 (.tmp 115) rfl (⟨g6, k4 * 2, none⟩) rfl #[.string y.1, .string y.2] _ Hcl.out Tryz.underlying33 rfl sizeL ?_)
      obtain ⟨x4, hw, hd, hk1, _⟩ := new_row wr #[.string y.1, .string y.2] 33
      obtain ⟨g10, hg⟩ : ∃ g, g = wr.heap.size := ⟨_, rfl⟩
      rw [← hw, ← hg]
      rw [← hg] at hd
      have Dg10 : Hid (∀ W, Kept x4 W → W.heap[g10]? = some (.cells #[.string y.1, .string y.2] 33)) := fun W h => heap_kept h hd
      have Kx4 : Hid (Kept w0 x4) := below_kept (below_kept Kx3.out hkr.out) hk1
      have Jx4 : Hid (Kept x3 x4) := below_kept hkr.out hk1
      obtain ⟨v4, rfl⟩ : ∃ x, x = wr := ⟨_, rfl⟩
      clear hw hd hk1 hg Hcl hkr
      go_loopw [119] (fun v119 wr => ∃ k : Nat, k ≤ 8 ∧ v119 = .int .i64 k ∧ Hid (Kept x4 wr)) (fun v119 _ => 8 - (intOf v119).toNat)
      case atStart => exact ⟨0, by omega, rfl, Below.refl _ _⟩
      case round =>
        obtain ⟨k5, hk, rfl, hkr⟩ := hrel
        by_cases hkn : k5 < 8
        · obtain ⟨ad, z, hA, had, hx, _, hc0, hc1⟩ := rdl_at (HR.out _ (below_kept Kx4.out hkr.out)) (k := k5) (by omega)
          cases hA
          have Hz : z ∈ L := List.mem_of_getElem? hx
          have had0 : (⟨g6, 0, none⟩ : Addr).add (k5 * 2) = ⟨g6, k5 * 2, none⟩ := by rw [add0]
          have Hcl := lab_cells hc0 hc1
          rw [had0] at Hcl
          have Hcl := Lib.hid Hcl
          have h1 : (k5 : Int) < 8 := by omega
          clear hx hc0 hc1 had0 had
          go_upto_region 25 with (refine wpList_load_at rfl 33 (.tmp 121) rfl (⟨g6, k5 * 2, none⟩) rfl #[.string z.1, .string z.2] _ Hcl.out Tryz.underlying33 rfl sizeL ?_)
          obtain ⟨x5, hw, hd, hk1, _⟩ := new_row wr #[.string z.1, .string z.2] 33
          obtain ⟨g12, hg⟩ : ∃ g, g = wr.heap.size := ⟨_, rfl⟩
          rw [← hw, ← hg]
          rw [← hg] at hd
          have Dg12 : Hid (∀ W, Kept x5 W → W.heap[g12]? = some (.cells #[.string z.1, .string z.2] 33)) := fun W h => heap_kept h hd
          have Kx5 : Hid (Kept w0 x5) := below_kept (below_kept Kx4.out hkr.out) hk1
          have Jx5 : Hid (Kept x4 x5) := below_kept hkr.out hk1
          obtain ⟨v5, rfl⟩ : ∃ x, x = wr := ⟨_, rfl⟩
          clear hw hd hk1 hg Hcl hkr
          have Hc8 : Hid (∀ j v, (#[.string x.1, .string x.2] : Array Value)[j]? = some v → x5.cell? ((⟨g8, 0, none⟩ : Addr).add j) = some v) := row_cellsK (Dg8.out _ (below_kept Jx4.out Jx5.out))
          have Hc10 : Hid (∀ j v, (#[.string y.1, .string y.2] : Array Value)[j]? = some v → x5.cell? ((⟨g10, 0, none⟩ : Addr).add j) = some v) := row_cellsK (Dg10.out _ Jx5.out)
          have Hc12 : Hid (∀ j v, (#[.string z.1, .string z.2] : Array Value)[j]? = some v → x5.cell? ((⟨g12, 0, none⟩ : Addr).add j) = some v) := row_cellsK (Dg12.out _ (Below.refl _ _))
          go_upto_region 26 with (first | (refine wpList_load_at rfl 33 (.tmp 8) rfl (⟨g8, 0, none⟩) rfl #[.string x.1, .string x.2] _ Hc8.out Tryz.underlying33 rfl sizeL ?_) | (refine wpList_load_at rfl 33 (.tmp 10) rfl (⟨g10, 0, none⟩) rfl #[.string y.1, .string y.2] _ Hc10.out Tryz.underlying33 rfl sizeL ?_) | (refine wpList_load_at rfl 33 (.tmp 12) rfl (⟨g12, 0, none⟩) rfl #[.string z.1, .string z.2] _ Hc12.out Tryz.underlying33 rfl sizeL ?_))
          obtain ⟨x6, hw, hd, hk1, _⟩ := new_row x5 #[.string x.1, .string x.2, .string y.1, .string y.2, .string z.1, .string z.2] 33
          obtain ⟨g13, hg⟩ : ∃ g, g = x5.heap.size := ⟨_, rfl⟩
          rw [← hw, ← hg]
          rw [← hg] at hd
          have Dg13 := Lib.hid hd
          have K56 : Hid (Kept x5 x6) := hk1
          clear hw hd hk1 hg Hc8 Hc10 Hc12
          go_cut [155] (fun v155 W => v155 = .bool false ∧ Hid (Kept x6 W))
          case first =>
            obtain ⟨wd, hwd⟩ : ∃ x, x = x6.drew := ⟨_, rfl⟩
            have hkd : Kept x6 wd := by rw [hwd]; exact below_drew0 (Below.refl x6.heap.size x6)
            have c80 : wd.cell? ⟨g8, 0, none⟩ = some (.string x.1) := by rw [cell_of_row _ _ _ _ _ _ (Dg8.out _ (below_kept (below_kept Jx4.out Jx5.out) (below_kept K56.out hkd)))]; rfl
            have c100 : wd.cell? ⟨g10, 0, none⟩ = some (.string y.1) := by rw [cell_of_row _ _ _ _ _ _ (Dg10.out _ (below_kept Jx5.out (below_kept K56.out hkd)))]; rfl
            have c121 : wd.cell? ⟨g12, 1, none⟩ = some (.string z.2) := by rw [cell_of_row _ _ _ _ _ _ (Dg12.out _ (below_kept K56.out hkd))]; rfl
            have hg8 : g8 < wd.heap.size := heap_lt (Dg8.out _ (below_kept (below_kept Jx4.out Jx5.out) (below_kept K56.out hkd)))
            have hg10 : g10 < wd.heap.size := heap_lt (Dg10.out _ (below_kept Jx5.out (below_kept K56.out hkd)))
            have hg12 : g12 < wd.heap.size := heap_lt (Dg12.out _ (below_kept K56.out hkd))
            have D13 : Hid (∀ W, wd.grownBy W none → W.heap[g13]? = some (.cells #[.string x.1, .string x.2, .string y.1, .string y.2, .string z.1, .string z.2] 33)) := fun W h => heap_kept (below_kept hkd (grown_keptN h)) Dg13.out
            have RL3 : Hid (∀ W, wd.grownBy W none → RdL W W.heap.size (some ⟨g13, 0, none⟩) [x, y, z]) := fun W h => rd_row (xs := labs [x, y, z]) (D13.out W h)
            have RL2 : Hid (∀ W, wd.grownBy W none → RdL W W.heap.size (some ⟨g13, 0, none⟩) [x, y]) := fun W h => rd_first (D13.out W h)
            have RL1 : Hid (∀ W, wd.grownBy W none → RdL W W.heap.size (some ⟨g13, 2, none⟩) [y, z]) := fun W h => rd_last (D13.out W h)
            have HT0 := HT
            replace HT : Hid (∀ W, wd.grownBy W none → Tab W) := fun W hW => HT0.out W (below_kept HK0.out (below_kept Kx5.out (below_kept K56.out (below_kept hkd (grown_keptN hW)))))
            have Hfin : Hid (∀ W, Kept wd W → Kept x6 W) := fun W h => below_kept hkd h
            refine wp_region_held_drew (S := fun W => x6.drew.grownBy W none) (by kernel_rfl) (grown_kept (Below.refl _ _) _) (fun hHeld => ?_)
            rw [← hwd] at hHeld ⊢
            clear hwd hkd HT0 Kx3 Kx4 Kx5 Jx3 Jx4 Jx5 K56 Dg8 Dg10 Dg12 Dg13 D13 HR
            refine wpAnyH_take (i := 0) (oi := ⟨some 127, _, _, _, _, _⟩) (v := ?_) rfl (by kernel_rfl) (by kernel_rfl) (by kernel_rfl) (fun _ _ _ h => h) (Or.inl ⟨by rfl, ?_⟩) hHeld ?_
            rotate_left
            · (intro w hSw; go_simp; (try with_reducible rfl))
            try simp only [Act.put, List.setIfInBounds_toArray, List.set_cons_zero, List.set_cons_succ]
            refine wpAnyH_take (i := 1) (oi := ⟨some 128, _, _, _, _, _⟩) rfl (by kernel_rfl) (by kernel_rfl) (by kernel_rfl) (fun _ _ _ h => h) (yields_cell (by rfl) _ _ rfl ⟨g8, 0, none⟩ rfl _ (fun w v h => load_str w _ v h) hg8 (by simp) c80) hHeld ?_
            try simp only [Act.put, List.setIfInBounds_toArray, List.set_cons_zero, List.set_cons_succ]
            refine wpAnyH_take (i := 2) (oi := ⟨some 129, _, _, _, _, _⟩) (v := ?_) rfl (by kernel_rfl) (by kernel_rfl) (by kernel_rfl) (fun _ _ _ h => h) (Or.inl ⟨by rfl, ?_⟩) hHeld ?_
            rotate_left
            · (intro w hSw; go_simp; (try with_reducible rfl))
            try simp only [Act.put, List.setIfInBounds_toArray, List.set_cons_zero, List.set_cons_succ]
            refine wpAnyH_ready (rs := [3]) (by kernel_rfl) (by simp) ?_
            refine AllReadyH.cons (o := ⟨some 130, _, _, _, _, _⟩) rfl (fun K hK => ?_) (AllReadyH.nil)
            go_simp
            refine (tells_any x.1 (HZ x Hx) (some ⟨g13, 0, none⟩) 3 [x, y, z] _ (RL3.out _ hHeld) (HT.out _ hHeld)).mono ?_
            rintro e wn ⟨rfl, hk⟩
            have hHn : wd.grownBy wn none := grown_new hHeld (grown_kept hk none) (fun k e => by cases e)
            refine hK.out _ _ hHn (fun _ => ?_)
            replace hHeld := hHn
            clear hHn hk 
            obtain ⟨wc, rfl⟩ : ∃ x, x = wn := ⟨_, rfl⟩
            clear hK K
            try simp only [Act.put, List.setIfInBounds_toArray, List.set_cons_zero, List.set_cons_succ]
            refine wpAnyH_take (i := 4) (oi := ⟨some 131, _, _, _, _, _⟩) (v := ?_) rfl (by kernel_rfl) (by kernel_rfl) (by kernel_rfl) (fun _ _ _ h => h) (Or.inl ⟨by rfl, ?_⟩) hHeld ?_
            rotate_left
            · (intro w hSw; go_simp; (try with_reducible rfl))
            try simp only [Act.put, List.setIfInBounds_toArray, List.set_cons_zero, List.set_cons_succ]
            refine wpAnyH_take (i := 5) (oi := ⟨some 132, _, _, _, _, _⟩) (v := ?_) rfl (by kernel_rfl) (by kernel_rfl) (by kernel_rfl) (fun _ _ _ h => h) (Or.inl ⟨by rfl, ?_⟩) hHeld ?_
            rotate_left
            · (intro w hSw; go_simp; (try with_reducible rfl))
            try simp only [Act.put, List.setIfInBounds_toArray, List.set_cons_zero, List.set_cons_succ]
            refine wpAnyH_take (i := 8) (oi := ⟨some 135, _, _, _, _, _⟩) (v := ?_) rfl (by kernel_rfl) (by kernel_rfl) (by kernel_rfl) (fun _ _ _ h => h) (Or.inl ⟨by rfl, ?_⟩) hHeld ?_
            rotate_left
            · (intro w hSw; go_simp; (try with_reducible rfl))
            try simp only [Act.put, List.setIfInBounds_toArray, List.set_cons_zero, List.set_cons_succ]
            refine wpAnyH_take (i := 9) (oi := ⟨some 136, _, _, _, _, _⟩) (v := ?_) rfl (by kernel_rfl) (by kernel_rfl) (by kernel_rfl) (fun _ _ _ h => h) (Or.inl ⟨by rfl, ?_⟩) hHeld ?_
            rotate_left
            · (intro w hSw; go_simp; (try with_reducible rfl))
            try simp only [Act.put, List.setIfInBounds_toArray, List.set_cons_zero, List.set_cons_succ]
            refine wpAnyH_take (i := 10) (oi := ⟨some 137, _, _, _, _, _⟩) (v := ?_) rfl (by kernel_rfl) (by kernel_rfl) (by kernel_rfl) (fun _ _ _ h => h) (Or.inl ⟨by rfl, ?_⟩) hHeld ?_
            rotate_left
            · (intro w hSw; go_simp; (try with_reducible rfl))
            try simp only [Act.put, List.setIfInBounds_toArray, List.set_cons_zero, List.set_cons_succ]
            refine wpAnyH_take (i := 11) (oi := ⟨some 138, _, _, _, _, _⟩) (v := ?_) rfl (by kernel_rfl) (by kernel_rfl) (by kernel_rfl) (fun _ _ _ h => h) (Or.inl ⟨by rfl, ?_⟩) hHeld ?_
            rotate_left
            · (intro w hSw; go_simp; (try with_reducible rfl))
            try simp only [Act.put, List.setIfInBounds_toArray, List.set_cons_zero, List.set_cons_succ]
            refine wpAnyH_take (i := 12) (oi := ⟨some 139, _, _, _, _, _⟩) rfl (by kernel_rfl) (by kernel_rfl) (by kernel_rfl) (fun _ _ _ h => h) (yields_cell (by rfl) _ _ rfl ⟨g10, 0, none⟩ rfl _ (fun w v h => load_str w _ v h) hg10 (by simp) c100) hHeld ?_
            try simp only [Act.put, List.setIfInBounds_toArray, List.set_cons_zero, List.set_cons_succ]
            refine wpAnyH_take (i := 13) (oi := ⟨some 140, _, _, _, _, _⟩) (v := ?_) rfl (by kernel_rfl) (by kernel_rfl) (by kernel_rfl) (fun _ _ _ h => h) (Or.inl ⟨by rfl, ?_⟩) hHeld ?_
            rotate_left
            · (intro w hSw; go_simp; (try with_reducible rfl))
            try simp only [Act.put, List.setIfInBounds_toArray, List.set_cons_zero, List.set_cons_succ]
            refine wpAnyH_take (i := 14) (oi := ⟨some 141, _, _, _, _, _⟩) rfl (by kernel_rfl) (by kernel_rfl) (by kernel_rfl) (fun _ _ _ h => h) (yields_cell (by rfl) _ _ rfl ⟨g12, 1, none⟩ rfl _ (fun w v h => load_str w _ v h) hg12 (by simp) c121) hHeld ?_
            try simp only [Act.put, List.setIfInBounds_toArray, List.set_cons_zero, List.set_cons_succ]
            refine wpAnyH_ready (rs := [6, 15]) (by kernel_rfl) (by simp) ?_
            refine AllReadyH.cons (o := ⟨some 133, _, _, _, _, _⟩) rfl (fun K hK => ?_) (AllReadyH.cons (o := ⟨some 142, _, _, _, _, _⟩) rfl (fun K hK => ?_) (AllReadyH.nil))
            ·
              go_simp
              obtain ⟨wn, hwn, hd, hk, hlt⟩ := new_row wc #[.string ⟨#[97]⟩, .string ⟨#[49]⟩, .string ⟨#[98]⟩, .string ⟨#[50]⟩] 9
              obtain ⟨g6, hg⟩ : ∃ g, g = wc.heap.size := ⟨_, rfl⟩
              rw [← hwn, ← hg]
              rw [← hg] at hd
              have D6 := Lib.hid hd
              have hHn : wd.grownBy wn none := grown_new hHeld (grown_kept hk none) (fun k e => by cases e)
              refine hK.out _ _ hHn (fun _ => ?_)
              replace hHeld := hHn
              clear hHn hk hwn hd hg hlt
              obtain ⟨wc, rfl⟩ : ∃ x, x = wn := ⟨_, rfl⟩
              clear hK K
              try simp only [Act.put, List.setIfInBounds_toArray, List.set_cons_zero, List.set_cons_succ]
              refine wpAnyH_ready (rs := [7, 15]) (by kernel_rfl) (by simp) ?_
              refine AllReadyH.cons (o := ⟨some 134, _, _, _, _, _⟩) rfl (fun K hK => ?_) (AllReadyH.cons (o := ⟨some 142, _, _, _, _, _⟩) rfl (fun K hK => ?_) (AllReadyH.nil))
              ·
                go_simp
                refine (of4At ⟨#[97]⟩ ⟨#[49]⟩ ⟨#[98]⟩ ⟨#[50]⟩ g6 _ D6.out).mono ?_
                rintro e wn ⟨A7, c7, rfl, hr, hk⟩
                clear D6
                have R7 := Lib.hid hr
                have hHn : wd.grownBy wn none := grown_new hHeld (grown_kept hk none) (fun k e => by cases e)
                refine hK.out _ _ hHn (fun _ => ?_)
                replace hHeld := hHn
                clear hHn hk hr
                obtain ⟨wc, rfl⟩ : ∃ x, x = wn := ⟨_, rfl⟩
                clear hK K
                try simp only [Act.put, List.setIfInBounds_toArray, List.set_cons_zero, List.set_cons_succ]
                refine wpAnyH_ready (rs := [15]) (by kernel_rfl) (by simp) ?_
                refine AllReadyH.cons (o := ⟨some 142, _, _, _, _, _⟩) rfl (fun K hK => ?_) (AllReadyH.nil)
                go_simp
                obtain ⟨wn, hwn, hd, hk, hlt⟩ := new_row wc #[.string y.1, .string z.2] 9
                obtain ⟨g15, hg⟩ : ∃ g, g = wc.heap.size := ⟨_, rfl⟩
                rw [← hwn, ← hg]
                rw [← hg] at hd
                replace R7 := Lib.hid (rd_kept hk R7.out)
                have D15 := Lib.hid hd
                have hHn : wd.grownBy wn none := grown_new hHeld (grown_kept hk none) (fun k e => by cases e)
                refine hK.out _ _ hHn (fun _ => ?_)
                replace hHeld := hHn
                clear hHn hk hwn hd hg hlt
                obtain ⟨wc, rfl⟩ : ∃ x, x = wn := ⟨_, rfl⟩
                clear hK K
                try simp only [Act.put, List.setIfInBounds_toArray, List.set_cons_zero, List.set_cons_succ]
                refine wpAnyH_ready (rs := [16]) (by kernel_rfl) (by simp) ?_
                refine AllReadyH.cons (o := ⟨some 143, _, _, _, _, _⟩) rfl (fun K hK => ?_) (AllReadyH.nil)
                go_simp
                refine (changes_any A7 (some ⟨g13, 0, none⟩) (some ⟨g13, 0, none⟩) (some ⟨g15, 0, none⟩) c7 3 3 2 [(⟨#[97]⟩, ⟨#[49]⟩), (⟨#[98]⟩, ⟨#[50]⟩)] [x, y] [x, y, z] [y.1, z.2] _ R7.out (RL2.out _ hHeld) (RL3.out _ hHeld) (rd_row (xs := strs [y.1, z.2]) D15.out) (HT.out _ hHeld)).mono ?_
                rintro e wn ⟨rfl, hk⟩
                clear R7
                clear D15
                have hHn : wd.grownBy wn none := grown_new hHeld (grown_kept hk none) (fun k e => by cases e)
                refine hK.out _ _ hHn (fun _ => ?_)
                replace hHeld := hHn
                clear hHn hk 
                obtain ⟨wc, rfl⟩ : ∃ x, x = wn := ⟨_, rfl⟩
                clear hK K
                try simp only [Act.put, List.setIfInBounds_toArray, List.set_cons_zero, List.set_cons_succ]
                refine wpAnyH_take (i := 17) (oi := ⟨some 144, _, _, _, _, _⟩) (v := ?_) rfl (by kernel_rfl) (by kernel_rfl) (by kernel_rfl) (fun _ _ _ h => h) (Or.inl ⟨by rfl, ?_⟩) hHeld ?_
                rotate_left
                · (intro w hSw; go_simp; (try with_reducible rfl))
                try simp only [Act.put, List.setIfInBounds_toArray, List.set_cons_zero, List.set_cons_succ]
                refine wpAnyH_take (i := 18) (oi := ⟨some 145, _, _, _, _, _⟩) (v := ?_) rfl (by kernel_rfl) (by kernel_rfl) (by kernel_rfl) (fun _ _ _ h => h) (Or.inl ⟨by rfl, ?_⟩) hHeld ?_
                rotate_left
                · (intro w hSw; go_simp; (try with_reducible rfl))
                try simp only [Act.put, List.setIfInBounds_toArray, List.set_cons_zero, List.set_cons_succ]
                refine wpAnyH_take (i := 19) (oi := ⟨some 146, _, _, _, _, _⟩) (v := ?_) rfl (by kernel_rfl) (by kernel_rfl) (by kernel_rfl) (fun _ _ _ h => h) (Or.inl ⟨by rfl, ?_⟩) hHeld ?_
                rotate_left
                · (intro w hSw; go_simp; (try with_reducible rfl))
                try simp only [Act.put, List.setIfInBounds_toArray, List.set_cons_zero, List.set_cons_succ]
                refine wpAnyH_take (i := 20) (oi := ⟨some 147, _, _, _, _, _⟩) (v := ?_) rfl (by kernel_rfl) (by kernel_rfl) (by kernel_rfl) (fun _ _ _ h => h) (Or.inl ⟨by rfl, ?_⟩) hHeld ?_
                rotate_left
                · (intro w hSw; go_simp; (try with_reducible rfl))
                try simp only [Act.put, List.setIfInBounds_toArray, List.set_cons_zero, List.set_cons_succ]
                refine wpAnyH_take (i := 21) (oi := ⟨some 148, _, _, _, _, _⟩) (v := ?_) rfl (by kernel_rfl) (by kernel_rfl) (by kernel_rfl) (fun _ _ _ h => h) (Or.inl ⟨by rfl, ?_⟩) hHeld ?_
                rotate_left
                · (intro w hSw; go_simp; (try with_reducible rfl))
                try simp only [Act.put, List.setIfInBounds_toArray, List.set_cons_zero, List.set_cons_succ]
                refine wpAnyH_take (i := 24) (oi := ⟨some 151, _, _, _, _, _⟩) (v := ?_) rfl (by kernel_rfl) (by kernel_rfl) (by kernel_rfl) (fun _ _ _ h => h) (Or.inl ⟨by rfl, ?_⟩) hHeld ?_
                rotate_left
                · (intro w hSw; go_simp; (try with_reducible rfl))
                try simp only [Act.put, List.setIfInBounds_toArray, List.set_cons_zero, List.set_cons_succ]
                refine wpAnyH_ready (rs := [22, 25]) (by kernel_rfl) (by simp) ?_
                refine AllReadyH.cons (o := ⟨some 149, _, _, _, _, _⟩) rfl (fun K hK => ?_) (AllReadyH.cons (o := ⟨some 152, _, _, _, _, _⟩) rfl (fun K hK => ?_) (AllReadyH.nil))
                ·
                  go_simp
                  obtain ⟨wn, hwn, hd, hk, hlt⟩ := new_row wc #[.string ⟨#[97]⟩, .string ⟨#[53]⟩, .string ⟨#[101, 120, 112, 111, 114, 116, 101, 100, 95, 97]⟩, .string ⟨#[54]⟩] 9
                  obtain ⟨g22, hg⟩ : ∃ g, g = wc.heap.size := ⟨_, rfl⟩
                  rw [← hwn, ← hg]
                  rw [← hg] at hd
                  have D22 := Lib.hid hd
                  have hHn : wd.grownBy wn none := grown_new hHeld (grown_kept hk none) (fun k e => by cases e)
                  refine hK.out _ _ hHn (fun _ => ?_)
                  replace hHeld := hHn
                  clear hHn hk hwn hd hg hlt
                  obtain ⟨wc, rfl⟩ : ∃ x, x = wn := ⟨_, rfl⟩
                  clear hK K
                  try simp only [Act.put, List.setIfInBounds_toArray, List.set_cons_zero, List.set_cons_succ]
                  refine wpAnyH_ready (rs := [23, 25]) (by kernel_rfl) (by simp) ?_
                  refine AllReadyH.cons (o := ⟨some 150, _, _, _, _, _⟩) rfl (fun K hK => ?_) (AllReadyH.cons (o := ⟨some 152, _, _, _, _, _⟩) rfl (fun K hK => ?_) (AllReadyH.nil))
                  ·
                    go_simp
                    refine (of4At ⟨#[97]⟩ ⟨#[53]⟩ ⟨#[101, 120, 112, 111, 114, 116, 101, 100, 95, 97]⟩ ⟨#[54]⟩ g22 _ D22.out).mono ?_
                    rintro e wn ⟨A23, c23, rfl, hr, hk⟩
                    clear D22
                    have R23 := Lib.hid hr
                    have hHn : wd.grownBy wn none := grown_new hHeld (grown_kept hk none) (fun k e => by cases e)
                    refine hK.out _ _ hHn (fun _ => ?_)
                    replace hHeld := hHn
                    clear hHn hk hr
                    obtain ⟨wc, rfl⟩ : ∃ x, x = wn := ⟨_, rfl⟩
                    clear hK K
                    try simp only [Act.put, List.setIfInBounds_toArray, List.set_cons_zero, List.set_cons_succ]
                    refine wpAnyH_ready (rs := [25]) (by kernel_rfl) (by simp) ?_
                    refine AllReadyH.cons (o := ⟨some 152, _, _, _, _, _⟩) rfl (fun K hK => ?_) (AllReadyH.nil)
                    go_simp
                    obtain ⟨wn, hwn, hd, hk, hlt⟩ := new_row wc #[.string ⟨#[101, 120, 112, 111, 114, 116, 101, 100, 95]⟩] 9
                    obtain ⟨g25, hg⟩ : ∃ g, g = wc.heap.size := ⟨_, rfl⟩
                    rw [← hwn, ← hg]
                    rw [← hg] at hd
                    replace R23 := Lib.hid (rd_kept hk R23.out)
                    have D25 := Lib.hid hd
                    have hHn : wd.grownBy wn none := grown_new hHeld (grown_kept hk none) (fun k e => by cases e)
                    refine hK.out _ _ hHn (fun _ => ?_)
                    replace hHeld := hHn
                    clear hHn hk hwn hd hg hlt
                    obtain ⟨wc, rfl⟩ : ∃ x, x = wn := ⟨_, rfl⟩
                    clear hK K
                    try simp only [Act.put, List.setIfInBounds_toArray, List.set_cons_zero, List.set_cons_succ]
                    refine wpAnyH_ready (rs := [26]) (by kernel_rfl) (by simp) ?_
                    refine AllReadyH.cons (o := ⟨some 153, _, _, _, _, _⟩) rfl (fun K hK => ?_) (AllReadyH.nil)
                    go_simp
                    refine (changes_any (some ⟨g13, 2, none⟩) A23 (some ⟨g13, 0, none⟩) (some ⟨g25, 0, none⟩) 2 c23 3 1 [y, z] [(⟨#[97]⟩, ⟨#[53]⟩), (⟨#[101, 120, 112, 111, 114, 116, 101, 100, 95, 97]⟩, ⟨#[54]⟩)] [x, y, z] [⟨#[101, 120, 112, 111, 114, 116, 101, 100, 95]⟩] _ (RL1.out _ hHeld) R23.out (RL3.out _ hHeld) (rd_row (xs := strs [⟨#[101, 120, 112, 111, 114, 116, 101, 100, 95]⟩]) D25.out) (HT.out _ hHeld)).mono ?_
                    rintro e wn ⟨rfl, hk⟩
                    clear R23
                    clear D25
                    have hHn : wd.grownBy wn none := grown_new hHeld (grown_kept hk none) (fun k e => by cases e)
                    refine hK.out _ _ hHn (fun _ => ?_)
                    replace hHeld := hHn
                    clear hHn hk 
                    obtain ⟨wc, rfl⟩ : ∃ x, x = wn := ⟨_, rfl⟩
                    clear hK K
                    try simp only [Act.put, List.setIfInBounds_toArray, List.set_cons_zero, List.set_cons_succ]
                    refine wpAnyH_take (i := 27) (oi := ⟨some 154, _, _, _, _, _⟩) (v := ?_) rfl (by kernel_rfl) (by kernel_rfl) (by kernel_rfl) (fun _ _ _ h => h) (Or.inl ⟨by rfl, ?_⟩) hHeld ?_
                    rotate_left
                    · (intro w hSw; go_simp; (try with_reducible rfl))
                    try simp only [Act.put, List.setIfInBounds_toArray, List.set_cons_zero, List.set_cons_succ]
                    refine wpAnyH_take (i := 28) (oi := ⟨some 155, _, _, _, _, _⟩) (v := ?_) rfl (by kernel_rfl) (by kernel_rfl) (by kernel_rfl) (fun _ _ _ h => h) (Or.inl ⟨by rfl, ?_⟩) hHeld ?_
                    rotate_left
                    · (intro w hSw; go_simp; (try with_reducible rfl))
                    try simp only [Act.put, List.setIfInBounds_toArray, List.set_cons_zero, List.set_cons_succ]
                    refine wpAnyH_done (by kernel_rfl) ?_ _
                    go_wp2_with fail
                    go_meet
                    exact ⟨rfl, Hfin.out _ (grown_keptN hHeld)⟩
                  ·
                    go_simp
                    obtain ⟨wn, hwn, hd, hk, hlt⟩ := new_row wc #[.string ⟨#[101, 120, 112, 111, 114, 116, 101, 100, 95]⟩] 9
                    obtain ⟨g25, hg⟩ : ∃ g, g = wc.heap.size := ⟨_, rfl⟩
                    rw [← hwn, ← hg]
                    rw [← hg] at hd
                    replace D22 := Lib.hid (heap_kept hk D22.out)
                    have D25 := Lib.hid hd
                    have hHn : wd.grownBy wn none := grown_new hHeld (grown_kept hk none) (fun k e => by cases e)
                    refine hK.out _ _ hHn (fun _ => ?_)
                    replace hHeld := hHn
                    clear hHn hk hwn hd hg hlt
                    obtain ⟨wc, rfl⟩ : ∃ x, x = wn := ⟨_, rfl⟩
                    clear hK K
                    try simp only [Act.put, List.setIfInBounds_toArray, List.set_cons_zero, List.set_cons_succ]
                    refine wpAnyH_ready (rs := [23]) (by kernel_rfl) (by simp) ?_
                    refine AllReadyH.cons (o := ⟨some 150, _, _, _, _, _⟩) rfl (fun K hK => ?_) (AllReadyH.nil)
                    go_simp
                    refine (of4At ⟨#[97]⟩ ⟨#[53]⟩ ⟨#[101, 120, 112, 111, 114, 116, 101, 100, 95, 97]⟩ ⟨#[54]⟩ g22 _ D22.out).mono ?_
                    rintro e wn ⟨A23, c23, rfl, hr, hk⟩
                    clear D22
                    replace D25 := Lib.hid (heap_kept hk D25.out)
                    have R23 := Lib.hid hr
                    have hHn : wd.grownBy wn none := grown_new hHeld (grown_kept hk none) (fun k e => by cases e)
                    refine hK.out _ _ hHn (fun _ => ?_)
                    replace hHeld := hHn
                    clear hHn hk hr
                    obtain ⟨wc, rfl⟩ : ∃ x, x = wn := ⟨_, rfl⟩
                    clear hK K
                    try simp only [Act.put, List.setIfInBounds_toArray, List.set_cons_zero, List.set_cons_succ]
                    refine wpAnyH_ready (rs := [26]) (by kernel_rfl) (by simp) ?_
                    refine AllReadyH.cons (o := ⟨some 153, _, _, _, _, _⟩) rfl (fun K hK => ?_) (AllReadyH.nil)
                    go_simp
                    refine (changes_any (some ⟨g13, 2, none⟩) A23 (some ⟨g13, 0, none⟩) (some ⟨g25, 0, none⟩) 2 c23 3 1 [y, z] [(⟨#[97]⟩, ⟨#[53]⟩), (⟨#[101, 120, 112, 111, 114, 116, 101, 100, 95, 97]⟩, ⟨#[54]⟩)] [x, y, z] [⟨#[101, 120, 112, 111, 114, 116, 101, 100, 95]⟩] _ (RL1.out _ hHeld) R23.out (RL3.out _ hHeld) (rd_row (xs := strs [⟨#[101, 120, 112, 111, 114, 116, 101, 100, 95]⟩]) D25.out) (HT.out _ hHeld)).mono ?_
                    rintro e wn ⟨rfl, hk⟩
                    clear R23
                    clear D25
                    have hHn : wd.grownBy wn none := grown_new hHeld (grown_kept hk none) (fun k e => by cases e)
                    refine hK.out _ _ hHn (fun _ => ?_)
                    replace hHeld := hHn
                    clear hHn hk 
                    obtain ⟨wc, rfl⟩ : ∃ x, x = wn := ⟨_, rfl⟩
                    clear hK K
                    try simp only [Act.put, List.setIfInBounds_toArray, List.set_cons_zero, List.set_cons_succ]
                    refine wpAnyH_take (i := 27) (oi := ⟨some 154, _, _, _, _, _⟩) (v := ?_) rfl (by kernel_rfl) (by kernel_rfl) (by kernel_rfl) (fun _ _ _ h => h) (Or.inl ⟨by rfl, ?_⟩) hHeld ?_
                    rotate_left
                    · (intro w hSw; go_simp; (try with_reducible rfl))
                    try simp only [Act.put, List.setIfInBounds_toArray, List.set_cons_zero, List.set_cons_succ]
                    refine wpAnyH_take (i := 28) (oi := ⟨some 155, _, _, _, _, _⟩) (v := ?_) rfl (by kernel_rfl) (by kernel_rfl) (by kernel_rfl) (fun _ _ _ h => h) (Or.inl ⟨by rfl, ?_⟩) hHeld ?_
                    rotate_left
                    · (intro w hSw; go_simp; (try with_reducible rfl))
                    try simp only [Act.put, List.setIfInBounds_toArray, List.set_cons_zero, List.set_cons_succ]
                    refine wpAnyH_done (by kernel_rfl) ?_ _
                    go_wp2_with fail
                    go_meet
                    exact ⟨rfl, Hfin.out _ (grown_keptN hHeld)⟩
                ·
                  go_simp
                  obtain ⟨wn, hwn, hd, hk, hlt⟩ := new_row wc #[.string ⟨#[101, 120, 112, 111, 114, 116, 101, 100, 95]⟩] 9
                  obtain ⟨g25, hg⟩ : ∃ g, g = wc.heap.size := ⟨_, rfl⟩
                  rw [← hwn, ← hg]
                  rw [← hg] at hd
                  have D25 := Lib.hid hd
                  have hHn : wd.grownBy wn none := grown_new hHeld (grown_kept hk none) (fun k e => by cases e)
                  refine hK.out _ _ hHn (fun _ => ?_)
                  replace hHeld := hHn
                  clear hHn hk hwn hd hg hlt
                  obtain ⟨wc, rfl⟩ : ∃ x, x = wn := ⟨_, rfl⟩
                  clear hK K
                  try simp only [Act.put, List.setIfInBounds_toArray, List.set_cons_zero, List.set_cons_succ]
                  refine wpAnyH_ready (rs := [22]) (by kernel_rfl) (by simp) ?_
                  refine AllReadyH.cons (o := ⟨some 149, _, _, _, _, _⟩) rfl (fun K hK => ?_) (AllReadyH.nil)
                  go_simp
                  obtain ⟨wn, hwn, hd, hk, hlt⟩ := new_row wc #[.string ⟨#[97]⟩, .string ⟨#[53]⟩, .string ⟨#[101, 120, 112, 111, 114, 116, 101, 100, 95, 97]⟩, .string ⟨#[54]⟩] 9
                  obtain ⟨g22, hg⟩ : ∃ g, g = wc.heap.size := ⟨_, rfl⟩
                  rw [← hwn, ← hg]
                  rw [← hg] at hd
                  replace D25 := Lib.hid (heap_kept hk D25.out)
                  have D22 := Lib.hid hd
                  have hHn : wd.grownBy wn none := grown_new hHeld (grown_kept hk none) (fun k e => by cases e)
                  refine hK.out _ _ hHn (fun _ => ?_)
                  replace hHeld := hHn
                  clear hHn hk hwn hd hg hlt
                  obtain ⟨wc, rfl⟩ : ∃ x, x = wn := ⟨_, rfl⟩
                  clear hK K
                  try simp only [Act.put, List.setIfInBounds_toArray, List.set_cons_zero, List.set_cons_succ]
                  refine wpAnyH_ready (rs := [23]) (by kernel_rfl) (by simp) ?_
                  refine AllReadyH.cons (o := ⟨some 150, _, _, _, _, _⟩) rfl (fun K hK => ?_) (AllReadyH.nil)
                  go_simp
                  refine (of4At ⟨#[97]⟩ ⟨#[53]⟩ ⟨#[101, 120, 112, 111, 114, 116, 101, 100, 95, 97]⟩ ⟨#[54]⟩ g22 _ D22.out).mono ?_
                  rintro e wn ⟨A23, c23, rfl, hr, hk⟩
                  clear D22
                  replace D25 := Lib.hid (heap_kept hk D25.out)
                  have R23 := Lib.hid hr
                  have hHn : wd.grownBy wn none := grown_new hHeld (grown_kept hk none) (fun k e => by cases e)
                  refine hK.out _ _ hHn (fun _ => ?_)
                  replace hHeld := hHn
                  clear hHn hk hr
                  obtain ⟨wc, rfl⟩ : ∃ x, x = wn := ⟨_, rfl⟩
                  clear hK K
                  try simp only [Act.put, List.setIfInBounds_toArray, List.set_cons_zero, List.set_cons_succ]
                  refine wpAnyH_ready (rs := [26]) (by kernel_rfl) (by simp) ?_
                  refine AllReadyH.cons (o := ⟨some 153, _, _, _, _, _⟩) rfl (fun K hK => ?_) (AllReadyH.nil)
                  go_simp
                  refine (changes_any (some ⟨g13, 2, none⟩) A23 (some ⟨g13, 0, none⟩) (some ⟨g25, 0, none⟩) 2 c23 3 1 [y, z] [(⟨#[97]⟩, ⟨#[53]⟩), (⟨#[101, 120, 112, 111, 114, 116, 101, 100, 95, 97]⟩, ⟨#[54]⟩)] [x, y, z] [⟨#[101, 120, 112, 111, 114, 116, 101, 100, 95]⟩] _ (RL1.out _ hHeld) R23.out (RL3.out _ hHeld) (rd_row (xs := strs [⟨#[101, 120, 112, 111, 114, 116, 101, 100, 95]⟩]) D25.out) (HT.out _ hHeld)).mono ?_
                  rintro e wn ⟨rfl, hk⟩
                  clear R23
                  clear D25
                  have hHn : wd.grownBy wn none := grown_new hHeld (grown_kept hk none) (fun k e => by cases e)
                  refine hK.out _ _ hHn (fun _ => ?_)
                  replace hHeld := hHn
                  clear hHn hk 
                  obtain ⟨wc, rfl⟩ : ∃ x, x = wn := ⟨_, rfl⟩
                  clear hK K
                  try simp only [Act.put, List.setIfInBounds_toArray, List.set_cons_zero, List.set_cons_succ]
                  refine wpAnyH_take (i := 27) (oi := ⟨some 154, _, _, _, _, _⟩) (v := ?_) rfl (by kernel_rfl) (by kernel_rfl) (by kernel_rfl) (fun _ _ _ h => h) (Or.inl ⟨by rfl, ?_⟩) hHeld ?_
                  rotate_left
                  · (intro w hSw; go_simp; (try with_reducible rfl))
                  try simp only [Act.put, List.setIfInBounds_toArray, List.set_cons_zero, List.set_cons_succ]
                  refine wpAnyH_take (i := 28) (oi := ⟨some 155, _, _, _, _, _⟩) (v := ?_) rfl (by kernel_rfl) (by kernel_rfl) (by kernel_rfl) (fun _ _ _ h => h) (Or.inl ⟨by rfl, ?_⟩) hHeld ?_
                  rotate_left
                  · (intro w hSw; go_simp; (try with_reducible rfl))
                  try simp only [Act.put, List.setIfInBounds_toArray, List.set_cons_zero, List.set_cons_succ]
                  refine wpAnyH_done (by kernel_rfl) ?_ _
                  go_wp2_with fail
                  go_meet
                  exact ⟨rfl, Hfin.out _ (grown_keptN hHeld)⟩
              ·
                go_simp
                obtain ⟨wn, hwn, hd, hk, hlt⟩ := new_row wc #[.string y.1, .string z.2] 9
                obtain ⟨g15, hg⟩ : ∃ g, g = wc.heap.size := ⟨_, rfl⟩
                rw [← hwn, ← hg]
                rw [← hg] at hd
                replace D6 := Lib.hid (heap_kept hk D6.out)
                have D15 := Lib.hid hd
                have hHn : wd.grownBy wn none := grown_new hHeld (grown_kept hk none) (fun k e => by cases e)
                refine hK.out _ _ hHn (fun _ => ?_)
                replace hHeld := hHn
                clear hHn hk hwn hd hg hlt
                obtain ⟨wc, rfl⟩ : ∃ x, x = wn := ⟨_, rfl⟩
                clear hK K
                try simp only [Act.put, List.setIfInBounds_toArray, List.set_cons_zero, List.set_cons_succ]
                refine wpAnyH_ready (rs := [7]) (by kernel_rfl) (by simp) ?_
                refine AllReadyH.cons (o := ⟨some 134, _, _, _, _, _⟩) rfl (fun K hK => ?_) (AllReadyH.nil)
                go_simp
                refine (of4At ⟨#[97]⟩ ⟨#[49]⟩ ⟨#[98]⟩ ⟨#[50]⟩ g6 _ D6.out).mono ?_
                rintro e wn ⟨A7, c7, rfl, hr, hk⟩
                clear D6
                replace D15 := Lib.hid (heap_kept hk D15.out)
                have R7 := Lib.hid hr
                have hHn : wd.grownBy wn none := grown_new hHeld (grown_kept hk none) (fun k e => by cases e)
                refine hK.out _ _ hHn (fun _ => ?_)
                replace hHeld := hHn
                clear hHn hk hr
                obtain ⟨wc, rfl⟩ : ∃ x, x = wn := ⟨_, rfl⟩
                clear hK K
                try simp only [Act.put, List.setIfInBounds_toArray, List.set_cons_zero, List.set_cons_succ]
                refine wpAnyH_ready (rs := [16]) (by kernel_rfl) (by simp) ?_
                refine AllReadyH.cons (o := ⟨some 143, _, _, _, _, _⟩) rfl (fun K hK => ?_) (AllReadyH.nil)
                go_simp
                refine (changes_any A7 (some ⟨g13, 0, none⟩) (some ⟨g13, 0, none⟩) (some ⟨g15, 0, none⟩) c7 3 3 2 [(⟨#[97]⟩, ⟨#[49]⟩), (⟨#[98]⟩, ⟨#[50]⟩)] [x, y] [x, y, z] [y.1, z.2] _ R7.out (RL2.out _ hHeld) (RL3.out _ hHeld) (rd_row (xs := strs [y.1, z.2]) D15.out) (HT.out _ hHeld)).mono ?_
                rintro e wn ⟨rfl, hk⟩
                clear R7
                clear D15
                have hHn : wd.grownBy wn none := grown_new hHeld (grown_kept hk none) (fun k e => by cases e)
                refine hK.out _ _ hHn (fun _ => ?_)
                replace hHeld := hHn
                clear hHn hk 
                obtain ⟨wc, rfl⟩ : ∃ x, x = wn := ⟨_, rfl⟩
                clear hK K
                try simp only [Act.put, List.setIfInBounds_toArray, List.set_cons_zero, List.set_cons_succ]
                refine wpAnyH_take (i := 17) (oi := ⟨some 144, _, _, _, _, _⟩) (v := ?_) rfl (by kernel_rfl) (by kernel_rfl) (by kernel_rfl) (fun _ _ _ h => h) (Or.inl ⟨by rfl, ?_⟩) hHeld ?_
                rotate_left
                · (intro w hSw; go_simp; (try with_reducible rfl))
                try simp only [Act.put, List.setIfInBounds_toArray, List.set_cons_zero, List.set_cons_succ]
                refine wpAnyH_take (i := 18) (oi := ⟨some 145, _, _, _, _, _⟩) (v := ?_) rfl (by kernel_rfl) (by kernel_rfl) (by kernel_rfl) (fun _ _ _ h => h) (Or.inl ⟨by rfl, ?_⟩) hHeld ?_
                rotate_left
                · (intro w hSw; go_simp; (try with_reducible rfl))
                try simp only [Act.put, List.setIfInBounds_toArray, List.set_cons_zero, List.set_cons_succ]
                refine wpAnyH_take (i := 19) (oi := ⟨some 146, _, _, _, _, _⟩) (v := ?_) rfl (by kernel_rfl) (by kernel_rfl) (by kernel_rfl) (fun _ _ _ h => h) (Or.inl ⟨by rfl, ?_⟩) hHeld ?_
                rotate_left
                · (intro w hSw; go_simp; (try with_reducible rfl))
                try simp only [Act.put, List.setIfInBounds_toArray, List.set_cons_zero, List.set_cons_succ]
                refine wpAnyH_take (i := 20) (oi := ⟨some 147, _, _, _, _, _⟩) (v := ?_) rfl (by kernel_rfl) (by kernel_rfl) (by kernel_rfl) (fun _ _ _ h => h) (Or.inl ⟨by rfl, ?_⟩) hHeld ?_
                rotate_left
                · (intro w hSw; go_simp; (try with_reducible rfl))
                try simp only [Act.put, List.setIfInBounds_toArray, List.set_cons_zero, List.set_cons_succ]
                refine wpAnyH_take (i := 21) (oi := ⟨some 148, _, _, _, _, _⟩) (v := ?_) rfl (by kernel_rfl) (by kernel_rfl) (by kernel_rfl) (fun _ _ _ h => h) (Or.inl ⟨by rfl, ?_⟩) hHeld ?_
                rotate_left
                · (intro w hSw; go_simp; (try with_reducible rfl))
                try simp only [Act.put, List.setIfInBounds_toArray, List.set_cons_zero, List.set_cons_succ]
                refine wpAnyH_take (i := 24) (oi := ⟨some 151, _, _, _, _, _⟩) (v := ?_) rfl (by kernel_rfl) (by kernel_rfl) (by kernel_rfl) (fun _ _ _ h => h) (Or.inl ⟨by rfl, ?_⟩) hHeld ?_
                rotate_left
                · (intro w hSw; go_simp; (try with_reducible rfl))
                try simp only [Act.put, List.setIfInBounds_toArray, List.set_cons_zero, List.set_cons_succ]
                refine wpAnyH_ready (rs := [22, 25]) (by kernel_rfl) (by simp) ?_
                refine AllReadyH.cons (o := ⟨some 149, _, _, _, _, _⟩) rfl (fun K hK => ?_) (AllReadyH.cons (o := ⟨some 152, _, _, _, _, _⟩) rfl (fun K hK => ?_) (AllReadyH.nil))
                ·
                  go_simp
                  obtain ⟨wn, hwn, hd, hk, hlt⟩ := new_row wc #[.string ⟨#[97]⟩, .string ⟨#[53]⟩, .string ⟨#[101, 120, 112, 111, 114, 116, 101, 100, 95, 97]⟩, .string ⟨#[54]⟩] 9
                  obtain ⟨g22, hg⟩ : ∃ g, g = wc.heap.size := ⟨_, rfl⟩
                  rw [← hwn, ← hg]
                  rw [← hg] at hd
                  have D22 := Lib.hid hd
                  have hHn : wd.grownBy wn none := grown_new hHeld (grown_kept hk none) (fun k e => by cases e)
                  refine hK.out _ _ hHn (fun _ => ?_)
                  replace hHeld := hHn
                  clear hHn hk hwn hd hg hlt
                  obtain ⟨wc, rfl⟩ : ∃ x, x = wn := ⟨_, rfl⟩
                  clear hK K
                  try simp only [Act.put, List.setIfInBounds_toArray, List.set_cons_zero, List.set_cons_succ]
                  refine wpAnyH_ready (rs := [23, 25]) (by kernel_rfl) (by simp) ?_
                  refine AllReadyH.cons (o := ⟨some 150, _, _, _, _, _⟩) rfl (fun K hK => ?_) (AllReadyH.cons (o := ⟨some 152, _, _, _, _, _⟩) rfl (fun K hK => ?_) (AllReadyH.nil))
                  ·
                    go_simp
                    refine (of4At ⟨#[97]⟩ ⟨#[53]⟩ ⟨#[101, 120, 112, 111, 114, 116, 101, 100, 95, 97]⟩ ⟨#[54]⟩ g22 _ D22.out).mono ?_
                    rintro e wn ⟨A23, c23, rfl, hr, hk⟩
                    clear D22
                    have R23 := Lib.hid hr
                    have hHn : wd.grownBy wn none := grown_new hHeld (grown_kept hk none) (fun k e => by cases e)
                    refine hK.out _ _ hHn (fun _ => ?_)
                    replace hHeld := hHn
                    clear hHn hk hr
                    obtain ⟨wc, rfl⟩ : ∃ x, x = wn := ⟨_, rfl⟩
                    clear hK K
                    try simp only [Act.put, List.setIfInBounds_toArray, List.set_cons_zero, List.set_cons_succ]
                    refine wpAnyH_ready (rs := [25]) (by kernel_rfl) (by simp) ?_
                    refine AllReadyH.cons (o := ⟨some 152, _, _, _, _, _⟩) rfl (fun K hK => ?_) (AllReadyH.nil)
                    go_simp
                    obtain ⟨wn, hwn, hd, hk, hlt⟩ := new_row wc #[.string ⟨#[101, 120, 112, 111, 114, 116, 101, 100, 95]⟩] 9
                    obtain ⟨g25, hg⟩ : ∃ g, g = wc.heap.size := ⟨_, rfl⟩
                    rw [← hwn, ← hg]
                    rw [← hg] at hd
                    replace R23 := Lib.hid (rd_kept hk R23.out)
                    have D25 := Lib.hid hd
                    have hHn : wd.grownBy wn none := grown_new hHeld (grown_kept hk none) (fun k e => by cases e)
                    refine hK.out _ _ hHn (fun _ => ?_)
                    replace hHeld := hHn
                    clear hHn hk hwn hd hg hlt
                    obtain ⟨wc, rfl⟩ : ∃ x, x = wn := ⟨_, rfl⟩
                    clear hK K
                    try simp only [Act.put, List.setIfInBounds_toArray, List.set_cons_zero, List.set_cons_succ]
                    refine wpAnyH_ready (rs := [26]) (by kernel_rfl) (by simp) ?_
                    refine AllReadyH.cons (o := ⟨some 153, _, _, _, _, _⟩) rfl (fun K hK => ?_) (AllReadyH.nil)
                    go_simp
                    refine (changes_any (some ⟨g13, 2, none⟩) A23 (some ⟨g13, 0, none⟩) (some ⟨g25, 0, none⟩) 2 c23 3 1 [y, z] [(⟨#[97]⟩, ⟨#[53]⟩), (⟨#[101, 120, 112, 111, 114, 116, 101, 100, 95, 97]⟩, ⟨#[54]⟩)] [x, y, z] [⟨#[101, 120, 112, 111, 114, 116, 101, 100, 95]⟩] _ (RL1.out _ hHeld) R23.out (RL3.out _ hHeld) (rd_row (xs := strs [⟨#[101, 120, 112, 111, 114, 116, 101, 100, 95]⟩]) D25.out) (HT.out _ hHeld)).mono ?_
                    rintro e wn ⟨rfl, hk⟩
                    clear R23
                    clear D25
                    have hHn : wd.grownBy wn none := grown_new hHeld (grown_kept hk none) (fun k e => by cases e)
                    refine hK.out _ _ hHn (fun _ => ?_)
                    replace hHeld := hHn
                    clear hHn hk 
                    obtain ⟨wc, rfl⟩ : ∃ x, x = wn := ⟨_, rfl⟩
                    clear hK K
                    try simp only [Act.put, List.setIfInBounds_toArray, List.set_cons_zero, List.set_cons_succ]
                    refine wpAnyH_take (i := 27) (oi := ⟨some 154, _, _, _, _, _⟩) (v := ?_) rfl (by kernel_rfl) (by kernel_rfl) (by kernel_rfl) (fun _ _ _ h => h) (Or.inl ⟨by rfl, ?_⟩) hHeld ?_
                    rotate_left
                    · (intro w hSw; go_simp; (try with_reducible rfl))
                    try simp only [Act.put, List.setIfInBounds_toArray, List.set_cons_zero, List.set_cons_succ]
                    refine wpAnyH_take (i := 28) (oi := ⟨some 155, _, _, _, _, _⟩) (v := ?_) rfl (by kernel_rfl) (by kernel_rfl) (by kernel_rfl) (fun _ _ _ h => h) (Or.inl ⟨by rfl, ?_⟩) hHeld ?_
                    rotate_left
                    · (intro w hSw; go_simp; (try with_reducible rfl))
                    try simp only [Act.put, List.setIfInBounds_toArray, List.set_cons_zero, List.set_cons_succ]
                    refine wpAnyH_done (by kernel_rfl) ?_ _
                    go_wp2_with fail
                    go_meet
                    exact ⟨rfl, Hfin.out _ (grown_keptN hHeld)⟩
                  ·
                    go_simp
                    obtain ⟨wn, hwn, hd, hk, hlt⟩ := new_row wc #[.string ⟨#[101, 120, 112, 111, 114, 116, 101, 100, 95]⟩] 9
                    obtain ⟨g25, hg⟩ : ∃ g, g = wc.heap.size := ⟨_, rfl⟩
                    rw [← hwn, ← hg]
                    rw [← hg] at hd
                    replace D22 := Lib.hid (heap_kept hk D22.out)
                    have D25 := Lib.hid hd
                    have hHn : wd.grownBy wn none := grown_new hHeld (grown_kept hk none) (fun k e => by cases e)
                    refine hK.out _ _ hHn (fun _ => ?_)
                    replace hHeld := hHn
                    clear hHn hk hwn hd hg hlt
                    obtain ⟨wc, rfl⟩ : ∃ x, x = wn := ⟨_, rfl⟩
                    clear hK K
                    try simp only [Act.put, List.setIfInBounds_toArray, List.set_cons_zero, List.set_cons_succ]
                    refine wpAnyH_ready (rs := [23]) (by kernel_rfl) (by simp) ?_
                    refine AllReadyH.cons (o := ⟨some 150, _, _, _, _, _⟩) rfl (fun K hK => ?_) (AllReadyH.nil)
                    go_simp
                    refine (of4At ⟨#[97]⟩ ⟨#[53]⟩ ⟨#[101, 120, 112, 111, 114, 116, 101, 100, 95, 97]⟩ ⟨#[54]⟩ g22 _ D22.out).mono ?_
                    rintro e wn ⟨A23, c23, rfl, hr, hk⟩
                    clear D22
                    replace D25 := Lib.hid (heap_kept hk D25.out)
                    have R23 := Lib.hid hr
                    have hHn : wd.grownBy wn none := grown_new hHeld (grown_kept hk none) (fun k e => by cases e)
                    refine hK.out _ _ hHn (fun _ => ?_)
                    replace hHeld := hHn
                    clear hHn hk hr
                    obtain ⟨wc, rfl⟩ : ∃ x, x = wn := ⟨_, rfl⟩
                    clear hK K
                    try simp only [Act.put, List.setIfInBounds_toArray, List.set_cons_zero, List.set_cons_succ]
                    refine wpAnyH_ready (rs := [26]) (by kernel_rfl) (by simp) ?_
                    refine AllReadyH.cons (o := ⟨some 153, _, _, _, _, _⟩) rfl (fun K hK => ?_) (AllReadyH.nil)
                    go_simp
                    refine (changes_any (some ⟨g13, 2, none⟩) A23 (some ⟨g13, 0, none⟩) (some ⟨g25, 0, none⟩) 2 c23 3 1 [y, z] [(⟨#[97]⟩, ⟨#[53]⟩), (⟨#[101, 120, 112, 111, 114, 116, 101, 100, 95, 97]⟩, ⟨#[54]⟩)] [x, y, z] [⟨#[101, 120, 112, 111, 114, 116, 101, 100, 95]⟩] _ (RL1.out _ hHeld) R23.out (RL3.out _ hHeld) (rd_row (xs := strs [⟨#[101, 120, 112, 111, 114, 116, 101, 100, 95]⟩]) D25.out) (HT.out _ hHeld)).mono ?_
                    rintro e wn ⟨rfl, hk⟩
                    clear R23
                    clear D25
                    have hHn : wd.grownBy wn none := grown_new hHeld (grown_kept hk none) (fun k e => by cases e)
                    refine hK.out _ _ hHn (fun _ => ?_)
                    replace hHeld := hHn
                    clear hHn hk 
                    obtain ⟨wc, rfl⟩ : ∃ x, x = wn := ⟨_, rfl⟩
                    clear hK K
                    try simp only [Act.put, List.setIfInBounds_toArray, List.set_cons_zero, List.set_cons_succ]
                    refine wpAnyH_take (i := 27) (oi := ⟨some 154, _, _, _, _, _⟩) (v := ?_) rfl (by kernel_rfl) (by kernel_rfl) (by kernel_rfl) (fun _ _ _ h => h) (Or.inl ⟨by rfl, ?_⟩) hHeld ?_
                    rotate_left
                    · (intro w hSw; go_simp; (try with_reducible rfl))
                    try simp only [Act.put, List.setIfInBounds_toArray, List.set_cons_zero, List.set_cons_succ]
                    refine wpAnyH_take (i := 28) (oi := ⟨some 155, _, _, _, _, _⟩) (v := ?_) rfl (by kernel_rfl) (by kernel_rfl) (by kernel_rfl) (fun _ _ _ h => h) (Or.inl ⟨by rfl, ?_⟩) hHeld ?_
                    rotate_left
                    · (intro w hSw; go_simp; (try with_reducible rfl))
                    try simp only [Act.put, List.setIfInBounds_toArray, List.set_cons_zero, List.set_cons_succ]
                    refine wpAnyH_done (by kernel_rfl) ?_ _
                    go_wp2_with fail
                    go_meet
                    exact ⟨rfl, Hfin.out _ (grown_keptN hHeld)⟩
                ·
                  go_simp
                  obtain ⟨wn, hwn, hd, hk, hlt⟩ := new_row wc #[.string ⟨#[101, 120, 112, 111, 114, 116, 101, 100, 95]⟩] 9
                  obtain ⟨g25, hg⟩ : ∃ g, g = wc.heap.size := ⟨_, rfl⟩
                  rw [← hwn, ← hg]
                  rw [← hg] at hd
                  have D25 := Lib.hid hd
                  have hHn : wd.grownBy wn none := grown_new hHeld (grown_kept hk none) (fun k e => by cases e)
                  refine hK.out _ _ hHn (fun _ => ?_)
                  replace hHeld := hHn
                  clear hHn hk hwn hd hg hlt
                  obtain ⟨wc, rfl⟩ : ∃ x, x = wn := ⟨_, rfl⟩
                  clear hK K
                  try simp only [Act.put, List.setIfInBounds_toArray, List.set_cons_zero, List.set_cons_succ]
                  refine wpAnyH_ready (rs := [22]) (by kernel_rfl) (by simp) ?_
                  refine AllReadyH.cons (o := ⟨some 149, _, _, _, _, _⟩) rfl (fun K hK => ?_) (AllReadyH.nil)
                  go_simp
                  obtain ⟨wn, hwn, hd, hk, hlt⟩ := new_row wc #[.string ⟨#[97]⟩, .string ⟨#[53]⟩, .string ⟨#[101, 120, 112, 111, 114, 116, 101, 100, 95, 97]⟩, .string ⟨#[54]⟩] 9
                  obtain ⟨g22, hg⟩ : ∃ g, g = wc.heap.size := ⟨_, rfl⟩
                  rw [← hwn, ← hg]
                  rw [← hg] at hd
                  replace D25 := Lib.hid (heap_kept hk D25.out)
                  have D22 := Lib.hid hd
                  have hHn : wd.grownBy wn none := grown_new hHeld (grown_kept hk none) (fun k e => by cases e)
                  refine hK.out _ _ hHn (fun _ => ?_)
                  replace hHeld := hHn
                  clear hHn hk hwn hd hg hlt
                  obtain ⟨wc, rfl⟩ : ∃ x, x = wn := ⟨_, rfl⟩
                  clear hK K
                  try simp only [Act.put, List.setIfInBounds_toArray, List.set_cons_zero, List.set_cons_succ]
                  refine wpAnyH_ready (rs := [23]) (by kernel_rfl) (by simp) ?_
                  refine AllReadyH.cons (o := ⟨some 150, _, _, _, _, _⟩) rfl (fun K hK => ?_) (AllReadyH.nil)
                  go_simp
                  refine (of4At ⟨#[97]⟩ ⟨#[53]⟩ ⟨#[101, 120, 112, 111, 114, 116, 101, 100, 95, 97]⟩ ⟨#[54]⟩ g22 _ D22.out).mono ?_
                  rintro e wn ⟨A23, c23, rfl, hr, hk⟩
                  clear D22
                  replace D25 := Lib.hid (heap_kept hk D25.out)
                  have R23 := Lib.hid hr
                  have hHn : wd.grownBy wn none := grown_new hHeld (grown_kept hk none) (fun k e => by cases e)
                  refine hK.out _ _ hHn (fun _ => ?_)
                  replace hHeld := hHn
                  clear hHn hk hr
                  obtain ⟨wc, rfl⟩ : ∃ x, x = wn := ⟨_, rfl⟩
                  clear hK K
                  try simp only [Act.put, List.setIfInBounds_toArray, List.set_cons_zero, List.set_cons_succ]
                  refine wpAnyH_ready (rs := [26]) (by kernel_rfl) (by simp) ?_
                  refine AllReadyH.cons (o := ⟨some 153, _, _, _, _, _⟩) rfl (fun K hK => ?_) (AllReadyH.nil)
                  go_simp
                  refine (changes_any (some ⟨g13, 2, none⟩) A23 (some ⟨g13, 0, none⟩) (some ⟨g25, 0, none⟩) 2 c23 3 1 [y, z] [(⟨#[97]⟩, ⟨#[53]⟩), (⟨#[101, 120, 112, 111, 114, 116, 101, 100, 95, 97]⟩, ⟨#[54]⟩)] [x, y, z] [⟨#[101, 120, 112, 111, 114, 116, 101, 100, 95]⟩] _ (RL1.out _ hHeld) R23.out (RL3.out _ hHeld) (rd_row (xs := strs [⟨#[101, 120, 112, 111, 114, 116, 101, 100, 95]⟩]) D25.out) (HT.out _ hHeld)).mono ?_
                  rintro e wn ⟨rfl, hk⟩
                  clear R23
                  clear D25
                  have hHn : wd.grownBy wn none := grown_new hHeld (grown_kept hk none) (fun k e => by cases e)
                  refine hK.out _ _ hHn (fun _ => ?_)
                  replace hHeld := hHn
                  clear hHn hk 
                  obtain ⟨wc, rfl⟩ : ∃ x, x = wn := ⟨_, rfl⟩
                  clear hK K
                  try simp only [Act.put, List.setIfInBounds_toArray, List.set_cons_zero, List.set_cons_succ]
                  refine wpAnyH_take (i := 27) (oi := ⟨some 154, _, _, _, _, _⟩) (v := ?_) rfl (by kernel_rfl) (by kernel_rfl) (by kernel_rfl) (fun _ _ _ h => h) (Or.inl ⟨by rfl, ?_⟩) hHeld ?_
                  rotate_left
                  · (intro w hSw; go_simp; (try with_reducible rfl))
                  try simp only [Act.put, List.setIfInBounds_toArray, List.set_cons_zero, List.set_cons_succ]
                  refine wpAnyH_take (i := 28) (oi := ⟨some 155, _, _, _, _, _⟩) (v := ?_) rfl (by kernel_rfl) (by kernel_rfl) (by kernel_rfl) (fun _ _ _ h => h) (Or.inl ⟨by rfl, ?_⟩) hHeld ?_
                  rotate_left
                  · (intro w hSw; go_simp; (try with_reducible rfl))
                  try simp only [Act.put, List.setIfInBounds_toArray, List.set_cons_zero, List.set_cons_succ]
                  refine wpAnyH_done (by kernel_rfl) ?_ _
                  go_wp2_with fail
                  go_meet
                  exact ⟨rfl, Hfin.out _ (grown_keptN hHeld)⟩
            ·
              go_simp
              obtain ⟨wn, hwn, hd, hk, hlt⟩ := new_row wc #[.string y.1, .string z.2] 9
              obtain ⟨g15, hg⟩ : ∃ g, g = wc.heap.size := ⟨_, rfl⟩
              rw [← hwn, ← hg]
              rw [← hg] at hd
              have D15 := Lib.hid hd
              have hHn : wd.grownBy wn none := grown_new hHeld (grown_kept hk none) (fun k e => by cases e)
              refine hK.out _ _ hHn (fun _ => ?_)
              replace hHeld := hHn
              clear hHn hk hwn hd hg hlt
              obtain ⟨wc, rfl⟩ : ∃ x, x = wn := ⟨_, rfl⟩
              clear hK K
              try simp only [Act.put, List.setIfInBounds_toArray, List.set_cons_zero, List.set_cons_succ]
              refine wpAnyH_ready (rs := [6]) (by kernel_rfl) (by simp) ?_
              refine AllReadyH.cons (o := ⟨some 133, _, _, _, _, _⟩) rfl (fun K hK => ?_) (AllReadyH.nil)
              go_simp
              obtain ⟨wn, hwn, hd, hk, hlt⟩ := new_row wc #[.string ⟨#[97]⟩, .string ⟨#[49]⟩, .string ⟨#[98]⟩, .string ⟨#[50]⟩] 9
              obtain ⟨g6, hg⟩ : ∃ g, g = wc.heap.size := ⟨_, rfl⟩
              rw [← hwn, ← hg]
              rw [← hg] at hd
              replace D15 := Lib.hid (heap_kept hk D15.out)
              have D6 := Lib.hid hd
              have hHn : wd.grownBy wn none := grown_new hHeld (grown_kept hk none) (fun k e => by cases e)
              refine hK.out _ _ hHn (fun _ => ?_)
              replace hHeld := hHn
              clear hHn hk hwn hd hg hlt
              obtain ⟨wc, rfl⟩ : ∃ x, x = wn := ⟨_, rfl⟩
              clear hK K
              try simp only [Act.put, List.setIfInBounds_toArray, List.set_cons_zero, List.set_cons_succ]
              refine wpAnyH_ready (rs := [7]) (by kernel_rfl) (by simp) ?_
              refine AllReadyH.cons (o := ⟨some 134, _, _, _, _, _⟩) rfl (fun K hK => ?_) (AllReadyH.nil)
              go_simp
              refine (of4At ⟨#[97]⟩ ⟨#[49]⟩ ⟨#[98]⟩ ⟨#[50]⟩ g6 _ D6.out).mono ?_
              rintro e wn ⟨A7, c7, rfl, hr, hk⟩
              clear D6
              replace D15 := Lib.hid (heap_kept hk D15.out)
              have R7 := Lib.hid hr
              have hHn : wd.grownBy wn none := grown_new hHeld (grown_kept hk none) (fun k e => by cases e)
              refine hK.out _ _ hHn (fun _ => ?_)
              replace hHeld := hHn
              clear hHn hk hr
              obtain ⟨wc, rfl⟩ : ∃ x, x = wn := ⟨_, rfl⟩
              clear hK K
              try simp only [Act.put, List.setIfInBounds_toArray, List.set_cons_zero, List.set_cons_succ]
              refine wpAnyH_ready (rs := [16]) (by kernel_rfl) (by simp) ?_
              refine AllReadyH.cons (o := ⟨some 143, _, _, _, _, _⟩) rfl (fun K hK => ?_) (AllReadyH.nil)
              go_simp
              refine (changes_any A7 (some ⟨g13, 0, none⟩) (some ⟨g13, 0, none⟩) (some ⟨g15, 0, none⟩) c7 3 3 2 [(⟨#[97]⟩, ⟨#[49]⟩), (⟨#[98]⟩, ⟨#[50]⟩)] [x, y] [x, y, z] [y.1, z.2] _ R7.out (RL2.out _ hHeld) (RL3.out _ hHeld) (rd_row (xs := strs [y.1, z.2]) D15.out) (HT.out _ hHeld)).mono ?_
              rintro e wn ⟨rfl, hk⟩
              clear R7
              clear D15
              have hHn : wd.grownBy wn none := grown_new hHeld (grown_kept hk none) (fun k e => by cases e)
              refine hK.out _ _ hHn (fun _ => ?_)
              replace hHeld := hHn
              clear hHn hk 
              obtain ⟨wc, rfl⟩ : ∃ x, x = wn := ⟨_, rfl⟩
              clear hK K
              try simp only [Act.put, List.setIfInBounds_toArray, List.set_cons_zero, List.set_cons_succ]
              refine wpAnyH_take (i := 17) (oi := ⟨some 144, _, _, _, _, _⟩) (v := ?_) rfl (by kernel_rfl) (by kernel_rfl) (by kernel_rfl) (fun _ _ _ h => h) (Or.inl ⟨by rfl, ?_⟩) hHeld ?_
              rotate_left
              · (intro w hSw; go_simp; (try with_reducible rfl))
              try simp only [Act.put, List.setIfInBounds_toArray, List.set_cons_zero, List.set_cons_succ]
              refine wpAnyH_take (i := 18) (oi := ⟨some 145, _, _, _, _, _⟩) (v := ?_) rfl (by kernel_rfl) (by kernel_rfl) (by kernel_rfl) (fun _ _ _ h => h) (Or.inl ⟨by rfl, ?_⟩) hHeld ?_
              rotate_left
              · (intro w hSw; go_simp; (try with_reducible rfl))
              try simp only [Act.put, List.setIfInBounds_toArray, List.set_cons_zero, List.set_cons_succ]
              refine wpAnyH_take (i := 19) (oi := ⟨some 146, _, _, _, _, _⟩) (v := ?_) rfl (by kernel_rfl) (by kernel_rfl) (by kernel_rfl) (fun _ _ _ h => h) (Or.inl ⟨by rfl, ?_⟩) hHeld ?_
              rotate_left
              · (intro w hSw; go_simp; (try with_reducible rfl))
              try simp only [Act.put, List.setIfInBounds_toArray, List.set_cons_zero, List.set_cons_succ]
              refine wpAnyH_take (i := 20) (oi := ⟨some 147, _, _, _, _, _⟩) (v := ?_) rfl (by kernel_rfl) (by kernel_rfl) (by kernel_rfl) (fun _ _ _ h => h) (Or.inl ⟨by rfl, ?_⟩) hHeld ?_
              rotate_left
              · (intro w hSw; go_simp; (try with_reducible rfl))
              try simp only [Act.put, List.setIfInBounds_toArray, List.set_cons_zero, List.set_cons_succ]
              refine wpAnyH_take (i := 21) (oi := ⟨some 148, _, _, _, _, _⟩) (v := ?_) rfl (by kernel_rfl) (by kernel_rfl) (by kernel_rfl) (fun _ _ _ h => h) (Or.inl ⟨by rfl, ?_⟩) hHeld ?_
              rotate_left
              · (intro w hSw; go_simp; (try with_reducible rfl))
              try simp only [Act.put, List.setIfInBounds_toArray, List.set_cons_zero, List.set_cons_succ]
              refine wpAnyH_take (i := 24) (oi := ⟨some 151, _, _, _, _, _⟩) (v := ?_) rfl (by kernel_rfl) (by kernel_rfl) (by kernel_rfl) (fun _ _ _ h => h) (Or.inl ⟨by rfl, ?_⟩) hHeld ?_
              rotate_left
              · (intro w hSw; go_simp; (try with_reducible rfl))
              try simp only [Act.put, List.setIfInBounds_toArray, List.set_cons_zero, List.set_cons_succ]
              refine wpAnyH_ready (rs := [22, 25]) (by kernel_rfl) (by simp) ?_
              refine AllReadyH.cons (o := ⟨some 149, _, _, _, _, _⟩) rfl (fun K hK => ?_) (AllReadyH.cons (o := ⟨some 152, _, _, _, _, _⟩) rfl (fun K hK => ?_) (AllReadyH.nil))
              ·
                go_simp
                obtain ⟨wn, hwn, hd, hk, hlt⟩ := new_row wc #[.string ⟨#[97]⟩, .string ⟨#[53]⟩, .string ⟨#[101, 120, 112, 111, 114, 116, 101, 100, 95, 97]⟩, .string ⟨#[54]⟩] 9
                obtain ⟨g22, hg⟩ : ∃ g, g = wc.heap.size := ⟨_, rfl⟩
                rw [← hwn, ← hg]
                rw [← hg] at hd
                have D22 := Lib.hid hd
                have hHn : wd.grownBy wn none := grown_new hHeld (grown_kept hk none) (fun k e => by cases e)
                refine hK.out _ _ hHn (fun _ => ?_)
                replace hHeld := hHn
                clear hHn hk hwn hd hg hlt
                obtain ⟨wc, rfl⟩ : ∃ x, x = wn := ⟨_, rfl⟩
                clear hK K
                try simp only [Act.put, List.setIfInBounds_toArray, List.set_cons_zero, List.set_cons_succ]
                refine wpAnyH_ready (rs := [23, 25]) (by kernel_rfl) (by simp) ?_
                refine AllReadyH.cons (o := ⟨some 150, _, _, _, _, _⟩) rfl (fun K hK => ?_) (AllReadyH.cons (o := ⟨some 152, _, _, _, _, _⟩) rfl (fun K hK => ?_) (AllReadyH.nil))
                ·
                  go_simp
                  refine (of4At ⟨#[97]⟩ ⟨#[53]⟩ ⟨#[101, 120, 112, 111, 114, 116, 101, 100, 95, 97]⟩ ⟨#[54]⟩ g22 _ D22.out).mono ?_
                  rintro e wn ⟨A23, c23, rfl, hr, hk⟩
                  clear D22
                  have R23 := Lib.hid hr
                  have hHn : wd.grownBy wn none := grown_new hHeld (grown_kept hk none) (fun k e => by cases e)
                  refine hK.out _ _ hHn (fun _ => ?_)
                  replace hHeld := hHn
                  clear hHn hk hr
                  obtain ⟨wc, rfl⟩ : ∃ x, x = wn := ⟨_, rfl⟩
                  clear hK K
                  try simp only [Act.put, List.setIfInBounds_toArray, List.set_cons_zero, List.set_cons_succ]
                  refine wpAnyH_ready (rs := [25]) (by kernel_rfl) (by simp) ?_
                  refine AllReadyH.cons (o := ⟨some 152, _, _, _, _, _⟩) rfl (fun K hK => ?_) (AllReadyH.nil)
                  go_simp
                  obtain ⟨wn, hwn, hd, hk, hlt⟩ := new_row wc #[.string ⟨#[101, 120, 112, 111, 114, 116, 101, 100, 95]⟩] 9
                  obtain ⟨g25, hg⟩ : ∃ g, g = wc.heap.size := ⟨_, rfl⟩
                  rw [← hwn, ← hg]
                  rw [← hg] at hd
                  replace R23 := Lib.hid (rd_kept hk R23.out)
                  have D25 := Lib.hid hd
                  have hHn : wd.grownBy wn none := grown_new hHeld (grown_kept hk none) (fun k e => by cases e)
                  refine hK.out _ _ hHn (fun _ => ?_)
                  replace hHeld := hHn
                  clear hHn hk hwn hd hg hlt
                  obtain ⟨wc, rfl⟩ : ∃ x, x = wn := ⟨_, rfl⟩
                  clear hK K
                  try simp only [Act.put, List.setIfInBounds_toArray, List.set_cons_zero, List.set_cons_succ]
                  refine wpAnyH_ready (rs := [26]) (by kernel_rfl) (by simp) ?_
                  refine AllReadyH.cons (o := ⟨some 153, _, _, _, _, _⟩) rfl (fun K hK => ?_) (AllReadyH.nil)
                  go_simp
                  refine (changes_any (some ⟨g13, 2, none⟩) A23 (some ⟨g13, 0, none⟩) (some ⟨g25, 0, none⟩) 2 c23 3 1 [y, z] [(⟨#[97]⟩, ⟨#[53]⟩), (⟨#[101, 120, 112, 111, 114, 116, 101, 100, 95, 97]⟩, ⟨#[54]⟩)] [x, y, z] [⟨#[101, 120, 112, 111, 114, 116, 101, 100, 95]⟩] _ (RL1.out _ hHeld) R23.out (RL3.out _ hHeld) (rd_row (xs := strs [⟨#[101, 120, 112, 111, 114, 116, 101, 100, 95]⟩]) D25.out) (HT.out _ hHeld)).mono ?_
                  rintro e wn ⟨rfl, hk⟩
                  clear R23
                  clear D25
                  have hHn : wd.grownBy wn none := grown_new hHeld (grown_kept hk none) (fun k e => by cases e)
                  refine hK.out _ _ hHn (fun _ => ?_)
                  replace hHeld := hHn
                  clear hHn hk 
                  obtain ⟨wc, rfl⟩ : ∃ x, x = wn := ⟨_, rfl⟩
                  clear hK K
                  try simp only [Act.put, List.setIfInBounds_toArray, List.set_cons_zero, List.set_cons_succ]
                  refine wpAnyH_take (i := 27) (oi := ⟨some 154, _, _, _, _, _⟩) (v := ?_) rfl (by kernel_rfl) (by kernel_rfl) (by kernel_rfl) (fun _ _ _ h => h) (Or.inl ⟨by rfl, ?_⟩) hHeld ?_
                  rotate_left
                  · (intro w hSw; go_simp; (try with_reducible rfl))
                  try simp only [Act.put, List.setIfInBounds_toArray, List.set_cons_zero, List.set_cons_succ]
                  refine wpAnyH_take (i := 28) (oi := ⟨some 155, _, _, _, _, _⟩) (v := ?_) rfl (by kernel_rfl) (by kernel_rfl) (by kernel_rfl) (fun _ _ _ h => h) (Or.inl ⟨by rfl, ?_⟩) hHeld ?_
                  rotate_left
                  · (intro w hSw; go_simp; (try with_reducible rfl))
                  try simp only [Act.put, List.setIfInBounds_toArray, List.set_cons_zero, List.set_cons_succ]
                  refine wpAnyH_done (by kernel_rfl) ?_ _
                  go_wp2_with fail
                  go_meet
                  exact ⟨rfl, Hfin.out _ (grown_keptN hHeld)⟩
                ·
                  go_simp
                  obtain ⟨wn, hwn, hd, hk, hlt⟩ := new_row wc #[.string ⟨#[101, 120, 112, 111, 114, 116, 101, 100, 95]⟩] 9
                  obtain ⟨g25, hg⟩ : ∃ g, g = wc.heap.size := ⟨_, rfl⟩
                  rw [← hwn, ← hg]
                  rw [← hg] at hd
                  replace D22 := Lib.hid (heap_kept hk D22.out)
                  have D25 := Lib.hid hd
                  have hHn : wd.grownBy wn none := grown_new hHeld (grown_kept hk none) (fun k e => by cases e)
                  refine hK.out _ _ hHn (fun _ => ?_)
                  replace hHeld := hHn
                  clear hHn hk hwn hd hg hlt
                  obtain ⟨wc, rfl⟩ : ∃ x, x = wn := ⟨_, rfl⟩
                  clear hK K
                  try simp only [Act.put, List.setIfInBounds_toArray, List.set_cons_zero, List.set_cons_succ]
                  refine wpAnyH_ready (rs := [23]) (by kernel_rfl) (by simp) ?_
                  refine AllReadyH.cons (o := ⟨some 150, _, _, _, _, _⟩) rfl (fun K hK => ?_) (AllReadyH.nil)
                  go_simp
                  refine (of4At ⟨#[97]⟩ ⟨#[53]⟩ ⟨#[101, 120, 112, 111, 114, 116, 101, 100, 95, 97]⟩ ⟨#[54]⟩ g22 _ D22.out).mono ?_
                  rintro e wn ⟨A23, c23, rfl, hr, hk⟩
                  clear D22
                  replace D25 := Lib.hid (heap_kept hk D25.out)
                  have R23 := Lib.hid hr
                  have hHn : wd.grownBy wn none := grown_new hHeld (grown_kept hk none) (fun k e => by cases e)
                  refine hK.out _ _ hHn (fun _ => ?_)
                  replace hHeld := hHn
                  clear hHn hk hr
                  obtain ⟨wc, rfl⟩ : ∃ x, x = wn := ⟨_, rfl⟩
                  clear hK K
                  try simp only [Act.put, List.setIfInBounds_toArray, List.set_cons_zero, List.set_cons_succ]
                  refine wpAnyH_ready (rs := [26]) (by kernel_rfl) (by simp) ?_
                  refine AllReadyH.cons (o := ⟨some 153, _, _, _, _, _⟩) rfl (fun K hK => ?_) (AllReadyH.nil)
                  go_simp
                  refine (changes_any (some ⟨g13, 2, none⟩) A23 (some ⟨g13, 0, none⟩) (some ⟨g25, 0, none⟩) 2 c23 3 1 [y, z] [(⟨#[97]⟩, ⟨#[53]⟩), (⟨#[101, 120, 112, 111, 114, 116, 101, 100, 95, 97]⟩, ⟨#[54]⟩)] [x, y, z] [⟨#[101, 120, 112, 111, 114, 116, 101, 100, 95]⟩] _ (RL1.out _ hHeld) R23.out (RL3.out _ hHeld) (rd_row (xs := strs [⟨#[101, 120, 112, 111, 114, 116, 101, 100, 95]⟩]) D25.out) (HT.out _ hHeld)).mono ?_
                  rintro e wn ⟨rfl, hk⟩
                  clear R23
                  clear D25
                  have hHn : wd.grownBy wn none := grown_new hHeld (grown_kept hk none) (fun k e => by cases e)
                  refine hK.out _ _ hHn (fun _ => ?_)
                  replace hHeld := hHn
                  clear hHn hk 
                  obtain ⟨wc, rfl⟩ : ∃ x, x = wn := ⟨_, rfl⟩
                  clear hK K
                  try simp only [Act.put, List.setIfInBounds_toArray, List.set_cons_zero, List.set_cons_succ]
                  refine wpAnyH_take (i := 27) (oi := ⟨some 154, _, _, _, _, _⟩) (v := ?_) rfl (by kernel_rfl) (by kernel_rfl) (by kernel_rfl) (fun _ _ _ h => h) (Or.inl ⟨by rfl, ?_⟩) hHeld ?_
                  rotate_left
                  · (intro w hSw; go_simp; (try with_reducible rfl))
                  try simp only [Act.put, List.setIfInBounds_toArray, List.set_cons_zero, List.set_cons_succ]
                  refine wpAnyH_take (i := 28) (oi := ⟨some 155, _, _, _, _, _⟩) (v := ?_) rfl (by kernel_rfl) (by kernel_rfl) (by kernel_rfl) (fun _ _ _ h => h) (Or.inl ⟨by rfl, ?_⟩) hHeld ?_
                  rotate_left
                  · (intro w hSw; go_simp; (try with_reducible rfl))
                  try simp only [Act.put, List.setIfInBounds_toArray, List.set_cons_zero, List.set_cons_succ]
                  refine wpAnyH_done (by kernel_rfl) ?_ _
                  go_wp2_with fail
                  go_meet
                  exact ⟨rfl, Hfin.out _ (grown_keptN hHeld)⟩
              ·
                go_simp
                obtain ⟨wn, hwn, hd, hk, hlt⟩ := new_row wc #[.string ⟨#[101, 120, 112, 111, 114, 116, 101, 100, 95]⟩] 9
                obtain ⟨g25, hg⟩ : ∃ g, g = wc.heap.size := ⟨_, rfl⟩
                rw [← hwn, ← hg]
                rw [← hg] at hd
                have D25 := Lib.hid hd
                have hHn : wd.grownBy wn none := grown_new hHeld (grown_kept hk none) (fun k e => by cases e)
                refine hK.out _ _ hHn (fun _ => ?_)
                replace hHeld := hHn
                clear hHn hk hwn hd hg hlt
                obtain ⟨wc, rfl⟩ : ∃ x, x = wn := ⟨_, rfl⟩
                clear hK K
                try simp only [Act.put, List.setIfInBounds_toArray, List.set_cons_zero, List.set_cons_succ]
                refine wpAnyH_ready (rs := [22]) (by kernel_rfl) (by simp) ?_
                refine AllReadyH.cons (o := ⟨some 149, _, _, _, _, _⟩) rfl (fun K hK => ?_) (AllReadyH.nil)
                go_simp
                obtain ⟨wn, hwn, hd, hk, hlt⟩ := new_row wc #[.string ⟨#[97]⟩, .string ⟨#[53]⟩, .string ⟨#[101, 120, 112, 111, 114, 116, 101, 100, 95, 97]⟩, .string ⟨#[54]⟩] 9
                obtain ⟨g22, hg⟩ : ∃ g, g = wc.heap.size := ⟨_, rfl⟩
                rw [← hwn, ← hg]
                rw [← hg] at hd
                replace D25 := Lib.hid (heap_kept hk D25.out)
                have D22 := Lib.hid hd
                have hHn : wd.grownBy wn none := grown_new hHeld (grown_kept hk none) (fun k e => by cases e)
                refine hK.out _ _ hHn (fun _ => ?_)
                replace hHeld := hHn
                clear hHn hk hwn hd hg hlt
                obtain ⟨wc, rfl⟩ : ∃ x, x = wn := ⟨_, rfl⟩
                clear hK K
                try simp only [Act.put, List.setIfInBounds_toArray, List.set_cons_zero, List.set_cons_succ]
                refine wpAnyH_ready (rs := [23]) (by kernel_rfl) (by simp) ?_
                refine AllReadyH.cons (o := ⟨some 150, _, _, _, _, _⟩) rfl (fun K hK => ?_) (AllReadyH.nil)
                go_simp
                refine (of4At ⟨#[97]⟩ ⟨#[53]⟩ ⟨#[101, 120, 112, 111, 114, 116, 101, 100, 95, 97]⟩ ⟨#[54]⟩ g22 _ D22.out).mono ?_
                rintro e wn ⟨A23, c23, rfl, hr, hk⟩
                clear D22
                replace D25 := Lib.hid (heap_kept hk D25.out)
                have R23 := Lib.hid hr
                have hHn : wd.grownBy wn none := grown_new hHeld (grown_kept hk none) (fun k e => by cases e)
                refine hK.out _ _ hHn (fun _ => ?_)
                replace hHeld := hHn
                clear hHn hk hr
                obtain ⟨wc, rfl⟩ : ∃ x, x = wn := ⟨_, rfl⟩
                clear hK K
                try simp only [Act.put, List.setIfInBounds_toArray, List.set_cons_zero, List.set_cons_succ]
                refine wpAnyH_ready (rs := [26]) (by kernel_rfl) (by simp) ?_
                refine AllReadyH.cons (o := ⟨some 153, _, _, _, _, _⟩) rfl (fun K hK => ?_) (AllReadyH.nil)
                go_simp
                refine (changes_any (some ⟨g13, 2, none⟩) A23 (some ⟨g13, 0, none⟩) (some ⟨g25, 0, none⟩) 2 c23 3 1 [y, z] [(⟨#[97]⟩, ⟨#[53]⟩), (⟨#[101, 120, 112, 111, 114, 116, 101, 100, 95, 97]⟩, ⟨#[54]⟩)] [x, y, z] [⟨#[101, 120, 112, 111, 114, 116, 101, 100, 95]⟩] _ (RL1.out _ hHeld) R23.out (RL3.out _ hHeld) (rd_row (xs := strs [⟨#[101, 120, 112, 111, 114, 116, 101, 100, 95]⟩]) D25.out) (HT.out _ hHeld)).mono ?_
                rintro e wn ⟨rfl, hk⟩
                clear R23
                clear D25
                have hHn : wd.grownBy wn none := grown_new hHeld (grown_kept hk none) (fun k e => by cases e)
                refine hK.out _ _ hHn (fun _ => ?_)
                replace hHeld := hHn
                clear hHn hk 
                obtain ⟨wc, rfl⟩ : ∃ x, x = wn := ⟨_, rfl⟩
                clear hK K
                try simp only [Act.put, List.setIfInBounds_toArray, List.set_cons_zero, List.set_cons_succ]
                refine wpAnyH_take (i := 27) (oi := ⟨some 154, _, _, _, _, _⟩) (v := ?_) rfl (by kernel_rfl) (by kernel_rfl) (by kernel_rfl) (fun _ _ _ h => h) (Or.inl ⟨by rfl, ?_⟩) hHeld ?_
                rotate_left
                · (intro w hSw; go_simp; (try with_reducible rfl))
                try simp only [Act.put, List.setIfInBounds_toArray, List.set_cons_zero, List.set_cons_succ]
                refine wpAnyH_take (i := 28) (oi := ⟨some 155, _, _, _, _, _⟩) (v := ?_) rfl (by kernel_rfl) (by kernel_rfl) (by kernel_rfl) (fun _ _ _ h => h) (Or.inl ⟨by rfl, ?_⟩) hHeld ?_
                rotate_left
                · (intro w hSw; go_simp; (try with_reducible rfl))
                try simp only [Act.put, List.setIfInBounds_toArray, List.set_cons_zero, List.set_cons_succ]
                refine wpAnyH_done (by kernel_rfl) ?_ _
                go_wp2_with fail
                go_meet
                exact ⟨rfl, Hfin.out _ (grown_keptN hHeld)⟩
          case rest =>
            obtain ⟨rfl, hk2⟩ := hcut
            have hkr : Hid (Kept x4 wc) := below_kept Jx5.out (below_kept K56.out hk2.out)
            clear hk2 K56 Dg13
            go_wp2_with fail
            go_roundw
            case rel => exact ⟨k5 + 1, by omega, by go_num, hkr⟩
            case measure => simp [intOf]; omega
        · have h1 : ¬ (k5 : Int) < 8 := by omega
          clear Dg8 Dg10
          have hkr4 : Hid (Kept x3 wr) := below_kept Jx4.out hkr.out
          obtain ⟨wq, rfl⟩ : ∃ x, x = wr := ⟨_, rfl⟩
          go_wp2_with fail
          go_roundw
          case rel => exact ⟨k4 + 1, by omega, by go_num, hkr4⟩
          case measure => simp [intOf]; omega
    · have h1 : ¬ (k4 : Int) < 8 := by omega
      clear Dg8
      have hkr3 : Hid (Kept w0 wr) := below_kept Jx3.out hkr.out
      obtain ⟨wq, rfl⟩ : ∃ x, x = wr := ⟨_, rfl⟩
      go_wp2_with fail
      go_roundw
      case rel => exact ⟨k3 + 1, by omega, by go_num, hkr3⟩
      case measure => simp [intOf]; omega
end Go.Proofs.YtlhekeokognhmaaGreatDoor
