/-
  Made: the label of two numbers.
-/
import Derived.Test.YtlhekeokognhmaaGreatDoorMgaq
namespace Go.Proofs.YtlhekeokognhmaaGreatDoor
open Go.RowKit Go.Shelf Go.Maps Go.Sort
theorem nms_at (i : Nat) (h : i < 16) : (strs nms).toArray[i]? = some (.string (nms.getD i ⟨#[]⟩)) := by
  rw [List.getElem?_toArray, strs_get nms i h, List.getD_eq_getElem?_getD, List.getElem?_eq_getElem h]; rfl
theorem vls_at (i : Nat) (h : i < 8) : (#[.string ⟨#[]⟩, .string ⟨#[49]⟩, .string ⟨#[50]⟩, .string ⟨#[195, 169]⟩, .string ⟨#[117, 112]⟩, .string ⟨#[97, 32, 98]⟩, .string ⟨#[10]⟩, .string ⟨#[57]⟩] : Array Value)[i]? = some (.string (vls.getD i ⟨#[]⟩)) := by
  have : (strs vls).toArray[i]? = some (.string (vls.getD i ⟨#[]⟩)) := by
    rw [List.getElem?_toArray, strs_get vls i h, List.getD_eq_getElem?_getD, List.getElem?_eq_getElem h]; rfl
  exact this
theorem sizeS : (Tryz.prog.info? 122).map (·.size) = some 2 := by kernel_rfl
/-- The cells of numbers, two each. -/
def smalls (ps : List (Nat × Nat)) : List Value := ps.flatMap fun p => [.int .u8 (p.1 : Int), .int .u8 (p.2 : Int)]
theorem smalls_get : ∀ (ps : List (Nat × Nat)) (k : Nat) (p : Nat × Nat), ps[k]? = some p → (smalls ps)[k * 2]? = some (.int .u8 (p.1 : Int)) ∧ (smalls ps)[k * 2 + 1]? = some (.int .u8 (p.2 : Int))
  | [], k, x, h => by simp at h
  | y :: L, 0, x, h => by cases h; exact ⟨rfl, rfl⟩
  | y :: L, k + 1, x, h => by
    have := smalls_get L k x h
    rw [show smalls (y :: L) = .int .u8 (y.1 : Int) :: .int .u8 (y.2 : Int) :: smalls L from rfl, show (k + 1) * 2 = k * 2 + 1 + 1 from by omega, show (k * 2 + 1 + 1 + 1) = (k * 2 + 1) + 1 + 1 from by omega]
    exact this
theorem pair2c {w : World} {ad : Addr} {k : Nat} {x y : Value} (h0 : w.cell? (ad.add (k * 2)) = some x) (h1 : w.cell? (ad.add (k * 2 + 1)) = some y) : ∀ j v, (#[x, y] : Array Value)[j]? = some v → w.cell? ((ad.add (k * 2)).add j) = some v := by
  intro j v hv
  rw [addr_add_add]
  rcases j with _ | _ | j
  · cases hv; exact h0
  · cases hv; exact h1
  · simp at hv
theorem mod_u8 (a n : Nat) (hn : n = 16 ∨ n = 8) : Int.tmod (a : Int) (n : Int) = ((a % n : Nat) : Int) := by
  rcases hn with rfl | rfl <;> rfl
theorem wrap_u8 (a : Nat) (h : a < 256) : IntKind.u8.wrap (a : Int) = (a : Int) := by
  rw [IntKind.wrap_u8]; omega
set_option maxRecDepth 100000 in
set_option maxHeartbeats 4000000 in
theorem made_any (A : Option Addr) (c : Nat) (ps : List (Nat × Nat)) (hp : ∀ p ∈ ps, p.1 ≤ 255 ∧ p.2 ≤ 255) (hc : ps.length ≤ c) (hm : c ≤ maxLen) (w : World) (hr : Rd w w.heap.size A (ps.length * 2) (smalls ps)) :
    Calls Tryz.prog 59 #[.slice A ps.length c] w fun e w' => ∃ A c, e = .returned (.slice A (mkL (ps.take 40)).length c) ∧ RdL w' w'.heap.size A (mkL (ps.take 40)) ∧ Kept w w' ∧ (mkL (ps.take 40)).length ≤ c := by
  have HR := Lib.hid hr
  have HP := Lib.hid hp
  obtain ⟨i0, hi0, hz0, hz1, hz2⟩ := info_parts infoLab
  obtain ⟨n, hn⟩ : ∃ n, n = ps.length := ⟨_, rfl⟩
  have Hn := Lib.hid hn
  obtain ⟨m, hm40⟩ : ∃ m, m = min n 40 := ⟨_, rfl⟩
  have hmn : m ≤ n := by omega
  have hm4 : m ≤ 40 := by omega
  have hmin : min (n : Int) 40 = (m : Int) := by omega
  have Htk : Hid (ps.take 40 = ps.take m) := by
    show _ = _
    rcases (by omega : n ≤ 40 ∨ 40 < n) with h | h
    · rw [List.take_of_length_le (by omega), List.take_of_length_le (by omega)]
    · rw [show m = 40 by omega]
  rw [← hn] at hc ⊢
  replace hm : c ≤ 9223372036854775807 := hm
  clear hr hp hn
  go_enter Tryz.func59, Tryz.ntmps59
  go_wp2_with fail
  go_loopw [3, 14] (fun v3 v14 wr => ∃ k : Nat, k ≤ m ∧ v14 = .int .i64 k ∧ Hid (Kept w wr) ∧ Hid (wr.ownsRow w.heap.size 33 2 v3 (mkL (ps.take k)).length (labs (mkL (ps.take k))))) (fun _ v14 _ => m - (intOf v14).toNat)
  case atStart => exact ⟨0, by omega, rfl, Below.refl _ _, ⟨rfl, .inl ⟨rfl, rfl⟩⟩⟩
  case round =>
    obtain ⟨k, hk, rfl, hkr, hown⟩ := hrel
    by_cases hkn : k < m
    · obtain ⟨⟨pa, pb⟩, hpk⟩ : ∃ p, ps[k]? = some p := ⟨_, List.getElem?_eq_getElem (by have := Hn.out; omega)⟩
      have hpb := HP.out _ (List.mem_of_getElem? hpk)
      obtain ⟨hp1, hp2⟩ := smalls_get ps k _ hpk
      obtain ⟨ad, rfl, hadb, hcc⟩ := HR.out.2 (by have := Hn.out; omega)
      dsimp only at hpb hp1 hp2
      have Hcl := Lib.hid (pair2c ((Below.cell hkr.out (by rw [addBlock]; exact hadb)).trans (hcc _ _ hp1)) ((Below.cell hkr.out (by rw [addBlock]; exact hadb)).trans (hcc _ _ hp2)))
      have Hst : Hid (mkL (ps.take (k + 1)) = made1 (mkL (ps.take k)) (madeL (pa, pb))) := by
        show _ = _
        unfold mkL
        rw [List.take_add_one, hpk, List.foldl_append]
        rfl
      have HO : Hid (Once (mkL (ps.take k))) := mkL_once _
      have hN16 := mkL_len (ps.take k)
      generalize mkL (ps.take k) = L at *
      obtain ⟨hpa, hpb⟩ := hpb
      clear hpk hp1 hp2 hcc
      obtain ⟨ia, hia⟩ : ∃ i, i = pa % 16 := ⟨_, rfl⟩
      obtain ⟨ib, hib⟩ : ∃ i, i = pb % 8 := ⟨_, rfl⟩
      have hia1 : ia < 16 := by omega
      have hib1 : ib < 8 := by omega
      have hiaI : (ia : Int) < 16 := by omega
      have hibI : (ib : Int) < 8 := by omega
      have HA : Hid (Int.tmod (pa : Int) 16 = (ia : Int)) := by
        show _ = _
        rw [show (16 : Int) = ((16 : Nat) : Int) from rfl, mod_u8 _ _ (.inl rfl), hia]
      have HB : Hid (Int.tmod (pb : Int) 8 = (ib : Int)) := by
        show _ = _
        rw [show (8 : Int) = ((8 : Nat) : Int) from rfl, mod_u8 _ _ (.inr rfl), hib]
      have hmk : madeL (pa, pb) = (nms.getD ia ⟨#[]⟩, vls.getD ib ⟨#[]⟩) := by rw [hia, hib]; rfl
      have HM1 := Lib.hid (congrArg Prod.fst hmk)
      have HM2 := Lib.hid (congrArg Prod.snd hmk)
      generalize madeL (pa, pb) = nw at *
      clear hmk hia hib
      go_upto_region 5 with (refine wpList_load_at rfl 122 (.tmp 16) rfl (ad.add (k * 2)) rfl #[.int .u8 (pa : Int), .int .u8 (pb : Int)] _ Hcl.out Tryz.underlying122 rfl sizeS ?_)
      obtain ⟨w1, hw1, hE0, hk01, hlt01⟩ := new_row wr #[.int .u8 (pa : Int), .int .u8 (pb : Int)] 122
      obtain ⟨g5, hg5⟩ : ∃ g, g = wr.heap.size := ⟨_, rfl⟩
      rw [← hw1, ← hg5]
      rw [← hg5] at hE0
      have hE := Lib.hid hE0
      have Hk1 := Lib.hid hk01
      clear hw1 hE0 hk01 hlt01 hg5 Hcl HR
      go_cut [6] (fun v6 wx => ∃ g, v6 = .pointer (some ⟨g, 0, none⟩) ∧ Hid (wx.heap[g]? = some (.cells #[.string nw.1, .string nw.2] 33 (0, 0))) ∧ Hid (Kept w1 wx))
      case first =>
        clear hown Hst HO hN16 hkr Hk1 Htk HP Hn hk hkn hadb hmin hmn hm4 hm40 hm hc
        obtain ⟨wc, hwc⟩ : ∃ x, x = w1.drew := ⟨_, rfl⟩
        refine wp_region_held_drew (S := fun W => w1.drew.grownBy W none) (by kernel_rfl) (grown_kept (Below.refl _ _) _) (fun hHeld => ?_)
        replace hE := Lib.hid (heap_drew0 hE.out)
        have hK1 := Lib.hid (below_drew0 (Below.refl w1.heap.size w1))
        rw [← hwc] at hE hK1 hHeld ⊢
        clear hwc
        refine wpAnyH_take (i := 1) (oi := ⟨some 19, _, _, _, _, _⟩) (v := ?_) rfl (by kernel_rfl) (by kernel_rfl) (by kernel_rfl) (fun _ _ _ h => h) (Or.inl ⟨by rfl, ?_⟩) hHeld ?_
        rotate_left
        · (intro w hSw; go_simp; (try with_reducible rfl))
        try simp only [Act.put, List.setIfInBounds_toArray, List.set_cons_zero, List.set_cons_succ]
        refine wpAnyH_take (i := 2) (oi := ⟨some 20, _, _, _, _, _⟩) rfl (by kernel_rfl) (by kernel_rfl) (by kernel_rfl) (fun _ _ _ h => h) (yields_cell (by rfl) _ _ rfl ⟨g5, 0, none⟩ rfl (.int .u8 (pa : Int)) (fun w v h => load_u8 w _ v h) (heap_lt hE.out) (by simp) (cell_of_row _ g5 0 _ _ _ hE.out)) hHeld ?_
        try simp only [Act.put, List.setIfInBounds_toArray, List.set_cons_zero, List.set_cons_succ]
        refine wpAnyH_take (i := 3) (oi := ⟨some 21, _, _, _, _, _⟩) (v := ?_) rfl (by kernel_rfl) (by kernel_rfl) (by kernel_rfl) (fun _ _ _ h => h) (Or.inl ⟨by rfl, ?_⟩) hHeld ?_
        rotate_left
        · (intro w hSw; go_simp; (try with_reducible rfl))
        try simp only [Act.put, List.setIfInBounds_toArray, List.set_cons_zero, List.set_cons_succ]
        (try rw [HA.out])
        refine wpAnyH_take (i := 7) (oi := ⟨some 25, _, _, _, _, _⟩) (v := ?_) rfl (by kernel_rfl) (by kernel_rfl) (by kernel_rfl) (fun _ _ _ h => h) (Or.inl ⟨by rfl, ?_⟩) hHeld ?_
        rotate_left
        · (intro w hSw; go_simp; (try with_reducible rfl))
        try simp only [Act.put, List.setIfInBounds_toArray, List.set_cons_zero, List.set_cons_succ]
        refine wpAnyH_take (i := 8) (oi := ⟨some 26, _, _, _, _, _⟩) rfl (by kernel_rfl) (by kernel_rfl) (by kernel_rfl) (fun _ _ _ h => h) (yields_cell (by rfl) _ _ rfl ⟨g5, 1, none⟩ rfl (.int .u8 (pb : Int)) (fun w v h => load_u8 w _ v h) (heap_lt hE.out) (by simp) (cell_of_row _ g5 1 _ _ _ hE.out)) hHeld ?_
        try simp only [Act.put, List.setIfInBounds_toArray, List.set_cons_zero, List.set_cons_succ]
        refine wpAnyH_take (i := 9) (oi := ⟨some 27, _, _, _, _, _⟩) (v := ?_) rfl (by kernel_rfl) (by kernel_rfl) (by kernel_rfl) (fun _ _ _ h => h) (Or.inl ⟨by rfl, ?_⟩) hHeld ?_
        rotate_left
        · (intro w hSw; go_simp; (try with_reducible rfl))
        try simp only [Act.put, List.setIfInBounds_toArray, List.set_cons_zero, List.set_cons_succ]
        (try rw [HB.out])
        refine wpAnyH_ready (rs := [0, 6, 13]) (by kernel_rfl) (by simp) ?_
        refine AllReadyH.cons (o := ⟨some 18, _, _, _, _, _⟩) rfl (fun K hK => ?_) (AllReadyH.cons (o := ⟨some 24, _, _, _, _, _⟩) rfl (fun K hK => ?_) (AllReadyH.cons (o := ⟨some 6, _, _, _, _, _⟩) rfl (fun K hK => ?_) (AllReadyH.nil)))
        · go_simp
          refine (names_any _).mono ?_
          rintro e wn ⟨gN, rfl, hge, hN, hk⟩
          refine hK.out _ _ (grown_kept hk _) (fun _ => turnG (r := none) (grown_kept hk _) (fun _ _ h => h) ?_)
          replace hE := Lib.hid (heap_kept hk hE.out)
          replace hK1 := Lib.hid (below_kept hK1.out hk)
          clear hk hHeld
          have hHeld := grown_kept (Below.refl wn.heap.size wn) (none)
          obtain ⟨wc, rfl⟩ : ∃ x, x = wn := ⟨_, rfl⟩
          clear hK K
          try simp only [Act.put, List.setIfInBounds_toArray, List.set_cons_zero, List.set_cons_succ]
          refine wpAnyH_take (i := 4) (oi := ⟨some 22, _, _, _, _, _⟩) (v := ?_) rfl (by kernel_rfl) (by kernel_rfl) (by kernel_rfl) (fun _ _ _ h => h) (Or.inl ⟨by rfl, ?_⟩) hHeld ?_
          rotate_left
          · (intro w hSw; go_simp; (try with_reducible rfl))
          try simp only [Act.put, List.setIfInBounds_toArray, List.set_cons_zero, List.set_cons_succ]
          refine wpAnyH_take (i := 5) (oi := ⟨some 23, _, _, _, _, _⟩) rfl (by kernel_rfl) (by kernel_rfl) (by kernel_rfl) (fun _ _ _ h => h) (yields_cell (by rfl) _ _ rfl ⟨gN, ia, none⟩ rfl (.string (nms.getD ia ⟨#[]⟩)) (fun w v h => load_str w _ v h) (heap_lt hN.out) (by simp) ((cell_of_row _ gN _ _ _ _ hN.out).trans (nms_at _ hia1))) hHeld ?_
          try simp only [Act.put, List.setIfInBounds_toArray, List.set_cons_zero, List.set_cons_succ]
          refine wpAnyH_ready (rs := [6, 13]) (by kernel_rfl) (by simp) ?_
          refine AllReadyH.cons (o := ⟨some 24, _, _, _, _, _⟩) rfl (fun K hK => ?_) (AllReadyH.cons (o := ⟨some 6, _, _, _, _, _⟩) rfl (fun K hK => ?_) (AllReadyH.nil))
          · go_simp
            obtain ⟨wn, hwn, hL0, hk, hlt⟩ := new_row wc #[.string ⟨#[]⟩, .string ⟨#[49]⟩, .string ⟨#[50]⟩, .string ⟨#[195, 169]⟩, .string ⟨#[117, 112]⟩, .string ⟨#[97, 32, 98]⟩, .string ⟨#[10]⟩, .string ⟨#[57]⟩] 9
            obtain ⟨gL, hgL⟩ : ∃ g, g = wc.heap.size := ⟨_, rfl⟩
            have hge : wc.heap.size ≤ gL := Nat.le_of_eq hgL.symm
            rw [← hwn, ← hgL]
            rw [← hgL] at hL0
            have hL := Lib.hid hL0
            clear hwn hL0 hlt
            refine hK.out _ _ (grown_kept hk _) (fun _ => turnG (r := none) (grown_kept hk _) (fun _ _ h => h) ?_)
            replace hE := Lib.hid (heap_kept hk hE.out)
            replace hK1 := Lib.hid (below_kept hK1.out hk)
            replace hN := Lib.hid (heap_kept hk hN.out)
            clear hk hHeld hgL
            have hHeld := grown_kept (Below.refl wn.heap.size wn) (none)
            obtain ⟨wc, rfl⟩ : ∃ x, x = wn := ⟨_, rfl⟩
            clear hK K
            try simp only [Act.put, List.setIfInBounds_toArray, List.set_cons_zero, List.set_cons_succ]
            refine wpAnyH_take (i := 10) (oi := ⟨some 28, _, _, _, _, _⟩) (v := ?_) rfl (by kernel_rfl) (by kernel_rfl) (by kernel_rfl) (fun _ _ _ h => h) (Or.inl ⟨by rfl, ?_⟩) hHeld ?_
            rotate_left
            · (intro w hSw; go_simp; (try with_reducible rfl))
            try simp only [Act.put, List.setIfInBounds_toArray, List.set_cons_zero, List.set_cons_succ]
            refine wpAnyH_take (i := 11) (oi := ⟨some 29, _, _, _, _, _⟩) rfl (by kernel_rfl) (by kernel_rfl) (by kernel_rfl) (fun _ _ _ h => h) (yields_cell (by rfl) _ _ rfl ⟨gL, ib, none⟩ rfl (.string (vls.getD ib ⟨#[]⟩)) (fun w v h => load_str w _ v h) (heap_lt hL.out) (by simp) ((cell_of_row _ gL _ _ _ _ hL.out).trans (vls_at _ hib1))) hHeld ?_
            try simp only [Act.put, List.setIfInBounds_toArray, List.set_cons_zero, List.set_cons_succ]
            refine wpAnyH_take (i := 12) (oi := ⟨some 30, _, _, _, _, _⟩) (v := ?_) rfl (by kernel_rfl) (by kernel_rfl) (by kernel_rfl) (fun _ _ _ h => h) (Or.inl ⟨by rfl, ?_⟩) hHeld ?_
            rotate_left
            · (intro w hSw; go_simp; (try with_reducible rfl))
            try simp only [Act.put, List.setIfInBounds_toArray, List.set_cons_zero, List.set_cons_succ]
            refine wpAnyH_ready (rs := [13]) (by kernel_rfl) (by simp) ?_
            refine AllReadyH.cons (o := ⟨some 6, _, _, _, _, _⟩) rfl (fun K hK => ?_) (AllReadyH.nil)
            · go_simp
              obtain ⟨wn, hwn, hA0, hk, hlt⟩ := new_row wc #[.string ⟨#[]⟩, .string ⟨#[]⟩] 33
              obtain ⟨g6, hg6⟩ : ∃ g, g = wc.heap.size := ⟨_, rfl⟩
              rw [← hwn, ← hg6]
              rw [← hg6] at hA0
              have hA := Lib.hid hA0
              have hn0 : some gN ≠ some g6 := fun e => by injection e with e; have := heap_lt hN.out; omega
              have hn6 : some gL ≠ some g6 := fun e => by injection e with e; have := heap_lt hL.out; omega
              have hge6 : w1.heap.size ≤ g6 := by have := hK1.out.size; omega
              clear hwn hA0 hlt
              refine hK.out _ _ (grown_kept hk _) (fun _ => turnG (r := some g6) (grown_kept hk _) (fun k hk2 _ e => by injection e with e; omega) ?_)
              replace hE := Lib.hid (heap_kept hk hE.out)
              replace hK1 := Lib.hid (below_kept hK1.out hk)
              replace hN := Lib.hid (heap_kept hk hN.out)
              replace hL := Lib.hid (heap_kept hk hL.out)
              clear hk hHeld hg6
              have hHeld := grown_kept (Below.refl wn.heap.size wn) (some g6)
              obtain ⟨wc, rfl⟩ : ∃ x, x = wn := ⟨_, rfl⟩
              clear hK K
              try simp only [Act.put, List.setIfInBounds_toArray, List.set_cons_zero, List.set_cons_succ]
              refine wpAnyH_ready (rs := [14]) (by kernel_rfl) (by simp) ?_
              refine AllReadyH.cons (o := ⟨none, _, _, _, _, _⟩) rfl (fun K hK => ?_) (AllReadyH.nil)
              · have d0 : wc.cell? ⟨g6, 0, none⟩ = some (.string ⟨#[]⟩) := cell_of_row _ g6 0 _ _ _ hA.out
                have d1 : wc.cell? ⟨g6, 1, none⟩ = some (.string ⟨#[]⟩) := cell_of_row _ g6 1 _ _ _ hA.out
                have f0 : ∀ j, wc.frozen? ⟨g6, j, none⟩ = false := fun j => by simp [World.frozen?, hA.out]
                go_simp
                refine hK.out _ _ ((grown_set _ g6 0 _).trans (grown_set _ g6 1 _)) (fun hHeld => ?_)
                clear hK K
                try simp only [Act.put, List.setIfInBounds_toArray, List.set_cons_zero, List.set_cons_succ]
                refine wpAnyH_done (by kernel_rfl) ?_ _
                go_wp2_with fail
                go_meet
                refine ⟨g6, rfl, ?_, ?_⟩
                · show _ = _; rw [HM1.out, HM2.out]; exact heap_setCell_same _ _ 1 _ _ _ (heap_setCell_same _ _ 0 _ _ _ hA.out)
                · exact (hK1.out.setCell hge6 _).setCell hge6 _
          · go_simp
            obtain ⟨wn, hwn, hA0, hk, hlt⟩ := new_row wc #[.string ⟨#[]⟩, .string ⟨#[]⟩] 33
            obtain ⟨g6, hg6⟩ : ∃ g, g = wc.heap.size := ⟨_, rfl⟩
            rw [← hwn, ← hg6]
            rw [← hg6] at hA0
            have hA := Lib.hid hA0
            have hn0 : some gN ≠ some g6 := fun e => by injection e with e; have := heap_lt hN.out; omega
            have hge6 : w1.heap.size ≤ g6 := by have := hK1.out.size; omega
            clear hwn hA0 hlt
            refine hK.out _ _ (grown_kept hk _) (fun _ => turnG (r := some g6) (grown_kept hk _) (fun k hk2 _ e => by injection e with e; omega) ?_)
            replace hE := Lib.hid (heap_kept hk hE.out)
            replace hK1 := Lib.hid (below_kept hK1.out hk)
            replace hN := Lib.hid (heap_kept hk hN.out)
            clear hk hHeld hg6
            have hHeld := grown_kept (Below.refl wn.heap.size wn) (some g6)
            obtain ⟨wc, rfl⟩ : ∃ x, x = wn := ⟨_, rfl⟩
            clear hK K
            try simp only [Act.put, List.setIfInBounds_toArray, List.set_cons_zero, List.set_cons_succ]
            refine wpAnyH_ready (rs := [6]) (by kernel_rfl) (by simp) ?_
            refine AllReadyH.cons (o := ⟨some 24, _, _, _, _, _⟩) rfl (fun K hK => ?_) (AllReadyH.nil)
            · go_simp
              obtain ⟨wn, hwn, hL0, hk, hlt⟩ := new_row wc #[.string ⟨#[]⟩, .string ⟨#[49]⟩, .string ⟨#[50]⟩, .string ⟨#[195, 169]⟩, .string ⟨#[117, 112]⟩, .string ⟨#[97, 32, 98]⟩, .string ⟨#[10]⟩, .string ⟨#[57]⟩] 9
              obtain ⟨gL, hgL⟩ : ∃ g, g = wc.heap.size := ⟨_, rfl⟩
              have hge : wc.heap.size ≤ gL := Nat.le_of_eq hgL.symm
              rw [← hwn, ← hgL]
              rw [← hgL] at hL0
              have hL := Lib.hid hL0
              have hn6 : some gL ≠ some g6 := fun e => by injection e with e; have := heap_lt hA.out; omega
              clear hwn hL0 hlt
              refine hK.out _ _ (grown_kept hk _) (fun _ => turnG (r := some g6) (grown_kept hk _) (fun _ _ h => h) ?_)
              replace hE := Lib.hid (heap_kept hk hE.out)
              replace hK1 := Lib.hid (below_kept hK1.out hk)
              replace hN := Lib.hid (heap_kept hk hN.out)
              replace hA := Lib.hid (heap_kept hk hA.out)
              clear hk hHeld hgL
              have hHeld := grown_kept (Below.refl wn.heap.size wn) (some g6)
              obtain ⟨wc, rfl⟩ : ∃ x, x = wn := ⟨_, rfl⟩
              clear hK K
              try simp only [Act.put, List.setIfInBounds_toArray, List.set_cons_zero, List.set_cons_succ]
              refine wpAnyH_take (i := 10) (oi := ⟨some 28, _, _, _, _, _⟩) (v := ?_) rfl (by kernel_rfl) (by kernel_rfl) (by kernel_rfl) (fun _ _ _ h => h) (Or.inl ⟨by rfl, ?_⟩) hHeld ?_
              rotate_left
              · (intro w hSw; go_simp; (try with_reducible rfl))
              try simp only [Act.put, List.setIfInBounds_toArray, List.set_cons_zero, List.set_cons_succ]
              refine wpAnyH_take (i := 11) (oi := ⟨some 29, _, _, _, _, _⟩) rfl (by kernel_rfl) (by kernel_rfl) (by kernel_rfl) (fun _ _ _ h => h) (yields_cell (by rfl) _ _ rfl ⟨gL, ib, none⟩ rfl (.string (vls.getD ib ⟨#[]⟩)) (fun w v h => load_str w _ v h) (heap_lt hL.out) (hn6) ((cell_of_row _ gL _ _ _ _ hL.out).trans (vls_at _ hib1))) hHeld ?_
              try simp only [Act.put, List.setIfInBounds_toArray, List.set_cons_zero, List.set_cons_succ]
              refine wpAnyH_take (i := 12) (oi := ⟨some 30, _, _, _, _, _⟩) (v := ?_) rfl (by kernel_rfl) (by kernel_rfl) (by kernel_rfl) (fun _ _ _ h => h) (Or.inl ⟨by rfl, ?_⟩) hHeld ?_
              rotate_left
              · (intro w hSw; go_simp; (try with_reducible rfl))
              try simp only [Act.put, List.setIfInBounds_toArray, List.set_cons_zero, List.set_cons_succ]
              refine wpAnyH_ready (rs := [14]) (by kernel_rfl) (by simp) ?_
              refine AllReadyH.cons (o := ⟨none, _, _, _, _, _⟩) rfl (fun K hK => ?_) (AllReadyH.nil)
              · have d0 : wc.cell? ⟨g6, 0, none⟩ = some (.string ⟨#[]⟩) := cell_of_row _ g6 0 _ _ _ hA.out
                have d1 : wc.cell? ⟨g6, 1, none⟩ = some (.string ⟨#[]⟩) := cell_of_row _ g6 1 _ _ _ hA.out
                have f0 : ∀ j, wc.frozen? ⟨g6, j, none⟩ = false := fun j => by simp [World.frozen?, hA.out]
                go_simp
                refine hK.out _ _ ((grown_set _ g6 0 _).trans (grown_set _ g6 1 _)) (fun hHeld => ?_)
                clear hK K
                try simp only [Act.put, List.setIfInBounds_toArray, List.set_cons_zero, List.set_cons_succ]
                refine wpAnyH_done (by kernel_rfl) ?_ _
                go_wp2_with fail
                go_meet
                refine ⟨g6, rfl, ?_, ?_⟩
                · show _ = _; rw [HM1.out, HM2.out]; exact heap_setCell_same _ _ 1 _ _ _ (heap_setCell_same _ _ 0 _ _ _ hA.out)
                · exact (hK1.out.setCell hge6 _).setCell hge6 _
        · go_simp
          obtain ⟨wn, hwn, hL0, hk, hlt⟩ := new_row wc #[.string ⟨#[]⟩, .string ⟨#[49]⟩, .string ⟨#[50]⟩, .string ⟨#[195, 169]⟩, .string ⟨#[117, 112]⟩, .string ⟨#[97, 32, 98]⟩, .string ⟨#[10]⟩, .string ⟨#[57]⟩] 9
          obtain ⟨gL, hgL⟩ : ∃ g, g = wc.heap.size := ⟨_, rfl⟩
          have hge : wc.heap.size ≤ gL := Nat.le_of_eq hgL.symm
          rw [← hwn, ← hgL]
          rw [← hgL] at hL0
          have hL := Lib.hid hL0
          clear hwn hL0 hlt
          refine hK.out _ _ (grown_kept hk _) (fun _ => turnG (r := none) (grown_kept hk _) (fun _ _ h => h) ?_)
          replace hE := Lib.hid (heap_kept hk hE.out)
          replace hK1 := Lib.hid (below_kept hK1.out hk)
          clear hk hHeld hgL
          have hHeld := grown_kept (Below.refl wn.heap.size wn) (none)
          obtain ⟨wc, rfl⟩ : ∃ x, x = wn := ⟨_, rfl⟩
          clear hK K
          try simp only [Act.put, List.setIfInBounds_toArray, List.set_cons_zero, List.set_cons_succ]
          refine wpAnyH_take (i := 10) (oi := ⟨some 28, _, _, _, _, _⟩) (v := ?_) rfl (by kernel_rfl) (by kernel_rfl) (by kernel_rfl) (fun _ _ _ h => h) (Or.inl ⟨by rfl, ?_⟩) hHeld ?_
          rotate_left
          · (intro w hSw; go_simp; (try with_reducible rfl))
          try simp only [Act.put, List.setIfInBounds_toArray, List.set_cons_zero, List.set_cons_succ]
          refine wpAnyH_take (i := 11) (oi := ⟨some 29, _, _, _, _, _⟩) rfl (by kernel_rfl) (by kernel_rfl) (by kernel_rfl) (fun _ _ _ h => h) (yields_cell (by rfl) _ _ rfl ⟨gL, ib, none⟩ rfl (.string (vls.getD ib ⟨#[]⟩)) (fun w v h => load_str w _ v h) (heap_lt hL.out) (by simp) ((cell_of_row _ gL _ _ _ _ hL.out).trans (vls_at _ hib1))) hHeld ?_
          try simp only [Act.put, List.setIfInBounds_toArray, List.set_cons_zero, List.set_cons_succ]
          refine wpAnyH_ready (rs := [0, 13]) (by kernel_rfl) (by simp) ?_
          refine AllReadyH.cons (o := ⟨some 18, _, _, _, _, _⟩) rfl (fun K hK => ?_) (AllReadyH.cons (o := ⟨some 6, _, _, _, _, _⟩) rfl (fun K hK => ?_) (AllReadyH.nil))
          · go_simp
            refine (names_any _).mono ?_
            rintro e wn ⟨gN, rfl, hge, hN, hk⟩
            refine hK.out _ _ (grown_kept hk _) (fun _ => turnG (r := none) (grown_kept hk _) (fun _ _ h => h) ?_)
            replace hE := Lib.hid (heap_kept hk hE.out)
            replace hK1 := Lib.hid (below_kept hK1.out hk)
            replace hL := Lib.hid (heap_kept hk hL.out)
            clear hk hHeld
            have hHeld := grown_kept (Below.refl wn.heap.size wn) (none)
            obtain ⟨wc, rfl⟩ : ∃ x, x = wn := ⟨_, rfl⟩
            clear hK K
            try simp only [Act.put, List.setIfInBounds_toArray, List.set_cons_zero, List.set_cons_succ]
            refine wpAnyH_take (i := 4) (oi := ⟨some 22, _, _, _, _, _⟩) (v := ?_) rfl (by kernel_rfl) (by kernel_rfl) (by kernel_rfl) (fun _ _ _ h => h) (Or.inl ⟨by rfl, ?_⟩) hHeld ?_
            rotate_left
            · (intro w hSw; go_simp; (try with_reducible rfl))
            try simp only [Act.put, List.setIfInBounds_toArray, List.set_cons_zero, List.set_cons_succ]
            refine wpAnyH_take (i := 5) (oi := ⟨some 23, _, _, _, _, _⟩) rfl (by kernel_rfl) (by kernel_rfl) (by kernel_rfl) (fun _ _ _ h => h) (yields_cell (by rfl) _ _ rfl ⟨gN, ia, none⟩ rfl (.string (nms.getD ia ⟨#[]⟩)) (fun w v h => load_str w _ v h) (heap_lt hN.out) (by simp) ((cell_of_row _ gN _ _ _ _ hN.out).trans (nms_at _ hia1))) hHeld ?_
            try simp only [Act.put, List.setIfInBounds_toArray, List.set_cons_zero, List.set_cons_succ]
            refine wpAnyH_take (i := 12) (oi := ⟨some 30, _, _, _, _, _⟩) (v := ?_) rfl (by kernel_rfl) (by kernel_rfl) (by kernel_rfl) (fun _ _ _ h => h) (Or.inl ⟨by rfl, ?_⟩) hHeld ?_
            rotate_left
            · (intro w hSw; go_simp; (try with_reducible rfl))
            try simp only [Act.put, List.setIfInBounds_toArray, List.set_cons_zero, List.set_cons_succ]
            refine wpAnyH_ready (rs := [13]) (by kernel_rfl) (by simp) ?_
            refine AllReadyH.cons (o := ⟨some 6, _, _, _, _, _⟩) rfl (fun K hK => ?_) (AllReadyH.nil)
            · go_simp
              obtain ⟨wn, hwn, hA0, hk, hlt⟩ := new_row wc #[.string ⟨#[]⟩, .string ⟨#[]⟩] 33
              obtain ⟨g6, hg6⟩ : ∃ g, g = wc.heap.size := ⟨_, rfl⟩
              rw [← hwn, ← hg6]
              rw [← hg6] at hA0
              have hA := Lib.hid hA0
              have hn0 : some gN ≠ some g6 := fun e => by injection e with e; have := heap_lt hN.out; omega
              have hn6 : some gL ≠ some g6 := fun e => by injection e with e; have := heap_lt hL.out; omega
              have hge6 : w1.heap.size ≤ g6 := by have := hK1.out.size; omega
              clear hwn hA0 hlt
              refine hK.out _ _ (grown_kept hk _) (fun _ => turnG (r := some g6) (grown_kept hk _) (fun k hk2 _ e => by injection e with e; omega) ?_)
              replace hE := Lib.hid (heap_kept hk hE.out)
              replace hK1 := Lib.hid (below_kept hK1.out hk)
              replace hN := Lib.hid (heap_kept hk hN.out)
              replace hL := Lib.hid (heap_kept hk hL.out)
              clear hk hHeld hg6
              have hHeld := grown_kept (Below.refl wn.heap.size wn) (some g6)
              obtain ⟨wc, rfl⟩ : ∃ x, x = wn := ⟨_, rfl⟩
              clear hK K
              try simp only [Act.put, List.setIfInBounds_toArray, List.set_cons_zero, List.set_cons_succ]
              refine wpAnyH_ready (rs := [14]) (by kernel_rfl) (by simp) ?_
              refine AllReadyH.cons (o := ⟨none, _, _, _, _, _⟩) rfl (fun K hK => ?_) (AllReadyH.nil)
              · have d0 : wc.cell? ⟨g6, 0, none⟩ = some (.string ⟨#[]⟩) := cell_of_row _ g6 0 _ _ _ hA.out
                have d1 : wc.cell? ⟨g6, 1, none⟩ = some (.string ⟨#[]⟩) := cell_of_row _ g6 1 _ _ _ hA.out
                have f0 : ∀ j, wc.frozen? ⟨g6, j, none⟩ = false := fun j => by simp [World.frozen?, hA.out]
                go_simp
                refine hK.out _ _ ((grown_set _ g6 0 _).trans (grown_set _ g6 1 _)) (fun hHeld => ?_)
                clear hK K
                try simp only [Act.put, List.setIfInBounds_toArray, List.set_cons_zero, List.set_cons_succ]
                refine wpAnyH_done (by kernel_rfl) ?_ _
                go_wp2_with fail
                go_meet
                refine ⟨g6, rfl, ?_, ?_⟩
                · show _ = _; rw [HM1.out, HM2.out]; exact heap_setCell_same _ _ 1 _ _ _ (heap_setCell_same _ _ 0 _ _ _ hA.out)
                · exact (hK1.out.setCell hge6 _).setCell hge6 _
          · go_simp
            obtain ⟨wn, hwn, hA0, hk, hlt⟩ := new_row wc #[.string ⟨#[]⟩, .string ⟨#[]⟩] 33
            obtain ⟨g6, hg6⟩ : ∃ g, g = wc.heap.size := ⟨_, rfl⟩
            rw [← hwn, ← hg6]
            rw [← hg6] at hA0
            have hA := Lib.hid hA0
            have hn6 : some gL ≠ some g6 := fun e => by injection e with e; have := heap_lt hL.out; omega
            have hge6 : w1.heap.size ≤ g6 := by have := hK1.out.size; omega
            clear hwn hA0 hlt
            refine hK.out _ _ (grown_kept hk _) (fun _ => turnG (r := some g6) (grown_kept hk _) (fun k hk2 _ e => by injection e with e; omega) ?_)
            replace hE := Lib.hid (heap_kept hk hE.out)
            replace hK1 := Lib.hid (below_kept hK1.out hk)
            replace hL := Lib.hid (heap_kept hk hL.out)
            clear hk hHeld hg6
            have hHeld := grown_kept (Below.refl wn.heap.size wn) (some g6)
            obtain ⟨wc, rfl⟩ : ∃ x, x = wn := ⟨_, rfl⟩
            clear hK K
            try simp only [Act.put, List.setIfInBounds_toArray, List.set_cons_zero, List.set_cons_succ]
            refine wpAnyH_ready (rs := [0]) (by kernel_rfl) (by simp) ?_
            refine AllReadyH.cons (o := ⟨some 18, _, _, _, _, _⟩) rfl (fun K hK => ?_) (AllReadyH.nil)
            · go_simp
              refine (names_any _).mono ?_
              rintro e wn ⟨gN, rfl, hge, hN, hk⟩
              have hn0 : some gN ≠ some g6 := fun e => by injection e with e; have := heap_lt hA.out; omega
              refine hK.out _ _ (grown_kept hk _) (fun _ => turnG (r := some g6) (grown_kept hk _) (fun _ _ h => h) ?_)
              replace hE := Lib.hid (heap_kept hk hE.out)
              replace hK1 := Lib.hid (below_kept hK1.out hk)
              replace hL := Lib.hid (heap_kept hk hL.out)
              replace hA := Lib.hid (heap_kept hk hA.out)
              clear hk hHeld
              have hHeld := grown_kept (Below.refl wn.heap.size wn) (some g6)
              obtain ⟨wc, rfl⟩ : ∃ x, x = wn := ⟨_, rfl⟩
              clear hK K
              try simp only [Act.put, List.setIfInBounds_toArray, List.set_cons_zero, List.set_cons_succ]
              refine wpAnyH_take (i := 4) (oi := ⟨some 22, _, _, _, _, _⟩) (v := ?_) rfl (by kernel_rfl) (by kernel_rfl) (by kernel_rfl) (fun _ _ _ h => h) (Or.inl ⟨by rfl, ?_⟩) hHeld ?_
              rotate_left
              · (intro w hSw; go_simp; (try with_reducible rfl))
              try simp only [Act.put, List.setIfInBounds_toArray, List.set_cons_zero, List.set_cons_succ]
              refine wpAnyH_take (i := 5) (oi := ⟨some 23, _, _, _, _, _⟩) rfl (by kernel_rfl) (by kernel_rfl) (by kernel_rfl) (fun _ _ _ h => h) (yields_cell (by rfl) _ _ rfl ⟨gN, ia, none⟩ rfl (.string (nms.getD ia ⟨#[]⟩)) (fun w v h => load_str w _ v h) (heap_lt hN.out) (hn0) ((cell_of_row _ gN _ _ _ _ hN.out).trans (nms_at _ hia1))) hHeld ?_
              try simp only [Act.put, List.setIfInBounds_toArray, List.set_cons_zero, List.set_cons_succ]
              refine wpAnyH_take (i := 12) (oi := ⟨some 30, _, _, _, _, _⟩) (v := ?_) rfl (by kernel_rfl) (by kernel_rfl) (by kernel_rfl) (fun _ _ _ h => h) (Or.inl ⟨by rfl, ?_⟩) hHeld ?_
              rotate_left
              · (intro w hSw; go_simp; (try with_reducible rfl))
              try simp only [Act.put, List.setIfInBounds_toArray, List.set_cons_zero, List.set_cons_succ]
              refine wpAnyH_ready (rs := [14]) (by kernel_rfl) (by simp) ?_
              refine AllReadyH.cons (o := ⟨none, _, _, _, _, _⟩) rfl (fun K hK => ?_) (AllReadyH.nil)
              · have d0 : wc.cell? ⟨g6, 0, none⟩ = some (.string ⟨#[]⟩) := cell_of_row _ g6 0 _ _ _ hA.out
                have d1 : wc.cell? ⟨g6, 1, none⟩ = some (.string ⟨#[]⟩) := cell_of_row _ g6 1 _ _ _ hA.out
                have f0 : ∀ j, wc.frozen? ⟨g6, j, none⟩ = false := fun j => by simp [World.frozen?, hA.out]
                go_simp
                refine hK.out _ _ ((grown_set _ g6 0 _).trans (grown_set _ g6 1 _)) (fun hHeld => ?_)
                clear hK K
                try simp only [Act.put, List.setIfInBounds_toArray, List.set_cons_zero, List.set_cons_succ]
                refine wpAnyH_done (by kernel_rfl) ?_ _
                go_wp2_with fail
                go_meet
                refine ⟨g6, rfl, ?_, ?_⟩
                · show _ = _; rw [HM1.out, HM2.out]; exact heap_setCell_same _ _ 1 _ _ _ (heap_setCell_same _ _ 0 _ _ _ hA.out)
                · exact (hK1.out.setCell hge6 _).setCell hge6 _
        · go_simp
          obtain ⟨wn, hwn, hA0, hk, hlt⟩ := new_row wc #[.string ⟨#[]⟩, .string ⟨#[]⟩] 33
          obtain ⟨g6, hg6⟩ : ∃ g, g = wc.heap.size := ⟨_, rfl⟩
          rw [← hwn, ← hg6]
          rw [← hg6] at hA0
          have hA := Lib.hid hA0
          have hge6 : w1.heap.size ≤ g6 := by have := hK1.out.size; omega
          clear hwn hA0 hlt
          refine hK.out _ _ (grown_kept hk _) (fun _ => turnG (r := some g6) (grown_kept hk _) (fun k hk2 _ e => by injection e with e; omega) ?_)
          replace hE := Lib.hid (heap_kept hk hE.out)
          replace hK1 := Lib.hid (below_kept hK1.out hk)
          clear hk hHeld hg6
          have hHeld := grown_kept (Below.refl wn.heap.size wn) (some g6)
          obtain ⟨wc, rfl⟩ : ∃ x, x = wn := ⟨_, rfl⟩
          clear hK K
          try simp only [Act.put, List.setIfInBounds_toArray, List.set_cons_zero, List.set_cons_succ]
          refine wpAnyH_ready (rs := [0, 6]) (by kernel_rfl) (by simp) ?_
          refine AllReadyH.cons (o := ⟨some 18, _, _, _, _, _⟩) rfl (fun K hK => ?_) (AllReadyH.cons (o := ⟨some 24, _, _, _, _, _⟩) rfl (fun K hK => ?_) (AllReadyH.nil))
          · go_simp
            refine (names_any _).mono ?_
            rintro e wn ⟨gN, rfl, hge, hN, hk⟩
            have hn0 : some gN ≠ some g6 := fun e => by injection e with e; have := heap_lt hA.out; omega
            refine hK.out _ _ (grown_kept hk _) (fun _ => turnG (r := some g6) (grown_kept hk _) (fun _ _ h => h) ?_)
            replace hE := Lib.hid (heap_kept hk hE.out)
            replace hK1 := Lib.hid (below_kept hK1.out hk)
            replace hA := Lib.hid (heap_kept hk hA.out)
            clear hk hHeld
            have hHeld := grown_kept (Below.refl wn.heap.size wn) (some g6)
            obtain ⟨wc, rfl⟩ : ∃ x, x = wn := ⟨_, rfl⟩
            clear hK K
            try simp only [Act.put, List.setIfInBounds_toArray, List.set_cons_zero, List.set_cons_succ]
            refine wpAnyH_take (i := 4) (oi := ⟨some 22, _, _, _, _, _⟩) (v := ?_) rfl (by kernel_rfl) (by kernel_rfl) (by kernel_rfl) (fun _ _ _ h => h) (Or.inl ⟨by rfl, ?_⟩) hHeld ?_
            rotate_left
            · (intro w hSw; go_simp; (try with_reducible rfl))
            try simp only [Act.put, List.setIfInBounds_toArray, List.set_cons_zero, List.set_cons_succ]
            refine wpAnyH_take (i := 5) (oi := ⟨some 23, _, _, _, _, _⟩) rfl (by kernel_rfl) (by kernel_rfl) (by kernel_rfl) (fun _ _ _ h => h) (yields_cell (by rfl) _ _ rfl ⟨gN, ia, none⟩ rfl (.string (nms.getD ia ⟨#[]⟩)) (fun w v h => load_str w _ v h) (heap_lt hN.out) (hn0) ((cell_of_row _ gN _ _ _ _ hN.out).trans (nms_at _ hia1))) hHeld ?_
            try simp only [Act.put, List.setIfInBounds_toArray, List.set_cons_zero, List.set_cons_succ]
            refine wpAnyH_ready (rs := [6]) (by kernel_rfl) (by simp) ?_
            refine AllReadyH.cons (o := ⟨some 24, _, _, _, _, _⟩) rfl (fun K hK => ?_) (AllReadyH.nil)
            · go_simp
              obtain ⟨wn, hwn, hL0, hk, hlt⟩ := new_row wc #[.string ⟨#[]⟩, .string ⟨#[49]⟩, .string ⟨#[50]⟩, .string ⟨#[195, 169]⟩, .string ⟨#[117, 112]⟩, .string ⟨#[97, 32, 98]⟩, .string ⟨#[10]⟩, .string ⟨#[57]⟩] 9
              obtain ⟨gL, hgL⟩ : ∃ g, g = wc.heap.size := ⟨_, rfl⟩
              have hge : wc.heap.size ≤ gL := Nat.le_of_eq hgL.symm
              rw [← hwn, ← hgL]
              rw [← hgL] at hL0
              have hL := Lib.hid hL0
              have hn6 : some gL ≠ some g6 := fun e => by injection e with e; have := heap_lt hA.out; omega
              clear hwn hL0 hlt
              refine hK.out _ _ (grown_kept hk _) (fun _ => turnG (r := some g6) (grown_kept hk _) (fun _ _ h => h) ?_)
              replace hE := Lib.hid (heap_kept hk hE.out)
              replace hK1 := Lib.hid (below_kept hK1.out hk)
              replace hN := Lib.hid (heap_kept hk hN.out)
              replace hA := Lib.hid (heap_kept hk hA.out)
              clear hk hHeld hgL
              have hHeld := grown_kept (Below.refl wn.heap.size wn) (some g6)
              obtain ⟨wc, rfl⟩ : ∃ x, x = wn := ⟨_, rfl⟩
              clear hK K
              try simp only [Act.put, List.setIfInBounds_toArray, List.set_cons_zero, List.set_cons_succ]
              refine wpAnyH_take (i := 10) (oi := ⟨some 28, _, _, _, _, _⟩) (v := ?_) rfl (by kernel_rfl) (by kernel_rfl) (by kernel_rfl) (fun _ _ _ h => h) (Or.inl ⟨by rfl, ?_⟩) hHeld ?_
              rotate_left
              · (intro w hSw; go_simp; (try with_reducible rfl))
              try simp only [Act.put, List.setIfInBounds_toArray, List.set_cons_zero, List.set_cons_succ]
              refine wpAnyH_take (i := 11) (oi := ⟨some 29, _, _, _, _, _⟩) rfl (by kernel_rfl) (by kernel_rfl) (by kernel_rfl) (fun _ _ _ h => h) (yields_cell (by rfl) _ _ rfl ⟨gL, ib, none⟩ rfl (.string (vls.getD ib ⟨#[]⟩)) (fun w v h => load_str w _ v h) (heap_lt hL.out) (hn6) ((cell_of_row _ gL _ _ _ _ hL.out).trans (vls_at _ hib1))) hHeld ?_
              try simp only [Act.put, List.setIfInBounds_toArray, List.set_cons_zero, List.set_cons_succ]
              refine wpAnyH_take (i := 12) (oi := ⟨some 30, _, _, _, _, _⟩) (v := ?_) rfl (by kernel_rfl) (by kernel_rfl) (by kernel_rfl) (fun _ _ _ h => h) (Or.inl ⟨by rfl, ?_⟩) hHeld ?_
              rotate_left
              · (intro w hSw; go_simp; (try with_reducible rfl))
              try simp only [Act.put, List.setIfInBounds_toArray, List.set_cons_zero, List.set_cons_succ]
              refine wpAnyH_ready (rs := [14]) (by kernel_rfl) (by simp) ?_
              refine AllReadyH.cons (o := ⟨none, _, _, _, _, _⟩) rfl (fun K hK => ?_) (AllReadyH.nil)
              · have d0 : wc.cell? ⟨g6, 0, none⟩ = some (.string ⟨#[]⟩) := cell_of_row _ g6 0 _ _ _ hA.out
                have d1 : wc.cell? ⟨g6, 1, none⟩ = some (.string ⟨#[]⟩) := cell_of_row _ g6 1 _ _ _ hA.out
                have f0 : ∀ j, wc.frozen? ⟨g6, j, none⟩ = false := fun j => by simp [World.frozen?, hA.out]
                go_simp
                refine hK.out _ _ ((grown_set _ g6 0 _).trans (grown_set _ g6 1 _)) (fun hHeld => ?_)
                clear hK K
                try simp only [Act.put, List.setIfInBounds_toArray, List.set_cons_zero, List.set_cons_succ]
                refine wpAnyH_done (by kernel_rfl) ?_ _
                go_wp2_with fail
                go_meet
                refine ⟨g6, rfl, ?_, ?_⟩
                · show _ = _; rw [HM1.out, HM2.out]; exact heap_setCell_same _ _ 1 _ _ _ (heap_setCell_same _ _ 0 _ _ _ hA.out)
                · exact (hK1.out.setCell hge6 _).setCell hge6 _
          · go_simp
            obtain ⟨wn, hwn, hL0, hk, hlt⟩ := new_row wc #[.string ⟨#[]⟩, .string ⟨#[49]⟩, .string ⟨#[50]⟩, .string ⟨#[195, 169]⟩, .string ⟨#[117, 112]⟩, .string ⟨#[97, 32, 98]⟩, .string ⟨#[10]⟩, .string ⟨#[57]⟩] 9
            obtain ⟨gL, hgL⟩ : ∃ g, g = wc.heap.size := ⟨_, rfl⟩
            have hge : wc.heap.size ≤ gL := Nat.le_of_eq hgL.symm
            rw [← hwn, ← hgL]
            rw [← hgL] at hL0
            have hL := Lib.hid hL0
            have hn6 : some gL ≠ some g6 := fun e => by injection e with e; have := heap_lt hA.out; omega
            clear hwn hL0 hlt
            refine hK.out _ _ (grown_kept hk _) (fun _ => turnG (r := some g6) (grown_kept hk _) (fun _ _ h => h) ?_)
            replace hE := Lib.hid (heap_kept hk hE.out)
            replace hK1 := Lib.hid (below_kept hK1.out hk)
            replace hA := Lib.hid (heap_kept hk hA.out)
            clear hk hHeld hgL
            have hHeld := grown_kept (Below.refl wn.heap.size wn) (some g6)
            obtain ⟨wc, rfl⟩ : ∃ x, x = wn := ⟨_, rfl⟩
            clear hK K
            try simp only [Act.put, List.setIfInBounds_toArray, List.set_cons_zero, List.set_cons_succ]
            refine wpAnyH_take (i := 10) (oi := ⟨some 28, _, _, _, _, _⟩) (v := ?_) rfl (by kernel_rfl) (by kernel_rfl) (by kernel_rfl) (fun _ _ _ h => h) (Or.inl ⟨by rfl, ?_⟩) hHeld ?_
            rotate_left
            · (intro w hSw; go_simp; (try with_reducible rfl))
            try simp only [Act.put, List.setIfInBounds_toArray, List.set_cons_zero, List.set_cons_succ]
            refine wpAnyH_take (i := 11) (oi := ⟨some 29, _, _, _, _, _⟩) rfl (by kernel_rfl) (by kernel_rfl) (by kernel_rfl) (fun _ _ _ h => h) (yields_cell (by rfl) _ _ rfl ⟨gL, ib, none⟩ rfl (.string (vls.getD ib ⟨#[]⟩)) (fun w v h => load_str w _ v h) (heap_lt hL.out) (hn6) ((cell_of_row _ gL _ _ _ _ hL.out).trans (vls_at _ hib1))) hHeld ?_
            try simp only [Act.put, List.setIfInBounds_toArray, List.set_cons_zero, List.set_cons_succ]
            refine wpAnyH_ready (rs := [0]) (by kernel_rfl) (by simp) ?_
            refine AllReadyH.cons (o := ⟨some 18, _, _, _, _, _⟩) rfl (fun K hK => ?_) (AllReadyH.nil)
            · go_simp
              refine (names_any _).mono ?_
              rintro e wn ⟨gN, rfl, hge, hN, hk⟩
              have hn0 : some gN ≠ some g6 := fun e => by injection e with e; have := heap_lt hA.out; omega
              refine hK.out _ _ (grown_kept hk _) (fun _ => turnG (r := some g6) (grown_kept hk _) (fun _ _ h => h) ?_)
              replace hE := Lib.hid (heap_kept hk hE.out)
              replace hK1 := Lib.hid (below_kept hK1.out hk)
              replace hL := Lib.hid (heap_kept hk hL.out)
              replace hA := Lib.hid (heap_kept hk hA.out)
              clear hk hHeld
              have hHeld := grown_kept (Below.refl wn.heap.size wn) (some g6)
              obtain ⟨wc, rfl⟩ : ∃ x, x = wn := ⟨_, rfl⟩
              clear hK K
              try simp only [Act.put, List.setIfInBounds_toArray, List.set_cons_zero, List.set_cons_succ]
              refine wpAnyH_take (i := 4) (oi := ⟨some 22, _, _, _, _, _⟩) (v := ?_) rfl (by kernel_rfl) (by kernel_rfl) (by kernel_rfl) (fun _ _ _ h => h) (Or.inl ⟨by rfl, ?_⟩) hHeld ?_
              rotate_left
              · (intro w hSw; go_simp; (try with_reducible rfl))
              try simp only [Act.put, List.setIfInBounds_toArray, List.set_cons_zero, List.set_cons_succ]
              refine wpAnyH_take (i := 5) (oi := ⟨some 23, _, _, _, _, _⟩) rfl (by kernel_rfl) (by kernel_rfl) (by kernel_rfl) (fun _ _ _ h => h) (yields_cell (by rfl) _ _ rfl ⟨gN, ia, none⟩ rfl (.string (nms.getD ia ⟨#[]⟩)) (fun w v h => load_str w _ v h) (heap_lt hN.out) (hn0) ((cell_of_row _ gN _ _ _ _ hN.out).trans (nms_at _ hia1))) hHeld ?_
              try simp only [Act.put, List.setIfInBounds_toArray, List.set_cons_zero, List.set_cons_succ]
              refine wpAnyH_take (i := 12) (oi := ⟨some 30, _, _, _, _, _⟩) (v := ?_) rfl (by kernel_rfl) (by kernel_rfl) (by kernel_rfl) (fun _ _ _ h => h) (Or.inl ⟨by rfl, ?_⟩) hHeld ?_
              rotate_left
              · (intro w hSw; go_simp; (try with_reducible rfl))
              try simp only [Act.put, List.setIfInBounds_toArray, List.set_cons_zero, List.set_cons_succ]
              refine wpAnyH_ready (rs := [14]) (by kernel_rfl) (by simp) ?_
              refine AllReadyH.cons (o := ⟨none, _, _, _, _, _⟩) rfl (fun K hK => ?_) (AllReadyH.nil)
              · have d0 : wc.cell? ⟨g6, 0, none⟩ = some (.string ⟨#[]⟩) := cell_of_row _ g6 0 _ _ _ hA.out
                have d1 : wc.cell? ⟨g6, 1, none⟩ = some (.string ⟨#[]⟩) := cell_of_row _ g6 1 _ _ _ hA.out
                have f0 : ∀ j, wc.frozen? ⟨g6, j, none⟩ = false := fun j => by simp [World.frozen?, hA.out]
                go_simp
                refine hK.out _ _ ((grown_set _ g6 0 _).trans (grown_set _ g6 1 _)) (fun hHeld => ?_)
                clear hK K
                try simp only [Act.put, List.setIfInBounds_toArray, List.set_cons_zero, List.set_cons_succ]
                refine wpAnyH_done (by kernel_rfl) ?_ _
                go_wp2_with fail
                go_meet
                refine ⟨g6, rfl, ?_, ?_⟩
                · show _ = _; rw [HM1.out, HM2.out]; exact heap_setCell_same _ _ 1 _ _ _ (heap_setCell_same _ _ 0 _ _ _ hA.out)
                · exact (hK1.out.setCell hge6 _).setCell hge6 _
      case rest =>
        obtain ⟨g6, rfl, hg6, hk1⟩ := hcut
        have K5 : Hid (Kept wr wc) := below_kept Hk1.out hk1.out
        have Kw : Hid (Kept w wc) := below_kept hkr.out K5.out
        have hown5 := own_below hown.out K5.out
        obtain ⟨A3, c3, hv3, hc3, hr3⟩ := own_rd hown5
        subst hv3
        have HO5 := Lib.hid hown5
        have HR3 := Lib.hid hr3
        have HC3 := Lib.hid hc3
        have hb6 := heap_lt hg6.out
        obtain ⟨nL, hnL⟩ : ∃ n, n = L.length := ⟨_, rfl⟩
        have HnL := Lib.hid hnL
        rw [← hnL] at HO5 HC3 hN16 ⊢
        clear hown hown5 hr3 hc3 hnL hE Hk1 hk1
        go_wp2_with fail
        go_loopw [3, 33] (fun v3 v33 wx => ∃ j : Nat, j ≤ nL ∧ v3 = .slice A3 nL c3 ∧ v33 = .int .i64 j ∧ Hid (Kept wc wx) ∧ Hid (∀ y ∈ L.take j, y.1 ≠ nw.1)) (fun _ v33 _ => nL - (intOf v33).toNat)
        case atStart => exact ⟨0, by omega, rfl, rfl, Below.refl _ _, by intro y hy; cases hy⟩
        case round =>
          obtain ⟨j, hj, rfl, rfl, hkx, hno⟩ := hrel
          by_cases hjn : j < nL
          · obtain ⟨ad3, x, rfl, hadb3, hx, hd, hc0, hc1⟩ := rdl_at HR3.out (by rw [← HnL.out]; exact hjn)
            have K6 : Hid (Kept wc wr.drew) := hkx.out.drew
            have e0 := (Below.cell K6.out (by rw [addBlock]; exact hadb3)).trans hc0
            have e1 := (Below.cell K6.out (p := ⟨g6, 0, none⟩) hb6).trans (cell_of_row _ g6 0 _ _ _ hg6.out)
            have hbq := str_beq x.1 nw.1
            obtain ⟨bb, hbb⟩ : ∃ b, b = decide (x.1 = nw.1) := ⟨_, rfl⟩
            rw [← hbb] at hbq
            have Hx := Lib.hid hx
            have Hbb := Lib.hid hbb
            have hjI : (j : Int) < nL := by omega
            clear hx hd hc0 hc1 hbb
            go_upto_region 9 with fail
            refine wp_region_still_lit (by kernel_rfl) (by kernel_rfl) ?_
            show wpStill _ _ wr.drew (fun a' => Exit.then _ _ _ a' wr.drew) _ _
            generalize wr.drew = w6 at *
            repeat still_step
            refine wpStill_nil ?_
            obtain ⟨j1, hj1⟩ : ∃ j1, j1 = j + 1 := ⟨_, rfl⟩
            have hwj : IntKind.i64.wrap ((j : Int) + 1) = (j1 : Int) := by rw [IntKind.wrap_i64]; omega
            have HJ1 := Lib.hid hj1
            clear e0 e1 hbq
            rcases bb with _ | _
            · have hne : x.1 ≠ nw.1 := fun e => by rw [decide_eq_true e] at Hbb; exact absurd Hbb.out (by decide)
              go_wp2_with fail
              go_roundw
              case rel =>
                refine ⟨j1, by omega, rfl, by go_num, K6, ?_⟩
                intro y hy
                rw [HJ1.out, List.take_add_one, Hx.out] at hy
                rcases List.mem_append.1 hy with hy | hy
                · exact hno.out y hy
                · obtain rfl : y = x := by simpa using hy
                  exact hne
              case measure => have := HJ1.out; simp [intOf]; omega
            · have heq : x.1 = nw.1 := of_decide_eq_true Hbb.out.symm
              have hc3 := HC3.out
              have hj1n : j1 ≤ nL := by omega
              have hjc : j ≤ c3 := by omega
              have hjcI : (j : Int) ≤ c3 := by omega
              have hj1I : (j1 : Int) ≤ nL := by omega
              have hnc : (nL : Int) ≤ c3 := by omega
              have hnot : ¬ c3 < j := by omega
              have hnot1 : ¬ nL < j1 := by omega
              have hnot2 : ¬ c3 < nL := by omega
              have HR6 := HR3.out.below K6.out
              obtain ⟨HT1, HT3, HT4⟩ : Hid (ad3.block < w6.drew.heap.size) ∧ Hid (∀ i u, (labs (L.take j))[i]? = some u → w6.drew.cell? (ad3.add i) = some u) ∧ Hid (Rd w6.drew w6.drew.heap.size (if c3 = j1 then some ad3 else some (ad3.add (j1 * 2))) ((nL - j1) * 2) (labs (L.drop j1))) := by
                have hb : ad3.block < w6.drew.heap.size := Nat.lt_of_lt_of_le hadb3 K6.out.size
                obtain ⟨ad', e, _, hc⟩ := HR6.2 (by have := HnL.out; omega)
                cases e
                refine ⟨hb, ?_, ?_⟩
                · intro i u hu
                  refine hc i u ?_
                  have h2 : labs L = labs (L.take j) ++ labs (L.drop j) := by rw [← labs_app, List.take_append_drop]
                  rw [h2, List.getElem?_append_left (List.getElem?_eq_some_iff.1 hu).1]
                  exact hu
                · refine ⟨by rw [labs_length, List.length_drop, ← HnL.out], fun h0 => ⟨ad3.add (j1 * 2), by rw [if_neg (by omega)], by rw [addBlock]; exact hb, fun i u hu => ?_⟩⟩
                  rw [addr_add_add]
                  refine hc _ u ?_
                  have h2 : labs L = labs (L.take j1) ++ labs (L.drop j1) := by rw [← labs_app, List.take_append_drop]
                  have h3 : (labs (L.take j1)).length = j1 * 2 := by rw [labs_length, List.length_take, ← HnL.out, Nat.min_eq_left (by have := HJ1.out; omega)]
                  rw [h2, List.getElem?_append_right (by omega), h3, Nat.add_sub_cancel_left]
                  exact hu
              have HT2 : Hid ((labs (L.take j)).length = j * 2) := by show _ = _; rw [labs_length, List.length_take, ← HnL.out, Nat.min_eq_left (by omega)]
              have hzw6 : w.heap.size ≤ w6.drew.heap.size := (below_kept Kw.out K6.out).size
              clear hj1 HR6
              go_upto_region 10 with fail
              refine wp_region_held_drew (S := fun _ => True) (by kernel_rfl) trivial (fun hHeld => ?_)
              refine wpAnyH_take (i := 0) (oi := ⟨some 44, _, _, _, _, _⟩) (v := ?_) rfl (by kernel_rfl) (by kernel_rfl) (by kernel_rfl) (fun _ _ _ h => h) (Or.inl ⟨by rfl, ?_⟩) hHeld ?_
              rotate_left
              · (intro w hSw; go_simp; (try with_reducible rfl))
              try simp only [Act.put, List.setIfInBounds_toArray, List.set_cons_zero, List.set_cons_succ]
              refine wpAnyH_take (i := 1) (oi := ⟨some 45, _, _, _, _, _⟩) (v := ?_) rfl (by kernel_rfl) (by kernel_rfl) (by kernel_rfl) (fun _ _ _ h => h) (Or.inl ⟨by rfl, ?_⟩) hHeld ?_
              rotate_left
              · (intro w hSw; go_simp; (try with_reducible rfl))
              try simp only [Act.put, List.setIfInBounds_toArray, List.set_cons_zero, List.set_cons_succ]
              refine wpAnyH_take (i := 2) (oi := ⟨some 46, _, _, _, _, _⟩) (v := ?_) rfl (by kernel_rfl) (by kernel_rfl) (by kernel_rfl) (fun _ _ _ h => h) (Or.inl ⟨by rfl, ?_⟩) hHeld ?_
              rotate_left
              · (intro w hSw; go_simp; (try with_reducible rfl))
              try simp only [Act.put, List.setIfInBounds_toArray, List.set_cons_zero, List.set_cons_succ]
              refine wpAnyH_take (i := 3) (oi := ⟨some 47, _, _, _, _, _⟩) (v := ?_) rfl (by kernel_rfl) (by kernel_rfl) (by kernel_rfl) (fun _ _ _ h => h) (Or.inl ⟨by rfl, ?_⟩) hHeld ?_
              rotate_left
              · (intro w hSw; go_simp; (try with_reducible rfl))
              try simp only [Act.put, List.setIfInBounds_toArray, List.set_cons_zero, List.set_cons_succ]
              refine wpAnyH_take (i := 4) (oi := ⟨some 48, _, _, _, _, _⟩) (v := ?_) rfl (by kernel_rfl) (by kernel_rfl) (by kernel_rfl) (fun _ _ _ h => h) (Or.inl ⟨by rfl, ?_⟩) hHeld ?_
              rotate_left
              · (intro w hSw; go_simp; (try with_reducible rfl))
              try simp only [Act.put, List.setIfInBounds_toArray, List.set_cons_zero, List.set_cons_succ]
              refine wpAnyH_take (i := 5) (oi := ⟨some 49, _, _, _, _, _⟩) (v := ?_) rfl (by kernel_rfl) (by kernel_rfl) (by kernel_rfl) (fun _ _ _ h => h) (Or.inl ⟨by rfl, ?_⟩) hHeld ?_
              rotate_left
              · (intro w hSw; go_simp; (try with_reducible rfl))
              try simp only [Act.put, List.setIfInBounds_toArray, List.set_cons_zero, List.set_cons_succ]
              refine wpAnyH_take (i := 6) (oi := ⟨some 50, _, _, _, _, _⟩) (v := ?_) rfl (by kernel_rfl) (by kernel_rfl) (by kernel_rfl) (fun _ _ _ h => h) (Or.inl ⟨by rfl, ?_⟩) hHeld ?_
              rotate_left
              · (intro w hSw; go_simp; (try with_reducible rfl))
              try simp only [Act.put, List.setIfInBounds_toArray, List.set_cons_zero, List.set_cons_succ]
              refine wpAnyH_take (i := 7) (oi := ⟨some 51, _, _, _, _, _⟩) (v := ?_) rfl (by kernel_rfl) (by kernel_rfl) (by kernel_rfl) (fun _ _ _ h => h) (Or.inl ⟨by rfl, ?_⟩) hHeld ?_
              rotate_left
              · (intro w hSw; go_simp; (try with_reducible rfl))
              try simp only [Act.put, List.setIfInBounds_toArray, List.set_cons_zero, List.set_cons_succ]
              refine wpAnyH_ready (rs := [8]) (by kernel_rfl) (by simp) ?_
              refine AllReadyH.cons (o := ⟨some 52, _, _, _, _, _⟩) rfl (fun K hK => ?_) (AllReadyH.nil)
              · skip
                refine step_cut rfl _ _ 22 rfl i0 (.agg #[.string ⟨#[]⟩, .string ⟨#[]⟩]) 32 Tryz.underlying22 hi0 hz0 hz1 hz2 rfl ad3 j (labs (L.take j)) rfl HT1.out HT2.out HT3.out (if c3 = j1 then some ad3 else some (ad3.add (j1 * 2))) (nL - j1) (c3 - j1) (labs (L.drop j1)) rfl HT4.out (by unfold maxLen; omega) (by omega) w.heap.size hzw6 ?_
                intro v7 w7 hl7 hk7
                have HL7 := Lib.hid hl7
                have HK7 := Lib.hid hk7
                clear hl7 hk7
                refine hK.out _ _ trivial (fun hHeld => ?_)
                clear hK K
                try simp only [Act.put, List.setIfInBounds_toArray, List.set_cons_zero, List.set_cons_succ]
                refine wpAnyH_take (i := 9) (oi := ⟨some 3, _, _, _, _, _⟩) (v := ?_) rfl (by kernel_rfl) (by kernel_rfl) (by kernel_rfl) (fun _ _ _ h => h) (Or.inl ⟨by rfl, ?_⟩) hHeld ?_
                rotate_left
                · (intro w hSw; go_simp; (try with_reducible rfl))
                try simp only [Act.put, List.setIfInBounds_toArray, List.set_cons_zero, List.set_cons_succ]
                refine wpAnyH_done (by kernel_rfl) ?_ _
                have Kx : Hid (Kept w w7) := below_kept (below_kept Kw.out K6.out).drew HK7.out
                have hg6x : Hid (w7.heap[g6]? = some (.cells #[.string nw.1, .string nw.2] 33 (0, 0))) := heap_kept HK7.out (heap_drew0 (heap_kept K6.out hg6.out))
                have HF : Hid (made1 L nw = (L.take j ++ L.drop j1) ++ [nw]) := by
                  show _ = _
                  unfold made1
                  rw [filter_once HO.out Hx.out heq, HJ1.out]
                have HnF : Hid ((L.take j ++ L.drop j1).length = j + (nL - j1)) := by show _ = _; rw [List.length_append, List.length_take, List.length_drop, ← HnL.out, Nat.min_eq_left (by omega)]
                have HLst : Hid (Lst w7 w.heap.size v7 (j + (nL - j1)) (labs (L.take j ++ L.drop j1))) := by
                  rw [labs_app]
                  exact HL7.out
                have hjj : j + (nL - j1) ≤ nL := by have := HJ1.out; omega
                clear HL7 HT1 HT2 HT3 HT4 hzw6 hg6 HR3 hno Hbb
                generalize L.take j ++ L.drop j1 = F at *
                generalize j + (nL - j1) = nF at *
                have Hcl6 : Hid (∀ j v, (#[.string nw.1, .string nw.2] : Array Value)[j]? = some v → w7.cell? ((⟨g6, 0, none⟩ : Addr).add j) = some v) := fun j v hv => by
                  rw [add0, cell_of_row _ g6 j _ _ _ hg6x.out]
                  exact hv
                have HL1 : Hid (Lst (w7.alloc (.cells #[.string nw.1, .string nw.2] 33)) w.heap.size v7 nF (labs F)) := HLst.out.below ((Below.refl _ _).alloc (Nat.le_refl _) _)
                have hzx : w.heap.size ≤ w7.heap.size := Kx.out.size
                go_wp2_with (first
                  | (refine wpList_load_at rfl 33 (.tmp 6) rfl ⟨g6, 0, none⟩ rfl #[.string nw.1, .string nw.2] _ Hcl6.out Tryz.underlying33 rfl sizeL ?_)
                  | (refine wpList_lst rfl _ _ 22 rfl w.heap.size i0 (.agg #[.string ⟨#[]⟩, .string ⟨#[]⟩]) 32 Tryz.underlying22 hi0 hz0 hz1 hz2 rfl (v7) nF (labs F) rfl HL1.out ⟨w7.heap.size, 0, none⟩ 1 1 [.string nw.1, .string nw.2] rfl rfl (cells_new w7 [.string nw.1, .string nw.2] 33) (by intro u hu; simp at hu; rcases hu with rfl | rfl <;> rfl) (by decide) (by unfold maxLen; omega) (by omega) (Nat.le_trans hzx (by simp)) ?_; intro v8 w8 hown7 hb7; have Hown7 := Lib.hid hown7; have K7 := Lib.hid (Below.trans (Kx.out.alloc hzx _) hb7); clear hown7 hb7))
                go_roundw
                case rel =>
                  refine ⟨k + 1, by omega, by go_num, K7, ?_⟩
                  show World.ownsRow _ _ _ _ _ _ _
                  rw [Hst.out, HF.out, List.length_append, HnF.out, labs_snoc]
                  exact Hown7.out
                case measure => simp [intOf]; omega
          · have hjn2 : j = nL := by omega
            have hge : ¬ (j : Int) < nL := by omega
            have Kx : Hid (Kept w wr) := below_kept Kw.out hkx.out
            have hg6x := Lib.hid (heap_kept hkx.out hg6.out)
            have HF : Hid (made1 L nw = L ++ [nw]) := by
              show _ = _
              unfold made1
              rw [filter_none]
              intro y hy
              refine hno.out y ?_
              rw [List.take_of_length_le (by rw [← HnL.out]; omega)]
              exact hy
            have HLst : Hid (Lst wr w.heap.size (.slice A3 nL c3) nL (labs L)) := .inl (own_below HO5.out hkx.out)
            have HnF : Hid (L.length = nL) := HnL.out.symm
            clear hjn2 hno HO5 hg6 HR3
            have Hcl6 : Hid (∀ j v, (#[.string nw.1, .string nw.2] : Array Value)[j]? = some v → wr.cell? ((⟨g6, 0, none⟩ : Addr).add j) = some v) := fun j v hv => by
              rw [add0, cell_of_row _ g6 j _ _ _ hg6x.out]
              exact hv
            have HL1 : Hid (Lst (wr.alloc (.cells #[.string nw.1, .string nw.2] 33)) w.heap.size (.slice A3 nL c3) nL (labs L)) := HLst.out.below ((Below.refl _ _).alloc (Nat.le_refl _) _)
            have hzx : w.heap.size ≤ wr.heap.size := Kx.out.size
            go_wp2_with (first
              | (refine wpList_load_at rfl 33 (.tmp 6) rfl ⟨g6, 0, none⟩ rfl #[.string nw.1, .string nw.2] _ Hcl6.out Tryz.underlying33 rfl sizeL ?_)
              | (refine wpList_lst rfl _ _ 22 rfl w.heap.size i0 (.agg #[.string ⟨#[]⟩, .string ⟨#[]⟩]) 32 Tryz.underlying22 hi0 hz0 hz1 hz2 rfl ((.slice A3 nL c3)) nL (labs L) rfl HL1.out ⟨wr.heap.size, 0, none⟩ 1 1 [.string nw.1, .string nw.2] rfl rfl (cells_new wr [.string nw.1, .string nw.2] 33) (by intro u hu; simp at hu; rcases hu with rfl | rfl <;> rfl) (by decide) (by unfold maxLen; omega) (by omega) (Nat.le_trans hzx (by simp)) ?_; intro v7 w7 hown7 hb7; have Hown7 := Lib.hid hown7; have K7 := Lib.hid (Below.trans (Kx.out.alloc hzx _) hb7); clear hown7 hb7))
            go_roundw
            case rel =>
              refine ⟨k + 1, by omega, by go_num, K7, ?_⟩
              show World.ownsRow _ _ _ _ _ _ _
              rw [Hst.out, HF.out, List.length_append, HnF.out, labs_snoc]
              exact Hown7.out
            case measure => simp [intOf]; omega
    · have hkm : k = m := by omega
      have hge : ¬ (k : Int) < (min n 40 : Nat) := by omega
      obtain ⟨A3, c3, hv3, hc3, hr3⟩ := own_rd hown.out
      have Hr3 := Lib.hid hr3
      have Hkm := Lib.hid hkm
      have Hc3 := Lib.hid hc3
      subst hv3
      clear hown hkm hr3 hc3
      go_wp2_with fail
      go_ret
      rw [Htk.out, ← Hkm.out]
      exact ⟨A3, c3, rfl, Hr3.out, hkr.out, Hc3.out⟩
end Go.Proofs.YtlhekeokognhmaaGreatDoor
