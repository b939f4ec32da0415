/-
  LabelSets, of what right gives.
-/
import Derived.Test.YtnnnpnmiepbbeaaDoorLbOwn
import Derived.Test.YtnnnpnmiepbbeaaDoorLbRep
namespace Go.Proofs.YtnnnpnmiepbbeaaDoor
open Go.RowKit Go.Shelf Go.Maps Go.Sort
/-- A letter v, so many times. -/
def vv (k : Nat) : ByteArray := ⟨(List.replicate k (118 : UInt8)).toArray⟩
theorem rep_any (k : Nat) (hk : k ≤ 2) (W : World) : Calls Tryd.prog 19 #[.string ⟨#[118]⟩, .int .i64 (k : Int)] W fun e w' => e = .returned (.string (vv k)) ∧ Kept W w' := by
  have h := sh_strings_Repeat ⟨#[118]⟩ k W (by omega) (by show 1 * k ≤ _; omega)
  have e : (⟨(Lib.repeatL (⟨#[118]⟩ : ByteArray).data.toList k).toArray⟩ : ByteArray) = vv k := by
    rcases k with _ | _ | _ | k
    · rfl
    · rfl
    · rfl
    · omega
  rw [e] at h
  exact h
theorem vv_ok : ∀ k, k < 3 → valB (vv k) = true := by
  have h : (List.range 3).all (fun k => valB (vv k)) = true := by kernel_rfl
  exact fun k hk => List.all_eq_true.1 h k (List.mem_range.2 hk)
/-- The edit of two numbers. -/
def mkE (p : Nat × Nat) : Lab := (nms.getD (p.1 % 16) ⟨#[]⟩, vv (p.2 % 3))
theorem mkE_name (p : Nat × Nat) : (mkE p).1 ∈ nms := getD_mem (by show p.1 % 16 < 16; omega) _
theorem mkE_ok (p : Nat × Nat) : wrE (mkE p) = 0 := by
  unfold wrE
  rw [if_pos (nms_ok _ (mkE_name p)), if_pos (show valB (mkE p).2 = true from vv_ok _ (Nat.mod_lt _ (by decide)))]
theorem mkEs_ok (ps : List (Nat × Nat)) : ∀ x ∈ ps.map mkE, wrE x = 0 ∧ x.1 ∈ nms := fun x hx => by
  obtain ⟨p, _, rfl⟩ := List.mem_map.1 hx
  exact ⟨mkE_ok p, mkE_name p⟩
theorem cur_RN {L : List Lab} (hL : RN L) (ps : List (Nat × Nat)) : RN (putR (L ++ ps.map mkE)) :=
  putR_RN (fun x hx => by
    rcases List.mem_append.1 hx with h | h
    · exact hL.ok x h
    · exact (mkEs_ok ps x h).1) (fun x hx => by
    rcases List.mem_append.1 hx with h | h
    · exact hL.2 x h
    · exact (mkEs_ok ps x h).2)
theorem mod3_u8 (a : Nat) : Int.tmod (a : Int) 3 = ((a % 3 : Nat) : Int) := rfl
/-- A label that lies as a list of one. -/
theorem rdl_one (W : World) (x : Lab) : RdL (W.alloc (.cells #[.string x.1, .string x.2] 36)) (W.alloc (.cells #[.string x.1, .string x.2] 36)).heap.size (some ⟨W.heap.size, 0, none⟩) [x] :=
  ⟨rfl, fun _ => ⟨_, rfl, by simp, cells_new W [.string x.1, .string x.2] 36⟩⟩
set_option maxRecDepth 100000 in
set_option maxHeartbeats 2000000 in
theorem sets_of (p : List (Nat × Nat)) (a : Value) (A : Option Addr) (c : Nat) (ps : List (Nat × Nat)) (hp : ∀ p ∈ ps, p.1 ≤ 255 ∧ p.2 ≤ 255) (hc : ps.length ≤ c) (hm : c ≤ maxLen) (w : World) (hr : Rd w w.heap.size A (ps.length * 2) (smalls ps)) (hT : Tab w) (C1 : RightIs p a w) :
    Calls Tryd.prog 5 #[a, .slice A ps.length c] w fun e w' => e = .returned (.bool true) ∧ Kept w w' := by
  have CA := Lib.hid (awake_any w hT)
  have HT := Lib.hid hT
  have H1 : Hid (RightIs p a w) := C1
  unfold RightIs at H1
  have n1 := Lib.hid (rightL_RN p)
  generalize rightL p = L at *
  have l1 := n1.out.len
  have HR := Lib.hid hr
  have HP := Lib.hid hp
  obtain ⟨i0, hi0, hz0, hz1, hz2⟩ := info_parts infoLab
  obtain ⟨n, hn⟩ : ∃ n, n = ps.length := ⟨_, rfl⟩
  have Hn := Lib.hid hn
  obtain ⟨m, hm40⟩ : ∃ m, m = min n 20 := ⟨_, rfl⟩
  have hmn : m ≤ n := by omega
  have hm4 : m ≤ 20 := by omega
  have hmin : min (n : Int) 20 = (m : Int) := by omega
  obtain ⟨nL, hnL⟩ : ∃ n, n = L.length := ⟨_, rfl⟩
  have HnL := Lib.hid hnL
  rw [← hnL] at H1 l1
  rw [← hn] at hc ⊢
  replace hm : c ≤ 9223372036854775807 := hm
  clear C1 hT hr hp hn hnL
  go_enter Tryd.func5, Tryd.ntmps5
  go_wp2_with fail
  refine CA.out.mono ?_
  rintro e w1 ⟨rfl, hk⟩
  have K1 := Lib.hid hk
  clear hk CA
  go_wp2_with fail
  refine (H1.out _ K1.out).mono ?_
  rintro e w2 ⟨A1, c1, rfl, hr, hk, hcap⟩
  have HCap := Lib.hid hcap
  have R1 := Lib.hid hr
  have K2 := Lib.hid (below_kept K1.out hk)
  clear hr hk H1 K1 hcap
  have Hself : Hid (putR (L ++ (ps.take 0).map mkE) = L) := by
    show _ = _
    rw [List.take_zero, List.map_nil, List.append_nil]
    exact putR_self n1.out.1
  have Hz0 : Hid (RdL w2 w2.heap.size A1 (putR (L ++ (ps.take 0).map mkE))) := by rw [Hself.out]; exact R1.out
  have Hz1 : Hid ((putR (L ++ (ps.take 0).map mkE)).length = nL) := by rw [Hself.out]; exact HnL.out.symm
  go_wp2_with fail
  go_loopw [7, 8, 9, 34] (fun v7 v8 v9 v34 wr => ∃ k : Nat, k ≤ m ∧ v34 = .int .i64 k ∧ v9 = .int .i64 0 ∧ Hid (Kept w2 wr) ∧ Hid (wr.ownsRow w2.heap.size 36 2 v7 k (labs ((ps.take k).map mkE))) ∧ ∃ A c, v8 = .slice A (putR (L ++ (ps.take k).map mkE)).length c ∧ Hid (RdL wr wr.heap.size A (putR (L ++ (ps.take k).map mkE)))) (fun _ _ _ v34 _ => m - (intOf v34).toNat)
  case atStart => exact ⟨0, by omega, rfl, rfl, Below.refl _ _, ⟨rfl, .inl ⟨rfl, rfl⟩⟩, A1, c1, by rw [Hz1.out], Hz0⟩
  case round =>
    obtain ⟨k, hk, rfl, rfl, hkr, hown, A8, c8, rfl, hr8⟩ := hrel
    have HKr : Hid (Kept w wr) := below_kept K2.out hkr.out
    by_cases hkn : k < m
    · obtain ⟨⟨pa, pb⟩, hpk⟩ : ∃ p, ps[k]? = some p := ⟨_, List.getElem?_eq_getElem (by have := Hn.out; omega)⟩
      have hpb := HP.out _ (List.mem_of_getElem? hpk)
      obtain ⟨hp1, hp2⟩ := smalls_get ps k _ hpk
      obtain ⟨ad, rfl, hadb, hcc⟩ := HR.out.2 (by have := Hn.out; omega)
      dsimp only at hpb hp1 hp2
      have Hcl := Lib.hid (pair2c ((Below.cell HKr.out (by rw [addBlock]; exact hadb)).trans (hcc _ _ hp1)) ((Below.cell HKr.out (by rw [addBlock]; exact hadb)).trans (hcc _ _ hp2)))
      have HE1 : Hid ((ps.take (k + 1)).map mkE = (ps.take k).map mkE ++ [mkE (pa, pb)]) := by
        show _ = _
        rw [List.take_add_one, hpk, List.map_append]
        rfl
      have nC := Lib.hid (cur_RN n1.out (ps.take k))
      have nC1 := Lib.hid (cur_RN n1.out (ps.take (k + 1)))
      have hlC := nC.out.len
      have hlC1 := nC1.out.len
      have Hc1 : Hid (putR (L ++ (ps.take (k + 1)).map mkE) = putR (putR (L ++ (ps.take k).map mkE) ++ [mkE (pa, pb)])) := by
        show _ = _
        rw [set_chain, HE1.out]
      have HG : Hid (∀ s, getL s (putR (L ++ (ps.take (k + 1)).map mkE)) = if s = (mkE (pa, pb)).1 then (mkE (pa, pb)).2 else getL s (putR (L ++ (ps.take k).map mkE))) := fun s => by
        rw [Hc1.out, get_set nC.out.1]
      have Hek := Lib.hid (mkE_ok (pa, pb))
      obtain ⟨ia, hia⟩ : ∃ i, i = pa % 16 := ⟨_, rfl⟩
      obtain ⟨ib, hib⟩ : ∃ i, i = pb % 3 := ⟨_, rfl⟩
      have hmk : mkE (pa, pb) = (nms.getD ia ⟨#[]⟩, vv ib) := by rw [hia, hib]; rfl
      have HM1 : Hid ((mkE (pa, pb)).1 = nms.getD ia ⟨#[]⟩) := congrArg Prod.fst hmk
      have HM2 : Hid ((mkE (pa, pb)).2 = vv ib) := congrArg Prod.snd hmk
      obtain ⟨nC0, hnC⟩ : ∃ n, n = (putR (L ++ (ps.take k).map mkE)).length := ⟨_, rfl⟩
      obtain ⟨nC2, hnC1⟩ : ∃ n, n = (putR (L ++ (ps.take (k + 1)).map mkE)).length := ⟨_, rfl⟩
      have HnC := Lib.hid hnC
      have HnC1 := Lib.hid hnC1
      rw [← hnC] at hlC ⊢
      rw [← hnC1] at hlC1
      generalize mkE (pa, pb) = nw at *
      generalize putR (L ++ (ps.take k).map mkE) = C at *
      generalize hCn : putR (L ++ (ps.take (k + 1)).map mkE) = D at *
      have HCn := Lib.hid hCn
      obtain ⟨hpa, hpb⟩ := hpb
      have hia1 : ia < 16 := by omega
      have hib1 : ib < 3 := by omega
      have hib2 : ib ≤ 2 := by omega
      have hiaI : (ia : Int) < 16 := by omega
      have hibI : (ib : Int) < 3 := by omega
      have HA : Hid (Int.tmod (pa : Int) 16 = (ia : Int)) := by
        show _ = _
        rw [show (16 : Int) = ((16 : Nat) : Int) from rfl, mod_u8 _ _ (.inl rfl), hia]
      have HB : Hid (Int.tmod (pb : Int) 3 = (ib : Int)) := by
        show _ = _
        rw [mod3_u8, hib]
      have HW : Hid (IntKind.i64.wrap (ib : Int) = (ib : Int)) := by show _ = _; rw [IntKind.wrap_i64]; omega
      clear hpk hp1 hp2 hcc hmk hia hib hnC hnC1 hCn
      go_upto_region 11 with (refine wpList_load_at rfl 42 (.tmp 36) rfl (ad.add (k * 2)) rfl #[.int .u8 (pa : Int), .int .u8 (pb : Int)] _ Hcl.out Tryd.underlying42 rfl sizeS ?_)
      obtain ⟨w1, hw1, hE0, hk01, hlt01⟩ := new_row wr #[.int .u8 (pa : Int), .int .u8 (pb : Int)] 42
      obtain ⟨g5, hg5⟩ : ∃ g, g = wr.heap.size := ⟨_, rfl⟩
      rw [← hw1, ← hg5]
      rw [← hg5] at hE0
      have hE := Lib.hid hE0
      have Hk1 := Lib.hid hk01
      clear hw1 hE0 hk01 hlt01 hg5 Hcl
      go_cut [12] (fun v6 wx => ∃ g, v6 = .pointer (some ⟨g, 0, none⟩) ∧ Hid (wx.heap[g]? = some (.cells #[.string nw.1, .string nw.2] 36 (0, 0))) ∧ Hid (Kept w1 wx))
      case first =>
        clear hown HE1 nC nC1 Hc1 HG Hek hr8 HKr hkr Hk1 HP Hn hk hkn hadb hmin hmn hm4 hm40 hm hc HnC HnC1 HCn R1 HR
        obtain ⟨wc, hwc⟩ : ∃ x, x = w1.drew := ⟨_, rfl⟩
        refine wp_region_held_drew (S := fun W => w1.drew.grownBy W none) (by kernel_rfl) (grown_kept (Below.refl _ _) _) (fun hHeld => ?_)
        replace hE := Lib.hid (heap_drew0 hE.out)
        have hK1 := Lib.hid (below_drew0 (Below.refl w1.heap.size w1))
        rw [← hwc] at hE hK1 hHeld ⊢
        clear hwc
        refine wpAnyH_take (i := 1) (oi := ⟨some 39, _, _, _, _, _⟩) (v := ?_) rfl (by kernel_rfl) (by kernel_rfl) (by kernel_rfl) (fun _ _ _ h => h) (Or.inl ⟨by rfl, ?_⟩) hHeld ?_
        rotate_left
        · (intro w hSw; go_simp; (try with_reducible rfl))
        try simp only [Act.put, List.setIfInBounds_toArray, List.set_cons_zero, List.set_cons_succ]
        refine wpAnyH_take (i := 2) (oi := ⟨some 40, _, _, _, _, _⟩) rfl (by kernel_rfl) (by kernel_rfl) (by kernel_rfl) (fun _ _ _ h => h) (yields_cell (by rfl) _ _ rfl ⟨g5, 0, none⟩ rfl (.int .u8 (pa : Int)) (fun w v h => load_u8 w _ v h) (heap_lt hE.out) (by first | simp | exact hn5) (cell_of_row _ g5 0 _ _ _ hE.out)) hHeld ?_
        try simp only [Act.put, List.setIfInBounds_toArray, List.set_cons_zero, List.set_cons_succ]
        refine wpAnyH_take (i := 3) (oi := ⟨some 41, _, _, _, _, _⟩) (v := ?_) rfl (by kernel_rfl) (by kernel_rfl) (by kernel_rfl) (fun _ _ _ h => h) (Or.inl ⟨by rfl, ?_⟩) hHeld ?_
        rotate_left
        · (intro w hSw; go_simp; (try with_reducible rfl))
        try simp only [Act.put, List.setIfInBounds_toArray, List.set_cons_zero, List.set_cons_succ]
        (try rw [HA.out])
        refine wpAnyH_take (i := 6) (oi := ⟨some 44, _, _, _, _, _⟩) (v := ?_) rfl (by kernel_rfl) (by kernel_rfl) (by kernel_rfl) (fun _ _ _ h => h) (Or.inl ⟨by rfl, ?_⟩) hHeld ?_
        rotate_left
        · (intro w hSw; go_simp; (try with_reducible rfl))
        try simp only [Act.put, List.setIfInBounds_toArray, List.set_cons_zero, List.set_cons_succ]
        refine wpAnyH_take (i := 7) (oi := ⟨some 45, _, _, _, _, _⟩) rfl (by kernel_rfl) (by kernel_rfl) (by kernel_rfl) (fun _ _ _ h => h) (yields_cell (by rfl) _ _ rfl ⟨g5, 1, none⟩ rfl (.int .u8 (pb : Int)) (fun w v h => load_u8 w _ v h) (heap_lt hE.out) (by first | simp | exact hn5) (cell_of_row _ g5 1 _ _ _ hE.out)) hHeld ?_
        try simp only [Act.put, List.setIfInBounds_toArray, List.set_cons_zero, List.set_cons_succ]
        refine wpAnyH_take (i := 8) (oi := ⟨some 46, _, _, _, _, _⟩) (v := ?_) rfl (by kernel_rfl) (by kernel_rfl) (by kernel_rfl) (fun _ _ _ h => h) (Or.inl ⟨by rfl, ?_⟩) hHeld ?_
        rotate_left
        · (intro w hSw; go_simp; (try with_reducible rfl))
        try simp only [Act.put, List.setIfInBounds_toArray, List.set_cons_zero, List.set_cons_succ]
        (try rw [HB.out])
        refine wpAnyH_take (i := 9) (oi := ⟨some 47, _, _, _, _, _⟩) (v := ?_) rfl (by kernel_rfl) (by kernel_rfl) (by kernel_rfl) (fun _ _ _ h => h) (Or.inl ⟨by rfl, ?_⟩) hHeld ?_
        rotate_left
        · (intro w hSw; go_simp; (try with_reducible rfl))
        try simp only [Act.put, List.setIfInBounds_toArray, List.set_cons_zero, List.set_cons_succ]
        (try rw [HW.out])
        refine wpAnyH_ready (rs := [0, 12]) (by kernel_rfl) (by simp) ?_
        refine AllReadyH.cons (o := ⟨some 38, _, _, _, _, _⟩) rfl (fun K hK => ?_) (AllReadyH.cons (o := ⟨some 12, _, _, _, _, _⟩) rfl (fun K hK => ?_) (AllReadyH.nil))
        · go_simp
          refine (names_any _).mono ?_
          rintro e wn ⟨gN, rfl, hge, hN, hk⟩
          refine hK.out _ _ (grown_kept hk _) (fun _ => turnG (r := none) (grown_kept hk _) (fun _ _ h => h) ?_)
          replace hE := Lib.hid (heap_kept hk hE.out)
          replace hK1 := Lib.hid (below_kept hK1.out hk)
          clear hk hHeld
          have hHeld := grown_kept (Below.refl wn.heap.size wn) (none)
          obtain ⟨wc, rfl⟩ : ∃ x, x = wn := ⟨_, rfl⟩
          clear hK K
          try simp only [Act.put, List.setIfInBounds_toArray, List.set_cons_zero, List.set_cons_succ]
          refine wpAnyH_take (i := 4) (oi := ⟨some 42, _, _, _, _, _⟩) (v := ?_) rfl (by kernel_rfl) (by kernel_rfl) (by kernel_rfl) (fun _ _ _ h => h) (Or.inl ⟨by rfl, ?_⟩) hHeld ?_
          rotate_left
          · (intro w hSw; go_simp; (try with_reducible rfl))
          try simp only [Act.put, List.setIfInBounds_toArray, List.set_cons_zero, List.set_cons_succ]
          refine wpAnyH_take (i := 5) (oi := ⟨some 43, _, _, _, _, _⟩) rfl (by kernel_rfl) (by kernel_rfl) (by kernel_rfl) (fun _ _ _ h => h) (yields_cell (by rfl) _ _ rfl ⟨gN, ia, none⟩ rfl (.string (nms.getD ia ⟨#[]⟩)) (fun w v h => load_str w _ v h) (heap_lt hN.out) (by simp) ((cell_of_row _ gN _ _ _ _ hN.out).trans (nms_at _ hia1))) hHeld ?_
          try simp only [Act.put, List.setIfInBounds_toArray, List.set_cons_zero, List.set_cons_succ]
          refine wpAnyH_ready (rs := [10, 12]) (by kernel_rfl) (by simp) ?_
          refine AllReadyH.cons (o := ⟨some 48, _, _, _, _, _⟩) rfl (fun K hK => ?_) (AllReadyH.cons (o := ⟨some 12, _, _, _, _, _⟩) rfl (fun K hK => ?_) (AllReadyH.nil))
          · go_simp
            refine (rep_any ib hib2 _).mono ?_
            rintro e wn ⟨rfl, hk⟩
            refine hK.out _ _ (grown_kept hk _) (fun _ => turnG (r := none) (grown_kept hk _) (fun _ _ h => h) ?_)
            replace hE := Lib.hid (heap_kept hk hE.out)
            replace hK1 := Lib.hid (below_kept hK1.out hk)
            replace hN := Lib.hid (heap_kept hk hN.out)
            clear hk hHeld
            have hHeld := grown_kept (Below.refl wn.heap.size wn) (none)
            obtain ⟨wc, rfl⟩ : ∃ x, x = wn := ⟨_, rfl⟩
            clear hK K
            try simp only [Act.put, List.setIfInBounds_toArray, List.set_cons_zero, List.set_cons_succ]
            refine wpAnyH_take (i := 11) (oi := ⟨some 49, _, _, _, _, _⟩) (v := ?_) rfl (by kernel_rfl) (by kernel_rfl) (by kernel_rfl) (fun _ _ _ h => h) (Or.inl ⟨by rfl, ?_⟩) hHeld ?_
            rotate_left
            · (intro w hSw; go_simp; (try with_reducible rfl))
            try simp only [Act.put, List.setIfInBounds_toArray, List.set_cons_zero, List.set_cons_succ]
            refine wpAnyH_ready (rs := [12]) (by kernel_rfl) (by simp) ?_
            refine AllReadyH.cons (o := ⟨some 12, _, _, _, _, _⟩) rfl (fun K hK => ?_) (AllReadyH.nil)
            · go_simp
              obtain ⟨wn, hwn, hA0, hk, hlt⟩ := new_row wc #[.string ⟨#[]⟩, .string ⟨#[]⟩] 36
              obtain ⟨g6, hg6⟩ : ∃ g, g = wc.heap.size := ⟨_, rfl⟩
              rw [← hwn, ← hg6]
              rw [← hg6] at hA0
              have hA := Lib.hid hA0
              have hn0 : some gN ≠ some g6 := fun e => by injection e with e; have := heap_lt hN.out; omega
              have hge6 : w1.heap.size ≤ g6 := by have := hK1.out.size; omega
              clear hwn hA0 hlt
              refine hK.out _ _ (grown_kept hk _) (fun _ => turnG (r := some g6) (grown_kept hk _) (fun k hk2 _ e => by injection e with e; omega) ?_)
              replace hE := Lib.hid (heap_kept hk hE.out)
              replace hK1 := Lib.hid (below_kept hK1.out hk)
              replace hN := Lib.hid (heap_kept hk hN.out)
              clear hk hHeld hg6
              have hHeld := grown_kept (Below.refl wn.heap.size wn) (some g6)
              obtain ⟨wc, rfl⟩ : ∃ x, x = wn := ⟨_, rfl⟩
              clear hK K
              try simp only [Act.put, List.setIfInBounds_toArray, List.set_cons_zero, List.set_cons_succ]
              refine wpAnyH_ready (rs := [13]) (by kernel_rfl) (by simp) ?_
              refine AllReadyH.cons (o := ⟨none, _, _, _, _, _⟩) rfl (fun K hK => ?_) (AllReadyH.nil)
              · have d0 : wc.cell? ⟨g6, 0, none⟩ = some (.string ⟨#[]⟩) := cell_of_row _ g6 0 _ _ _ hA.out
                have d1 : wc.cell? ⟨g6, 1, none⟩ = some (.string ⟨#[]⟩) := cell_of_row _ g6 1 _ _ _ hA.out
                have f0 : ∀ j, wc.frozen? ⟨g6, j, none⟩ = false := fun j => by simp [World.frozen?, hA.out]
                go_simp
                refine hK.out _ _ ((grown_set _ g6 0 _).trans (grown_set _ g6 1 _)) (fun hHeld => ?_)
                clear hK K
                try simp only [Act.put, List.setIfInBounds_toArray, List.set_cons_zero, List.set_cons_succ]
                refine wpAnyH_done (by kernel_rfl) ?_ _
                go_wp2_with fail
                go_meet
                refine ⟨g6, rfl, ?_, ?_⟩
                · show _ = _; rw [HM1.out, HM2.out]; exact heap_setCell_same _ _ 1 _ _ _ (heap_setCell_same _ _ 0 _ _ _ hA.out)
                · exact (hK1.out.setCell hge6 _).setCell hge6 _
          · go_simp
            obtain ⟨wn, hwn, hA0, hk, hlt⟩ := new_row wc #[.string ⟨#[]⟩, .string ⟨#[]⟩] 36
            obtain ⟨g6, hg6⟩ : ∃ g, g = wc.heap.size := ⟨_, rfl⟩
            rw [← hwn, ← hg6]
            rw [← hg6] at hA0
            have hA := Lib.hid hA0
            have hn0 : some gN ≠ some g6 := fun e => by injection e with e; have := heap_lt hN.out; omega
            have hge6 : w1.heap.size ≤ g6 := by have := hK1.out.size; omega
            clear hwn hA0 hlt
            refine hK.out _ _ (grown_kept hk _) (fun _ => turnG (r := some g6) (grown_kept hk _) (fun k hk2 _ e => by injection e with e; omega) ?_)
            replace hE := Lib.hid (heap_kept hk hE.out)
            replace hK1 := Lib.hid (below_kept hK1.out hk)
            replace hN := Lib.hid (heap_kept hk hN.out)
            clear hk hHeld hg6
            have hHeld := grown_kept (Below.refl wn.heap.size wn) (some g6)
            obtain ⟨wc, rfl⟩ : ∃ x, x = wn := ⟨_, rfl⟩
            clear hK K
            try simp only [Act.put, List.setIfInBounds_toArray, List.set_cons_zero, List.set_cons_succ]
            refine wpAnyH_ready (rs := [10]) (by kernel_rfl) (by simp) ?_
            refine AllReadyH.cons (o := ⟨some 48, _, _, _, _, _⟩) rfl (fun K hK => ?_) (AllReadyH.nil)
            · go_simp
              refine (rep_any ib hib2 _).mono ?_
              rintro e wn ⟨rfl, hk⟩
              refine hK.out _ _ (grown_kept hk _) (fun _ => turnG (r := some g6) (grown_kept hk _) (fun _ _ h => h) ?_)
              replace hE := Lib.hid (heap_kept hk hE.out)
              replace hK1 := Lib.hid (below_kept hK1.out hk)
              replace hN := Lib.hid (heap_kept hk hN.out)
              replace hA := Lib.hid (heap_kept hk hA.out)
              clear hk hHeld
              have hHeld := grown_kept (Below.refl wn.heap.size wn) (some g6)
              obtain ⟨wc, rfl⟩ : ∃ x, x = wn := ⟨_, rfl⟩
              clear hK K
              try simp only [Act.put, List.setIfInBounds_toArray, List.set_cons_zero, List.set_cons_succ]
              refine wpAnyH_take (i := 11) (oi := ⟨some 49, _, _, _, _, _⟩) (v := ?_) rfl (by kernel_rfl) (by kernel_rfl) (by kernel_rfl) (fun _ _ _ h => h) (Or.inl ⟨by rfl, ?_⟩) hHeld ?_
              rotate_left
              · (intro w hSw; go_simp; (try with_reducible rfl))
              try simp only [Act.put, List.setIfInBounds_toArray, List.set_cons_zero, List.set_cons_succ]
              refine wpAnyH_ready (rs := [13]) (by kernel_rfl) (by simp) ?_
              refine AllReadyH.cons (o := ⟨none, _, _, _, _, _⟩) rfl (fun K hK => ?_) (AllReadyH.nil)
              · have d0 : wc.cell? ⟨g6, 0, none⟩ = some (.string ⟨#[]⟩) := cell_of_row _ g6 0 _ _ _ hA.out
                have d1 : wc.cell? ⟨g6, 1, none⟩ = some (.string ⟨#[]⟩) := cell_of_row _ g6 1 _ _ _ hA.out
                have f0 : ∀ j, wc.frozen? ⟨g6, j, none⟩ = false := fun j => by simp [World.frozen?, hA.out]
                go_simp
                refine hK.out _ _ ((grown_set _ g6 0 _).trans (grown_set _ g6 1 _)) (fun hHeld => ?_)
                clear hK K
                try simp only [Act.put, List.setIfInBounds_toArray, List.set_cons_zero, List.set_cons_succ]
                refine wpAnyH_done (by kernel_rfl) ?_ _
                go_wp2_with fail
                go_meet
                refine ⟨g6, rfl, ?_, ?_⟩
                · show _ = _; rw [HM1.out, HM2.out]; exact heap_setCell_same _ _ 1 _ _ _ (heap_setCell_same _ _ 0 _ _ _ hA.out)
                · exact (hK1.out.setCell hge6 _).setCell hge6 _
        · go_simp
          obtain ⟨wn, hwn, hA0, hk, hlt⟩ := new_row wc #[.string ⟨#[]⟩, .string ⟨#[]⟩] 36
          obtain ⟨g6, hg6⟩ : ∃ g, g = wc.heap.size := ⟨_, rfl⟩
          rw [← hwn, ← hg6]
          rw [← hg6] at hA0
          have hA := Lib.hid hA0
          have hge6 : w1.heap.size ≤ g6 := by have := hK1.out.size; omega
          clear hwn hA0 hlt
          refine hK.out _ _ (grown_kept hk _) (fun _ => turnG (r := some g6) (grown_kept hk _) (fun k hk2 _ e => by injection e with e; omega) ?_)
          replace hE := Lib.hid (heap_kept hk hE.out)
          replace hK1 := Lib.hid (below_kept hK1.out hk)
          clear hk hHeld hg6
          have hHeld := grown_kept (Below.refl wn.heap.size wn) (some g6)
          obtain ⟨wc, rfl⟩ : ∃ x, x = wn := ⟨_, rfl⟩
          clear hK K
          try simp only [Act.put, List.setIfInBounds_toArray, List.set_cons_zero, List.set_cons_succ]
          refine wpAnyH_ready (rs := [0]) (by kernel_rfl) (by simp) ?_
          refine AllReadyH.cons (o := ⟨some 38, _, _, _, _, _⟩) rfl (fun K hK => ?_) (AllReadyH.nil)
          · go_simp
            refine (names_any _).mono ?_
            rintro e wn ⟨gN, rfl, hge, hN, hk⟩
            have hn0 : some gN ≠ some g6 := fun e => by injection e with e; have := heap_lt hA.out; omega
            refine hK.out _ _ (grown_kept hk _) (fun _ => turnG (r := some g6) (grown_kept hk _) (fun _ _ h => h) ?_)
            replace hE := Lib.hid (heap_kept hk hE.out)
            replace hK1 := Lib.hid (below_kept hK1.out hk)
            replace hA := Lib.hid (heap_kept hk hA.out)
            clear hk hHeld
            have hHeld := grown_kept (Below.refl wn.heap.size wn) (some g6)
            obtain ⟨wc, rfl⟩ : ∃ x, x = wn := ⟨_, rfl⟩
            clear hK K
            try simp only [Act.put, List.setIfInBounds_toArray, List.set_cons_zero, List.set_cons_succ]
            refine wpAnyH_take (i := 4) (oi := ⟨some 42, _, _, _, _, _⟩) (v := ?_) rfl (by kernel_rfl) (by kernel_rfl) (by kernel_rfl) (fun _ _ _ h => h) (Or.inl ⟨by rfl, ?_⟩) hHeld ?_
            rotate_left
            · (intro w hSw; go_simp; (try with_reducible rfl))
            try simp only [Act.put, List.setIfInBounds_toArray, List.set_cons_zero, List.set_cons_succ]
            refine wpAnyH_take (i := 5) (oi := ⟨some 43, _, _, _, _, _⟩) rfl (by kernel_rfl) (by kernel_rfl) (by kernel_rfl) (fun _ _ _ h => h) (yields_cell (by rfl) _ _ rfl ⟨gN, ia, none⟩ rfl (.string (nms.getD ia ⟨#[]⟩)) (fun w v h => load_str w _ v h) (heap_lt hN.out) (hn0) ((cell_of_row _ gN _ _ _ _ hN.out).trans (nms_at _ hia1))) hHeld ?_
            try simp only [Act.put, List.setIfInBounds_toArray, List.set_cons_zero, List.set_cons_succ]
            refine wpAnyH_ready (rs := [10]) (by kernel_rfl) (by simp) ?_
            refine AllReadyH.cons (o := ⟨some 48, _, _, _, _, _⟩) rfl (fun K hK => ?_) (AllReadyH.nil)
            · go_simp
              refine (rep_any ib hib2 _).mono ?_
              rintro e wn ⟨rfl, hk⟩
              refine hK.out _ _ (grown_kept hk _) (fun _ => turnG (r := some g6) (grown_kept hk _) (fun _ _ h => h) ?_)
              replace hE := Lib.hid (heap_kept hk hE.out)
              replace hK1 := Lib.hid (below_kept hK1.out hk)
              replace hN := Lib.hid (heap_kept hk hN.out)
              replace hA := Lib.hid (heap_kept hk hA.out)
              clear hk hHeld
              have hHeld := grown_kept (Below.refl wn.heap.size wn) (some g6)
              obtain ⟨wc, rfl⟩ : ∃ x, x = wn := ⟨_, rfl⟩
              clear hK K
              try simp only [Act.put, List.setIfInBounds_toArray, List.set_cons_zero, List.set_cons_succ]
              refine wpAnyH_take (i := 11) (oi := ⟨some 49, _, _, _, _, _⟩) (v := ?_) rfl (by kernel_rfl) (by kernel_rfl) (by kernel_rfl) (fun _ _ _ h => h) (Or.inl ⟨by rfl, ?_⟩) hHeld ?_
              rotate_left
              · (intro w hSw; go_simp; (try with_reducible rfl))
              try simp only [Act.put, List.setIfInBounds_toArray, List.set_cons_zero, List.set_cons_succ]
              refine wpAnyH_ready (rs := [13]) (by kernel_rfl) (by simp) ?_
              refine AllReadyH.cons (o := ⟨none, _, _, _, _, _⟩) rfl (fun K hK => ?_) (AllReadyH.nil)
              · have d0 : wc.cell? ⟨g6, 0, none⟩ = some (.string ⟨#[]⟩) := cell_of_row _ g6 0 _ _ _ hA.out
                have d1 : wc.cell? ⟨g6, 1, none⟩ = some (.string ⟨#[]⟩) := cell_of_row _ g6 1 _ _ _ hA.out
                have f0 : ∀ j, wc.frozen? ⟨g6, j, none⟩ = false := fun j => by simp [World.frozen?, hA.out]
                go_simp
                refine hK.out _ _ ((grown_set _ g6 0 _).trans (grown_set _ g6 1 _)) (fun hHeld => ?_)
                clear hK K
                try simp only [Act.put, List.setIfInBounds_toArray, List.set_cons_zero, List.set_cons_succ]
                refine wpAnyH_done (by kernel_rfl) ?_ _
                go_wp2_with fail
                go_meet
                refine ⟨g6, rfl, ?_, ?_⟩
                · show _ = _; rw [HM1.out, HM2.out]; exact heap_setCell_same _ _ 1 _ _ _ (heap_setCell_same _ _ 0 _ _ _ hA.out)
                · exact (hK1.out.setCell hge6 _).setCell hge6 _
      case rest =>
        obtain ⟨g6, rfl, hg6, hk1⟩ := hcut
        have K5 : Hid (Kept wr wc) := below_kept Hk1.out hk1.out
        have K5w : Hid (Kept w wc) := below_kept HKr.out K5.out
        have K5b : Hid (Kept w2 wc) := below_kept hkr.out K5.out
        have HO5 := Lib.hid (own_below hown.out K5.out)
        have R8 := Lib.hid ((hr8.out.below K5.out).more (Below.size K5.out))
        have hg0 := heap_lt hg6.out
        have q0_0 : wc.cell? ⟨g6, 0, none⟩ = some (.string nw.1) := cell_of_row _ _ _ _ _ _ hg6.out
        have q1_0 : wc.cell? ⟨g6, 1, none⟩ = some (.string nw.2) := cell_of_row _ _ _ _ _ _ hg6.out
        have Hcl6 : Hid (∀ j v, (#[.string nw.1, .string nw.2] : Array Value)[j]? = some v → wc.cell? ((⟨g6, 0, none⟩ : Addr).add j) = some v) := fun j v hv => by
          rw [add0, cell_of_row _ g6 j _ _ _ hg6.out]
          exact hv
        have CS : Hid (Calls Tryd.prog 20 #[.slice A8 nC0 c8, .slice (some ⟨wc.heap.size, 0, none⟩) 1 1] (wc.alloc (.cells #[.string nw.1, .string nw.2] 36)) fun e w' => ∃ A c, e = .returned (.tuple #[.slice A nC2 c, .int .i64 0]) ∧ RdL w' w'.heap.size A D ∧ Kept wc w' ∧ ∀ ad, A = some ad → wc.heap.size ≤ ad.block) := by
          have hka : Kept wc (wc.alloc (.cells #[.string nw.1, .string nw.2] 36)) := (Below.refl _ _).alloc (Nat.le_refl _) _
          have h := set_own A8 (some ⟨wc.heap.size, 0, none⟩) c8 1 C [nw] D _ (by rw [← HnC.out]; omega) (by simp) ((R8.out.below hka).more (Below.size hka)) (rdl_one wc nw) ((HT.out.below K5w.out).below hka) (set_none nC.out (fun x hx => by rw [List.mem_singleton.1 hx]; exact Hek.out)) Hc1.out.symm (by rw [← HnC1.out]; omega)
          rw [← HnC.out, ← HnC1.out] at h
          refine h.mono ?_
          rintro e w' ⟨A, c, he, hr, hk, hge⟩
          exact ⟨A, c, he, hr, below_kept hka hk, fun ad e => Nat.le_trans hka.size (hge ad e)⟩
        have G8 := Lib.hid (get_rn nC.out (c := c8) HnC.out R8.out)
        clear hown hr8 hk1 Hk1 hkr HKr R8 hE HM1 HM2 HA HB HW
        go_wp2_with (first
          | (refine wpList_load_at rfl 36 (.tmp 12) rfl ⟨g6, 0, none⟩ rfl #[.string nw.1, .string nw.2] _ Hcl6.out Tryd.underlying36 rfl sizeL ?_)
          | (go_at_call 20; refine CS.out.mono ?_; rintro e w5 ⟨A9, c9, rfl, hr9, hk5, hge9⟩; have HGe9 := Lib.hid hge9; clear hge9; have R9 := Lib.hid hr9; have Kc5 := Lib.hid hk5; clear hr9 hk5)
          | (go_at_call 14; refine (right_rn nC1.out (c := c9) HnC1.out R9.out (HT.out.below (below_kept K5w.out Kc5.out)) w5 (Below.refl _ _)).mono ?_; rintro e w6 ⟨rfl, hk6⟩; have Kc6 := Lib.hid (below_kept Kc5.out hk6); have Kd6 := Lib.hid hk6; clear hk6)
          | (go_at_call 16; refine (names_any _).mono ?_; rintro e w7 ⟨gN, rfl, hgN, hN, hk7⟩; have Kc7 := Lib.hid (below_kept Kc6.out hk7); have Kd7 := Lib.hid (below_kept Kd6.out hk7); clear hk7))
        have hgN2 := heap_lt hN.out
        have G9 := Lib.hid (get_rn nC1.out (c := c9) HnC1.out R9.out)
        have q0_1 : w7.cell? ⟨g6, 0, none⟩ = some (.string nw.1) := (Below.cell Kc7.out hg0).trans q0_0
        have q1_1 : w7.cell? ⟨g6, 1, none⟩ = some (.string nw.2) := (Below.cell Kc7.out hg0).trans q1_0
        have hg1 := Nat.lt_of_lt_of_le hg0 (Below.size Kc7.out)
        clear CS Kc6 Kd6 hgN q0_0 q1_0
        obtain ⟨wo, rfl⟩ : ∃ x, x = wr := ⟨_, rfl⟩
        go_loopw [67] (fun v67 wx => ∃ i : Nat, i ≤ 16 ∧ v67 = .int .i64 i ∧ Hid (Kept w7 wx)) (fun v67 _ => 16 - (intOf v67).toNat)
        case atStart => exact ⟨0, by omega, rfl, Below.refl _ _⟩
        case round =>
          obtain ⟨i, hi, rfl, hkx⟩ := hrel
          by_cases hin : i < 16
          · obtain ⟨s, hs⟩ : ∃ s, nms[i]? = some s := ⟨_, List.getElem?_eq_getElem hin⟩
            have hcs : wr.cell? ⟨gN, i, none⟩ = some (.string s) := (Below.cell hkx.out (p := ⟨gN, i, none⟩) hgN2).trans (by
              rw [cell_of_row _ gN i _ _ _ hN.out, List.getElem?_toArray, strs_get nms i hin]
              rw [List.getElem?_eq_getElem hin] at hs
              rw [Option.some.inj hs])
            have hinI : (i : Int) < 16 := by omega
            have Ky0 := Lib.hid (below_kept Kc7.out hkx.out)
            have Kz0 := Lib.hid (below_kept Kd7.out hkx.out)
            have q0_2 : wr.cell? ⟨g6, 0, none⟩ = some (.string nw.1) := (Below.cell hkx.out hg1).trans q0_1
            have q1_2 : wr.cell? ⟨g6, 1, none⟩ = some (.string nw.2) := (Below.cell hkx.out hg1).trans q1_1
            have hg2 := Nat.lt_of_lt_of_le hg1 (Below.size hkx.out)
            have Hg := HG.out s
            have B1 := Lib.hid (G8.out s)
            have B2 := Lib.hid (G9.out s)
            have hbq := str_beq s nw.1
            generalize getL s C = z1 at *
            generalize getL s D = z2 at *
            clear hs
            by_cases hv : s = nw.1
            · rw [if_pos hv] at Hg
              rw [decide_eq_true hv] at hbq
              rw [Hg] at B2
              clear hv Hg
              go_wp2_with (first
                | (go_at_call 17; refine (B2.out _ Kz1.out).mono ?_; rintro e v2 ⟨rfl, hk2⟩; have Kw2 := Lib.hid (below_kept Kw1.out hk2); clear hk2)
                | (go_at_call 17; refine (B1.out _ Ky0.out).mono ?_; rintro e v1 ⟨rfl, hk1⟩; have q0_3 : v1.cell? ⟨g6, 0, none⟩ = some (.string nw.1) := (Below.cell hk1 hg2).trans q0_2; have q1_3 : v1.cell? ⟨g6, 1, none⟩ = some (.string nw.2) := (Below.cell hk1 hg2).trans q1_2; have Kz1 := Lib.hid (below_kept Kz0.out hk1); have Kw1 := Lib.hid (below_kept hkx.out hk1); clear hk1))
              go_roundw
              case rel => exact ⟨i + 1, by omega, by go_num, Kw2⟩
              case measure => simp [intOf]; omega
            · rw [if_neg hv] at Hg
              rw [decide_eq_false hv] at hbq
              rw [Hg] at B2
              clear hv Hg
              go_wp2_with (first
                | (go_at_call 17; refine (B2.out _ Kz1.out).mono ?_; rintro e v2 ⟨rfl, hk2⟩; have Kw2 := Lib.hid (below_kept Kw1.out hk2); clear hk2)
                | (go_at_call 17; refine (B1.out _ Ky0.out).mono ?_; rintro e v1 ⟨rfl, hk1⟩; have q0_3 : v1.cell? ⟨g6, 0, none⟩ = some (.string nw.1) := (Below.cell hk1 hg2).trans q0_2; have Kz1 := Lib.hid (below_kept Kz0.out hk1); have Kw1 := Lib.hid (below_kept hkx.out hk1); clear hk1))
              go_roundw
              case rel => exact ⟨i + 1, by omega, by go_num, Kw2⟩
              case measure => simp [intOf]; omega
          · obtain rfl : i = 16 := by omega
            have Kx : Hid (Kept wc wr) := below_kept Kc7.out hkx.out
            have K2x : Hid (Kept w2 wr) := below_kept K5b.out Kx.out
            have hzx : w2.heap.size ≤ wr.heap.size := K2x.out.size
            have HL1 : Hid ((wr.alloc (.cells #[.string nw.1, .string nw.2] 36)).ownsRow w2.heap.size 36 2 u7 k (labs ((ps.take k).map mkE))) := own_below (own_below HO5.out Kx.out) ((Below.refl _ _).alloc (Nat.le_refl _) _)
            have Hne : Hid (∀ ad, A9 = some ad → some ad.block ≠ u7.ownBlock) := fun ad e e2 => by
              have h1 := HGe9.out ad e
              have h2 := (HO5.out.lt ad.block e2.symm).2
              omega
            have Hcl7 : Hid (∀ j v, (#[.string nw.1, .string nw.2] : Array Value)[j]? = some v → wr.cell? ((⟨g6, 0, none⟩ : Addr).add j) = some v) := fun j v hv => (Below.cell Kx.out (by rw [addBlock]; exact hg0)).trans (Hcl6.out j v hv)
            have hka9 : Kept w5 (wr.alloc (.cells #[.string nw.1, .string nw.2] 36)) := below_kept (below_kept Kd7.out hkx.out) ((Below.refl _ _).alloc (Nat.le_refl _) _)
            have R10 := Lib.hid ((R9.out.below hka9).more hka9.size)
            clear G8 G9 Hcl6 HO5 q0_1 q1_1 hka9
            go_wp2_with (first
              | (refine wpList_load_at rfl 36 (.tmp 12) rfl ⟨g6, 0, none⟩ rfl #[.string nw.1, .string nw.2] _ Hcl7.out Tryd.underlying36 rfl sizeL ?_)
              | (refine wpList_ownG rfl _ _ 22 rfl w2.heap.size i0 (.agg #[.string ⟨#[]⟩, .string ⟨#[]⟩]) 32 Tryd.underlying22 hi0 hz0 hz1 hz2 rfl u7 k (labs ((ps.take k).map mkE)) rfl HL1.out ⟨wr.heap.size, 0, none⟩ 1 1 [.string nw.1, .string nw.2] rfl rfl (cells_new wr [.string nw.1, .string nw.2] 36) (by intro u hu; simp at hu; rcases hu with rfl | rfl <;> rfl) (by unfold maxLen; omega) (by omega) (Nat.le_trans hzx (by simp)) ?_; intro v8 w8 hown7 hb7; have Hown7 := Lib.hid hown7; have K7 := Lib.hid (Below.grown (K2x.out.alloc hzx _) hb7 (Nat.le_trans hzx (by simp)) (fun j e => (HL1.out.lt j e).1)); have R11 := Lib.hid (rd_grown R10.out hb7 Hne.out hb7.size); clear hown7 hb7))
            go_roundw
            case rel =>
              refine ⟨k + 1, by omega, by go_num, rfl, K7, ?_, A9, c9, ?_, ?_⟩
              · show World.ownsRow _ _ _ _ _ _ _
                rw [HE1.out, labs_snoc]
                exact Hown7.out
              · rw [HCn.out, ← HnC1.out]
              · show Rd _ _ _ _ _
                rw [HCn.out]
                exact R11.out
            case measure => simp [intOf]; omega
    · obtain rfl : m = k := by omega
      have hge : ¬ (m : Int) < (min n 20 : Nat) := by omega
      obtain ⟨A7, c7, hv7, hc7, hr7⟩ := own_rd hown.out
      subst hv7
      have hlE : ((ps.take m).map mkE).length = m := by
        rw [List.length_map, List.length_take, ← Hn.out]
        omega
      have R7 : Hid (RdL wr wr.heap.size A7 ((ps.take m).map mkE)) := by
        show Rd _ _ _ _ _
        rw [hlE]
        exact hr7
      have nC := Lib.hid (cur_RN n1.out (ps.take m))
      have hlC := nC.out.len
      have R1' := Lib.hid ((R1.out.below hkr.out).more hkr.out.size)
      have hEk := Lib.hid (mkEs_ok (ps.take m))
      obtain ⟨nC0, hnC⟩ : ∃ n, n = (putR (L ++ (ps.take m).map mkE)).length := ⟨_, rfl⟩
      have HnC := Lib.hid hnC
      have HpC : Hid (putR (L ++ (ps.take m).map mkE) = (puts [] ((L ++ (ps.take m).map mkE).map lb)).map bl) := rfl
      rw [← hnC] at hlC ⊢
      have HlE := Lib.hid hlE
      generalize putR (L ++ (ps.take m).map mkE) = C at *
      generalize (ps.take m).map mkE = E at *
      have CS : Hid (Calls Tryd.prog 20 #[.slice A1 nL c1, .slice A7 m c7] wr fun e w' => ∃ A c, e = .returned (.tuple #[.slice A nC0 c, .int .i64 0]) ∧ RdL w' w'.heap.size A C ∧ Kept wr w' ∧ ∀ ad, A = some ad → wr.heap.size ≤ ad.block) := by
        have h := set_own A1 A7 c1 c7 L E C wr (by rw [← HnL.out]; omega) (by rw [HlE.out]; omega) R1'.out R7.out (HT.out.below HKr.out) (set_none n1.out (fun x hx => (hEk.out x hx).1)) HpC.out.symm (by rw [← HnC.out]; omega)
        rw [← HnC.out, ← HnL.out, HlE.out] at h
        exact h
      clear hown hr7 R1' R7 hEk HpC hnC hlE HlE hm40 hmin
      go_wp2_with (first
        | (go_at_call 20; refine CS.out.mono ?_; rintro e w5 ⟨A9, c9, rfl, hr9, hk5, _⟩; have R9 := Lib.hid hr9; have K5 := Lib.hid hk5; have R8 := Lib.hid ((hr8.out.below hk5).more hk5.size); clear hr9 hk5)
        | (go_at_call 15; refine (same_rn nC.out (c := c9) (c2 := c8) HnC.out R9.out R8.out w5 (Below.refl _ _)).mono ?_; rintro e w6 ⟨rfl, hk6⟩; have K6 := Lib.hid (below_kept K5.out hk6); clear hk6))
      go_ret
      exact ⟨rfl, below_kept HKr.out K6.out⟩
end Go.Proofs.YtnnnpnmiepbbeaaDoor
