/-
  LabelParts, of what right gives.
-/
import Derived.Test.YtnnnpnmiepbbeaaDoorLbOwn
import Derived.Test.YtnnnpnmiepbbeaaDoorLaw
import Derived.Test.YtnnnpnmiepbbeaaDoorLbExports
namespace Go.Proofs.YtnnnpnmiepbbeaaDoor
open Go.RowKit Go.Shelf Go.Maps Go.Sort
theorem flt_rd {B : Nat} {L : List Lab} {p : ByteArray → Bool} {v : Value} {x : Int} {w' : World} (hL : rgtB L = true) (h : FltV B L p v x w') : x = 0 ∧ ∃ A c, v = .slice A (L.filter fun y => p y.1).length c ∧ RdL w' w'.heap.size A (L.filter fun y => p y.1) := by
  unfold FltV at h
  rw [if_pos hL] at h
  obtain ⟨A, c, rfl, _, hr⟩ := own_rd h.2
  exact ⟨h.1, A, c, rfl, hr⟩
section
variable {L : List Lab} (hL : RN L) {A : Option Addr} {c n : Nat} (hn : n = L.length) {w : World} (hr : RdL w w.heap.size A L) (hT : Tab w)
include hL hn hr hT
theorem keep_rn (A1 : Option Addr) (c1 : Nat) (ns : List ByteArray) (hN : ns.length ≤ 1000) (hr1 : Rd w w.heap.size A1 ns.length (strs ns)) :
    (Calls Tryd.prog 23 #[.slice A n c, .slice A1 ns.length c1] w fun e w' => ∃ A c, e = .returned (.tuple #[.slice A (L.filter fun y => inB y.1 ns).length c, .int .i64 0]) ∧ RdL w' w'.heap.size A (L.filter fun y => inB y.1 ns) ∧ Kept w w') ∧
    (Calls Tryd.prog 24 #[.slice A n c, .slice A1 ns.length c1] w fun e w' => ∃ A c, e = .returned (.tuple #[.slice A (L.filter fun y => !inB y.1 ns).length c, .int .i64 0]) ∧ RdL w' w'.heap.size A (L.filter fun y => !inB y.1 ns) ∧ Kept w w') := by
  rw [hn]
  have := hL.len
  have h := keep_any A c L (by omega) A1 c1 ns (by omega) w hr hr1 hT
  constructor
  · refine h.1.mono fun e w' ⟨v, x, he, hv, hk⟩ => ?_
    obtain ⟨rfl, A, c, rfl, hr⟩ := flt_rd hL.1 hv
    exact ⟨A, c, he, hr, hk⟩
  · refine h.2.mono fun e w' ⟨v, x, he, hv, hk⟩ => ?_
    obtain ⟨rfl, A, c, rfl, hr⟩ := flt_rd hL.1 hv
    exact ⟨A, c, he, hr, hk⟩
theorem without_rn (p : ByteArray) : Calls Tryd.prog 25 #[.slice A n c, .string p] w fun e w' => ∃ A c, e = .returned (.tuple #[.slice A (L.filter fun y => !prefB y.1 p).length c, .int .i64 0]) ∧ RdL w' w'.heap.size A (L.filter fun y => !prefB y.1 p) ∧ Kept w w' := by
  rw [hn]
  have := hL.len
  refine (without_any A c L (by omega) p w hr hT).mono fun e w' ⟨v, x, he, hv, hk⟩ => ?_
  obtain ⟨rfl, A, c, rfl, hr⟩ := flt_rd hL.1 hv
  exact ⟨A, c, he, hr, hk⟩
end
theorem nms_size {s : ByteArray} (h : s ∈ nms) : s.size ≤ 128 := by
  have := nms_ok s h
  unfold nmB at this
  simp only [Bool.and_eq_true, decide_eq_true_eq] at this
  omega
theorem mod16_u8 (a : Nat) : Int.tmod (a : Int) 16 = ((a % 16 : Nat) : Int) := rfl
set_option maxRecDepth 100000 in
set_option maxHeartbeats 2000000 in
theorem parts_of (p : List (Nat × Nat)) (a : Value) (zs : List Int) (hz : zs.length = 3) (hb : ∀ z ∈ zs, (Lit.int .u8 z).wf = true) (t : Nat) (ht : t ≤ 255) (w : World) (hT : Tab w) (C1 : RightIs p a w) :
    Calls Tryd.prog 8 #[a, .agg (zs.map (Value.int .u8)).toArray, .int .u8 (t : Int)] w fun e w' => e = .returned (.bool true) ∧ Kept w w' := by
  obtain ⟨a0, a1, a2, rfl, ha0, ha1, ha2⟩ : ∃ a0 a1 a2 : Nat, zs = [(a0 : Int), (a1 : Int), (a2 : Int)] ∧ a0 ≤ 255 ∧ a1 ≤ 255 ∧ a2 ≤ 255 := by
    rcases zs with _ | ⟨x, _ | ⟨y, _ | ⟨z, _ | ⟨u, l⟩⟩⟩⟩ <;> simp at hz
    have h0 := bounds_u8 (hb x (by simp))
    have h1 := bounds_u8 (hb y (by simp))
    have h2 := bounds_u8 (hb z (by simp))
    obtain ⟨x, rfl⟩ := Int.eq_ofNat_of_zero_le h0.1
    obtain ⟨y, rfl⟩ := Int.eq_ofNat_of_zero_le h1.1
    obtain ⟨z, rfl⟩ := Int.eq_ofNat_of_zero_le h2.1
    exact ⟨x, y, z, rfl, by omega, by omega, by omega⟩
  have CA : Hid (∀ W, Kept w W → Calls Tryd.prog 11 #[] W fun e w' => e = .returned (.bool true) ∧ Kept W w') := fun W h => awake_any W (hT.below h)
  have HT := Lib.hid hT
  have H1 : Hid (RightIs p a w) := C1
  unfold RightIs at H1
  have n1 := Lib.hid (rightL_RN p)
  generalize rightL p = L at *
  have l1 := n1.out.len
  obtain ⟨nL, hnL⟩ : ∃ n, n = L.length := ⟨_, rfl⟩
  have HnL := Lib.hid hnL
  rw [← hnL] at H1 l1
  obtain ⟨i0, hi0⟩ : ∃ i, i = a0 % 16 := ⟨_, rfl⟩
  obtain ⟨i1, hi1⟩ : ∃ i, i = a1 % 16 := ⟨_, rfl⟩
  obtain ⟨i2, hi2⟩ : ∃ i, i = a2 % 16 := ⟨_, rfl⟩
  have hi01 : i0 < 16 := by omega
  have hi11 : i1 < 16 := by omega
  have hi21 : i2 < 16 := by omega
  have hi0I : (i0 : Int) < 16 := by omega
  have hi1I : (i1 : Int) < 16 := by omega
  have hi2I : (i2 : Int) < 16 := by omega
  have HA0 : Hid (Int.tmod (a0 : Int) 16 = (i0 : Int)) := by show _ = _; rw [mod16_u8, hi0]
  have HA1 : Hid (Int.tmod (a1 : Int) 16 = (i1 : Int)) := by show _ = _; rw [mod16_u8, hi1]
  have HA2 : Hid (Int.tmod (a2 : Int) 16 = (i2 : Int)) := by show _ = _; rw [mod16_u8, hi2]
  obtain ⟨s0, hs0⟩ : ∃ s, s = nms.getD i0 ⟨#[]⟩ := ⟨_, rfl⟩
  obtain ⟨s1, hs1⟩ : ∃ s, s = nms.getD i1 ⟨#[]⟩ := ⟨_, rfl⟩
  obtain ⟨s2, hs2⟩ : ∃ s, s = nms.getD i2 ⟨#[]⟩ := ⟨_, rfl⟩
  have hz0 : s0.size ≤ 128 := by rw [hs0]; exact nms_size (getD_mem hi01 _)
  have HM0 := Lib.hid hs0
  have HM1 := Lib.hid hs1
  have HM2 := Lib.hid hs2
  clear C1 hT hnL hz hb hi0 hi1 hi2 hs0 hs1 hs2
  go_enter Tryd.func8, Tryd.ntmps8
  go_wp2_with fail
  obtain ⟨wB, hwB, hB0, hkB, hltB⟩ := new_row w #[.int .u8 (a0 : Int), .int .u8 (a1 : Int), .int .u8 (a2 : Int)] 47
  obtain ⟨gB, hgB⟩ : ∃ g, g = w.heap.size := ⟨_, rfl⟩
  rw [← hwB, ← hgB]
  rw [← hgB] at hB0
  have HB0 := Lib.hid hB0
  have KB := Lib.hid hkB
  clear hwB hB0 hkB hltB hgB
  refine (CA.out _ KB.out).mono ?_
  rintro e w1 ⟨rfl, hk⟩
  have K1 := Lib.hid (below_kept KB.out hk)
  replace HB0 := Lib.hid (heap_kept hk HB0.out)
  clear hk CA
  go_wp2_with fail
  refine (H1.out _ K1.out).mono ?_
  rintro e w2 ⟨A1, c1, rfl, hr, hk, _⟩
  have R1 := Lib.hid hr
  have K2 := Lib.hid (below_kept K1.out hk)
  have hE0 := Lib.hid (heap_kept hk HB0.out)
  clear hr hk H1 K1 HB0
  go_upto_region 6 with fail
  go_cut [9] (fun v9 wx => ∃ g, v9 = .slice (some ⟨g, 0, none⟩) 3 3 ∧ Hid (wx.heap[g]? = some (.cells #[.string s0, .string s1, .string s2] 9 (0, 0))) ∧ Hid (Kept w2 wx))
  case first =>
    have hE := hE0
    clear hE0 R1 HnL n1 HT K2 l1 ht hz0
    obtain ⟨wc, hwc⟩ : ∃ x, x = w2.drew := ⟨_, rfl⟩
    refine wp_region_held_drew (S := fun W => w2.drew.grownBy W none) (by kernel_rfl) (grown_kept (Below.refl _ _) _) (fun hHeld => ?_)
    replace hE := Lib.hid (heap_drew0 hE.out)
    have hK1 := Lib.hid (below_drew0 (Below.refl w2.heap.size w2))
    rw [← hwc] at hE hK1 hHeld ⊢
    clear hwc
    refine wpAnyH_take (i := 1) (oi := ⟨some 35, _, _, _, _, _⟩) (v := ?_) rfl (by kernel_rfl) (by kernel_rfl) (by kernel_rfl) (fun _ _ _ h => h) (Or.inl ⟨by rfl, ?_⟩) hHeld ?_
    rotate_left
    · (intro w hSw; go_simp; (try with_reducible rfl))
    try simp only [Act.put, List.setIfInBounds_toArray, List.set_cons_zero, List.set_cons_succ]
    refine wpAnyH_take (i := 2) (oi := ⟨some 36, _, _, _, _, _⟩) rfl (by kernel_rfl) (by kernel_rfl) (by kernel_rfl) (fun _ _ _ h => h) (yields_cell (by rfl) _ _ rfl ⟨gB, 0, none⟩ rfl (.int .u8 (a0 : Int)) (fun w v h => load_u8 w _ v h) (heap_lt hE.out) (by simp) (cell_of_row _ gB 0 _ _ _ hE.out)) hHeld ?_
    try simp only [Act.put, List.setIfInBounds_toArray, List.set_cons_zero, List.set_cons_succ]
    refine wpAnyH_take (i := 3) (oi := ⟨some 37, _, _, _, _, _⟩) (v := ?_) rfl (by kernel_rfl) (by kernel_rfl) (by kernel_rfl) (fun _ _ _ h => h) (Or.inl ⟨by rfl, ?_⟩) hHeld ?_
    rotate_left
    · (intro w hSw; go_simp; (try with_reducible rfl))
    try simp only [Act.put, List.setIfInBounds_toArray, List.set_cons_zero, List.set_cons_succ]
    (try rw [HA0.out])
    refine wpAnyH_take (i := 7) (oi := ⟨some 41, _, _, _, _, _⟩) (v := ?_) rfl (by kernel_rfl) (by kernel_rfl) (by kernel_rfl) (fun _ _ _ h => h) (Or.inl ⟨by rfl, ?_⟩) hHeld ?_
    rotate_left
    · (intro w hSw; go_simp; (try with_reducible rfl))
    try simp only [Act.put, List.setIfInBounds_toArray, List.set_cons_zero, List.set_cons_succ]
    refine wpAnyH_take (i := 8) (oi := ⟨some 42, _, _, _, _, _⟩) rfl (by kernel_rfl) (by kernel_rfl) (by kernel_rfl) (fun _ _ _ h => h) (yields_cell (by rfl) _ _ rfl ⟨gB, 1, none⟩ rfl (.int .u8 (a1 : Int)) (fun w v h => load_u8 w _ v h) (heap_lt hE.out) (by simp) (cell_of_row _ gB 1 _ _ _ hE.out)) hHeld ?_
    try simp only [Act.put, List.setIfInBounds_toArray, List.set_cons_zero, List.set_cons_succ]
    refine wpAnyH_take (i := 9) (oi := ⟨some 43, _, _, _, _, _⟩) (v := ?_) rfl (by kernel_rfl) (by kernel_rfl) (by kernel_rfl) (fun _ _ _ h => h) (Or.inl ⟨by rfl, ?_⟩) hHeld ?_
    rotate_left
    · (intro w hSw; go_simp; (try with_reducible rfl))
    try simp only [Act.put, List.setIfInBounds_toArray, List.set_cons_zero, List.set_cons_succ]
    (try rw [HA1.out])
    refine wpAnyH_take (i := 13) (oi := ⟨some 47, _, _, _, _, _⟩) (v := ?_) rfl (by kernel_rfl) (by kernel_rfl) (by kernel_rfl) (fun _ _ _ h => h) (Or.inl ⟨by rfl, ?_⟩) hHeld ?_
    rotate_left
    · (intro w hSw; go_simp; (try with_reducible rfl))
    try simp only [Act.put, List.setIfInBounds_toArray, List.set_cons_zero, List.set_cons_succ]
    refine wpAnyH_take (i := 14) (oi := ⟨some 48, _, _, _, _, _⟩) rfl (by kernel_rfl) (by kernel_rfl) (by kernel_rfl) (fun _ _ _ h => h) (yields_cell (by rfl) _ _ rfl ⟨gB, 2, none⟩ rfl (.int .u8 (a2 : Int)) (fun w v h => load_u8 w _ v h) (heap_lt hE.out) (by simp) (cell_of_row _ gB 2 _ _ _ hE.out)) hHeld ?_
    try simp only [Act.put, List.setIfInBounds_toArray, List.set_cons_zero, List.set_cons_succ]
    refine wpAnyH_take (i := 15) (oi := ⟨some 49, _, _, _, _, _⟩) (v := ?_) rfl (by kernel_rfl) (by kernel_rfl) (by kernel_rfl) (fun _ _ _ h => h) (Or.inl ⟨by rfl, ?_⟩) hHeld ?_
    rotate_left
    · (intro w hSw; go_simp; (try with_reducible rfl))
    try simp only [Act.put, List.setIfInBounds_toArray, List.set_cons_zero, List.set_cons_succ]
    (try rw [HA2.out])
    refine wpAnyH_ready (rs := [0]) (by kernel_rfl) (by simp) ?_
    refine AllReadyH.cons (o := ⟨some 34, _, _, _, _, _⟩) rfl (fun K hK => ?_) (AllReadyH.nil)
    · go_simp
      refine (names_any _).mono ?_
      rintro e wn ⟨gN0, rfl, hge0, hN0, hk⟩
      refine hK.out _ _ (grown_kept hk _) (fun _ => turnG (r := none) (grown_kept hk _) (fun _ _ h => h) ?_)
      replace hE := Lib.hid (heap_kept hk hE.out)
      replace hK1 := Lib.hid (below_kept hK1.out hk)
      clear hk hHeld
      have hHeld := grown_kept (Below.refl wn.heap.size wn) (none)
      obtain ⟨wc, rfl⟩ : ∃ x, x = wn := ⟨_, rfl⟩
      clear hK K
      try simp only [Act.put, List.setIfInBounds_toArray, List.set_cons_zero, List.set_cons_succ]
      refine wpAnyH_take (i := 4) (oi := ⟨some 38, _, _, _, _, _⟩) (v := ?_) rfl (by kernel_rfl) (by kernel_rfl) (by kernel_rfl) (fun _ _ _ h => h) (Or.inl ⟨by rfl, ?_⟩) hHeld ?_
      rotate_left
      · (intro w hSw; go_simp; (try with_reducible rfl))
      try simp only [Act.put, List.setIfInBounds_toArray, List.set_cons_zero, List.set_cons_succ]
      refine wpAnyH_take (i := 5) (oi := ⟨some 39, _, _, _, _, _⟩) rfl (by kernel_rfl) (by kernel_rfl) (by kernel_rfl) (fun _ _ _ h => h) (yields_cell (by rfl) _ _ rfl ⟨gN0, i0, none⟩ rfl (.string (nms.getD i0 ⟨#[]⟩)) (fun w v h => load_str w _ v h) (heap_lt hN0.out) (by simp) ((cell_of_row _ gN0 _ _ _ _ hN0.out).trans (nms_at _ hi01))) hHeld ?_
      try simp only [Act.put, List.setIfInBounds_toArray, List.set_cons_zero, List.set_cons_succ]
      refine wpAnyH_ready (rs := [6]) (by kernel_rfl) (by simp) ?_
      refine AllReadyH.cons (o := ⟨some 40, _, _, _, _, _⟩) rfl (fun K hK => ?_) (AllReadyH.nil)
      · go_simp
        refine (names_any _).mono ?_
        rintro e wn ⟨gN1, rfl, hge1, hN1, hk⟩
        refine hK.out _ _ (grown_kept hk _) (fun _ => turnG (r := none) (grown_kept hk _) (fun _ _ h => h) ?_)
        replace hE := Lib.hid (heap_kept hk hE.out)
        replace hK1 := Lib.hid (below_kept hK1.out hk)
        replace hN0 := Lib.hid (heap_kept hk hN0.out)
        clear hk hHeld
        have hHeld := grown_kept (Below.refl wn.heap.size wn) (none)
        obtain ⟨wc, rfl⟩ : ∃ x, x = wn := ⟨_, rfl⟩
        clear hK K
        try simp only [Act.put, List.setIfInBounds_toArray, List.set_cons_zero, List.set_cons_succ]
        refine wpAnyH_take (i := 10) (oi := ⟨some 44, _, _, _, _, _⟩) (v := ?_) rfl (by kernel_rfl) (by kernel_rfl) (by kernel_rfl) (fun _ _ _ h => h) (Or.inl ⟨by rfl, ?_⟩) hHeld ?_
        rotate_left
        · (intro w hSw; go_simp; (try with_reducible rfl))
        try simp only [Act.put, List.setIfInBounds_toArray, List.set_cons_zero, List.set_cons_succ]
        refine wpAnyH_take (i := 11) (oi := ⟨some 45, _, _, _, _, _⟩) rfl (by kernel_rfl) (by kernel_rfl) (by kernel_rfl) (fun _ _ _ h => h) (yields_cell (by rfl) _ _ rfl ⟨gN1, i1, none⟩ rfl (.string (nms.getD i1 ⟨#[]⟩)) (fun w v h => load_str w _ v h) (heap_lt hN1.out) (by simp) ((cell_of_row _ gN1 _ _ _ _ hN1.out).trans (nms_at _ hi11))) hHeld ?_
        try simp only [Act.put, List.setIfInBounds_toArray, List.set_cons_zero, List.set_cons_succ]
        refine wpAnyH_ready (rs := [12]) (by kernel_rfl) (by simp) ?_
        refine AllReadyH.cons (o := ⟨some 46, _, _, _, _, _⟩) rfl (fun K hK => ?_) (AllReadyH.nil)
        · go_simp
          refine (names_any _).mono ?_
          rintro e wn ⟨gN2, rfl, hge2, hN2, hk⟩
          refine hK.out _ _ (grown_kept hk _) (fun _ => turnG (r := none) (grown_kept hk _) (fun _ _ h => h) ?_)
          replace hE := Lib.hid (heap_kept hk hE.out)
          replace hK1 := Lib.hid (below_kept hK1.out hk)
          replace hN0 := Lib.hid (heap_kept hk hN0.out)
          replace hN1 := Lib.hid (heap_kept hk hN1.out)
          clear hk hHeld
          have hHeld := grown_kept (Below.refl wn.heap.size wn) (none)
          obtain ⟨wc, rfl⟩ : ∃ x, x = wn := ⟨_, rfl⟩
          clear hK K
          try simp only [Act.put, List.setIfInBounds_toArray, List.set_cons_zero, List.set_cons_succ]
          refine wpAnyH_take (i := 16) (oi := ⟨some 50, _, _, _, _, _⟩) (v := ?_) rfl (by kernel_rfl) (by kernel_rfl) (by kernel_rfl) (fun _ _ _ h => h) (Or.inl ⟨by rfl, ?_⟩) hHeld ?_
          rotate_left
          · (intro w hSw; go_simp; (try with_reducible rfl))
          try simp only [Act.put, List.setIfInBounds_toArray, List.set_cons_zero, List.set_cons_succ]
          refine wpAnyH_take (i := 17) (oi := ⟨some 51, _, _, _, _, _⟩) rfl (by kernel_rfl) (by kernel_rfl) (by kernel_rfl) (fun _ _ _ h => h) (yields_cell (by rfl) _ _ rfl ⟨gN2, i2, none⟩ rfl (.string (nms.getD i2 ⟨#[]⟩)) (fun w v h => load_str w _ v h) (heap_lt hN2.out) (by simp) ((cell_of_row _ gN2 _ _ _ _ hN2.out).trans (nms_at _ hi21))) hHeld ?_
          try simp only [Act.put, List.setIfInBounds_toArray, List.set_cons_zero, List.set_cons_succ]
          refine wpAnyH_ready (rs := [18]) (by kernel_rfl) (by simp) ?_
          refine AllReadyH.cons (o := ⟨some 52, _, _, _, _, _⟩) rfl (fun K hK => ?_) (AllReadyH.nil)
          · go_simp
            obtain ⟨wn, hwn, hA0, hk, hlt⟩ := new_row wc #[.string (nms.getD i0 ⟨#[]⟩), .string (nms.getD i1 ⟨#[]⟩), .string (nms.getD i2 ⟨#[]⟩)] 9
            obtain ⟨g9, hg9⟩ : ∃ g, g = wc.heap.size := ⟨_, rfl⟩
            try simp only [← List.getD_eq_getElem?_getD]
            rw [← hwn, ← hg9]
            rw [← hg9] at hA0
            have hA := Lib.hid hA0
            clear hwn hA0 hlt hg9
            refine hK.out _ _ (grown_kept hk _) (fun _ => turnG (r := none) (grown_kept hk _) (fun _ _ h => h) ?_)
            replace hE := Lib.hid (heap_kept hk hE.out)
            replace hK1 := Lib.hid (below_kept hK1.out hk)
            replace hN0 := Lib.hid (heap_kept hk hN0.out)
            replace hN1 := Lib.hid (heap_kept hk hN1.out)
            replace hN2 := Lib.hid (heap_kept hk hN2.out)
            clear hk hHeld
            have hHeld := grown_kept (Below.refl wn.heap.size wn) (none)
            obtain ⟨wc, rfl⟩ : ∃ x, x = wn := ⟨_, rfl⟩
            clear hK K
            try simp only [Act.put, List.setIfInBounds_toArray, List.set_cons_zero, List.set_cons_succ]
            refine wpAnyH_take (i := 19) (oi := ⟨some 9, _, _, _, _, _⟩) (v := ?_) rfl (by kernel_rfl) (by kernel_rfl) (by kernel_rfl) (fun _ _ _ h => h) (Or.inl ⟨by rfl, ?_⟩) hHeld ?_
            rotate_left
            · (intro w hSw; go_simp; (try with_reducible rfl))
            try simp only [Act.put, List.setIfInBounds_toArray, List.set_cons_zero, List.set_cons_succ]
            refine wpAnyH_done (by kernel_rfl) ?_ _
            go_wp2_with fail
            go_meet
            refine ⟨g9, rfl, ?_, hK1⟩
            show _ = _
            rw [HM0.out, HM1.out, HM2.out]
            exact hA.out
  case rest =>
    obtain ⟨g9, rfl, hg9, hk9⟩ := hcut
    have hR9 : Hid (Rd wc wc.heap.size (some ⟨g9, 0, none⟩) [s0, s1, s2].length (strs [s0, s1, s2])) := ⟨rfl, fun _ => ⟨_, rfl, heap_lt hg9.out, fun j u hu => by rw [add0, cell_of_row _ g9 j _ _ _ hg9.out, show (#[.string s0, .string s1, .string s2] : Array Value) = (strs [s0, s1, s2]).toArray from rfl, List.getElem?_toArray]; exact hu⟩⟩
    have R1c := Lib.hid ((R1.out.below hk9.out).more hk9.out.size)
    have K3 : Hid (Kept w wc) := below_kept K2.out hk9.out
    obtain ⟨L1, hL1⟩ : ∃ l, l = L.filter fun y => inB y.1 [s0, s1, s2] := ⟨_, rfl⟩
    obtain ⟨L2, hL2⟩ : ∃ l, l = L.filter fun y => !inB y.1 [s0, s1, s2] := ⟨_, rfl⟩
    have m1 : Hid (RN L1) := by rw [hL1]; exact filter_RN n1.out _
    have m2 : Hid (RN L2) := by rw [hL2]; exact filter_RN n1.out _
    have HPA : Hid (putR (L2 ++ L1) = L) := by show _ = _; rw [hL1, hL2]; exact parts_all n1.out fun s => inB s [s0, s1, s2]
    have HPL : L1.length + L2.length = L.length := by rw [hL1, hL2]; exact parts_len L fun s => inB s [s0, s1, s2]
    have HIn : Hid (∀ x ∈ L1, x.1 = s0 ∨ x.1 = s1 ∨ x.1 = s2) := fun x hx => by
      rw [hL1] at hx
      have := inB_iff.1 (List.mem_filter.1 hx).2
      simpa using this
    have CK : Hid (∀ W, Kept wc W → Calls Tryd.prog 23 #[.slice A1 nL c1, .slice (some ⟨g9, 0, none⟩) 3 3] W fun e w' => ∃ A c, e = .returned (.tuple #[.slice A L1.length c, .int .i64 0]) ∧ RdL w' w'.heap.size A L1 ∧ Kept W w') := fun W h => by
      rw [hL1]
      exact (keep_rn n1.out HnL.out ((R1c.out.below h).more h.size) ((HT.out.below K3.out).below h) (some ⟨g9, 0, none⟩) 3 [s0, s1, s2] (by simp) ((hR9.out.below h).more h.size)).1
    have CD : Hid (∀ W, Kept wc W → Calls Tryd.prog 24 #[.slice A1 nL c1, .slice (some ⟨g9, 0, none⟩) 3 3] W fun e w' => ∃ A c, e = .returned (.tuple #[.slice A L2.length c, .int .i64 0]) ∧ RdL w' w'.heap.size A L2 ∧ Kept W w') := fun W h => by
      rw [hL2]
      exact (keep_rn n1.out HnL.out ((R1c.out.below h).more h.size) ((HT.out.below K3.out).below h) (some ⟨g9, 0, none⟩) 3 [s0, s1, s2] (by simp) ((hR9.out.below h).more h.size)).2
    have HPL2 := Lib.hid HPL
    rw [← HnL.out] at HPL
    obtain ⟨nK, hnK⟩ : ∃ n, n = L1.length := ⟨_, rfl⟩
    obtain ⟨nD, hnD⟩ : ∃ n, n = L2.length := ⟨_, rfl⟩
    have HnK := Lib.hid hnK
    have HnD := Lib.hid hnD
    rw [← hnK] at CK HPL
    rw [← hnD] at CD HPL
    have CM : Hid (∀ A A' c c' W, Kept w W → RdL W W.heap.size A L1 → RdL W W.heap.size A' L2 → Calls Tryd.prog 21 #[.slice A nK c, .slice A' nD c'] W fun e w' => ∃ A c, e = .returned (.tuple #[.slice A nL c, .int .i64 0]) ∧ RdL w' w'.heap.size A L ∧ Kept W w') := fun A A' c c' W hk h1 h2 => by
      rw [hnK, hnD, HnL.out]
      have := m1.out.len
      have := m2.out.len
      have := n1.out.len
      exact merge_good A A' c c' L1 L2 L W (by omega) (by omega) h1 h2 (HT.out.below hk) (merge_none m1.out m2.out) HPA.out (by omega)
    have Kr := Lib.hid (Below.refl wc.heap.size wc)
    clear hL1 hL2 hnK hnD HPA K2 hE0 HM0 HM1 HM2 HA0 HA1 HA2 hi0I hi1I hi2I hi01 hi11 hi21 ha0 ha1 ha2 R1 hk9
    go_upto_region 10 with (first
      | (go_at_call 23; refine (CK.out _ Kr.out).mono ?_; rintro e w3 ⟨A3, c3, rfl, hr, hk⟩; have R3 := Lib.hid hr; have K4 := Lib.hid hk; clear hr hk)
      | (go_at_call 24; refine (CD.out _ K4.out).mono ?_; rintro e w4 ⟨A4, c4, rfl, hr, hk⟩; replace R3 := Lib.hid ((R3.out.below hk).more hk.size); have R4 := Lib.hid hr; have K5 := Lib.hid (below_kept K4.out hk); clear hr hk)
      | (go_at_call 21; refine (CM.out _ _ _ _ _ (below_kept K3.out K5.out) R3.out R4.out).mono ?_; rintro e w5 ⟨A5, c5, rfl, hr, hk⟩; replace R3 := Lib.hid ((R3.out.below hk).more hk.size); have R5 := Lib.hid hr; have K6 := Lib.hid (below_kept K5.out hk); clear hr hk))
    have hg9' := Lib.hid (heap_kept K6.out hg9.out)
    have R1d := Lib.hid ((R1c.out.below K6.out).more K6.out.size)
    have K7 : Hid (Kept w w5) := below_kept K3.out K6.out
    clear CK CD CM Kr K4 K5 hR9 R4 m2 HnD R1c
    obtain ⟨k, hk, hks⟩ : ∃ k : Nat, Int.tmod (t : Int) ((s0.size : Int) + 1) = (k : Int) ∧ k ≤ s0.size := ⟨t % (s0.size + 1), rfl, by have := Nat.mod_lt t (show 0 < s0.size + 1 by omega); omega⟩
    have hw1 : IntKind.i64.wrap ((s0.size : Int) + 1) = (s0.size : Int) + 1 := by rw [IntKind.wrap_i64]; omega
    have d0 : w5.drew.cell? ⟨g9, 0, none⟩ = some (.string s0) := cell_of_row _ _ _ _ _ _ (heap_drew0 hg9'.out)
    have d00 : w5.cell? ⟨g9, 0, none⟩ = some (.string s0) := cell_of_row _ _ _ _ _ _ hg9'.out
    go_cut [16] (fun v16 wx => ∃ s, v16 = .string s ∧ Hid (Kept w5 wx))
    case first =>
      go_quiet (fail)
      go_wp2_with fail
      go_meet
      exact ⟨_, rfl, below_drewN (Below.refl w5.heap.size w5) _⟩
    case rest =>
      obtain ⟨pr, rfl, hkq⟩ := hcut
      have hgA := Lib.hid (heap_kept hkq.out hg9'.out)
      replace R3 := Lib.hid ((R3.out.below hkq.out).more hkq.out.size)
      replace R5 := Lib.hid ((R5.out.below hkq.out).more hkq.out.size)
      have R1e := Lib.hid ((R1d.out.below hkq.out).more hkq.out.size)
      have K8 : Hid (Kept w wc) := below_kept K7.out hkq.out
      obtain ⟨L3, hL3⟩ : ∃ l, l = L.filter fun y => !prefB y.1 pr := ⟨_, rfl⟩
      have m3 : Hid (RN L3) := by rw [hL3]; exact filter_RN n1.out _
      have CW : Hid (Calls Tryd.prog 25 #[.slice A1 nL c1, .string pr] wc fun e w' => ∃ A c, e = .returned (.tuple #[.slice A L3.length c, .int .i64 0]) ∧ RdL w' w'.heap.size A L3 ∧ Kept wc w') := by
        rw [hL3]
        exact without_rn n1.out HnL.out R1e.out (HT.out.below K8.out) pr
      have HG3 : Hid (∀ x ∈ L, getL x.1 L3 = if prefB x.1 pr = true then ⟨#[]⟩ else x.2) := fun x hx => by
        rw [hL3, get_filter (fun s => !prefB s pr), get_of_mem (right_srt n1.out.1) hx]
        cases prefB x.1 pr <;> rfl
      have HCnt : Hid (∀ j x, L[j]? = some x → ((L.take (j + 1)).filter fun y => !prefB y.1 pr).length = if prefB x.1 pr = true then ((L.take j).filter fun y => !prefB y.1 pr).length else ((L.take j).filter fun y => !prefB y.1 pr).length + 1) := fun j x hx => by
        rw [filter_take hx]
        cases prefB x.1 pr <;> rfl
      have HAll : Hid (((L.take nL).filter fun y => !prefB y.1 pr).length = L3.length) := by
        show _ = _
        rw [HnL.out, List.take_length, hL3]
      have hlim : Hid (∀ j, ((L.take j).filter fun y => !prefB y.1 pr).length ≤ 16) := fun j => by
        have h1 := filter_take_le (fun y => !prefB y.1 pr) L j
        have h2 := n1.out.len
        exact Nat.le_trans h1 h2
      have Hne : Hid (∀ x ∈ L, x.2 ≠ ⟨#[]⟩) := fun x hx => (right_all n1.out.1 x hx).2
      obtain ⟨nW, hnW⟩ : ∃ n, n = L3.length := ⟨_, rfl⟩
      have HnW := Lib.hid hnW
      rw [← hnW] at CW HAll
      have hsum : (nK : Int) + (nD : Int) = (nL : Int) := by omega
      clear hL3 hnW hg9' hg9 R1d K6 K7 K3 hkq
      have S1 := Lib.hid (same_rn n1.out (c := c5) (c2 := c1) HnL.out R5.out R1e.out)
      clear R5
      go_wp2_with (first
        | (go_at_call 25; refine CW.out.mono ?_; rintro e w6 ⟨A6, c6, rfl, hr, hk⟩; have R6 := Lib.hid hr; have K9 := Lib.hid hk; clear hr hk)
        | (go_at_call 15; refine (S1.out _ K9.out).mono ?_; rintro e w7 ⟨rfl, hk⟩; have K10 := Lib.hid (below_kept K9.out hk); have Ka := Lib.hid hk; clear hk)
        | (go_at_call 14; refine (right_rn m3.out (c := c6) HnW.out R6.out (HT.out.below (below_kept K8.out K9.out)) _ Ka.out).mono ?_; rintro e w8 ⟨rfl, hk⟩; have K11 := Lib.hid (below_kept K10.out hk); have Kc := Lib.hid (below_kept Ka.out hk); clear hk))
      have G3 := Lib.hid (get_rn m3.out (c := c6) HnW.out R6.out)
      clear CW S1 R6 K9 K10 Ka hsum
      go_loopw [19, 120] (fun v19 v120 wr => ∃ j : Nat, j ≤ nL ∧ v19 = .int .i64 ((((L.take j).filter fun y => !prefB y.1 pr).length : Nat) : Int) ∧ v120 = .int .i64 j ∧ Hid (Kept w8 wr)) (fun _ v120 _ => nL - (intOf v120).toNat)
      case atStart => exact ⟨0, by omega, rfl, rfl, Below.refl _ _⟩
      case round =>
        obtain ⟨j, hj, rfl, rfl, hkr⟩ := hrel
        by_cases hin : j < nL
        · obtain ⟨ad, x, rfl, hadb, hx, _, hc0, hc1⟩ := rdl_at R1e.out (by rw [← HnL.out]; exact hin)
          have Kz := below_kept K11.out hkr.out
          have e0 := (Below.cell Kz (by rw [addBlock]; exact hadb)).trans hc0
          have e1 := (Below.cell Kz (by rw [addBlock]; exact hadb)).trans hc1
          have Hcl := Lib.hid (lab_cells e0 e1)
          have hxm := List.mem_of_getElem? hx
          have hg3 := HG3.out x hxm
          have hne := Hne.out x hxm
          have hcn := HCnt.out j x hx
          have hl0 := hlim.out j
          have hinI : (j : Int) < nL := by omega
          have B3 := Lib.hid (G3.out x.1)
          rw [hg3] at B3
          obtain ⟨xa, xb⟩ := x
          dsimp only at B3 hne hcn
          have Kb : Hid (Kept w6 (wr.alloc (.cells #[.string xa, .string xb] 36))) := below_alloc0 (below_kept Kc.out hkr.out) _
          have Kb8 : Hid (Kept w8 (wr.alloc (.cells #[.string xa, .string xb] 36))) := below_alloc0 hkr.out _
          generalize ((L.take j).filter fun y => !prefB y.1 pr).length = m0 at *
          have HP1 : Hid (Calls Tryd.prog 26 #[.string xa, .string pr] (wr.alloc (.cells #[.string xa, .string xb] 36)) fun e w' => e = .returned (.bool (prefB xa pr)) ∧ (wr.alloc (.cells #[.string xa, .string xb] 36)) = w') := hasPref_any xa pr _
          generalize prefB xa pr = pb at *
          clear hx hc0 hc1 e0 e1 hxm hg3 Kz
          rcases pb with _ | _
          · rw [if_neg (by decide)] at B3 hcn
            have Hcn := Lib.hid hcn
            have hbz := empty_no hne
            clear hcn hne
            go_wp2_with (first
              | (refine wpList_load_at rfl 36 (.tmp 122) rfl (ad.add (j * 2)) rfl #[.string (xa, xb).1, .string (xa, xb).2] _ Hcl.out Tryd.underlying36 rfl sizeL ?_)
              | (go_at_call 26; refine HP1.out.mono ?_; rintro e v0 ⟨rfl, rfl⟩)
              | (go_at_call 17; refine (B3.out _ Kb.out).mono ?_; rintro e v1 ⟨rfl, hk1⟩; have Kv1 := Lib.hid (below_kept Kb8.out hk1); clear hk1))
            go_roundw
            case rel => exact ⟨j + 1, by omega, by rw [Hcn.out] <;> go_num, by go_num, Kv1⟩
            case measure => simp [intOf]; omega
          · rw [if_pos rfl] at B3 hcn
            have Hcn := Lib.hid hcn
            clear hcn hne
            go_wp2_with (first
              | (refine wpList_load_at rfl 36 (.tmp 122) rfl (ad.add (j * 2)) rfl #[.string (xa, xb).1, .string (xa, xb).2] _ Hcl.out Tryd.underlying36 rfl sizeL ?_)
              | (go_at_call 26; refine HP1.out.mono ?_; rintro e v0 ⟨rfl, rfl⟩)
              | (go_at_call 17; refine (B3.out _ Kb.out).mono ?_; rintro e v1 ⟨rfl, hk1⟩; have Kv1 := Lib.hid (below_kept Kb8.out hk1); clear hk1))
            go_roundw
            case rel => exact ⟨j + 1, by omega, by rw [Hcn.out] <;> go_num, by go_num, Kv1⟩
            case measure => simp [intOf]; omega
        · obtain rfl : nL = j := by omega
          rw [HAll.out]
          have Kr8 := hkr
          clear hkr hin hj HG3 HCnt hlim Hne G3 Kc
          go_wp2_with fail
          go_loopw [142] (fun v142 wr => ∃ j : Nat, j ≤ nK ∧ v142 = .int .i64 j ∧ Hid (Kept w8 wr)) (fun v142 _ => nK - (intOf v142).toNat)
          case atStart => exact ⟨0, by omega, rfl, Kr8⟩
          case round =>
            obtain ⟨j, hj, rfl, hkr⟩ := hrel
            clear Kr8
            by_cases hin : j < nK
            · obtain ⟨ad, x, rfl, hadb, hx, _, hc0, hc1⟩ := rdl_at R3.out (by rw [← HnK.out]; exact hin)
              have Kz := below_kept K11.out hkr.out
              have e0 := (Below.cell Kz (by rw [addBlock]; exact hadb)).trans hc0
              have e1 := (Below.cell Kz (by rw [addBlock]; exact hadb)).trans hc1
              have Hcl := Lib.hid (lab_cells e0 e1)
              have hxi := HIn.out x (List.mem_of_getElem? hx)
              have hinI : (j : Int) < nK := by omega
              obtain ⟨xa, xb⟩ := x
              dsimp only at hxi
              obtain ⟨wb, hwb⟩ : ∃ y, y = wr.alloc (.cells #[.string xa, .string xb] 36) := ⟨_, rfl⟩
              have hb0 : wb.heap[wr.heap.size]? = some (.cells #[.string xa, .string xb] 36) := by rw [hwb]; exact heap_alloc_new _ _
              have Kb : Hid (Kept w8 wb) := by rw [hwb]; exact below_alloc0 hkr.out _
              have hg9b := heap_kept (below_kept K11.out Kb.out) hgA.out
              have q0 : wb.cell? ⟨wr.heap.size, 0, none⟩ = some (.string xa) := cell_of_row _ _ _ _ _ _ hb0
              have p0 : wb.cell? ⟨g9, 0, none⟩ = some (.string s0) := cell_of_row _ _ _ _ _ _ hg9b
              have p1 : wb.cell? ⟨g9, 1, none⟩ = some (.string s1) := cell_of_row _ _ _ _ _ _ hg9b
              have p2 : wb.cell? ⟨g9, 2, none⟩ = some (.string s2) := cell_of_row _ _ _ _ _ _ hg9b
              have hq0 := str_beq xa s0
              have hq1 := str_beq xa s1
              have hq2 := str_beq xa s2
              clear hx hc0 hc1 e0 e1 Kz hb0 hg9b
              by_cases h0 : xa = s0
              · rw [decide_eq_true h0] at hq0
                clear hxi h0 hq1 hq2
                go_upto_region 27 with (refine wpList_load_at rfl 36 (.tmp 144) rfl (ad.add (j * 2)) rfl #[.string (xa, xb).1, .string (xa, xb).2] _ Hcl.out Tryd.underlying36 rfl sizeL ?_)
                rw [← hwb]
                generalize wr.heap.size = gx at *
                clear hwb Hcl
                go_quiet (fail)
                go_wp2_with fail
                go_roundw
                case rel => exact ⟨j + 1, by omega, by go_num, below_drewN Kb.out _⟩
                case measure => simp [intOf]; omega
              · rw [decide_eq_false h0] at hq0
                by_cases h1 : xa = s1
                · rw [decide_eq_true h1] at hq1
                  clear hxi h0 h1 hq2
                  go_upto_region 27 with (refine wpList_load_at rfl 36 (.tmp 144) rfl (ad.add (j * 2)) rfl #[.string (xa, xb).1, .string (xa, xb).2] _ Hcl.out Tryd.underlying36 rfl sizeL ?_)
                  rw [← hwb]
                  generalize wr.heap.size = gx at *
                  clear hwb Hcl
                  go_quiet (fail)
                  go_wp2_with fail
                  go_roundw
                  case rel => exact ⟨j + 1, by omega, by go_num, below_drewN Kb.out _⟩
                  case measure => simp [intOf]; omega
                · rw [decide_eq_false h1] at hq1
                  have h2 : xa = s2 := by
                    rcases hxi with h | h | h
                    · exact absurd h h0
                    · exact absurd h h1
                    · exact h
                  rw [decide_eq_true h2] at hq2
                  clear hxi h0 h1 h2
                  go_upto_region 27 with (refine wpList_load_at rfl 36 (.tmp 144) rfl (ad.add (j * 2)) rfl #[.string (xa, xb).1, .string (xa, xb).2] _ Hcl.out Tryd.underlying36 rfl sizeL ?_)
                  rw [← hwb]
                  generalize wr.heap.size = gx at *
                  clear hwb Hcl
                  go_quiet (fail)
                  go_wp2_with fail
                  go_roundw
                  case rel => exact ⟨j + 1, by omega, by go_num, below_drewN Kb.out _⟩
                  case measure => simp [intOf]; omega
            · obtain rfl : nK = j := by omega
              go_wp2_with fail
              go_ret
              exact ⟨rfl, below_kept K8.out (below_kept K11.out hkr.out)⟩
end Go.Proofs.YtnnnpnmiepbbeaaDoor
