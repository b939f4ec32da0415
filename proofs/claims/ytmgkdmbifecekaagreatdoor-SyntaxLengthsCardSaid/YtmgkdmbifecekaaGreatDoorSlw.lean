/-
 The law on lengths.
-/
import Derived.Test.YtmgkdmbifecekaaGreatDoorMlbl
import Derived.Test.YtmgkdmbifecekaaGreatDoorSrh
set_option linter.all false
set_option linter.unusedSimpArgs false
set_option linter.unusedVariables false
set_option linter.unusedSectionVars false
namespace Go.Proofs.YtmgkdmbifecekaaGreatDoor
open Go.RowKit Go.Shelf
/-- Made, of a slice that lies in an elder world. -/
theorem made_nd (L : List (Int × Int × Int)) (A : Option Addr) (c : Nat) (hc : L.length ≤ c) (hS : ∀ x ∈ L, SmOk x) (W : World) (hr : Rd W W.heap.size A (L.length * 3) (smalls L)) (t : Tree) (ht : t = madeT L) : Calls Tryz.prog 17 #[.slice A L.length c] W fun e w' => ∃ k A1 sn c1 mn mx lz A2 un c2, e = .returned (ndV k A1 sn c1 mn mx lz A2 un c2) ∧ NodeM W.heap.size w' t (ndV k A1 sn c1 mn mx lz A2 un c2) ∧ Kept W w' := by
 refine (made_any L A c hc hS W hr).mono ?_
 rintro e w' ⟨v, rfl, hn, hk⟩
 subst ht
 generalize madeT L = t at hn ⊢
 obtain ⟨k, set, mn, mx, lz, subs⟩ := t
 obtain ⟨A1, c1, A2, c2, rfl, _⟩ := hn.nd
 exact ⟨k, A1, _, c1, mn, mx, lz, A2, _, c2, rfl, hn, hk⟩
theorem smalls_take (L : List (Int × Int × Int)) (n : Nat) : smalls (L.take n) = (smalls L).take (n * 3) := by
 induction L generalizing n with
 | nil => simp [smalls]
 | cons x L ih =>
  cases n with
  | zero => simp [smalls]
  | succ n =>
   have := ih n
   unfold smalls at this ⊢
   rw [List.take_succ_cons, List.flatMap_cons, List.flatMap_cons, this, show (n + 1) * 3 = (smV x).length + n * 3 from by simp [smV]; omega, List.take_length_add_append]
theorem smalls_len (L : List (Int × Int × Int)) : (smalls L).length = L.length * 3 := by
 induction L with
 | nil => rfl
 | cons x L ih =>
  unfold smalls at ih ⊢
  rw [List.flatMap_cons, List.length_append, ih, List.length_cons]
  simp [smV]
  omega
theorem rd_take {w : World} {B : Nat} {A : Option Addr} {L : List (Int × Int × Int)} (n : Nat) (hn : n ≤ L.length) (h : Rd w B A (L.length * 3) (smalls L)) : Rd w B A ((L.take n).length * 3) (smalls (L.take n)) := by
 have hl : (L.take n).length = n := by rw [List.length_take]; omega
 refine ⟨smalls_len _, fun h0 => ?_⟩
 rw [hl] at h0
 obtain ⟨ad, rfl, hb, hc⟩ := h.2 (by omega)
 refine ⟨ad, rfl, hb, fun j v hj => hc j v ?_⟩
 rw [smalls_take, List.getElem?_take] at hj
 split at hj
 ·exact hj
 ·cases hj
section
variable (t1 t2 : Tree) (w1 : World) (E1 E2 : Option Addr) (n1 n2 m1 m2 : Nat) (f1 f2 : Nat) (h1 : n1 ≤ m1) (h2 : n2 ≤ m2) (hm1 : m1 ≤ f1) (hm2 : m2 ≤ f2)
end
set_option maxRecDepth 100000 in
set_option maxHeartbeats 40000000 in
theorem lengths_of_made (t1 t2 : Tree) (hT1 : TrG t1 ∧ (factsT t1).depth ≤ 16 ∧ (factsT t1).groups ≤ 15) (hT2 : TrG t2 ∧ (factsT t2).depth ≤ 16 ∧ (factsT t2).groups ≤ 15) (w : World) (E1 E2 : Option Addr) (l1 l2 f1 f2 : Nat) (hf1 : l1 ≤ f1) (hf2 : l2 ≤ f2) (hg1 : f1 ≤ maxLen) (hg2 : f2 ≤ maxLen)
  (CM1 : Hid (∀ W, Kept w W → Calls Tryz.prog 17 #[.slice E1 (min l1 15) f1] W fun e w' => ∃ k A1 sn c1 mn mx lz A2 un c2, e = .returned (ndV k A1 sn c1 mn mx lz A2 un c2) ∧ NodeM W.heap.size w' t1 (ndV k A1 sn c1 mn mx lz A2 un c2) ∧ Kept W w'))
  (CM2 : Hid (∀ W, Kept w W → Calls Tryz.prog 17 #[.slice E2 (min l2 15) f2] W fun e w' => ∃ k A1 sn c1 mn mx lz A2 un c2, e = .returned (ndV k A1 sn c1 mn mx lz A2 un c2) ∧ NodeM W.heap.size w' t2 (ndV k A1 sn c1 mn mx lz A2 un c2) ∧ Kept W w')) :
  Calls Tryz.prog 7 #[.slice E1 l1 f1, .slice E2 l2 f2] w fun e w' => e = .returned (.bool true) ∧ Kept w w' := by
 obtain ⟨n1, hn1⟩ : ∃ n, n = min l1 15 := ⟨_, rfl⟩
 obtain ⟨n2, hn2⟩ : ∃ n, n = min l2 15 := ⟨_, rfl⟩
 rw [← hn1] at CM1
 rw [← hn2] at CM2
 have e1 : min (l1 : Int) 15 = (n1 : Int) := by omega
 have e2 : min (l2 : Int) 15 = (n2 : Int) := by omega
 have hn1f : n1 ≤ f1 := by omega
 have hn2f : n2 ≤ f2 := by omega
 unfold maxLen at hg1 hg2
 have HT1 := Lib.hid hT1
 have HT2 := Lib.hid hT2
 clear hT1 hT2 hn1 hn2
 go_enter Tryz.func7, Tryz.ntmps7
 go_wp2_with fail
 refine (awake_any w).mono ?_
 rintro e w1 ⟨rfl, hk1⟩
 have HK1 := Lib.hid hk1
 replace CM1 := Lib.hid (fun W (hW : Below w1.heap.size w1 W) => CM1.out W (hk1.trans (hW.mono hk1.size)))
 replace CM2 := Lib.hid (fun W (hW : Below w1.heap.size w1 W) => CM2.out W (hk1.trans (hW.mono hk1.size)))
 unfold ndV at CM1 CM2
 clear hk1
 go_upto_region 3 with fail
 go_cut [5, 6] (fun v5 v6 wx => ∃ p5 p6 k1 A1 sn1 c1 mn1 mx1 lz1 B1 un1 d1 k2 A2 sn2 c2 mn2 mx2 lz2 B2 un2 d2, v5 = .pointer (some ⟨p5, 0, none⟩) ∧ v6 = .pointer (some ⟨p6, 0, none⟩) ∧ p5 ≠ p6 ∧ Hid (NodeV wx t1 (.agg #[.int .u8 k1, .slice A1 sn1 c1, .int .i64 mn1, .int .i64 mx1, .bool lz1, .slice B1 un1 d1])) ∧ Hid (NodeV wx t2 (.agg #[.int .u8 k2, .slice A2 sn2 c2, .int .i64 mn2, .int .i64 mx2, .bool lz2, .slice B2 un2 d2])) ∧ Hid (wx.heap[p5]? = some (.cells #[.int .u8 k1, .slice A1 sn1 c1, .int .i64 mn1, .int .i64 mx1, .bool lz1, .slice B1 un1 d1] 25 (0, 0))) ∧ Hid (wx.heap[p6]? = some (.cells #[.int .u8 k2, .slice A2 sn2 c2, .int .i64 mn2, .int .i64 mx2, .bool lz2, .slice B2 un2 d2] 25 (0, 0))) ∧ Hid (Below w1.heap.size w1 wx))
 case first =>
  refine wp_region_held_drew (S := fun W => Below w1.heap.size w1 W) (by kernel_rfl) (below_drew0 (Below.refl _ _)) (fun hHeld => ?_)
  obtain ⟨wc, hwc⟩ : ∃ x, x = w1.drew := ⟨_, rfl⟩
  have HS0 : Hid (w1.heap.size ≤ wc.heap.size) := by rw [hwc]; exact Nat.le_refl _
  rw [← hwc] at hHeld ⊢
  clear hwc
  refine tkC 0 (oi := ⟨some 29, _, _, _, _, _⟩) (v := ?_) rfl (by kernel_rfl) (fun _ _ _ h => h) (by rfl) ?_ hHeld ?_
  rotate_left
  ·(intro w hSw; refine .inl ?_; go_simp; (try with_reducible rfl))
  try simp only [pU1, pU2, pU3, pU4]
  refine tkC 1 (oi := ⟨some 30, _, _, _, _, _⟩) (v := ?_) rfl (by kernel_rfl) (fun _ _ _ h => h) (by rfl) ?_ hHeld ?_
  rotate_left
  ·(intro w hSw; refine .inl ?_; go_simp; (try with_reducible rfl))
  try simp only [pU1, pU2, pU3, pU4]
  refine tkC 2 (oi := ⟨some 31, _, _, _, _, _⟩) (v := ?_) rfl (by kernel_rfl) (fun _ _ _ h => h) (by rfl) ?_ hHeld ?_
  rotate_left
  ·(intro w hSw; refine .inl ?_; go_simp; (try with_reducible rfl))
  try simp only [pU1, pU2, pU3, pU4]
  refine tkC 3 (oi := ⟨some 32, _, _, _, _, _⟩) (v := ?_) rfl (by kernel_rfl) (fun _ _ _ h => h) (by rfl) ?_ hHeld ?_
  rotate_left
  ·(intro w hSw; refine .inl ?_; go_simp; (try with_reducible rfl))
  try simp only [pU1, pU2, pU3, pU4]
  refine tkC 4 (oi := ⟨some 33, _, _, _, _, _⟩) (v := ?_) rfl (by kernel_rfl) (fun _ _ _ h => h) (by rfl) ?_ hHeld ?_
  rotate_left
  ·(intro w hSw; refine .inl ?_; go_simp; (try with_reducible rfl))
  try simp only [pU1, pU2, pU3, pU4]
  refine tkC 6 (oi := ⟨some 35, _, _, _, _, _⟩) (v := ?_) rfl (by kernel_rfl) (fun _ _ _ h => h) (by rfl) ?_ hHeld ?_
  rotate_left
  ·(intro w hSw; refine .inl ?_; go_simp; (try with_reducible rfl))
  try simp only [pU1, pU2, pU3, pU4]
  refine tkC 7 (oi := ⟨some 36, _, _, _, _, _⟩) (v := ?_) rfl (by kernel_rfl) (fun _ _ _ h => h) (by rfl) ?_ hHeld ?_
  rotate_left
  ·(intro w hSw; refine .inl ?_; go_simp; (try with_reducible rfl))
  try simp only [pU1, pU2, pU3, pU4]
  refine tkC 8 (oi := ⟨some 37, _, _, _, _, _⟩) (v := ?_) rfl (by kernel_rfl) (fun _ _ _ h => h) (by rfl) ?_ hHeld ?_
  rotate_left
  ·(intro w hSw; refine .inl ?_; go_simp; (try with_reducible rfl))
  try simp only [pU1, pU2, pU3, pU4]
  refine tkC 9 (oi := ⟨some 38, _, _, _, _, _⟩) (v := ?_) rfl (by kernel_rfl) (fun _ _ _ h => h) (by rfl) ?_ hHeld ?_
  rotate_left
  ·(intro w hSw; refine .inl ?_; go_simp; (try with_reducible rfl))
  try simp only [pU1, pU2, pU3, pU4]
  refine tkC 10 (oi := ⟨some 39, _, _, _, _, _⟩) (v := ?_) rfl (by kernel_rfl) (fun _ _ _ h => h) (by rfl) ?_ hHeld ?_
  rotate_left
  ·(intro w hSw; refine .inl ?_; go_simp; (try with_reducible rfl))
  try simp only [pU1, pU2, pU3, pU4]
  refine wpAnyH_ready (rs := [5, 12, 13]) (by kernel_rfl) (by simp) ?_
  refine AllReadyH.cons (o := ⟨some 34, _, _, _, _, _⟩) rfl (fun K hK => ?_) (AllReadyH.cons (o := ⟨some 5, _, _, _, _, _⟩) rfl (fun K hK => ?_) (AllReadyH.cons (o := ⟨some 6, _, _, _, _, _⟩) rfl (fun K hK => ?_) (AllReadyH.nil)))
  ·go_simp
   refine (CM1.out _ hHeld).mono ?_
   rintro e x1 ⟨k1, A1, sn1, c1, mn1, mx1, lz1, B1, un1, d1, rfl, hm1, hkx⟩
   have HM1 := Lib.hid hm1
   have Hs1 := Lib.hid hkx.size
   have HKM1 : Hid (Kept x1 x1) := Below.refl _ _
   refine hK.out _ _ (hHeld.trans (hkx.mono hHeld.size)) (fun hHeld2 => ?_)
   clear hHeld
   have hHeld := hHeld2
   clear hHeld2 hm1 hkx hK
   try simp only [pU1, pU2, pU3, pU4]
   refine wpAnyH_ready (rs := [11, 12, 13]) (by kernel_rfl) (by simp) ?_
   refine AllReadyH.cons (o := ⟨some 40, _, _, _, _, _⟩) rfl (fun K hK => ?_) (AllReadyH.cons (o := ⟨some 5, _, _, _, _, _⟩) rfl (fun K hK => ?_) (AllReadyH.cons (o := ⟨some 6, _, _, _, _, _⟩) rfl (fun K hK => ?_) (AllReadyH.nil)))
   ·go_simp
    refine (CM2.out _ hHeld).mono ?_
    rintro e x2 ⟨k2, A2, sn2, c2, mn2, mx2, lz2, B2, un2, d2, rfl, hm2, hkx⟩
    have HM2 := Lib.hid hm2
    have Hs2 := Lib.hid hkx.size
    replace HKM1 := Lib.hid (below_kept HKM1.out hkx)
    have HKM2 : Hid (Kept x2 x2) := Below.refl _ _
    refine hK.out _ _ (hHeld.trans (hkx.mono hHeld.size)) (fun hHeld2 => ?_)
    clear hHeld
    have hHeld := hHeld2
    clear hHeld2 hm2 hkx hK
    try simp only [pU1, pU2, pU3, pU4]
    refine wpAnyH_ready (rs := [12, 13]) (by kernel_rfl) (by simp) ?_
    refine AllReadyH.cons (o := ⟨some 5, _, _, _, _, _⟩) rfl (fun K hK => ?_) (AllReadyH.cons (o := ⟨some 6, _, _, _, _, _⟩) rfl (fun K hK => ?_) (AllReadyH.nil))
    ·go_simp
     refine hK.out _ _ (below_alloc0 hHeld _) (fun hHeld2 => ?_)
     clear hHeld
     have hHeld := hHeld2
     clear hHeld2 hK
     try simp only [pU1, pU2, pU3, pU4]
     obtain ⟨x3, hx⟩ : ∃ x, x = (x2.alloc (.cells #[.int .u8 0, .slice none 0 0, .int .i64 0, .int .i64 0, .bool false, .slice none 0 0] 25)) := ⟨_, rfl⟩
     have hkx : Kept x2 x3 := by rw [hx]; exact (Below.refl _ _).alloc (Nat.le_refl _) _
     have Hs3 : Hid (x3.heap.size = x2.heap.size + 1) := by rw [hx]; show _ = _; simp
     obtain ⟨p5, hp5⟩ : ∃ b, b = x2.heap.size := ⟨_, rfl⟩
     replace HKM1 := Lib.hid (below_kept HKM1.out hkx)
     replace HKM2 := Lib.hid (below_kept HKM2.out hkx)
     have Hbp5 : Hid (x3.heap[p5]? = some (.cells #[.int .u8 0, .slice none 0 0, .int .i64 0, .int .i64 0, .bool false, .slice none 0 0] 25 (0, 0))) := by rw [hx, hp5]; exact heap_alloc_new x2 _
     rw [← hx] at hHeld ⊢
     have HPp5 : Hid (p5 = x2.heap.size) := Lib.hid hp5
     rw [← hp5]
     clear hx hkx hp5
     refine wpAnyH_ready (rs := [13]) (by kernel_rfl) (by simp) ?_
     refine AllReadyH.cons (o := ⟨some 6, _, _, _, _, _⟩) rfl (fun K hK => ?_) (AllReadyH.nil)
     go_simp
     refine hK.out _ _ (below_alloc0 hHeld _) (fun hHeld2 => ?_)
     clear hHeld
     have hHeld := hHeld2
     clear hHeld2 hK
     try simp only [pU1, pU2, pU3, pU4]
     obtain ⟨x4, hx⟩ : ∃ x, x = (x3.alloc (.cells #[.int .u8 0, .slice none 0 0, .int .i64 0, .int .i64 0, .bool false, .slice none 0 0] 25)) := ⟨_, rfl⟩
     have hkx : Kept x3 x4 := by rw [hx]; exact (Below.refl _ _).alloc (Nat.le_refl _) _
     have Hs4 : Hid (x4.heap.size = x3.heap.size + 1) := by rw [hx]; show _ = _; simp
     obtain ⟨p6, hp6⟩ : ∃ b, b = x3.heap.size := ⟨_, rfl⟩
     replace Hbp5 := Lib.hid (heap_kept hkx Hbp5.out)
     replace HKM1 := Lib.hid (below_kept HKM1.out hkx)
     replace HKM2 := Lib.hid (below_kept HKM2.out hkx)
     have Hbp6 : Hid (x4.heap[p6]? = some (.cells #[.int .u8 0, .slice none 0 0, .int .i64 0, .int .i64 0, .bool false, .slice none 0 0] 25 (0, 0))) := by rw [hx, hp6]; exact heap_alloc_new x3 _
     rw [← hx] at hHeld ⊢
     have HPp6 : Hid (p6 = x3.heap.size) := Lib.hid hp6
     rw [← hp6]
     clear hx hkx hp6
     refine wpAnyH_ready (rs := [14]) (by kernel_rfl) (by simp) ?_
     refine AllReadyH.cons (o := ⟨none, _, _, _, _, _⟩) rfl (fun K hK => ?_) (AllReadyH.nil)
     have hne : p5 ≠ p6 := by have h1 := HPp5.out; have h2 := HPp6.out; have a1 := Hs1.out; have a2 := Hs2.out; have a3 := Hs3.out; have a4 := Hs4.out; omega
     have z0 := row_cells Hbp5.out 0 _ rfl
     have z1 := row_cells Hbp5.out 1 _ rfl
     have z2 := row_cells Hbp5.out 2 _ rfl
     have z3 := row_cells Hbp5.out 3 _ rfl
     have z4 := row_cells Hbp5.out 4 _ rfl
     have z5 := row_cells Hbp5.out 5 _ rfl
     rw [add0] at z0 z1 z2 z3 z4 z5
     have zf : ∀ j, x4.frozen? ⟨p5, j, none⟩ = false := fun j => Lib.frozen_of_heap Hbp5.out j
     go_simp
     rw [setCell6 Hbp5.out]
     refine hK.out _ _ (below_setRow hHeld (by have h1 := HPp5.out; have h2 := HS0.out; have a1 := Hs1.out; have a2 := Hs2.out; have a3 := Hs3.out; have a4 := Hs4.out; omega) _) (fun hHeld2 => ?_)
     clear hHeld z0 z1 z2 z3 z4 z5 zf
     have hHeld := hHeld2
     clear hHeld2 hK
     try simp only [pU1, pU2, pU3, pU4]
     have Hcp5 : Hid ((x4.setRow p5 #[.int .u8 k1, .slice A1 sn1 c1, .int .i64 mn1, .int .i64 mx1, .bool lz1, .slice B1 un1 d1]).heap[p5]? = some (.cells #[.int .u8 k1, .slice A1 sn1 c1, .int .i64 mn1, .int .i64 mx1, .bool lz1, .slice B1 un1 d1] 25 (0, 0))) := setRow_heap _ _ _ _ _ _ Hbp5.out
     have Hq := Lib.hid ((heap_setRow_out (w := x4) (Ne.symm hne) #[.int .u8 k1, .slice A1 sn1 c1, .int .i64 mn1, .int .i64 mx1, .bool lz1, .slice B1 un1 d1]).trans Hbp6.out)
     have Hw : Hid (∀ k, k ≠ p5 → (x4.setRow p5 #[.int .u8 k1, .slice A1 sn1 c1, .int .i64 mn1, .int .i64 mx1, .bool lz1, .slice B1 un1 d1]).heap[k]? = x4.heap[k]?) := fun k hk => heap_setRow_out hk _
     have hss : x4.heap.size ≤ (x4.setRow p5 #[.int .u8 k1, .slice A1 sn1 c1, .int .i64 mn1, .int .i64 mx1, .bool lz1, .slice B1 un1 d1]).heap.size := (below_setRow (Below.refl p5 x4) (Nat.le_refl _) _).size
     obtain ⟨x5, hx⟩ : ∃ x, x = (x4.setRow p5 #[.int .u8 k1, .slice A1 sn1 c1, .int .i64 mn1, .int .i64 mx1, .bool lz1, .slice B1 un1 d1]) := ⟨_, rfl⟩
     rw [← hx] at hHeld Hcp5 Hq Hw hss ⊢
     clear hx Hbp6
     have Hbp6 := Hq
     clear Hq
     refine wpAnyH_ready (rs := [15]) (by kernel_rfl) (by simp) ?_
     refine AllReadyH.cons (o := ⟨none, _, _, _, _, _⟩) rfl (fun K hK => ?_) (AllReadyH.nil)
     have z0 := row_cells Hbp6.out 0 _ rfl
     have z1 := row_cells Hbp6.out 1 _ rfl
     have z2 := row_cells Hbp6.out 2 _ rfl
     have z3 := row_cells Hbp6.out 3 _ rfl
     have z4 := row_cells Hbp6.out 4 _ rfl
     have z5 := row_cells Hbp6.out 5 _ rfl
     rw [add0] at z0 z1 z2 z3 z4 z5
     have zf : ∀ j, x5.frozen? ⟨p6, j, none⟩ = false := fun j => Lib.frozen_of_heap Hbp6.out j
     go_simp
     rw [setCell6 Hbp6.out]
     refine hK.out _ _ (below_setRow hHeld (by have h1 := HPp6.out; have h2 := HS0.out; have a1 := Hs1.out; have a2 := Hs2.out; have a3 := Hs3.out; have a4 := Hs4.out; omega) _) (fun hHeld2 => ?_)
     clear hHeld z0 z1 z2 z3 z4 z5 zf
     have hHeld := hHeld2
     clear hHeld2 hK
     try simp only [pU1, pU2, pU3, pU4]
     have Hcp6 : Hid ((x5.setRow p6 #[.int .u8 k2, .slice A2 sn2 c2, .int .i64 mn2, .int .i64 mx2, .bool lz2, .slice B2 un2 d2]).heap[p6]? = some (.cells #[.int .u8 k2, .slice A2 sn2 c2, .int .i64 mn2, .int .i64 mx2, .bool lz2, .slice B2 un2 d2] 25 (0, 0))) := setRow_heap _ _ _ _ _ _ Hbp6.out
     have Hq := Lib.hid ((heap_setRow_out (w := x5) hne #[.int .u8 k2, .slice A2 sn2 c2, .int .i64 mn2, .int .i64 mx2, .bool lz2, .slice B2 un2 d2]).trans Hcp5.out)
     have Hw2 : Hid (∀ k, k ≠ p6 → (x5.setRow p6 #[.int .u8 k2, .slice A2 sn2 c2, .int .i64 mn2, .int .i64 mx2, .bool lz2, .slice B2 un2 d2]).heap[k]? = x5.heap[k]?) := fun k hk => heap_setRow_out hk _
     have hss2 : x5.heap.size ≤ (x5.setRow p6 #[.int .u8 k2, .slice A2 sn2 c2, .int .i64 mn2, .int .i64 mx2, .bool lz2, .slice B2 un2 d2]).heap.size := (below_setRow (Below.refl p6 x5) (Nat.le_refl _) _).size
     obtain ⟨x6, hx⟩ : ∃ x, x = (x5.setRow p6 #[.int .u8 k2, .slice A2 sn2 c2, .int .i64 mn2, .int .i64 mx2, .bool lz2, .slice B2 un2 d2]) := ⟨_, rfl⟩
     rw [← hx] at hHeld Hcp6 Hq Hw2 hss2 ⊢
     clear hx
     refine wpAnyH_done (by kernel_rfl) ?_ _
     go_wp2_with fail
     go_meet
     have hs1 := Hs1.out
     have hs2 := Hs2.out
     have hs3 := Hs3.out
     have hs4 := Hs4.out
     have hN1 : NodeV x6 t1 (.agg #[.int .u8 k1, .slice A1 sn1 c1, .int .i64 mn1, .int .i64 mx1, .bool lz1, .slice B1 un1 d1]) := (NodeM.grow (b' := 0) HM1.out (Nat.zero_le _) (by have h1 := HKM1.out.size; omega) (fun k h1 h2 => by have h3 := HPp5.out; have h4 := HPp6.out; exact (Hw2.out k (by omega)).trans ((Hw.out k (by omega)).trans (HKM1.out.block k h2)))).un
     have hN2 : NodeV x6 t2 (.agg #[.int .u8 k2, .slice A2 sn2 c2, .int .i64 mn2, .int .i64 mx2, .bool lz2, .slice B2 un2 d2]) := (NodeM.grow (b' := 0) HM2.out (Nat.zero_le _) (by have h1 := HKM2.out.size; omega) (fun k h1 h2 => by have h3 := HPp5.out; have h4 := HPp6.out; exact (Hw2.out k (by omega)).trans ((Hw.out k (by omega)).trans (HKM2.out.block k h2)))).un
     exact ⟨p5, p6, k1, A1, sn1, c1, mn1, mx1, lz1, B1, un1, d1, k2, A2, sn2, c2, mn2, mx2, lz2, B2, un2, d2, rfl, rfl, hne, Lib.hid hN1, Lib.hid hN2, Hq, Hcp6, Lib.hid hHeld⟩
    ·go_simp
     refine hK.out _ _ (below_alloc0 hHeld _) (fun hHeld2 => ?_)
     clear hHeld
     have hHeld := hHeld2
     clear hHeld2 hK
     try simp only [pU1, pU2, pU3, pU4]
     obtain ⟨x7, hx⟩ : ∃ x, x = (x2.alloc (.cells #[.int .u8 0, .slice none 0 0, .int .i64 0, .int .i64 0, .bool false, .slice none 0 0] 25)) := ⟨_, rfl⟩
     have hkx : Kept x2 x7 := by rw [hx]; exact (Below.refl _ _).alloc (Nat.le_refl _) _
     have Hs7 : Hid (x7.heap.size = x2.heap.size + 1) := by rw [hx]; show _ = _; simp
     obtain ⟨p6, hp6⟩ : ∃ b, b = x2.heap.size := ⟨_, rfl⟩
     replace HKM1 := Lib.hid (below_kept HKM1.out hkx)
     replace HKM2 := Lib.hid (below_kept HKM2.out hkx)
     have Hbp6 : Hid (x7.heap[p6]? = some (.cells #[.int .u8 0, .slice none 0 0, .int .i64 0, .int .i64 0, .bool false, .slice none 0 0] 25 (0, 0))) := by rw [hx, hp6]; exact heap_alloc_new x2 _
     rw [← hx] at hHeld ⊢
     have HPp6 : Hid (p6 = x2.heap.size) := Lib.hid hp6
     rw [← hp6]
     clear hx hkx hp6
     refine wpAnyH_ready (rs := [12]) (by kernel_rfl) (by simp) ?_
     refine AllReadyH.cons (o := ⟨some 5, _, _, _, _, _⟩) rfl (fun K hK => ?_) (AllReadyH.nil)
     go_simp
     refine hK.out _ _ (below_alloc0 hHeld _) (fun hHeld2 => ?_)
     clear hHeld
     have hHeld := hHeld2
     clear hHeld2 hK
     try simp only [pU1, pU2, pU3, pU4]
     obtain ⟨x8, hx⟩ : ∃ x, x = (x7.alloc (.cells #[.int .u8 0, .slice none 0 0, .int .i64 0, .int .i64 0, .bool false, .slice none 0 0] 25)) := ⟨_, rfl⟩
     have hkx : Kept x7 x8 := by rw [hx]; exact (Below.refl _ _).alloc (Nat.le_refl _) _
     have Hs8 : Hid (x8.heap.size = x7.heap.size + 1) := by rw [hx]; show _ = _; simp
     obtain ⟨p5, hp5⟩ : ∃ b, b = x7.heap.size := ⟨_, rfl⟩
     replace Hbp6 := Lib.hid (heap_kept hkx Hbp6.out)
     replace HKM1 := Lib.hid (below_kept HKM1.out hkx)
     replace HKM2 := Lib.hid (below_kept HKM2.out hkx)
     have Hbp5 : Hid (x8.heap[p5]? = some (.cells #[.int .u8 0, .slice none 0 0, .int .i64 0, .int .i64 0, .bool false, .slice none 0 0] 25 (0, 0))) := by rw [hx, hp5]; exact heap_alloc_new x7 _
     rw [← hx] at hHeld ⊢
     have HPp5 : Hid (p5 = x7.heap.size) := Lib.hid hp5
     rw [← hp5]
     clear hx hkx hp5
     refine wpAnyH_ready (rs := [14]) (by kernel_rfl) (by simp) ?_
     refine AllReadyH.cons (o := ⟨none, _, _, _, _, _⟩) rfl (fun K hK => ?_) (AllReadyH.nil)
     have hne : p5 ≠ p6 := by have h1 := HPp5.out; have h2 := HPp6.out; have a1 := Hs1.out; have a2 := Hs2.out; have a7 := Hs7.out; have a8 := Hs8.out; omega
     have z0 := row_cells Hbp5.out 0 _ rfl
     have z1 := row_cells Hbp5.out 1 _ rfl
     have z2 := row_cells Hbp5.out 2 _ rfl
     have z3 := row_cells Hbp5.out 3 _ rfl
     have z4 := row_cells Hbp5.out 4 _ rfl
     have z5 := row_cells Hbp5.out 5 _ rfl
     rw [add0] at z0 z1 z2 z3 z4 z5
     have zf : ∀ j, x8.frozen? ⟨p5, j, none⟩ = false := fun j => Lib.frozen_of_heap Hbp5.out j
     go_simp
     rw [setCell6 Hbp5.out]
     refine hK.out _ _ (below_setRow hHeld (by have h1 := HPp5.out; have h2 := HS0.out; have a1 := Hs1.out; have a2 := Hs2.out; have a7 := Hs7.out; have a8 := Hs8.out; omega) _) (fun hHeld2 => ?_)
     clear hHeld z0 z1 z2 z3 z4 z5 zf
     have hHeld := hHeld2
     clear hHeld2 hK
     try simp only [pU1, pU2, pU3, pU4]
     have Hcp5 : Hid ((x8.setRow p5 #[.int .u8 k1, .slice A1 sn1 c1, .int .i64 mn1, .int .i64 mx1, .bool lz1, .slice B1 un1 d1]).heap[p5]? = some (.cells #[.int .u8 k1, .slice A1 sn1 c1, .int .i64 mn1, .int .i64 mx1, .bool lz1, .slice B1 un1 d1] 25 (0, 0))) := setRow_heap _ _ _ _ _ _ Hbp5.out
     have Hq := Lib.hid ((heap_setRow_out (w := x8) (Ne.symm hne) #[.int .u8 k1, .slice A1 sn1 c1, .int .i64 mn1, .int .i64 mx1, .bool lz1, .slice B1 un1 d1]).trans Hbp6.out)
     have Hw : Hid (∀ k, k ≠ p5 → (x8.setRow p5 #[.int .u8 k1, .slice A1 sn1 c1, .int .i64 mn1, .int .i64 mx1, .bool lz1, .slice B1 un1 d1]).heap[k]? = x8.heap[k]?) := fun k hk => heap_setRow_out hk _
     have hss : x8.heap.size ≤ (x8.setRow p5 #[.int .u8 k1, .slice A1 sn1 c1, .int .i64 mn1, .int .i64 mx1, .bool lz1, .slice B1 un1 d1]).heap.size := (below_setRow (Below.refl p5 x8) (Nat.le_refl _) _).size
     obtain ⟨x9, hx⟩ : ∃ x, x = (x8.setRow p5 #[.int .u8 k1, .slice A1 sn1 c1, .int .i64 mn1, .int .i64 mx1, .bool lz1, .slice B1 un1 d1]) := ⟨_, rfl⟩
     rw [← hx] at hHeld Hcp5 Hq Hw hss ⊢
     clear hx Hbp6
     have Hbp6 := Hq
     clear Hq
     refine wpAnyH_ready (rs := [15]) (by kernel_rfl) (by simp) ?_
     refine AllReadyH.cons (o := ⟨none, _, _, _, _, _⟩) rfl (fun K hK => ?_) (AllReadyH.nil)
     have z0 := row_cells Hbp6.out 0 _ rfl
     have z1 := row_cells Hbp6.out 1 _ rfl
     have z2 := row_cells Hbp6.out 2 _ rfl
     have z3 := row_cells Hbp6.out 3 _ rfl
     have z4 := row_cells Hbp6.out 4 _ rfl
     have z5 := row_cells Hbp6.out 5 _ rfl
     rw [add0] at z0 z1 z2 z3 z4 z5
     have zf : ∀ j, x9.frozen? ⟨p6, j, none⟩ = false := fun j => Lib.frozen_of_heap Hbp6.out j
     go_simp
     rw [setCell6 Hbp6.out]
     refine hK.out _ _ (below_setRow hHeld (by have h1 := HPp6.out; have h2 := HS0.out; have a1 := Hs1.out; have a2 := Hs2.out; have a7 := Hs7.out; have a8 := Hs8.out; omega) _) (fun hHeld2 => ?_)
     clear hHeld z0 z1 z2 z3 z4 z5 zf
     have hHeld := hHeld2
     clear hHeld2 hK
     try simp only [pU1, pU2, pU3, pU4]
     have Hcp6 : Hid ((x9.setRow p6 #[.int .u8 k2, .slice A2 sn2 c2, .int .i64 mn2, .int .i64 mx2, .bool lz2, .slice B2 un2 d2]).heap[p6]? = some (.cells #[.int .u8 k2, .slice A2 sn2 c2, .int .i64 mn2, .int .i64 mx2, .bool lz2, .slice B2 un2 d2] 25 (0, 0))) := setRow_heap _ _ _ _ _ _ Hbp6.out
     have Hq := Lib.hid ((heap_setRow_out (w := x9) hne #[.int .u8 k2, .slice A2 sn2 c2, .int .i64 mn2, .int .i64 mx2, .bool lz2, .slice B2 un2 d2]).trans Hcp5.out)
     have Hw2 : Hid (∀ k, k ≠ p6 → (x9.setRow p6 #[.int .u8 k2, .slice A2 sn2 c2, .int .i64 mn2, .int .i64 mx2, .bool lz2, .slice B2 un2 d2]).heap[k]? = x9.heap[k]?) := fun k hk => heap_setRow_out hk _
     have hss2 : x9.heap.size ≤ (x9.setRow p6 #[.int .u8 k2, .slice A2 sn2 c2, .int .i64 mn2, .int .i64 mx2, .bool lz2, .slice B2 un2 d2]).heap.size := (below_setRow (Below.refl p6 x9) (Nat.le_refl _) _).size
     obtain ⟨x10, hx⟩ : ∃ x, x = (x9.setRow p6 #[.int .u8 k2, .slice A2 sn2 c2, .int .i64 mn2, .int .i64 mx2, .bool lz2, .slice B2 un2 d2]) := ⟨_, rfl⟩
     rw [← hx] at hHeld Hcp6 Hq Hw2 hss2 ⊢
     clear hx
     refine wpAnyH_done (by kernel_rfl) ?_ _
     go_wp2_with fail
     go_meet
     have hs1 := Hs1.out
     have hs2 := Hs2.out
     have hs7 := Hs7.out
     have hs8 := Hs8.out
     have hN1 : NodeV x10 t1 (.agg #[.int .u8 k1, .slice A1 sn1 c1, .int .i64 mn1, .int .i64 mx1, .bool lz1, .slice B1 un1 d1]) := (NodeM.grow (b' := 0) HM1.out (Nat.zero_le _) (by have h1 := HKM1.out.size; omega) (fun k h1 h2 => by have h3 := HPp5.out; have h4 := HPp6.out; exact (Hw2.out k (by omega)).trans ((Hw.out k (by omega)).trans (HKM1.out.block k h2)))).un
     have hN2 : NodeV x10 t2 (.agg #[.int .u8 k2, .slice A2 sn2 c2, .int .i64 mn2, .int .i64 mx2, .bool lz2, .slice B2 un2 d2]) := (NodeM.grow (b' := 0) HM2.out (Nat.zero_le _) (by have h1 := HKM2.out.size; omega) (fun k h1 h2 => by have h3 := HPp5.out; have h4 := HPp6.out; exact (Hw2.out k (by omega)).trans ((Hw.out k (by omega)).trans (HKM2.out.block k h2)))).un
     exact ⟨p5, p6, k1, A1, sn1, c1, mn1, mx1, lz1, B1, un1, d1, k2, A2, sn2, c2, mn2, mx2, lz2, B2, un2, d2, rfl, rfl, hne, Lib.hid hN1, Lib.hid hN2, Hq, Hcp6, Lib.hid hHeld⟩
   ·go_simp
    refine hK.out _ _ (below_alloc0 hHeld _) (fun hHeld2 => ?_)
    clear hHeld
    have hHeld := hHeld2
    clear hHeld2 hK
    try simp only [pU1, pU2, pU3, pU4]
    obtain ⟨x11, hx⟩ : ∃ x, x = (x1.alloc (.cells #[.int .u8 0, .slice none 0 0, .int .i64 0, .int .i64 0, .bool false, .slice none 0 0] 25)) := ⟨_, rfl⟩
    have hkx : Kept x1 x11 := by rw [hx]; exact (Below.refl _ _).alloc (Nat.le_refl _) _
    have Hs11 : Hid (x11.heap.size = x1.heap.size + 1) := by rw [hx]; show _ = _; simp
    obtain ⟨p5, hp5⟩ : ∃ b, b = x1.heap.size := ⟨_, rfl⟩
    replace HKM1 := Lib.hid (below_kept HKM1.out hkx)
    have Hbp5 : Hid (x11.heap[p5]? = some (.cells #[.int .u8 0, .slice none 0 0, .int .i64 0, .int .i64 0, .bool false, .slice none 0 0] 25 (0, 0))) := by rw [hx, hp5]; exact heap_alloc_new x1 _
    rw [← hx] at hHeld ⊢
    have HPp5 : Hid (p5 = x1.heap.size) := Lib.hid hp5
    rw [← hp5]
    clear hx hkx hp5
    refine wpAnyH_ready (rs := [11, 13]) (by kernel_rfl) (by simp) ?_
    refine AllReadyH.cons (o := ⟨some 40, _, _, _, _, _⟩) rfl (fun K hK => ?_) (AllReadyH.cons (o := ⟨some 6, _, _, _, _, _⟩) rfl (fun K hK => ?_) (AllReadyH.nil))
    ·go_simp
     refine (CM2.out _ hHeld).mono ?_
     rintro e x12 ⟨k2, A2, sn2, c2, mn2, mx2, lz2, B2, un2, d2, rfl, hm2, hkx⟩
     have HM2 := Lib.hid hm2
     have Hs12 := Lib.hid hkx.size
     replace Hbp5 := Lib.hid (heap_kept hkx Hbp5.out)
     replace HKM1 := Lib.hid (below_kept HKM1.out hkx)
     have HKM2 : Hid (Kept x12 x12) := Below.refl _ _
     refine hK.out _ _ (hHeld.trans (hkx.mono hHeld.size)) (fun hHeld2 => ?_)
     clear hHeld
     have hHeld := hHeld2
     clear hHeld2 hm2 hkx hK
     try simp only [pU1, pU2, pU3, pU4]
     refine wpAnyH_ready (rs := [13]) (by kernel_rfl) (by simp) ?_
     refine AllReadyH.cons (o := ⟨some 6, _, _, _, _, _⟩) rfl (fun K hK => ?_) (AllReadyH.nil)
     go_simp
     refine hK.out _ _ (below_alloc0 hHeld _) (fun hHeld2 => ?_)
     clear hHeld
     have hHeld := hHeld2
     clear hHeld2 hK
     try simp only [pU1, pU2, pU3, pU4]
     obtain ⟨x13, hx⟩ : ∃ x, x = (x12.alloc (.cells #[.int .u8 0, .slice none 0 0, .int .i64 0, .int .i64 0, .bool false, .slice none 0 0] 25)) := ⟨_, rfl⟩
     have hkx : Kept x12 x13 := by rw [hx]; exact (Below.refl _ _).alloc (Nat.le_refl _) _
     have Hs13 : Hid (x13.heap.size = x12.heap.size + 1) := by rw [hx]; show _ = _; simp
     obtain ⟨p6, hp6⟩ : ∃ b, b = x12.heap.size := ⟨_, rfl⟩
     replace Hbp5 := Lib.hid (heap_kept hkx Hbp5.out)
     replace HKM1 := Lib.hid (below_kept HKM1.out hkx)
     replace HKM2 := Lib.hid (below_kept HKM2.out hkx)
     have Hbp6 : Hid (x13.heap[p6]? = some (.cells #[.int .u8 0, .slice none 0 0, .int .i64 0, .int .i64 0, .bool false, .slice none 0 0] 25 (0, 0))) := by rw [hx, hp6]; exact heap_alloc_new x12 _
     rw [← hx] at hHeld ⊢
     have HPp6 : Hid (p6 = x12.heap.size) := Lib.hid hp6
     rw [← hp6]
     clear hx hkx hp6
     refine wpAnyH_ready (rs := [14]) (by kernel_rfl) (by simp) ?_
     refine AllReadyH.cons (o := ⟨none, _, _, _, _, _⟩) rfl (fun K hK => ?_) (AllReadyH.nil)
     have hne : p5 ≠ p6 := by have h1 := HPp5.out; have h2 := HPp6.out; have a1 := Hs1.out; have a11 := Hs11.out; have a12 := Hs12.out; have a13 := Hs13.out; omega
     have z0 := row_cells Hbp5.out 0 _ rfl
     have z1 := row_cells Hbp5.out 1 _ rfl
     have z2 := row_cells Hbp5.out 2 _ rfl
     have z3 := row_cells Hbp5.out 3 _ rfl
     have z4 := row_cells Hbp5.out 4 _ rfl
     have z5 := row_cells Hbp5.out 5 _ rfl
     rw [add0] at z0 z1 z2 z3 z4 z5
     have zf : ∀ j, x13.frozen? ⟨p5, j, none⟩ = false := fun j => Lib.frozen_of_heap Hbp5.out j
     go_simp
     rw [setCell6 Hbp5.out]
     refine hK.out _ _ (below_setRow hHeld (by have h1 := HPp5.out; have h2 := HS0.out; have a1 := Hs1.out; have a11 := Hs11.out; have a12 := Hs12.out; have a13 := Hs13.out; omega) _) (fun hHeld2 => ?_)
     clear hHeld z0 z1 z2 z3 z4 z5 zf
     have hHeld := hHeld2
     clear hHeld2 hK
     try simp only [pU1, pU2, pU3, pU4]
     have Hcp5 : Hid ((x13.setRow p5 #[.int .u8 k1, .slice A1 sn1 c1, .int .i64 mn1, .int .i64 mx1, .bool lz1, .slice B1 un1 d1]).heap[p5]? = some (.cells #[.int .u8 k1, .slice A1 sn1 c1, .int .i64 mn1, .int .i64 mx1, .bool lz1, .slice B1 un1 d1] 25 (0, 0))) := setRow_heap _ _ _ _ _ _ Hbp5.out
     have Hq := Lib.hid ((heap_setRow_out (w := x13) (Ne.symm hne) #[.int .u8 k1, .slice A1 sn1 c1, .int .i64 mn1, .int .i64 mx1, .bool lz1, .slice B1 un1 d1]).trans Hbp6.out)
     have Hw : Hid (∀ k, k ≠ p5 → (x13.setRow p5 #[.int .u8 k1, .slice A1 sn1 c1, .int .i64 mn1, .int .i64 mx1, .bool lz1, .slice B1 un1 d1]).heap[k]? = x13.heap[k]?) := fun k hk => heap_setRow_out hk _
     have hss : x13.heap.size ≤ (x13.setRow p5 #[.int .u8 k1, .slice A1 sn1 c1, .int .i64 mn1, .int .i64 mx1, .bool lz1, .slice B1 un1 d1]).heap.size := (below_setRow (Below.refl p5 x13) (Nat.le_refl _) _).size
     obtain ⟨x14, hx⟩ : ∃ x, x = (x13.setRow p5 #[.int .u8 k1, .slice A1 sn1 c1, .int .i64 mn1, .int .i64 mx1, .bool lz1, .slice B1 un1 d1]) := ⟨_, rfl⟩
     rw [← hx] at hHeld Hcp5 Hq Hw hss ⊢
     clear hx Hbp6
     have Hbp6 := Hq
     clear Hq
     refine wpAnyH_ready (rs := [15]) (by kernel_rfl) (by simp) ?_
     refine AllReadyH.cons (o := ⟨none, _, _, _, _, _⟩) rfl (fun K hK => ?_) (AllReadyH.nil)
     have z0 := row_cells Hbp6.out 0 _ rfl
     have z1 := row_cells Hbp6.out 1 _ rfl
     have z2 := row_cells Hbp6.out 2 _ rfl
     have z3 := row_cells Hbp6.out 3 _ rfl
     have z4 := row_cells Hbp6.out 4 _ rfl
     have z5 := row_cells Hbp6.out 5 _ rfl
     rw [add0] at z0 z1 z2 z3 z4 z5
     have zf : ∀ j, x14.frozen? ⟨p6, j, none⟩ = false := fun j => Lib.frozen_of_heap Hbp6.out j
     go_simp
     rw [setCell6 Hbp6.out]
     refine hK.out _ _ (below_setRow hHeld (by have h1 := HPp6.out; have h2 := HS0.out; have a1 := Hs1.out; have a11 := Hs11.out; have a12 := Hs12.out; have a13 := Hs13.out; omega) _) (fun hHeld2 => ?_)
     clear hHeld z0 z1 z2 z3 z4 z5 zf
     have hHeld := hHeld2
     clear hHeld2 hK
     try simp only [pU1, pU2, pU3, pU4]
     have Hcp6 : Hid ((x14.setRow p6 #[.int .u8 k2, .slice A2 sn2 c2, .int .i64 mn2, .int .i64 mx2, .bool lz2, .slice B2 un2 d2]).heap[p6]? = some (.cells #[.int .u8 k2, .slice A2 sn2 c2, .int .i64 mn2, .int .i64 mx2, .bool lz2, .slice B2 un2 d2] 25 (0, 0))) := setRow_heap _ _ _ _ _ _ Hbp6.out
     have Hq := Lib.hid ((heap_setRow_out (w := x14) hne #[.int .u8 k2, .slice A2 sn2 c2, .int .i64 mn2, .int .i64 mx2, .bool lz2, .slice B2 un2 d2]).trans Hcp5.out)
     have Hw2 : Hid (∀ k, k ≠ p6 → (x14.setRow p6 #[.int .u8 k2, .slice A2 sn2 c2, .int .i64 mn2, .int .i64 mx2, .bool lz2, .slice B2 un2 d2]).heap[k]? = x14.heap[k]?) := fun k hk => heap_setRow_out hk _
     have hss2 : x14.heap.size ≤ (x14.setRow p6 #[.int .u8 k2, .slice A2 sn2 c2, .int .i64 mn2, .int .i64 mx2, .bool lz2, .slice B2 un2 d2]).heap.size := (below_setRow (Below.refl p6 x14) (Nat.le_refl _) _).size
     obtain ⟨x15, hx⟩ : ∃ x, x = (x14.setRow p6 #[.int .u8 k2, .slice A2 sn2 c2, .int .i64 mn2, .int .i64 mx2, .bool lz2, .slice B2 un2 d2]) := ⟨_, rfl⟩
     rw [← hx] at hHeld Hcp6 Hq Hw2 hss2 ⊢
     clear hx
     refine wpAnyH_done (by kernel_rfl) ?_ _
     go_wp2_with fail
     go_meet
     have hs1 := Hs1.out
     have hs11 := Hs11.out
     have hs12 := Hs12.out
     have hs13 := Hs13.out
     have hN1 : NodeV x15 t1 (.agg #[.int .u8 k1, .slice A1 sn1 c1, .int .i64 mn1, .int .i64 mx1, .bool lz1, .slice B1 un1 d1]) := (NodeM.grow (b' := 0) HM1.out (Nat.zero_le _) (by have h1 := HKM1.out.size; omega) (fun k h1 h2 => by have h3 := HPp5.out; have h4 := HPp6.out; exact (Hw2.out k (by omega)).trans ((Hw.out k (by omega)).trans (HKM1.out.block k h2)))).un
     have hN2 : NodeV x15 t2 (.agg #[.int .u8 k2, .slice A2 sn2 c2, .int .i64 mn2, .int .i64 mx2, .bool lz2, .slice B2 un2 d2]) := (NodeM.grow (b' := 0) HM2.out (Nat.zero_le _) (by have h1 := HKM2.out.size; omega) (fun k h1 h2 => by have h3 := HPp5.out; have h4 := HPp6.out; exact (Hw2.out k (by omega)).trans ((Hw.out k (by omega)).trans (HKM2.out.block k h2)))).un
     exact ⟨p5, p6, k1, A1, sn1, c1, mn1, mx1, lz1, B1, un1, d1, k2, A2, sn2, c2, mn2, mx2, lz2, B2, un2, d2, rfl, rfl, hne, Lib.hid hN1, Lib.hid hN2, Hq, Hcp6, Lib.hid hHeld⟩
    ·go_simp
     refine hK.out _ _ (below_alloc0 hHeld _) (fun hHeld2 => ?_)
     clear hHeld
     have hHeld := hHeld2
     clear hHeld2 hK
     try simp only [pU1, pU2, pU3, pU4]
     obtain ⟨x16, hx⟩ : ∃ x, x = (x11.alloc (.cells #[.int .u8 0, .slice none 0 0, .int .i64 0, .int .i64 0, .bool false, .slice none 0 0] 25)) := ⟨_, rfl⟩
     have hkx : Kept x11 x16 := by rw [hx]; exact (Below.refl _ _).alloc (Nat.le_refl _) _
     have Hs16 : Hid (x16.heap.size = x11.heap.size + 1) := by rw [hx]; show _ = _; simp
     obtain ⟨p6, hp6⟩ : ∃ b, b = x11.heap.size := ⟨_, rfl⟩
     replace Hbp5 := Lib.hid (heap_kept hkx Hbp5.out)
     replace HKM1 := Lib.hid (below_kept HKM1.out hkx)
     have Hbp6 : Hid (x16.heap[p6]? = some (.cells #[.int .u8 0, .slice none 0 0, .int .i64 0, .int .i64 0, .bool false, .slice none 0 0] 25 (0, 0))) := by rw [hx, hp6]; exact heap_alloc_new x11 _
     rw [← hx] at hHeld ⊢
     have HPp6 : Hid (p6 = x11.heap.size) := Lib.hid hp6
     rw [← hp6]
     clear hx hkx hp6
     refine wpAnyH_ready (rs := [11]) (by kernel_rfl) (by simp) ?_
     refine AllReadyH.cons (o := ⟨some 40, _, _, _, _, _⟩) rfl (fun K hK => ?_) (AllReadyH.nil)
     go_simp
     refine (CM2.out _ hHeld).mono ?_
     rintro e x17 ⟨k2, A2, sn2, c2, mn2, mx2, lz2, B2, un2, d2, rfl, hm2, hkx⟩
     have HM2 := Lib.hid hm2
     have Hs17 := Lib.hid hkx.size
     replace Hbp5 := Lib.hid (heap_kept hkx Hbp5.out)
     replace Hbp6 := Lib.hid (heap_kept hkx Hbp6.out)
     replace HKM1 := Lib.hid (below_kept HKM1.out hkx)
     have HKM2 : Hid (Kept x17 x17) := Below.refl _ _
     refine hK.out _ _ (hHeld.trans (hkx.mono hHeld.size)) (fun hHeld2 => ?_)
     clear hHeld
     have hHeld := hHeld2
     clear hHeld2 hm2 hkx hK
     try simp only [pU1, pU2, pU3, pU4]
     refine wpAnyH_ready (rs := [14]) (by kernel_rfl) (by simp) ?_
     refine AllReadyH.cons (o := ⟨none, _, _, _, _, _⟩) rfl (fun K hK => ?_) (AllReadyH.nil)
     have hne : p5 ≠ p6 := by have h1 := HPp5.out; have h2 := HPp6.out; have a1 := Hs1.out; have a11 := Hs11.out; have a16 := Hs16.out; have a17 := Hs17.out; omega
     have z0 := row_cells Hbp5.out 0 _ rfl
     have z1 := row_cells Hbp5.out 1 _ rfl
     have z2 := row_cells Hbp5.out 2 _ rfl
     have z3 := row_cells Hbp5.out 3 _ rfl
     have z4 := row_cells Hbp5.out 4 _ rfl
     have z5 := row_cells Hbp5.out 5 _ rfl
     rw [add0] at z0 z1 z2 z3 z4 z5
     have zf : ∀ j, x17.frozen? ⟨p5, j, none⟩ = false := fun j => Lib.frozen_of_heap Hbp5.out j
     go_simp
     rw [setCell6 Hbp5.out]
     refine hK.out _ _ (below_setRow hHeld (by have h1 := HPp5.out; have h2 := HS0.out; have a1 := Hs1.out; have a11 := Hs11.out; have a16 := Hs16.out; have a17 := Hs17.out; omega) _) (fun hHeld2 => ?_)
     clear hHeld z0 z1 z2 z3 z4 z5 zf
     have hHeld := hHeld2
     clear hHeld2 hK
     try simp only [pU1, pU2, pU3, pU4]
     have Hcp5 : Hid ((x17.setRow p5 #[.int .u8 k1, .slice A1 sn1 c1, .int .i64 mn1, .int .i64 mx1, .bool lz1, .slice B1 un1 d1]).heap[p5]? = some (.cells #[.int .u8 k1, .slice A1 sn1 c1, .int .i64 mn1, .int .i64 mx1, .bool lz1, .slice B1 un1 d1] 25 (0, 0))) := setRow_heap _ _ _ _ _ _ Hbp5.out
     have Hq := Lib.hid ((heap_setRow_out (w := x17) (Ne.symm hne) #[.int .u8 k1, .slice A1 sn1 c1, .int .i64 mn1, .int .i64 mx1, .bool lz1, .slice B1 un1 d1]).trans Hbp6.out)
     have Hw : Hid (∀ k, k ≠ p5 → (x17.setRow p5 #[.int .u8 k1, .slice A1 sn1 c1, .int .i64 mn1, .int .i64 mx1, .bool lz1, .slice B1 un1 d1]).heap[k]? = x17.heap[k]?) := fun k hk => heap_setRow_out hk _
     have hss : x17.heap.size ≤ (x17.setRow p5 #[.int .u8 k1, .slice A1 sn1 c1, .int .i64 mn1, .int .i64 mx1, .bool lz1, .slice B1 un1 d1]).heap.size := (below_setRow (Below.refl p5 x17) (Nat.le_refl _) _).size
     obtain ⟨x18, hx⟩ : ∃ x, x = (x17.setRow p5 #[.int .u8 k1, .slice A1 sn1 c1, .int .i64 mn1, .int .i64 mx1, .bool lz1, .slice B1 un1 d1]) := ⟨_, rfl⟩
     rw [← hx] at hHeld Hcp5 Hq Hw hss ⊢
     clear hx Hbp6
     have Hbp6 := Hq
     clear Hq
     refine wpAnyH_ready (rs := [15]) (by kernel_rfl) (by simp) ?_
     refine AllReadyH.cons (o := ⟨none, _, _, _, _, _⟩) rfl (fun K hK => ?_) (AllReadyH.nil)
     have z0 := row_cells Hbp6.out 0 _ rfl
     have z1 := row_cells Hbp6.out 1 _ rfl
     have z2 := row_cells Hbp6.out 2 _ rfl
     have z3 := row_cells Hbp6.out 3 _ rfl
     have z4 := row_cells Hbp6.out 4 _ rfl
     have z5 := row_cells Hbp6.out 5 _ rfl
     rw [add0] at z0 z1 z2 z3 z4 z5
     have zf : ∀ j, x18.frozen? ⟨p6, j, none⟩ = false := fun j => Lib.frozen_of_heap Hbp6.out j
     go_simp
     rw [setCell6 Hbp6.out]
     refine hK.out _ _ (below_setRow hHeld (by have h1 := HPp6.out; have h2 := HS0.out; have a1 := Hs1.out; have a11 := Hs11.out; have a16 := Hs16.out; have a17 := Hs17.out; omega) _) (fun hHeld2 => ?_)
     clear hHeld z0 z1 z2 z3 z4 z5 zf
     have hHeld := hHeld2
     clear hHeld2 hK
     try simp only [pU1, pU2, pU3, pU4]
     have Hcp6 : Hid ((x18.setRow p6 #[.int .u8 k2, .slice A2 sn2 c2, .int .i64 mn2, .int .i64 mx2, .bool lz2, .slice B2 un2 d2]).heap[p6]? = some (.cells #[.int .u8 k2, .slice A2 sn2 c2, .int .i64 mn2, .int .i64 mx2, .bool lz2, .slice B2 un2 d2] 25 (0, 0))) := setRow_heap _ _ _ _ _ _ Hbp6.out
     have Hq := Lib.hid ((heap_setRow_out (w := x18) hne #[.int .u8 k2, .slice A2 sn2 c2, .int .i64 mn2, .int .i64 mx2, .bool lz2, .slice B2 un2 d2]).trans Hcp5.out)
     have Hw2 : Hid (∀ k, k ≠ p6 → (x18.setRow p6 #[.int .u8 k2, .slice A2 sn2 c2, .int .i64 mn2, .int .i64 mx2, .bool lz2, .slice B2 un2 d2]).heap[k]? = x18.heap[k]?) := fun k hk => heap_setRow_out hk _
     have hss2 : x18.heap.size ≤ (x18.setRow p6 #[.int .u8 k2, .slice A2 sn2 c2, .int .i64 mn2, .int .i64 mx2, .bool lz2, .slice B2 un2 d2]).heap.size := (below_setRow (Below.refl p6 x18) (Nat.le_refl _) _).size
     obtain ⟨x19, hx⟩ : ∃ x, x = (x18.setRow p6 #[.int .u8 k2, .slice A2 sn2 c2, .int .i64 mn2, .int .i64 mx2, .bool lz2, .slice B2 un2 d2]) := ⟨_, rfl⟩
     rw [← hx] at hHeld Hcp6 Hq Hw2 hss2 ⊢
     clear hx
     refine wpAnyH_done (by kernel_rfl) ?_ _
     go_wp2_with fail
     go_meet
     have hs1 := Hs1.out
     have hs11 := Hs11.out
     have hs16 := Hs16.out
     have hs17 := Hs17.out
     have hN1 : NodeV x19 t1 (.agg #[.int .u8 k1, .slice A1 sn1 c1, .int .i64 mn1, .int .i64 mx1, .bool lz1, .slice B1 un1 d1]) := (NodeM.grow (b' := 0) HM1.out (Nat.zero_le _) (by have h1 := HKM1.out.size; omega) (fun k h1 h2 => by have h3 := HPp5.out; have h4 := HPp6.out; exact (Hw2.out k (by omega)).trans ((Hw.out k (by omega)).trans (HKM1.out.block k h2)))).un
     have hN2 : NodeV x19 t2 (.agg #[.int .u8 k2, .slice A2 sn2 c2, .int .i64 mn2, .int .i64 mx2, .bool lz2, .slice B2 un2 d2]) := (NodeM.grow (b' := 0) HM2.out (Nat.zero_le _) (by have h1 := HKM2.out.size; omega) (fun k h1 h2 => by have h3 := HPp5.out; have h4 := HPp6.out; exact (Hw2.out k (by omega)).trans ((Hw.out k (by omega)).trans (HKM2.out.block k h2)))).un
     exact ⟨p5, p6, k1, A1, sn1, c1, mn1, mx1, lz1, B1, un1, d1, k2, A2, sn2, c2, mn2, mx2, lz2, B2, un2, d2, rfl, rfl, hne, Lib.hid hN1, Lib.hid hN2, Hq, Hcp6, Lib.hid hHeld⟩
   ·go_simp
    refine hK.out _ _ (below_alloc0 hHeld _) (fun hHeld2 => ?_)
    clear hHeld
    have hHeld := hHeld2
    clear hHeld2 hK
    try simp only [pU1, pU2, pU3, pU4]
    obtain ⟨x20, hx⟩ : ∃ x, x = (x1.alloc (.cells #[.int .u8 0, .slice none 0 0, .int .i64 0, .int .i64 0, .bool false, .slice none 0 0] 25)) := ⟨_, rfl⟩
    have hkx : Kept x1 x20 := by rw [hx]; exact (Below.refl _ _).alloc (Nat.le_refl _) _
    have Hs20 : Hid (x20.heap.size = x1.heap.size + 1) := by rw [hx]; show _ = _; simp
    obtain ⟨p6, hp6⟩ : ∃ b, b = x1.heap.size := ⟨_, rfl⟩
    replace HKM1 := Lib.hid (below_kept HKM1.out hkx)
    have Hbp6 : Hid (x20.heap[p6]? = some (.cells #[.int .u8 0, .slice none 0 0, .int .i64 0, .int .i64 0, .bool false, .slice none 0 0] 25 (0, 0))) := by rw [hx, hp6]; exact heap_alloc_new x1 _
    rw [← hx] at hHeld ⊢
    have HPp6 : Hid (p6 = x1.heap.size) := Lib.hid hp6
    rw [← hp6]
    clear hx hkx hp6
    refine wpAnyH_ready (rs := [11, 12]) (by kernel_rfl) (by simp) ?_
    refine AllReadyH.cons (o := ⟨some 40, _, _, _, _, _⟩) rfl (fun K hK => ?_) (AllReadyH.cons (o := ⟨some 5, _, _, _, _, _⟩) rfl (fun K hK => ?_) (AllReadyH.nil))
    ·go_simp
     refine (CM2.out _ hHeld).mono ?_
     rintro e x21 ⟨k2, A2, sn2, c2, mn2, mx2, lz2, B2, un2, d2, rfl, hm2, hkx⟩
     have HM2 := Lib.hid hm2
     have Hs21 := Lib.hid hkx.size
     replace Hbp6 := Lib.hid (heap_kept hkx Hbp6.out)
     replace HKM1 := Lib.hid (below_kept HKM1.out hkx)
     have HKM2 : Hid (Kept x21 x21) := Below.refl _ _
     refine hK.out _ _ (hHeld.trans (hkx.mono hHeld.size)) (fun hHeld2 => ?_)
     clear hHeld
     have hHeld := hHeld2
     clear hHeld2 hm2 hkx hK
     try simp only [pU1, pU2, pU3, pU4]
     refine wpAnyH_ready (rs := [12]) (by kernel_rfl) (by simp) ?_
     refine AllReadyH.cons (o := ⟨some 5, _, _, _, _, _⟩) rfl (fun K hK => ?_) (AllReadyH.nil)
     go_simp
     refine hK.out _ _ (below_alloc0 hHeld _) (fun hHeld2 => ?_)
     clear hHeld
     have hHeld := hHeld2
     clear hHeld2 hK
     try simp only [pU1, pU2, pU3, pU4]
     obtain ⟨x22, hx⟩ : ∃ x, x = (x21.alloc (.cells #[.int .u8 0, .slice none 0 0, .int .i64 0, .int .i64 0, .bool false, .slice none 0 0] 25)) := ⟨_, rfl⟩
     have hkx : Kept x21 x22 := by rw [hx]; exact (Below.refl _ _).alloc (Nat.le_refl _) _
     have Hs22 : Hid (x22.heap.size = x21.heap.size + 1) := by rw [hx]; show _ = _; simp
     obtain ⟨p5, hp5⟩ : ∃ b, b = x21.heap.size := ⟨_, rfl⟩
     replace Hbp6 := Lib.hid (heap_kept hkx Hbp6.out)
     replace HKM1 := Lib.hid (below_kept HKM1.out hkx)
     replace HKM2 := Lib.hid (below_kept HKM2.out hkx)
     have Hbp5 : Hid (x22.heap[p5]? = some (.cells #[.int .u8 0, .slice none 0 0, .int .i64 0, .int .i64 0, .bool false, .slice none 0 0] 25 (0, 0))) := by rw [hx, hp5]; exact heap_alloc_new x21 _
     rw [← hx] at hHeld ⊢
     have HPp5 : Hid (p5 = x21.heap.size) := Lib.hid hp5
     rw [← hp5]
     clear hx hkx hp5
     refine wpAnyH_ready (rs := [14]) (by kernel_rfl) (by simp) ?_
     refine AllReadyH.cons (o := ⟨none, _, _, _, _, _⟩) rfl (fun K hK => ?_) (AllReadyH.nil)
     have hne : p5 ≠ p6 := by have h1 := HPp5.out; have h2 := HPp6.out; have a1 := Hs1.out; have a20 := Hs20.out; have a21 := Hs21.out; have a22 := Hs22.out; omega
     have z0 := row_cells Hbp5.out 0 _ rfl
     have z1 := row_cells Hbp5.out 1 _ rfl
     have z2 := row_cells Hbp5.out 2 _ rfl
     have z3 := row_cells Hbp5.out 3 _ rfl
     have z4 := row_cells Hbp5.out 4 _ rfl
     have z5 := row_cells Hbp5.out 5 _ rfl
     rw [add0] at z0 z1 z2 z3 z4 z5
     have zf : ∀ j, x22.frozen? ⟨p5, j, none⟩ = false := fun j => Lib.frozen_of_heap Hbp5.out j
     go_simp
     rw [setCell6 Hbp5.out]
     refine hK.out _ _ (below_setRow hHeld (by have h1 := HPp5.out; have h2 := HS0.out; have a1 := Hs1.out; have a20 := Hs20.out; have a21 := Hs21.out; have a22 := Hs22.out; omega) _) (fun hHeld2 => ?_)
     clear hHeld z0 z1 z2 z3 z4 z5 zf
     have hHeld := hHeld2
     clear hHeld2 hK
     try simp only [pU1, pU2, pU3, pU4]
     have Hcp5 : Hid ((x22.setRow p5 #[.int .u8 k1, .slice A1 sn1 c1, .int .i64 mn1, .int .i64 mx1, .bool lz1, .slice B1 un1 d1]).heap[p5]? = some (.cells #[.int .u8 k1, .slice A1 sn1 c1, .int .i64 mn1, .int .i64 mx1, .bool lz1, .slice B1 un1 d1] 25 (0, 0))) := setRow_heap _ _ _ _ _ _ Hbp5.out
     have Hq := Lib.hid ((heap_setRow_out (w := x22) (Ne.symm hne) #[.int .u8 k1, .slice A1 sn1 c1, .int .i64 mn1, .int .i64 mx1, .bool lz1, .slice B1 un1 d1]).trans Hbp6.out)
     have Hw : Hid (∀ k, k ≠ p5 → (x22.setRow p5 #[.int .u8 k1, .slice A1 sn1 c1, .int .i64 mn1, .int .i64 mx1, .bool lz1, .slice B1 un1 d1]).heap[k]? = x22.heap[k]?) := fun k hk => heap_setRow_out hk _
     have hss : x22.heap.size ≤ (x22.setRow p5 #[.int .u8 k1, .slice A1 sn1 c1, .int .i64 mn1, .int .i64 mx1, .bool lz1, .slice B1 un1 d1]).heap.size := (below_setRow (Below.refl p5 x22) (Nat.le_refl _) _).size
     obtain ⟨x23, hx⟩ : ∃ x, x = (x22.setRow p5 #[.int .u8 k1, .slice A1 sn1 c1, .int .i64 mn1, .int .i64 mx1, .bool lz1, .slice B1 un1 d1]) := ⟨_, rfl⟩
     rw [← hx] at hHeld Hcp5 Hq Hw hss ⊢
     clear hx Hbp6
     have Hbp6 := Hq
     clear Hq
     refine wpAnyH_ready (rs := [15]) (by kernel_rfl) (by simp) ?_
     refine AllReadyH.cons (o := ⟨none, _, _, _, _, _⟩) rfl (fun K hK => ?_) (AllReadyH.nil)
     have z0 := row_cells Hbp6.out 0 _ rfl
     have z1 := row_cells Hbp6.out 1 _ rfl
     have z2 := row_cells Hbp6.out 2 _ rfl
     have z3 := row_cells Hbp6.out 3 _ rfl
     have z4 := row_cells Hbp6.out 4 _ rfl
     have z5 := row_cells Hbp6.out 5 _ rfl
     rw [add0] at z0 z1 z2 z3 z4 z5
     have zf : ∀ j, x23.frozen? ⟨p6, j, none⟩ = false := fun j => Lib.frozen_of_heap Hbp6.out j
     go_simp
     rw [setCell6 Hbp6.out]
     refine hK.out _ _ (below_setRow hHeld (by have h1 := HPp6.out; have h2 := HS0.out; have a1 := Hs1.out; have a20 := Hs20.out; have a21 := Hs21.out; have a22 := Hs22.out; omega) _) (fun hHeld2 => ?_)
     clear hHeld z0 z1 z2 z3 z4 z5 zf
     have hHeld := hHeld2
     clear hHeld2 hK
     try simp only [pU1, pU2, pU3, pU4]
     have Hcp6 : Hid ((x23.setRow p6 #[.int .u8 k2, .slice A2 sn2 c2, .int .i64 mn2, .int .i64 mx2, .bool lz2, .slice B2 un2 d2]).heap[p6]? = some (.cells #[.int .u8 k2, .slice A2 sn2 c2, .int .i64 mn2, .int .i64 mx2, .bool lz2, .slice B2 un2 d2] 25 (0, 0))) := setRow_heap _ _ _ _ _ _ Hbp6.out
     have Hq := Lib.hid ((heap_setRow_out (w := x23) hne #[.int .u8 k2, .slice A2 sn2 c2, .int .i64 mn2, .int .i64 mx2, .bool lz2, .slice B2 un2 d2]).trans Hcp5.out)
     have Hw2 : Hid (∀ k, k ≠ p6 → (x23.setRow p6 #[.int .u8 k2, .slice A2 sn2 c2, .int .i64 mn2, .int .i64 mx2, .bool lz2, .slice B2 un2 d2]).heap[k]? = x23.heap[k]?) := fun k hk => heap_setRow_out hk _
     have hss2 : x23.heap.size ≤ (x23.setRow p6 #[.int .u8 k2, .slice A2 sn2 c2, .int .i64 mn2, .int .i64 mx2, .bool lz2, .slice B2 un2 d2]).heap.size := (below_setRow (Below.refl p6 x23) (Nat.le_refl _) _).size
     obtain ⟨x24, hx⟩ : ∃ x, x = (x23.setRow p6 #[.int .u8 k2, .slice A2 sn2 c2, .int .i64 mn2, .int .i64 mx2, .bool lz2, .slice B2 un2 d2]) := ⟨_, rfl⟩
     rw [← hx] at hHeld Hcp6 Hq Hw2 hss2 ⊢
     clear hx
     refine wpAnyH_done (by kernel_rfl) ?_ _
     go_wp2_with fail
     go_meet
     have hs1 := Hs1.out
     have hs20 := Hs20.out
     have hs21 := Hs21.out
     have hs22 := Hs22.out
     have hN1 : NodeV x24 t1 (.agg #[.int .u8 k1, .slice A1 sn1 c1, .int .i64 mn1, .int .i64 mx1, .bool lz1, .slice B1 un1 d1]) := (NodeM.grow (b' := 0) HM1.out (Nat.zero_le _) (by have h1 := HKM1.out.size; omega) (fun k h1 h2 => by have h3 := HPp5.out; have h4 := HPp6.out; exact (Hw2.out k (by omega)).trans ((Hw.out k (by omega)).trans (HKM1.out.block k h2)))).un
     have hN2 : NodeV x24 t2 (.agg #[.int .u8 k2, .slice A2 sn2 c2, .int .i64 mn2, .int .i64 mx2, .bool lz2, .slice B2 un2 d2]) := (NodeM.grow (b' := 0) HM2.out (Nat.zero_le _) (by have h1 := HKM2.out.size; omega) (fun k h1 h2 => by have h3 := HPp5.out; have h4 := HPp6.out; exact (Hw2.out k (by omega)).trans ((Hw.out k (by omega)).trans (HKM2.out.block k h2)))).un
     exact ⟨p5, p6, k1, A1, sn1, c1, mn1, mx1, lz1, B1, un1, d1, k2, A2, sn2, c2, mn2, mx2, lz2, B2, un2, d2, rfl, rfl, hne, Lib.hid hN1, Lib.hid hN2, Hq, Hcp6, Lib.hid hHeld⟩
    ·go_simp
     refine hK.out _ _ (below_alloc0 hHeld _) (fun hHeld2 => ?_)
     clear hHeld
     have hHeld := hHeld2
     clear hHeld2 hK
     try simp only [pU1, pU2, pU3, pU4]
     obtain ⟨x25, hx⟩ : ∃ x, x = (x20.alloc (.cells #[.int .u8 0, .slice none 0 0, .int .i64 0, .int .i64 0, .bool false, .slice none 0 0] 25)) := ⟨_, rfl⟩
     have hkx : Kept x20 x25 := by rw [hx]; exact (Below.refl _ _).alloc (Nat.le_refl _) _
     have Hs25 : Hid (x25.heap.size = x20.heap.size + 1) := by rw [hx]; show _ = _; simp
     obtain ⟨p5, hp5⟩ : ∃ b, b = x20.heap.size := ⟨_, rfl⟩
     replace Hbp6 := Lib.hid (heap_kept hkx Hbp6.out)
     replace HKM1 := Lib.hid (below_kept HKM1.out hkx)
     have Hbp5 : Hid (x25.heap[p5]? = some (.cells #[.int .u8 0, .slice none 0 0, .int .i64 0, .int .i64 0, .bool false, .slice none 0 0] 25 (0, 0))) := by rw [hx, hp5]; exact heap_alloc_new x20 _
     rw [← hx] at hHeld ⊢
     have HPp5 : Hid (p5 = x20.heap.size) := Lib.hid hp5
     rw [← hp5]
     clear hx hkx hp5
     refine wpAnyH_ready (rs := [11]) (by kernel_rfl) (by simp) ?_
     refine AllReadyH.cons (o := ⟨some 40, _, _, _, _, _⟩) rfl (fun K hK => ?_) (AllReadyH.nil)
     go_simp
     refine (CM2.out _ hHeld).mono ?_
     rintro e x26 ⟨k2, A2, sn2, c2, mn2, mx2, lz2, B2, un2, d2, rfl, hm2, hkx⟩
     have HM2 := Lib.hid hm2
     have Hs26 := Lib.hid hkx.size
     replace Hbp5 := Lib.hid (heap_kept hkx Hbp5.out)
     replace Hbp6 := Lib.hid (heap_kept hkx Hbp6.out)
     replace HKM1 := Lib.hid (below_kept HKM1.out hkx)
     have HKM2 : Hid (Kept x26 x26) := Below.refl _ _
     refine hK.out _ _ (hHeld.trans (hkx.mono hHeld.size)) (fun hHeld2 => ?_)
     clear hHeld
     have hHeld := hHeld2
     clear hHeld2 hm2 hkx hK
     try simp only [pU1, pU2, pU3, pU4]
     refine wpAnyH_ready (rs := [14]) (by kernel_rfl) (by simp) ?_
     refine AllReadyH.cons (o := ⟨none, _, _, _, _, _⟩) rfl (fun K hK => ?_) (AllReadyH.nil)
     have hne : p5 ≠ p6 := by have h1 := HPp5.out; have h2 := HPp6.out; have a1 := Hs1.out; have a20 := Hs20.out; have a25 := Hs25.out; have a26 := Hs26.out; omega
     have z0 := row_cells Hbp5.out 0 _ rfl
     have z1 := row_cells Hbp5.out 1 _ rfl
     have z2 := row_cells Hbp5.out 2 _ rfl
     have z3 := row_cells Hbp5.out 3 _ rfl
     have z4 := row_cells Hbp5.out 4 _ rfl
     have z5 := row_cells Hbp5.out 5 _ rfl
     rw [add0] at z0 z1 z2 z3 z4 z5
     have zf : ∀ j, x26.frozen? ⟨p5, j, none⟩ = false := fun j => Lib.frozen_of_heap Hbp5.out j
     go_simp
     rw [setCell6 Hbp5.out]
     refine hK.out _ _ (below_setRow hHeld (by have h1 := HPp5.out; have h2 := HS0.out; have a1 := Hs1.out; have a20 := Hs20.out; have a25 := Hs25.out; have a26 := Hs26.out; omega) _) (fun hHeld2 => ?_)
     clear hHeld z0 z1 z2 z3 z4 z5 zf
     have hHeld := hHeld2
     clear hHeld2 hK
     try simp only [pU1, pU2, pU3, pU4]
     have Hcp5 : Hid ((x26.setRow p5 #[.int .u8 k1, .slice A1 sn1 c1, .int .i64 mn1, .int .i64 mx1, .bool lz1, .slice B1 un1 d1]).heap[p5]? = some (.cells #[.int .u8 k1, .slice A1 sn1 c1, .int .i64 mn1, .int .i64 mx1, .bool lz1, .slice B1 un1 d1] 25 (0, 0))) := setRow_heap _ _ _ _ _ _ Hbp5.out
     have Hq := Lib.hid ((heap_setRow_out (w := x26) (Ne.symm hne) #[.int .u8 k1, .slice A1 sn1 c1, .int .i64 mn1, .int .i64 mx1, .bool lz1, .slice B1 un1 d1]).trans Hbp6.out)
     have Hw : Hid (∀ k, k ≠ p5 → (x26.setRow p5 #[.int .u8 k1, .slice A1 sn1 c1, .int .i64 mn1, .int .i64 mx1, .bool lz1, .slice B1 un1 d1]).heap[k]? = x26.heap[k]?) := fun k hk => heap_setRow_out hk _
     have hss : x26.heap.size ≤ (x26.setRow p5 #[.int .u8 k1, .slice A1 sn1 c1, .int .i64 mn1, .int .i64 mx1, .bool lz1, .slice B1 un1 d1]).heap.size := (below_setRow (Below.refl p5 x26) (Nat.le_refl _) _).size
     obtain ⟨x27, hx⟩ : ∃ x, x = (x26.setRow p5 #[.int .u8 k1, .slice A1 sn1 c1, .int .i64 mn1, .int .i64 mx1, .bool lz1, .slice B1 un1 d1]) := ⟨_, rfl⟩
     rw [← hx] at hHeld Hcp5 Hq Hw hss ⊢
     clear hx Hbp6
     have Hbp6 := Hq
     clear Hq
     refine wpAnyH_ready (rs := [15]) (by kernel_rfl) (by simp) ?_
     refine AllReadyH.cons (o := ⟨none, _, _, _, _, _⟩) rfl (fun K hK => ?_) (AllReadyH.nil)
     have z0 := row_cells Hbp6.out 0 _ rfl
     have z1 := row_cells Hbp6.out 1 _ rfl
     have z2 := row_cells Hbp6.out 2 _ rfl
     have z3 := row_cells Hbp6.out 3 _ rfl
     have z4 := row_cells Hbp6.out 4 _ rfl
     have z5 := row_cells Hbp6.out 5 _ rfl
     rw [add0] at z0 z1 z2 z3 z4 z5
     have zf : ∀ j, x27.frozen? ⟨p6, j, none⟩ = false := fun j => Lib.frozen_of_heap Hbp6.out j
     go_simp
     rw [setCell6 Hbp6.out]
     refine hK.out _ _ (below_setRow hHeld (by have h1 := HPp6.out; have h2 := HS0.out; have a1 := Hs1.out; have a20 := Hs20.out; have a25 := Hs25.out; have a26 := Hs26.out; omega) _) (fun hHeld2 => ?_)
     clear hHeld z0 z1 z2 z3 z4 z5 zf
     have hHeld := hHeld2
     clear hHeld2 hK
     try simp only [pU1, pU2, pU3, pU4]
     have Hcp6 : Hid ((x27.setRow p6 #[.int .u8 k2, .slice A2 sn2 c2, .int .i64 mn2, .int .i64 mx2, .bool lz2, .slice B2 un2 d2]).heap[p6]? = some (.cells #[.int .u8 k2, .slice A2 sn2 c2, .int .i64 mn2, .int .i64 mx2, .bool lz2, .slice B2 un2 d2] 25 (0, 0))) := setRow_heap _ _ _ _ _ _ Hbp6.out
     have Hq := Lib.hid ((heap_setRow_out (w := x27) hne #[.int .u8 k2, .slice A2 sn2 c2, .int .i64 mn2, .int .i64 mx2, .bool lz2, .slice B2 un2 d2]).trans Hcp5.out)
     have Hw2 : Hid (∀ k, k ≠ p6 → (x27.setRow p6 #[.int .u8 k2, .slice A2 sn2 c2, .int .i64 mn2, .int .i64 mx2, .bool lz2, .slice B2 un2 d2]).heap[k]? = x27.heap[k]?) := fun k hk => heap_setRow_out hk _
     have hss2 : x27.heap.size ≤ (x27.setRow p6 #[.int .u8 k2, .slice A2 sn2 c2, .int .i64 mn2, .int .i64 mx2, .bool lz2, .slice B2 un2 d2]).heap.size := (below_setRow (Below.refl p6 x27) (Nat.le_refl _) _).size
     obtain ⟨x28, hx⟩ : ∃ x, x = (x27.setRow p6 #[.int .u8 k2, .slice A2 sn2 c2, .int .i64 mn2, .int .i64 mx2, .bool lz2, .slice B2 un2 d2]) := ⟨_, rfl⟩
     rw [← hx] at hHeld Hcp6 Hq Hw2 hss2 ⊢
     clear hx
     refine wpAnyH_done (by kernel_rfl) ?_ _
     go_wp2_with fail
     go_meet
     have hs1 := Hs1.out
     have hs20 := Hs20.out
     have hs25 := Hs25.out
     have hs26 := Hs26.out
     have hN1 : NodeV x28 t1 (.agg #[.int .u8 k1, .slice A1 sn1 c1, .int .i64 mn1, .int .i64 mx1, .bool lz1, .slice B1 un1 d1]) := (NodeM.grow (b' := 0) HM1.out (Nat.zero_le _) (by have h1 := HKM1.out.size; omega) (fun k h1 h2 => by have h3 := HPp5.out; have h4 := HPp6.out; exact (Hw2.out k (by omega)).trans ((Hw.out k (by omega)).trans (HKM1.out.block k h2)))).un
     have hN2 : NodeV x28 t2 (.agg #[.int .u8 k2, .slice A2 sn2 c2, .int .i64 mn2, .int .i64 mx2, .bool lz2, .slice B2 un2 d2]) := (NodeM.grow (b' := 0) HM2.out (Nat.zero_le _) (by have h1 := HKM2.out.size; omega) (fun k h1 h2 => by have h3 := HPp5.out; have h4 := HPp6.out; exact (Hw2.out k (by omega)).trans ((Hw.out k (by omega)).trans (HKM2.out.block k h2)))).un
     exact ⟨p5, p6, k1, A1, sn1, c1, mn1, mx1, lz1, B1, un1, d1, k2, A2, sn2, c2, mn2, mx2, lz2, B2, un2, d2, rfl, rfl, hne, Lib.hid hN1, Lib.hid hN2, Hq, Hcp6, Lib.hid hHeld⟩
  ·go_simp
   refine hK.out _ _ (below_alloc0 hHeld _) (fun hHeld2 => ?_)
   clear hHeld
   have hHeld := hHeld2
   clear hHeld2 hK
   try simp only [pU1, pU2, pU3, pU4]
   obtain ⟨x29, hx⟩ : ∃ x, x = (wc.alloc (.cells #[.int .u8 0, .slice none 0 0, .int .i64 0, .int .i64 0, .bool false, .slice none 0 0] 25)) := ⟨_, rfl⟩
   have hkx : Kept wc x29 := by rw [hx]; exact (Below.refl _ _).alloc (Nat.le_refl _) _
   have Hs29 : Hid (x29.heap.size = wc.heap.size + 1) := by rw [hx]; show _ = _; simp
   obtain ⟨p5, hp5⟩ : ∃ b, b = wc.heap.size := ⟨_, rfl⟩
   have Hbp5 : Hid (x29.heap[p5]? = some (.cells #[.int .u8 0, .slice none 0 0, .int .i64 0, .int .i64 0, .bool false, .slice none 0 0] 25 (0, 0))) := by rw [hx, hp5]; exact heap_alloc_new wc _
   rw [← hx] at hHeld ⊢
   have HPp5 : Hid (p5 = wc.heap.size) := Lib.hid hp5
   rw [← hp5]
   clear hx hkx hp5
   refine wpAnyH_ready (rs := [5, 13]) (by kernel_rfl) (by simp) ?_
   refine AllReadyH.cons (o := ⟨some 34, _, _, _, _, _⟩) rfl (fun K hK => ?_) (AllReadyH.cons (o := ⟨some 6, _, _, _, _, _⟩) rfl (fun K hK => ?_) (AllReadyH.nil))
   ·go_simp
    refine (CM1.out _ hHeld).mono ?_
    rintro e x30 ⟨k1, A1, sn1, c1, mn1, mx1, lz1, B1, un1, d1, rfl, hm1, hkx⟩
    have HM1 := Lib.hid hm1
    have Hs30 := Lib.hid hkx.size
    replace Hbp5 := Lib.hid (heap_kept hkx Hbp5.out)
    have HKM1 : Hid (Kept x30 x30) := Below.refl _ _
    refine hK.out _ _ (hHeld.trans (hkx.mono hHeld.size)) (fun hHeld2 => ?_)
    clear hHeld
    have hHeld := hHeld2
    clear hHeld2 hm1 hkx hK
    try simp only [pU1, pU2, pU3, pU4]
    refine wpAnyH_ready (rs := [11, 13]) (by kernel_rfl) (by simp) ?_
    refine AllReadyH.cons (o := ⟨some 40, _, _, _, _, _⟩) rfl (fun K hK => ?_) (AllReadyH.cons (o := ⟨some 6, _, _, _, _, _⟩) rfl (fun K hK => ?_) (AllReadyH.nil))
    ·go_simp
     refine (CM2.out _ hHeld).mono ?_
     rintro e x31 ⟨k2, A2, sn2, c2, mn2, mx2, lz2, B2, un2, d2, rfl, hm2, hkx⟩
     have HM2 := Lib.hid hm2
     have Hs31 := Lib.hid hkx.size
     replace Hbp5 := Lib.hid (heap_kept hkx Hbp5.out)
     replace HKM1 := Lib.hid (below_kept HKM1.out hkx)
     have HKM2 : Hid (Kept x31 x31) := Below.refl _ _
     refine hK.out _ _ (hHeld.trans (hkx.mono hHeld.size)) (fun hHeld2 => ?_)
     clear hHeld
     have hHeld := hHeld2
     clear hHeld2 hm2 hkx hK
     try simp only [pU1, pU2, pU3, pU4]
     refine wpAnyH_ready (rs := [13]) (by kernel_rfl) (by simp) ?_
     refine AllReadyH.cons (o := ⟨some 6, _, _, _, _, _⟩) rfl (fun K hK => ?_) (AllReadyH.nil)
     go_simp
     refine hK.out _ _ (below_alloc0 hHeld _) (fun hHeld2 => ?_)
     clear hHeld
     have hHeld := hHeld2
     clear hHeld2 hK
     try simp only [pU1, pU2, pU3, pU4]
     obtain ⟨x32, hx⟩ : ∃ x, x = (x31.alloc (.cells #[.int .u8 0, .slice none 0 0, .int .i64 0, .int .i64 0, .bool false, .slice none 0 0] 25)) := ⟨_, rfl⟩
     have hkx : Kept x31 x32 := by rw [hx]; exact (Below.refl _ _).alloc (Nat.le_refl _) _
     have Hs32 : Hid (x32.heap.size = x31.heap.size + 1) := by rw [hx]; show _ = _; simp
     obtain ⟨p6, hp6⟩ : ∃ b, b = x31.heap.size := ⟨_, rfl⟩
     replace Hbp5 := Lib.hid (heap_kept hkx Hbp5.out)
     replace HKM1 := Lib.hid (below_kept HKM1.out hkx)
     replace HKM2 := Lib.hid (below_kept HKM2.out hkx)
     have Hbp6 : Hid (x32.heap[p6]? = some (.cells #[.int .u8 0, .slice none 0 0, .int .i64 0, .int .i64 0, .bool false, .slice none 0 0] 25 (0, 0))) := by rw [hx, hp6]; exact heap_alloc_new x31 _
     rw [← hx] at hHeld ⊢
     have HPp6 : Hid (p6 = x31.heap.size) := Lib.hid hp6
     rw [← hp6]
     clear hx hkx hp6
     refine wpAnyH_ready (rs := [14]) (by kernel_rfl) (by simp) ?_
     refine AllReadyH.cons (o := ⟨none, _, _, _, _, _⟩) rfl (fun K hK => ?_) (AllReadyH.nil)
     have hne : p5 ≠ p6 := by have h1 := HPp5.out; have h2 := HPp6.out; have a29 := Hs29.out; have a30 := Hs30.out; have a31 := Hs31.out; have a32 := Hs32.out; omega
     have z0 := row_cells Hbp5.out 0 _ rfl
     have z1 := row_cells Hbp5.out 1 _ rfl
     have z2 := row_cells Hbp5.out 2 _ rfl
     have z3 := row_cells Hbp5.out 3 _ rfl
     have z4 := row_cells Hbp5.out 4 _ rfl
     have z5 := row_cells Hbp5.out 5 _ rfl
     rw [add0] at z0 z1 z2 z3 z4 z5
     have zf : ∀ j, x32.frozen? ⟨p5, j, none⟩ = false := fun j => Lib.frozen_of_heap Hbp5.out j
     go_simp
     rw [setCell6 Hbp5.out]
     refine hK.out _ _ (below_setRow hHeld (by have h1 := HPp5.out; have h2 := HS0.out; have a29 := Hs29.out; have a30 := Hs30.out; have a31 := Hs31.out; have a32 := Hs32.out; omega) _) (fun hHeld2 => ?_)
     clear hHeld z0 z1 z2 z3 z4 z5 zf
     have hHeld := hHeld2
     clear hHeld2 hK
     try simp only [pU1, pU2, pU3, pU4]
     have Hcp5 : Hid ((x32.setRow p5 #[.int .u8 k1, .slice A1 sn1 c1, .int .i64 mn1, .int .i64 mx1, .bool lz1, .slice B1 un1 d1]).heap[p5]? = some (.cells #[.int .u8 k1, .slice A1 sn1 c1, .int .i64 mn1, .int .i64 mx1, .bool lz1, .slice B1 un1 d1] 25 (0, 0))) := setRow_heap _ _ _ _ _ _ Hbp5.out
     have Hq := Lib.hid ((heap_setRow_out (w := x32) (Ne.symm hne) #[.int .u8 k1, .slice A1 sn1 c1, .int .i64 mn1, .int .i64 mx1, .bool lz1, .slice B1 un1 d1]).trans Hbp6.out)
     have Hw : Hid (∀ k, k ≠ p5 → (x32.setRow p5 #[.int .u8 k1, .slice A1 sn1 c1, .int .i64 mn1, .int .i64 mx1, .bool lz1, .slice B1 un1 d1]).heap[k]? = x32.heap[k]?) := fun k hk => heap_setRow_out hk _
     have hss : x32.heap.size ≤ (x32.setRow p5 #[.int .u8 k1, .slice A1 sn1 c1, .int .i64 mn1, .int .i64 mx1, .bool lz1, .slice B1 un1 d1]).heap.size := (below_setRow (Below.refl p5 x32) (Nat.le_refl _) _).size
     obtain ⟨x33, hx⟩ : ∃ x, x = (x32.setRow p5 #[.int .u8 k1, .slice A1 sn1 c1, .int .i64 mn1, .int .i64 mx1, .bool lz1, .slice B1 un1 d1]) := ⟨_, rfl⟩
     rw [← hx] at hHeld Hcp5 Hq Hw hss ⊢
     clear hx Hbp6
     have Hbp6 := Hq
     clear Hq
     refine wpAnyH_ready (rs := [15]) (by kernel_rfl) (by simp) ?_
     refine AllReadyH.cons (o := ⟨none, _, _, _, _, _⟩) rfl (fun K hK => ?_) (AllReadyH.nil)
     have z0 := row_cells Hbp6.out 0 _ rfl
     have z1 := row_cells Hbp6.out 1 _ rfl
     have z2 := row_cells Hbp6.out 2 _ rfl
     have z3 := row_cells Hbp6.out 3 _ rfl
     have z4 := row_cells Hbp6.out 4 _ rfl
     have z5 := row_cells Hbp6.out 5 _ rfl
     rw [add0] at z0 z1 z2 z3 z4 z5
     have zf : ∀ j, x33.frozen? ⟨p6, j, none⟩ = false := fun j => Lib.frozen_of_heap Hbp6.out j
     go_simp
     rw [setCell6 Hbp6.out]
     refine hK.out _ _ (below_setRow hHeld (by have h1 := HPp6.out; have h2 := HS0.out; have a29 := Hs29.out; have a30 := Hs30.out; have a31 := Hs31.out; have a32 := Hs32.out; omega) _) (fun hHeld2 => ?_)
     clear hHeld z0 z1 z2 z3 z4 z5 zf
     have hHeld := hHeld2
     clear hHeld2 hK
     try simp only [pU1, pU2, pU3, pU4]
     have Hcp6 : Hid ((x33.setRow p6 #[.int .u8 k2, .slice A2 sn2 c2, .int .i64 mn2, .int .i64 mx2, .bool lz2, .slice B2 un2 d2]).heap[p6]? = some (.cells #[.int .u8 k2, .slice A2 sn2 c2, .int .i64 mn2, .int .i64 mx2, .bool lz2, .slice B2 un2 d2] 25 (0, 0))) := setRow_heap _ _ _ _ _ _ Hbp6.out
     have Hq := Lib.hid ((heap_setRow_out (w := x33) hne #[.int .u8 k2, .slice A2 sn2 c2, .int .i64 mn2, .int .i64 mx2, .bool lz2, .slice B2 un2 d2]).trans Hcp5.out)
     have Hw2 : Hid (∀ k, k ≠ p6 → (x33.setRow p6 #[.int .u8 k2, .slice A2 sn2 c2, .int .i64 mn2, .int .i64 mx2, .bool lz2, .slice B2 un2 d2]).heap[k]? = x33.heap[k]?) := fun k hk => heap_setRow_out hk _
     have hss2 : x33.heap.size ≤ (x33.setRow p6 #[.int .u8 k2, .slice A2 sn2 c2, .int .i64 mn2, .int .i64 mx2, .bool lz2, .slice B2 un2 d2]).heap.size := (below_setRow (Below.refl p6 x33) (Nat.le_refl _) _).size
     obtain ⟨x34, hx⟩ : ∃ x, x = (x33.setRow p6 #[.int .u8 k2, .slice A2 sn2 c2, .int .i64 mn2, .int .i64 mx2, .bool lz2, .slice B2 un2 d2]) := ⟨_, rfl⟩
     rw [← hx] at hHeld Hcp6 Hq Hw2 hss2 ⊢
     clear hx
     refine wpAnyH_done (by kernel_rfl) ?_ _
     go_wp2_with fail
     go_meet
     have hs29 := Hs29.out
     have hs30 := Hs30.out
     have hs31 := Hs31.out
     have hs32 := Hs32.out
     have hN1 : NodeV x34 t1 (.agg #[.int .u8 k1, .slice A1 sn1 c1, .int .i64 mn1, .int .i64 mx1, .bool lz1, .slice B1 un1 d1]) := (NodeM.grow (b' := 0) HM1.out (Nat.zero_le _) (by have h1 := HKM1.out.size; omega) (fun k h1 h2 => by have h3 := HPp5.out; have h4 := HPp6.out; exact (Hw2.out k (by omega)).trans ((Hw.out k (by omega)).trans (HKM1.out.block k h2)))).un
     have hN2 : NodeV x34 t2 (.agg #[.int .u8 k2, .slice A2 sn2 c2, .int .i64 mn2, .int .i64 mx2, .bool lz2, .slice B2 un2 d2]) := (NodeM.grow (b' := 0) HM2.out (Nat.zero_le _) (by have h1 := HKM2.out.size; omega) (fun k h1 h2 => by have h3 := HPp5.out; have h4 := HPp6.out; exact (Hw2.out k (by omega)).trans ((Hw.out k (by omega)).trans (HKM2.out.block k h2)))).un
     exact ⟨p5, p6, k1, A1, sn1, c1, mn1, mx1, lz1, B1, un1, d1, k2, A2, sn2, c2, mn2, mx2, lz2, B2, un2, d2, rfl, rfl, hne, Lib.hid hN1, Lib.hid hN2, Hq, Hcp6, Lib.hid hHeld⟩
    ·go_simp
     refine hK.out _ _ (below_alloc0 hHeld _) (fun hHeld2 => ?_)
     clear hHeld
     have hHeld := hHeld2
     clear hHeld2 hK
     try simp only [pU1, pU2, pU3, pU4]
     obtain ⟨x35, hx⟩ : ∃ x, x = (x30.alloc (.cells #[.int .u8 0, .slice none 0 0, .int .i64 0, .int .i64 0, .bool false, .slice none 0 0] 25)) := ⟨_, rfl⟩
     have hkx : Kept x30 x35 := by rw [hx]; exact (Below.refl _ _).alloc (Nat.le_refl _) _
     have Hs35 : Hid (x35.heap.size = x30.heap.size + 1) := by rw [hx]; show _ = _; simp
     obtain ⟨p6, hp6⟩ : ∃ b, b = x30.heap.size := ⟨_, rfl⟩
     replace Hbp5 := Lib.hid (heap_kept hkx Hbp5.out)
     replace HKM1 := Lib.hid (below_kept HKM1.out hkx)
     have Hbp6 : Hid (x35.heap[p6]? = some (.cells #[.int .u8 0, .slice none 0 0, .int .i64 0, .int .i64 0, .bool false, .slice none 0 0] 25 (0, 0))) := by rw [hx, hp6]; exact heap_alloc_new x30 _
     rw [← hx] at hHeld ⊢
     have HPp6 : Hid (p6 = x30.heap.size) := Lib.hid hp6
     rw [← hp6]
     clear hx hkx hp6
     refine wpAnyH_ready (rs := [11]) (by kernel_rfl) (by simp) ?_
     refine AllReadyH.cons (o := ⟨some 40, _, _, _, _, _⟩) rfl (fun K hK => ?_) (AllReadyH.nil)
     go_simp
     refine (CM2.out _ hHeld).mono ?_
     rintro e x36 ⟨k2, A2, sn2, c2, mn2, mx2, lz2, B2, un2, d2, rfl, hm2, hkx⟩
     have HM2 := Lib.hid hm2
     have Hs36 := Lib.hid hkx.size
     replace Hbp5 := Lib.hid (heap_kept hkx Hbp5.out)
     replace Hbp6 := Lib.hid (heap_kept hkx Hbp6.out)
     replace HKM1 := Lib.hid (below_kept HKM1.out hkx)
     have HKM2 : Hid (Kept x36 x36) := Below.refl _ _
     refine hK.out _ _ (hHeld.trans (hkx.mono hHeld.size)) (fun hHeld2 => ?_)
     clear hHeld
     have hHeld := hHeld2
     clear hHeld2 hm2 hkx hK
     try simp only [pU1, pU2, pU3, pU4]
     refine wpAnyH_ready (rs := [14]) (by kernel_rfl) (by simp) ?_
     refine AllReadyH.cons (o := ⟨none, _, _, _, _, _⟩) rfl (fun K hK => ?_) (AllReadyH.nil)
     have hne : p5 ≠ p6 := by have h1 := HPp5.out; have h2 := HPp6.out; have a29 := Hs29.out; have a30 := Hs30.out; have a35 := Hs35.out; have a36 := Hs36.out; omega
     have z0 := row_cells Hbp5.out 0 _ rfl
     have z1 := row_cells Hbp5.out 1 _ rfl
     have z2 := row_cells Hbp5.out 2 _ rfl
     have z3 := row_cells Hbp5.out 3 _ rfl
     have z4 := row_cells Hbp5.out 4 _ rfl
     have z5 := row_cells Hbp5.out 5 _ rfl
     rw [add0] at z0 z1 z2 z3 z4 z5
     have zf : ∀ j, x36.frozen? ⟨p5, j, none⟩ = false := fun j => Lib.frozen_of_heap Hbp5.out j
     go_simp
     rw [setCell6 Hbp5.out]
     refine hK.out _ _ (below_setRow hHeld (by have h1 := HPp5.out; have h2 := HS0.out; have a29 := Hs29.out; have a30 := Hs30.out; have a35 := Hs35.out; have a36 := Hs36.out; omega) _) (fun hHeld2 => ?_)
     clear hHeld z0 z1 z2 z3 z4 z5 zf
     have hHeld := hHeld2
     clear hHeld2 hK
     try simp only [pU1, pU2, pU3, pU4]
     have Hcp5 : Hid ((x36.setRow p5 #[.int .u8 k1, .slice A1 sn1 c1, .int .i64 mn1, .int .i64 mx1, .bool lz1, .slice B1 un1 d1]).heap[p5]? = some (.cells #[.int .u8 k1, .slice A1 sn1 c1, .int .i64 mn1, .int .i64 mx1, .bool lz1, .slice B1 un1 d1] 25 (0, 0))) := setRow_heap _ _ _ _ _ _ Hbp5.out
     have Hq := Lib.hid ((heap_setRow_out (w := x36) (Ne.symm hne) #[.int .u8 k1, .slice A1 sn1 c1, .int .i64 mn1, .int .i64 mx1, .bool lz1, .slice B1 un1 d1]).trans Hbp6.out)
     have Hw : Hid (∀ k, k ≠ p5 → (x36.setRow p5 #[.int .u8 k1, .slice A1 sn1 c1, .int .i64 mn1, .int .i64 mx1, .bool lz1, .slice B1 un1 d1]).heap[k]? = x36.heap[k]?) := fun k hk => heap_setRow_out hk _
     have hss : x36.heap.size ≤ (x36.setRow p5 #[.int .u8 k1, .slice A1 sn1 c1, .int .i64 mn1, .int .i64 mx1, .bool lz1, .slice B1 un1 d1]).heap.size := (below_setRow (Below.refl p5 x36) (Nat.le_refl _) _).size
     obtain ⟨x37, hx⟩ : ∃ x, x = (x36.setRow p5 #[.int .u8 k1, .slice A1 sn1 c1, .int .i64 mn1, .int .i64 mx1, .bool lz1, .slice B1 un1 d1]) := ⟨_, rfl⟩
     rw [← hx] at hHeld Hcp5 Hq Hw hss ⊢
     clear hx Hbp6
     have Hbp6 := Hq
     clear Hq
     refine wpAnyH_ready (rs := [15]) (by kernel_rfl) (by simp) ?_
     refine AllReadyH.cons (o := ⟨none, _, _, _, _, _⟩) rfl (fun K hK => ?_) (AllReadyH.nil)
     have z0 := row_cells Hbp6.out 0 _ rfl
     have z1 := row_cells Hbp6.out 1 _ rfl
     have z2 := row_cells Hbp6.out 2 _ rfl
     have z3 := row_cells Hbp6.out 3 _ rfl
     have z4 := row_cells Hbp6.out 4 _ rfl
     have z5 := row_cells Hbp6.out 5 _ rfl
     rw [add0] at z0 z1 z2 z3 z4 z5
     have zf : ∀ j, x37.frozen? ⟨p6, j, none⟩ = false := fun j => Lib.frozen_of_heap Hbp6.out j
     go_simp
     rw [setCell6 Hbp6.out]
     refine hK.out _ _ (below_setRow hHeld (by have h1 := HPp6.out; have h2 := HS0.out; have a29 := Hs29.out; have a30 := Hs30.out; have a35 := Hs35.out; have a36 := Hs36.out; omega) _) (fun hHeld2 => ?_)
     clear hHeld z0 z1 z2 z3 z4 z5 zf
     have hHeld := hHeld2
     clear hHeld2 hK
     try simp only [pU1, pU2, pU3, pU4]
     have Hcp6 : Hid ((x37.setRow p6 #[.int .u8 k2, .slice A2 sn2 c2, .int .i64 mn2, .int .i64 mx2, .bool lz2, .slice B2 un2 d2]).heap[p6]? = some (.cells #[.int .u8 k2, .slice A2 sn2 c2, .int .i64 mn2, .int .i64 mx2, .bool lz2, .slice B2 un2 d2] 25 (0, 0))) := setRow_heap _ _ _ _ _ _ Hbp6.out
     have Hq := Lib.hid ((heap_setRow_out (w := x37) hne #[.int .u8 k2, .slice A2 sn2 c2, .int .i64 mn2, .int .i64 mx2, .bool lz2, .slice B2 un2 d2]).trans Hcp5.out)
     have Hw2 : Hid (∀ k, k ≠ p6 → (x37.setRow p6 #[.int .u8 k2, .slice A2 sn2 c2, .int .i64 mn2, .int .i64 mx2, .bool lz2, .slice B2 un2 d2]).heap[k]? = x37.heap[k]?) := fun k hk => heap_setRow_out hk _
     have hss2 : x37.heap.size ≤ (x37.setRow p6 #[.int .u8 k2, .slice A2 sn2 c2, .int .i64 mn2, .int .i64 mx2, .bool lz2, .slice B2 un2 d2]).heap.size := (below_setRow (Below.refl p6 x37) (Nat.le_refl _) _).size
     obtain ⟨x38, hx⟩ : ∃ x, x = (x37.setRow p6 #[.int .u8 k2, .slice A2 sn2 c2, .int .i64 mn2, .int .i64 mx2, .bool lz2, .slice B2 un2 d2]) := ⟨_, rfl⟩
     rw [← hx] at hHeld Hcp6 Hq Hw2 hss2 ⊢
     clear hx
     refine wpAnyH_done (by kernel_rfl) ?_ _
     go_wp2_with fail
     go_meet
     have hs29 := Hs29.out
     have hs30 := Hs30.out
     have hs35 := Hs35.out
     have hs36 := Hs36.out
     have hN1 : NodeV x38 t1 (.agg #[.int .u8 k1, .slice A1 sn1 c1, .int .i64 mn1, .int .i64 mx1, .bool lz1, .slice B1 un1 d1]) := (NodeM.grow (b' := 0) HM1.out (Nat.zero_le _) (by have h1 := HKM1.out.size; omega) (fun k h1 h2 => by have h3 := HPp5.out; have h4 := HPp6.out; exact (Hw2.out k (by omega)).trans ((Hw.out k (by omega)).trans (HKM1.out.block k h2)))).un
     have hN2 : NodeV x38 t2 (.agg #[.int .u8 k2, .slice A2 sn2 c2, .int .i64 mn2, .int .i64 mx2, .bool lz2, .slice B2 un2 d2]) := (NodeM.grow (b' := 0) HM2.out (Nat.zero_le _) (by have h1 := HKM2.out.size; omega) (fun k h1 h2 => by have h3 := HPp5.out; have h4 := HPp6.out; exact (Hw2.out k (by omega)).trans ((Hw.out k (by omega)).trans (HKM2.out.block k h2)))).un
     exact ⟨p5, p6, k1, A1, sn1, c1, mn1, mx1, lz1, B1, un1, d1, k2, A2, sn2, c2, mn2, mx2, lz2, B2, un2, d2, rfl, rfl, hne, Lib.hid hN1, Lib.hid hN2, Hq, Hcp6, Lib.hid hHeld⟩
   ·go_simp
    refine hK.out _ _ (below_alloc0 hHeld _) (fun hHeld2 => ?_)
    clear hHeld
    have hHeld := hHeld2
    clear hHeld2 hK
    try simp only [pU1, pU2, pU3, pU4]
    obtain ⟨x39, hx⟩ : ∃ x, x = (x29.alloc (.cells #[.int .u8 0, .slice none 0 0, .int .i64 0, .int .i64 0, .bool false, .slice none 0 0] 25)) := ⟨_, rfl⟩
    have hkx : Kept x29 x39 := by rw [hx]; exact (Below.refl _ _).alloc (Nat.le_refl _) _
    have Hs39 : Hid (x39.heap.size = x29.heap.size + 1) := by rw [hx]; show _ = _; simp
    obtain ⟨p6, hp6⟩ : ∃ b, b = x29.heap.size := ⟨_, rfl⟩
    replace Hbp5 := Lib.hid (heap_kept hkx Hbp5.out)
    have Hbp6 : Hid (x39.heap[p6]? = some (.cells #[.int .u8 0, .slice none 0 0, .int .i64 0, .int .i64 0, .bool false, .slice none 0 0] 25 (0, 0))) := by rw [hx, hp6]; exact heap_alloc_new x29 _
    rw [← hx] at hHeld ⊢
    have HPp6 : Hid (p6 = x29.heap.size) := Lib.hid hp6
    rw [← hp6]
    clear hx hkx hp6
    refine wpAnyH_ready (rs := [5]) (by kernel_rfl) (by simp) ?_
    refine AllReadyH.cons (o := ⟨some 34, _, _, _, _, _⟩) rfl (fun K hK => ?_) (AllReadyH.nil)
    go_simp
    refine (CM1.out _ hHeld).mono ?_
    rintro e x40 ⟨k1, A1, sn1, c1, mn1, mx1, lz1, B1, un1, d1, rfl, hm1, hkx⟩
    have HM1 := Lib.hid hm1
    have Hs40 := Lib.hid hkx.size
    replace Hbp5 := Lib.hid (heap_kept hkx Hbp5.out)
    replace Hbp6 := Lib.hid (heap_kept hkx Hbp6.out)
    have HKM1 : Hid (Kept x40 x40) := Below.refl _ _
    refine hK.out _ _ (hHeld.trans (hkx.mono hHeld.size)) (fun hHeld2 => ?_)
    clear hHeld
    have hHeld := hHeld2
    clear hHeld2 hm1 hkx hK
    try simp only [pU1, pU2, pU3, pU4]
    refine wpAnyH_ready (rs := [11]) (by kernel_rfl) (by simp) ?_
    refine AllReadyH.cons (o := ⟨some 40, _, _, _, _, _⟩) rfl (fun K hK => ?_) (AllReadyH.nil)
    go_simp
    refine (CM2.out _ hHeld).mono ?_
    rintro e x41 ⟨k2, A2, sn2, c2, mn2, mx2, lz2, B2, un2, d2, rfl, hm2, hkx⟩
    have HM2 := Lib.hid hm2
    have Hs41 := Lib.hid hkx.size
    replace Hbp5 := Lib.hid (heap_kept hkx Hbp5.out)
    replace Hbp6 := Lib.hid (heap_kept hkx Hbp6.out)
    replace HKM1 := Lib.hid (below_kept HKM1.out hkx)
    have HKM2 : Hid (Kept x41 x41) := Below.refl _ _
    refine hK.out _ _ (hHeld.trans (hkx.mono hHeld.size)) (fun hHeld2 => ?_)
    clear hHeld
    have hHeld := hHeld2
    clear hHeld2 hm2 hkx hK
    try simp only [pU1, pU2, pU3, pU4]
    refine wpAnyH_ready (rs := [14]) (by kernel_rfl) (by simp) ?_
    refine AllReadyH.cons (o := ⟨none, _, _, _, _, _⟩) rfl (fun K hK => ?_) (AllReadyH.nil)
    have hne : p5 ≠ p6 := by have h1 := HPp5.out; have h2 := HPp6.out; have a29 := Hs29.out; have a39 := Hs39.out; have a40 := Hs40.out; have a41 := Hs41.out; omega
    have z0 := row_cells Hbp5.out 0 _ rfl
    have z1 := row_cells Hbp5.out 1 _ rfl
    have z2 := row_cells Hbp5.out 2 _ rfl
    have z3 := row_cells Hbp5.out 3 _ rfl
    have z4 := row_cells Hbp5.out 4 _ rfl
    have z5 := row_cells Hbp5.out 5 _ rfl
    rw [add0] at z0 z1 z2 z3 z4 z5
    have zf : ∀ j, x41.frozen? ⟨p5, j, none⟩ = false := fun j => Lib.frozen_of_heap Hbp5.out j
    go_simp
    rw [setCell6 Hbp5.out]
    refine hK.out _ _ (below_setRow hHeld (by have h1 := HPp5.out; have h2 := HS0.out; have a29 := Hs29.out; have a39 := Hs39.out; have a40 := Hs40.out; have a41 := Hs41.out; omega) _) (fun hHeld2 => ?_)
    clear hHeld z0 z1 z2 z3 z4 z5 zf
    have hHeld := hHeld2
    clear hHeld2 hK
    try simp only [pU1, pU2, pU3, pU4]
    have Hcp5 : Hid ((x41.setRow p5 #[.int .u8 k1, .slice A1 sn1 c1, .int .i64 mn1, .int .i64 mx1, .bool lz1, .slice B1 un1 d1]).heap[p5]? = some (.cells #[.int .u8 k1, .slice A1 sn1 c1, .int .i64 mn1, .int .i64 mx1, .bool lz1, .slice B1 un1 d1] 25 (0, 0))) := setRow_heap _ _ _ _ _ _ Hbp5.out
    have Hq := Lib.hid ((heap_setRow_out (w := x41) (Ne.symm hne) #[.int .u8 k1, .slice A1 sn1 c1, .int .i64 mn1, .int .i64 mx1, .bool lz1, .slice B1 un1 d1]).trans Hbp6.out)
    have Hw : Hid (∀ k, k ≠ p5 → (x41.setRow p5 #[.int .u8 k1, .slice A1 sn1 c1, .int .i64 mn1, .int .i64 mx1, .bool lz1, .slice B1 un1 d1]).heap[k]? = x41.heap[k]?) := fun k hk => heap_setRow_out hk _
    have hss : x41.heap.size ≤ (x41.setRow p5 #[.int .u8 k1, .slice A1 sn1 c1, .int .i64 mn1, .int .i64 mx1, .bool lz1, .slice B1 un1 d1]).heap.size := (below_setRow (Below.refl p5 x41) (Nat.le_refl _) _).size
    obtain ⟨x42, hx⟩ : ∃ x, x = (x41.setRow p5 #[.int .u8 k1, .slice A1 sn1 c1, .int .i64 mn1, .int .i64 mx1, .bool lz1, .slice B1 un1 d1]) := ⟨_, rfl⟩
    rw [← hx] at hHeld Hcp5 Hq Hw hss ⊢
    clear hx Hbp6
    have Hbp6 := Hq
    clear Hq
    refine wpAnyH_ready (rs := [15]) (by kernel_rfl) (by simp) ?_
    refine AllReadyH.cons (o := ⟨none, _, _, _, _, _⟩) rfl (fun K hK => ?_) (AllReadyH.nil)
    have z0 := row_cells Hbp6.out 0 _ rfl
    have z1 := row_cells Hbp6.out 1 _ rfl
    have z2 := row_cells Hbp6.out 2 _ rfl
    have z3 := row_cells Hbp6.out 3 _ rfl
    have z4 := row_cells Hbp6.out 4 _ rfl
    have z5 := row_cells Hbp6.out 5 _ rfl
    rw [add0] at z0 z1 z2 z3 z4 z5
    have zf : ∀ j, x42.frozen? ⟨p6, j, none⟩ = false := fun j => Lib.frozen_of_heap Hbp6.out j
    go_simp
    rw [setCell6 Hbp6.out]
    refine hK.out _ _ (below_setRow hHeld (by have h1 := HPp6.out; have h2 := HS0.out; have a29 := Hs29.out; have a39 := Hs39.out; have a40 := Hs40.out; have a41 := Hs41.out; omega) _) (fun hHeld2 => ?_)
    clear hHeld z0 z1 z2 z3 z4 z5 zf
    have hHeld := hHeld2
    clear hHeld2 hK
    try simp only [pU1, pU2, pU3, pU4]
    have Hcp6 : Hid ((x42.setRow p6 #[.int .u8 k2, .slice A2 sn2 c2, .int .i64 mn2, .int .i64 mx2, .bool lz2, .slice B2 un2 d2]).heap[p6]? = some (.cells #[.int .u8 k2, .slice A2 sn2 c2, .int .i64 mn2, .int .i64 mx2, .bool lz2, .slice B2 un2 d2] 25 (0, 0))) := setRow_heap _ _ _ _ _ _ Hbp6.out
    have Hq := Lib.hid ((heap_setRow_out (w := x42) hne #[.int .u8 k2, .slice A2 sn2 c2, .int .i64 mn2, .int .i64 mx2, .bool lz2, .slice B2 un2 d2]).trans Hcp5.out)
    have Hw2 : Hid (∀ k, k ≠ p6 → (x42.setRow p6 #[.int .u8 k2, .slice A2 sn2 c2, .int .i64 mn2, .int .i64 mx2, .bool lz2, .slice B2 un2 d2]).heap[k]? = x42.heap[k]?) := fun k hk => heap_setRow_out hk _
    have hss2 : x42.heap.size ≤ (x42.setRow p6 #[.int .u8 k2, .slice A2 sn2 c2, .int .i64 mn2, .int .i64 mx2, .bool lz2, .slice B2 un2 d2]).heap.size := (below_setRow (Below.refl p6 x42) (Nat.le_refl _) _).size
    obtain ⟨x43, hx⟩ : ∃ x, x = (x42.setRow p6 #[.int .u8 k2, .slice A2 sn2 c2, .int .i64 mn2, .int .i64 mx2, .bool lz2, .slice B2 un2 d2]) := ⟨_, rfl⟩
    rw [← hx] at hHeld Hcp6 Hq Hw2 hss2 ⊢
    clear hx
    refine wpAnyH_done (by kernel_rfl) ?_ _
    go_wp2_with fail
    go_meet
    have hs29 := Hs29.out
    have hs39 := Hs39.out
    have hs40 := Hs40.out
    have hs41 := Hs41.out
    have hN1 : NodeV x43 t1 (.agg #[.int .u8 k1, .slice A1 sn1 c1, .int .i64 mn1, .int .i64 mx1, .bool lz1, .slice B1 un1 d1]) := (NodeM.grow (b' := 0) HM1.out (Nat.zero_le _) (by have h1 := HKM1.out.size; omega) (fun k h1 h2 => by have h3 := HPp5.out; have h4 := HPp6.out; exact (Hw2.out k (by omega)).trans ((Hw.out k (by omega)).trans (HKM1.out.block k h2)))).un
    have hN2 : NodeV x43 t2 (.agg #[.int .u8 k2, .slice A2 sn2 c2, .int .i64 mn2, .int .i64 mx2, .bool lz2, .slice B2 un2 d2]) := (NodeM.grow (b' := 0) HM2.out (Nat.zero_le _) (by have h1 := HKM2.out.size; omega) (fun k h1 h2 => by have h3 := HPp5.out; have h4 := HPp6.out; exact (Hw2.out k (by omega)).trans ((Hw.out k (by omega)).trans (HKM2.out.block k h2)))).un
    exact ⟨p5, p6, k1, A1, sn1, c1, mn1, mx1, lz1, B1, un1, d1, k2, A2, sn2, c2, mn2, mx2, lz2, B2, un2, d2, rfl, rfl, hne, Lib.hid hN1, Lib.hid hN2, Hq, Hcp6, Lib.hid hHeld⟩
  ·go_simp
   refine hK.out _ _ (below_alloc0 hHeld _) (fun hHeld2 => ?_)
   clear hHeld
   have hHeld := hHeld2
   clear hHeld2 hK
   try simp only [pU1, pU2, pU3, pU4]
   obtain ⟨x44, hx⟩ : ∃ x, x = (wc.alloc (.cells #[.int .u8 0, .slice none 0 0, .int .i64 0, .int .i64 0, .bool false, .slice none 0 0] 25)) := ⟨_, rfl⟩
   have hkx : Kept wc x44 := by rw [hx]; exact (Below.refl _ _).alloc (Nat.le_refl _) _
   have Hs44 : Hid (x44.heap.size = wc.heap.size + 1) := by rw [hx]; show _ = _; simp
   obtain ⟨p6, hp6⟩ : ∃ b, b = wc.heap.size := ⟨_, rfl⟩
   have Hbp6 : Hid (x44.heap[p6]? = some (.cells #[.int .u8 0, .slice none 0 0, .int .i64 0, .int .i64 0, .bool false, .slice none 0 0] 25 (0, 0))) := by rw [hx, hp6]; exact heap_alloc_new wc _
   rw [← hx] at hHeld ⊢
   have HPp6 : Hid (p6 = wc.heap.size) := Lib.hid hp6
   rw [← hp6]
   clear hx hkx hp6
   refine wpAnyH_ready (rs := [5, 12]) (by kernel_rfl) (by simp) ?_
   refine AllReadyH.cons (o := ⟨some 34, _, _, _, _, _⟩) rfl (fun K hK => ?_) (AllReadyH.cons (o := ⟨some 5, _, _, _, _, _⟩) rfl (fun K hK => ?_) (AllReadyH.nil))
   ·go_simp
    refine (CM1.out _ hHeld).mono ?_
    rintro e x45 ⟨k1, A1, sn1, c1, mn1, mx1, lz1, B1, un1, d1, rfl, hm1, hkx⟩
    have HM1 := Lib.hid hm1
    have Hs45 := Lib.hid hkx.size
    replace Hbp6 := Lib.hid (heap_kept hkx Hbp6.out)
    have HKM1 : Hid (Kept x45 x45) := Below.refl _ _
    refine hK.out _ _ (hHeld.trans (hkx.mono hHeld.size)) (fun hHeld2 => ?_)
    clear hHeld
    have hHeld := hHeld2
    clear hHeld2 hm1 hkx hK
    try simp only [pU1, pU2, pU3, pU4]
    refine wpAnyH_ready (rs := [11, 12]) (by kernel_rfl) (by simp) ?_
    refine AllReadyH.cons (o := ⟨some 40, _, _, _, _, _⟩) rfl (fun K hK => ?_) (AllReadyH.cons (o := ⟨some 5, _, _, _, _, _⟩) rfl (fun K hK => ?_) (AllReadyH.nil))
    ·go_simp
     refine (CM2.out _ hHeld).mono ?_
     rintro e x46 ⟨k2, A2, sn2, c2, mn2, mx2, lz2, B2, un2, d2, rfl, hm2, hkx⟩
     have HM2 := Lib.hid hm2
     have Hs46 := Lib.hid hkx.size
     replace Hbp6 := Lib.hid (heap_kept hkx Hbp6.out)
     replace HKM1 := Lib.hid (below_kept HKM1.out hkx)
     have HKM2 : Hid (Kept x46 x46) := Below.refl _ _
     refine hK.out _ _ (hHeld.trans (hkx.mono hHeld.size)) (fun hHeld2 => ?_)
     clear hHeld
     have hHeld := hHeld2
     clear hHeld2 hm2 hkx hK
     try simp only [pU1, pU2, pU3, pU4]
     refine wpAnyH_ready (rs := [12]) (by kernel_rfl) (by simp) ?_
     refine AllReadyH.cons (o := ⟨some 5, _, _, _, _, _⟩) rfl (fun K hK => ?_) (AllReadyH.nil)
     go_simp
     refine hK.out _ _ (below_alloc0 hHeld _) (fun hHeld2 => ?_)
     clear hHeld
     have hHeld := hHeld2
     clear hHeld2 hK
     try simp only [pU1, pU2, pU3, pU4]
     obtain ⟨x47, hx⟩ : ∃ x, x = (x46.alloc (.cells #[.int .u8 0, .slice none 0 0, .int .i64 0, .int .i64 0, .bool false, .slice none 0 0] 25)) := ⟨_, rfl⟩
     have hkx : Kept x46 x47 := by rw [hx]; exact (Below.refl _ _).alloc (Nat.le_refl _) _
     have Hs47 : Hid (x47.heap.size = x46.heap.size + 1) := by rw [hx]; show _ = _; simp
     obtain ⟨p5, hp5⟩ : ∃ b, b = x46.heap.size := ⟨_, rfl⟩
     replace Hbp6 := Lib.hid (heap_kept hkx Hbp6.out)
     replace HKM1 := Lib.hid (below_kept HKM1.out hkx)
     replace HKM2 := Lib.hid (below_kept HKM2.out hkx)
     have Hbp5 : Hid (x47.heap[p5]? = some (.cells #[.int .u8 0, .slice none 0 0, .int .i64 0, .int .i64 0, .bool false, .slice none 0 0] 25 (0, 0))) := by rw [hx, hp5]; exact heap_alloc_new x46 _
     rw [← hx] at hHeld ⊢
     have HPp5 : Hid (p5 = x46.heap.size) := Lib.hid hp5
     rw [← hp5]
     clear hx hkx hp5
     refine wpAnyH_ready (rs := [14]) (by kernel_rfl) (by simp) ?_
     refine AllReadyH.cons (o := ⟨none, _, _, _, _, _⟩) rfl (fun K hK => ?_) (AllReadyH.nil)
     have hne : p5 ≠ p6 := by have h1 := HPp5.out; have h2 := HPp6.out; have a44 := Hs44.out; have a45 := Hs45.out; have a46 := Hs46.out; have a47 := Hs47.out; omega
     have z0 := row_cells Hbp5.out 0 _ rfl
     have z1 := row_cells Hbp5.out 1 _ rfl
     have z2 := row_cells Hbp5.out 2 _ rfl
     have z3 := row_cells Hbp5.out 3 _ rfl
     have z4 := row_cells Hbp5.out 4 _ rfl
     have z5 := row_cells Hbp5.out 5 _ rfl
     rw [add0] at z0 z1 z2 z3 z4 z5
     have zf : ∀ j, x47.frozen? ⟨p5, j, none⟩ = false := fun j => Lib.frozen_of_heap Hbp5.out j
     go_simp
     rw [setCell6 Hbp5.out]
     refine hK.out _ _ (below_setRow hHeld (by have h1 := HPp5.out; have h2 := HS0.out; have a44 := Hs44.out; have a45 := Hs45.out; have a46 := Hs46.out; have a47 := Hs47.out; omega) _) (fun hHeld2 => ?_)
     clear hHeld z0 z1 z2 z3 z4 z5 zf
     have hHeld := hHeld2
     clear hHeld2 hK
     try simp only [pU1, pU2, pU3, pU4]
     have Hcp5 : Hid ((x47.setRow p5 #[.int .u8 k1, .slice A1 sn1 c1, .int .i64 mn1, .int .i64 mx1, .bool lz1, .slice B1 un1 d1]).heap[p5]? = some (.cells #[.int .u8 k1, .slice A1 sn1 c1, .int .i64 mn1, .int .i64 mx1, .bool lz1, .slice B1 un1 d1] 25 (0, 0))) := setRow_heap _ _ _ _ _ _ Hbp5.out
     have Hq := Lib.hid ((heap_setRow_out (w := x47) (Ne.symm hne) #[.int .u8 k1, .slice A1 sn1 c1, .int .i64 mn1, .int .i64 mx1, .bool lz1, .slice B1 un1 d1]).trans Hbp6.out)
     have Hw : Hid (∀ k, k ≠ p5 → (x47.setRow p5 #[.int .u8 k1, .slice A1 sn1 c1, .int .i64 mn1, .int .i64 mx1, .bool lz1, .slice B1 un1 d1]).heap[k]? = x47.heap[k]?) := fun k hk => heap_setRow_out hk _
     have hss : x47.heap.size ≤ (x47.setRow p5 #[.int .u8 k1, .slice A1 sn1 c1, .int .i64 mn1, .int .i64 mx1, .bool lz1, .slice B1 un1 d1]).heap.size := (below_setRow (Below.refl p5 x47) (Nat.le_refl _) _).size
     obtain ⟨x48, hx⟩ : ∃ x, x = (x47.setRow p5 #[.int .u8 k1, .slice A1 sn1 c1, .int .i64 mn1, .int .i64 mx1, .bool lz1, .slice B1 un1 d1]) := ⟨_, rfl⟩
     rw [← hx] at hHeld Hcp5 Hq Hw hss ⊢
     clear hx Hbp6
     have Hbp6 := Hq
     clear Hq
     refine wpAnyH_ready (rs := [15]) (by kernel_rfl) (by simp) ?_
     refine AllReadyH.cons (o := ⟨none, _, _, _, _, _⟩) rfl (fun K hK => ?_) (AllReadyH.nil)
     have z0 := row_cells Hbp6.out 0 _ rfl
     have z1 := row_cells Hbp6.out 1 _ rfl
     have z2 := row_cells Hbp6.out 2 _ rfl
     have z3 := row_cells Hbp6.out 3 _ rfl
     have z4 := row_cells Hbp6.out 4 _ rfl
     have z5 := row_cells Hbp6.out 5 _ rfl
     rw [add0] at z0 z1 z2 z3 z4 z5
     have zf : ∀ j, x48.frozen? ⟨p6, j, none⟩ = false := fun j => Lib.frozen_of_heap Hbp6.out j
     go_simp
     rw [setCell6 Hbp6.out]
     refine hK.out _ _ (below_setRow hHeld (by have h1 := HPp6.out; have h2 := HS0.out; have a44 := Hs44.out; have a45 := Hs45.out; have a46 := Hs46.out; have a47 := Hs47.out; omega) _) (fun hHeld2 => ?_)
     clear hHeld z0 z1 z2 z3 z4 z5 zf
     have hHeld := hHeld2
     clear hHeld2 hK
     try simp only [pU1, pU2, pU3, pU4]
     have Hcp6 : Hid ((x48.setRow p6 #[.int .u8 k2, .slice A2 sn2 c2, .int .i64 mn2, .int .i64 mx2, .bool lz2, .slice B2 un2 d2]).heap[p6]? = some (.cells #[.int .u8 k2, .slice A2 sn2 c2, .int .i64 mn2, .int .i64 mx2, .bool lz2, .slice B2 un2 d2] 25 (0, 0))) := setRow_heap _ _ _ _ _ _ Hbp6.out
     have Hq := Lib.hid ((heap_setRow_out (w := x48) hne #[.int .u8 k2, .slice A2 sn2 c2, .int .i64 mn2, .int .i64 mx2, .bool lz2, .slice B2 un2 d2]).trans Hcp5.out)
     have Hw2 : Hid (∀ k, k ≠ p6 → (x48.setRow p6 #[.int .u8 k2, .slice A2 sn2 c2, .int .i64 mn2, .int .i64 mx2, .bool lz2, .slice B2 un2 d2]).heap[k]? = x48.heap[k]?) := fun k hk => heap_setRow_out hk _
     have hss2 : x48.heap.size ≤ (x48.setRow p6 #[.int .u8 k2, .slice A2 sn2 c2, .int .i64 mn2, .int .i64 mx2, .bool lz2, .slice B2 un2 d2]).heap.size := (below_setRow (Below.refl p6 x48) (Nat.le_refl _) _).size
     obtain ⟨x49, hx⟩ : ∃ x, x = (x48.setRow p6 #[.int .u8 k2, .slice A2 sn2 c2, .int .i64 mn2, .int .i64 mx2, .bool lz2, .slice B2 un2 d2]) := ⟨_, rfl⟩
     rw [← hx] at hHeld Hcp6 Hq Hw2 hss2 ⊢
     clear hx
     refine wpAnyH_done (by kernel_rfl) ?_ _
     go_wp2_with fail
     go_meet
     have hs44 := Hs44.out
     have hs45 := Hs45.out
     have hs46 := Hs46.out
     have hs47 := Hs47.out
     have hN1 : NodeV x49 t1 (.agg #[.int .u8 k1, .slice A1 sn1 c1, .int .i64 mn1, .int .i64 mx1, .bool lz1, .slice B1 un1 d1]) := (NodeM.grow (b' := 0) HM1.out (Nat.zero_le _) (by have h1 := HKM1.out.size; omega) (fun k h1 h2 => by have h3 := HPp5.out; have h4 := HPp6.out; exact (Hw2.out k (by omega)).trans ((Hw.out k (by omega)).trans (HKM1.out.block k h2)))).un
     have hN2 : NodeV x49 t2 (.agg #[.int .u8 k2, .slice A2 sn2 c2, .int .i64 mn2, .int .i64 mx2, .bool lz2, .slice B2 un2 d2]) := (NodeM.grow (b' := 0) HM2.out (Nat.zero_le _) (by have h1 := HKM2.out.size; omega) (fun k h1 h2 => by have h3 := HPp5.out; have h4 := HPp6.out; exact (Hw2.out k (by omega)).trans ((Hw.out k (by omega)).trans (HKM2.out.block k h2)))).un
     exact ⟨p5, p6, k1, A1, sn1, c1, mn1, mx1, lz1, B1, un1, d1, k2, A2, sn2, c2, mn2, mx2, lz2, B2, un2, d2, rfl, rfl, hne, Lib.hid hN1, Lib.hid hN2, Hq, Hcp6, Lib.hid hHeld⟩
    ·go_simp
     refine hK.out _ _ (below_alloc0 hHeld _) (fun hHeld2 => ?_)
     clear hHeld
     have hHeld := hHeld2
     clear hHeld2 hK
     try simp only [pU1, pU2, pU3, pU4]
     obtain ⟨x50, hx⟩ : ∃ x, x = (x45.alloc (.cells #[.int .u8 0, .slice none 0 0, .int .i64 0, .int .i64 0, .bool false, .slice none 0 0] 25)) := ⟨_, rfl⟩
     have hkx : Kept x45 x50 := by rw [hx]; exact (Below.refl _ _).alloc (Nat.le_refl _) _
     have Hs50 : Hid (x50.heap.size = x45.heap.size + 1) := by rw [hx]; show _ = _; simp
     obtain ⟨p5, hp5⟩ : ∃ b, b = x45.heap.size := ⟨_, rfl⟩
     replace Hbp6 := Lib.hid (heap_kept hkx Hbp6.out)
     replace HKM1 := Lib.hid (below_kept HKM1.out hkx)
     have Hbp5 : Hid (x50.heap[p5]? = some (.cells #[.int .u8 0, .slice none 0 0, .int .i64 0, .int .i64 0, .bool false, .slice none 0 0] 25 (0, 0))) := by rw [hx, hp5]; exact heap_alloc_new x45 _
     rw [← hx] at hHeld ⊢
     have HPp5 : Hid (p5 = x45.heap.size) := Lib.hid hp5
     rw [← hp5]
     clear hx hkx hp5
     refine wpAnyH_ready (rs := [11]) (by kernel_rfl) (by simp) ?_
     refine AllReadyH.cons (o := ⟨some 40, _, _, _, _, _⟩) rfl (fun K hK => ?_) (AllReadyH.nil)
     go_simp
     refine (CM2.out _ hHeld).mono ?_
     rintro e x51 ⟨k2, A2, sn2, c2, mn2, mx2, lz2, B2, un2, d2, rfl, hm2, hkx⟩
     have HM2 := Lib.hid hm2
     have Hs51 := Lib.hid hkx.size
     replace Hbp5 := Lib.hid (heap_kept hkx Hbp5.out)
     replace Hbp6 := Lib.hid (heap_kept hkx Hbp6.out)
     replace HKM1 := Lib.hid (below_kept HKM1.out hkx)
     have HKM2 : Hid (Kept x51 x51) := Below.refl _ _
     refine hK.out _ _ (hHeld.trans (hkx.mono hHeld.size)) (fun hHeld2 => ?_)
     clear hHeld
     have hHeld := hHeld2
     clear hHeld2 hm2 hkx hK
     try simp only [pU1, pU2, pU3, pU4]
     refine wpAnyH_ready (rs := [14]) (by kernel_rfl) (by simp) ?_
     refine AllReadyH.cons (o := ⟨none, _, _, _, _, _⟩) rfl (fun K hK => ?_) (AllReadyH.nil)
     have hne : p5 ≠ p6 := by have h1 := HPp5.out; have h2 := HPp6.out; have a44 := Hs44.out; have a45 := Hs45.out; have a50 := Hs50.out; have a51 := Hs51.out; omega
     have z0 := row_cells Hbp5.out 0 _ rfl
     have z1 := row_cells Hbp5.out 1 _ rfl
     have z2 := row_cells Hbp5.out 2 _ rfl
     have z3 := row_cells Hbp5.out 3 _ rfl
     have z4 := row_cells Hbp5.out 4 _ rfl
     have z5 := row_cells Hbp5.out 5 _ rfl
     rw [add0] at z0 z1 z2 z3 z4 z5
     have zf : ∀ j, x51.frozen? ⟨p5, j, none⟩ = false := fun j => Lib.frozen_of_heap Hbp5.out j
     go_simp
     rw [setCell6 Hbp5.out]
     refine hK.out _ _ (below_setRow hHeld (by have h1 := HPp5.out; have h2 := HS0.out; have a44 := Hs44.out; have a45 := Hs45.out; have a50 := Hs50.out; have a51 := Hs51.out; omega) _) (fun hHeld2 => ?_)
     clear hHeld z0 z1 z2 z3 z4 z5 zf
     have hHeld := hHeld2
     clear hHeld2 hK
     try simp only [pU1, pU2, pU3, pU4]
     have Hcp5 : Hid ((x51.setRow p5 #[.int .u8 k1, .slice A1 sn1 c1, .int .i64 mn1, .int .i64 mx1, .bool lz1, .slice B1 un1 d1]).heap[p5]? = some (.cells #[.int .u8 k1, .slice A1 sn1 c1, .int .i64 mn1, .int .i64 mx1, .bool lz1, .slice B1 un1 d1] 25 (0, 0))) := setRow_heap _ _ _ _ _ _ Hbp5.out
     have Hq := Lib.hid ((heap_setRow_out (w := x51) (Ne.symm hne) #[.int .u8 k1, .slice A1 sn1 c1, .int .i64 mn1, .int .i64 mx1, .bool lz1, .slice B1 un1 d1]).trans Hbp6.out)
     have Hw : Hid (∀ k, k ≠ p5 → (x51.setRow p5 #[.int .u8 k1, .slice A1 sn1 c1, .int .i64 mn1, .int .i64 mx1, .bool lz1, .slice B1 un1 d1]).heap[k]? = x51.heap[k]?) := fun k hk => heap_setRow_out hk _
     have hss : x51.heap.size ≤ (x51.setRow p5 #[.int .u8 k1, .slice A1 sn1 c1, .int .i64 mn1, .int .i64 mx1, .bool lz1, .slice B1 un1 d1]).heap.size := (below_setRow (Below.refl p5 x51) (Nat.le_refl _) _).size
     obtain ⟨x52, hx⟩ : ∃ x, x = (x51.setRow p5 #[.int .u8 k1, .slice A1 sn1 c1, .int .i64 mn1, .int .i64 mx1, .bool lz1, .slice B1 un1 d1]) := ⟨_, rfl⟩
     rw [← hx] at hHeld Hcp5 Hq Hw hss ⊢
     clear hx Hbp6
     have Hbp6 := Hq
     clear Hq
     refine wpAnyH_ready (rs := [15]) (by kernel_rfl) (by simp) ?_
     refine AllReadyH.cons (o := ⟨none, _, _, _, _, _⟩) rfl (fun K hK => ?_) (AllReadyH.nil)
     have z0 := row_cells Hbp6.out 0 _ rfl
     have z1 := row_cells Hbp6.out 1 _ rfl
     have z2 := row_cells Hbp6.out 2 _ rfl
     have z3 := row_cells Hbp6.out 3 _ rfl
     have z4 := row_cells Hbp6.out 4 _ rfl
     have z5 := row_cells Hbp6.out 5 _ rfl
     rw [add0] at z0 z1 z2 z3 z4 z5
     have zf : ∀ j, x52.frozen? ⟨p6, j, none⟩ = false := fun j => Lib.frozen_of_heap Hbp6.out j
     go_simp
     rw [setCell6 Hbp6.out]
     refine hK.out _ _ (below_setRow hHeld (by have h1 := HPp6.out; have h2 := HS0.out; have a44 := Hs44.out; have a45 := Hs45.out; have a50 := Hs50.out; have a51 := Hs51.out; omega) _) (fun hHeld2 => ?_)
     clear hHeld z0 z1 z2 z3 z4 z5 zf
     have hHeld := hHeld2
     clear hHeld2 hK
     try simp only [pU1, pU2, pU3, pU4]
     have Hcp6 : Hid ((x52.setRow p6 #[.int .u8 k2, .slice A2 sn2 c2, .int .i64 mn2, .int .i64 mx2, .bool lz2, .slice B2 un2 d2]).heap[p6]? = some (.cells #[.int .u8 k2, .slice A2 sn2 c2, .int .i64 mn2, .int .i64 mx2, .bool lz2, .slice B2 un2 d2] 25 (0, 0))) := setRow_heap _ _ _ _ _ _ Hbp6.out
     have Hq := Lib.hid ((heap_setRow_out (w := x52) hne #[.int .u8 k2, .slice A2 sn2 c2, .int .i64 mn2, .int .i64 mx2, .bool lz2, .slice B2 un2 d2]).trans Hcp5.out)
     have Hw2 : Hid (∀ k, k ≠ p6 → (x52.setRow p6 #[.int .u8 k2, .slice A2 sn2 c2, .int .i64 mn2, .int .i64 mx2, .bool lz2, .slice B2 un2 d2]).heap[k]? = x52.heap[k]?) := fun k hk => heap_setRow_out hk _
     have hss2 : x52.heap.size ≤ (x52.setRow p6 #[.int .u8 k2, .slice A2 sn2 c2, .int .i64 mn2, .int .i64 mx2, .bool lz2, .slice B2 un2 d2]).heap.size := (below_setRow (Below.refl p6 x52) (Nat.le_refl _) _).size
     obtain ⟨x53, hx⟩ : ∃ x, x = (x52.setRow p6 #[.int .u8 k2, .slice A2 sn2 c2, .int .i64 mn2, .int .i64 mx2, .bool lz2, .slice B2 un2 d2]) := ⟨_, rfl⟩
     rw [← hx] at hHeld Hcp6 Hq Hw2 hss2 ⊢
     clear hx
     refine wpAnyH_done (by kernel_rfl) ?_ _
     go_wp2_with fail
     go_meet
     have hs44 := Hs44.out
     have hs45 := Hs45.out
     have hs50 := Hs50.out
     have hs51 := Hs51.out
     have hN1 : NodeV x53 t1 (.agg #[.int .u8 k1, .slice A1 sn1 c1, .int .i64 mn1, .int .i64 mx1, .bool lz1, .slice B1 un1 d1]) := (NodeM.grow (b' := 0) HM1.out (Nat.zero_le _) (by have h1 := HKM1.out.size; omega) (fun k h1 h2 => by have h3 := HPp5.out; have h4 := HPp6.out; exact (Hw2.out k (by omega)).trans ((Hw.out k (by omega)).trans (HKM1.out.block k h2)))).un
     have hN2 : NodeV x53 t2 (.agg #[.int .u8 k2, .slice A2 sn2 c2, .int .i64 mn2, .int .i64 mx2, .bool lz2, .slice B2 un2 d2]) := (NodeM.grow (b' := 0) HM2.out (Nat.zero_le _) (by have h1 := HKM2.out.size; omega) (fun k h1 h2 => by have h3 := HPp5.out; have h4 := HPp6.out; exact (Hw2.out k (by omega)).trans ((Hw.out k (by omega)).trans (HKM2.out.block k h2)))).un
     exact ⟨p5, p6, k1, A1, sn1, c1, mn1, mx1, lz1, B1, un1, d1, k2, A2, sn2, c2, mn2, mx2, lz2, B2, un2, d2, rfl, rfl, hne, Lib.hid hN1, Lib.hid hN2, Hq, Hcp6, Lib.hid hHeld⟩
   ·go_simp
    refine hK.out _ _ (below_alloc0 hHeld _) (fun hHeld2 => ?_)
    clear hHeld
    have hHeld := hHeld2
    clear hHeld2 hK
    try simp only [pU1, pU2, pU3, pU4]
    obtain ⟨x54, hx⟩ : ∃ x, x = (x44.alloc (.cells #[.int .u8 0, .slice none 0 0, .int .i64 0, .int .i64 0, .bool false, .slice none 0 0] 25)) := ⟨_, rfl⟩
    have hkx : Kept x44 x54 := by rw [hx]; exact (Below.refl _ _).alloc (Nat.le_refl _) _
    have Hs54 : Hid (x54.heap.size = x44.heap.size + 1) := by rw [hx]; show _ = _; simp
    obtain ⟨p5, hp5⟩ : ∃ b, b = x44.heap.size := ⟨_, rfl⟩
    replace Hbp6 := Lib.hid (heap_kept hkx Hbp6.out)
    have Hbp5 : Hid (x54.heap[p5]? = some (.cells #[.int .u8 0, .slice none 0 0, .int .i64 0, .int .i64 0, .bool false, .slice none 0 0] 25 (0, 0))) := by rw [hx, hp5]; exact heap_alloc_new x44 _
    rw [← hx] at hHeld ⊢
    have HPp5 : Hid (p5 = x44.heap.size) := Lib.hid hp5
    rw [← hp5]
    clear hx hkx hp5
    refine wpAnyH_ready (rs := [5]) (by kernel_rfl) (by simp) ?_
    refine AllReadyH.cons (o := ⟨some 34, _, _, _, _, _⟩) rfl (fun K hK => ?_) (AllReadyH.nil)
    go_simp
    refine (CM1.out _ hHeld).mono ?_
    rintro e x55 ⟨k1, A1, sn1, c1, mn1, mx1, lz1, B1, un1, d1, rfl, hm1, hkx⟩
    have HM1 := Lib.hid hm1
    have Hs55 := Lib.hid hkx.size
    replace Hbp5 := Lib.hid (heap_kept hkx Hbp5.out)
    replace Hbp6 := Lib.hid (heap_kept hkx Hbp6.out)
    have HKM1 : Hid (Kept x55 x55) := Below.refl _ _
    refine hK.out _ _ (hHeld.trans (hkx.mono hHeld.size)) (fun hHeld2 => ?_)
    clear hHeld
    have hHeld := hHeld2
    clear hHeld2 hm1 hkx hK
    try simp only [pU1, pU2, pU3, pU4]
    refine wpAnyH_ready (rs := [11]) (by kernel_rfl) (by simp) ?_
    refine AllReadyH.cons (o := ⟨some 40, _, _, _, _, _⟩) rfl (fun K hK => ?_) (AllReadyH.nil)
    go_simp
    refine (CM2.out _ hHeld).mono ?_
    rintro e x56 ⟨k2, A2, sn2, c2, mn2, mx2, lz2, B2, un2, d2, rfl, hm2, hkx⟩
    have HM2 := Lib.hid hm2
    have Hs56 := Lib.hid hkx.size
    replace Hbp5 := Lib.hid (heap_kept hkx Hbp5.out)
    replace Hbp6 := Lib.hid (heap_kept hkx Hbp6.out)
    replace HKM1 := Lib.hid (below_kept HKM1.out hkx)
    have HKM2 : Hid (Kept x56 x56) := Below.refl _ _
    refine hK.out _ _ (hHeld.trans (hkx.mono hHeld.size)) (fun hHeld2 => ?_)
    clear hHeld
    have hHeld := hHeld2
    clear hHeld2 hm2 hkx hK
    try simp only [pU1, pU2, pU3, pU4]
    refine wpAnyH_ready (rs := [14]) (by kernel_rfl) (by simp) ?_
    refine AllReadyH.cons (o := ⟨none, _, _, _, _, _⟩) rfl (fun K hK => ?_) (AllReadyH.nil)
    have hne : p5 ≠ p6 := by have h1 := HPp5.out; have h2 := HPp6.out; have a44 := Hs44.out; have a54 := Hs54.out; have a55 := Hs55.out; have a56 := Hs56.out; omega
    have z0 := row_cells Hbp5.out 0 _ rfl
    have z1 := row_cells Hbp5.out 1 _ rfl
    have z2 := row_cells Hbp5.out 2 _ rfl
    have z3 := row_cells Hbp5.out 3 _ rfl
    have z4 := row_cells Hbp5.out 4 _ rfl
    have z5 := row_cells Hbp5.out 5 _ rfl
    rw [add0] at z0 z1 z2 z3 z4 z5
    have zf : ∀ j, x56.frozen? ⟨p5, j, none⟩ = false := fun j => Lib.frozen_of_heap Hbp5.out j
    go_simp
    rw [setCell6 Hbp5.out]
    refine hK.out _ _ (below_setRow hHeld (by have h1 := HPp5.out; have h2 := HS0.out; have a44 := Hs44.out; have a54 := Hs54.out; have a55 := Hs55.out; have a56 := Hs56.out; omega) _) (fun hHeld2 => ?_)
    clear hHeld z0 z1 z2 z3 z4 z5 zf
    have hHeld := hHeld2
    clear hHeld2 hK
    try simp only [pU1, pU2, pU3, pU4]
    have Hcp5 : Hid ((x56.setRow p5 #[.int .u8 k1, .slice A1 sn1 c1, .int .i64 mn1, .int .i64 mx1, .bool lz1, .slice B1 un1 d1]).heap[p5]? = some (.cells #[.int .u8 k1, .slice A1 sn1 c1, .int .i64 mn1, .int .i64 mx1, .bool lz1, .slice B1 un1 d1] 25 (0, 0))) := setRow_heap _ _ _ _ _ _ Hbp5.out
    have Hq := Lib.hid ((heap_setRow_out (w := x56) (Ne.symm hne) #[.int .u8 k1, .slice A1 sn1 c1, .int .i64 mn1, .int .i64 mx1, .bool lz1, .slice B1 un1 d1]).trans Hbp6.out)
    have Hw : Hid (∀ k, k ≠ p5 → (x56.setRow p5 #[.int .u8 k1, .slice A1 sn1 c1, .int .i64 mn1, .int .i64 mx1, .bool lz1, .slice B1 un1 d1]).heap[k]? = x56.heap[k]?) := fun k hk => heap_setRow_out hk _
    have hss : x56.heap.size ≤ (x56.setRow p5 #[.int .u8 k1, .slice A1 sn1 c1, .int .i64 mn1, .int .i64 mx1, .bool lz1, .slice B1 un1 d1]).heap.size := (below_setRow (Below.refl p5 x56) (Nat.le_refl _) _).size
    obtain ⟨x57, hx⟩ : ∃ x, x = (x56.setRow p5 #[.int .u8 k1, .slice A1 sn1 c1, .int .i64 mn1, .int .i64 mx1, .bool lz1, .slice B1 un1 d1]) := ⟨_, rfl⟩
    rw [← hx] at hHeld Hcp5 Hq Hw hss ⊢
    clear hx Hbp6
    have Hbp6 := Hq
    clear Hq
    refine wpAnyH_ready (rs := [15]) (by kernel_rfl) (by simp) ?_
    refine AllReadyH.cons (o := ⟨none, _, _, _, _, _⟩) rfl (fun K hK => ?_) (AllReadyH.nil)
    have z0 := row_cells Hbp6.out 0 _ rfl
    have z1 := row_cells Hbp6.out 1 _ rfl
    have z2 := row_cells Hbp6.out 2 _ rfl
    have z3 := row_cells Hbp6.out 3 _ rfl
    have z4 := row_cells Hbp6.out 4 _ rfl
    have z5 := row_cells Hbp6.out 5 _ rfl
    rw [add0] at z0 z1 z2 z3 z4 z5
    have zf : ∀ j, x57.frozen? ⟨p6, j, none⟩ = false := fun j => Lib.frozen_of_heap Hbp6.out j
    go_simp
    rw [setCell6 Hbp6.out]
    refine hK.out _ _ (below_setRow hHeld (by have h1 := HPp6.out; have h2 := HS0.out; have a44 := Hs44.out; have a54 := Hs54.out; have a55 := Hs55.out; have a56 := Hs56.out; omega) _) (fun hHeld2 => ?_)
    clear hHeld z0 z1 z2 z3 z4 z5 zf
    have hHeld := hHeld2
    clear hHeld2 hK
    try simp only [pU1, pU2, pU3, pU4]
    have Hcp6 : Hid ((x57.setRow p6 #[.int .u8 k2, .slice A2 sn2 c2, .int .i64 mn2, .int .i64 mx2, .bool lz2, .slice B2 un2 d2]).heap[p6]? = some (.cells #[.int .u8 k2, .slice A2 sn2 c2, .int .i64 mn2, .int .i64 mx2, .bool lz2, .slice B2 un2 d2] 25 (0, 0))) := setRow_heap _ _ _ _ _ _ Hbp6.out
    have Hq := Lib.hid ((heap_setRow_out (w := x57) hne #[.int .u8 k2, .slice A2 sn2 c2, .int .i64 mn2, .int .i64 mx2, .bool lz2, .slice B2 un2 d2]).trans Hcp5.out)
    have Hw2 : Hid (∀ k, k ≠ p6 → (x57.setRow p6 #[.int .u8 k2, .slice A2 sn2 c2, .int .i64 mn2, .int .i64 mx2, .bool lz2, .slice B2 un2 d2]).heap[k]? = x57.heap[k]?) := fun k hk => heap_setRow_out hk _
    have hss2 : x57.heap.size ≤ (x57.setRow p6 #[.int .u8 k2, .slice A2 sn2 c2, .int .i64 mn2, .int .i64 mx2, .bool lz2, .slice B2 un2 d2]).heap.size := (below_setRow (Below.refl p6 x57) (Nat.le_refl _) _).size
    obtain ⟨x58, hx⟩ : ∃ x, x = (x57.setRow p6 #[.int .u8 k2, .slice A2 sn2 c2, .int .i64 mn2, .int .i64 mx2, .bool lz2, .slice B2 un2 d2]) := ⟨_, rfl⟩
    rw [← hx] at hHeld Hcp6 Hq Hw2 hss2 ⊢
    clear hx
    refine wpAnyH_done (by kernel_rfl) ?_ _
    go_wp2_with fail
    go_meet
    have hs44 := Hs44.out
    have hs54 := Hs54.out
    have hs55 := Hs55.out
    have hs56 := Hs56.out
    have hN1 : NodeV x58 t1 (.agg #[.int .u8 k1, .slice A1 sn1 c1, .int .i64 mn1, .int .i64 mx1, .bool lz1, .slice B1 un1 d1]) := (NodeM.grow (b' := 0) HM1.out (Nat.zero_le _) (by have h1 := HKM1.out.size; omega) (fun k h1 h2 => by have h3 := HPp5.out; have h4 := HPp6.out; exact (Hw2.out k (by omega)).trans ((Hw.out k (by omega)).trans (HKM1.out.block k h2)))).un
    have hN2 : NodeV x58 t2 (.agg #[.int .u8 k2, .slice A2 sn2 c2, .int .i64 mn2, .int .i64 mx2, .bool lz2, .slice B2 un2 d2]) := (NodeM.grow (b' := 0) HM2.out (Nat.zero_le _) (by have h1 := HKM2.out.size; omega) (fun k h1 h2 => by have h3 := HPp5.out; have h4 := HPp6.out; exact (Hw2.out k (by omega)).trans ((Hw.out k (by omega)).trans (HKM2.out.block k h2)))).un
    exact ⟨p5, p6, k1, A1, sn1, c1, mn1, mx1, lz1, B1, un1, d1, k2, A2, sn2, c2, mn2, mx2, lz2, B2, un2, d2, rfl, rfl, hne, Lib.hid hN1, Lib.hid hN2, Hq, Hcp6, Lib.hid hHeld⟩
 case rest =>
  obtain ⟨p5, p6, k1, A1, sn1, c1, mn1, mx1, lz1, B1, un1, d1, k2, A2, sn2, c2, mn2, mx2, lz2, B2, un2, d2, rfl, rfl, hne, HN1, HN2, H5, H6, HKc⟩ := hcut
  obtain ⟨hT1, hd1, hg1⟩ := HT1.out
  obtain ⟨hT2, hd2, hg2⟩ := HT2.out
  have hr1 := rgt_of hT1 (by omega) (by omega)
  have hr2 := rgt_of hT2 (by omega) (by omega)
  have hlb := least_bd hT1
  have hlc := least_bd hT2
  have hmb := mostI_bd hT1
  have hmd := mostI_bd hT2
  have hgi := hT1.g.i.g
  obtain ⟨a, ha⟩ : ∃ x, x = (factsT t1).least := ⟨_, rfl⟩
  obtain ⟨b, hb⟩ : ∃ x, x = mostI (factsT t1) := ⟨_, rfl⟩
  obtain ⟨c, hc⟩ : ∃ x, x = (factsT t2).least := ⟨_, rfl⟩
  obtain ⟨d, hd⟩ : ∃ x, x = mostI (factsT t2) := ⟨_, rfl⟩
  obtain ⟨i, hi⟩ : ∃ x, x = (factsT t1).groups := ⟨_, rfl⟩
  obtain ⟨z, hz⟩ : ∃ x, x = decide (a = 0) := ⟨_, rfl⟩
  have CN : Hid (∀ W, Below wc.heap.size wc W → Calls Tryz.prog 22 #[.agg #[.int .u8 k1, .slice A1 sn1 c1, .int .i64 mn1, .int .i64 mx1, .bool lz1, .slice B1 un1 d1]] W fun e w' => e = .returned (.tuple #[.bool z, .int .i64 0]) ∧ Kept W w') := by
   rw [hz, ha]
   exact Lib.hid (fun W hW => nullable_r t1 _ W (HN1.out.kept hW) hr1 (by omega))
  have CL1 : Hid (∀ W, Below wc.heap.size wc W → Calls Tryz.prog 23 #[.agg #[.int .u8 k1, .slice A1 sn1 c1, .int .i64 mn1, .int .i64 mx1, .bool lz1, .slice B1 un1 d1]] W fun e w' => e = .returned (.tuple #[.int .i64 a, .int .i64 b, .int .i64 0]) ∧ Kept W w') := by
   rw [ha, hb]
   exact Lib.hid (fun W hW => lengths_r t1 _ W (HN1.out.kept hW) hr1 (by omega))
  have CL2 : Hid (∀ W, Below wc.heap.size wc W → Calls Tryz.prog 23 #[.agg #[.int .u8 k2, .slice A2 sn2 c2, .int .i64 mn2, .int .i64 mx2, .bool lz2, .slice B2 un2 d2]] W fun e w' => e = .returned (.tuple #[.int .i64 c, .int .i64 d, .int .i64 0]) ∧ Kept W w') := by
   rw [hc, hd]
   exact Lib.hid (fun W hW => lengths_r t2 _ W (HN2.out.kept hW) hr2 (by omega))
  have CG : Hid (∀ W, Below wc.heap.size wc W → Calls Tryz.prog 24 #[.agg #[.int .u8 k1, .slice A1 sn1 c1, .int .i64 mn1, .int .i64 mx1, .bool lz1, .slice B1 un1 d1]] W fun e w' => e = .returned (.tuple #[.int .i64 i, .int .i64 0]) ∧ Kept W w') := by
   rw [hi]
   exact Lib.hid (fun W hW => groups_r t1 _ W (HN1.out.kept hW) hr1 (by omega))
  have CU : Hid (∀ W, Below wc.heap.size wc W → Calls Tryz.prog 25 #[.agg #[.int .u8 k1, .slice A1 sn1 c1, .int .i64 mn1, .int .i64 mx1, .bool lz1, .slice B1 un1 d1]] W fun e w' => e = .returned (.bool z) ∧ Kept W w') := by
   rw [hz, ha]
   refine Lib.hid (fun W hW => ?_)
   have := nul_any _ t1 (Nat.le_refl _) _ W (HN1.out.kept hW)
   unfold NulC at this
   rw [hT1.n] at this
   exact this
  obtain ⟨hrg, hdg, hgg, hlg, hmg⟩ := grp_rgt HT1.out
  obtain ⟨hrc, hdc⟩ := two_rgt (.inl rfl) HT1.out HT2.out
  obtain ⟨hra, hda⟩ := two_rgt (.inr rfl) HT1.out HT2.out
  obtain ⟨hlc3, hmc3⟩ := two_cat hT1 hT2
  obtain ⟨hla4, hma4⟩ := two_alt hT1 hT2
  have XG : Hid (∀ W v, NodeV W (.mk 6 [] 0 0 false [t1]) v → Calls Tryz.prog 24 #[v] W fun e w' => e = .returned (.tuple #[.int .i64 (i + 1), .int .i64 0]) ∧ Kept W w') := by
   rw [hi, ← hgg]
   exact Lib.hid (fun W v hv => groups_r _ v W hv hrg (by omega))
  have XL : Hid (∀ W v, NodeV W (.mk 6 [] 0 0 false [t1]) v → Calls Tryz.prog 23 #[v] W fun e w' => e = .returned (.tuple #[.int .i64 a, .int .i64 b, .int .i64 0]) ∧ Kept W w') := by
   rw [ha, hb, ← hlg, ← hmg]
   exact Lib.hid (fun W v hv => lengths_r _ v W hv hrg (by omega))
  have XN : Hid (∀ W v, NodeV W (.mk 6 [] 0 0 false [t1]) v → Calls Tryz.prog 22 #[v] W fun e w' => e = .returned (.tuple #[.bool z, .int .i64 0]) ∧ Kept W w') := by
   rw [hz, ha, ← hlg]
   exact Lib.hid (fun W v hv => nullable_r _ v W hv hrg (by omega))
  rw [← ha, ← hc] at hlc3 hla4
  rw [← hb, ← hd] at hmc3 hma4
  rw [← ha] at hlb hmb
  rw [← hb] at hmb
  rw [← hc] at hlc hmd
  rw [← hd] at hmd
  rw [← hi] at hgi hg1
  obtain ⟨pc, hpc⟩ : ∃ x, x = capI (a + c) := ⟨_, rfl⟩
  obtain ⟨qc, hqc⟩ : ∃ x, x = if b = -1 ∨ d = -1 then -1 else capI (b + d) := ⟨_, rfl⟩
  obtain ⟨pa, hpa⟩ : ∃ x, x = if a ≤ c then a else c := ⟨_, rfl⟩
  obtain ⟨qa, hqa⟩ : ∃ x, x = if b = -1 ∨ d = -1 then -1 else if b ≤ d then d else b := ⟨_, rfl⟩
  have XC : Hid (∀ W v, NodeV W (.mk 3 [] 0 0 false [t1, t2]) v → Calls Tryz.prog 23 #[v] W fun e w' => e = .returned (.tuple #[.int .i64 pc, .int .i64 qc, .int .i64 0]) ∧ Kept W w') := by
   rw [hpc, ← hlc3, hqc, ← hmc3]
   exact Lib.hid (fun W v hv => lengths_r _ v W hv hrc (by omega))
  have XA : Hid (∀ W v, NodeV W (.mk 4 [] 0 0 false [t1, t2]) v → Calls Tryz.prog 23 #[v] W fun e w' => e = .returned (.tuple #[.int .i64 pa, .int .i64 qa, .int .i64 0]) ∧ Kept W w') := by
   rw [hpa, ← hla4, hqa, ← hma4]
   exact Lib.hid (fun W v hv => lengths_r _ v W hv hra (by omega))
  have Hpc := Lib.hid hpc
  have Hqc := Lib.hid hqc
  have Hpa := Lib.hid hpa
  have Hqa := Lib.hid hqa
  have Hz := Lib.hid hz
  have HKw : Hid (Kept w wc) := HK1.out.trans (HKc.out.mono HK1.out.size)
  clear hrg hdg hgg hlg hmg hrc hdc hra hda hlc3 hmc3 hla4 hma4 hpc hqc hpa hqa hz ha hb hc hd hi hr1 hr2 hd1 hd2 hg2 hT1 hT2 HT1 HT2 CM1 CM2 HK1 HKc e1 e2
  have HY0 : Hid (Below wc.heap.size wc wc) := Below.refl _ _
  have HC1 : Hid (NodeC wc t1 [.int .u8 k1, .slice A1 sn1 c1, .int .i64 mn1, .int .i64 mx1, .bool lz1, .slice B1 un1 d1]) := by
   obtain ⟨cs, hcs, hnc⟩ := HN1.out
   have hcs2 : cs = [.int .u8 k1, .slice A1 sn1 c1, .int .i64 mn1, .int .i64 mx1, .bool lz1, .slice B1 un1 d1] := by
    have := congrArg (fun v => match v with | Value.agg a => a.toList | _ => []) hcs
    simpa using this.symm
   rw [hcs2] at hnc
   exact Lib.hid hnc
  have HC2 : Hid (NodeC wc t2 [.int .u8 k2, .slice A2 sn2 c2, .int .i64 mn2, .int .i64 mx2, .bool lz2, .slice B2 un2 d2]) := by
   obtain ⟨cs, hcs, hnc⟩ := HN2.out
   have hcs2 : cs = [.int .u8 k2, .slice A2 sn2 c2, .int .i64 mn2, .int .i64 mx2, .bool lz2, .slice B2 un2 d2] := by
    have := congrArg (fun v => match v with | Value.agg a => a.toList | _ => []) hcs
    simpa using this.symm
   rw [hcs2] at hnc
   exact Lib.hid hnc
  have H5_0 := H5
  have H6_0 := H6
  clear H5 H6
  rcases hmb with rfl | ⟨hb1, hb2⟩
  ·have ha0 : ¬ a < 0 := by omega
   go_wp2_with ((refine wpList_load_row ?c0 25 (.tmp 5) ?c1 p5 ?c2 25 #[.int .u8 k1, .slice A1 sn1 c1, .int .i64 mn1, .int .i64 mx1, .bool lz1, .slice B1 un1 d1] (0, 0) _ H5_0.out Tryz.underlying25 ?c3 sizeNd ?_); (case c0 => with_reducible rfl); (case c1 => with_reducible rfl); (case c2 => rfl); (case c3 => rfl))
   refine (CN.out _ HY0.out).mono ?_
   rintro e y1 ⟨rfl, hk⟩
   have H5_1 := Lib.hid (heap_kept hk H5_0.out)
   have H6_1 := Lib.hid (heap_kept hk H6_0.out)
   have HY1 : Hid (Below wc.heap.size wc y1) := HY0.out.trans (hk.mono HY0.out.size)
   clear hk H5_0 H6_0 HY0
   go_wp2_with ((refine wpList_load_row ?c0 25 (.tmp 5) ?c1 p5 ?c2 25 #[.int .u8 k1, .slice A1 sn1 c1, .int .i64 mn1, .int .i64 mx1, .bool lz1, .slice B1 un1 d1] (0, 0) _ H5_1.out Tryz.underlying25 ?c3 sizeNd ?_); (case c0 => with_reducible rfl); (case c1 => with_reducible rfl); (case c2 => rfl); (case c3 => rfl))
   refine (CL1.out _ HY1.out).mono ?_
   rintro e y2 ⟨rfl, hk⟩
   have H5_2 := Lib.hid (heap_kept hk H5_1.out)
   have H6_2 := Lib.hid (heap_kept hk H6_1.out)
   have HY2 : Hid (Below wc.heap.size wc y2) := HY1.out.trans (hk.mono HY1.out.size)
   clear hk H5_1 H6_1 HY1
   go_wp2_with ((refine wpList_load_row ?c0 25 (.tmp 6) ?c1 p6 ?c2 25 #[.int .u8 k2, .slice A2 sn2 c2, .int .i64 mn2, .int .i64 mx2, .bool lz2, .slice B2 un2 d2] (0, 0) _ H6_2.out Tryz.underlying25 ?c3 sizeNd ?_); (case c0 => with_reducible rfl); (case c1 => with_reducible rfl); (case c2 => rfl); (case c3 => rfl))
   refine (CL2.out _ HY2.out).mono ?_
   rintro e y3 ⟨rfl, hk⟩
   have H5_3 := Lib.hid (heap_kept hk H5_2.out)
   have H6_3 := Lib.hid (heap_kept hk H6_2.out)
   have HY3 : Hid (Below wc.heap.size wc y3) := HY2.out.trans (hk.mono HY2.out.size)
   clear hk H5_2 H6_2 HY2
   go_wp2_with ((refine wpList_load_row ?c0 25 (.tmp 5) ?c1 p5 ?c2 25 #[.int .u8 k1, .slice A1 sn1 c1, .int .i64 mn1, .int .i64 mx1, .bool lz1, .slice B1 un1 d1] (0, 0) _ H5_3.out Tryz.underlying25 ?c3 sizeNd ?_); (case c0 => with_reducible rfl); (case c1 => with_reducible rfl); (case c2 => rfl); (case c3 => rfl))
   refine (CG.out _ HY3.out).mono ?_
   rintro e y4 ⟨rfl, hk⟩
   have H5_4 := Lib.hid (heap_kept hk H5_3.out)
   have H6_4 := Lib.hid (heap_kept hk H6_3.out)
   have HY4 : Hid (Below wc.heap.size wc y4) := HY3.out.trans (hk.mono HY3.out.size)
   clear hk H5_3 H6_3 HY3
   have g0 := row_cells H5_4.out 0 _ rfl
   have g1 := row_cells H5_4.out 1 _ rfl
   have g2 := row_cells H5_4.out 2 _ rfl
   have g3 := row_cells H5_4.out 3 _ rfl
   have g4 := row_cells H5_4.out 4 _ rfl
   have g5 := row_cells H5_4.out 5 _ rfl
   rw [add0] at g0 g1 g2 g3 g4 g5
   go_wp2_with fail
   clear g0 g1 g2 g3 g4 g5
   refine (CU.out _ HY4.out).mono ?_
   rintro e y5 ⟨rfl, hk⟩
   have H5_5 := Lib.hid (heap_kept hk H5_4.out)
   have H6_5 := Lib.hid (heap_kept hk H6_4.out)
   have HY5 : Hid (Below wc.heap.size wc y5) := HY4.out.trans (hk.mono HY4.out.size)
   clear hk H5_4 H6_4 HY4
   go_upto_region 11 with ((refine wpList_load_row ?c0 25 (.tmp 5) ?c1 p5 ?c2 25 #[.int .u8 k1, .slice A1 sn1 c1, .int .i64 mn1, .int .i64 mx1, .bool lz1, .slice B1 un1 d1] (0, 0) _ H5_5.out Tryz.underlying25 ?c3 sizeNd ?_); (case c0 => with_reducible rfl); (case c1 => with_reducible rfl); (case c2 => rfl); (case c3 => rfl))
   obtain ⟨gr, hgr⟩ : ∃ g, g = y5.heap.size := ⟨_, rfl⟩
   obtain ⟨y6, hyg⟩ : ∃ y, y = ((y5.alloc (.cells #[.int .u8 k1, .slice A1 sn1 c1, .int .i64 mn1, .int .i64 mx1, .bool lz1, .slice B1 un1 d1] 25)).alloc (.cells #[.int .u8 6, .slice none 0 0, .int .i64 0, .int .i64 0, .bool false, .slice (some ⟨y5.heap.size, 0, none⟩) 1 1] 25)) := ⟨_, rfl⟩
   have hkg : Kept y5 y6 := by rw [hyg]; exact ((Below.refl _ _).alloc (Nat.le_refl _) _).alloc (by simp) _
   have hrow : y6.heap[gr]? = some (.cells #[.int .u8 k1, .slice A1 sn1 c1, .int .i64 mn1, .int .i64 mx1, .bool lz1, .slice B1 un1 d1] 25 (0, 0)) := by rw [hyg, hgr]; exact (Below.heap_alloc _ _ _ (by simp)).trans (heap_alloc_new y5 _)
   have HG_6 : Hid (y6.heap[gr + 1]? = some (.cells #[.int .u8 6, .slice none 0 0, .int .i64 0, .int .i64 0, .bool false, .slice (some ⟨gr, 0, none⟩) 1 1] 25 (0, 0))) := by show _ = _; rw [hyg, hgr]; exact al_new _ _ (by simp)
   have HY6 : Hid (Below wc.heap.size wc y6) := HY5.out.trans (hkg.mono HY5.out.size)
   have HNG6 : Hid (NodeV y6 (.mk 6 [] 0 0 false [t1]) (.agg #[.int .u8 6, .slice none 0 0, .int .i64 0, .int .i64 0, .bool false, .slice (some ⟨gr, 0, none⟩) 1 1])) := Lib.hid ⟨_, rfl, node_one (c := 1) (NodeC.kept HY6.out _ _ HC1.out) hrow⟩
   have H5_6 := Lib.hid (heap_kept hkg H5_5.out)
   have H6_6 := Lib.hid (heap_kept hkg H6_5.out)
   rw [← hyg, ← hgr]
   clear hyg hgr hkg hrow H5_5 H6_5 HY5
   go_wp2_with ((refine wpList_load_row ?c0 25 (.tmp 17) ?c1 (gr + 1) ?c2 25 #[.int .u8 6, .slice none 0 0, .int .i64 0, .int .i64 0, .bool false, .slice (some ⟨gr, 0, none⟩) 1 1] (0, 0) _ HG_6.out Tryz.underlying25 ?c3 sizeNd ?_); (case c0 => with_reducible rfl); (case c1 => with_reducible rfl); (case c2 => rfl); (case c3 => rfl))
   refine (XG.out _ _ HNG6.out).mono ?_
   rintro e y7 ⟨rfl, hk⟩
   have H5_7 := Lib.hid (heap_kept hk H5_6.out)
   have H6_7 := Lib.hid (heap_kept hk H6_6.out)
   have HY7 : Hid (Below wc.heap.size wc y7) := HY6.out.trans (hk.mono HY6.out.size)
   have HG_7 := Lib.hid (heap_kept hk HG_6.out)
   have HNG7 := Lib.hid (HNG6.out.kept hk)
   clear hk H5_6 H6_6 HY6 HG_6 HNG6
   go_wp2_with ((refine wpList_load_row ?c0 25 (.tmp 17) ?c1 (gr + 1) ?c2 25 #[.int .u8 6, .slice none 0 0, .int .i64 0, .int .i64 0, .bool false, .slice (some ⟨gr, 0, none⟩) 1 1] (0, 0) _ HG_7.out Tryz.underlying25 ?c3 sizeNd ?_); (case c0 => with_reducible rfl); (case c1 => with_reducible rfl); (case c2 => rfl); (case c3 => rfl))
   refine (XL.out _ _ HNG7.out).mono ?_
   rintro e y8 ⟨rfl, hk⟩
   have H5_8 := Lib.hid (heap_kept hk H5_7.out)
   have H6_8 := Lib.hid (heap_kept hk H6_7.out)
   have HY8 : Hid (Below wc.heap.size wc y8) := HY7.out.trans (hk.mono HY7.out.size)
   have HG_8 := Lib.hid (heap_kept hk HG_7.out)
   have HNG8 := Lib.hid (HNG7.out.kept hk)
   clear hk H5_7 H6_7 HY7 HG_7 HNG7
   go_wp2_with ((refine wpList_load_row ?c0 25 (.tmp 17) ?c1 (gr + 1) ?c2 25 #[.int .u8 6, .slice none 0 0, .int .i64 0, .int .i64 0, .bool false, .slice (some ⟨gr, 0, none⟩) 1 1] (0, 0) _ HG_8.out Tryz.underlying25 ?c3 sizeNd ?_); (case c0 => with_reducible rfl); (case c1 => with_reducible rfl); (case c2 => rfl); (case c3 => rfl))
   refine (XN.out _ _ HNG8.out).mono ?_
   rintro e y9 ⟨rfl, hk⟩
   have H5_9 := Lib.hid (heap_kept hk H5_8.out)
   have H6_9 := Lib.hid (heap_kept hk H6_8.out)
   have HY9 : Hid (Below wc.heap.size wc y9) := HY8.out.trans (hk.mono HY8.out.size)
   have HG_9 := Lib.hid (heap_kept hk HG_8.out)
   have HNG9 := Lib.hid (HNG8.out.kept hk)
   clear hk H5_8 H6_8 HY8 HG_8 HNG8
   clear HNG9 HG_9
   go_upto_region 17 with (first | ((refine wpList_load_row ?c0 25 (.tmp 5) ?c1 p5 ?c2 25 #[.int .u8 k1, .slice A1 sn1 c1, .int .i64 mn1, .int .i64 mx1, .bool lz1, .slice B1 un1 d1] (0, 0) _ H5_9.out Tryz.underlying25 ?c3 sizeNd ?_); (case c0 => with_reducible rfl); (case c1 => with_reducible rfl); (case c2 => rfl); (case c3 => rfl)) | ((refine wpList_load_row ?c0 25 (.tmp 6) ?c1 p6 ?c2 25 #[.int .u8 k2, .slice A2 sn2 c2, .int .i64 mn2, .int .i64 mx2, .bool lz2, .slice B2 un2 d2] (0, 0) _ H6_9.out Tryz.underlying25 ?c3 sizeNd ?_); (case c0 => with_reducible rfl); (case c1 => with_reducible rfl); (case c2 => rfl); (case c3 => rfl)))
   obtain ⟨br, hbr⟩ : ∃ g, g = y9.heap.size := ⟨_, rfl⟩
   obtain ⟨y10, hyb⟩ : ∃ y, y = (y9.alloc (.cells #[.int .u8 k1, .slice A1 sn1 c1, .int .i64 mn1, .int .i64 mx1, .bool lz1, .slice B1 un1 d1, .int .u8 k2, .slice A2 sn2 c2, .int .i64 mn2, .int .i64 mx2, .bool lz2, .slice B2 un2 d2] 25)) := ⟨_, rfl⟩
   have hkb : Kept y9 y10 := by rw [hyb]; exact (Below.refl _ _).alloc (Nat.le_refl _) _
   have hrow : y10.heap[br]? = some (.cells #[.int .u8 k1, .slice A1 sn1 c1, .int .i64 mn1, .int .i64 mx1, .bool lz1, .slice B1 un1 d1, .int .u8 k2, .slice A2 sn2 c2, .int .i64 mn2, .int .i64 mx2, .bool lz2, .slice B2 un2 d2] 25 (0, 0)) := by rw [hyb, hbr]; exact heap_alloc_new y9 _
   have HY10 : Hid (Below wc.heap.size wc y10) := HY9.out.trans (hkb.mono HY9.out.size)
   have hrp : RdP y10 (some ⟨br, 0, none⟩) (2 * 6) [.int .u8 k1, .slice A1 sn1 c1, .int .i64 mn1, .int .i64 mx1, .bool lz1, .slice B1 un1 d1, .int .u8 k2, .slice A2 sn2 c2, .int .i64 mn2, .int .i64 mx2, .bool lz2, .slice B2 un2 d2] := ⟨⟨rfl, fun _ => ⟨_, rfl, heap_lt hrow, fun j u hu => row_cells hrow j u (by rw [← hu]; exact List.getElem?_toArray ..)⟩⟩, fun _ ad e => by cases e; exact ⟨_, _, hrow⟩⟩
   have hns : NodesC y10 [t1, t2] [.int .u8 k1, .slice A1 sn1 c1, .int .i64 mn1, .int .i64 mx1, .bool lz1, .slice B1 un1 d1, .int .u8 k2, .slice A2 sn2 c2, .int .i64 mn2, .int .i64 mx2, .bool lz2, .slice B2 un2 d2] := by
    unfold NodesC
    refine ⟨[.int .u8 k1, .slice A1 sn1 c1, .int .i64 mn1, .int .i64 mx1, .bool lz1, .slice B1 un1 d1], [.int .u8 k2, .slice A2 sn2 c2, .int .i64 mn2, .int .i64 mx2, .bool lz2, .slice B2 un2 d2], rfl, NodeC.kept HY10.out _ _ HC1.out, ?_⟩
    unfold NodesC
    exact ⟨[.int .u8 k2, .slice A2 sn2 c2, .int .i64 mn2, .int .i64 mx2, .bool lz2, .slice B2 un2 d2], [], (List.append_nil _).symm, NodeC.kept HY10.out _ _ HC2.out, by unfold NodesC; rfl⟩
   have HPC : Hid (∀ kd : Int, NodeV y10 (.mk kd [] 0 0 false [t1, t2]) (.agg #[.int .u8 kd, .slice none 0 0, .int .i64 0, .int .i64 0, .bool false, .slice (some ⟨br, 0, none⟩) 2 2])) := Lib.hid (fun kd => ⟨_, rfl, node_parts (c := 2) (by simp) hrp hns⟩)
   rw [← hyb, ← hbr]
   clear hyb hbr hkb hrow hrp hns H5_9 H6_9 HY9
   go_wp2_with fail
   refine (XC.out _ _ (HPC.out 3)).mono ?_
   rintro e y11 ⟨rfl, hk11⟩
   have HPD := Lib.hid ((HPC.out 4).kept hk11)
   have HY11 : Hid (Below wc.heap.size wc y11) := HY10.out.trans (hk11.mono HY10.out.size)
   clear hk11 HPC HY10
   go_wp2_with fail
   refine (XA.out _ _ HPD.out).mono ?_
   rintro e y12 ⟨rfl, hk12⟩
   have HY12 : Hid (Below wc.heap.size wc y12) := HY11.out.trans (hk12.mono HY11.out.size)
   clear hk12 HPD HY11
   go_upto_region 19 with fail
   clear CN CL1 CL2 CG CU XG XL XN XC XA HC1 HC2 HN1 HN2
   rcases hmd with rfl | ⟨hd1, hd2⟩
   ·skip
    obtain ⟨m1, hm1⟩ : ∃ m, min (a + c) 1073741824 = m := ⟨_, rfl⟩
    obtain ⟨m2, hm2⟩ : ∃ m, min a c = m := ⟨_, rfl⟩
    have hpv : pc = m1 := by rw [Hpc.out, ← hm1]; unfold capI; split <;> omega
    have hav : pa = m2 := by rw [Hpa.out, ← hm2]; split <;> omega
    have hqv : qc = -1 := by rw [Hqc.out]; rw [if_pos (by simp)]
    have hrv : qa = -1 := by rw [Hqa.out]; rw [if_pos (by simp)]
    clear Hpc Hqc Hpa Hqa
    rw [hpv, hqv, hav, hrv]
    clear hpv hqv hav hrv
    go_wp2_with fail
    all_goals go_ret
    all_goals exact ⟨by first | rfl | simp, HKw.out.trans (HY12.out.mono HKw.out.size)⟩
   ·have hdn : (d == -1) = false := by rw [beq_eq_false_iff_ne]; omega
    have hm3 : min (-1 + d) 1073741824 = -1 + d := by omega
    have hm4 : max (-1) d = d := by omega
    obtain ⟨m1, hm1⟩ : ∃ m, min (a + c) 1073741824 = m := ⟨_, rfl⟩
    obtain ⟨m2, hm2⟩ : ∃ m, min a c = m := ⟨_, rfl⟩
    have hpv : pc = m1 := by rw [Hpc.out, ← hm1]; unfold capI; split <;> omega
    have hav : pa = m2 := by rw [Hpa.out, ← hm2]; split <;> omega
    have hqv : qc = -1 := by rw [Hqc.out]; rw [if_pos (by simp)]
    have hrv : qa = -1 := by rw [Hqa.out]; rw [if_pos (by simp)]
    clear Hpc Hqc Hpa Hqa
    rw [hpv, hqv, hav, hrv]
    clear hpv hqv hav hrv
    go_wp2_with fail
    all_goals go_ret
    all_goals exact ⟨by first | rfl | simp, HKw.out.trans (HY12.out.mono HKw.out.size)⟩
  ·have hbn : (b != -1) = true := by rw [bne_iff_ne]; omega
   have hba : ¬ b < a := by omega
   have ha0 : ¬ a < 0 := by omega
   go_wp2_with ((refine wpList_load_row ?c0 25 (.tmp 5) ?c1 p5 ?c2 25 #[.int .u8 k1, .slice A1 sn1 c1, .int .i64 mn1, .int .i64 mx1, .bool lz1, .slice B1 un1 d1] (0, 0) _ H5_0.out Tryz.underlying25 ?c3 sizeNd ?_); (case c0 => with_reducible rfl); (case c1 => with_reducible rfl); (case c2 => rfl); (case c3 => rfl))
   refine (CN.out _ HY0.out).mono ?_
   rintro e y1 ⟨rfl, hk⟩
   have H5_1 := Lib.hid (heap_kept hk H5_0.out)
   have H6_1 := Lib.hid (heap_kept hk H6_0.out)
   have HY1 : Hid (Below wc.heap.size wc y1) := HY0.out.trans (hk.mono HY0.out.size)
   clear hk H5_0 H6_0 HY0
   go_wp2_with ((refine wpList_load_row ?c0 25 (.tmp 5) ?c1 p5 ?c2 25 #[.int .u8 k1, .slice A1 sn1 c1, .int .i64 mn1, .int .i64 mx1, .bool lz1, .slice B1 un1 d1] (0, 0) _ H5_1.out Tryz.underlying25 ?c3 sizeNd ?_); (case c0 => with_reducible rfl); (case c1 => with_reducible rfl); (case c2 => rfl); (case c3 => rfl))
   refine (CL1.out _ HY1.out).mono ?_
   rintro e y2 ⟨rfl, hk⟩
   have H5_2 := Lib.hid (heap_kept hk H5_1.out)
   have H6_2 := Lib.hid (heap_kept hk H6_1.out)
   have HY2 : Hid (Below wc.heap.size wc y2) := HY1.out.trans (hk.mono HY1.out.size)
   clear hk H5_1 H6_1 HY1
   go_wp2_with ((refine wpList_load_row ?c0 25 (.tmp 6) ?c1 p6 ?c2 25 #[.int .u8 k2, .slice A2 sn2 c2, .int .i64 mn2, .int .i64 mx2, .bool lz2, .slice B2 un2 d2] (0, 0) _ H6_2.out Tryz.underlying25 ?c3 sizeNd ?_); (case c0 => with_reducible rfl); (case c1 => with_reducible rfl); (case c2 => rfl); (case c3 => rfl))
   refine (CL2.out _ HY2.out).mono ?_
   rintro e y3 ⟨rfl, hk⟩
   have H5_3 := Lib.hid (heap_kept hk H5_2.out)
   have H6_3 := Lib.hid (heap_kept hk H6_2.out)
   have HY3 : Hid (Below wc.heap.size wc y3) := HY2.out.trans (hk.mono HY2.out.size)
   clear hk H5_2 H6_2 HY2
   go_wp2_with ((refine wpList_load_row ?c0 25 (.tmp 5) ?c1 p5 ?c2 25 #[.int .u8 k1, .slice A1 sn1 c1, .int .i64 mn1, .int .i64 mx1, .bool lz1, .slice B1 un1 d1] (0, 0) _ H5_3.out Tryz.underlying25 ?c3 sizeNd ?_); (case c0 => with_reducible rfl); (case c1 => with_reducible rfl); (case c2 => rfl); (case c3 => rfl))
   refine (CG.out _ HY3.out).mono ?_
   rintro e y4 ⟨rfl, hk⟩
   have H5_4 := Lib.hid (heap_kept hk H5_3.out)
   have H6_4 := Lib.hid (heap_kept hk H6_3.out)
   have HY4 : Hid (Below wc.heap.size wc y4) := HY3.out.trans (hk.mono HY3.out.size)
   clear hk H5_3 H6_3 HY3
   have g0 := row_cells H5_4.out 0 _ rfl
   have g1 := row_cells H5_4.out 1 _ rfl
   have g2 := row_cells H5_4.out 2 _ rfl
   have g3 := row_cells H5_4.out 3 _ rfl
   have g4 := row_cells H5_4.out 4 _ rfl
   have g5 := row_cells H5_4.out 5 _ rfl
   rw [add0] at g0 g1 g2 g3 g4 g5
   go_wp2_with fail
   clear g0 g1 g2 g3 g4 g5
   refine (CU.out _ HY4.out).mono ?_
   rintro e y5 ⟨rfl, hk⟩
   have H5_5 := Lib.hid (heap_kept hk H5_4.out)
   have H6_5 := Lib.hid (heap_kept hk H6_4.out)
   have HY5 : Hid (Below wc.heap.size wc y5) := HY4.out.trans (hk.mono HY4.out.size)
   clear hk H5_4 H6_4 HY4
   go_upto_region 11 with ((refine wpList_load_row ?c0 25 (.tmp 5) ?c1 p5 ?c2 25 #[.int .u8 k1, .slice A1 sn1 c1, .int .i64 mn1, .int .i64 mx1, .bool lz1, .slice B1 un1 d1] (0, 0) _ H5_5.out Tryz.underlying25 ?c3 sizeNd ?_); (case c0 => with_reducible rfl); (case c1 => with_reducible rfl); (case c2 => rfl); (case c3 => rfl))
   obtain ⟨gr, hgr⟩ : ∃ g, g = y5.heap.size := ⟨_, rfl⟩
   obtain ⟨y6, hyg⟩ : ∃ y, y = ((y5.alloc (.cells #[.int .u8 k1, .slice A1 sn1 c1, .int .i64 mn1, .int .i64 mx1, .bool lz1, .slice B1 un1 d1] 25)).alloc (.cells #[.int .u8 6, .slice none 0 0, .int .i64 0, .int .i64 0, .bool false, .slice (some ⟨y5.heap.size, 0, none⟩) 1 1] 25)) := ⟨_, rfl⟩
   have hkg : Kept y5 y6 := by rw [hyg]; exact ((Below.refl _ _).alloc (Nat.le_refl _) _).alloc (by simp) _
   have hrow : y6.heap[gr]? = some (.cells #[.int .u8 k1, .slice A1 sn1 c1, .int .i64 mn1, .int .i64 mx1, .bool lz1, .slice B1 un1 d1] 25 (0, 0)) := by rw [hyg, hgr]; exact (Below.heap_alloc _ _ _ (by simp)).trans (heap_alloc_new y5 _)
   have HG_6 : Hid (y6.heap[gr + 1]? = some (.cells #[.int .u8 6, .slice none 0 0, .int .i64 0, .int .i64 0, .bool false, .slice (some ⟨gr, 0, none⟩) 1 1] 25 (0, 0))) := by show _ = _; rw [hyg, hgr]; exact al_new _ _ (by simp)
   have HY6 : Hid (Below wc.heap.size wc y6) := HY5.out.trans (hkg.mono HY5.out.size)
   have HNG6 : Hid (NodeV y6 (.mk 6 [] 0 0 false [t1]) (.agg #[.int .u8 6, .slice none 0 0, .int .i64 0, .int .i64 0, .bool false, .slice (some ⟨gr, 0, none⟩) 1 1])) := Lib.hid ⟨_, rfl, node_one (c := 1) (NodeC.kept HY6.out _ _ HC1.out) hrow⟩
   have H5_6 := Lib.hid (heap_kept hkg H5_5.out)
   have H6_6 := Lib.hid (heap_kept hkg H6_5.out)
   rw [← hyg, ← hgr]
   clear hyg hgr hkg hrow H5_5 H6_5 HY5
   go_wp2_with ((refine wpList_load_row ?c0 25 (.tmp 17) ?c1 (gr + 1) ?c2 25 #[.int .u8 6, .slice none 0 0, .int .i64 0, .int .i64 0, .bool false, .slice (some ⟨gr, 0, none⟩) 1 1] (0, 0) _ HG_6.out Tryz.underlying25 ?c3 sizeNd ?_); (case c0 => with_reducible rfl); (case c1 => with_reducible rfl); (case c2 => rfl); (case c3 => rfl))
   refine (XG.out _ _ HNG6.out).mono ?_
   rintro e y7 ⟨rfl, hk⟩
   have H5_7 := Lib.hid (heap_kept hk H5_6.out)
   have H6_7 := Lib.hid (heap_kept hk H6_6.out)
   have HY7 : Hid (Below wc.heap.size wc y7) := HY6.out.trans (hk.mono HY6.out.size)
   have HG_7 := Lib.hid (heap_kept hk HG_6.out)
   have HNG7 := Lib.hid (HNG6.out.kept hk)
   clear hk H5_6 H6_6 HY6 HG_6 HNG6
   go_wp2_with ((refine wpList_load_row ?c0 25 (.tmp 17) ?c1 (gr + 1) ?c2 25 #[.int .u8 6, .slice none 0 0, .int .i64 0, .int .i64 0, .bool false, .slice (some ⟨gr, 0, none⟩) 1 1] (0, 0) _ HG_7.out Tryz.underlying25 ?c3 sizeNd ?_); (case c0 => with_reducible rfl); (case c1 => with_reducible rfl); (case c2 => rfl); (case c3 => rfl))
   refine (XL.out _ _ HNG7.out).mono ?_
   rintro e y8 ⟨rfl, hk⟩
   have H5_8 := Lib.hid (heap_kept hk H5_7.out)
   have H6_8 := Lib.hid (heap_kept hk H6_7.out)
   have HY8 : Hid (Below wc.heap.size wc y8) := HY7.out.trans (hk.mono HY7.out.size)
   have HG_8 := Lib.hid (heap_kept hk HG_7.out)
   have HNG8 := Lib.hid (HNG7.out.kept hk)
   clear hk H5_7 H6_7 HY7 HG_7 HNG7
   go_wp2_with ((refine wpList_load_row ?c0 25 (.tmp 17) ?c1 (gr + 1) ?c2 25 #[.int .u8 6, .slice none 0 0, .int .i64 0, .int .i64 0, .bool false, .slice (some ⟨gr, 0, none⟩) 1 1] (0, 0) _ HG_8.out Tryz.underlying25 ?c3 sizeNd ?_); (case c0 => with_reducible rfl); (case c1 => with_reducible rfl); (case c2 => rfl); (case c3 => rfl))
   refine (XN.out _ _ HNG8.out).mono ?_
   rintro e y9 ⟨rfl, hk⟩
   have H5_9 := Lib.hid (heap_kept hk H5_8.out)
   have H6_9 := Lib.hid (heap_kept hk H6_8.out)
   have HY9 : Hid (Below wc.heap.size wc y9) := HY8.out.trans (hk.mono HY8.out.size)
   have HG_9 := Lib.hid (heap_kept hk HG_8.out)
   have HNG9 := Lib.hid (HNG8.out.kept hk)
   clear hk H5_8 H6_8 HY8 HG_8 HNG8
   clear HNG9 HG_9
   go_upto_region 17 with (first | ((refine wpList_load_row ?c0 25 (.tmp 5) ?c1 p5 ?c2 25 #[.int .u8 k1, .slice A1 sn1 c1, .int .i64 mn1, .int .i64 mx1, .bool lz1, .slice B1 un1 d1] (0, 0) _ H5_9.out Tryz.underlying25 ?c3 sizeNd ?_); (case c0 => with_reducible rfl); (case c1 => with_reducible rfl); (case c2 => rfl); (case c3 => rfl)) | ((refine wpList_load_row ?c0 25 (.tmp 6) ?c1 p6 ?c2 25 #[.int .u8 k2, .slice A2 sn2 c2, .int .i64 mn2, .int .i64 mx2, .bool lz2, .slice B2 un2 d2] (0, 0) _ H6_9.out Tryz.underlying25 ?c3 sizeNd ?_); (case c0 => with_reducible rfl); (case c1 => with_reducible rfl); (case c2 => rfl); (case c3 => rfl)))
   obtain ⟨br, hbr⟩ : ∃ g, g = y9.heap.size := ⟨_, rfl⟩
   obtain ⟨y10, hyb⟩ : ∃ y, y = (y9.alloc (.cells #[.int .u8 k1, .slice A1 sn1 c1, .int .i64 mn1, .int .i64 mx1, .bool lz1, .slice B1 un1 d1, .int .u8 k2, .slice A2 sn2 c2, .int .i64 mn2, .int .i64 mx2, .bool lz2, .slice B2 un2 d2] 25)) := ⟨_, rfl⟩
   have hkb : Kept y9 y10 := by rw [hyb]; exact (Below.refl _ _).alloc (Nat.le_refl _) _
   have hrow : y10.heap[br]? = some (.cells #[.int .u8 k1, .slice A1 sn1 c1, .int .i64 mn1, .int .i64 mx1, .bool lz1, .slice B1 un1 d1, .int .u8 k2, .slice A2 sn2 c2, .int .i64 mn2, .int .i64 mx2, .bool lz2, .slice B2 un2 d2] 25 (0, 0)) := by rw [hyb, hbr]; exact heap_alloc_new y9 _
   have HY10 : Hid (Below wc.heap.size wc y10) := HY9.out.trans (hkb.mono HY9.out.size)
   have hrp : RdP y10 (some ⟨br, 0, none⟩) (2 * 6) [.int .u8 k1, .slice A1 sn1 c1, .int .i64 mn1, .int .i64 mx1, .bool lz1, .slice B1 un1 d1, .int .u8 k2, .slice A2 sn2 c2, .int .i64 mn2, .int .i64 mx2, .bool lz2, .slice B2 un2 d2] := ⟨⟨rfl, fun _ => ⟨_, rfl, heap_lt hrow, fun j u hu => row_cells hrow j u (by rw [← hu]; exact List.getElem?_toArray ..)⟩⟩, fun _ ad e => by cases e; exact ⟨_, _, hrow⟩⟩
   have hns : NodesC y10 [t1, t2] [.int .u8 k1, .slice A1 sn1 c1, .int .i64 mn1, .int .i64 mx1, .bool lz1, .slice B1 un1 d1, .int .u8 k2, .slice A2 sn2 c2, .int .i64 mn2, .int .i64 mx2, .bool lz2, .slice B2 un2 d2] := by
    unfold NodesC
    refine ⟨[.int .u8 k1, .slice A1 sn1 c1, .int .i64 mn1, .int .i64 mx1, .bool lz1, .slice B1 un1 d1], [.int .u8 k2, .slice A2 sn2 c2, .int .i64 mn2, .int .i64 mx2, .bool lz2, .slice B2 un2 d2], rfl, NodeC.kept HY10.out _ _ HC1.out, ?_⟩
    unfold NodesC
    exact ⟨[.int .u8 k2, .slice A2 sn2 c2, .int .i64 mn2, .int .i64 mx2, .bool lz2, .slice B2 un2 d2], [], (List.append_nil _).symm, NodeC.kept HY10.out _ _ HC2.out, by unfold NodesC; rfl⟩
   have HPC : Hid (∀ kd : Int, NodeV y10 (.mk kd [] 0 0 false [t1, t2]) (.agg #[.int .u8 kd, .slice none 0 0, .int .i64 0, .int .i64 0, .bool false, .slice (some ⟨br, 0, none⟩) 2 2])) := Lib.hid (fun kd => ⟨_, rfl, node_parts (c := 2) (by simp) hrp hns⟩)
   rw [← hyb, ← hbr]
   clear hyb hbr hkb hrow hrp hns H5_9 H6_9 HY9
   go_wp2_with fail
   refine (XC.out _ _ (HPC.out 3)).mono ?_
   rintro e y11 ⟨rfl, hk11⟩
   have HPD := Lib.hid ((HPC.out 4).kept hk11)
   have HY11 : Hid (Below wc.heap.size wc y11) := HY10.out.trans (hk11.mono HY10.out.size)
   clear hk11 HPC HY10
   go_wp2_with fail
   refine (XA.out _ _ HPD.out).mono ?_
   rintro e y12 ⟨rfl, hk12⟩
   have HY12 : Hid (Below wc.heap.size wc y12) := HY11.out.trans (hk12.mono HY11.out.size)
   clear hk12 HPD HY11
   go_upto_region 19 with fail
   clear CN CL1 CL2 CG CU XG XL XN XC XA HC1 HC2 HN1 HN2
   rcases hmd with rfl | ⟨hd1, hd2⟩
   ·have h3 : b + -1 ≤ 1073741824 := by omega
    have h4 : -1 ≤ b := by omega
    have h5 : ¬ b ≤ -1 := by omega
    obtain ⟨m1, hm1⟩ : ∃ m, min (a + c) 1073741824 = m := ⟨_, rfl⟩
    obtain ⟨m2, hm2⟩ : ∃ m, min a c = m := ⟨_, rfl⟩
    have hpv : pc = m1 := by rw [Hpc.out, ← hm1]; unfold capI; split <;> omega
    have hav : pa = m2 := by rw [Hpa.out, ← hm2]; split <;> omega
    have hqv : qc = -1 := by rw [Hqc.out]; rw [if_pos (by simp)]
    have hrv : qa = -1 := by rw [Hqa.out]; rw [if_pos (by simp)]
    clear Hpc Hqc Hpa Hqa
    rw [hpv, hqv, hav, hrv]
    clear hpv hqv hav hrv
    go_wp2_with fail
    all_goals go_ret
    all_goals exact ⟨by first | rfl | simp, HKw.out.trans (HY12.out.mono HKw.out.size)⟩
   ·have hdn : (d == -1) = false := by rw [beq_eq_false_iff_ne]; omega
    have hbe : (b == -1) = false := by rw [beq_eq_false_iff_ne]; omega
    obtain ⟨m3, hm3⟩ : ∃ m, min (b + d) 1073741824 = m := ⟨_, rfl⟩
    obtain ⟨m4, hm4⟩ : ∃ m, max b d = m := ⟨_, rfl⟩
    skip
    obtain ⟨m1, hm1⟩ : ∃ m, min (a + c) 1073741824 = m := ⟨_, rfl⟩
    obtain ⟨m2, hm2⟩ : ∃ m, min a c = m := ⟨_, rfl⟩
    have hpv : pc = m1 := by rw [Hpc.out, ← hm1]; unfold capI; split <;> omega
    have hav : pa = m2 := by rw [Hpa.out, ← hm2]; split <;> omega
    have hqv : qc = m3 := by rw [Hqc.out]; rw [if_neg (by omega), ← hm3]; unfold capI; split <;> omega
    have hrv : qa = m4 := by rw [Hqa.out]; rw [if_neg (by omega), ← hm4]; split <;> omega
    clear Hpc Hqc Hpa Hqa
    rw [hpv, hqv, hav, hrv]
    clear hpv hqv hav hrv
    go_wp2_with fail
    all_goals go_ret
    all_goals exact ⟨by first | rfl | simp, HKw.out.trans (HY12.out.mono HKw.out.size)⟩
end Go.Proofs.YtmgkdmbifecekaaGreatDoor
