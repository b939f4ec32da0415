/-
  LabelOrder, of what Made gives.
-/
import Derived.Test.YtnnnpnmiepbbeaaDoorLbOrd
import Derived.Test.YtnnnpnmiepbbeaaDoorLbW
import Derived.Test.YtnnnpnmiepbbeaaDoorLbR
import Derived.Test.YtnnnpnmiepbbeaaDoorTurn
import Derived.Deep.DeepCutAuto
namespace Go.Proofs.YtnnnpnmiepbbeaaDoor
open Go.RowKit Go.Shelf Go.Maps Go.Sort
section
variable {P : Program}
/-- append of labels that lie anywhere, or of none, onto one's own. -/
theorem run_appL (w : World) (base : Nat) (t ty : TypeId) (i : TypeInfo) (z : Value) (bytes : Nat) (ht : P.underlying t = some (.slice 36)) (hi : P.info? 36 = some i) (hz : i.zero = some z)
    (hsize : i.size = 2) (hby : i.bytes = bytes) (hzs : z.cells.size = 2)
    (v : Value) (n : Nat) (xs : List Value) (hown : w.ownsRow base 36 2 v n xs)
    (A : Option Addr) (m c : Nat) (news : List Value) (hr : Rd w w.heap.size A (m * 2) news) (h1 : ∀ u ∈ news, u.oneCell' = true)
    (h63 : n + m ≤ maxLen) (hbytes : (n + m) * bytes ≤ 140737488355328) (hbase : base ≤ w.heap.size) :
    ∃ v' w', (Builtin.append_ #[t, t] ty #[v, .slice A m c]).run P w = .ok v' w' ∧ w'.ownsRow base 36 2 v' (n + m) (xs ++ news) ∧ Below base w w' := by
  rcases A with _ | a
  · have hm : m = 0 := by
      rcases Nat.eq_zero_or_pos m with h | h
      · exact h
      · obtain ⟨_, e, _⟩ := hr.2 (by omega)
        cases e
    subst hm
    obtain rfl := List.eq_nil_of_length_eq_zero (by have := hr.1; omega : news.length = 0)
    refine ⟨v, w, ?_, by simpa using hown, Below.refl _ _⟩
    rcases hown.2 with ⟨rfl, rfl⟩ | ⟨g, cap, cur, rfl, _, _, hnc, _⟩
    · simp [Builtin.append_, run_underlying ht, sizeOf, typeInfo, hi, Builtin.lenOf, Builtin.firstCells]
    · simp [Builtin.append_, run_underlying ht, sizeOf, typeInfo, hi, Builtin.lenOf, Builtin.firstCells, hnc, storeCells]
  · have hc : ∀ j u, news[j]? = some u → w.cell? (a.add j) = some u := by
      intro j u hu
      have hj := (List.getElem?_eq_some_iff.1 hu).1
      obtain ⟨_, e, _, hc⟩ := hr.2 (by have := hr.1; omega)
      cases e
      exact hc j u hu
    obtain ⟨v', w', hrun, h2, h3, _, _⟩ := run_append_own_at (P := P) w base t ty 36 i z 2 bytes ht hi hz hsize hby hzs (by decide) v n xs hown a m c news hr.1 hc h1 h63 hbytes hbase
    exact ⟨v', w', hrun, h2, Below.grown (Below.refl base w) h3 hbase (fun j e => (hown.lt j e).1)⟩
theorem step_appL {ops : Array Oper} {o : Oper} {a : Act} {w : World} {K : Act → World → Prop} {Q : Exit → Act → World → Prop} {E : Prop} (hgd : o.guard = none) (s x : Operand) (t : TypeId)
    (ho : o.op = .call { callee := .builtin .append, args := #[s, x], argTypes := #[t, t] })
    (base : Nat) (i : TypeInfo) (z : Value) (bytes : Nat) (ht : P.underlying t = some (.slice 36)) (hi : P.info? 36 = some i) (hz : i.zero = some z)
    (hsize : i.size = 2) (hby : i.bytes = bytes) (hzs : z.cells.size = 2)
    (v : Value) (n : Nat) (xs : List Value) (hs : a.eval s = v) (hown : w.ownsRow base 36 2 v n xs)
    (A : Option Addr) (m c : Nat) (news : List Value) (hx : a.eval x = .slice A m c) (hr : Rd w w.heap.size A (m * 2) news) (h1 : ∀ u ∈ news, u.oneCell' = true)
    (h63 : n + m ≤ maxLen) (hbytes : (n + m) * bytes ≤ 140737488355328) (hbase : base ≤ w.heap.size)
    (h : ∀ v' w', w'.ownsRow base 36 2 v' (n + m) (xs ++ news) → Below base w w' → K (a.put o.dst v') w') :
    if Region.wanted o (yielded ops a.tmps) = true then Oper.wp P o a w K Q else E := by
  have hw : Region.wanted o (yielded ops a.tmps) = true := by simp [Region.wanted, hgd]
  rw [if_pos hw]
  obtain ⟨v', w', hrun, h2, h3⟩ := run_appL (P := P) w base t o.type i z bytes ht hi hz hsize hby hzs v n xs hown A m c news hr h1 h63 hbytes hbase
  unfold Oper.wp execOp
  simp only [ho, resolve, invoke, builtin, Sem.run_bind, Sem.run_pure, Result.andThen_ok, List.map_toArray, List.map_cons, List.map_nil, hs, hx, hrun]
  exact h v' w' h2 h3
end
theorem turn_rd {w : World} {base : Nat} {v : Value} {k nL : Nat} {L : List Lab} (h : w.ownsRow base 36 2 v (0 + (nL - k) + k) (labs [] ++ labs (L.drop k) ++ labs (L.take k))) (hl : (L.drop k ++ L.take k).length = nL) (hk : k ≤ nL) :
    ∃ A c, v = .slice A nL c ∧ RdL w w.heap.size A (L.drop k ++ L.take k) := by
  obtain ⟨A, c, rfl, _, hr⟩ := own_rd h
  have e : 0 + (nL - k) + k = nL := by omega
  rw [e] at hr ⊢
  refine ⟨A, c, rfl, ?_⟩
  show Rd _ _ _ _ _
  rw [hl, labs_app]
  exact hr
/-- What lies behind a place of labels, and ahead of it. -/
theorem rdl_drop {w : World} {B : Nat} {A : Option Addr} {L : List Lab} (h : RdL w B A L) (k c : Nat) (hk : k ≤ L.length) (hc : L.length ≤ c) : Rd w B (if c = k then A else A.map (·.add (k * 2))) ((L.length - k) * 2) (labs (L.drop k)) := by
  refine ⟨by rw [labs_length, List.length_drop], fun h0 => ?_⟩
  obtain ⟨ad, rfl, hb, hcc⟩ := h.2 (by omega)
  rw [if_neg (by omega)]
  refine ⟨ad.add (k * 2), rfl, by rw [addBlock]; exact hb, fun i u hu => ?_⟩
  rw [addr_add_add]
  refine hcc _ u ?_
  have h2 : labs L = labs (L.take k) ++ labs (L.drop k) := by rw [← labs_app, List.take_append_drop]
  have h3 : (labs (L.take k)).length = k * 2 := by rw [labs_length, List.length_take, Nat.min_eq_left hk]
  rw [h2, List.getElem?_append_right (by omega), h3, Nat.add_sub_cancel_left]
  exact hu
theorem rdl_take {w : World} {B : Nat} {A : Option Addr} {L : List Lab} (h : RdL w B A L) (k : Nat) (hk : k ≤ L.length) : Rd w B A (k * 2) (labs (L.take k)) := by
  refine ⟨by rw [labs_length, List.length_take, Nat.min_eq_left hk], fun h0 => ?_⟩
  obtain ⟨ad, rfl, hb, hcc⟩ := h.2 (by omega)
  refine ⟨ad, rfl, hb, fun i u hu => hcc i u ?_⟩
  have h2 : labs L = labs (L.take k) ++ labs (L.drop k) := by rw [← labs_app, List.take_append_drop]
  rw [h2, List.getElem?_append_left (List.getElem?_eq_some_iff.1 hu).1]
  exact hu
set_option maxRecDepth 100000 in
set_option maxHeartbeats 20000000 in
theorem order_of (p : List (Nat × Nat)) (a : Value) (t : Nat) (ht : t ≤ 255) (w : World) (hT : Tab w)
    (C1 : ∀ W, Kept w W → Calls Tryd.prog 12 #[a] W fun e w' => ∃ A c, e = .returned (.slice A (mkL p).length c) ∧ RdL w' w'.heap.size A (mkL p) ∧ Kept W w' ∧ (mkL p).length ≤ c) :
    Calls Tryd.prog 4 #[a, .int .u8 (t : Int)] w fun e w' => e = .returned (.bool true) ∧ Kept w w' := by
  have CA := Lib.hid (awake_any w hT)
  have HT := Lib.hid hT
  have H1 := Lib.hid C1
  have l1 := mkL_len p
  have l2 := rightL_len p
  have HO := Lib.hid (mkL_once p)
  have HOk := Lib.hid (mkL_ok p)
  have HRt : Hid (rgtB (rightL p) = true) := mkL_right p
  have HG : Hid (∀ s, getL s (rightL p) = wantF s (mkL p)) := rightL_get p
  have HNm := Lib.hid (rightL_names p)
  have HCt : Hid (cntF (fun s => getL s (rightL p)) 16 = (rightL p).length) := cnt_right HRt.out HNm.out
  have HSm : Hid (∀ x ∈ rightL p, x.2.size ≤ 281474976710656) := right_vals HRt.out
  have HP : Hid ((puts [] ((mkL p).map lb)).map bl = rightL p) := rfl
  generalize rightL p = R at *
  generalize mkL p = L at *
  obtain ⟨nL, hnL⟩ : ∃ n, n = L.length := ⟨_, rfl⟩
  obtain ⟨nR, hnR⟩ : ∃ n, n = R.length := ⟨_, rfl⟩
  have HnL := Lib.hid hnL
  have HnR := Lib.hid hnR
  rw [← hnL] at l1 H1
  rw [← hnR] at l2
  clear C1 hT hnL hnR
  go_enter Tryd.func4, Tryd.ntmps4
  go_wp2_with fail
  refine CA.out.mono ?_
  rintro e w1 ⟨rfl, hk⟩
  have K1 := Lib.hid hk
  clear hk CA
  go_wp2_with fail
  refine (H1.out _ K1.out).mono ?_
  rintro e w2 ⟨A5, c5, rfl, hr, hk, hcap⟩
  have R5 := Lib.hid hr
  have K2 := Lib.hid (below_kept K1.out hk)
  clear hr hk H1 K1
  have CO := Lib.hid (of_goodc A5 c5 L R w2 (by rw [← HnL.out]; omega) R5.out (HT.out.below K2.out) (fwE_ok HOk.out) (once_tw HO.out) HP.out (by rw [← HnR.out]; omega))
  rw [← HnL.out, ← HnR.out] at CO
  go_wp2_with fail
  refine CO.out.mono ?_
  rintro e w3 ⟨A6, c6, rfl, hr6, hk3, hcap6⟩
  replace R5 := Lib.hid ((R5.out.below hk3).more (Below.size hk3))
  have K3 := Lib.hid (below_kept K2.out hk3)
  have R6 := Lib.hid hr6
  clear hr6 hk3 CO K2
  obtain ⟨k, hkt, hkn⟩ : ∃ k : Nat, (0 < nL → Int.tmod (t : Int) (nL : Int) = (k : Int)) ∧ (nL = 0 → k = 0) := by
    rcases Nat.eq_zero_or_pos nL with h | h
    · exact ⟨0, fun h2 => by omega, fun _ => rfl⟩
    · exact ⟨t % nL, fun _ => rfl, fun h2 => by omega⟩
  have hkL : k ≤ nL := by
    rcases Nat.eq_zero_or_pos nL with h | h
    · have := hkn h; omega
    · have h2 := hkt h
      have h3 := Int.tmod_lt_of_pos (t : Int) (show (0 : Int) < (nL : Int) by omega)
      omega
  go_upto_if 28 with fail
  go_cut [8] (fun v8 wx => v8 = .int .i64 (k : Int) ∧ wx = w3)
  case first =>
    rcases Nat.eq_zero_or_pos nL with h | h
    · have hk0 := hkn h
      subst h hk0
      go_wp2_with fail
      go_meet
      exact ⟨by simp, rfl⟩
    · have hkt2 := hkt h
      have hw64 : wrap64 (t : Int) = (t : Int) := by unfold wrap64; omega
      have hn0 : (nL : Int) ≠ 0 := by omega
      have hnp : (0 : Int) < (nL : Int) := by omega
      go_wp2_with fail
      go_meet
      exact ⟨rfl, rfl⟩
  case rest =>
    obtain ⟨rfl, rfl⟩ := hcut
    obtain ⟨hoT, hpT⟩ := turned HO.out k
    have HL2 : Hid ((L.drop k ++ L.take k).length = nL) := by show _ = _; rw [List.length_append, List.length_drop, List.length_take, ← HnL.out, Nat.min_eq_left hkL]; omega
    have CO2 : Hid (∀ A c W, Kept wc W → RdL W W.heap.size A (L.drop k ++ L.take k) → Calls Tryd.prog 13 #[.slice A nL c] W fun e w' => ∃ A c, e = .returned (.tuple #[.slice A nR c, .int .i64 0]) ∧ RdL w' w'.heap.size A R ∧ Kept W w') := fun A c W hW hr => by
      have h := of_goodc A c (L.drop k ++ L.take k) R W (by rw [HL2.out]; omega) hr (HT.out.below (below_kept K3.out hW)) (fwE_ok fun x hx => HOk.out x (by
        rcases List.mem_append.1 hx with h | h
        · exact List.mem_of_mem_drop h
        · exact List.mem_of_mem_take h)) (once_tw hoT) (by rw [hpT]; exact HP.out) (by rw [← HnR.out]; omega)
      rw [HL2.out, ← HnR.out] at h
      exact h.mono fun e w' ⟨A, c, h1, h2, h3, _⟩ => ⟨A, c, h1, h2, h3⟩
    have HD : Hid (∀ W, Kept wc W → Rd W W.heap.size (if c5 = k then A5 else A5.map (·.add (k * 2))) ((nL - k) * 2) (labs (L.drop k))) := fun W h => by
      have := rdl_drop ((R5.out.below h).more (Below.size h)) k c5 (by rw [← HnL.out]; exact hkL) (by rw [← HnL.out]; exact hcap)
      rwa [← HnL.out] at this
    have HTk : Hid (∀ W, Kept wc W → Rd W W.heap.size A5 (k * 2) (labs (L.take k))) := fun W h => rdl_take ((R5.out.below h).more (Below.size h)) k (by rw [← HnL.out]; exact hkL)
    obtain ⟨i0, hi0, hz0, hz1, hz2⟩ := info_parts infoLab
    have hkI : (k : Int) ≤ nL := by omega
    have hnc : (nL : Int) ≤ c5 := by omega
    have hkc : (k : Int) ≤ c5 := by omega
    have hnot1 : ¬ nL < k := by omega
    have hnot2 : ¬ c5 < nL := by omega
    have hnot3 : ¬ c5 < k := by omega
    clear hoT hpT hkt hkn
    go_upto_region 8 with fail
    refine wp_region_held_drew (S := fun _ => True) (by kernel_rfl) trivial (fun hHeld => ?_)
    refine wpAnyH_take (i := 1) (oi := ⟨some 36, _, _, _, _, _⟩) (v := ?_) rfl (by kernel_rfl) (by kernel_rfl) (by kernel_rfl) (fun _ _ _ h => h) (Or.inl ⟨by rfl, ?_⟩) hHeld ?_
    rotate_left
    · (intro w hSw; go_simp; (try with_reducible rfl))
    try simp only [Act.put, List.setIfInBounds_toArray, List.set_cons_zero, List.set_cons_succ]
    refine wpAnyH_take (i := 2) (oi := ⟨some 37, _, _, _, _, _⟩) (v := ?_) rfl (by kernel_rfl) (by kernel_rfl) (by kernel_rfl) (fun _ _ _ h => h) (Or.inl ⟨by rfl, ?_⟩) hHeld ?_
    rotate_left
    · (intro w hSw; go_simp; (try with_reducible rfl))
    try simp only [Act.put, List.setIfInBounds_toArray, List.set_cons_zero, List.set_cons_succ]
    refine wpAnyH_take (i := 3) (oi := ⟨some 38, _, _, _, _, _⟩) (v := ?_) rfl (by kernel_rfl) (by kernel_rfl) (by kernel_rfl) (fun _ _ _ h => h) (Or.inl ⟨by rfl, ?_⟩) hHeld ?_
    rotate_left
    · (intro w hSw; go_simp; (try with_reducible rfl))
    try simp only [Act.put, List.setIfInBounds_toArray, List.set_cons_zero, List.set_cons_succ]
    refine wpAnyH_take (i := 5) (oi := ⟨some 40, _, _, _, _, _⟩) (v := ?_) rfl (by kernel_rfl) (by kernel_rfl) (by kernel_rfl) (fun _ _ _ h => h) (Or.inl ⟨by rfl, ?_⟩) hHeld ?_
    rotate_left
    · (intro w hSw; go_simp; (try with_reducible rfl))
    try simp only [Act.put, List.setIfInBounds_toArray, List.set_cons_zero, List.set_cons_succ]
    refine wpAnyH_take (i := 6) (oi := ⟨some 41, _, _, _, _, _⟩) (v := ?_) rfl (by kernel_rfl) (by kernel_rfl) (by kernel_rfl) (fun _ _ _ h => h) (Or.inl ⟨by rfl, ?_⟩) hHeld ?_
    rotate_left
    · (intro w hSw; go_simp; (try with_reducible rfl))
    try simp only [Act.put, List.setIfInBounds_toArray, List.set_cons_zero, List.set_cons_succ]
    refine wpAnyH_take (i := 7) (oi := ⟨some 42, _, _, _, _, _⟩) (v := ?_) rfl (by kernel_rfl) (by kernel_rfl) (by kernel_rfl) (fun _ _ _ h => h) (Or.inl ⟨by rfl, ?_⟩) hHeld ?_
    rotate_left
    · (intro w hSw; go_simp; (try with_reducible rfl))
    try simp only [Act.put, List.setIfInBounds_toArray, List.set_cons_zero, List.set_cons_succ]
    refine wpAnyH_ready (rs := [0]) (by kernel_rfl) (by simp) ?_
    refine AllReadyH.cons (o := ⟨some 35, _, _, _, _, _⟩) rfl (fun K hK => ?_) (AllReadyH.nil)
    · go_simp
      obtain ⟨wd0, hwd, hd0, hkd, _⟩ := new_row wc #[] 36
      rw [← hwd]
      obtain ⟨wd, hwd2⟩ : ∃ x, x = wd0.drew := ⟨_, rfl⟩
      rw [← hwd2]
      have Kd : Hid (Kept wc wd) := by rw [hwd2]; exact below_drew0 hkd
      replace hd0 : wd.heap[wc.heap.size]? = some (.cells #[] 36 (0, 0)) := by rw [hwd2]; exact hd0
      have own0 : Hid (wd.ownsRow wc.heap.size 36 2 (.slice (some ⟨wc.heap.size, 0, none⟩) 0 0) 0 (labs [])) := ⟨rfl, .inr ⟨_, 0, #[], rfl, Nat.le_refl _, hd0, Nat.le_refl _, Nat.zero_le _, rfl, rfl⟩⟩
      clear hwd hwd2 hd0 hkd
      refine hK.out _ _ trivial (fun hHeld => ?_)
      clear hK K
      try simp only [Act.put, List.setIfInBounds_toArray, List.set_cons_zero, List.set_cons_succ]
      refine wpAnyH_ready (rs := [4]) (by kernel_rfl) (by simp) ?_
      refine AllReadyH.cons (o := ⟨some 39, _, _, _, _, _⟩) rfl (fun K hK => ?_) (AllReadyH.nil)
      · skip
        refine step_appL rfl _ _ 22 rfl wc.heap.size i0 (.agg #[.string ⟨#[]⟩, .string ⟨#[]⟩]) 32 Tryd.underlying22 hi0 hz0 hz1 hz2 rfl _ 0 (labs []) rfl own0.out _ (nL - k) _ (labs (L.drop k)) rfl (HD.out _ Kd.out) (labs_one _) (by unfold maxLen; omega) (by omega) ?_ ?_
        · exact Kd.out.size
        intro v4 w4 hown4 hb4
        have Own4 := Lib.hid hown4
        have K4 : Hid (Kept wc w4) := Below.trans Kd.out hb4
        clear hown4 hb4 own0
        refine hK.out _ _ trivial (fun hHeld => ?_)
        clear hK K
        try simp only [Act.put, List.setIfInBounds_toArray, List.set_cons_zero, List.set_cons_succ]
        refine wpAnyH_ready (rs := [8]) (by kernel_rfl) (by simp) ?_
        refine AllReadyH.cons (o := ⟨some 43, _, _, _, _, _⟩) rfl (fun K hK => ?_) (AllReadyH.nil)
        · skip
          refine step_appL rfl _ _ 22 rfl wc.heap.size i0 (.agg #[.string ⟨#[]⟩, .string ⟨#[]⟩]) 32 Tryd.underlying22 hi0 hz0 hz1 hz2 rfl v4 (0 + (nL - k)) (labs [] ++ labs (L.drop k)) rfl Own4.out _ k _ (labs (L.take k)) rfl (HTk.out _ K4.out) (labs_one _) (by unfold maxLen; omega) (by omega) ?_ ?_
          · exact K4.out.size
          intro v5 w5 hown5 hb5
          obtain ⟨A9, c9, rfl, hr9⟩ := turn_rd hown5 HL2.out hkL
          have R9 := Lib.hid hr9
          have K5 : Hid (Kept wc w5) := Below.trans K4.out hb5
          clear hown5 hb5 Own4 hr9
          refine hK.out _ _ trivial (fun hHeld => ?_)
          clear hK K
          try simp only [Act.put, List.setIfInBounds_toArray, List.set_cons_zero, List.set_cons_succ]
          refine wpAnyH_ready (rs := [9]) (by kernel_rfl) (by simp) ?_
          refine AllReadyH.cons (o := ⟨some 44, _, _, _, _, _⟩) rfl (fun K hK => ?_) (AllReadyH.nil)
          · go_simp
            refine (CO2.out A9 c9 w5 K5.out R9.out).mono ?_
            rintro e w6 ⟨A7, c7, rfl, hr7, hk7⟩
            have R7 := Lib.hid hr7
            have K6 := Lib.hid (below_kept K5.out hk7)
            clear hr7 hk7 R9
            refine hK.out _ _ trivial (fun hHeld => ?_)
            clear hK K
            try simp only [Act.put, List.setIfInBounds_toArray, List.set_cons_zero, List.set_cons_succ]
            refine wpAnyH_take (i := 10) (oi := ⟨some 34, _, _, _, _, _⟩) (v := ?_) rfl (by kernel_rfl) (by kernel_rfl) (by kernel_rfl) (fun _ _ _ h => h) (Or.inl ⟨by rfl, ?_⟩) hHeld ?_
            rotate_left
            · (intro w hSw; go_simp; (try with_reducible rfl))
            try simp only [Act.put, List.setIfInBounds_toArray, List.set_cons_zero, List.set_cons_succ]
            refine wpAnyH_take (i := 11) (oi := ⟨some 45, _, _, _, _, _⟩) (v := ?_) rfl (by kernel_rfl) (by kernel_rfl) (by kernel_rfl) (fun _ _ _ h => h) (Or.inl ⟨by rfl, ?_⟩) hHeld ?_
            rotate_left
            · (intro w hSw; go_simp; (try with_reducible rfl))
            try simp only [Act.put, List.setIfInBounds_toArray, List.set_cons_zero, List.set_cons_succ]
            refine wpAnyH_take (i := 12) (oi := ⟨some 46, _, _, _, _, _⟩) (v := ?_) rfl (by kernel_rfl) (by kernel_rfl) (by kernel_rfl) (fun _ _ _ h => h) (Or.inl ⟨by rfl, ?_⟩) hHeld ?_
            rotate_left
            · (intro w hSw; go_simp; (try with_reducible rfl))
            try simp only [Act.put, List.setIfInBounds_toArray, List.set_cons_zero, List.set_cons_succ]
            refine wpAnyH_take (i := 13) (oi := ⟨some 9, _, _, _, _, _⟩) (v := ?_) rfl (by kernel_rfl) (by kernel_rfl) (by kernel_rfl) (fun _ _ _ h => h) (Or.inl ⟨by rfl, ?_⟩) hHeld ?_
            rotate_left
            · (intro w hSw; go_simp; (try with_reducible rfl))
            try simp only [Act.put, List.setIfInBounds_toArray, List.set_cons_zero, List.set_cons_succ]
            refine wpAnyH_take (i := 14) (oi := ⟨some 10, _, _, _, _, _⟩) (v := ?_) rfl (by kernel_rfl) (by kernel_rfl) (by kernel_rfl) (fun _ _ _ h => h) (Or.inl ⟨by rfl, ?_⟩) hHeld ?_
            rotate_left
            · (intro w hSw; go_simp; (try with_reducible rfl))
            try simp only [Act.put, List.setIfInBounds_toArray, List.set_cons_zero, List.set_cons_succ]
            refine wpAnyH_done (by kernel_rfl) ?_ _
            have R66 := Lib.hid ((R6.out.below K6.out).more (Below.size K6.out))
            have K66 := Lib.hid (below_kept K3.out K6.out)
            have CRt : Hid (∀ W, Kept w6 W → Calls Tryd.prog 14 #[.slice A6 nR c6] W fun e w' => e = .returned (.bool true) ∧ Kept W w') := fun W h => by
              have h := right_any A6 c6 R (by rw [← HnR.out]; omega) W ((R66.out.below h).more (Below.size h)) (HT.out.below (below_kept K66.out h))
              rw [HRt.out, ← HnR.out] at h
              exact h
            have CS : Hid (∀ W, Kept w6 W → Calls Tryd.prog 15 #[.slice A6 nR c6, .slice A7 nR c7] W fun e w' => e = .returned (.bool true) ∧ Kept W w') := fun W h => by
              have R77 := (R7.out.below h).more (Below.size h)
              have h := same_any A6 A7 c6 c7 R R (by rw [← HnR.out]; omega) (by rw [← HnR.out]; omega) W ((R66.out.below h).more (Below.size h)) R77
              rw [← HnR.out, show sameB R R = true by unfold sameB; exact decide_eq_true rfl] at h
              exact h
            have Kr6 := Lib.hid (Below.refl w6.heap.size w6)
            replace R5 := Lib.hid ((R5.out.below K6.out).more (Below.size K6.out))
            clear CO2 HD HTk R7 R6 HL2 HP HO HOk HRt K3 K4 K5 Kd
            generalize (if c5 = k then A5 else Option.map (fun x => x.add (k * 2)) A5) = AX
            go_wp2_with (first
              | (go_at_call 15; refine (CS.out _ K8).mono ?_; rintro e w9 ⟨rfl, hk9⟩; have K9 := Lib.hid (below_kept K8 hk9); clear hk9)
              | (go_at_call 14; refine (CRt.out _ Kr6.out).mono ?_; rintro e w8 ⟨rfl, K8⟩)
              | (go_at_call 16; refine (names_any _).mono ?_; rintro e w10 ⟨gN, rfl, hgN, hN, hk10⟩; have K10 := Lib.hid (below_kept K9.out hk10); clear hk10))
            have R10 := Lib.hid ((R5.out.below K10.out).more (Below.size K10.out))
            have CG : Hid (∀ s W, Kept w10 W → Calls Tryd.prog 17 #[.slice A6 nR c6, .string s] W fun e w' => e = .returned (.string (wantF s L)) ∧ Kept W w') := fun s W h => by
              have h2 := get_any A6 c6 R (by rw [← HnR.out]; omega) HSm.out s W ((R66.out.below (below_kept K10.out h)).more (Below.size (below_kept K10.out h)))
              rw [← HnR.out, HG.out s] at h2
              exact h2
            have HCnt : Hid (cntF (fun s => wantF s L) 16 = nR) := by
              show _ = _
              rw [show (fun s => wantF s L) = fun s => getL s R from funext fun s => (HG.out s).symm, HnR.out]
              exact HCt.out
            have K11 := Lib.hid (below_kept K66.out K10.out)
            have HcL : Hid (∀ i, cntF (fun s => wantF s L) i ≤ 16) := fun i => cntF_le _ i
            have hgN2 := heap_lt hN.out
            clear CRt CS Kr6 R66 K66 R5 K8 K9 K10 hgN HG HCt HSm HNm HT K6
            go_loopw [11, 64] (fun v11 v64 wr => ∃ i : Nat, i ≤ 16 ∧ v11 = .int .i64 (cntF (fun s => wantF s L) i : Nat) ∧ v64 = .int .i64 i ∧ Hid (Kept w10 wr)) (fun _ v64 _ => 16 - (intOf v64).toNat)
            case atStart => exact ⟨0, by omega, rfl, rfl, Below.refl _ _⟩
            case round =>
              obtain ⟨i, hi, rfl, rfl, hkr⟩ := hrel
              have hcl := HcL.out i
              by_cases hin : i < 16
              · obtain ⟨s, hs⟩ : ∃ s, nms[i]? = some s := ⟨_, List.getElem?_eq_getElem hin⟩
                have Hstep := Lib.hid (cntF_step (fun s => wantF s L) hs)
                have hcs : wr.cell? ⟨gN, i, none⟩ = some (.string s) := (Below.cell hkr.out (p := ⟨gN, i, none⟩) hgN2).trans (by
                  rw [cell_of_row _ gN i _ _ _ hN.out, List.getElem?_toArray, strs_get nms i hin]
                  rw [List.getElem?_eq_getElem hin] at hs
                  rw [Option.some.inj hs])
                have hinI : (i : Int) < 16 := by omega
                obtain ⟨wa, rfl⟩ : ∃ x, x = wr := ⟨_, rfl⟩
                generalize cntF (fun s => wantF s L) i = cn at *
                clear hs
                go_wp2_with fail
                go_loopw [14, 70] (fun v14 v70 wx => ∃ j : Nat, j ≤ nL ∧ v14 = .string (wantF s (L.take j)) ∧ v70 = .int .i64 j ∧ Hid (Kept wa wx)) (fun _ v70 _ => nL - (intOf v70).toNat)
                case atStart => exact ⟨0, by omega, rfl, rfl, Below.refl _ _⟩
                case round =>
                  obtain ⟨j, hj, rfl, rfl, hkx⟩ := hrel
                  have Kx := Lib.hid (below_kept hkr.out hkx.out)
                  by_cases hjn : j < nL
                  · obtain ⟨ad, x, rfl, hadb, hx, hd, hc0, hc1⟩ := rdl_at R10.out (by rw [← HnL.out]; exact hjn)
                    have e0 := (Below.cell Kx.out (by rw [addBlock]; exact hadb)).trans hc0
                    have e1 := (Below.cell Kx.out (by rw [addBlock]; exact hadb)).trans hc1
                    have Hcl := Lib.hid (lab_cells e0 e1)
                    have Hw : Hid (wantF s (L.take (j + 1)) = if x.1 = s then x.2 else wantF s (L.take j)) := by
                      show _ = _
                      rw [List.take_add_one, hx]
                      exact wantF_snoc s _ x
                    generalize wantF s (L.take j) = vj at *
                    have hbq := str_beq x.1 s
                    have hjI : (j : Int) < nL := by omega
                    have Kn : Hid (Kept wa (wr.alloc (.cells #[.string x.1, .string x.2] 36))) := below_alloc0 hkx.out _
                    clear hx hd hc0 hc1 e0 e1
                    by_cases hxs : x.1 = s
                    · rw [if_pos hxs] at Hw
                      rw [decide_eq_true hxs] at hbq
                      clear hxs
                      go_wp2_with (refine wpList_load_at rfl 36 (.tmp 72) rfl (ad.add (j * 2)) rfl #[.string x.1, .string x.2] _ Hcl.out Tryd.underlying36 rfl sizeL ?_)
                      go_roundw
                      case rel => exact ⟨j + 1, by omega, by rw [Hw.out], by go_num, Kn⟩
                      case measure => simp [intOf]; omega
                    · rw [if_neg hxs] at Hw
                      rw [decide_eq_false hxs] at hbq
                      clear hxs
                      go_wp2_with (refine wpList_load_at rfl 36 (.tmp 72) rfl (ad.add (j * 2)) rfl #[.string x.1, .string x.2] _ Hcl.out Tryd.underlying36 rfl sizeL ?_)
                      go_roundw
                      case rel => exact ⟨j + 1, by omega, by rw [Hw.out], by go_num, Kn⟩
                      case measure => simp [intOf]; omega
                  · obtain rfl : j = nL := by omega
                    rw [List.take_of_length_le (by rw [HnL.out]; exact Nat.le_refl _)]
                    have CG1 := Lib.hid (CG.out s wr Kx.out)
                    generalize wantF s L = vs at *
                    by_cases hv : vs = ⟨#[]⟩
                    · rw [if_pos hv] at Hstep
                      have hbz := empty_yes hv
                      clear hv
                      go_wp2_with (go_at_call 17; refine CG1.out.mono ?_; rintro e w12 ⟨rfl, hk12⟩; have K12 := Lib.hid (below_kept Kx.out hk12); clear hk12)
                      go_roundw
                      case rel => exact ⟨i + 1, by omega, by rw [Hstep.out], by go_num, K12⟩
                      case measure => simp [intOf]; omega
                    · rw [if_neg hv] at Hstep
                      have hbz := empty_no hv
                      clear hv
                      go_wp2_with (go_at_call 17; refine CG1.out.mono ?_; rintro e w12 ⟨rfl, hk12⟩; have K12 := Lib.hid (below_kept Kx.out hk12); clear hk12)
                      go_roundw
                      case rel => exact ⟨i + 1, by omega, by rw [Hstep.out]; go_num, by go_num, K12⟩
                      case measure => simp [intOf]; omega
              · obtain rfl : i = 16 := by omega
                rw [HCnt.out] at *
                go_wp2_with fail
                go_ret
                exact ⟨rfl, below_kept K11.out hkr.out⟩
end Go.Proofs.YtnnnpnmiepbbeaaDoor
