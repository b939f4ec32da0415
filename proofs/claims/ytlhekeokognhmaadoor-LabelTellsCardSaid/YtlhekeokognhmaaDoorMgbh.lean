/-
  LabelMerges, of what right gives. Answers that are one's own: where they lie; what an append leaves of them.
-/
import Derived.Test.YtlhekeokognhmaaDoorMgbf
import Derived.Test.YtlhekeokognhmaaDoorLbR
import Derived.Deep.DeepCutAuto
import Derived.Test.YtlhekeokognhmaaDoorLbZ
namespace Go.Proofs.YtlhekeokognhmaaDoor
open Go.RowKit Go.Shelf Go.Maps Go.Sort
/-- What right answers. -/
def RightIs (p : List (Nat × Nat)) (a : Value) (w : World) : Prop := ∀ W, Kept w W → Calls Tryd.prog 18 #[a] W fun e w' => ∃ A c, e = .returned (.tuple #[.slice A (rightL p).length c, .bool true]) ∧ RdL w' w'.heap.size A (rightL p) ∧ Kept W w' ∧ (rightL p).length ≤ c
theorem merge_none {L E : List Lab} (hL : RN L) (hE : RN E) : mergeBad L E = none := by unfold mergeBad; rw [if_pos ⟨hL.1, hE.1⟩]
theorem set_none {L E : List Lab} (hL : RN L) (hE : ∀ x ∈ E, wrE x = 0) : setBad L E = none := by unfold setBad; rw [if_pos hL.1, if_pos (fwE_ok hE)]
theorem RN.ok {L : List Lab} (h : RN L) : ∀ x ∈ L, wrE x = 0 := fun x hx => (right_all h.1 x hx).1
section
variable {L : List Lab} (hL : RN L) {A : Option Addr} {c n : Nat} (hn : n = L.length) {w : World} (hr : RdL w w.heap.size A L)
include hL hn hr
theorem get_rn (s : ByteArray) (W : World) (h : Kept w W) : Calls Tryd.prog 17 #[.slice A n c, .string s] W fun e w' => e = .returned (.string (getL s L)) ∧ Kept W w' := by
  rw [hn]
  have := hL.len
  exact get_any A c L (by omega) (right_vals hL.1) s W ((hr.below h).more (Below.size h))
theorem right_rn (hT : Tab w) (W : World) (h : Kept w W) : Calls Tryd.prog 14 #[.slice A n c] W fun e w' => e = .returned (.bool true) ∧ Kept W w' := by
  rw [hn]
  have := hL.len
  have h2 := right_any A c L (by omega) W ((hr.below h).more (Below.size h)) (hT.below h)
  rw [hL.1] at h2
  exact h2
theorem same_rn {A2 : Option Addr} {c2 : Nat} (hr2 : RdL w w.heap.size A2 L) (W : World) (h : Kept w W) : Calls Tryd.prog 15 #[.slice A n c, .slice A2 n c2] W fun e w' => e = .returned (.bool true) ∧ Kept W w' := by
  rw [hn]
  have := hL.len
  have h2 := same_any A A2 c c2 L L (by omega) (by omega) W ((hr.below h).more (Below.size h)) ((hr2.below h).more (Below.size h))
  rw [show sameB L L = true by unfold sameB; exact decide_eq_true rfl] at h2
  exact h2
end
set_option maxRecDepth 100000 in
set_option maxHeartbeats 20000000 in
theorem merges_of (p q : List (Nat × Nat)) (a b : Value) (w : World) (hT : Tab w) (C1 : RightIs p a w) (C2 : RightIs q b w) :
    Calls Tryd.prog 6 #[a, b] w fun e w' => e = .returned (.bool true) ∧ Kept w w' := by
  have CA := Lib.hid (awake_any w hT)
  have HT := Lib.hid hT
  have H1 : Hid (RightIs p a w) := C1
  have H2 : Hid (RightIs q b w) := C2
  unfold RightIs at H1 H2
  have n1 := Lib.hid (rightL_RN p)
  have n2 := Lib.hid (rightL_RN q)
  generalize rightL p = L at *
  generalize rightL q = E at *
  obtain ⟨M, hM⟩ : ∃ M, M = putR (E ++ L) := ⟨_, rfl⟩
  have n3 : Hid (RN M) := by rw [hM]; exact merge_RN n1.out n2.out
  have HG : Hid (∀ s, getL s M = if getL s L = ⟨#[]⟩ then getL s E else getL s L) := fun s => by rw [hM]; exact get_merge n1.out.1 n2.out.1 s
  have HM := Lib.hid hM
  obtain ⟨nL, hnL⟩ : ∃ n, n = L.length := ⟨_, rfl⟩
  obtain ⟨nE, hnE⟩ : ∃ n, n = E.length := ⟨_, rfl⟩
  obtain ⟨nM, hnM⟩ : ∃ n, n = M.length := ⟨_, rfl⟩
  have CM : Hid (∀ A A' c c' W, Kept w W → RdL W W.heap.size A L → RdL W W.heap.size A' E → Calls Tryd.prog 21 #[.slice A nL c, .slice A' nE c'] W fun e w' => ∃ A c, e = .returned (.tuple #[.slice A nM c, .int .i64 0]) ∧ RdL w' w'.heap.size A M ∧ Kept W w') := fun A A' c c' W hk h1 h2 => by
    rw [hnL, hnE, hnM]
    have := n1.out.len
    have := n2.out.len
    have := n3.out.len
    exact merge_good A A' c c' L E M W (by omega) (by omega) h1 h2 (HT.out.below hk) (merge_none n1.out n2.out) HM.out.symm (by omega)
  have CE : Hid (∀ A A' c c' W, Kept w W → RdL W W.heap.size A E → RdL W W.heap.size A' L → Calls Tryd.prog 20 #[.slice A nE c, .slice A' nL c'] W fun e w' => ∃ A c, e = .returned (.tuple #[.slice A nM c, .int .i64 0]) ∧ RdL w' w'.heap.size A M ∧ Kept W w') := fun A A' c c' W hk h1 h2 => by
    rw [hnL, hnE, hnM]
    have := n1.out.len
    have := n2.out.len
    have := n3.out.len
    exact set_good A A' c c' E L M W (by omega) (by omega) h1 h2 (HT.out.below hk) (set_none n2.out n1.out.ok) HM.out.symm (by omega)
  have CL : Hid (∀ A A' c c' W, Kept w W → RdL W W.heap.size A L → RdL W W.heap.size A' L → Calls Tryd.prog 21 #[.slice A nL c, .slice A' nL c'] W fun e w' => ∃ A c, e = .returned (.tuple #[.slice A nL c, .int .i64 0]) ∧ RdL w' w'.heap.size A L ∧ Kept W w') := fun A A' c c' W hk h1 h2 => by
    rw [hnL]
    have := n1.out.len
    exact merge_good A A' c c' L L L W (by omega) (by omega) h1 h2 (HT.out.below hk) (merge_none n1.out n1.out) (putR_twice n1.out.1) (by omega)
  have HnL := Lib.hid hnL
  have HnE := Lib.hid hnE
  have HnM := Lib.hid hnM
  rw [← hnL] at H1
  rw [← hnE] at H2
  clear C1 C2 hT hM hnL hnE hnM HM
  go_enter Tryd.func6, Tryd.ntmps6
  go_wp2_with fail
  refine CA.out.mono ?_
  rintro e w1 ⟨rfl, hk⟩
  have K1 := Lib.hid hk
  clear hk CA
  go_wp2_with fail
  refine (H1.out _ K1.out).mono ?_
  rintro e w2 ⟨A1, c1, rfl, hr, hk, _⟩
  have R1 := Lib.hid hr
  have K2 := Lib.hid (below_kept K1.out hk)
  clear hr hk H1 K1
  go_wp2_with fail
  refine (H2.out _ K2.out).mono ?_
  rintro e w3 ⟨A2, c2, rfl, hr, hk, _⟩
  replace R1 := Lib.hid ((R1.out.below hk).more (Below.size hk))
  have R2 := Lib.hid hr
  have K3 := Lib.hid (below_kept K2.out hk)
  clear hr hk H2 K2
  go_wp2_with fail
  refine (CM.out _ _ _ _ _ K3.out R1.out R2.out).mono ?_
  rintro e w4 ⟨A3, c3, rfl, hr, hk⟩
  replace R1 := Lib.hid ((R1.out.below hk).more (Below.size hk))
  replace R2 := Lib.hid ((R2.out.below hk).more (Below.size hk))
  have R3 := Lib.hid hr
  have K4 := Lib.hid (below_kept K3.out hk)
  clear hr hk CM K3
  go_wp2_with fail
  refine (CE.out _ _ _ _ _ K4.out R2.out R1.out).mono ?_
  rintro e w5 ⟨A4, c4, rfl, hr, hk⟩
  replace R1 := Lib.hid ((R1.out.below hk).more (Below.size hk))
  replace R2 := Lib.hid ((R2.out.below hk).more (Below.size hk))
  replace R3 := Lib.hid ((R3.out.below hk).more (Below.size hk))
  have R4 := Lib.hid hr
  have K5 := Lib.hid (below_kept K4.out hk)
  clear hr hk CE K4
  go_wp2_with fail
  refine (CL.out _ _ _ _ _ K5.out R1.out R1.out).mono ?_
  rintro e w6 ⟨A5, c5, rfl, hr, hk⟩
  replace R1 := Lib.hid ((R1.out.below hk).more (Below.size hk))
  replace R2 := Lib.hid ((R2.out.below hk).more (Below.size hk))
  replace R3 := Lib.hid ((R3.out.below hk).more (Below.size hk))
  replace R4 := Lib.hid ((R4.out.below hk).more (Below.size hk))
  have R5 := Lib.hid hr
  have K6 := Lib.hid (below_kept K5.out hk)
  clear hr hk CL K5
  have CR := Lib.hid (right_rn n3.out (c := c3) HnM.out R3.out (HT.out.below K6.out))
  have S1 := Lib.hid (same_rn n3.out (c := c3) (c2 := c4) HnM.out R3.out R4.out)
  have S2 := Lib.hid (same_rn n1.out (c := c5) (c2 := c1) HnL.out R5.out R1.out)
  have G1 := Lib.hid (get_rn n1.out (c := c1) HnL.out R1.out)
  have G2 := Lib.hid (get_rn n2.out (c := c2) HnE.out R2.out)
  have G3 := Lib.hid (get_rn n3.out (c := c3) HnM.out R3.out)
  have Kr := Lib.hid (Below.refl w6.heap.size w6)
  clear R1 R2 R3 R4 R5 n1 n2 n3 HnL HnE HnM HT
  go_wp2_with (first
    | (go_at_call 15; refine (S2.out _ K8.out).mono ?_; rintro e w9 ⟨rfl, hk⟩; have K9 := Lib.hid (below_kept K8.out hk); clear hk)
    | (go_at_call 15; refine (S1.out _ K7.out).mono ?_; rintro e w8 ⟨rfl, hk⟩; have K8 := Lib.hid (below_kept K7.out hk); clear hk)
    | (go_at_call 14; refine (CR.out _ Kr.out).mono ?_; rintro e w7 ⟨rfl, hk⟩; have K7 := Lib.hid hk; clear hk)
    | (go_at_call 16; refine (names_any _).mono ?_; rintro e w10 ⟨gN, rfl, hgN, hN, hk10⟩; have K10 := Lib.hid (below_kept K9.out hk10); clear hk10))
  have hgN2 := heap_lt hN.out
  clear CR S1 S2 K7 K8 K9 Kr hgN
  go_loopw [81] (fun v81 wr => ∃ i : Nat, i ≤ 16 ∧ v81 = .int .i64 i ∧ Hid (Kept w10 wr)) (fun v81 _ => 16 - (intOf v81).toNat)
  case atStart => exact ⟨0, by omega, rfl, Below.refl _ _⟩
  case round =>
    obtain ⟨i, hi, rfl, hkr⟩ := hrel
    by_cases hin : i < 16
    · obtain ⟨s, hs⟩ : ∃ s, nms[i]? = some s := ⟨_, List.getElem?_eq_getElem hin⟩
      have hcs : wr.cell? ⟨gN, i, none⟩ = some (.string s) := (Below.cell hkr.out (p := ⟨gN, i, none⟩) hgN2).trans (by
        rw [cell_of_row _ gN i _ _ _ hN.out, List.getElem?_toArray, strs_get nms i hin]
        rw [List.getElem?_eq_getElem hin] at hs
        rw [Option.some.inj hs])
      have hinI : (i : Int) < 16 := by omega
      have Kx := Lib.hid (below_kept K10.out hkr.out)
      have Hg := HG.out s
      have B1 := Lib.hid (G1.out s)
      have B2 := Lib.hid (G2.out s)
      have B3 := Lib.hid (G3.out s)
      generalize getL s L = v1 at *
      generalize getL s E = v2 at *
      generalize getL s M = v3 at *
      clear hs
      by_cases hv : v1 = ⟨#[]⟩
      · rw [if_pos hv] at Hg
        subst Hg
        have hbz := empty_yes hv
        clear hv
        go_wp2_with (first
          | (go_at_call 17; refine (B3.out _ Ky2.out).mono ?_; rintro e w13 ⟨rfl, hk⟩; have Ky3 := Lib.hid (below_kept Ky2.out hk); have Kz3 := Lib.hid (below_kept Kz2.out hk); clear hk)
          | (go_at_call 17; refine (B2.out _ Ky1.out).mono ?_; rintro e w12 ⟨rfl, hk⟩; have Ky2 := Lib.hid (below_kept Ky1.out hk); have Kz2 := Lib.hid (below_kept Kz1.out hk); clear hk)
          | (go_at_call 17; refine (B1.out _ Kx.out).mono ?_; rintro e w11 ⟨rfl, hk⟩; have Ky1 := Lib.hid (below_kept Kx.out hk); have Kz1 := Lib.hid (below_kept hkr.out hk); clear hk))
        go_roundw
        case rel => exact ⟨i + 1, by omega, by go_num, Kz3⟩
        case measure => simp [intOf]; omega
      · rw [if_neg hv] at Hg
        subst Hg
        have hbz := empty_no hv
        clear hv
        go_wp2_with (first
          | (go_at_call 17; refine (B3.out _ Ky1.out).mono ?_; rintro e w12 ⟨rfl, hk⟩; have Ky2 := Lib.hid (below_kept Ky1.out hk); have Kz2 := Lib.hid (below_kept Kz1.out hk); clear hk)
          | (go_at_call 17; refine (B1.out _ Kx.out).mono ?_; rintro e w11 ⟨rfl, hk⟩; have Ky1 := Lib.hid (below_kept Kx.out hk); have Kz1 := Lib.hid (below_kept hkr.out hk); clear hk))
        go_roundw
        case rel => exact ⟨i + 1, by omega, by go_num, Kz2⟩
        case measure => simp [intOf]; omega
    · obtain rfl : i = 16 := by omega
      go_wp2_with fail
      go_ret
      exact ⟨rfl, below_kept K6.out (below_kept K10.out hkr.out)⟩
end Go.Proofs.YtlhekeokognhmaaDoor
namespace Go.Proofs.YtlhekeokognhmaaDoor
open Go.RowKit Go.Shelf Go.Maps Go.Sort
theorem own_rdG {w : World} {base n size : Nat} {e : TypeId} {v : Value} {xs : List Value} (h : w.ownsRow base e size v n xs) : ∃ A c, v = .slice A n c ∧ n ≤ c ∧ Rd w w.heap.size A (n * size) xs ∧ ∀ ad, A = some ad → base ≤ ad.block := by
  obtain ⟨A, c, rfl, hc, hr⟩ := own_rd h
  refine ⟨A, c, rfl, hc, hr, fun ad e => ?_⟩
  subst e
  rcases h.2 with ⟨e1, _⟩ | ⟨g, cap, cur, e1, hb, _⟩
  · cases e1
  · cases e1
    exact hb
theorem rd_grown {w w' : World} {B n : Nat} {A : Option Addr} {xs : List Value} {r : Option Nat} (h : Rd w w.heap.size A n xs) (hg : w.grownBy w' r) (hne : ∀ ad, A = some ad → some ad.block ≠ r) (hB : w.heap.size ≤ B) : Rd w' B A n xs :=
  ⟨h.1, fun h0 => by
    obtain ⟨ad, rfl, hb, hc⟩ := h.2 h0
    refine ⟨ad, rfl, Nat.lt_of_lt_of_le hb hB, fun j u hu => ?_⟩
    exact (hg.cell_far (ad.add j) (by rw [addBlock]; exact hb) (by rw [addBlock]; exact hne ad rfl)).trans (hc j u hu)⟩
theorem sortedV_own {B : Nat} {m : List Lb} {v : Value} {x : Int} {w' : World} {M : List Lab} (h : SortedV B m v x w') (hM : m.map bl = M) (hl : M.length ≤ 64) : x = 0 ∧ w'.ownsRow B 36 2 v M.length (labs M) := by
  have hlen : m.length = M.length := by rw [← hM, List.length_map]
  rcases h with ⟨h, _⟩ | ⟨_, rfl, ho⟩
  · omega
  · rw [hM, hlen] at ho
    exact ⟨rfl, ho⟩
theorem set_own (A A1 : Option Addr) (c c1 : Nat) (L E M : List Lab) (w : World) (hL : L.length ≤ 400000) (hE : E.length ≤ 400000) (hr : RdL w w.heap.size A L) (hr1 : RdL w w.heap.size A1 E) (hT : Tab w) (hb : setBad L E = none) (hM : (puts [] ((L ++ E).map lb)).map bl = M) (hl : M.length ≤ 64) :
    Calls Tryd.prog 20 #[.slice A L.length c, .slice A1 E.length c1] w fun e w' => ∃ A c, e = .returned (.tuple #[.slice A M.length c, .int .i64 0]) ∧ RdL w' w'.heap.size A M ∧ Kept w w' ∧ ∀ ad, A = some ad → w.heap.size ≤ ad.block :=
  (set_any A A1 c c1 L E hL hE w hr hr1 hT).mono fun e w' ⟨v, x, he, h, hk⟩ => by
    subst he
    rw [hb] at h
    obtain ⟨rfl, ho⟩ := sortedV_own h hM hl
    obtain ⟨A, c, rfl, _, hr, hg⟩ := own_rdG ho
    exact ⟨A, c, rfl, hr, hk, hg⟩
section
variable {P : Program}
/-- A label put behind a list of one's own, at a plain region's list of operations: only that list's block is turned. -/
theorem wpList_ownG {w : World} {ops : Array Oper} {rest : List Oper} {o : Oper} {a : Act} {Q : Exit → Act → World → Prop} (hgd : o.guard = none) (s x : Operand) (t : TypeId)
    (ho : o.op = .call { callee := .builtin .append, args := #[s, x], argTypes := #[t, t] })
    (base : Nat) (i : TypeInfo) (z : Value) (bytes : Nat) (ht : P.underlying t = some (.slice 36)) (hi : P.info? 36 = some i) (hz : i.zero = some z)
    (hsize : i.size = 2) (hby : i.bytes = bytes) (hzs : z.cells.size = 2)
    (v : Value) (n : Nat) (xs : List Value) (hs : a.eval s = v) (hown : w.ownsRow base 36 2 v n xs)
    (ad : Addr) (m c : Nat) (news : List Value) (hx : a.eval x = .slice (some ad) m c) (hl : news.length = m * 2) (hnews : ∀ j u, news[j]? = some u → w.cell? (ad.add j) = some u) (h1 : ∀ u ∈ news, u.oneCell' = true)
    (h63 : n + m ≤ maxLen) (hbytes : (n + m) * bytes ≤ 140737488355328) (hbase : base ≤ w.heap.size)
    (h : ∀ v' w', w'.ownsRow base 36 2 v' (n + m) (xs ++ news) → w.grownBy w' v.ownBlock → wpList P ops Q rest (a.put o.dst v') w') : wpList P ops Q (o :: rest) a w := by
  refine wpList_plain hgd fun K hK => ?_
  obtain ⟨v', w', hr, h2, h3, _, _⟩ := run_append_own_at (P := P) w base t o.type 36 i z 2 bytes ht hi hz hsize hby hzs (by decide) v n xs hown ad m c news hl hnews h1 h63 hbytes hbase
  unfold Oper.wp execOp
  simp only [ho, resolve, invoke, builtin, Sem.run_bind, Sem.run_pure, Result.andThen_ok, List.map_toArray, List.map_cons, List.map_nil, hs, hx, hr]
  exact hK _ _ (h v' w' h2 h3)
end
end Go.Proofs.YtlhekeokognhmaaDoor
