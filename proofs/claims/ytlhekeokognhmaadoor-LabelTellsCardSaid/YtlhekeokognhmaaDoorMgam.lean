/-
  Check and Right. Right, index, Get.
-/
import Derived.Test.YtlhekeokognhmaaDoorLbG
import Derived.Deep.DeepCutAuto
import Derived.Deep.QuietTactic
import Derived.Laws.Cover1
namespace Go.Proofs.YtlhekeokognhmaaDoor
open Go.RowKit Go.Shelf Go.Maps Go.Sort
/-- Whether a string is before another one, or the same. -/
def leS (a b : ByteArray) : Bool := Op.bytesLess a.toList b.toList || a.toList == b.toList
/-- What is wrong with a label behind another one (or none). -/
def ordE (p : Option ByteArray) (x : Lab) : Int := if wrE x = 0 then (if x.2 = ⟨#[]⟩ ∨ (∃ y, p = some y ∧ leS x.1 y = true) then 42 else 0) else wrE x
def chkFrom : Nat → Option ByteArray → List Lab → Int × Int
  | _, _, [] => (-1, 0)
  | i, p, x :: L => if ordE p x = 0 then chkFrom (i + 1) (some x.1) L else (i, ordE p x)
def chk (L : List Lab) : Int × Int := if 64 < L.length then (-1, 5) else chkFrom 0 none L
def prevOf (L : List Lab) (k : Nat) : Option ByteArray := if k = 0 then none else (L[k - 1]?).map (·.1)
theorem chk_drop {L : List Lab} {k : Nat} {x : Lab} (hx : L[k]? = some x) (hd : L.drop k = x :: L.drop (k + 1)) : chkFrom k (prevOf L k) (L.drop k) = if ordE (prevOf L k) x = 0 then chkFrom (k + 1) (prevOf L (k + 1)) (L.drop (k + 1)) else (k, ordE (prevOf L k) x) := by
  have : prevOf L (k + 1) = some x.1 := by unfold prevOf; simp [hx]
  rw [hd, this]
  rfl
set_option maxRecDepth 100000 in
set_option maxHeartbeats 2000000 in
theorem check_any' (A : Option Addr) (c : Nat) (L : List Lab) (hL : L.length ≤ 4611686018427387904) (w : World) (hr : RdL w w.heap.size A L) (hT : Tab w) :
    Calls Tryd.prog 30 #[.slice A L.length c] w fun e w' => e = .returned (.tuple #[.int .i64 (chk L).1, .int .i64 (chk L).2]) ∧ Kept w w' := by
  have HR := Lib.hid hr
  have HT := Lib.hid hT
  unfold chk
  obtain ⟨n, hn⟩ : ∃ n, n = L.length := ⟨_, rfl⟩
  have Hn := Lib.hid hn
  rw [← hn] at hL ⊢
  clear hr hT hn
  by_cases h64 : 64 < n
  · have h64' : (64 : Int) < (n : Int) := by omega
    rw [if_pos h64]
    go_enter Tryd.func30, Tryd.ntmps30
    go_wp2_with fail
    go_ret2
    exact ⟨rfl, Below.refl _ _⟩
  · have h64' : ¬ (64 : Int) < (n : Int) := by omega
    rw [if_neg h64]
    go_enter Tryd.func30, Tryd.ntmps30
    go_wp2_with fail
    go_loopw [12] (fun v12 wr => ∃ k : Nat, k ≤ n ∧ v12 = .int .i64 k ∧ Hid (Kept w wr) ∧ Hid (chkFrom 0 none L = chkFrom k (prevOf L k) (L.drop k))) (fun v12 _ => n - (intOf v12).toNat)
    case atStart => exact ⟨0, by omega, rfl, Below.refl _ _, rfl⟩
    case round =>
      obtain ⟨k, hk, rfl, hkr, hf⟩ := hrel
      by_cases hkn : k < n
      · obtain ⟨ad, x, rfl, hadb, hx, hd, hc0, hc1⟩ := rdl_at HR.out (by rw [← Hn.out]; exact hkn)
        have e0 := (Below.cell hkr.out (by rw [addBlock]; exact hadb)).trans hc0
        have e1 := (Below.cell hkr.out (by rw [addBlock]; exact hadb)).trans hc1
        have Hcl := Lib.hid (lab_cells e0 e1)
        have Hfd := Lib.hid (chk_drop hx hd)
        have CW : Hid (∀ W, Kept wr W → Calls Tryd.prog 66 #[.agg #[.string x.1, .string x.2]] W fun e w' => e = .returned (.int .i64 (wrE x)) ∧ Kept W w') := fun W h => wrong_any x W (HT.out.below (below_kept hkr.out h))
        have k1 : Kept wr (wr.alloc (.cells #[.string x.1, .string x.2] 36)) := (Below.refl _ wr).alloc (Nat.le_refl _) _
        have K1 := Lib.hid k1
        have M1 : Hid ((wr.alloc (.cells #[.string x.1, .string x.2] 36)).heap[wr.heap.size]? = some (.cells #[.string x.1, .string x.2] 36 (0, 0))) := heap_alloc_new wr _
        have Hpv : Hid (k ≠ 0 → ∃ y, prevOf L k = some y ∧ wr.cell? ((ad.add ((k - 1) * 2))) = some (.string y)) := fun h0 => by
          obtain ⟨ad', y, ha, hb', hy, _, hy0, _⟩ := rdl_at HR.out (k := k - 1) (by rw [← Hn.out]; omega)
          cases ha
          exact ⟨y.1, by unfold prevOf; rw [if_neg h0, hy]; rfl, (Below.cell hkr.out (by rw [addBlock]; exact hb')).trans hy0⟩
        clear hc0 hc1 hx hd k1 e0 e1
        go_upto_region 7 with (first | (refine wpList_load_at rfl 36 (.tmp 15) rfl (ad.add (k * 2)) rfl #[.string x.1, .string x.2] _ Hcl.out Tryd.underlying36 rfl sizeL ?_) | (go_at_call 66; refine (CW.out _ K1.out).mono ?_; rintro e w2 ⟨rfl, hk2⟩; have HK2 := Lib.hid (below_kept K1.out hk2); have M2 := Lib.hid (heap_kept hk2 M1.out); clear hk2))
        have hk1 := hkn
        obtain ⟨g, hg⟩ : ∃ g, g = wr.heap.size := ⟨_, rfl⟩
        rw [← hg] at M2 ⊢
        have n0 : w2.cell? ⟨g, 0, none⟩ = some (.string x.1) := by rw [cell_of_row _ _ _ _ _ _ M2.out]; rfl
        have n1 : w2.cell? ⟨g, 1, none⟩ = some (.string x.2) := by rw [cell_of_row _ _ _ _ _ _ M2.out]; rfl
        have Hpv2 : Hid (k ≠ 0 → ∃ y, prevOf L k = some y ∧ w2.cell? ((ad.add ((k - 1) * 2))) = some (.string y)) := fun h0 => by
          obtain ⟨y, h1, h2⟩ := Hpv.out h0
          exact ⟨y, h1, (Below.cell HK2.out (block_lt_of_cell h2)).trans h2⟩
        have HK2' := Lib.hid (below_kept hkr.out HK2.out)
        have hb2 := Below.refl w2.heap.size w2
        obtain ⟨xa, xb⟩ := x
        dsimp only at n0 n1
        generalize hEE : wrE (xa, xb) = ee at *
        have HEE := Lib.hid hEE
        clear hEE hg M1 M2 K1 HK2 CW Hpv Hcl
        have Hord : Hid (ordE (prevOf L k) (xa, xb) = if ee = 0 then (if xb = ⟨#[]⟩ ∨ (∃ y, prevOf L k = some y ∧ leS xa y = true) then 42 else 0) else ee) := by show _ = _; rw [← HEE.out]; rfl
        obtain ⟨vb, hvb⟩ : ∃ vb, vb = decide (ee = 0 ∧ ordE (prevOf L k) (xa, xb) = 42) := ⟨_, rfl⟩
        have Hvb := Lib.hid hvb
        clear hvb
        go_cut [40] (fun v40 wx => v40 = .bool vb ∧ Below w2.heap.size w2 wx)
        case first =>
          by_cases hee : ee = 0
          · subst hee
            by_cases hxb : xb = ⟨#[]⟩
            · have hbb : xb.toList.isEmpty = true := empty_yes hxb
              have hv : vb = true := by rw [Hvb.out, Hord.out, if_pos rfl, if_pos (.inl hxb)]; rfl
              subst hv
              clear hxb
              go_quiet (fail)
              go_wp2_with fail
              go_meet
              exact ⟨rfl, below_drewN hb2 nq⟩
            · have hbb : xb.toList.isEmpty = false := empty_no hxb
              rcases k with _ | j
              · have hv : vb = false := by
                  rw [Hvb.out, Hord.out, if_pos rfl, if_neg (by rintro (h | ⟨y, h, _⟩); exact hxb h; simp [prevOf] at h)]
                  rfl
                subst hv
                clear hxb
                go_quiet (fail)
                go_wp2_with fail
                go_meet
                exact ⟨rfl, below_drewN hb2 nq⟩
              · obtain ⟨y, hpy, hcy⟩ := Hpv2.out (by omega)
                have hv : vb = leS xa y := by
                  rw [Hvb.out, Hord.out, if_pos rfl, hpy]
                  rcases hl : leS xa y with _ | _
                  · rw [if_neg (by rintro (h | ⟨z, h, h2⟩); exact hxb h; cases h; rw [hl] at h2; cases h2)]
                    rfl
                  · rw [if_pos (.inr ⟨y, rfl, hl⟩)]
                    rfl
                have hj1 : ((j : Int) + 1 - 1) = (j : Int) := by omega
                have hjn : (j : Int) < (n : Int) := by omega
                have hj0 : (0 : Int) < (j : Int) + 1 := by omega
                have hjw : IntKind.i64.wrap (j : Int) = (j : Int) := by rw [IntWalk.i64_in _ (by omega)]
                rw [show j + 1 - 1 = j from by omega] at hcy
                subst hv
                clear hxb hpy
                go_quiet (fail)
                go_wp2_with fail
                go_meet
                exact ⟨rfl, below_drewN hb2 nq⟩
          · have hbe : (ee == 0) = false := beq_eq_false_iff_ne.2 hee
            have hv : vb = false := by rw [Hvb.out]; exact decide_eq_false (fun h => hee h.1)
            subst hv
            clear hee
            go_quiet (fail)
            go_wp2_with fail
            go_meet
            exact ⟨rfl, below_drewN hb2 nq⟩
        case rest =>
        obtain ⟨rfl, hk3⟩ := hcut
        obtain ⟨w3, rfl⟩ : ∃ x, x = wc := ⟨_, rfl⟩
        have HK3 : Hid (Kept w w3) := below_kept HK2'.out hk3
        rcases hvb : vb with _ | _
        · have ho : ordE (prevOf L k) (xa, xb) = ee := by
            rw [Hord.out]
            by_cases he : ee = 0
            · rw [if_pos he]
              rw [hvb] at Hvb
              have := of_decide_eq_false Hvb.out.symm
              rw [Hord.out, if_pos he] at this
              by_cases hc : xb = ⟨#[]⟩ ∨ (∃ y, prevOf L k = some y ∧ leS xa y = true)
              · rw [if_pos hc] at this
                exact absurd ⟨he, rfl⟩ this
              · rw [if_neg hc, he]
            · rw [if_neg he]
          rw [ho] at Hfd
          by_cases he : ee = 0
          · rw [if_pos he] at Hfd
            subst he
            clear ho hvb
            go_wp2_with fail
            go_roundw
            case rel => exact ⟨k + 1, by omega, by go_num, HK3, by show _ = _; rw [hf.out, Hfd.out]⟩
            case measure => simp [intOf]; omega
          · rw [if_neg he] at Hfd
            have hne : (ee != 0) = true := bne_iff_ne.2 he
            clear ho hvb he
            go_wp2_with fail
            go_ret2
            exact ⟨by rw [hf.out, Hfd.out]; rfl, HK3.out⟩
        · rw [hvb] at Hvb
          obtain ⟨h1, h2⟩ := of_decide_eq_true Hvb.out.symm
          rw [h2, if_neg (by decide)] at Hfd
          clear hvb h1 h2
          go_wp2_with fail
          go_ret2
          exact ⟨by rw [hf.out, Hfd.out]; rfl, HK3.out⟩
      · obtain rfl : k = n := by omega
        go_wp2_with fail
        go_ret2
        refine ⟨?_, hkr.out⟩
        rw [hf.out, List.drop_of_length_le (by rw [← Hn.out]; exact Nat.le_refl _)]
        rfl
end Go.Proofs.YtlhekeokognhmaaDoor
namespace Go.Proofs.YtlhekeokognhmaaDoor
open Go.RowKit Go.Shelf Go.Maps Go.Sort
def rgtB (L : List Lab) : Bool := (chk L).2 == 0
theorem right_any (A : Option Addr) (c : Nat) (L : List Lab) (hL : L.length ≤ 4611686018427387904) (w : World) (hr : RdL w w.heap.size A L) (hT : Tab w) :
    Calls Tryd.prog 14 #[.slice A L.length c] w fun e w' => e = .returned (.bool (rgtB L)) ∧ Kept w w' := by
  have C := Lib.hid (check_any' A c L hL w hr hT)
  unfold rgtB
  generalize chk L = p at *
  obtain ⟨i, x⟩ := p
  clear hr hT
  go_enter Tryd.func14, Tryd.ntmps14
  go_wp2_with (go_at_call 30; refine C.out.mono ?_; rintro e w1 ⟨rfl, hk⟩; have HK := Lib.hid hk; clear hk)
  go_ret
  exact ⟨rfl, HK.out⟩
def idxFrom (s : ByteArray) : Nat → List Lab → Int
  | _, [] => -1
  | i, x :: L => if x.1 = s then (i : Int) else idxFrom s (i + 1) L
def getL (s : ByteArray) : List Lab → ByteArray
  | [] => ⟨#[]⟩
  | x :: L => if x.1 = s then x.2 else getL s L
theorem idx_get (s : ByteArray) : ∀ (i : Nat) (L : List Lab), (idxFrom s i L = -1 ∧ getL s L = ⟨#[]⟩ ∧ ∀ x ∈ L, x.1 ≠ s) ∨ (∃ j x, j < L.length ∧ idxFrom s i L = ((i + j : Nat) : Int) ∧ L[j]? = some x ∧ getL s L = x.2 ∧ x.1 = s)
  | i, [] => .inl ⟨rfl, rfl, fun _ h => by cases h⟩
  | i, x :: L => by
    unfold idxFrom getL
    by_cases h : x.1 = s
    · rw [if_pos h, if_pos h]
      exact .inr ⟨0, x, by simp, rfl, rfl, rfl, h⟩
    · rw [if_neg h, if_neg h]
      rcases idx_get s (i + 1) L with ⟨h1, h2, h3⟩ | ⟨j, y, h1, h2, h3, h4, h5⟩
      · refine .inl ⟨h1, h2, fun z hz => ?_⟩
        rcases List.mem_cons.1 hz with rfl | hz
        · exact h
        · exact h3 z hz
      · exact .inr ⟨j + 1, y, by simp; omega, by rw [h2]; congr 1; omega, h3, h4, h5⟩
theorem index1_any (x : Lab) (s : ByteArray) (g : Nat) (w : World) (hg : w.cell? ⟨g, 0, none⟩ = some (.string s)) (b : Bool) (hb : b = decide (x.1 = s)) :
    Calls Tryd.prog 81 #[.agg #[.string x.1, .string x.2], .pointer (some ⟨g, 0, none⟩)] w fun e w' => e = .returned (.bool b) ∧ Kept w w' := by
  have hg1 : (w.alloc (.cells #[.string x.1, .string x.2] 36)).cell? ⟨g, 0, none⟩ = some (.string s) := (Below.cell ((Below.refl w.heap.size w).alloc (Nat.le_refl _) _) (block_lt_of_cell hg)).trans hg
  have hk : Kept w (w.alloc (.cells #[.string x.1, .string x.2] 36)) := (Below.refl w.heap.size w).alloc (Nat.le_refl _) _
  have HK := Lib.hid hk
  clear hk hg
  obtain ⟨xa, xb⟩ := x
  dsimp only at hb
  by_cases h : xa = s
  · subst h
    rw [decide_eq_true rfl] at hb
    subst hb
    go_enter Tryd.func81, Tryd.ntmps81
    go_wp2_with fail
    go_ret
    exact ⟨by simp, HK.out⟩
  · have he : (xa.toList == s.toList) = false := str_ne (fun e => h (bys_eq e))
    rw [decide_eq_false h] at hb
    subst hb
    clear h
    go_enter Tryd.func81, Tryd.ntmps81
    go_wp2_with fail
    go_ret
    exact ⟨rfl, HK.out⟩
set_option maxRecDepth 100000 in
theorem indexFunc_any (A : Option Addr) (c : Nat) (L : List Lab) (hL : L.length ≤ 4611686018427387904) (s : ByteArray) (g : Nat) (w : World) (hr : RdL w w.heap.size A L) (hg : w.cell? ⟨g, 0, none⟩ = some (.string s)) :
    Calls Tryd.prog 80 #[.slice A L.length c, .func (.func 81) #[] #[.pointer (some ⟨g, 0, none⟩)]] w fun e w' => e = .returned (.int .i64 (idxFrom s 0 L)) ∧ Kept w w' := by
  have HR := Lib.hid hr
  have HG := Lib.hid hg
  obtain ⟨n, hn⟩ : ∃ n, n = L.length := ⟨_, rfl⟩
  have Hn := Lib.hid hn
  rw [← hn] at hL ⊢
  clear hr hn hg
  go_enter Tryd.func80, Tryd.ntmps80
  go_wp2_with fail
  go_loopw [8] (fun v8 wr => ∃ k : Nat, k ≤ n ∧ v8 = .int .i64 k ∧ Hid (Kept w wr) ∧ Hid (idxFrom s 0 L = idxFrom s k (L.drop k))) (fun v8 _ => n - (intOf v8).toNat)
  case atStart => exact ⟨0, by omega, rfl, Below.refl _ _, rfl⟩
  case round =>
    obtain ⟨k, hk, rfl, hkr, hf⟩ := hrel
    by_cases hkn : k < n
    · obtain ⟨ad, x, rfl, hadb, hx, hd, hc0, hc1⟩ := rdl_at HR.out (by rw [← Hn.out]; exact hkn)
      have e0 := (Below.cell hkr.out (by rw [addBlock]; exact hadb)).trans hc0
      have e1 := (Below.cell hkr.out (by rw [addBlock]; exact hadb)).trans hc1
      have Hcl := Lib.hid (lab_cells e0 e1)
      have Hst : Hid (idxFrom s k (L.drop k) = if x.1 = s then (k : Int) else idxFrom s (k + 1) (L.drop (k + 1))) := by show _ = _; rw [hd]; rfl
      have hgr : wr.cell? ⟨g, 0, none⟩ = some (.string s) := (Below.cell hkr.out (block_lt_of_cell HG.out)).trans HG.out
      have CI := Lib.hid (fun b hb => index1_any x s g wr hgr b hb)
      clear hc0 hc1 hx hd e0 e1 hgr
      by_cases hxs : x.1 = s
      · have C1 := Lib.hid (CI.out true (decide_eq_true hxs).symm)
        rw [if_pos hxs] at Hst
        clear hxs CI
        go_wp2_with (first | (refine wpList_load_at rfl 36 (.tmp 14) rfl (ad.add (k * 2)) rfl #[.string x.1, .string x.2] _ Hcl.out Tryd.underlying36 rfl sizeL ?_) | (go_at_call 81; refine C1.out.mono ?_; rintro e w2 ⟨rfl, hk2⟩; have HK2 := Lib.hid (below_kept hkr.out hk2); clear hk2))
        go_ret
        exact ⟨by rw [hf.out, Hst.out]; rfl, HK2.out⟩
      · have C1 := Lib.hid (CI.out false (decide_eq_false hxs).symm)
        rw [if_neg hxs] at Hst
        clear hxs CI
        go_wp2_with (first | (refine wpList_load_at rfl 36 (.tmp 14) rfl (ad.add (k * 2)) rfl #[.string x.1, .string x.2] _ Hcl.out Tryd.underlying36 rfl sizeL ?_) | (go_at_call 81; refine C1.out.mono ?_; rintro e w2 ⟨rfl, hk2⟩; have HK2 := Lib.hid (below_kept hkr.out hk2); clear hk2))
        go_roundw
        case rel => exact ⟨k + 1, by omega, by go_num, HK2, by show _ = _; rw [hf.out, Hst.out]⟩
        case measure => simp [intOf]; omega
    · obtain rfl : k = n := by omega
      go_wp2_with fail
      go_ret
      refine ⟨?_, hkr.out⟩
      rw [hf.out, List.drop_of_length_le (by rw [← Hn.out]; exact Nat.le_refl _)]
      rfl
theorem index_any (A : Option Addr) (c : Nat) (L : List Lab) (hL : L.length ≤ 4611686018427387904) (s : ByteArray) (w : World) (hr : RdL w w.heap.size A L) :
    Calls Tryd.prog 48 #[.slice A L.length c, .string s] w fun e w' => e = .returned (.int .i64 (idxFrom s 0 L)) ∧ Kept w w' := by
  have hk : Kept w (w.alloc (.cells #[.string s] 9)) := (Below.refl w.heap.size w).alloc (Nat.le_refl _) _
  have C := Lib.hid (indexFunc_any A c L hL s w.heap.size (w.alloc (.cells #[.string s] 9)) ((hr.below hk).more hk.size) (by rw [cell_of_row _ _ _ _ _ _ (heap_alloc_new w _)]; rfl))
  have HK := Lib.hid hk
  clear hk hr
  go_enter Tryd.func48, Tryd.ntmps48
  go_wp2_with (go_at_call 80; refine C.out.mono ?_; rintro e w1 ⟨rfl, hk⟩; have HK1 := Lib.hid hk; clear hk)
  go_ret
  exact ⟨rfl, Below.trans HK.out (Below.mono HK1.out (Below.size HK.out))⟩
set_option maxRecDepth 100000 in
theorem get_any (A : Option Addr) (c : Nat) (L : List Lab) (hL : L.length ≤ 1000000) (hs : ∀ x ∈ L, x.2.size ≤ 281474976710656) (s : ByteArray) (w : World) (hr : RdL w w.heap.size A L) :
    Calls Tryd.prog 17 #[.slice A L.length c, .string s] w fun e w' => e = .returned (.string (getL s L)) ∧ Kept w w' := by
  have C := Lib.hid (index_any A c L (by omega) s w hr)
  rcases idx_get s 0 L with ⟨h1, h2, _⟩ | ⟨j, x, h1, h2, h3, h4, _⟩
  · rw [h1] at C
    rw [h2]
    clear h1 h2 hr hs
    go_enter Tryd.func17, Tryd.ntmps17
    go_wp2_with (go_at_call 48; refine C.out.mono ?_; rintro e w1 ⟨rfl, hk⟩; have HK := Lib.hid hk; clear hk)
    go_ret
    exact ⟨rfl, HK.out⟩
  · rw [Nat.zero_add] at h2
    rw [h2] at C
    rw [h4]
    obtain ⟨ad, y, rfl, hadb, hy, _, _, hc1⟩ := rdl_at hr h1
    rw [h3] at hy
    cases hy
    have CC := Lib.hid (fun W => sclone_any x.2 W (hs x (List.mem_of_getElem? h3)))
    have Hc1 : Hid (∀ W, Kept w W → W.cell? ⟨(ad.add (j * 2)).block, (ad.add (j * 2)).off + 1, none⟩ = some (.string x.2)) := fun W h => by rw [show (⟨(ad.add (j * 2)).block, (ad.add (j * 2)).off + 1, none⟩ : Addr) = (ad.add (j * 2)).add 1 from rfl, addr_add_add]; exact (Below.cell h (by rw [addBlock]; exact hadb)).trans hc1
    obtain ⟨n, hn⟩ : ∃ n, n = L.length := ⟨_, rfl⟩
    rw [← hn] at h1 hL C ⊢
    clear h2 h3 h4 hr hs hc1 hadb hn
    go_enter Tryd.func17, Tryd.ntmps17
    go_wp2_with (first
      | (go_at_call 48; refine C.out.mono ?_; rintro e w1 ⟨rfl, hk⟩; have HK := Lib.hid hk; clear hk; have hcc := Hc1.out _ HK.out)
      | (go_at_call 49; refine (CC.out _).mono ?_; rintro e w2 ⟨rfl, hk⟩; have HK2 := Lib.hid (below_kept HK.out hk); clear hk))
    go_ret
    exact ⟨rfl, HK2.out⟩
end Go.Proofs.YtlhekeokognhmaaDoor
