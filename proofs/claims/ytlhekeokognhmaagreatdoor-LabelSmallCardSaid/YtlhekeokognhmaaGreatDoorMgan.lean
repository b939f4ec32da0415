/-
  Without and Compare. Compare.
-/
import Derived.Test.YtlhekeokognhmaaGreatDoorLbL
import Derived.StillTailTactics
namespace Go.Proofs.YtlhekeokognhmaaGreatDoor
open Go.RowKit Go.Shelf Go.Maps Go.Sort
/-- How two strings compare. -/
def cmpS (a b : ByteArray) : Int := if Op.bytesLess a.toList b.toList then -1 else if a.toList == b.toList then 0 else 1
theorem nan_any (a : ByteArray) (w : World) : Calls Tryz.prog 103 #[.string a] w fun e w' => e = .returned (.bool false) ∧ w = w' := by
  have h : (a.toList == a.toList) = true := by simp
  go_enter Tryz.func103, Tryz.ntmps103
  go_wp2_with fail
  go_ret
  exact ⟨rfl, rfl⟩
set_option maxRecDepth 100000 in
theorem cmpS_any (a b : ByteArray) (w : World) : Calls Tryz.prog 83 #[.string a, .string b] w fun e w' => e = .returned (.int .i64 (cmpS a b)) ∧ w = w' := by
  have C := nan_any a w
  have C2 := nan_any b w
  have HC := Lib.hid C
  have HC2 := Lib.hid C2
  unfold cmpS
  clear C C2
  rcases h : Op.bytesLess a.toList b.toList with _ | _
  · rcases h2 : a.toList == b.toList with _ | _
    · go_enter Tryz.func83, Tryz.ntmps83
      go_wp2_with (first
        | (go_at_call 103; refine HC.out.mono ?_; rintro e w1 ⟨rfl, rfl⟩)
        | (go_at_call 103; refine HC2.out.mono ?_; rintro e w1 ⟨rfl, rfl⟩))
      go_ret
      exact ⟨rfl, rfl⟩
    · go_enter Tryz.func83, Tryz.ntmps83
      go_wp2_with (first
        | (go_at_call 103; refine HC.out.mono ?_; rintro e w1 ⟨rfl, rfl⟩)
        | (go_at_call 103; refine HC2.out.mono ?_; rintro e w1 ⟨rfl, rfl⟩))
      go_ret
      exact ⟨rfl, rfl⟩
  · go_enter Tryz.func83, Tryz.ntmps83
    go_wp2_with (first
      | (go_at_call 103; refine HC.out.mono ?_; rintro e w1 ⟨rfl, rfl⟩)
      | (go_at_call 103; refine HC2.out.mono ?_; rintro e w1 ⟨rfl, rfl⟩))
    go_ret
    exact ⟨rfl, rfl⟩
def prefB (s p : ByteArray) : Bool := decide (p.size ≤ s.size) && ((s.extract 0 p.size).toList == p.toList)
theorem pref_any (s p : ByteArray) (w : World) : Calls Tryz.prog 93 #[.string s, .string p] w fun e w' => e = .returned (.bool (prefB s p)) ∧ w = w' := by
  unfold prefB
  by_cases h : p.size ≤ s.size
  · go_enter Tryz.func93, Tryz.ntmps93
    go_wp2_with fail
    go_ret
    exact ⟨by simp [h], rfl⟩
  · go_enter Tryz.func93, Tryz.ntmps93
    go_wp2_with fail
    go_ret
    exact ⟨by simp [h], rfl⟩
theorem hasPref_any (s p : ByteArray) (w : World) : Calls Tryz.prog 54 #[.string s, .string p] w fun e w' => e = .returned (.bool (prefB s p)) ∧ w = w' := by
  have C := Lib.hid (pref_any s p w)
  go_enter Tryz.func54, Tryz.ntmps54
  go_wp2_with (go_at_call 93; refine C.out.mono ?_; rintro e w1 ⟨rfl, rfl⟩)
  go_ret
  exact ⟨rfl, rfl⟩
theorem without1_any (s p : ByteArray) (g : Nat) (w : World) (hg : w.cell? ⟨g, 0, none⟩ = some (.string p)) :
    Calls Tryz.prog 70 #[.string s, .pointer (some ⟨g, 0, none⟩)] w fun e w' => e = .returned (.bool (!prefB s p)) ∧ Kept w w' := by
  have C := Lib.hid (hasPref_any s p w)
  generalize prefB s p = b at *
  go_enter Tryz.func70, Tryz.ntmps70
  go_wp2_with (go_at_call 54; refine C.out.mono ?_; rintro e w1 ⟨rfl, rfl⟩)
  go_ret
  exact ⟨rfl, Below.refl _ _⟩
theorem without_any (A : Option Addr) (c : Nat) (L : List Lab) (hL : L.length ≤ 400000) (p : ByteArray) (w : World) (hr : RdL w w.heap.size A L) (hT : Tab w) :
    Calls Tryz.prog 27 #[.slice A L.length c, .string p] w fun e w' => ∃ v x, e = .returned (.tuple #[v, .int .i64 x]) ∧ FltV w.heap.size L (fun s => !prefB s p) v x w' ∧ Kept w w' := by
  obtain ⟨w1, hw1⟩ : ∃ x, x = w.alloc (.cells #[.string p] 9) := ⟨_, rfl⟩
  have hk : Kept w w1 := by rw [hw1]; exact (Below.refl w.heap.size w).alloc (Nat.le_refl _) _
  have hg : w1.cell? ⟨w.heap.size, 0, none⟩ = some (.string p) := by rw [hw1, cell_of_row _ _ _ _ _ _ (heap_alloc_new w _)]; rfl
  have hC := fun W s (h : Kept w1 W) => without1_any s p w.heap.size W ((Below.cell h (block_lt_of_cell hg)).trans hg)
  have hr2 : RdL w1 w1.heap.size A L := (hr.below hk).more (Below.size hk)
  have CK := Lib.hid (filter_any 70 (.inr (.inr rfl)) (fun s => !prefB s p) w.heap.size A c L hL w1 hr2 (hT.below hk) (fun W s h => hC W s h))
  have more : ∀ p v x w', FltV w1.heap.size L p v x w' → FltV w.heap.size L p v x w' := fun p v x w' h => by
    unfold FltV at h ⊢
    split
    · rename_i hR
      rw [if_pos hR] at h
      exact ⟨h.1, own_mono h.2 (Below.size hk)⟩
    · rename_i hR
      rw [if_neg hR] at h
      exact h
  have Hmore := Lib.hid more
  have HK := Lib.hid hk
  clear hr hT hg hC hr2 more hk
  go_enter Tryz.func27, Tryz.ntmps27
  go_wp2_with (go_at_call 66; rw [← hw1]; refine CK.out.mono ?_; rintro e w2 ⟨v, x, rfl, hv, hk2⟩; have HV := Lib.hid hv; have HK2 := Lib.hid (below_kept HK.out hk2); clear hv hk2)
  go_ret2
  exact ⟨_, _, rfl, Hmore.out _ _ _ _ HV.out, HK2.out⟩
def orI : List Int → Int
  | [] => 0
  | x :: L => if x = 0 then orI L else x
theorem or2_any (g : Nat) (a b : Int) (w : World) (h0 : w.cell? ⟨g, 0, none⟩ = some (.int .i64 a)) (h1 : w.cell? ⟨g, 1, none⟩ = some (.int .i64 b)) :
    Calls Tryz.prog 82 #[.slice (some ⟨g, 0, none⟩) 2 2] w fun e w' => e = .returned (.int .i64 (if a = 0 then b else a)) ∧ w = w' := by
  have H0 := Lib.hid h0
  have H1 := Lib.hid h1
  clear h0 h1
  obtain ⟨f, hf⟩ : ∃ f : Nat → Int, f = fun k => if k = 0 then (if a = 0 then b else a) else if k = 1 then b else 0 := ⟨_, rfl⟩
  have hf0 : f 0 = if a = 0 then b else a := by rw [hf]; rfl
  have hf1 : f 1 = b := by rw [hf]; rfl
  have hf2 : f 2 = 0 := by rw [hf]; rfl
  rw [← hf0]
  clear hf
  go_enter Tryz.func82, Tryz.ntmps82
  go_wp2_with fail
  go_loopw [8] (fun v8 wr => ∃ k : Nat, k ≤ 2 ∧ v8 = .int .i64 k ∧ wr = w ∧ f 0 = f k) (fun v8 _ => 2 - (intOf v8).toNat)
  case atStart => exact ⟨0, by omega, rfl, rfl, rfl⟩
  case round =>
    obtain ⟨k, hk, rfl, hw, he⟩ := hrel
    obtain rfl : w = wr := hw.symm
    by_cases hk2 : k < 2
    · obtain ⟨x, hx, hxk⟩ : ∃ x, w.cell? ⟨g, k, none⟩ = some (.int .i64 x) ∧ f k = if x = 0 then f (k + 1) else x := by
        rcases (by omega : k = 0 ∨ k = 1) with rfl | rfl
        · exact ⟨a, H0.out, by rw [hf0, hf1]⟩
        · exact ⟨b, H1.out, by rw [hf1, hf2]; split; assumption; rfl⟩
      have Hxk := Lib.hid hxk
      have He := Lib.hid he
      clear hxk hf0 hf1 hf2 he
      by_cases h0 : x = 0
      · rw [if_pos h0] at Hxk
        subst h0
        go_wp2_with fail
        go_roundw
        case rel => exact ⟨k + 1, by omega, by go_num, trivial, by rw [He.out, Hxk.out]⟩
        case measure => simp [intOf]; omega
      · rw [if_neg h0] at Hxk
        have hb : (x != 0) = true := bne_iff_ne.2 h0
        go_wp2_with fail
        go_ret
        exact ⟨by rw [He.out, Hxk.out]; rfl, rfl⟩
    · obtain rfl : k = 2 := by omega
      rw [hf2] at he
      have He := Lib.hid he
      clear he hf0 hf1 hf2
      go_wp2_with fail
      go_ret
      exact ⟨by rw [He.out]; rfl, rfl⟩
theorem or2_new (a b : Int) (W : World) : Calls Tryz.prog 82 #[.slice (some ⟨W.heap.size, 0, none⟩) 2 2] (W.alloc (.cells #[.int .i64 a, .int .i64 b] 3)) fun e w' => e = .returned (.int .i64 (if a = 0 then b else a)) ∧ (W.alloc (.cells #[.int .i64 a, .int .i64 b] 3)) = w' := by
  have hM : (W.alloc (.cells #[.int .i64 a, .int .i64 b] 3)).heap[W.heap.size]? = some (.cells #[.int .i64 a, .int .i64 b] 3) := heap_alloc_new _ _
  exact or2_any W.heap.size a b _ (by rw [cell_of_row _ _ _ _ _ _ hM]; rfl) (by rw [cell_of_row _ _ _ _ _ _ hM]; rfl)
def cmp1 (x y : Lab) : Int := if cmpS x.1 y.1 = 0 then cmpS x.2 y.2 else cmpS x.1 y.1
end Go.Proofs.YtlhekeokognhmaaGreatDoor
namespace Go.Proofs.YtlhekeokognhmaaGreatDoor
open Go.RowKit Go.Shelf Go.Maps Go.Sort
set_option maxRecDepth 100000 in
set_option maxHeartbeats 2000000 in
theorem cmp1_any (x y : Lab) (w : World) : Calls Tryz.prog 81 #[.agg #[.string x.1, .string x.2], .agg #[.string y.1, .string y.2]] w fun e w' => e = .returned (.int .i64 (cmp1 x y)) ∧ Kept w w' := by
  obtain ⟨xa, xb⟩ := x
  obtain ⟨ya, yb⟩ := y
  have C1 : Hid (∀ W, Calls Tryz.prog 83 #[.string xa, .string ya] W fun e w' => e = .returned (.int .i64 (cmpS xa ya)) ∧ w' = W) := fun W => (cmpS_any xa ya W).mono fun e w' h => ⟨h.1, h.2.symm⟩
  have C2 : Hid (∀ W, Calls Tryz.prog 83 #[.string xb, .string yb] W fun e w' => e = .returned (.int .i64 (cmpS xb yb)) ∧ w' = W) := fun W => (cmpS_any xb yb W).mono fun e w' h => ⟨h.1, h.2.symm⟩
  unfold cmp1
  dsimp only
  generalize cmpS xa ya = a at *
  generalize cmpS xb yb = b at *
  have CO := Lib.hid (fun (W : World) => or2_new a b W)
  generalize (if a = 0 then b else a) = z at *
  obtain ⟨w0, hw0⟩ : ∃ x, x = (w.alloc (.cells #[.string xa, .string xb] 33)).alloc (.cells #[.string ya, .string yb] 33) := ⟨_, rfl⟩
  have hK0 : Kept w w0 := by rw [hw0]; exact ((Below.refl w.heap.size w).alloc (Nat.le_refl _) _).alloc (by simp) _
  have HK0 := Lib.hid hK0
  have hg1 : w0.heap[w.heap.size]? = some (.cells #[.string xa, .string xb] 33) := by rw [hw0]; exact heap_alloc0 (heap_alloc_new _ _) _
  have hg2 : w0.heap[w.heap.size + 1]? = some (.cells #[.string ya, .string yb] 33) := by rw [hw0]; exact heap_new' _ (by simp)
  have Hk : Hid (∀ W, Below w0.heap.size w0 W → (W.cell? ⟨w.heap.size, 0, none⟩ = some (.string xa) ∧ W.cell? ⟨w.heap.size, 1, none⟩ = some (.string xb) ∧ W.cell? ⟨w.heap.size + 1, 0, none⟩ = some (.string ya) ∧ W.cell? ⟨w.heap.size + 1, 1, none⟩ = some (.string yb)) ∧ Below w0.heap.size w0 W) := by
    refine fun W h => ⟨⟨?_, ?_, ?_, ?_⟩, h⟩
    · rw [cell_of_row _ _ _ _ _ _ ((h.block _ (heap_lt hg1)).trans hg1)]; rfl
    · rw [cell_of_row _ _ _ _ _ _ ((h.block _ (heap_lt hg1)).trans hg1)]; rfl
    · rw [cell_of_row _ _ _ _ _ _ ((h.block _ (heap_lt hg2)).trans hg2)]; rfl
    · rw [cell_of_row _ _ _ _ _ _ ((h.block _ (heap_lt hg2)).trans hg2)]; rfl
  have hb0 := Below.refl w0.heap.size w0
  clear hg1 hg2 hK0
  go_enter Tryz.func81, Tryz.ntmps81
  go_upto_region 1 with fail
  rw [← hw0]
  clear hw0
  obtain ⟨⟨q1, q2, q3, q4⟩, _⟩ := Hk.out _ (Below.refl w0.heap.size w0).drew
  clear Hk hb0
  refine wp_region_still_tail 10 (by kernel_rfl) (by kernel_rfl) ?_
  simp only [List.take_succ_cons, List.take_zero, List.drop_succ_cons, List.drop_zero]
  change wpStill _ _ w0.drew _ _ _
  show wpStill _ _ w0.drew (fun a' => wpList _ _ _ _ _ w0.drew) _ _
  have HK1 : Hid (Kept w w0.drew) := HK0.out.drew
  generalize w0.drew = w1 at *
  clear HK0
  repeat still_step
  still_call (C1.out w1)
  repeat still_step
  still_call (C2.out w1)
  refine wpStill_nil ?_
  go_wp2_with (go_at_call 82; refine (CO.out _).mono ?_; rintro e w2 ⟨rfl, rfl⟩)
  go_ret
  exact ⟨rfl, HK1.out.alloc (Below.size HK1.out) _⟩
/-- How two lists of labels compare. -/
def cmpL : List Lab → List Lab → Int
  | [], [] => 0
  | [], _ :: _ => -1
  | _ :: _, [] => 1
  | x :: L, y :: E => if cmp1 x y = 0 then cmpL L E else cmp1 x y
set_option maxRecDepth 100000 in
set_option maxHeartbeats 2000000 in
theorem cmpFunc_any (A A1 : Option Addr) (c c1 : Nat) (L E : List Lab) (hL : L.length ≤ 4611686018427387904) (hE : E.length ≤ 4611686018427387904) (w : World) (hr : RdL w w.heap.size A L) (hr1 : RdL w w.heap.size A1 E) :
    Calls Tryz.prog 80 #[.slice A L.length c, .slice A1 E.length c1, .func (.func 81) #[] #[]] w fun e w' => e = .returned (.int .i64 (cmpL L E)) ∧ Kept w w' := by
  have HR := Lib.hid hr
  have HR1 := Lib.hid hr1
  obtain ⟨n, hn⟩ : ∃ n, n = L.length := ⟨_, rfl⟩
  obtain ⟨m, hm⟩ : ∃ n, n = E.length := ⟨_, rfl⟩
  have Hn := Lib.hid hn
  have Hm := Lib.hid hm
  rw [← hn] at hL ⊢
  rw [← hm] at hE ⊢
  clear hr hr1 hn hm
  go_enter Tryz.func80, Tryz.ntmps80
  go_wp2_with fail
  go_loopw [13] (fun v13 wr => ∃ k : Nat, k ≤ n ∧ k ≤ m ∧ v13 = .int .i64 k ∧ Hid (Kept w wr) ∧ Hid (cmpL L E = cmpL (L.drop k) (E.drop k))) (fun v13 _ => n - (intOf v13).toNat)
  case atStart => exact ⟨0, by omega, by omega, rfl, Below.refl _ _, rfl⟩
  case round =>
    obtain ⟨k, hk, hkm, rfl, hkr, hf⟩ := hrel
    by_cases hkn : k < n
    · obtain ⟨ad, x, rfl, hadb, hx, hd, hc0, hc1⟩ := rdl_at HR.out (by rw [← Hn.out]; exact hkn)
      have e0 := (Below.cell hkr.out (by rw [addBlock]; exact hadb)).trans hc0
      have e1 := (Below.cell hkr.out (by rw [addBlock]; exact hadb)).trans hc1
      have Hcl := Lib.hid (lab_cells e0 e1)
      by_cases hkm2 : k < m
      · obtain ⟨ad2, y, rfl, hadb2, hy, hd2, hd0, hd1⟩ := rdl_at HR1.out (by rw [← Hm.out]; exact hkm2)
        have K1 : Hid (Kept w (wr.alloc (.cells #[.string x.1, .string x.2] 33))) := below_alloc0 hkr.out _
        have e2 := (Below.cell K1.out (by rw [addBlock]; exact hadb2)).trans hd0
        have e3 := (Below.cell K1.out (by rw [addBlock]; exact hadb2)).trans hd1
        have Hcl2 := Lib.hid (lab_cells e2 e3)
        have hst : cmpL (L.drop k) (E.drop k) = if cmp1 x y = 0 then cmpL (L.drop (k + 1)) (E.drop (k + 1)) else cmp1 x y := by rw [hd, hd2]; rfl
        have Hst := Lib.hid hst
        have C1 := Lib.hid (cmp1_any x y)
        have K2 : Hid (Kept w ((wr.alloc (.cells #[.string x.1, .string x.2] 33)).alloc (.cells #[.string y.1, .string y.2] 33))) := below_alloc0 K1.out _
        clear hx hd hc0 hc1 hy hd2 hd0 hd1 e0 e1 e2 e3 hst
        obtain ⟨z, hz⟩ : ∃ z, z = cmp1 x y := ⟨_, rfl⟩
        rw [← hz] at Hst C1
        obtain ⟨xa, xb⟩ := x
        obtain ⟨ya, yb⟩ := y
        dsimp only at Hcl Hcl2 K1 K2 C1
        clear hz
        by_cases h0 : z = 0
        · rw [if_pos h0] at Hst
          subst h0
          go_wp2_with (first
            | (refine wpList_load_at rfl 33 (.tmp 16) rfl (ad.add (k * 2)) rfl #[.string (xa, xb).1, .string (xa, xb).2] _ Hcl.out Tryz.underlying33 rfl sizeL ?_)
            | (refine wpList_load_at rfl 33 (.tmp 24) rfl (ad2.add (k * 2)) rfl #[.string (ya, yb).1, .string (ya, yb).2] _ Hcl2.out Tryz.underlying33 rfl sizeL ?_)
            | (go_at_call 81; refine (C1.out _).mono ?_; rintro e w2 ⟨rfl, hk2⟩; have HK2 := Lib.hid (below_kept K2.out hk2); clear hk2))
          go_roundw
          case rel => exact ⟨k + 1, by omega, by omega, by go_num, HK2, by show _ = _; rw [hf.out, Hst.out]⟩
          case measure => simp [intOf]; omega
        · rw [if_neg h0] at Hst
          have hb : (z != 0) = true := bne_iff_ne.2 h0
          go_wp2_with (first
            | (refine wpList_load_at rfl 33 (.tmp 16) rfl (ad.add (k * 2)) rfl #[.string (xa, xb).1, .string (xa, xb).2] _ Hcl.out Tryz.underlying33 rfl sizeL ?_)
            | (refine wpList_load_at rfl 33 (.tmp 24) rfl (ad2.add (k * 2)) rfl #[.string (ya, yb).1, .string (ya, yb).2] _ Hcl2.out Tryz.underlying33 rfl sizeL ?_)
            | (go_at_call 81; refine (C1.out _).mono ?_; rintro e w2 ⟨rfl, hk2⟩; have HK2 := Lib.hid (below_kept K2.out hk2); clear hk2))
          go_ret
          exact ⟨by rw [hf.out, Hst.out]; rfl, HK2.out⟩
      · obtain rfl : k = m := by omega
        have hst : cmpL (L.drop k) (E.drop k) = 1 := by rw [hd, List.drop_of_length_le (l := E) (by rw [← Hm.out]; exact Nat.le_refl _)]; rfl
        have Hst := Lib.hid hst
        have K1 : Hid (Kept w (wr.alloc (.cells #[.string x.1, .string x.2] 33))) := below_alloc0 hkr.out _
        clear hx hd hc0 hc1 e0 e1 hst
        obtain ⟨xa, xb⟩ := x
        dsimp only at Hcl K1
        go_wp2_with (first
          | (refine wpList_load_at rfl 33 (.tmp 16) rfl (ad.add (k * 2)) rfl #[.string (xa, xb).1, .string (xa, xb).2] _ Hcl.out Tryz.underlying33 rfl sizeL ?_))
        go_ret
        exact ⟨by rw [hf.out, Hst.out]; rfl, K1.out⟩
    · obtain rfl : k = n := by omega
      have hdn : L.drop k = [] := List.drop_of_length_le (by rw [← Hn.out]; exact Nat.le_refl _)
      rw [hdn] at hf
      clear hdn
      by_cases hlt : k < m
      · have hst : cmpL [] (E.drop k) = -1 := by rw [List.drop_eq_getElem_cons (by rw [← Hm.out]; exact hlt)]; rfl
        have Hst := Lib.hid hst
        clear hst
        go_wp2_with fail
        go_ret
        exact ⟨by rw [hf.out, Hst.out]; rfl, hkr.out⟩
      · have hst : cmpL [] (E.drop k) = 0 := by rw [List.drop_of_length_le (by rw [← Hm.out]; omega)]; rfl
        have Hst := Lib.hid hst
        clear hst
        go_wp2_with fail
        go_ret
        exact ⟨by rw [hf.out, Hst.out]; rfl, hkr.out⟩
theorem compare_any (A A1 : Option Addr) (c c1 : Nat) (L E : List Lab) (hL : L.length ≤ 4611686018427387904) (hE : E.length ≤ 4611686018427387904) (w : World) (hr : RdL w w.heap.size A L) (hr1 : RdL w w.heap.size A1 E) :
    Calls Tryz.prog 37 #[.slice A L.length c, .slice A1 E.length c1] w fun e w' => e = .returned (.int .i64 (cmpL L E)) ∧ Kept w w' := by
  have C := Lib.hid (cmpFunc_any A A1 c c1 L E hL hE w hr hr1)
  go_enter Tryz.func37, Tryz.ntmps37
  go_wp2_with (go_at_call 80; refine C.out.mono ?_; rintro e w1 ⟨rfl, hk⟩; have HK := Lib.hid hk; clear hk)
  go_ret
  exact ⟨rfl, HK.out⟩
end Go.Proofs.YtlhekeokognhmaaGreatDoor
