/-
  Compare.
-/
import Derived.Test.YtlhekeokognhmaaGreatDoorLbM
import Derived.StillTailTactics
namespace Go.Proofs.YtlhekeokognhmaaGreatDoor
open Go.RowKit Go.Shelf Go.Maps Go.Sort
set_option maxRecDepth 100000 in
set_option maxHeartbeats 2000000 in
theorem cmp1_any (x y : Lab) (w : World) : Calls Tryz.prog 81 #[.agg #[.string x.1, .string x.2], .agg #[.string y.1, .string y.2]] w fun e w' => e = .returned (.int .i64 (cmp1 x y)) ∧ Kept w w' := by
  obtain ⟨xa, xb⟩ := x
  obtain ⟨ya, yb⟩ := y
  have C1 : Hid (∀ W, Calls Tryz.prog 83 #[.string xa, .string ya] W fun e w' => e = .returned (.int .i64 (cmpS xa ya)) ∧ w' = W) := fun W => (cmpS_any xa ya W).mono fun e w' h => ⟨h.1, h.2.symm⟩
  have C2 : Hid (∀ W, Calls Tryz.prog 83 #[.string xb, .string yb] W fun e w' => e = .returned (.int .i64 (cmpS xb yb)) ∧ w' = W) := fun W => (cmpS_any xb yb W).mono fun e w' h => ⟨h.1, h.2.symm⟩
  unfold cmp1
  dsimp only
  generalize cmpS xa ya = a at *
  generalize cmpS xb yb = b at *
  have CO := Lib.hid (fun (W : World) => or2_new a b W)
  generalize (if a = 0 then b else a) = z at *
  obtain ⟨w0, hw0⟩ : ∃ x, x = (w.alloc (.cells #[.string xa, .string xb] 33)).alloc (.cells #[.string ya, .string yb] 33) := ⟨_, rfl⟩
  have hK0 : Kept w w0 := by rw [hw0]; exact ((Below.refl w.heap.size w).alloc (Nat.le_refl _) _).alloc (by simp) _
  have HK0 := Lib.hid hK0
  have hg1 : w0.heap[w.heap.size]? = some (.cells #[.string xa, .string xb] 33) := by rw [hw0]; exact heap_alloc0 (heap_alloc_new _ _) _
  have hg2 : w0.heap[w.heap.size + 1]? = some (.cells #[.string ya, .string yb] 33) := by rw [hw0]; exact heap_new' _ (by simp)
  have Hk : Hid (∀ W, Below w0.heap.size w0 W → (W.cell? ⟨w.heap.size, 0, none⟩ = some (.string xa) ∧ W.cell? ⟨w.heap.size, 1, none⟩ = some (.string xb) ∧ W.cell? ⟨w.heap.size + 1, 0, none⟩ = some (.string ya) ∧ W.cell? ⟨w.heap.size + 1, 1, none⟩ = some (.string yb)) ∧ Below w0.heap.size w0 W) := by
    refine fun W h => ⟨⟨?_, ?_, ?_, ?_⟩, h⟩
    · rw [cell_of_row _ _ _ _ _ _ ((h.block _ (heap_lt hg1)).trans hg1)]; rfl
    · rw [cell_of_row _ _ _ _ _ _ ((h.block _ (heap_lt hg1)).trans hg1)]; rfl
    · rw [cell_of_row _ _ _ _ _ _ ((h.block _ (heap_lt hg2)).trans hg2)]; rfl
    · rw [cell_of_row _ _ _ _ _ _ ((h.block _ (heap_lt hg2)).trans hg2)]; rfl
  have hb0 := Below.refl w0.heap.size w0
  clear hg1 hg2 hK0
  go_enter Tryz.func81, Tryz.ntmps81
  go_upto_region 1 with fail
  rw [← hw0]
  clear hw0
  obtain ⟨⟨q1, q2, q3, q4⟩, _⟩ := Hk.out _ (Below.refl w0.heap.size w0).drew
  clear Hk hb0
  refine wp_region_still_tail 10 (by kernel_rfl) (by kernel_rfl) ?_
  simp only [List.take_succ_cons, List.take_zero, List.drop_succ_cons, List.drop_zero]
  change wpStill _ _ w0.drew _ _ _
  show wpStill _ _ w0.drew (fun a' => wpList _ _ _ _ _ w0.drew) _ _
  have HK1 : Hid (Kept w w0.drew) := HK0.out.drew
  generalize w0.drew = w1 at *
  clear HK0
  repeat still_step
  still_call (C1.out w1)
  repeat still_step
  still_call (C2.out w1)
  refine wpStill_nil ?_
  go_wp2_with (go_at_call 82; refine (CO.out _).mono ?_; rintro e w2 ⟨rfl, rfl⟩)
  go_ret
  exact ⟨rfl, HK1.out.alloc (Below.size HK1.out) _⟩
/-- How two lists of labels compare. -/
def cmpL : List Lab → List Lab → Int
  | [], [] => 0
  | [], _ :: _ => -1
  | _ :: _, [] => 1
  | x :: L, y :: E => if cmp1 x y = 0 then cmpL L E else cmp1 x y
set_option maxRecDepth 100000 in
set_option maxHeartbeats 2000000 in
theorem cmpFunc_any (A A1 : Option Addr) (c c1 : Nat) (L E : List Lab) (hL : L.length ≤ 4611686018427387904) (hE : E.length ≤ 4611686018427387904) (w : World) (hr : RdL w w.heap.size A L) (hr1 : RdL w w.heap.size A1 E) :
    Calls Tryz.prog 80 #[.slice A L.length c, .slice A1 E.length c1, .func (.func 81) #[] #[]] w fun e w' => e = .returned (.int .i64 (cmpL L E)) ∧ Kept w w' := by
  have HR := Lib.hid hr
  have HR1 := Lib.hid hr1
  obtain ⟨n, hn⟩ : ∃ n, n = L.length := ⟨_, rfl⟩
  obtain ⟨m, hm⟩ : ∃ n, n = E.length := ⟨_, rfl⟩
  have Hn := Lib.hid hn
  have Hm := Lib.hid hm
  rw [← hn] at hL ⊢
  rw [← hm] at hE ⊢
  clear hr hr1 hn hm
  go_enter Tryz.func80, Tryz.ntmps80
  go_wp2_with fail
  go_loopw [13] (fun v13 wr => ∃ k : Nat, k ≤ n ∧ k ≤ m ∧ v13 = .int .i64 k ∧ Hid (Kept w wr) ∧ Hid (cmpL L E = cmpL (L.drop k) (E.drop k))) (fun v13 _ => n - (intOf v13).toNat)
  case atStart => exact ⟨0, by omega, by omega, rfl, Below.refl _ _, rfl⟩
  case round =>
    obtain ⟨k, hk, hkm, rfl, hkr, hf⟩ := hrel
    by_cases hkn : k < n
    · obtain ⟨ad, x, rfl, hadb, hx, hd, hc0, hc1⟩ := rdl_at HR.out (by rw [← Hn.out]; exact hkn)
      have e0 := (Below.cell hkr.out (by rw [addBlock]; exact hadb)).trans hc0
      have e1 := (Below.cell hkr.out (by rw [addBlock]; exact hadb)).trans hc1
      have Hcl := Lib.hid (lab_cells e0 e1)
      by_cases hkm2 : k < m
      · obtain ⟨ad2, y, rfl, hadb2, hy, hd2, hd0, hd1⟩ := rdl_at HR1.out (by rw [← Hm.out]; exact hkm2)
        have K1 : Hid (Kept w (wr.alloc (.cells #[.string x.1, .string x.2] 33))) := below_alloc0 hkr.out _
        have e2 := (Below.cell K1.out (by rw [addBlock]; exact hadb2)).trans hd0
        have e3 := (Below.cell K1.out (by rw [addBlock]; exact hadb2)).trans hd1
        have Hcl2 := Lib.hid (lab_cells e2 e3)
        have hst : cmpL (L.drop k) (E.drop k) = if cmp1 x y = 0 then cmpL (L.drop (k + 1)) (E.drop (k + 1)) else cmp1 x y := by rw [hd, hd2]; rfl
        have Hst := Lib.hid hst
        have C1 := Lib.hid (cmp1_any x y)
        have K2 : Hid (Kept w ((wr.alloc (.cells #[.string x.1, .string x.2] 33)).alloc (.cells #[.string y.1, .string y.2] 33))) := below_alloc0 K1.out _
        clear hx hd hc0 hc1 hy hd2 hd0 hd1 e0 e1 e2 e3 hst
        obtain ⟨z, hz⟩ : ∃ z, z = cmp1 x y := ⟨_, rfl⟩
        rw [← hz] at Hst C1
        obtain ⟨xa, xb⟩ := x
        obtain ⟨ya, yb⟩ := y
        dsimp only at Hcl Hcl2 K1 K2 C1
        clear hz
        by_cases h0 : z = 0
        · rw [if_pos h0] at Hst
          subst h0
          go_wp2_with (first
            | (refine wpList_load_at rfl 33 (.tmp 16) rfl (ad.add (k * 2)) rfl #[.string (xa, xb).1, .string (xa, xb).2] _ Hcl.out Tryz.underlying33 rfl sizeL ?_)
            | (refine wpList_load_at rfl 33 (.tmp 24) rfl (ad2.add (k * 2)) rfl #[.string (ya, yb).1, .string (ya, yb).2] _ Hcl2.out Tryz.underlying33 rfl sizeL ?_)
            | (go_at_call 81; refine (C1.out _).mono ?_; rintro e w2 ⟨rfl, hk2⟩; have HK2 := Lib.hid (below_kept K2.out hk2); clear hk2))
          go_roundw
          case rel => exact ⟨k + 1, by omega, by omega, by go_num, HK2, by show _ = _; rw [hf.out, Hst.out]⟩
          case measure => simp [intOf]; omega
        · rw [if_neg h0] at Hst
          have hb : (z != 0) = true := bne_iff_ne.2 h0
          go_wp2_with (first
            | (refine wpList_load_at rfl 33 (.tmp 16) rfl (ad.add (k * 2)) rfl #[.string (xa, xb).1, .string (xa, xb).2] _ Hcl.out Tryz.underlying33 rfl sizeL ?_)
            | (refine wpList_load_at rfl 33 (.tmp 24) rfl (ad2.add (k * 2)) rfl #[.string (ya, yb).1, .string (ya, yb).2] _ Hcl2.out Tryz.underlying33 rfl sizeL ?_)
            | (go_at_call 81; refine (C1.out _).mono ?_; rintro e w2 ⟨rfl, hk2⟩; have HK2 := Lib.hid (below_kept K2.out hk2); clear hk2))
          go_ret
          exact ⟨by rw [hf.out, Hst.out]; rfl, HK2.out⟩
      · obtain rfl : k = m := by omega
        have hst : cmpL (L.drop k) (E.drop k) = 1 := by rw [hd, List.drop_of_length_le (l := E) (by rw [← Hm.out]; exact Nat.le_refl _)]; rfl
        have Hst := Lib.hid hst
        have K1 : Hid (Kept w (wr.alloc (.cells #[.string x.1, .string x.2] 33))) := below_alloc0 hkr.out _
        clear hx hd hc0 hc1 e0 e1 hst
        obtain ⟨xa, xb⟩ := x
        dsimp only at Hcl K1
        go_wp2_with (first
          | (refine wpList_load_at rfl 33 (.tmp 16) rfl (ad.add (k * 2)) rfl #[.string (xa, xb).1, .string (xa, xb).2] _ Hcl.out Tryz.underlying33 rfl sizeL ?_))
        go_ret
        exact ⟨by rw [hf.out, Hst.out]; rfl, K1.out⟩
    · obtain rfl : k = n := by omega
      have hdn : L.drop k = [] := List.drop_of_length_le (by rw [← Hn.out]; exact Nat.le_refl _)
      rw [hdn] at hf
      clear hdn
      by_cases hlt : k < m
      · have hst : cmpL [] (E.drop k) = -1 := by rw [List.drop_eq_getElem_cons (by rw [← Hm.out]; exact hlt)]; rfl
        have Hst := Lib.hid hst
        clear hst
        go_wp2_with fail
        go_ret
        exact ⟨by rw [hf.out, Hst.out]; rfl, hkr.out⟩
      · have hst : cmpL [] (E.drop k) = 0 := by rw [List.drop_of_length_le (by rw [← Hm.out]; omega)]; rfl
        have Hst := Lib.hid hst
        clear hst
        go_wp2_with fail
        go_ret
        exact ⟨by rw [hf.out, Hst.out]; rfl, hkr.out⟩
theorem compare_any (A A1 : Option Addr) (c c1 : Nat) (L E : List Lab) (hL : L.length ≤ 4611686018427387904) (hE : E.length ≤ 4611686018427387904) (w : World) (hr : RdL w w.heap.size A L) (hr1 : RdL w w.heap.size A1 E) :
    Calls Tryz.prog 37 #[.slice A L.length c, .slice A1 E.length c1] w fun e w' => e = .returned (.int .i64 (cmpL L E)) ∧ Kept w w' := by
  have C := Lib.hid (cmpFunc_any A A1 c c1 L E hL hE w hr hr1)
  go_enter Tryz.func37, Tryz.ntmps37
  go_wp2_with (go_at_call 80; refine C.out.mono ?_; rintro e w1 ⟨rfl, hk⟩; have HK := Lib.hid hk; clear hk)
  go_ret
  exact ⟨rfl, HK.out⟩
end Go.Proofs.YtlhekeokognhmaaGreatDoor
