/-
  What the reference's Text computes.
-/
import Derived.Test.YtlgdbhebcglkoaaDoorMdQ
import Derived.Test.YtlgdbhebcglkoaaDoorNear
namespace Go.Proofs.YtlgdbhebcglkoaaDoor
open Go.RowKit Go.Shelf
theorem tx_take (D : List Int) (k : Nat) (hk : k < D.length) : tx (D.take (k + 1)) = tx (D.take k) ++ [dg ((D.getD k 0).toNat / 16), dg ((D.getD k 0).toNat % 16)] := by
  rw [List.take_add_one, show D[k]? = some (D.getD k 0) from by simp [hk], Option.toList_some, tx_snoc]
set_option maxRecDepth 100000 in
set_option maxHeartbeats 2000000 in
theorem rtext_any (D : List Int) (hl : D.length = 16) (hb : Bts D) (w : World) :
    Calls Tryd.prog 36 #[.agg (u8s D).toArray] w fun e w' => e = .returned (.string (strOfNums (tx D))) ∧ Below w.heap.size w w' := by
  obtain ⟨i0, hi, hz0, hz1, hz2⟩ := info_parts infoB
  have Hb := Lib.hid hb
  have Hl := Lib.hid hl
  have hget : ∀ k, k < 16 → (u8s D).toArray[k]? = some (.int .u8 (D.getD k 0)) := fun k hk => by rw [List.getElem?_toArray]; exact u8s_get D k (by omega)
  have Hget := Lib.hid hget
  obtain ⟨L, hL⟩ : ∃ L, L = (u8s D).toArray := ⟨_, rfl⟩
  rw [← hL] at Hget ⊢
  clear hget hL hb hl
  go_enter Tryd.func36, Tryd.ntmps36
  go_wp2_with fail
  generalize hw0 : World.alloc w _ = w0
  have hB0 : Below w.heap.size w w0 := by rw [← hw0]; exact (Below.refl _ w).alloc (Nat.le_refl _) _
  have hg0 : w0.heap[w.heap.size]? = some (.cells L 30 (0, 0)) := by rw [← hw0]; exact heap_alloc_new w _
  have hz : w0.heap.size = w.heap.size + 1 := by rw [← hw0]; simp
  clear hw0
  have HB0 := Lib.hid hB0
  have HG0 := Lib.hid hg0
  have HZ0 := Lib.hid hz
  clear hB0 hg0 hz
  go_loopw [4, 3] (fun i v wr => ∃ k : Nat, k ≤ 16 ∧ i = .int .i64 k ∧ Below w0.heap.size w0 wr ∧ Hid (wr.ownsRow w0.heap.size 5 1 v (2 * k) (u8s (tx (D.take k))))) (fun i _ _ => 16 - (intOf i).toNat)
  case atStart => exact ⟨0, by omega, rfl, Below.refl _ _, ⟨rfl, .inl ⟨rfl, rfl⟩⟩⟩
  case round =>
    obtain ⟨k, hk, rfl, hB, hown⟩ := hrel
    by_cases hk16 : k < 16
    · have hg := (hB.block w.heap.size (by have := HZ0.out; omega)).trans HG0.out
      have hcb := Hb.out.getD k
      obtain ⟨c, hc⟩ := Int.eq_ofNat_of_zero_le hcb.1
      rw [hc] at hcb
      have hcell : wr.cell? ⟨w.heap.size, k, none⟩ = some (.int .u8 (c : Int)) := by
        rw [cell_of_row _ _ _ _ _ _ hg, Hget.out k hk16, hc]
      have htk := tx_take D k (by rw [Hl.out]; exact hk16)
      rw [hc, Int.toNat_natCast] at htk
      have Htk := Lib.hid htk
      have hq0 : (c : Int) / 16 = ((c / 16 : Nat) : Int) := by omega
      have hr0 : (c : Int) % 16 = ((c % 16 : Nat) : Int) := by omega
      have hkI : (k : Int) < 16 := by omega
      have hq16 : c / 16 < 16 := by omega
      have hr16 : c % 16 < 16 := by omega
      generalize c / 16 = q at *
      generalize c % 16 = r at *
      clear hc hg htk hcb
      go_wp2_with fail
      go_region
      have hgn : ((wr.alloc (.cells #[Value.int .u8 (q : Int), .int .u8 (r : Int)] 5)).drew).heap[wr.heap.size]? = some (.cells #[Value.int .u8 (q : Int), .int .u8 (r : Int)] 5 (0, 0)) := heap_alloc_new wr _
      have hown1 : Hid (((wr.alloc (.cells #[Value.int .u8 (q : Int), .int .u8 (r : Int)] 5)).drew).ownsRow w0.heap.size 5 1 u3 (2 * k) (u8s (tx (D.take k)))) := own_alloc hown.out _
      have hne1 := own_ne_new hown.out
      have hB1 : Below w0.heap.size w0 ((wr.alloc (.cells #[Value.int .u8 (q : Int), .int .u8 (r : Int)] 5)).drew) := (hB.alloc hB.size _).drew
      obtain ⟨g, hgw⟩ : ∃ g, g = wr.heap.size := ⟨_, rfl⟩
      have hgz : w0.heap.size ≤ g := by rw [hgw]; exact hB.size
      rw [← hgw] at hgn hne1 ⊢
      generalize (wr.alloc (.cells #[Value.int .u8 (q : Int), .int .u8 (r : Int)] 5)).drew = w1 at *
      have Hgn := Lib.hid hgn
      have Hne := Lib.hid hne1
      clear hgn hne1 hown hcell hgw hB
      generalize tx (D.take k) = T at *
      go_wp2_with fail
      simp only [hr0]
      go_loopw [21, 3] (fun i v wr => ∃ j : Nat, j ≤ 2 ∧ i = .int .i64 j ∧ Below w0.heap.size w0 wr ∧ Hid (wr.ownsRow w0.heap.size 5 1 v (2 * k + j) (u8s (T ++ [dg q, dg r].take j))) ∧ Hid (wr.heap[g]? = some (.cells #[Value.int .u8 (q : Int), .int .u8 (r : Int)] 5 (0, 0))) ∧ Hid (v.ownBlock ≠ some g)) (fun i _ _ => 2 - (intOf i).toNat)
      case atStart => exact ⟨0, by omega, rfl, hB1, by show World.ownsRow _ _ _ _ _ _ _; rw [List.take_zero, List.append_nil]; exact hown1.out, Hgn, Hne⟩
      case round =>
        clear hB1 hown1 Hgn Hne
        obtain ⟨j, hj, rfl, hB, hown, hg, hne⟩ := hrel
        by_cases hj2 : j < 2
        · obtain ⟨x, hx, hxc, hxt⟩ : ∃ x : Nat, x < 16 ∧ (#[Value.int .u8 (q : Int), .int .u8 (r : Int)] : Array Value)[j]? = some (.int .u8 (x : Int)) ∧ [dg q, dg r].take (j + 1) = [dg q, dg r].take j ++ [dg x] := by
            rcases (by omega : j = 0 ∨ j = 1) with rfl | rfl
            · exact ⟨q, hq16, rfl, rfl⟩
            · exact ⟨r, hr16, rfl, rfl⟩
          have hcell : wr.cell? ⟨g, j, none⟩ = some (.int .u8 (x : Int)) := by rw [cell_of_row _ _ _ _ _ _ hg.out, hxc]
          have hjI : (j : Int) < 2 := by omega
          have Hxt := Lib.hid hxt
          clear hxc hxt
          have hbs := hB.size
          have hgl : g < wr.heap.size := (Array.getElem?_eq_some_iff.1 hg.out).1
          by_cases hx10 : x < 10
          · have hxI : (x : Int) < 10 := by omega
            have hdg : Hid (dg x = 48 + (x : Int)) := by show _ = _; unfold dg; rw [if_pos hx10]
            have hwr : IntKind.u8.wrap (48 + (x : Int)) = 48 + (x : Int) := by rw [IntKind.wrap_u8]; omega
            have hmod : (48 + (x : Int)) % 256 = 48 + (x : Int) := by omega
            go_wp2_with (at_builtin; refine wpList_app_near rfl _ _ 25 rfl w0.heap.size 5 i0 (.int .u8 0) 1 Tryd.underlying25 hi hz0 hz1 hz2 rfl _ (2 * k + j) (u8s (T ++ [dg q, dg r].take j)) rfl (own_alloc hown.out _) _ _ 1 _ (u8s [48 + (x : Int)]) rfl (rdNew wr (u8s [48 + (x : Int)]) 5) (u8s_one _) (by unfold maxLen; omega) (by omega) (by simp; omega) ?_; intro v' w3 hown3 hg3 hn3; have Hown3 := Lib.hid hown3; have Hg3 := Lib.hid hg3; have Hn3 := Lib.hid hn3; clear hown3 hg3 hn3)
            have hBn : Below w0.heap.size w0 w3 := (hB.alloc hbs _).grown Hg3.out (by simp; omega) (fun j e => (hown.out.lt j e).1)
            go_roundw
            case rel => exact ⟨j + 1, by omega, by go_num, hBn, by show World.ownsRow _ _ _ _ _ _ _; rw [Hxt.out, ← List.append_assoc, u8s_append, hdg.out]; exact Hown3.out, grown_other Hg3.out (halloc _ hg.out) hne.out, Hn3.out g (by simp; omega) hne.out⟩
            case measure => simp [intOf]; omega
          · have hxI : ¬ (x : Int) < 10 := by omega
            have hdg : Hid (dg x = 87 + (x : Int)) := by show _ = _; unfold dg; rw [if_neg hx10]
            have hwr : IntKind.u8.wrap (87 + (x : Int)) = 87 + (x : Int) := by rw [IntKind.wrap_u8]; omega
            have hmod : (87 + (x : Int)) % 256 = 87 + (x : Int) := by omega
            go_wp2_with (at_builtin; refine wpList_app_near rfl _ _ 25 rfl w0.heap.size 5 i0 (.int .u8 0) 1 Tryd.underlying25 hi hz0 hz1 hz2 rfl _ (2 * k + j) (u8s (T ++ [dg q, dg r].take j)) rfl (own_alloc hown.out _) _ _ 1 _ (u8s [87 + (x : Int)]) rfl (rdNew wr (u8s [87 + (x : Int)]) 5) (u8s_one _) (by unfold maxLen; omega) (by omega) (by simp; omega) ?_; intro v' w3 hown3 hg3 hn3; have Hown3 := Lib.hid hown3; have Hg3 := Lib.hid hg3; have Hn3 := Lib.hid hn3; clear hown3 hg3 hn3)
            have hBn : Below w0.heap.size w0 w3 := (hB.alloc hbs _).grown Hg3.out (by simp; omega) (fun j e => (hown.out.lt j e).1)
            go_roundw
            case rel => exact ⟨j + 1, by omega, by go_num, hBn, by show World.ownsRow _ _ _ _ _ _ _; rw [Hxt.out, ← List.append_assoc, u8s_append, hdg.out]; exact Hown3.out, grown_other Hg3.out (halloc _ hg.out) hne.out, Hn3.out g (by simp; omega) hne.out⟩
            case measure => simp [intOf]; omega
        · obtain rfl : j = 2 := by omega
          have hown2 : Hid (wr.ownsRow w0.heap.size 5 1 u3 (2 * (k + 1)) (u8s (T ++ [dg q, dg r]))) := hown.out
          go_wp2_with fail
          go_roundw
          case rel => exact ⟨k + 1, by omega, by go_num, hB, by show World.ownsRow _ _ _ _ _ _ _; rw [Htk.out]; exact hown2.out⟩
          case measure => simp [intOf]; omega
    · obtain rfl : k = 16 := by omega
      have hown2 := hown.out
      rw [List.take_of_length_le (by rw [Hl.out]; omega)] at hown2
      have hcv := conv_own wr hown2
      have HB1 := Lib.hid hB
      clear hown2 hown hB
      go_wp2_with fail
      go_ret
      exact ⟨rfl, HB0.out.trans (HB1.out.mono HB0.out.size)⟩
end Go.Proofs.YtlgdbhebcglkoaaDoor
