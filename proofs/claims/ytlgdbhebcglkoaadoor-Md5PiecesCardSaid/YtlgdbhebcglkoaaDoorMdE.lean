/-
  What Start, Step and Padding of package md5 compute.
-/
import Derived.Test.YtlgdbhebcglkoaaDoorMdD
import Derived.Test.YtlgdbhebcglkoaaDoorArr
import Derived.Deep.RegionHeld3
import Derived.Deep.RegionLaw
import Derived.Test.YtlgdbhebcglkoaaDoorKept
namespace Go.Proofs.YtlgdbhebcglkoaaDoor
open Go.RowKit
/-- The first state. -/
def st0 : St := (1732584193#32, 4023233417#32, 2562383102#32, 271733878#32)
def v0 : Array Value := #[.int .u32 1732584193, .int .u32 4023233417, .int .u32 2562383102, .int .u32 271733878]
theorem v0_vals : vals st0 = v0 := rfl
theorem size4 : (Tryd.prog.info? 24).map (·.size) = some 4 := by kernel_rfl
theorem start_any (w : World) : Calls Tryd.prog 26 #[] w fun e w' => e = .returned (.agg v0) ∧ Below w.heap.size w w' := by
  go_enter Tryd.func26, Tryd.ntmps26
  go_wp2_with fail
  exact bodyPost_ret (results_cell_row Tryd.results26 _ _ w.heap.size _ v0 (0, 0) _ rfl (hnew _ rfl) Tryd.underlying24 rfl size4) rfl ⟨rfl, (Below.refl _ w).alloc (Nat.le_refl _) _⟩
theorem padding_no (n : Int) (hn : n < 0 ∨ 1099511627776 < n) (w : World) :
    Calls Tryd.prog 25 #[.int .i64 n] w fun e w' => e = .returned (.tuple #[.slice none 0 0, .int .i64 2]) ∧ w = w' := by
  by_cases h : n < 0
  · go_enter Tryd.func25, Tryd.ntmps25
    go_wp2_with fail
    go_ret2
    exact ⟨rfl, rfl⟩
  · have h2 : 1099511627776 < n := by omega
    have h0 : 0 ≤ n := by omega
    go_enter Tryd.func25, Tryd.ntmps25
    go_wp2_with fail
    go_ret2
    exact ⟨rfl, rfl⟩
theorem padding_yes (n : Nat) (hn : n ≤ 1099511627776) (w : World) :
    Calls Tryd.prog 25 #[.int .i64 (n : Int)] w fun e w' => ∃ v, e = .returned (.tuple #[v, .int .i64 0]) ∧ w'.ownsRow w.heap.size 5 1 v (72 - (n + 8) % 64) (u8s (padL n)) ∧ Below w.heap.size w w' := by
  have h : ¬ 1099511627776 < (n : Int) := by omega
  go_enter Tryd.func25, Tryd.ntmps25
  go_wp2_with fail
  refine (padding_any n (by omega) _).mono ?_
  rintro e w1 ⟨v, rfl, h1, h2⟩
  have H1 := Lib.hid h1
  have H2 := Lib.hid h2
  clear h1 h2
  go_wp2_with fail
  go_ret2
  exact ⟨v, rfl, H1.out, H2.out⟩
theorem step_no (s : St) (A : Option Addr) (n c : Nat) (hn : n ≠ 64) (w : World) :
    Calls Tryd.prog 27 #[.agg (vals s), .slice A n c] w fun e w' => e = .returned (.tuple #[.agg #[.int .u32 0, .int .u32 0, .int .u32 0, .int .u32 0], .int .i64 2]) ∧ Below w.heap.size w w' := by
  obtain ⟨L, hL⟩ : ∃ L, L = vals s := ⟨_, rfl⟩
  rw [← hL]
  have h1 : ((n : Int) != 64) = true := by simp; omega
  have h2 : ((n : Int) == 64) = false := by simp; omega
  clear hL
  go_enter Tryd.func27, Tryd.ntmps27
  go_wp2_with ((refine wpList_store_row ?c0 24 (.tmp 4) (.tmp 9) ?c1 (w.heap.size + 1) #[.int .u32 0, .int .u32 0, .int .u32 0, .int .u32 0] ?c2 ?c3 _ _ (hnew _ (by simp)) ?c4 ?c5 ?c6 ?_); (case c0 => with_reducible rfl); (case c1 => with_reducible rfl); (case c2 => rfl); (case c3 => rfl); (case c4 => exact size4); (case c5 => rfl); (case c6 => simp [Value.oneCell']))
  exact bodyPost_ret (results_row_tmp Tryd.results27 _ _ (w.heap.size + 1) _ #[.int .u32 0, .int .u32 0, .int .u32 0, .int .u32 0] (0, 0) _ rfl (setRow_heap _ _ _ _ _ _ (hnew _ (by simp))) Tryd.underlying24 rfl size4) rfl ⟨rfl, below_setRow (((Below.refl _ w).alloc (Nat.le_refl _) _).alloc (by simp) _) (by omega) _⟩
theorem step_yes (a b c d : BitVec 32) (l : List Int) (hl : l.length = 64) (hb : Bts l) (g off : Nat) (k : Nat) (w : World) (hr : w.rangeAt g off (u8s l)) (hT : Tab w) :
    Calls Tryd.prog 27 #[.agg #[V a, V b, V c, V d], .slice (some ⟨g, off, none⟩) 64 k] w fun e w' => e = .returned (.tuple #[.agg (vals (stp (a, b, c, d) l)), .int .i64 0]) ∧ Below w.heap.size w w' := by
  have hg : g < w.heap.size := by
    have := hr 0 _ (u8s_get l 0 (by omega))
    exact block_lt_of_cell this
  have C := Lib.hid fun W hT => step_any a b c d l hl hb W hT
  obtain ⟨x, y, z, u, hR⟩ : ∃ x y z u, vals (stp (a, b, c, d) l) = #[V x, V y, V z, V u] := ⟨_, _, _, _, rfl⟩
  rw [hR] at C
  have HR := Lib.hid hR
  have hlu : (Tryd.prog.info? 48).map (·.size) = some (u8s l).length := by rw [size64]; simp [u8s_length, hl]
  obtain ⟨L, hL⟩ : ∃ L, L = u8s l := ⟨_, rfl⟩
  rw [← hL] at hr hlu C
  have hu := Tryd.underlying48
  have hat : ∀ W, (Instr.arrayAt 48 (.slice (some ⟨g, off, none⟩) 64 k)).run Tryd.prog W = .ok (.pointer (some ⟨g, off, none⟩)) W := fun W => by
    simp [Instr.arrayAt, run_underlying Tryd.underlying48]
  have Hr := Lib.hid hr
  have Hlu := Lib.hid hlu
  have Hu := Lib.hid hu
  clear hL hr hlu hu hR
  go_enter Tryd.func27, Tryd.ntmps27
  go_wp2_with fail
  have hB0 : Below w.heap.size w ((w.alloc (.cells #[V a, V b, V c, V d] 24)).alloc (.cells #[.int .u32 0, .int .u32 0, .int .u32 0, .int .u32 0] 24)) := ((Below.refl _ w).alloc (Nat.le_refl _) _).alloc (by simp) _
  generalize hw0 : (w.alloc (.cells #[V a, V b, V c, V d] 24)).alloc (.cells #[.int .u32 0, .int .u32 0, .int .u32 0, .int .u32 0] 24) = w0 at hB0
  have hx0 : w0.heap[w.heap.size]? = some (.cells #[V a, V b, V c, V d] 24 (0, 0)) := by rw [← hw0]; exact halloc _ (hnew _ rfl)
  have hx1 : w0.heap[w.heap.size + 1]? = some (.cells #[.int .u32 0, .int .u32 0, .int .u32 0, .int .u32 0] 24 (0, 0)) := by rw [← hw0]; exact hnew _ (by simp)
  have hT0 : ∀ W, Below w0.heap.size w0 W → Tab W := fun W h => (hT.below hB0).below h
  have hrw : w0.rangeAt g off L := fun j v hv => (hB0.cell (p := ⟨g, off + j, none⟩) hg).trans (Hr.out j v hv)
  have Hk : Hid (∀ W, Below (w.heap.size + 1) w0 W → W.rangeAt g off L ∧ W.cell? ⟨w.heap.size, 0, none⟩ = some (V a) ∧ W.cell? ⟨w.heap.size, 1, none⟩ = some (V b) ∧ W.cell? ⟨w.heap.size, 2, none⟩ = some (V c) ∧ W.cell? ⟨w.heap.size, 3, none⟩ = some (V d) ∧ Below (w.heap.size + 1) w0 W) := by
    refine fun W h => ⟨fun j v hv => (h.cell (p := ⟨g, off + j, none⟩) (by show g < _; omega)).trans (hrw j v hv), ?_, ?_, ?_, ?_, h⟩ <;>
      (rw [cell_of_row _ _ _ _ _ _ ((h.block _ (by omega)).trans hx0)]; rfl)
  have Hx1 := Lib.hid hx1
  have hz0 : w0.heap.size = w.heap.size + 1 + 1 := by rw [← hw0]; simp
  have HB0 := Lib.hid hB0
  have HT0 := Lib.hid hT0
  clear hx0 hx1 hw0 hrw hB0 hT0
  have hlu := Hlu.out
  have hu := Hu.out
  have hb0 : Below (w.heap.size + 1) w0 w0 := Below.refl _ _
  go_region_held3 (fun W => W.rangeAt g off L ∧ W.cell? ⟨w.heap.size, 0, none⟩ = some (V a) ∧ W.cell? ⟨w.heap.size, 1, none⟩ = some (V b) ∧ W.cell? ⟨w.heap.size, 2, none⟩ = some (V c) ∧ W.cell? ⟨w.heap.size, 3, none⟩ = some (V d) ∧ Below (w.heap.size + 1) w0 W)
    ((refine Hk.out _ ?_; (repeat (first | with_reducible assumption | with_reducible refine Below.drew ?_ | (refine Below.setCell ?_ (by show w.heap.size + 1 ≤ w.heap.size + 1; omega) _))); done))
    ((go_at_call 40; refine (C.out _ (HT0.out _ (Below.refl _ w0).drew)).mono ?_; rintro e w1 ⟨rfl, k1⟩; have hx1 := (Below.block k1 _ (by show w.heap.size + 1 < w0.heap.size; omega)).trans Hx1.out; have d0 : w1.cell? ⟨w.heap.size + 1, 0, none⟩ = some (.int .u32 0) := (cell_of_row _ _ _ _ _ _ hx1); have d1 : w1.cell? ⟨w.heap.size + 1, 1, none⟩ = some (.int .u32 0) := (cell_of_row _ _ _ _ _ _ hx1); have d2 : w1.cell? ⟨w.heap.size + 1, 2, none⟩ = some (.int .u32 0) := (cell_of_row _ _ _ _ _ _ hx1); have d3 : w1.cell? ⟨w.heap.size + 1, 3, none⟩ = some (.int .u32 0) := (cell_of_row _ _ _ _ _ _ hx1); have fr : ∀ j, w1.frozen? ⟨w.heap.size + 1, j, none⟩ = false := (fun j => (by simp [World.frozen?, hx1])); have hb1 : Below (w.heap.size + 1) w0 w1 := (Below.trans (Below.refl (w.heap.size + 1) w0).drew (Below.mono k1 (by show w.heap.size + 1 ≤ w0.heap.size; omega))); have Hx := Lib.hid hx1; clear hx1; dsimp only))
  rename_i hS
  have hBl := hS.2.2.2.2.2
  clear hS
  have h1 := heap_setCell_same w1 (w.heap.size + 1) 0 _ _ (V x) Hx.out
  have h2 := heap_setCell_same _ (w.heap.size + 1) 1 _ _ (V y) h1
  have h3 := heap_setCell_same _ (w.heap.size + 1) 2 _ _ (V z) h2
  have h4 := heap_setCell_same _ (w.heap.size + 1) 3 _ _ (V u) h3
  clear h1 h2 h3
  generalize hw4 : World.setCell _ _ _ = w4 at hBl h4 ⊢
  go_wp2_with fail
  exact bodyPost_ret (results_row_tmp Tryd.results27 _ _ (w.heap.size + 1) _ #[V x, V y, V z, V u] (0, 0) _ rfl h4 Tryd.underlying24 rfl size4) rfl ⟨by rw [HR.out]; rfl, HB0.out.trans (hBl.mono (by omega))⟩
end Go.Proofs.YtlgdbhebcglkoaaDoor
