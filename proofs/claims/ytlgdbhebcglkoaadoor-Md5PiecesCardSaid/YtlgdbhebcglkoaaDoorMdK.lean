/-
  What Text of package md5 computes.
-/
import Derived.Test.YtlgdbhebcglkoaaDoorMdJ
import Derived.IntWalk
namespace Go.Proofs.YtlgdbhebcglkoaaDoor
open Go.RowKit Go.Shelf
/-- A hexadecimal digit; the text of bytes. -/
def dg (n : Nat) : Int := if n < 10 then 48 + (n : Int) else 87 + (n : Int)
def tx (l : List Int) : List Int := l.flatMap fun c => [dg (c.toNat / 16), dg (c.toNat % 16)]
theorem tx_snoc (l : List Int) (c : Int) : tx (l ++ [c]) = tx l ++ [dg (c.toNat / 16), dg (c.toNat % 16)] := by simp [tx]
theorem tx_length (l : List Int) : (tx l).length = 2 * l.length := by
  induction l with
  | nil => rfl
  | cons c l ih =>
    show (dg (c.toNat / 16) :: dg (c.toNat % 16) :: tx l).length = _
    simp only [List.length_cons, ih]
    omega
theorem dg_bts (n : Nat) (h : n < 16) : 0 ≤ dg n ∧ dg n ≤ 255 := by unfold dg; split <;> omega
theorem tx_bts (l : List Int) (h : Bts l) : Bts (tx l) := by
  intro x hx
  obtain ⟨c, hc, hx⟩ := List.mem_flatMap.1 hx
  have := h c hc
  rcases List.mem_cons.1 hx with rfl | hx
  · exact dg_bts _ (by omega)
  · obtain rfl := List.mem_singleton.1 hx
    exact dg_bts _ (by omega)
def hexS : ByteArray := ⟨#[48, 49, 50, 51, 52, 53, 54, 55, 56, 57, 97, 98, 99, 100, 101, 102]⟩
theorem hex_get (n : Nat) (hn : n < 16) : (bys hexS)[n]? = some (dg n) := by
  have : ∀ n : Fin 16, (bys hexS)[n.1]? = some (dg n.1) := by decide
  exact this ⟨n, hn⟩
theorem idx_u (n : Nat) (hn : n < 16) (W : World) : (Instr.index 9 (.string hexS) (.int .u8 (n : Int))).run Tryd.prog W = .ok (.int .u8 (dg n)) W := by
  have hs : hexS.size = 16 := by decide
  have hj : n < hexS.size := by omega
  have hc : (hexS[n].toNat : Int) = dg n := by
    have := bys_get hexS n hj
    rw [hex_get n hn] at this
    exact (Option.some.inj this).symm
  rw [run_index_string W 9 hexS .u8 (n : Int) Tryd.underlying9, dif_pos ⟨by omega, by omega⟩]
  simp only [Int.toNat_natCast, hc]
/-- The row of a text, k bytes done. -/
def txK (l : List Int) (k : Nat) : List Int := tx (l.take k) ++ List.replicate (32 - 2 * k) 0
theorem txK_length (l : List Int) (k : Nat) (hk : k ≤ 16) (hl : l.length = 16) : (txK l k).length = 32 := by
  unfold txK
  rw [List.length_append, tx_length, List.length_take, List.length_replicate]
  omega
theorem txK_succ (l : List Int) (k : Nat) (hk : k < 16) (hl : l.length = 16) (c : Int) (hc : l[k]? = some c) (a b : Int) (ha : a = dg (c.toNat / 16)) (hb : b = dg (c.toNat % 16)) :
    (((u8s (txK l k)).toArray.setIfInBounds (2 * k) (.int .u8 a)).setIfInBounds (2 * k + 1) (.int .u8 b)) = (u8s (txK l (k + 1))).toArray := by
  apply Array.toList_inj.1
  rw [Array.toList_setIfInBounds, Array.toList_setIfInBounds]
  show ((u8s (txK l k)).set (2 * k) _).set (2 * k + 1) _ = u8s (txK l (k + 1))
  have htl : (tx (l.take k)).length = 2 * k := by rw [tx_length, List.length_take]; omega
  unfold txK u8s
  obtain ⟨j, hj⟩ : ∃ j, 32 - 2 * k = j + 1 + 1 := ⟨30 - 2 * k, by omega⟩
  rw [hj, List.replicate_succ, List.replicate_succ, List.take_add_one, hc, show 32 - 2 * (k + 1) = j from by omega, Option.toList_some, tx_snoc, ha, hb]
  simp [List.map_append, List.set_append, htl]
theorem and15 (c : Nat) (hc : c < 256) : bits .and .u8 (c : Int) 15 = ((c % 16 : Nat) : Int) := by
  have : ∀ c : Fin 256, bits .and .u8 ((c.1 : Nat) : Int) 15 = ((c.1 % 16 : Nat) : Int) := by decide +kernel
  exact this ⟨c, hc⟩
set_option maxRecDepth 100000 in
set_option maxHeartbeats 2000000 in
theorem text_any (D : List Int) (hl : D.length = 16) (hb : Bts D) (w : World) :
    Calls Tryd.prog 23 #[.agg (u8s D).toArray] w fun e w' => e = .returned (.string (strOfNums (tx D))) ∧ Below w.heap.size w w' := by
  have hidx := fun n hn W => idx_u n hn W
  rw [show hexS = ⟨#[48, 49, 50, 51, 52, 53, 54, 55, 56, 57, 97, 98, 99, 100, 101, 102]⟩ from rfl] at hidx
  obtain ⟨i0, hi0, hi1⟩ := info_u8
  have hlu : (u8s D).length = 16 := by rw [u8s_length, hl]
  have hidA : ∀ k : Nat, k < 16 → ∀ W, (Instr.index 30 (.agg (u8s D).toArray) (.int .i64 (k : Int))).run Tryd.prog W = .ok (.int .u8 (D.getD k 0)) W := fun k hk W =>
    run_idx_agg 30 5 16 i0 _ Tryd.underlying30 Tryd.underlying5 rfl hi0 hi1 _ k hk _ (by rw [List.getElem?_toArray]; exact u8s_get D k (by omega)) W
  have HidA := Lib.hid hidA
  have Hidx := Lib.hid hidx
  have Hb := Lib.hid hb
  have Hl := Lib.hid hl
  have hsz : (Tryd.prog.info? 30).map (·.size) = some (u8s D).toArray.size := by rw [List.size_toArray, hlu]; exact size16b
  obtain ⟨L, hL⟩ : ∃ L, L = (u8s D).toArray := ⟨_, rfl⟩
  rw [← hL] at hsz HidA ⊢
  have Hsz := Lib.hid hsz
  clear hsz hL hlu hidA hidx hb hl
  go_enter Tryd.func23, Tryd.ntmps23
  go_wp2_with ((refine wpList_load_row ?c0 30 (.tmp 1) ?c1 w.heap.size ?c2 30 L (0, 0) _ (halloc _ (heap_alloc_new w _)) Tryd.underlying30 ?c3 Hsz.out ?_); (case c0 => with_reducible rfl); (case c1 => with_reducible rfl); (case c2 => rfl); (case c3 => rfl))
  generalize hA : World.alloc _ (.cells _ 81) = w2
  have hg : w2.heap[w.heap.size + 1]? = some (.cells (u8s (txK D 0)).toArray 81 (0, 0)) := by rw [← hA]; exact hnew _ (by simp)
  have hB : Below w.heap.size w w2 := by rw [← hA]; exact ((Below.refl _ w).alloc (Nat.le_refl _) _).alloc (by simp) _
  have HG := Lib.hid hg
  clear hA hg
  go_loopw [7] (fun i wr => ∃ k : Nat, k ≤ 16 ∧ i = .int .i64 k ∧ Below w.heap.size w wr ∧ Hid (wr.heap[w.heap.size + 1]? = some (.cells (u8s (txK D k)).toArray 81 (0, 0)))) (fun i _ => 16 - (intOf i).toNat)
  case atStart => exact ⟨0, by omega, rfl, hB, HG⟩
  case round =>
    clear hB HG
    obtain ⟨k, hk, rfl, hB, hrow⟩ := hrel
    by_cases hk16 : k < 16
    · have hcb := Hb.out.getD k
      have hia := HidA.out k hk16
      have hDk : D[k]? = some (D.getD k 0) := by simp [Hl.out, hk16]
      have hlen := txK_length D k hk Hl.out
      obtain ⟨g, hg⟩ : ∃ g, g = w.heap.size + 1 := ⟨_, rfl⟩
      rw [← hg] at hrow
      obtain ⟨n2, hn2⟩ : ∃ n2, 2 * k = n2 := ⟨_, rfl⟩
      obtain ⟨n3, hn3⟩ : ∃ n3, n2 + 1 = n3 := ⟨_, rfl⟩
      have hc2 : wr.cell? ⟨g, n2, none⟩ = some (.int .u8 ((txK D k).getD n2 0)) := by
        rw [cell_of_row _ _ _ _ _ _ hrow.out, List.getElem?_toArray, u8s_get _ _ (by omega)]
      have hc3 : wr.cell? ⟨g, n3, none⟩ = some (.int .u8 ((txK D k).getD n3 0)) := by
        rw [cell_of_row _ _ _ _ _ _ hrow.out, List.getElem?_toArray, u8s_get _ _ (by omega)]
      have hf : ∀ j, wr.frozen? ⟨g, j, none⟩ = false := fun j => by simp [World.frozen?, hrow.out]
      have hf2 := hf n2
      have hf3 := hf n3
      generalize (txK D k).getD n2 0 = o2 at hc2
      generalize (txK D k).getD n3 0 = o3 at hc3
      obtain ⟨c, hc⟩ := Int.eq_ofNat_of_zero_le hcb.1
      rw [hc] at hia hDk
      have hc256 : c < 256 := by omega
      have hand := and15 c hc256
      have hia1 := Hidx.out (c / 16) (by omega)
      have hia2 := Hidx.out (c % 16) (by omega)
      have Hs := Lib.hid (txK_succ D k hk16 Hl.out (c : Int) hDk _ _ rfl rfl)
      have hq : (c : Int) / 16 = ((c / 16 : Nat) : Int) := by omega
      have hw1 : IntKind.i64.wrap (2 * (k : Int)) = (n2 : Int) := by rw [IntWalk.i64_in _ (by omega)]; omega
      have hw2 : IntKind.i64.wrap ((n2 : Int) + 1) = (n3 : Int) := by rw [IntWalk.i64_in _ (by omega)]; omega
      rw [Int.toNat_natCast] at Hs
      have h32 : n2 < 32 := by omega
      have h33 : n3 < 32 := by omega
      have hne : n2 ≠ n3 := by omega
      have Hn2 := Lib.hid hn2
      have Hn3 := Lib.hid hn3
      generalize c / 16 = q at *
      generalize c % 16 = r at *
      generalize dg q = va at *
      generalize dg r = vb at *
      clear hcb hDk hc hn2 hn3 hf hlen hc256
      have Hgw := Lib.hid hg
      clear hg
      go_wp2_with fail
      rw [← Hgw.out]
      go_region
      generalize hw4 : World.setCell (World.setCell wr ⟨g, n2, none⟩ _) ⟨g, n3, none⟩ _ = w4
      have hB4 : Below w.heap.size w w4 := by rw [← hw4]; exact (hB.setCell (p := ⟨g, n2, none⟩) (by have := Hgw.out; show w.heap.size ≤ g; omega) _).setCell (p := ⟨g, n3, none⟩) (by have := Hgw.out; show w.heap.size ≤ g; omega) _
      have hr4 : Hid (w4.heap[w.heap.size + 1]? = some (.cells (u8s (txK D (k + 1))).toArray 81 (0, 0))) := by
        show _ = _
        rw [← hw4, ← Hs.out, Hn2.out, Hn3.out, ← Hgw.out]
        exact heap_setCell_same _ _ _ _ _ _ (heap_setCell_same _ _ _ _ _ _ hrow.out)
      rw [Hgw.out]
      clear hw4 hc2 hc3 hf2 hf3 hB hrow
      go_wp2_with fail
      go_roundw
      case rel => exact ⟨k + 1, by omega, by go_num, hB4.drew, hr4⟩
      case measure => simp [intOf]; omega
    · obtain rfl : k = 16 := by omega
      have hrow2 := hrow.out
      have hlen := txK_length D 16 (by omega) Hl.out
      have htx : txK D 16 = tx D := by
        unfold txK
        rw [List.take_of_length_le (by rw [Hl.out]; omega)]
        simp
      rw [htx] at hrow2 hlen
      have hcv := conv_rd wr wr.heap.size (w.heap.size + 1) 32 32 (tx D) ⟨by rw [u8s_length, hlen], fun _ => ⟨_, rfl, (Array.getElem?_eq_some_iff.1 hrow2).1, fun j u hu => by
        rw [add0, cell_of_row _ _ _ _ _ _ hrow2]
        simpa using hu⟩⟩
      clear hrow2 hlen htx hrow
      go_wp2_with fail
      go_ret
      exact ⟨rfl, hB⟩
end Go.Proofs.YtlgdbhebcglkoaaDoor
