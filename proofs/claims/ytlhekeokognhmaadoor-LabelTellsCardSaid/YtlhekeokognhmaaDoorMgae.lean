/-
  Words that walks of a range over a function share: what a round keeps, boxes, labels. What Read of package utf computes.
-/
import Derived.RangeFuncNested
import Derived.RangeFuncBound
import Derived.RangeFuncCalls
import Derived.RangeFuncLeaves
import Derived.RangeFuncFrom
import Derived.Shelf.Abstract
import Derived.Shelf.RegionOpen
import Derived.OwnWalkIn
import Derived.TacticsInMore
import Derived.LoopNIn
import Derived.LoopIn
import Derived.Test.YtlhekeokognhmaaDoorMgaa
import Derived.Test.YtlhekeokognhmaaDoorProg
import Derived.WalkKit
import Derived.ProofKit
import Derived.Test.YtlhekeokognhmaaDoorMgab
import Derived.Lib.ConvBytes
import Derived.Lib.Strings
import Derived.WalkSmall
import Derived.BigQuiet
import Derived.Deep.QuietTactic
namespace Go.Proofs.YtlhekeokognhmaaDoor
open Go.RowKit Go.Shelf
theorem grown_of_below {w w' : World} (h : Below w.heap.size w w') : w.grownBy w' none := ⟨h.os, h.tape, h.output, h.size, fun k hk _ => h.block k hk⟩

/-- What a round that goes on keeps: what was below n₀, and block b. -/
def KpB (n₀ b : Nat) (A B : World) : Prop := Below n₀ A B ∧ B.heap[b]? = A.heap[b]?
theorem kpB_t {n₀ b : Nat} {A B C : World} (h : KpB n₀ b A B) (k : KpB n₀ b B C) : KpB n₀ b A C := ⟨h.1.trans k.1, k.2.trans h.2⟩
theorem kpB_b {n₀ b : Nat} {w : World} (hn : n₀ ≤ w.heap.size) (hb : b < w.heap.size) (W : World) (l : Nat) (o o' : Obj) (hl : w.heap.size ≤ l) (h : W.heap[l]? = some o) (h1 : o.isCells = false) (h2 : o.isWalk = false) : KpB n₀ b W (W.putObj l o') :=
  ⟨belowK_b hn W l o o' hl h h1 h2, World.putObj_heap_other (by omega)⟩
/-- A function that holds a label, walked without a jump to it. -/
theorem wpIn_scope_wide {P : Program} {n : Nat} {c : Code} {Q : Exit → Act → World → Prop} {a : Act} {w : World} (h : c.wpIn Fence.wide n P (Exit.noGoto Q) a w) : (Code.scope c).wpIn Fence.wide n P Q a w :=
  wpIn_wide.2 (wp_scope_straight (wpIn_wide.1 h))
theorem box_new (W : World) (v : Value) (t : TypeId) : (W.alloc (.cells #[v] t)).cell? ⟨W.heap.size, 0, none⟩ = some v ∧ (W.alloc (.cells #[v] t)).frozen? ⟨W.heap.size, 0, none⟩ = false := by
  constructor <;> simp
theorem box_alloc {W : World} {a : Addr} {v : Value} (o : Obj) (h : W.cell? a = some v) : (W.alloc o).cell? a = some v := cell_kept h (World.grownBy_alloc W o none) (fun r e => by cases e)
theorem box_alloc_f {W : World} {a : Addr} {v : Value} (o : Obj) (h : W.cell? a = some v) (hf : W.frozen? a = false) : (W.alloc o).frozen? a = false := (frozen_kept h (World.grownBy_alloc W o none) (fun r e => by cases e)).trans hf
theorem kpB_set {n₀ b c : Nat} (W : World) (v : Value) (hc : n₀ ≤ c) (hb : b ≠ c) : KpB n₀ b W (W.setCell ⟨c, 0, none⟩ v) :=
  ⟨(Below.refl _ _).setCell (p := ⟨c, 0, none⟩) hc _, Below.heap_setCell _ _ _ _ hb⟩
end Go.Proofs.YtlhekeokognhmaaDoor
namespace Go.Proofs.YtlhekeokognhmaaDoor
open Go.RowKit Mt

/-- Read's three answers, and what is below is as it was. -/
def ReadOk (r : Int × Int × Int) (w : World) (e : Ending) (w' : World) : Prop :=
  e = .returned (.tuple #[.int .i64 r.1, .int .i64 r.2.1, .int .i64 r.2.2]) ∧ Below w.heap.size w w'
theorem readOk_mk {r : Int × Int × Int} {x n e : Int} {w w' : World} (h : r = (x, n, e)) (hb : Below w.heap.size w w') : ReadOk r w (.returned (.tuple #[.int .i64 x, .int .i64 n, .int .i64 e])) w' := by
  subst h
  exact ⟨rfl, hb⟩
/-- The bytes in the row of a conversion. -/
theorem conv_cell (W : World) (t : ByteArray) (j : Nat) (hj : j < t.size) : (Lib.bytesWorld W 5 t).cell? ⟨W.heap.size, j, none⟩ = some (.int .u8 ((bys t).getD j 0)) := by
  rw [Lib.bytesWorld_cell W _ t j hj]
  simp [bys, List.getD, hj]
theorem conv_below (B : Nat) (W : World) (t : ByteArray) (hB : B ≤ W.heap.size) : Below B W (Lib.bytesWorld W 5 t) :=
  ⟨rfl, rfl, rfl, by rw [Lib.bytesWorld_size]; omega, fun k hk => Lib.bytesWorld_at_old W _ t k (by omega)⟩

theorem conv_world (w w1 : World) (hb : Below w.heap.size w w1) (cs : List Value) (ty : TypeId) (q : Nat) (T : ByteArray) (WB : World) (hWB : Lib.bytesWorld ((w1.alloc (.cells cs.toArray ty)).drewN q) 5 T = WB) :
    Below w.heap.size w WB ∧ (∀ j, j < T.size → WB.cell? ⟨w1.heap.size + 1, j, none⟩ = some (.int .u8 ((bys T).getD j 0))) ∧ (∀ j v, cs[j]? = some v → WB.cell? ⟨w1.heap.size, j, none⟩ = some v) := by
  subst hWB
  have hz : ((w1.alloc (.cells cs.toArray ty)).drewN q).heap.size = w1.heap.size + 1 := by simp
  have h1 : Below w.heap.size w ((w1.alloc (.cells cs.toArray ty)).drewN q) := (hb.alloc hb.size _).trans ⟨rfl, rfl, rfl, Nat.le_refl _, fun _ _ => rfl⟩
  refine ⟨h1.trans (conv_below _ _ _ (by have := hb.size; omega)), fun j hj => ?_, fun j v hv => ?_⟩
  · have := conv_cell ((w1.alloc (.cells cs.toArray ty)).drewN q) T j hj
    rwa [hz] at this
  · rw [Lib.bytesWorld_old _ _ _ _ (by show w1.heap.size < _; omega), ← cells_new w1 cs ty j v hv, add0]
    rfl

set_option maxHeartbeats 1000000 in
theorem read_in (s : ByteArray) (k : Nat) (hk : k < s.size) (hs : s.size ≤ 140737488351232) (m lo hi : Int) (n : Nat) (t : List Int) (hm1 : m ≤ (s[k].toNat : Int)) (hb0 : (s[k].toNat : Int) - m ≤ 127) (hlo : 0 ≤ lo) (hhi : hi ≤ 191) (hn1 : 1 ≤ n) (hn4 : n ≤ 4)
    (T : ByteArray) (E : Int) (hE : E = k + n ∧ k + n ≤ s.size ∨ E = s.size ∧ s.size < k + n) (hTe : Hid (T = s.extract ((k : Int) + 1).toNat E.toNat)) (hTs : T.size + k + 1 = E) (hTt : Hid (bys T = t.take ((n : Int) - 1).toNat)) (htl : t.length + 1 + k = s.size) (hlo2 : 128 ≤ lo ∨ T.size = 0)
    (hl : Hid (lead (s[k].toNat : Int) = some (m, lo, hi, (n : Int)))) (w : World) (hT : Tab w) :
    Calls Tryd.prog 100 #[.string s, .int .i64 (k : Int)] w (ReadOk (rd ((s[k].toNat : Int) :: t)) w) := by
  have hcv := fun (W : World) (t : ByteArray) => Lib.run_convert_string_bytes (P := Tryd.prog) W 9 80 5 t Tryd.underlying9 Tryd.underlying80 Tryd.underlying5
  have hbeg := begin_yes (s[k].toNat : Int) m lo hi n (by omega) hl.out w hT
  have Hbeg := Lib.hid hbeg
  clear hbeg
  have hTE : T.size ≤ 3 := by omega
  have b3 : (k : Int) < s.size := by omega
  have b4 : (0 : Int) ≤ k := by omega
  have b5 : ((k : Int) + 1) ≤ E := by omega
  have hsl : ∀ W, (Instr.slice 9 (.string s) (some (.int .i64 ((k : Int) + 1))) (some (.int .i64 E)) none).run Tryd.prog W = .ok (.string T) W := by
    intro W
    have := run_slice_string (P := Tryd.prog) W 9 s .i64 .i64 ((k : Int) + 1) E Tryd.underlying9 (by omega) (by omega) (by omega)
    rw [this, hTe.out]
  rcases hE with ⟨rfl, hE⟩ | ⟨rfl, hE⟩
  all_goals
    go_enter Tryd.func100, Tryd.ntmps100
    go_wp2_with (go_at_call 107; refine Hbeg.out.mono ?_; rintro e w1 ⟨a, b, rfl, hb⟩; unfold agg6)
    go_quiet (fail)
    go_wp2
    go_quiet (fail)
    go_wp2
    generalize hWB : Lib.bytesWorld _ 5 T = WB
    obtain ⟨hbB, hcT, hf⟩ := conv_world w w1 hb _ _ _ T WB hWB
    have hf5 : WB.cell? ⟨w1.heap.size, 5, none⟩ = some (.int .i64 (n : Int)) := hf 5 _ rfl
    clear hf hWB hcv hsl Hbeg
    have HcT := Lib.hid hcT
    clear hcT
    go_loop [9, 10, 11, 61] (fun x l h i => ∃ (j : Nat) (xv lv hv : Int), j ≤ T.size ∧ i = .int .i64 j ∧ x = .int .i64 xv ∧ l = .int .u8 lv ∧ h = .int .u8 hv ∧ 0 ≤ xv ∧ (j = 0 ∧ xv ≤ 255 ∨ j = 1 ∧ xv ≤ 16383 ∨ j = 2 ∧ xv ≤ 1048575 ∨ j = 3 ∧ xv ≤ 67108863) ∧ (j < T.size → 128 ≤ lv) ∧ hv ≤ 191 ∧
      Hid (cont xv lv hv ((bys T).drop j) = cont ((s[k].toNat : Int) - m) lo hi (bys T))) (fun _ _ _ i => T.size - (intOf i).toNat)
    case atStart => exact ⟨0, _, lo, hi, by omega, rfl, rfl, rfl, rfl, by omega, by omega, by omega, hhi, rfl⟩
    case round =>
      obtain ⟨j, xv, lv, hv, hj, rfl, rfl, rfl, rfl, hx0, hxj, hlv, hhv, hco⟩ := hrel
      by_cases hjT : j < T.size
      · have h128 := hlv hjT
        obtain ⟨c, hc, hc0, hc255, hcc⟩ : ∃ c : Int, Hid ((bys T).drop j = c :: (bys T).drop (j + 1)) ∧ 0 ≤ c ∧ c ≤ 255 ∧ WB.cell? ⟨w1.heap.size + 1, j, none⟩ = some (.int .u8 c) := by
          have h1 := bys_drop T j hjT
          have h2 := bys_get T j hjT
          have h3 := HcT.out j hjT
          rw [List.getD, h2] at h3
          exact ⟨_, h1, by omega, by have := T[j].toNat_lt; omega, h3⟩
        clear hlv
        by_cases h1 : lv ≤ c
        · by_cases h2 : c ≤ hv
          · go_wp2
            go_round
            case rel => exact ⟨j + 1, xv * 64 + (c - 128), 128, 191, by omega, by go_num, rfl, rfl, rfl, by omega, by omega, by omega, by omega, by
              have := hco.out
              rw [hc.out, cont_in h1 h2] at this
              exact this⟩
            case measure => simp [intOf]; omega
          · go_wp2
            go_ret3
            refine readOk_mk (rd_bad hl.out ?_) hbB
            rw [← hTt.out, ← hco.out, hc.out, cont_out (by omega)]
        · go_wp2
          go_ret3
          refine readOk_mk (rd_bad hl.out ?_) hbB
          rw [← hTt.out, ← hco.out, hc.out, cont_out (by omega)]
      · have hco' : cont ((s[k].toNat : Int) - m) lo hi (t.take ((n : Int) - 1).toNat) = some xv := by
          rw [← hTt.out, ← hco.out, List.drop_of_length_le (by rw [bys_length]; omega)]
          rfl
        have Hco := Lib.hid hco'
        clear hco' hlv
        by_cases hsh : (s.size : Int) - k < n
        · first
          | (exfalso; omega)
          | (go_wp2
             go_ret3
             exact readOk_mk (rd_short hl.out Hco.out (by omega)) hbB)
        · first
          | (exfalso; omega)
          | (go_wp2
             go_quiet (fail)
             go_wp2
             go_ret3
             exact readOk_mk (rd_ok hl.out Hco.out (by omega)) (below_drewN hbB _))

theorem read_bad (s : ByteArray) (at_ : Int) (h : at_ < 0 ∨ (s.size : Int) < at_) (w : World) : Calls Tryd.prog 100 #[.string s, .int .i64 at_] w (ReadOk (0, 0, 2) w) := by
  by_cases h0 : at_ < 0
  · clear h
    go_enter Tryd.func100, Tryd.ntmps100
    go_wp2
    go_ret3
    exact readOk_mk rfl (Below.refl _ _)
  · have h1 : (s.size : Int) < at_ := by omega
    clear h
    go_enter Tryd.func100, Tryd.ntmps100
    go_wp2
    go_ret3
    exact readOk_mk rfl (Below.refl _ _)
theorem read_end (s : ByteArray) (at_ : Int) (h : at_ = s.size) (w : World) : Calls Tryd.prog 100 #[.string s, .int .i64 at_] w (ReadOk (0, 0, 6) w) := by
  subst h
  have h0 : (0 : Int) ≤ s.size := by omega
  go_enter Tryd.func100, Tryd.ntmps100
  go_wp2
  go_ret3
  exact readOk_mk rfl (Below.refl _ _)
theorem read_none (s : ByteArray) (k : Nat) (hk : k < s.size) (hl : Hid (lead (s[k].toNat : Int) = none)) (w : World) (hT : Tab w) : Calls Tryd.prog 100 #[.string s, .int .i64 (k : Int)] w (ReadOk (0, 0, 11) w) := by
  have hbeg := begin_no (s[k].toNat : Int) hl.out w hT
  have Hbeg := Lib.hid hbeg
  clear hbeg
  have b3 : (k : Int) < s.size := by omega
  have b4 : (0 : Int) ≤ k := by omega
  go_enter Tryd.func100, Tryd.ntmps100
  go_wp2_with (go_at_call 107; refine Hbeg.out.mono ?_; rintro e w1 ⟨rfl, hb⟩; unfold agg6)
  go_ret3
  exact readOk_mk rfl (hb.alloc hb.size _)
/-- WHAT READ ANSWERS, whatever the string and the offset are. -/
theorem read_any (s : ByteArray) (at_ : Int) (hs : s.size ≤ 140737488351232) (w : World) (hT : Tab w) : Calls Tryd.prog 100 #[.string s, .int .i64 at_] w (ReadOk (rdAt (bys s) at_) w) := by
  by_cases h : at_ < 0 ∨ (s.size : Int) < at_
  · rw [show rdAt (bys s) at_ = (0, 0, 2) from by unfold rdAt; rw [bys_length, if_pos h]]
    exact read_bad s at_ h w
  · obtain ⟨k, rfl⟩ := Int.eq_ofNat_of_zero_le (show 0 ≤ at_ by omega)
    rw [show rdAt (bys s) (k : Int) = rd ((bys s).drop k) from by unfold rdAt; rw [bys_length, if_neg h, Int.toNat_natCast]]
    by_cases he : k = s.size
    · rw [he, List.drop_of_length_le (by rw [bys_length]; exact Nat.le_refl _)]
      exact read_end s _ rfl w
    · have hk : k < s.size := by omega
      rw [bys_drop s k hk]
      cases hl : lead (s[k].toNat : Int) with
      | none =>
        rw [rd_none hl]
        exact read_none s k hk hl w hT
      | some r =>
        obtain ⟨m, lo, hi, n'⟩ := r
        obtain ⟨h1, h2, h3, h4, h5, h6, h7, _, _, _⟩ := lead_bd (by omega) hl
        obtain ⟨n, rfl⟩ := Int.eq_ofNat_of_zero_le (show 0 ≤ n' by omega)
        have hlen : ((bys s).drop (k + 1)).length = s.size - (k + 1) := by rw [List.length_drop, bys_length]
        by_cases hE : k + n ≤ s.size
        · have hx : (s.extract ((k : Int) + 1).toNat ((k : Int) + n).toNat).size = n - 1 := by rw [ByteArray.size_extract]; omega
          refine read_in s k hk hs m lo hi n _ h1 h2 h3 h4 (by omega) (by omega) (s.extract ((k : Int) + 1).toNat ((k : Int) + n).toNat) ((k : Int) + n) (.inl ⟨rfl, hE⟩) rfl (by rw [hx]; omega) ?_ (by rw [hlen]; omega) (by rw [hx]; omega) hl w hT
          show bys _ = _
          rw [bys_extract]
          rw [show ((k : Int) + 1).toNat = k + 1 from by omega, show ((k : Int) + (n : Int)).toNat - (k + 1) = ((n : Int) - 1).toNat from by omega]
        · have hx : (s.extract ((k : Int) + 1).toNat ((s.size : Int)).toNat).size = s.size - (k + 1) := by rw [ByteArray.size_extract]; omega
          refine read_in s k hk hs m lo hi n _ h1 h2 h3 h4 (by omega) (by omega) (s.extract ((k : Int) + 1).toNat ((s.size : Int)).toNat) (s.size : Int) (.inr ⟨rfl, by omega⟩) rfl (by rw [hx]; omega) ?_ (by rw [hlen]; omega) (by rw [hx]; omega) hl w hT
          show bys _ = _
          rw [bys_extract]
          rw [show ((k : Int) + 1).toNat = k + 1 from by omega, List.take_of_length_le (by rw [hlen]; omega), List.take_of_length_le (by rw [hlen]; omega)]
end Go.Proofs.YtlhekeokognhmaaDoor
