/-
  What begin of package utf computes: the first row of its table whose range of first bytes has the byte.
-/
import Derived.Test.YtlhekeokognhmaaGreatDoorUtfB
import Derived.ProofKit
import Derived.Lib.LaidTab
import Derived.Laws.ResultCell
namespace Go.Proofs.YtlhekeokognhmaaGreatDoor
open Go.RowKit Mt

/-- The table as rows of numbers. -/
def tabRows : List (List Int) := [[0, 127, 0, 0, 0, 1], [194, 223, 192, 128, 191, 2], [224, 224, 224, 160, 191, 3], [225, 236, 224, 128, 191, 3], [237, 237, 224, 128, 159, 3], [238, 239, 224, 128, 191, 3], [240, 240, 240, 144, 191, 4], [241, 243, 240, 128, 191, 4], [244, 244, 240, 128, 143, 4]]
def tb (k j : Nat) : Int := (tabRows.getD k []).getD j 0
def entV (k : Nat) : Array Value := #[.int .u8 (tb k 0), .int .u8 (tb k 1), .int .u8 (tb k 2), .int .u8 (tb k 3), .int .u8 (tb k 4), .int .i64 (tb k 5)]
def tabV : Array Value := ((List.range 9).map fun k => (entV k).toList).flatten.toArray
/-- The table lies where its variable is. -/
def Tab (w : World) : Prop := ∃ t fr, w.heap[1]? = some (.cells tabV t fr)
theorem Tab.below {w w' : World} (h : Tab w) (hb : Below w.heap.size w w') : Tab w' := by
  obtain ⟨t, fr, h⟩ := h
  exact ⟨t, fr, (hb.block _ (Array.getElem?_eq_some_iff.1 h).1).trans h⟩
theorem tab_index (w : World) (k : Nat) (hk : k < 9) : (Instr.index 166 (.agg tabV) (.int .i64 (k : Int))).run Tryz.prog w = .ok (.agg (entV k)) w := by
  rcases (by omega : k = 0 ∨ k = 1 ∨ k = 2 ∨ k = 3 ∨ k = 4 ∨ k = 5 ∨ k = 6 ∨ k = 7 ∨ k = 8) with rfl | rfl | rfl | rfl | rfl | rfl | rfl | rfl | rfl <;> kernel_rfl
theorem tab_size : (Tryz.prog.info? 166).map (·.size) = some tabV.size := by kernel_rfl

set_option maxRecDepth 100000 in
set_option maxHeartbeats 400000 in
theorem begin_T (T : Array Value) (f l m lo hi s : Nat → Int) (c : Int) (w : World) (t : TypeId) (fr : Nat × Nat) (hT : w.heap[1]? = some (.cells T t fr)) (hsz : (Tryz.prog.info? 166).map (·.size) = some T.size)
    (hidx : ∀ (W : World) (k : Nat), k < 9 → (Instr.index 166 (.agg T) (.int .i64 (k : Int))).run Tryz.prog W = .ok (.agg #[.int .u8 (f k), .int .u8 (l k), .int .u8 (m k), .int .u8 (lo k), .int .u8 (hi k), .int .i64 (s k)]) W) :
    Calls Tryz.prog 122 #[.int .u8 c] w fun e w' => Below w.heap.size w w' ∧ 
      ((∃ k, k < 9 ∧ f k ≤ c ∧ c ≤ l k ∧ (∀ j, j < k → ¬ (f j ≤ c ∧ c ≤ l j)) ∧ e = .returned (.tuple #[.agg #[.int .u8 (f k), .int .u8 (l k), .int .u8 (m k), .int .u8 (lo k), .int .u8 (hi k), .int .i64 (s k)], .bool true])) ∨
       ((∀ j, j < 9 → ¬ (f j ≤ c ∧ c ≤ l j)) ∧ e = .returned (.tuple #[.agg #[.int .u8 0, .int .u8 0, .int .u8 0, .int .u8 0, .int .u8 0, .int .i64 0], .bool false]))) := by
  have hs80 : (Tryz.prog.info? 152).map (·.size) = some 6 := by kernel_rfl
  have Hs80 := Lib.hid hs80
  clear hs80
  go_enter Tryz.func122, Tryz.ntmps122
  have hlt : 1 < w.heap.size := (Array.getElem?_eq_some_iff.1 hT).1
  go_wp2_with ((refine wpList_load_row ?c0 166 (.global 1) ?c1 1 ?c2 t T fr _ ((Below.heap_alloc w _ _ hlt).trans hT) Tryz.underlying166 ?c3 hsz ?_); (case c0 => with_reducible rfl); (case c1 => with_reducible rfl); (case c2 => rfl); (case c3 => rfl))
  go_loopw [7] (fun i wr => ∃ k : Nat, k ≤ 9 ∧ i = .int .i64 k ∧ Below w.heap.size w wr ∧ wr.heap[w.heap.size]? = some (.cells #[.int .u8 0, .int .u8 0, .int .u8 0, .int .u8 0, .int .u8 0, .int .i64 0] 152 (0, 0)) ∧ ∀ j, j < k → ¬ (f j ≤ c ∧ c ≤ l j)) (fun i _ => 9 - (intOf i).toNat)
  case atStart => exact ⟨0, by omega, rfl, (Below.refl _ _).alloc (Nat.le_refl _) _, heap_alloc_new w _, fun j hj => absurd hj (by omega)⟩
  case round =>
    obtain ⟨k, hk, rfl, hb, hr, hm⟩ := hrel
    have Hm := Lib.hid hm
    clear hm
    have hz : w.heap.size < wr.heap.size := (Array.getElem?_eq_some_iff.1 hr).1
    by_cases hlt9 : k < 9
    · have Hr := Lib.hid hr
      clear hr
      by_cases h1 : f k ≤ c
      · by_cases h2 : c ≤ l k
        · go_wp2_with ((refine wpList_store_row ?c0 152 (.tmp 2) (.tmp 20) ?c1 w.heap.size #[.int .u8 (f k), .int .u8 (l k), .int .u8 (m k), .int .u8 (lo k), .int .u8 (hi k), .int .i64 (s k)] ?c2 ?c3 _ _ ((Below.heap_alloc wr _ _ hz).trans Hr.out) ?c4 ?c5 ?c6 ?_); (case c0 => with_reducible rfl); (case c1 => with_reducible rfl); (case c2 => rfl); (case c3 => rfl); (case c4 => exact Hs80.out); (case c5 => rfl); (case c6 => simp [Value.oneCell']))
          refine bodyPost_ret (results_row_tmp Tryz.results122 _ _ w.heap.size _ #[.int .u8 (f k), .int .u8 (l k), .int .u8 (m k), .int .u8 (lo k), .int .u8 (hi k), .int .i64 (s k)] _ _ rfl (setRow_heap _ _ _ _ _ _ ((Below.heap_alloc wr _ _ hz).trans Hr.out)) Tryz.underlying152 rfl (by exact Hs80.out)) rfl ?_
          exact ⟨below_setRow (hb.alloc (by omega) _) (Nat.le_refl _) _, Or.inl ⟨k, hlt9, h1, h2, Hm.out, rfl⟩⟩
        · go_wp2
          go_roundw
          case rel => exact ⟨k + 1, by omega, by go_num, hb.alloc (by omega) _, (Below.heap_alloc wr _ _ hz).trans Hr.out, fun j hj hc => by
            rcases Nat.lt_or_eq_of_le (Nat.le_of_lt_succ hj) with h | rfl
            · exact Hm.out j h hc
            · exact h2 hc.2⟩
          case measure => simp [intOf]; omega
      · go_wp2
        go_roundw
        case rel => exact ⟨k + 1, by omega, by go_num, hb.alloc (by omega) _, (Below.heap_alloc wr _ _ hz).trans Hr.out, fun j hj hc => by
            rcases Nat.lt_or_eq_of_le (Nat.le_of_lt_succ hj) with h | rfl
            · exact Hm.out j h hc
            · exact h1 hc.1⟩
        case measure => simp [intOf]; omega
    · obtain rfl : k = 9 := by omega
      have Hr := Lib.hid hr
      clear hr
      go_wp2_with ((refine wpList_store_row ?c0 152 (.tmp 2) (.tmp 22) ?c1 w.heap.size #[.int .u8 0, .int .u8 0, .int .u8 0, .int .u8 0, .int .u8 0, .int .i64 0] ?c2 ?c3 _ _ Hr.out ?c4 ?c5 ?c6 ?_); (case c0 => with_reducible rfl); (case c1 => with_reducible rfl); (case c2 => rfl); (case c3 => rfl); (case c4 => exact Hs80.out); (case c5 => rfl); (case c6 => simp [Value.oneCell']))
      refine bodyPost_ret (results_row_tmp Tryz.results122 _ _ w.heap.size _ #[.int .u8 0, .int .u8 0, .int .u8 0, .int .u8 0, .int .u8 0, .int .i64 0] _ _ rfl (setRow_heap _ _ _ _ _ _ Hr.out) Tryz.underlying152 rfl (by exact Hs80.out)) rfl ?_
      exact ⟨below_setRow hb (Nat.le_refl _) _, Or.inr ⟨Hm.out, rfl⟩⟩

def agg6 (a b c d e f : Int) : Value := .agg #[.int .u8 a, .int .u8 b, .int .u8 c, .int .u8 d, .int .u8 e, .int .i64 f]
theorem lead_row (c : Int) (k : Nat) (hk : k < 9) (h1 : tb k 0 ≤ c) (h2 : c ≤ tb k 1) : lead c = some (tb k 2, tb k 3, tb k 4, tb k 5) := by
  rcases (by omega : k = 0 ∨ k = 1 ∨ k = 2 ∨ k = 3 ∨ k = 4 ∨ k = 5 ∨ k = 6 ∨ k = 7 ∨ k = 8) with rfl | rfl | rfl | rfl | rfl | rfl | rfl | rfl | rfl <;>
    (simp only [tb, tabRows, List.getD_cons_zero, List.getD_cons_succ] at h1 h2 ⊢; unfold lead; repeat (first | rw [if_pos (by omega)] | rw [if_neg (by omega)]))
theorem lead_no (c : Int) (h0 : 0 ≤ c) (h : ∀ j, j < 9 → ¬ (tb j 0 ≤ c ∧ c ≤ tb j 1)) : lead c = none := by
  have a0 := h 0 (by omega); have a1 := h 1 (by omega); have a2 := h 2 (by omega); have a3 := h 3 (by omega); have a4 := h 4 (by omega); have a5 := h 5 (by omega); have a6 := h 6 (by omega); have a7 := h 7 (by omega); have a8 := h 8 (by omega)
  simp only [tb, tabRows, List.getD_cons_zero, List.getD_cons_succ] at a0 a1 a2 a3 a4 a5 a6 a7 a8
  unfold lead
  by_cases hc : c ≤ 193
  · rw [if_neg (by omega), if_pos hc]
  · repeat (first | rw [if_pos (by omega)] | rw [if_neg (by omega)])
/-- Some row's first and last byte, and what the row has in common. -/
def BegYes (m lo hi n : Int) (w : World) (e : Ending) (w' : World) : Prop :=
  ∃ a b, e = .returned (.tuple #[agg6 a b m lo hi n, .bool true]) ∧ Below w.heap.size w w'
theorem begin_yes (c m lo hi n : Int) (h0 : 0 ≤ c) (h : lead c = some (m, lo, hi, n)) (w : World) (hT : Tab w) : Calls Tryz.prog 122 #[.int .u8 c] w (BegYes m lo hi n w) := by
  obtain ⟨t, fr, hT⟩ := hT
  refine (begin_T tabV (fun k => tb k 0) (fun k => tb k 1) (fun k => tb k 2) (fun k => tb k 3) (fun k => tb k 4) (fun k => tb k 5) c w t fr hT tab_size (fun W k hk => tab_index W k hk)).mono ?_
  rintro e w' ⟨hb, ⟨k, hk, h1, h2, _, rfl⟩ | ⟨hn, rfl⟩⟩
  · rw [lead_row c k hk h1 h2] at h
    simp only [Option.some.injEq, Prod.mk.injEq] at h
    obtain ⟨rfl, rfl, rfl, rfl⟩ := h
    exact ⟨_, _, rfl, hb⟩
  · rw [lead_no c h0 hn] at h
    cases h
theorem begin_no (c : Int) (h : lead c = none) (w : World) (hT : Tab w) : Calls Tryz.prog 122 #[.int .u8 c] w fun e w' => e = .returned (.tuple #[agg6 0 0 0 0 0 0, .bool false]) ∧ Below w.heap.size w w' := by
  obtain ⟨t, fr, hT⟩ := hT
  refine (begin_T tabV (fun k => tb k 0) (fun k => tb k 1) (fun k => tb k 2) (fun k => tb k 3) (fun k => tb k 4) (fun k => tb k 5) c w t fr hT tab_size (fun W k hk => tab_index W k hk)).mono ?_
  rintro e w' ⟨hb, ⟨k, hk, h1, h2, _, rfl⟩ | ⟨hn, rfl⟩⟩
  · rw [lead_row c k hk h1 h2] at h
    cases h
  · exact ⟨rfl, hb⟩
end Go.Proofs.YtlhekeokognhmaaGreatDoor
