/-
  What begin of package utf computes: the first row of its table whose range of first bytes has the byte. What the rows' list gives: the table's block holds its numbers. And a world in which it does. The last step of every law's row: the call has answered true, and nothing that was there has turned.
-/
import Derived.Test.YtlhekeokognhmaaDoorMgaa
import Derived.ProofKit
import Derived.Lib.LaidTab
import Derived.Laws.ResultCell
import Derived.Test.YtlhekeokognhmaaDoorCards
import Derived.Test.YtlhekeokognhmaaDoorTie
import Derived.WalkKit
import Derived.OpenShut
import Derived.Deep.DeepHandedRow
import Derived.Below
import Derived.ChangeSame
import Derived.Carry
namespace Go.Proofs.YtlhekeokognhmaaDoor
open Go.RowKit Mt

/-- The table as rows of numbers. -/
def tabRows : List (List Int) := [[0, 127, 0, 0, 0, 1], [194, 223, 192, 128, 191, 2], [224, 224, 224, 160, 191, 3], [225, 236, 224, 128, 191, 3], [237, 237, 224, 128, 159, 3], [238, 239, 224, 128, 191, 3], [240, 240, 240, 144, 191, 4], [241, 243, 240, 128, 191, 4], [244, 244, 240, 128, 143, 4]]
def tb (k j : Nat) : Int := (tabRows.getD k []).getD j 0
def entV (k : Nat) : Array Value := #[.int .u8 (tb k 0), .int .u8 (tb k 1), .int .u8 (tb k 2), .int .u8 (tb k 3), .int .u8 (tb k 4), .int .i64 (tb k 5)]
def tabV : Array Value := ((List.range 9).map fun k => (entV k).toList).flatten.toArray
/-- The table lies where its variable is. -/
def Tab (w : World) : Prop := ∃ t fr, w.heap[1]? = some (.cells tabV t fr)
theorem Tab.below {w w' : World} (h : Tab w) (hb : Below w.heap.size w w') : Tab w' := by
  obtain ⟨t, fr, h⟩ := h
  exact ⟨t, fr, (hb.block _ (Array.getElem?_eq_some_iff.1 h).1).trans h⟩
theorem tab_index (w : World) (k : Nat) (hk : k < 9) : (Instr.index 156 (.agg tabV) (.int .i64 (k : Int))).run Tryd.prog w = .ok (.agg (entV k)) w := by
  rcases (by omega : k = 0 ∨ k = 1 ∨ k = 2 ∨ k = 3 ∨ k = 4 ∨ k = 5 ∨ k = 6 ∨ k = 7 ∨ k = 8) with rfl | rfl | rfl | rfl | rfl | rfl | rfl | rfl | rfl <;> kernel_rfl
theorem tab_size : (Tryd.prog.info? 156).map (·.size) = some tabV.size := by kernel_rfl

set_option maxRecDepth 100000 in
set_option maxHeartbeats 400000 in
theorem begin_T (T : Array Value) (f l m lo hi s : Nat → Int) (c : Int) (w : World) (t : TypeId) (fr : Nat × Nat) (hT : w.heap[1]? = some (.cells T t fr)) (hsz : (Tryd.prog.info? 156).map (·.size) = some T.size)
    (hidx : ∀ (W : World) (k : Nat), k < 9 → (Instr.index 156 (.agg T) (.int .i64 (k : Int))).run Tryd.prog W = .ok (.agg #[.int .u8 (f k), .int .u8 (l k), .int .u8 (m k), .int .u8 (lo k), .int .u8 (hi k), .int .i64 (s k)]) W) :
    Calls Tryd.prog 107 #[.int .u8 c] w fun e w' => Below w.heap.size w w' ∧ 
      ((∃ k, k < 9 ∧ f k ≤ c ∧ c ≤ l k ∧ (∀ j, j < k → ¬ (f j ≤ c ∧ c ≤ l j)) ∧ e = .returned (.tuple #[.agg #[.int .u8 (f k), .int .u8 (l k), .int .u8 (m k), .int .u8 (lo k), .int .u8 (hi k), .int .i64 (s k)], .bool true])) ∨
       ((∀ j, j < 9 → ¬ (f j ≤ c ∧ c ≤ l j)) ∧ e = .returned (.tuple #[.agg #[.int .u8 0, .int .u8 0, .int .u8 0, .int .u8 0, .int .u8 0, .int .i64 0], .bool false]))) := by
  have hs80 : (Tryd.prog.info? 142).map (·.size) = some 6 := by kernel_rfl
  have Hs80 := Lib.hid hs80
  clear hs80
  go_enter Tryd.func107, Tryd.ntmps107
  have hlt : 1 < w.heap.size := (Array.getElem?_eq_some_iff.1 hT).1
  go_wp2_with ((refine wpList_load_row ?c0 156 (.global 1) ?c1 1 ?c2 t T fr _ ((Below.heap_alloc w _ _ hlt).trans hT) Tryd.underlying156 ?c3 hsz ?_); (case c0 => with_reducible rfl); (case c1 => with_reducible rfl); (case c2 => rfl); (case c3 => rfl))
  go_loopw [7] (fun i wr => ∃ k : Nat, k ≤ 9 ∧ i = .int .i64 k ∧ Below w.heap.size w wr ∧ wr.heap[w.heap.size]? = some (.cells #[.int .u8 0, .int .u8 0, .int .u8 0, .int .u8 0, .int .u8 0, .int .i64 0] 142 (0, 0)) ∧ ∀ j, j < k → ¬ (f j ≤ c ∧ c ≤ l j)) (fun i _ => 9 - (intOf i).toNat)
  case atStart => exact ⟨0, by omega, rfl, (Below.refl _ _).alloc (Nat.le_refl _) _, heap_alloc_new w _, fun j hj => absurd hj (by omega)⟩
  case round =>
    obtain ⟨k, hk, rfl, hb, hr, hm⟩ := hrel
    have Hm := Lib.hid hm
    clear hm
    have hz : w.heap.size < wr.heap.size := (Array.getElem?_eq_some_iff.1 hr).1
    by_cases hlt9 : k < 9
    · have Hr := Lib.hid hr
      clear hr
      by_cases h1 : f k ≤ c
      · by_cases h2 : c ≤ l k
        · go_wp2_with ((refine wpList_store_row ?c0 142 (.tmp 2) (.tmp 20) ?c1 w.heap.size #[.int .u8 (f k), .int .u8 (l k), .int .u8 (m k), .int .u8 (lo k), .int .u8 (hi k), .int .i64 (s k)] ?c2 ?c3 _ _ ((Below.heap_alloc wr _ _ hz).trans Hr.out) ?c4 ?c5 ?c6 ?_); (case c0 => with_reducible rfl); (case c1 => with_reducible rfl); (case c2 => rfl); (case c3 => rfl); (case c4 => exact Hs80.out); (case c5 => rfl); (case c6 => simp [Value.oneCell']))
          refine bodyPost_ret (results_row_tmp Tryd.results107 _ _ w.heap.size _ #[.int .u8 (f k), .int .u8 (l k), .int .u8 (m k), .int .u8 (lo k), .int .u8 (hi k), .int .i64 (s k)] _ _ rfl (setRow_heap _ _ _ _ _ _ ((Below.heap_alloc wr _ _ hz).trans Hr.out)) Tryd.underlying142 rfl (by exact Hs80.out)) rfl ?_
          exact ⟨below_setRow (hb.alloc (by omega) _) (Nat.le_refl _) _, Or.inl ⟨k, hlt9, h1, h2, Hm.out, rfl⟩⟩
        · go_wp2
          go_roundw
          case rel => exact ⟨k + 1, by omega, by go_num, hb.alloc (by omega) _, (Below.heap_alloc wr _ _ hz).trans Hr.out, fun j hj hc => by
            rcases Nat.lt_or_eq_of_le (Nat.le_of_lt_succ hj) with h | rfl
            · exact Hm.out j h hc
            · exact h2 hc.2⟩
          case measure => simp [intOf]; omega
      · go_wp2
        go_roundw
        case rel => exact ⟨k + 1, by omega, by go_num, hb.alloc (by omega) _, (Below.heap_alloc wr _ _ hz).trans Hr.out, fun j hj hc => by
            rcases Nat.lt_or_eq_of_le (Nat.le_of_lt_succ hj) with h | rfl
            · exact Hm.out j h hc
            · exact h1 hc.1⟩
        case measure => simp [intOf]; omega
    · obtain rfl : k = 9 := by omega
      have Hr := Lib.hid hr
      clear hr
      go_wp2_with ((refine wpList_store_row ?c0 142 (.tmp 2) (.tmp 22) ?c1 w.heap.size #[.int .u8 0, .int .u8 0, .int .u8 0, .int .u8 0, .int .u8 0, .int .i64 0] ?c2 ?c3 _ _ Hr.out ?c4 ?c5 ?c6 ?_); (case c0 => with_reducible rfl); (case c1 => with_reducible rfl); (case c2 => rfl); (case c3 => rfl); (case c4 => exact Hs80.out); (case c5 => rfl); (case c6 => simp [Value.oneCell']))
      refine bodyPost_ret (results_row_tmp Tryd.results107 _ _ w.heap.size _ #[.int .u8 0, .int .u8 0, .int .u8 0, .int .u8 0, .int .u8 0, .int .i64 0] _ _ rfl (setRow_heap _ _ _ _ _ _ Hr.out) Tryd.underlying142 rfl (by exact Hs80.out)) rfl ?_
      exact ⟨below_setRow hb (Nat.le_refl _) _, Or.inr ⟨Hm.out, rfl⟩⟩

def agg6 (a b c d e f : Int) : Value := .agg #[.int .u8 a, .int .u8 b, .int .u8 c, .int .u8 d, .int .u8 e, .int .i64 f]
theorem lead_row (c : Int) (k : Nat) (hk : k < 9) (h1 : tb k 0 ≤ c) (h2 : c ≤ tb k 1) : lead c = some (tb k 2, tb k 3, tb k 4, tb k 5) := by
  rcases (by omega : k = 0 ∨ k = 1 ∨ k = 2 ∨ k = 3 ∨ k = 4 ∨ k = 5 ∨ k = 6 ∨ k = 7 ∨ k = 8) with rfl | rfl | rfl | rfl | rfl | rfl | rfl | rfl | rfl <;>
    (simp only [tb, tabRows, List.getD_cons_zero, List.getD_cons_succ] at h1 h2 ⊢; unfold lead; repeat (first | rw [if_pos (by omega)] | rw [if_neg (by omega)]))
theorem lead_no (c : Int) (h0 : 0 ≤ c) (h : ∀ j, j < 9 → ¬ (tb j 0 ≤ c ∧ c ≤ tb j 1)) : lead c = none := by
  have a0 := h 0 (by omega); have a1 := h 1 (by omega); have a2 := h 2 (by omega); have a3 := h 3 (by omega); have a4 := h 4 (by omega); have a5 := h 5 (by omega); have a6 := h 6 (by omega); have a7 := h 7 (by omega); have a8 := h 8 (by omega)
  simp only [tb, tabRows, List.getD_cons_zero, List.getD_cons_succ] at a0 a1 a2 a3 a4 a5 a6 a7 a8
  unfold lead
  by_cases hc : c ≤ 193
  · rw [if_neg (by omega), if_pos hc]
  · repeat (first | rw [if_pos (by omega)] | rw [if_neg (by omega)])
/-- Some row's first and last byte, and what the row has in common. -/
def BegYes (m lo hi n : Int) (w : World) (e : Ending) (w' : World) : Prop :=
  ∃ a b, e = .returned (.tuple #[agg6 a b m lo hi n, .bool true]) ∧ Below w.heap.size w w'
theorem begin_yes (c m lo hi n : Int) (h0 : 0 ≤ c) (h : lead c = some (m, lo, hi, n)) (w : World) (hT : Tab w) : Calls Tryd.prog 107 #[.int .u8 c] w (BegYes m lo hi n w) := by
  obtain ⟨t, fr, hT⟩ := hT
  refine (begin_T tabV (fun k => tb k 0) (fun k => tb k 1) (fun k => tb k 2) (fun k => tb k 3) (fun k => tb k 4) (fun k => tb k 5) c w t fr hT tab_size (fun W k hk => tab_index W k hk)).mono ?_
  rintro e w' ⟨hb, ⟨k, hk, h1, h2, _, rfl⟩ | ⟨hn, rfl⟩⟩
  · rw [lead_row c k hk h1 h2] at h
    simp only [Option.some.injEq, Prod.mk.injEq] at h
    obtain ⟨rfl, rfl, rfl, rfl⟩ := h
    exact ⟨_, _, rfl, hb⟩
  · rw [lead_no c h0 hn] at h
    cases h
theorem begin_no (c : Int) (h : lead c = none) (w : World) (hT : Tab w) : Calls Tryd.prog 107 #[.int .u8 c] w fun e w' => e = .returned (.tuple #[agg6 0 0 0 0 0 0, .bool false]) ∧ Below w.heap.size w w' := by
  obtain ⟨t, fr, hT⟩ := hT
  refine (begin_T tabV (fun k => tb k 0) (fun k => tb k 1) (fun k => tb k 2) (fun k => tb k 3) (fun k => tb k 4) (fun k => tb k 5) c w t fr hT tab_size (fun W k hk => tab_index W k hk)).mono ?_
  rintro e w' ⟨hb, ⟨k, hk, h1, h2, _, rfl⟩ | ⟨hn, rfl⟩⟩
  · rw [lead_row c k hk h1 h2] at h
    cases h
  · exact ⟨rfl, hb⟩
end Go.Proofs.YtlhekeokognhmaaDoor
namespace Go.Proofs.YtlhekeokognhmaaDoor
open Go.ChangeShapes Go.WideShapes Go.ChangeAt Go.RowKit

theorem gOwn : ownKnob Tryd.prog.godebug = none := by kernel_rfl
theorem gTab : Tryd.prog.globalNamed "gauger/utf.beginnings" = some 1 := by kernel_rfl
theorem gTabType : (Tryd.prog.globals[1]?).map (·.type) = some 156 := by kernel_rfl
theorem cellsB : Tryd.prog.cellsOf 142 = 6 := by kernel_rfl
theorem cellsA : Tryd.prog.cellsOf 156 = 54 := by kernel_rfl
theorem cells1 : Tryd.prog.cellsOf 5 = 1 := by kernel_rfl
theorem cells2 : Tryd.prog.cellsOf 3 = 1 := by kernel_rfl

section
variable {H : Type} {enc : TypeId × Value → H} {w : World} {base : Nat} {sp : Nat → Bool} {held : Bool}
theorem fst_get {α β : Type} {xs : List (α × β)} {l : List α} (h : xs.map (·.1) = l) (i : Nat) {b : α × β} (hb : xs[i]? = some b) : l[i]? = some b.1 := by
  rw [← h, List.getElem?_map, hb]; rfl
theorem int_cell {fuel : Nat} {t : TypeId} {k : IntKind} {v : Value} {n : Int} {b : DataW H × List MemPlace} (ht : Tryd.prog.underlying t = some (.int k)) (h : DataW.trod enc Tryd.prog w base sp held fuel t [v] = some b) (hb : some (DataW.lit (.int k n)) = some b.1) : v = .int k n := by
  obtain ⟨m, h1, rfl, _⟩ := DataW.trod_int ht h
  simp only [Option.some.injEq, DataW.lit.injEq, Lit.int.injEq, true_and] at hb
  subst hb
  exact List.head_eq_of_cons_eq h1
theorem len6 : ∀ cs : List Value, cs.length = 6 → ∃ v0 v1 v2 v3 v4 v5, cs = [v0, v1, v2, v3, v4, v5]
  | [v0, v1, v2, v3, v4, v5], _ => ⟨v0, v1, v2, v3, v4, v5, rfl⟩
/-- A row of the table. -/
theorem row_cells {fuel : Nat} {cs : List Value} {x : DataW H × List MemPlace} (h : DataW.trod enc Tryd.prog w base sp held fuel 142 cs = some x) {a b c d e f : Int}
    (hx : x.1 = .agg [.lit (.int .u8 a), .lit (.int .u8 b), .lit (.int .u8 c), .lit (.int .u8 d), .lit (.int .u8 e), .lit (.int .i64 f)]) : cs = [.int .u8 a, .int .u8 b, .int .u8 c, .int .u8 d, .int .u8 e, .int .i64 f] := by
  cases fuel with
  | zero => simp [DataW.trod] at h
  | succ fuel =>
    simp only [DataW.trod, Tryd.underlying142, cellsB] at h
    split at h
    · rename_i hl
      obtain ⟨v0, v1, v2, v3, v4, v5, rfl⟩ : ∃ v0 v1 v2 v3 v4 v5, cs = [v0, v1, v2, v3, v4, v5] := by
        exact len6 cs (by simpa using hl)
      obtain ⟨xs, hm, rfl⟩ := Option.map_eq_some_iff.1 h
      have hxs := (DataW.agg.injEq _ _).mp hx
      obtain ⟨b0, g0, k0⟩ := Lib.mapM_at hm 0 _ rfl
      obtain ⟨b1, g1, k1⟩ := Lib.mapM_at hm 1 _ rfl
      obtain ⟨b2, g2, k2⟩ := Lib.mapM_at hm 2 _ rfl
      obtain ⟨b3, g3, k3⟩ := Lib.mapM_at hm 3 _ rfl
      obtain ⟨b4, g4, k4⟩ := Lib.mapM_at hm 4 _ rfl
      obtain ⟨b5, g5, k5⟩ := Lib.mapM_at hm 5 _ rfl
      simp only [cells1, cells2] at k0 k1 k2 k3 k4 k5
      rw [int_cell Tryd.underlying5 k0 (fst_get hxs 0 g0), int_cell Tryd.underlying5 k1 (fst_get hxs 1 g1), int_cell Tryd.underlying5 k2 (fst_get hxs 2 g2), int_cell Tryd.underlying5 k3 (fst_get hxs 3 g3), int_cell Tryd.underlying5 k4 (fst_get hxs 4 g4), int_cell Tryd.underlying3 k5 (fst_get hxs 5 g5)]
    · cases h
end
theorem chunks (m : Nat) (n : Nat) (cs : List Value) (h : cs.length = n * m) : ((List.range n).map fun i => (cs.drop (i * m)).take m).flatten = cs := by
  induction n generalizing cs with
  | zero =>
    rw [Nat.zero_mul] at h
    rw [List.eq_nil_of_length_eq_zero h]
    rfl
  | succ n ih =>
    rw [List.range_succ_eq_map, List.map_cons, List.map_map, List.flatten_cons]
    have := ih (cs.drop m) (by rw [List.length_drop, h, Nat.succ_mul]; omega)
    rw [show (List.map ((fun i => (cs.drop (i * m)).take m) ∘ Nat.succ) (List.range n)) = List.map (fun i => ((cs.drop m).drop (i * m)).take m) (List.range n) from List.map_congr_left fun i _ => by
      show (cs.drop ((i + 1) * m)).take m = _
      rw [List.drop_drop, Nat.succ_mul, Nat.add_comm m], this, Nat.zero_mul, List.drop_zero, List.take_append_drop]

/-- WHAT THE ROW's LIST GIVES. -/
theorem tab_of_laid {W : World} (h : laidMet Tryd.prog [("gauger/utf.beginnings", Rows.laid_gauger_utf_beginnings)] W) : Tab W := by
  obtain ⟨ps, ⟨g', t', cs, fuel, p, q, hg', ht', hvar, hd, _, _⟩, _⟩ := h
  obtain rfl := Option.some.inj (gTab.symm.trans hg')
  obtain rfl := Option.some.inj (gTabType.symm.trans ht')
  have hcs : cs.toList = tabV.toList := by
    cases fuel with
    | zero => simp [DataW.trod] at hd
    | succ fuel =>
      simp only [DataW.trod, Tryd.underlying156, cellsB, cellsA] at hd
      split at hd
      · rename_i hl
        obtain ⟨xs, hm, hx⟩ := Option.map_eq_some_iff.1 hd
        have hxs := (DataW.agg.injEq _ _).mp (congrArg Prod.fst hx)
        rw [← chunks 6 9 cs.toList hl]
        have hk : ∀ k, k < 9 → (cs.toList.drop (k * 6)).take 6 = (entV k).toList := by
          intro k hk
          obtain ⟨b, g, kk⟩ := Lib.mapM_at hm k k (by simp [hk])
          have hb := fst_get hxs k g
          rcases (by omega : k = 0 ∨ k = 1 ∨ k = 2 ∨ k = 3 ∨ k = 4 ∨ k = 5 ∨ k = 6 ∨ k = 7 ∨ k = 8) with rfl | rfl | rfl | rfl | rfl | rfl | rfl | rfl | rfl <;>
            exact row_cells kk (Option.some.inj hb).symm
        rw [show tabV.toList = ((List.range 9).map fun k => (entV k).toList).flatten from rfl, List.map_congr_left (fun i hi => hk i (by simpa using hi))]
      · cases hd
  obtain rfl : cs = tabV := Array.toList_inj.1 hcs
  simp only [World.var?, gTab, Option.bind_some] at hvar
  split at hvar
  · rename_i c t fr heq
    obtain rfl := Option.some.inj hvar
    exact ⟨t, fr, heq⟩
  · cases hvar
end Go.Proofs.YtlhekeokognhmaaDoor
namespace Go.Proofs.YtlhekeokognhmaaDoor
open Go.RowKit Go.WideShapes Go.ChangeShapes

theorem laidOut : laidOutB Tryd.prog = true := by kernel_rfl
section
variable {H : Type} {enc : TypeId × Value → H}
/-- What was read reads as it did. -/
theorem trodAll_stays {P : Program} {W W' : World} (hl : laidOutB P = true) (hb : Below W.heap.size W W') (sp : Nat → Bool) : ∀ {ts : List TypeId} {vs : List Value} {ds : List (DataW H)} {ps : List MemPlace},
    (∀ t ∈ ts, P.readableRec t = true ∧ t < P.types.size) → DataW.TrodAll enc P W 0 (fun _ => true) true ts vs ds ps → (∀ x ∈ ps, x.block < W.heap.size) → (∀ x ∈ ps, sp x.block = true) → DataW.TrodAll enc P W' 0 sp true ts vs ds ps
  | [], [], [], _, _, h, _, _ => h
  | t :: ts, v :: vs, d :: ds, ps, hts, h, hlt, hsp => by
    obtain ⟨p, q, h1, h2, rfl⟩ := h
    have ht := hts t (by simp)
    exact ⟨p, q, WideElems.Trod_stays hl ht.1 ht.2 h1 (fun x hx => hb.same (hlt x (by simp [hx]))) (fun x hx => hsp x (by simp [hx])),
      trodAll_stays hl hb sp (fun t ht => hts t (by simp [ht])) h2 (fun x hx => hlt x (by simp [hx])) (fun x hx => hsp x (by simp [hx])), rfl⟩
  | [], _ :: _, _, _, _, h, _, _ => h.elim
  | [], [], _ :: _, _, _, h, _, _ => h.elim
  | _ :: _, [], _, _, _, h, _, _ => h.elim
  | _ :: _, _ :: _, [], _, _, h, _, _ => h.elim

/-- THE LAST STEP. -/
theorem law_post {f : Func} {s : ChangeSpec} {W W' : World} {args : Array Value} {ds : List (DataW H)} {before : List MemPlace} (hrt : f.resultTypes = #[4]) (hsv : s.vars = [])
    (hts : ∀ t ∈ f.params.toList, Tryd.prog.readableRec t = true ∧ t < Tryd.prog.types.size)
    (hW : DataW.Whole enc Tryd.prog f.params.toList s.vars false W args.toList ds [] before) (hfn : s.fn H (ds ++ []) = { results := [.lit (.bool true)], args := ds })
    (hb : Below W.heap.size W W') : s.post enc Tryd.prog f false true false false W args (.bool true) W' := by
  have hlt : ∀ p ∈ before, p.block < W.heap.size := fun p hp => hW.lt p hp
  obtain ⟨p, q, hA, hV, rfl, hfz, hnd⟩ := hW
  have hW : DataW.Whole enc Tryd.prog f.params.toList s.vars false W args.toList ds [] (p ++ q) := ⟨p, q, hA, hV, rfl, hfz, hnd⟩
  rw [hsv] at hV
  obtain rfl : q = [] := hV
  refine ⟨ds, [], p ++ [], [], p, [], hW, ?_, ?_, ?_, World.keptBut_mono (fun x hx => ⟨hx, Or.inr (by simpa using hx)⟩) (hb.frame (· ∈ p ++ [])), fun h => by cases h⟩
  · rw [hfn, hrt]
    exact trodAll_cons_mk (shut_bool Tryd.underlying4 _) trodAll_mk0
  · rw [hfn]
    exact trodAll_stays laidOut hb _ hts hA (fun x hx => hlt x (by simp [hx])) (fun x hx => by simpa using hlt x (by simp [hx]))
  · rw [hfn, hsv]
    rfl
end
end Go.Proofs.YtlhekeokognhmaaDoor
