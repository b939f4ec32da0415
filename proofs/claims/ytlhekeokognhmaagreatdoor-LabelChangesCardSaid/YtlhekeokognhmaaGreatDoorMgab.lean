/-
  What the rows' list gives: the table's block holds its numbers. And a world in which it does. The last step of every law's row: the call has answered true, and nothing that was there has turned. How an argument that is a slice of strings is opened.
-/
import Derived.Test.YtlhekeokognhmaaGreatDoorCards
import Derived.Test.YtlhekeokognhmaaGreatDoorTie
import Derived.Test.YtlhekeokognhmaaGreatDoorMgaa
import Derived.WalkKit
import Derived.ProofKit
import Derived.OpenShut
import Derived.Deep.DeepHandedRow
import Derived.Lib.LaidTab
import Derived.Below
import Derived.ChangeSame
import Derived.Carry
import Derived.Deep.Strs
namespace Go.Proofs.YtlhekeokognhmaaGreatDoor
open Go.ChangeShapes Go.WideShapes Go.ChangeAt Go.RowKit

theorem gOwn : ownKnob Tryz.prog.godebug = none := by kernel_rfl
theorem gTab : Tryz.prog.globalNamed "gauger/utf.beginnings" = some 1 := by kernel_rfl
theorem gTabType : (Tryz.prog.globals[1]?).map (·.type) = some 166 := by kernel_rfl
theorem cellsB : Tryz.prog.cellsOf 152 = 6 := by kernel_rfl
theorem cellsA : Tryz.prog.cellsOf 166 = 54 := by kernel_rfl
theorem cells1 : Tryz.prog.cellsOf 5 = 1 := by kernel_rfl
theorem cells2 : Tryz.prog.cellsOf 3 = 1 := by kernel_rfl

section
variable {H : Type} {enc : TypeId × Value → H} {w : World} {base : Nat} {sp : Nat → Bool} {held : Bool}
theorem fst_get {α β : Type} {xs : List (α × β)} {l : List α} (h : xs.map (·.1) = l) (i : Nat) {b : α × β} (hb : xs[i]? = some b) : l[i]? = some b.1 := by
  rw [← h, List.getElem?_map, hb]; rfl
theorem int_cell {fuel : Nat} {t : TypeId} {k : IntKind} {v : Value} {n : Int} {b : DataW H × List MemPlace} (ht : Tryz.prog.underlying t = some (.int k)) (h : DataW.trod enc Tryz.prog w base sp held fuel t [v] = some b) (hb : some (DataW.lit (.int k n)) = some b.1) : v = .int k n := by
  obtain ⟨m, h1, rfl, _⟩ := DataW.trod_int ht h
  simp only [Option.some.injEq, DataW.lit.injEq, Lit.int.injEq, true_and] at hb
  subst hb
  exact List.head_eq_of_cons_eq h1
theorem len6 : ∀ cs : List Value, cs.length = 6 → ∃ v0 v1 v2 v3 v4 v5, cs = [v0, v1, v2, v3, v4, v5]
  | [v0, v1, v2, v3, v4, v5], _ => ⟨v0, v1, v2, v3, v4, v5, rfl⟩
/-- A row of the table. -/
theorem row_cells {fuel : Nat} {cs : List Value} {x : DataW H × List MemPlace} (h : DataW.trod enc Tryz.prog w base sp held fuel 152 cs = some x) {a b c d e f : Int}
    (hx : x.1 = .agg [.lit (.int .u8 a), .lit (.int .u8 b), .lit (.int .u8 c), .lit (.int .u8 d), .lit (.int .u8 e), .lit (.int .i64 f)]) : cs = [.int .u8 a, .int .u8 b, .int .u8 c, .int .u8 d, .int .u8 e, .int .i64 f] := by
  cases fuel with
  | zero => simp [DataW.trod] at h
  | succ fuel =>
    simp only [DataW.trod, Tryz.underlying152, cellsB] at h
    split at h
    · rename_i hl
      obtain ⟨v0, v1, v2, v3, v4, v5, rfl⟩ : ∃ v0 v1 v2 v3 v4 v5, cs = [v0, v1, v2, v3, v4, v5] := by
        exact len6 cs (by simpa using hl)
      obtain ⟨xs, hm, rfl⟩ := Option.map_eq_some_iff.1 h
      have hxs := (DataW.agg.injEq _ _).mp hx
      obtain ⟨b0, g0, k0⟩ := Lib.mapM_at hm 0 _ rfl
      obtain ⟨b1, g1, k1⟩ := Lib.mapM_at hm 1 _ rfl
      obtain ⟨b2, g2, k2⟩ := Lib.mapM_at hm 2 _ rfl
      obtain ⟨b3, g3, k3⟩ := Lib.mapM_at hm 3 _ rfl
      obtain ⟨b4, g4, k4⟩ := Lib.mapM_at hm 4 _ rfl
      obtain ⟨b5, g5, k5⟩ := Lib.mapM_at hm 5 _ rfl
      simp only [cells1, cells2] at k0 k1 k2 k3 k4 k5
      rw [int_cell Tryz.underlying5 k0 (fst_get hxs 0 g0), int_cell Tryz.underlying5 k1 (fst_get hxs 1 g1), int_cell Tryz.underlying5 k2 (fst_get hxs 2 g2), int_cell Tryz.underlying5 k3 (fst_get hxs 3 g3), int_cell Tryz.underlying5 k4 (fst_get hxs 4 g4), int_cell Tryz.underlying3 k5 (fst_get hxs 5 g5)]
    · cases h
end
theorem chunks (m : Nat) (n : Nat) (cs : List Value) (h : cs.length = n * m) : ((List.range n).map fun i => (cs.drop (i * m)).take m).flatten = cs := by
  induction n generalizing cs with
  | zero =>
    rw [Nat.zero_mul] at h
    rw [List.eq_nil_of_length_eq_zero h]
    rfl
  | succ n ih =>
    rw [List.range_succ_eq_map, List.map_cons, List.map_map, List.flatten_cons]
    have := ih (cs.drop m) (by rw [List.length_drop, h, Nat.succ_mul]; omega)
    rw [show (List.map ((fun i => (cs.drop (i * m)).take m) ∘ Nat.succ) (List.range n)) = List.map (fun i => ((cs.drop m).drop (i * m)).take m) (List.range n) from List.map_congr_left fun i _ => by
      show (cs.drop ((i + 1) * m)).take m = _
      rw [List.drop_drop, Nat.succ_mul, Nat.add_comm m], this, Nat.zero_mul, List.drop_zero, List.take_append_drop]

/-- WHAT THE ROW's LIST GIVES. -/
theorem tab_of_laid {W : World} (h : laidMet Tryz.prog [("gauger/utf.beginnings", Rows.laid_gauger_utf_beginnings)] W) : Tab W := by
  obtain ⟨ps, ⟨g', t', cs, fuel, p, q, hg', ht', hvar, hd, _, _⟩, _⟩ := h
  obtain rfl := Option.some.inj (gTab.symm.trans hg')
  obtain rfl := Option.some.inj (gTabType.symm.trans ht')
  have hcs : cs.toList = tabV.toList := by
    cases fuel with
    | zero => simp [DataW.trod] at hd
    | succ fuel =>
      simp only [DataW.trod, Tryz.underlying166, cellsB, cellsA] at hd
      split at hd
      · rename_i hl
        obtain ⟨xs, hm, hx⟩ := Option.map_eq_some_iff.1 hd
        have hxs := (DataW.agg.injEq _ _).mp (congrArg Prod.fst hx)
        rw [← chunks 6 9 cs.toList hl]
        have hk : ∀ k, k < 9 → (cs.toList.drop (k * 6)).take 6 = (entV k).toList := by
          intro k hk
          obtain ⟨b, g, kk⟩ := Lib.mapM_at hm k k (by simp [hk])
          have hb := fst_get hxs k g
          rcases (by omega : k = 0 ∨ k = 1 ∨ k = 2 ∨ k = 3 ∨ k = 4 ∨ k = 5 ∨ k = 6 ∨ k = 7 ∨ k = 8) with rfl | rfl | rfl | rfl | rfl | rfl | rfl | rfl | rfl <;>
            exact row_cells kk (Option.some.inj hb).symm
        rw [show tabV.toList = ((List.range 9).map fun k => (entV k).toList).flatten from rfl, List.map_congr_left (fun i hi => hk i (by simpa using hi))]
      · cases hd
  obtain rfl : cs = tabV := Array.toList_inj.1 hcs
  simp only [World.var?, gTab, Option.bind_some] at hvar
  split at hvar
  · rename_i c t fr heq
    obtain rfl := Option.some.inj hvar
    exact ⟨t, fr, heq⟩
  · cases hvar
end Go.Proofs.YtlhekeokognhmaaGreatDoor
namespace Go.Proofs.YtlhekeokognhmaaGreatDoor
open Go.RowKit Go.WideShapes Go.ChangeShapes

theorem laidOut : laidOutB Tryz.prog = true := by kernel_rfl
section
variable {H : Type} {enc : TypeId × Value → H}
/-- What was read reads as it did. -/
theorem trodAll_stays {P : Program} {W W' : World} (hl : laidOutB P = true) (hb : Below W.heap.size W W') (sp : Nat → Bool) : ∀ {ts : List TypeId} {vs : List Value} {ds : List (DataW H)} {ps : List MemPlace},
    (∀ t ∈ ts, P.readableRec t = true ∧ t < P.types.size) → DataW.TrodAll enc P W 0 (fun _ => true) true ts vs ds ps → (∀ x ∈ ps, x.block < W.heap.size) → (∀ x ∈ ps, sp x.block = true) → DataW.TrodAll enc P W' 0 sp true ts vs ds ps
  | [], [], [], _, _, h, _, _ => h
  | t :: ts, v :: vs, d :: ds, ps, hts, h, hlt, hsp => by
    obtain ⟨p, q, h1, h2, rfl⟩ := h
    have ht := hts t (by simp)
    exact ⟨p, q, WideElems.Trod_stays hl ht.1 ht.2 h1 (fun x hx => hb.same (hlt x (by simp [hx]))) (fun x hx => hsp x (by simp [hx])),
      trodAll_stays hl hb sp (fun t ht => hts t (by simp [ht])) h2 (fun x hx => hlt x (by simp [hx])) (fun x hx => hsp x (by simp [hx])), rfl⟩
  | [], _ :: _, _, _, _, h, _, _ => h.elim
  | [], [], _ :: _, _, _, h, _, _ => h.elim
  | _ :: _, [], _, _, _, h, _, _ => h.elim
  | _ :: _, _ :: _, [], _, _, h, _, _ => h.elim

/-- THE LAST STEP. -/
theorem law_post {f : Func} {s : ChangeSpec} {W W' : World} {args : Array Value} {ds : List (DataW H)} {before : List MemPlace} (hrt : f.resultTypes = #[4]) (hsv : s.vars = [])
    (hts : ∀ t ∈ f.params.toList, Tryz.prog.readableRec t = true ∧ t < Tryz.prog.types.size)
    (hW : DataW.Whole enc Tryz.prog f.params.toList s.vars false W args.toList ds [] before) (hfn : s.fn H (ds ++ []) = { results := [.lit (.bool true)], args := ds })
    (hb : Below W.heap.size W W') : s.post enc Tryz.prog f false true false false W args (.bool true) W' := by
  have hlt : ∀ p ∈ before, p.block < W.heap.size := fun p hp => hW.lt p hp
  obtain ⟨p, q, hA, hV, rfl, hfz, hnd⟩ := hW
  have hW : DataW.Whole enc Tryz.prog f.params.toList s.vars false W args.toList ds [] (p ++ q) := ⟨p, q, hA, hV, rfl, hfz, hnd⟩
  rw [hsv] at hV
  obtain rfl : q = [] := hV
  refine ⟨ds, [], p ++ [], [], p, [], hW, ?_, ?_, ?_, World.keptBut_mono (fun x hx => ⟨hx, Or.inr (by simpa using hx)⟩) (hb.frame (· ∈ p ++ [])), fun h => by cases h⟩
  · rw [hfn, hrt]
    exact trodAll_cons_mk (shut_bool Tryz.underlying4 _) trodAll_mk0
  · rw [hfn]
    exact trodAll_stays laidOut hb _ hts hA (fun x hx => hlt x (by simp [hx])) (fun x hx => by simpa using hlt x (by simp [hx]))
  · rw [hfn, hsv]
    rfl
end
end Go.Proofs.YtlhekeokognhmaaGreatDoor
namespace Go.Proofs.YtlhekeokognhmaaGreatDoor
open Go.ChangeShapes Go.WideShapes Go.ChangeAt Go.RowKit Go.WideMaps Go.WideElems
section
variable {H : Type} {enc : TypeId × Value → H} {W : World} {base : Nat}
set_option maxRecDepth 100000 in
theorem open_strs {t e : TypeId} {v : Value} {d : DataW H} {p : List MemPlace} (ht : Tryz.prog.underlying t = some (.slice e)) (he : Tryz.prog.underlying e = some .string) (hc : Tryz.prog.cellsOf e = 1)
    (hval : Value.okWide Tryz.prog W .any base t v) (hd : DataW.Trod enc Tryz.prog W 0 (fun _ => true) true t v d p) :
    ∃ (A : Option Addr) (n c : Nat) (ls : List ByteArray), v = .slice A n c ∧ n ≤ c ∧ c ≤ maxLen ∧ Rd W W.heap.size A n (strs ls) ∧ (∀ s ∈ ls, s.size ≤ 9223372036854775807) := by
  obtain ⟨a0, len, cap, rfl⟩ := okWide_slice ht hval
  obtain ⟨fuel, hf⟩ := hd
  rcases Go.Deep.open_strs ht he hc hf with ⟨hcs, hx⟩ | ⟨a, len', cap', m, Sx, hcs, _, hl, hm, hmm, hx, hcell⟩
  · have e : Value.slice a0 len cap = .slice none 0 0 := List.head_eq_of_cons_eq (show [Value.slice a0 len cap] = [Value.slice none 0 0] from hcs)
    injection e with e1 e2 e3
    subst e1 e2 e3
    exact ⟨none, 0, 0, [], rfl, Nat.le_refl _, by simp [maxLen], Rd.nil, (fun _ h => by cases h)⟩
  · have e : Value.slice a0 len cap = .slice (some a) len' cap' := List.head_eq_of_cons_eq (show [Value.slice a0 len cap] = [Value.slice (some a) len' cap'] from hcs)
    injection e with e1 e2 e3
    subst e1 e2 e3
    simp only [if_true] at hmm
    subst hmm
    refine ⟨some a, len, m, (List.range len).map Sx, rfl, hl, hm, ⟨by simp [strs], fun hn => ⟨a, rfl, ?_, ?_⟩⟩, ?_⟩
    · have h0 := (hcell 0 (by omega)).1
      have ha : a.add 0 = a := by unfold Addr.add; simp
      rw [ha] at h0
      unfold World.cell? at h0
      rcases Nat.lt_or_ge a.block W.heap.size with h1 | h1
      · exact h1
      · rw [Array.getElem?_eq_none h1] at h0; cases h0
    · intro j u hu
      have hj : j < len := by
        have := (List.getElem?_eq_some_iff.1 hu).1
        simpa [strs] using this
      rw [(hcell j (by omega)).1, ← hu]
      simp [strs, hj]
    · intro s hs
      obtain ⟨j, hj, rfl⟩ := List.mem_map.1 hs
      have := (hcell j (by have := List.mem_range.1 hj; omega)).2
      unfold maxLen at this
      omega
end
end Go.Proofs.YtlhekeokognhmaaGreatDoor
