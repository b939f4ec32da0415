/-
  What the rows' lists give: the two tables of package md5 hold their numbers.
-/
import Derived.Test.YtlgdbhebcglkoaaDoorCards
import Derived.Test.YtlgdbhebcglkoaaDoorTie
import Derived.Test.YtlgdbhebcglkoaaDoorMdC
import Derived.Test.YtlgdbhebcglkoaaDoorOpen0
import Derived.WalkKit
import Derived.ProofKit
import Derived.OpenShut
import Derived.Deep.DeepHandedRow
import Derived.Lib.LaidTab
namespace Go.Proofs.YtlgdbhebcglkoaaDoor
open Go.ChangeShapes Go.WideShapes Go.ChangeAt Go.RowKit

theorem gTabK : Tryd.prog.globalNamed "gauger/md5.constants" = some 0 := by kernel_rfl
theorem gTypeK : (Tryd.prog.globals[0]?).map (·.type) = some 92 := by kernel_rfl
theorem gTabR : Tryd.prog.globalNamed "gauger/md5.rotations" = some 1 := by kernel_rfl
theorem gTypeR : (Tryd.prog.globals[1]?).map (·.type) = some 94 := by kernel_rfl
theorem cellsK : Tryd.prog.cellsOf 92 = 64 := by kernel_rfl
theorem cellsR : Tryd.prog.cellsOf 94 = 16 := by kernel_rfl
theorem cellsQ : Tryd.prog.cellsOf 93 = 4 := by kernel_rfl
theorem cells1 : Tryd.prog.cellsOf 22 = 1 := by kernel_rfl
theorem cells2 : Tryd.prog.cellsOf 3 = 1 := by kernel_rfl

section
variable {H : Type} {enc : TypeId × Value → H} {w : World} {base : Nat} {sp : Nat → Bool} {held : Bool}
theorem fst_get {α β : Type} {xs : List (α × β)} {l : List α} (h : xs.map (·.1) = l) (i : Nat) {b : α × β} (hb : xs[i]? = some b) : l[i]? = some b.1 := by
  rw [← h, List.getElem?_map, hb]; rfl
theorem int_cell {fuel : Nat} {t : TypeId} {k : IntKind} {v : Value} {n : Int} {b : DataW H × List MemPlace} (ht : Tryd.prog.underlying t = some (.int k)) (h : DataW.trod enc Tryd.prog w base sp held fuel t [v] = some b) (hb : some (DataW.lit (.int k n)) = some b.1) : v = .int k n := by
  obtain ⟨m, h1, rfl, _⟩ := DataW.trod_int ht h
  simp only [Option.some.injEq, DataW.lit.injEq, Lit.int.injEq, true_and] at hb
  subst hb
  exact List.head_eq_of_cons_eq h1
/-- A row of numbers. -/
theorem ints_cells {fuel : Nat} {t e : TypeId} {k : IntKind} {n : Nat} (ht : Tryd.prog.underlying t = some (.array n e)) (he : Tryd.prog.underlying e = some (.int k)) (hc : Tryd.prog.cellsOf t = n) (hc1 : Tryd.prog.cellsOf e = 1)
    {cs : List Value} {x : DataW H × List MemPlace} (h : DataW.trod enc Tryd.prog w base sp held fuel t cs = some x) (ns : List Int) (hns : ns.length = n)
    (hx : x.1 = .agg (ns.map fun m => .lit (.int k m))) : cs = ns.map (Value.int k) := by
  cases fuel with
  | zero => simp [DataW.trod] at h
  | succ fuel =>
    simp only [DataW.trod, ht, hc, hc1] at h
    split at h
    · rename_i hl
      obtain ⟨xs, hm, hxs0⟩ := Option.map_eq_some_iff.1 h
      subst hxs0
      have hxs := (DataW.agg.injEq _ _).mp hx
      apply List.ext_getElem?
      intro i
      by_cases hi : i < n
      · obtain ⟨b, g, kk⟩ := Lib.mapM_at hm i i (by simp [hi])
        have hb := fst_get hxs i g
        rw [List.getElem?_map, List.getElem?_eq_getElem (by omega), Option.map_some] at hb
        have hl' : cs.length = n := by simpa using hl
        have hdt : (cs.drop (i * 1)).take 1 = [cs[i]] := by
          rw [Nat.mul_one, List.drop_eq_getElem_cons (by omega)]
          rfl
        rw [hdt] at kk
        rw [List.getElem?_eq_getElem (by omega), List.getElem?_map, List.getElem?_eq_getElem (by omega), Option.map_some, int_cell he kk hb]
      · have hl' : cs.length = n := by simpa using hl
        rw [List.getElem?_eq_none (by omega), List.getElem?_eq_none (by simp; omega)]
    · cases h
end
theorem chunks (m : Nat) (n : Nat) (cs : List Value) (h : cs.length = n * m) : ((List.range n).map fun i => (cs.drop (i * m)).take m).flatten = cs := by
  induction n generalizing cs with
  | zero =>
    rw [Nat.zero_mul] at h
    rw [List.eq_nil_of_length_eq_zero h]
    rfl
  | succ n ih =>
    rw [List.range_succ_eq_map, List.map_cons, List.map_map, List.flatten_cons]
    have := ih (cs.drop m) (by rw [List.length_drop, h, Nat.succ_mul]; omega)
    rw [show (List.map ((fun i => (cs.drop (i * m)).take m) ∘ Nat.succ) (List.range n)) = List.map (fun i => ((cs.drop m).drop (i * m)).take m) (List.range n) from List.map_congr_left fun i _ => by
      show (cs.drop ((i + 1) * m)).take m = _
      rw [List.drop_drop, Nat.succ_mul, Nat.add_comm m], this, Nat.zero_mul, List.drop_zero, List.take_append_drop]
theorem var_block {W : World} {n : String} {g : Nat} (hg : Tryd.prog.globalNamed n = some g) {cs : Array Value} (h : W.var? Tryd.prog n = some cs) : ∃ t fr, W.heap[g]? = some (.cells cs t fr) := by
  simp only [World.var?, hg, Option.bind_some] at h
  split at h
  · rename_i c t fr heq
    obtain rfl := Option.some.inj h
    exact ⟨t, fr, heq⟩
  · cases h
/-- WHAT THE ROWS' LIST GIVES. -/
theorem tab_of_laid {W : World} (h : laidMet Tryd.prog [("gauger/md5.constants", Rows.laid_gauger_md5_constants), ("gauger/md5.rotations", Rows.laid_gauger_md5_rotations)] W) : Tab W := by
  obtain ⟨ps, ⟨g1, t1, cs1, f1, p1, q1, hg1, ht1, hv1, hd1, ⟨g2, t2, cs2, f2, p2, q2, hg2, ht2, hv2, hd2, _, _⟩, _⟩, _⟩ := h
  obtain rfl := Option.some.inj (gTabK.symm.trans hg1)
  obtain rfl := Option.some.inj (gTypeK.symm.trans ht1)
  obtain rfl := Option.some.inj (gTabR.symm.trans hg2)
  obtain rfl := Option.some.inj (gTypeR.symm.trans ht2)
  have e1 : cs1.toList = kV.toList := by
    rw [ints_cells Tryd.underlying92 Tryd.underlying22 cellsK cells1 hd1 (Kl.map fun (n : Nat) => (n : Int)) (by decide) (by rfl)]
    kernel_rfl
  have e2 : cs2.toList = rV.toList := by
    cases f2 with
    | zero => simp [DataW.trod] at hd2
    | succ f2 =>
      simp only [DataW.trod, Tryd.underlying94, cellsR, cellsQ] at hd2
      split at hd2
      · rename_i hl
        obtain ⟨xs, hm, hx⟩ := Option.map_eq_some_iff.1 hd2
        have hxs := (DataW.agg.injEq _ _).mp (congrArg Prod.fst hx)
        rw [← chunks 4 4 cs2.toList hl]
        have hk : ∀ k, k < 4 → (cs2.toList.drop (k * 4)).take 4 = ((Rl.drop (k * 4)).take 4).map fun (n : Nat) => Value.int .i64 (n : Int) := by
          intro k hk
          obtain ⟨b, g, kk⟩ := Lib.mapM_at hm k k (by simp [hk])
          have hb := fst_get hxs k g
          rcases (by omega : k = 0 ∨ k = 1 ∨ k = 2 ∨ k = 3) with rfl | rfl | rfl | rfl
          · exact (ints_cells Tryd.underlying93 Tryd.underlying3 cellsQ cells2 kk [7, 12, 17, 22] rfl (Option.some.inj hb).symm).trans rfl
          · exact (ints_cells Tryd.underlying93 Tryd.underlying3 cellsQ cells2 kk [5, 9, 14, 20] rfl (Option.some.inj hb).symm).trans rfl
          · exact (ints_cells Tryd.underlying93 Tryd.underlying3 cellsQ cells2 kk [4, 11, 16, 23] rfl (Option.some.inj hb).symm).trans rfl
          · exact (ints_cells Tryd.underlying93 Tryd.underlying3 cellsQ cells2 kk [6, 10, 15, 21] rfl (Option.some.inj hb).symm).trans rfl
        refine (congrArg List.flatten (List.map_congr_left (l := List.range 4) (fun i hi => hk i (by simpa using hi)))).trans ?_
        kernel_rfl
      · cases hd2
  obtain rfl : cs1 = kV := Array.toList_inj.1 e1
  obtain rfl : cs2 = rV := Array.toList_inj.1 e2
  exact ⟨var_block gTabK hv1, var_block gTabR hv2⟩
end Go.Proofs.YtlgdbhebcglkoaaDoor
