/-
  Regions that draw their order and make memory: what each step keeps, and facts that later worlds hold.
-/
import Derived.Test.YtlhekeokognhmaaGreatDoorOwn
import Derived.Laws.Append
namespace Go.Proofs.YtlhekeokognhmaaGreatDoor
open Go.RowKit
/-- What was there is as it was. -/
def Kept (w w' : World) : Prop := Below w.heap.size w w'
section
variable {W0 w w' : World}
theorem below_alloc0 (h : Below W0.heap.size W0 w) (o : Obj) : Below W0.heap.size W0 (w.alloc o) := h.alloc h.size o
theorem below_drew0 (h : Below W0.heap.size W0 w) : Below W0.heap.size W0 w.drew := h.drew
theorem heap_drew0 {g : Nat} {x : Obj} (h : w.heap[g]? = some x) : w.drew.heap[g]? = some x := h
theorem rd_drew0 {A : Option Addr} {n : Nat} {xs : List Value} (h : Rd w w.heap.size A n xs) : Rd w.drew w.drew.heap.size A n xs := h
theorem below_kept (h : Below W0.heap.size W0 w) (k : Kept w w') : Below W0.heap.size W0 w' := h.trans (k.mono h.size)
theorem heap_new' (o : Obj) {g : Nat} (h : g = w.heap.size) : (w.alloc o).heap[g]? = some o := by subst h; exact heap_alloc_new w o
theorem heap_lt {g : Nat} {x : Obj} (h : w.heap[g]? = some x) : g < w.heap.size := (Array.getElem?_eq_some_iff.1 h).1
theorem heap_alloc0 {g : Nat} {x : Obj} (h : w.heap[g]? = some x) (o : Obj) : (w.alloc o).heap[g]? = some x := (Below.heap_alloc w o g (heap_lt h)).trans h
theorem heap_kept {g : Nat} {x : Obj} (k : Kept w w') (h : w.heap[g]? = some x) : w'.heap[g]? = some x := (Below.block k g (heap_lt h)).trans h
theorem rd_alloc0 {A : Option Addr} {n : Nat} {xs : List Value} (h : Rd w w.heap.size A n xs) (o : Obj) : Rd (w.alloc o) (w.alloc o).heap.size A n xs :=
  (h.below ((Below.refl _ w).alloc (Nat.le_refl _) o)).more (by simp)
theorem rd_kept {A : Option Addr} {n : Nat} {xs : List Value} (k : Kept w w') (h : Rd w w.heap.size A n xs) : Rd w' w'.heap.size A n xs := (Rd.below h k).more (Below.size k)
end
/-- append onto a literal of one cell, which has no room: new memory, or none at all. -/
theorem run_app_full {P : Program} (w : World) (t ty e : TypeId) (i : TypeInfo) (z : Value) (bytes : Nat) (ht : P.underlying t = some (.slice e)) (hi : P.info? e = some i) (hz : i.zero = some z)
    (hsize : i.size = 1) (hby : i.bytes = bytes) (g : Nat) (x : Value) (hg : w.heap[g]? = some (.cells #[x] e (0, 0)))
    (B : Nat) (A : Option Addr) (m c : Nat) (news : List Value) (hr : Rd w B A m news)
    (h63 : 1 + m ≤ 1000000) (hbytes : (1 + m) * bytes ≤ 140737488355328) :
    ∃ A' c' w', (Builtin.append_ #[t, t] ty #[.slice (some ⟨g, 0, none⟩) 1 1, .slice A m c]).run P w = .ok (.slice A' (1 + m) c') w' ∧ Rd w' w'.heap.size A' (1 + m) (x :: news) ∧ Kept w w' := by
  have hlen := hr.1
  have hlt := heap_lt hg
  have hx0 : w.cell? ⟨g, 0, none⟩ = some x := cell_of_row _ g 0 #[x] e (0, 0) hg
  rcases Nat.eq_zero_or_pos m with h0 | h0
  · subst h0
    obtain rfl := List.eq_nil_of_length_eq_zero hlen
    refine ⟨some ⟨g, 0, none⟩, 1, w, ?_, ⟨rfl, fun _ => ⟨_, rfl, hlt, fun j u hu => ?_⟩⟩, Below.refl _ _⟩
    · rcases A with _ | ad
      · simp [Builtin.append_, run_underlying ht, sizeOf, typeInfo, hi, Builtin.lenOf, Builtin.firstCells, storeCells]
      · simp [Builtin.append_, run_underlying ht, sizeOf, typeInfo, hi, Builtin.lenOf, Builtin.firstCells, storeCells, loadCells, loadCellsFrom]
    · obtain rfl : j = 0 := by
        have := (List.getElem?_eq_some_iff.1 hu).1
        simpa using this
      rw [add0, hx0, ← hu]
      rfl
  · obtain ⟨ad, rfl, _, hc⟩ := hr.2 h0
    have holds : ∀ j v, [x][j]? = some v → w.cell? ((⟨g, 0, none⟩ : Addr).add j) = some v := fun j v hv => by
      obtain rfl : j = 0 := by
        have := (List.getElem?_eq_some_iff.1 hv).1
        simpa using this
      rw [add0, hx0, ← hv]
      rfl
    have hr2 := run_append_grow (P := P) w t ty e i z ht hi hz ⟨g, 0, none⟩ 1 1 [x] (by rw [hsize]; rfl) holds ad m c news (by rw [hsize, Nat.mul_one]; exact hlen) hc (by omega) (by omega) (growslice_fits (by omega) (by rw [hby]; exact hbytes))
    refine ⟨_, _, _, hr2, ⟨by simp [hlen, Nat.add_comm], fun _ => ⟨_, rfl, by simp, fun j u hu => ?_⟩⟩, ?_⟩
    · have hj : j < 1 + m := by
        have := (List.getElem?_eq_some_iff.1 hu).1
        simp [hlen] at this
        omega
      rw [add0, cell_of_row _ w.heap.size j _ e (0, 0) (heap_alloc_new w.drew _)]
      rw [Array.getElem?_append_left (by simp [hlen]; omega)]
      rw [← hu]
      simp
    · exact ⟨rfl, rfl, rfl, by simp, fun k hk => heap_alloc_old w.drew _ hk⟩
theorem step_full {P : Program} {W0 : World} {ops : Array Oper} {o : Oper} {a : Act} {w : World} {K : Act → World → Prop} {Q : Exit → Act → World → Prop} {E : Prop} (hgd : o.guard = none) (s y : Operand) (t : TypeId)
    (ho : o.op = .call { callee := .builtin .append, args := #[s, y], argTypes := #[t, t] })
    (e : TypeId) (i : TypeInfo) (z : Value) (bytes : Nat) (ht : P.underlying t = some (.slice e)) (hi : P.info? e = some i) (hz : i.zero = some z)
    (hsize : i.size = 1) (hby : i.bytes = bytes) (x : Value) (N : Nat) (A : Option Addr) (m c : Nat) (news ys : List Value) (hys : x :: news = ys) (hN : 1 + m = N) (h63 : N ≤ 1000000) (hbytes : N * bytes ≤ 140737488355328)
    (g : Nat) (hs : a.eval s = .slice (some ⟨g, 0, none⟩) 1 1) (hx : a.eval y = .slice A m c)
    (hg : w.heap[g]? = some (.cells #[x] e (0, 0))) (hB : Below W0.heap.size W0 w) (hr : Rd W0 W0.heap.size A m news)
    (h : ∀ A' c' w', Rd w' w'.heap.size A' N ys → Kept w w' → Below W0.heap.size W0 w' → K (a.put o.dst (.slice A' N c')) w') :
    if Region.wanted o (yielded ops a.tmps) = true then Oper.wp P o a w K Q else E := by
  have hw : Region.wanted o (yielded ops a.tmps) = true := by simp [Region.wanted, hgd]
  subst hN hys
  rw [if_pos hw]
  obtain ⟨A', c', w', hrun, h2, h3⟩ := run_app_full (P := P) w t o.type e i z bytes ht hi hz hsize hby g x hg W0.heap.size A m c news (hr.below hB) h63 hbytes
  unfold Oper.wp execOp
  simp only [ho, resolve, invoke, builtin, Sem.run_bind, Sem.run_pure, Result.andThen_ok, List.map_toArray, List.map_cons, List.map_nil, hs, hx, hrun]
  exact h A' c' w' h2 h3 (below_kept hB h3)
end Go.Proofs.YtlhekeokognhmaaGreatDoor
