/-
  Lists of labels of one's own, one of which is taken out. A region that draws its order, walked by the kit's laws by hand: the condition on the world may be made stronger on the way.
-/
import Derived.Test.YtlhekeokognhmaaGreatDoorMgao
import Derived.Test.YtlhekeokognhmaaGreatDoorMgap
import Derived.ArgAppend
import Derived.Deep.RegionHeld3
namespace Go.Proofs.YtlhekeokognhmaaGreatDoor
open Go.RowKit Go.Shelf Go.Maps Go.Sort
theorem filter_none {L : List Lab} {x : Lab} (h : ∀ y ∈ L, y.1 ≠ x.1) : (L.filter fun y => decide (y.1 ≠ x.1)) = L :=
  List.filter_eq_self.2 fun y hy => decide_eq_true (h y hy)
theorem filter_once : ∀ {L : List Lab} {i : Nat} {x y : Lab}, Once L → L[i]? = some y → y.1 = x.1 → (L.filter fun y => decide (y.1 ≠ x.1)) = L.take i ++ L.drop (i + 1)
  | [], i, x, y, _, h, _ => by simp at h
  | z :: L, 0, x, y, ho, h, e => by
    cases h
    obtain ⟨h1, _⟩ := List.pairwise_cons.1 ho
    rw [List.filter_cons_of_neg (by simp [e])]
    exact filter_none fun u hu => fun e2 => h1 u hu (e.trans e2.symm)
  | z :: L, i + 1, x, y, ho, h, e => by
    obtain ⟨h1, h2⟩ := List.pairwise_cons.1 ho
    have hy : L[i]? = some y := h
    have hz : z.1 ≠ x.1 := fun e2 => h1 y (List.mem_of_getElem? hy) (e2.trans e.symm)
    rw [List.filter_cons_of_pos (by simpa using hz), filter_once h2 hy e]
    rfl
/-- A list that is one's own, or the full beginning of one that was. -/
def Lst (w : World) (base : Nat) (v : Value) (n : Nat) (xs : List Value) : Prop :=
  w.ownsRow base 33 2 v n xs ∨ ∃ ad : Addr, v = .slice (some ad) n n ∧ ad.block < w.heap.size ∧ xs.length = n * 2 ∧ ∀ j u, xs[j]? = some u → w.cell? (ad.add j) = some u
section
variable {w w' : World} {base : Nat} {v : Value} {n : Nat} {xs : List Value}
theorem Lst.below (h : Lst w base v n xs) (hb : Below w.heap.size w w') : Lst w' base v n xs := by
  rcases h with h | ⟨ad, e, h2, h3, h4⟩
  · exact .inl (own_below h hb)
  · exact .inr ⟨ad, e, Nat.lt_of_lt_of_le h2 (Below.size hb), h3, fun j u hu => (Below.cell hb (by rw [addBlock]; exact h2)).trans (h4 j u hu)⟩
end
section
variable {P : Program}
theorem run_lst (w : World) (base : Nat) (t ty : TypeId) (i : TypeInfo) (z : Value) (bytes : Nat) (ht : P.underlying t = some (.slice 33)) (hi : P.info? 33 = some i) (hz : i.zero = some z)
    (hsize : i.size = 2) (hby : i.bytes = bytes) (hzs : z.cells.size = 2)
    (v : Value) (n : Nat) (xs : List Value) (hown : Lst w base v n xs)
    (a : Addr) (m c : Nat) (news : List Value) (hl : news.length = m * 2) (hnews : ∀ j u, news[j]? = some u → w.cell? (a.add j) = some u) (h1 : ∀ u ∈ news, u.oneCell' = true) (hm : 0 < m)
    (h63 : n + m ≤ maxLen) (hbytes : (n + m) * bytes ≤ 140737488355328) (hbase : base ≤ w.heap.size) :
    ∃ v' w', (Builtin.append_ #[t, t] ty #[v, .slice (some a) m c]).run P w = .ok v' w' ∧ w'.ownsRow base 33 2 v' (n + m) (xs ++ news) ∧ Below base w w' := by
  rcases hown with hown | ⟨ad, rfl, hlt, hlen, hc⟩
  · obtain ⟨v', w', hr, h2, h3, _, _⟩ := run_append_own_at (P := P) w base t ty 33 i z 2 bytes ht hi hz hsize hby hzs (by decide) v n xs hown a m c news hl hnews h1 h63 hbytes hbase
    exact ⟨v', w', hr, h2, Below.grown (Below.refl base w) h3 hbase (fun j e => (hown.lt j e).1)⟩
  · obtain ⟨v', w', hr, h2, h3⟩ := run_append_arg_grows (P := P) w t ty 33 i z 2 bytes ht hi hz hsize hby hzs (by decide) ad n n xs hlen hc a m c news hl hnews (by omega) h63 hbytes
    refine ⟨v', w', hr, ⟨h2.1, ?_⟩, ⟨h3.os, h3.tape, h3.output, h3.size, fun k hk => h3.block k (Nat.lt_of_lt_of_le hk hbase) (by simp)⟩⟩
    rcases h2.2 with h | ⟨g', cap, cur, e, hb, hrest⟩
    · exact .inl h
    · exact .inr ⟨g', cap, cur, e, Nat.le_trans hbase hb, hrest⟩
/-- A label put behind a list, at a plain region's list of operations. -/
theorem wpList_lst {w : World} {ops : Array Oper} {rest : List Oper} {o : Oper} {a : Act} {Q : Exit → Act → World → Prop} (hgd : o.guard = none) (s x : Operand) (t : TypeId)
    (ho : o.op = .call { callee := .builtin .append, args := #[s, x], argTypes := #[t, t] })
    (base : Nat) (i : TypeInfo) (z : Value) (bytes : Nat) (ht : P.underlying t = some (.slice 33)) (hi : P.info? 33 = some i) (hz : i.zero = some z)
    (hsize : i.size = 2) (hby : i.bytes = bytes) (hzs : z.cells.size = 2)
    (v : Value) (n : Nat) (xs : List Value) (hs : a.eval s = v) (hown : Lst w base v n xs)
    (ad : Addr) (m c : Nat) (news : List Value) (hx : a.eval x = .slice (some ad) m c) (hl : news.length = m * 2) (hnews : ∀ j u, news[j]? = some u → w.cell? (ad.add j) = some u) (h1 : ∀ u ∈ news, u.oneCell' = true) (hm : 0 < m)
    (h63 : n + m ≤ maxLen) (hbytes : (n + m) * bytes ≤ 140737488355328) (hbase : base ≤ w.heap.size)
    (h : ∀ v' w', w'.ownsRow base 33 2 v' (n + m) (xs ++ news) → Below base w w' → wpList P ops Q rest (a.put o.dst v') w') : wpList P ops Q (o :: rest) a w := by
  refine wpList_plain hgd fun K hK => ?_
  obtain ⟨v', w', hr, h2, h3⟩ := run_lst (P := P) w base t o.type i z bytes ht hi hz hsize hby hzs v n xs hown ad m c news hl hnews h1 hm h63 hbytes hbase
  unfold Oper.wp execOp
  simp only [ho, resolve, invoke, builtin, Sem.run_bind, Sem.run_pure, Result.andThen_ok, List.map_toArray, List.map_cons, List.map_nil, hs, hx, hr]
  exact hK _ _ (h v' w' h2 h3)
/-- What lies behind a place put behind what lies ahead of it: new memory, or the beginning itself. -/
theorem run_cut (w : World) (t ty : TypeId) (i : TypeInfo) (z : Value) (bytes : Nat) (ht : P.underlying t = some (.slice 33)) (hi : P.info? 33 = some i) (hz : i.zero = some z)
    (hsize : i.size = 2) (hby : i.bytes = bytes) (hzs : z.cells.size = 2)
    (ad : Addr) (n : Nat) (xs : List Value) (hlt : ad.block < w.heap.size) (hlen : xs.length = n * 2) (hc : ∀ j u, xs[j]? = some u → w.cell? (ad.add j) = some u)
    (A : Option Addr) (m c : Nat) (news : List Value) (hr : Rd w w.heap.size A (m * 2) news)
    (h63 : n + m ≤ maxLen) (hbytes : (n + m) * bytes ≤ 140737488355328) (base : Nat) (hbase : base ≤ w.heap.size) :
    ∃ v' w', (Builtin.append_ #[t, t] ty #[.slice (some ad) n n, .slice A m c]).run P w = .ok v' w' ∧ Lst w' base v' (n + m) (xs ++ news) ∧ Kept w w' := by
  have hl := hr.1
  rcases Nat.eq_zero_or_pos m with h0 | h0
  · subst h0
    obtain rfl := List.eq_nil_of_length_eq_zero (by omega : news.length = 0)
    refine ⟨.slice (some ad) n n, w, ?_, .inr ⟨ad, rfl, hlt, by simpa using hlen, by simpa using hc⟩, Below.refl _ _⟩
    rcases A with _ | a
    · simp [Builtin.append_, run_underlying ht, sizeOf, typeInfo, hi, Builtin.lenOf, Builtin.firstCells, storeCells]
    · simp [Builtin.append_, run_underlying ht, sizeOf, typeInfo, hi, Builtin.lenOf, Builtin.firstCells, storeCells, loadCells, loadCellsFrom]
  · obtain ⟨a, rfl, _, hca⟩ := hr.2 (by omega)
    obtain ⟨v', w', hrun, h2, h3⟩ := run_append_arg_grows (P := P) w t ty 33 i z 2 bytes ht hi hz hsize hby hzs (by decide) ad n n xs hlen hc a m c news hl hca (by omega) h63 hbytes
    exact ⟨v', w', hrun, .inl (own_mono h2 hbase), ⟨h3.os, h3.tape, h3.output, h3.size, fun k hk => h3.block k hk (by simp)⟩⟩
theorem step_cut {ops : Array Oper} {o : Oper} {a : Act} {w : World} {K : Act → World → Prop} {Q : Exit → Act → World → Prop} {E : Prop} (hgd : o.guard = none) (s x : Operand) (t : TypeId)
    (ho : o.op = .call { callee := .builtin .append, args := #[s, x], argTypes := #[t, t] })
    (i : TypeInfo) (z : Value) (bytes : Nat) (ht : P.underlying t = some (.slice 33)) (hi : P.info? 33 = some i) (hz : i.zero = some z)
    (hsize : i.size = 2) (hby : i.bytes = bytes) (hzs : z.cells.size = 2)
    (ad : Addr) (n : Nat) (xs : List Value) (hs : a.eval s = .slice (some ad) n n) (hlt : ad.block < w.heap.size) (hlen : xs.length = n * 2) (hc : ∀ j u, xs[j]? = some u → w.cell? (ad.add j) = some u)
    (A : Option Addr) (m c : Nat) (news : List Value) (hx : a.eval x = .slice A m c) (hr : Rd w w.heap.size A (m * 2) news)
    (h63 : n + m ≤ maxLen) (hbytes : (n + m) * bytes ≤ 140737488355328) (base : Nat) (hbase : base ≤ w.heap.size)
    (h : ∀ v' w', Lst w' base v' (n + m) (xs ++ news) → Kept w w' → K (a.put o.dst v') w') :
    if Region.wanted o (yielded ops a.tmps) = true then Oper.wp P o a w K Q else E := by
  have hw : Region.wanted o (yielded ops a.tmps) = true := by simp [Region.wanted, hgd]
  rw [if_pos hw]
  obtain ⟨v', w', hrun, h2, h3⟩ := run_cut (P := P) w t o.type i z bytes ht hi hz hsize hby hzs ad n xs hlt hlen hc A m c news hr h63 hbytes base hbase
  unfold Oper.wp execOp
  simp only [ho, resolve, invoke, builtin, Sem.run_bind, Sem.run_pure, Result.andThen_ok, List.map_toArray, List.map_cons, List.map_nil, hs, hx, hrun]
  exact h v' w' h2 h3
end
end Go.Proofs.YtlhekeokognhmaaGreatDoor
namespace Go.Proofs.YtlhekeokognhmaaGreatDoor
open Go.RowKit Go.Shelf
theorem wpAnyH_turn {P : Program} {md : Region.Mode} {ops : Array Oper} {Q : Exit → Act → World → Prop} {S S' : World → Prop} (hS : ∀ w, S' w → S w) :
    ∀ (fuel : Nat) (listed : Array Bool) (a : Act) (w : World), wpAnyH P md ops Q S' fuel listed a w → wpAnyH P md ops Q S fuel listed a w
  | 0, _, _, _, h => h
  | fuel + 1, _, _, _, h => ⟨h.1, fun i hi => wpOp_mono (fun a' w' h' => ⟨hS _ h'.1, wpAnyH_turn hS fuel _ a' w' h'.2⟩) (h.2 i hi)⟩
theorem turnG {P : Program} {md : Region.Mode} {ops : Array Oper} {Q : Exit → Act → World → Prop} {w0 w1 : World} {r0 r : Option Nat} (h : w0.grownBy w1 r0) (hr : ∀ k, k < w0.heap.size → some k ≠ r0 → some k ≠ r) {fuel : Nat} {listed : Array Bool} {a : Act} {w : World}
    (hn : wpAnyH P md ops Q (fun W => w1.grownBy W r) fuel listed a w) : wpAnyH P md ops Q (fun W => w0.grownBy W r0) fuel listed a w :=
  wpAnyH_turn (fun _ k => ⟨k.os.trans h.os, k.tape.trans h.tape, k.output.trans h.output, Nat.le_trans h.size k.size, fun i hi hne => (k.block i (Nat.lt_of_lt_of_le hi h.size) (hr i hi hne)).trans (h.block i hi hne)⟩) fuel listed a w hn
theorem grown_kept {w W : World} (h : Kept w W) (r : Option Nat) : w.grownBy W r := ⟨h.os, h.tape, h.output, h.size, fun k hk _ => h.block k hk⟩
theorem grown_set (w : World) (g j : Nat) (v : Value) : w.grownBy (w.setCell ⟨g, j, none⟩ v) (some g) :=
  ⟨rfl, rfl, rfl, by simp, fun k _ hne => heap_setCell_other _ _ _ _ (fun e => hne (by rw [e]))⟩
theorem load_u8 (w : World) (ad : Addr) (v : Value) (hc : w.cell? ad = some v) : (loadVar 5 ad).run Tryz.prog w = .ok v w := by go_simp
theorem load_str (w : World) (ad : Addr) (v : Value) (hc : w.cell? ad = some v) : (loadVar 9 ad).run Tryz.prog w = .ok v w := by go_simp
theorem yields_cell {ops : Array Oper} {w0 : World} {op : Oper} {a : Act} (hw : Region.wanted op (yielded ops a.tmps) = true) (ty : TypeId) (x : Operand) (ho : op.op = .load ty x) (ad : Addr) (hx : a.eval x = .pointer (some ad))
    (v : Value) (hl : ∀ w v, w.cell? ad = some v → (loadVar ty ad).run Tryz.prog w = .ok v w) {r : Option Nat} (hlt : ad.block < w0.heap.size) (hne : some ad.block ≠ r) (hc : w0.cell? ad = some v) : YieldsIf Tryz.prog ops (fun W => w0.grownBy W r) op v a :=
  .inl ⟨hw, fun w hw' => by
    unfold execOp
    simp only [ho, hx, Instr.loadAt, Instr.sureAddr, Sem.run_bind, Sem.run_pure, Result.andThen_ok, hl w v ((hw'.cell_far ad hlt hne).trans hc)]⟩
/-- A row that is made. -/
theorem new_row (w : World) (cs : Array Value) (t : TypeId) : ∃ W, W = w.alloc (.cells cs t) ∧ W.heap[w.heap.size]? = some (.cells cs t) ∧ Kept w W ∧ w.heap.size < W.heap.size :=
  ⟨_, rfl, heap_alloc_new _ _, (Below.refl w.heap.size w).alloc (Nat.le_refl _) _, by simp⟩
end Go.Proofs.YtlhekeokognhmaaGreatDoor
