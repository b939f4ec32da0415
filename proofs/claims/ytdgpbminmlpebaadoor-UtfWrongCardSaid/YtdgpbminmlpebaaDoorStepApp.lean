/-
  append of what lies elsewhere onto a slice of one's own, as one step of a region that draws its order.
-/
import Derived.Test.YtdgpbminmlpebaaDoorApp
import Derived.Test.YtdgpbminmlpebaaDoorUtfT
import Derived.Deep.RegionLaw
namespace Go.Proofs.YtdgpbminmlpebaaDoor
open Go.RowKit Mt
theorem step_app_any {P : Program} {ops : Array Oper} {o : Oper} {a : Act} {w : World} {K : Act → World → Prop} {Q : Exit → Act → World → Prop} {E : Prop} (hgd : o.guard = none) (s x : Operand) (t : TypeId)
    (ho : o.op = .call { callee := .builtin .append, args := #[s, x], argTypes := #[t, t] })
    (base : Nat) (e : TypeId) (i : TypeInfo) (z : Value) (bytes : Nat) (ht : P.underlying t = some (.slice e)) (hi : P.info? e = some i) (hz : i.zero = some z)
    (hsize : i.size = 1) (hby : i.bytes = bytes) (hzs : z.cells.size = 1)
    (v : Value) (n : Nat) (xs : List Value) (hs : a.eval s = v) (hown : w.ownsRow base e 1 v n xs)
    (B : Nat) (A : Option Addr) (m c : Nat) (news : List Value) (hx : a.eval x = .slice A m c) (hr : Rd w B A m news) (h1 : ∀ u ∈ news, u.oneCell' = true)
    (h63 : n + m ≤ maxLen) (hbytes : (n + m) * bytes ≤ 140737488355328) (hbase : base ≤ w.heap.size)
    (h : ∀ v' w', w'.ownsRow base e 1 v' (n + m) (xs ++ news) → w.grownBy w' v.ownBlock → K (a.put o.dst v') w') :
    if Region.wanted o (yielded ops a.tmps) = true then Oper.wp P o a w K Q else E := by
  have hw : Region.wanted o (yielded ops a.tmps) = true := by simp [Region.wanted, hgd]
  rw [if_pos hw]
  obtain ⟨v', w', hrun, h2, h3⟩ := run_app_any (P := P) w base t o.type e i z bytes ht hi hz hsize hby hzs v n xs hown B A m c news hr h1 h63 hbytes hbase
  unfold Oper.wp execOp
  simp only [ho, resolve, invoke, builtin, Sem.run_bind, Sem.run_pure, Result.andThen_ok, List.map_toArray, List.map_cons, List.map_nil, hs, hx, hrun]
  exact h v' w' h2 h3
/-- An empty slice of one's own. -/
theorem own_none {w : World} {base g : Nat} {e : TypeId} (h : w.heap[g]? = some (.cells #[] e (0, 0))) (hb : base ≤ g) : w.ownsRow base e 1 (.slice (some ⟨g, 0, none⟩) 0 0) 0 [] :=
  ⟨rfl, .inr ⟨g, 0, #[], rfl, hb, h, Nat.le_refl _, Nat.zero_le _, rfl, rfl⟩⟩
/-- A block holds one number. -/
def BadAt (w : World) (b : Nat) (x : Int) : Prop := w.heap[b]? = some (.cells #[.int .i64 x] 3 (0, 0))
theorem BadAt.grown {w w' : World} {b : Nat} {x : Int} {row : Option Nat} (h : BadAt w b x) (hg : w.grownBy w' row) (hne : row ≠ some b) : BadAt w' b x := by
  have hlt : b < w.heap.size := (Array.getElem?_eq_some_iff.1 h).1
  unfold BadAt
  rw [hg.block b hlt (fun e => hne e.symm)]
  exact h
theorem BadAt.rd {w : World} {b : Nat} {x : Int} (h : BadAt w b x) : Rd w w.heap.size (some ⟨b, 0, none⟩) 1 (i64s [x]) := by
  have hlt : b < w.heap.size := (Array.getElem?_eq_some_iff.1 h).1
  refine ⟨rfl, fun _ => ⟨_, rfl, hlt, World.news_of_block (w := w) (B := b) (cs := #[.int .i64 x]) (t := 3) (fr := (0, 0)) h⟩⟩
theorem new_bad (w : World) (x : Int) : BadAt (w.alloc (.cells #[.int .i64 x] 3)) w.heap.size x := heap_alloc_new w _
theorem new_bad1 (w : World) (x : Int) (o : Obj) : BadAt ((w.alloc (.cells #[.int .i64 x] 3)).alloc o) w.heap.size x := (new_bad w x).grown (World.grownBy_alloc _ o none) (by simp)
theorem new_bad2 (w : World) (x : Int) (o : Obj) : BadAt ((w.alloc o).alloc (.cells #[.int .i64 x] 3)) (w.heap.size + 1) x := by
  have := new_bad (w.alloc o) x
  have e : (w.alloc o).heap.size = w.heap.size + 1 := by simp
  rwa [e] at this
/-- A part of what lies there, from its beginning. -/
theorem Rd.part {w : World} {B n : Nat} {A : Option Addr} {xs : List Int} (h : Rd w B A n (i64s xs)) (k : Nat) (hk : k ≤ n) : Rd w B A k (i64s (xs.take k)) := by
  have hl : xs.length = n := by have := h.1; rwa [i64s_length] at this
  refine ⟨by rw [i64s_length, List.length_take]; omega, fun h0 => ?_⟩
  obtain ⟨ad, e, hb, hc⟩ := h.2 (by omega)
  refine ⟨ad, e, hb, fun j u hu => hc j u ?_⟩
  have hj : j < (xs.take k).length := by
    have := (List.getElem?_eq_some_iff.1 hu).1
    rwa [i64s_length] at this
  rw [List.length_take] at hj
  rw [i64s_get _ _ (by rw [List.length_take]; omega)] at hu
  rw [i64s_get _ _ (by omega), ← hu]
  congr 2
  simp [List.getD, show j < k by omega]
/-- .. and from an offset on. -/
theorem Rd.rest {w : World} {B n : Nat} {A : Option Addr} {xs : List Int} (h : Rd w B A n (i64s xs)) (k : Nat) (hk : k ≤ n) : Rd w B (A.map fun a => a.add k) (n - k) (i64s (xs.drop k)) := by
  have hl : xs.length = n := by have := h.1; rwa [i64s_length] at this
  refine ⟨by rw [i64s_length, List.length_drop]; omega, fun h0 => ?_⟩
  obtain ⟨ad, rfl, hb, hc⟩ := h.2 (by omega)
  refine ⟨ad.add k, rfl, by rw [addBlock]; exact hb, fun j u hu => ?_⟩
  have hj : j < (xs.drop k).length := by
    have := (List.getElem?_eq_some_iff.1 hu).1
    rwa [i64s_length] at this
  rw [List.length_drop] at hj
  rw [show (ad.add k).add j = ad.add (k + j) from by unfold Addr.add; split <;> split <;> simp_all <;> omega]
  refine hc (k + j) u ?_
  rw [i64s_get _ _ (by rw [List.length_drop]; omega)] at hu
  rw [i64s_get _ _ (by omega), ← hu]
  congr 2
  simp [List.getD, List.getElem?_drop]

theorem none_a (w : World) (o : Obj) (t : TypeId) : ((w.alloc o).alloc (.cells #[] t)).heap[w.heap.size + 1]? = some (.cells #[] t (0, 0)) := by
  have := heap_alloc_new (w.alloc o) (.cells #[] t)
  have e : (w.alloc o).heap.size = w.heap.size + 1 := by simp
  rwa [e] at this
theorem none_b (w : World) (o : Obj) (t : TypeId) : ((w.alloc (.cells #[] t)).alloc o).heap[w.heap.size]? = some (.cells #[] t (0, 0)) := by
  rw [Below.heap_alloc _ _ _ (by simp)]
  exact heap_alloc_new w _
theorem none_c (w : World) (t : TypeId) : (w.alloc (.cells #[] t)).heap[w.heap.size]? = some (.cells #[] t (0, 0)) := heap_alloc_new w _

theorem Rd.rest' {w : World} {B n c : Nat} {A : Option Addr} {xs : List Int} (h : Rd w B A n (i64s xs)) (k : Nat) (hk : k ≤ n) (hc : n ≤ c) : Rd w B (if c = k then A else Option.map (fun x => x.add k) A) (n - k) (i64s (xs.drop k)) := by
  by_cases e : c = k
  · rw [if_pos e]
    have h2 := h.rest k hk
    exact ⟨h2.1, fun h0 => by omega⟩
  · rw [if_neg e]; exact h.rest k hk

section
variable {ops : Array Oper} {o : Oper} {a : Act} {W w : World} {K : Act → World → Prop} {Q : Exit → Act → World → Prop} {E : Prop}
/-- The first append, onto an empty slice; the other slice lies there already. -/
theorem app_first2 (e b : Nat) (x : Int) (A : Option Addr) (m c : Nat) (zs : List Int) (hgd : o.guard = none) (s y : Operand)
    (ho : o.op = .call { callee := .builtin .append, args := #[s, y], argTypes := #[26, 26] })
    (hs : a.eval s = .slice (some ⟨e, 0, none⟩) 0 0) (hx : a.eval y = .slice A m c)
    (he : w.heap[e]? = some (.cells #[] 3 (0, 0))) (hWe : W.heap.size ≤ e) (hbad : BadAt w b x) (hne : e ≠ b) (hBW : Below W.heap.size W w) (hr : Rd W W.heap.size A m (i64s zs)) (hm : m ≤ 200)
    (h : ∀ v' w', Hid (w'.ownsRow W.heap.size 3 1 v' m (i64s zs)) → Hid (BadAt w' b x) → Hid (Below W.heap.size W w') → K (a.put o.dst v') w') :
    if Region.wanted o (yielded ops a.tmps) = true then Oper.wp Tryd.prog o a w K Q else E := by
  obtain ⟨i0, hi, hz0, hz1, hz2⟩ := info_parts info3
  refine step_app_any hgd s y _ ho W.heap.size 3 i0 (.int .i64 0) 8 Tryd.underlying26 hi hz0 hz1 hz2 rfl _ 0 [] hs (own_none he hWe) _ A m c _ hx (hr.below hBW) (i64s_one zs) (by unfold maxLen; omega) (by omega) hBW.size ?_
  intro v' w' hown hg
  rw [Nat.zero_add, List.nil_append] at hown
  exact h v' w' hown (hbad.grown hg (by simp [Value.ownBlock]; exact hne)) (hBW.grown hg hBW.size (fun j e' => by simp [Value.ownBlock] at e'; omega))
/-- .. or it doesn't lie there yet. -/
theorem app_first1 (e : Nat) (A : Option Addr) (m c : Nat) (zs : List Int) (hgd : o.guard = none) (s y : Operand)
    (ho : o.op = .call { callee := .builtin .append, args := #[s, y], argTypes := #[26, 26] })
    (hs : a.eval s = .slice (some ⟨e, 0, none⟩) 0 0) (hx : a.eval y = .slice A m c)
    (he : w.heap[e]? = some (.cells #[] 3 (0, 0))) (hWe : W.heap.size ≤ e) (hBW : Below W.heap.size W w) (hr : Rd W W.heap.size A m (i64s zs)) (hm : m ≤ 200)
    (h : ∀ v' w', Hid (w'.ownsRow W.heap.size 3 1 v' m (i64s zs)) → Hid (Below W.heap.size W w') → K (a.put o.dst v') w') :
    if Region.wanted o (yielded ops a.tmps) = true then Oper.wp Tryd.prog o a w K Q else E := by
  obtain ⟨i0, hi, hz0, hz1, hz2⟩ := info_parts info3
  refine step_app_any hgd s y _ ho W.heap.size 3 i0 (.int .i64 0) 8 Tryd.underlying26 hi hz0 hz1 hz2 rfl _ 0 [] hs (own_none he hWe) _ A m c _ hx (hr.below hBW) (i64s_one zs) (by unfold maxLen; omega) (by omega) hBW.size ?_
  intro v' w' hown hg
  rw [Nat.zero_add, List.nil_append] at hown
  exact h v' w' hown (hBW.grown hg hBW.size (fun j e' => by simp [Value.ownBlock] at e'; omega))
/-- The second append: one number. -/
theorem app_second (b : Nat) (x : Int) (v : Value) (m : Nat) (zs : List Int) (hgd : o.guard = none) (s y : Operand)
    (ho : o.op = .call { callee := .builtin .append, args := #[s, y], argTypes := #[26, 26] })
    (hs : a.eval s = v) (hx : a.eval y = .slice (some ⟨b, 0, none⟩) 1 1)
    (hown : w.ownsRow W.heap.size 3 1 v m (i64s zs)) (hbad : BadAt w b x) (hBW : Below W.heap.size W w) (hm : m ≤ 200)
    (h : ∀ v' w', Hid (w'.ownsRow W.heap.size 3 1 v' (m + 1) (i64s (zs ++ [x]))) → Hid (Below W.heap.size W w') → K (a.put o.dst v') w') :
    if Region.wanted o (yielded ops a.tmps) = true then Oper.wp Tryd.prog o a w K Q else E := by
  obtain ⟨i0, hi, hz0, hz1, hz2⟩ := info_parts info3
  refine step_app_any hgd s y _ ho W.heap.size 3 i0 (.int .i64 0) 8 Tryd.underlying26 hi hz0 hz1 hz2 rfl _ m _ hs hown _ _ 1 1 _ hx hbad.rd (i64s_one [x]) (by unfold maxLen; omega) (by omega) hBW.size ?_
  intro v' w' hown' hg
  rw [← i64s_append] at hown'
  exact h v' w' hown' (hBW.grown hg hBW.size (fun j e' => (hown.lt j e').1))
/-- The third append. -/
theorem app_third (N : Nat) (v : Value) (n : Nat) (xs : List Int) (A : Option Addr) (m c : Nat) (zs : List Int) (hgd : o.guard = none) (s y : Operand)
    (ho : o.op = .call { callee := .builtin .append, args := #[s, y], argTypes := #[26, 26] })
    (hs : a.eval s = v) (hx : a.eval y = .slice A m c)
    (hown : w.ownsRow W.heap.size 3 1 v n (i64s xs)) (hBW : Below W.heap.size W w) (hr : Rd W W.heap.size A m (i64s zs)) (hN : n + m = N) (hm : N ≤ 300)
    (h : ∀ A' c' w', Hid (Rd w' w'.heap.size A' N (i64s (xs ++ zs))) → Hid (Below W.heap.size W w') → K (a.put o.dst (.slice A' N c')) w') :
    if Region.wanted o (yielded ops a.tmps) = true then Oper.wp Tryd.prog o a w K Q else E := by
  obtain ⟨i0, hi, hz0, hz1, hz2⟩ := info_parts info3
  refine step_app_any hgd s y _ ho W.heap.size 3 i0 (.int .i64 0) 8 Tryd.underlying26 hi hz0 hz1 hz2 rfl _ n _ hs hown _ A m c _ hx (hr.below hBW) (i64s_one zs) (by unfold maxLen; omega) (by omega) hBW.size ?_
  intro v' w' hown' hg
  rw [← i64s_append, hN] at hown'
  obtain ⟨A', c', rfl, _⟩ := own_slice hown'
  exact h A' c' w' (Rd.of_own hown') (hBW.grown hg hBW.size (fun j e' => (hown.lt j e').1))
end
end Go.Proofs.YtdgpbminmlpebaaDoor
