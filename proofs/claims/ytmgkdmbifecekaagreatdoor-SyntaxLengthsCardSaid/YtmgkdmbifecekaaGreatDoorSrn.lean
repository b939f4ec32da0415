/-
  Package syntax: a pile of trees, of which the uppermost ones become parts of one.
-/
import Derived.Test.YtmgkdmbifecekaaGreatDoorMlbb
set_option linter.all false
set_option linter.unusedSimpArgs false
set_option linter.unusedVariables false
set_option linter.unusedSectionVars false
namespace Go.Proofs.YtmgkdmbifecekaaGreatDoor
open Go.RowKit Go.Shelf
/-- One more, that lies anywhere but in the pile's own block. -/
theorem PartsI.push2 {B : Nat} {w w' : World} {v v' : Value} {ts : List Tree} {xs cs : List Value} {t : Tree} (h : PartsI B w v ts xs) (hn : NodeC (hideO v.ownBlock (mask B w)) t cs)
    (h1 : w'.ownsRow B 25 6 v' (ts.length + 1) (xs ++ cs)) (h2 : w.grownBy w' v.ownBlock) (h3 : v'.ownBlock = v.ownBlock ∨ v'.ownBlock = some w.heap.size) : PartsI B w' v' (ts ++ [t]) (xs ++ cs) := by
  have hs : (hideO v.ownBlock (mask B w)).heap.size ≤ (hideO v'.ownBlock (mask B w')).heap.size := by rw [hideO_size, hideO_size, mask_size, mask_size]; exact h2.size
  have hne : ∀ k, k < w.heap.size → v.ownBlock ≠ some k → v'.ownBlock ≠ some k := by
    intro k hk hk2 e
    rcases h3 with h3 | h3
    · rw [h3] at e; exact hk2 e
    · rw [h3] at e; cases e; omega
  have hsub : ∀ p u, (hideO v.ownBlock (mask B w)).cell? p = some u → (hideO v'.ownBlock (mask B w')).heap[p.block]? = (hideO v.ownBlock (mask B w)).heap[p.block]? := by
    intro p u hp
    obtain ⟨g1, g2, g3, g4⟩ := hm_cell hp
    rw [hideO_at (hne _ g3 g1), mask_hi g2, g4]
    exact h2.block _ g3 (Ne.symm g1)
  exact ⟨by rw [List.length_append]; exact h1, NodesC.app (NodesC.sub hs hsub ts xs h.n) (NodeC.sub hs hsub t cs hn)⟩
/-- What is seen without a block, later. -/
theorem hide_subO {B : Nat} {o : Option Nat} {w w' : World} (hk : Kept w w') {t : Tree} {cs : List Value} (h : NodeC (hideO o (mask B w)) t cs) : NodeC (hideO o (mask B w')) t cs := by
  refine NodeC.sub (w := hideO o (mask B w)) (by rw [hideO_size, hideO_size, mask_size, mask_size]; exact hk.size) ?_ t cs h
  intro q u hq
  obtain ⟨g1, g2, g3, g4⟩ := hm_cell hq
  rw [hideO_at g1, mask_hi g2, g4]
  exact hk.block _ g3
theorem hides_sub {B : Nat} {o : Option Nat} {w w' : World} (hk : Kept w w') {ts : List Tree} {xs : List Value} (h : NodesC (hideO o (mask B w)) ts xs) : NodesC (hideO o (mask B w')) ts xs := by
  refine NodesC.sub (w := hideO o (mask B w)) (by rw [hideO_size, hideO_size, mask_size, mask_size]; exact hk.size) ?_ ts xs h
  intro q u hq
  obtain ⟨g1, g2, g3, g4⟩ := hm_cell hq
  rw [hideO_at g1, mask_hi g2, g4]
  exact hk.block _ g3
/-- One more, laid in a row of one, that lies anywhere but in the pile's own block. -/
theorem PartsI.step2 {B : Nat} {w1 w5 : World} {v v5 : Value} {ts : List Tree} {xs cs : List Value} {t : Tree} (o : Obj) (h : PartsI B w1 v ts xs) (hB : B ≤ w1.heap.size) (hn : NodeC (hideO v.ownBlock (mask B w1)) t cs)
    (hown : w5.ownsRow B 25 6 v5 (ts.length + 1) (xs ++ cs)) (hg : (w1.alloc o).grownBy w5 v.ownBlock) (hl : v5.ownBlock = v.ownBlock ∨ v5.ownBlock = some (w1.alloc o).heap.size) : PartsI B w5 v5 (ts ++ [t]) (xs ++ cs) ∧ Below B w1 w5 := by
  have hk : Kept w1 (w1.alloc o) := (Below.refl _ w1).alloc (Nat.le_refl _) o
  refine ⟨PartsI.push2 (h.kept hk) (hide_subO hk hn) hown hg hl, (hk.mono hB).grown hg (by simp; omega) (fun b e => (h.o.lt b e).1)⟩
theorem rdp_hsub {B n : Nat} {o : Option Nat} {w w' : World} (hk : Kept w w') {A : Option Addr} {xs : List Value} (h : RdP (hideO o (mask B w)) A n xs) : RdP (hideO o (mask B w')) A n xs := by
  refine rdp_sub (w := hideO o (mask B w)) (by rw [hideO_size, hideO_size, mask_size, mask_size]; exact hk.size) ?_ h
  intro q u hq
  obtain ⟨g1, g2, g3, g4⟩ := hm_cell hq
  rw [hideO_at g1, mask_hi g2, g4]
  exact hk.block _ g3
theorem hide_un {B : Nat} {o : Option Nat} {w : World} {t : Tree} {cs : List Value} (h : NodeC (hideO o (mask B w)) t cs) : NodeC w t cs := by
  refine NodeC.sub (w := hideO o (mask B w)) (by rw [hideO_size, mask_size]; exact Nat.le_refl _) ?_ t cs h
  intro q u hq
  exact (hm_cell hq).2.2.2.symm
/-- A row of one's own that is new, seen without another one. -/
theorem rdp_hide {B b n : Nat} {g : Option Nat} {w : World} {v : Value} {xs : List Value} (h : w.ownsRow b 25 6 v n xs) (hb : B ≤ b) (hg : ∀ k, g = some k → k < b) : ∃ A c, v = .slice A n c ∧ RdP (hideO g (mask B w)) A (n * 6) xs := by
  rcases h.2 with ⟨rfl, h0⟩ | ⟨k, cap, cur, rfl, hb2, hk, hc, hx, hs, ht⟩
  · subst h0
    have hx : xs = [] := List.length_eq_zero_iff.1 (by have := h.1; simpa using this)
    subst hx
    exact ⟨none, 0, rfl, ⟨Rd.nil, fun h => absurd h (by simp)⟩⟩
  · have hne : g ≠ some k := fun e => by have := hg k e; omega
    have hat : (hideO g (mask B w)).heap[k]? = some (.cells cur 25 (0, 0)) := by rw [hideO_at hne, mask_hi (Nat.le_trans hb hb2)]; exact hk
    refine ⟨_, _, rfl, ⟨⟨h.1, fun _ => ⟨_, rfl, heap_lt hat, fun j u hu => ?_⟩⟩, fun _ ad e => by cases e; exact ⟨cur, _, hat⟩⟩⟩
    have hj : j < n * 6 := by have := (List.getElem?_eq_some_iff.1 hu).1; rw [h.1] at this; exact this
    have h2 : w.cell? ⟨k, j, none⟩ = some u := by rw [h.cellAt j hj]; exact hu
    rw [add0]
    unfold World.cell? at h2 ⊢
    rw [hat]
    rw [hk] at h2
    exact h2
/-- The uppermost ones. -/
theorem PartsI.top {B g n c : Nat} {w : World} {p q : List Tree} {xs : List Value} (h : PartsI B w (.slice (some ⟨g, 0, none⟩) n c) (p ++ q) xs) : ∃ zs, zs.length = q.length * 6 ∧ xs = xs.take (p.length * 6) ++ zs ∧ NodesC (hideO (some g) (mask B w)) q zs ∧ (∀ j u, zs[j]? = some u → w.cell? ((⟨g, p.length * 6, none⟩ : Addr).add j) = some u) := by
  obtain ⟨ys, zs, rfl, h1, h2⟩ := NodesC.split _ _ _ h.n
  have hl1 := h1.len
  have hl2 := h2.len
  have htk : (ys ++ zs).take (p.length * 6) = ys := by rw [← hl1]; exact List.take_left
  refine ⟨zs, hl2, by rw [htk], h2, fun j u hu => ?_⟩
  have := h.o.cells (g := g) rfl (p.length * 6 + j) u (by rw [List.getElem?_append_right (by omega), ← hu]; congr 1; omega)
  rw [Addr.add_mid, Nat.zero_add] at this
  rw [Addr.add_mid]
  exact this
theorem kept_own2 {w w1 w2 : World} {g : Nat} (h : Kept w w1) (hg : w1.grownBy w2 (some g)) (hlt : w.heap.size ≤ g) : Kept w w2 :=
  ⟨hg.os.trans h.os, hg.tape.trans h.tape, hg.output.trans h.output, Nat.le_trans h.size hg.size, fun k hk => (hg.block k (Nat.lt_of_lt_of_le hk h.size) (by intro e; cases e; omega)).trans (h.block k hk)⟩
theorem NodesC.ones {w : World} : ∀ (ts : List Tree) (xs : List Value), NodesC w ts xs → ∀ u ∈ xs, u.oneCell' = true
  | [], xs, h => by
    unfold NodesC at h
    subst h
    intro u hu
    cases hu
  | .mk k set mn mx lz subs :: ts, xs, h => by
    unfold NodesC at h
    obtain ⟨a, b, rfl, h1, h2⟩ := h
    unfold NodeC at h1
    obtain ⟨A1, c1, A2, c2, rfl, _⟩ := h1
    intro u hu
    rcases List.mem_append.1 hu with hu | hu
    · simp at hu
      rcases hu with rfl | rfl | rfl | rfl | rfl | rfl <;> rfl
    · exact NodesC.ones ts b h2 u hu
/-- Append, in a region. -/
theorem step_own {P : Program} {ops : Array Oper} {o : Oper} {a : Act} {w : World} {K : Act → World → Prop} {Q : Exit → Act → World → Prop} {E : Prop} (hgd : o.guard = none) (s x : Operand) (t : TypeId)
    (ho : o.op = .call { callee := .builtin .append, args := #[s, x], argTypes := #[t, t] })
    (base : Nat) (e : TypeId) (i : TypeInfo) (z : Value) (size bytes : Nat) (ht : P.underlying t = some (.slice e)) (hi : P.info? e = some i) (hz : i.zero = some z)
    (hsize : i.size = size) (hby : i.bytes = bytes) (hzs : z.cells.size = size) (hsz : 0 < size)
    (v : Value) (n : Nat) (xs : List Value) (hs : a.eval s = v) (hown : w.ownsRow base e size v n xs)
    (ad : Addr) (m c : Nat) (news : List Value) (hx : a.eval x = .slice (some ad) m c) (hl : news.length = m * size) (hnews : ∀ j u, news[j]? = some u → w.cell? (ad.add j) = some u) (h1 : ∀ u ∈ news, u.oneCell' = true)
    (h63 : n + m ≤ maxLen) (hbytes : (n + m) * bytes ≤ 140737488355328) (hbase : base ≤ w.heap.size)
    (h : ∀ v' w', w'.ownsRow base e size v' (n + m) (xs ++ news) → w.grownBy w' v.ownBlock → (v'.ownBlock = v.ownBlock ∨ v'.ownBlock = some w.heap.size) → K (a.put o.dst v') w') :
    if Region.wanted o (yielded ops a.tmps) = true then Oper.wp P o a w K Q else E := by
  have hw : Region.wanted o (yielded ops a.tmps) = true := by simp [Region.wanted, hgd]
  rw [if_pos hw]
  obtain ⟨v', w', hr, h2, h3, _, h5⟩ := run_append_own_at (P := P) w base t o.type e i z size bytes ht hi hz hsize hby hzs hsz v n xs hown ad m c news hl hnews h1 h63 hbytes hbase
  unfold Oper.wp execOp
  simp only [ho, resolve, invoke, builtin, Sem.run_bind, Sem.run_pure, Result.andThen_ok, List.map_toArray, List.map_cons, List.map_nil, hs, hx, hr]
  exact h v' w' h2 h3 h5
end Go.Proofs.YtmgkdmbifecekaaGreatDoor
