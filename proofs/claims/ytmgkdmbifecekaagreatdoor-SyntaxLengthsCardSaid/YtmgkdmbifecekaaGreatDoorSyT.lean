/-
  Package syntax: trees in memory.
-/
import Derived.Test.YtmgkdmbifecekaaGreatDoorMlaf
set_option linter.all false
set_option linter.unusedSimpArgs false
set_option linter.unusedVariables false
set_option linter.unusedSectionVars false
namespace Go.Proofs.YtmgkdmbifecekaaGreatDoor
open Go.RowKit Go.Shelf
/-- A tree, as it is read. -/
inductive Tree where
  | mk (kind : Int) (set : List Rng) (mn mx : Int) (lz : Bool) (subs : List Tree)
theorem rd_inj {w : World} {B n : Nat} {A : Option Addr} {xs ys : List Value} (h : Rd w B A n xs) (h' : Rd w B A n ys) : xs = ys := by
  apply List.ext_getElem (h.1.trans h'.1.symm)
  intro i h1 h2
  have hn : 0 < n := by have := h.1; omega
  obtain ⟨ad, e, _, hc⟩ := h.2 hn
  obtain ⟨ad', e', _, hc'⟩ := h'.2 hn
  rw [e] at e'
  cases e'
  have g1 := hc i _ (List.getElem?_eq_getElem h1)
  have g2 := hc' i _ (List.getElem?_eq_getElem h2)
  rw [g1] at g2
  exact Option.some.inj g2
theorem rngs_inj : ∀ {L M : List Rng}, L.length = M.length → rngs L = rngs M → L = M
  | [], [], _, _ => rfl
  | [], _ :: _, h, _ => by cases h
  | _ :: _, [], h, _ => by cases h
  | (a, b) :: L, (c, d) :: M, h, e => by
    rw [rngs_cons, rngs_cons] at e
    simp at e
    rw [e.1, e.2.1, rngs_inj (by simpa using h) e.2.2]
/-- A row that is read, and lies in a block of its own. -/
def RdP (w : World) (A : Option Addr) (n : Nat) (xs : List Value) : Prop := Rd w w.heap.size A n xs ∧ (0 < n → ∀ ad, A = some ad → Lies w ad)
theorem lies_kept {w w' : World} (hk : Kept w w') {p : Addr} (h : Lies w p) : Lies w' p := by
  obtain ⟨cs, t, h⟩ := h
  exact ⟨cs, t, heap_kept hk h⟩
theorem rdp_kept {w w' : World} (hk : Kept w w') {A : Option Addr} {n : Nat} {xs : List Value} (h : RdP w A n xs) : RdP w' A n xs := ⟨rd_kept hk h.1, fun hn ad e => lies_kept hk (h.2 hn ad e)⟩
/-- Sizes that are none too great. -/
def SzOk (a b : Nat) : Prop := a ≤ 4611686018427387904 ∧ b ≤ 1000000000000000000
mutual
/-- Six cells are a node. -/
def NodeC (w : World) : Tree → List Value → Prop
  | .mk k set mn mx lz subs, cs => ∃ A1 c1 A2 c2, cs = [.int .u8 k, .slice A1 set.length c1, .int .i64 mn, .int .i64 mx, .bool lz, .slice A2 subs.length c2] ∧ SzOk set.length subs.length ∧ RdR w w.heap.size A1 set ∧ ∃ xs, RdP w A2 (subs.length * 6) xs ∧ NodesC w subs xs
/-- Cells are nodes, one after the other. -/
def NodesC (w : World) : List Tree → List Value → Prop
  | [], xs => xs = []
  | t :: ts, xs => ∃ a b, xs = a ++ b ∧ NodeC w t a ∧ NodesC w ts b
end
mutual
theorem NodeC.kept {w w' : World} (hk : Kept w w') : ∀ (t : Tree) (cs : List Value), NodeC w t cs → NodeC w' t cs
  | .mk k set mn mx lz subs, cs, h => by
    unfold NodeC at h ⊢
    obtain ⟨A1, c1, A2, c2, e, hz, h1, xs, h2, h3⟩ := h
    exact ⟨A1, c1, A2, c2, e, hz, rd_kept hk h1, xs, rdp_kept hk h2, NodesC.kept hk subs xs h3⟩
theorem NodesC.kept {w w' : World} (hk : Kept w w') : ∀ (ts : List Tree) (xs : List Value), NodesC w ts xs → NodesC w' ts xs
  | [], xs, h => by unfold NodesC at h ⊢; exact h
  | t :: ts, xs, h => by
    unfold NodesC at h ⊢
    obtain ⟨a, b, e, h1, h2⟩ := h
    exact ⟨a, b, e, NodeC.kept hk t a h1, NodesC.kept hk ts b h2⟩
end
theorem NodeC.len {w : World} : ∀ {t : Tree} {cs : List Value}, NodeC w t cs → cs.length = 6
  | .mk _ _ _ _ _ _, cs, h => by
    unfold NodeC at h
    obtain ⟨_, _, _, _, rfl, _⟩ := h
    rfl
theorem NodesC.len {w : World} : ∀ {ts : List Tree} {xs : List Value}, NodesC w ts xs → xs.length = ts.length * 6
  | [], xs, h => by unfold NodesC at h; rw [h]; rfl
  | t :: ts, xs, h => by
    unfold NodesC at h
    obtain ⟨a, b, rfl, h1, h2⟩ := h
    rw [List.length_append, h1.len, h2.len, List.length_cons]
    omega
/-- One of them. -/
theorem NodesC.get {w : World} : ∀ {ts : List Tree} {xs : List Value}, NodesC w ts xs → ∀ (k : Nat) (t : Tree), ts[k]? = some t → NodeC w t ((xs.drop (k * 6)).take 6)
  | [], _, _, k, t, ht => by simp at ht
  | t0 :: ts, xs, h, k, t, ht => by
    unfold NodesC at h
    obtain ⟨a, b, rfl, h1, h2⟩ := h
    cases k with
    | zero =>
      cases ht
      rw [Nat.zero_mul, List.drop_zero, List.take_append_of_le_length (by rw [h1.len]; exact Nat.le_refl _), List.take_of_length_le (by rw [h1.len]; exact Nat.le_refl _)]
      exact h1
    | succ k =>
      have := h2.get k t ht
      rw [show (k + 1) * 6 = a.length + k * 6 from by rw [h1.len]; omega, List.drop_append, List.drop_of_length_le (by omega), Nat.add_sub_cancel_left, List.nil_append]
      exact this
mutual
/-- What lies there is one tree alone. -/
theorem NodeC.one {w : World} : ∀ (t t' : Tree) (cs : List Value), NodeC w t cs → NodeC w t' cs → t = t'
  | .mk k set mn mx lz subs, .mk k' set' mn' mx' lz' subs', cs, h, h' => by
    unfold NodeC at h h'
    obtain ⟨A1, c1, A2, c2, e, hz, h1, xs, h2, h3⟩ := h
    obtain ⟨A1', c1', A2', c2', e', hz', h1', xs', h2', h3'⟩ := h'
    rw [e] at e'
    simp at e'
    obtain ⟨rfl, ⟨rfl, hl1, rfl⟩, rfl, rfl, rfl, rfl, hl2, rfl⟩ := e'
    have hs : set = set' := rngs_inj hl1 (rd_inj h1 (by rw [hl1]; exact h1'))
    have hx : xs = xs' := rd_inj h2.1 (by rw [hl2]; exact h2'.1)
    subst hs hx
    rw [NodesC.one subs subs' xs hl2 h3 h3']
theorem NodesC.one {w : World} : ∀ (ts ts' : List Tree) (xs : List Value), ts.length = ts'.length → NodesC w ts xs → NodesC w ts' xs → ts = ts'
  | [], ts', xs, hl, h, h' => by
    cases ts' with
    | nil => rfl
    | cons => cases hl
  | t :: ts, ts', xs, hl, h, h' => by
    cases ts' with
    | nil => cases hl
    | cons t' ts' =>
      unfold NodesC at h h'
      obtain ⟨a, b, rfl, h1, h2⟩ := h
      obtain ⟨a', b', e, h1', h2'⟩ := h'
      have hab := List.append_inj e (by rw [h1.len, h1'.len])
      obtain ⟨rfl, rfl⟩ := hab
      rw [NodeC.one t t' a h1 h1', NodesC.one ts ts' b (by simpa using hl) h2 h2']
end
end Go.Proofs.YtmgkdmbifecekaaGreatDoor
