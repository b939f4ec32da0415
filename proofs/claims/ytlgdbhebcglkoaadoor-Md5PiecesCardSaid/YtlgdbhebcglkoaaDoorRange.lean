/-
  A range over a function that writes memory of its own while it yields: what each round is, and what comes behind, for a loop that is never left early.
-/
import Derived.Test.YtlgdbhebcglkoaaDoorFence
namespace Go.Proofs.YtlgdbhebcglkoaaDoor
open Go.RowKit Go.Shelf
/-- All cells stay, but those of block D. -/
def KpD (D : Nat) (A B : World) : Prop := A.heap.size ≤ B.heap.size ∧ ∀ g t cs fr, g ≠ D → A.heap[g]? = some (.cells cs t fr) → B.heap[g]? = some (.cells cs t fr)
theorem KpD.refl (D : Nat) (A : World) : KpD D A A := ⟨Nat.le_refl _, fun _ _ _ _ _ h => h⟩
theorem KpD.trans {D : Nat} {A B C : World} (h : KpD D A B) (k : KpD D B C) : KpD D A C := ⟨Nat.le_trans h.1 k.1, fun g t cs fr hg ha => k.2 g t cs fr hg (h.2 g t cs fr hg ha)⟩
theorem KpD.putObj {D : Nat} (W : World) (l : Nat) (o o' : Obj) (h : W.heap[l]? = some o) (ho : o.isCells = false) : KpD D W (W.putObj l o') :=
  ⟨by simp, fun g t cs fr _ hg => (World.putObj_heap_other (fun e => by subst e; rw [hg] at h; cases h; cases ho)).trans hg⟩
theorem KpD.of_below {D n : Nat} {A B : World} (h : Below n A B) (hn : A.heap.size ≤ n) : KpD D A B := ⟨h.size, fun g _ _ _ _ ha => (h.block g (by have := (Array.getElem?_eq_some_iff.1 ha).1; omega)).trans ha⟩
/-- A predicate of worlds that abides whatever is laid or turned from block B on. -/
def Abd {β : Type} (B : Nat) (J : β → World → Prop) : Prop := ∀ s X Y row, J s X → X.grownBy Y row → (∀ r, row = some r → B ≤ r) → J s Y
theorem Abd.more {β : Type} {B C : Nat} {J : β → World → Prop} (h : Abd B J) (hc : B ≤ C) : Abd C J := fun s X Y row hs hg hr => h s X Y row hs hg (fun r e => Nat.le_trans hc (hr r e))
theorem Abd.and {β : Type} {B : Nat} {J K : β → World → Prop} (h : Abd B J) (k : Abd B K) : Abd B (fun s W => J s W ∧ K s W) := fun s X Y row hs hg hr => ⟨h s X Y row hs.1 hg hr, k s X Y row hs.2 hg hr⟩
theorem Abd.below {β : Type} {n B : Nat} {w : World} (hn : n ≤ w.heap.size) (hB : n ≤ B) : Abd B (fun (_ : β) W => Below n w W) :=
  fun _ _ _ _ hs hg hr => hs.grown hg (Nat.le_trans hn hs.size) (fun k e => Nat.le_trans hB (hr k e))
theorem Abd.alloc {β : Type} {B : Nat} {J : β → World → Prop} (h : Abd B J) {s : β} {W : World} (o : Obj) (hs : J s W) : J s (W.alloc o) :=
  h s W _ none hs (World.grownBy_alloc W o none) (fun r e => by cases e)
theorem Abd.putObj {β : Type} {B : Nat} {J : β → World → Prop} (h : Abd B J) {s : β} {W : World} {l : Nat} (o : Obj) (hs : J s W) (hB : B ≤ l) : J s (W.putObj l o) :=
  h s W _ (some l) hs (grownBy_putObj' W l o) (fun r e => by cases e; exact hB)
/-- What an iterator yields, one after the other: xs, if no round stops it; between two of them it may turn what it laid itself. -/
def Yields {α : Type} (F : Fence) (n : Nat) (P : Program) (g : Nat) (lb : Array Value) (encs : α → Array Value) (Kp : World → World → Prop) (xs : List α) (w : World) : Prop :=
  ∀ (l : Nat) (J : List α → World → Prop) (W : World), Below w.heap.size w W → Abd W.heap.size J →
    (∀ pre x W1, J pre W1 → pre ++ [x] <+: xs → YieldAt F (n - 1) P l (encs x) W1 fun e W' => e = .returned (.bool true) ∧ J (pre ++ [x]) W' ∧ Kp W1 W') →
    J [] W → CallsIn F n P g (#[.func (.yield l) #[] #[]] ++ lb) W fun e W' => (∃ v, e = .returned v) ∧ J xs W'
section
variable {F : Fence} {n : Nat} {P : Program}
theorem wpIn_range {α : Type} {g : Operand} {ps : Array Tmp} {assign body : Code} {Q : Exit → Act → World → Prop} {a : Act} {w : World}
    (hro : F.round = none) (h1 : 1 ≤ n) {gf : Nat} {lb : Array Value} (hg : a.eval g = .func (.func gf) #[] lb) (hFg : F.fn gf) (eg : ∀ args w, (callFunc gf args).run P w = .ok (.enter gf args) w)
    {encs : α → Array Value} {Kp : World → World → Prop} {xs : List α} {w0 : World} (hseq : Yields F (n - 1) P gf lb encs Kp xs w0) (hb0 : Below w0.heap.size w0 w) (hps : ∀ x, (encs x).size = ps.size)
    (hKt : ∀ {A B C : World}, Kp A B → Kp B C → Kp A C) (hKb : ∀ (W : World) (l : Nat) (o o' : Obj), W.heap[l]? = some o → o.isCells = false → Kp W (W.putObj l o'))
    (J : List α → World → Prop) (hJ : Abd w.heap.size J) (h0 : J [] w)
    (hround : ∀ (l : Nat) (pre : List α) (x : α) (W : World), J pre W → pre ++ [x] <+: xs →
      assign.wpIn (F.inRound l) (n - 1 - 1) P (Exit.then (fun a' W1 => KeepsFrom w.heap.size W W1 ∧ Kp W W1 ∧ J pre W1 ∧
        ∀ W2, W2.heap.size = W1.heap.size → W1.grownBy W2 (some l) → (∀ (g : Nat) (t : TypeId) (cs : Array Value) (fr : Nat × Nat), W1.heap[g]? = some (Obj.cells cs t fr) → W2.heap[g]? = some (Obj.cells cs t fr)) → J pre W2 →
          body.wpIn (F.inRound l) (n - 1 - 1) P (fun e _ W3 => e = .normal ∧ KeepsFrom w.heap.size W2 W3 ∧ Kp W2 W3 ∧ J (pre ++ [x]) W3) a' W2) (fun _ _ _ => False))
        { tmps := (ps.zip (encs x)).foldl (fun t (p, v) => t.setIfInBounds p v) a.tmps, defers := [] } W)
    (hdone : ∀ (D : Nat) (W : World), w.heap.size ≤ D → J xs W → W.heap[D]? = some (.deferred (some [])) → Q .normal { a with defers := { target := .collected D, args := #[] } :: a.defers } W) :
    (Code.rangeFunc g ps assign body).wpIn F n P Q a w := by
  refine wpIn_rangeFunc fun fn hfn => ?_
  rw [hro]
  let mk (st : LoopState) : Loop := { state := st, pending := none, fn, tmps := a.tmps, params := ps, assign, body, defers := w.heap.size }
  let w1 : World := (w.alloc (.deferred (some []))).alloc (.loop (mk .ready))
  have hz : (w.alloc (.deferred (some []))).heap.size = w.heap.size + 1 := by simp
  have hz1 : w1.heap.size = w.heap.size + 2 := by simp [w1]
  have hl1 : w1.heap[w.heap.size + 1]? = some (.loop (mk .ready)) := by
    rw [← hz]; exact heap_alloc_new _ _
  have hd1 : w1.heap[w.heap.size]? = some (.deferred (some [])) := (Below.heap_alloc _ _ _ (by simp)).trans (heap_alloc_new w _)
  -- the invariant with the loop's record and the block for deferred calls beside it
  let J' : List α → World → Prop := fun pre W => J pre W ∧ W.heap[w.heap.size + 1]? = some (.loop (mk .ready)) ∧ W.heap[w.heap.size]? = some (.deferred (some []))
  have kept : ∀ {X Y : World} {row : Option Nat} {k : Nat} {o : Obj}, X.grownBy Y row → (∀ r, row = some r → w1.heap.size ≤ r) → k < w1.heap.size → X.heap[k]? = some o → Y.heap[k]? = some o := fun hg hr hk hx =>
    (hg.block _ (Array.getElem?_eq_some_iff.1 hx).1 (fun e => by have := hr _ e.symm; omega)).trans hx
  have hJ' : Abd w1.heap.size J' := fun s X Y row hs hg hr =>
    ⟨hJ s X Y row hs.1 hg (fun r e => by have := hr r e; omega), kept hg hr (by omega) hs.2.1, kept hg hr (by omega) hs.2.2⟩
  refine ⟨w.heap.size + 1, [{ target := .collected w.heap.size, args := #[] }], w1, { target := .fn (.func gf) lb, args := #[.func (.yield (w.heap.size + 1)) #[] #[]] }, w1, gf,
    #[.func (.yield (w.heap.size + 1)) #[] #[]] ++ lb, w1, run_enterLoop_outer _ _ _ _ _, ?_, ?_, ?_, fun _ => h1, ?_⟩
  · simp only [resolve, hg]
    simp [go_sem]
  · intro f' hf'
    simp [Target.leads] at hf'
    subst hf'; exact hFg
  · simp [invoke, go_sem, eg]
  refine (hseq (w.heap.size + 1) J' w1 (hb0.trans ((((Below.refl w.heap.size w).alloc (Nat.le_refl _) _).alloc (by simp) _).mono hb0.size)) hJ' ?_ ⟨hJ.alloc _ (hJ.alloc _ h0), hl1, hd1⟩).mono ?_
  · rintro pre x W ⟨hj, hl, hd⟩ hpre
    refine ⟨fn, _, assign, body, run_yield (P := P) (args := encs x) hl (hps x), roundIn_of_wpIn hfn (wpIn_mono (hround (w.heap.size + 1) pre x W hj hpre) ?_)⟩
    intro e a' W1 hq
    cases e <;> try exact hq.elim
    obtain ⟨hk1, hp1, hj1, hb⟩ := hq
    have hl1 := hk1.same _ _ (by omega) hl rfl
    have hd1 := hk1.same _ _ (Nat.le_refl _) hd rfl
    have hlt := (Array.getElem?_eq_some_iff.1 hl1).1
    let W2 := W1.putObj (w.heap.size + 1) (.loop (mk .busy))
    have hl2 : W2.heap[w.heap.size + 1]? = some (.loop (mk .busy)) := World.putObj_heap_same hlt
    have hd2 : W2.heap[w.heap.size]? = some (.deferred (some [])) := (World.putObj_heap_other (by omega)).trans hd1
    have hc2 : ∀ (g : Nat) (t : TypeId) (cs : Array Value) (fr : Nat × Nat), W1.heap[g]? = some (Obj.cells cs t fr) → W2.heap[g]? = some (Obj.cells cs t fr) := fun g t cs fr hg =>
      (World.putObj_heap_other (fun e => by have h := hg; rw [show g = w.heap.size + 1 from by omega, hl1] at h; cases h)).trans hg
    refine ⟨W2, run_beginRound hl1 rfl, wpIn_mono (hb W2 (by simp [W2]) (grownBy_putObj' _ _ _) hc2 (hJ.putObj _ hj1 (by omega))) ?_⟩
    rintro e a3 W3 ⟨rfl, hk3, hp3, hj3⟩
    have hl3 := hk3.same _ _ (by omega) hl2 rfl
    have hd3 := hk3.same _ _ (Nat.le_refl _) hd2 rfl
    refine ⟨_, _, run_endRound (P := P) none hl3, rfl, ⟨hJ.putObj _ hj3 (by omega), World.putObj_heap_same (Array.getElem?_eq_some_iff.1 hl3).1, (World.putObj_heap_other (by omega)).trans hd3⟩, ?_⟩
    exact hKt hp1 (hKt (hKb _ _ _ _ hl1 rfl) (hKt hp3 (hKb _ _ _ _ hl3 rfl)))
  · rintro e W2 ⟨⟨v, rfl⟩, hj, hl, hd⟩
    exact ⟨none, _, run_endLoop (P := P) hl (by simp [mk]), hdone _ _ (Nat.le_refl _) (hJ.putObj _ hj (by omega)) ((World.putObj_heap_other (by omega)).trans hd)⟩
end
end Go.Proofs.YtlgdbhebcglkoaaDoor
