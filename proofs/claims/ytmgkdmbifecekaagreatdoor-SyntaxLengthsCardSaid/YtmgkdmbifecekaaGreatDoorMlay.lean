/-
  Package syntax: parts that are put together. Package syntax: what a reader leaves is an ending of what it was given.
-/
import Derived.Test.YtmgkdmbifecekaaGreatDoorSr8
set_option linter.all false
set_option linter.unusedSimpArgs false
set_option linter.unusedVariables false
set_option linter.unusedSectionVars false
namespace Go.Proofs.YtmgkdmbifecekaaGreatDoor
open Go.RowKit Go.Shelf
/-- A world without a block. -/
def hideO (o : Option Nat) (w : World) : World := match o with
  | none => w
  | some b => w.putObj b (.cells #[] 0 (0, 0))
theorem hideO_size (o : Option Nat) (w : World) : (hideO o w).heap.size = w.heap.size := by
  cases o with
  | none => rfl
  | some b => simp [hideO]
theorem hideO_at {o : Option Nat} {w : World} {k : Nat} (h : o ≠ some k) : (hideO o w).heap[k]? = w.heap[k]? := by
  cases o with
  | none => rfl
  | some b => exact World.putObj_heap_other (w := w) (fun e => h (by rw [e]))
theorem hideO_cell {o : Option Nat} {w : World} {p : Addr} {v : Value} (h : (hideO o w).cell? p = some v) : o ≠ some p.block := by
  intro e
  subst e
  unfold World.cell? hideO at h
  by_cases hb : p.block < w.heap.size
  · rw [World.putObj_heap_same (w := w) hb] at h
    simp at h
  · rw [Array.getElem?_eq_none (by simp; omega)] at h
    cases h
theorem hm_cell {o : Option Nat} {B : Nat} {w : World} {p : Addr} {v : Value} (h : (hideO o (mask B w)).cell? p = some v) : o ≠ some p.block ∧ B ≤ p.block ∧ p.block < w.heap.size ∧ (hideO o (mask B w)).heap[p.block]? = w.heap[p.block]? := by
  have h1 := hideO_cell h
  have h2 := hideO_at (w := mask B w) h1
  have h3 : (mask B w).cell? p = some v := by
    unfold World.cell? at h ⊢
    rw [h2] at h
    exact h
  have h4 := mask_cell h3
  refine ⟨h1, h4, ?_, h2.trans (mask_hi h4)⟩
  have : (mask B w).heap[p.block]? ≠ none := fun e => by unfold World.cell? at h3; rw [e] at h3; cases h3
  rw [← mask_size B w]
  exact Nat.lt_of_not_le fun h => this (Array.getElem?_eq_none h)
theorem NodesC.app {w : World} : ∀ {ts : List Tree} {xs : List Value} {t : Tree} {cs : List Value}, NodesC w ts xs → NodeC w t cs → NodesC w (ts ++ [t]) (xs ++ cs)
  | [], xs, t, cs, h, hn => by
    unfold NodesC at h
    subst h
    rw [List.nil_append, List.nil_append]
    unfold NodesC
    exact ⟨cs, [], (List.append_nil _).symm, hn, by unfold NodesC; rfl⟩
  | u :: ts, xs, t, cs, h, hn => by
    unfold NodesC at h
    obtain ⟨a, b, rfl, h1, h2⟩ := h
    rw [List.cons_append, List.append_assoc]
    unfold NodesC
    exact ⟨a, b ++ cs, rfl, h1, NodesC.app h2 hn⟩
/-- Parts, in a row of one's own. -/
structure PartsI (B : Nat) (w : World) (v : Value) (ts : List Tree) (xs : List Value) : Prop where
  o : w.ownsRow B 25 6 v ts.length xs
  n : NodesC (hideO v.ownBlock (mask B w)) ts xs
theorem PartsI.nil {B : Nat} {w : World} : PartsI B w (.slice none 0 0) [] [] := ⟨⟨rfl, .inl ⟨rfl, rfl⟩⟩, by unfold NodesC; rfl⟩
theorem PartsI.grown {B g : Nat} {w w' : World} {v : Value} {ts : List Tree} {xs : List Value} (h : PartsI B w v ts xs) (hg : w.grownBy w' (some g)) (hlt : g < B) : PartsI B w' v ts xs := by
  have hb : ∀ b, v.ownBlock = some b → B ≤ b := fun b e => (h.o.lt b e).1
  refine ⟨h.o.kept hg ?_, NodesC.sub (by rw [hideO_size, hideO_size, mask_size, mask_size]; exact hg.size) ?_ ts xs h.n⟩
  · rcases hv : v.ownBlock with _ | b
    · exact .inl rfl
    · refine .inr fun e => ?_
      cases e
      have := hb _ hv
      omega
  · intro p u hp
    obtain ⟨h1, h2, h3, h4⟩ := hm_cell hp
    rw [hideO_at h1, mask_hi h2, h4]
    exact hg.block _ h3 (by intro e; cases e; omega)
theorem PartsI.kept {B : Nat} {w w' : World} {v : Value} {ts : List Tree} {xs : List Value} (h : PartsI B w v ts xs) (hk : Kept w w') : PartsI B w' v ts xs := by
  refine ⟨own_below h.o hk, NodesC.sub (by rw [hideO_size, hideO_size, mask_size, mask_size]; exact hk.size) ?_ ts xs h.n⟩
  intro p u hp
  obtain ⟨h1, h2, h3, h4⟩ := hm_cell hp
  rw [hideO_at h1, mask_hi h2, h4]
  exact hk.block _ h3
theorem PartsI.set {B g : Nat} {w : World} {v : Value} {ts : List Tree} {xs : List Value} (h : PartsI B w v ts xs) (hlt : g < B) (cs : Array Value) : PartsI B (w.setRow g cs) v ts xs := by
  have hB := below_setRow (Below.refl g w) (Nat.le_refl g) cs
  exact h.grown (g := g) ⟨hB.os, hB.tape, hB.output, hB.size, fun k hk hne => heap_setRow_out (by intro e; exact hne (by rw [e])) cs⟩ hlt
/-- One more. -/
theorem PartsI.push {B Bt : Nat} {w w' : World} {v v' : Value} {ts : List Tree} {xs cs : List Value} {t : Tree} (h : PartsI B w v ts xs) (hBt : B ≤ Bt) (ho : ∀ b, v.ownBlock = some b → b < Bt) (hn : NodeC (mask Bt w) t cs)
    (h1 : w'.ownsRow B 25 6 v' (ts.length + 1) (xs ++ cs)) (h2 : w.grownBy w' v.ownBlock) (h3 : v'.ownBlock = v.ownBlock ∨ v'.ownBlock = some w.heap.size) : PartsI B w' v' (ts ++ [t]) (xs ++ cs) := by
  have hs : (hideO v.ownBlock (mask B w)).heap.size ≤ (hideO v'.ownBlock (mask B w')).heap.size := by rw [hideO_size, hideO_size, mask_size, mask_size]; exact h2.size
  have hne : ∀ k, k < w.heap.size → v.ownBlock ≠ some k → v'.ownBlock ≠ some k := by
    intro k hk hk2 e
    rcases h3 with h3 | h3
    · rw [h3] at e; exact hk2 e
    · rw [h3] at e; cases e; omega
  refine ⟨by rw [List.length_append]; exact h1, NodesC.app (NodesC.sub hs ?_ ts xs h.n) (NodeC.sub (w := mask Bt w) (by rw [hideO_size, mask_size, mask_size]; exact h2.size) ?_ t cs hn)⟩
  · intro p u hp
    obtain ⟨g1, g2, g3, g4⟩ := hm_cell hp
    rw [hideO_at (hne _ g3 g1), mask_hi g2, g4]
    exact h2.block _ g3 (Ne.symm g1)
  · intro p u hp
    have g2 := mask_cell hp
    have g3 : p.block < w.heap.size := by
      have : (mask Bt w).heap[p.block]? ≠ none := fun e => by unfold World.cell? at hp; rw [e] at hp; cases hp
      rw [← mask_size Bt w]
      exact Nat.lt_of_not_le fun h => this (Array.getElem?_eq_none h)
    have g1 : v.ownBlock ≠ some p.block := fun e => by have := ho _ e; omega
    rw [hideO_at (hne _ g3 g1), mask_hi (Nat.le_trans hBt g2), mask_hi g2]
    exact h2.block _ g3 (Ne.symm g1)
/-- They are nodes of the world. -/
theorem PartsI.nodes {B : Nat} {w : World} {v : Value} {ts : List Tree} {xs : List Value} (h : PartsI B w v ts xs) : NodesC (mask B w) ts xs := by
  refine NodesC.sub (by rw [hideO_size]; exact Nat.le_refl _) ?_ ts xs h.n
  intro p u hp
  obtain ⟨g1, g2, g3, g4⟩ := hm_cell hp
  rw [mask_hi g2, g4]
theorem PartsI.row {B : Nat} {w : World} {v : Value} {ts : List Tree} {xs : List Value} (h : PartsI B w v ts xs) : ∃ A c, v = .slice A ts.length c ∧ RdP (mask B w) A (ts.length * 6) xs ∧ RdP w A (ts.length * 6) xs := by
  rcases h.o.2 with ⟨rfl, h0⟩ | ⟨g, cap, cur, rfl, hb, hg, hc, hx, hs, ht⟩
  · have hL : ts = [] := List.length_eq_zero_iff.1 h0
    subst hL
    have hx : xs = [] := List.length_eq_zero_iff.1 (by have := h.o.1; simpa using this)
    subst hx
    exact ⟨none, 0, rfl, ⟨Rd.nil, fun h => absurd h (by simp)⟩, ⟨Rd.nil, fun h => absurd h (by simp)⟩⟩
  · have hcell : ∀ j u, xs[j]? = some u → w.cell? ((⟨g, 0, none⟩ : Addr).add j) = some u := by
      intro j u hu
      have hj : j < ts.length * 6 := by have := (List.getElem?_eq_some_iff.1 hu).1; rw [h.o.1] at this; exact this
      rw [add0, h.o.cellAt j hj]
      exact hu
    refine ⟨_, _, rfl, ⟨⟨h.o.1, fun _ => ⟨_, rfl, by rw [mask_size]; exact heap_lt hg, fun j u hu => ?_⟩⟩, fun _ ad e => by cases e; exact ⟨cur, _, (mask_hi hb).trans hg⟩⟩, ⟨⟨h.o.1, fun _ => ⟨_, rfl, heap_lt hg, hcell⟩⟩, fun _ ad e => by cases e; exact ⟨cur, _, hg⟩⟩⟩
    have h2 := hcell j u hu
    unfold World.cell? at h2 ⊢
    rw [addBlock] at h2 ⊢
    rw [mask_hi hb]
    exact h2
/-- Parts joined. -/
theorem sjoin_any (k : Int) (B : Nat) (w : World) (v : Value) (ts : List Tree) (xs : List Value) (hl : ts.length ≤ 1000000) (h : PartsI B w v ts xs) : Calls Tryz.prog 68 #[.int .u8 k, v] w fun e w' => ∃ kd A1 sn c1 mn mx lz A2 un c2, e = .returned (ndV kd A1 sn c1 mn mx lz A2 un c2) ∧ NodeM B w' (joinT k ts) (ndV kd A1 sn c1 mn mx lz A2 un c2) ∧ Kept w w' := by
  obtain ⟨A, c, rfl, hm, hr⟩ := h.row
  have hn := h.nodes
  rcases ts with _ | ⟨t, _ | ⟨t2, ts⟩⟩
  · refine (joined_0 k A c w).mono ?_
    rintro e w' ⟨rfl, hk⟩
    refine ⟨_, _, _, _, _, _, _, _, _, _, rfl, ?_, hk⟩
    refine ⟨_, rfl, ?_⟩
    show NodeC _ eT _
    unfold NodeC
    exact ⟨none, 0, none, 0, rfl, ⟨by simp, by simp⟩, Rd.nil, [], ⟨Rd.nil, fun h => absurd h (by simp)⟩, by unfold NodesC; rfl⟩
  · unfold NodesC at hn
    obtain ⟨a, b, rfl, h1, h2⟩ := hn
    unfold NodesC at h2
    subst h2
    rw [List.append_nil] at hm hr
    obtain ⟨kd, set, mn, mx, lz, subs⟩ := t
    have h1' := h1
    unfold NodeC at h1'
    obtain ⟨A1, c1, A2, c2, rfl, _⟩ := h1'
    obtain ⟨ad, rfl, hb, hc⟩ := hr.1.2 (by simp)
    refine (joined_1 k ad c kd A1 set.length c1 mn mx lz A2 subs.length c2 w hb (fun j u hu => hc j u (by rw [← hu]; exact (List.getElem?_toArray ..).symm))).mono ?_
    rintro e w' ⟨rfl, hk⟩
    exact ⟨_, _, _, _, _, _, _, _, _, _, rfl, NodeM.kept ⟨_, rfl, h1⟩ (Nat.le_refl _) hk, hk⟩
  · refine (joined_2 k A (t :: t2 :: ts).length c (by simp) w).mono ?_
    rintro e w' ⟨rfl, hk⟩
    refine ⟨_, _, _, _, _, _, _, _, _, _, rfl, NodeM.kept ⟨_, rfl, ?_⟩ (Nat.le_refl _) hk, hk⟩
    have hj : joinT k (t :: t2 :: ts) = .mk k [] 0 0 false (t :: t2 :: ts) := by simp [joinT]
    rw [hj]
    unfold NodeC
    exact ⟨none, 0, A, c, rfl, ⟨by simp, by omega⟩, Rd.nil, xs, hm, hn⟩
end Go.Proofs.YtmgkdmbifecekaaGreatDoor
namespace Go.Proofs.YtmgkdmbifecekaaGreatDoor
open Go.RowKit Go.Shelf
/-- An ending. -/
def Suf (r l : Bs) : Prop := ∃ k, r = l.drop k
theorem Suf.refl (l : Bs) : Suf l l := ⟨0, rfl⟩
theorem Suf.trans {a b c : Bs} (h : Suf a b) (g : Suf b c) : Suf a c := by
  obtain ⟨k, rfl⟩ := h
  obtain ⟨j, rfl⟩ := g
  exact ⟨j + k, by rw [List.drop_drop]⟩
theorem Suf.le {a b : Bs} (h : Suf a b) : a.length ≤ b.length := by
  obtain ⟨k, rfl⟩ := h
  rw [List.length_drop]
  omega
theorem suf_trim (l p : Bs) : Suf (Lib.trimPrefix l p) l := by
  unfold Lib.trimPrefix
  split
  · exact ⟨_, rfl⟩
  · exact Suf.refl l
theorem trim_lt {l p : Bs} (h : Lib.hasPrefix l p = true) (hp : p ≠ []) : (Lib.trimPrefix l p).length < l.length := by
  have hl : p.length ≤ l.length := (List.isPrefixOf_iff_prefix.1 h).length_le
  have h0 : 0 < p.length := List.length_pos_iff.2 hp
  unfold Lib.trimPrefix
  rw [if_pos h, List.length_drop]
  omega
theorem suf_num (l : Bs) : Suf (numR l) l := by
  refine ⟨(l.takeWhile digP).length, ?_⟩
  have h : l.takeWhile digP ++ numR l = l := List.takeWhile_append_dropWhile
  have h2 := List.drop_left (l₁ := l.takeWhile digP) (l₂ := numR l)
  rw [h] at h2
  exact h2.symm
theorem suf_brc {l r : Bs} {a b : Int} (h : brcP l = some (a, b, r)) : Suf r l := by
  unfold brcP at h
  repeat' split at h
  all_goals first | (cases h; done) | (simp only [Option.some.injEq, Prod.mk.injEq] at h; obtain ⟨_, _, rfl⟩ := h; first | exact (suf_trim _ _).trans ((suf_trim _ _).trans (suf_num _)) | exact (suf_trim _ _).trans ((suf_num _).trans ((suf_trim _ _).trans (suf_num _))) | exact (suf_trim _ _).trans (suf_num _))
theorem suf_qua {t t' : Tree} {l r : Bs} (h : quaP t l = some (t', r)) : Suf r l := by
  unfold quaP at h
  split at h
  · simp only [lazP, Option.some.injEq, Prod.mk.injEq] at h; rw [← h.2]; exact (suf_trim _ _).trans (suf_trim _ _)
  · split at h
    · simp only [lazP, Option.some.injEq, Prod.mk.injEq] at h; rw [← h.2]; exact (suf_trim _ _).trans (suf_trim _ _)
    · split at h
      · simp only [lazP, Option.some.injEq, Prod.mk.injEq] at h; rw [← h.2]; exact (suf_trim _ _).trans (suf_trim _ _)
      · split at h
        · split at h
          · cases h
          · rename_i hb
            simp only [lazP, Option.some.injEq, Prod.mk.injEq] at h; rw [← h.2]; exact (suf_trim _ _).trans ((suf_brc hb).trans (suf_trim _ _))
        · simp only [Option.some.injEq, Prod.mk.injEq] at h; rw [← h.2]; exact Suf.refl _
theorem rdrN_two {l : Bs} {L : List Rng} (h : rdrN l = some L) : 2 ≤ l.length := by
  rcases l with _ | ⟨a, _ | ⟨b, r⟩⟩
  · cases h
  · cases h
  · simp
theorem suf_set {l r : Bs} {L : List Rng} (h92 : l.headD 0 ≠ 92 ∨ (rdrN l).isSome = true) (h : setP l = some (L, r)) : Suf r l ∧ r.length < l.length := by
  unfold setP at h
  split at h
  · rename_i hp
    simp only [Option.some.injEq, Prod.mk.injEq] at h
    rw [← h.2]
    exact ⟨suf_trim _ _, trim_lt hp (by simp)⟩
  · split at h
    · rename_i L2 hn
      simp only [Option.some.injEq, Prod.mk.injEq] at h
      rw [← h.2]
      have := rdrN_two hn
      exact ⟨⟨2, rfl⟩, by rw [List.length_drop]; omega⟩
    · rename_i hn
      have h92' : l.headD 0 ≠ 92 := by
        rcases h92 with h9 | h9
        · exact h9
        · rw [hn] at h9; cases h9
      cases l with
      | nil =>
        simp [pntP, escS] at h
      | cons b l =>
        have he : escS (b :: l) = none := esc_none b l h92'
        unfold pntP at h
        rw [he] at h
        dsimp only at h
        split at h
        · cases h
        · rename_i hx
          split at hx
          · cases hx
          · simp only [Option.some.injEq, Prod.mk.injEq] at hx h
            rw [← h.2, ← hx.2]
            exact ⟨⟨1, rfl⟩, by simp⟩
/-- What comes first. -/
def okH : Bs → Bool
  | [] => true
  | b :: r => decide (b.toNat < 128) && decide (b ≠ 91) && (decide (b ≠ 92) || (rdrN (b :: r)).isSome) && (decide (b ≠ 123) || brOk r)
/-- Of ASCII, without classes; behind a \\ a letter of a named set, in braces short numbers. -/
def okB : Bs → Bool
  | [] => true
  | b :: r => okH (b :: r) && okB r
theorem okB_drop : ∀ (k : Nat) {l : Bs}, okB l = true → okB (l.drop k) = true
  | 0, l, h => h
  | k + 1, [], h => by simpa using h
  | k + 1, b :: r, h => by
    unfold okB at h
    rw [Bool.and_eq_true] at h
    rw [List.drop_succ_cons]
    exact okB_drop k h.2
theorem Suf.ok {r l : Bs} (h : Suf r l) (hl : okB l = true) : okB r = true := by
  obtain ⟨k, rfl⟩ := h
  exact okB_drop k hl
theorem okB_br {l : Bs} (hl : okB l = true) (h : Lib.hasPrefix l [123] = true) : brOk (Lib.trimPrefix l [123]) = true := by
  cases l with
  | nil => cases h
  | cons b r =>
    have hb : b = 123 := by
      unfold Lib.hasPrefix at h
      rw [List.isPrefixOf] at h
      simp at h
      exact h.symm
    have ht : Lib.trimPrefix (b :: r) [123] = r := by unfold Lib.trimPrefix; rw [if_pos h]; rfl
    rw [ht]
    unfold okB okH at hl
    simp only [Bool.and_eq_true, Bool.or_eq_true, decide_eq_true_eq] at hl
    rcases hl.1.2 with h9 | h9
    · exact absurd hb h9
    · exact h9
theorem okB_head {b : UInt8} {r : Bs} (hl : okB (b :: r) = true) : b.toNat < 128 ∧ b ≠ 91 ∧ (b = 92 → (rdrN (b :: r)).isSome = true) := by
  unfold okB okH at hl
  simp only [Bool.and_eq_true, Bool.or_eq_true, decide_eq_true_eq] at hl
  exact ⟨hl.1.1.1.1, hl.1.1.1.2, fun e => hl.1.1.2.resolve_left (fun h => h e)⟩
theorem stop_cons {l : Bs} (h : stopP l = false) : ∃ b r, l = b :: r := by
  cases l with
  | nil => simp [stopP] at h
  | cons b r => exact ⟨b, r, rfl⟩
/-- Everywhere in a reader's work. -/
theorem suf_all : ∀ (n : Nat),
    (∀ l t r, okB l = true → patF n l = some (t, r) → Suf r l) ∧ (∀ l ts r, okB l = true → altsF n l = some (ts, r) → Suf r l) ∧ (∀ l t r, okB l = true → seqF n l = some (t, r) → Suf r l) ∧
    (∀ l ts r, okB l = true → itemsF n l = some (ts, r) → Suf r l) ∧ (∀ l t r, okB l = true → l ≠ [] → itemF n l = some (t, r) → Suf r l ∧ r.length < l.length) ∧
    (∀ l t r, okB l = true → l ≠ [] → atomF n l = some (t, r) → Suf r l ∧ r.length < l.length) ∧ (∀ l t r, okB l = true → encF n l = some (t, r) → Suf r l)
  | 0 => by
    refine ⟨?_, ?_, ?_, ?_, ?_, ?_, ?_⟩
    · intro l t r _ h; simp [patF] at h
    · intro l t r _ h; simp [altsF] at h
    · intro l t r _ h; simp [seqF] at h
    · intro l t r _ h; simp [itemsF] at h
    · intro l t r _ _ h; simp [itemF] at h
    · intro l t r _ _ h; simp [atomF] at h
    · intro l t r _ h; simp [encF] at h
  | n + 1 => by
    obtain ⟨i1, i2, i3, i4, i5, i6, i7⟩ := suf_all n
    refine ⟨?_, ?_, ?_, ?_, ?_, ?_, ?_⟩
    · intro l t r ho h
      rw [patF] at h
      split at h
      · cases h
      · rename_i ts r2 ha
        simp only [Option.some.injEq, Prod.mk.injEq] at h
        rw [← h.2]
        exact i2 l ts r2 ho ha
    · intro l ts r ho h
      rw [altsF] at h
      split at h
      · cases h
      · rename_i t r1 hs
        have s1 := i3 l t r1 ho hs
        split at h
        · split at h
          · cases h
          · rename_i ts2 r2 ha
            simp only [Option.some.injEq, Prod.mk.injEq] at h
            rw [← h.2]
            have s2 := (suf_trim r1 [124]).trans s1
            exact (i2 _ ts2 r2 (s2.ok ho) ha).trans s2
        · simp only [Option.some.injEq, Prod.mk.injEq] at h
          rw [← h.2]
          exact s1
    · intro l t r ho h
      rw [seqF] at h
      split at h
      · cases h
      · rename_i ts r2 ha
        simp only [Option.some.injEq, Prod.mk.injEq] at h
        rw [← h.2]
        exact i4 l ts r2 ho ha
    · intro l ts r ho h
      rw [itemsF] at h
      split at h
      · simp only [Option.some.injEq, Prod.mk.injEq] at h
        rw [← h.2]
        exact Suf.refl l
      · rename_i hst
        have hst' : stopP l = false := by simpa using hst
        obtain ⟨b, q, hbq⟩ := stop_cons hst'
        split at h
        · cases h
        · rename_i t r1 hi
          have s1 := (i5 l t r1 ho (by rw [hbq]; simp) hi).1
          split at h
          · cases h
          · rename_i ts2 r2 ha
            simp only [Option.some.injEq, Prod.mk.injEq] at h
            rw [← h.2]
            exact (i4 _ ts2 r2 (s1.ok ho) ha).trans s1
    · intro l t r ho hne h
      rw [itemF] at h
      split at h
      · cases h
      · rename_i t1 r1 ha
        have s1 := i6 l t1 r1 ho hne ha
        have s2 := suf_qua h
        exact ⟨s2.trans s1.1, Nat.lt_of_le_of_lt s2.le s1.2⟩
    · intro l t r ho hne h
      rw [atomF] at h
      split at h
      · rename_i hp
        have s1 := suf_trim l [40, 63, 58]
        have s2 := i7 _ t r (s1.ok ho) h
        exact ⟨s2.trans s1, Nat.lt_of_le_of_lt s2.le (trim_lt hp (by simp))⟩
      · split at h
        · rename_i hp
          have s1 := suf_trim l [40]
          split at h
          · cases h
          · rename_i t1 r1 he
            simp only [Option.some.injEq, Prod.mk.injEq] at h
            rw [← h.2]
            have s2 := i7 _ t1 r1 (s1.ok ho) he
            exact ⟨s2.trans s1, Nat.lt_of_le_of_lt s2.le (trim_lt hp (by simp))⟩
        · split at h
          · cases h
          · rename_i L r1 hs
            simp only [Option.some.injEq, Prod.mk.injEq] at h
            rw [← h.2]
            refine suf_set ?_ hs
            cases l with
            | nil => exact absurd rfl hne
            | cons b q =>
              by_cases hb : b = 92
              · exact .inr ((okB_head ho).2.2 hb)
              · exact .inl hb
    · intro l t r ho h
      rw [encF] at h
      split at h
      · cases h
      · rename_i t1 r1 hp
        have s1 := i1 l t1 r1 ho hp
        split at h
        · simp only [Option.some.injEq, Prod.mk.injEq] at h
          rw [← h.2]
          exact (suf_trim _ _).trans s1
        · cases h
end Go.Proofs.YtmgkdmbifecekaaGreatDoor
