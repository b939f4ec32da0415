/-
  Package syntax: trees in memory that begins at some block. Package syntax: a reader's sets.
-/
import Derived.Test.YtmgkdmbifecekaaGreatDoorMlat
import Derived.Test.YtmgkdmbifecekaaGreatDoorMlar
set_option linter.all false
set_option linter.unusedSimpArgs false
set_option linter.unusedVariables false
set_option linter.unusedSectionVars false
namespace Go.Proofs.YtmgkdmbifecekaaGreatDoor
open Go.RowKit Go.Shelf
/-- A world without what lies below a block. -/
def mask (b : Nat) (w : World) : World := { w with heap := w.heap.mapIdx fun i o => if i < b then .cells #[] 0 (0, 0) else o }
theorem mask_size (b : Nat) (w : World) : (mask b w).heap.size = w.heap.size := by simp [mask]
theorem mask_hi {b k : Nat} {w : World} (h : b ≤ k) : (mask b w).heap[k]? = w.heap[k]? := by
  unfold mask
  rw [Array.getElem?_mapIdx]
  cases hk : w.heap[k]? with
  | none => rfl
  | some o => simp [Nat.not_lt.2 h]
theorem mask_cell {b : Nat} {w : World} {p : Addr} {v : Value} (h : (mask b w).cell? p = some v) : b ≤ p.block := by
  by_cases hb : b ≤ p.block
  · exact hb
  · exfalso
    unfold World.cell? at h
    have : (mask b w).heap[p.block]? = (w.heap[p.block]?).map (fun o => if p.block < b then Obj.cells #[] 0 (0, 0) else o) := by
      unfold mask
      rw [Array.getElem?_mapIdx]
    rw [this] at h
    cases hk : w.heap[p.block]? with
    | none => rw [hk] at h; cases h
    | some o =>
      rw [hk, Option.map_some, if_pos (by omega)] at h
      simp at h
section
variable {w w' : World} (hs : w.heap.size ≤ w'.heap.size) (h : ∀ p v, w.cell? p = some v → w'.heap[p.block]? = w.heap[p.block]?)
include hs h
theorem cell_sub {p : Addr} {v : Value} (hp : w.cell? p = some v) : w'.cell? p = some v := by
  have := h p v hp
  unfold World.cell? at hp ⊢
  rw [this]
  exact hp
theorem rd_sub {A : Option Addr} {n : Nat} {xs : List Value} (hr : Rd w w.heap.size A n xs) : Rd w' w'.heap.size A n xs :=
  ⟨hr.1, fun hn => by
    obtain ⟨ad, e, hb, hc⟩ := hr.2 hn
    exact ⟨ad, e, Nat.lt_of_lt_of_le hb hs, fun j u hu => cell_sub hs h (hc j u hu)⟩⟩
theorem rdp_sub {A : Option Addr} {n : Nat} {xs : List Value} (hr : RdP w A n xs) : RdP w' A n xs := by
  refine ⟨rd_sub hs h hr.1, fun hn ad e => ?_⟩
  obtain ⟨ad', e', hb, hc⟩ := hr.1.2 hn
  rw [e] at e'
  cases e'
  obtain ⟨cs, t, hl⟩ := hr.2 hn ad e
  have h1 : 0 < xs.length := by have := hr.1.1; omega
  have h2 := h _ _ (hc 0 _ (List.getElem?_eq_getElem h1))
  rw [addBlock] at h2
  exact ⟨cs, t, h2.trans hl⟩
mutual
theorem NodeC.sub : ∀ (t : Tree) (cs : List Value), NodeC w t cs → NodeC w' t cs
  | .mk k set mn mx lz subs, cs, hn => by
    unfold NodeC at hn ⊢
    obtain ⟨A1, c1, A2, c2, e, hz, h1, xs, h2, h3⟩ := hn
    exact ⟨A1, c1, A2, c2, e, hz, rd_sub hs h h1, xs, rdp_sub hs h h2, NodesC.sub subs xs h3⟩
theorem NodesC.sub : ∀ (ts : List Tree) (xs : List Value), NodesC w ts xs → NodesC w' ts xs
  | [], xs, hn => by unfold NodesC at hn ⊢; exact hn
  | t :: ts, xs, hn => by
    unfold NodesC at hn ⊢
    obtain ⟨a, b, e, h1, h2⟩ := hn
    exact ⟨a, b, e, NodeC.sub t a h1, NodesC.sub ts b h2⟩
end
theorem NodeV.sub {t : Tree} {v : Value} (hn : NodeV w t v) : NodeV w' t v := by
  obtain ⟨cs, e, h1⟩ := hn
  exact ⟨cs, e, NodeC.sub hs h t cs h1⟩
end
/-- A tree whose memory begins at a block. -/
abbrev NodeM (b : Nat) (w : World) (t : Tree) (v : Value) : Prop := NodeV (mask b w) t v
theorem NodeM.un {b : Nat} {w : World} {t : Tree} {v : Value} (h : NodeM b w t v) : NodeV w t v :=
  NodeV.sub (by rw [mask_size]; exact Nat.le_refl _) (fun _ _ hp => (mask_hi (mask_cell hp)).symm) h
theorem grow_hyp {b b' : Nat} {w w' : World} (hb : b' ≤ b) (hk : ∀ k, b ≤ k → k < w.heap.size → w'.heap[k]? = w.heap[k]?) (p : Addr) (v : Value) (hp : (mask b w).cell? p = some v) : (mask b' w').heap[p.block]? = (mask b w).heap[p.block]? := by
  have h1 := mask_cell hp
  have h2 : p.block < w.heap.size := by
    have := (show (mask b w).heap[p.block]? ≠ none from fun e => by unfold World.cell? at hp; rw [e] at hp; cases hp)
    rw [← mask_size b w]
    exact Nat.lt_of_not_le fun h => this (Array.getElem?_eq_none h)
  rw [mask_hi (Nat.le_trans hb h1), mask_hi h1]
  exact hk _ h1 h2
theorem NodeM.grow {b b' : Nat} {w w' : World} {t : Tree} {v : Value} (h : NodeM b w t v) (hb : b' ≤ b) (hs : w.heap.size ≤ w'.heap.size) (hk : ∀ k, b ≤ k → k < w.heap.size → w'.heap[k]? = w.heap[k]?) : NodeM b' w' t v :=
  NodeV.sub (by rw [mask_size, mask_size]; exact hs) (grow_hyp hb hk) h
theorem NodeM.kept {b b' : Nat} {w w' : World} {t : Tree} {v : Value} (h : NodeM b w t v) (hb : b' ≤ b) (hk : Kept w w') : NodeM b' w' t v :=
  h.grow hb hk.size (fun k _ hlt => hk.block k hlt)
theorem NodeM.grown {b b' g : Nat} {w w' : World} {t : Tree} {v : Value} (h : NodeM b w t v) (hb : b' ≤ b) (hg : w.grownBy w' (some g)) (hlt : g < b) : NodeM b' w' t v :=
  h.grow hb hg.size (fun k hbk hk => hg.block k hk (by intro e; cases e; omega))
theorem NodeM.set {b b' g : Nat} {w : World} {t : Tree} {v : Value} (h : NodeM b w t v) (hb : b' ≤ b) (hlt : g < b) (cs : Array Value) : NodeM b' (w.setRow g cs) t v := by
  have hB := below_setRow (Below.refl g w) (Nat.le_refl g) cs
  exact h.grow hb hB.size (fun k hbk hk => heap_setRow_out (by omega) cs)
/-- Sets alike. -/
abbrev RdRM (b : Nat) (w : World) (A : Option Addr) (L : List Rng) : Prop := RdR (mask b w) (mask b w).heap.size A L
theorem RdRM.grow {b b' : Nat} {w w' : World} {A : Option Addr} {L : List Rng} (h : RdRM b w A L) (hb : b' ≤ b) (hs : w.heap.size ≤ w'.heap.size) (hk : ∀ k, b ≤ k → k < w.heap.size → w'.heap[k]? = w.heap[k]?) : RdRM b' w' A L :=
  rd_sub (by rw [mask_size, mask_size]; exact hs) (grow_hyp hb hk) h
theorem RdRM.kept {b b' : Nat} {w w' : World} {A : Option Addr} {L : List Rng} (h : RdRM b w A L) (hb : b' ≤ b) (hk : Kept w w') : RdRM b' w' A L :=
  h.grow hb hk.size (fun k _ hlt => hk.block k hlt)
/-- A row of one's own. -/
theorem own_mask {w : World} {base : Nat} {v : Value} {L : List Rng} (h : w.ownsRow base 73 2 v L.length (rngs L)) : ∃ A c, v = .slice A L.length c ∧ RdRM base w A L := by
  rcases h.2 with ⟨rfl, h0⟩ | ⟨g, cap, cur, rfl, hb, hg, hc, hx, hs, ht⟩
  · have h00 : L.length = 0 := h0
    have hL : L = [] := List.length_eq_zero_iff.1 h00
    subst hL
    exact ⟨none, 0, rfl, Rd.nil⟩
  · refine ⟨_, _, rfl, rngs_length L, fun _ => ⟨_, rfl, by rw [mask_size]; exact heap_lt hg, fun j u hu => ?_⟩⟩
    have hj : j < L.length * 2 := by have := (List.getElem?_eq_some_iff.1 hu).1; rw [rngs_length] at this; exact this
    have h2 : w.cell? ⟨g, j, none⟩ = some u := by
      rw [h.cellAt j hj]
      exact hu
    rw [add0]
    unfold World.cell? at h2 ⊢
    rw [mask_hi hb]
    exact h2
theorem new_mask {w : World} {g b : Nat} {t : TypeId} {L : List Rng} (hb : b ≤ g) (h : w.heap[g]? = some (.cells (rngs L).toArray t (0, 0))) : RdRM b w (some ⟨g, 0, none⟩) L := by
  have h2 : (mask b w).heap[g]? = some (.cells (rngs L).toArray t (0, 0)) := (mask_hi hb).trans h
  exact rdr_new h2
/-- A node of a set. -/
theorem set_mask {w : World} {b : Nat} {A : Option Addr} {L : List Rng} {c : Nat} (hl : L.length ≤ 1000) (h : RdRM b w A L) : NodeM b w (.mk 2 L 0 0 false []) (ndV 2 A L.length c 0 0 false none 0 0) := by
  refine ⟨_, rfl, ?_⟩
  unfold NodeC
  refine ⟨_, _, none, 0, rfl, ⟨by omega, by simp⟩, h, [], ⟨Rd.nil, fun h => absurd h (by simp)⟩, ?_⟩
  unfold NodesC
  rfl
/-- A node with one part. -/
theorem one_mask {w : World} {b g : Nat} {t : Tree} {cs : List Value} {kd mn mx : Int} {lz : Bool} {c : Nat} (hb : b ≤ g) (hn : NodeC (mask b w) t cs) (h : w.heap[g]? = some (.cells cs.toArray 25 (0, 0))) : NodeM b w (.mk kd [] mn mx lz [t]) (ndV kd none 0 0 mn mx lz (some ⟨g, 0, none⟩) 1 c) := by
  have h2 : (mask b w).heap[g]? = some (.cells cs.toArray 25 (0, 0)) := (mask_hi hb).trans h
  have hlen := NodeC.len hn
  refine ⟨_, rfl, ?_⟩
  unfold NodeC
  refine ⟨none, 0, some ⟨g, 0, none⟩, c, rfl, ⟨by simp, by simp⟩, Rd.nil, cs, ⟨⟨hlen, fun _ => ⟨_, rfl, heap_lt h2, fun j u hu => row_cells h2 j u (by rw [← hu]; exact List.getElem?_toArray ..)⟩⟩, fun _ ad e => by cases e; exact ⟨_, _, h2⟩⟩, ?_⟩
  unfold NodesC
  exact ⟨cs, [], (List.append_nil _).symm, hn, by unfold NodesC; rfl⟩
end Go.Proofs.YtmgkdmbifecekaaGreatDoor
namespace Go.Proofs.YtmgkdmbifecekaaGreatDoor
open Go.RowKit Go.Shelf
theorem hasPre1_ne {b c : UInt8} {r : Bs} (h : b ≠ c) : Lib.hasPrefix (b :: r) [c] = false := by
  have h2 : (c == b) = false := by rw [beq_eq_false_iff_ne]; exact Ne.symm h
  unfold Lib.hasPrefix
  rw [List.isPrefixOf, h2]
  rfl
def SetPost (g : Nat) (l : Bs) (W : World) (e : Ending) (w' : World) : Prop :=
  W.grownBy w' (some g) ∧ match setP l with
    | some (L, r) => ∃ A c, e = .returned (.tuple #[.slice A L.length c, .bool true]) ∧ RdRM W.heap.size w' A L ∧ L.length ≤ 1000 ∧ RdrAt w' g (b8 r)
    | none => ∃ A n c q, e = .returned (.tuple #[.slice A n c, .bool false]) ∧ RdrAt w' g (b8 q)
theorem RdRM.le {b b' : Nat} {w : World} {A : Option Addr} {L : List Rng} (h : RdRM b w A L) (hb : b' ≤ b) : RdRM b' w A L := h.grow hb (Nat.le_refl _) (fun _ _ _ => rfl)
theorem ex2 (b : UInt8) (r : Bs) : (b8 (b :: r)).extract 2 (b :: r).length = b8 ((b :: r).drop 2) := by
  apply ByteArray.ext
  simp [ByteArray.data_extract]
  rw [List.take_of_length_le]
  simp
theorem rdrN_len {l : Bs} {L : List Rng} (h : rdrN l = some L) : L.length ≤ 1000 := by
  have hf : ∀ c : Int, ∀ L, nmdF c = some L → L.length ≤ 1000 := by
    intro c L h
    unfold nmdF at h
    have hd : nmdD.length ≤ 1000 ∧ nmdS.length ≤ 1000 ∧ nmdW.length ≤ 1000 ∧ (othF nmdD).length ≤ 1000 ∧ (othF nmdS).length ≤ 1000 ∧ (othF nmdW).length ≤ 1000 := by decide
    repeat' split at h
    all_goals first | (cases h; first | exact hd.1 | exact hd.2.1 | exact hd.2.2.1 | exact hd.2.2.2.1 | exact hd.2.2.2.2.1 | exact hd.2.2.2.2.2) | cases h
  unfold rdrN at h
  split at h
  · split at h
    · exact hf _ _ h
    · cases h
  · cases h
section
variable (g : Nat) (b : UInt8) (r : Bs) (hb : b.toNat < 128) (h91 : b ≠ 91) (hn92 : b = 92 → (rdrN (b :: r)).isSome = true) (hl : (b :: r).length ≤ 1000000) (W : World)
set_option maxRecDepth 10000 in
set_option maxHeartbeats 4000000 in
theorem set_dot (hd : Lib.hasPrefix (b :: r) [46] = true) (h : RdrAt W g (b8 (b :: r))) : Calls Tryz.prog 141 #[.pointer (some ⟨g, 0, none⟩)] W (SetPost g (b :: r) W) := by
  have hp : Hid (setP (b :: r) = some (allR, Lib.trimPrefix (b :: r) [46])) := by show _ = _; unfold setP; rw [if_pos hd]
  have Hh := Lib.hid h
  clear h
  go_enter Tryz.func141, Tryz.ntmps141
  go_wp2_with fail
  refine (take_b g (b :: r) [46] true hd _ Hh.out).mono ?_
  rintro e w1 ⟨rfl, h1, g1⟩
  have H1 := Lib.hid h1
  have G1 := Lib.hid g1
  clear h1 g1
  go_wp2_with fail
  refine (all_any _).mono ?_
  rintro e w2 ⟨v, rfl, hown, hk⟩
  obtain ⟨A, c, rfl, hrd⟩ := own_mask (L := allR) hown
  have H2 := Lib.hid (heap_kept hk H1.out)
  have G2 : Hid (W.grownBy w2 (some g)) := grown_trans G1.out (grown_of_kept hk)
  have HR := Lib.hid (hrd.le G1.out.size)
  clear hown hk hrd
  go_wp2_with fail
  go_ret2
  unfold SetPost
  rw [hp.out]
  exact ⟨G2.out, A, c, rfl, HR.out, by decide, H2.out⟩
include hb h91 hn92 hl
set_option maxRecDepth 10000 in
set_option maxHeartbeats 4000000 in
theorem set_rest (hd : Lib.hasPrefix (b :: r) [46] = false) (h : RdrAt W g (b8 (b :: r))) : Calls Tryz.prog 141 #[.pointer (some ⟨g, 0, none⟩)] W (SetPost g (b :: r) W) := by
  have h91' : Lib.hasPrefix (b :: r) [91] = false := by
    exact hasPre1_ne h91
  have Hh := Lib.hid h
  clear h
  go_enter Tryz.func141, Tryz.ntmps141
  go_wp2_with fail
  refine (take_b g (b :: r) [46] false hd _ Hh.out).mono ?_
  rintro e w1 ⟨rfl, h1, g1⟩
  rw [trim_no hd] at h1
  have hcc : w1.cell? ⟨g, 0, none⟩ = some (.string (b8 (b :: r))) := by rw [cell_of_row _ _ _ _ _ _ h1]; rfl
  have H1 := Lib.hid h1
  have G1 := Lib.hid g1
  clear h1 g1
  go_wp2_with fail
  refine (hasPre (b :: r) [91] false h91' _).mono ?_
  rintro e w1 ⟨rfl, rfl⟩
  clear hcc
  go_wp2_with fail
  refine (rnamed_any g (b8 (b :: r)) _ H1.out).mono ?_
  rintro e w2 ⟨v, rfl, hown, h2, g2⟩
  rw [b8_list] at hown h2 ⊢
  cases hnm : rdrN (b :: r) with
  | some L =>
    rw [hnm] at hown h2
    have hp : Hid (setP (b :: r) = some (L, (b :: r).drop 2)) := by show _ = _; unfold setP; rw [if_neg (by rw [hd]; decide), hnm]
    obtain ⟨A, c, rfl, hrd⟩ := own_mask (L := L) hown
    have hL : Hid (L.length ≤ 1000) := by
      show _ ≤ _
      exact rdrN_len hnm
    have h3 : RdrAt w2 g (b8 ((b :: r).drop 2)) := by
      have e2 : (if (some L).isSome = true then (b8 (b :: r)).extract 2 (b8 (b :: r)).size else b8 (b :: r)) = b8 ((b :: r).drop 2) := (if_pos (show (some L).isSome = true from rfl)).trans (ex2 b r)
      rw [e2] at h2
      exact h2
    have H2 := Lib.hid h3
    have G2 : Hid (W.grownBy w2 (some g)) := grown_trans G1.out g2
    have HR := Lib.hid (hrd.le G1.out.size)
    clear hown h2 h3 g2 hrd
    dsimp only [Option.isSome]
    go_wp2_with fail
    go_ret2
    unfold SetPost
    rw [hp.out]
    exact ⟨G2.out, A, c, rfl, HR.out, hL.out, H2.out⟩
  | none =>
    have h92 : b ≠ 92 := fun e => by
      have := hn92 e
      rw [hnm] at this
      cases this
    rw [hnm] at h2
    have H2 : Hid (RdrAt w2 g (b8 (b :: r))) := h2
    have G2 : Hid (W.grownBy w2 (some g)) := grown_trans G1.out g2
    obtain ⟨A0, n0, c0, rfl⟩ : ∃ A n c, v = .slice A n c := by
      rcases hown.2 with ⟨e, _⟩ | ⟨g0, cap, cur, e, _⟩
      · exact ⟨_, _, _, e⟩
      · exact ⟨_, _, _, e⟩
    clear hown h2 g2 H1 G1
    dsimp only [Option.isSome]
    go_wp2_with fail
    refine (point_rd g b r hb h92 hl _ H2.out).mono ?_
    rintro e w3 hpt
    unfold PtPost at hpt
    obtain ⟨g3, hpt⟩ := hpt
    have G3 : Hid (W.grownBy w3 (some g)) := grown_trans G2.out g3
    cases hpp : pntP (b :: r) with
    | none =>
      rw [hpp] at hpt
      obtain ⟨rfl, h3⟩ := hpt
      have hp : Hid (setP (b :: r) = none) := by show _ = _; unfold setP; rw [if_neg (by rw [hd]; decide), hnm, hpp]
      have H3 := Lib.hid h3
      clear h3 g3 H2 G2
      go_wp2_with fail
      go_ret2
      unfold SetPost
      rw [hp.out]
      exact ⟨grown_trans G3.out (grown_of_kept ((Below.refl _ _).alloc (Nat.le_refl _) _)), _, _, _, _, rfl, al_old H3.out⟩
    | some q =>
      obtain ⟨c, q⟩ := q
      rw [hpp] at hpt
      obtain ⟨rfl, h3⟩ := hpt
      have hp : Hid (setP (b :: r) = some ([(c, c)], q)) := by show _ = _; unfold setP; rw [if_neg (by rw [hd]; decide), hnm, hpp]
      have H3 := Lib.hid h3
      clear h3 g3 H2 G2
      go_wp2_with fail
      go_ret2
      unfold SetPost
      rw [hp.out]
      exact ⟨grown_trans G3.out (grown_of_kept ((Below.refl _ _).alloc (Nat.le_refl _) _)), _, _, rfl, new_mask (L := [(c, c)]) G3.out.size (heap_alloc_new w3 _), by simp, al_old H3.out⟩
theorem set_rd (h : RdrAt W g (b8 (b :: r))) : Calls Tryz.prog 141 #[.pointer (some ⟨g, 0, none⟩)] W (SetPost g (b :: r) W) := by
  cases hd : Lib.hasPrefix (b :: r) [46] with
  | true => exact set_dot g b r W hd h
  | false => exact set_rest g b r hb h91 hn92 hl W hd h
end
end Go.Proofs.YtmgkdmbifecekaaGreatDoor
