/-
  changes: answers that are put into arrays, and lie apart. changes answers true.
-/
import Derived.Test.YtlhekeokognhmaaGreatDoorLcL
import Derived.Test.YtlhekeokognhmaaGreatDoorLcQ
import Derived.Test.YtlhekeokognhmaaGreatDoorLcS
import Derived.Test.YtlhekeokognhmaaGreatDoorLcU
import Derived.Deep.CutBlock
namespace Go.Proofs.YtlhekeokognhmaaGreatDoor
open Go.RowKit Go.Shelf Go.Maps Go.Sort
/-- Slices one above the other: none begins below lo. -/
def Inc : Nat → List Value → Nat → Prop
  | lo, [], hi => lo ≤ hi
  | lo, v :: vs, hi => ∃ mid, lo ≤ mid ∧ (∀ g, v.ownBlock = some g → lo ≤ g ∧ g < mid) ∧ Inc mid vs hi
theorem Inc.le : ∀ {lo hi : Nat} {vs : List Value}, Inc lo vs hi → lo ≤ hi
  | _, _, [], h => h
  | _, _, v :: vs, ⟨_, h1, _, h2⟩ => Nat.le_trans h1 (Inc.le h2)
theorem Inc.snoc : ∀ {lo mid hi : Nat} {vs : List Value} {v : Value}, Inc lo vs mid → mid ≤ hi → (∀ g, v.ownBlock = some g → mid ≤ g ∧ g < hi) → Inc lo (vs ++ [v]) hi
  | lo, mid, hi, [], v, h, h2, h3 => ⟨hi, Nat.le_trans h h2, fun g hg => ⟨Nat.le_trans h (h3 g hg).1, (h3 g hg).2⟩, Nat.le_refl _⟩
  | lo, mid, hi, x :: vs, v, ⟨m, h1, h4, h5⟩, h2, h3 => ⟨m, h1, h4, Inc.snoc h5 h2 h3⟩
theorem Inc.up : ∀ {lo hi hi2 : Nat} {vs : List Value}, Inc lo vs hi → hi ≤ hi2 → Inc lo vs hi2
  | _, _, _, [], h, h2 => Nat.le_trans h h2
  | _, _, _, v :: vs, ⟨m, h1, h4, h5⟩, h2 => ⟨m, h1, h4, Inc.up h5 h2⟩
theorem Inc.all : ∀ {lo hi : Nat} {vs : List Value}, Inc lo vs hi → ∀ v ∈ vs, ∀ g, v.ownBlock = some g → lo ≤ g ∧ g < hi
  | _, _, [], _, _, hv, _, _ => by cases hv
  | lo, hi, x :: vs, ⟨m, h1, h4, h5⟩, v, hv, g, hg => by
    rcases List.mem_cons.1 hv with rfl | hv
    · exact ⟨(h4 g hg).1, Nat.lt_of_lt_of_le (h4 g hg).2 (Inc.le h5)⟩
    · have := Inc.all h5 v hv g hg
      exact ⟨Nat.le_trans h1 this.1, this.2⟩
theorem Inc.apart : ∀ {lo hi : Nat} {vs : List Value}, Inc lo vs hi → ApartV vs
  | _, _, [], _ => List.Pairwise.nil
  | lo, hi, x :: vs, ⟨m, h1, h4, h5⟩ => by
    refine List.pairwise_cons.2 ⟨fun v hv g hg hg2 => ?_, Inc.apart h5⟩
    have a := (h4 g hg).2
    have b := (Inc.all h5 v hv g hg2).1
    omega
/-- An answer of one's own that lies in a world. -/
def OwnA (w : World) (v : Value) (m : List Lab) : Prop := w.ownsRow 0 33 2 v m.length (labs m)
theorem OwnA.same {w w' : World} {v : Value} {m : List Lab} (h : OwnA w v m) (hs : ∀ g, v.ownBlock = some g → w'.heap[g]? = w.heap[g]?) : OwnA w' v m := by
  refine ⟨h.1, ?_⟩
  rcases h.2 with h | ⟨g, cap, cur, rfl, h1, h2, h3⟩
  · exact .inl h
  · exact .inr ⟨g, cap, cur, rfl, h1, (hs g rfl).trans h2, h3⟩
theorem OwnA.lt {w : World} {v : Value} {m : List Lab} (h : OwnA w v m) : ∀ g, v.ownBlock = some g → g < w.heap.size := by
  intro g hg
  rcases h.2 with ⟨rfl, _⟩ | ⟨g', cap, cur, rfl, h1, h2, h3⟩
  · cases hg
  · cases hg; exact heap_lt h2
theorem OwnA.slot {w : World} {B gL : Nat} {v : Value} {m : List Lab} (h : OwnA w v m) (hb : ∀ g, v.ownBlock = some g → B ≤ g ∧ g ≠ gL) : SlotAt w B gL v := by
  rcases h.2 with ⟨rfl, _⟩ | ⟨g', cap, cur, rfl, h1, h2, h3, h4, h5, _⟩
  · exact .inl rfl
  · exact .inr ⟨g', _, cap, cur, rfl, (hb g' rfl).1, (hb g' rfl).2, h2, h5, h3, h4⟩
theorem OwnA.rd {w : World} {v : Value} {m : List Lab} (h : OwnA w v m) : ∃ A c, v = .slice A m.length c ∧ RdL w w.heap.size A m := by
  obtain ⟨A, c, e, _, hr, _⟩ := own_rdG h
  exact ⟨A, c, e, hr⟩
abbrev Out := Value × Int × List Lab
def padV (n : Nat) (z : Value) (l : List Value) : Array Value := (l ++ List.replicate (n - l.length) z).toArray
theorem padV_set {n : Nat} {z : Value} {l : List Value} (h : l.length < n) (v : Value) : (padV n z l).setIfInBounds l.length v = padV n z (l ++ [v]) := by
  unfold padV
  apply Array.toList_inj.1
  rw [Array.toList_setIfInBounds]
  show (l ++ List.replicate (n - l.length) z).set l.length v = _
  rw [List.set_append_right _ _ (Nat.le_refl _), Nat.sub_self, show n - l.length = (n - (l ++ [v]).length) + 1 from by simp; omega, List.replicate_succ]
  simp
/-- What lies behind the first answers: in two arrays; all is as it was at w5; each answer is one's own, above the one before. -/
structure Ph (t1 t2 : TypeId) (g14 g15 : Nat) (w5 w7 W : World) (rs : List Out) : Prop where
  kept : Kept w5 W
  lo : w5.heap.size ≤ g14 ∧ g14 < w7.heap.size ∧ w5.heap.size ≤ g15 ∧ g15 < w7.heap.size ∧ g14 ≠ g15 ∧ w7.heap.size ≤ W.heap.size
  a1 : W.heap[g14]? = some (.cells (padV 6 (.slice none 0 0) (rs.map (·.1))) t1 (0, 0))
  a2 : W.heap[g15]? = some (.cells (padV 6 (.int .i64 0) (rs.map fun r => .int .i64 r.2.1)) t2 (0, 0))
  own : ∀ r ∈ rs, OwnA W r.1 r.2.2
  inc : Inc w7.heap.size (rs.map (·.1)) W.heap.size
section
variable {t1 t2 : TypeId} {g14 g15 : Nat} {w5 w7 W W' : World} {rs : List Out}
theorem Ph.later (h : Ph t1 t2 g14 g15 w5 w7 W rs) (hk : Kept W W') : Ph t1 t2 g14 g15 w5 w7 W' rs :=
  ⟨below_kept h.kept hk, ⟨h.lo.1, h.lo.2.1, h.lo.2.2.1, h.lo.2.2.2.1, h.lo.2.2.2.2.1, Nat.le_trans h.lo.2.2.2.2.2 hk.size⟩, heap_kept hk h.a1, heap_kept hk h.a2, fun r hr => (h.own r hr).same fun g hg => Below.block hk g ((h.own r hr).lt g hg), h.inc.up hk.size⟩
theorem Ph.put (h : Ph t1 t2 g14 g15 w5 w7 W rs) (hk : Kept W W') {v : Value} {q : Int} {m : List Lab} (ho : W'.ownsRow W.heap.size 33 2 v m.length (labs m)) (hl : rs.length < 6) {k : Nat} (hkk : k = rs.length) :
    Ph t1 t2 g14 g15 w5 w7 ((W'.setCell ⟨g14, k, none⟩ v).setCell ⟨g15, k, none⟩ (.int .i64 q)) (rs ++ [(v, q, m)]) := by
  subst hkk
  have h' := h.later hk
  obtain ⟨p1, p2, p3, p4, p5, p6⟩ := h'.lo
  have hv : ∀ g, v.ownBlock = some g → W.heap.size ≤ g ∧ g < W'.heap.size := fun g hg => by
    rcases ho.2 with ⟨rfl, _⟩ | ⟨g', cap, cur, rfl, h1, h2, h3⟩
    · cases hg
    · cases hg; exact ⟨h1, heap_lt h2⟩
  have hsz : ((W'.setCell ⟨g14, rs.length, none⟩ v).setCell ⟨g15, rs.length, none⟩ (.int .i64 q)).heap.size = W'.heap.size := by simp [World.setCell]
  have hoth : ∀ g, g ≠ g14 → g ≠ g15 → ((W'.setCell ⟨g14, rs.length, none⟩ v).setCell ⟨g15, rs.length, none⟩ (.int .i64 q)).heap[g]? = W'.heap[g]? := fun g h1 h2 => by
    rw [Below.heap_setCell _ ⟨g15, rs.length, none⟩ _ g h2, Below.heap_setCell _ ⟨g14, rs.length, none⟩ _ g h1]
  have hw7 : w7.heap.size ≤ W.heap.size := h.lo.2.2.2.2.2
  refine ⟨(h'.kept.setCell (p := ⟨g14, rs.length, none⟩) p1 _).setCell (p := ⟨g15, rs.length, none⟩) p3 _, ⟨p1, p2, p3, p4, p5, by rw [hsz]; exact p6⟩, ?_, ?_, ?_, ?_⟩
  · rw [Below.heap_setCell _ ⟨g15, rs.length, none⟩ _ g14 p5]
    have := heap_setCell_same W' g14 rs.length _ _ v h'.a1
    rw [this, List.map_append, List.map_cons, List.map_nil]
    congr 2
    have := padV_set (n := 6) (z := .slice none 0 0) (l := rs.map (·.1)) (by rw [List.length_map]; exact hl) v
    rw [List.length_map] at this
    exact this
  · have h2 : (W'.setCell ⟨g14, rs.length, none⟩ v).heap[g15]? = some (.cells (padV 6 (.int .i64 0) (rs.map fun r => .int .i64 r.2.1)) t2 (0, 0)) := by
      rw [Below.heap_setCell _ ⟨g14, rs.length, none⟩ _ g15 (fun e => p5 e.symm)]; exact h'.a2
    have := heap_setCell_same (W'.setCell ⟨g14, rs.length, none⟩ v) g15 rs.length _ _ (.int .i64 q) h2
    rw [this, List.map_append, List.map_cons, List.map_nil]
    congr 2
    have := padV_set (n := 6) (z := .int .i64 0) (l := rs.map fun r => (.int .i64 r.2.1 : Value)) (by rw [List.length_map]; exact hl) (.int .i64 q)
    rw [List.length_map] at this
    exact this
  · intro r hr
    rcases List.mem_append.1 hr with hr | hr
    · refine (h'.own r hr).same fun g hg => hoth g ?_ ?_
      · intro e; have := (h.inc.all r.1 (List.mem_map_of_mem hr) g hg).1; omega
      · intro e; have := (h.inc.all r.1 (List.mem_map_of_mem hr) g hg).1; omega
    · rw [List.mem_singleton.1 hr]
      have h2 : OwnA W' v m := own_mono ho (Nat.zero_le _)
      refine h2.same fun g hg => hoth g ?_ ?_
      · intro e; have := (hv g hg).1; omega
      · intro e; have := (hv g hg).1; omega
  · rw [List.map_append, hsz]
    exact h.inc.snoc hk.size hv
theorem Ph.cells (h : Ph t1 t2 g14 g15 w5 w7 W rs) (hk : Kept W W') : (∀ i v, (padV 6 (.slice none 0 0) (rs.map (·.1)))[i]? = some v → W'.cell? ⟨g14, i, none⟩ = some v) ∧ (∀ i v, (padV 6 (.int .i64 0) (rs.map fun r => .int .i64 r.2.1))[i]? = some v → W'.cell? ⟨g15, i, none⟩ = some v) ∧ (∀ i, W'.frozen? ⟨g14, i, none⟩ = false) ∧ (∀ i, W'.frozen? ⟨g15, i, none⟩ = false) := by
  have h1 := (h.later hk).a1
  have h2 := (h.later hk).a2
  refine ⟨fun i v hv => ?_, fun i v hv => ?_, fun i => ?_, fun i => ?_⟩
  · rw [cell_of_row _ _ _ _ _ _ h1]; exact hv
  · rw [cell_of_row _ _ _ _ _ _ h2]; exact hv
  · simp [World.frozen?, h1]
  · simp [World.frozen?, h2]
end
/-- An answer that reads as labels. -/
abbrev Ans := Option Addr × Nat × Int × List Lab
def ansV (r : Ans) : Value := .slice r.1 r.2.2.2.length r.2.1
structure Ph2 (t1 t2 : TypeId) (g14 g15 : Nat) (w5 w7 W : World) (rs : List Ans) : Prop where
  kept : Kept w5 W
  lo : w5.heap.size ≤ g14 ∧ w5.heap.size ≤ g15 ∧ g14 ≠ g15
  a1 : W.heap[g14]? = some (.cells (padV 6 (.slice none 0 0) (rs.map ansV)) t1 (0, 0))
  a2 : W.heap[g15]? = some (.cells (padV 6 (.int .i64 0) (rs.map fun r => .int .i64 r.2.2.1)) t2 (0, 0))
  rd : ∀ r ∈ rs, RdL W W.heap.size r.1 r.2.2.2
def noStr : Value → Prop
  | .string _ => False
  | _ => True
theorem labs_str (m : List Lab) : ∀ u ∈ labs m, ¬ noStr u := fun u hu h => by
  obtain ⟨x, _, hx⟩ := List.mem_flatMap.1 hu
  simp at hx
  rcases hx with rfl | rfl <;> exact h
theorem rd_ne {w : World} {A : Option Addr} {m : List Lab} {g : Nat} {cs : Array Value} {t : TypeId} (hr : RdL w w.heap.size A m) (hg : w.heap[g]? = some (.cells cs t (0, 0))) (hc : ∀ u ∈ cs.toList, noStr u) : m = [] ∨ ∃ ad, A = some ad ∧ ad.block ≠ g := by
  rcases m with _ | ⟨x, m⟩
  · exact .inl rfl
  · obtain ⟨ad, e, hlt, hcell⟩ := hr.2 (by simp)
    refine .inr ⟨ad, e, fun e2 => ?_⟩
    have h0 := hcell 0 (.string x.1) rfl
    subst e2
    have ha : ad.add 0 = ad := by unfold Addr.add; simp
    rw [ha] at h0
    obtain ⟨b, o, sp⟩ := ad
    unfold World.cell? at h0
    rw [hg] at h0
    have hm : (Value.string x.1) ∈ cs.toList := by
      rcases sp with _ | sp
      · exact Array.mem_toList_iff.2 (Array.mem_of_getElem? (by simpa using h0))
      · simp at h0
    exact (hc _ hm)
theorem rd_set {w : World} {A : Option Addr} {m : List Lab} {g i : Nat} {cs : Array Value} {t : TypeId} (v : Value) (hr : RdL w w.heap.size A m) (hg : w.heap[g]? = some (.cells cs t (0, 0))) (hc : ∀ u ∈ cs.toList, noStr u) : RdL (w.setCell ⟨g, i, none⟩ v) (w.setCell ⟨g, i, none⟩ v).heap.size A m := by
  rcases rd_ne hr hg hc with rfl | ⟨ad, rfl, hne⟩
  · exact ⟨rfl, fun h => by simp at h⟩
  · refine ⟨hr.1, fun hn => ?_⟩
    obtain ⟨ad', e, hlt, hcell⟩ := hr.2 hn
    cases e
    refine ⟨ad, rfl, by rw [show (w.setCell ⟨g, i, none⟩ v).heap.size = w.heap.size from by simp [World.setCell]]; exact hlt, fun j u hu => ?_⟩
    have h1 := hcell j u hu
    have hb : (ad.add j).block = ad.block := addBlock ..
    unfold World.cell? at h1 ⊢
    rw [Below.heap_setCell _ ⟨g, i, none⟩ _ (ad.add j).block (by rw [hb]; exact hne)]
    exact h1
theorem pad_noStr {n : Nat} {z : Value} {l : List Value} (hz : noStr z) (hl : ∀ u ∈ l, noStr u) : ∀ u ∈ (padV n z l).toList, noStr u := by
  intro u hu
  rcases List.mem_append.1 hu with h | h
  · exact hl u h
  · rw [(List.mem_replicate.1 h).2]; exact hz
section
variable {t1 t2 : TypeId} {g14 g15 : Nat} {w5 w7 W W' : World} {rs : List Ans}
theorem Ph2.later (h : Ph2 t1 t2 g14 g15 w5 w7 W rs) (hk : Kept W W') : Ph2 t1 t2 g14 g15 w5 w7 W' rs :=
  ⟨below_kept h.kept hk, h.lo, heap_kept hk h.a1, heap_kept hk h.a2, fun r hr => rd_kept hk (h.rd r hr)⟩
theorem Ph2.put (h : Ph2 t1 t2 g14 g15 w5 w7 W rs) (hk : Kept W W') {A : Option Addr} {c : Nat} {q : Int} {m : List Lab} (ho : RdL W' W'.heap.size A m) (hl : rs.length < 6) {k : Nat} (hkk : k = rs.length) :
    Ph2 t1 t2 g14 g15 w5 w7 ((W'.setCell ⟨g14, k, none⟩ (.slice A m.length c)).setCell ⟨g15, k, none⟩ (.int .i64 q)) (rs ++ [(A, c, q, m)]) := by
  subst hkk
  have h' := h.later hk
  obtain ⟨p1, p3, p5⟩ := h'.lo
  have n1 : ∀ u ∈ (padV 6 (.slice none 0 0) (rs.map ansV)).toList, noStr u := pad_noStr trivial fun u hu => by
    obtain ⟨r, _, rfl⟩ := List.mem_map.1 hu; trivial
  have n2 : ∀ u ∈ (padV 6 (.int .i64 0) (rs.map fun r => (.int .i64 r.2.2.1 : Value))).toList, noStr u := pad_noStr trivial fun u hu => by
    obtain ⟨r, _, rfl⟩ := List.mem_map.1 hu; trivial
  have h2 : (W'.setCell ⟨g14, rs.length, none⟩ (.slice A m.length c)).heap[g15]? = some (.cells (padV 6 (.int .i64 0) (rs.map fun r => .int .i64 r.2.2.1)) t2 (0, 0)) := by
    rw [Below.heap_setCell _ ⟨g14, rs.length, none⟩ _ g15 (fun e => p5 e.symm)]; exact h'.a2
  refine ⟨(h'.kept.setCell (p := ⟨g14, rs.length, none⟩) p1 _).setCell (p := ⟨g15, rs.length, none⟩) p3 _, ⟨p1, p3, p5⟩, ?_, ?_, ?_⟩
  · rw [Below.heap_setCell _ ⟨g15, rs.length, none⟩ _ g14 p5]
    have := heap_setCell_same W' g14 rs.length _ _ (.slice A m.length c) h'.a1
    rw [this, List.map_append, List.map_cons, List.map_nil]
    congr 2
    have := padV_set (n := 6) (z := .slice none 0 0) (l := rs.map ansV) (by rw [List.length_map]; exact hl) (.slice A m.length c)
    rw [List.length_map] at this
    exact this
  · have := heap_setCell_same (W'.setCell ⟨g14, rs.length, none⟩ (.slice A m.length c)) g15 rs.length _ _ (.int .i64 q) h2
    rw [this, List.map_append, List.map_cons, List.map_nil]
    congr 2
    have := padV_set (n := 6) (z := .int .i64 0) (l := rs.map fun r => (.int .i64 r.2.2.1 : Value)) (by rw [List.length_map]; exact hl) (.int .i64 q)
    rw [List.length_map] at this
    exact this
  · intro r hr
    generalize hu : (Value.slice A m.length c) = u at *
    have h3 : ∀ A m, RdL W' W'.heap.size A m → RdL ((W'.setCell ⟨g14, rs.length, none⟩ u).setCell ⟨g15, rs.length, none⟩ (.int .i64 q)) ((W'.setCell ⟨g14, rs.length, none⟩ u).setCell ⟨g15, rs.length, none⟩ (.int .i64 q)).heap.size A m := fun A m h => rd_set _ (rd_set _ h h'.a1 n1) h2 n2
    rcases List.mem_append.1 hr with hr | hr
    · exact h3 _ _ (h'.rd r hr)
    · rw [List.mem_singleton.1 hr]; exact h3 _ _ ho
theorem Ph2.cells (h : Ph2 t1 t2 g14 g15 w5 w7 W rs) (hk : Kept W W') : (∀ i v, (padV 6 (.slice none 0 0) (rs.map ansV))[i]? = some v → W'.cell? ⟨g14, i, none⟩ = some v) ∧ (∀ i v, (padV 6 (.int .i64 0) (rs.map fun r => .int .i64 r.2.2.1))[i]? = some v → W'.cell? ⟨g15, i, none⟩ = some v) ∧ (∀ i, W'.frozen? ⟨g14, i, none⟩ = false) ∧ (∀ i, W'.frozen? ⟨g15, i, none⟩ = false) := by
  have h1 := (h.later hk).a1
  have h2 := (h.later hk).a2
  refine ⟨fun i v hv => ?_, fun i v hv => ?_, fun i => ?_, fun i => ?_⟩
  · rw [cell_of_row _ _ _ _ _ _ h1]; exact hv
  · rw [cell_of_row _ _ _ _ _ _ h2]; exact hv
  · simp [World.frozen?, h1]
  · simp [World.frozen?, h2]
end
end Go.Proofs.YtlhekeokognhmaaGreatDoor
namespace Go.Proofs.YtlhekeokognhmaaGreatDoor
open Go.RowKit Go.Shelf Go.Maps Go.Sort
theorem lent_slot {W : World} {base B gL : Nat} {A : Option Addr} {c : Nat} {L : List Lab} (h : Lent W base A c L) (hB : B ≤ base) (hg : ∀ g, A = some ⟨g, 0, none⟩ → g ≠ gL) : SlotAt W B gL (.slice A L.length c) := by
  unfold Lent at h
  rcases h.2 with ⟨e, hz⟩ | ⟨g, cap, cur, e, hb, hg2, hn, hm, hc, _⟩
  · omega
  · cases e
    exact .inr ⟨g, _, c, cur, rfl, Nat.le_trans hB hb, hg g rfl, hg2, hc, by omega, hm⟩
theorem lent_blk {W : World} {base : Nat} {A : Option Addr} {c n : Nat} {L : List Lab} (h : Lent W base A c L) : ∀ g, (Value.slice A n c).ownBlock = some g → base ≤ g ∧ g < W.heap.size := by
  obtain ⟨g, rfl, hb, hlt, _⟩ := h.rd
  intro g' hg
  cases hg
  exact ⟨hb, hlt⟩
theorem apart9 {t1 t2 : TypeId} {g14 g15 d1 d2 d3 : Nat} {B1 B2 B3 : Option Addr} {L1 L2 L3 : List Lab} {v0 v1 v2 v3 v4 v5 : Value} {q0 q1 q2 q3 q4 q5 : Int} {m0 m1 m2 m3 m4 m5 : List Lab}
    (w w1 w2 w3 w4 w5 w7 W : World) (k1 : Kept w w1) (h1 : Lent w2 w1.heap.size B1 d1 L1) (k2 : Kept w1 w2) (h2 : Lent w3 w2.heap.size B2 d2 L2) (k3 : Kept w2 w3) (h3 : Lent w4 w3.heap.size B3 d3 L3) (k4 : Kept w3 w4) (k5 : Kept w4 w5)
    (P : Ph t1 t2 g14 g15 w5 w7 W [(v0, q0, m0), (v1, q1, m1), (v2, q2, m2), (v3, q3, m3), (v4, q4, m4), (v5, q5, m5)]) (T : TypeId) :
    Calls Tryz.prog 41 #[.slice (some ⟨W.heap.size, 0, none⟩) 9 9] (W.alloc (.cells #[.slice B1 L1.length d1, .slice B2 L2.length d2, .slice B3 L3.length d3, v0, v1, v2, v3, v4, v5] T)) fun e w' => e = .returned (.bool true) ∧ Below w.heap.size (W.alloc (.cells #[.slice B1 L1.length d1, .slice B2 L2.length d2, .slice B3 L3.length d3, v0, v1, v2, v3, v4, v5] T)) w' := by
  obtain ⟨p1, p2, p3, p4, p5, p6⟩ := P.lo
  have kW : Kept W (W.alloc (.cells #[.slice B1 L1.length d1, .slice B2 L2.length d2, .slice B3 L3.length d3, v0, v1, v2, v3, v4, v5] T)) := (Below.refl _ W).alloc (Nat.le_refl _) _
  have k5W := P.kept
  have s1 := k1.size
  have s2 := k2.size
  have s3 := k3.size
  have s4 := k4.size
  have s5 := k5.size
  have s6 := k5W.size
  have hinc : Inc w.heap.size [.slice B1 L1.length d1, .slice B2 L2.length d2, .slice B3 L3.length d3, v0, v1, v2, v3, v4, v5] W.heap.size := by
    refine ⟨w2.heap.size, by omega, fun g hg => ?_, ⟨w3.heap.size, by omega, lent_blk h2, ⟨w7.heap.size, by omega, fun g hg => ?_, P.inc⟩⟩⟩
    · have := lent_blk h1 g hg
      omega
    · have := lent_blk h3 g hg
      omega
  have l1 := h1.kept (below_kept k3 (below_kept k4 (below_kept k5 (below_kept k5W kW))))
  have l2 := h2.kept (below_kept k4 (below_kept k5 (below_kept k5W kW)))
  have l3 := h3.kept (below_kept k5 (below_kept k5W kW))
  have hlt : ∀ v ∈ [.slice B1 L1.length d1, .slice B2 L2.length d2, .slice B3 L3.length d3, v0, v1, v2, v3, v4, v5], ∀ g, v.ownBlock = some g → w.heap.size ≤ g ∧ g ≠ W.heap.size := fun v hv g hg => by
    have := hinc.all v hv g hg
    omega
  have P' := P.later kW
  refine apartL_any _ 9 rfl (by omega) w.heap.size W.heap.size hinc.apart _ (by simp; omega) (fun j x hx => ?_) (by simp) (fun x hx => ?_)
  · rw [cell_of_row _ _ _ _ _ _ (heap_alloc_new W _)]
    rw [← List.getElem?_toArray] at hx
    exact hx
  · have hx2 := hx
    simp only [List.mem_cons, List.not_mem_nil, or_false] at hx2
    have ho : ∀ r ∈ [(v0, q0, m0), (v1, q1, m1), (v2, q2, m2), (v3, q3, m3), (v4, q4, m4), (v5, q5, m5)], r.1 ∈ [Value.slice B1 L1.length d1, .slice B2 L2.length d2, .slice B3 L3.length d3, v0, v1, v2, v3, v4, v5] → SlotAt (W.alloc (.cells #[.slice B1 L1.length d1, .slice B2 L2.length d2, .slice B3 L3.length d3, v0, v1, v2, v3, v4, v5] T)) w.heap.size W.heap.size r.1 := fun r hr hm => (P'.own r hr).slot (hlt r.1 hm)
    rcases hx2 with rfl | rfl | rfl | rfl | rfl | rfl | rfl | rfl | rfl
    · exact lent_slot l1 s1 fun g hg => by
        have := hlt _ hx g (by rw [hg]; rfl)
        exact this.2
    · exact lent_slot l2 (by omega) fun g hg => by
        have := hlt _ hx g (by rw [hg]; rfl)
        exact this.2
    · exact lent_slot l3 (by omega) fun g hg => by
        have := hlt _ hx g (by rw [hg]; rfl)
        exact this.2
    · exact ho (x, q0, m0) (by simp) hx
    · exact ho (x, q1, m1) (by simp) hx
    · exact ho (x, q2, m2) (by simp) hx
    · exact ho (x, q3, m3) (by simp) hx
    · exact ho (x, q4, m4) (by simp) hx
    · exact ho (x, q5, m5) (by simp) hx
end Go.Proofs.YtlhekeokognhmaaGreatDoor
