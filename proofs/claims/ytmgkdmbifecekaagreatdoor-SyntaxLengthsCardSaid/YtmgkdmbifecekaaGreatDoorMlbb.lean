/-
  Package syntax: a pile of trees. The law's leaf: it lies in new blocks. Package syntax: a pile of trees, grown and topped.
-/
import Derived.Test.YtmgkdmbifecekaaGreatDoorMlba
import Derived.Deep.MidRow
import Derived.Test.YtmgkdmbifecekaaGreatDoorMlay
import Derived.Test.YtmgkdmbifecekaaGreatDoorSrb
set_option linter.all false
set_option linter.unusedSimpArgs false
set_option linter.unusedVariables false
set_option linter.unusedSectionVars false
namespace Go.Proofs.YtmgkdmbifecekaaGreatDoor
open Go.RowKit Go.Shelf
theorem NodesC.split {w : World} : ∀ (p q : List Tree) (xs : List Value), NodesC w (p ++ q) xs → ∃ ys zs, xs = ys ++ zs ∧ NodesC w p ys ∧ NodesC w q zs
  | [], q, xs, h => ⟨[], xs, rfl, by unfold NodesC; rfl, h⟩
  | t :: p, q, xs, h => by
    rw [List.cons_append] at h
    unfold NodesC at h
    obtain ⟨a, b, rfl, h1, h2⟩ := h
    obtain ⟨ys, zs, rfl, h3, h4⟩ := NodesC.split p q b h2
    exact ⟨a ++ ys, zs, (List.append_assoc _ _ _).symm, by unfold NodesC; exact ⟨a, ys, rfl, h1, h3⟩, h4⟩
theorem NodesC.sole {w : World} {t : Tree} {zs : List Value} (h : NodesC w [t] zs) : NodeC w t zs := by
  unfold NodesC at h
  obtain ⟨a, b, rfl, h1, h2⟩ := h
  unfold NodesC at h2
  subst h2
  rw [List.append_nil]
  exact h1
theorem heap_setCells (g : Nat) (t : TypeId) : ∀ (vs : List Value) (o : Nat) (w : World) (cur : Array Value), w.heap[g]? = some (.cells cur t (0, 0)) → o + vs.length ≤ cur.size →
    ∃ cur' : Array Value, (w.setCells g o vs).heap[g]? = some (.cells cur' t (0, 0)) ∧ cur'.size = cur.size ∧ cur'.toList = cur.toList.take o ++ (vs ++ cur.toList.drop (o + vs.length))
  | [], o, w, cur, h, _ => ⟨cur, h, rfl, by simp⟩
  | v :: r, o, w, cur, h, hl => by
    rw [List.length_cons] at hl
    have h1 := Go.heap_setCell_same w g o cur t v h
    obtain ⟨cur', h2, h3, h4⟩ := heap_setCells g t r (o + 1) _ _ h1 (by simp; omega)
    refine ⟨cur', h2, by rw [h3]; simp, ?_⟩
    have hlt : o < cur.toList.length := by rw [Array.length_toList]; omega
    have e : (cur.setIfInBounds o v).toList = cur.toList.take o ++ v :: cur.toList.drop (o + 1) := by
      rw [Array.toList_setIfInBounds, List.set_eq_take_append_cons_drop, if_pos hlt]
    have hlo : (cur.toList.take o).length = o := by rw [List.length_take]; omega
    rw [h4, e]
    have e1 : (cur.toList.take o ++ v :: cur.toList.drop (o + 1)).take (o + 1) = cur.toList.take o ++ [v] := by
      rw [List.take_append, hlo, List.take_of_length_le (by omega), show o + 1 - o = 1 from by omega]
      rfl
    have e2 : (cur.toList.take o ++ v :: cur.toList.drop (o + 1)).drop (o + 1 + r.length) = cur.toList.drop (o + (r.length + 1)) := by
      rw [List.drop_append, hlo, List.drop_eq_nil_of_le (by omega), List.nil_append, show o + 1 + r.length - o = r.length + 1 from by omega, List.drop_succ_cons, List.drop_drop]
      congr 1
      omega
    rw [e1, e2, List.append_assoc, List.length_cons]
    rfl
theorem grown_setCells (g : Nat) : ∀ (vs : List Value) (o : Nat) (w : World), w.grownBy (w.setCells g o vs) (some g)
  | [], o, w => ⟨rfl, rfl, rfl, Nat.le_refl _, fun _ _ _ => rfl⟩
  | v :: r, o, w => grown_trans (w1 := w.setCell ⟨g, o, none⟩ v) ⟨rfl, rfl, rfl, by simp, fun k hk hne => heap_set_out w g o v (fun e => hne (by rw [e]))⟩ (grown_setCells g r (o + 1) _)
/-- The last one. -/
theorem PartsI.last {B : Nat} {w : World} {v : Value} {p : List Tree} {t : Tree} {xs : List Value} (h : PartsI B w v (p ++ [t]) xs) :
    ∃ g c ys cs, v = .slice (some ⟨g, 0, none⟩) (p.length + 1) c ∧ xs = ys ++ cs ∧ ys.length = p.length * 6 ∧ cs.length = 6 ∧ w.rangeAt g (p.length * 6) cs ∧ w.there g (p.length * 6) 6 ∧ NodeC (hideO (some g) (mask B w)) t cs ∧ B ≤ g ∧ g < w.heap.size := by
  obtain ⟨ys, cs, rfl, h1, h2⟩ := NodesC.split _ _ _ h.n
  have hl1 := h1.len
  have hl2 := h2.sole.len
  rcases h.o.2 with ⟨_, h0⟩ | ⟨g, cap, cur, hv, hb, hg, hc, hx, hs, ht⟩
  · simp at h0
  · rw [List.length_append] at hv ht hc
    subst hv
    have hcells : ∀ j u, cs[j]? = some u → w.cell? ⟨g, p.length * 6 + j, none⟩ = some u := by
      intro j u hu
      have := h.o.cells (g := g) rfl (p.length * 6 + j) u (by rw [List.getElem?_append_right (by omega), ← hu]; congr 1; omega)
      rwa [Addr.add_mid, Nat.zero_add] at this
    refine ⟨g, cap, ys, cs, rfl, rfl, hl1, hl2, hcells, fun j hj => ⟨?_, ?_⟩, h2.sole, hb, heap_lt hg⟩
    · rw [hcells j cs[j] (List.getElem?_eq_getElem (by omega))]
      rfl
    · unfold World.frozen?
      rw [hg]
      simp
/-- The last one, another. -/
theorem PartsI.put {B g c : Nat} {w : World} {p : List Tree} {t0 t : Tree} {xs cs : List Value} (h : PartsI B w (.slice (some ⟨g, 0, none⟩) (p.length + 1) c) (p ++ [t0]) xs) (hl : cs.length = 6) (hn : NodeC (hideO (some g) (mask B w)) t cs) :
    PartsI B (w.setCells g (p.length * 6) cs) (.slice (some ⟨g, 0, none⟩) (p.length + 1) c) (p ++ [t]) (xs.take (p.length * 6) ++ cs) := by
  obtain ⟨ys, zs, rfl, h1, h2⟩ := NodesC.split _ _ _ h.n
  have hl1 := h1.len
  have hl2 := h2.sole.len
  have hG := grown_setCells g cs (p.length * 6) w
  have htk : (ys ++ zs).take (p.length * 6) = ys := by rw [← hl1]; exact List.take_left
  rw [htk]
  refine ⟨⟨by rw [List.length_append, List.length_append, hl1, hl]; simp; omega, ?_⟩, ?_⟩
  · rcases h.o.2 with ⟨hv, _⟩ | ⟨g', cap, cur, hv, hb, hg, hc, hx, hs, ht⟩
    · cases hv
    · rw [List.length_append] at hv ht hc
      simp only [Value.slice.injEq, Option.some.injEq, Addr.mk.injEq] at hv
      obtain ⟨⟨rfl, _⟩, _, rfl⟩ := hv
      have hle : p.length * 6 + cs.length ≤ cur.size := by rw [hs, hl]; have : p.length + 1 ≤ c := hc; omega
      obtain ⟨cur', e1, e2, e3⟩ := heap_setCells g _ cs (p.length * 6) w cur hg hle
      refine .inr ⟨g, c, cur', by rw [List.length_append]; rfl, hb, e1, by rw [List.length_append]; exact hc, hx, by rw [e2, hs], ?_⟩
      have ht2 : cur.toList.take (p.length * 6) = ys := by
        have h9 := congrArg (fun l => l.take (p.length * 6)) ht
        try dsimp only at h9
        rw [List.take_take, htk] at h9
        rw [← h9]
        congr 1
        have : [t0].length = 1 := rfl
        omega
      rw [e3, ht2, List.length_append, ← List.append_assoc, List.take_append_of_le_length (by rw [List.length_append, hl1, hl]; simp; omega)]
      rw [List.take_of_length_le (by rw [List.length_append, hl1, hl]; simp; omega)]
  · have hsub : ∀ q u, (hideO (some g) (mask B w)).cell? q = some u → (hideO (some g) (mask B (w.setCells g (p.length * 6) cs))).heap[q.block]? = (hideO (some g) (mask B w)).heap[q.block]? := by
      intro q u hq
      obtain ⟨g1, g2, g3, g4⟩ := hm_cell hq
      rw [hideO_at g1, mask_hi g2, g4]
      exact hG.block _ g3 (fun e => g1 e.symm)
    have hsz : (hideO (some g) (mask B w)).heap.size ≤ (hideO (some g) (mask B (w.setCells g (p.length * 6) cs))).heap.size := by rw [hideO_size, hideO_size, mask_size, mask_size]; exact hG.size
    exact NodesC.app (NodesC.sub hsz hsub p ys h1) (NodeC.sub hsz hsub t cs hn)
/-- The first ones. -/
theorem PartsI.cut {B g n c : Nat} {w : World} {p q : List Tree} {xs : List Value} (h : PartsI B w (.slice (some ⟨g, 0, none⟩) n c) (p ++ q) xs) : PartsI B w (.slice (some ⟨g, 0, none⟩) p.length c) p (xs.take (p.length * 6)) := by
  obtain ⟨ys, zs, rfl, h1, h2⟩ := NodesC.split _ _ _ h.n
  have hl1 := h1.len
  have htk : (ys ++ zs).take (p.length * 6) = ys := by rw [← hl1]; exact List.take_left
  rw [htk]
  refine ⟨⟨hl1, ?_⟩, h1⟩
  rcases h.o.2 with ⟨hv, _⟩ | ⟨g', cap, cur, hv, hb, hg, hc, hx, hs, ht⟩
  · cases hv
  · rw [List.length_append] at hv ht hc
    simp only [Value.slice.injEq, Option.some.injEq, Addr.mk.injEq] at hv
    obtain ⟨⟨rfl, _⟩, _, rfl⟩ := hv
    refine .inr ⟨g, _, cur, rfl, hb, hg, by omega, hx, hs, ?_⟩
    have h9 := congrArg (fun l => l.take (p.length * 6)) ht
    try dsimp only at h9
    rw [List.take_take, htk] at h9
    rw [← h9]
    congr 1
    omega
end Go.Proofs.YtmgkdmbifecekaaGreatDoor
namespace Go.Proofs.YtmgkdmbifecekaaGreatDoor
open Go.RowKit Go.Shelf
theorem leaf_nodeM {w : World} {g b : Nat} {t : TypeId} {L : List Rng} {c : Nat} (hb : b ≤ g) (hl : L.length ≤ 1000) (h : w.heap[g]? = some (.cells (rngs L).toArray t (0, 0))) : NodeM b w (.mk 2 L 0 0 false []) (.agg #[.int .u8 2, .slice (some ⟨g, 0, none⟩) L.length c, .int .i64 0, .int .i64 0, .bool false, .slice none 0 0]) := set_mask hl (new_mask hb h)
set_option maxRecDepth 10000 in
set_option maxHeartbeats 4000000 in
theorem mleaf_0 (a b : Int) (ha : 0 ≤ a ∧ a ≤ 255) (hb : 0 ≤ b ∧ b ≤ 255) (h : a % 8 = 0) (w : World) : Calls Tryz.prog 40 #[.int .u8 a, .int .u8 b] w fun e w' => ∃ v, e = .returned v ∧ NodeM w.heap.size w' (.mk 2 allR 0 0 false []) v ∧ Kept w w' := by
  go_enter Tryz.func40, Tryz.ntmps40
  go_wp2_with fail
  exact bodyPost_ret (results_cell_row Tryz.results40 _ _ w.heap.size _ #[.int .u8 2, .slice (some ⟨w.heap.size + 1 + 1, 0, none⟩) 2 2, .int .i64 0, .int .i64 0, .bool false, .slice none 0 0] (0, 0) _ rfl (al_old (al_old (heap_alloc_new _ _))) Tryz.underlying25 rfl sizeNd) rfl ⟨_, rfl, leaf_nodeM (b := w.heap.size) (by omega) (L := allR) (t := 73) (by first | decide | simp) (by first | exact alloc_new2 _ _ _ _ | (refine (alloc_new2 _ _ _ _).trans ?_; first | rfl | kernel_rfl | simp [rngs])), (((Below.refl _ w).alloc (Nat.le_refl _) _).alloc (by simp) _).alloc (by simp; omega) _⟩
set_option maxRecDepth 10000 in
set_option maxHeartbeats 4000000 in
theorem mleaf_1 (a b : Int) (ha : 0 ≤ a ∧ a ≤ 255) (hb : 0 ≤ b ∧ b ≤ 255) (h : a % 8 = 1) (w : World) : Calls Tryz.prog 40 #[.int .u8 a, .int .u8 b] w fun e w' => ∃ v, e = .returned v ∧ NodeM w.heap.size w' (.mk 2 [(97, 99)] 0 0 false []) v ∧ Kept w w' := by
  go_enter Tryz.func40, Tryz.ntmps40
  go_wp2_with fail
  exact bodyPost_ret (results_cell_row Tryz.results40 _ _ w.heap.size _ #[.int .u8 2, .slice (some ⟨w.heap.size + 1 + 1, 0, none⟩) 1 1, .int .i64 0, .int .i64 0, .bool false, .slice none 0 0] (0, 0) _ rfl (al_old (al_old (heap_alloc_new _ _))) Tryz.underlying25 rfl sizeNd) rfl ⟨_, rfl, leaf_nodeM (b := w.heap.size) (by omega) (L := [(97, 99)]) (t := 73) (by first | decide | simp) (by first | exact alloc_new2 _ _ _ _ | (refine (alloc_new2 _ _ _ _).trans ?_; first | rfl | kernel_rfl | simp [rngs])), (((Below.refl _ w).alloc (Nat.le_refl _) _).alloc (by simp) _).alloc (by simp; omega) _⟩
set_option maxRecDepth 10000 in
set_option maxHeartbeats 4000000 in
theorem mleaf_2 (a b : Int) (ha : 0 ≤ a ∧ a ≤ 255) (hb : 0 ≤ b ∧ b ≤ 255) (h : a % 8 = 2) (w : World) : Calls Tryz.prog 40 #[.int .u8 a, .int .u8 b] w fun e w' => ∃ v, e = .returned v ∧ NodeM w.heap.size w' (.mk 2 [(48, 57), (97, 98)] 0 0 false []) v ∧ Kept w w' := by
  go_enter Tryz.func40, Tryz.ntmps40
  go_wp2_with fail
  exact bodyPost_ret (results_cell_row Tryz.results40 _ _ w.heap.size _ #[.int .u8 2, .slice (some ⟨w.heap.size + 1 + 1, 0, none⟩) 2 2, .int .i64 0, .int .i64 0, .bool false, .slice none 0 0] (0, 0) _ rfl (al_old (al_old (heap_alloc_new _ _))) Tryz.underlying25 rfl sizeNd) rfl ⟨_, rfl, leaf_nodeM (b := w.heap.size) (by omega) (L := [(48, 57), (97, 98)]) (t := 73) (by first | decide | simp) (by first | exact alloc_new2 _ _ _ _ | (refine (alloc_new2 _ _ _ _).trans ?_; first | rfl | kernel_rfl | simp [rngs])), (((Below.refl _ w).alloc (Nat.le_refl _) _).alloc (by simp) _).alloc (by simp; omega) _⟩
set_option maxRecDepth 10000 in
set_option maxHeartbeats 4000000 in
theorem mleaf_3 (a b : Int) (ha : 0 ≤ a ∧ a ≤ 255) (hb : 0 ≤ b ∧ b ≤ 255) (h : a % 8 = 3) (w : World) : Calls Tryz.prog 40 #[.int .u8 a, .int .u8 b] w fun e w' => ∃ v, e = .returned v ∧ NodeM w.heap.size w' (.mk 2 [(8364, 8364)] 0 0 false []) v ∧ Kept w w' := by
  go_enter Tryz.func40, Tryz.ntmps40
  go_wp2_with fail
  exact bodyPost_ret (results_cell_row Tryz.results40 _ _ w.heap.size _ #[.int .u8 2, .slice (some ⟨w.heap.size + 1 + 1, 0, none⟩) 1 1, .int .i64 0, .int .i64 0, .bool false, .slice none 0 0] (0, 0) _ rfl (al_old (al_old (heap_alloc_new _ _))) Tryz.underlying25 rfl sizeNd) rfl ⟨_, rfl, leaf_nodeM (b := w.heap.size) (by omega) (L := [(8364, 8364)]) (t := 73) (by first | decide | simp) (by first | exact alloc_new2 _ _ _ _ | (refine (alloc_new2 _ _ _ _).trans ?_; first | rfl | kernel_rfl | simp [rngs])), (((Below.refl _ w).alloc (Nat.le_refl _) _).alloc (by simp) _).alloc (by simp; omega) _⟩
set_option maxRecDepth 10000 in
set_option maxHeartbeats 4000000 in
theorem mleaf_40 (a b : Int) (ha : 0 ≤ a ∧ a ≤ 255) (hb : 0 ≤ b ∧ b ≤ 255) (h : a % 8 = 4) (h6 : b % 6 = 0) (w : World) : Calls Tryz.prog 40 #[.int .u8 a, .int .u8 b] w fun e w' => ∃ v, e = .returned v ∧ NodeM w.heap.size w' (.mk 2 [(42, 42)] 0 0 false []) v ∧ Kept w w' := by
  go_enter Tryz.func40, Tryz.ntmps40
  go_wp2_with fail
  exact bodyPost_ret (results_cell_row Tryz.results40 _ _ w.heap.size _ #[.int .u8 2, .slice (some ⟨w.heap.size + 1 + 1, 0, none⟩) 1 1, .int .i64 0, .int .i64 0, .bool false, .slice none 0 0] (0, 0) _ rfl (al_old (al_old (heap_alloc_new _ _))) Tryz.underlying25 rfl sizeNd) rfl ⟨_, rfl, leaf_nodeM (b := w.heap.size) (by omega) (L := [(42, 42)]) (t := 73) (by first | decide | simp) (by first | exact alloc_new2 _ _ _ _ | (refine (alloc_new2 _ _ _ _).trans ?_; first | rfl | kernel_rfl | simp [rngs])), (((Below.refl _ w).alloc (Nat.le_refl _) _).alloc (by simp) _).alloc (by simp; omega) _⟩
set_option maxRecDepth 10000 in
set_option maxHeartbeats 4000000 in
theorem mleaf_41 (a b : Int) (ha : 0 ≤ a ∧ a ≤ 255) (hb : 0 ≤ b ∧ b ≤ 255) (h : a % 8 = 4) (h6 : b % 6 = 1) (w : World) : Calls Tryz.prog 40 #[.int .u8 a, .int .u8 b] w fun e w' => ∃ v, e = .returned v ∧ NodeM w.heap.size w' (.mk 2 [(46, 46)] 0 0 false []) v ∧ Kept w w' := by
  go_enter Tryz.func40, Tryz.ntmps40
  go_wp2_with fail
  exact bodyPost_ret (results_cell_row Tryz.results40 _ _ w.heap.size _ #[.int .u8 2, .slice (some ⟨w.heap.size + 1 + 1, 0, none⟩) 1 1, .int .i64 0, .int .i64 0, .bool false, .slice none 0 0] (0, 0) _ rfl (al_old (al_old (heap_alloc_new _ _))) Tryz.underlying25 rfl sizeNd) rfl ⟨_, rfl, leaf_nodeM (b := w.heap.size) (by omega) (L := [(46, 46)]) (t := 73) (by first | decide | simp) (by first | exact alloc_new2 _ _ _ _ | (refine (alloc_new2 _ _ _ _).trans ?_; first | rfl | kernel_rfl | simp [rngs])), (((Below.refl _ w).alloc (Nat.le_refl _) _).alloc (by simp) _).alloc (by simp; omega) _⟩
set_option maxRecDepth 10000 in
set_option maxHeartbeats 4000000 in
theorem mleaf_42 (a b : Int) (ha : 0 ≤ a ∧ a ≤ 255) (hb : 0 ≤ b ∧ b ≤ 255) (h : a % 8 = 4) (h6 : b % 6 = 2) (w : World) : Calls Tryz.prog 40 #[.int .u8 a, .int .u8 b] w fun e w' => ∃ v, e = .returned v ∧ NodeM w.heap.size w' (.mk 2 [(124, 124)] 0 0 false []) v ∧ Kept w w' := by
  go_enter Tryz.func40, Tryz.ntmps40
  go_wp2_with fail
  exact bodyPost_ret (results_cell_row Tryz.results40 _ _ w.heap.size _ #[.int .u8 2, .slice (some ⟨w.heap.size + 1 + 1, 0, none⟩) 1 1, .int .i64 0, .int .i64 0, .bool false, .slice none 0 0] (0, 0) _ rfl (al_old (al_old (heap_alloc_new _ _))) Tryz.underlying25 rfl sizeNd) rfl ⟨_, rfl, leaf_nodeM (b := w.heap.size) (by omega) (L := [(124, 124)]) (t := 73) (by first | decide | simp) (by first | exact alloc_new2 _ _ _ _ | (refine (alloc_new2 _ _ _ _).trans ?_; first | rfl | kernel_rfl | simp [rngs])), (((Below.refl _ w).alloc (Nat.le_refl _) _).alloc (by simp) _).alloc (by simp; omega) _⟩
set_option maxRecDepth 10000 in
set_option maxHeartbeats 4000000 in
theorem mleaf_43 (a b : Int) (ha : 0 ≤ a ∧ a ≤ 255) (hb : 0 ≤ b ∧ b ≤ 255) (h : a % 8 = 4) (h6 : b % 6 = 3) (w : World) : Calls Tryz.prog 40 #[.int .u8 a, .int .u8 b] w fun e w' => ∃ v, e = .returned v ∧ NodeM w.heap.size w' (.mk 2 [(92, 92)] 0 0 false []) v ∧ Kept w w' := by
  go_enter Tryz.func40, Tryz.ntmps40
  go_wp2_with fail
  exact bodyPost_ret (results_cell_row Tryz.results40 _ _ w.heap.size _ #[.int .u8 2, .slice (some ⟨w.heap.size + 1 + 1, 0, none⟩) 1 1, .int .i64 0, .int .i64 0, .bool false, .slice none 0 0] (0, 0) _ rfl (al_old (al_old (heap_alloc_new _ _))) Tryz.underlying25 rfl sizeNd) rfl ⟨_, rfl, leaf_nodeM (b := w.heap.size) (by omega) (L := [(92, 92)]) (t := 73) (by first | decide | simp) (by first | exact alloc_new2 _ _ _ _ | (refine (alloc_new2 _ _ _ _).trans ?_; first | rfl | kernel_rfl | simp [rngs])), (((Below.refl _ w).alloc (Nat.le_refl _) _).alloc (by simp) _).alloc (by simp; omega) _⟩
set_option maxRecDepth 10000 in
set_option maxHeartbeats 4000000 in
theorem mleaf_44 (a b : Int) (ha : 0 ≤ a ∧ a ≤ 255) (hb : 0 ≤ b ∧ b ≤ 255) (h : a % 8 = 4) (h6 : b % 6 = 4) (w : World) : Calls Tryz.prog 40 #[.int .u8 a, .int .u8 b] w fun e w' => ∃ v, e = .returned v ∧ NodeM w.heap.size w' (.mk 2 [(45, 45)] 0 0 false []) v ∧ Kept w w' := by
  go_enter Tryz.func40, Tryz.ntmps40
  go_wp2_with fail
  exact bodyPost_ret (results_cell_row Tryz.results40 _ _ w.heap.size _ #[.int .u8 2, .slice (some ⟨w.heap.size + 1 + 1, 0, none⟩) 1 1, .int .i64 0, .int .i64 0, .bool false, .slice none 0 0] (0, 0) _ rfl (al_old (al_old (heap_alloc_new _ _))) Tryz.underlying25 rfl sizeNd) rfl ⟨_, rfl, leaf_nodeM (b := w.heap.size) (by omega) (L := [(45, 45)]) (t := 73) (by first | decide | simp) (by first | exact alloc_new2 _ _ _ _ | (refine (alloc_new2 _ _ _ _).trans ?_; first | rfl | kernel_rfl | simp [rngs])), (((Below.refl _ w).alloc (Nat.le_refl _) _).alloc (by simp) _).alloc (by simp; omega) _⟩
set_option maxRecDepth 10000 in
set_option maxHeartbeats 4000000 in
theorem mleaf_45 (a b : Int) (ha : 0 ≤ a ∧ a ≤ 255) (hb : 0 ≤ b ∧ b ≤ 255) (h : a % 8 = 4) (h6 : b % 6 = 5) (w : World) : Calls Tryz.prog 40 #[.int .u8 a, .int .u8 b] w fun e w' => ∃ v, e = .returned v ∧ NodeM w.heap.size w' (.mk 2 [(93, 93)] 0 0 false []) v ∧ Kept w w' := by
  go_enter Tryz.func40, Tryz.ntmps40
  go_wp2_with fail
  exact bodyPost_ret (results_cell_row Tryz.results40 _ _ w.heap.size _ #[.int .u8 2, .slice (some ⟨w.heap.size + 1 + 1, 0, none⟩) 1 1, .int .i64 0, .int .i64 0, .bool false, .slice none 0 0] (0, 0) _ rfl (al_old (al_old (heap_alloc_new _ _))) Tryz.underlying25 rfl sizeNd) rfl ⟨_, rfl, leaf_nodeM (b := w.heap.size) (by omega) (L := [(93, 93)]) (t := 73) (by first | decide | simp) (by first | exact alloc_new2 _ _ _ _ | (refine (alloc_new2 _ _ _ _).trans ?_; first | rfl | kernel_rfl | simp [rngs])), (((Below.refl _ w).alloc (Nat.le_refl _) _).alloc (by simp) _).alloc (by simp; omega) _⟩
set_option maxRecDepth 10000 in
set_option maxHeartbeats 4000000 in
theorem mleaf_5 (a b : Int) (ha : 0 ≤ a ∧ a ≤ 255) (hb : 0 ≤ b ∧ b ≤ 255) (h0 : a % 8 ≠ 0) (h1 : a % 8 ≠ 1) (h2 : a % 8 ≠ 2) (h3 : a % 8 ≠ 3) (h4 : a % 8 ≠ 4) (w : World) : Calls Tryz.prog 40 #[.int .u8 a, .int .u8 b] w fun e w' => ∃ v, e = .returned v ∧ NodeM w.heap.size w' (.mk 2 [(97 + b % 4, 97 + b % 4)] 0 0 false []) v ∧ Kept w w' := by
  go_enter Tryz.func40, Tryz.ntmps40
  go_wp2_with fail
  exact bodyPost_ret (results_cell_row Tryz.results40 _ _ w.heap.size _ #[.int .u8 2, .slice (some ⟨w.heap.size + 1 + 1, 0, none⟩) 1 1, .int .i64 0, .int .i64 0, .bool false, .slice none 0 0] (0, 0) _ rfl (al_old (al_old (heap_alloc_new _ _))) Tryz.underlying25 rfl sizeNd) rfl ⟨_, rfl, leaf_nodeM (b := w.heap.size) (by omega) (L := [(97 + b % 4, 97 + b % 4)]) (t := 73) (by first | decide | simp) (by first | exact alloc_new2 _ _ _ _ | (refine (alloc_new2 _ _ _ _).trans ?_; first | rfl | kernel_rfl | simp [rngs])), (((Below.refl _ w).alloc (Nat.le_refl _) _).alloc (by simp) _).alloc (by simp; omega) _⟩
theorem mleaf_any (a b : Int) (ha : 0 ≤ a ∧ a ≤ 255) (hb : 0 ≤ b ∧ b ≤ 255) (w : World) : Calls Tryz.prog 40 #[.int .u8 a, .int .u8 b] w fun e w' => ∃ v, e = .returned v ∧ NodeM w.heap.size w' (.mk 2 (leafT a b) 0 0 false []) v ∧ Kept w w' := by
  unfold leafT
  by_cases h0 : a % 8 = 0
  · rw [if_pos h0]; exact mleaf_0 a b ha hb h0 w
  rw [if_neg h0]
  by_cases h1 : a % 8 = 1
  · rw [if_pos h1]; exact mleaf_1 a b ha hb h1 w
  rw [if_neg h1]
  by_cases h2 : a % 8 = 2
  · rw [if_pos h2]; exact mleaf_2 a b ha hb h2 w
  rw [if_neg h2]
  by_cases h3 : a % 8 = 3
  · rw [if_pos h3]; exact mleaf_3 a b ha hb h3 w
  rw [if_neg h3]
  by_cases h4 : a % 8 = 4
  · rw [if_pos h4]
    have hb6 : 0 ≤ b % 6 ∧ b % 6 < 6 := ⟨Int.emod_nonneg _ (by decide), Int.emod_lt_of_pos _ (by decide)⟩
    rcases (by omega : b % 6 = 0 ∨ b % 6 = 1 ∨ b % 6 = 2 ∨ b % 6 = 3 ∨ b % 6 = 4 ∨ b % 6 = 5) with h | h | h | h | h | h
    · rw [h]; exact mleaf_40 a b ha hb h4 h w
    · rw [h]; exact mleaf_41 a b ha hb h4 h w
    · rw [h]; exact mleaf_42 a b ha hb h4 h w
    · rw [h]; exact mleaf_43 a b ha hb h4 h w
    · rw [h]; exact mleaf_44 a b ha hb h4 h w
    · rw [h]; exact mleaf_45 a b ha hb h4 h w
  rw [if_neg h4]
  exact mleaf_5 a b ha hb h0 h1 h2 h3 h4 w
end Go.Proofs.YtmgkdmbifecekaaGreatDoor
namespace Go.Proofs.YtmgkdmbifecekaaGreatDoor
open Go.RowKit Go.Shelf
/-- One more, laid in a row of one. -/
theorem PartsI.step1 {B Bt : Nat} {w1 w5 : World} {v v5 : Value} {ts : List Tree} {xs cs : List Value} {t : Tree} (o : Obj) (h : PartsI B w1 v ts xs) (hB : B ≤ Bt) (hBt : Bt ≤ w1.heap.size) (hlt : ∀ b, v.ownBlock = some b → B ≤ b ∧ b < Bt) (hn : NodeC (mask Bt w1) t cs)
    (hown : w5.ownsRow B 25 6 v5 (ts.length + 1) (xs ++ cs)) (hg : (w1.alloc o).grownBy w5 v.ownBlock) (hl : v5.ownBlock = v.ownBlock ∨ v5.ownBlock = some (w1.alloc o).heap.size) : PartsI B w5 v5 (ts ++ [t]) (xs ++ cs) ∧ Below B w1 w5 := by
  have hk : Kept w1 (w1.alloc o) := (Below.refl _ w1).alloc (Nat.le_refl _) o
  refine ⟨PartsI.push (h.kept hk) hB (fun b e => (hlt b e).2) (NodeC.sub (w := mask Bt w1) ?_ (grow_hyp (Nat.le_refl _) (fun k _ hk2 => hk.block k hk2)) t cs hn) hown hg hl, (hk.mono (Nat.le_trans hB hBt)).grown hg (by simp; omega) (fun b e => (hlt b e).1)⟩
  rw [mask_size, mask_size]
  exact hk.size
/-- A node with one part. -/
theorem node_one {w : World} {g c : Nat} {t : Tree} {cs : List Value} {kd mn mx : Int} {lz : Bool} (hn : NodeC w t cs) (h : w.heap[g]? = some (.cells cs.toArray 25 (0, 0))) : NodeC w (.mk kd [] mn mx lz [t]) [.int .u8 kd, .slice none 0 0, .int .i64 mn, .int .i64 mx, .bool lz, .slice (some ⟨g, 0, none⟩) 1 c] := by
  have hlen := NodeC.len hn
  unfold NodeC
  refine ⟨none, 0, some ⟨g, 0, none⟩, c, rfl, ⟨by simp, by simp⟩, Rd.nil, cs, ⟨⟨hlen, fun _ => ⟨_, rfl, heap_lt h, fun j u hu => row_cells h j u (by rw [← hu]; exact List.getElem?_toArray ..)⟩⟩, fun _ ad e => by cases e; exact ⟨_, _, h⟩⟩, ?_⟩
  unfold NodesC
  exact ⟨cs, [], (List.append_nil _).symm, hn, by unfold NodesC; rfl⟩
/-- A node with parts. -/
theorem node_parts {w : World} {A : Option Addr} {c : Nat} {ts : List Tree} {xs : List Value} {kd mn mx : Int} {lz : Bool} (hl : ts.length ≤ 1000000) (hr : RdP w A (ts.length * 6) xs) (hn : NodesC w ts xs) : NodeC w (.mk kd [] mn mx lz ts) [.int .u8 kd, .slice none 0 0, .int .i64 mn, .int .i64 mx, .bool lz, .slice A ts.length c] := by
  unfold NodeC
  exact ⟨none, 0, A, c, rfl, ⟨by simp, by omega⟩, Rd.nil, xs, hr, hn⟩
theorem range_kept {w w' : World} (hk : Kept w w') {g o : Nat} {cs : List Value} (hg : g < w.heap.size) (h : w.rangeAt g o cs) : w'.rangeAt g o cs := fun j v hv => (Below.cell hk (p := ⟨g, o + j, none⟩) hg).trans (h j v hv)
theorem there_kept {w w' : World} (hk : Kept w w') {g o n : Nat} (hg : g < w.heap.size) (h : w.there g o n) : w'.there g o n := fun j hj => by
  refine ⟨by rw [Below.cell hk (p := ⟨g, o + j, none⟩) hg]; exact (h j hj).1, ?_⟩
  have := (h j hj).2
  unfold World.frozen? at this ⊢
  rw [hk.block g hg]
  exact this
/-- What is seen without the pile, in a later world. -/
theorem hide_sub {B g : Nat} {w w' : World} (hk : Kept w w') {t : Tree} {cs : List Value} (h : NodeC (hideO (some g) (mask B w)) t cs) : NodeC (hideO (some g) (mask B w')) t cs := by
  refine NodeC.sub (w := hideO (some g) (mask B w)) (by rw [hideO_size, hideO_size, mask_size, mask_size]; exact hk.size) ?_ t cs h
  intro q u hq
  obtain ⟨g1, g2, g3, g4⟩ := hm_cell hq
  rw [hideO_at g1, mask_hi g2, g4]
  exact hk.block _ g3
theorem hide_at {B g b : Nat} {w : World} (hb : B ≤ b) (hne : g ≠ b) : (hideO (some g) (mask B w)).heap[b]? = w.heap[b]? := by
  rw [hideO_at (fun e => hne (Option.some.inj e)), mask_hi hb]
theorem last_snoc (q : List Tree) (t : Tree) : lastT (q ++ [t]) = t := by simp [lastT]
theorem snoc_of {p : List Tree} (h : p.length ≠ 0) : ∃ q t, p = q ++ [t] := by
  refine ⟨p.dropLast, p.getLast (fun e => h (by rw [e]; rfl)), ?_⟩
  rw [List.dropLast_concat_getLast]
end Go.Proofs.YtmgkdmbifecekaaGreatDoor
