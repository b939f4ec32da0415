/-
  Package syntax: sequences.
-/
import Derived.Test.YtmgkdmbifecekaaGreatDoorMlay
import Derived.Scope
set_option linter.all false
set_option linter.unusedSimpArgs false
set_option linter.unusedVariables false
set_option linter.unusedSectionVars false
namespace Go.Proofs.YtmgkdmbifecekaaGreatDoor
open Go.RowKit Go.Shelf
theorem infoNd : (Tryz.prog.info? 25).map (fun i => (i.zero, i.size, i.bytes)) = some (some (.agg #[.int .u8 0, .slice none 0 0, .int .i64 0, .int .i64 0, .bool false, .slice none 0 0]), 6, 80) := by kernel_rfl
/-- Items from some place on, behind those that are read. -/
def itO (acc : List Tree) (o : Option (List Tree × Bs)) : Option (List Tree × Bs) := match o with
  | none => none
  | some (ts, r) => some (acc ++ ts, r)
/-- How much is not read yet. -/
def rdrLen (g : Nat) (w : World) : Nat := match w.cell? ⟨g, 0, none⟩ with
  | some (.string s) => s.size
  | _ => 0
theorem rdrLen_at {g : Nat} {w : World} {l : Bs} (h : RdrAt w g (b8 l)) : rdrLen g w = l.length := by
  unfold rdrLen
  rw [show w.cell? ⟨g, 0, none⟩ = some (.string (b8 l)) from by rw [cell_of_row _ _ _ _ _ _ h]; rfl]
  rfl
theorem cells_new2 (w : World) (o : Obj) (l : List Value) (t : TypeId) : ∀ (j : Nat) (u : Value), l[j]? = some u → ((w.alloc o).alloc (.cells l.toArray t)).cell? ((⟨w.heap.size + 1, 0, none⟩ : Addr).add j) = some u := by
  have h := cells_new (w.alloc o) l t
  have e : (w.alloc o).heap.size = w.heap.size + 1 := by simp
  rwa [e] at h
/-- One more, laid in a block of its own and then in a row of one. -/
theorem PartsI.step {B Bt : Nat} {w1 w5 : World} {v v5 : Value} {ts : List Tree} {xs cs : List Value} {t : Tree} (o1 o2 : Obj) (h : PartsI B w1 v ts xs) (hB : B ≤ Bt) (hBt : Bt ≤ w1.heap.size) (hlt : ∀ b, v.ownBlock = some b → B ≤ b ∧ b < Bt) (hn : NodeC (mask Bt w1) t cs)
    (hown : w5.ownsRow B 25 6 v5 (ts.length + 1) (xs ++ cs)) (hg : ((w1.alloc o1).alloc o2).grownBy w5 v.ownBlock) (hl : v5.ownBlock = v.ownBlock ∨ v5.ownBlock = some ((w1.alloc o1).alloc o2).heap.size) : PartsI B w5 v5 (ts ++ [t]) (xs ++ cs) ∧ Below B w1 w5 := by
  have hk : Kept w1 ((w1.alloc o1).alloc o2) := (Below.refl _ w1).alloc (Nat.le_refl _) o1 |>.alloc (by simp) o2
  refine ⟨PartsI.push (h.kept hk) hB (fun b e => (hlt b e).2) (NodeC.sub (w := mask Bt w1) ?_ (grow_hyp (Nat.le_refl _) (fun k _ hk2 => hk.block k hk2)) t cs hn) hown hg hl, (hk.mono (Nat.le_trans hB hBt)).grown hg (by simp; omega) (fun b e => (hlt b e).1)⟩
  rw [mask_size, mask_size]
  exact hk.size
section
variable (g : Nat) (l0 : Bs) (hl0 : l0.length ≤ 1000000) (ho0 : okB l0 = true) (N : Nat) (hN : 8 * l0.length + 5 ≤ N)
  (CI : ∀ n l, n < N → Suf l l0 → stopP l = false → 8 * l.length + 4 ≤ n → NdC 95 g l (itemF n l)) (W : World)
include hl0 ho0 hN CI
set_option maxRecDepth 10000 in
set_option maxHeartbeats 4000000 in
theorem seq_any (h : RdrAt W g (b8 l0)) : Calls Tryz.prog 67 #[.pointer (some ⟨g, 0, none⟩)] W (NdPost g (match itemsF N l0 with | none => none | some (ts, r) => some (joinT 3 ts, r)) W) := by
  have hgW := heap_lt h
  have HC := Lib.hid CI
  have Hl0 := Lib.hid hl0
  have Ho0 := Lib.hid ho0
  have hK0 : Kept W (W.alloc (.cells #[.int .u8 0, .slice none 0 0, .int .i64 0, .int .i64 0, .bool false, .slice none 0 0] 25)) := (Below.refl _ W).alloc (Nat.le_refl _) _
  have A2 := Lib.hid (heap_alloc_new W (.cells #[.int .u8 0, .slice none 0 0, .int .i64 0, .int .i64 0, .bool false, .slice none 0 0] 25))
  have A1 := Lib.hid (rdr_grow h hK0)
  have A0 : Hid (W.grownBy (W.alloc (.cells #[.int .u8 0, .slice none 0 0, .int .i64 0, .int .i64 0, .bool false, .slice none 0 0] 25)) (some g)) := grown_of_kept hK0
  have hgb : g ≠ W.heap.size := by omega
  have HN : Hid (8 * l0.length + 5 ≤ N) := hN
  clear h hK0 CI hl0 ho0 hN
  go_enter Tryz.func67, Tryz.ntmps67
  go_wp2_with fail
  refine wp_scope_straight ?_
  go_wp2_with fail
  refine wp_label ?_
  go_wp2_with fail
  go_loopw [4] (fun v4 wr => ∃ (acc : List Tree) (xs : List Value) (l : Bs) (n : Nat), Hid (PartsI (W.heap.size + 1) wr v4 acc xs) ∧ Hid (RdrAt wr g (b8 l)) ∧ Hid (W.grownBy wr (some g)) ∧ Hid (wr.heap[W.heap.size]? = some (.cells #[.int .u8 0, .slice none 0 0, .int .i64 0, .int .i64 0, .bool false, .slice none 0 0] 25 (0, 0))) ∧ Hid (itemsF N l0 = itO acc (itemsF n l)) ∧ Hid (n ≤ N ∧ 8 * l.length + 5 ≤ n ∧ Suf l l0 ∧ acc.length + l.length ≤ l0.length)) (fun _ wr => rdrLen g wr)
  case atStart => exact ⟨[], [], l0, N, PartsI.nil, A1, A0, A2, by show _ = _; unfold itO; cases itemsF N l0 <;> rfl, ⟨Nat.le_refl _, HN.out, Suf.refl _, by simp⟩⟩
  case round =>
    obtain ⟨acc, xs, l, n, hp, hr, hg, h2, hi, hb⟩ := hrel
    obtain ⟨wq, rfl⟩ : ∃ x, x = wr := ⟨_, rfl⟩
    clear A0 A1 A2
    have hc : wq.cell? ⟨g, 0, none⟩ = some (.string (b8 l)) := by rw [cell_of_row _ _ _ _ _ _ hr.out]; rfl
    have fin : l = [] ∨ (∃ b r, l = b :: r ∧ (b = 124 ∨ b = 41)) ∨ (∃ b r, l = b :: r ∧ b ≠ 124 ∧ b ≠ 41) := by
      cases l with
      | nil => exact .inl rfl
      | cons b r =>
        by_cases h1 : b = 124
        · exact .inr (.inl ⟨b, r, rfl, .inl h1⟩)
        · by_cases h2 : b = 41
          · exact .inr (.inl ⟨b, r, rfl, .inr h2⟩)
          · exact .inr (.inr ⟨b, r, rfl, h1, h2⟩)
    rcases fin with rfl | ⟨b, r, rfl, hbb⟩ | ⟨b, r, rfl, h124, h41⟩
    · have hres : Hid (itemsF N l0 = some (acc, [])) := by
        show _ = _
        obtain ⟨m, rfl⟩ : ∃ m, n = m + 1 := ⟨n - 1, by have := hb.out.2.1; omega⟩
        rw [hi.out, itemsF, if_pos (by rfl)]
        simp [itO]
      have hacc : acc.length ≤ 1000000 := by have := hb.out.2.2.2; have := Hl0.out; omega
      go_wp2_with fail
      refine (sjoin_any 3 (W.heap.size + 1) wq _ acc xs (by omega) hp.out).mono ?_
      rintro e w1 ⟨k, A1, sn, c1, mn, mx, lz, A2, un, c2, rfl, hn, hk⟩
      have H2 := Lib.hid (heap_kept hk h2.out)
      have Hr := Lib.hid (rdr_grow hr.out hk)
      have Hg : Hid (W.grownBy w1 (some g)) := grown_trans hg.out (grown_of_kept hk)
      have Hn := Lib.hid hn
      clear hk hn hp hr hg h2 hc
      unfold ndV
      dsimp only
      go_wp2_with (first | ((refine wpList_store_row ?c0 25 (.tmp 2) (.tmp 33) ?c1 W.heap.size #[.int .u8 k, .slice A1 sn c1, .int .i64 mn, .int .i64 mx, .bool lz, .slice A2 un c2] ?c2 ?c3 _ _ H2.out ?c4 ?c5 ?c6 ?_); (case c0 => with_reducible rfl); (case c1 => with_reducible rfl); (case c2 => rfl); (case c3 => rfl); (case c4 => exact sizeNd); (case c5 => rfl); (case c6 => simp [Value.oneCell'])))
      refine bodyPost_ret (res_node Tryz.results67 _ _ W.heap.size #[.int .u8 k, .slice A1 sn c1, .int .i64 mn, .int .i64 mx, .bool lz, .slice A2 un c2] rfl rfl (setRow_heap _ _ _ _ _ _ H2.out)) rfl ?_
      unfold NdPost
      rw [hres.out]
      exact ⟨grown_setRow Hg.out (Nat.le_refl _) _, k, A1, sn, c1, mn, mx, lz, A2, un, c2, rfl, NodeM.set Hn.out (by omega) (by omega) _, (heap_setRow_out hgb _).trans Hr.out⟩
    · have hres : Hid (itemsF N l0 = some (acc, (b :: r))) := by
        show _ = _
        obtain ⟨m, rfl⟩ : ∃ m, n = m + 1 := ⟨n - 1, by have := hb.out.2.1; omega⟩
        rw [hi.out, itemsF, if_pos (by rcases hbb with rfl | rfl <;> rfl)]
        simp [itO]
      have hacc : acc.length ≤ 1000000 := by have := hb.out.2.2.2; have := Hl0.out; omega
      have hs0 : 0 < (b8 (b :: r)).size := by rw [b8_size, List.length_cons]; omega
      have hpos : (0 : Int) < ((b :: r).length : Int) := by rw [List.length_cons]; omega
      rcases hbb with rfl | rfl
      · have e1 : (((b8 (124 :: r))[0].toNat : Int) == 124) = true := rfl
        go_wp2_with fail
        refine (sjoin_any 3 (W.heap.size + 1) wq _ acc xs (by omega) hp.out).mono ?_
        rintro e w1 ⟨k, A1, sn, c1, mn, mx, lz, A2, un, c2, rfl, hn, hk⟩
        have H2 := Lib.hid (heap_kept hk h2.out)
        have Hr := Lib.hid (rdr_grow hr.out hk)
        have Hg : Hid (W.grownBy w1 (some g)) := grown_trans hg.out (grown_of_kept hk)
        have Hn := Lib.hid hn
        clear hk hn hp hr hg h2 hc
        unfold ndV
        dsimp only
        go_wp2_with (first | ((refine wpList_store_row ?c0 25 (.tmp 2) (.tmp 33) ?c1 W.heap.size #[.int .u8 k, .slice A1 sn c1, .int .i64 mn, .int .i64 mx, .bool lz, .slice A2 un c2] ?c2 ?c3 _ _ H2.out ?c4 ?c5 ?c6 ?_); (case c0 => with_reducible rfl); (case c1 => with_reducible rfl); (case c2 => rfl); (case c3 => rfl); (case c4 => exact sizeNd); (case c5 => rfl); (case c6 => simp [Value.oneCell'])))
        refine bodyPost_ret (res_node Tryz.results67 _ _ W.heap.size #[.int .u8 k, .slice A1 sn c1, .int .i64 mn, .int .i64 mx, .bool lz, .slice A2 un c2] rfl rfl (setRow_heap _ _ _ _ _ _ H2.out)) rfl ?_
        unfold NdPost
        rw [hres.out]
        exact ⟨grown_setRow Hg.out (Nat.le_refl _) _, k, A1, sn, c1, mn, mx, lz, A2, un, c2, rfl, NodeM.set Hn.out (by omega) (by omega) _, (heap_setRow_out hgb _).trans Hr.out⟩
      · have e1 : (((b8 (41 :: r))[0].toNat : Int) == 124) = false := rfl
        have e2 : (((b8 (41 :: r))[0].toNat : Int) == 41) = true := rfl
        go_wp2_with fail
        refine (sjoin_any 3 (W.heap.size + 1) wq _ acc xs (by omega) hp.out).mono ?_
        rintro e w1 ⟨k, A1, sn, c1, mn, mx, lz, A2, un, c2, rfl, hn, hk⟩
        have H2 := Lib.hid (heap_kept hk h2.out)
        have Hr := Lib.hid (rdr_grow hr.out hk)
        have Hg : Hid (W.grownBy w1 (some g)) := grown_trans hg.out (grown_of_kept hk)
        have Hn := Lib.hid hn
        clear hk hn hp hr hg h2 hc
        unfold ndV
        dsimp only
        go_wp2_with (first | ((refine wpList_store_row ?c0 25 (.tmp 2) (.tmp 33) ?c1 W.heap.size #[.int .u8 k, .slice A1 sn c1, .int .i64 mn, .int .i64 mx, .bool lz, .slice A2 un c2] ?c2 ?c3 _ _ H2.out ?c4 ?c5 ?c6 ?_); (case c0 => with_reducible rfl); (case c1 => with_reducible rfl); (case c2 => rfl); (case c3 => rfl); (case c4 => exact sizeNd); (case c5 => rfl); (case c6 => simp [Value.oneCell'])))
        refine bodyPost_ret (res_node Tryz.results67 _ _ W.heap.size #[.int .u8 k, .slice A1 sn c1, .int .i64 mn, .int .i64 mx, .bool lz, .slice A2 un c2] rfl rfl (setRow_heap _ _ _ _ _ _ H2.out)) rfl ?_
        unfold NdPost
        rw [hres.out]
        exact ⟨grown_setRow Hg.out (Nat.le_refl _) _, k, A1, sn, c1, mn, mx, lz, A2, un, c2, rfl, NodeM.set Hn.out (by omega) (by omega) _, (heap_setRow_out hgb _).trans Hr.out⟩
    · have hs0 : 0 < (b8 (b :: r)).size := by rw [b8_size, List.length_cons]; omega
      have e1 : (((b8 (b :: r))[0].toNat : Int) == 124) = false := by
        show ((b.toNat : Int) == 124) = false
        rw [beq_eq_false_iff_ne]
        intro e
        exact h124 (UInt8.toNat_inj.1 (by show b.toNat = 124; omega))
      have e2 : (((b8 (b :: r))[0].toNat : Int) == 41) = false := by
        show ((b.toNat : Int) == 41) = false
        rw [beq_eq_false_iff_ne]
        intro e
        exact h41 (UInt8.toNat_inj.1 (by show b.toNat = 41; omega))
      have hpos : (0 : Int) < ((b :: r).length : Int) := by rw [List.length_cons]; omega
      have hst : stopP (b :: r) = false := by simp [stopP, h124, h41]
      obtain ⟨m, hm⟩ : ∃ m, n = m + 1 := ⟨n - 1, by have := hb.out.2.1; omega⟩
      subst hm
      have hit : Hid (itemsF (m + 1) (b :: r) = match itemF m (b :: r) with
        | none => none
        | some (t, r) => match itemsF m r with
          | none => none
          | some (ts, r2) => some (t :: ts, r2)) := by
        show _ = _
        rw [itemsF, if_neg (by rw [hst]; decide)]
        rcases itemF m (b :: r) with _ | ⟨t, r1⟩
        · rfl
        · dsimp only
          cases itemsF m r1 <;> rfl
      have CIt := Lib.hid (HC.out m (b :: r) (by have := hb.out.1; omega) hb.out.2.2.1 hst (by have := hb.out.2.1; omega) wq hr.out)
      have hsuf := Lib.hid (fun t r2 h => (suf_all m).2.2.2.2.1 (b :: r) t r2 (hb.out.2.2.1.ok Ho0.out) (by simp) h)
      clear h124 h41 hst
      go_wp2_with fail
      refine CIt.out.mono ?_
      rintro e w1 hpost
      unfold NdPost at hpost
      obtain ⟨hg1, hpost⟩ := hpost
      obtain ⟨o, ho⟩ : ∃ o, o = itemF m (b :: r) := ⟨_, rfl⟩
      rw [← ho] at hpost
      have hgq : g < W.heap.size + 1 := by omega
      have Hp1 := Lib.hid (hp.out.grown hg1 hgq)
      have H2 := Lib.hid (grown_heap hg1 h2.out (by intro e9; cases e9; exact hgb rfl))
      have Hg1 : Hid (W.grownBy w1 (some g)) := grown_trans hg.out hg1
      cases o with
      | none =>
        obtain ⟨k, A1, sn, c1, mn, mx, lz, A2, un, c2, q, rfl, hr1⟩ := hpost
        have hres : Hid (itemsF N l0 = none) := by
          show _ = _
          rw [hi.out, hit.out, ← ho]
          rfl
        have hkk : Kept w1 (w1.alloc (.cells #[.int .u8 k, .slice A1 sn c1, .int .i64 mn, .int .i64 mx, .bool lz, .slice A2 un c2] 25)) := (Below.refl _ w1).alloc (Nat.le_refl _) _
        have H2a := Lib.hid (heap_kept hkk H2.out)
        have Hra := Lib.hid (rdr_grow hr1 hkk)
        have Hga : Hid (W.grownBy (w1.alloc (.cells #[.int .u8 k, .slice A1 sn c1, .int .i64 mn, .int .i64 mx, .bool lz, .slice A2 un c2] 25)) (some g)) := grown_trans Hg1.out (grown_of_kept hkk)
        clear hp hr hg h2 hc hg1 hr1 hkk CIt hit hi ho
        unfold ndV
        dsimp only
        go_wp2_with (first | ((refine wpList_store_row ?c0 25 (.tmp 2) (.tmp 27) ?c1 W.heap.size #[.int .u8 0, .slice none 0 0, .int .i64 0, .int .i64 0, .bool false, .slice none 0 0] ?c2 ?c3 _ _ H2a.out ?c4 ?c5 ?c6 ?_); (case c0 => with_reducible rfl); (case c1 => with_reducible rfl); (case c2 => rfl); (case c3 => rfl); (case c4 => exact sizeNd); (case c5 => rfl); (case c6 => simp [Value.oneCell'])))
        refine bodyPost_ret (res_node Tryz.results67 _ _ W.heap.size #[.int .u8 0, .slice none 0 0, .int .i64 0, .int .i64 0, .bool false, .slice none 0 0] rfl rfl (setRow_heap _ _ _ _ _ _ H2a.out)) rfl ?_
        unfold NdPost
        rw [hres.out]
        exact ⟨grown_setRow Hga.out (Nat.le_refl _) _, 0, none, 0, 0, 0, 0, false, none, 0, 0, q, rfl, (heap_setRow_out hgb _).trans Hra.out⟩
      | some x =>
        obtain ⟨t, r1⟩ := x
        obtain ⟨k, A1, sn, c1, mn, mx, lz, A2, un, c2, rfl, hn, hr1⟩ := hpost
        have hs1 := hsuf.out t r1 ho.symm
        have hi2 : Hid (itemsF N l0 = itO (acc ++ [t]) (itemsF m r1)) := by
          show _ = _
          rw [hi.out, hit.out, ← ho]
          unfold itO
          dsimp only
          cases itemsF m r1 with
          | none => rfl
          | some y => simp
        obtain ⟨cs, hcs, hnc⟩ := hn
        have hcs2 : cs = [.int .u8 k, .slice A1 sn c1, .int .i64 mn, .int .i64 mx, .bool lz, .slice A2 un c2] := by
          have := congrArg (fun v => match v with | Value.agg a => a.toList | _ => []) hcs
          simpa using this.symm
        subst hcs2
        have Hn1 := Lib.hid hnc
        have Hr1 := Lib.hid hr1
        have Hs1 := Lib.hid hs1
        have hsz : W.heap.size < wq.heap.size := heap_lt h2.out
        have hle := hg1.size
        have Hlt := Lib.hid (fun j e => hp.out.o.lt j e)
        have Hr := Lib.hid hr.out
        clear hp hr hg h2 hc hg1 hr1 hnc hcs CIt hit ho hsuf hi hs1
        obtain ⟨i0, hi0, hz0, hz1, hz2⟩ := info_parts infoNd
        unfold ndV
        dsimp only
        go_wp2_with (first | ((refine wpList_load_row ?c0 25 (.tmp 5) ?c1 w1.heap.size ?c2 25 #[.int .u8 k, .slice A1 sn c1, .int .i64 mn, .int .i64 mx, .bool lz, .slice A2 un c2] (0, 0) _ (heap_alloc_new w1 _) Tryz.underlying25 ?c3 sizeNd ?_); (case c0 => with_reducible rfl); (case c1 => with_reducible rfl); (case c2 => rfl); (case c3 => rfl)) | (at_builtin; refine wpList_append_own_at _ rfl _ _ 23 rfl (W.heap.size + 1) 25 i0 _ 6 80 Tryz.underlying23 hi0 hz0 hz1 hz2 rfl (by decide) u4 acc.length xs rfl ((Hp1.out.o.alloc _).alloc _) ⟨w1.heap.size + 1, 0, none⟩ 1 1 [.int .u8 k, .slice A1 sn c1, .int .i64 mn, .int .i64 mx, .bool lz, .slice A2 un c2] rfl rfl (cells_new2 w1 _ [.int .u8 k, .slice A1 sn c1, .int .i64 mn, .int .i64 mx, .bool lz, .slice A2 un c2] 25) (by intro u hu; simp at hu; rcases hu with rfl | rfl | rfl | rfl | rfl | rfl <;> rfl) (by have := hb.out.2.2.2; have := Hl0.out; unfold maxLen; omega) (by have := hb.out.2.2.2; have := Hl0.out; omega) (by simp; omega) ?_; intro v5 w5 hown5 hg5 hn5 hl5; have Hown5 := Lib.hid hown5; have HG5 : Hid (World.grownBy _ w5 u4.ownBlock) := hg5; have Hl5 : Hid (v5.ownBlock = u4.ownBlock ∨ _) := hl5; clear hown5 hg5 hn5 hl5))
        go_roundw
        case rel =>
          obtain ⟨P5, B5⟩ := PartsI.step (B := W.heap.size + 1) (Bt := wq.heap.size) _ _ Hp1.out (by omega) hle Hlt.out Hn1.out Hown5.out HG5.out Hl5.out
          refine ⟨acc ++ [t], _, r1, m, Lib.hid P5, Lib.hid ((B5.block g hgq).trans Hr1.out), Lib.hid ⟨B5.os.trans Hg1.out.os, B5.tape.trans Hg1.out.tape, B5.output.trans Hg1.out.output, Nat.le_trans Hg1.out.size B5.size, fun k hk hne => (B5.block k (by omega)).trans (Hg1.out.block k hk hne)⟩, Lib.hid ((B5.block _ (by omega)).trans H2.out), hi2, Lib.hid ?_⟩
          refine ⟨by have := hb.out.1; omega, ?_, Suf.trans Hs1.out.1 hb.out.2.2.1, ?_⟩
          · have h1 := Hs1.out.2
            have h2 := hb.out.2.1
            omega
          · have h1 := Hs1.out.2
            have h2 := hb.out.2.2.2
            rw [List.length_append]
            show acc.length + 1 + r1.length ≤ l0.length
            omega
        case measure =>
          obtain ⟨P5, B5⟩ := PartsI.step (B := W.heap.size + 1) (Bt := wq.heap.size) _ _ Hp1.out (by omega) hle Hlt.out Hn1.out Hown5.out HG5.out Hl5.out
          rw [rdrLen_at ((B5.block g hgq).trans Hr1.out), rdrLen_at Hr.out]
          exact Hs1.out.2
end
end Go.Proofs.YtmgkdmbifecekaaGreatDoor
