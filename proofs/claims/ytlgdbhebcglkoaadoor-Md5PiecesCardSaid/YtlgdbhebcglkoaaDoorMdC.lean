/-
  What step of package md5 computes.
-/
import Derived.Test.YtlgdbhebcglkoaaDoorMdB
import Derived.Deep.QuietTactic
import Derived.BigQuiet
import Derived.RegionTactic
import Derived.BigRegion
import Derived.Lib.LaidTab
import Derived.WalkSmall
namespace Go.Proofs.YtlgdbhebcglkoaaDoor
open Go.RowKit
/-- The tables lie where their variables are. -/
def kV : Array Value := ((List.range 64).map fun i => V (mK i)).toArray
def rV : Array Value := ((List.range 16).map fun i => Value.int .i64 (Rl.getD i 0 : Int)).toArray
def Tab (w : World) : Prop := (∃ t fr, w.heap[0]? = some (.cells kV t fr)) ∧ ∃ t fr, w.heap[1]? = some (.cells rV t fr)
theorem Tab.below {w w' : World} (h : Tab w) (hb : Below w.heap.size w w') : Tab w' := by
  obtain ⟨⟨t, fr, h⟩, t', fr', h'⟩ := h
  exact ⟨⟨t, fr, (hb.block _ (Array.getElem?_eq_some_iff.1 h).1).trans h⟩, t', fr', (hb.block _ (Array.getElem?_eq_some_iff.1 h').1).trans h'⟩
theorem Tab.k {w : World} (h : Tab w) (i : Nat) (hi : i < 64) : w.cell? ⟨0, i, none⟩ = some (V (mK i)) := by
  obtain ⟨⟨t, fr, h⟩, _⟩ := h
  rw [cell_of_row _ _ _ _ _ _ h]
  simp [kV, hi]
theorem Tab.r {w : World} (h : Tab w) (i : Nat) (hi : i < 64) : w.cell? ⟨1, i / 16 * 4 + i % 4, none⟩ = some (.int .i64 (mR i : Int)) := by
  obtain ⟨_, t, fr, h⟩ := h
  rw [cell_of_row _ _ _ _ _ _ h]
  have : i / 16 * 4 + i % 4 < 16 := by omega
  simp [rV, this, mR]
set_option maxRecDepth 100000 in
set_option maxHeartbeats 2000000 in
theorem step_any (a b c d : BitVec 32) (l : List Int) (hl : l.length = 64) (hb : Bts l) (w : World) (hT : Tab w) :
    Calls Tryd.prog 40 #[.agg #[V a, V b, V c, V d], .agg (u8s l).toArray] w fun e w' => e = .returned (.agg (vals (stp (a, b, c, d) l))) ∧ Below w.heap.size w w' := by
  have hsz : (Tryd.prog.info? 48).map (·.size) = some (u8s l).toArray.size := by rw [size64]; simp [u8s_length, hl]
  have C := Lib.hid fun W => words_any l hl hb W
  obtain ⟨L, hL⟩ : ∃ L, L = (u8s l).toArray := ⟨_, rfl⟩
  rw [← hL] at hsz C ⊢
  obtain ⟨M, hM⟩ : ∃ M, M = (mrow l 64).toArray := ⟨_, rfl⟩
  rw [← hM] at C
  have hmz : (Tryd.prog.info? 88).map (·.size) = some M.size := by rw [size16w, hM, mrow_size]
  have hmo : M.all (·.oneCell') = true := by rw [hM]; exact mrow_one _ _
  have hmg : ∀ j, j < 16 → M[j]? = some (V (wd l j)) := fun j hj => by rw [hM, List.getElem?_toArray]; exact mrow_get l hb j hj
  have Hmg := Lib.hid hmg
  have Hmz := Lib.hid hmz
  have Hmo := Lib.hid hmo
  have Hsz := Lib.hid hsz
  have hm16 : M.size = 16 := by rw [hM, mrow_size]
  have Hm16 := Lib.hid hm16
  clear hsz hL hM hmg hmz hmo hm16
  go_enter Tryd.func40, Tryd.ntmps40
  go_wp2_with ((refine wpList_load_row ?c0 48 (.tmp 3) ?c1 (w.heap.size + 1) ?c2 48 L (0, 0) _ (halloc _ (hnew _ (by simp))) Tryd.underlying48 ?c3 Hsz.out ?_); (case c0 => with_reducible rfl); (case c1 => with_reducible rfl); (case c2 => rfl); (case c3 => rfl))
  refine (C.out _).mono ?_
  rintro e w1 ⟨rfl, hb1⟩
  go_wp2_with ((refine wpList_store_row ?c0 88 (.tmp 5) (.tmp 15) ?c1 w1.heap.size M ?c2 ?c3 _ _ (hnew _ rfl) ?c4 ?c5 ?c6 ?_); (case c0 => with_reducible rfl); (case c1 => with_reducible rfl); (case c2 => rfl); (case c3 => rfl); (case c4 => exact Hmz.out); (case c5 => exact Hm16.out.symm); (case c6 => exact Hmo.out))
  have hs1 := hb1.size
  simp only [World.size_alloc] at hs1
  generalize hw2 : World.setRow _ _ M = w2
  have hm2 : w2.heap[w1.heap.size]? = some (.cells M 88 (0, 0)) := by rw [← hw2]; exact setRow_heap _ _ _ _ _ _ (hnew _ rfl)
  have hk2 : ∀ g o, g < w1.heap.size → w1.heap[g]? = some o → w2.heap[g]? = some o := fun g o hg ho => by
    rw [← hw2, setRow_other _ _ _ _ (by omega)]; exact halloc _ ho
  have hx2 : w2.heap[w.heap.size]? = some (.cells #[V a, V b, V c, V d] 24 (0, 0)) :=
    hk2 _ _ (by omega) ((hb1.block _ (by simp; omega)).trans (halloc _ (halloc _ (hnew _ rfl))))
  have hr2 : w2.heap[w.heap.size + 1 + 1]? = some (.cells #[Value.int .u32 0, Value.int .u32 0, Value.int .u32 0, Value.int .u32 0] 24 (0, 0)) :=
    hk2 _ _ (by omega) ((hb1.block _ (by simp)).trans (hnew _ (by simp)))
  have hB2 : Below w.heap.size w w2 := by
    rw [← hw2]
    exact below_setRow (((((Below.refl _ w).alloc (Nat.le_refl _) _).alloc (by simp) _).alloc (by simp; omega) _ |>.trans (hb1.mono (by simp; omega))).alloc (by omega) _) (by omega) _
  have hz2 : w1.heap.size < w2.heap.size := (Array.getElem?_eq_some_iff.1 hm2).1
  have hc0 : w2.cell? ⟨w.heap.size, 0, none⟩ = some (V a) := by rw [cell_of_row _ _ _ _ _ _ hx2]; rfl
  have hc1 : w2.cell? ⟨w.heap.size, 1, none⟩ = some (V b) := by rw [cell_of_row _ _ _ _ _ _ hx2]; rfl
  have hc2 : w2.cell? ⟨w.heap.size, 2, none⟩ = some (V c) := by rw [cell_of_row _ _ _ _ _ _ hx2]; rfl
  have hc3 : w2.cell? ⟨w.heap.size, 3, none⟩ = some (V d) := by rw [cell_of_row _ _ _ _ _ _ hx2]; rfl
  have Hx2 := Lib.hid hx2
  have Hr2 := Lib.hid hr2
  have Hm2 := Lib.hid hm2
  clear hx2 hr2 hm2 hk2 hw2 hb1
  go_quiet (fail)
  clear hc0 hc1 hc2 hc3
  go_wp2_with fail
  go_loopw [6, 7, 8, 9, 24] (fun va vb vc vd i wr => ∃ (k : Nat) (p q r s : BitVec 32), k ≤ 64 ∧ i = .int .i64 k ∧ va = V p ∧ vb = V q ∧ vc = V r ∧ vd = V s ∧ Hid (turnsL l k (a, b, c, d) = (p, q, r, s)) ∧ Below w.heap.size w wr ∧ Hid (wr.heap = w2.heap)) (fun _ _ _ _ i _ => 64 - (intOf i).toNat)
  case atStart => exact ⟨0, a, b, c, d, by omega, rfl, rfl, rfl, rfl, rfl, rfl, below_drewN hB2 _, rfl⟩
  case round =>
    obtain ⟨k, p, q, r, s, hk, rfl, rfl, rfl, rfl, rfl, ht, hB, hh⟩ := hrel
    by_cases hk64 : k < 64
    · have hTr := hT.below hB
      obtain ⟨kk, hkk⟩ : ∃ kk, mK k = kk := ⟨_, rfl⟩
      obtain ⟨rr, hrr⟩ : ∃ rr, mR k = rr := ⟨_, rfl⟩
      obtain ⟨gg, hgg⟩ : ∃ gg, mG k = gg := ⟨_, rfl⟩
      obtain ⟨ff, hff⟩ : ∃ ff, mF k q r s = ff := ⟨_, rfl⟩
      obtain ⟨mm, hmm⟩ : ∃ mm, wd l gg = mm := ⟨_, rfl⟩
      obtain ⟨tt, htt⟩ : ∃ tt, p + ff + kk + mm = tt := ⟨_, rfl⟩
      obtain ⟨ro, hro⟩ : ∃ ro, rot tt rr = ro := ⟨_, rfl⟩
      obtain ⟨qq, hqq⟩ : ∃ qq, q + ro = qq := ⟨_, rfl⟩
      obtain ⟨q16, hq16⟩ : ∃ x, k / 16 = x := ⟨_, rfl⟩
      obtain ⟨r4, hr4⟩ : ∃ x, k % 4 = x := ⟨_, rfl⟩
      have hg16 : gg < 16 := by rw [← hgg]; exact mG_lt k hk64
      have hr32 : rr < 32 := by rw [← hrr]; exact mR_lt k
      have cK := hTr.k k hk64
      have cR := hTr.r k hk64
      rw [hkk] at cK
      rw [hrr, hq16, hr4] at cR
      have cM : wr.cell? ⟨w1.heap.size, gg, none⟩ = some (V mm) := by
        have h := Hm2.out
        rw [← hh.out] at h
        rw [cell_of_row _ _ _ _ _ _ h, Hmg.out gg hg16, hmm]
      have CF := Lib.hid fun W => mix_any k hk64 q r s W
      rw [hff, hgg] at CF
      have CR := Lib.hid fun W => rot_any tt rr hr32 W
      rw [hro] at CR
      have e1 := add_v p ff
      have e2 := add_v (p + ff) kk
      have e3 := add_v (p + ff + kk) mm
      have e4 := add_v q ro
      rw [htt] at e3
      rw [hqq] at e4
      generalize hpf : p + ff = pf at *
      generalize hpk : pf + kk = pk at *
      have hkq : (k : Int) / 16 = (q16 : Int) := by omega
      have hkr : (k : Int) % 4 = (r4 : Int) := by omega
      have hq4 : q16 < 4 := by omega
      have hr44 : r4 < 4 := by omega
      have Hnext : Hid (turnsL l (k + 1) (a, b, c, d) = (s, qq, q, r)) := by
        show turn l k (turnsL l k (a, b, c, d)) = _
        rw [ht.out]
        unfold turn
        simp only [hff, hkk, hgg, hmm, hrr, hpf, hpk, htt, hro, hqq]
      clear hkk hrr hgg hff hmm htt hro hqq hq16 hr4 hpf hpk
      go_wp2_with fail
      refine (CF.out _).mono ?_
      rintro e w' ⟨rfl, rfl⟩
      go_wp2_with fail
      go_quiet (fail)
      go_wp2_with fail
      refine (CR.out _).mono ?_
      rintro e w' ⟨rfl, rfl⟩
      go_wp2_with fail
      go_roundw
      case rel => exact ⟨k + 1, s, qq, q, r, by omega, by go_num, rfl, rfl, rfl, rfl, Hnext, below_drewN hB _, hh⟩
      case measure => simp [intOf]; omega
    · obtain rfl : k = 64 := by omega
      have hx : wr.heap[w.heap.size]? = some (.cells #[V a, V b, V c, V d] 24 (0, 0)) := by rw [hh.out]; exact Hx2.out
      have hr : wr.heap[w.heap.size + 1 + 1]? = some (.cells #[Value.int .u32 0, Value.int .u32 0, Value.int .u32 0, Value.int .u32 0] 24 (0, 0)) := by rw [hh.out]; exact Hr2.out
      have hc0 : wr.cell? ⟨w.heap.size, 0, none⟩ = some (V a) := by rw [cell_of_row _ _ _ _ _ _ hx]; rfl
      have hc1 : wr.cell? ⟨w.heap.size, 1, none⟩ = some (V b) := by rw [cell_of_row _ _ _ _ _ _ hx]; rfl
      have hc2 : wr.cell? ⟨w.heap.size, 2, none⟩ = some (V c) := by rw [cell_of_row _ _ _ _ _ _ hx]; rfl
      have hc3 : wr.cell? ⟨w.heap.size, 3, none⟩ = some (V d) := by rw [cell_of_row _ _ _ _ _ _ hx]; rfl
      have hres : vals (stp (a, b, c, d) l) = #[V (a + p), V (b + q), V (c + r), V (d + s)] := by
        unfold stp
        rw [ht.out]
        rfl
      have e0 := add_v a p
      have e1 := add_v b q
      have e2 := add_v c r
      have e3 := add_v d s
      generalize a + p = xa at *
      generalize b + q = xb at *
      generalize c + r = xc at *
      generalize d + s = xd at *
      have Hr := Lib.hid hr
      have Hres := Lib.hid hres
      clear hx hr hres
      have hsz4 : (Tryd.prog.info? 24).map (·.size) = some 4 := by kernel_rfl
      have Hsz4 := Lib.hid hsz4
      clear hsz4
      go_wp2_with ((refine wpList_store_row ?c0 24 (.tmp 4) (.tmp 77) ?c1 (w.heap.size + 1 + 1) #[V xa, V xb, V xc, V xd] ?c2 ?c3 _ _ Hr.out ?c4 ?c5 ?c6 ?_); (case c0 => with_reducible rfl); (case c1 => with_reducible rfl); (case c2 => rfl); (case c3 => rfl); (case c4 => exact Hsz4.out); (case c5 => rfl); (case c6 => simp [Value.oneCell']))
      exact bodyPost_ret (results_cell_row Tryd.results40 _ _ (w.heap.size + 1 + 1) _ #[V xa, V xb, V xc, V xd] (0, 0) _ rfl (setRow_heap _ _ _ _ _ _ Hr.out) Tryd.underlying24 rfl Hsz4.out) rfl ⟨by rw [Hres.out], below_setRow hB (by omega) _⟩
end Go.Proofs.YtlgdbhebcglkoaaDoor
