/-
  The walk of Read of package md5.
-/
import Derived.Test.YtlgdbhebcglkoaaDoorMdP
namespace Go.Proofs.YtlgdbhebcglkoaaDoor
open Go.RowKit Go.Shelf
set_option maxRecDepth 100000 in
set_option maxHeartbeats 2000000 in
theorem read_any (s : ByteArray) (w : World) :
    Calls Tryd.prog 28 #[.string s] w fun e w' => ((∃ D, D.length = 16 ∧ Bts D ∧ s = strOfNums (tx D) ∧ e = .returned (.tuple #[.agg (u8s D).toArray, .int .i64 0])) ∨ (noTx s ∧ e = .returned (.tuple #[.agg z16, .int .i64 30]))) ∧ Below w.heap.size w w' := by
  by_cases hs : s.size = 32
  · have hlI : ((s.size : Int) != 32) = false := by simp; omega
    have hidx := fun (k : Nat) c hc => idx_at s (bys s) rfl k k rfl c hc
    have Hix := Lib.hid hidx
    have hl : (bys s).length = 32 := by rw [bys_length, hs]
    have hbd := bys_bd s
    have Hno := Lib.hid (fun i hi h => noTx_digit s i hi h)
    have Hs := Lib.hid (strNum_bys s)
    obtain ⟨l, hll⟩ : ∃ l, l = bys s := ⟨_, rfl⟩
    rw [← hll] at hl hbd Hix Hno Hs
    have Hl := Lib.hid hl
    have Hbd := Lib.hid (show Bts l from hbd)
    have Hsz := Lib.hid hs
    clear hidx hll hl hbd hs
    go_enter Tryd.func28, Tryd.ntmps28
    go_wp2_with fail
    generalize hw0 : World.alloc (World.alloc w _) _ = w0
    have hB0 : Below w.heap.size w w0 := by rw [← hw0]; exact ((Below.refl _ w).alloc (Nat.le_refl _) _).alloc (by simp) _
    have hg0 : w0.heap[w.heap.size]? = some (.cells z16 30 (0, 0)) := by rw [← hw0]; exact halloc _ (heap_alloc_new w _)
    have hg1 : w0.heap[w.heap.size + 1]? = some (.cells (u8s (rK l 0)).toArray 30 (0, 0)) := by rw [← hw0, rK_zero]; exact hnew _ (by simp)
    clear hw0
    have HB0 := Lib.hid hB0
    have HG0 := Lib.hid hg0
    have HG1 := Lib.hid hg1
    clear hB0 hg0 hg1
    go_loopw [11] (fun i wr => ∃ k : Nat, k ≤ 32 ∧ i = .int .i64 k ∧ Hid (digs l k) ∧ Below w.heap.size w wr ∧ Hid (wr.heap[w.heap.size]? = some (.cells z16 30 (0, 0))) ∧ Hid (wr.heap[w.heap.size + 1]? = some (.cells (u8s (rK l k)).toArray 30 (0, 0)))) (fun i _ => 32 - (intOf i).toNat)
    case atStart => exact ⟨0, by omega, rfl, fun i hi => by omega, HB0.out, HG0, HG1⟩
    case round =>
      clear HB0 HG0 HG1
      obtain ⟨k, hk, rfl, hd, hB, hg0, hg1⟩ := hrel
      by_cases hk32 : k < 32
      · have hkI : (k : Int) < 32 := by omega
        have hix := Hix.out k (l.getD k 0) (by simp [Hl.out, hk32])
        have hcb := Hbd.out.getD k
        have CI := Lib.hid (fun W => index_any hexS (l.getD k 0) W)
        unfold hexS at CI
        rcases hx_cases (l.getD k 0) hcb.1 hcb.2 with ⟨h1, h2⟩ | ⟨n, hn, h1, h2⟩
        · have hrd : Lib.indexByte hexS.data.toList (l.getD k 0).toNat.toUInt8 = -1 := h1
          unfold hexS at hrd
          rw [hrd] at CI
          have hno := Lib.hid (Hno.out k (by rw [Hsz.out]; exact hk32) h2)
          clear h1 h2 hrd
          go_wp2_with (first
            | (go_at_call 43; refine (CI.out _).mono ?_; rintro e w' ⟨rfl, rfl⟩)
            | ((refine wpList_store_row ?c0 30 (.tmp 2) (.tmp 20) ?c1 w.heap.size z16 ?c2 ?c3 _ _ hg0.out ?c4 ?c5 ?c6 ?_); (case c0 => with_reducible rfl); (case c1 => with_reducible rfl); (case c2 => rfl); (case c3 => rfl); (case c4 => exact size16b); (case c5 => rfl); (case c6 => simp [Value.oneCell'])))
          exact bodyPost_ret (results_row_tmp Tryd.results28 _ _ w.heap.size _ z16 (0, 0) _ rfl (setRow_heap _ _ _ _ _ _ hg0.out) Tryd.underlying30 rfl size16b) rfl ⟨.inr ⟨hno.out, rfl⟩, below_setRow hB (Nat.le_refl _) _⟩
        · have hrd : Lib.indexByte hexS.data.toList (l.getD k 0).toNat.toUInt8 = (n : Int) := h1
          unfold hexS at hrd
          rw [hrd] at CI
          have hv1 : hv l k = n := by unfold hv; rw [h1]; rfl
          have Hd2 : Hid (digs l (k + 1)) := by
            intro i hi
            by_cases hik : i = k
            · subst hik
              rw [hv1]
              exact ⟨hn, h2⟩
            · exact hd.out i (by omega)
          obtain ⟨o, ho, hoe, ho0, ho1⟩ := rK_old l k hk32 hd.out
          have Hs1 := Lib.hid (rK_succ l k o n hk32 ho0 ho1 hv1.symm)
          have hor := or16 o n ho hn
          obtain ⟨q, hq⟩ : ∃ q, k / 2 = q := ⟨_, rfl⟩
          have hqI : (k : Int) / 2 = (q : Int) := by omega
          have hq16 : q < 16 := by omega
          rw [hq] at Hs1 hoe
          have hc : wr.cell? ⟨w.heap.size + 1, q, none⟩ = some (.int .u8 (o : Int)) := by
            rw [cell_of_row _ _ _ _ _ _ hg1.out, List.getElem?_toArray, u8s_get _ _ (by rw [rK_length]; omega), hoe]
          have hf : wr.frozen? ⟨w.heap.size + 1, q, none⟩ = false := by simp [World.frozen?, hg1.out]
          have hn0 : ¬ (n : Int) < 0 := by omega
          have hn1 : IntKind.u8.wrap (n : Int) = (n : Int) := by rw [IntKind.wrap_u8]; omega
          have hn2 : (n : Int) % 256 = (n : Int) := by omega
          have hsh : (o : Int) * 16 % 256 = (o : Int) * 16 := by omega
          have hsh1 : IntKind.u8.wrap ((o : Int) * 16) = (o : Int) * 16 := by rw [IntKind.wrap_u8]; exact hsh
          generalize hm : ((o * 16 + n : Nat) : Int) = m at hor Hs1
          clear h1 h2 hrd hv1 ho0 ho1 hoe hq hm
          go_wp2_with (go_at_call 43; refine (CI.out _).mono ?_; rintro e w' ⟨rfl, rfl⟩)
          go_roundw
          case rel =>
            refine ⟨k + 1, by omega, by go_num, Hd2, hB.setCell (p := ⟨w.heap.size + 1, q, none⟩) (by show w.heap.size ≤ w.heap.size + 1; omega) _, ?_, ?_⟩
            · exact ((Below.setCell (Below.refl (w.heap.size + 1) wr) (p := ⟨w.heap.size + 1, q, none⟩) (Nat.le_refl _) _).block _ (by omega)).trans hg0.out
            · show _ = _
              rw [heap_setCell_same _ _ _ _ _ _ hg1.out, Hs1.out]
          case measure => simp [intOf]; omega
      · obtain rfl : k = 32 := by omega
        have Hn : Hid (s = strOfNums (tx (rK l 32))) := by show _ = _; rw [tx_rK l Hl.out hd.out, Hs.out]
        have Hb := Lib.hid (rK_bts l hd.out)
        have Hlen := Lib.hid (rK_length l 32)
        generalize rK l 32 = D at hg1 Hn Hb Hlen
        have Hsz16 : Hid ((Tryd.prog.info? 30).map (·.size) = some (u8s D).toArray.size) := by show _ = _; rw [List.size_toArray, u8s_length, Hlen.out]; exact size16b
        have hls : (u8s D).toArray.size = 16 := by rw [List.size_toArray, u8s_length, Hlen.out]
        have Hls := Lib.hid hls
        have Hone : Hid ((u8s D).toArray.all (·.oneCell') = true) := by
          show _ = _
          rw [Array.all_eq_true_iff_forall_mem]
          intro v hv
          exact u8s_one D v (by simpa using hv)
        generalize hL : (u8s D).toArray = L at hg1 Hsz16 Hone Hls
        have HL := Lib.hid hL
        clear hL hls
        go_wp2_with (first
          | ((refine wpList_load_row ?c0 30 (.tmp 4) ?c1 (w.heap.size + 1) ?c2 30 L (0, 0) _ hg1.out Tryd.underlying30 ?c3 Hsz16.out ?_); (case c0 => with_reducible rfl); (case c1 => with_reducible rfl); (case c2 => rfl); (case c3 => rfl))
          | ((refine wpList_store_row ?c0 30 (.tmp 2) (.tmp 33) ?c1 w.heap.size L ?c2 ?c3 _ _ hg0.out ?c4 ?c5 ?c6 ?_); (case c0 => with_reducible rfl); (case c1 => with_reducible rfl); (case c2 => rfl); (case c3 => rfl); (case c4 => exact Hsz16.out); (case c5 => exact Hls.out.symm); (case c6 => exact Hone.out)))
        exact bodyPost_ret (results_row_tmp Tryd.results28 _ _ w.heap.size _ L (0, 0) _ rfl (setRow_heap _ _ _ _ _ _ hg0.out) Tryd.underlying30 rfl Hsz16.out) rfl ⟨.inl ⟨D, Hlen.out, Hb.out, Hn.out, by rw [HL.out]; rfl⟩, below_setRow hB (Nat.le_refl _) _⟩
  · have hlI : ((s.size : Int) != 32) = true := by simp; omega
    have hno := Lib.hid (noTx_size s hs)
    go_enter Tryd.func28, Tryd.ntmps28
    go_wp2_with ((refine wpList_store_row ?c0 30 (.tmp 2) (.tmp 10) ?c1 w.heap.size z16 ?c2 ?c3 _ _ (heap_alloc_new w _) ?c4 ?c5 ?c6 ?_); (case c0 => with_reducible rfl); (case c1 => with_reducible rfl); (case c2 => rfl); (case c3 => rfl); (case c4 => exact size16b); (case c5 => rfl); (case c6 => simp [Value.oneCell']))
    exact bodyPost_ret (results_row_tmp Tryd.results28 _ _ w.heap.size _ z16 (0, 0) _ rfl (setRow_heap _ _ _ _ _ _ (heap_alloc_new w _)) Tryd.underlying30 rfl size16b) rfl ⟨.inr ⟨hno.out, rfl⟩, below_setRow ((Below.refl _ w).alloc (Nat.le_refl _) _) (Nat.le_refl _) _⟩
end Go.Proofs.YtlgdbhebcglkoaaDoor
