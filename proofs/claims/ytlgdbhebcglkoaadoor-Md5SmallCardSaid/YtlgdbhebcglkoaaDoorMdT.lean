/-
  Both ways of reading a text agree; the walk of texts.
-/
import Derived.Test.YtlgdbhebcglkoaaDoorMdS
import Derived.Deep.RegionHeld3
namespace Go.Proofs.YtlgdbhebcglkoaaDoor
open Go.RowKit Go.Shelf
theorem strTx_inj {D E : List Int} (hD : D.length = 16) (hE : E.length = 16) (bD : Bts D) (bE : Bts E) (h : strOfNums (tx D) = strOfNums (tx E)) : D = E := by
  have he := congrArg bys h
  rw [bys_strOfNums (tx_bts D bD), bys_strOfNums (tx_bts E bE)] at he
  exact tx_inj D E bD bE (by omega) he
theorem z16_eq : z16 = (u8s (List.replicate 16 0)).toArray := rfl
theorem bts_zero (n : Nat) : Bts (List.replicate n 0) := fun c hc => by
  have := (List.mem_replicate.1 hc).2
  omega
theorem reads_same (s : ByteArray) : ∃ (Z : List Int) (x : Int), Z.length = 16 ∧ Bts Z ∧ ((x = 0 ∧ s = strOfNums (tx Z)) ∨ (x = 30 ∧ noTx s ∧ Z = List.replicate 16 0)) ∧
    (∀ W, Calls Tryd.prog 28 #[.string s] W fun e w' => e = .returned (.tuple #[.agg (u8s Z).toArray, .int .i64 x]) ∧ Kept W w') ∧
    (∀ W, Calls Tryd.prog 35 #[.string s] W fun e w' => e = .returned (.tuple #[.agg (u8s Z).toArray, .int .i64 x]) ∧ Kept W w') := by
  by_cases h : ∃ D, D.length = 16 ∧ Bts D ∧ s = strOfNums (tx D)
  · obtain ⟨D, hl, hb, hs⟩ := h
    refine ⟨D, 0, hl, hb, .inl ⟨rfl, hs⟩, fun W => (read_any s W).mono ?_, fun W => (rread_any s W).mono ?_⟩
    all_goals
      rintro e w' ⟨⟨E, hE, bE, hsE, rfl⟩ | ⟨hn, _⟩, hk⟩
      · obtain rfl := strTx_inj hl hE hb bE (hs.symm.trans hsE)
        exact ⟨rfl, hk⟩
      · exact absurd hs (hn D hl hb)
  · have hno : noTx s := fun D hl hb e => h ⟨D, hl, hb, e⟩
    refine ⟨_, 30, List.length_replicate, bts_zero 16, .inr ⟨rfl, hno, rfl⟩, fun W => (read_any s W).mono ?_, fun W => (rread_any s W).mono ?_⟩
    all_goals
      rintro e w' ⟨⟨E, hE, bE, hsE, rfl⟩ | ⟨_, rfl⟩, hk⟩
      · exact absurd hsE (hno E hE bE)
      · exact ⟨rfl, hk⟩
theorem row_all (Z : List Int) : (u8s Z).toArray.all (·.oneCell') = true := by
  rw [Array.all_eq_true_iff_forall_mem]
  intro v hv
  exact u8s_one Z v (by simpa using hv)
theorem range_row {w : World} {g : Nat} {L : List Value} {t : TypeId} {fr : Nat × Nat} (h : w.heap[g]? = some (.cells L.toArray t fr)) : w.rangeAt g 0 L := by
  intro j v hv
  rw [Nat.zero_add, cell_of_row _ _ _ _ _ _ h]
  simpa using hv
theorem range_kept {w w' : World} {g o : Nat} {L : List Value} (hk : Kept w w') (hg : g < w.heap.size) (h : w.rangeAt g o L) : w'.rangeAt g o L :=
  fun j v hv => (Below.cell hk (p := ⟨g, o + j, none⟩) hg).trans (h j v hv)
set_option maxRecDepth 100000 in
set_option maxHeartbeats 4000000 in
theorem texts_any (D : List Int) (hl : D.length = 16) (hb : Bts D) (s : ByteArray) (w : World) :
    Calls Tryd.prog 16 #[.agg (u8s D).toArray, .string s] w fun e w' => e = .returned (.bool true) ∧ Below w.heap.size w w' := by
  obtain ⟨Z, x, hZl, hZb, hx, C1, C2⟩ := reads_same s
  have T1 := Lib.hid (fun W => text_any D hl hb W)
  have T2 := Lib.hid (fun W => rtext_any D hl hb W)
  replace C1 := Lib.hid C1
  replace C2 := Lib.hid C2
  have hx0 : x = 0 ∨ x = 30 := by rcases hx with h | h <;> omega
  have hsz : (Tryd.prog.info? 30).map (·.size) = some (u8s D).length := by rw [u8s_length, hl]; exact size16b
  have hszz : (Tryd.prog.info? 30).map (·.size) = some (u8s Z).length := by rw [u8s_length, hZl]; exact size16b
  have hzn : (u8s Z).length = 16 := by rw [u8s_length, hZl]
  have Hone := Lib.hid (row_all Z)
  have heq := eq_dig Z Z hZl hZl
  rw [decide_eq_true rfl] at heq
  generalize u8s D = L at *
  generalize u8s Z = M at *
  generalize strOfNums (tx D) = t at *
  clear hZb hx hl hb hZl
  have Hszz : Hid ((Tryd.prog.info? 30).map (·.size) = some M.toArray.size) := by show _ = _; rw [List.size_toArray]; exact hszz
  have hu := Tryd.underlying30
  have Hzn : Hid (M.toArray.size = 16) := by show _ = _; rw [List.size_toArray]; exact hzn
  clear hzn
  go_enter Tryd.func16, Tryd.ntmps16
  go_upto_region 1 with fail
  generalize hw0 : World.alloc w _ = w0
  have hB0 : Below w.heap.size w w0 := by rw [← hw0]; exact (Below.refl _ w).alloc (Nat.le_refl _) _
  have hg0 : w0.heap[w.heap.size]? = some (.cells L.toArray 30 (0, 0)) := by rw [← hw0]; exact heap_alloc_new w _
  have Hr0 := Lib.hid (range_row hg0)
  have Hl0 := Lib.hid (heap_lt hg0)
  have HB0 := Lib.hid hB0
  clear hw0 hg0 hB0
  go_upto_region 3 with (first
    | (go_at_call 28; refine (C1.out _).mono ?_; rintro e w1 ⟨rfl, k1⟩; have K1 := Lib.hid k1; clear k1)
    | (go_at_call 35; refine (C2.out _).mono ?_; rintro e w3 ⟨rfl, k3⟩; have K3 := Lib.hid k3; clear k3)
    | ((refine wpList_store_row ?c0 30 (.tmp 5) (.tmp 12) ?c1 w1.heap.size M.toArray ?c2 ?c3 _ _ (hnew _ rfl) ?c4 ?c5 ?c6 ?_); (case c0 => with_reducible rfl); (case c1 => with_reducible rfl); (case c2 => rfl); (case c3 => rfl); (case c4 => exact Hszz.out); (case c5 => exact Hzn.out.symm); (case c6 => exact Hone.out))
    | ((refine wpList_store_row ?c0 30 (.tmp 7) (.tmp 17) ?c1 w3.heap.size M.toArray ?c2 ?c3 _ _ (hnew _ rfl) ?c4 ?c5 ?c6 ?_); (case c0 => with_reducible rfl); (case c1 => with_reducible rfl); (case c2 => rfl); (case c3 => rfl); (case c4 => exact Hszz.out); (case c5 => exact Hzn.out.symm); (case c6 => exact Hone.out)))
  have k2 : Kept w1 (World.setRow (w1.alloc (.cells z16 30)) w1.heap.size M.toArray) := below_setRow ((Below.refl _ w1).alloc (Nat.le_refl _) _) (Nat.le_refl _) _
  have m2 : (World.setRow (w1.alloc (.cells z16 30)) w1.heap.size M.toArray).heap[w1.heap.size]? = some (.cells M.toArray 30 (0, 0)) := setRow_heap _ _ _ _ _ _ (hnew _ rfl)
  have k4 : Kept w3 (World.setRow (w3.alloc (.cells z16 30)) w3.heap.size M.toArray) := below_setRow ((Below.refl _ w3).alloc (Nat.le_refl _) _) (Nat.le_refl _) _
  have m4 : (World.setRow (w3.alloc (.cells z16 30)) w3.heap.size M.toArray).heap[w3.heap.size]? = some (.cells M.toArray 30 (0, 0)) := setRow_heap _ _ _ _ _ _ (hnew _ rfl)
  have k3 := K3.out
  have k1 := K1.out
  clear K1 K3
  generalize World.setRow (w1.alloc (.cells z16 30)) w1.heap.size M.toArray = w2 at *
  generalize World.setRow (w3.alloc (.cells z16 30)) w3.heap.size M.toArray = w4 at *
  have k24 : Kept w2 w4 := below_kept k3 k4
  have k04 : Kept w0 w4 := below_kept (below_kept k1 k2) k24
  have r0 := range_kept k04 Hl0.out Hr0.out
  have r1 := range_kept k24 (heap_lt m2) (range_row m2)
  have r3 := range_row m4
  have hl0 := Nat.lt_of_lt_of_le Hl0.out (Below.size k04)
  have hl1 := Nat.lt_of_lt_of_le (heap_lt m2) (Below.size k24)
  have hl3 := heap_lt m4
  have Hk : Hid (∀ W, Below w4.heap.size w4 W → (W.rangeAt w.heap.size 0 L ∧ W.rangeAt w1.heap.size 0 M ∧ W.rangeAt w3.heap.size 0 M) ∧ Below w4.heap.size w4 W) := fun W h => ⟨⟨range_kept h hl0 r0, range_kept h hl1 r1, range_kept h hl3 r3⟩, h⟩
  have HB4 := Lib.hid (HB0.out.trans (Below.mono k04 HB0.out.size))
  have hb0 := Below.refl w4.heap.size w4
  clear k1 k2 k3 k4 k24 k04 m2 m4 r0 r1 r3 hl0 hl1 hl3 Hr0 Hl0 HB0 C1 C2 Hszz Hone Hzn
  refine wp_region_held_drew (S := (fun W => (W.rangeAt w.heap.size 0 L ∧ W.rangeAt w1.heap.size 0 M ∧ W.rangeAt w3.heap.size 0 M) ∧ Below w4.heap.size w4 W)) (by kernel_rfl) ?_ (fun hHeld => ?_)
  · exact Hk.out _ (by repeat (first | with_reducible assumption | with_reducible refine below_drew0 ?_))
  refine wpAnyH_take (i := 0) (oi := ⟨some 19, _, _, _, _, _⟩) rfl (by kernel_rfl) (by kernel_rfl) (by kernel_rfl) (fun _ _ _ h => h) (yieldsIf_load_mid (by rfl) _ _ rfl _ _ rfl L _ (fun w hw => hw.1.1) hu rfl hsz) hHeld ?_
  try simp only [Act.put, List.setIfInBounds_toArray, List.set_cons_zero, List.set_cons_succ]
  refine wpAnyH_take (i := 2) (oi := ⟨some 21, _, _, _, _, _⟩) rfl (by kernel_rfl) (by kernel_rfl) (by kernel_rfl) (fun _ _ _ h => h) (yieldsIf_load_mid (by rfl) _ _ rfl _ _ rfl L _ (fun w hw => hw.1.1) hu rfl hsz) hHeld ?_
  try simp only [Act.put, List.setIfInBounds_toArray, List.set_cons_zero, List.set_cons_succ]
  refine wpAnyH_ready (rs := [1]) (by kernel_rfl) (by simp) ?_
  refine AllReadyH.cons (o := ⟨some 20, _, _, _, _, _⟩) rfl (fun K hK => ?_) (AllReadyH.nil)
  · go_simp
    go_at_call 23; refine (T1.out _).mono ?_; rintro e w5 ⟨rfl, k5⟩; have hb5 := below_kept hHeld.2 k5; dsimp only
    go_wp2_with fail
    refine hK.out _ _ ?_ (fun hHeld => ?_)
    · exact Hk.out _ (by repeat (first | with_reducible assumption | with_reducible refine below_drew0 ?_))
    clear hK K
    try simp only [Act.put, List.setIfInBounds_toArray, List.set_cons_zero, List.set_cons_succ]
    refine wpAnyH_ready (rs := [3]) (by kernel_rfl) (by simp) ?_
    refine AllReadyH.cons (o := ⟨some 22, _, _, _, _, _⟩) rfl (fun K hK => ?_) (AllReadyH.nil)
    · go_simp
      go_at_call 36; refine (T2.out _).mono ?_; rintro e w6 ⟨rfl, k6⟩; have hb6 := below_kept hHeld.2 k6; dsimp only
      go_wp2_with fail
      refine hK.out _ _ ?_ (fun hHeld => ?_)
      · exact Hk.out _ (by repeat (first | with_reducible assumption | with_reducible refine below_drew0 ?_))
      clear hK K
      try simp only [Act.put, List.setIfInBounds_toArray, List.set_cons_zero, List.set_cons_succ]
      refine wpAnyH_take (i := 4) (oi := ⟨some 23, _, _, _, _, _⟩) (v := ?_) rfl (by kernel_rfl) (by kernel_rfl) (by kernel_rfl) (fun _ _ _ h => h) (Or.inl ⟨by rfl, ?_⟩) hHeld ?_
      rotate_left
      · (intro w hSw; (try dsimp only at hSw); go_simp; (try with_reducible rfl))
      try simp only [Act.put, List.setIfInBounds_toArray, List.set_cons_zero, List.set_cons_succ]
      refine wpAnyH_take (i := 5) (oi := ⟨some 24, _, _, _, _, _⟩) (v := ?_) rfl (by kernel_rfl) (by kernel_rfl) (by kernel_rfl) (fun _ _ _ h => h) (Or.inl ⟨by rfl, ?_⟩) hHeld ?_
      rotate_left
      · (intro w hSw; (try dsimp only at hSw); go_simp; (try with_reducible rfl))
      try simp only [Act.put, List.setIfInBounds_toArray, List.set_cons_zero, List.set_cons_succ]
      refine wpAnyH_take (i := 6) (oi := ⟨some 25, _, _, _, _, _⟩) rfl (by kernel_rfl) (by kernel_rfl) (by kernel_rfl) (fun _ _ _ h => h) (yieldsIf_load_mid (by rfl) _ _ rfl _ _ rfl M _ (fun w hw => hw.1.2.1) hu rfl hszz) hHeld ?_
      try simp only [Act.put, List.setIfInBounds_toArray, List.set_cons_zero, List.set_cons_succ]
      refine wpAnyH_take (i := 7) (oi := ⟨some 26, _, _, _, _, _⟩) rfl (by kernel_rfl) (by kernel_rfl) (by kernel_rfl) (fun _ _ _ h => h) (yieldsIf_load_mid (by rfl) _ _ rfl _ _ rfl M _ (fun w hw => hw.1.2.2) hu rfl hszz) hHeld ?_
      try simp only [Act.put, List.setIfInBounds_toArray, List.set_cons_zero, List.set_cons_succ]
      refine wpAnyH_take (i := 8) (oi := ⟨some 27, _, _, _, _, _⟩) (v := ?_) rfl (by kernel_rfl) (by kernel_rfl) (by kernel_rfl) (fun _ _ _ h => h) (Or.inl ⟨by rfl, ?_⟩) hHeld ?_
      rotate_left
      · (intro w hSw; (try dsimp only at hSw); go_simp; (try with_reducible rfl))
      try simp only [Act.put, List.setIfInBounds_toArray, List.set_cons_zero, List.set_cons_succ]
      refine wpAnyH_take (i := 9) (oi := ⟨some 28, _, _, _, _, _⟩) (v := ?_) rfl (by kernel_rfl) (by kernel_rfl) (by kernel_rfl) (fun _ _ _ h => h) (Or.inl ⟨by rfl, ?_⟩) hHeld ?_
      rotate_left
      · (intro w hSw; (try dsimp only at hSw); go_simp; (try with_reducible rfl))
      try simp only [Act.put, List.setIfInBounds_toArray, List.set_cons_zero, List.set_cons_succ]
      refine wpAnyH_take (i := 10) (oi := ⟨some 29, _, _, _, _, _⟩) (v := ?_) rfl (by kernel_rfl) (by kernel_rfl) (by kernel_rfl) (fun _ _ _ h => h) (Or.inl ⟨by rfl, ?_⟩) hHeld ?_
      rotate_left
      · (intro w hSw; (try dsimp only at hSw); go_simp; (try with_reducible rfl))
      try simp only [Act.put, List.setIfInBounds_toArray, List.set_cons_zero, List.set_cons_succ]
      refine wpAnyH_take (i := 11) (oi := ⟨some 30, _, _, _, _, _⟩) (v := ?_) rfl (by kernel_rfl) (by kernel_rfl) (by kernel_rfl) (fun _ _ _ h => h) (Or.inl ⟨by rfl, ?_⟩) hHeld ?_
      rotate_left
      · (intro w hSw; (try dsimp only at hSw); go_simp; (try with_reducible rfl))
      try simp only [Act.put, List.setIfInBounds_toArray, List.set_cons_zero, List.set_cons_succ]
      refine wpAnyH_take (i := 12) (oi := ⟨some 31, _, _, _, _, _⟩) (v := ?_) rfl (by kernel_rfl) (by kernel_rfl) (by kernel_rfl) (fun _ _ _ h => h) (Or.inl ⟨by rfl, ?_⟩) hHeld ?_
      rotate_left
      · (intro w hSw; (try dsimp only at hSw); go_simp; (try with_reducible rfl))
      try simp only [Act.put, List.setIfInBounds_toArray, List.set_cons_zero, List.set_cons_succ]
      refine wpAnyH_take (i := 13) (oi := ⟨some 32, _, _, _, _, _⟩) (v := ?_) rfl (by kernel_rfl) (by kernel_rfl) (by kernel_rfl) (fun _ _ _ h => h) (Or.inl ⟨by rfl, ?_⟩) hHeld ?_
      rotate_left
      · (intro w hSw; (try dsimp only at hSw); go_simp; (try with_reducible rfl))
      try simp only [Act.put, List.setIfInBounds_toArray, List.set_cons_zero, List.set_cons_succ]
      refine wpAnyH_take (i := 14) (oi := ⟨some 33, _, _, _, _, _⟩) (v := ?_) rfl (by kernel_rfl) (by kernel_rfl) (by kernel_rfl) (fun _ _ _ h => h) (Or.inl ⟨by rfl, ?_⟩) hHeld ?_
      rotate_left
      · (intro w hSw; (try dsimp only at hSw); go_simp; (try with_reducible rfl))
      try simp only [Act.put, List.setIfInBounds_toArray, List.set_cons_zero, List.set_cons_succ]
      refine wpAnyH_take (i := 15) (oi := ⟨some 4, _, _, _, _, _⟩) (v := ?_) rfl (by kernel_rfl) (by kernel_rfl) (by kernel_rfl) (fun _ _ _ h => h) (Or.inl ⟨by rfl, ?_⟩) hHeld ?_
      rotate_left
      · (intro w hSw; (try dsimp only at hSw); go_simp; (try with_reducible rfl))
      try simp only [Act.put, List.setIfInBounds_toArray, List.set_cons_zero, List.set_cons_succ]
      refine wpAnyH_done (by kernel_rfl) ?_ _
      go_wp2_with fail
      go_ret
      exact ⟨rfl, HB4.out.trans (hHeld.2.mono HB4.out.size)⟩
end Go.Proofs.YtlgdbhebcglkoaaDoor
