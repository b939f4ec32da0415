/-
  Write of a digest that is there.
-/
import Derived.Test.YtlgdbhebcglkoaaDoorMdZ6
import Derived.Test.YtlgdbhebcglkoaaDoorMdBlocks
namespace Go.Proofs.YtlgdbhebcglkoaaDoor
open Go.RowKit Go.Shelf
attribute [local go_sem] Oper.semAt_some
set_option maxRecDepth 100000 in
set_option maxHeartbeats 2000000 in
theorem write_in (k : Nat) (hk : 6 ≤ k) {g n : Nat} {s : St} {R : List Int} {w : World} (h : DAt g s R n w) (hs : n = 0 → s ≠ stZ) (hR : Bts R) (A : Option Addr) (m cc : Nat) (Q : List Int) (hQ : Bts Q) (hm : n + m ≤ 1099511627776) (hcc : m ≤ cc) (hr : Rd w w.heap.size A m (u8s Q)) (hA : ∀ ad, A = some ad → 0 < m → ad.block ≠ g) (hT : Tab w) :
    CallsIn Fence.wide k Tryd.prog 19 #[.pointer (some ⟨g, 0, none⟩), .slice A m cc] w fun e w' => e = .returned (.int .i64 0) ∧ DAt g (foldD (s, R) (allY (R.take (n % 64) ++ Q))).1 (foldD (s, R) (allY (R.take (n % 64) ++ Q))).2 (n + m) w' ∧ Below g w w' ∧ ∀ k, k ≠ g → k < w.heap.size → w'.heap[k]? = w.heap[k]? := by
  have h1 : 1 ≤ k := by omega
  have k1 : Kept w (w.alloc (.cells #[.pointer (some ⟨g, 0, none⟩)] 33)) := (Below.refl _ w).alloc (Nat.le_refl _) _
  have m1 : (w.alloc (.cells #[.pointer (some ⟨g, 0, none⟩)] 33)).heap[w.heap.size]? = some (.cells #[.pointer (some ⟨g, 0, none⟩)] 33 (0, 0)) := heap_alloc_new w _
  have H := Lib.hid h
  have hnm : (m : Int) ≤ 1099511627776 - (n : Int) := by omega
  have hnm2 : ¬ 1099511627776 - (n : Int) < (m : Int) := by omega
  have CN := Lib.hid (fun W (kk : Kept w W) => none_no (h.kept kk) hs)
  have CO := Lib.hid (fun W (kk : Kept w W) => open_any (h.kept kk) (by omega : n ≤ 1099511627776))
  have h68 := (h.kept k1).c 68 _ (dcells_len s R n h.2)
  refine callsIn_of_wp_marks Tryd.func19 rfl trivial ?_ rfl
  simp only [Tryd.ntmps19, List.size_toArray, List.length_cons, List.length_nil, Nat.reduceAdd, Nat.reduceSub, Array.replicate_succ, Array.replicate_zero, List.push_toArray, List.append_toArray, List.nil_append, List.cons_append]
  gi_wp2_with (first
    | (refine ⟨trivial, ?_⟩; gi_at_call 37; refine (callsIn_wide.2 (CN.out _ k1)).mono ?_; rintro e w' ⟨rfl, rfl⟩)
    | (refine ⟨trivial, ?_⟩; gi_at_call 39; refine (callsIn_wide.2 (CO.out _ k1)).mono ?_; rintro e w2 ⟨rfl, hh2, k2⟩)
    | (refine ⟨trivial, ?_⟩; gi_at_call 38; refine (callsIn_wide.2 (blocks_any _ _ _ _)).mono ?_; rintro e w' ⟨rfl, rfl⟩))
  have hgw : g < w.heap.size := heap_lt h.1
  obtain ⟨b0, hb0⟩ : ∃ b, b = w.heap.size := ⟨_, rfl⟩
  have hz2 : w2.heap.size = b0 + 1 := by rw [← hh2, hb0]; simp
  have kw : Kept w w2 := below_kept k1 k2
  obtain ⟨s0, hs0⟩ : ∃ s, s = w2.heap.size := ⟨_, rfl⟩
  obtain ⟨w3, hw3⟩ : ∃ x, x = (w2.alloc (.cells #[.slice (some ⟨g, 4, none⟩) (n % 64) 64, .slice A m cc] 25)).alloc (.cells #[.slice (some ⟨w2.heap.size, 0, none⟩) 2 2] 32) := ⟨_, rfl⟩
  have kw3 : Kept w w3 := by rw [hw3]; exact below_alloc0 (below_alloc0 kw _) _
  have hz3 : w3.heap.size = s0 + 2 := by rw [hw3]; simp [hs0]
  have hcs : w3.heap[s0]? = some (.cells #[.slice (some ⟨g, 4, none⟩) (n % 64) 64, .slice A m cc] 25 (0, 0)) := by rw [hw3]; exact halloc _ (hnew _ hs0)
  have hcb : w3.heap[s0 + 1]? = some (.cells #[.slice (some ⟨s0, 0, none⟩) 2 2] 32 (0, 0)) := by rw [hw3, hs0]; exact hnew _ (by simp)
  have hbx : w3.heap[b0]? = some (.cells #[.pointer (some ⟨g, 0, none⟩)] 33 (0, 0)) := by rw [hw3]; exact halloc _ (halloc _ (by rw [← hh2, hb0]; exact heap_alloc_new w _))
  have hD3 : DAt g s R n w3 := h.kept kw3
  rw [← hw3]
  rw [← hs0]
  have hr0 : Rd w3 w3.heap.size (some ⟨g, 4, none⟩) (n % 64) (u8s (R.take (n % 64))) := by
    refine ⟨by rw [u8s_length, List.length_take, h.2]; omega, fun _ => ⟨_, rfl, heap_lt hD3.1, fun j u hu => ?_⟩⟩
    have hj : j < n % 64 := by
      have := (List.getElem?_eq_some_iff.1 hu).1
      rw [u8s_length, List.length_take] at this
      omega
    rw [u8s_get _ _ (by rw [List.length_take, h.2]; omega)] at hu
    cases hu
    have hadd : (⟨g, 4, none⟩ : Addr).add j = ⟨g, 4 + j, none⟩ := by unfold Addr.add; split <;> simp_all
    rw [hadd, hD3.c (4 + j) _ (dcells_rest _ R n j h.2 (by omega))]
    simp [List.getD_eq_getElem?_getD, hj]
  have hr3 : Rd w3 w3.heap.size A m (u8s Q) := (hr.below kw3).more kw3.size
  have hY := blocks_yields (k - 1) (by omega) (s0 + 1) s0 g (some ⟨g, 4, none⟩) A (n % 64) m 64 cc (R.take (n % 64)) Q w3 (by rw [cell_of_row _ _ _ _ _ _ hcb]; rfl) (by rw [cell_of_row _ _ _ _ _ _ hcs]; rfl) (by rw [cell_of_row _ _ _ _ _ _ hcs]; rfl)
    (by omega) (by omega) hr0 hr3 (.inl (by omega)) hA (by omega) hcc (by omega) (by omega)
  have hBD : Bts (R.take (n % 64) ++ Q) := by
    intro x hx
    rcases List.mem_append.1 hx with h | h
    · exact hR x (List.mem_of_mem_take h)
    · exact hQ x h
  have HY := Lib.hid hY
  have HBD := Lib.hid hBD
  have HT := Lib.hid hT
  have HS := Lib.hid (foldD_len s R (R.take (n % 64) ++ Q) h.2)
  have hW0 : WInv g n b0 (s, R) w [] w3 := ⟨⟨hD3, hbx⟩, Below.mono kw3 (Nat.le_of_lt hgw), fun j _ hj => Below.block kw3 j hj⟩
  have hne : b0 ≠ g := by omega
  clear hcs hcb hr0 hr3 hY hBD hr k1 m1 h68 kw k2 hh2 hw3 CO CN
  have hAbd := WInv.abd (n := n) (b0 := b0) (c0 := (s, R)) (B := w3.heap.size) hgw (by omega) (by omega)
  rw [← hb0]
  have Hz : Hid (b0 = w.heap.size ∧ s0 = b0 + 1 ∧ w3.heap.size = s0 + 2) := ⟨hb0, by omega, hz3⟩
  have hgw' := hgw
  rw [← hb0] at hgw'
  clear hb0 hz2 hz3 hs0
  refine wpIn_range rfl h1 (gf := 46) (lb := #[.pointer (some ⟨s0 + 1, 0, none⟩)]) rfl trivial (enters_of Tryd.func46 (by kernel_rfl) rfl) HY.out (Below.refl _ _) (fun _ => rfl) KpD.trans (fun W l o o' h ho => KpD.putObj W l o o' h ho)
    (WInv g n b0 (s, R) w) hAbd hW0 ?round ?done
  case round =>
    rintro l pre ⟨xb, m'⟩ W hJ hpre
    have hx := hpre.subset (by simp : (xb, m') ∈ pre ++ [(xb, m')])
    obtain ⟨hl64, hbt⟩ := allY_mem HBD.out hx
    dsimp only at hl64 hbt
    have hsz : (Tryd.prog.info? 48).map (·.size) = some (u8s xb).length := by rw [size64, u8s_length, hl64]
    have Hone := Lib.hid (u8s_one xb)
    have hL64 : (u8s xb).length = 64 := by rw [u8s_length, hl64]
    have hlx := HS.out (pre ++ [(xb, m')]) hpre
    rw [foldD_snoc] at hlx
    have Hlx := Lib.hid hlx
    have CS : Hid (∀ a b c d W, Tab W → Calls Tryd.prog 40 #[.agg #[V a, V b, V c, V d], .agg (u8s xb).toArray] W fun e w' => e = .returned (.agg (vals (stp (a, b, c, d) xb))) ∧ Kept W w') := fun a b c d W hT => step_any a b c d xb hl64 hbt W hT
    obtain ⟨L, hX⟩ : ∃ L, L = u8s xb := ⟨_, rfl⟩
    rw [← hX] at CS hsz Hone hL64
    have Hsz := Lib.hid hsz
    have HL64 := Lib.hid hL64
    have HX := Lib.hid hX
    have HJ := Lib.hid hJ
    have hbW : b0 < W.heap.size := heap_lt hJ.1.2
    have HP := Lib.hid hpre
    have Hl64 := Lib.hid hl64
    clear hsz hL64 hX hJ hl64 hbt hx hpre hlx
    gi_wp2_with (refine wpListIn_store_at rfl 48 (.tmp 5) (.tmp 24) rfl W.heap.size 0 L rfl ?c1 48 (List.replicate 64 (.int .u8 0)) (hnew _ rfl) Hsz.out ?c2 Hone.out ?_; (case c1 => rw [HX.out]; rfl); (case c2 => rw [HL64.out]; decide))
    have hsp : splice (List.replicate 64 (Value.int .u8 0)) 0 L = L := by
      unfold splice
      rw [List.take_zero, List.nil_append, HL64.out, Nat.zero_add, List.drop_of_length_le (by simp), List.append_nil]
    simp only [List.replicate_succ, List.replicate_zero] at hsp
    rw [hsp]
    generalize hW1 : World.setRow _ W.heap.size L.toArray = W1
    have hgn : W1.heap[W.heap.size]? = some (.cells L.toArray 48 (0, 0)) := by rw [← hW1]; exact setRow_heap _ _ _ _ _ _ (heap_alloc_new _ _)
    have hBn : Below W.heap.size W W1 := by rw [← hW1]; exact below_setRow ((Below.refl _ W).alloc (Nat.le_refl _) _) (Nat.le_refl _) _
    clear hW1 hsp
    obtain ⟨gW, hgW⟩ : ∃ g, g = W.heap.size := ⟨_, rfl⟩
    refine ⟨keepsFrom_below hBn, KpD.of_below hBn (Nat.le_refl _), HJ.out.below hBn (Nat.le_of_lt hgw), ?_⟩
    rintro W2 hz2' hg2 hcc2 hJ2
    have hgn2 := hcc2 _ _ _ _ hgn
    rw [← hgW] at hgn2
    have hgW0 : b0 < gW := by omega
    have HJ2 := Lib.hid hJ2
    have Hgn2 := Lib.hid hgn2
    have hz : gW < W2.heap.size := heap_lt hgn2
    have hbx2 : W2.cell? ⟨b0, 0, none⟩ = some (.pointer (some ⟨g, 0, none⟩)) := by rw [cell_of_row _ _ _ _ _ _ hJ2.1.2]; rfl
    clear hgn2 hcc2 hg2 hJ2 hgn hBn HJ hz2' hbx
    have hdl := (foldD_len s R _ H.out.2 pre ((List.prefix_append pre [(xb, m')]).trans HP.out))
    obtain ⟨⟨s1, R1⟩, hc1⟩ : ∃ c, foldD (s, R) pre = c := ⟨_, rfl⟩
    rw [hc1] at hdl
    have HD2 : Hid (W2.heap[g]? = some (.cells (dcells s1 R1 n).toArray 50 (0, 0))) := by have := HJ2.out.1.1.1; rw [hc1] at this; exact this
    have Hdl := Lib.hid hdl
    have Hc1 := Lib.hid hc1
    have hcl : ∀ j v, L.toArray[j]? = some v → W2.cell? ((⟨gW, 0, none⟩ : Addr).add j) = some v := cell_at W2 gW 0 _ _ _ Hgn2.out _ (fun j v h => by rw [Nat.zero_add]; simpa using h)
    have Hcl := Lib.hid hcl
    have HsL : Hid ((Tryd.prog.info? 48).map (·.size) = some L.toArray.size) := by show _ = _; rw [List.size_toArray]; exact Hsz.out
    clear hdl hc1 hcl
    by_cases h64 : m' = 64
    · subst h64
      gi_wp2_with fail
      rw [← hgW]
      obtain ⟨a, b, c, d⟩ := s1
      obtain ⟨x1, x2, x3, x4, hR4⟩ : ∃ x1 x2 x3 x4, stp (a, b, c, d) xb = (x1, x2, x3, x4) := ⟨_, _, _, _, rfl⟩
      have Hcs2 : Hid (∀ j v, (#[V a, V b, V c, V d] : Array Value)[j]? = some v → W2.drew.cell? ((⟨g, 0, none⟩ : Addr).add j) = some v) := cell_at W2.drew g 0 (dcells (a, b, c, d) R1 n) 50 (0, 0) HD2.out _ (fun j v h => by rw [Nat.zero_add]; rcases j with _ | _ | _ | _ | j <;> first | exact h | (simp at h))
      have HR4 := Lib.hid hR4
      have HT2 : Hid (Tab W2.drew) := (tab_but HT.out H.out HJ2.out.2.2).below (Below.drew (Below.refl _ _))
      have HbL : Hid (W2.rangeAt gW 0 L) := range_row0 Hgn2.out
      have hu := Tryd.underlying48
      have hsd := Hsz.out
      have CS4 := Lib.hid (CS.out a b c d)
      rw [hR4] at CS4
      clear hR4
      refine regionIn_of_held (S := fun V => V.cell? ⟨b0, 0, none⟩ = some (.pointer (some ⟨g, 0, none⟩)) ∧ V.rangeAt gW 0 L) (by kernel_rfl) (noDefer_spec (by kernel_rfl)) ?hlo ⟨hbx2, HbL.out⟩ (fun hHeld => ?_)
      case hlo => rintro ⟨_, _, h⟩; exact absurd h.1 (by simp)
      refine wpAnyH_take (i := 0) (oi := ⟨some 28, _, _, _, _, _⟩) (v := ?_) rfl (by kernel_rfl) (by kernel_rfl) (by kernel_rfl) (fun _ _ _ h => h) (Or.inl ⟨by rfl, ?_⟩) hHeld ?_
      rotate_left
      · (intro w hSw; (try dsimp only at hSw); go_simp; (try with_reducible rfl))
      try simp only [Act.put, List.setIfInBounds_toArray, List.set_cons_zero, List.set_cons_succ]
      refine wpAnyH_take (i := 1) (oi := ⟨some 29, _, _, _, _, _⟩) (v := ?_) rfl (by kernel_rfl) (by kernel_rfl) (by kernel_rfl) (fun _ _ _ h => h) (Or.inl ⟨by rfl, ?_⟩) hHeld ?_
      rotate_left
      · (intro w hSw; (try dsimp only at hSw); go_simp; (try with_reducible rfl))
      try simp only [Act.put, List.setIfInBounds_toArray, List.set_cons_zero, List.set_cons_succ]
      refine wpAnyH_take (i := 2) (oi := ⟨some 30, _, _, _, _, _⟩) (v := ?_) rfl (by kernel_rfl) (by kernel_rfl) (by kernel_rfl) (fun _ _ _ h => h) (Or.inl ⟨by rfl, ?_⟩) hHeld ?_
      rotate_left
      · (intro w hSw; (try dsimp only at hSw); go_simp; (try with_reducible rfl))
      try simp only [Act.put, List.setIfInBounds_toArray, List.set_cons_zero, List.set_cons_succ]
      refine wpAnyH_take (i := 3) (oi := ⟨some 31, _, _, _, _, _⟩) (v := ?_) rfl (by kernel_rfl) (by kernel_rfl) (by kernel_rfl) (fun _ _ _ h => h) (Or.inl ⟨by rfl, ?_⟩) hHeld ?_
      rotate_left
      · (intro w hSw; (try dsimp only at hSw); go_simp; (try with_reducible rfl))
      try simp only [Act.put, List.setIfInBounds_toArray, List.set_cons_zero, List.set_cons_succ]
      refine wpAnyH_take (i := 5) (oi := ⟨some 33, _, _, _, _, _⟩) rfl (by kernel_rfl) (by kernel_rfl) (by kernel_rfl) (fun _ _ _ h => h) (yieldsIf_load_mid (by rfl) _ _ rfl _ _ rfl L _ (fun w hw => hw.2) hu rfl hsd) hHeld ?_
      try simp only [Act.put, List.setIfInBounds_toArray, List.set_cons_zero, List.set_cons_succ]
      refine wpAnyH_ready (rs := [4]) (by kernel_rfl) (by simp) ?_
      refine AllReadyH.cons (o := ⟨some 32, _, _, _, _, _⟩) rfl (fun K hK => ?_) (AllReadyH.nil)
      refine step_load_at rfl 24 (.tmp 31) rfl ⟨g, 0, none⟩ rfl #[V a, V b, V c, V d] _ Hcs2.out Tryd.underlying24 rfl size4 ?_
      refine hK.out _ _ hHeld (fun hHeld => ?_)
      clear hK K
      try simp only [Act.put, List.setIfInBounds_toArray, List.set_cons_zero, List.set_cons_succ]
      refine wpAnyH_ready (rs := [6]) (by kernel_rfl) (by simp) ?_
      refine AllReadyH.cons (o := ⟨some 34, _, _, _, _, _⟩) rfl (fun K hK => ?_) (AllReadyH.nil)
      go_simp
      go_at_call 40; refine (CS4.out _ HT2.out).mono ?_; rintro e w4 ⟨rfl, k4⟩; dsimp only
      refine hK.out _ _ ⟨(Below.cell k4 (p := ⟨b0, 0, none⟩) (block_lt_of_cell hHeld.1)).trans hHeld.1, range_kept' k4 hz hHeld.2⟩ (fun hHeld => ?_)
      clear hK K
      try simp only [Act.put, List.setIfInBounds_toArray, List.set_cons_zero, List.set_cons_succ]
      refine wpAnyH_take (i := 7) (oi := ⟨some 35, _, _, _, _, _⟩) (v := ?_) rfl (by kernel_rfl) (by kernel_rfl) (by kernel_rfl) (fun _ _ _ h => h) (Or.inl ⟨by rfl, ?_⟩) hHeld ?_
      rotate_left
      · (intro w hSw; (try dsimp only at hSw); go_simp; (try with_reducible rfl))
      try simp only [Act.put, List.setIfInBounds_toArray, List.set_cons_zero, List.set_cons_succ]
      refine wpAnyH_take (i := 8) (oi := ⟨some 36, _, _, _, _, _⟩) (v := ?_) rfl (by kernel_rfl) (by kernel_rfl) (by kernel_rfl) (fun _ _ _ h => h) (Or.inl ⟨by rfl, ?_⟩) hHeld ?_
      rotate_left
      · (intro w hSw; (try dsimp only at hSw); go_simp; (try with_reducible rfl))
      try simp only [Act.put, List.setIfInBounds_toArray, List.set_cons_zero, List.set_cons_succ]
      refine wpAnyH_ready (rs := [9]) (by kernel_rfl) (by simp) ?_
      refine AllReadyH.cons (o := ⟨none, _, _, _, _, _⟩) rfl (fun K hK => ?_) (AllReadyH.nil)
      have hg4 : w4.heap[g]? = some (.cells (dcells (a, b, c, d) R1 n).toArray 50 (0, 0)) := heap_kept k4 HD2.out
      refine step_store_at rfl 24 (.tmp 36) (.tmp 34) rfl g 0 [V x1, V x2, V x3, V x4] rfl rfl 50 (dcells (a, b, c, d) R1 n) hg4 size4 (by rw [dcells_length _ _ _ Hdl.out]; simp) (by simp [Value.oneCell']) ?_
      rw [splice_state (a, b, c, d) (x1, x2, x3, x4)]
      refine hK.out _ _ ⟨(setRow_cell_other _ _ _ _ (by simpa using hne)).trans hHeld.1, fun j v hv => (setRow_cell_other _ _ _ _ (by show gW ≠ g; omega)).trans (hHeld.2 j v hv)⟩ (fun hHeld => ?_)
      clear hK K
      try simp only [Act.put, List.setIfInBounds_toArray, List.set_cons_zero, List.set_cons_succ]
      refine wpAnyH_done (by kernel_rfl) ?_ _
      refine ⟨rfl, (keepsFrom_below (below_drew0 (Below.refl _ _) : Below W2.heap.size W2 W2.drew)).trans ((keepsFrom_below k4).trans (KeepsFrom.of_grownBy (grownBy_setRow' _ _ _) (fun j e => by cases e; have := Hz.out; omega))),
        (KpD.of_below (Below.trans (below_drew0 (Below.refl _ _) : Below W2.heap.size W2 W2.drew) k4) (Nat.le_refl _)).trans ⟨by simp [World.setRow], fun g' t cs fr hg h => (setRow_other _ _ _ _ hg).trans h⟩, ?_⟩
      have hW4 : WInv g n b0 (s, R) w pre w4 := HJ2.out.below (Below.trans (below_drew0 (Below.refl _ _) : Below W2.heap.size W2 W2.drew) k4) (Nat.le_of_lt hgw)
      refine hW4.turned hne _ ?_ Hlx.out
      rw [Hc1.out]
      show dcells (x1, x2, x3, x4) R1 n = dcells (updD ((a, b, c, d), R1) (xb, 64)).1 (updD ((a, b, c, d), R1) (xb, 64)).2 n
      unfold updD
      rw [if_pos rfl, ← HR4.out]
    · have h64' : ((m' : Int) == 64) = false := by simp; omega
      gi_wp2_with (first
        | (refine wpListIn_load_at rfl 48 (.tmp 5) rfl ⟨gW, 0, none⟩ ?c1 L.toArray _ Hcl.out Tryd.underlying48 rfl HsL.out ?_; (case c1 => rw [hgW]; rfl))
        | (refine wpListIn_store_at rfl 48 (.tmp 40) (.tmp 38) rfl g 4 L rfl rfl 50 (dcells s1 R1 n) HD2.out Hsz.out ?c2 Hone.out ?_; (case c2 => rw [HL64.out, dcells_length _ _ _ Hdl.out]; decide)))
      have hr4 := splice_rest s1 R1 xb n Hdl.out Hl64.out
      rw [← HX.out] at hr4
      rw [hr4]
      refine ⟨KeepsFrom.of_grownBy (grownBy_setRow' _ _ _) (fun j e => by cases e; have := Hz.out; omega), ⟨by simp [World.setRow], fun g' t cs fr hg h => (setRow_other _ _ _ _ hg).trans h⟩, HJ2.out.turned hne _ ?_ Hlx.out⟩
      rw [Hc1.out]
      unfold updD
      rw [if_neg h64]
  case done =>
    rintro D W hD hJ hK
    have hbx2 : W.cell? ⟨b0, 0, none⟩ = some (.pointer (some ⟨g, 0, none⟩)) := by rw [cell_of_row _ _ _ _ _ _ hJ.1.2]; rfl
    have h68 := hJ.1.1.c 68 _ (dcells_len _ _ n hJ.1.1.2)
    have hf68 : W.frozen? ⟨g, 68, none⟩ = false := by simp [World.frozen?, hJ.1.1.1]
    have HJ := Lib.hid hJ
    have HK := Lib.hid hK
    have hsum : (n : Int) + (m : Int) ≤ 1099511627776 := by omega
    have hsum0 : (0 : Int) ≤ (n : Int) + (m : Int) := by omega
    clear hJ hK
    gi_wp2_with fail
    have hgD : g ≠ D := by have := Hz.out; omega
    have hDw : w.heap.size ≤ D := by have := Hz.out; omega
    have hK1 : (W.setCell ⟨g, 68, none⟩ (.int .i64 (↑n + ↑m))).heap[D]? = some (.deferred (some [])) := (heap_setCell_other _ _ _ _ (Ne.symm hgD)).trans HK.out
    have hB1 : Below g w (W.setCell ⟨g, 68, none⟩ (.int .i64 (↑n + ↑m))) := HJ.out.2.1.setCell (Nat.le_refl _) _
    refine ⟨by simp, .inl ⟨_, _, rfl, run_takeDeferred hK1, ?_⟩⟩
    refine ⟨_, results_tmp rfl _ _ _, rfl, ⟨?_, HJ.out.1.1.2⟩, hB1.trans (belowK_b (w := w) (Nat.le_of_lt hgw) _ D _ _ hDw hK1 rfl rfl), fun j hj hjw => ?_⟩
    · rw [World.putObj_heap_other hgD, heap_setCell_same _ _ _ _ _ _ HJ.out.1.1.1]
      rw [show ((n : Int) + (m : Int)) = ((n + m : Nat) : Int) from by omega, dcells_setLen _ _ _ _ HJ.out.1.1.2]
    · rw [World.putObj_heap_other (by omega), heap_setCell_other _ _ _ _ hj]
      exact HJ.out.2.2 j hj hjw
theorem write_any {g n : Nat} {s : St} {R : List Int} {w : World} (h : DAt g s R n w) (hs : n = 0 → s ≠ stZ) (hR : Bts R) (A : Option Addr) (m cc : Nat) (Q : List Int) (hQ : Bts Q) (hm : n + m ≤ 1099511627776) (hcc : m ≤ cc) (hr : Rd w w.heap.size A m (u8s Q)) (hA : ∀ ad, A = some ad → 0 < m → ad.block ≠ g) (hT : Tab w) :
    Calls Tryd.prog 19 #[.pointer (some ⟨g, 0, none⟩), .slice A m cc] w fun e w' => e = .returned (.int .i64 0) ∧ DAt g (foldD (s, R) (allY (R.take (n % 64) ++ Q))).1 (foldD (s, R) (allY (R.take (n % 64) ++ Q))).2 (n + m) w' ∧ Below g w w' ∧ ∀ k, k ≠ g → k < w.heap.size → w'.heap[k]? = w.heap[k]? :=
  callsIn_wide.1 (write_in 6 (Nat.le_refl _) h hs hR A m cc Q hQ hm hcc hr hA hT)
end Go.Proofs.YtlgdbhebcglkoaaDoor
