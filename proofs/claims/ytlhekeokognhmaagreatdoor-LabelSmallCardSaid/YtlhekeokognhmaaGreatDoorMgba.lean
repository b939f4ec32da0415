/-
  The reference of layer 4: put, bound, Of. right: of what Made makes.
-/
import Derived.Test.YtlhekeokognhmaaGreatDoorLcB
import Derived.Test.YtlhekeokognhmaaGreatDoorMgap
import Derived.Deep.CutBlock
namespace Go.Proofs.YtlhekeokognhmaaGreatDoor
open Go.RowKit Go.Shelf Go.Maps Go.Sort
/-- rputA, label by label. -/
def rputL : Bool → Lab → List Lab → List Lab
  | there, x, [] => if there then [] else [x]
  | there, x, y :: l => (if there = false ∧ ltB y.1 x.1 = false then [x] else []) ++ ((if y.1 ≠ x.1 then [y] else []) ++ rputL (there || !ltB y.1 x.1) x l)
theorem ltB_no {a b : ByteArray} : ltB a b = false ↔ ¬ a.data.toList < b.data.toList := by unfold ltB; simp
theorem rputL_is (x : Lab) : ∀ (b : Bool) (L : List Lab), (rputL b x L).map lb = rputA b (lb x) (L.map lb)
  | b, [] => by cases b <;> rfl
  | b, y :: L => by
    have ih := rputL_is x (b || !ltB y.1 x.1) L
    show (rputL b x (y :: L)).map lb = rputA b (lb x) (lb y :: L.map lb)
    unfold rputL rputA
    rw [List.map_append, List.map_append, ih]
    have h1 : (b = false ∧ ltB y.1 x.1 = false) ↔ (b = false ∧ ¬ (lb y).1 < (lb x).1) := by rw [ltB_no]
    have h2 : (y.1 ≠ x.1) ↔ ((lb y).1 ≠ (lb x).1) := ⟨fun h e => h (data_inj e), fun h e => h (by show y.1.data.toList = _; rw [e])⟩
    have h3 : ltB y.1 x.1 = decide ((lb y).1 < (lb x).1) := rfl
    congr 1
    · by_cases h : b = false ∧ ltB y.1 x.1 = false
      · rw [if_pos h, if_pos (h1.1 h)]; rfl
      · rw [if_neg h, if_neg (fun e => h (h1.2 e))]; rfl
    · congr 1
      by_cases h : y.1 ≠ x.1
      · rw [if_pos h, if_pos (h2.1 h)]; rfl
      · rw [if_neg h, if_neg (fun e => h (h2.2 e))]; rfl
theorem map_blLb (L : List Lab) : (L.map lb).map bl = L := by
  rw [List.map_map]
  exact List.map_id' L
/-- What put makes: rput. -/
theorem put_is (x : Lab) (L : List Lab) : rputL (decide (x.2 = ⟨#[]⟩)) x L = (rput (L.map lb) (lb x)).map bl := by
  have h : decide (x.2 = ⟨#[]⟩) = decide ((lb x).2 = []) := by
    rw [Bool.eq_iff_iff, decide_eq_true_eq, decide_eq_true_eq]
    exact str_empty.symm
  unfold rput
  rw [← h, ← rputL_is, map_blLb]
theorem labs_snoc' (O : List Lab) (xa xb : ByteArray) : labs (O ++ [(xa, xb)]) = labs O ++ [.string xa, .string xb] := by rw [labs_app]; rfl
set_option maxRecDepth 100000 in
set_option maxHeartbeats 4000000 in
theorem refput_any (A : Option Addr) (c : Nat) (L : List Lab) (hL : L.length ≤ 400000) (hsh : ∀ y ∈ L, shortL y) (x : Lab) (hx : shortL x) (w : World) (hr : RdL w w.heap.size A L) :
    Calls Tryz.prog 75 #[.slice A L.length c, .agg #[.string x.1, .string x.2]] w fun e w' => ∃ v, e = .returned v ∧ w'.ownsRow w.heap.size 33 2 v (rputL (decide (x.2 = ⟨#[]⟩)) x L).length (labs (rputL (decide (x.2 = ⟨#[]⟩)) x L)) ∧ Kept w w' := by
  obtain ⟨xa, xb⟩ := x
  have HS := Lib.hid hsh
  have hsx : xa.size ≤ 1000000 := by have := hx.1; dsimp only at this; omega
  obtain ⟨i0, hi0, hz0, hz1, hz2⟩ := info_parts infoLab
  obtain ⟨b0, hb0⟩ : ∃ b, b = decide (xb = ⟨#[]⟩) := ⟨_, rfl⟩
  have hbe : xb.toList.isEmpty = b0 := by
    by_cases h : xb = ⟨#[]⟩
    · rw [hb0, decide_eq_true h]; exact empty_yes h
    · rw [hb0, decide_eq_false h]; exact empty_no h
  show Calls Tryz.prog _ _ w fun e w' => ∃ v, e = .returned v ∧ w'.ownsRow w.heap.size 33 2 v (rputL (decide (xb = ⟨#[]⟩)) (xa, xb) L).length (labs (rputL (decide (xb = ⟨#[]⟩)) (xa, xb) L)) ∧ Kept w w'
  rw [← hb0]
  obtain ⟨w1, hw1⟩ : ∃ x, x = w.alloc (.cells #[.string xa, .string xb] 33) := ⟨_, rfl⟩
  have k1 : Kept w w1 := by rw [hw1]; exact (Below.refl w.heap.size w).alloc (Nat.le_refl _) _
  have K1 := Lib.hid k1
  obtain ⟨g, hg⟩ : ∃ g, g = w.heap.size := ⟨_, rfl⟩
  have M1 : Hid (w1.heap[g]? = some (.cells #[.string xa, .string xb] 33 (0, 0))) := by rw [hw1, hg]; exact heap_alloc_new w _
  have HR := Lib.hid (rd_kept k1 hr)
  have m1 : w1.cell? ⟨g, 1, none⟩ = some (.string xb) := by rw [cell_of_row _ _ _ _ _ _ M1.out]; rfl
  obtain ⟨n, hn⟩ : ∃ n, n = L.length := ⟨_, rfl⟩
  have Hn := Lib.hid hn
  have Hm0 : Hid (∀ W, Kept w1 W → W.cell? ⟨g, 0, none⟩ = some (.string xa)) := fun W h => by rw [cell_of_row _ _ _ _ _ _ (heap_kept h M1.out)]; rfl
  have Hmc : Hid (∀ W, Kept w1 W → ∀ j v, (#[.string xa, .string xb] : Array Value)[j]? = some v → W.cell? ((⟨g, 0, none⟩ : Addr).add j) = some v) := fun W h j v hv => by
    rw [add0, cell_of_row _ g j _ _ _ (heap_kept h M1.out)]
    exact hv
  have Hdone : Hid (∀ W v (O : List Lab), Kept w1 W → W.ownsRow w1.heap.size 33 2 v O.length (labs O) → O = rputL b0 (xa, xb) L → ∃ v', Ending.returned v = Ending.returned v' ∧ W.ownsRow w.heap.size 33 2 v' (rputL b0 (xa, xb) L).length (labs (rputL b0 (xa, xb) L)) ∧ Kept w W) := fun W v O h1 h2 h3 => by
    subst h3
    exact ⟨v, rfl, own_mono h2 (Below.size K1.out), below_kept K1.out h1⟩
  rw [← hn] at hL ⊢
  clear k1 hn hsh hx hb0 hr
  go_enter Tryz.func75, Tryz.ntmps75
  go_upto_region 2 with fail
  rw [← hw1, ← hg]
  clear hw1 hg
  go_wp2_with fail
  clear m1
  go_loopw [5, 6, 7] (fun v5 v6 v7 wr => ∃ (k : Nat) (b : Bool) (O : List Lab), k ≤ n ∧ v7 = .int .i64 k ∧ v6 = .bool b ∧ Hid (Kept w1 wr) ∧ Hid (wr.ownsRow w1.heap.size 33 2 v5 O.length (labs O)) ∧ O.length ≤ 2 * k ∧ Hid (O ++ rputL b (xa, xb) (L.drop k) = rputL b0 (xa, xb) L)) (fun _ _ v7 _ => n - (intOf v7).toNat)
  case atStart => exact ⟨0, b0, [], by omega, rfl, by first | rfl | rw [hbe], Below.refl _ _, ⟨rfl, .inl ⟨rfl, rfl⟩⟩, by simp, rfl⟩
  case round =>
    obtain ⟨k, b, O, hk, rfl, rfl, hkr, hown, hO, hf⟩ := hrel
    clear hbe
    obtain ⟨nO, hnO⟩ : ∃ q, q = O.length := ⟨_, rfl⟩
    have HnO := Lib.hid hnO
    rw [← hnO] at hO hown
    have hsr := Below.size hkr.out
    clear hnO
    by_cases hkn : k < n
    · obtain ⟨ad, ⟨ya, yb⟩, rfl, hadb, hy, hd, hc0, hc1⟩ := rdl_at HR.out (by rw [← Hn.out]; exact hkn)
      have hsy : ya.size ≤ 1000000 := by have := (HS.out _ (List.mem_of_getElem? hy)).1; dsimp only at this; omega
      have Hcl : Hid (∀ W, Kept w1 W → ∀ j v, (#[.string ya, .string yb] : Array Value)[j]? = some v → W.cell? ((ad.add (k * 2)).add j) = some v) := fun W h => lab_cells (x := (ya, yb)) ((Below.cell h (block_lt_of_cell hc0)).trans hc0) ((Below.cell h (block_lt_of_cell hc1)).trans hc1)
      have He0 : Hid (∀ W, Kept w1 W → W.cell? (ad.add (k * 2)) = some (.string ya)) := fun W h => (Below.cell h (block_lt_of_cell hc0)).trans hc0
      have CL := Lib.hid (less_any ya xa hsy hsx)
      have Hst : Hid (rputL b (xa, xb) (L.drop k) = (if b = false ∧ ltB ya xa = false then [(xa, xb)] else []) ++ ((if ya ≠ xa then [(ya, yb)] else []) ++ rputL (b || !ltB ya xa) (xa, xb) (L.drop (k + 1)))) := by show _ = _; rw [hd]; rfl
      generalize ltB ya xa = lt at *
      have hb2 := Below.refl wr.heap.size wr
      clear hc0 hc1 hy hd hadb
      go_upto_region 6 with fail
      go_cut [29] (fun v29 wx => v29 = .bool (!b && !lt) ∧ Hid (Kept wr wx))
      case first =>
        have q0 := He0.out wr hkr.out
        have q1 := Hm0.out wr hkr.out
        cases b
        · go_quiet ((go_at_call 84; exact Calls.quiet_of (CL.out _)))
          go_wp2_with fail
          go_meet
          exact ⟨rfl, below_drewN hb2 _⟩
        · go_quiet (fail)
          go_wp2_with fail
          go_meet
          exact ⟨rfl, below_drewN hb2 _⟩
      case rest =>
      obtain ⟨rfl, hk3⟩ := hcut
      obtain ⟨w3, rfl⟩ : ∃ x, x = wc := ⟨_, rfl⟩
      have HKw := Lib.hid (below_kept hkr.out hk3.out)
      have HO3 := Lib.hid (own_below hown.out hk3.out)
      have hs3 := Below.size HKw.out
      clear hown hk3 CL hb2 hkr hsr
      go_upto_if 29 with fail
      go_cut [5, 6, 29] (fun v5 v6 v29 wx => ∃ O' : List Lab, v6 = .bool (b || !lt) ∧ Hid (Kept w1 wx) ∧ Hid (wx.ownsRow w1.heap.size 33 2 v5 O'.length (labs O')) ∧ O'.length ≤ 2 * k + 1 ∧ Hid (O' = O ++ if b = false ∧ lt = false then [(xa, xb)] else []))
      case first =>
        by_cases hbl : b = false ∧ lt = false
        · obtain ⟨rfl, rfl⟩ := hbl
          have hcl := Lib.hid (Hmc.out w3 HKw.out)
          go_wp2_with (first
            | (refine wpList_load_at rfl 33 (.tmp 3) rfl (⟨g, 0, none⟩) rfl #[.string (xa, xb).1, .string (xa, xb).2] _ hcl.out Tryz.underlying33 rfl sizeL ?_)
            | (at_builtin; refine wpList_append_own_at _ rfl _ _ 22 rfl w1.heap.size 33 i0 _ 2 32 Tryz.underlying22 hi0 hz0 hz1 hz2 rfl (by decide) u5 nO (labs O) rfl (HO3.out.alloc _) ⟨w3.heap.size, 0, none⟩ 1 1 [.string xa, .string xb] rfl rfl (cells_new w3 [.string xa, .string xb] 33) (by intro u hu; simp at hu; rcases hu with rfl | rfl <;> rfl) (by unfold maxLen; omega) (by omega) (by simp; omega) ?_; intro v5 w5 hown5 hg5 hn5 hl5; have Hown5 := Lib.hid hown5; have HG5 := Lib.hid hg5; clear hown5 hg5 hn5 hl5))
          go_meet
          have hka : Below w1.heap.size w1 (w3.alloc (.cells #[.string xa, .string xb] 33)) := HKw.out.alloc (by omega) _
          have hB5 := hka.grown HG5.out (by simp; omega) (fun j e => (HO3.out.lt j e).1)
          refine ⟨O ++ [(xa, xb)], rfl, hB5, ?_, by rw [List.length_append, ← HnO.out]; simp; omega, by show _ = _; simp⟩
          show World.ownsRow _ _ _ _ _ _ _
          rw [labs_snoc', List.length_append, ← HnO.out]
          exact Hown5.out
        · have hv : (!b && !lt) = false := by cases b <;> cases lt <;> simp_all
          have hv2 : (b || !lt) = b := by cases b <;> cases lt <;> simp_all
          rw [hv]
          have Hbl := Lib.hid hbl
          have Hv2 := Lib.hid hv2
          clear hv hv2 hbl
          go_wp2_with fail
          go_meet
          refine ⟨O, by rw [Hv2.out], HKw.out, ?_, by rw [← HnO.out]; omega, by show _ = _; rw [if_neg Hbl.out, List.append_nil]⟩
          show World.ownsRow _ _ _ _ _ _ _
          rw [← HnO.out]
          exact HO3.out
      case rest =>
      obtain ⟨O', rfl, hB4, hO4, hl4, he4⟩ := hcut
      obtain ⟨w4, rfl⟩ : ∃ x, x = wc := ⟨_, rfl⟩
      have q0 := He0.out w4 hB4.out
      have q1 := Hm0.out w4 hB4.out
      have Hfin : Hid (∀ X, O' ++ ((if ya ≠ xa then [(ya, yb)] else []) ++ X) = O ++ ((if b = false ∧ lt = false then [(xa, xb)] else []) ++ ((if ya ≠ xa then [(ya, yb)] else []) ++ X))) := fun X => by rw [he4.out, List.append_assoc]
      clear HKw HO3 hs3 he4 HnO hO
      generalize (b || !lt) = b2 at *
      obtain ⟨nO', hnO'⟩ : ∃ q, q = O'.length := ⟨_, rfl⟩
      have HnO' := Lib.hid hnO'
      rw [← hnO'] at hO4 hl4
      clear hnO'
      by_cases hne : ya = xa
      · have hb9 : (ya.toList == xa.toList) = true := by simp [hne]
        have Hf2 : Hid (O' ++ rputL b2 (xa, xb) (L.drop (k + 1)) = rputL b0 (xa, xb) L) := by
          have := Hfin.out (rputL b2 (xa, xb) (L.drop (k + 1)))
          rw [← Hst.out, hf.out, if_neg (by simp [hne]), List.nil_append] at this
          exact this
        clear hne Hfin Hst hf
        go_upto_region 9 with fail
        go_quiet (fail)
        go_wp2_with fail
        go_roundw
        case rel => exact ⟨k + 1, b2, O', by omega, by go_num, rfl, below_drewN hB4.out _, by rw [← HnO'.out]; exact own_below hO4.out (below_drewN (Below.refl _ _) _), by rw [← HnO'.out]; omega, Hf2⟩
        case measure => simp [intOf]; omega
      · have hb9 : (ya.toList == xa.toList) = false := str_ne (fun e => hne (bys_eq e))
        have Hf2 : Hid ((O' ++ [(ya, yb)]) ++ rputL b2 (xa, xb) (L.drop (k + 1)) = rputL b0 (xa, xb) L) := by
          have := Hfin.out (rputL b2 (xa, xb) (L.drop (k + 1)))
          rw [← Hst.out, hf.out, if_pos hne] at this
          show _ = _
          rw [List.append_assoc]
          exact this
        clear hne Hfin Hst hf
        go_upto_region 9 with fail
        go_quiet (fail)
        have K5 : Kept w4 (w4.drewN nq) := below_drewN (Below.refl _ _) nq
        generalize w4.drewN nq = w6 at *
        have HB6 := Lib.hid (below_kept hB4.out K5)
        have HO6 := Lib.hid (own_below hO4.out K5)
        have hcl := Lib.hid (Hcl.out w6 HB6.out)
        have hs6 := Below.size HB6.out
        clear hO4 K5 q0 q1
        go_wp2_with (first
          | (refine wpList_load_at rfl 33 (.tmp 45) rfl (ad.add (k * 2)) rfl #[.string (ya, yb).1, .string (ya, yb).2] _ hcl.out Tryz.underlying33 rfl sizeL ?_)
          | (at_builtin; refine wpList_append_own_at _ rfl _ _ 22 rfl w1.heap.size 33 i0 _ 2 32 Tryz.underlying22 hi0 hz0 hz1 hz2 rfl (by decide) u5 nO' (labs O') rfl (HO6.out.alloc _) ⟨w6.heap.size, 0, none⟩ 1 1 [.string ya, .string yb] rfl rfl (cells_new w6 [.string ya, .string yb] 33) (by intro u hu; simp at hu; rcases hu with rfl | rfl <;> rfl) (by unfold maxLen; omega) (by omega) (by simp; omega) ?_; intro v5 w5 hown5 hg5 hn5 hl5; have Hown5 := Lib.hid hown5; have HG5 := Lib.hid hg5; clear hown5 hg5 hn5 hl5))
        have hka : Below w1.heap.size w1 (w6.alloc (.cells #[.string ya, .string yb] 33)) := HB6.out.alloc (by omega) _
        have hB5 := hka.grown HG5.out (by simp; omega) (fun j e => (HO6.out.lt j e).1)
        go_roundw
        case rel =>
          refine ⟨k + 1, b2, O' ++ [(ya, yb)], by omega, by go_num, rfl, hB5, ?_, by rw [List.length_append, ← HnO'.out]; simp; omega, Hf2⟩
          show World.ownsRow _ _ _ _ _ _ _
          rw [labs_snoc', List.length_append, ← HnO'.out]
          exact Hown5.out
        case measure => simp [intOf]; omega
    · obtain rfl : k = n := by omega
      have hdr : L.drop k = [] := List.drop_of_length_le (by rw [← Hn.out]; exact Nat.le_refl _)
      rw [hdr] at hf
      clear hdr
      cases b
      · have hcl := Lib.hid (Hmc.out wr hkr.out)
        go_wp2_with (first
          | (refine wpList_load_at rfl 33 (.tmp 3) rfl (⟨g, 0, none⟩) rfl #[.string (xa, xb).1, .string (xa, xb).2] _ hcl.out Tryz.underlying33 rfl sizeL ?_)
          | (at_builtin; refine wpList_append_own_at _ rfl _ _ 22 rfl w1.heap.size 33 i0 _ 2 32 Tryz.underlying22 hi0 hz0 hz1 hz2 rfl (by decide) u5 nO (labs O) rfl (hown.out.alloc _) ⟨wr.heap.size, 0, none⟩ 1 1 [.string xa, .string xb] rfl rfl (cells_new wr [.string xa, .string xb] 33) (by intro u hu; simp at hu; rcases hu with rfl | rfl <;> rfl) (by unfold maxLen; omega) (by omega) (by simp; omega) ?_; intro v5 w5 hown5 hg5 hn5 hl5; have Hown5 := Lib.hid hown5; have HG5 := Lib.hid hg5; clear hown5 hg5 hn5 hl5))
        have hka : Below w1.heap.size w1 (wr.alloc (.cells #[.string xa, .string xb] 33)) := hkr.out.alloc (by omega) _
        have hB5 := hka.grown HG5.out (by simp; omega) (fun j e => (hown.out.lt j e).1)
        go_ret
        refine Hdone.out _ _ (O ++ [(xa, xb)]) hB5 ?_ hf.out
        rw [labs_snoc', List.length_append, ← HnO.out]
        exact Hown5.out
      · go_wp2_with fail
        go_ret
        refine Hdone.out _ _ O hkr.out ?_ (by have := hf.out; rwa [show rputL true (xa, xb) [] = [] from rfl, List.append_nil] at this)
        rw [← HnO.out]
        exact hown.out
end Go.Proofs.YtlhekeokognhmaaGreatDoor
namespace Go.Proofs.YtlhekeokognhmaaGreatDoor
open Go.RowKit Go.Shelf Go.Maps Go.Sort
/-- The right labels that are made of numbers. -/
def rightL (ps : List (Nat × Nat)) : List Lab := (puts [] ((mkL ps).map lb)).map bl
theorem rightL_len (ps : List (Nat × Nat)) : (rightL ps).length ≤ 16 := by
  have h1 := puts_len [] ((mkL ps).map lb)
  have h2 := mkL_len ps
  rw [List.length_map, List.length_nil] at h1
  unfold rightL
  rw [List.length_map]
  omega
theorem of_goodc (A : Option Addr) (c : Nat) (L M : List Lab) (w : World) (hL : L.length ≤ 400000) (hr : RdL w w.heap.size A L) (hT : Tab w) (h0 : fwE L = 0) (h1 : twB L = false) (hM : (puts [] (L.map lb)).map bl = M) (hl : M.length ≤ 64) :
    Calls Tryz.prog 13 #[.slice A L.length c] w fun e w' => ∃ A c, e = .returned (.tuple #[.slice A M.length c, .int .i64 0]) ∧ RdL w' w'.heap.size A M ∧ Kept w w' ∧ M.length ≤ c :=
  (of_any A c L (by omega) w hr hT).mono fun e w' ⟨h, hk⟩ => by
    rcases h with ⟨h, _⟩ | ⟨_, h, _⟩ | ⟨_, _, v, x, rfl, h⟩
    · exact absurd h0 h
    · rw [h1] at h; cases h
    · have hlen : (puts [] (L.map lb)).length = M.length := by rw [← hM, List.length_map]
      rcases h with ⟨h, _⟩ | ⟨_, rfl, ho⟩
      · omega
      · obtain ⟨A, c, rfl, hc, hr⟩ := own_rd ho
        rw [hM, hlen] at hr
        exact ⟨A, c, by rw [hlen], hr, hk, by omega⟩
set_option maxRecDepth 100000 in
theorem right_of_made (ps : List (Nat × Nat)) (a : Value) (w : World) (hT : Tab w) (C : Calls Tryz.prog 59 #[a] w fun e w' => ∃ A c, e = .returned (.slice A (mkL ps).length c) ∧ RdL w' w'.heap.size A (mkL ps) ∧ Kept w w') :
    Calls Tryz.prog 11 #[a] w fun e w' => ∃ A c, e = .returned (.tuple #[.slice A (rightL ps).length c, .bool true]) ∧ RdL w' w'.heap.size A (rightL ps) ∧ Kept w w' ∧ (rightL ps).length ≤ c := by
  have HC := Lib.hid C
  have HT := Lib.hid hT
  have hlen := mkL_len ps
  have CO : Hid (∀ A c W, RdL W W.heap.size A (mkL ps) → Kept w W → Calls Tryz.prog 13 #[.slice A (mkL ps).length c] W fun e w' => ∃ A c, e = .returned (.tuple #[.slice A (rightL ps).length c, .int .i64 0]) ∧ RdL w' w'.heap.size A (rightL ps) ∧ Kept W w' ∧ (rightL ps).length ≤ c) := fun A c W hr hk =>
    of_goodc A c (mkL ps) (rightL ps) W (by omega) hr (hT.below hk) (fwE_ok (mkL_ok ps)) (once_tw (mkL_once ps)) rfl (by have := rightL_len ps; omega)
  have CR : Hid (∀ A c W, RdL W W.heap.size A (rightL ps) → Kept w W → Calls Tryz.prog 16 #[.slice A (rightL ps).length c] W fun e w' => e = .returned (.bool true) ∧ Kept W w') := fun A c W hr hk => by
    have h := right_any A c (rightL ps) (by have := rightL_len ps; omega) W hr (hT.below hk)
    rw [show rgtB (rightL ps) = true from mkL_right ps] at h
    exact h
  generalize rightL ps = M at *
  clear C hT hlen
  go_enter Tryz.func11, Tryz.ntmps11
  go_wp2_with (first
    | (go_at_call 59; refine HC.out.mono ?_; rintro e w1 ⟨A1, c1, rfl, hr, hk⟩; have R1 := Lib.hid hr; have K1 := Lib.hid hk; clear hr hk)
    | (go_at_call 13; refine (CO.out _ _ _ R1.out K1.out).mono ?_; rintro e w2 ⟨A2, c2, rfl, hr, hk, hcap⟩; have HCap := Lib.hid hcap; clear hcap; have R2 := Lib.hid hr; have K2 := Lib.hid (below_kept K1.out hk); clear hr hk)
    | (go_at_call 16; refine (CR.out _ _ _ R2.out K2.out).mono ?_; rintro e w3 ⟨rfl, hk⟩; have R3 := Lib.hid ((R2.out.below hk).more (Below.size hk)); have K3 := Lib.hid (below_kept K2.out hk); clear hk))
  go_ret2
  exact ⟨_, _, rfl, R3.out, K3.out, HCap.out⟩
end Go.Proofs.YtlhekeokognhmaaGreatDoor
