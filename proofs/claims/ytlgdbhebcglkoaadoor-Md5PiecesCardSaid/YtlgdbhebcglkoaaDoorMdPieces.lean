/-
  The walk of Md5Pieces.
-/
import Derived.Test.YtlgdbhebcglkoaaDoorMdCuts
import Derived.Test.YtlgdbhebcglkoaaDoorMdW
import Derived.Test.YtlgdbhebcglkoaaDoorOpenR
namespace Go.Proofs.YtlgdbhebcglkoaaDoor
open Go.RowKit Go.Shelf
/-- A row of bytes and a digest lie apart. -/
theorem own_ne {w : World} {base g n : Nat} {P : List Int} {v : Value} {xs : List Value} (h : w.ownsRow base 5 1 v n xs) (hD : DInv g P w) : v.ownBlock = none ∨ v.ownBlock ≠ some g := by
  rcases h.2 with ⟨rfl, _⟩ | ⟨b, cap, cur, rfl, _, hb, _⟩
  · exact .inl rfl
  · refine .inr fun e => ?_
    have e : b = g := by simpa [Value.ownBlock] using e
    obtain ⟨s, R, hDA, _⟩ := hD
    rw [e, hDA.1] at hb
    injection hb with hb
    injection hb with _ hb
    exact absurd hb (by decide)
theorem DInv.grown {g : Nat} {P : List Int} {w w' : World} {row : Option Nat} (h : DInv g P w) (hg : w.grownBy w' row) (hne : row ≠ some g) : DInv g P w' := by
  obtain ⟨s, R, hD, h1, h2, h3⟩ := h
  exact ⟨s, R, ⟨(hg.block g (heap_lt hD.1) (fun e => hne e.symm)).trans hD.1, hD.2⟩, h1, h2, h3⟩
theorem grown_of_others {g : Nat} {w w' : World} (hb : Below g w w') (hk : ∀ k, k ≠ g → k < w.heap.size → w'.heap[k]? = w.heap[k]?) : w.grownBy w' (some g) :=
  ⟨hb.os, hb.tape, hb.output, hb.size, fun k hk' hne => hk k (fun e => hne (by rw [e])) hk'⟩
set_option maxRecDepth 100000 in
set_option maxHeartbeats 8000000 in
theorem pieces_walk (A0 : Option Addr) (n0 c0 : Nat) (rs : List RowV) (A1 : Option Addr) (n1 c1 : Nat) (hn1 : n1 ≤ c1) (xs : List Int) (hxs : Bts xs) (w : World)
    (hr0 : Rd w w.heap.size A0 n0 (rs.map rowv)) (hrs : ∀ r ∈ rs, r.2.1 ≤ r.2.2.1 ∧ Rd w w.heap.size r.1 r.2.1 (u8s r.2.2.2) ∧ Bts r.2.2.2) (hr1 : Rd w w.heap.size A1 n1 (u8s xs)) (hT : Tab w) :
    Calls Tryd.prog 6 #[.slice A0 n0 c0, .slice A1 n1 c1] w fun e w' => e = .returned (.bool true) ∧ Below w.heap.size w w' := by
  have HT := Lib.hid hT
  have Hr0 := Lib.hid hr0
  have Hr1 := Lib.hid hr1
  have Hrs := Lib.hid hrs
  have Hxs := Lib.hid hxs
  have Hn1 := Lib.hid hn1
  have CA : Hid (∀ W, Kept w W → Calls Tryd.prog 14 #[] W fun e w' => e = .returned (.bool true) ∧ Kept W w') := fun W h => awake_any W (HT.out.below h)
  have HN := Lib.hid (new_inv w)
  obtain ⟨i0, hi0, hz0, hz1, hz2⟩ := info_parts infoB
  clear hT hr0 hr1 hrs hxs hn1
  go_enter Tryd.func6, Tryd.ntmps6
  by_cases h60 : (n0 : Int) ≤ 60
  · go_upto_region 6 with (go_at_call 17; refine HN.out.mono ?_; rintro e w1 ⟨g, rfl, hg, hD, hk⟩; have HD := Lib.hid hD; have HK := Lib.hid hk; clear hD hk)
    have CW : Hid (∀ W P Q A m cc, Kept w W → DInv g P W → Bts Q → P.length + m ≤ 1000000 → m ≤ cc → Rd W W.heap.size A m (u8s Q) → (∀ ad, A = some ad → 0 < m → ad.block ≠ g) → Calls Tryd.prog 19 #[.pointer (some ⟨g, 0, none⟩), .slice A m cc] W fun e w' => e = .returned (.int .i64 0) ∧ DInv g (P ++ Q) w' ∧ Kept w w' ∧ W.grownBy w' (some g)) := fun W P Q A m cc hk hD hQ hm hcc hr hA =>
      (write_inv hD A m cc Q hQ (by omega) hcc hr hA (HT.out.below hk)).mono fun _ _ ⟨he, hD', hb, ho, _⟩ => ⟨he, hD', Below.trans hk (hb.mono hg), grown_of_others hb ho⟩
    have CR : Hid (∀ W P, Kept w W → DInv g P W → Calls Tryd.prog 18 #[.pointer (some ⟨g, 0, none⟩)] W fun e w' => e = .returned (.int .i64 0) ∧ DInv g [] w' ∧ Kept w w') := fun W P hk hD =>
      (reset_inv hD).mono fun _ _ ⟨he, hD', hb, _⟩ => ⟨he, hD', Below.trans hk (hb.mono hg)⟩
    have CD : Hid (∀ W P, Kept w W → DInv g P W → P.length ≤ 1000000 → Calls Tryd.prog 20 #[.pointer (some ⟨g, 0, none⟩)] W fun e w' => e = .returned (.tuple #[.agg (u8s (sumL P)).toArray, .int .i64 0]) ∧ Kept W w') := fun W P hk hD hP => sum_inv hD (by omega) (HT.out.below hk)
    clear HN
    go_wp2_with fail
    go_loopw [6, 24] (fun v6 v24 wr => ∃ (i : Nat) (P : List Int), i ≤ n0 ∧ v24 = .int .i64 i ∧ Hid (Kept w wr) ∧ Hid (DInv g P wr) ∧ Hid (wr.ownsRow w.heap.size 5 1 v6 P.length (u8s P)) ∧ P.length ≤ 300 * i ∧ Hid (Bts P)) (fun _ v24 _ => n0 - (intOf v24).toNat)
    case atStart => exact ⟨0, [], by omega, rfl, HK, HD, ⟨rfl, .inl ⟨rfl, rfl⟩⟩, by simp, fun x hx => by cases hx⟩
    case round =>
      obtain ⟨i, P, hi, rfl, hk, hD, hown, hPl, hPb⟩ := hrel
      by_cases hin : i < n0
      · obtain ⟨ad, u, rfl, hadb, hu, hcu⟩ := Hr0.out.at_ hin
        obtain ⟨⟨Ab, nb, cb, Qb⟩, hr, rfl⟩ : ∃ r, r ∈ rs ∧ u = rowv r := by
          rw [List.getElem?_map] at hu
          obtain ⟨r, hr, e⟩ := Option.map_eq_some_iff.1 hu
          exact ⟨r, List.mem_of_getElem? hr, e.symm⟩
        obtain ⟨hnb, hrb, hQb⟩ := Hrs.out _ hr
        dsimp only at hnb hrb hQb
        have Hrb := Lib.hid hrb
        have HQb := Lib.hid hQb
        have hcell : wr.cell? (ad.add i) = some (.slice Ab nb cb) := (Below.cell hk.out (by rw [addBlock]; exact hadb)).trans hcu
        clear hu hcu hr hrb hQb
        by_cases h300 : (nb : Int) ≤ 300
        · go_upto_region 11 with fail
          go_cut [43] (fun v43 wx => (∃ b : Bool, v43 = .bool b) ∧ wx = wr)
          case first =>
            clear hcell
            by_cases hiw : i < n1
            · obtain ⟨ad1, u1, rfl, hadb1, hu1, hcu1⟩ := Hr1.out.at_ hiw
              rw [u8s_get _ _ (by have := Hr1.out.1; rw [u8s_length] at this; omega)] at hu1
              cases hu1
              have hcell1 := (Below.cell hk.out (by rw [addBlock]; exact hadb1)).trans hcu1
              generalize xs.getD i 0 = z at hcell1
              clear hcu1
              go_wp2_with fail
              go_meet
              exact ⟨⟨_, rfl⟩, rfl⟩
            · go_wp2_with fail
              go_meet
              exact ⟨⟨_, rfl⟩, rfl⟩
          case rest =>
          obtain ⟨⟨b, rfl⟩, hw⟩ := hcut
          obtain rfl : wr = wc := hw.symm
          go_upto_if 43 with fail
          go_cut [6] (fun v6 wx => ∃ P1, Hid (Kept w wx) ∧ Hid (DInv g P1 wx) ∧ Hid (wx.ownsRow w.heap.size 5 1 v6 P1.length (u8s P1)) ∧ P1.length ≤ 300 * i ∧ Hid (Bts P1))
          case first =>
            cases b
            · go_wp2_with fail
              go_meet
              exact ⟨P, hk, hD, hown, hPl, hPb⟩
            · go_wp2_with (go_at_call 18; refine (CR.out _ _ hk.out hD.out).mono ?_; rintro e w2 ⟨rfl, hD2, hk2⟩; have HD2 := Lib.hid hD2; have HK2 := Lib.hid hk2; clear hD2 hk2)
              go_meet
              exact ⟨[], HK2, HD2, ⟨rfl, .inl ⟨rfl, rfl⟩⟩, by simp, fun x hx => by cases hx⟩
          case rest =>
          obtain ⟨P1, HK1, HD1, HO1, hP1, HB1⟩ := hcut
          obtain ⟨w1', rfl⟩ : ∃ x, x = wc := ⟨_, rfl⟩
          obtain ⟨w1, rfl⟩ : ∃ x, x = w1' := ⟨_, rfl⟩
          clear hk hD hown hPb hcell
          have hbz := Below.refl w1.heap.size w1
          have hnb3 : nb ≤ 300 := by omega
          go_upto_region 16 with (at_builtin; refine wpList_app_any _ rfl _ _ 25 rfl w1.heap.size 5 i0 (.int .u8 0) 1 Tryd.underlying25 hi0 hz0 hz1 hz2 rfl _ 0 [] rfl (own_none (heap_alloc_new w1 _) (Nat.le_refl _)) _ Ab nb cb (u8s Qb) rfl (Hrb.out.below (Below.trans HK1.out (((Below.refl _ w1).alloc (Nat.le_refl _) _).mono (Below.size HK1.out)))) (u8s_one _) (by unfold maxLen; omega) (by omega) (by simp) ?_; intro v2 w2 hown2 hg2; have Hown2 := Lib.hid hown2; have HB2 := Lib.hid ((hbz.alloc (Nat.le_refl _) _).grown hg2 (by simp) (fun j e => by cases e; exact Nat.le_refl _)); clear hown2 hg2)
          have hnb0 : 0 + nb = nb := Nat.zero_add _
          have Hown3 : Hid (w2.ownsRow w1.heap.size 5 1 v2 nb (u8s Qb)) := by have := Hown2.out; rwa [hnb0, List.nil_append] at this
          obtain ⟨A2, c2, rfl, hc2⟩ := own_slice Hown3.out
          have HD2 := Lib.hid (HD1.out.kept HB2.out)
          have HK2 := Lib.hid (below_kept HK1.out HB2.out)
          have hne2 := own_ne Hown3.out HD2.out
          have HW := Lib.hid (CW.out w2 P1 Qb A2 nb c2 HK2.out HD2.out HQb.out (by omega) hc2 (Rd.of_own Hown3.out) (fun ad e h0 eb => by
            rcases Hown3.out.2 with ⟨h1, h2⟩ | ⟨b2, cap, cur, h1, _⟩
            · omega
            · cases h1
              cases e
              rcases hne2 with h | h
              · simp [Value.ownBlock] at h
              · exact h (by simp [Value.ownBlock]; exact eb)))
          have HO2 : Hid (w2.ownsRow w.heap.size 5 1 u6 P1.length (u8s P1)) := own_below HO1.out HB2.out
          clear hnb0 Hown2
          go_upto_region 18 with (go_at_call 19; refine HW.out.mono ?_; rintro e w3 ⟨rfl, hD3, hk3, hg3⟩; have HD3 := Lib.hid hD3; have HK3 := Lib.hid hk3; have HG3 := Lib.hid hg3; clear hD3 hk3 hg3)
          have HO3 : Hid (w3.ownsRow w.heap.size 5 1 u6 P1.length (u8s P1)) := HO2.out.kept HG3.out (own_ne HO2.out HD2.out)
          have HW3 : Hid (w3.ownsRow w1.heap.size 5 1 (.slice A2 nb c2) nb (u8s Qb)) := Hown3.out.kept HG3.out hne2
          have HX : Hid (∀ k, u6.ownBlock = some k → (Value.slice A2 nb c2).ownBlock ≠ some k) := fun k h1 h2 => by
            have e1 := (HO1.out.lt k h1).2
            have e2 := (Hown3.out.lt k h2).1
            omega
          have HY : Hid ((Value.slice A2 nb c2).ownBlock ≠ some g) := fun e => by
            rcases hne2 with h | h
            · rw [h] at e; cases e
            · exact h e
          have hz13 := Nat.le_trans (Below.size HB2.out) (HG3.out.size)
          clear HW Hown3 HO2 HK2 HD2 hne2 HG3
          go_wp2_with fail
          go_loopw [56] (fun v56 wr => ∃ (j : Nat) (ys : List Int), j ≤ nb ∧ v56 = .int .i64 j ∧ Hid (wr.ownsRow w1.heap.size 5 1 (.slice A2 nb c2) nb (u8s ys)) ∧ Hid (w3.grownBy wr (Value.slice A2 nb c2).ownBlock)) (fun v56 _ => nb - (intOf v56).toNat)
          case atStart => exact ⟨0, Qb, by omega, rfl, HW3, World.grownBy.refl _ _⟩
          case round =>
            obtain ⟨j, ys, hj, rfl, howr, hgr⟩ := hrel
            by_cases hjn : j < nb
            · obtain ⟨o, cap, he, _, _⟩ := howr.out.form (by omega)
              injection he with he1 _ he3
              subst he1 he3
              have hyl : ys.length = nb := by have := howr.out.1; rw [u8s_length] at this; omega
              have hcell2 : wr.cell? ⟨o, j, none⟩ = some (.int .u8 (ys.getD j 0)) := by
                rw [howr.out.cellAt j (by omega)]
                exact u8s_get _ _ (by omega)
              have hfr := howr.out.frozenAt j
              generalize ys.getD j 0 = y at hcell2
              have hadd : (⟨o, 0, none⟩ : Addr).add j = ⟨o, j, none⟩ := add0 o j
              go_wp2_with fail
              go_roundw
              case rel =>
                have hst := howr.out.stored j (.int .u8 ((y + 1) % 256))
                refine ⟨j + 1, ys.set j ((y + 1) % 256), by omega, by go_num, ?_, hgr.out.trans hst.2⟩
                have h1 := hst.1
                rwa [show (u8s ys).set j (.int .u8 ((y + 1) % 256)) = u8s (ys.set j ((y + 1) % 256)) from (List.map_set ..).symm] at h1
              case measure => simp [intOf]; omega
            · obtain rfl : j = nb := by omega
              have HD4 := Lib.hid (HD3.out.grown hgr.out HY.out)
              have HK4 : Hid (Kept w wr) := Below.grown HK3.out hgr.out (Below.size HK3.out) (fun b e => Nat.le_trans (Below.size HK1.out) (HW3.out.lt b e).1)
              have HO4 : Hid (wr.ownsRow w.heap.size 5 1 u6 P1.length (u8s P1)) := HO3.out.kept hgr.out (by
                rcases h : u6.ownBlock with _ | b
                · exact .inl rfl
                · exact .inr (fun e => HX.out b h e.symm))
              obtain ⟨w4, rfl⟩ : ∃ x, x = wr := ⟨_, rfl⟩
              have hPQ : P1.length + j = (P1 ++ Qb).length := by rw [List.length_append]; have := Hrb.out.1; rw [u8s_length] at this; omega
              have hPQ3 : (P1 ++ Qb).length ≤ 300 * (i + 1) := by omega
              have HPQ := Lib.hid hPQ
              have HBq : Hid (Bts (P1 ++ Qb)) := by
                intro x hx
                rcases List.mem_append.1 hx with h | h
                · exact HB1.out x h
                · exact HQb.out x h
              clear hgr howr HX HY HW3 HO3 HD3 HK3 hz13 hPQ HD1 HO1 HK1
              go_upto_region 24 with (at_builtin; refine wpList_app_any _ rfl _ _ 25 rfl w.heap.size 5 i0 (.int .u8 0) 1 Tryd.underlying25 hi0 hz0 hz1 hz2 rfl u6 P1.length (u8s P1) rfl HO4.out _ Ab j cb (u8s Qb) rfl (Hrb.out.below HK4.out) (u8s_one _) (by unfold maxLen; omega) (by omega) (Below.size HK4.out) ?_; intro v5 w5 hown5 hg5; have Hown5 := Lib.hid hown5; have HG5 := Lib.hid hg5; clear hown5 hg5)
              have HD5 : Hid (DInv g (P1 ++ Qb) w5) := HD4.out.grown HG5.out (fun e => by
                rcases own_ne HO4.out HD4.out with h | h
                · rw [h] at e; cases e
                · exact h e)
              have HK5 : Hid (Kept w w5) := Below.grown HK4.out HG5.out (Below.size HK4.out) (fun b e => (HO4.out.lt b e).1)
              have HO5 : Hid (w5.ownsRow w.heap.size 5 1 v5 (P1 ++ Qb).length (u8s (P1 ++ Qb))) := by have := Hown5.out; rwa [HPQ.out, ← u8s_append] at this
              clear Hown5 HG5 HD4 HK4 HO4 HPQ
              generalize P1 ++ Qb = PQ at *
              have hSl := sumL_length PQ
              have HS5 := Lib.hid (CD.out w5 PQ HK5.out HD5.out (by omega))
              have HsL : Hid ((u8s (sumL PQ)).length = 16) := by show _ = _; rw [u8s_length, hSl]
              have Hone := Lib.hid (row_all' (sumL PQ))
              have Hss : Hid (∀ W, (Op.equalIn 10000 30 (.agg (u8s (sumL PQ)).toArray) (.agg (u8s (sumL PQ)).toArray)).run Tryd.prog W = .ok true W) := fun W => by rw [eq_dig _ _ hSl hSl, decide_eq_true rfl]
              obtain ⟨A5, c5, rfl, hc5⟩ := own_slice HO5.out
              have CRS : Hid (∀ W, Kept w5 W → Calls Tryd.prog 21 #[.slice A5 PQ.length c5] W fun e w' => e = .returned (.agg (u8s (sumL PQ)).toArray) ∧ Kept W w') := fun W hk => rsum_any A5 PQ.length c5 PQ HBq.out (by omega) hc5 W (((Rd.of_own HO5.out).below hk).more hk.size)
              have CL5 : Hid (∀ W, Kept w5 W → Calls Tryd.prog 22 #[.pointer (some ⟨g, 0, none⟩)] W fun e w' => e = .returned (.int .i64 (PQ.length : Int)) ∧ W = w') := fun W hk => len_inv (HD5.out.kept hk)
              generalize u8s (sumL PQ) = L at *
              have Hsz : Hid ((Tryd.prog.info? 30).map (·.size) = some L.toArray.size) := by show _ = _; rw [List.size_toArray, HsL.out]; exact size16b
              have HLs : Hid (L.toArray.size = 16) := by show _ = _; rw [List.size_toArray, HsL.out]
              clear hSl
              go_upto_region 25 with (first
                | (go_at_call 20; refine HS5.out.mono ?_; rintro e w6 ⟨rfl, hk6⟩; have HK6 := Lib.hid hk6; clear hk6)
                | ((refine wpList_store_row ?c0 30 (.tmp 11) (.tmp 72) ?c1 w6.heap.size L.toArray ?c2 ?c3 _ _ (hnew _ rfl) ?c4 ?c5 ?c6 ?_); (case c0 => with_reducible rfl); (case c1 => with_reducible rfl); (case c2 => rfl); (case c3 => rfl); (case c4 => exact Hsz.out); (case c5 => exact HLs.out.symm); (case c6 => exact Hone.out)))
              have k7 : Kept w6 (World.setRow (w6.alloc (.cells z16 30)) w6.heap.size L.toArray) := below_setRow ((Below.refl _ w6).alloc (Nat.le_refl _) _) (Nat.le_refl _) _
              have m7 : (World.setRow (w6.alloc (.cells z16 30)) w6.heap.size L.toArray).heap[w6.heap.size]? = some (.cells L.toArray 30 (0, 0)) := setRow_heap _ _ _ _ _ _ (hnew _ rfl)
              have HK7 := Lib.hid (below_kept HK6.out k7)
              generalize World.setRow (w6.alloc (.cells z16 30)) w6.heap.size L.toArray = w7 at *
              obtain ⟨g7, hg7⟩ : ∃ x, x = w6.heap.size := ⟨_, rfl⟩
              rw [← hg7] at m7 ⊢
              have r7 := range_row0 m7
              have l7 := heap_lt m7
              clear k7 hg7 HK6 HS5
              --R25
              have H57 := HK7
              have HK0 := Lib.hid (below_kept HK5.out HK7.out)
              have HM7 := Lib.hid m7
              have hu := Tryd.underlying30
              have hsd : (Tryd.prog.info? 30).map (·.size) = some L.length := by rw [HsL.out]; exact size16b
              have hss := Hss.out
              clear m7
              go_cut [102] (fun v102 wx => v102 = .bool false ∧ Below w7.heap.size w7 wx)
              case first =>
                by_cases hiw : i < n1
                · obtain ⟨ad1, u1, rfl, hadb1, hu1, hcu1⟩ := Hr1.out.at_ hiw
                  have hxl : xs.length = n1 := by have := Hr1.out.1; rwa [u8s_length] at this
                  rw [u8s_get _ _ (by omega)] at hu1
                  cases hu1
                  obtain ⟨hzz0, hzz1⟩ := Hxs.out (xs.getD i 0) (by rw [List.getD_eq_getElem?_getD, List.getElem?_eq_getElem (by omega), Option.getD_some]; exact List.getElem_mem _)
                  have hcell1 : w7.cell? (ad1.add i) = some (.int .u8 (xs.getD i 0)) := (Below.cell HK0.out (by rw [addBlock]; exact hadb1)).trans hcu1
                  have hlb : (ad1.add i).block < w7.heap.size := by rw [addBlock]; exact Nat.lt_of_lt_of_le hadb1 (Below.size HK0.out)
                  generalize xs.getD i 0 = z at *
                  have hiwI : (i : Int) < (n1 : Int) := by omega
                  have Hk1 : Hid (∀ W, Below w7.heap.size w7 W → (W.rangeAt g7 0 L ∧ W.cell? (ad1.add i) = some (.int .u8 z)) ∧ Below w7.heap.size w7 W) := fun W h => ⟨⟨range_kept' h l7 r7, (Below.cell h hlb).trans hcell1⟩, h⟩
                  clear hcu1 r7 l7 hlb hcell1
                  rcases hodd : (z.tmod 2 == 1) with _ | _
                  · refine wp_region_held_drew (S := (fun W => (W.rangeAt g7 0 L ∧ W.cell? (ad1.add i) = some (.int .u8 z)) ∧ Below w7.heap.size w7 W)) (by kernel_rfl) ?_ (fun hHeld => ?_)
                    · exact Hk1.out _ (by repeat (first | with_reducible assumption | with_reducible refine below_drew0 ?_ | with_reducible exact Below.refl _ _))
                    refine wpAnyH_take (i := 0) (oi := ⟨some 74, _, _, _, _, _⟩) (v := ?_) rfl (by kernel_rfl) (by kernel_rfl) (by kernel_rfl) (fun _ _ _ h => h) (Or.inl ⟨by rfl, ?_⟩) hHeld ?_
                    rotate_left
                    · (intro w hSw; (try dsimp only at hSw); go_simp; (try with_reducible rfl))
                    try simp only [Act.put, List.setIfInBounds_toArray, List.set_cons_zero, List.set_cons_succ]
                    refine wpAnyH_take (i := 1) (oi := ⟨some 75, _, _, _, _, _⟩) (v := ?_) rfl (by kernel_rfl) (by kernel_rfl) (by kernel_rfl) (fun _ _ _ h => h) (Or.inl ⟨by rfl, ?_⟩) hHeld ?_
                    rotate_left
                    · (intro w hSw; (try dsimp only at hSw); go_simp; (try with_reducible rfl))
                    try simp only [Act.put, List.setIfInBounds_toArray, List.set_cons_zero, List.set_cons_succ]
                    refine wpAnyH_take (i := 2) (oi := ⟨some 76, _, _, _, _, _⟩) (v := ?_) rfl (by kernel_rfl) (by kernel_rfl) (by kernel_rfl) (fun _ _ _ h => h) (Or.inl ⟨by rfl, ?_⟩) hHeld ?_
                    rotate_left
                    · (intro w hSw; (try dsimp only at hSw); go_simp; (try with_reducible rfl))
                    try simp only [Act.put, List.setIfInBounds_toArray, List.set_cons_zero, List.set_cons_succ]
                    refine wpAnyH_take (i := 3) (oi := ⟨some 77, _, _, _, _, _⟩) (v := ?_) rfl (by kernel_rfl) (by kernel_rfl) (by kernel_rfl) (fun _ _ _ h => h) (Or.inl ⟨by rfl, ?_⟩) hHeld ?_
                    rotate_left
                    · (intro w hSw; (try dsimp only at hSw); go_simp; (try with_reducible rfl))
                    try simp only [Act.put, List.setIfInBounds_toArray, List.set_cons_zero, List.set_cons_succ]
                    refine wpAnyH_take (i := 4) (oi := ⟨some 78, _, _, _, _, _⟩) (v := ?_) rfl (by kernel_rfl) (by kernel_rfl) (by kernel_rfl) (fun _ _ _ h => h) (Or.inl ⟨by rfl, ?_⟩) hHeld ?_
                    rotate_left
                    · (intro w hSw; (try dsimp only at hSw); go_simp; (try with_reducible rfl))
                    try simp only [Act.put, List.setIfInBounds_toArray, List.set_cons_zero, List.set_cons_succ]
                    refine wpAnyH_take (i := 5) (oi := ⟨some 79, _, _, _, _, _⟩) (v := ?_) rfl (by kernel_rfl) (by kernel_rfl) (by kernel_rfl) (fun _ _ _ h => h) (Or.inl ⟨by rfl, ?_⟩) hHeld ?_
                    rotate_left
                    · (intro w hSw; (try dsimp only at hSw); go_simp; (try with_reducible rfl))
                    try simp only [Act.put, List.setIfInBounds_toArray, List.set_cons_zero, List.set_cons_succ]
                    refine wpAnyH_take (i := 6) (oi := ⟨some 80, _, _, _, _, _⟩) (v := ?_) rfl (by kernel_rfl) (by kernel_rfl) (by kernel_rfl) (fun _ _ _ h => h) (Or.inl ⟨by rfl, ?_⟩) hHeld ?_
                    rotate_left
                    · (intro w hSw; (try dsimp only at hSw); go_simp; (try with_reducible rfl))
                    try simp only [Act.put, List.setIfInBounds_toArray, List.set_cons_zero, List.set_cons_succ]
                    refine wpAnyH_take (i := 7) (oi := ⟨some 81, _, _, _, _, _⟩) (v := ?_) rfl (by kernel_rfl) (by kernel_rfl) (by kernel_rfl) (fun _ _ _ h => h) (Or.inl ⟨by rfl, ?_⟩) hHeld ?_
                    rotate_left
                    · (intro w hSw; (try dsimp only at hSw); go_simp; (try with_reducible rfl))
                    try simp only [Act.put, List.setIfInBounds_toArray, List.set_cons_zero, List.set_cons_succ]
                    refine wpAnyH_take (i := 8) (oi := ⟨some 82, _, _, _, _, _⟩) (v := ?_) rfl (by kernel_rfl) (by kernel_rfl) (by kernel_rfl) (fun _ _ _ h => h) (Or.inl ⟨by rfl, ?_⟩) hHeld ?_
                    rotate_left
                    · (intro w hSw; (try dsimp only at hSw); go_simp; (try with_reducible rfl))
                    try simp only [Act.put, List.setIfInBounds_toArray, List.set_cons_zero, List.set_cons_succ]
                    refine wpAnyH_take (i := 9) (oi := ⟨some 83, _, _, _, _, _⟩) (v := ?_) rfl (by kernel_rfl) (by kernel_rfl) (by kernel_rfl) (fun _ _ _ h => h) (Or.inl ⟨by rfl, ?_⟩) hHeld ?_
                    rotate_left
                    · (intro w hSw; (try dsimp only at hSw); go_simp; (try with_reducible rfl))
                    try simp only [Act.put, List.setIfInBounds_toArray, List.set_cons_zero, List.set_cons_succ]
                    refine wpAnyH_take (i := 10) (oi := ⟨some 84, _, _, _, _, _⟩) (v := ?_) rfl (by kernel_rfl) (by kernel_rfl) (by kernel_rfl) (fun _ _ _ h => h) (Or.inl ⟨by rfl, ?_⟩) hHeld ?_
                    rotate_left
                    · (intro w hSw; (try dsimp only at hSw); go_simp; (try with_reducible rfl))
                    try simp only [Act.put, List.setIfInBounds_toArray, List.set_cons_zero, List.set_cons_succ]
                    refine wpAnyH_take (i := 11) (oi := ⟨some 85, _, _, _, _, _⟩) (v := ?_) rfl (by kernel_rfl) (by kernel_rfl) (by kernel_rfl) (fun _ _ _ h => h) (Or.inl ⟨by rfl, ?_⟩) hHeld ?_
                    rotate_left
                    · (intro w hSw; (try dsimp only at hSw); go_simp; (try with_reducible rfl))
                    try simp only [Act.put, List.setIfInBounds_toArray, List.set_cons_zero, List.set_cons_succ]
                    refine wpAnyH_take (i := 12) (oi := ⟨some 86, _, _, _, _, _⟩) (v := ?_) rfl (by kernel_rfl) (by kernel_rfl) (by kernel_rfl) (fun _ _ _ h => h) (Or.inl ⟨by rfl, ?_⟩) hHeld ?_
                    rotate_left
                    · (intro w hSw; (try dsimp only at hSw); go_simp; (try with_reducible rfl))
                    try simp only [Act.put, List.setIfInBounds_toArray, List.set_cons_zero, List.set_cons_succ]
                    refine wpAnyH_take (i := 13) (oi := ⟨some 87, _, _, _, _, _⟩) rfl (by kernel_rfl) (by kernel_rfl) (by kernel_rfl) (fun _ _ _ h => h) (Or.inr ⟨by rfl, rfl⟩) hHeld ?_
                    try simp only [Act.put, List.setIfInBounds_toArray, List.set_cons_zero, List.set_cons_succ]
                    refine wpAnyH_take (i := 14) (oi := ⟨some 88, _, _, _, _, _⟩) rfl (by kernel_rfl) (by kernel_rfl) (by kernel_rfl) (fun _ _ _ h => h) (Or.inr ⟨by rfl, rfl⟩) hHeld ?_
                    try simp only [Act.put, List.setIfInBounds_toArray, List.set_cons_zero, List.set_cons_succ]
                    refine wpAnyH_take (i := 15) (oi := ⟨some 89, _, _, _, _, _⟩) rfl (by kernel_rfl) (by kernel_rfl) (by kernel_rfl) (fun _ _ _ h => h) (Or.inr ⟨by rfl, rfl⟩) hHeld ?_
                    try simp only [Act.put, List.setIfInBounds_toArray, List.set_cons_zero, List.set_cons_succ]
                    refine wpAnyH_take (i := 16) (oi := ⟨some 90, _, _, _, _, _⟩) rfl (by kernel_rfl) (by kernel_rfl) (by kernel_rfl) (fun _ _ _ h => h) (Or.inr ⟨by rfl, rfl⟩) hHeld ?_
                    try simp only [Act.put, List.setIfInBounds_toArray, List.set_cons_zero, List.set_cons_succ]
                    refine wpAnyH_take (i := 17) (oi := ⟨some 91, _, _, _, _, _⟩) rfl (by kernel_rfl) (by kernel_rfl) (by kernel_rfl) (fun _ _ _ h => h) (Or.inr ⟨by rfl, rfl⟩) hHeld ?_
                    try simp only [Act.put, List.setIfInBounds_toArray, List.set_cons_zero, List.set_cons_succ]
                    refine wpAnyH_take (i := 18) (oi := ⟨some 92, _, _, _, _, _⟩) rfl (by kernel_rfl) (by kernel_rfl) (by kernel_rfl) (fun _ _ _ h => h) (Or.inr ⟨by rfl, rfl⟩) hHeld ?_
                    try simp only [Act.put, List.setIfInBounds_toArray, List.set_cons_zero, List.set_cons_succ]
                    refine wpAnyH_take (i := 19) (oi := ⟨some 93, _, _, _, _, _⟩) rfl (by kernel_rfl) (by kernel_rfl) (by kernel_rfl) (fun _ _ _ h => h) (Or.inr ⟨by rfl, rfl⟩) hHeld ?_
                    try simp only [Act.put, List.setIfInBounds_toArray, List.set_cons_zero, List.set_cons_succ]
                    refine wpAnyH_take (i := 20) (oi := ⟨some 94, _, _, _, _, _⟩) rfl (by kernel_rfl) (by kernel_rfl) (by kernel_rfl) (fun _ _ _ h => h) (Or.inr ⟨by rfl, rfl⟩) hHeld ?_
                    try simp only [Act.put, List.setIfInBounds_toArray, List.set_cons_zero, List.set_cons_succ]
                    refine wpAnyH_take (i := 21) (oi := ⟨some 95, _, _, _, _, _⟩) (v := ?_) rfl (by kernel_rfl) (by kernel_rfl) (by kernel_rfl) (fun _ _ _ h => h) (Or.inl ⟨by rfl, ?_⟩) hHeld ?_
                    rotate_left
                    · (intro w hSw; (try dsimp only at hSw); go_simp; (try with_reducible rfl))
                    try simp only [Act.put, List.setIfInBounds_toArray, List.set_cons_zero, List.set_cons_succ]
                    refine wpAnyH_take (i := 22) (oi := ⟨some 96, _, _, _, _, _⟩) (v := ?_) rfl (by kernel_rfl) (by kernel_rfl) (by kernel_rfl) (fun _ _ _ h => h) (Or.inl ⟨by rfl, ?_⟩) hHeld ?_
                    rotate_left
                    · (intro w hSw; (try dsimp only at hSw); go_simp; (try with_reducible rfl))
                    try simp only [Act.put, List.setIfInBounds_toArray, List.set_cons_zero, List.set_cons_succ]
                    refine wpAnyH_take (i := 23) (oi := ⟨some 97, _, _, _, _, _⟩) (v := ?_) rfl (by kernel_rfl) (by kernel_rfl) (by kernel_rfl) (fun _ _ _ h => h) (Or.inl ⟨by rfl, ?_⟩) hHeld ?_
                    rotate_left
                    · (intro w hSw; (try dsimp only at hSw); go_simp; (try with_reducible rfl))
                    try simp only [Act.put, List.setIfInBounds_toArray, List.set_cons_zero, List.set_cons_succ]
                    refine wpAnyH_take (i := 25) (oi := ⟨some 99, _, _, _, _, _⟩) (v := ?_) rfl (by kernel_rfl) (by kernel_rfl) (by kernel_rfl) (fun _ _ _ h => h) (Or.inl ⟨by rfl, ?_⟩) hHeld ?_
                    rotate_left
                    · (intro w hSw; (try dsimp only at hSw); go_simp; (try with_reducible rfl))
                    try simp only [Act.put, List.setIfInBounds_toArray, List.set_cons_zero, List.set_cons_succ]
                    refine wpAnyH_take (i := 26) (oi := ⟨some 100, _, _, _, _, _⟩) (v := ?_) rfl (by kernel_rfl) (by kernel_rfl) (by kernel_rfl) (fun _ _ _ h => h) (Or.inl ⟨by rfl, ?_⟩) hHeld ?_
                    rotate_left
                    · (intro w hSw; (try dsimp only at hSw); go_simp; (try with_reducible rfl))
                    try simp only [Act.put, List.setIfInBounds_toArray, List.set_cons_zero, List.set_cons_succ]
                    refine wpAnyH_ready (rs := [24]) (by kernel_rfl) (by simp) ?_
                    refine AllReadyH.cons (o := ⟨some 98, _, _, _, _, _⟩) rfl (fun K hK => ?_) (AllReadyH.nil)
                    · go_simp
                      go_at_call 22; refine (CL5.out _ (below_kept H57.out hHeld.2)).mono ?_; rintro e wb ⟨rfl, rfl⟩; have hbb := hHeld.2; dsimp only
                      go_wp2_with fail
                      refine hK.out _ _ ?_ (fun hHeld => ?_)
                      · exact Hk1.out _ (by repeat (first | with_reducible assumption | with_reducible refine below_drew0 ?_ | with_reducible exact Below.refl _ _))
                      clear hK K
                      try simp only [Act.put, List.setIfInBounds_toArray, List.set_cons_zero, List.set_cons_succ]
                      refine wpAnyH_take (i := 27) (oi := ⟨some 101, _, _, _, _, _⟩) (v := ?_) rfl (by kernel_rfl) (by kernel_rfl) (by kernel_rfl) (fun _ _ _ h => h) (Or.inl ⟨by rfl, ?_⟩) hHeld ?_
                      rotate_left
                      · (intro w hSw; (try dsimp only at hSw); go_simp; (try with_reducible rfl))
                      try simp only [Act.put, List.setIfInBounds_toArray, List.set_cons_zero, List.set_cons_succ]
                      refine wpAnyH_take (i := 28) (oi := ⟨some 102, _, _, _, _, _⟩) (v := ?_) rfl (by kernel_rfl) (by kernel_rfl) (by kernel_rfl) (fun _ _ _ h => h) (Or.inl ⟨by rfl, ?_⟩) hHeld ?_
                      rotate_left
                      · (intro w hSw; (try dsimp only at hSw); go_simp; (try with_reducible rfl))
                      try simp only [Act.put, List.setIfInBounds_toArray, List.set_cons_zero, List.set_cons_succ]
                      refine wpAnyH_done (by kernel_rfl) ?_ _
                      go_wp2_with fail
                      go_meet
                      exact ⟨rfl, hHeld.2⟩
                  · refine wp_region_held_drew (S := (fun W => (W.rangeAt g7 0 L ∧ W.cell? (ad1.add i) = some (.int .u8 z)) ∧ Below w7.heap.size w7 W)) (by kernel_rfl) ?_ (fun hHeld => ?_)
                    · exact Hk1.out _ (by repeat (first | with_reducible assumption | with_reducible refine below_drew0 ?_ | with_reducible exact Below.refl _ _))
                    refine wpAnyH_take (i := 0) (oi := ⟨some 74, _, _, _, _, _⟩) (v := ?_) rfl (by kernel_rfl) (by kernel_rfl) (by kernel_rfl) (fun _ _ _ h => h) (Or.inl ⟨by rfl, ?_⟩) hHeld ?_
                    rotate_left
                    · (intro w hSw; (try dsimp only at hSw); go_simp; (try with_reducible rfl))
                    try simp only [Act.put, List.setIfInBounds_toArray, List.set_cons_zero, List.set_cons_succ]
                    refine wpAnyH_take (i := 1) (oi := ⟨some 75, _, _, _, _, _⟩) (v := ?_) rfl (by kernel_rfl) (by kernel_rfl) (by kernel_rfl) (fun _ _ _ h => h) (Or.inl ⟨by rfl, ?_⟩) hHeld ?_
                    rotate_left
                    · (intro w hSw; (try dsimp only at hSw); go_simp; (try with_reducible rfl))
                    try simp only [Act.put, List.setIfInBounds_toArray, List.set_cons_zero, List.set_cons_succ]
                    refine wpAnyH_take (i := 2) (oi := ⟨some 76, _, _, _, _, _⟩) (v := ?_) rfl (by kernel_rfl) (by kernel_rfl) (by kernel_rfl) (fun _ _ _ h => h) (Or.inl ⟨by rfl, ?_⟩) hHeld ?_
                    rotate_left
                    · (intro w hSw; (try dsimp only at hSw); go_simp; (try with_reducible rfl))
                    try simp only [Act.put, List.setIfInBounds_toArray, List.set_cons_zero, List.set_cons_succ]
                    refine wpAnyH_take (i := 3) (oi := ⟨some 77, _, _, _, _, _⟩) (v := ?_) rfl (by kernel_rfl) (by kernel_rfl) (by kernel_rfl) (fun _ _ _ h => h) (Or.inl ⟨by rfl, ?_⟩) hHeld ?_
                    rotate_left
                    · (intro w hSw; (try dsimp only at hSw); go_simp; (try with_reducible rfl))
                    try simp only [Act.put, List.setIfInBounds_toArray, List.set_cons_zero, List.set_cons_succ]
                    refine wpAnyH_take (i := 4) (oi := ⟨some 78, _, _, _, _, _⟩) (v := ?_) rfl (by kernel_rfl) (by kernel_rfl) (by kernel_rfl) (fun _ _ _ h => h) (Or.inl ⟨by rfl, ?_⟩) hHeld ?_
                    rotate_left
                    · (intro w hSw; (try dsimp only at hSw); go_simp; (try with_reducible rfl))
                    try simp only [Act.put, List.setIfInBounds_toArray, List.set_cons_zero, List.set_cons_succ]
                    refine wpAnyH_take (i := 5) (oi := ⟨some 79, _, _, _, _, _⟩) (v := ?_) rfl (by kernel_rfl) (by kernel_rfl) (by kernel_rfl) (fun _ _ _ h => h) (Or.inl ⟨by rfl, ?_⟩) hHeld ?_
                    rotate_left
                    · (intro w hSw; (try dsimp only at hSw); go_simp; (try with_reducible rfl))
                    try simp only [Act.put, List.setIfInBounds_toArray, List.set_cons_zero, List.set_cons_succ]
                    refine wpAnyH_take (i := 6) (oi := ⟨some 80, _, _, _, _, _⟩) (v := ?_) rfl (by kernel_rfl) (by kernel_rfl) (by kernel_rfl) (fun _ _ _ h => h) (Or.inl ⟨by rfl, ?_⟩) hHeld ?_
                    rotate_left
                    · (intro w hSw; (try dsimp only at hSw); go_simp; (try with_reducible rfl))
                    try simp only [Act.put, List.setIfInBounds_toArray, List.set_cons_zero, List.set_cons_succ]
                    refine wpAnyH_take (i := 7) (oi := ⟨some 81, _, _, _, _, _⟩) (v := ?_) rfl (by kernel_rfl) (by kernel_rfl) (by kernel_rfl) (fun _ _ _ h => h) (Or.inl ⟨by rfl, ?_⟩) hHeld ?_
                    rotate_left
                    · (intro w hSw; (try dsimp only at hSw); go_simp; (try with_reducible rfl))
                    try simp only [Act.put, List.setIfInBounds_toArray, List.set_cons_zero, List.set_cons_succ]
                    refine wpAnyH_take (i := 8) (oi := ⟨some 82, _, _, _, _, _⟩) (v := ?_) rfl (by kernel_rfl) (by kernel_rfl) (by kernel_rfl) (fun _ _ _ h => h) (Or.inl ⟨by rfl, ?_⟩) hHeld ?_
                    rotate_left
                    · (intro w hSw; (try dsimp only at hSw); go_simp; (try with_reducible rfl))
                    try simp only [Act.put, List.setIfInBounds_toArray, List.set_cons_zero, List.set_cons_succ]
                    refine wpAnyH_take (i := 9) (oi := ⟨some 83, _, _, _, _, _⟩) (v := ?_) rfl (by kernel_rfl) (by kernel_rfl) (by kernel_rfl) (fun _ _ _ h => h) (Or.inl ⟨by rfl, ?_⟩) hHeld ?_
                    rotate_left
                    · (intro w hSw; (try dsimp only at hSw); go_simp; (try with_reducible rfl))
                    try simp only [Act.put, List.setIfInBounds_toArray, List.set_cons_zero, List.set_cons_succ]
                    refine wpAnyH_take (i := 10) (oi := ⟨some 84, _, _, _, _, _⟩) (v := ?_) rfl (by kernel_rfl) (by kernel_rfl) (by kernel_rfl) (fun _ _ _ h => h) (Or.inl ⟨by rfl, ?_⟩) hHeld ?_
                    rotate_left
                    · (intro w hSw; (try dsimp only at hSw); go_simp; (try with_reducible rfl))
                    try simp only [Act.put, List.setIfInBounds_toArray, List.set_cons_zero, List.set_cons_succ]
                    refine wpAnyH_take (i := 11) (oi := ⟨some 85, _, _, _, _, _⟩) (v := ?_) rfl (by kernel_rfl) (by kernel_rfl) (by kernel_rfl) (fun _ _ _ h => h) (Or.inl ⟨by rfl, ?_⟩) hHeld ?_
                    rotate_left
                    · (intro w hSw; (try dsimp only at hSw); go_simp; (try with_reducible rfl))
                    try simp only [Act.put, List.setIfInBounds_toArray, List.set_cons_zero, List.set_cons_succ]
                    refine wpAnyH_take (i := 12) (oi := ⟨some 86, _, _, _, _, _⟩) (v := ?_) rfl (by kernel_rfl) (by kernel_rfl) (by kernel_rfl) (fun _ _ _ h => h) (Or.inl ⟨by rfl, ?_⟩) hHeld ?_
                    rotate_left
                    · (intro w hSw; (try dsimp only at hSw); go_simp; (try with_reducible rfl))
                    try simp only [Act.put, List.setIfInBounds_toArray, List.set_cons_zero, List.set_cons_succ]
                    refine wpAnyH_take (i := 13) (oi := ⟨some 87, _, _, _, _, _⟩) rfl (by kernel_rfl) (by kernel_rfl) (by kernel_rfl) (fun _ _ _ h => h) (yieldsIf_load_mid (by rfl) _ _ rfl _ _ rfl L _ (fun w hw => hw.1.1) hu rfl hsd) hHeld ?_
                    try simp only [Act.put, List.setIfInBounds_toArray, List.set_cons_zero, List.set_cons_succ]
                    refine wpAnyH_take (i := 14) (oi := ⟨some 88, _, _, _, _, _⟩) (v := ?_) rfl (by kernel_rfl) (by kernel_rfl) (by kernel_rfl) (fun _ _ _ h => h) (Or.inl ⟨by rfl, ?_⟩) hHeld ?_
                    rotate_left
                    · (intro w hSw; (try dsimp only at hSw); go_simp; (try with_reducible rfl))
                    try simp only [Act.put, List.setIfInBounds_toArray, List.set_cons_zero, List.set_cons_succ]
                    refine wpAnyH_ready (rs := [15]) (by kernel_rfl) (by simp) ?_
                    refine AllReadyH.cons (o := ⟨some 89, _, _, _, _, _⟩) rfl (fun K hK => ?_) (AllReadyH.nil)
                    · go_simp
                      go_at_call 21; refine (CRS.out _ (below_kept H57.out hHeld.2)).mono ?_; rintro e wa ⟨rfl, ka⟩; have hba := below_kept hHeld.2 ka; dsimp only
                      go_wp2_with fail
                      refine hK.out _ _ ?_ (fun hHeld => ?_)
                      · exact Hk1.out _ (by repeat (first | with_reducible assumption | with_reducible refine below_drew0 ?_ | with_reducible exact Below.refl _ _))
                      clear hK K
                      try simp only [Act.put, List.setIfInBounds_toArray, List.set_cons_zero, List.set_cons_succ]
                      refine wpAnyH_take (i := 16) (oi := ⟨some 90, _, _, _, _, _⟩) (v := ?_) rfl (by kernel_rfl) (by kernel_rfl) (by kernel_rfl) (fun _ _ _ h => h) (Or.inl ⟨by rfl, ?_⟩) hHeld ?_
                      rotate_left
                      · (intro w hSw; (try dsimp only at hSw); go_simp; (try with_reducible rfl))
                      try simp only [Act.put, List.setIfInBounds_toArray, List.set_cons_zero, List.set_cons_succ]
                      refine wpAnyH_take (i := 17) (oi := ⟨some 91, _, _, _, _, _⟩) (v := ?_) rfl (by kernel_rfl) (by kernel_rfl) (by kernel_rfl) (fun _ _ _ h => h) (Or.inl ⟨by rfl, ?_⟩) hHeld ?_
                      rotate_left
                      · (intro w hSw; (try dsimp only at hSw); go_simp; (try with_reducible rfl))
                      try simp only [Act.put, List.setIfInBounds_toArray, List.set_cons_zero, List.set_cons_succ]
                      refine wpAnyH_take (i := 18) (oi := ⟨some 92, _, _, _, _, _⟩) (v := ?_) rfl (by kernel_rfl) (by kernel_rfl) (by kernel_rfl) (fun _ _ _ h => h) (Or.inl ⟨by rfl, ?_⟩) hHeld ?_
                      rotate_left
                      · (intro w hSw; (try dsimp only at hSw); go_simp; (try with_reducible rfl))
                      try simp only [Act.put, List.setIfInBounds_toArray, List.set_cons_zero, List.set_cons_succ]
                      refine wpAnyH_take (i := 19) (oi := ⟨some 93, _, _, _, _, _⟩) (v := ?_) rfl (by kernel_rfl) (by kernel_rfl) (by kernel_rfl) (fun _ _ _ h => h) (Or.inl ⟨by rfl, ?_⟩) hHeld ?_
                      rotate_left
                      · (intro w hSw; (try dsimp only at hSw); go_simp; (try with_reducible rfl))
                      try simp only [Act.put, List.setIfInBounds_toArray, List.set_cons_zero, List.set_cons_succ]
                      refine wpAnyH_take (i := 20) (oi := ⟨some 94, _, _, _, _, _⟩) (v := ?_) rfl (by kernel_rfl) (by kernel_rfl) (by kernel_rfl) (fun _ _ _ h => h) (Or.inl ⟨by rfl, ?_⟩) hHeld ?_
                      rotate_left
                      · (intro w hSw; (try dsimp only at hSw); go_simp; (try with_reducible rfl))
                      try simp only [Act.put, List.setIfInBounds_toArray, List.set_cons_zero, List.set_cons_succ]
                      refine wpAnyH_take (i := 21) (oi := ⟨some 95, _, _, _, _, _⟩) (v := ?_) rfl (by kernel_rfl) (by kernel_rfl) (by kernel_rfl) (fun _ _ _ h => h) (Or.inl ⟨by rfl, ?_⟩) hHeld ?_
                      rotate_left
                      · (intro w hSw; (try dsimp only at hSw); go_simp; (try with_reducible rfl))
                      try simp only [Act.put, List.setIfInBounds_toArray, List.set_cons_zero, List.set_cons_succ]
                      refine wpAnyH_take (i := 22) (oi := ⟨some 96, _, _, _, _, _⟩) (v := ?_) rfl (by kernel_rfl) (by kernel_rfl) (by kernel_rfl) (fun _ _ _ h => h) (Or.inl ⟨by rfl, ?_⟩) hHeld ?_
                      rotate_left
                      · (intro w hSw; (try dsimp only at hSw); go_simp; (try with_reducible rfl))
                      try simp only [Act.put, List.setIfInBounds_toArray, List.set_cons_zero, List.set_cons_succ]
                      refine wpAnyH_take (i := 23) (oi := ⟨some 97, _, _, _, _, _⟩) (v := ?_) rfl (by kernel_rfl) (by kernel_rfl) (by kernel_rfl) (fun _ _ _ h => h) (Or.inl ⟨by rfl, ?_⟩) hHeld ?_
                      rotate_left
                      · (intro w hSw; (try dsimp only at hSw); go_simp; (try with_reducible rfl))
                      try simp only [Act.put, List.setIfInBounds_toArray, List.set_cons_zero, List.set_cons_succ]
                      refine wpAnyH_take (i := 25) (oi := ⟨some 99, _, _, _, _, _⟩) (v := ?_) rfl (by kernel_rfl) (by kernel_rfl) (by kernel_rfl) (fun _ _ _ h => h) (Or.inl ⟨by rfl, ?_⟩) hHeld ?_
                      rotate_left
                      · (intro w hSw; (try dsimp only at hSw); go_simp; (try with_reducible rfl))
                      try simp only [Act.put, List.setIfInBounds_toArray, List.set_cons_zero, List.set_cons_succ]
                      refine wpAnyH_take (i := 26) (oi := ⟨some 100, _, _, _, _, _⟩) (v := ?_) rfl (by kernel_rfl) (by kernel_rfl) (by kernel_rfl) (fun _ _ _ h => h) (Or.inl ⟨by rfl, ?_⟩) hHeld ?_
                      rotate_left
                      · (intro w hSw; (try dsimp only at hSw); go_simp; (try with_reducible rfl))
                      try simp only [Act.put, List.setIfInBounds_toArray, List.set_cons_zero, List.set_cons_succ]
                      refine wpAnyH_ready (rs := [24]) (by kernel_rfl) (by simp) ?_
                      refine AllReadyH.cons (o := ⟨some 98, _, _, _, _, _⟩) rfl (fun K hK => ?_) (AllReadyH.nil)
                      · go_simp
                        go_at_call 22; refine (CL5.out _ (below_kept H57.out hHeld.2)).mono ?_; rintro e wb ⟨rfl, rfl⟩; have hbb := hHeld.2; dsimp only
                        go_wp2_with fail
                        refine hK.out _ _ ?_ (fun hHeld => ?_)
                        · exact Hk1.out _ (by repeat (first | with_reducible assumption | with_reducible refine below_drew0 ?_ | with_reducible exact Below.refl _ _))
                        clear hK K
                        try simp only [Act.put, List.setIfInBounds_toArray, List.set_cons_zero, List.set_cons_succ]
                        refine wpAnyH_take (i := 27) (oi := ⟨some 101, _, _, _, _, _⟩) (v := ?_) rfl (by kernel_rfl) (by kernel_rfl) (by kernel_rfl) (fun _ _ _ h => h) (Or.inl ⟨by rfl, ?_⟩) hHeld ?_
                        rotate_left
                        · (intro w hSw; (try dsimp only at hSw); go_simp; (try with_reducible rfl))
                        try simp only [Act.put, List.setIfInBounds_toArray, List.set_cons_zero, List.set_cons_succ]
                        refine wpAnyH_take (i := 28) (oi := ⟨some 102, _, _, _, _, _⟩) (v := ?_) rfl (by kernel_rfl) (by kernel_rfl) (by kernel_rfl) (fun _ _ _ h => h) (Or.inl ⟨by rfl, ?_⟩) hHeld ?_
                        rotate_left
                        · (intro w hSw; (try dsimp only at hSw); go_simp; (try with_reducible rfl))
                        try simp only [Act.put, List.setIfInBounds_toArray, List.set_cons_zero, List.set_cons_succ]
                        refine wpAnyH_done (by kernel_rfl) ?_ _
                        go_wp2_with fail
                        go_meet
                        exact ⟨rfl, hHeld.2⟩
                · have hiwI : ¬ (i : Int) < (n1 : Int) := by omega
                  have Hk2 : Hid (∀ W, Below w7.heap.size w7 W → W.rangeAt g7 0 L ∧ Below w7.heap.size w7 W) := fun W h => ⟨range_kept' h l7 r7, h⟩
                  clear r7 l7
                  refine wp_region_held_drew (S := (fun W => W.rangeAt g7 0 L ∧ Below w7.heap.size w7 W)) (by kernel_rfl) ?_ (fun hHeld => ?_)
                  · exact Hk2.out _ (by repeat (first | with_reducible assumption | with_reducible refine below_drew0 ?_ | with_reducible exact Below.refl _ _))
                  refine wpAnyH_take (i := 0) (oi := ⟨some 74, _, _, _, _, _⟩) (v := ?_) rfl (by kernel_rfl) (by kernel_rfl) (by kernel_rfl) (fun _ _ _ h => h) (Or.inl ⟨by rfl, ?_⟩) hHeld ?_
                  rotate_left
                  · (intro w hSw; (try dsimp only at hSw); go_simp; (try with_reducible rfl))
                  try simp only [Act.put, List.setIfInBounds_toArray, List.set_cons_zero, List.set_cons_succ]
                  refine wpAnyH_take (i := 1) (oi := ⟨some 75, _, _, _, _, _⟩) (v := ?_) rfl (by kernel_rfl) (by kernel_rfl) (by kernel_rfl) (fun _ _ _ h => h) (Or.inl ⟨by rfl, ?_⟩) hHeld ?_
                  rotate_left
                  · (intro w hSw; (try dsimp only at hSw); go_simp; (try with_reducible rfl))
                  try simp only [Act.put, List.setIfInBounds_toArray, List.set_cons_zero, List.set_cons_succ]
                  refine wpAnyH_take (i := 2) (oi := ⟨some 76, _, _, _, _, _⟩) (v := ?_) rfl (by kernel_rfl) (by kernel_rfl) (by kernel_rfl) (fun _ _ _ h => h) (Or.inl ⟨by rfl, ?_⟩) hHeld ?_
                  rotate_left
                  · (intro w hSw; (try dsimp only at hSw); go_simp; (try with_reducible rfl))
                  try simp only [Act.put, List.setIfInBounds_toArray, List.set_cons_zero, List.set_cons_succ]
                  refine wpAnyH_take (i := 3) (oi := ⟨some 77, _, _, _, _, _⟩) (v := ?_) rfl (by kernel_rfl) (by kernel_rfl) (by kernel_rfl) (fun _ _ _ h => h) (Or.inl ⟨by rfl, ?_⟩) hHeld ?_
                  rotate_left
                  · (intro w hSw; (try dsimp only at hSw); go_simp; (try with_reducible rfl))
                  try simp only [Act.put, List.setIfInBounds_toArray, List.set_cons_zero, List.set_cons_succ]
                  refine wpAnyH_take (i := 4) (oi := ⟨some 78, _, _, _, _, _⟩) (v := ?_) rfl (by kernel_rfl) (by kernel_rfl) (by kernel_rfl) (fun _ _ _ h => h) (Or.inl ⟨by rfl, ?_⟩) hHeld ?_
                  rotate_left
                  · (intro w hSw; (try dsimp only at hSw); go_simp; (try with_reducible rfl))
                  try simp only [Act.put, List.setIfInBounds_toArray, List.set_cons_zero, List.set_cons_succ]
                  refine wpAnyH_take (i := 5) (oi := ⟨some 79, _, _, _, _, _⟩) rfl (by kernel_rfl) (by kernel_rfl) (by kernel_rfl) (fun _ _ _ h => h) (Or.inr ⟨by rfl, rfl⟩) hHeld ?_
                  try simp only [Act.put, List.setIfInBounds_toArray, List.set_cons_zero, List.set_cons_succ]
                  refine wpAnyH_take (i := 6) (oi := ⟨some 80, _, _, _, _, _⟩) rfl (by kernel_rfl) (by kernel_rfl) (by kernel_rfl) (fun _ _ _ h => h) (Or.inr ⟨by rfl, rfl⟩) hHeld ?_
                  try simp only [Act.put, List.setIfInBounds_toArray, List.set_cons_zero, List.set_cons_succ]
                  refine wpAnyH_take (i := 7) (oi := ⟨some 81, _, _, _, _, _⟩) rfl (by kernel_rfl) (by kernel_rfl) (by kernel_rfl) (fun _ _ _ h => h) (Or.inr ⟨by rfl, rfl⟩) hHeld ?_
                  try simp only [Act.put, List.setIfInBounds_toArray, List.set_cons_zero, List.set_cons_succ]
                  refine wpAnyH_take (i := 8) (oi := ⟨some 82, _, _, _, _, _⟩) rfl (by kernel_rfl) (by kernel_rfl) (by kernel_rfl) (fun _ _ _ h => h) (Or.inr ⟨by rfl, rfl⟩) hHeld ?_
                  try simp only [Act.put, List.setIfInBounds_toArray, List.set_cons_zero, List.set_cons_succ]
                  refine wpAnyH_take (i := 9) (oi := ⟨some 83, _, _, _, _, _⟩) rfl (by kernel_rfl) (by kernel_rfl) (by kernel_rfl) (fun _ _ _ h => h) (Or.inr ⟨by rfl, rfl⟩) hHeld ?_
                  try simp only [Act.put, List.setIfInBounds_toArray, List.set_cons_zero, List.set_cons_succ]
                  refine wpAnyH_take (i := 10) (oi := ⟨some 84, _, _, _, _, _⟩) rfl (by kernel_rfl) (by kernel_rfl) (by kernel_rfl) (fun _ _ _ h => h) (Or.inr ⟨by rfl, rfl⟩) hHeld ?_
                  try simp only [Act.put, List.setIfInBounds_toArray, List.set_cons_zero, List.set_cons_succ]
                  refine wpAnyH_take (i := 11) (oi := ⟨some 85, _, _, _, _, _⟩) (v := ?_) rfl (by kernel_rfl) (by kernel_rfl) (by kernel_rfl) (fun _ _ _ h => h) (Or.inl ⟨by rfl, ?_⟩) hHeld ?_
                  rotate_left
                  · (intro w hSw; (try dsimp only at hSw); go_simp; (try with_reducible rfl))
                  try simp only [Act.put, List.setIfInBounds_toArray, List.set_cons_zero, List.set_cons_succ]
                  refine wpAnyH_take (i := 12) (oi := ⟨some 86, _, _, _, _, _⟩) (v := ?_) rfl (by kernel_rfl) (by kernel_rfl) (by kernel_rfl) (fun _ _ _ h => h) (Or.inl ⟨by rfl, ?_⟩) hHeld ?_
                  rotate_left
                  · (intro w hSw; (try dsimp only at hSw); go_simp; (try with_reducible rfl))
                  try simp only [Act.put, List.setIfInBounds_toArray, List.set_cons_zero, List.set_cons_succ]
                  refine wpAnyH_take (i := 13) (oi := ⟨some 87, _, _, _, _, _⟩) rfl (by kernel_rfl) (by kernel_rfl) (by kernel_rfl) (fun _ _ _ h => h) (Or.inr ⟨by rfl, rfl⟩) hHeld ?_
                  try simp only [Act.put, List.setIfInBounds_toArray, List.set_cons_zero, List.set_cons_succ]
                  refine wpAnyH_take (i := 14) (oi := ⟨some 88, _, _, _, _, _⟩) rfl (by kernel_rfl) (by kernel_rfl) (by kernel_rfl) (fun _ _ _ h => h) (Or.inr ⟨by rfl, rfl⟩) hHeld ?_
                  try simp only [Act.put, List.setIfInBounds_toArray, List.set_cons_zero, List.set_cons_succ]
                  refine wpAnyH_take (i := 15) (oi := ⟨some 89, _, _, _, _, _⟩) rfl (by kernel_rfl) (by kernel_rfl) (by kernel_rfl) (fun _ _ _ h => h) (Or.inr ⟨by rfl, rfl⟩) hHeld ?_
                  try simp only [Act.put, List.setIfInBounds_toArray, List.set_cons_zero, List.set_cons_succ]
                  refine wpAnyH_take (i := 16) (oi := ⟨some 90, _, _, _, _, _⟩) rfl (by kernel_rfl) (by kernel_rfl) (by kernel_rfl) (fun _ _ _ h => h) (Or.inr ⟨by rfl, rfl⟩) hHeld ?_
                  try simp only [Act.put, List.setIfInBounds_toArray, List.set_cons_zero, List.set_cons_succ]
                  refine wpAnyH_take (i := 17) (oi := ⟨some 91, _, _, _, _, _⟩) rfl (by kernel_rfl) (by kernel_rfl) (by kernel_rfl) (fun _ _ _ h => h) (Or.inr ⟨by rfl, rfl⟩) hHeld ?_
                  try simp only [Act.put, List.setIfInBounds_toArray, List.set_cons_zero, List.set_cons_succ]
                  refine wpAnyH_take (i := 18) (oi := ⟨some 92, _, _, _, _, _⟩) rfl (by kernel_rfl) (by kernel_rfl) (by kernel_rfl) (fun _ _ _ h => h) (Or.inr ⟨by rfl, rfl⟩) hHeld ?_
                  try simp only [Act.put, List.setIfInBounds_toArray, List.set_cons_zero, List.set_cons_succ]
                  refine wpAnyH_take (i := 19) (oi := ⟨some 93, _, _, _, _, _⟩) rfl (by kernel_rfl) (by kernel_rfl) (by kernel_rfl) (fun _ _ _ h => h) (Or.inr ⟨by rfl, rfl⟩) hHeld ?_
                  try simp only [Act.put, List.setIfInBounds_toArray, List.set_cons_zero, List.set_cons_succ]
                  refine wpAnyH_take (i := 20) (oi := ⟨some 94, _, _, _, _, _⟩) rfl (by kernel_rfl) (by kernel_rfl) (by kernel_rfl) (fun _ _ _ h => h) (Or.inr ⟨by rfl, rfl⟩) hHeld ?_
                  try simp only [Act.put, List.setIfInBounds_toArray, List.set_cons_zero, List.set_cons_succ]
                  refine wpAnyH_take (i := 21) (oi := ⟨some 95, _, _, _, _, _⟩) (v := ?_) rfl (by kernel_rfl) (by kernel_rfl) (by kernel_rfl) (fun _ _ _ h => h) (Or.inl ⟨by rfl, ?_⟩) hHeld ?_
                  rotate_left
                  · (intro w hSw; (try dsimp only at hSw); go_simp; (try with_reducible rfl))
                  try simp only [Act.put, List.setIfInBounds_toArray, List.set_cons_zero, List.set_cons_succ]
                  refine wpAnyH_take (i := 22) (oi := ⟨some 96, _, _, _, _, _⟩) (v := ?_) rfl (by kernel_rfl) (by kernel_rfl) (by kernel_rfl) (fun _ _ _ h => h) (Or.inl ⟨by rfl, ?_⟩) hHeld ?_
                  rotate_left
                  · (intro w hSw; (try dsimp only at hSw); go_simp; (try with_reducible rfl))
                  try simp only [Act.put, List.setIfInBounds_toArray, List.set_cons_zero, List.set_cons_succ]
                  refine wpAnyH_take (i := 23) (oi := ⟨some 97, _, _, _, _, _⟩) (v := ?_) rfl (by kernel_rfl) (by kernel_rfl) (by kernel_rfl) (fun _ _ _ h => h) (Or.inl ⟨by rfl, ?_⟩) hHeld ?_
                  rotate_left
                  · (intro w hSw; (try dsimp only at hSw); go_simp; (try with_reducible rfl))
                  try simp only [Act.put, List.setIfInBounds_toArray, List.set_cons_zero, List.set_cons_succ]
                  refine wpAnyH_take (i := 25) (oi := ⟨some 99, _, _, _, _, _⟩) (v := ?_) rfl (by kernel_rfl) (by kernel_rfl) (by kernel_rfl) (fun _ _ _ h => h) (Or.inl ⟨by rfl, ?_⟩) hHeld ?_
                  rotate_left
                  · (intro w hSw; (try dsimp only at hSw); go_simp; (try with_reducible rfl))
                  try simp only [Act.put, List.setIfInBounds_toArray, List.set_cons_zero, List.set_cons_succ]
                  refine wpAnyH_take (i := 26) (oi := ⟨some 100, _, _, _, _, _⟩) (v := ?_) rfl (by kernel_rfl) (by kernel_rfl) (by kernel_rfl) (fun _ _ _ h => h) (Or.inl ⟨by rfl, ?_⟩) hHeld ?_
                  rotate_left
                  · (intro w hSw; (try dsimp only at hSw); go_simp; (try with_reducible rfl))
                  try simp only [Act.put, List.setIfInBounds_toArray, List.set_cons_zero, List.set_cons_succ]
                  refine wpAnyH_ready (rs := [24]) (by kernel_rfl) (by simp) ?_
                  refine AllReadyH.cons (o := ⟨some 98, _, _, _, _, _⟩) rfl (fun K hK => ?_) (AllReadyH.nil)
                  · go_simp
                    go_at_call 22; refine (CL5.out _ (below_kept H57.out hHeld.2)).mono ?_; rintro e wb ⟨rfl, rfl⟩; have hbb := hHeld.2; dsimp only
                    go_wp2_with fail
                    refine hK.out _ _ ?_ (fun hHeld => ?_)
                    · exact Hk2.out _ (by repeat (first | with_reducible assumption | with_reducible refine below_drew0 ?_ | with_reducible exact Below.refl _ _))
                    clear hK K
                    try simp only [Act.put, List.setIfInBounds_toArray, List.set_cons_zero, List.set_cons_succ]
                    refine wpAnyH_take (i := 27) (oi := ⟨some 101, _, _, _, _, _⟩) (v := ?_) rfl (by kernel_rfl) (by kernel_rfl) (by kernel_rfl) (fun _ _ _ h => h) (Or.inl ⟨by rfl, ?_⟩) hHeld ?_
                    rotate_left
                    · (intro w hSw; (try dsimp only at hSw); go_simp; (try with_reducible rfl))
                    try simp only [Act.put, List.setIfInBounds_toArray, List.set_cons_zero, List.set_cons_succ]
                    refine wpAnyH_take (i := 28) (oi := ⟨some 102, _, _, _, _, _⟩) (v := ?_) rfl (by kernel_rfl) (by kernel_rfl) (by kernel_rfl) (fun _ _ _ h => h) (Or.inl ⟨by rfl, ?_⟩) hHeld ?_
                    rotate_left
                    · (intro w hSw; (try dsimp only at hSw); go_simp; (try with_reducible rfl))
                    try simp only [Act.put, List.setIfInBounds_toArray, List.set_cons_zero, List.set_cons_succ]
                    refine wpAnyH_done (by kernel_rfl) ?_ _
                    go_wp2_with fail
                    go_meet
                    exact ⟨rfl, hHeld.2⟩
              case rest =>
              obtain ⟨rfl, k8⟩ := hcut
              obtain ⟨w8, rfl⟩ : ∃ x, x = wc := ⟨_, rfl⟩
              have H58 := Lib.hid (below_kept H57.out k8)
              go_wp2_with fail
              go_roundw
              case rel => exact ⟨i + 1, PQ, by omega, by go_num, below_kept HK5.out H58.out, HD5.out.kept H58.out, own_below HO5.out H58.out, hPQ3, HBq⟩
              case measure => simp [intOf]; omega
        · have hbig : (300 : Int) < (nb : Int) := by omega
          go_wp2_with fail
          go_roundw
          case rel => exact ⟨i + 1, P, by omega, by go_num, hk, hD, hown, by omega, hPb⟩
          case measure => simp [intOf]; omega
      · obtain rfl : i = n0 := by omega
        obtain ⟨w5, rfl⟩ : ∃ x, x = wr := ⟨_, rfl⟩
        have hSl := sumL_length P
        have HS5 := Lib.hid (CD.out w5 P hk.out hD.out (by omega))
        have HsL : Hid ((u8s (sumL P)).length = 16) := by show _ = _; rw [u8s_length, hSl]
        have Hone := Lib.hid (row_all' (sumL P))
        have Hss : Hid (∀ W, (Op.equalIn 10000 30 (.agg (u8s (sumL P)).toArray) (.agg (u8s (sumL P)).toArray)).run Tryd.prog W = .ok true W) := fun W => by rw [eq_dig _ _ hSl hSl, decide_eq_true rfl]
        obtain ⟨A5, c5, rfl, hc5⟩ := own_slice hown.out
        have CRS : Hid (∀ W, Kept w5 W → Calls Tryd.prog 21 #[.slice A5 P.length c5] W fun e w' => e = .returned (.agg (u8s (sumL P)).toArray) ∧ Kept W w') := fun W hk => rsum_any A5 P.length c5 P hPb.out (by omega) hc5 W (((Rd.of_own hown.out).below hk).more hk.size)
        generalize u8s (sumL P) = L at *
        have Hsz : Hid ((Tryd.prog.info? 30).map (·.size) = some L.toArray.size) := by show _ = _; rw [List.size_toArray, HsL.out]; exact size16b
        have HLs : Hid (L.toArray.size = 16) := by show _ = _; rw [List.size_toArray, HsL.out]
        clear hSl
        go_upto_region 29 with (first
          | (go_at_call 20; refine HS5.out.mono ?_; rintro e w6 ⟨rfl, hk6⟩; have HK6 := Lib.hid hk6; clear hk6)
          | ((refine wpList_store_row ?c0 30 (.tmp 13) (.tmp 107) ?c1 w6.heap.size L.toArray ?c2 ?c3 _ _ (hnew _ rfl) ?c4 ?c5 ?c6 ?_); (case c0 => with_reducible rfl); (case c1 => with_reducible rfl); (case c2 => rfl); (case c3 => rfl); (case c4 => exact Hsz.out); (case c5 => exact HLs.out.symm); (case c6 => exact Hone.out)))
        have k7 : Kept w6 (World.setRow (w6.alloc (.cells z16 30)) w6.heap.size L.toArray) := below_setRow ((Below.refl _ w6).alloc (Nat.le_refl _) _) (Nat.le_refl _) _
        have m7 : (World.setRow (w6.alloc (.cells z16 30)) w6.heap.size L.toArray).heap[w6.heap.size]? = some (.cells L.toArray 30 (0, 0)) := setRow_heap _ _ _ _ _ _ (hnew _ rfl)
        have H57 := Lib.hid (below_kept HK6.out k7)
        generalize World.setRow (w6.alloc (.cells z16 30)) w6.heap.size L.toArray = w7 at *
        obtain ⟨g7, hg7⟩ : ∃ x, x = w6.heap.size := ⟨_, rfl⟩
        rw [← hg7] at m7 ⊢
        have r7 := range_row0 m7
        have l7 := heap_lt m7
        have HK0 := Lib.hid (below_kept hk.out H57.out)
        have hu := Tryd.underlying30
        have hsd : (Tryd.prog.info? 30).map (·.size) = some L.length := by rw [HsL.out]; exact size16b
        have hss := Hss.out
        have Hk2 : Hid (∀ W, Below w7.heap.size w7 W → W.rangeAt g7 0 L ∧ Below w7.heap.size w7 W) := fun W h => ⟨range_kept' h l7 r7, h⟩
        clear k7 hg7 HK6 HS5 m7 r7 l7
        refine wp_region_held_drew (S := (fun W => W.rangeAt g7 0 L ∧ Below w7.heap.size w7 W)) (by kernel_rfl) ?_ (fun hHeld => ?_)
        · exact Hk2.out _ (by repeat (first | with_reducible assumption | with_reducible refine below_drew0 ?_ | with_reducible exact Below.refl _ _))
        refine wpAnyH_take (i := 0) (oi := ⟨some 109, _, _, _, _, _⟩) (v := ?_) rfl (by kernel_rfl) (by kernel_rfl) (by kernel_rfl) (fun _ _ _ h => h) (Or.inl ⟨by rfl, ?_⟩) hHeld ?_
        rotate_left
        · (intro w hSw; (try dsimp only at hSw); go_simp; (try with_reducible rfl))
        try simp only [Act.put, List.setIfInBounds_toArray, List.set_cons_zero, List.set_cons_succ]
        refine wpAnyH_take (i := 1) (oi := ⟨some 110, _, _, _, _, _⟩) (v := ?_) rfl (by kernel_rfl) (by kernel_rfl) (by kernel_rfl) (fun _ _ _ h => h) (Or.inl ⟨by rfl, ?_⟩) hHeld ?_
        rotate_left
        · (intro w hSw; (try dsimp only at hSw); go_simp; (try with_reducible rfl))
        try simp only [Act.put, List.setIfInBounds_toArray, List.set_cons_zero, List.set_cons_succ]
        refine wpAnyH_take (i := 2) (oi := ⟨some 111, _, _, _, _, _⟩) (v := ?_) rfl (by kernel_rfl) (by kernel_rfl) (by kernel_rfl) (fun _ _ _ h => h) (Or.inl ⟨by rfl, ?_⟩) hHeld ?_
        rotate_left
        · (intro w hSw; (try dsimp only at hSw); go_simp; (try with_reducible rfl))
        try simp only [Act.put, List.setIfInBounds_toArray, List.set_cons_zero, List.set_cons_succ]
        refine wpAnyH_take (i := 3) (oi := ⟨some 112, _, _, _, _, _⟩) rfl (by kernel_rfl) (by kernel_rfl) (by kernel_rfl) (fun _ _ _ h => h) (yieldsIf_load_mid (by rfl) _ _ rfl _ _ rfl L _ (fun w hw => hw.1) hu rfl hsd) hHeld ?_
        try simp only [Act.put, List.setIfInBounds_toArray, List.set_cons_zero, List.set_cons_succ]
        refine wpAnyH_take (i := 4) (oi := ⟨some 113, _, _, _, _, _⟩) (v := ?_) rfl (by kernel_rfl) (by kernel_rfl) (by kernel_rfl) (fun _ _ _ h => h) (Or.inl ⟨by rfl, ?_⟩) hHeld ?_
        rotate_left
        · (intro w hSw; (try dsimp only at hSw); go_simp; (try with_reducible rfl))
        try simp only [Act.put, List.setIfInBounds_toArray, List.set_cons_zero, List.set_cons_succ]
        refine wpAnyH_ready (rs := [5]) (by kernel_rfl) (by simp) ?_
        refine AllReadyH.cons (o := ⟨some 114, _, _, _, _, _⟩) rfl (fun K hK => ?_) (AllReadyH.nil)
        · go_simp
          go_at_call 21; refine (CRS.out _ (below_kept H57.out hHeld.2)).mono ?_; rintro e wa ⟨rfl, ka⟩; have hba := below_kept hHeld.2 ka; dsimp only
          go_wp2_with fail
          refine hK.out _ _ ?_ (fun hHeld => ?_)
          · exact Hk2.out _ (by repeat (first | with_reducible assumption | with_reducible refine below_drew0 ?_ | with_reducible exact Below.refl _ _))
          clear hK K
          try simp only [Act.put, List.setIfInBounds_toArray, List.set_cons_zero, List.set_cons_succ]
          refine wpAnyH_take (i := 6) (oi := ⟨some 115, _, _, _, _, _⟩) (v := ?_) rfl (by kernel_rfl) (by kernel_rfl) (by kernel_rfl) (fun _ _ _ h => h) (Or.inl ⟨by rfl, ?_⟩) hHeld ?_
          rotate_left
          · (intro w hSw; (try dsimp only at hSw); go_simp; (try with_reducible rfl))
          try simp only [Act.put, List.setIfInBounds_toArray, List.set_cons_zero, List.set_cons_succ]
          refine wpAnyH_take (i := 7) (oi := ⟨some 116, _, _, _, _, _⟩) (v := ?_) rfl (by kernel_rfl) (by kernel_rfl) (by kernel_rfl) (fun _ _ _ h => h) (Or.inl ⟨by rfl, ?_⟩) hHeld ?_
          rotate_left
          · (intro w hSw; (try dsimp only at hSw); go_simp; (try with_reducible rfl))
          try simp only [Act.put, List.setIfInBounds_toArray, List.set_cons_zero, List.set_cons_succ]
          refine wpAnyH_take (i := 8) (oi := ⟨some 117, _, _, _, _, _⟩) (v := ?_) rfl (by kernel_rfl) (by kernel_rfl) (by kernel_rfl) (fun _ _ _ h => h) (Or.inl ⟨by rfl, ?_⟩) hHeld ?_
          rotate_left
          · (intro w hSw; (try dsimp only at hSw); go_simp; (try with_reducible rfl))
          try simp only [Act.put, List.setIfInBounds_toArray, List.set_cons_zero, List.set_cons_succ]
          refine wpAnyH_ready (rs := [9]) (by kernel_rfl) (by simp) ?_
          refine AllReadyH.cons (o := ⟨some 118, _, _, _, _, _⟩) rfl (fun K hK => ?_) (AllReadyH.nil)
          · go_simp
            go_at_call 14; refine (CA.out _ (below_kept HK0.out hHeld.2)).mono ?_; rintro e wd ⟨rfl, kd⟩; have hbd := below_kept hHeld.2 kd; dsimp only
            go_wp2_with fail
            refine hK.out _ _ ?_ (fun hHeld => ?_)
            · exact Hk2.out _ (by repeat (first | with_reducible assumption | with_reducible refine below_drew0 ?_ | with_reducible exact Below.refl _ _))
            clear hK K
            try simp only [Act.put, List.setIfInBounds_toArray, List.set_cons_zero, List.set_cons_succ]
            refine wpAnyH_take (i := 10) (oi := ⟨some 119, _, _, _, _, _⟩) (v := ?_) rfl (by kernel_rfl) (by kernel_rfl) (by kernel_rfl) (fun _ _ _ h => h) (Or.inl ⟨by rfl, ?_⟩) hHeld ?_
            rotate_left
            · (intro w hSw; (try dsimp only at hSw); go_simp; (try with_reducible rfl))
            try simp only [Act.put, List.setIfInBounds_toArray, List.set_cons_zero, List.set_cons_succ]
            refine wpAnyH_take (i := 11) (oi := ⟨some 4, _, _, _, _, _⟩) (v := ?_) rfl (by kernel_rfl) (by kernel_rfl) (by kernel_rfl) (fun _ _ _ h => h) (Or.inl ⟨by rfl, ?_⟩) hHeld ?_
            rotate_left
            · (intro w hSw; (try dsimp only at hSw); go_simp; (try with_reducible rfl))
            try simp only [Act.put, List.setIfInBounds_toArray, List.set_cons_zero, List.set_cons_succ]
            refine wpAnyH_done (by kernel_rfl) ?_ _
            go_wp2_with fail
            go_ret
            exact ⟨rfl, below_kept HK0.out hHeld.2⟩
  · have h60' : (60 : Int) < (n0 : Int) := by omega
    go_wp2_with (go_at_call 14; refine (CA.out _ (Below.refl _ _)).mono ?_; rintro e w1 ⟨rfl, hk⟩; have HK := Lib.hid hk; clear hk)
    go_ret
    exact ⟨rfl, HK.out⟩
end Go.Proofs.YtlgdbhebcglkoaaDoor
