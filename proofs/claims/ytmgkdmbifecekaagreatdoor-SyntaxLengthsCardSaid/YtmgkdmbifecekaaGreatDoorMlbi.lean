/-
  Package syntax: the writer writes a tree. Package syntax: Text.
-/
import Derived.Test.YtmgkdmbifecekaaGreatDoorMlbh
set_option linter.all false
set_option linter.unusedSimpArgs false
set_option linter.unusedVariables false
set_option linter.unusedSectionVars false
namespace Go.Proofs.YtmgkdmbifecekaaGreatDoor
open Go.RowKit Go.Shelf
theorem textL_append (of : Int) : ∀ (a : List Tree) (f : Bool) (c : List Tree), textL of f (a ++ c) = textL of f a ++ textL of (f && a.isEmpty) c
  | [], f, c => by
    rw [List.nil_append, List.isEmpty_nil, Bool.and_true]
    conv => rhs; arg 1; unfold textL
    rfl
  | t :: a, f, c => by
    rw [List.cons_append, textL, textL, textL_append of a false c]
    simp only [Bool.false_and, List.isEmpty_cons, Bool.and_false, List.append_assoc]
theorem textL_one (of : Int) (f : Bool) (t : Tree) : textL of f [t] = (if f = true then [] else btwS of) ++ partS of t := by
  unfold textL
  conv => lhs; arg 2; arg 2; unfold textL
  rw [List.append_nil]
  rfl
theorem textL_snoc (of : Int) (ts : List Tree) (i : Nat) (t : Tree) (h : ts[i]? = some t) : textL of true (ts.take (i + 1)) = textL of true (ts.take i) ++ ((if i = 0 then [] else btwS of) ++ partS of t) := by
  rw [List.take_add_one, h, Option.toList_some, textL_append, textL_one, Bool.true_and]
  congr 2
  have hi := (List.getElem?_eq_some_iff.1 h).1
  by_cases h0 : i = 0
  · subst h0
    simp
  · have : (ts.take i).isEmpty = false := by
      rw [List.isEmpty_eq_false_iff_exists_mem]
      exact ⟨ts[0], List.mem_iff_getElem?.2 ⟨0, by rw [List.getElem?_take, if_pos (by omega)]; exact List.getElem?_eq_getElem (by omega)⟩⟩
    rw [this, if_neg h0]
    rfl
theorem textL_le (of : Int) (ts : List Tree) (i : Nat) : (textL of true (ts.take i)).length ≤ (textL of true ts).length := by
  conv => rhs; rw [← List.take_append_drop i ts, textL_append, List.length_append]
  omega
theorem node_cells2 {w : World} {p : Addr} {n : Nat} {xs : List Value} {ts : List Tree} (hr : RdP w (some p) (n * 6) xs) (hc : NodesC w ts xs) {k : Nat} {t : Tree} (ht : ts[k]? = some t) : ∃ cs, NodeC w t cs ∧ p.block < w.heap.size ∧ ∀ j v, cs.toArray[j]? = some v → w.cell? ((p.add (k * 6)).add j) = some v := by
  have h := hc.get k _ ht
  have hl := NodeC.len h
  refine ⟨_, h, ?_, fun j v hv => ?_⟩
  · have hpos : 0 < n * 6 := by
      have h1 := hr.1.1
      rw [List.length_take, List.length_drop] at hl
      omega
    obtain ⟨ad, e9, hb, _⟩ := hr.1.2 hpos
    cases e9
    exact hb
  · have hx : ((xs.drop (k * 6)).take 6)[j]? = some v := by rw [← hv]; exact (List.getElem?_toArray ..).symm
    have hj : j < 6 := by have := (List.getElem?_eq_some_iff.1 hx).1; omega
    rw [List.getElem?_take_of_lt hj, List.getElem?_drop] at hx
    have hpos : 0 < n * 6 := by
      have := (List.getElem?_eq_some_iff.1 hx).1
      have := hr.1.1
      omega
    obtain ⟨ad, e9, _, hcell⟩ := hr.1.2 hpos
    cases e9
    rw [addr_add2]
    exact hcell _ _ hx
set_option maxRecDepth 10000 in
set_option maxHeartbeats 8000000 in
theorem wtree_any (W0 : World) (b : Nat) (k : Int) (set : List Rng) (mn mx : Int) (lz : Bool) (subs : List Tree) (hs : k = 2 → SetC set) (hq : k = 5 → (0 ≤ mn ∧ mn < 100) ∧ (mx = -1 ∨ (0 ≤ mx ∧ mx < 100))) (IH : ∀ s ∈ subs, PartC W0 b k s) : TreeC W0 b (.mk k set mn mx lz subs) := by
  intro W l cs HK HN HW hl
  have HI := Lib.hid IH
  have hN2 := HN.out
  unfold NodeC at hN2
  obtain ⟨A1, c1, A2, c2, rfl, hz, hset, ys, hys, hyc⟩ := hN2
  have hT : Hid (textT (.mk k set mn mx lz subs) = befS k set ++ (textL k true subs ++ behS k mn mx lz)) := rfl
  rw [hT.out] at hl
  rw [List.length_append, List.length_append] at hl
  have hzl := hz.2
  obtain ⟨bef, hbef⟩ : ∃ s, s = befS k set := ⟨_, rfl⟩
  obtain ⟨btw, hbtw⟩ : ∃ s, s = btwS k := ⟨_, rfl⟩
  obtain ⟨beh, hbeh⟩ : ∃ s, s = behS k mn mx lz := ⟨_, rfl⟩
  have Hbef := Lib.hid hbef
  have Hbtw := Lib.hid hbtw
  have Hbeh := Lib.hid hbeh
  rw [← hbef, ← hbeh] at hl hT
  obtain ⟨wa, hwa⟩ : ∃ x, x = W.alloc (.cells #[.int .u8 k, .slice A1 set.length c1, .int .i64 mn, .int .i64 mx, .bool lz, .slice A2 subs.length c2] 25) := ⟨_, rfl⟩
  have hka : Kept W wa := by rw [hwa]; exact (Below.refl _ W).alloc (Nat.le_refl _) _
  have HB : Hid (wa.heap[W.heap.size]? = some (.cells #[.int .u8 k, .slice A1 set.length c1, .int .i64 mn, .int .i64 mx, .bool lz, .slice A2 subs.length c2] 25 (0, 0))) := by rw [hwa]; exact heap_alloc_new W _
  have HKa := Lib.hid (below_kept HK.out hka)
  have HWa := Lib.hid (HW.out.kept hka)
  have HOa : Hid (OtK b W wa) := otk_kept hka
  have HBWa : Hid (Below W0.heap.size W wa) := hka.mono HK.out.size
  have hbW : W.heap.size ≠ b := by have := HW.out.lt; omega
  have Hset := Lib.hid (rd_kept HKa.out hset)
  have Hys := Lib.hid hys
  have Hyc := Lib.hid hyc
  obtain ⟨n, hn⟩ : ∃ n, n = subs.length := ⟨_, rfl⟩
  have Hn := Lib.hid hn
  obtain ⟨sn, hsn⟩ : ∃ n, n = set.length := ⟨_, rfl⟩
  have Hsn := Lib.hid hsn
  have Hhs := Lib.hid hs
  have Hhq := Lib.hid hq
  rw [← hn] at Hys hzl
  rw [← hn, ← hsn] at HB hwa ⊢
  clear IH hset hys hyc hz hn hsn hka HN HW hbef hbtw hbeh hs hq
  go_enter Tryz.func41, Tryz.ntmps41
  go_upto_block 0 with fail
  rw [← hwa]
  clear hwa
  go_cut [4, 5, 6] (fun v4 v5 v6 wx => v4 = .string (b8 bef) ∧ v5 = .string (b8 btw) ∧ v6 = .string (b8 beh) ∧ Hid (Kept wa wx))
  case first =>
    clear HI Hys Hyc HWa HOa HBWa hl hT
    have q2 : (k == 2) = decide (k = 2) := by rw [Bool.eq_iff_iff, beq_iff_eq, decide_eq_true_eq]
    have q4 : (k == 4) = decide (k = 4) := by rw [Bool.eq_iff_iff, beq_iff_eq, decide_eq_true_eq]
    have q5 : (k == 5) = decide (k = 5) := by rw [Bool.eq_iff_iff, beq_iff_eq, decide_eq_true_eq]
    have q6 : (k == 6) = decide (k = 6) := by rw [Bool.eq_iff_iff, beq_iff_eq, decide_eq_true_eq]
    have c0 := row_cells HB.out 0 _ rfl
    have c1' := row_cells HB.out 1 _ rfl
    rw [add0] at c0 c1'
    by_cases k2 : k = 2
    · have CS : Hid (Calls Tryz.prog 63 #[.slice A1 sn c1] wa fun e w' => e = .returned (.string (b8 (setS set))) ∧ Kept wa w') := by rw [Hsn.out]; exact Hhs.out k2 A1 c1 wa Hset.out
      have e4 : Hid (bef = setS set ∧ btw = [] ∧ beh = []) := ⟨by rw [Hbef.out, k2]; rfl, by rw [Hbtw.out, k2]; rfl, by rw [Hbeh.out, k2]; rfl⟩
      rw [decide_eq_true k2] at q2
      clear q4 q5 q6 k2 Hset Hhs Hhq Hbef Hbtw Hbeh
      go_wp2_with fail
      refine CS.out.mono ?_
      rintro e w2 ⟨rfl, hk2⟩
      go_wp2_with fail
      go_meet
      exact ⟨by rw [e4.out.1], by rw [e4.out.2.1], by rw [e4.out.2.2], Lib.hid hk2⟩
    · rw [decide_eq_false k2] at q2
      by_cases k4 : k = 4
      · have e4 : Hid (bef = [] ∧ btw = [124] ∧ beh = []) := ⟨by rw [Hbef.out, k4]; rfl, by rw [Hbtw.out, k4]; rfl, by rw [Hbeh.out, k4]; rfl⟩
        rw [decide_eq_true k4] at q4
        clear q5 q6 k2 k4 Hset Hhs Hhq Hbef Hbtw Hbeh
        go_wp2_with fail
        go_meet
        exact ⟨by rw [e4.out.1], by rw [e4.out.2.1], by rw [e4.out.2.2], Lib.hid (Below.refl _ _)⟩
      · rw [decide_eq_false k4] at q4
        by_cases k5 : k = 5
        · obtain ⟨ha, hb⟩ := Hhq.out k5
          have CQ := Lib.hid (quat_any k mn mx A1 A2 sn c1 n c2 lz ha hb wa)
          unfold ndV at CQ
          have e4 : Hid (bef = [] ∧ btw = [] ∧ beh = quaS mn mx lz) := ⟨by rw [Hbef.out, k5]; rfl, by rw [Hbtw.out, k5]; rfl, by rw [Hbeh.out, k5]; rfl⟩
          rw [decide_eq_true k5] at q5
          clear q6 k2 k4 k5 Hset Hhs Hhq Hbef Hbtw Hbeh
          go_wp2_with ((refine wpList_load_row ?c0 25 (.tmp 3) ?c1 W.heap.size ?c2 25 #[.int .u8 k, .slice A1 sn c1, .int .i64 mn, .int .i64 mx, .bool lz, .slice A2 n c2] (0, 0) _ HB.out Tryz.underlying25 ?c3 sizeNd ?_); (case c0 => with_reducible rfl); (case c1 => with_reducible rfl); (case c2 => rfl); (case c3 => rfl))
          refine CQ.out.mono ?_
          rintro e w2 ⟨rfl, hk2⟩
          go_wp2_with fail
          go_meet
          exact ⟨by rw [e4.out.1], by rw [e4.out.2.1], by rw [e4.out.2.2], Lib.hid hk2⟩
        · rw [decide_eq_false k5] at q5
          by_cases k6 : k = 6
          · have e4 : Hid (bef = [40] ∧ btw = [] ∧ beh = [41]) := ⟨by rw [Hbef.out, k6]; rfl, by rw [Hbtw.out, k6]; rfl, by rw [Hbeh.out, k6]; rfl⟩
            rw [decide_eq_true k6] at q6
            clear k2 k4 k5 k6 Hset Hhs Hhq Hbef Hbtw Hbeh
            go_wp2_with fail
            go_meet
            exact ⟨by rw [e4.out.1], by rw [e4.out.2.1], by rw [e4.out.2.2], Lib.hid (Below.refl _ _)⟩
          · rw [decide_eq_false k6] at q6
            have e4 : Hid (bef = [] ∧ btw = [] ∧ beh = []) := ⟨by rw [Hbef.out]; unfold befS; rw [if_neg k2, if_neg k6], by rw [Hbtw.out]; unfold btwS; rw [if_neg k4], by rw [Hbeh.out]; unfold behS; rw [if_neg k5, if_neg k6]⟩
            clear k2 k4 k5 k6 Hset Hhs Hhq Hbef Hbtw Hbeh
            go_wp2_with fail
            go_meet
            exact ⟨by rw [e4.out.1], by rw [e4.out.2.1], by rw [e4.out.2.2], Lib.hid (Below.refl _ _)⟩
  case rest =>
    obtain ⟨rfl, rfl, rfl, hkc⟩ := hcut
    have HBc := Lib.hid (heap_kept hkc.out HB.out)
    have HWc := Lib.hid (HWa.out.kept hkc.out)
    have HOc := Lib.hid (HOa.out.trans (otk_kept (b := b) hkc.out))
    have HBWc : Hid (Below W0.heap.size W wc) := HBWa.trans (hkc.out.mono HKa.out.size)
    have hsz : W0.heap.size ≤ wc.heap.size := Nat.le_trans HKa.out.size hkc.out.size
    clear hkc HB HWa HOa HBWa HKa Hset Hhs Hhq Hsn Hbef Hbeh
    go_wp2_with fail
    refine (wws_any _ bldWr _ _ l bef wc HWc.out (by omega) hsz).mono ?_
    rintro e w1 ⟨rfl, hw1, hb1, ho1⟩
    have HB1 := Lib.hid (otk_node ho1 hbW HBc.out)
    have HW1 := Lib.hid hw1
    have HO1 := Lib.hid (HOc.out.trans ho1)
    have HBW1 := Lib.hid (HBWc.out.trans hb1)
    clear hw1 hb1 ho1 HBc HWc HOc HBWc hsz
    have e5 := row_cells HB1.out 5 _ rfl
    rw [add0] at e5
    go_wp2_with fail
    clear e5
    go_loopw [7, 8, 32] (fun _ _ v32 wr => ∃ i : Nat, i ≤ n ∧ v32 = .int .i64 i ∧ Hid (Below W0.heap.size W wr) ∧ Hid (OtK b W wr) ∧ Hid (IsWr 90 W0.heap.size b (l ++ (bef ++ textL k true (subs.take i))) wr) ∧ Hid (wr.heap[W.heap.size]? = some (.cells #[.int .u8 k, .slice A1 sn c1, .int .i64 mn, .int .i64 mx, .bool lz, .slice A2 n c2] 25 (0, 0)))) (fun _ _ v32 _ => n - (intOf v32).toNat)
    case atStart => exact ⟨0, Nat.zero_le _, rfl, HBW1, HO1, by rw [List.take_zero]; unfold textL; rw [List.append_nil]; exact HW1, HB1⟩
    case round =>
      obtain ⟨i, hi, rfl, HBWr, HOr, HWr, HBr⟩ := hrel
      by_cases hin : i < n
      · obtain ⟨t, ht⟩ : ∃ t, subs[i]? = some t := ⟨_, List.getElem?_eq_getElem (by rw [← Hn.out]; exact hin)⟩
        have HP := Lib.hid (HI.out t (List.mem_of_getElem? ht))
        obtain ⟨ad, rfl, _⟩ := Hys.out.1.2 (by omega)
        have hKr : Kept W0 wr := HK.out.trans HBWr.out
        obtain ⟨cs, hnt, hadb, hcell⟩ := node_cells2 Hys.out Hyc.out ht
        have hcell2 : ∀ j v, cs.toArray[j]? = some v → wr.cell? ((ad.add (i * 6)).add j) = some v := fun j v hv => (Below.cell hKr (by rw [addBlock, addBlock]; exact hadb)).trans (hcell j v hv)
        have hsn := textL_snoc k subs i t ht
        have hle := textL_le k subs (i + 1)
        rw [hsn] at hle
        obtain ⟨acc, hacc⟩ : ∃ s, s = l ++ (bef ++ textL k true (subs.take i)) := ⟨_, rfl⟩
        have hnx : Hid (l ++ (bef ++ textL k true (subs.take (i + 1))) = acc ++ ((if i = 0 then [] else btwS k) ++ partS k t)) := by show _ = _; rw [hsn, hacc]; simp only [List.append_assoc]
        have hal : acc.length + ((if i = 0 then [] else btwS k).length + (partS k t).length) ≤ 1024 := by
          rw [hacc, List.length_append, List.length_append]
          rw [List.length_append, List.length_append] at hle
          omega
        rw [← hacc] at HWr
        obtain ⟨kd, st, m1, m2, l2, sb⟩ := t
        have hnt2 := hnt
        unfold NodeC at hnt2
        obtain ⟨B1, d1, B2, d2, rfl, _⟩ := hnt2
        have HNT := Lib.hid hnt
        have HCL := Lib.hid hcell2
        obtain ⟨tt, htt⟩ : ∃ t, t = Tree.mk kd st m1 m2 l2 sb := ⟨_, rfl⟩
        rw [← htt] at HNT HP hnx hal
        obtain ⟨s2, hs2⟩ : ∃ n, n = st.length := ⟨_, rfl⟩
        obtain ⟨u2, hu2⟩ : ∃ n, n = sb.length := ⟨_, rfl⟩
        rw [← hs2, ← hu2] at HNT HCL
        obtain ⟨wp, hwp⟩ : ∃ x, x = wr.alloc (.cells #[.int .u8 kd, .slice B1 s2 d1, .int .i64 m1, .int .i64 m2, .bool l2, .slice B2 u2 d2] 25) := ⟨_, rfl⟩
        have hkp : Kept wr wp := by rw [hwp]; exact (Below.refl _ wr).alloc (Nat.le_refl _) _
        have HBp : Hid (wp.heap[wr.heap.size]? = some (.cells #[.int .u8 kd, .slice B1 s2 d1, .int .i64 m1, .int .i64 m2, .bool l2, .slice B2 u2 d2] 25 (0, 0))) := by rw [hwp]; exact heap_alloc_new wr _
        have HBq := Lib.hid (heap_kept hkp HBr.out)
        have HWp := Lib.hid (HWr.out.kept hkp)
        have HOp := Lib.hid (HOr.out.trans (otk_kept (b := b) hkp))
        have HBWp : Hid (Below W0.heap.size W wp) := HBWr.out.trans (hkp.mono hKr.size)
        have hpb : wr.heap.size ≠ b := by have := HWr.out.lt; omega
        obtain ⟨pb, hpbe⟩ : ∃ p, p = wr.heap.size := ⟨_, rfl⟩
        have hii : (i : Int) < (n : Int) := by omega
        have hac : ¬ (1024 : Int) < (acc.length : Int) := by omega
        have HAL := Lib.hid hal
        have HPE := Lib.hid hpbe
        rw [← hpbe] at HBp hpb
        clear hcell hcell2 hnt hsn hle hacc ht htt hs2 hu2 hKr hkp hadb hal HBWr HOr HWr HBr
        go_upto_region 15 with (refine wpList_load_at rfl 25 (.tmp 35) rfl (ad.add (i * 6)) rfl #[.int .u8 kd, .slice B1 s2 d1, .int .i64 m1, .int .i64 m2, .bool l2, .slice B2 u2 d2] _ HCL.out Tryz.underlying25 rfl sizeNd ?_)
        rw [← hwp, ← hpbe]
        clear hwp hpbe
        go_wp2_with fail
        refine (wln_any _ _ _ _ _ HWp.out).mono ?_
        rintro e w3 ⟨rfl, rfl⟩
        have HKp : Hid (Kept W0 w3) := HK.out.trans HBWp.out
        rw [← Hbtw.out] at hnx HAL
        by_cases h0 : i = 0
        · have h0i : ¬ (0 : Int) < (i : Int) := by omega
          have hal := HAL.out
          rw [if_pos h0] at hnx hal
          rw [List.nil_append] at hnx
          rw [List.length_nil, Nat.zero_add] at hal
          clear HAL h0
          have e0 := row_cells HBq.out 0 _ rfl
          rw [add0] at e0
          go_wp2_with ((refine wpList_load_row ?c0 25 (.tmp 8) ?c1 pb ?c2 25 #[.int .u8 kd, .slice B1 s2 d1, .int .i64 m1, .int .i64 m2, .bool l2, .slice B2 u2 d2] (0, 0) _ HBp.out Tryz.underlying25 ?c3 sizeNd ?_); (case c0 => with_reducible rfl); (case c1 => with_reducible rfl); (case c2 => rfl); (case c3 => rfl))
          refine (HP.out _ _ _ HKp HNT HWp (by exact hal)).mono ?_
          rintro e w5 hp
          unfold WPost at hp
          obtain ⟨rfl, hw5, hb5, ho5⟩ := hp
          have HB5 := Lib.hid (otk_node ho5 hbW HBq.out)
          have HW5 := Lib.hid hw5
          have HBW5 : Hid (Below W0.heap.size W w5) := HBWp.out.trans hb5
          have HO5 := Lib.hid (HOp.out.trans ho5)
          clear hw5 hb5 ho5 e0 HBq HBp HWp HBWp HOp HKp
          go_wp2_with fail
          go_roundw
          case rel =>
            refine ⟨i + 1, by omega, by go_num, HBW5, HO5, ?_, HB5⟩
            rw [hnx.out]
            exact HW5
          case measure => simp [intOf]; omega
        · have h0i : (0 : Int) < (i : Int) := by omega
          have hal := HAL.out
          rw [if_neg h0] at hnx hal
          replace hnx : Hid (l ++ (bef ++ textL k true (subs.take (i + 1))) = (acc ++ btw) ++ partS k tt) := hnx.out.trans (List.append_assoc _ _ _).symm
          clear HAL h0
          go_wp2_with fail
          refine (wws_any _ bldWr _ _ _ btw _ HWp.out (by omega) HKp.out.size).mono ?_
          rintro e w4 ⟨rfl, hw4, hb4, ho4⟩
          have HBq4 := Lib.hid (otk_node ho4 hbW HBq.out)
          have HBp4 := Lib.hid (otk_node ho4 hpb HBp.out)
          have HWp4 := Lib.hid hw4
          have HBWp4 : Hid (Below W0.heap.size W w4) := HBWp.out.trans hb4
          have HOp4 := Lib.hid (HOp.out.trans ho4)
          have HKp4 : Hid (Kept W0 w4) := HK.out.trans HBWp4.out
          clear hw4 hb4 ho4 HBq HBp HWp HBWp HOp HKp
          have e0 := row_cells HBq4.out 0 _ rfl
          rw [add0] at e0
          go_wp2_with ((refine wpList_load_row ?c0 25 (.tmp 8) ?c1 pb ?c2 25 #[.int .u8 kd, .slice B1 s2 d1, .int .i64 m1, .int .i64 m2, .bool l2, .slice B2 u2 d2] (0, 0) _ HBp4.out Tryz.underlying25 ?c3 sizeNd ?_); (case c0 => with_reducible rfl); (case c1 => with_reducible rfl); (case c2 => rfl); (case c3 => rfl))
          refine (HP.out _ _ _ HKp4 HNT HWp4 (by rw [List.length_append]; omega)).mono ?_
          rintro e w5 hp
          unfold WPost at hp
          obtain ⟨rfl, hw5, hb5, ho5⟩ := hp
          have HB5 := Lib.hid (otk_node ho5 hbW HBq4.out)
          have HW5 := Lib.hid hw5
          have HBW5 : Hid (Below W0.heap.size W w5) := HBWp4.out.trans hb5
          have HO5 := Lib.hid (HOp4.out.trans ho5)
          clear hw5 hb5 ho5 e0 HBq4 HBp4 HWp4 HBWp4 HOp4 HKp4
          go_wp2_with fail
          go_roundw
          case rel =>
            refine ⟨i + 1, by omega, by go_num, HBW5, HO5, ?_, HB5⟩
            rw [hnx.out]
            exact HW5
          case measure => simp [intOf]; omega
      · obtain rfl : i = n := by omega
        have hall : subs.take i = subs := by rw [Hn.out]; exact List.take_length
        rw [hall] at HWr
        have hKr : Kept W0 wr := HK.out.trans HBWr.out
        obtain ⟨tx, htx⟩ : ∃ s, s = textL k true subs := ⟨_, rfl⟩
        rw [← htx] at HWr hl hT
        clear htx hall
        go_wp2_with fail
        refine (wws_any _ bldWr _ _ _ beh _ HWr.out (by simp only [List.length_append]; omega) hKr.size).mono ?_
        rintro e w4 ⟨rfl, hw4, hb4, ho4⟩
        go_wp2_with fail
        go_end0
        unfold WPost
        refine ⟨rfl, ?_, HBWr.out.trans hb4, HOr.out.trans ho4⟩
        rw [hT.out]
        simp only [List.append_assoc] at hw4 ⊢
        exact hw4
end Go.Proofs.YtmgkdmbifecekaaGreatDoor
namespace Go.Proofs.YtmgkdmbifecekaaGreatDoor
open Go.RowKit Go.Shelf
mutual
/-- A tree whose text is told here. -/
def TxtOk : Tree → Prop
  | .mk k set mn mx _ subs => (k = 2 → SetC set) ∧ (k = 5 → (0 ≤ mn ∧ mn < 100) ∧ (mx = -1 ∨ (0 ≤ mx ∧ mx < 100))) ∧ TxtsOk subs
def TxtsOk : List Tree → Prop
  | [] => True
  | t :: ts => TxtOk t ∧ TxtsOk ts
end
mutual
theorem treeC_all (W0 : World) (b : Nat) : ∀ t : Tree, TxtOk t → TreeC W0 b t
  | .mk k set mn mx lz subs, h => by
    unfold TxtOk at h
    exact wtree_any W0 b k set mn mx lz subs h.1 h.2.1 (partC_all W0 b k subs h.2.2)
theorem partC_all (W0 : World) (b : Nat) (of : Int) : ∀ ts : List Tree, TxtsOk ts → ∀ s ∈ ts, PartC W0 b of s
  | [], _ => fun s hs => absurd hs (by simp)
  | .mk k set mn mx lz subs :: ts, h => by
    unfold TxtsOk at h
    have h1 := treeC_all W0 b (.mk k set mn mx lz subs) h.1
    have h2 := partC_all W0 b of ts h.2
    intro s hs
    rcases List.mem_cons.1 hs with rfl | hs
    · exact wpart_any W0 b of _ _ _ _ _ _ h1
    · exact h2 s hs
end
section
variable (t : Tree) (v : Value) (w : World) (hv : NodeV w t v) (hr : rgtT t = true) (hd : (factsT t).depth ≤ 1000000) (hx : TxtOk t) (hl : (textT t).length ≤ 1024) (hne : textT t ≠ [])
include hv hr hd hx hl hne
set_option maxRecDepth 10000 in
set_option maxHeartbeats 4000000 in
theorem text_any : Calls Tryz.prog 18 #[v] w fun e w' => e = .returned (.tuple #[.string (b8 (textT t)), .int .i64 0]) ∧ Kept w w' := by
  obtain ⟨k, set, mn, mx, lz, subs⟩ := t
  obtain ⟨A1, c1, A2, c2, rfl, hc⟩ := hv.nd
  obtain ⟨sn, hsn⟩ : ∃ n, n = set.length := ⟨_, rfl⟩
  obtain ⟨un, hun⟩ : ∃ n, n = subs.length := ⟨_, rfl⟩
  have HNE := Lib.hid hne
  rw [← hsn, ← hun] at hc ⊢
  have hka : Kept w (w.alloc (.cells #[.int .u8 k, .slice A1 sn c1, .int .i64 mn, .int .i64 mx, .bool lz, .slice A2 un c2] 25)) := (Below.refl _ w).alloc (Nat.le_refl _) _
  have CR := Lib.hid (right_any (.mk k set mn mx lz subs) (ndV k A1 sn c1 mn mx lz A2 un c2) (w.alloc (.cells #[.int .u8 k, .slice A1 sn c1, .int .i64 mn, .int .i64 mx, .bool lz, .slice A2 un c2] 25)) (NodeV.kept hka ⟨_, rfl, hc⟩) hd)
  rw [hr] at CR
  unfold ndV at CR ⊢
  have HB : Hid ((w.alloc (.cells #[.int .u8 k, .slice A1 sn c1, .int .i64 mn, .int .i64 mx, .bool lz, .slice A2 un c2] 25)).heap[w.heap.size]? = some (.cells #[.int .u8 k, .slice A1 sn c1, .int .i64 mn, .int .i64 mx, .bool lz, .slice A2 un c2] 25 (0, 0))) := heap_alloc_new w _
  have HX := Lib.hid hx
  obtain ⟨t, ht⟩ : ∃ t, t = Tree.mk k set mn mx lz subs := ⟨_, rfl⟩
  rw [← ht] at hc HX hl HNE ⊢
  have HC := Lib.hid hc
  have HKa := Lib.hid hka
  have htl : ¬ (1024 : Int) < ((textT t).length : Int) := by omega
  clear hv hr hd hx hne hsn hun ht hc hka
  go_enter Tryz.func18, Tryz.ntmps18
  go_wp2_with fail
  refine CR.out.mono ?_
  rintro e w1 ⟨rfl, hk1⟩
  have HB1 := Lib.hid (heap_kept hk1 HB.out)
  have HK1 := Lib.hid (below_kept HKa.out hk1)
  have HN1 := Lib.hid (NodeC.kept (below_kept HKa.out hk1) _ _ HC.out)
  clear hk1 HB CR HKa HC
  have HWn := Lib.hid (isWr_new 90 w1.heap.size w1 (Nat.le_refl _))
  have HKn : Hid (Kept w1 (w1.alloc (.cells #[.pointer none, .slice none 0 0] 90))) := (Below.refl _ w1).alloc (Nat.le_refl _) _
  have HBn := Lib.hid (heap_kept HKn.out HB1.out)
  have CT := Lib.hid (treeC_all w1 w1.heap.size t HX.out _ [] _ HKn HN1 HWn (by simpa using hl))
  rw [List.nil_append] at CT
  go_wp2_with ((refine wpList_load_row ?c0 25 (.tmp 1) ?c1 w.heap.size ?c2 25 #[.int .u8 k, .slice A1 sn c1, .int .i64 mn, .int .i64 mx, .bool lz, .slice A2 un c2] (0, 0) _ HBn.out Tryz.underlying25 ?c3 sizeNd ?_); (case c0 => with_reducible rfl); (case c1 => with_reducible rfl); (case c2 => rfl); (case c3 => rfl))
  refine CT.out.mono ?_
  rintro e w2 hp
  unfold WPost at hp
  obtain ⟨rfl, hw2, hb2, ho2⟩ := hp
  have HW2 := Lib.hid hw2
  have HK2 : Hid (Kept w1 w2) := HKn.out.trans hb2
  obtain ⟨s, hs⟩ : ∃ s, s = textT t := ⟨_, rfl⟩
  have HS := Lib.hid hs
  rw [← hs] at HW2 htl HNE
  clear hw2 hb2 ho2 CT HWn HKn HBn HB1 hs hl
  go_wp2_with fail
  refine (wln_any _ _ _ _ _ HW2.out).mono ?_
  rintro e w3 ⟨rfl, rfl⟩
  go_wp2_with fail
  refine (wst_any _ _ _ _ _ HW2.out HNE.out).mono ?_
  rintro e w4 ⟨rfl, hb4⟩
  go_wp2_with fail
  go_ret2
  rw [← HS.out]
  exact ⟨rfl, below_kept HK1.out (HK2.out.trans hb4)⟩
end
end Go.Proofs.YtmgkdmbifecekaaGreatDoor
