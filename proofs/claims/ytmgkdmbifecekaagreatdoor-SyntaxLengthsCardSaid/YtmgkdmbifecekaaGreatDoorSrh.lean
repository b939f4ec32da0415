/-
 Package syntax: what the laws make.
-/
import Derived.Test.YtmgkdmbifecekaaGreatDoorMlbb
import Derived.Test.YtmgkdmbifecekaaGreatDoorSrn
set_option linter.all false
set_option linter.unusedSimpArgs false
set_option linter.unusedVariables false
set_option linter.unusedSectionVars false
namespace Go.Proofs.YtmgkdmbifecekaaGreatDoor
open Go.RowKit Go.Shelf
def smV (x : Int × Int × Int) : List Value := [.int .u8 x.1, .int .u8 x.2.1, .int .u8 x.2.2]
def smalls (L : List (Int × Int × Int)) : List Value := L.flatMap smV
theorem smalls_cell : ∀ (L : List (Int × Int × Int)) (k : Nat) (x : Int × Int × Int), L[k]? = some x → ∀ j v, (smV x)[j]? = some v → (smalls L)[k * 3 + j]? = some v
 | [], k, x, h => by simp at h
 | y :: L, 0, x, h => by
  intro j v hj
  simp at h
  subst h
  unfold smalls
  rw [List.flatMap_cons, Nat.zero_mul, Nat.zero_add, List.getElem?_append_left]
  ·exact hj
  ·exact (List.getElem?_eq_some_iff.1 hj).1
 | y :: L, k + 1, x, h => by
  intro j v hj
  have := smalls_cell L k x (by simpa using h) j v hj
  unfold smalls at this ⊢
  rw [List.flatMap_cons, List.getElem?_append_right (by simp [smV]; omega)]
  rw [← this]
  congr 1
  simp [smV]
  omega
def SmOk (x : Int × Int × Int) : Prop := (0 ≤ x.1 ∧ x.1 ≤ 255) ∧ (0 ≤ x.2.1 ∧ x.2.1 ≤ 255) ∧ 0 ≤ x.2.2 ∧ x.2.2 ≤ 255
theorem sizeSm : (Tryz.prog.info? 83).map (·.size) = some 3 := by kernel_rfl
theorem eT_nodeC (w : World) : NodeC w eT [.int .u8 1, .slice none 0 0, .int .i64 0, .int .i64 0, .bool false, .slice none 0 0] := by
 unfold NodeC
 exact ⟨none, 0, none, 0, rfl, ⟨by simp, by simp⟩, Rd.nil, [], ⟨Rd.nil, fun h => absurd h (by simp)⟩, by unfold NodesC; rfl⟩
section
variable (L : List (Int × Int × Int)) (A : Option Addr) (c : Nat) (hc : L.length ≤ c) (hS : ∀ x ∈ L, SmOk x) (W : World) (hr : Rd W W.heap.size A (L.length * 3) (smalls L))
include hc hS hr
set_option maxRecDepth 10000 in
set_option maxHeartbeats 40000000 in
theorem made_any : Calls Tryz.prog 17 #[.slice A L.length c] W fun e w' => ∃ v, e = .returned v ∧ NodeM W.heap.size w' (madeT L) v ∧ Kept W w' := by
 obtain ⟨wa, hwa⟩ : ∃ x, x = W.alloc (.cells #[.int .u8 0, .slice none 0 0, .int .i64 0, .int .i64 0, .bool false, .slice none 0 0] 25) := ⟨_, rfl⟩
 have HK : Hid (Kept W wa) := by rw [hwa]; exact (Below.refl _ W).alloc (Nat.le_refl _) _
 have HZ : Hid (wa.heap[W.heap.size]? = some (.cells #[.int .u8 0, .slice none 0 0, .int .i64 0, .int .i64 0, .bool false, .slice none 0 0] 25 (0, 0))) := by
  show _ = _
  rw [hwa]
  exact heap_alloc_new W _
 have HS := Lib.hid hS
 have HR := Lib.hid hr
 have hsa : wa.heap.size = W.heap.size + 1 := by rw [hwa]; simp
 obtain ⟨i0, hi0, hz0, hz1, hz2⟩ := info_parts infoNd
 obtain ⟨n, hn⟩ : ∃ n, n = min L.length 20 := ⟨_, rfl⟩
 have e1 : (min ((L.length : Int)) 20).toNat = n := by omega
 have e2 : max (min ((L.length : Int)) 20) 0 = (n : Int) := by omega
 have hnL : n ≤ L.length := by omega
 have hn20 : n ≤ 20 := by omega
 have HT : Hid (madeT L = madeE (madeP (L.take n))) := by
  show _ = _
  unfold madeT
  congr 2
  rw [hn]
  rcases Nat.le_total L.length 20 with h | h
  ·rw [Nat.min_eq_left h, List.take_of_length_le h, List.take_of_length_le (Nat.le_refl _)]
  ·rw [Nat.min_eq_right h]
 clear hS hr hn
 go_enter Tryz.func17, Tryz.ntmps17
 go_wp2_with fail
 rw [← hwa]
 clear hwa e1 e2
 go_loopw [3, 17] (fun v3 v17 wr => ∃ (k : Nat) (xs : List Value), k ≤ n ∧ v17 = .int .i64 k ∧ Hid (Below (W.heap.size + 1) wa wr) ∧ Hid (PartsI (W.heap.size + 1) wr v3 (madeP (L.take k)) xs)) (fun _ v17 _ => n - (intOf v17).toNat)
 case atStart => exact ⟨0, [], Nat.zero_le _, rfl, Below.refl _ _, PartsI.nil⟩
 case round =>
  obtain ⟨k, xs, hkn, rfl, HB, Hp0⟩ := hrel
  by_cases hk : k < n
  ·obtain ⟨x, hx⟩ : ∃ x, L[k]? = some x := ⟨_, List.getElem?_eq_getElem (by omega)⟩
   have hxm := HS.out x (List.mem_of_getElem? hx)
   obtain ⟨kd, a, b⟩ := x
   obtain ⟨hx1, hx2, hx3⟩ := hxm
   dsimp only at hx1 hx2 hx3
   have Hsp : Hid (madeP (L.take (k + 1)) = stepM (madeP (L.take k)) (kd, a, b)) := by
    show _ = _
    rw [List.take_add_one, hx]
    unfold madeP
    rw [List.foldl_append]
    rfl
   obtain ⟨ad, rfl, hadl, hcell⟩ := HR.out.2 (by omega)
   have hrl := HB.out.size
   have Hcl : Hid (∀ j v, (#[.int .u8 kd, .int .u8 a, .int .u8 b] : Array Value)[j]? = some v → wr.cell? ((ad.add (k * 3)).add j) = some v) := by
    intro j v hj
    have h1 := hcell (k * 3 + j) v (smalls_cell L k _ hx j v (by rw [← hj]; exact (List.getElem?_toArray ..).symm))
    rw [Addr.add_add]
    rw [(HK.out.trans (HB.out.mono (by omega))).cell (by rw [addBlock]; exact hadl)]
    exact h1
   have hml : (madeP (L.take k)).length ≤ 20 := by
    have h1 : (madeP (L.take k)).length ≤ 0 + (L.take k).length := (madeP_g (L.take k) [] 0 ⟨by simp, by decide, by simp⟩).l
    rw [List.length_take] at h1
    omega
   obtain ⟨p, hpx⟩ : ∃ p, madeP (L.take k) = p := ⟨_, rfl⟩
   rw [hpx] at Hp0 hml
   obtain ⟨A3, c3, rfl, _, _⟩ := Hp0.out.row
   have Hp := Lib.hid Hp0.out
   have Hlt := Lib.hid (fun j e => Hp0.out.o.lt j e)
   have hBw : W.heap.size + 1 ≤ wr.heap.size := by omega
   clear Hp0 hcell hx
   by_cases h0 : kd % 10 = 0
   ·have Hst : Hid (madeP (L.take (k + 1)) = p ++ [eT]) := by show _ = _; rw [Hsp.out, hpx]; unfold stepM; rw [if_pos h0]
    clear Hsp
    go_wp2_with (first | ((refine wpList_load_at ?c0 83 (.tmp 19) ?c1 (ad.add (k * 3)) ?c2 #[.int .u8 kd, .int .u8 a, .int .u8 b] _ ?c4 Tryz.underlying83 ?c3 sizeSm ?_); (case c0 => with_reducible rfl); (case c1 => with_reducible rfl); (case c2 => rfl); (case c3 => rfl); (case c4 => exact Hcl.out)) | (at_builtin; (refine wpList_append_own_at _ rfl _ _ 23 rfl (W.heap.size + 1) 25 i0 _ 6 80 Tryz.underlying23 hi0 hz0 hz1 hz2 rfl (by decide) (Value.slice A3 p.length c3) p.length xs rfl ((Hp.out.o.alloc _).alloc _) ⟨wr.heap.size + 1, 0, none⟩ 1 1 [.int .u8 1, .slice none 0 0, .int .i64 0, .int .i64 0, .bool false, .slice none 0 0] rfl rfl (cells_new2 wr _ [.int .u8 1, .slice none 0 0, .int .i64 0, .int .i64 0, .bool false, .slice none 0 0] 25) (by intro u hu; simp at hu; rcases hu with rfl | rfl | rfl | rfl | rfl | rfl <;> rfl) (by unfold maxLen; omega) (by omega) (by simp; omega) ?_); intro v5 w5 hown5 hg5 hn5 hl5; have Hown5 := Lib.hid hown5; have HG5 : Hid (World.grownBy _ w5 (Value.slice A3 p.length c3).ownBlock) := hg5; have Hl5 : Hid (v5.ownBlock = (Value.slice A3 p.length c3).ownBlock ∨ _) := hl5; clear hown5 hg5 hn5 hl5))
    have hq := PartsI.step (B := W.heap.size + 1) (Bt := wr.heap.size) (cs := [.int .u8 1, .slice none 0 0, .int .i64 0, .int .i64 0, .bool false, .slice none 0 0]) (t := eT) _ _ Hp.out hBw (Nat.le_refl _) Hlt.out (eT_nodeC _) Hown5.out HG5.out Hl5.out
    obtain ⟨P5, B5'⟩ := hq
    have B5 := HB.out.trans B5'
    go_roundw
    case rel =>
     rw [← Hst.out] at P5
     exact ⟨k + 1, _, by omega, by go_num, Lib.hid B5, Lib.hid P5⟩
    case measure => simp [intOf]; omega
   ·by_cases h1 : kd % 10 < 5 ∨ p.length = 0
    ·have Hst : Hid (madeP (L.take (k + 1)) = p ++ [.mk 2 (leafT a b) 0 0 false []]) := by show _ = _; rw [Hsp.out, hpx]; unfold stepM; rw [if_neg h0, if_pos h1]
     have HLf := Lib.hid (fun W => mleaf_any a b hx2 hx3 W)
     have hdec : (decide (kd % 10 < 5) || decide ((p.length : Int) - 1 < 0)) = true := by
      rw [Bool.or_eq_true, decide_eq_true_eq, decide_eq_true_eq]
      omega
     clear Hsp
     rcases (by omega : kd % 10 < 5 ∨ (¬ kd % 10 < 5 ∧ (p.length : Int) - 1 < 0)) with h2 | ⟨h2, h3⟩
     all_goals
      go_wp2_with ((refine wpList_load_at ?c0 83 (.tmp 19) ?c1 (ad.add (k * 3)) ?c2 #[.int .u8 kd, .int .u8 a, .int .u8 b] _ ?c4 Tryz.underlying83 ?c3 sizeSm ?_); (case c0 => with_reducible rfl); (case c1 => with_reducible rfl); (case c2 => rfl); (case c3 => rfl); (case c4 => exact Hcl.out))
      refine (HLf.out _).mono ?_
      rintro e w2 ⟨v, rfl, hn2, hk2⟩
      have HK2 := Lib.hid (below_kept ((Below.refl _ wr).alloc (Nat.le_refl _) _) hk2)
      have Hp2 := Lib.hid (Hp.out.kept HK2.out)
      obtain ⟨A1, c1, A2, c2, rfl, hnc⟩ := NodeV.nd hn2
      have Hn2 := Lib.hid hn2
      have hw2 := hk2.size
      rw [World.size_alloc] at hw2
      obtain ⟨sn, hsn⟩ : ∃ sn, sn = (leafT a b).length := ⟨_, rfl⟩
      rw [← hsn] at Hn2 ⊢
      clear hn2 hk2 hnc hsn
      unfold ndV at Hn2 ⊢
      dsimp only [List.length_nil] at Hn2 ⊢
      go_wp2_with (first | (at_builtin; (refine wpList_append_own_at _ rfl _ _ 23 rfl (W.heap.size + 1) 25 i0 _ 6 80 Tryz.underlying23 hi0 hz0 hz1 hz2 rfl (by decide) (Value.slice A3 p.length c3) p.length xs rfl (Hp2.out.o.alloc _) ⟨w2.heap.size, 0, none⟩ 1 1 [.int .u8 2, .slice A1 sn c1, .int .i64 0, .int .i64 0, .bool false, .slice A2 0 c2] rfl rfl (cells_new w2 [.int .u8 2, .slice A1 sn c1, .int .i64 0, .int .i64 0, .bool false, .slice A2 0 c2] 25) (by intro u hu; simp at hu; rcases hu with rfl | rfl | rfl | rfl | rfl | rfl <;> rfl) (by unfold maxLen; omega) (by omega) (by simp; omega) ?_); intro v5 w5 hown5 hg5 hn5 hl5; have Hown5 := Lib.hid hown5; have HG5 : Hid (World.grownBy _ w5 (Value.slice A3 p.length c3).ownBlock) := hg5; have Hl5 : Hid (v5.ownBlock = (Value.slice A3 p.length c3).ownBlock ∨ _) := hl5; clear hown5 hg5 hn5 hl5))
      obtain ⟨cs, hcs, hncs⟩ := Hn2.out
      have hcs2 : cs = [.int .u8 2, .slice A1 sn c1, .int .i64 0, .int .i64 0, .bool false, .slice A2 0 c2] := by
       have := congrArg (fun v => match v with | Value.agg a => a.toList | _ => []) hcs
       simpa using this.symm
      subst hcs2
      have hq := PartsI.step1 (B := W.heap.size + 1) _ Hp2.out (by simp; omega) (by simp; omega) (fun j e => ⟨(Hlt.out j e).1, by have := (Hlt.out j e).2; simp; omega⟩) hncs Hown5.out HG5.out Hl5.out
      obtain ⟨P5, B5'⟩ := hq
      have B5 := HB.out.trans ((HK2.out.mono hBw).trans B5')
      go_roundw
      case rel =>
       rw [← Hst.out] at P5
       exact ⟨k + 1, _, by omega, by go_num, Lib.hid B5, Lib.hid P5⟩
      case measure => simp [intOf]; omega
    ·by_cases h5 : kd % 10 = 5
     ·obtain ⟨q, t, rfl⟩ := snoc_of (p := p) (by omega)
      obtain ⟨g, c9, ys, cs, hv, rfl, hly, hlc, hra, hth, hnt, hBg, hgl⟩ := Hp.out.last
      simp only [Value.slice.injEq, List.length_append, List.length_cons, List.length_nil, Nat.zero_add, true_and] at hv
      obtain ⟨rfl, rfl⟩ := hv
      obtain ⟨kt, st, mt, xt, zt, ut⟩ := t
      have hnt2 := hnt
      unfold NodeC at hnt2
      obtain ⟨A1, c1, A2, c2, rfl, _⟩ := hnt2
      have HRA := Lib.hid hra
      have HTH := Lib.hid hth
      have HNT := Lib.hid hnt
      have hw1 : Kept wr (wr.alloc (.cells #[.int .u8 kd, .int .u8 a, .int .u8 b] 83)) := (Below.refl _ wr).alloc (Nat.le_refl _) _
      have HRA1 := Lib.hid (range_kept hw1 hgl hra)
      have HTH1 := Lib.hid (there_kept hw1 hgl hth)
      have hlen : (q ++ [Tree.mk kt st mt xt zt ut]).length = q.length + 1 := by rw [List.length_append]; rfl
      clear hra hth hnt hw1 hly hlc
      have Hst : Hid (madeP (L.take (k + 1)) = q ++ [.mk 6 [] 0 0 false [.mk kt st mt xt zt ut]]) := by show _ = _; rw [Hsp.out, hpx]; unfold stepM; rw [if_neg h0, if_neg h1, if_pos h5, last_snoc, List.dropLast_concat]
      clear Hsp
      rw [hlen] at hml h1 ⊢
      have HKB : Hid (Kept wr ((wr.alloc (.cells #[.int .u8 kd, .int .u8 a, .int .u8 b] 83)).alloc (.cells #[.int .u8 kt, .slice A1 st.length c1, .int .i64 mt, .int .i64 xt, .bool zt, .slice A2 ut.length c2] 25))) := ((Below.refl _ wr).alloc (Nat.le_refl _) _).alloc (by simp) _
      have HTHB := Lib.hid (there_kept HKB.out hgl HTH.out)
      have HpB : Hid (PartsI (W.heap.size + 1) ((wr.alloc (.cells #[.int .u8 kd, .int .u8 a, .int .u8 b] 83)).alloc (.cells #[.int .u8 kt, .slice A1 st.length c1, .int .i64 mt, .int .i64 xt, .bool zt, .slice A2 ut.length c2] 25)) (.slice (some ⟨g, 0, none⟩) (q.length + 1) c3) (q ++ [.mk kt st mt xt zt ut]) (ys ++ [.int .u8 kt, .slice A1 st.length c1, .int .i64 mt, .int .i64 xt, .bool zt, .slice A2 ut.length c2])) := by
       have := Hp.out.kept HKB.out
       rwa [hlen] at this
      have HbB : Hid (((wr.alloc (.cells #[.int .u8 kd, .int .u8 a, .int .u8 b] 83)).alloc (.cells #[.int .u8 kt, .slice A1 st.length c1, .int .i64 mt, .int .i64 xt, .bool zt, .slice A2 ut.length c2] 25)).heap[wr.heap.size + 1]? = some (.cells ([.int .u8 kt, .slice A1 st.length c1, .int .i64 mt, .int .i64 xt, .bool zt, .slice A2 ut.length c2] : List Value).toArray 25 (0, 0))) := by
       show _ = _
       have := heap_alloc_new (wr.alloc (.cells #[.int .u8 kd, .int .u8 a, .int .u8 b] 83)) (.cells #[.int .u8 kt, .slice A1 st.length c1, .int .i64 mt, .int .i64 xt, .bool zt, .slice A2 ut.length c2] 25)
       rw [World.size_alloc] at this
       exact this
      have hneB : g ≠ wr.heap.size + 1 := by omega
      have hleB : W.heap.size + 1 ≤ wr.heap.size + 1 := by omega
      have HatB := Lib.hid ((hide_at (B := W.heap.size + 1) (w := ((wr.alloc (.cells #[.int .u8 kd, .int .u8 a, .int .u8 b] 83)).alloc (.cells #[.int .u8 kt, .slice A1 st.length c1, .int .i64 mt, .int .i64 xt, .bool zt, .slice A2 ut.length c2] 25))) hleB hneB).trans HbB.out)
      clear hneB hleB
      go_wp2_with (first | ((refine wpList_load_at ?c0 83 (.tmp 19) ?c1 (ad.add (k * 3)) ?c2 #[.int .u8 kd, .int .u8 a, .int .u8 b] _ ?c4 Tryz.underlying83 ?c3 sizeSm ?_); (case c0 => with_reducible rfl); (case c1 => with_reducible rfl); (case c2 => rfl); (case c3 => rfl); (case c4 => exact Hcl.out)) | ((refine wpList_load_mid ?c0 25 (.tmp 79) ?c1 g (q.length * 6) ?c2 [.int .u8 kt, .slice A1 st.length c1, .int .i64 mt, .int .i64 xt, .bool zt, .slice A2 ut.length c2] _ ?c4 Tryz.underlying25 ?c3 sizeNd ?_); (case c0 => with_reducible rfl); (case c1 => with_reducible rfl); (case c2 => rfl); (case c3 => rfl); (case c4 => exact HRA1.out)) | ((refine wpList_store_mid ?c0 25 (.tmp 83) (.tmp 82) ?c1 g (q.length * 6) #[.int .u8 6, .slice none 0 0, .int .i64 0, .int .i64 0, .bool false, .slice (some ⟨wr.heap.size + 1, 0, none⟩) 1 1] ?c2 ?c3 ?c5 sizeNd ?c4 ?_); (case c0 => with_reducible rfl); (case c1 => with_reducible rfl); (case c2 => rfl); (case c3 => rfl); (case c4 => simp [Value.oneCell']); (case c5 => exact HTHB.out)))
      have hnd := node_one (c := 1) (kd := 6) (mn := 0) (mx := 0) (lz := false) (hide_sub HKB.out HNT.out) HatB.out
      have P5 := PartsI.put HpB.out (cs := [.int .u8 6, .slice none 0 0, .int .i64 0, .int .i64 0, .bool false, .slice (some ⟨wr.heap.size + 1, 0, none⟩) 1 1]) rfl hnd
      have B5 := HB.out.trans (Below.grown (HKB.out.mono hBw) (grown_setCells g [.int .u8 6, .slice none 0 0, .int .i64 0, .int .i64 0, .bool false, .slice (some ⟨wr.heap.size + 1, 0, none⟩) 1 1] (q.length * 6) _) (by simp; omega) (fun k e => by cases e; exact hBg))
      go_roundw
      case rel =>
       rw [← Hst.out] at P5
       exact ⟨k + 1, _, by omega, by go_num, Lib.hid B5, Lib.hid P5⟩
      case measure => simp [intOf]; omega
     ·by_cases hk8 : kd % 10 < 8 ∨ p.length < 2
      ·obtain ⟨q, t, rfl⟩ := snoc_of (p := p) (by omega)
       obtain ⟨g, c9, ys, cs, hv, rfl, hly, hlc, hra, hth, hnt, hBg, hgl⟩ := Hp.out.last
       simp only [Value.slice.injEq, List.length_append, List.length_cons, List.length_nil, Nat.zero_add, true_and] at hv
       obtain ⟨rfl, rfl⟩ := hv
       obtain ⟨kt, st, mt, xt, zt, ut⟩ := t
       have hnt2 := hnt
       unfold NodeC at hnt2
       obtain ⟨A1, c1, A2, c2, rfl, _⟩ := hnt2
       have HRA := Lib.hid hra
       have HTH := Lib.hid hth
       have HNT := Lib.hid hnt
       have hw1 : Kept wr (wr.alloc (.cells #[.int .u8 kd, .int .u8 a, .int .u8 b] 83)) := (Below.refl _ wr).alloc (Nat.le_refl _) _
       have HRA1 := Lib.hid (range_kept hw1 hgl hra)
       have HTH1 := Lib.hid (there_kept hw1 hgl hth)
       have hlen : (q ++ [Tree.mk kt st mt xt zt ut]).length = q.length + 1 := by rw [List.length_append]; rfl
       clear hra hth hnt hw1 hly hlc
       have Hst : Hid (madeP (L.take (k + 1)) = q ++ [repN (.mk kt st mt xt zt ut) a b]) := by show _ = _; rw [Hsp.out, hpx]; unfold stepM; rw [if_neg h0, if_neg h1, if_neg h5, if_pos hk8, last_snoc, List.dropLast_concat]
       clear Hsp
       have hpl : kd % 10 < 8 ∨ (q.length + 1 : Nat) < 2 := by rw [← hlen]; exact hk8
       rw [hlen] at hml h1 ⊢
       have hdec : (decide (kd % 10 < 8) || decide ((q.length : Int) < 1)) = true := by
        rw [Bool.or_eq_true, decide_eq_true_eq, decide_eq_true_eq]
        omega
       clear hk8
       rcases (by omega : kd % 10 < 8 ∨ (¬ kd % 10 < 8 ∧ q.length < 1)) with h8 | ⟨h8, h9⟩
       ·go_upto_region 17 with ((refine wpList_load_at ?c0 83 (.tmp 19) ?c1 (ad.add (k * 3)) ?c2 #[.int .u8 kd, .int .u8 a, .int .u8 b] _ ?c4 Tryz.underlying83 ?c3 sizeSm ?_); (case c0 => with_reducible rfl); (case c1 => with_reducible rfl); (case c2 => rfl); (case c3 => rfl); (case c4 => exact Hcl.out))
        have Hx : Hid ((wr.alloc (.cells #[.int .u8 kd, .int .u8 a, .int .u8 b] 83)).heap[wr.heap.size]? = some (.cells #[.int .u8 kd, .int .u8 a, .int .u8 b] 83 (0, 0))) := heap_alloc_new wr _
        have HKb : Hid (Kept wr (wr.alloc (.cells #[.int .u8 kd, .int .u8 a, .int .u8 b] 83))) := (Below.refl _ wr).alloc (Nat.le_refl _) _
        have hwz : W.heap.size + 1 ≤ (wr.alloc (.cells #[.int .u8 kd, .int .u8 a, .int .u8 b] 83)).heap.size := Nat.le_trans hBw HKb.out.size
        obtain ⟨wb, hwb⟩ : ∃ x, x = (wr.alloc (.cells #[.int .u8 kd, .int .u8 a, .int .u8 b] 83)) := ⟨_, rfl⟩
        have hgb : g < wb.heap.size := by rw [hwb]; simp; omega
        have hrb : wr.heap.size < wb.heap.size := by rw [hwb]; simp
        rw [← hwb] at Hx HKb HRA1 HTH1 hwz ⊢
        clear hwb
        have HS : Hid (∀ W, Below wb.heap.size wb W → (W.cell? ⟨wr.heap.size, 1, none⟩ = some (.int .u8 a) ∧ W.cell? ⟨wr.heap.size, 2, none⟩ = some (.int .u8 b)) ∧ W.rangeAt g (q.length * 6) [.int .u8 kt, .slice A1 st.length c1, .int .i64 mt, .int .i64 xt, .bool zt, .slice A2 ut.length c2] ∧ Below wb.heap.size wb W) := by
         intro W hW
         have h1 := heap_kept hW Hx.out
         exact ⟨⟨(row_cells h1 1 _ rfl), (row_cells h1 2 _ rfl)⟩, range_kept hW hgb HRA1.out, hW⟩
        go_cut [8, 50, 57, 72, 84] (fun v8 _ _ _ _ wx => ∃ bx rw0, v8 = .pointer (some ⟨bx, 0, none⟩) ∧ wb.heap.size ≤ bx ∧ wb.heap.size ≤ rw0 ∧ bx ≠ rw0 ∧ Hid (Below wb.heap.size wb wx) ∧ Hid (wx.heap[bx]? = some (.cells #[.int .u8 5, .slice none 0 0, .int .i64 (a % 4), .int .i64 (0), .bool (decide (b % 2 = 1)), .slice (some ⟨rw0, 0, none⟩) 1 1] 25 (0, 0))) ∧ Hid (wx.heap[rw0]? = some (.cells #[.int .u8 kt, .slice A1 st.length c1, .int .i64 mt, .int .i64 xt, .bool zt, .slice A2 ut.length c2] 25 (0, 0))))
        case first =>
         clear HR Hcl HB HK HZ HT Hst HNT HRA HTH HTH1 HKb Hp Hlt HRA1
         refine wp_region_held_drew (S := fun W => (W.cell? ⟨wr.heap.size, 1, none⟩ = some (.int .u8 a) ∧ W.cell? ⟨wr.heap.size, 2, none⟩ = some (.int .u8 b)) ∧ W.rangeAt g (q.length * 6) [.int .u8 kt, .slice A1 st.length c1, .int .i64 mt, .int .i64 xt, .bool zt, .slice A2 ut.length c2] ∧ Below wb.heap.size wb W) (by kernel_rfl) (HS.out _ (below_drew0 (Below.refl _ _))) (fun hHeld => ?_)
         obtain ⟨wc, hwc⟩ : ∃ x, x = wb.drew := ⟨_, rfl⟩
         rw [← hwc] at hHeld ⊢
         have hwcs : wc.heap.size = wb.heap.size := by rw [hwc]; rfl
         have HKc := Lib.hid hHeld.2.2
         have e1 : IntKind.i64.wrap (a.tmod 4) = a % 4 := by rw [Int.tmod_eq_emod_of_nonneg hx2.1]; rw [IntKind.wrap_i64]; omega
         have e2 : (b.tmod 2 == 1) = decide (b % 2 = 1) := by rw [Int.tmod_eq_emod_of_nonneg hx3.1]; rfl
         clear hwc
         refine tkC 0 (oi := ⟨some 91, _, _, _, _, _⟩) (v := ?_) rfl (by kernel_rfl) (fun _ _ _ h => h) (by rfl) ?_ hHeld ?_
         rotate_left
         ·(intro w hSw; obtain ⟨⟨hc1, hc2⟩, hra, hkk⟩ := hSw; refine .inl ?_; go_simp; (try with_reducible rfl))
         try simp only [pU1, pU2, pU3, pU4]
         refine tkC 1 (oi := ⟨some 92, _, _, _, _, _⟩) (v := ?_) rfl (by kernel_rfl) (fun _ _ _ h => h) (by rfl) ?_ hHeld ?_
         rotate_left
         ·(intro w hSw; obtain ⟨⟨hc1, hc2⟩, hra, hkk⟩ := hSw; refine .inl ?_; go_simp; (try with_reducible rfl))
         try simp only [pU1, pU2, pU3, pU4]
         refine tkC 2 (oi := ⟨some 93, _, _, _, _, _⟩) (v := ?_) rfl (by kernel_rfl) (fun _ _ _ h => h) (by rfl) ?_ hHeld ?_
         rotate_left
         ·(intro w hSw; obtain ⟨⟨hc1, hc2⟩, hra, hkk⟩ := hSw; refine .inl ?_; go_simp; (try with_reducible rfl))
         try simp only [pU1, pU2, pU3, pU4]
         refine tkC 3 (oi := ⟨some 94, _, _, _, _, _⟩) (v := ?_) rfl (by kernel_rfl) (fun _ _ _ h => h) (by rfl) ?_ hHeld ?_
         rotate_left
         ·(intro w hSw; obtain ⟨⟨hc1, hc2⟩, hra, hkk⟩ := hSw; refine .inl ?_; go_simp; (try with_reducible rfl))
         try simp only [pU1, pU2, pU3, pU4]
         refine tkC 4 (oi := ⟨some 95, _, _, _, _, _⟩) (v := ?_) rfl (by kernel_rfl) (fun _ _ _ h => h) (by rfl) ?_ hHeld ?_
         rotate_left
         ·(intro w hSw; obtain ⟨⟨hc1, hc2⟩, hra, hkk⟩ := hSw; refine .inl ?_; go_simp; (try with_reducible rfl))
         try simp only [pU1, pU2, pU3, pU4]
         refine tkC 5 (oi := ⟨some 96, _, _, _, _, _⟩) (v := ?_) rfl (by kernel_rfl) (fun _ _ _ h => h) (by rfl) ?_ hHeld ?_
         rotate_left
         ·(intro w hSw; obtain ⟨⟨hc1, hc2⟩, hra, hkk⟩ := hSw; refine .inl ?_; go_simp; (try with_reducible rfl))
         try simp only [pU1, pU2, pU3, pU4]
         refine tkC 6 (oi := ⟨some 97, _, _, _, _, _⟩) (v := ?_) rfl (by kernel_rfl) (fun _ _ _ h => h) (by rfl) ?_ hHeld ?_
         rotate_left
         ·(intro w hSw; obtain ⟨⟨hc1, hc2⟩, hra, hkk⟩ := hSw; refine .inl ?_; go_simp; (try with_reducible rfl))
         try simp only [pU1, pU2, pU3, pU4]
         refine tkC 7 (oi := ⟨some 98, _, _, _, _, _⟩) (v := ?_) rfl (by kernel_rfl) (fun _ _ _ h => h) (by rfl) ?_ hHeld ?_
         rotate_left
         ·(intro w hSw; obtain ⟨⟨hc1, hc2⟩, hra, hkk⟩ := hSw; refine .inl ?_; go_simp; (try with_reducible rfl))
         try simp only [pU1, pU2, pU3, pU4]
         refine tkC 8 (oi := ⟨some 99, _, _, _, _, _⟩) (v := ?_) rfl (by kernel_rfl) (fun _ _ _ h => h) (by rfl) ?_ hHeld ?_
         rotate_left
         ·(intro w hSw; obtain ⟨⟨hc1, hc2⟩, hra, hkk⟩ := hSw; refine .inl ?_; go_simp; (try with_reducible rfl))
         try simp only [pU1, pU2, pU3, pU4]
         refine tkC 9 (oi := ⟨some 100, _, _, _, _, _⟩) (v := ?_) rfl (by kernel_rfl) (fun _ _ _ h => h) (by rfl) ?_ hHeld ?_
         rotate_left
         ·(intro w hSw; obtain ⟨⟨hc1, hc2⟩, hra, hkk⟩ := hSw; refine .inl ?_; go_simp; (try with_reducible rfl))
         try simp only [pU1, pU2, pU3, pU4]
         refine tkC 10 (oi := ⟨some 101, _, _, _, _, _⟩) (v := ?_) rfl (by kernel_rfl) (fun _ _ _ h => h) (by rfl) ?_ hHeld ?_
         rotate_left
         ·(intro w hSw; obtain ⟨⟨hc1, hc2⟩, hra, hkk⟩ := hSw; refine .inl ?_; go_simp; rw [if_pos (by omega)]; (try with_reducible rfl))
         try simp only [pU1, pU2, pU3, pU4]
         refine wpAnyH_takeC (i := 11) (oi := ⟨some 102, _, _, _, _, _⟩) rfl (by kernel_rfl) (by kernel_rfl) (by kernel_rfl) (fun _ _ _ h => h) (yieldsC_of_if ((yieldsIf_load_mid (by rfl) 25 _ rfl g (q.length * 6) rfl [.int .u8 kt, .slice A1 st.length c1, .int .i64 mt, .int .i64 xt, .bool zt, .slice A2 ut.length c2] _ (fun w hw => hw.2.1) Tryz.underlying25 rfl sizeNd))) hHeld ?_
         try simp only [pU1, pU2, pU3, pU4]
         refine wpAnyH_ready (rs := [12, 14]) (by kernel_rfl) (by simp) ?_
         refine AllReadyH.cons (o := ⟨some 103, _, _, _, _, _⟩) rfl (fun K hK => ?_) (AllReadyH.cons (o := ⟨some 8, _, _, _, _, _⟩) rfl (fun K hK => ?_) (AllReadyH.nil))
         ·
          go_simp
          refine hK.out _ _ (HS.out _ (below_alloc0 hHeld.2.2 _)) (fun hHeld2 => ?_)
          replace hHeld := hHeld2
          clear hHeld2
          clear hK
          try simp only [pU1, pU2, pU3, pU4]
          refine tkC 13 (oi := ⟨some 104, _, _, _, _, _⟩) (v := ?_) rfl (by kernel_rfl) (fun _ _ _ h => h) (by rfl) ?_ hHeld ?_
          rotate_left
          ·(intro w hSw; obtain ⟨⟨hc1, hc2⟩, hra, hkk⟩ := hSw; refine .inl ?_; go_simp; (try with_reducible rfl))
          try simp only [pU1, pU2, pU3, pU4]
          refine wpAnyH_ready (rs := [14]) (by kernel_rfl) (by simp) ?_
          refine AllReadyH.cons (o := ⟨some 8, _, _, _, _, _⟩) rfl (fun K hK => ?_) (AllReadyH.nil)
          go_simp
          refine hK.out _ _ (HS.out _ (below_alloc0 hHeld.2.2 _)) (fun hHeld2 => ?_)
          replace hHeld := hHeld2
          clear hHeld2
          clear hK
          try simp only [pU1, pU2, pU3, pU4]
          refine wpAnyH_ready (rs := [15]) (by kernel_rfl) (by simp) ?_
          refine AllReadyH.cons (o := ⟨none, _, _, _, _, _⟩) rfl (fun K hK => ?_) (AllReadyH.nil)
          have HZ9 : Hid (((wc.alloc (.cells #[.int .u8 kt, .slice A1 st.length c1, .int .i64 mt, .int .i64 xt, .bool zt, .slice A2 ut.length c2] 25)).alloc (.cells #[.int .u8 0, .slice none 0 0, .int .i64 0, .int .i64 0, .bool false, .slice none 0 0] 25)).heap[(wc.heap.size + 1)]? = some (.cells #[.int .u8 0, .slice none 0 0, .int .i64 0, .int .i64 0, .bool false, .slice none 0 0] 25 (0, 0))) := (al_new _ _ (by simp))
          have HR9 : Hid (((wc.alloc (.cells #[.int .u8 kt, .slice A1 st.length c1, .int .i64 mt, .int .i64 xt, .bool zt, .slice A2 ut.length c2] 25)).alloc (.cells #[.int .u8 0, .slice none 0 0, .int .i64 0, .int .i64 0, .bool false, .slice none 0 0] 25)).heap[wc.heap.size]? = some (.cells #[.int .u8 kt, .slice A1 st.length c1, .int .i64 mt, .int .i64 xt, .bool zt, .slice A2 ut.length c2] 25 (0, 0))) := ((Below.heap_alloc _ _ _ (by simp)).trans (heap_alloc_new wc _))
          have HK9 := Lib.hid hHeld.2.2
          have z0 := row_cells HZ9.out 0 _ rfl
          have z1 := row_cells HZ9.out 1 _ rfl
          have z2 := row_cells HZ9.out 2 _ rfl
          have z3 := row_cells HZ9.out 3 _ rfl
          have z4 := row_cells HZ9.out 4 _ rfl
          have z5 := row_cells HZ9.out 5 _ rfl
          rw [add0] at z0 z1 z2 z3 z4 z5
          have zf : ∀ j, ((wc.alloc (.cells #[.int .u8 kt, .slice A1 st.length c1, .int .i64 mt, .int .i64 xt, .bool zt, .slice A2 ut.length c2] 25)).alloc (.cells #[.int .u8 0, .slice none 0 0, .int .i64 0, .int .i64 0, .bool false, .slice none 0 0] 25)).frozen? ⟨(wc.heap.size + 1), j, none⟩ = false := fun j => Lib.frozen_of_heap HZ9.out j
          go_simp
          refine hK.out _ _ (HS.out _ (below_alloc0 (below_alloc0 HKc.out _) _)) (fun hHeld2 => ?_)
          replace hHeld := hHeld2
          clear hHeld2 z0 z1 z2 z3 z4 z5 zf HZ9 HR9 HK9
          clear hK
          try simp only [pU1, pU2, pU3, pU4]
          refine wpAnyH_done (by kernel_rfl) ?_ _
          go_wp2_with fail
          go_meet
          have hkk := Lib.hid hHeld.2.2
          clear hHeld
          first
           | exact ⟨wb.heap.size + 1, wb.heap.size, rfl, Nat.le_succ _, Nat.le_refl _, Nat.succ_ne_self _, hkk, Lib.hid (by show _ = _; rw [← e1, ← e2, ← hwcs]; exact al_new _ _ (by simp)), Lib.hid (by show _ = _; rw [← hwcs]; exact (Below.heap_alloc _ _ _ (by simp)).trans (heap_alloc_new wc _))⟩
           | exact ⟨wb.heap.size, wb.heap.size + 1, rfl, Nat.le_refl _, Nat.le_succ _, (Nat.succ_ne_self _).symm, hkk, Lib.hid (by show _ = _; rw [← e1, ← e2, ← hwcs]; exact (Below.heap_alloc _ _ _ (by simp)).trans (heap_alloc_new wc _)), Lib.hid (by show _ = _; rw [← hwcs]; exact al_new _ _ (by simp))⟩
         ·
          go_simp
          refine hK.out _ _ (HS.out _ (below_alloc0 hHeld.2.2 _)) (fun hHeld2 => ?_)
          replace hHeld := hHeld2
          clear hHeld2
          clear hK
          try simp only [pU1, pU2, pU3, pU4]
          refine wpAnyH_ready (rs := [12]) (by kernel_rfl) (by simp) ?_
          refine AllReadyH.cons (o := ⟨some 103, _, _, _, _, _⟩) rfl (fun K hK => ?_) (AllReadyH.nil)
          go_simp
          refine hK.out _ _ (HS.out _ (below_alloc0 hHeld.2.2 _)) (fun hHeld2 => ?_)
          replace hHeld := hHeld2
          clear hHeld2
          clear hK
          try simp only [pU1, pU2, pU3, pU4]
          refine tkC 13 (oi := ⟨some 104, _, _, _, _, _⟩) (v := ?_) rfl (by kernel_rfl) (fun _ _ _ h => h) (by rfl) ?_ hHeld ?_
          rotate_left
          ·(intro w hSw; obtain ⟨⟨hc1, hc2⟩, hra, hkk⟩ := hSw; refine .inl ?_; go_simp; (try with_reducible rfl))
          try simp only [pU1, pU2, pU3, pU4]
          refine wpAnyH_ready (rs := [15]) (by kernel_rfl) (by simp) ?_
          refine AllReadyH.cons (o := ⟨none, _, _, _, _, _⟩) rfl (fun K hK => ?_) (AllReadyH.nil)
          have HZ9 : Hid (((wc.alloc (.cells #[.int .u8 0, .slice none 0 0, .int .i64 0, .int .i64 0, .bool false, .slice none 0 0] 25)).alloc (.cells #[.int .u8 kt, .slice A1 st.length c1, .int .i64 mt, .int .i64 xt, .bool zt, .slice A2 ut.length c2] 25)).heap[wc.heap.size]? = some (.cells #[.int .u8 0, .slice none 0 0, .int .i64 0, .int .i64 0, .bool false, .slice none 0 0] 25 (0, 0))) := ((Below.heap_alloc _ _ _ (by simp)).trans (heap_alloc_new wc _))
          have HR9 : Hid (((wc.alloc (.cells #[.int .u8 0, .slice none 0 0, .int .i64 0, .int .i64 0, .bool false, .slice none 0 0] 25)).alloc (.cells #[.int .u8 kt, .slice A1 st.length c1, .int .i64 mt, .int .i64 xt, .bool zt, .slice A2 ut.length c2] 25)).heap[(wc.heap.size + 1)]? = some (.cells #[.int .u8 kt, .slice A1 st.length c1, .int .i64 mt, .int .i64 xt, .bool zt, .slice A2 ut.length c2] 25 (0, 0))) := (al_new _ _ (by simp))
          have HK9 := Lib.hid hHeld.2.2
          have z0 := row_cells HZ9.out 0 _ rfl
          have z1 := row_cells HZ9.out 1 _ rfl
          have z2 := row_cells HZ9.out 2 _ rfl
          have z3 := row_cells HZ9.out 3 _ rfl
          have z4 := row_cells HZ9.out 4 _ rfl
          have z5 := row_cells HZ9.out 5 _ rfl
          rw [add0] at z0 z1 z2 z3 z4 z5
          have zf : ∀ j, ((wc.alloc (.cells #[.int .u8 0, .slice none 0 0, .int .i64 0, .int .i64 0, .bool false, .slice none 0 0] 25)).alloc (.cells #[.int .u8 kt, .slice A1 st.length c1, .int .i64 mt, .int .i64 xt, .bool zt, .slice A2 ut.length c2] 25)).frozen? ⟨wc.heap.size, j, none⟩ = false := fun j => Lib.frozen_of_heap HZ9.out j
          go_simp
          refine hK.out _ _ (HS.out _ (below_alloc0 (below_alloc0 HKc.out _) _)) (fun hHeld2 => ?_)
          replace hHeld := hHeld2
          clear hHeld2 z0 z1 z2 z3 z4 z5 zf HZ9 HR9 HK9
          clear hK
          try simp only [pU1, pU2, pU3, pU4]
          refine wpAnyH_done (by kernel_rfl) ?_ _
          go_wp2_with fail
          go_meet
          have hkk := Lib.hid hHeld.2.2
          clear hHeld
          first
           | exact ⟨wb.heap.size + 1, wb.heap.size, rfl, Nat.le_succ _, Nat.le_refl _, Nat.succ_ne_self _, hkk, Lib.hid (by show _ = _; rw [← e1, ← e2, ← hwcs]; exact al_new _ _ (by simp)), Lib.hid (by show _ = _; rw [← hwcs]; exact (Below.heap_alloc _ _ _ (by simp)).trans (heap_alloc_new wc _))⟩
           | exact ⟨wb.heap.size, wb.heap.size + 1, rfl, Nat.le_refl _, Nat.le_succ _, (Nat.succ_ne_self _).symm, hkk, Lib.hid (by show _ = _; rw [← e1, ← e2, ← hwcs]; exact (Below.heap_alloc _ _ _ (by simp)).trans (heap_alloc_new wc _)), Lib.hid (by show _ = _; rw [← hwcs]; exact al_new _ _ (by simp))⟩
        case rest =>
         obtain ⟨bx, rw0, rfl, hbx, hrw, hbr, HKx, HBx, HRw⟩ := hcut
         have hx8 := heap_kept HKx.out Hx.out
         have c2 := row_cells hx8 2 _ rfl
         have z2 := row_cells HBx.out 2 _ rfl
         have z3 := row_cells HBx.out 3 _ rfl
         rw [add0] at c2 z2 z3
         have zf : ∀ j, wc.frozen? ⟨bx, j, none⟩ = false := fun j => Lib.frozen_of_heap HBx.out j
         clear hx8
         go_upto_region 19 with fail
         clear c2 z2 z3 zf
         have HBxy : Hid ((wc.setCell ⟨bx, 3, none⟩ (.int .i64 (a % 4 + b / 2 % 3))).heap[bx]? = some (.cells #[.int .u8 5, .slice none 0 0, .int .i64 (a % 4), .int .i64 (a % 4 + b / 2 % 3), .bool (decide (b % 2 = 1)), .slice (some ⟨rw0, 0, none⟩) 1 1] 25 (0, 0))) := heap_setCell_same wc bx 3 _ _ _ HBx.out
         have HKxy : Hid (Below wb.heap.size wb (wc.setCell ⟨bx, 3, none⟩ (.int .i64 (a % 4 + b / 2 % 3)))) := HKx.out.setCell (p := ⟨bx, 3, none⟩) hbx _
         have HRwy : Hid ((wc.setCell ⟨bx, 3, none⟩ (.int .i64 (a % 4 + b / 2 % 3))).heap[rw0]? = some (.cells #[.int .u8 kt, .slice A1 st.length c1, .int .i64 mt, .int .i64 xt, .bool zt, .slice A2 ut.length c2] 25 (0, 0))) := (heap_setCell_other wc ⟨bx, 3, none⟩ rw0 _ (Ne.symm hbr)).trans HRw.out
         obtain ⟨wy, hwy⟩ : ∃ x, x = (wc.setCell ⟨bx, 3, none⟩ (.int .i64 (a % 4 + b / 2 % 3))) := ⟨_, rfl⟩
         rw [← hwy] at HBxy HKxy HRwy ⊢
         clear hwy HBx HKx HRw
         by_cases h55 : b % 5 = 0
         ·have hx8 := heap_kept HKxy.out Hx.out
          have c2 := row_cells hx8 2 _ rfl
          have z2 := row_cells HBxy.out 2 _ rfl
          have z3 := row_cells HBxy.out 3 _ rfl
          rw [add0] at c2 z2 z3
          have zf : ∀ j, wy.frozen? ⟨bx, j, none⟩ = false := fun j => Lib.frozen_of_heap HBxy.out j
          clear hx8
          go_upto_region 21 with fail
          clear c2 z2 z3 zf
          have HBxz : Hid ((wy.setCell ⟨bx, 3, none⟩ (.int .i64 (-1))).heap[bx]? = some (.cells #[.int .u8 5, .slice none 0 0, .int .i64 (a % 4), .int .i64 (-1), .bool (decide (b % 2 = 1)), .slice (some ⟨rw0, 0, none⟩) 1 1] 25 (0, 0))) := heap_setCell_same wy bx 3 _ _ _ HBxy.out
          have HKxz : Hid (Below wb.heap.size wb (wy.setCell ⟨bx, 3, none⟩ (.int .i64 (-1)))) := HKxy.out.setCell (p := ⟨bx, 3, none⟩) hbx _
          have HRwz : Hid ((wy.setCell ⟨bx, 3, none⟩ (.int .i64 (-1))).heap[rw0]? = some (.cells #[.int .u8 kt, .slice A1 st.length c1, .int .i64 mt, .int .i64 xt, .bool zt, .slice A2 ut.length c2] 25 (0, 0))) := (heap_setCell_other wy ⟨bx, 3, none⟩ rw0 _ (Ne.symm hbr)).trans HRwy.out
          obtain ⟨wz, hwy⟩ : ∃ x, x = (wy.setCell ⟨bx, 3, none⟩ (.int .i64 (-1))) := ⟨_, rfl⟩
          rw [← hwy] at HBxz HKxz HRwz ⊢
          clear hwy HBxy HKxy HRwy
          by_cases hnl : nullT (Tree.mk kt st mt xt zt ut) = true
          ·have HKn := Lib.hid (below_kept HKb.out HKxz.out)
           have CN := Lib.hid (nul_any _ (Tree.mk kt st mt xt zt ut) (Nat.le_refl _) (.agg #[.int .u8 kt, .slice A1 st.length c1, .int .i64 mt, .int .i64 xt, .bool zt, .slice A2 ut.length c2]) wz ⟨_, rfl, NodeC.kept HKn.out _ _ (hide_un HNT.out)⟩)
           unfold NulC at CN
           rw [show nullT (Tree.mk kt st mt xt zt ut) = true from hnl] at CN
           have HRn := Lib.hid (range_kept HKxz.out hgb HRA1.out)
           go_upto_region 22 with (first | ((refine wpList_load_mid ?c0 25 (.tmp 121) ?c1 g (q.length * 6) ?c2 [.int .u8 kt, .slice A1 st.length c1, .int .i64 mt, .int .i64 xt, .bool zt, .slice A2 ut.length c2] _ ?c4 Tryz.underlying25 ?c3 sizeNd ?_); (case c0 => with_reducible rfl); (case c1 => with_reducible rfl); (case c2 => rfl); (case c3 => rfl); (case c4 => exact HRn.out)) | (go_at_call 25; refine CN.out.mono ?_; rintro e wn ⟨rfl, hkn⟩; have HBxn := Lib.hid (heap_kept hkn HBxz.out); have HRwn := Lib.hid (heap_kept hkn HRwz.out); have HKxn := Lib.hid (HKxz.out.trans (hkn.mono HKxz.out.size)); clear hkn))
           clear HKn CN HRn HBxz HRwz HKxz
           have hx8 := heap_kept HKxn.out Hx.out
           have c2 := row_cells hx8 2 _ rfl
           have z2 := row_cells HBxn.out 2 _ rfl
           have z3 := row_cells HBxn.out 3 _ rfl
           rw [add0] at c2 z2 z3
           have zf : ∀ j, wn.frozen? ⟨bx, j, none⟩ = false := fun j => Lib.frozen_of_heap HBxn.out j
           clear hx8
           go_upto_region 23 with fail
           clear c2 z2 z3 zf
           have HBt := heap_setCell_same wn bx 2 _ _ (.int .i64 (a % 2)) HBxn.out
           have HBxm : Hid (((wn.setCell ⟨bx, 2, none⟩ (.int .i64 (a % 2))).setCell ⟨bx, 3, none⟩ (.int .i64 1)).heap[bx]? = some (.cells #[.int .u8 5, .slice none 0 0, .int .i64 (a % 2), .int .i64 (1), .bool (decide (b % 2 = 1)), .slice (some ⟨rw0, 0, none⟩) 1 1] 25 (0, 0))) := heap_setCell_same (wn.setCell ⟨bx, 2, none⟩ (.int .i64 (a % 2))) bx 3 _ _ _ HBt
           have HKxm : Hid (Below wb.heap.size wb ((wn.setCell ⟨bx, 2, none⟩ (.int .i64 (a % 2))).setCell ⟨bx, 3, none⟩ (.int .i64 1))) := (HKxn.out.setCell (p := ⟨bx, 2, none⟩) hbx _).setCell (p := ⟨bx, 3, none⟩) hbx _
           have HRwm : Hid (((wn.setCell ⟨bx, 2, none⟩ (.int .i64 (a % 2))).setCell ⟨bx, 3, none⟩ (.int .i64 1)).heap[rw0]? = some (.cells #[.int .u8 kt, .slice A1 st.length c1, .int .i64 mt, .int .i64 xt, .bool zt, .slice A2 ut.length c2] 25 (0, 0))) := (heap_setCell_other (wn.setCell ⟨bx, 2, none⟩ (.int .i64 (a % 2))) ⟨bx, 3, none⟩ rw0 _ (Ne.symm hbr)).trans ((heap_setCell_other wn ⟨bx, 2, none⟩ rw0 _ (Ne.symm hbr)).trans HRwn.out)
           obtain ⟨w3, hwy⟩ : ∃ x, x = ((wn.setCell ⟨bx, 2, none⟩ (.int .i64 (a % 2))).setCell ⟨bx, 3, none⟩ (.int .i64 1)) := ⟨_, rfl⟩
           rw [← hwy] at HBxm HKxm HRwm ⊢
           clear hwy HBt HBxn HKxn HRwn
           have HKn := Lib.hid (below_kept HKb.out HKxm.out)
           have HTn := Lib.hid (there_kept HKn.out hgl HTH.out)
           have HpB : Hid (PartsI (W.heap.size + 1) w3 (.slice (some ⟨g, 0, none⟩) (q.length + 1) c3) (q ++ [(Tree.mk kt st mt xt zt ut)]) (ys ++ [.int .u8 kt, .slice A1 st.length c1, .int .i64 mt, .int .i64 xt, .bool zt, .slice A2 ut.length c2])) := by
            have := Hp.out.kept HKn.out
            rwa [hlen] at this
           have HND : Hid (NodeC (hideO (some g) (mask (W.heap.size + 1) w3)) (repN (Tree.mk kt st mt xt zt ut) a b) [.int .u8 5, .slice none 0 0, .int .i64 (a % 2), .int .i64 (1), .bool (decide (b % 2 = 1)), .slice (some ⟨rw0, 0, none⟩) 1 1]) := by
            show NodeC _ _ _
            unfold repN
            rw [if_pos hnl, if_pos hnl, show a % 4 % 2 = a % 2 from by omega]
            exact node_one (c := 1) (hide_sub HKn.out HNT.out) ((hide_at (by omega) (by omega)).trans HRwm.out)
           go_wp2_with (first | ((refine wpList_load_row ?c0 25 (.tmp 8) ?c1 bx ?c2 25 #[.int .u8 5, .slice none 0 0, .int .i64 (a % 2), .int .i64 (1), .bool (decide (b % 2 = 1)), .slice (some ⟨rw0, 0, none⟩) 1 1] (0, 0) _ ?c4 Tryz.underlying25 ?c3 sizeNd ?_); (case c0 => with_reducible rfl); (case c1 => with_reducible rfl); (case c2 => rfl); (case c3 => rfl); (case c4 => exact HBxm.out)) | ((refine wpList_store_mid ?c0 25 (.tmp 132) (.tmp 131) ?c1 g (q.length * 6) #[.int .u8 5, .slice none 0 0, .int .i64 (a % 2), .int .i64 (1), .bool (decide (b % 2 = 1)), .slice (some ⟨rw0, 0, none⟩) 1 1] ?c2 ?c3 ?c5 sizeNd ?c4 ?_); (case c0 => with_reducible rfl); (case c1 => with_reducible rfl); (case c2 => rfl); (case c3 => rfl); (case c4 => simp [Value.oneCell']); (case c5 => exact HTn.out)))
           have P5 := PartsI.put HpB.out (cs := [.int .u8 5, .slice none 0 0, .int .i64 (a % 2), .int .i64 (1), .bool (decide (b % 2 = 1)), .slice (some ⟨rw0, 0, none⟩) 1 1]) rfl HND.out
           have B5 := HB.out.trans (Below.grown (HKn.out.mono hBw) (grown_setCells g [.int .u8 5, .slice none 0 0, .int .i64 (a % 2), .int .i64 (1), .bool (decide (b % 2 = 1)), .slice (some ⟨rw0, 0, none⟩) 1 1] (q.length * 6) _) (by have := HKn.out.size; simp; omega) (fun k e => by cases e; exact hBg))
           go_roundw
           case rel =>
            rw [← Hst.out] at P5
            exact ⟨k + 1, _, by omega, by go_num, Lib.hid B5, Lib.hid P5⟩
           case measure => simp [intOf]; omega
          ·have HKn := Lib.hid (below_kept HKb.out HKxz.out)
           have CN := Lib.hid (nul_any _ (Tree.mk kt st mt xt zt ut) (Nat.le_refl _) (.agg #[.int .u8 kt, .slice A1 st.length c1, .int .i64 mt, .int .i64 xt, .bool zt, .slice A2 ut.length c2]) wz ⟨_, rfl, NodeC.kept HKn.out _ _ (hide_un HNT.out)⟩)
           unfold NulC at CN
           rw [show nullT (Tree.mk kt st mt xt zt ut) = false from Bool.not_eq_true _ ▸ hnl] at CN
           have HRn := Lib.hid (range_kept HKxz.out hgb HRA1.out)
           go_upto_region 23 with (first | ((refine wpList_load_mid ?c0 25 (.tmp 121) ?c1 g (q.length * 6) ?c2 [.int .u8 kt, .slice A1 st.length c1, .int .i64 mt, .int .i64 xt, .bool zt, .slice A2 ut.length c2] _ ?c4 Tryz.underlying25 ?c3 sizeNd ?_); (case c0 => with_reducible rfl); (case c1 => with_reducible rfl); (case c2 => rfl); (case c3 => rfl); (case c4 => exact HRn.out)) | (go_at_call 25; refine CN.out.mono ?_; rintro e wn ⟨rfl, hkn⟩; have HBxn := Lib.hid (heap_kept hkn HBxz.out); have HRwn := Lib.hid (heap_kept hkn HRwz.out); have HKxn := Lib.hid (HKxz.out.trans (hkn.mono HKxz.out.size)); clear hkn))
           clear HKn CN HRn HBxz HRwz HKxz
           have HKn := Lib.hid (below_kept HKb.out HKxn.out)
           have HTn := Lib.hid (there_kept HKn.out hgl HTH.out)
           have HpB : Hid (PartsI (W.heap.size + 1) wn (.slice (some ⟨g, 0, none⟩) (q.length + 1) c3) (q ++ [(Tree.mk kt st mt xt zt ut)]) (ys ++ [.int .u8 kt, .slice A1 st.length c1, .int .i64 mt, .int .i64 xt, .bool zt, .slice A2 ut.length c2])) := by
            have := Hp.out.kept HKn.out
            rwa [hlen] at this
           have HND : Hid (NodeC (hideO (some g) (mask (W.heap.size + 1) wn)) (repN (Tree.mk kt st mt xt zt ut) a b) [.int .u8 5, .slice none 0 0, .int .i64 (a % 4), .int .i64 (-1), .bool (decide (b % 2 = 1)), .slice (some ⟨rw0, 0, none⟩) 1 1]) := by
            show NodeC _ _ _
            unfold repN
            rw [if_neg hnl, if_neg hnl, if_pos h55]
            exact node_one (c := 1) (hide_sub HKn.out HNT.out) ((hide_at (by omega) (by omega)).trans HRwn.out)
           go_wp2_with (first | ((refine wpList_load_row ?c0 25 (.tmp 8) ?c1 bx ?c2 25 #[.int .u8 5, .slice none 0 0, .int .i64 (a % 4), .int .i64 (-1), .bool (decide (b % 2 = 1)), .slice (some ⟨rw0, 0, none⟩) 1 1] (0, 0) _ ?c4 Tryz.underlying25 ?c3 sizeNd ?_); (case c0 => with_reducible rfl); (case c1 => with_reducible rfl); (case c2 => rfl); (case c3 => rfl); (case c4 => exact HBxn.out)) | ((refine wpList_store_mid ?c0 25 (.tmp 132) (.tmp 131) ?c1 g (q.length * 6) #[.int .u8 5, .slice none 0 0, .int .i64 (a % 4), .int .i64 (-1), .bool (decide (b % 2 = 1)), .slice (some ⟨rw0, 0, none⟩) 1 1] ?c2 ?c3 ?c5 sizeNd ?c4 ?_); (case c0 => with_reducible rfl); (case c1 => with_reducible rfl); (case c2 => rfl); (case c3 => rfl); (case c4 => simp [Value.oneCell']); (case c5 => exact HTn.out)))
           have P5 := PartsI.put HpB.out (cs := [.int .u8 5, .slice none 0 0, .int .i64 (a % 4), .int .i64 (-1), .bool (decide (b % 2 = 1)), .slice (some ⟨rw0, 0, none⟩) 1 1]) rfl HND.out
           have B5 := HB.out.trans (Below.grown (HKn.out.mono hBw) (grown_setCells g [.int .u8 5, .slice none 0 0, .int .i64 (a % 4), .int .i64 (-1), .bool (decide (b % 2 = 1)), .slice (some ⟨rw0, 0, none⟩) 1 1] (q.length * 6) _) (by have := HKn.out.size; simp; omega) (fun k e => by cases e; exact hBg))
           go_roundw
           case rel =>
            rw [← Hst.out] at P5
            exact ⟨k + 1, _, by omega, by go_num, Lib.hid B5, Lib.hid P5⟩
           case measure => simp [intOf]; omega
         ·have hx8 := heap_kept HKxy.out Hx.out
          have c2 := row_cells hx8 2 _ rfl
          have z2 := row_cells HBxy.out 2 _ rfl
          have z3 := row_cells HBxy.out 3 _ rfl
          rw [add0] at c2 z2 z3
          have zf : ∀ j, wy.frozen? ⟨bx, j, none⟩ = false := fun j => Lib.frozen_of_heap HBxy.out j
          clear hx8
          go_upto_region 21 with fail
          clear c2 z2 z3 zf
          by_cases hnl : nullT (Tree.mk kt st mt xt zt ut) = true
          ·have HKn := Lib.hid (below_kept HKb.out HKxy.out)
           have CN := Lib.hid (nul_any _ (Tree.mk kt st mt xt zt ut) (Nat.le_refl _) (.agg #[.int .u8 kt, .slice A1 st.length c1, .int .i64 mt, .int .i64 xt, .bool zt, .slice A2 ut.length c2]) wy ⟨_, rfl, NodeC.kept HKn.out _ _ (hide_un HNT.out)⟩)
           unfold NulC at CN
           rw [show nullT (Tree.mk kt st mt xt zt ut) = true from hnl] at CN
           have HRn := Lib.hid (range_kept HKxy.out hgb HRA1.out)
           go_upto_region 22 with (first | ((refine wpList_load_mid ?c0 25 (.tmp 121) ?c1 g (q.length * 6) ?c2 [.int .u8 kt, .slice A1 st.length c1, .int .i64 mt, .int .i64 xt, .bool zt, .slice A2 ut.length c2] _ ?c4 Tryz.underlying25 ?c3 sizeNd ?_); (case c0 => with_reducible rfl); (case c1 => with_reducible rfl); (case c2 => rfl); (case c3 => rfl); (case c4 => exact HRn.out)) | (go_at_call 25; refine CN.out.mono ?_; rintro e wn ⟨rfl, hkn⟩; have HBxn := Lib.hid (heap_kept hkn HBxy.out); have HRwn := Lib.hid (heap_kept hkn HRwy.out); have HKxn := Lib.hid (HKxy.out.trans (hkn.mono HKxy.out.size)); clear hkn))
           clear HKn CN HRn HBxy HRwy HKxy
           have hx8 := heap_kept HKxn.out Hx.out
           have c2 := row_cells hx8 2 _ rfl
           have z2 := row_cells HBxn.out 2 _ rfl
           have z3 := row_cells HBxn.out 3 _ rfl
           rw [add0] at c2 z2 z3
           have zf : ∀ j, wn.frozen? ⟨bx, j, none⟩ = false := fun j => Lib.frozen_of_heap HBxn.out j
           clear hx8
           go_upto_region 23 with fail
           clear c2 z2 z3 zf
           have HBt := heap_setCell_same wn bx 2 _ _ (.int .i64 (a % 2)) HBxn.out
           have HBxm : Hid (((wn.setCell ⟨bx, 2, none⟩ (.int .i64 (a % 2))).setCell ⟨bx, 3, none⟩ (.int .i64 1)).heap[bx]? = some (.cells #[.int .u8 5, .slice none 0 0, .int .i64 (a % 2), .int .i64 (1), .bool (decide (b % 2 = 1)), .slice (some ⟨rw0, 0, none⟩) 1 1] 25 (0, 0))) := heap_setCell_same (wn.setCell ⟨bx, 2, none⟩ (.int .i64 (a % 2))) bx 3 _ _ _ HBt
           have HKxm : Hid (Below wb.heap.size wb ((wn.setCell ⟨bx, 2, none⟩ (.int .i64 (a % 2))).setCell ⟨bx, 3, none⟩ (.int .i64 1))) := (HKxn.out.setCell (p := ⟨bx, 2, none⟩) hbx _).setCell (p := ⟨bx, 3, none⟩) hbx _
           have HRwm : Hid (((wn.setCell ⟨bx, 2, none⟩ (.int .i64 (a % 2))).setCell ⟨bx, 3, none⟩ (.int .i64 1)).heap[rw0]? = some (.cells #[.int .u8 kt, .slice A1 st.length c1, .int .i64 mt, .int .i64 xt, .bool zt, .slice A2 ut.length c2] 25 (0, 0))) := (heap_setCell_other (wn.setCell ⟨bx, 2, none⟩ (.int .i64 (a % 2))) ⟨bx, 3, none⟩ rw0 _ (Ne.symm hbr)).trans ((heap_setCell_other wn ⟨bx, 2, none⟩ rw0 _ (Ne.symm hbr)).trans HRwn.out)
           obtain ⟨w3, hwy⟩ : ∃ x, x = ((wn.setCell ⟨bx, 2, none⟩ (.int .i64 (a % 2))).setCell ⟨bx, 3, none⟩ (.int .i64 1)) := ⟨_, rfl⟩
           rw [← hwy] at HBxm HKxm HRwm ⊢
           clear hwy HBt HBxn HKxn HRwn
           have HKn := Lib.hid (below_kept HKb.out HKxm.out)
           have HTn := Lib.hid (there_kept HKn.out hgl HTH.out)
           have HpB : Hid (PartsI (W.heap.size + 1) w3 (.slice (some ⟨g, 0, none⟩) (q.length + 1) c3) (q ++ [(Tree.mk kt st mt xt zt ut)]) (ys ++ [.int .u8 kt, .slice A1 st.length c1, .int .i64 mt, .int .i64 xt, .bool zt, .slice A2 ut.length c2])) := by
            have := Hp.out.kept HKn.out
            rwa [hlen] at this
           have HND : Hid (NodeC (hideO (some g) (mask (W.heap.size + 1) w3)) (repN (Tree.mk kt st mt xt zt ut) a b) [.int .u8 5, .slice none 0 0, .int .i64 (a % 2), .int .i64 (1), .bool (decide (b % 2 = 1)), .slice (some ⟨rw0, 0, none⟩) 1 1]) := by
            show NodeC _ _ _
            unfold repN
            rw [if_pos hnl, if_pos hnl, show a % 4 % 2 = a % 2 from by omega]
            exact node_one (c := 1) (hide_sub HKn.out HNT.out) ((hide_at (by omega) (by omega)).trans HRwm.out)
           go_wp2_with (first | ((refine wpList_load_row ?c0 25 (.tmp 8) ?c1 bx ?c2 25 #[.int .u8 5, .slice none 0 0, .int .i64 (a % 2), .int .i64 (1), .bool (decide (b % 2 = 1)), .slice (some ⟨rw0, 0, none⟩) 1 1] (0, 0) _ ?c4 Tryz.underlying25 ?c3 sizeNd ?_); (case c0 => with_reducible rfl); (case c1 => with_reducible rfl); (case c2 => rfl); (case c3 => rfl); (case c4 => exact HBxm.out)) | ((refine wpList_store_mid ?c0 25 (.tmp 132) (.tmp 131) ?c1 g (q.length * 6) #[.int .u8 5, .slice none 0 0, .int .i64 (a % 2), .int .i64 (1), .bool (decide (b % 2 = 1)), .slice (some ⟨rw0, 0, none⟩) 1 1] ?c2 ?c3 ?c5 sizeNd ?c4 ?_); (case c0 => with_reducible rfl); (case c1 => with_reducible rfl); (case c2 => rfl); (case c3 => rfl); (case c4 => simp [Value.oneCell']); (case c5 => exact HTn.out)))
           have P5 := PartsI.put HpB.out (cs := [.int .u8 5, .slice none 0 0, .int .i64 (a % 2), .int .i64 (1), .bool (decide (b % 2 = 1)), .slice (some ⟨rw0, 0, none⟩) 1 1]) rfl HND.out
           have B5 := HB.out.trans (Below.grown (HKn.out.mono hBw) (grown_setCells g [.int .u8 5, .slice none 0 0, .int .i64 (a % 2), .int .i64 (1), .bool (decide (b % 2 = 1)), .slice (some ⟨rw0, 0, none⟩) 1 1] (q.length * 6) _) (by have := HKn.out.size; simp; omega) (fun k e => by cases e; exact hBg))
           go_roundw
           case rel =>
            rw [← Hst.out] at P5
            exact ⟨k + 1, _, by omega, by go_num, Lib.hid B5, Lib.hid P5⟩
           case measure => simp [intOf]; omega
          ·have HKn := Lib.hid (below_kept HKb.out HKxy.out)
           have CN := Lib.hid (nul_any _ (Tree.mk kt st mt xt zt ut) (Nat.le_refl _) (.agg #[.int .u8 kt, .slice A1 st.length c1, .int .i64 mt, .int .i64 xt, .bool zt, .slice A2 ut.length c2]) wy ⟨_, rfl, NodeC.kept HKn.out _ _ (hide_un HNT.out)⟩)
           unfold NulC at CN
           rw [show nullT (Tree.mk kt st mt xt zt ut) = false from Bool.not_eq_true _ ▸ hnl] at CN
           have HRn := Lib.hid (range_kept HKxy.out hgb HRA1.out)
           go_upto_region 23 with (first | ((refine wpList_load_mid ?c0 25 (.tmp 121) ?c1 g (q.length * 6) ?c2 [.int .u8 kt, .slice A1 st.length c1, .int .i64 mt, .int .i64 xt, .bool zt, .slice A2 ut.length c2] _ ?c4 Tryz.underlying25 ?c3 sizeNd ?_); (case c0 => with_reducible rfl); (case c1 => with_reducible rfl); (case c2 => rfl); (case c3 => rfl); (case c4 => exact HRn.out)) | (go_at_call 25; refine CN.out.mono ?_; rintro e wn ⟨rfl, hkn⟩; have HBxn := Lib.hid (heap_kept hkn HBxy.out); have HRwn := Lib.hid (heap_kept hkn HRwy.out); have HKxn := Lib.hid (HKxy.out.trans (hkn.mono HKxy.out.size)); clear hkn))
           clear HKn CN HRn HBxy HRwy HKxy
           have HKn := Lib.hid (below_kept HKb.out HKxn.out)
           have HTn := Lib.hid (there_kept HKn.out hgl HTH.out)
           have HpB : Hid (PartsI (W.heap.size + 1) wn (.slice (some ⟨g, 0, none⟩) (q.length + 1) c3) (q ++ [(Tree.mk kt st mt xt zt ut)]) (ys ++ [.int .u8 kt, .slice A1 st.length c1, .int .i64 mt, .int .i64 xt, .bool zt, .slice A2 ut.length c2])) := by
            have := Hp.out.kept HKn.out
            rwa [hlen] at this
           have HND : Hid (NodeC (hideO (some g) (mask (W.heap.size + 1) wn)) (repN (Tree.mk kt st mt xt zt ut) a b) [.int .u8 5, .slice none 0 0, .int .i64 (a % 4), .int .i64 (a % 4 + b / 2 % 3), .bool (decide (b % 2 = 1)), .slice (some ⟨rw0, 0, none⟩) 1 1]) := by
            show NodeC _ _ _
            unfold repN
            rw [if_neg hnl, if_neg hnl, if_neg h55]
            exact node_one (c := 1) (hide_sub HKn.out HNT.out) ((hide_at (by omega) (by omega)).trans HRwn.out)
           go_wp2_with (first | ((refine wpList_load_row ?c0 25 (.tmp 8) ?c1 bx ?c2 25 #[.int .u8 5, .slice none 0 0, .int .i64 (a % 4), .int .i64 (a % 4 + b / 2 % 3), .bool (decide (b % 2 = 1)), .slice (some ⟨rw0, 0, none⟩) 1 1] (0, 0) _ ?c4 Tryz.underlying25 ?c3 sizeNd ?_); (case c0 => with_reducible rfl); (case c1 => with_reducible rfl); (case c2 => rfl); (case c3 => rfl); (case c4 => exact HBxn.out)) | ((refine wpList_store_mid ?c0 25 (.tmp 132) (.tmp 131) ?c1 g (q.length * 6) #[.int .u8 5, .slice none 0 0, .int .i64 (a % 4), .int .i64 (a % 4 + b / 2 % 3), .bool (decide (b % 2 = 1)), .slice (some ⟨rw0, 0, none⟩) 1 1] ?c2 ?c3 ?c5 sizeNd ?c4 ?_); (case c0 => with_reducible rfl); (case c1 => with_reducible rfl); (case c2 => rfl); (case c3 => rfl); (case c4 => simp [Value.oneCell']); (case c5 => exact HTn.out)))
           have P5 := PartsI.put HpB.out (cs := [.int .u8 5, .slice none 0 0, .int .i64 (a % 4), .int .i64 (a % 4 + b / 2 % 3), .bool (decide (b % 2 = 1)), .slice (some ⟨rw0, 0, none⟩) 1 1]) rfl HND.out
           have B5 := HB.out.trans (Below.grown (HKn.out.mono hBw) (grown_setCells g [.int .u8 5, .slice none 0 0, .int .i64 (a % 4), .int .i64 (a % 4 + b / 2 % 3), .bool (decide (b % 2 = 1)), .slice (some ⟨rw0, 0, none⟩) 1 1] (q.length * 6) _) (by have := HKn.out.size; simp; omega) (fun k e => by cases e; exact hBg))
           go_roundw
           case rel =>
            rw [← Hst.out] at P5
            exact ⟨k + 1, _, by omega, by go_num, Lib.hid B5, Lib.hid P5⟩
           case measure => simp [intOf]; omega
       ·go_upto_region 17 with ((refine wpList_load_at ?c0 83 (.tmp 19) ?c1 (ad.add (k * 3)) ?c2 #[.int .u8 kd, .int .u8 a, .int .u8 b] _ ?c4 Tryz.underlying83 ?c3 sizeSm ?_); (case c0 => with_reducible rfl); (case c1 => with_reducible rfl); (case c2 => rfl); (case c3 => rfl); (case c4 => exact Hcl.out))
        have Hx : Hid ((wr.alloc (.cells #[.int .u8 kd, .int .u8 a, .int .u8 b] 83)).heap[wr.heap.size]? = some (.cells #[.int .u8 kd, .int .u8 a, .int .u8 b] 83 (0, 0))) := heap_alloc_new wr _
        have HKb : Hid (Kept wr (wr.alloc (.cells #[.int .u8 kd, .int .u8 a, .int .u8 b] 83))) := (Below.refl _ wr).alloc (Nat.le_refl _) _
        have hwz : W.heap.size + 1 ≤ (wr.alloc (.cells #[.int .u8 kd, .int .u8 a, .int .u8 b] 83)).heap.size := Nat.le_trans hBw HKb.out.size
        obtain ⟨wb, hwb⟩ : ∃ x, x = (wr.alloc (.cells #[.int .u8 kd, .int .u8 a, .int .u8 b] 83)) := ⟨_, rfl⟩
        have hgb : g < wb.heap.size := by rw [hwb]; simp; omega
        have hrb : wr.heap.size < wb.heap.size := by rw [hwb]; simp
        rw [← hwb] at Hx HKb HRA1 HTH1 hwz ⊢
        clear hwb
        have HS : Hid (∀ W, Below wb.heap.size wb W → (W.cell? ⟨wr.heap.size, 1, none⟩ = some (.int .u8 a) ∧ W.cell? ⟨wr.heap.size, 2, none⟩ = some (.int .u8 b)) ∧ W.rangeAt g (q.length * 6) [.int .u8 kt, .slice A1 st.length c1, .int .i64 mt, .int .i64 xt, .bool zt, .slice A2 ut.length c2] ∧ Below wb.heap.size wb W) := by
         intro W hW
         have h1 := heap_kept hW Hx.out
         exact ⟨⟨(row_cells h1 1 _ rfl), (row_cells h1 2 _ rfl)⟩, range_kept hW hgb HRA1.out, hW⟩
        go_cut [8, 50, 57, 72, 84] (fun v8 _ _ _ _ wx => ∃ bx rw0, v8 = .pointer (some ⟨bx, 0, none⟩) ∧ wb.heap.size ≤ bx ∧ wb.heap.size ≤ rw0 ∧ bx ≠ rw0 ∧ Hid (Below wb.heap.size wb wx) ∧ Hid (wx.heap[bx]? = some (.cells #[.int .u8 5, .slice none 0 0, .int .i64 (a % 4), .int .i64 (0), .bool (decide (b % 2 = 1)), .slice (some ⟨rw0, 0, none⟩) 1 1] 25 (0, 0))) ∧ Hid (wx.heap[rw0]? = some (.cells #[.int .u8 kt, .slice A1 st.length c1, .int .i64 mt, .int .i64 xt, .bool zt, .slice A2 ut.length c2] 25 (0, 0))))
        case first =>
         clear HR Hcl HB HK HZ HT Hst HNT HRA HTH HTH1 HKb Hp Hlt HRA1
         refine wp_region_held_drew (S := fun W => (W.cell? ⟨wr.heap.size, 1, none⟩ = some (.int .u8 a) ∧ W.cell? ⟨wr.heap.size, 2, none⟩ = some (.int .u8 b)) ∧ W.rangeAt g (q.length * 6) [.int .u8 kt, .slice A1 st.length c1, .int .i64 mt, .int .i64 xt, .bool zt, .slice A2 ut.length c2] ∧ Below wb.heap.size wb W) (by kernel_rfl) (HS.out _ (below_drew0 (Below.refl _ _))) (fun hHeld => ?_)
         obtain ⟨wc, hwc⟩ : ∃ x, x = wb.drew := ⟨_, rfl⟩
         rw [← hwc] at hHeld ⊢
         have hwcs : wc.heap.size = wb.heap.size := by rw [hwc]; rfl
         have HKc := Lib.hid hHeld.2.2
         have e1 : IntKind.i64.wrap (a.tmod 4) = a % 4 := by rw [Int.tmod_eq_emod_of_nonneg hx2.1]; rw [IntKind.wrap_i64]; omega
         have e2 : (b.tmod 2 == 1) = decide (b % 2 = 1) := by rw [Int.tmod_eq_emod_of_nonneg hx3.1]; rfl
         clear hwc
         refine tkC 0 (oi := ⟨some 91, _, _, _, _, _⟩) (v := ?_) rfl (by kernel_rfl) (fun _ _ _ h => h) (by rfl) ?_ hHeld ?_
         rotate_left
         ·(intro w hSw; obtain ⟨⟨hc1, hc2⟩, hra, hkk⟩ := hSw; refine .inl ?_; go_simp; (try with_reducible rfl))
         try simp only [pU1, pU2, pU3, pU4]
         refine tkC 1 (oi := ⟨some 92, _, _, _, _, _⟩) (v := ?_) rfl (by kernel_rfl) (fun _ _ _ h => h) (by rfl) ?_ hHeld ?_
         rotate_left
         ·(intro w hSw; obtain ⟨⟨hc1, hc2⟩, hra, hkk⟩ := hSw; refine .inl ?_; go_simp; (try with_reducible rfl))
         try simp only [pU1, pU2, pU3, pU4]
         refine tkC 2 (oi := ⟨some 93, _, _, _, _, _⟩) (v := ?_) rfl (by kernel_rfl) (fun _ _ _ h => h) (by rfl) ?_ hHeld ?_
         rotate_left
         ·(intro w hSw; obtain ⟨⟨hc1, hc2⟩, hra, hkk⟩ := hSw; refine .inl ?_; go_simp; (try with_reducible rfl))
         try simp only [pU1, pU2, pU3, pU4]
         refine tkC 3 (oi := ⟨some 94, _, _, _, _, _⟩) (v := ?_) rfl (by kernel_rfl) (fun _ _ _ h => h) (by rfl) ?_ hHeld ?_
         rotate_left
         ·(intro w hSw; obtain ⟨⟨hc1, hc2⟩, hra, hkk⟩ := hSw; refine .inl ?_; go_simp; (try with_reducible rfl))
         try simp only [pU1, pU2, pU3, pU4]
         refine tkC 4 (oi := ⟨some 95, _, _, _, _, _⟩) (v := ?_) rfl (by kernel_rfl) (fun _ _ _ h => h) (by rfl) ?_ hHeld ?_
         rotate_left
         ·(intro w hSw; obtain ⟨⟨hc1, hc2⟩, hra, hkk⟩ := hSw; refine .inl ?_; go_simp; (try with_reducible rfl))
         try simp only [pU1, pU2, pU3, pU4]
         refine tkC 5 (oi := ⟨some 96, _, _, _, _, _⟩) (v := ?_) rfl (by kernel_rfl) (fun _ _ _ h => h) (by rfl) ?_ hHeld ?_
         rotate_left
         ·(intro w hSw; obtain ⟨⟨hc1, hc2⟩, hra, hkk⟩ := hSw; refine .inl ?_; go_simp; (try with_reducible rfl))
         try simp only [pU1, pU2, pU3, pU4]
         refine tkC 6 (oi := ⟨some 97, _, _, _, _, _⟩) (v := ?_) rfl (by kernel_rfl) (fun _ _ _ h => h) (by rfl) ?_ hHeld ?_
         rotate_left
         ·(intro w hSw; obtain ⟨⟨hc1, hc2⟩, hra, hkk⟩ := hSw; refine .inl ?_; go_simp; (try with_reducible rfl))
         try simp only [pU1, pU2, pU3, pU4]
         refine tkC 7 (oi := ⟨some 98, _, _, _, _, _⟩) (v := ?_) rfl (by kernel_rfl) (fun _ _ _ h => h) (by rfl) ?_ hHeld ?_
         rotate_left
         ·(intro w hSw; obtain ⟨⟨hc1, hc2⟩, hra, hkk⟩ := hSw; refine .inl ?_; go_simp; (try with_reducible rfl))
         try simp only [pU1, pU2, pU3, pU4]
         refine tkC 8 (oi := ⟨some 99, _, _, _, _, _⟩) (v := ?_) rfl (by kernel_rfl) (fun _ _ _ h => h) (by rfl) ?_ hHeld ?_
         rotate_left
         ·(intro w hSw; obtain ⟨⟨hc1, hc2⟩, hra, hkk⟩ := hSw; refine .inl ?_; go_simp; (try with_reducible rfl))
         try simp only [pU1, pU2, pU3, pU4]
         refine tkC 9 (oi := ⟨some 100, _, _, _, _, _⟩) (v := ?_) rfl (by kernel_rfl) (fun _ _ _ h => h) (by rfl) ?_ hHeld ?_
         rotate_left
         ·(intro w hSw; obtain ⟨⟨hc1, hc2⟩, hra, hkk⟩ := hSw; refine .inl ?_; go_simp; (try with_reducible rfl))
         try simp only [pU1, pU2, pU3, pU4]
         refine tkC 10 (oi := ⟨some 101, _, _, _, _, _⟩) (v := ?_) rfl (by kernel_rfl) (fun _ _ _ h => h) (by rfl) ?_ hHeld ?_
         rotate_left
         ·(intro w hSw; obtain ⟨⟨hc1, hc2⟩, hra, hkk⟩ := hSw; refine .inl ?_; go_simp; rw [if_pos (by omega)]; (try with_reducible rfl))
         try simp only [pU1, pU2, pU3, pU4]
         refine wpAnyH_takeC (i := 11) (oi := ⟨some 102, _, _, _, _, _⟩) rfl (by kernel_rfl) (by kernel_rfl) (by kernel_rfl) (fun _ _ _ h => h) (yieldsC_of_if ((yieldsIf_load_mid (by rfl) 25 _ rfl g (q.length * 6) rfl [.int .u8 kt, .slice A1 st.length c1, .int .i64 mt, .int .i64 xt, .bool zt, .slice A2 ut.length c2] _ (fun w hw => hw.2.1) Tryz.underlying25 rfl sizeNd))) hHeld ?_
         try simp only [pU1, pU2, pU3, pU4]
         refine wpAnyH_ready (rs := [12, 14]) (by kernel_rfl) (by simp) ?_
         refine AllReadyH.cons (o := ⟨some 103, _, _, _, _, _⟩) rfl (fun K hK => ?_) (AllReadyH.cons (o := ⟨some 8, _, _, _, _, _⟩) rfl (fun K hK => ?_) (AllReadyH.nil))
         ·
          go_simp
          refine hK.out _ _ (HS.out _ (below_alloc0 hHeld.2.2 _)) (fun hHeld2 => ?_)
          replace hHeld := hHeld2
          clear hHeld2
          clear hK
          try simp only [pU1, pU2, pU3, pU4]
          refine tkC 13 (oi := ⟨some 104, _, _, _, _, _⟩) (v := ?_) rfl (by kernel_rfl) (fun _ _ _ h => h) (by rfl) ?_ hHeld ?_
          rotate_left
          ·(intro w hSw; obtain ⟨⟨hc1, hc2⟩, hra, hkk⟩ := hSw; refine .inl ?_; go_simp; (try with_reducible rfl))
          try simp only [pU1, pU2, pU3, pU4]
          refine wpAnyH_ready (rs := [14]) (by kernel_rfl) (by simp) ?_
          refine AllReadyH.cons (o := ⟨some 8, _, _, _, _, _⟩) rfl (fun K hK => ?_) (AllReadyH.nil)
          go_simp
          refine hK.out _ _ (HS.out _ (below_alloc0 hHeld.2.2 _)) (fun hHeld2 => ?_)
          replace hHeld := hHeld2
          clear hHeld2
          clear hK
          try simp only [pU1, pU2, pU3, pU4]
          refine wpAnyH_ready (rs := [15]) (by kernel_rfl) (by simp) ?_
          refine AllReadyH.cons (o := ⟨none, _, _, _, _, _⟩) rfl (fun K hK => ?_) (AllReadyH.nil)
          have HZ9 : Hid (((wc.alloc (.cells #[.int .u8 kt, .slice A1 st.length c1, .int .i64 mt, .int .i64 xt, .bool zt, .slice A2 ut.length c2] 25)).alloc (.cells #[.int .u8 0, .slice none 0 0, .int .i64 0, .int .i64 0, .bool false, .slice none 0 0] 25)).heap[(wc.heap.size + 1)]? = some (.cells #[.int .u8 0, .slice none 0 0, .int .i64 0, .int .i64 0, .bool false, .slice none 0 0] 25 (0, 0))) := (al_new _ _ (by simp))
          have HR9 : Hid (((wc.alloc (.cells #[.int .u8 kt, .slice A1 st.length c1, .int .i64 mt, .int .i64 xt, .bool zt, .slice A2 ut.length c2] 25)).alloc (.cells #[.int .u8 0, .slice none 0 0, .int .i64 0, .int .i64 0, .bool false, .slice none 0 0] 25)).heap[wc.heap.size]? = some (.cells #[.int .u8 kt, .slice A1 st.length c1, .int .i64 mt, .int .i64 xt, .bool zt, .slice A2 ut.length c2] 25 (0, 0))) := ((Below.heap_alloc _ _ _ (by simp)).trans (heap_alloc_new wc _))
          have HK9 := Lib.hid hHeld.2.2
          have z0 := row_cells HZ9.out 0 _ rfl
          have z1 := row_cells HZ9.out 1 _ rfl
          have z2 := row_cells HZ9.out 2 _ rfl
          have z3 := row_cells HZ9.out 3 _ rfl
          have z4 := row_cells HZ9.out 4 _ rfl
          have z5 := row_cells HZ9.out 5 _ rfl
          rw [add0] at z0 z1 z2 z3 z4 z5
          have zf : ∀ j, ((wc.alloc (.cells #[.int .u8 kt, .slice A1 st.length c1, .int .i64 mt, .int .i64 xt, .bool zt, .slice A2 ut.length c2] 25)).alloc (.cells #[.int .u8 0, .slice none 0 0, .int .i64 0, .int .i64 0, .bool false, .slice none 0 0] 25)).frozen? ⟨(wc.heap.size + 1), j, none⟩ = false := fun j => Lib.frozen_of_heap HZ9.out j
          go_simp
          refine hK.out _ _ (HS.out _ (below_alloc0 (below_alloc0 HKc.out _) _)) (fun hHeld2 => ?_)
          replace hHeld := hHeld2
          clear hHeld2 z0 z1 z2 z3 z4 z5 zf HZ9 HR9 HK9
          clear hK
          try simp only [pU1, pU2, pU3, pU4]
          refine wpAnyH_done (by kernel_rfl) ?_ _
          go_wp2_with fail
          go_meet
          have hkk := Lib.hid hHeld.2.2
          clear hHeld
          first
           | exact ⟨wb.heap.size + 1, wb.heap.size, rfl, Nat.le_succ _, Nat.le_refl _, Nat.succ_ne_self _, hkk, Lib.hid (by show _ = _; rw [← e1, ← e2, ← hwcs]; exact al_new _ _ (by simp)), Lib.hid (by show _ = _; rw [← hwcs]; exact (Below.heap_alloc _ _ _ (by simp)).trans (heap_alloc_new wc _))⟩
           | exact ⟨wb.heap.size, wb.heap.size + 1, rfl, Nat.le_refl _, Nat.le_succ _, (Nat.succ_ne_self _).symm, hkk, Lib.hid (by show _ = _; rw [← e1, ← e2, ← hwcs]; exact (Below.heap_alloc _ _ _ (by simp)).trans (heap_alloc_new wc _)), Lib.hid (by show _ = _; rw [← hwcs]; exact al_new _ _ (by simp))⟩
         ·
          go_simp
          refine hK.out _ _ (HS.out _ (below_alloc0 hHeld.2.2 _)) (fun hHeld2 => ?_)
          replace hHeld := hHeld2
          clear hHeld2
          clear hK
          try simp only [pU1, pU2, pU3, pU4]
          refine wpAnyH_ready (rs := [12]) (by kernel_rfl) (by simp) ?_
          refine AllReadyH.cons (o := ⟨some 103, _, _, _, _, _⟩) rfl (fun K hK => ?_) (AllReadyH.nil)
          go_simp
          refine hK.out _ _ (HS.out _ (below_alloc0 hHeld.2.2 _)) (fun hHeld2 => ?_)
          replace hHeld := hHeld2
          clear hHeld2
          clear hK
          try simp only [pU1, pU2, pU3, pU4]
          refine tkC 13 (oi := ⟨some 104, _, _, _, _, _⟩) (v := ?_) rfl (by kernel_rfl) (fun _ _ _ h => h) (by rfl) ?_ hHeld ?_
          rotate_left
          ·(intro w hSw; obtain ⟨⟨hc1, hc2⟩, hra, hkk⟩ := hSw; refine .inl ?_; go_simp; (try with_reducible rfl))
          try simp only [pU1, pU2, pU3, pU4]
          refine wpAnyH_ready (rs := [15]) (by kernel_rfl) (by simp) ?_
          refine AllReadyH.cons (o := ⟨none, _, _, _, _, _⟩) rfl (fun K hK => ?_) (AllReadyH.nil)
          have HZ9 : Hid (((wc.alloc (.cells #[.int .u8 0, .slice none 0 0, .int .i64 0, .int .i64 0, .bool false, .slice none 0 0] 25)).alloc (.cells #[.int .u8 kt, .slice A1 st.length c1, .int .i64 mt, .int .i64 xt, .bool zt, .slice A2 ut.length c2] 25)).heap[wc.heap.size]? = some (.cells #[.int .u8 0, .slice none 0 0, .int .i64 0, .int .i64 0, .bool false, .slice none 0 0] 25 (0, 0))) := ((Below.heap_alloc _ _ _ (by simp)).trans (heap_alloc_new wc _))
          have HR9 : Hid (((wc.alloc (.cells #[.int .u8 0, .slice none 0 0, .int .i64 0, .int .i64 0, .bool false, .slice none 0 0] 25)).alloc (.cells #[.int .u8 kt, .slice A1 st.length c1, .int .i64 mt, .int .i64 xt, .bool zt, .slice A2 ut.length c2] 25)).heap[(wc.heap.size + 1)]? = some (.cells #[.int .u8 kt, .slice A1 st.length c1, .int .i64 mt, .int .i64 xt, .bool zt, .slice A2 ut.length c2] 25 (0, 0))) := (al_new _ _ (by simp))
          have HK9 := Lib.hid hHeld.2.2
          have z0 := row_cells HZ9.out 0 _ rfl
          have z1 := row_cells HZ9.out 1 _ rfl
          have z2 := row_cells HZ9.out 2 _ rfl
          have z3 := row_cells HZ9.out 3 _ rfl
          have z4 := row_cells HZ9.out 4 _ rfl
          have z5 := row_cells HZ9.out 5 _ rfl
          rw [add0] at z0 z1 z2 z3 z4 z5
          have zf : ∀ j, ((wc.alloc (.cells #[.int .u8 0, .slice none 0 0, .int .i64 0, .int .i64 0, .bool false, .slice none 0 0] 25)).alloc (.cells #[.int .u8 kt, .slice A1 st.length c1, .int .i64 mt, .int .i64 xt, .bool zt, .slice A2 ut.length c2] 25)).frozen? ⟨wc.heap.size, j, none⟩ = false := fun j => Lib.frozen_of_heap HZ9.out j
          go_simp
          refine hK.out _ _ (HS.out _ (below_alloc0 (below_alloc0 HKc.out _) _)) (fun hHeld2 => ?_)
          replace hHeld := hHeld2
          clear hHeld2 z0 z1 z2 z3 z4 z5 zf HZ9 HR9 HK9
          clear hK
          try simp only [pU1, pU2, pU3, pU4]
          refine wpAnyH_done (by kernel_rfl) ?_ _
          go_wp2_with fail
          go_meet
          have hkk := Lib.hid hHeld.2.2
          clear hHeld
          first
           | exact ⟨wb.heap.size + 1, wb.heap.size, rfl, Nat.le_succ _, Nat.le_refl _, Nat.succ_ne_self _, hkk, Lib.hid (by show _ = _; rw [← e1, ← e2, ← hwcs]; exact al_new _ _ (by simp)), Lib.hid (by show _ = _; rw [← hwcs]; exact (Below.heap_alloc _ _ _ (by simp)).trans (heap_alloc_new wc _))⟩
           | exact ⟨wb.heap.size, wb.heap.size + 1, rfl, Nat.le_refl _, Nat.le_succ _, (Nat.succ_ne_self _).symm, hkk, Lib.hid (by show _ = _; rw [← e1, ← e2, ← hwcs]; exact (Below.heap_alloc _ _ _ (by simp)).trans (heap_alloc_new wc _)), Lib.hid (by show _ = _; rw [← hwcs]; exact al_new _ _ (by simp))⟩
        case rest =>
         obtain ⟨bx, rw0, rfl, hbx, hrw, hbr, HKx, HBx, HRw⟩ := hcut
         have hx8 := heap_kept HKx.out Hx.out
         have c2 := row_cells hx8 2 _ rfl
         have z2 := row_cells HBx.out 2 _ rfl
         have z3 := row_cells HBx.out 3 _ rfl
         rw [add0] at c2 z2 z3
         have zf : ∀ j, wc.frozen? ⟨bx, j, none⟩ = false := fun j => Lib.frozen_of_heap HBx.out j
         clear hx8
         go_upto_region 19 with fail
         clear c2 z2 z3 zf
         have HBxy : Hid ((wc.setCell ⟨bx, 3, none⟩ (.int .i64 (a % 4 + b / 2 % 3))).heap[bx]? = some (.cells #[.int .u8 5, .slice none 0 0, .int .i64 (a % 4), .int .i64 (a % 4 + b / 2 % 3), .bool (decide (b % 2 = 1)), .slice (some ⟨rw0, 0, none⟩) 1 1] 25 (0, 0))) := heap_setCell_same wc bx 3 _ _ _ HBx.out
         have HKxy : Hid (Below wb.heap.size wb (wc.setCell ⟨bx, 3, none⟩ (.int .i64 (a % 4 + b / 2 % 3)))) := HKx.out.setCell (p := ⟨bx, 3, none⟩) hbx _
         have HRwy : Hid ((wc.setCell ⟨bx, 3, none⟩ (.int .i64 (a % 4 + b / 2 % 3))).heap[rw0]? = some (.cells #[.int .u8 kt, .slice A1 st.length c1, .int .i64 mt, .int .i64 xt, .bool zt, .slice A2 ut.length c2] 25 (0, 0))) := (heap_setCell_other wc ⟨bx, 3, none⟩ rw0 _ (Ne.symm hbr)).trans HRw.out
         obtain ⟨wy, hwy⟩ : ∃ x, x = (wc.setCell ⟨bx, 3, none⟩ (.int .i64 (a % 4 + b / 2 % 3))) := ⟨_, rfl⟩
         rw [← hwy] at HBxy HKxy HRwy ⊢
         clear hwy HBx HKx HRw
         by_cases h55 : b % 5 = 0
         ·have hx8 := heap_kept HKxy.out Hx.out
          have c2 := row_cells hx8 2 _ rfl
          have z2 := row_cells HBxy.out 2 _ rfl
          have z3 := row_cells HBxy.out 3 _ rfl
          rw [add0] at c2 z2 z3
          have zf : ∀ j, wy.frozen? ⟨bx, j, none⟩ = false := fun j => Lib.frozen_of_heap HBxy.out j
          clear hx8
          go_upto_region 21 with fail
          clear c2 z2 z3 zf
          have HBxz : Hid ((wy.setCell ⟨bx, 3, none⟩ (.int .i64 (-1))).heap[bx]? = some (.cells #[.int .u8 5, .slice none 0 0, .int .i64 (a % 4), .int .i64 (-1), .bool (decide (b % 2 = 1)), .slice (some ⟨rw0, 0, none⟩) 1 1] 25 (0, 0))) := heap_setCell_same wy bx 3 _ _ _ HBxy.out
          have HKxz : Hid (Below wb.heap.size wb (wy.setCell ⟨bx, 3, none⟩ (.int .i64 (-1)))) := HKxy.out.setCell (p := ⟨bx, 3, none⟩) hbx _
          have HRwz : Hid ((wy.setCell ⟨bx, 3, none⟩ (.int .i64 (-1))).heap[rw0]? = some (.cells #[.int .u8 kt, .slice A1 st.length c1, .int .i64 mt, .int .i64 xt, .bool zt, .slice A2 ut.length c2] 25 (0, 0))) := (heap_setCell_other wy ⟨bx, 3, none⟩ rw0 _ (Ne.symm hbr)).trans HRwy.out
          obtain ⟨wz, hwy⟩ : ∃ x, x = (wy.setCell ⟨bx, 3, none⟩ (.int .i64 (-1))) := ⟨_, rfl⟩
          rw [← hwy] at HBxz HKxz HRwz ⊢
          clear hwy HBxy HKxy HRwy
          by_cases hnl : nullT (Tree.mk kt st mt xt zt ut) = true
          ·have HKn := Lib.hid (below_kept HKb.out HKxz.out)
           have CN := Lib.hid (nul_any _ (Tree.mk kt st mt xt zt ut) (Nat.le_refl _) (.agg #[.int .u8 kt, .slice A1 st.length c1, .int .i64 mt, .int .i64 xt, .bool zt, .slice A2 ut.length c2]) wz ⟨_, rfl, NodeC.kept HKn.out _ _ (hide_un HNT.out)⟩)
           unfold NulC at CN
           rw [show nullT (Tree.mk kt st mt xt zt ut) = true from hnl] at CN
           have HRn := Lib.hid (range_kept HKxz.out hgb HRA1.out)
           go_upto_region 22 with (first | ((refine wpList_load_mid ?c0 25 (.tmp 121) ?c1 g (q.length * 6) ?c2 [.int .u8 kt, .slice A1 st.length c1, .int .i64 mt, .int .i64 xt, .bool zt, .slice A2 ut.length c2] _ ?c4 Tryz.underlying25 ?c3 sizeNd ?_); (case c0 => with_reducible rfl); (case c1 => with_reducible rfl); (case c2 => rfl); (case c3 => rfl); (case c4 => exact HRn.out)) | (go_at_call 25; refine CN.out.mono ?_; rintro e wn ⟨rfl, hkn⟩; have HBxn := Lib.hid (heap_kept hkn HBxz.out); have HRwn := Lib.hid (heap_kept hkn HRwz.out); have HKxn := Lib.hid (HKxz.out.trans (hkn.mono HKxz.out.size)); clear hkn))
           clear HKn CN HRn HBxz HRwz HKxz
           have hx8 := heap_kept HKxn.out Hx.out
           have c2 := row_cells hx8 2 _ rfl
           have z2 := row_cells HBxn.out 2 _ rfl
           have z3 := row_cells HBxn.out 3 _ rfl
           rw [add0] at c2 z2 z3
           have zf : ∀ j, wn.frozen? ⟨bx, j, none⟩ = false := fun j => Lib.frozen_of_heap HBxn.out j
           clear hx8
           go_upto_region 23 with fail
           clear c2 z2 z3 zf
           have HBt := heap_setCell_same wn bx 2 _ _ (.int .i64 (a % 2)) HBxn.out
           have HBxm : Hid (((wn.setCell ⟨bx, 2, none⟩ (.int .i64 (a % 2))).setCell ⟨bx, 3, none⟩ (.int .i64 1)).heap[bx]? = some (.cells #[.int .u8 5, .slice none 0 0, .int .i64 (a % 2), .int .i64 (1), .bool (decide (b % 2 = 1)), .slice (some ⟨rw0, 0, none⟩) 1 1] 25 (0, 0))) := heap_setCell_same (wn.setCell ⟨bx, 2, none⟩ (.int .i64 (a % 2))) bx 3 _ _ _ HBt
           have HKxm : Hid (Below wb.heap.size wb ((wn.setCell ⟨bx, 2, none⟩ (.int .i64 (a % 2))).setCell ⟨bx, 3, none⟩ (.int .i64 1))) := (HKxn.out.setCell (p := ⟨bx, 2, none⟩) hbx _).setCell (p := ⟨bx, 3, none⟩) hbx _
           have HRwm : Hid (((wn.setCell ⟨bx, 2, none⟩ (.int .i64 (a % 2))).setCell ⟨bx, 3, none⟩ (.int .i64 1)).heap[rw0]? = some (.cells #[.int .u8 kt, .slice A1 st.length c1, .int .i64 mt, .int .i64 xt, .bool zt, .slice A2 ut.length c2] 25 (0, 0))) := (heap_setCell_other (wn.setCell ⟨bx, 2, none⟩ (.int .i64 (a % 2))) ⟨bx, 3, none⟩ rw0 _ (Ne.symm hbr)).trans ((heap_setCell_other wn ⟨bx, 2, none⟩ rw0 _ (Ne.symm hbr)).trans HRwn.out)
           obtain ⟨w3, hwy⟩ : ∃ x, x = ((wn.setCell ⟨bx, 2, none⟩ (.int .i64 (a % 2))).setCell ⟨bx, 3, none⟩ (.int .i64 1)) := ⟨_, rfl⟩
           rw [← hwy] at HBxm HKxm HRwm ⊢
           clear hwy HBt HBxn HKxn HRwn
           have HKn := Lib.hid (below_kept HKb.out HKxm.out)
           have HTn := Lib.hid (there_kept HKn.out hgl HTH.out)
           have HpB : Hid (PartsI (W.heap.size + 1) w3 (.slice (some ⟨g, 0, none⟩) (q.length + 1) c3) (q ++ [(Tree.mk kt st mt xt zt ut)]) (ys ++ [.int .u8 kt, .slice A1 st.length c1, .int .i64 mt, .int .i64 xt, .bool zt, .slice A2 ut.length c2])) := by
            have := Hp.out.kept HKn.out
            rwa [hlen] at this
           have HND : Hid (NodeC (hideO (some g) (mask (W.heap.size + 1) w3)) (repN (Tree.mk kt st mt xt zt ut) a b) [.int .u8 5, .slice none 0 0, .int .i64 (a % 2), .int .i64 (1), .bool (decide (b % 2 = 1)), .slice (some ⟨rw0, 0, none⟩) 1 1]) := by
            show NodeC _ _ _
            unfold repN
            rw [if_pos hnl, if_pos hnl, show a % 4 % 2 = a % 2 from by omega]
            exact node_one (c := 1) (hide_sub HKn.out HNT.out) ((hide_at (by omega) (by omega)).trans HRwm.out)
           go_wp2_with (first | ((refine wpList_load_row ?c0 25 (.tmp 8) ?c1 bx ?c2 25 #[.int .u8 5, .slice none 0 0, .int .i64 (a % 2), .int .i64 (1), .bool (decide (b % 2 = 1)), .slice (some ⟨rw0, 0, none⟩) 1 1] (0, 0) _ ?c4 Tryz.underlying25 ?c3 sizeNd ?_); (case c0 => with_reducible rfl); (case c1 => with_reducible rfl); (case c2 => rfl); (case c3 => rfl); (case c4 => exact HBxm.out)) | ((refine wpList_store_mid ?c0 25 (.tmp 132) (.tmp 131) ?c1 g (q.length * 6) #[.int .u8 5, .slice none 0 0, .int .i64 (a % 2), .int .i64 (1), .bool (decide (b % 2 = 1)), .slice (some ⟨rw0, 0, none⟩) 1 1] ?c2 ?c3 ?c5 sizeNd ?c4 ?_); (case c0 => with_reducible rfl); (case c1 => with_reducible rfl); (case c2 => rfl); (case c3 => rfl); (case c4 => simp [Value.oneCell']); (case c5 => exact HTn.out)))
           have P5 := PartsI.put HpB.out (cs := [.int .u8 5, .slice none 0 0, .int .i64 (a % 2), .int .i64 (1), .bool (decide (b % 2 = 1)), .slice (some ⟨rw0, 0, none⟩) 1 1]) rfl HND.out
           have B5 := HB.out.trans (Below.grown (HKn.out.mono hBw) (grown_setCells g [.int .u8 5, .slice none 0 0, .int .i64 (a % 2), .int .i64 (1), .bool (decide (b % 2 = 1)), .slice (some ⟨rw0, 0, none⟩) 1 1] (q.length * 6) _) (by have := HKn.out.size; simp; omega) (fun k e => by cases e; exact hBg))
           go_roundw
           case rel =>
            rw [← Hst.out] at P5
            exact ⟨k + 1, _, by omega, by go_num, Lib.hid B5, Lib.hid P5⟩
           case measure => simp [intOf]; omega
          ·have HKn := Lib.hid (below_kept HKb.out HKxz.out)
           have CN := Lib.hid (nul_any _ (Tree.mk kt st mt xt zt ut) (Nat.le_refl _) (.agg #[.int .u8 kt, .slice A1 st.length c1, .int .i64 mt, .int .i64 xt, .bool zt, .slice A2 ut.length c2]) wz ⟨_, rfl, NodeC.kept HKn.out _ _ (hide_un HNT.out)⟩)
           unfold NulC at CN
           rw [show nullT (Tree.mk kt st mt xt zt ut) = false from Bool.not_eq_true _ ▸ hnl] at CN
           have HRn := Lib.hid (range_kept HKxz.out hgb HRA1.out)
           go_upto_region 23 with (first | ((refine wpList_load_mid ?c0 25 (.tmp 121) ?c1 g (q.length * 6) ?c2 [.int .u8 kt, .slice A1 st.length c1, .int .i64 mt, .int .i64 xt, .bool zt, .slice A2 ut.length c2] _ ?c4 Tryz.underlying25 ?c3 sizeNd ?_); (case c0 => with_reducible rfl); (case c1 => with_reducible rfl); (case c2 => rfl); (case c3 => rfl); (case c4 => exact HRn.out)) | (go_at_call 25; refine CN.out.mono ?_; rintro e wn ⟨rfl, hkn⟩; have HBxn := Lib.hid (heap_kept hkn HBxz.out); have HRwn := Lib.hid (heap_kept hkn HRwz.out); have HKxn := Lib.hid (HKxz.out.trans (hkn.mono HKxz.out.size)); clear hkn))
           clear HKn CN HRn HBxz HRwz HKxz
           have HKn := Lib.hid (below_kept HKb.out HKxn.out)
           have HTn := Lib.hid (there_kept HKn.out hgl HTH.out)
           have HpB : Hid (PartsI (W.heap.size + 1) wn (.slice (some ⟨g, 0, none⟩) (q.length + 1) c3) (q ++ [(Tree.mk kt st mt xt zt ut)]) (ys ++ [.int .u8 kt, .slice A1 st.length c1, .int .i64 mt, .int .i64 xt, .bool zt, .slice A2 ut.length c2])) := by
            have := Hp.out.kept HKn.out
            rwa [hlen] at this
           have HND : Hid (NodeC (hideO (some g) (mask (W.heap.size + 1) wn)) (repN (Tree.mk kt st mt xt zt ut) a b) [.int .u8 5, .slice none 0 0, .int .i64 (a % 4), .int .i64 (-1), .bool (decide (b % 2 = 1)), .slice (some ⟨rw0, 0, none⟩) 1 1]) := by
            show NodeC _ _ _
            unfold repN
            rw [if_neg hnl, if_neg hnl, if_pos h55]
            exact node_one (c := 1) (hide_sub HKn.out HNT.out) ((hide_at (by omega) (by omega)).trans HRwn.out)
           go_wp2_with (first | ((refine wpList_load_row ?c0 25 (.tmp 8) ?c1 bx ?c2 25 #[.int .u8 5, .slice none 0 0, .int .i64 (a % 4), .int .i64 (-1), .bool (decide (b % 2 = 1)), .slice (some ⟨rw0, 0, none⟩) 1 1] (0, 0) _ ?c4 Tryz.underlying25 ?c3 sizeNd ?_); (case c0 => with_reducible rfl); (case c1 => with_reducible rfl); (case c2 => rfl); (case c3 => rfl); (case c4 => exact HBxn.out)) | ((refine wpList_store_mid ?c0 25 (.tmp 132) (.tmp 131) ?c1 g (q.length * 6) #[.int .u8 5, .slice none 0 0, .int .i64 (a % 4), .int .i64 (-1), .bool (decide (b % 2 = 1)), .slice (some ⟨rw0, 0, none⟩) 1 1] ?c2 ?c3 ?c5 sizeNd ?c4 ?_); (case c0 => with_reducible rfl); (case c1 => with_reducible rfl); (case c2 => rfl); (case c3 => rfl); (case c4 => simp [Value.oneCell']); (case c5 => exact HTn.out)))
           have P5 := PartsI.put HpB.out (cs := [.int .u8 5, .slice none 0 0, .int .i64 (a % 4), .int .i64 (-1), .bool (decide (b % 2 = 1)), .slice (some ⟨rw0, 0, none⟩) 1 1]) rfl HND.out
           have B5 := HB.out.trans (Below.grown (HKn.out.mono hBw) (grown_setCells g [.int .u8 5, .slice none 0 0, .int .i64 (a % 4), .int .i64 (-1), .bool (decide (b % 2 = 1)), .slice (some ⟨rw0, 0, none⟩) 1 1] (q.length * 6) _) (by have := HKn.out.size; simp; omega) (fun k e => by cases e; exact hBg))
           go_roundw
           case rel =>
            rw [← Hst.out] at P5
            exact ⟨k + 1, _, by omega, by go_num, Lib.hid B5, Lib.hid P5⟩
           case measure => simp [intOf]; omega
         ·have hx8 := heap_kept HKxy.out Hx.out
          have c2 := row_cells hx8 2 _ rfl
          have z2 := row_cells HBxy.out 2 _ rfl
          have z3 := row_cells HBxy.out 3 _ rfl
          rw [add0] at c2 z2 z3
          have zf : ∀ j, wy.frozen? ⟨bx, j, none⟩ = false := fun j => Lib.frozen_of_heap HBxy.out j
          clear hx8
          go_upto_region 21 with fail
          clear c2 z2 z3 zf
          by_cases hnl : nullT (Tree.mk kt st mt xt zt ut) = true
          ·have HKn := Lib.hid (below_kept HKb.out HKxy.out)
           have CN := Lib.hid (nul_any _ (Tree.mk kt st mt xt zt ut) (Nat.le_refl _) (.agg #[.int .u8 kt, .slice A1 st.length c1, .int .i64 mt, .int .i64 xt, .bool zt, .slice A2 ut.length c2]) wy ⟨_, rfl, NodeC.kept HKn.out _ _ (hide_un HNT.out)⟩)
           unfold NulC at CN
           rw [show nullT (Tree.mk kt st mt xt zt ut) = true from hnl] at CN
           have HRn := Lib.hid (range_kept HKxy.out hgb HRA1.out)
           go_upto_region 22 with (first | ((refine wpList_load_mid ?c0 25 (.tmp 121) ?c1 g (q.length * 6) ?c2 [.int .u8 kt, .slice A1 st.length c1, .int .i64 mt, .int .i64 xt, .bool zt, .slice A2 ut.length c2] _ ?c4 Tryz.underlying25 ?c3 sizeNd ?_); (case c0 => with_reducible rfl); (case c1 => with_reducible rfl); (case c2 => rfl); (case c3 => rfl); (case c4 => exact HRn.out)) | (go_at_call 25; refine CN.out.mono ?_; rintro e wn ⟨rfl, hkn⟩; have HBxn := Lib.hid (heap_kept hkn HBxy.out); have HRwn := Lib.hid (heap_kept hkn HRwy.out); have HKxn := Lib.hid (HKxy.out.trans (hkn.mono HKxy.out.size)); clear hkn))
           clear HKn CN HRn HBxy HRwy HKxy
           have hx8 := heap_kept HKxn.out Hx.out
           have c2 := row_cells hx8 2 _ rfl
           have z2 := row_cells HBxn.out 2 _ rfl
           have z3 := row_cells HBxn.out 3 _ rfl
           rw [add0] at c2 z2 z3
           have zf : ∀ j, wn.frozen? ⟨bx, j, none⟩ = false := fun j => Lib.frozen_of_heap HBxn.out j
           clear hx8
           go_upto_region 23 with fail
           clear c2 z2 z3 zf
           have HBt := heap_setCell_same wn bx 2 _ _ (.int .i64 (a % 2)) HBxn.out
           have HBxm : Hid (((wn.setCell ⟨bx, 2, none⟩ (.int .i64 (a % 2))).setCell ⟨bx, 3, none⟩ (.int .i64 1)).heap[bx]? = some (.cells #[.int .u8 5, .slice none 0 0, .int .i64 (a % 2), .int .i64 (1), .bool (decide (b % 2 = 1)), .slice (some ⟨rw0, 0, none⟩) 1 1] 25 (0, 0))) := heap_setCell_same (wn.setCell ⟨bx, 2, none⟩ (.int .i64 (a % 2))) bx 3 _ _ _ HBt
           have HKxm : Hid (Below wb.heap.size wb ((wn.setCell ⟨bx, 2, none⟩ (.int .i64 (a % 2))).setCell ⟨bx, 3, none⟩ (.int .i64 1))) := (HKxn.out.setCell (p := ⟨bx, 2, none⟩) hbx _).setCell (p := ⟨bx, 3, none⟩) hbx _
           have HRwm : Hid (((wn.setCell ⟨bx, 2, none⟩ (.int .i64 (a % 2))).setCell ⟨bx, 3, none⟩ (.int .i64 1)).heap[rw0]? = some (.cells #[.int .u8 kt, .slice A1 st.length c1, .int .i64 mt, .int .i64 xt, .bool zt, .slice A2 ut.length c2] 25 (0, 0))) := (heap_setCell_other (wn.setCell ⟨bx, 2, none⟩ (.int .i64 (a % 2))) ⟨bx, 3, none⟩ rw0 _ (Ne.symm hbr)).trans ((heap_setCell_other wn ⟨bx, 2, none⟩ rw0 _ (Ne.symm hbr)).trans HRwn.out)
           obtain ⟨w3, hwy⟩ : ∃ x, x = ((wn.setCell ⟨bx, 2, none⟩ (.int .i64 (a % 2))).setCell ⟨bx, 3, none⟩ (.int .i64 1)) := ⟨_, rfl⟩
           rw [← hwy] at HBxm HKxm HRwm ⊢
           clear hwy HBt HBxn HKxn HRwn
           have HKn := Lib.hid (below_kept HKb.out HKxm.out)
           have HTn := Lib.hid (there_kept HKn.out hgl HTH.out)
           have HpB : Hid (PartsI (W.heap.size + 1) w3 (.slice (some ⟨g, 0, none⟩) (q.length + 1) c3) (q ++ [(Tree.mk kt st mt xt zt ut)]) (ys ++ [.int .u8 kt, .slice A1 st.length c1, .int .i64 mt, .int .i64 xt, .bool zt, .slice A2 ut.length c2])) := by
            have := Hp.out.kept HKn.out
            rwa [hlen] at this
           have HND : Hid (NodeC (hideO (some g) (mask (W.heap.size + 1) w3)) (repN (Tree.mk kt st mt xt zt ut) a b) [.int .u8 5, .slice none 0 0, .int .i64 (a % 2), .int .i64 (1), .bool (decide (b % 2 = 1)), .slice (some ⟨rw0, 0, none⟩) 1 1]) := by
            show NodeC _ _ _
            unfold repN
            rw [if_pos hnl, if_pos hnl, show a % 4 % 2 = a % 2 from by omega]
            exact node_one (c := 1) (hide_sub HKn.out HNT.out) ((hide_at (by omega) (by omega)).trans HRwm.out)
           go_wp2_with (first | ((refine wpList_load_row ?c0 25 (.tmp 8) ?c1 bx ?c2 25 #[.int .u8 5, .slice none 0 0, .int .i64 (a % 2), .int .i64 (1), .bool (decide (b % 2 = 1)), .slice (some ⟨rw0, 0, none⟩) 1 1] (0, 0) _ ?c4 Tryz.underlying25 ?c3 sizeNd ?_); (case c0 => with_reducible rfl); (case c1 => with_reducible rfl); (case c2 => rfl); (case c3 => rfl); (case c4 => exact HBxm.out)) | ((refine wpList_store_mid ?c0 25 (.tmp 132) (.tmp 131) ?c1 g (q.length * 6) #[.int .u8 5, .slice none 0 0, .int .i64 (a % 2), .int .i64 (1), .bool (decide (b % 2 = 1)), .slice (some ⟨rw0, 0, none⟩) 1 1] ?c2 ?c3 ?c5 sizeNd ?c4 ?_); (case c0 => with_reducible rfl); (case c1 => with_reducible rfl); (case c2 => rfl); (case c3 => rfl); (case c4 => simp [Value.oneCell']); (case c5 => exact HTn.out)))
           have P5 := PartsI.put HpB.out (cs := [.int .u8 5, .slice none 0 0, .int .i64 (a % 2), .int .i64 (1), .bool (decide (b % 2 = 1)), .slice (some ⟨rw0, 0, none⟩) 1 1]) rfl HND.out
           have B5 := HB.out.trans (Below.grown (HKn.out.mono hBw) (grown_setCells g [.int .u8 5, .slice none 0 0, .int .i64 (a % 2), .int .i64 (1), .bool (decide (b % 2 = 1)), .slice (some ⟨rw0, 0, none⟩) 1 1] (q.length * 6) _) (by have := HKn.out.size; simp; omega) (fun k e => by cases e; exact hBg))
           go_roundw
           case rel =>
            rw [← Hst.out] at P5
            exact ⟨k + 1, _, by omega, by go_num, Lib.hid B5, Lib.hid P5⟩
           case measure => simp [intOf]; omega
          ·have HKn := Lib.hid (below_kept HKb.out HKxy.out)
           have CN := Lib.hid (nul_any _ (Tree.mk kt st mt xt zt ut) (Nat.le_refl _) (.agg #[.int .u8 kt, .slice A1 st.length c1, .int .i64 mt, .int .i64 xt, .bool zt, .slice A2 ut.length c2]) wy ⟨_, rfl, NodeC.kept HKn.out _ _ (hide_un HNT.out)⟩)
           unfold NulC at CN
           rw [show nullT (Tree.mk kt st mt xt zt ut) = false from Bool.not_eq_true _ ▸ hnl] at CN
           have HRn := Lib.hid (range_kept HKxy.out hgb HRA1.out)
           go_upto_region 23 with (first | ((refine wpList_load_mid ?c0 25 (.tmp 121) ?c1 g (q.length * 6) ?c2 [.int .u8 kt, .slice A1 st.length c1, .int .i64 mt, .int .i64 xt, .bool zt, .slice A2 ut.length c2] _ ?c4 Tryz.underlying25 ?c3 sizeNd ?_); (case c0 => with_reducible rfl); (case c1 => with_reducible rfl); (case c2 => rfl); (case c3 => rfl); (case c4 => exact HRn.out)) | (go_at_call 25; refine CN.out.mono ?_; rintro e wn ⟨rfl, hkn⟩; have HBxn := Lib.hid (heap_kept hkn HBxy.out); have HRwn := Lib.hid (heap_kept hkn HRwy.out); have HKxn := Lib.hid (HKxy.out.trans (hkn.mono HKxy.out.size)); clear hkn))
           clear HKn CN HRn HBxy HRwy HKxy
           have HKn := Lib.hid (below_kept HKb.out HKxn.out)
           have HTn := Lib.hid (there_kept HKn.out hgl HTH.out)
           have HpB : Hid (PartsI (W.heap.size + 1) wn (.slice (some ⟨g, 0, none⟩) (q.length + 1) c3) (q ++ [(Tree.mk kt st mt xt zt ut)]) (ys ++ [.int .u8 kt, .slice A1 st.length c1, .int .i64 mt, .int .i64 xt, .bool zt, .slice A2 ut.length c2])) := by
            have := Hp.out.kept HKn.out
            rwa [hlen] at this
           have HND : Hid (NodeC (hideO (some g) (mask (W.heap.size + 1) wn)) (repN (Tree.mk kt st mt xt zt ut) a b) [.int .u8 5, .slice none 0 0, .int .i64 (a % 4), .int .i64 (a % 4 + b / 2 % 3), .bool (decide (b % 2 = 1)), .slice (some ⟨rw0, 0, none⟩) 1 1]) := by
            show NodeC _ _ _
            unfold repN
            rw [if_neg hnl, if_neg hnl, if_neg h55]
            exact node_one (c := 1) (hide_sub HKn.out HNT.out) ((hide_at (by omega) (by omega)).trans HRwn.out)
           go_wp2_with (first | ((refine wpList_load_row ?c0 25 (.tmp 8) ?c1 bx ?c2 25 #[.int .u8 5, .slice none 0 0, .int .i64 (a % 4), .int .i64 (a % 4 + b / 2 % 3), .bool (decide (b % 2 = 1)), .slice (some ⟨rw0, 0, none⟩) 1 1] (0, 0) _ ?c4 Tryz.underlying25 ?c3 sizeNd ?_); (case c0 => with_reducible rfl); (case c1 => with_reducible rfl); (case c2 => rfl); (case c3 => rfl); (case c4 => exact HBxn.out)) | ((refine wpList_store_mid ?c0 25 (.tmp 132) (.tmp 131) ?c1 g (q.length * 6) #[.int .u8 5, .slice none 0 0, .int .i64 (a % 4), .int .i64 (a % 4 + b / 2 % 3), .bool (decide (b % 2 = 1)), .slice (some ⟨rw0, 0, none⟩) 1 1] ?c2 ?c3 ?c5 sizeNd ?c4 ?_); (case c0 => with_reducible rfl); (case c1 => with_reducible rfl); (case c2 => rfl); (case c3 => rfl); (case c4 => simp [Value.oneCell']); (case c5 => exact HTn.out)))
           have P5 := PartsI.put HpB.out (cs := [.int .u8 5, .slice none 0 0, .int .i64 (a % 4), .int .i64 (a % 4 + b / 2 % 3), .bool (decide (b % 2 = 1)), .slice (some ⟨rw0, 0, none⟩) 1 1]) rfl HND.out
           have B5 := HB.out.trans (Below.grown (HKn.out.mono hBw) (grown_setCells g [.int .u8 5, .slice none 0 0, .int .i64 (a % 4), .int .i64 (a % 4 + b / 2 % 3), .bool (decide (b % 2 = 1)), .slice (some ⟨rw0, 0, none⟩) 1 1] (q.length * 6) _) (by have := HKn.out.size; simp; omega) (fun k e => by cases e; exact hBg))
           go_roundw
           case rel =>
            rw [← Hst.out] at P5
            exact ⟨k + 1, _, by omega, by go_num, Lib.hid B5, Lib.hid P5⟩
           case measure => simp [intOf]; omega
      ·have h8 : ¬ kd % 10 < 8 := fun h => hk8 (.inl h)
       have h2 : ¬ p.length < 2 := fun h => hk8 (.inr h)
       obtain ⟨m, hm⟩ : ∃ m, m = p.length - 2 - (a % 2).toNat := ⟨_, rfl⟩
       have hmx : max (0 : Int) ((p.length : Int) - 1 - 1 - a % 2) = (m : Int) := by omega
       have hmx2 : max ((p.length : Int) - 1 - 1 - a % 2) (0 : Int) = (m : Int) := by omega
       have hml2 : m ≤ p.length := by omega
       have Hst : Hid (madeP (L.take (k + 1)) = p.take m ++ [.mk (3 + kd % 10 % 2) [] 0 0 false (p.drop m)]) := by show _ = _; rw [Hsp.out, hpx]; unfold stepM; rw [if_neg h0, if_neg h1, if_neg h5, if_neg hk8, hm]
       have hneg : ¬ (p.length : Int) - 1 < 0 := by omega
       have hneg1 : ¬ (p.length : Int) - 1 < 1 := by omega
       rcases Hp.out.o.2 with ⟨_, h0'⟩ | ⟨g, cap, cur, hv, hBg, hgh, hcc, _, _, _⟩
       ·exact absurd h0' (by omega)
       simp only [Value.slice.injEq, true_and] at hv
       obtain ⟨rfl, rfl⟩ := hv
       have hgl := heap_lt hgh
       have hml3 : m < p.length := by omega
       have hmc : m < c3 := by omega
       obtain ⟨p1, hp1⟩ : ∃ x, x = p.take m := ⟨_, rfl⟩
       obtain ⟨p2, hp2⟩ : ∃ x, x = p.drop m := ⟨_, rfl⟩
       have hl1 : p1.length = m := by rw [hp1, List.length_take]; omega
       have hl2 : p2.length = p.length - m := by rw [hp2, List.length_drop]
       have Hp1 : Hid (PartsI (W.heap.size + 1) wr (.slice (some ⟨g, 0, none⟩) p.length c3) (p1 ++ p2) xs) := by rw [hp1, hp2, List.take_append_drop]; exact Hp.out
       rw [← hp1, ← hp2] at Hst
       obtain ⟨zs, hzl, hxs, hzn, hzc⟩ := PartsI.top Hp1.out
       rw [hl1] at hzc
       have HZC := Lib.hid hzc
       have HZN := Lib.hid hzn
       have HXS := Lib.hid hxs
       have HL := Lib.hid hl1
       have HL2 := Lib.hid hl2
       clear Hsp hm hk8 h1 hp1 hp2 hgh hzc hzn hxs Hp
       have hkB : Kept wr ((wr.alloc (.cells #[.int .u8 kd, .int .u8 a, .int .u8 b] 83)).alloc (.cells #[] 25)) := ((Below.refl _ wr).alloc (Nat.le_refl _) _).alloc (by simp) _
       have HKB := Lib.hid hkB
       have hnb : ((wr.alloc (.cells #[.int .u8 kd, .int .u8 a, .int .u8 b] 83)).alloc (.cells #[] 25)).heap[wr.heap.size + 1]? = some (.cells #[] 25 (0, 0)) := by
        have := heap_alloc_new (wr.alloc (.cells #[.int .u8 kd, .int .u8 a, .int .u8 b] 83)) (.cells #[] 25)
        rw [World.size_alloc] at this
        exact this
       have HOW : Hid (World.ownsRow ((wr.alloc (.cells #[.int .u8 kd, .int .u8 a, .int .u8 b] 83)).alloc (.cells #[] 25)) (wr.heap.size + 1) 25 6 (.slice (some ⟨wr.heap.size + 1, 0, none⟩) 0 0) 0 []) := ⟨rfl, .inr ⟨wr.heap.size + 1, 0, #[], rfl, Nat.le_refl _, hnb, Nat.le_refl _, Nat.zero_le _, rfl, rfl⟩⟩
       have HZC2 : Hid (∀ (j : Nat) (u : Value), zs[j]? = some u → ((wr.alloc (.cells #[.int .u8 kd, .int .u8 a, .int .u8 b] 83)).alloc (.cells #[] 25)).cell? ((⟨g, m * 6, none⟩ : Addr).add j) = some u) := fun j u hu => (Below.cell hkB (p := (⟨g, m * 6, none⟩ : Addr).add j) (by rw [addBlock]; exact hgl)).trans (HZC.out j u hu)
       have HON := Lib.hid (NodesC.ones _ _ HZN.out)
       have HZL : Hid (zs.length = (p.length - m) * 6) := by show _ = _; rw [hzl, HL2.out]
       have HZN2 := Lib.hid (hides_sub hkB HZN.out)
       clear hkB hnb hzl
       go_upto_region 9 with (first | ((refine wpList_load_at ?c0 83 (.tmp 19) ?c1 (ad.add (k * 3)) ?c2 #[.int .u8 kd, .int .u8 a, .int .u8 b] _ ?c4 Tryz.underlying83 ?c3 sizeSm ?_); (case c0 => with_reducible rfl); (case c1 => with_reducible rfl); (case c2 => rfl); (case c3 => rfl); (case c4 => exact Hcl.out)) | (at_builtin; (refine wpList_append_own_at _ rfl _ _ 23 rfl (wr.heap.size + 1) 25 i0 _ 6 80 Tryz.underlying23 hi0 hz0 hz1 hz2 rfl (by decide) _ 0 [] rfl HOW.out ⟨g, m * 6, none⟩ (p.length - m) (c3 - m) zs rfl HZL.out HZC2.out HON.out (by unfold maxLen; omega) (by omega) (by simp) ?_); intro v5 w5 hown5 hg5 hn5 hl5; obtain ⟨A5, c5, rfl, hrd5⟩ := rdp_hide (B := W.heap.size + 1) (g := some g) hown5 (by omega) (fun k e => by cases e; omega); have Hrd5 := Lib.hid hrd5; have HG5 : Hid (World.grownBy _ w5 (some (wr.heap.size + 1))) := hg5; clear hown5 hg5 hn5 hl5 hrd5))
       have hK5 : Kept wr w5 := kept_own2 HKB.out HG5.out (Nat.le_succ _)
       obtain ⟨wd, hwd⟩ : ∃ x, x = w5.alloc (.cells #[.int .u8 (3 + kd % 2), .slice none 0 0, .int .i64 0, .int .i64 0, .bool false, .slice A5 (p.length - m) c5] 25) := ⟨_, rfl⟩
       have hKd0 : Kept w5 wd := by rw [hwd]; exact (Below.refl _ w5).alloc (Nat.le_refl _) _
       have hKd : Kept w5 wd.drew := below_drew0 hKd0
       have Hbx : Hid (wd.drew.heap[w5.heap.size]? = some (.cells #[.int .u8 (3 + kd % 2), .slice none 0 0, .int .i64 0, .int .i64 0, .bool false, .slice A5 (p.length - m) c5] 25 (0, 0))) := by
        show _ = _
        refine heap_drew0 ?_
        rw [hwd]
        exact heap_alloc_new w5 _
       have HKw := Lib.hid (below_kept hK5 hKd0)
       have hwz : W.heap.size + 1 ≤ wd.heap.size := Nat.le_trans hBw HKw.out.size
       have hmc2 : m ≤ c3 := by omega
       have hg5l : g < w5.heap.size := Nat.lt_of_lt_of_le hgl hK5.size
       have Hpc : Hid (PartsI (W.heap.size + 1) wd (.slice (some ⟨g, 0, none⟩) m c3) p1 (xs.take (m * 6))) := by
        have := (PartsI.cut Hp1.out).kept HKw.out
        rw [hl1] at this
        exact this
       have HND : Hid (NodeC (hideO (some g) (mask (W.heap.size + 1) wd)) (.mk (3 + kd % 2) [] 0 0 false p2) [.int .u8 (3 + kd % 2), .slice none 0 0, .int .i64 0, .int .i64 0, .bool false, .slice A5 (p.length - m) c5]) := by
        have h1 := rdp_hsub hKd0 Hrd5.out
        rw [Nat.zero_add, List.nil_append, ← HL2.out] at h1
        have := node_parts (kd := 3 + kd % 2) (mn := 0) (mx := 0) (lz := false) (c := c5) (by omega) h1 (hides_sub HKw.out HZN.out)
        rw [HL2.out] at this
        exact this
       have HOWN : Hid (World.ownsRow (wd.alloc (.cells #[.int .u8 (3 + kd % 2), .slice none 0 0, .int .i64 0, .int .i64 0, .bool false, .slice A5 (p.length - m) c5] 25)) (W.heap.size + 1) 25 6 (.slice (some ⟨g, 0, none⟩) m c3) m (xs.take (m * 6))) := by
        have := Hpc.out.o.alloc (.cells #[.int .u8 (3 + kd % 2), .slice none 0 0, .int .i64 0, .int .i64 0, .bool false, .slice A5 (p.length - m) c5] 25)
        rw [hl1] at this
        exact this
       rw [show kd % 10 % 2 = kd % 2 from by omega] at Hst
       rw [← hwd]
       clear hwd hK5 hKd0 hKd HKB HOW HZC HZC2 HZL HZN HZN2 HON Hp1 Hrd5 HG5
       refine wp_region_held_drew (S := fun W => W.heap[w5.heap.size]? = some (.cells #[.int .u8 (3 + kd % 2), .slice none 0 0, .int .i64 0, .int .i64 0, .bool false, .slice A5 (p.length - m) c5] 25 (0, 0))) (by kernel_rfl) ?_ (fun hHeld => ?_)
       ·exact Hbx.out
       refine tkC 0 (oi := ⟨some 44, _, _, _, _, _⟩) (v := ?_) rfl (by kernel_rfl) (fun _ _ _ h => h) (by rfl) ?_ hHeld ?_
       rotate_left
       ·(intro w hSw; obtain hx := hSw; refine .inl ?_; go_simp; (try with_reducible rfl))
       try simp only [pU1, pU2, pU3, pU4]
       refine tkC 1 (oi := ⟨some 45, _, _, _, _, _⟩) (v := ?_) rfl (by kernel_rfl) (fun _ _ _ h => h) (by rfl) ?_ hHeld ?_
       rotate_left
       ·(intro w hSw; obtain hx := hSw; refine .inl ?_; go_simp; (try with_reducible rfl))
       try simp only [pU1, pU2, pU3, pU4]
       refine tkC 2 (oi := ⟨some 46, _, _, _, _, _⟩) (v := ?_) rfl (by kernel_rfl) (fun _ _ _ h => h) (by rfl) ?_ hHeld ?_
       rotate_left
       ·(intro w hSw; obtain hx := hSw; refine .inl ?_; go_simp; (try with_reducible rfl))
       try simp only [pU1, pU2, pU3, pU4]
       refine wpAnyH_takeC (i := 3) (oi := ⟨some 47, _, _, _, _, _⟩) rfl (by kernel_rfl) (by kernel_rfl) (by kernel_rfl) (fun _ _ _ h => h) (yieldsC_row rfl 25 _ rfl ⟨w5.heap.size, 0, none⟩ rfl #[.int .u8 (3 + kd % 2), .slice none 0 0, .int .i64 0, .int .i64 0, .bool false, .slice A5 (p.length - m) c5] _ (fun w hw => row_cells hw) Tryz.underlying25 rfl sizeNd) hHeld ?_
       try simp only [pU1, pU2, pU3, pU4]
       refine wpAnyH_ready (rs := [4]) (by kernel_rfl) (by simp) ?_
       refine AllReadyH.cons (o := ⟨some 48, _, _, _, _, _⟩) rfl (fun K hK => ?_) (AllReadyH.nil)
       go_simp
       refine hK.out _ _ ((Below.heap_alloc _ _ _ (heap_lt hHeld)).trans hHeld) (fun hHeld2 => ?_)
       replace hHeld := hHeld2
       clear hHeld2
       clear hK
       try simp only [pU1, pU2, pU3, pU4]
       refine wpAnyH_ready (rs := [5]) (by kernel_rfl) (by simp) ?_
       refine AllReadyH.cons (o := ⟨some 49, _, _, _, _, _⟩) rfl (fun K hK => ?_) (AllReadyH.nil)
       refine step_own rfl _ _ 23 rfl (W.heap.size + 1) 25 i0 _ 6 80 Tryz.underlying23 hi0 hz0 hz1 hz2 rfl (by decide) _ m (xs.take (m * 6)) rfl (HOWN.out) ⟨wd.heap.size, 0, none⟩ 1 1 [.int .u8 (3 + kd % 2), .slice none 0 0, .int .i64 0, .int .i64 0, .bool false, .slice A5 (p.length - m) c5] rfl rfl (cells_new wd [.int .u8 (3 + kd % 2), .slice none 0 0, .int .i64 0, .int .i64 0, .bool false, .slice A5 (p.length - m) c5] 25) (by intro u hu; simp at hu; rcases hu with rfl | rfl | rfl | rfl | rfl | rfl <;> rfl) (by unfold maxLen; omega) (by omega) (by simp; omega) ?_
       intro v6 w6 hown6 hg6 hl6
       obtain ⟨A6, n6, c6, rfl⟩ : ∃ A n c, v6 = .slice A n c := by rcases hown6.2 with ⟨h, _⟩ | ⟨_, _, _, h, _⟩ <;> exact ⟨_, _, _, h⟩
       have hown7 : w6.ownsRow (W.heap.size + 1) 25 6 (.slice A6 n6 c6) (p1.length + 1) (xs.take (m * 6) ++ [.int .u8 (3 + kd % 2), .slice none 0 0, .int .i64 0, .int .i64 0, .bool false, .slice A5 (p.length - m) c5]) := by rw [hl1]; exact hown6
       have hq := PartsI.step2 (w5 := w6) (.cells #[.int .u8 (3 + kd % 2), .slice none 0 0, .int .i64 0, .int .i64 0, .bool false, .slice A5 (p.length - m) c5] 25) Hpc.out hwz HND.out hown7 ⟨hg6.os, hg6.tape, hg6.output, hg6.size, hg6.block⟩ hl6
       obtain ⟨P5, B5'⟩ := hq
       have P5h := Lib.hid P5
       have B5 := Lib.hid (HB.out.trans ((HKw.out.mono hBw).trans B5'))
       have S6 : w6.heap[w5.heap.size]? = some (.cells #[.int .u8 (3 + kd % 2), .slice none 0 0, .int .i64 0, .int .i64 0, .bool false, .slice A5 (p.length - m) c5] 25 (0, 0)) := (hg6.block _ (heap_lt hHeld) (by intro e; have e2 : w5.heap.size = g := Option.some.inj e; omega)).trans hHeld
       clear hown6 hown7 hg6 hl6 P5 B5' HOWN Hpc HND
       go_simp
       refine hK.out _ _ S6 (fun hHeld2 => ?_)
       clear hHeld S6
       have hHeld := hHeld2
       clear hHeld2
       clear hK
       try simp only [pU1, pU2, pU3, pU4]
       refine tkC 6 (oi := ⟨some 3, _, _, _, _, _⟩) (v := ?_) rfl (by kernel_rfl) (fun _ _ _ h => h) (by rfl) ?_ hHeld ?_
       rotate_left
       ·(intro w hSw; obtain hx := hSw; refine .inl ?_; go_simp; (try with_reducible rfl))
       try simp only [pU1, pU2, pU3, pU4]
       refine wpAnyH_done (by kernel_rfl) ?_ _
       go_wp2_with fail
       have P5 := P5h.out
       have B5 := B5.out
       go_roundw
       case rel =>
        rw [← Hst.out] at P5
        exact ⟨k + 1, _, by omega, by go_num, Lib.hid B5, Lib.hid P5⟩
       case measure => simp [intOf]; omega
  ·obtain rfl : k = n := by omega
   have H2 := Lib.hid ((HB.out.block W.heap.size (by omega)).trans HZ.out)
   have HKr := Lib.hid (HK.out.trans (HB.out.mono (Nat.le_succ _)))
   have hml : (madeP (L.take k)).length ≤ 20 := by
    have h1 : (madeP (L.take k)).length ≤ 0 + (L.take k).length := (madeP_g (L.take k) [] 0 ⟨by simp, by decide, by simp⟩).l
    rw [List.length_take] at h1
    omega
   obtain ⟨p, hpx⟩ : ∃ p, madeP (L.take k) = p := ⟨_, rfl⟩
   rw [hpx] at Hp0 hml HT
   obtain ⟨A3, c3, rfl, hrm, _⟩ := Hp0.out.row
   have HRM := Lib.hid hrm
   have HN := Lib.hid Hp0.out.nodes
   clear hrm HZ HB HK HS HR hpx
   rcases p with _ | ⟨t, _ | ⟨t2, ts⟩⟩
   ·go_wp2_with ((refine wpList_store_row ?c0 25 (.tmp 2) (.tmp 138) ?c1 W.heap.size #[.int .u8 1, .slice none 0 0, .int .i64 0, .int .i64 0, .bool false, .slice none 0 0] ?c2 ?c3 _ _ H2.out ?c4 ?c5 ?c6 ?_); (case c0 => with_reducible rfl); (case c1 => with_reducible rfl); (case c2 => rfl); (case c3 => rfl); (case c4 => exact sizeNd); (case c5 => rfl); (case c6 => simp [Value.oneCell']))
    exact bodyPost_ret (results_cell_row Tryz.results17 _ _ W.heap.size _ #[.int .u8 1, .slice none 0 0, .int .i64 0, .int .i64 0, .bool false, .slice none 0 0] (0, 0) _ rfl (setRow_heap _ _ _ _ _ _ H2.out) Tryz.underlying25 rfl sizeNd) rfl ⟨_, rfl, by rw [HT.out]; exact NodeM.set ⟨[.int .u8 1, .slice none 0 0, .int .i64 0, .int .i64 0, .bool false, .slice none 0 0], rfl, eT_nodeC _⟩ (Nat.le_succ W.heap.size) (Nat.lt_succ_self _) _, below_setRow HKr.out (Nat.le_refl _) _⟩
   ·obtain ⟨g, c9, ys, cs, hv, rfl, hly, hlc, hra, hth, hnt, hBg, hgl⟩ := PartsI.last (p := []) Hp0.out
    obtain rfl : ys = [] := List.length_eq_zero_iff.1 (by simpa using hly)
    simp only [Value.slice.injEq, List.length_cons, List.length_nil, Nat.zero_add, true_and] at hv
    obtain ⟨rfl, rfl⟩ := hv
    obtain ⟨kt, st, mt, xt, zt, ut⟩ := t
    have hnt2 := hnt
    unfold NodeC at hnt2
    obtain ⟨A1, c1, A2, c2, rfl, _⟩ := hnt2
    have HRA1 : Hid (wr.rangeAt g 0 [.int .u8 kt, .slice A1 st.length c1, .int .i64 mt, .int .i64 xt, .bool zt, .slice A2 ut.length c2]) := hra
    clear hra hth hnt hly hlc hBg hgl HRM Hp0
    go_wp2_with (first | ((refine wpList_load_mid ?c0 25 (.tmp 142) ?c1 g 0 ?c2 [.int .u8 kt, .slice A1 st.length c1, .int .i64 mt, .int .i64 xt, .bool zt, .slice A2 ut.length c2] _ ?c4 Tryz.underlying25 ?c3 sizeNd ?_); (case c0 => with_reducible rfl); (case c1 => with_reducible rfl); (case c2 => rfl); (case c3 => rfl); (case c4 => exact HRA1.out)) | ((refine wpList_store_row ?c0 25 (.tmp 2) (.tmp 143) ?c1 W.heap.size #[.int .u8 kt, .slice A1 st.length c1, .int .i64 mt, .int .i64 xt, .bool zt, .slice A2 ut.length c2] ?c2 ?c3 _ _ H2.out ?c4 ?c5 ?c6 ?_); (case c0 => with_reducible rfl); (case c1 => with_reducible rfl); (case c2 => rfl); (case c3 => rfl); (case c4 => exact sizeNd); (case c5 => rfl); (case c6 => simp [Value.oneCell'])))
    exact bodyPost_ret (results_cell_row Tryz.results17 _ _ W.heap.size _ #[.int .u8 kt, .slice A1 st.length c1, .int .i64 mt, .int .i64 xt, .bool zt, .slice A2 ut.length c2] (0, 0) _ rfl (setRow_heap _ _ _ _ _ _ H2.out) Tryz.underlying25 rfl sizeNd) rfl ⟨_, rfl, by rw [HT.out]; exact NodeM.set ⟨[.int .u8 kt, .slice A1 st.length c1, .int .i64 mt, .int .i64 xt, .bool zt, .slice A2 ut.length c2], rfl, HN.out.sole⟩ (Nat.le_succ W.heap.size) (Nat.lt_succ_self _) _, below_setRow HKr.out (Nat.le_refl _) _⟩
   ·obtain ⟨p, hp⟩ : ∃ p, p = t :: t2 :: ts := ⟨_, rfl⟩
    rw [← hp] at HRM HN HT hml ⊢
    have hp2 : 2 ≤ p.length := by rw [hp]; simp
    have HT2 : Hid (madeE p = .mk 3 [] 0 0 false p) := by show _ = _; unfold madeE; rw [if_neg (by omega), if_neg (by omega)]
    clear hp Hp0
    go_wp2_with ((refine wpList_store_row ?c0 25 (.tmp 2) (.tmp 145) ?c1 W.heap.size #[.int .u8 3, .slice none 0 0, .int .i64 0, .int .i64 0, .bool false, .slice A3 p.length c3] ?c2 ?c3 _ _ H2.out ?c4 ?c5 ?c6 ?_); (case c0 => with_reducible rfl); (case c1 => with_reducible rfl); (case c2 => rfl); (case c3 => rfl); (case c4 => exact sizeNd); (case c5 => rfl); (case c6 => simp [Value.oneCell']))
    exact bodyPost_ret (results_cell_row Tryz.results17 _ _ W.heap.size _ #[.int .u8 3, .slice none 0 0, .int .i64 0, .int .i64 0, .bool false, .slice A3 p.length c3] (0, 0) _ rfl (setRow_heap _ _ _ _ _ _ H2.out) Tryz.underlying25 rfl sizeNd) rfl ⟨_, rfl, by rw [HT.out]; exact by rw [HT2.out]; exact NodeM.set ⟨_, rfl, node_parts (by omega) HRM.out HN.out⟩ (Nat.le_succ W.heap.size) (Nat.lt_succ_self _) _, below_setRow HKr.out (Nat.le_refl _) _⟩
end
end Go.Proofs.YtmgkdmbifecekaaGreatDoor
