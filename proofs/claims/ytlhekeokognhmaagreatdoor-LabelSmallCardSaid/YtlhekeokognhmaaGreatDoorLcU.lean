/-
  The statements' kit: ApartLabels of slices that lie apart.
-/
import Derived.Test.YtlhekeokognhmaaGreatDoorMgbf
import Derived.Deep.DeepCutAuto
namespace Go.Proofs.YtlhekeokognhmaaGreatDoor
open Go.RowKit Go.Shelf Go.Maps Go.Sort
/-- Marks, so many of them. -/
def mks (m : Int) (k : Nat) : List Lab := (List.range k).map fun j : Nat => mkLab m (j : Int)
theorem mks_length (m : Int) (k : Nat) : (mks m k).length = k := by simp [mks]
theorem mks_succ (m : Int) (k : Nat) : mks m (k + 1) = mks m k ++ [mkLab m (k : Int)] := by unfold mks; rw [List.range_succ, List.map_append]; rfl
theorem mks_get (m : Int) {c k : Nat} (h : k < c) : (mks m c)[k]? = some (mkLab m (k : Int)) := by
  unfold mks
  rw [List.getElem?_map, List.getElem?_range h]
  rfl
/-- A slice that is nil, or has a block of its own from its beginning on. -/
def SlotAt (w : World) (B gL : Nat) (v : Value) : Prop := v = .slice none 0 0 ∨ ∃ g n c cur, v = .slice (some ⟨g, 0, none⟩) n c ∧ B ≤ g ∧ g ≠ gL ∧ w.heap[g]? = some (.cells cur 33 (0, 0)) ∧ cur.size = c * 2 ∧ n ≤ c ∧ c ≤ maxLen
def FullAt (w : World) (m : Int) (v : Value) : Prop := v = .slice none 0 0 ∨ ∃ g n c, v = .slice (some ⟨g, 0, none⟩) n c ∧ w.heap[g]? = some (.cells (labs (mks m c)).toArray 33 (0, 0))
/-- No two of them have one block. -/
def ApartV (vs : List Value) : Prop := vs.Pairwise fun a b => ∀ g, a.ownBlock = some g → b.ownBlock ≠ some g
theorem apart_ne {vs : List Value} (h : ApartV vs) {i j g : Nat} {a b : Value} (hij : i ≠ j) (ha : vs[i]? = some a) (hb : vs[j]? = some b) (hg : a.ownBlock = some g) : b.ownBlock ≠ some g := by
  unfold ApartV at h
  rw [List.pairwise_iff_getElem] at h
  obtain ⟨hi, rfl⟩ := List.getElem?_eq_some_iff.1 ha
  obtain ⟨hj, rfl⟩ := List.getElem?_eq_some_iff.1 hb
  rcases Nat.lt_or_gt_of_ne hij with h1 | h1
  · exact h i j hi hj h1 g hg
  · intro e
    exact h j i hj hi h1 g e hg
theorem SlotAt.same {w w' : World} {B gL : Nat} {v : Value} (h : SlotAt w B gL v) (hs : ∀ g, v.ownBlock = some g → w'.heap[g]? = w.heap[g]?) : SlotAt w' B gL v := by
  rcases h with h | ⟨g, n, c, cur, rfl, h1, h2, h3, h4⟩
  · exact .inl h
  · exact .inr ⟨g, n, c, cur, rfl, h1, h2, (hs g rfl).trans h3, h4⟩
theorem FullAt.same {w w' : World} {m : Int} {v : Value} (h : FullAt w m v) (hs : ∀ g, v.ownBlock = some g → w'.heap[g]? = w.heap[g]?) : FullAt w' m v := by
  rcases h with h | ⟨g, n, c, rfl, h3⟩
  · exact .inl h
  · exact .inr ⟨g, n, c, rfl, (hs g rfl).trans h3⟩
theorem SlotAt.lt {w : World} {B gL g : Nat} {v : Value} (h : SlotAt w B gL v) (hg : v.ownBlock = some g) : g < w.heap.size ∧ g ≠ gL := by
  rcases h with rfl | ⟨g', n, c, cur, rfl, h1, h2, h3, h4⟩
  · cases hg
  · cases hg; exact ⟨heap_lt h3, h2⟩
theorem FullAt.lt {w : World} {m : Int} {g : Nat} {v : Value} (h : FullAt w m v) (hg : v.ownBlock = some g) : g < w.heap.size := by
  rcases h with rfl | ⟨g', n, c, rfl, h3⟩
  · cases hg
  · cases hg; exact heap_lt h3
theorem FullAt.kept {w w' : World} {m : Int} {v : Value} (h : FullAt w m v) (hk : Kept w w') : FullAt w' m v := h.same fun g hg => Below.block hk g (h.lt hg)
theorem splice_mid (a b c d : List Value) (h : b.length = c.length) : splice (a ++ (b ++ d)) a.length c = (a ++ c) ++ d := by
  have h1 : (a ++ (b ++ d)).drop (a.length + c.length) = d := by rw [← h, ← List.length_append, ← List.append_assoc, List.drop_left]
  unfold splice
  rw [h1, List.take_left, List.append_assoc]
set_option maxRecDepth 100000 in
set_option maxHeartbeats 8000000 in
theorem apartL_any (vs : List Value) (N : Nat) (hN : vs.length = N) (hN2 : N ≤ 1000) (B gL : Nat) (hap : ApartV vs) (w : World) (hBw : B ≤ w.heap.size) (hrow : ∀ j x, vs[j]? = some x → w.cell? ⟨gL, j, none⟩ = some x) (hgl : gL < w.heap.size) (hsl : ∀ x ∈ vs, SlotAt w B gL x) :
    Calls Tryz.prog 41 #[.slice (some ⟨gL, 0, none⟩) N N] w fun e w' => e = .returned (.bool true) ∧ Below B w w' := by
  have HAP := Lib.hid hap
  have HN := Lib.hid hN
  have HROW := Lib.hid hrow
  have HSL := Lib.hid hsl
  have HBW := Lib.hid hBw
  clear hap hN hrow hsl hBw
  go_enter Tryz.func41, Tryz.ntmps41
  go_wp2_with fail
  go_loopw [3] (fun v3 wr => ∃ i : Nat, i ≤ N ∧ v3 = .int .i64 i ∧ Hid (Below B w wr) ∧ Hid (wr.heap[gL]? = w.heap[gL]?) ∧ Hid (∀ x ∈ vs, SlotAt wr B gL x) ∧ Hid (∀ j x, j < i → vs[j]? = some x → FullAt wr (20 + (j : Int)) x)) (fun v3 _ => N - (intOf v3).toNat)
  case atStart => exact ⟨0, by omega, rfl, Below.refl _ _, rfl, HSL.out, fun _ _ h => by omega⟩
  case round =>
    obtain ⟨i, hi, rfl, hB, hgr, hsl, hfu⟩ := hrel
    by_cases hin : i < N
    · obtain ⟨x, hx⟩ : ∃ x, vs[i]? = some x := ⟨_, List.getElem?_eq_getElem (by rw [HN.out]; exact hin)⟩
      have Hx := Lib.hid hx
      have hcx : wr.cell? ⟨gL, i, none⟩ = some x := by
        have h1 := HROW.out i x hx
        unfold World.cell? at h1 ⊢
        rw [hgr.out]
        exact h1
      have hinI : (i : Int) < (N : Int) := by omega
      have hw20 : IntKind.i64.wrap (20 + (i : Int)) = 20 + (i : Int) := by rw [IntWalk.i64_in _ (by omega)]
      rcases hsl.out x (List.mem_of_getElem? hx) with rfl | ⟨g, n, c, cur, rfl, hBg, hgL, hg, hcs, hnc, hcm⟩
      · clear hx
        go_upto_region 4 with fail
        go_quiet (fail)
        have K5 : Kept wr (wr.drewN nq) := below_drewN (Below.refl _ _) nq
        have HB5 : Hid (Below B w (wr.drewN nq)) := below_drewN hB.out nq
        have hg5 : Hid ((wr.drewN nq).heap[gL]? = w.heap[gL]?) := hgr.out
        have hsl5 : Hid (∀ x ∈ vs, SlotAt (wr.drewN nq) B gL x) := fun x hx => (hsl.out x hx).same fun _ _ => rfl
        have hfu5 : Hid (∀ j x, j < i → vs[j]? = some x → FullAt (wr.drewN nq) (20 + (j : Int)) x) := fun j x h1 h2 => (hfu.out j x h1 h2).same fun _ _ => rfl
        generalize wr.drewN nq = w5 at *
        clear hcx K5 hB hgr hsl hfu
        go_wp2_with fail
        go_loopw [5] (fun v5 wi => v5 = .int .i64 0 ∧ wi = w5) (fun v5 _ => 0)
        case atStart => exact ⟨rfl, rfl⟩
        case round =>
          obtain ⟨rfl, hwi⟩ := hrel
          obtain rfl := hwi
          go_wp2_with fail
          go_roundw
          case rel =>
            refine ⟨i + 1, by omega, by go_num, HB5, hg5, hsl5, fun j x hj hx => ?_⟩
            rcases Nat.lt_or_eq_of_le (Nat.lt_succ_iff.1 hj) with h | rfl
            · exact hfu5.out j x h hx
            · rw [Hx.out] at hx; cases hx; exact .inl rfl
          case measure => simp [intOf]; omega
      · have Hcs := Lib.hid hcs
        have Hcm := Lib.hid hcm
        have Hg := Lib.hid hg
        have HBg := Lib.hid hBg
        have HgL := Lib.hid hgL
        clear hx hcs hcm hg hBg hgL
        go_upto_region 4 with fail
        go_quiet (fail)
        have HB5 : Hid (Below B w (wr.drewN nq)) := below_drewN hB.out nq
        have hg5 : Hid ((wr.drewN nq).heap[gL]? = w.heap[gL]?) := hgr.out
        have hsl5 : Hid (∀ x ∈ vs, SlotAt (wr.drewN nq) B gL x) := fun x hx => (hsl.out x hx).same fun _ _ => rfl
        have hfu5 : Hid (∀ j x, j < i → vs[j]? = some x → FullAt (wr.drewN nq) (20 + (j : Int)) x) := fun j x h1 h2 => (hfu.out j x h1 h2).same fun _ _ => rfl
        have Hg5 : Hid ((wr.drewN nq).heap[g]? = some (.cells cur 33 (0, 0))) := Hg.out
        generalize wr.drewN nq = w5 at *
        clear hcx hB hgr hsl hfu Hg
        go_wp2_with fail
        go_loopw [5] (fun v5 wi => ∃ k : Nat, k ≤ c ∧ v5 = .int .i64 k ∧ Hid (Below B w wi) ∧ Hid (∃ rest : List Value, wi.heap[g]? = some (.cells (labs (mks (20 + (i : Int)) k) ++ rest).toArray 33 (0, 0)) ∧ rest.length = (c - k) * 2) ∧ Hid (w5.heap.size ≤ wi.heap.size ∧ ∀ q, q ≠ g → q < w5.heap.size → wi.heap[q]? = w5.heap[q]?)) (fun v5 _ => c - (intOf v5).toNat)
        case atStart => exact ⟨0, by omega, rfl, HB5, ⟨cur.toList, by rw [Hg5.out]; rfl, by rw [Array.length_toList, Hcs.out, Nat.sub_zero]⟩, ⟨Nat.le_refl _, fun _ _ _ => rfl⟩⟩
        case round =>
          obtain ⟨k, hk, rfl, hBi, hcu, hoth⟩ := hrel
          obtain ⟨wi, rfl⟩ : ∃ x, x = wr := ⟨_, rfl⟩
          by_cases hkc : k < c
          · obtain ⟨rest, hg', hrl⟩ := hcu.out
            have CM := Lib.hid (fun W => markLabel_any (20 + (i : Int)) (k : Int) W)
            have Hmk := Lib.hid (mks_succ (20 + (i : Int)) k)
            have Hll := Lib.hid (labs_length (mks (20 + (i : Int)) k))
            rw [mks_length] at Hll
            have hw : IntKind.i64.wrap ((k : Int) + 1) = (k : Int) + 1 := by
              have := Hcm.out
              unfold maxLen at this
              rw [IntWalk.i64_in _ (by omega)]
            have HG' := Lib.hid hg'
            have Hrl := Lib.hid hrl
            have hgl2 : g < wi.heap.size := heap_lt hg'
            generalize mkLab (20 + (i : Int)) (k : Int) = x at *
            obtain ⟨xa, xb⟩ := x
            dsimp only at CM
            have Hold : Hid (k * 2 + 2 ≤ (labs (mks (20 + (i : Int)) k) ++ rest).length) := by
              show _ ≤ _
              rw [List.length_append, Hll.out, Hrl.out]
              omega
            clear hg' hrl hcu
            go_wp2_with (first
              | (go_at_call 71; (with_reducible refine (CM.out _).mono ?_); rintro e w3 ⟨rfl, hk3⟩; have HK3 : Hid (Kept wi w3) := hk3; clear hk3)
              | (refine wpList_store_at rfl 33 (.tmp 37) (.tmp 36) rfl g (k * 2) [.string xa, .string xb] rfl rfl 33 (labs (mks (20 + (i : Int)) k) ++ rest) (heap_kept HK3.out HG'.out) sizeL Hold.out (by intro u hu; simp at hu; rcases hu with rfl | rfl <;> rfl) ?_))
            go_roundw
            case rel =>
              have hsp : splice (labs (mks (20 + (i : Int)) k) ++ rest) (k * 2) [.string xa, .string xb] = labs (mks (20 + (i : Int)) (k + 1)) ++ rest.drop 2 := by
                have h1 := splice_mid (labs (mks (20 + (i : Int)) k)) (rest.take 2) [.string xa, .string xb] (rest.drop 2) (by rw [List.length_take, Hrl.out]; show min 2 _ = 2; omega)
                rw [List.take_append_drop, Hll.out] at h1
                rw [h1, Hmk.out, labs_mk]
              refine ⟨k + 1, by omega, by go_num, ?_, ⟨rest.drop 2, ?_, ?_⟩, ⟨?_, fun q hq hql => ?_⟩⟩
              · exact below_setRow (hBi.out.trans (HK3.out.mono (Nat.le_trans HBW.out hBi.out.size))) HBg.out _
              · rw [hsp]
                exact setRow_heap _ _ _ _ _ _ (heap_kept HK3.out HG'.out)
              · rw [List.length_drop, Hrl.out]; omega
              · rw [show ((w3.setRow g _).heap.size) = w3.heap.size from by simp]
                exact Nat.le_trans hoth.out.1 HK3.out.size
              · rw [setRow_other _ _ _ _ hq, Below.block HK3.out q (Nat.lt_of_lt_of_le hql hoth.out.1)]
                exact hoth.out.2 q hq hql
            case measure => simp [intOf]; omega
          · obtain rfl : k = c := by omega
            obtain ⟨rest, hg', hrl⟩ := hcu.out
            obtain rfl := List.eq_nil_of_length_eq_zero (by rw [hrl]; omega : rest.length = 0)
            rw [List.append_nil] at hg'
            have HG' := Lib.hid hg'
            have hown : (Value.slice (some ⟨g, 0, none⟩) n k).ownBlock = some g := rfl
            have hgr2 : Hid (wi.heap[gL]? = w.heap[gL]?) := (hoth.out.2 gL (fun e => HgL.out e.symm) (Nat.lt_of_lt_of_le hgl HB5.out.size)).trans hg5.out
            have hsl2 : Hid (∀ x ∈ vs, SlotAt wi B gL x) := fun x hx => by
              obtain ⟨j, hj⟩ := List.getElem?_of_mem hx
              by_cases hji : j = i
              · subst hji
                rw [Hx.out] at hj
                cases hj
                exact .inr ⟨g, n, k, _, rfl, HBg.out, HgL.out, HG'.out, by rw [List.size_toArray, labs_length, mks_length], hnc, Hcm.out⟩
              · refine (hsl5.out x hx).same fun q hq => hoth.out.2 q (fun e => ?_) ((hsl5.out x hx).lt hq).1
                subst e
                exact apart_ne HAP.out (fun e => hji e.symm) Hx.out hj hown hq
            have hfu2 : Hid (∀ j x, j < i + 1 → vs[j]? = some x → FullAt wi (20 + (j : Int)) x) := fun j x hj hx => by
              rcases Nat.lt_or_eq_of_le (Nat.lt_succ_iff.1 hj) with h | rfl
              · refine (hfu5.out j x h hx).same fun q hq => hoth.out.2 q (fun e => ?_) ((hfu5.out j x h hx).lt hq)
                subst e
                exact apart_ne HAP.out (fun e => by omega) Hx.out hx hown hq
              · rw [Hx.out] at hx; cases hx
                exact .inr ⟨g, n, k, rfl, HG'.out⟩
            clear hcu hg' hrl hoth hfu5 hsl5 hg5 HB5 Hg5 hown
            go_wp2_with fail
            go_roundw
            case rel => exact ⟨i + 1, by omega, by go_num, hBi, hgr2, hsl2, hfu2⟩
            case measure => simp [intOf]; omega
    · obtain rfl : i = N := by omega
      obtain ⟨w2, rfl⟩ : ∃ x, x = wr := ⟨_, rfl⟩
      have HFU : Hid (∀ (j : Nat) x, vs[j]? = some x → FullAt w2 (20 + (j : Int)) x) := fun j x hx => hfu.out j x (by rw [← HN.out]; exact (List.getElem?_eq_some_iff.1 hx).1) hx
      have HSL2 := hsl
      clear hfu hsl HSL
      go_wp2_with fail
      go_loopw [6] (fun v6 wr => ∃ j : Nat, j ≤ i ∧ v6 = .int .i64 j ∧ Hid (Kept w2 wr)) (fun v6 _ => i - (intOf v6).toNat)
      case atStart => exact ⟨0, by omega, rfl, Below.refl _ _⟩
      case round =>
        obtain ⟨j, hj, rfl, hkr⟩ := hrel
        by_cases hjn : j < i
        · obtain ⟨x, hx⟩ : ∃ x, vs[j]? = some x := ⟨_, List.getElem?_eq_getElem (by rw [HN.out]; exact hjn)⟩
          have hcx : wr.cell? ⟨gL, j, none⟩ = some x := by
            have h1 := HROW.out j x hx
            have h2 : wr.heap[gL]? = w.heap[gL]? := (Below.block hkr.out gL (Nat.lt_of_lt_of_le hgl hB.out.size)).trans hgr.out
            unfold World.cell? at h1 ⊢
            rw [h2]
            exact h1
          have hjI : (j : Int) < (i : Int) := by omega
          have hw20 : IntKind.i64.wrap (20 + (j : Int)) = 20 + (j : Int) := by rw [IntWalk.i64_in _ (by omega)]
          have hfx := HFU.out j x hx
          have hsx := HSL2.out x (List.mem_of_getElem? hx)
          rcases hsx with rfl | ⟨g, n, c, cur, rfl, _, _, hg0, _, hnc, hcm⟩
          · clear hx hfx
            go_upto_region 12 with fail
            go_quiet (fail)
            have K5 : Hid (Kept w2 (wr.drewN nq)) := below_drewN hkr.out nq
            generalize wr.drewN nq = w5 at *
            clear hcx hkr
            go_wp2_with fail
            go_loopw [8] (fun v8 wi => v8 = .int .i64 0 ∧ wi = w5) (fun v8 _ => 0)
            case atStart => exact ⟨rfl, rfl⟩
            case round =>
              obtain ⟨rfl, hwi⟩ := hrel
              obtain rfl := hwi
              go_wp2_with fail
              go_roundw
              case rel => exact ⟨j + 1, by omega, by go_num, K5⟩
              case measure => simp [intOf]; omega
          · have Hcm := Lib.hid hcm
            have Hfg : Hid (w2.heap[g]? = some (.cells (labs (mks (20 + (j : Int)) c)).toArray 33 (0, 0))) := by
              rcases hfx with h | ⟨g', n', c', h, h2⟩
              · cases h
              · cases h; exact h2
            clear hx hcm hg0 hfx
            go_upto_region 12 with fail
            go_quiet (fail)
            have K5 : Hid (Kept w2 (wr.drewN nq)) := below_drewN hkr.out nq
            generalize wr.drewN nq = w5 at *
            clear hcx hkr
            go_wp2_with fail
            go_loopw [8] (fun v8 wi => ∃ k : Nat, k ≤ c ∧ v8 = .int .i64 k ∧ Hid (Kept w2 wi)) (fun v8 _ => c - (intOf v8).toNat)
            case atStart => exact ⟨0, by omega, rfl, K5⟩
            case round =>
              obtain ⟨k, hk, rfl, hki⟩ := hrel
              obtain ⟨wi, rfl⟩ : ∃ x, x = wr := ⟨_, rfl⟩
              by_cases hkc : k < c
              · have hgi := heap_kept hki.out Hfg.out
                obtain ⟨l0, l1⟩ := labs_get _ _ _ (mks_get (20 + (j : Int)) hkc)
                have q0 : wi.cell? ⟨g, k * 2, none⟩ = some (.string (mkLab (20 + (j : Int)) (k : Int)).1) := by rw [cell_of_row _ _ _ _ _ _ hgi, List.getElem?_toArray]; exact l0
                have q1 : wi.cell? ⟨g, k * 2 + 1, none⟩ = some (.string (mkLab (20 + (j : Int)) (k : Int)).2) := by rw [cell_of_row _ _ _ _ _ _ hgi, List.getElem?_toArray]; exact l1
                have hlr : g < wi.heap.size := heap_lt hgi
                have CM := Lib.hid (fun W => markLabel_any (20 + (j : Int)) (k : Int) W)
                have hw : IntKind.i64.wrap ((k : Int) + 1) = (k : Int) + 1 := by
                  have := Hcm.out
                  unfold maxLen at this
                  rw [IntWalk.i64_in _ (by omega)]
                have hkI : (k : Int) < (c : Int) := by omega
                generalize mkLab (20 + (j : Int)) (k : Int) = x at *
                obtain ⟨xa, xb⟩ := x
                dsimp only at CM q0 q1
                clear hgi l0 l1
                go_upto_region 16 with fail
                have Hk : Hid (∀ W', Below wi.heap.size wi W' → (W'.cell? ⟨g, k * 2, none⟩ = some (.string xa) ∧ W'.cell? ⟨g, k * 2 + 1, none⟩ = some (.string xb)) ∧ Below wi.heap.size wi W') := fun W' h => ⟨⟨(Below.cell h hlr).trans q0, (Below.cell h hlr).trans q1⟩, h⟩
                have hb00 : Below wi.heap.size wi wi.drew := (Below.refl wi.heap.size wi).drew
                clear q0 q1
                go_region_held3 (fun W' => (W'.cell? ⟨g, k * 2, none⟩ = some (.string xa) ∧ W'.cell? ⟨g, k * 2 + 1, none⟩ = some (.string xb)) ∧ Below wi.heap.size wi W')
                  ((refine Hk.out _ ?_; assumption))
                  (first
                    | (go_at_call 71; refine (CM.out _).mono ?_; rintro e w3 ⟨rfl, hk3⟩; have k3 : Below wi.heap.size wi w3 := below_kept hb00 hk3; dsimp only))
                rename_i hS
                clear hS Hk hb00 hk3
                go_wp2_with fail
                go_roundw
                case rel => exact ⟨k + 1, by omega, by go_num, below_kept hki.out k3⟩
                case measure => simp [intOf]; omega
              · obtain rfl : k = c := by omega
                go_wp2_with fail
                go_roundw
                case rel => exact ⟨j + 1, by omega, by go_num, hki⟩
                case measure => simp [intOf]; omega
        · obtain rfl : j = i := by omega
          go_wp2_with fail
          go_ret
          exact ⟨rfl, hB.out.trans (hkr.out.mono (Nat.le_trans HBW.out hB.out.size))⟩
end Go.Proofs.YtlhekeokognhmaaGreatDoor
