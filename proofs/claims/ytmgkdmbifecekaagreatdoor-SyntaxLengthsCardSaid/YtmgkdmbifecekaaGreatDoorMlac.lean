/-
  Package class: ranges that lie in a slice; sets that are right. Package class: what the iterator parts yields. Loads, stores and copies of arrays as steps of a walk inside a fence.
-/
import Derived.Test.YtmgkdmbifecekaaGreatDoorMlab
import Derived.Test.YtmgkdmbifecekaaGreatDoorMlaa
import Derived.OwnWalkIn
import Derived.Laws.CopyOwn
set_option linter.all false
set_option linter.unusedSimpArgs false
set_option linter.unusedVariables false
set_option linter.unusedSectionVars false
namespace Go.Proofs.YtmgkdmbifecekaaGreatDoor
open Go.RowKit Go.Shelf
abbrev Rng := Int × Int
/-- Ranges as cells, two each. -/
def rngs (L : List Rng) : List Value := L.flatMap fun x => [.int .i64 x.1, .int .i64 x.2]
theorem rngs_cons (x : Rng) (L : List Rng) : rngs (x :: L) = .int .i64 x.1 :: .int .i64 x.2 :: rngs L := rfl
theorem rngs_app (a b : List Rng) : rngs (a ++ b) = rngs a ++ rngs b := by simp [rngs]
theorem rngs_length : ∀ L : List Rng, (rngs L).length = L.length * 2
  | [] => rfl
  | x :: L => by rw [rngs_cons, List.length_cons, List.length_cons, rngs_length L, List.length_cons]; omega
theorem rngs_get : ∀ (L : List Rng) (k : Nat) (x : Rng), L[k]? = some x → (rngs L)[k * 2]? = some (.int .i64 x.1) ∧ (rngs L)[k * 2 + 1]? = some (.int .i64 x.2)
  | [], k, x, h => by simp at h
  | y :: L, 0, x, h => by cases h; exact ⟨rfl, rfl⟩
  | y :: L, k + 1, x, h => by
    have := rngs_get L k x h
    rw [rngs_cons, show (k + 1) * 2 = k * 2 + 1 + 1 from by omega, show (k * 2 + 1 + 1 + 1) = (k * 2 + 1) + 1 + 1 from by omega]
    exact this
theorem rngs_one (L : List Rng) : ∀ u ∈ rngs L, u.oneCell' = true := by
  intro u hu
  obtain ⟨x, _, hx⟩ := List.mem_flatMap.1 hu
  simp at hx
  rcases hx with rfl | rfl <;> rfl
/-- Ranges in a slice. -/
abbrev RdR (w : World) (B : Nat) (A : Option Addr) (L : List Rng) : Prop := Rd w B A (L.length * 2) (rngs L)
theorem addr_add2 (a : Addr) (i j : Nat) : (a.add i).add j = a.add (i + j) := by
  unfold Addr.add
  split <;> rename_i h <;> split <;> simp_all <;> omega
theorem rdr_at {w : World} {B : Nat} {A : Option Addr} {L : List Rng} (h : RdR w B A L) {k : Nat} (hk : k < L.length) : ∃ ad x, A = some ad ∧ ad.block < B ∧ L[k]? = some x ∧ L.drop k = x :: L.drop (k + 1) ∧ w.cell? (ad.add (k * 2)) = some (.int .i64 x.1) ∧ w.cell? (ad.add (k * 2 + 1)) = some (.int .i64 x.2) := by
  obtain ⟨ad, e, hb, hc⟩ := h.2 (by omega)
  obtain ⟨h1, h2⟩ := rngs_get L k L[k] (List.getElem?_eq_getElem hk)
  exact ⟨ad, L[k], e, hb, List.getElem?_eq_getElem hk, List.drop_eq_getElem_cons hk, hc _ _ h1, hc _ _ h2⟩
theorem sizeR : (Tryz.prog.info? 73).map (·.size) = some 2 := by kernel_rfl
/-- One range, loaded. -/
theorem rng_cells {w : World} {ad : Addr} {k : Nat} {x : Rng} (h0 : w.cell? (ad.add (k * 2)) = some (.int .i64 x.1)) (h1 : w.cell? (ad.add (k * 2 + 1)) = some (.int .i64 x.2)) : ∀ j v, (#[.int .i64 x.1, .int .i64 x.2] : Array Value)[j]? = some v → w.cell? ((ad.add (k * 2)).add j) = some v := by
  intro j v hv
  rw [addr_add2]
  rcases j with _ | _ | j
  · cases hv; exact h0
  · cases hv; exact h1
  · simp at hv
/-- A set is right, from a number on. -/
def rgtR : Int → List Rng → Bool
  | _, [] => true
  | m, x :: L => if x.1 < m ∨ x.2 < x.1 ∨ pntB x.1 = false ∨ pntB x.2 = false ∨ (x.1 < 55296 ∧ 57343 < x.2) then false else rgtR (x.2 + 2) L
theorem pntB_bd (c : Int) (h : pntB c = true) : 0 ≤ c ∧ c ≤ 1114111 := by
  unfold pntB at h
  simp at h
  omega
theorem rgtR_drop {m : Int} {L : List Rng} {k : Nat} {x : Rng} (hd : L.drop k = x :: L.drop (k + 1)) : rgtR m (L.drop k) = if x.1 < m ∨ x.2 < x.1 ∨ pntB x.1 = false ∨ pntB x.2 = false ∨ (x.1 < 55296 ∧ 57343 < x.2) then false else rgtR (x.2 + 2) (L.drop (k + 1)) := by rw [hd]; rfl
set_option maxRecDepth 100000 in
set_option maxHeartbeats 4000000 in
theorem cright_any (A : Option Addr) (c : Nat) (L : List Rng) (hL : L.length ≤ 4611686018427387904) (w : World) (hr : RdR w w.heap.size A L) :
    Calls Tryz.prog 96 #[.slice A L.length c] w fun e w' => e = .returned (.bool (rgtR 0 L)) ∧ Kept w w' := by
  have HR := Lib.hid hr
  obtain ⟨n, hn⟩ : ∃ n, n = L.length := ⟨_, rfl⟩
  have Hn := Lib.hid hn
  rw [← hn] at hL ⊢
  clear hr hn
  have CP := Lib.hid point_any
  go_enter Tryz.func96, Tryz.ntmps96
  go_wp2_with fail
  go_loopw [3, 9] (fun v3 v9 wr => ∃ (k : Nat) (m : Int), k ≤ n ∧ 0 ≤ m ∧ m ≤ 1114113 ∧ v9 = .int .i64 k ∧ v3 = .int .i64 m ∧ Hid (Kept w wr) ∧ Hid (rgtR 0 L = rgtR m (L.drop k))) (fun _ v9 _ => n - (intOf v9).toNat)
  case atStart => exact ⟨0, 0, by omega, by omega, by omega, rfl, rfl, Below.refl _ _, rfl⟩
  case round =>
    obtain ⟨k, m, hk, hm0, hm1, rfl, rfl, hkr, hf⟩ := hrel
    by_cases hkn : k < n
    · obtain ⟨ad, x, rfl, hadb, hx, hd, hc0, hc1⟩ := rdr_at HR.out (by rw [← Hn.out]; exact hkn)
      have e0 := (Below.cell hkr.out (by rw [addBlock]; exact hadb)).trans hc0
      have e1 := (Below.cell hkr.out (by rw [addBlock]; exact hadb)).trans hc1
      have Hcl := Lib.hid (rng_cells e0 e1)
      have Hfd := Lib.hid (rgtR_drop (m := m) hd)
      have k1 : Kept w (wr.alloc (.cells #[.int .i64 x.1, .int .i64 x.2] 73)) := below_alloc0 hkr.out _
      have K1 := Lib.hid k1
      clear hc0 hc1 hx hd k1 e0 e1
      have hkni : (k : Int) < (n : Int) := by omega
      by_cases h1 : x.1 < m
      · by_cases b1 : x.1 < 55296 <;> by_cases b2 : 57343 < x.2
        all_goals
          go_wp2_with (refine wpList_load_at rfl 73 (.tmp 11) rfl (ad.add (k * 2)) rfl #[.int .i64 x.1, .int .i64 x.2] _ Hcl.out Tryz.underlying73 rfl sizeR ?_)
          go_ret
          exact ⟨by rw [hf.out, Hfd.out, if_pos (by simp [h1])]; rfl, K1.out⟩
      · have C1 : Hid (∀ W, Calls Tryz.prog 120 #[.int .i64 x.1] W fun e w' => e = .returned (.bool (pntB x.1)) ∧ W = w') := fun W => CP.out _ W
        have C2 : Hid (∀ W, Calls Tryz.prog 120 #[.int .i64 x.2] W fun e w' => e = .returned (.bool (pntB x.2)) ∧ W = w') := fun W => CP.out _ W
        have hb := pntB_bd x.2
        obtain ⟨p, hp⟩ : ∃ p, p = pntB x.1 := ⟨_, rfl⟩
        obtain ⟨q, hq⟩ : ∃ q, q = pntB x.2 := ⟨_, rfl⟩
        rw [← hp] at C1 Hfd
        rw [← hq] at C2 Hfd hb
        clear hp hq CP
        by_cases h2 : x.2 < x.1
        · by_cases b1 : x.1 < 55296 <;> by_cases b2 : 57343 < x.2
          all_goals try (exfalso; omega)
          all_goals
            go_wp2_with (refine wpList_load_at rfl 73 (.tmp 11) rfl (ad.add (k * 2)) rfl #[.int .i64 x.1, .int .i64 x.2] _ Hcl.out Tryz.underlying73 rfl sizeR ?_)
            go_ret
            exact ⟨by rw [hf.out, Hfd.out, if_pos (by simp [h2])]; rfl, K1.out⟩
        · cases p
          · by_cases b1 : x.1 < 55296 <;> by_cases b2 : 57343 < x.2
            all_goals
              go_wp2_with (first | (refine wpList_load_at rfl 73 (.tmp 11) rfl (ad.add (k * 2)) rfl #[.int .i64 x.1, .int .i64 x.2] _ Hcl.out Tryz.underlying73 rfl sizeR ?_) | (go_at_call 120; refine (C1.out _).mono ?_; rintro e w2 ⟨rfl, rfl⟩))
              go_ret
              exact ⟨by rw [hf.out, Hfd.out, if_pos (by simp)]; rfl, K1.out⟩
          · cases q
            · clear hb
              by_cases b1 : x.1 < 55296 <;> by_cases b2 : 57343 < x.2
              all_goals
                go_wp2_with (refine wpList_load_at rfl 73 (.tmp 11) rfl (ad.add (k * 2)) rfl #[.int .i64 x.1, .int .i64 x.2] _ Hcl.out Tryz.underlying73 rfl sizeR ?_)
                refine (C1.out _).mono ?_
                rintro e w2 ⟨rfl, rfl⟩
                go_wp2_with fail
                refine (C2.out _).mono ?_
                rintro e w2 ⟨rfl, rfl⟩
                go_wp2_with fail
                go_ret
                exact ⟨by rw [hf.out, Hfd.out, if_pos (by simp)]; rfl, K1.out⟩
            · obtain ⟨hb0, hb1⟩ := hb rfl
              clear hb
              by_cases b1 : x.1 < 55296
              · by_cases b2 : 57343 < x.2
                · go_wp2_with (refine wpList_load_at rfl 73 (.tmp 11) rfl (ad.add (k * 2)) rfl #[.int .i64 x.1, .int .i64 x.2] _ Hcl.out Tryz.underlying73 rfl sizeR ?_)
                  refine (C1.out _).mono ?_
                  rintro e w2 ⟨rfl, rfl⟩
                  go_wp2_with fail
                  refine (C2.out _).mono ?_
                  rintro e w2 ⟨rfl, rfl⟩
                  go_wp2_with fail
                  go_ret
                  exact ⟨by rw [hf.out, Hfd.out, if_pos (by simp [b1, b2])]; rfl, K1.out⟩
                · have hnx : Hid (rgtR 0 L = rgtR (x.2 + 2) (L.drop (k + 1))) := by show _ = _; rw [hf.out, Hfd.out, if_neg (by simp; omega)]
                  go_wp2_with (refine wpList_load_at rfl 73 (.tmp 11) rfl (ad.add (k * 2)) rfl #[.int .i64 x.1, .int .i64 x.2] _ Hcl.out Tryz.underlying73 rfl sizeR ?_)
                  refine (C1.out _).mono ?_
                  rintro e w2 ⟨rfl, rfl⟩
                  go_wp2_with fail
                  refine (C2.out _).mono ?_
                  rintro e w2 ⟨rfl, rfl⟩
                  go_wp2_with fail
                  go_roundw
                  case rel => exact ⟨k + 1, x.2 + 2, by omega, by omega, by omega, by go_num, by go_num, K1, hnx⟩
                  case measure => simp [intOf]; omega
              · have hnx : Hid (rgtR 0 L = rgtR (x.2 + 2) (L.drop (k + 1))) := by show _ = _; rw [hf.out, Hfd.out, if_neg (by simp; omega)]
                go_wp2_with (refine wpList_load_at rfl 73 (.tmp 11) rfl (ad.add (k * 2)) rfl #[.int .i64 x.1, .int .i64 x.2] _ Hcl.out Tryz.underlying73 rfl sizeR ?_)
                refine (C1.out _).mono ?_
                rintro e w2 ⟨rfl, rfl⟩
                go_wp2_with fail
                refine (C2.out _).mono ?_
                rintro e w2 ⟨rfl, rfl⟩
                go_wp2_with fail
                go_roundw
                case rel => exact ⟨k + 1, x.2 + 2, by omega, by omega, by omega, by go_num, by go_num, K1, hnx⟩
                case measure => simp [intOf]; omega
    · obtain rfl : k = n := by omega
      go_wp2_with fail
      go_ret
      refine ⟨?_, hkr.out⟩
      rw [hf.out, List.drop_of_length_le (by rw [← Hn.out]; exact Nat.le_refl _)]
      rfl
end Go.Proofs.YtmgkdmbifecekaaGreatDoor
namespace Go.Proofs.YtmgkdmbifecekaaGreatDoor
open Go.RowKit Go.Shelf
attribute [local go_sem] Oper.semAt_some
abbrev encR (x : Rng) : Array Value := #[.agg #[.int .i64 x.1, .int .i64 x.2]]
def lowR (r : Rng) : Rng := (r.1, min r.2 55295)
def higR (r : Rng) : Rng := (max r.1 57344, r.2)
def okR (x : Rng) : List Rng := if x.1 ≤ x.2 then [x] else []
/-- The parts of a range that are code points. -/
def partsL (r : Rng) : List Rng := okR (lowR r) ++ okR (higR r)
theorem idx_two (a b c d : Value) (i : Nat) (hi : i < 2) (w : World) : (Instr.index 247 (.agg #[a, b, c, d]) (.int .i64 i)).run Tryz.prog w = .ok (.agg (#[a, b, c, d].extract (i * 2) (i * 2 + 2))) w := by
  unfold Instr.index part
  simp [asIntOf, run_underlying (Tryz.underlying247), hi]
theorem idx_0 (a b c d : Value) (w : World) : (Instr.index 247 (.agg #[a, b, c, d]) (.int .i64 0)).run Tryz.prog w = .ok (.agg #[a, b]) w := idx_two a b c d 0 (by decide) w
theorem idx_1 (a b c d : Value) (w : World) : (Instr.index 247 (.agg #[a, b, c, d]) (.int .i64 1)).run Tryz.prog w = .ok (.agg #[c, d]) w := idx_two a b c d 1 (by decide) w
set_option maxRecDepth 100000 in
set_option maxHeartbeats 4000000 in
theorem parts1_in (n : Nat) (hn : 1 ≤ n) (l Bn n₀ : Nat) (r : Rng) (J Jx : List Rng → World → Prop)
    (W : World) (hJ : AbidesFrom W.heap.size J) (hY : ∀ pre x W1, J pre W1 → pre.length < 2 → YieldAt Fence.wide (n - 1) Tryz.prog l (encR x) W1 fun e W' =>
      (e = .returned (.bool true) ∧ J (pre ++ [x]) W' ∧ KpB n₀ Bn W1 W') ∨ (e = .returned (.bool false) ∧ Jx (pre ++ [x]) W'))
    (hB1 : W.cell? ⟨Bn, 0, none⟩ = some (.int .i64 r.1)) (hB2 : W.cell? ⟨Bn, 1, none⟩ = some (.int .i64 r.2)) (hBn0 : Bn < W.heap.size) (h0 : J [] W) :
    CallsIn Fence.wide n Tryz.prog 184 #[.func (.yield l) #[] #[], .pointer (some ⟨Bn, 0, none⟩)] W fun e W' => (∃ v, e = .returned v) ∧
      ((∃ ys, ys = partsL r ∧ J ys W') ∨ (∃ pre, pre <+: partsL r ∧ Jx pre W')) := by
  refine callsIn_of_wp Tryz.func184 rfl trivial ?_ rfl
  simp only [Tryz.ntmps184, List.size_toArray, List.length_cons, List.length_nil, Nat.reduceAdd, Nat.reduceSub, Array.replicate_succ, Array.replicate_zero, List.push_toArray, List.append_toArray, List.nil_append, List.cons_append]
  have ix0 := fun W => idx_0 (.int .i64 r.1) (.int .i64 (min r.2 55295)) (.int .i64 (max r.1 57344)) (.int .i64 r.2) W
  have ix1 := fun W => idx_1 (.int .i64 r.1) (.int .i64 (min r.2 55295)) (.int .i64 (max r.1 57344)) (.int .i64 r.2) W
  gi_wp2
  gi_loopw [22] (fun i wr => ∃ (k : Nat) (pre : List Rng), k ≤ 2 ∧ i = .int .i64 k ∧ Hid (pre = (if 0 < k then okR (lowR r) else []) ++ (if 1 < k then okR (higR r) else [])) ∧ pre.length ≤ k ∧ J pre wr ∧ W.heap.size ≤ wr.heap.size) (fun i _ => 2 - (intOf i).toNat)
  case atStart =>
    refine ⟨0, [], by omega, rfl, rfl, by simp, ?_, by simp; omega⟩
    exact hJ _ _ _ none (hJ _ _ _ none h0 (World.grownBy_alloc _ _ _) (fun r e => by cases e)) (World.grownBy_alloc _ _ _) (fun r e => by cases e)
  case round =>
    obtain ⟨k, pre, hk, rfl, hp, hpl, hJp, hsz⟩ := hrel
    obtain ⟨wq, rfl⟩ : ∃ x, x = wr := ⟨_, rfl⟩
    rcases (by omega : k = 0 ∨ k = 1 ∨ k = 2) with rfl | rfl | rfl
    · have hp0 : pre = [] := by rw [hp.out]; simp
      by_cases hc : r.1 ≤ min r.2 55295
      · have hok : okR (lowR r) = [lowR r] := if_pos hc
        obtain ⟨fn, tmps, assign, body, hy, hR⟩ := hY pre (lowR r) (wq.alloc (.cells #[.int .i64 r.1, .int .i64 (min r.2 55295)] 73)) (hJ _ _ _ none hJp (World.grownBy_alloc _ _ _) (fun r e => by cases e)) (by omega)
        dsimp only [encR, lowR] at hy
        clear hp
        gi_wp2
        refine hR.mono ?_
        rintro e W3 (⟨rfl, hJ3, hk3⟩ | ⟨rfl, hJx3⟩)
        · gi_wp2
          go_roundw
          case rel =>
            refine ⟨1, pre ++ [lowR r], by omega, by go_num, by show _ = _; rw [hp0, ← hok]; simp, by rw [List.length_append, List.length_singleton]; omega, hJ3, ?_⟩
            have h1 := hk3.1.size
            rw [World.size_alloc] at h1
            omega
          case measure => simp [intOf]
        · gi_wp2
          refine bodyPost_ret (results_none rfl _ _ _) rfl ?_
          exact ⟨⟨_, rfl⟩, .inr ⟨_, by rw [hp0, ← hok]; exact ⟨okR (higR r), by simp [partsL]⟩, hJx3⟩⟩
      · have hok : okR (lowR r) = [] := if_neg hc
        have hJ2 := hJ _ _ _ none hJp (World.grownBy_alloc wq (.cells #[.int .i64 r.1, .int .i64 (min r.2 55295)] 73) none) (fun r e => by cases e)
        clear hp
        gi_wp2
        refine ⟨(fun f e => by cases e), ?_⟩
        gi_wp2
        go_roundw
        case rel => exact ⟨1, pre, by omega, by go_num, by show _ = _; rw [hp0]; simp [hok], by omega, hJ2, by simp; omega⟩
        case measure => simp [intOf]
    · have hp0 : pre = okR (lowR r) := by rw [hp.out]; simp
      by_cases hc : max r.1 57344 ≤ r.2
      · have hok : okR (higR r) = [higR r] := if_pos hc
        obtain ⟨fn, tmps, assign, body, hy, hR⟩ := hY pre (higR r) (wq.alloc (.cells #[.int .i64 (max r.1 57344), .int .i64 r.2] 73)) (hJ _ _ _ none hJp (World.grownBy_alloc _ _ _) (fun r e => by cases e)) (by omega)
        dsimp only [encR, higR] at hy
        clear hp
        gi_wp2
        refine hR.mono ?_
        rintro e W3 (⟨rfl, hJ3, hk3⟩ | ⟨rfl, hJx3⟩)
        · gi_wp2
          go_roundw
          case rel =>
            refine ⟨2, pre ++ [higR r], by omega, by go_num, by show _ = _; rw [hp0, ← hok]; simp, by rw [List.length_append, List.length_singleton]; omega, hJ3, ?_⟩
            have h1 := hk3.1.size
            rw [World.size_alloc] at h1
            omega
          case measure => simp [intOf]
        · gi_wp2
          refine bodyPost_ret (results_none rfl _ _ _) rfl ?_
          exact ⟨⟨_, rfl⟩, .inr ⟨_, by rw [hp0, ← hok]; exact ⟨[], by simp [partsL]⟩, hJx3⟩⟩
      · have hok : okR (higR r) = [] := if_neg hc
        have hJ2 := hJ _ _ _ none hJp (World.grownBy_alloc wq (.cells #[.int .i64 (max r.1 57344), .int .i64 r.2] 73) none) (fun r e => by cases e)
        clear hp
        gi_wp2
        refine ⟨(fun f e => by cases e), ?_⟩
        gi_wp2
        go_roundw
        case rel => exact ⟨2, pre, by omega, by go_num, by show _ = _; rw [hp0]; simp [hok], by omega, hJ2, by simp; omega⟩
        case measure => simp [intOf]
    · have hp0 : pre = partsL r := by rw [hp.out]; simp [partsL]
      clear hp
      gi_wp2
      go_end0
      exact ⟨⟨_, rfl⟩, .inl ⟨pre, hp0, hJp⟩⟩
/-- THE ITERATOR's WORD: both parts have come, or some, a round having said no more. -/
theorem parts_stops (n : Nat) (hn : 1 ≤ n) (Bn n₀ : Nat) (r : Rng) (w : World) (hB1 : w.cell? ⟨Bn, 0, none⟩ = some (.int .i64 r.1)) (hB2 : w.cell? ⟨Bn, 1, none⟩ = some (.int .i64 r.2)) (hBn0 : Bn < w.heap.size) :
    SeqStopsK Fence.wide n Tryz.prog 184 #[.pointer (some ⟨Bn, 0, none⟩)] encR (KpB n₀ Bn) (fun xs => xs = partsL r) (fun pre => pre <+: partsL r) 2 w :=
  fun l J Jx W hW hJ _ hY h0 => parts1_in n hn l Bn n₀ r J Jx W hJ hY ((hW.cell (p := ⟨Bn, 0, none⟩) (by show Bn < _; omega)).trans hB1) ((hW.cell (p := ⟨Bn, 1, none⟩) (by show Bn < _; omega)).trans hB2) (by have := hW.size; omega) h0
theorem parts_any (r : Rng) (w : World) : Calls Tryz.prog 163 #[.agg #[.int .i64 r.1, .int .i64 r.2]] w fun e w' => e = .returned (.func (.func 184) #[] #[.pointer (some ⟨w.heap.size, 0, none⟩)]) ∧ w' = w.alloc (.cells #[.int .i64 r.1, .int .i64 r.2] 73) := by
  go_enter Tryz.func163, Tryz.ntmps163
  go_wp2
  go_ret
  exact ⟨rfl, rfl⟩
end Go.Proofs.YtmgkdmbifecekaaGreatDoor
namespace Go.Proofs.YtmgkdmbifecekaaGreatDoor
open Go.RowKit
section
variable {F : Fence} {n : Nat} {P : Program} {ops : Array Oper} {rest : List Oper} {o : Oper} {a : Act} {w : World} {Q : Exit → Act → World → Prop}
theorem listIn_value (hgd : o.guard = none) (hab : ∀ f, o.about P w a.eval = some f → False) (hd : ∀ c, o.op ≠ .defer c) (v : Value) (w' : World) (hrun : (execOp a.eval o).run P w = .ok (.value v) w')
    (h : wpListIn F n P ops Q rest (a.put o.dst v) w') : wpListIn F n P ops Q (o :: rest) a w := by
  refine wpListIn_plain hgd fun K hK => ⟨fun f hf => (hab f hf).elim, ?_⟩
  rw [Oper.semAt_plain F _ _ hd, hrun]
  exact hK _ _ h
theorem wpListIn_load_at (hgd : o.guard = none) (ty : TypeId) (x : Operand) (ho : o.op = .load ty x) (ad : Addr) (hx : a.eval x = .pointer (some ad)) (cs : Array Value) (d : TypeDesc)
    (hc : ∀ j v, cs[j]? = some v → w.cell? (ad.add j) = some v)
    (hu : P.underlying ty = some d) (hd : (match d with | .struct _ | .array _ _ => true | _ => false) = true) (hi : (P.info? ty).map (·.size) = some cs.size)
    (h : wpListIn F n P ops Q rest (a.put o.dst (.agg cs)) w) : wpListIn F n P ops Q (o :: rest) a w := by
  refine listIn_value hgd (fun f hf => by simp [Oper.about, ho] at hf) (by rw [ho]; intro c e; cases e) _ w ?_ h
  unfold execOp
  simp only [ho, hx, Instr.loadAt, Instr.sureAddr, Sem.run_bind, Sem.run_pure, Result.andThen_ok, run_loadVar_at w ad ty cs d hc hu hd hi]
end
end Go.Proofs.YtmgkdmbifecekaaGreatDoor
