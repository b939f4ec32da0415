/-
  The statements' kit: strings that are lent, and kept.
-/
import Derived.Test.YtlhekeokognhmaaGreatDoorMgbf
import Derived.Test.YtlhekeokognhmaaGreatDoorLbK
import Derived.Deep.DeepCutAuto
namespace Go.Proofs.YtlhekeokognhmaaGreatDoor
open Go.RowKit Go.Shelf Go.Maps Go.Sort
theorem infoStr : (Tryz.prog.info? 9).map (fun i => (i.zero, i.size, i.bytes)) = some (some (.string ⟨#[]⟩), 1, 16) := by kernel_rfl
def tmarks : List ByteArray := (List.range 12).map fun i : Nat => mT 1 (i : Int)
theorem tmarks_get (k : Nat) (hk : k < 12) : tmarks[k]? = some (mT 1 (k : Int)) := by
  unfold tmarks
  rw [List.getElem?_map, List.getElem?_range hk]
  rfl
theorem tmarks_snoc (k : Nat) (hk : k < 12) : tmarks.take (k + 1) = tmarks.take k ++ [mT 1 (k : Int)] := by
  rw [List.take_add_one, tmarks_get k hk]; rfl
/-- Strings that lie with marks behind them. -/
def LentT (w : World) (A : Option Addr) (c : Nat) (ns : List ByteArray) : Prop := ns.length + 12 ≤ c ∧ Rd w w.heap.size A (ns.length + 12) (strs (ns ++ tmarks)) ∧ Rd w w.heap.size A ns.length (strs ns)
theorem LentT.kept {w w' : World} {A : Option Addr} {c : Nat} {ns : List ByteArray} (h : LentT w A c ns) (hk : Kept w w') : LentT w' A c ns := ⟨h.1, rd_kept hk h.2.1, rd_kept hk h.2.2⟩
set_option maxRecDepth 100000 in
set_option maxHeartbeats 2000000 in
theorem lentT_any (A : Option Addr) (c : Nat) (ns : List ByteArray) (hN : ns.length ≤ 400000) (w : World) (hr : Rd w w.heap.size A ns.length (strs ns)) :
    Calls Tryz.prog 30 #[.slice A ns.length c] w fun e w' => ∃ A' c', e = .returned (.slice A' ns.length c') ∧ LentT w' A' c' ns ∧ Kept w w' := by
  have HR := Lib.hid hr
  obtain ⟨i0, hi0, hz0, hz1, hz2⟩ := info_parts infoStr
  unfold LentT
  obtain ⟨n, hn⟩ : ∃ n, n = ns.length := ⟨_, rfl⟩
  have Hn := Lib.hid hn
  rw [← hn] at hN HR ⊢
  clear hr hn
  go_enter Tryz.func30, Tryz.ntmps30
  go_wp2_with (first
    | (at_make; refine wpList_make_own _ rfl _ _ 23 rfl w.heap.size 9 i0 _ 1 Tryz.underlying23 hi0 hz0 hz1 .i64 .i64 _ (n + 12) rfl rfl (by omega) (by rw [hz2]; omega) (by unfold maxLen; omega) (Nat.le_refl _) ?_; intro w1 hown1 hg1; have Hown1 := Lib.hid hown1; have Hg1 := Lib.hid hg1; have hs1 := hg1.size; have HK1 : Hid (Kept w w1) := below_of_grown hg1 (Nat.le_refl _) (fun k e => by cases e); clear hown1 hg1)
    | (at_builtin; refine wpList_app_any _ rfl _ _ 23 rfl w.heap.size 9 i0 _ 16 Tryz.underlying23 hi0 hz0 hz1 hz2 rfl _ 0 [] rfl Hown1.out w1.heap.size A n c (strs ns) rfl (rd_kept HK1.out HR.out) (strs_one _) (by unfold maxLen; omega) (by omega) hs1 ?_; intro v2 w2 hown2 hg2; have Hown2 := Lib.hid hown2; have Hg2 := Lib.hid hg2; clear hown2 hg2))
  have hB2 : Kept w w2 := HK1.out.grown Hg2.out hs1 (fun k e => (Hown1.out.lt k e).1)
  have hown2' : w2.ownsRow w.heap.size 9 1 v2 n (strs ns) := by have := Hown2.out; rwa [Nat.zero_add, List.nil_append] at this
  have Ho := Lib.hid hown2'
  have HB2 := Lib.hid hB2
  clear Hown1 Hg1 hs1 Hown2 Hg2 hown2' hB2 HK1
  go_loopw [3, 4] (fun v i wr => ∃ k : Nat, k ≤ 12 ∧ i = .int .i64 k ∧ Hid (wr.ownsRow w.heap.size 9 1 v (n + k) (strs (ns ++ tmarks.take k))) ∧ Hid (Kept w wr)) (fun _ i _ => 12 - (intOf i).toNat)
  case atStart => exact ⟨0, by omega, rfl, by show World.ownsRow _ _ _ _ _ _ _; rw [List.take_zero, List.append_nil]; exact Ho.out, HB2⟩
  case round =>
    obtain ⟨k, hk, rfl, hown, hb⟩ := hrel
    by_cases hkn : k < 12
    · have Hsn := Lib.hid (tmarks_snoc k hkn)
      have CM := Lib.hid (fun W => markText_any 1 (k : Int) W)
      have hbs := hb.out.size
      generalize mT 1 (k : Int) = x at *
      go_wp2_with (first
        | (go_at_call 72; (with_reducible refine (CM.out _).mono ?_); rintro e w3 ⟨rfl, hk3⟩; have HK3 : Hid (Kept wr w3) := hk3; have HKw : Hid (Kept w w3) := below_kept hb.out hk3; have hs3 := (below_kept hb.out hk3).size; clear hk3)
        | (at_builtin; refine wpList_append_own _ rfl _ _ 23 rfl w.heap.size 9 i0 _ 1 16 Tryz.underlying23 hi0 hz0 hz1 hz2 rfl (by decide) u3 (n + k) (strs (ns ++ tmarks.take k)) rfl ((own_below hown.out HK3.out).alloc _) ⟨w3.heap.size, 0, none⟩ 1 1 (strs [x]) rfl rfl (cells_new _ _ _) (strs_one _) (by unfold maxLen; omega) (by omega) (by simp; omega) ?_; intro v5 w5 hown5 hg5 hn5; have Hown5 := Lib.hid hown5; have HG5 := Lib.hid hg5; clear hown5 hg5 hn5))
      have hka : Kept w (w3.alloc (.cells #[.string x] 9)) := HKw.out.alloc hs3 _
      have hB5 : Kept w w5 := hka.grown HG5.out (by simp; omega) (fun j e => ((own_below hown.out HK3.out).lt j e).1)
      go_roundw
      case rel => exact ⟨k + 1, by omega, by go_num, by show World.ownsRow _ _ _ _ _ _ _; rw [Hsn.out, ← List.append_assoc, strs_append]; exact Hown5.out, hB5⟩
      case measure => simp [intOf]; omega
    · obtain rfl : k = 12 := by omega
      have hown' := hown.out
      rw [show tmarks.take 12 = tmarks from rfl] at hown'
      obtain ⟨A', c', rfl, hc', hr2, _⟩ := own_rdG hown'
      rw [Nat.mul_one] at hr2
      have HR2 := Lib.hid hr2
      have Hc' := Lib.hid hc'
      have hnc : (n : Int) ≤ c' := by omega
      clear hown hown' Ho hr2 hc'
      go_wp2_with fail
      go_ret
      refine ⟨A', c', rfl, ⟨Hc'.out, HR2.out, ⟨by rw [strs_length, Hn.out], fun h0 => ?_⟩⟩, hb.out⟩
      obtain ⟨ad, e, hlt, hcell⟩ := HR2.out.2 (by omega)
      refine ⟨ad, e, hlt, fun j u hu => hcell j u ?_⟩
      rw [strs_append, List.getElem?_append_left (List.getElem?_eq_some_iff.1 hu).1]
      exact hu
set_option maxRecDepth 100000 in
set_option maxHeartbeats 4000000 in
theorem keptT_any (A A1 : Option Addr) (c c1 : Nat) (ns : List ByteArray) (hN : ns.length ≤ 400000) (w : World) (hl : LentT w A c ns) (hy : Rd w w.heap.size A1 ns.length (strs ns)) :
    Calls Tryz.prog 40 #[.slice A ns.length c, .slice A1 ns.length c1] w fun e w' => e = .returned (.bool true) ∧ Kept w w' := by
  obtain ⟨hc, hx, _⟩ := hl
  have HX := Lib.hid hx
  have HY := Lib.hid hy
  have Hlen := Lib.hid (strs_length ns)
  obtain ⟨n, hn⟩ : ∃ n, n = ns.length := ⟨_, rfl⟩
  have Hn := Lib.hid hn
  rw [← hn] at hN hc HX HY Hlen ⊢
  clear hx hy hn
  have hc3 : (n : Int) + 12 ≤ c := by omega
  go_enter Tryz.func40, Tryz.ntmps40
  go_wp2_with fail
  go_loopw [6] (fun i wr => ∃ k : Nat, k ≤ n + 12 ∧ i = .int .i64 k ∧ Hid (Kept w wr)) (fun i _ => n + 12 - (intOf i).toNat)
  case atStart => exact ⟨0, by omega, rfl, Below.refl _ _⟩
  case round =>
    obtain ⟨k, hk, rfl, hkr⟩ := hrel
    by_cases hkn : k < n + 12
    · obtain ⟨ad, u, rfl, hadb, hu, hcu0⟩ := HX.out.at_ hkn
      have hcu := (Below.cell hkr.out (by rw [addBlock]; exact hadb)).trans hcu0
      have hk1 : (k : Int) < n + 12 := by omega
      by_cases hk2 : k < n
      · obtain ⟨bd, v, rfl, hbdb, hv, hcv0⟩ := HY.out.at_ hk2
        have hcv := (Below.cell hkr.out (by rw [addBlock]; exact hbdb)).trans hcv0
        rw [strs_append, List.getElem?_append_left (by rw [Hlen.out]; exact hk2)] at hu
        rw [hv] at hu
        obtain rfl := Option.some.inj hu
        rw [strs_get ns k (by rw [← Hn.out]; exact hk2)] at hv
        obtain rfl := (Option.some.inj hv).symm
        generalize ns[k] = x at *
        have hk3 : decide ((k : Int) < n) = true := decide_eq_true (by omega)
        have hk4 : decide (k < n) = true := decide_eq_true hk2
        have hk5 : decide ((n : Int) ≤ k) = false := decide_eq_false (by omega)
        have hk6 : decide (n ≤ k) = false := decide_eq_false (by omega)
        have hk7 : (k : Int) < n := by omega
        have hb2 := Below.refl wr.heap.size wr
        clear hcu0 hcv0 hadb hbdb hv
        go_upto_region 7 with fail
        go_quiet (fail)
        go_wp2_with fail
        go_roundw
        case rel => exact ⟨k + 1, by omega, by go_num, below_drewN hkr.out _⟩
        case measure => simp [intOf]; omega
      · have e1 := tmarks_get (k - n) (by omega)
        rw [strs_append, List.getElem?_append_right (by rw [Hlen.out]; omega), Hlen.out] at hu
        unfold strs at hu
        rw [List.getElem?_map, e1] at hu
        obtain rfl := (Option.some.inj hu).symm
        obtain ⟨d, hd⟩ : ∃ d : Nat, d = k - n := ⟨_, rfl⟩
        rw [← hd] at hcu
        have hdw : IntKind.i64.wrap ((k : Int) - (n : Int)) = (d : Int) := by rw [IntWalk.i64_in _ (by omega)]; omega
        have CM := Lib.hid (fun W => markText_any 1 (d : Int) W)
        generalize mT 1 (d : Int) = x at *
        have hk3 : decide ((k : Int) < n) = false := decide_eq_false (by omega)
        have hk4 : decide (k < n) = false := decide_eq_false hk2
        have hk5 : decide ((n : Int) ≤ k) = true := decide_eq_true (by omega)
        have hk6 : decide (n ≤ k) = true := decide_eq_true (by omega)
        have hk7 : ¬ (k : Int) < n := by omega
        have hk8 : (n : Int) ≤ k := by omega
        have hk9 : n ≤ k := by omega
        have Hk : Hid (∀ W, Below wr.heap.size wr W → W.cell? (ad.add k) = some (.string x) ∧ Below wr.heap.size wr W) := fun W h => ⟨(Below.cell h (block_lt_of_cell hcu)).trans hcu, h⟩
        clear hcu0 hadb e1 hu hcu hd
        go_upto_region 7 with fail
        refine wp_region_held_drew (S := (fun W => W.cell? (ad.add k) = some (.string x) ∧ Below wr.heap.size wr W)) (by kernel_rfl) ?_ (fun hHeld => ?_)
        · exact Hk.out _ (by repeat (first | with_reducible assumption | with_reducible refine below_drew0 ?_ | with_reducible exact Below.refl _ _))
        refine wpAnyH_take (i := 0) (oi := ⟨some 23, _, _, _, _, _⟩) (v := ?_) rfl (by kernel_rfl) (by kernel_rfl) (by kernel_rfl) (fun _ _ _ h => h) (Or.inl ⟨by rfl, ?_⟩) hHeld ?_
        rotate_left
        · (intro w hSw; (try dsimp only at hSw); go_simp; (try with_reducible rfl))
        try simp only [Act.put, List.setIfInBounds_toArray, List.set_cons_zero, List.set_cons_succ]
        refine wpAnyH_take (i := 1) (oi := ⟨some 24, _, _, _, _, _⟩) (v := ?_) rfl (by kernel_rfl) (by kernel_rfl) (by kernel_rfl) (fun _ _ _ h => h) (Or.inl ⟨by rfl, ?_⟩) hHeld ?_
        rotate_left
        · (intro w hSw; (try dsimp only at hSw); go_simp; (try with_reducible rfl))
        try simp only [Act.put, List.setIfInBounds_toArray, List.set_cons_zero, List.set_cons_succ]
        refine wpAnyH_take (i := 2) (oi := ⟨some 25, _, _, _, _, _⟩) (v := ?_) rfl (by kernel_rfl) (by kernel_rfl) (by kernel_rfl) (fun _ _ _ h => h) (Or.inl ⟨by rfl, ?_⟩) hHeld ?_
        rotate_left
        · (intro w hSw; (try dsimp only at hSw); go_simp; (try with_reducible rfl))
        try simp only [Act.put, List.setIfInBounds_toArray, List.set_cons_zero, List.set_cons_succ]
        refine wpAnyH_take (i := 3) (oi := ⟨some 26, _, _, _, _, _⟩) (v := ?_) rfl (by kernel_rfl) (by kernel_rfl) (by kernel_rfl) (fun _ _ _ h => h) (Or.inl ⟨by rfl, ?_⟩) hHeld ?_
        rotate_left
        · (intro w hSw; (try dsimp only at hSw); go_simp; (try with_reducible rfl))
        try simp only [Act.put, List.setIfInBounds_toArray, List.set_cons_zero, List.set_cons_succ]
        refine wpAnyH_take (i := 4) (oi := ⟨some 27, _, _, _, _, _⟩) (v := ?_) rfl (by kernel_rfl) (by kernel_rfl) (by kernel_rfl) (fun _ _ _ h => h) (Or.inl ⟨by rfl, ?_⟩) hHeld ?_
        rotate_left
        · (intro w hSw; (try dsimp only at hSw); go_simp; (try with_reducible rfl))
        try simp only [Act.put, List.setIfInBounds_toArray, List.set_cons_zero, List.set_cons_succ]
        refine wpAnyH_take (i := 5) (oi := ⟨some 28, _, _, _, _, _⟩) rfl (by kernel_rfl) (by kernel_rfl) (by kernel_rfl) (fun _ _ _ h => h) (Or.inr ⟨by rfl, rfl⟩) hHeld ?_
        try simp only [Act.put, List.setIfInBounds_toArray, List.set_cons_zero, List.set_cons_succ]
        refine wpAnyH_take (i := 6) (oi := ⟨some 29, _, _, _, _, _⟩) rfl (by kernel_rfl) (by kernel_rfl) (by kernel_rfl) (fun _ _ _ h => h) (Or.inr ⟨by rfl, rfl⟩) hHeld ?_
        try simp only [Act.put, List.setIfInBounds_toArray, List.set_cons_zero, List.set_cons_succ]
        refine wpAnyH_take (i := 7) (oi := ⟨some 30, _, _, _, _, _⟩) rfl (by kernel_rfl) (by kernel_rfl) (by kernel_rfl) (fun _ _ _ h => h) (Or.inr ⟨by rfl, rfl⟩) hHeld ?_
        try simp only [Act.put, List.setIfInBounds_toArray, List.set_cons_zero, List.set_cons_succ]
        refine wpAnyH_take (i := 8) (oi := ⟨some 31, _, _, _, _, _⟩) rfl (by kernel_rfl) (by kernel_rfl) (by kernel_rfl) (fun _ _ _ h => h) (Or.inr ⟨by rfl, rfl⟩) hHeld ?_
        try simp only [Act.put, List.setIfInBounds_toArray, List.set_cons_zero, List.set_cons_succ]
        refine wpAnyH_take (i := 9) (oi := ⟨some 32, _, _, _, _, _⟩) rfl (by kernel_rfl) (by kernel_rfl) (by kernel_rfl) (fun _ _ _ h => h) (Or.inr ⟨by rfl, rfl⟩) hHeld ?_
        try simp only [Act.put, List.setIfInBounds_toArray, List.set_cons_zero, List.set_cons_succ]
        refine wpAnyH_take (i := 10) (oi := ⟨some 33, _, _, _, _, _⟩) rfl (by kernel_rfl) (by kernel_rfl) (by kernel_rfl) (fun _ _ _ h => h) (Or.inr ⟨by rfl, rfl⟩) hHeld ?_
        try simp only [Act.put, List.setIfInBounds_toArray, List.set_cons_zero, List.set_cons_succ]
        refine wpAnyH_take (i := 11) (oi := ⟨some 34, _, _, _, _, _⟩) rfl (by kernel_rfl) (by kernel_rfl) (by kernel_rfl) (fun _ _ _ h => h) (Or.inr ⟨by rfl, rfl⟩) hHeld ?_
        try simp only [Act.put, List.setIfInBounds_toArray, List.set_cons_zero, List.set_cons_succ]
        refine wpAnyH_take (i := 12) (oi := ⟨some 35, _, _, _, _, _⟩) rfl (by kernel_rfl) (by kernel_rfl) (by kernel_rfl) (fun _ _ _ h => h) (Or.inr ⟨by rfl, rfl⟩) hHeld ?_
        try simp only [Act.put, List.setIfInBounds_toArray, List.set_cons_zero, List.set_cons_succ]
        refine wpAnyH_take (i := 13) (oi := ⟨some 36, _, _, _, _, _⟩) rfl (by kernel_rfl) (by kernel_rfl) (by kernel_rfl) (fun _ _ _ h => h) (Or.inr ⟨by rfl, rfl⟩) hHeld ?_
        try simp only [Act.put, List.setIfInBounds_toArray, List.set_cons_zero, List.set_cons_succ]
        refine wpAnyH_take (i := 14) (oi := ⟨some 37, _, _, _, _, _⟩) rfl (by kernel_rfl) (by kernel_rfl) (by kernel_rfl) (fun _ _ _ h => h) (Or.inr ⟨by rfl, rfl⟩) hHeld ?_
        try simp only [Act.put, List.setIfInBounds_toArray, List.set_cons_zero, List.set_cons_succ]
        refine wpAnyH_take (i := 15) (oi := ⟨some 38, _, _, _, _, _⟩) (v := ?_) rfl (by kernel_rfl) (by kernel_rfl) (by kernel_rfl) (fun _ _ _ h => h) (Or.inl ⟨by rfl, ?_⟩) hHeld ?_
        rotate_left
        · (intro w hSw; (try dsimp only at hSw); go_simp; (try with_reducible rfl))
        try simp only [Act.put, List.setIfInBounds_toArray, List.set_cons_zero, List.set_cons_succ]
        refine wpAnyH_take (i := 16) (oi := ⟨some 39, _, _, _, _, _⟩) (v := ?_) rfl (by kernel_rfl) (by kernel_rfl) (by kernel_rfl) (fun _ _ _ h => h) (Or.inl ⟨by rfl, ?_⟩) hHeld ?_
        rotate_left
        · (intro w hSw; (try dsimp only at hSw); go_simp; (try with_reducible rfl))
        try simp only [Act.put, List.setIfInBounds_toArray, List.set_cons_zero, List.set_cons_succ]
        refine wpAnyH_take (i := 17) (oi := ⟨some 40, _, _, _, _, _⟩) (v := ?_) rfl (by kernel_rfl) (by kernel_rfl) (by kernel_rfl) (fun _ _ _ h => h) (Or.inl ⟨by rfl, ?_⟩) hHeld ?_
        rotate_left
        · (intro w hSw; (try dsimp only at hSw); go_simp; (try with_reducible rfl))
        try simp only [Act.put, List.setIfInBounds_toArray, List.set_cons_zero, List.set_cons_succ]
        refine wpAnyH_take (i := 18) (oi := ⟨some 41, _, _, _, _, _⟩) (v := ?_) rfl (by kernel_rfl) (by kernel_rfl) (by kernel_rfl) (fun _ _ _ h => h) (Or.inl ⟨by rfl, ?_⟩) hHeld ?_
        rotate_left
        · (intro w hSw; (try dsimp only at hSw); go_simp; (try with_reducible rfl))
        try simp only [Act.put, List.setIfInBounds_toArray, List.set_cons_zero, List.set_cons_succ]
        refine wpAnyH_take (i := 19) (oi := ⟨some 42, _, _, _, _, _⟩) (v := ?_) rfl (by kernel_rfl) (by kernel_rfl) (by kernel_rfl) (fun _ _ _ h => h) (Or.inl ⟨by rfl, ?_⟩) hHeld ?_
        rotate_left
        · (intro w hSw; (try dsimp only at hSw); go_simp; (try with_reducible rfl))
        try simp only [Act.put, List.setIfInBounds_toArray, List.set_cons_zero, List.set_cons_succ]
        refine wpAnyH_take (i := 20) (oi := ⟨some 43, _, _, _, _, _⟩) (v := ?_) rfl (by kernel_rfl) (by kernel_rfl) (by kernel_rfl) (fun _ _ _ h => h) (Or.inl ⟨by rfl, ?_⟩) hHeld ?_
        rotate_left
        · (intro w hSw; (try dsimp only at hSw); go_simp; (try with_reducible rfl))
        try simp only [Act.put, List.setIfInBounds_toArray, List.set_cons_zero, List.set_cons_succ]
        refine wpAnyH_take (i := 21) (oi := ⟨some 44, _, _, _, _, _⟩) (v := ?_) rfl (by kernel_rfl) (by kernel_rfl) (by kernel_rfl) (fun _ _ _ h => h) (Or.inl ⟨by rfl, ?_⟩) hHeld ?_
        rotate_left
        · (intro w hSw; (try dsimp only at hSw); go_simp; (try with_reducible rfl))
        try simp only [Act.put, List.setIfInBounds_toArray, List.set_cons_zero, List.set_cons_succ]
        refine wpAnyH_take (i := 22) (oi := ⟨some 45, _, _, _, _, _⟩) (v := ?_) rfl (by kernel_rfl) (by kernel_rfl) (by kernel_rfl) (fun _ _ _ h => h) (Or.inl ⟨by rfl, ?_⟩) hHeld ?_
        rotate_left
        · (intro w hSw; (try dsimp only at hSw); go_simp; (try with_reducible rfl))
        try simp only [Act.put, List.setIfInBounds_toArray, List.set_cons_zero, List.set_cons_succ]
        refine wpAnyH_take (i := 23) (oi := ⟨some 46, _, _, _, _, _⟩) (v := ?_) rfl (by kernel_rfl) (by kernel_rfl) (by kernel_rfl) (fun _ _ _ h => h) (Or.inl ⟨by rfl, ?_⟩) hHeld ?_
        rotate_left
        · (intro w hSw; (try dsimp only at hSw); go_simp; (try with_reducible rfl))
        try simp only [Act.put, List.setIfInBounds_toArray, List.set_cons_zero, List.set_cons_succ]
        refine wpAnyH_take (i := 24) (oi := ⟨some 47, _, _, _, _, _⟩) (v := ?_) rfl (by kernel_rfl) (by kernel_rfl) (by kernel_rfl) (fun _ _ _ h => h) (Or.inl ⟨by rfl, ?_⟩) hHeld ?_
        rotate_left
        · (intro w hSw; (try dsimp only at hSw); go_simp; (try with_reducible rfl))
        try simp only [Act.put, List.setIfInBounds_toArray, List.set_cons_zero, List.set_cons_succ]
        refine wpAnyH_take (i := 25) (oi := ⟨some 48, _, _, _, _, _⟩) (v := ?_) rfl (by kernel_rfl) (by kernel_rfl) (by kernel_rfl) (fun _ _ _ h => h) (Or.inl ⟨by rfl, ?_⟩) hHeld ?_
        rotate_left
        · (intro w hSw; (try dsimp only at hSw); go_simp; (try with_reducible rfl))
        try simp only [Act.put, List.setIfInBounds_toArray, List.set_cons_zero, List.set_cons_succ]
        refine wpAnyH_take (i := 26) (oi := ⟨some 49, _, _, _, _, _⟩) (v := ?_) rfl (by kernel_rfl) (by kernel_rfl) (by kernel_rfl) (fun _ _ _ h => h) (Or.inl ⟨by rfl, ?_⟩) hHeld ?_
        rotate_left
        · (intro w hSw; (try dsimp only at hSw); go_simp; (try with_reducible rfl))
        try simp only [Act.put, List.setIfInBounds_toArray, List.set_cons_zero, List.set_cons_succ]
        refine wpAnyH_take (i := 27) (oi := ⟨some 50, _, _, _, _, _⟩) (v := ?_) rfl (by kernel_rfl) (by kernel_rfl) (by kernel_rfl) (fun _ _ _ h => h) (Or.inl ⟨by rfl, ?_⟩) hHeld ?_
        rotate_left
        · (intro w hSw; (try dsimp only at hSw); go_simp; (try with_reducible rfl))
        try simp only [Act.put, List.setIfInBounds_toArray, List.set_cons_zero, List.set_cons_succ]
        refine wpAnyH_take (i := 28) (oi := ⟨some 51, _, _, _, _, _⟩) (v := ?_) rfl (by kernel_rfl) (by kernel_rfl) (by kernel_rfl) (fun _ _ _ h => h) (Or.inl ⟨by rfl, ?_⟩) hHeld ?_
        rotate_left
        · (intro w hSw; (try dsimp only at hSw); go_simp; (try with_reducible rfl))
        try simp only [Act.put, List.setIfInBounds_toArray, List.set_cons_zero, List.set_cons_succ]
        refine wpAnyH_take (i := 29) (oi := ⟨some 52, _, _, _, _, _⟩) (v := ?_) rfl (by kernel_rfl) (by kernel_rfl) (by kernel_rfl) (fun _ _ _ h => h) (Or.inl ⟨by rfl, ?_⟩) hHeld ?_
        rotate_left
        · (intro w hSw; (try dsimp only at hSw); go_simp; (try with_reducible rfl))
        try simp only [Act.put, List.setIfInBounds_toArray, List.set_cons_zero, List.set_cons_succ]
        refine wpAnyH_ready (rs := [30]) (by kernel_rfl) (by simp) ?_
        refine AllReadyH.cons (o := ⟨some 53, _, _, _, _, _⟩) rfl (fun K hK => ?_) (AllReadyH.nil)
        · go_simp
          go_at_call 72; refine (CM.out _).mono ?_; rintro e wa ⟨rfl, ka⟩; have hba := below_kept hHeld.2 ka; dsimp only
          go_wp2_with fail
          refine hK.out _ _ ?_ (fun hHeld => ?_)
          · exact Hk.out _ (by repeat (first | with_reducible assumption | with_reducible refine below_drew0 ?_ | with_reducible exact Below.refl _ _))
          clear hK K
          try simp only [Act.put, List.setIfInBounds_toArray, List.set_cons_zero, List.set_cons_succ]
          refine wpAnyH_take (i := 31) (oi := ⟨some 54, _, _, _, _, _⟩) (v := ?_) rfl (by kernel_rfl) (by kernel_rfl) (by kernel_rfl) (fun _ _ _ h => h) (Or.inl ⟨by rfl, ?_⟩) hHeld ?_
          rotate_left
          · (intro w hSw; (try dsimp only at hSw); go_simp; (try with_reducible rfl))
          try simp only [Act.put, List.setIfInBounds_toArray, List.set_cons_zero, List.set_cons_succ]
          refine wpAnyH_take (i := 32) (oi := ⟨some 55, _, _, _, _, _⟩) (v := ?_) rfl (by kernel_rfl) (by kernel_rfl) (by kernel_rfl) (fun _ _ _ h => h) (Or.inl ⟨by rfl, ?_⟩) hHeld ?_
          rotate_left
          · (intro w hSw; (try dsimp only at hSw); go_simp; (try with_reducible rfl))
          try simp only [Act.put, List.setIfInBounds_toArray, List.set_cons_zero, List.set_cons_succ]
          refine wpAnyH_take (i := 33) (oi := ⟨some 56, _, _, _, _, _⟩) (v := ?_) rfl (by kernel_rfl) (by kernel_rfl) (by kernel_rfl) (fun _ _ _ h => h) (Or.inl ⟨by rfl, ?_⟩) hHeld ?_
          rotate_left
          · (intro w hSw; (try dsimp only at hSw); go_simp; (try with_reducible rfl))
          try simp only [Act.put, List.setIfInBounds_toArray, List.set_cons_zero, List.set_cons_succ]
          refine wpAnyH_take (i := 34) (oi := ⟨some 57, _, _, _, _, _⟩) (v := ?_) rfl (by kernel_rfl) (by kernel_rfl) (by kernel_rfl) (fun _ _ _ h => h) (Or.inl ⟨by rfl, ?_⟩) hHeld ?_
          rotate_left
          · (intro w hSw; (try dsimp only at hSw); go_simp; (try with_reducible rfl))
          try simp only [Act.put, List.setIfInBounds_toArray, List.set_cons_zero, List.set_cons_succ]
          refine wpAnyH_done (by kernel_rfl) ?_ _
          go_wp2_with fail
          go_roundw
          case rel => exact ⟨k + 1, by omega, by go_num, below_kept hkr.out hHeld.2⟩
          case measure => simp [intOf]; omega
    · obtain rfl : k = n + 12 := by omega
      go_wp2_with fail
      go_ret
      exact ⟨rfl, hkr.out⟩
end Go.Proofs.YtlhekeokognhmaaGreatDoor
