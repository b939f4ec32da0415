/-
  The statements' kit: marks; labels that are lent, and kept. The statements' kit: labels that are kept, and overwritten; short; is.
-/
import Derived.Test.YtlhekeokognhmaaGreatDoorMgbd
import Derived.Test.YtlhekeokognhmaaGreatDoorMgbe
import Derived.Laws.Cover1
namespace Go.Proofs.YtlhekeokognhmaaGreatDoor
open Go.RowKit Go.Shelf Go.Maps Go.Sort
/-- The marks behind labels that are lent. -/
def lmarks : List Lab := [mkLab 9 0, mkLab 9 1, mkLab 9 2]
theorem lmarks_get (k : Nat) (hk : k < 3) : lmarks[k]? = some (mkLab 9 (k : Int)) ∧ lmarks.take (k + 1) = lmarks.take k ++ [mkLab 9 (k : Int)] := by
  rcases (by omega : k = 0 ∨ k = 1 ∨ k = 2) with rfl | rfl | rfl <;> exact ⟨rfl, rfl⟩
/-- Labels that lie with marks behind them. -/
def Lent (w : World) (base : Nat) (A : Option Addr) (c : Nat) (L : List Lab) : Prop := w.ownsRow base 33 2 (.slice A (L.length + 3) c) (L.length + 3) (labs (L ++ lmarks))
theorem labs_mk (O : List Lab) (x : Lab) : labs (O ++ [x]) = labs O ++ [.string x.1, .string x.2] := by rw [labs_app]; rfl
set_option maxRecDepth 100000 in
set_option maxHeartbeats 2000000 in
theorem lentL_any (A : Option Addr) (c : Nat) (L : List Lab) (hL : L.length ≤ 400000) (w : World) (hr : RdL w w.heap.size A L) :
    Calls Tryz.prog 29 #[.slice A L.length c] w fun e w' => ∃ A' c', e = .returned (.slice A' L.length c') ∧ Lent w' w.heap.size A' c' L ∧ Kept w w' := by
  have HR : Hid (Rd w w.heap.size A (L.length * 2) (labs L)) := hr
  obtain ⟨i0, hi0, hz0, hz1, hz2⟩ := info_parts infoLab
  unfold Lent
  obtain ⟨n, hn⟩ : ∃ n, n = L.length := ⟨_, rfl⟩
  have Hn := Lib.hid hn
  rw [← hn] at hL HR ⊢
  clear hr hn
  go_enter Tryz.func29, Tryz.ntmps29
  go_wp2_with (first
    | (at_make; refine wpList_make_own _ rfl _ _ 28 rfl w.heap.size 33 i0 _ 2 Tryz.underlying28 hi0 hz0 hz1 .i64 .i64 _ (n + 3) rfl rfl (by omega) (by rw [hz2]; omega) (by unfold maxLen; omega) (Nat.le_refl _) ?_; intro w1 hown1 hg1; have Hown1 := Lib.hid hown1; have Hg1 := Lib.hid hg1; have hs1 := hg1.size; have HK1 : Hid (Kept w w1) := below_of_grown hg1 (Nat.le_refl _) (fun k e => by cases e); clear hown1 hg1)
    | (at_builtin; refine wpList_appG rfl _ _ 28 28 rfl Tryz.underlying28 w.heap.size i0 _ 32 Tryz.underlying28 hi0 hz0 hz1 hz2 rfl _ 0 [] rfl Hown1.out A n c (labs L) rfl (rd_kept HK1.out HR.out) (labs_one L) (by unfold maxLen; omega) (by omega) hs1 ?_; intro v2 w2 hown2 hg2; have Hown2 := Lib.hid hown2; have Hg2 := Lib.hid hg2; clear hown2 hg2))
  have hB2 : Kept w w2 := HK1.out.grown Hg2.out hs1 (fun k e => (Hown1.out.lt k e).1)
  have hown2' : w2.ownsRow w.heap.size 33 2 v2 n (labs L) := by have := Hown2.out; rwa [Nat.zero_add, List.nil_append] at this
  have Ho := Lib.hid hown2'
  have HB2 := Lib.hid hB2
  clear Hown1 Hg1 hs1 Hown2 Hg2 hown2' hB2 HK1
  go_loopw [3, 4] (fun v i wr => ∃ k : Nat, k ≤ 3 ∧ i = .int .i64 k ∧ Hid (wr.ownsRow w.heap.size 33 2 v (n + k) (labs (L ++ lmarks.take k))) ∧ Hid (Kept w wr)) (fun _ i _ => 3 - (intOf i).toNat)
  case atStart => exact ⟨0, by omega, rfl, by show World.ownsRow _ _ _ _ _ _ _; rw [List.take_zero, List.append_nil]; exact Ho.out, HB2⟩
  case round =>
    obtain ⟨k, hk, rfl, hown, hb⟩ := hrel
    by_cases hkn : k < 3
    · have Hsn := Lib.hid (lmarks_get k hkn).2
      have CM := Lib.hid (fun W => markLabel_any 9 (k : Int) W)
      have hbs := hb.out.size
      generalize mkLab 9 (k : Int) = x at *
      obtain ⟨xa, xb⟩ := x
      dsimp only at CM
      go_wp2_with (first
        | (go_at_call 71; (with_reducible refine (CM.out _).mono ?_); rintro e w3 ⟨rfl, hk3⟩; have HK3 := Lib.hid hk3; have HKw := Lib.hid (below_kept hb.out hk3); have hs3 := (below_kept hb.out hk3).size; clear hk3)
        | (at_builtin; refine wpList_append_own_at _ rfl _ _ 28 rfl w.heap.size 33 i0 _ 2 32 Tryz.underlying28 hi0 hz0 hz1 hz2 rfl (by decide) u3 (n + k) (labs (L ++ lmarks.take k)) rfl ((own_below hown.out HK3.out).alloc _) ⟨w3.heap.size, 0, none⟩ 1 1 [.string xa, .string xb] rfl rfl (cells_new w3 [.string xa, .string xb] 33) (by intro u hu; simp at hu; rcases hu with rfl | rfl <;> rfl) (by unfold maxLen; omega) (by omega) (by simp; omega) ?_; intro v5 w5 hown5 hg5 hn5 hl5; have Hown5 := Lib.hid hown5; have HG5 := Lib.hid hg5; clear hown5 hg5 hn5 hl5))
      have hka : Kept w (w3.alloc (.cells #[.string xa, .string xb] 33)) := HKw.out.alloc hs3 _
      have hB5 : Kept w w5 := hka.grown HG5.out (by simp; omega) (fun j e => ((own_below hown.out HK3.out).lt j e).1)
      go_roundw
      case rel => exact ⟨k + 1, by omega, by go_num, by show World.ownsRow _ _ _ _ _ _ _; rw [Hsn.out, ← List.append_assoc, labs_mk]; exact Hown5.out, hB5⟩
      case measure => simp [intOf]; omega
    · obtain rfl : k = 3 := by omega
      have hown' := hown.out
      rw [show lmarks.take 3 = lmarks from rfl] at hown'
      obtain ⟨A', c', rfl, hc', _⟩ := own_rdG hown'
      have Ho' := Lib.hid hown'
      have hnc : (n : Int) ≤ c' := by omega
      clear hown hown' Ho
      go_wp2_with fail
      go_ret
      exact ⟨A', c', rfl, Ho'.out, hb.out⟩
theorem Lent.rd {w : World} {base : Nat} {A : Option Addr} {c : Nat} {L : List Lab} (h : Lent w base A c L) : ∃ g, A = some ⟨g, 0, none⟩ ∧ base ≤ g ∧ g < w.heap.size ∧ L.length + 3 ≤ c ∧ Rd w w.heap.size A ((L.length + 3) * 2) (labs (L ++ lmarks)) ∧ RdL w w.heap.size A L := by
  have h0 := h
  unfold Lent at h
  obtain ⟨A', c', he, hc, hr, _⟩ := own_rdG h
  cases he
  rcases h.2 with ⟨e, hz⟩ | ⟨g, cap, cur, e, hb, hg, _⟩
  · omega
  · cases e
    refine ⟨g, rfl, hb, heap_lt hg, hc, hr, ⟨labs_length L, fun hn => ?_⟩⟩
    obtain ⟨ad, e, hlt, hcell⟩ := hr.2 (by omega)
    refine ⟨ad, e, hlt, fun j u hu => hcell j u ?_⟩
    rw [labs_app, List.getElem?_append_left (List.getElem?_eq_some_iff.1 hu).1]
    exact hu
theorem Lent.kept {w w' : World} {base : Nat} {A : Option Addr} {c : Nat} {L : List Lab} (h : Lent w base A c L) (hk : Kept w w') : Lent w' base A c L := own_below h hk
end Go.Proofs.YtlhekeokognhmaaGreatDoor
namespace Go.Proofs.YtlhekeokognhmaaGreatDoor
open Go.RowKit Go.Shelf Go.Maps Go.Sort
theorem addr_at (g i : Nat) : (⟨g, 0, none⟩ : Addr).add i = ⟨g, i, none⟩ := add0 g i
theorem sameB_refl (L : List Lab) : sameB L L = true := decide_eq_true rfl
set_option maxRecDepth 100000 in
set_option maxHeartbeats 2000000 in
theorem keptL_any (g c c1 : Nat) (A1 : Option Addr) (L : List Lab) (hL : L.length ≤ 400000) (w : World) (hx : Rd w w.heap.size (some ⟨g, 0, none⟩) ((L.length + 3) * 2) (labs (L ++ lmarks))) (hx1 : RdL w w.heap.size (some ⟨g, 0, none⟩) L) (hc : L.length + 3 ≤ c) (hy : RdL w w.heap.size A1 L) :
    Calls Tryz.prog 39 #[.slice (some ⟨g, 0, none⟩) L.length c, .slice A1 L.length c1] w fun e w' => e = .returned (.bool true) ∧ Kept w w' := by
  have CS := Lib.hid (same_any (some ⟨g, 0, none⟩) A1 c c1 L L (by omega) (by omega) w hx1 hy)
  rw [sameB_refl] at CS
  have Hcell : Hid (∀ k, k < 3 → w.cell? ⟨g, (L.length + k) * 2, none⟩ = some (.string (mkLab 9 (k : Int)).1) ∧ w.cell? ⟨g, (L.length + k) * 2 + 1, none⟩ = some (.string (mkLab 9 (k : Int)).2)) := fun k hk => by
    obtain ⟨ad, e, _, hcell⟩ := hx.2 (by omega)
    cases e
    have hm : (L ++ lmarks)[L.length + k]? = some (mkLab 9 (k : Int)) := by
      rw [List.getElem?_append_right (by omega), Nat.add_sub_cancel_left]
      exact (lmarks_get k hk).1
    obtain ⟨h1, h2⟩ := labs_get _ _ _ hm
    refine ⟨?_, ?_⟩
    · rw [← addr_at]; exact hcell _ _ h1
    · rw [← addr_at]; exact hcell _ _ h2
  have hlt : g < w.heap.size := by
    obtain ⟨ad, e, h, _⟩ := hx.2 (by omega)
    cases e
    exact h
  obtain ⟨n, hn⟩ : ∃ n, n = L.length := ⟨_, rfl⟩
  rw [← hn] at hL hc CS Hcell ⊢
  clear hx hx1 hy hn
  have hc3 : ¬ (c : Int) < (n : Int) + 3 := by omega
  have hc4 : (n : Int) + 3 ≤ c := by omega
  go_enter Tryz.func39, Tryz.ntmps39
  go_wp2_with (go_at_call 79; (with_reducible refine CS.out.mono ?_); rintro e w1 ⟨rfl, hk⟩; have HK1 := Lib.hid hk; clear hk)
  go_loopw [6] (fun v6 wr => ∃ k : Nat, k ≤ 3 ∧ v6 = .int .i64 k ∧ Hid (Kept w wr)) (fun v6 _ => 3 - (intOf v6).toNat)
  case atStart => exact ⟨0, by omega, rfl, HK1.out⟩
  case round =>
    obtain ⟨k, hk, rfl, hkr⟩ := hrel
    by_cases hkn : k < 3
    · obtain ⟨c0, c1'⟩ := Hcell.out k hkn
      have q0 := (Below.cell (p := ⟨g, (n + k) * 2, none⟩) hkr.out hlt).trans c0
      have q1 := (Below.cell (p := ⟨g, (n + k) * 2 + 1, none⟩) hkr.out hlt).trans c1'
      have CM := Lib.hid (fun W => markLabel_any 9 (k : Int) W)
      have hlr : g < wr.heap.size := Nat.lt_of_lt_of_le hlt hkr.out.size
      generalize mkLab 9 (k : Int) = x at *
      obtain ⟨xa, xb⟩ := x
      dsimp only at CM q0 q1
      clear c0 c1'
      obtain ⟨q, hq⟩ : ∃ q, q = n + k := ⟨_, rfl⟩
      rw [← hq] at q0 q1
      have hw : IntKind.i64.wrap ((n : Int) + (k : Int)) = (q : Int) := by rw [IntWalk.i64_in _ (by omega)]; omega
      have hqb : (q : Int) < (n : Int) + 3 := by omega
      have hqb2 : q < n + 3 := by omega
      clear hq
      go_upto_region 7 with fail
      have Hk : Hid (∀ W', Below wr.heap.size wr W' → (W'.cell? ⟨g, q * 2, none⟩ = some (.string xa) ∧ W'.cell? ⟨g, q * 2 + 1, none⟩ = some (.string xb)) ∧ Below wr.heap.size wr W') := fun W' h => ⟨⟨(Below.cell h hlr).trans q0, (Below.cell h hlr).trans q1⟩, h⟩
      have hb00 : Below wr.heap.size wr wr.drew := (Below.refl wr.heap.size wr).drew
      clear q0 q1
      go_region_held3 (fun W' => (W'.cell? ⟨g, q * 2, none⟩ = some (.string xa) ∧ W'.cell? ⟨g, q * 2 + 1, none⟩ = some (.string xb)) ∧ Below wr.heap.size wr W')
        ((refine Hk.out _ ?_; assumption))
        (first
          | (go_at_call 71; refine (CM.out _).mono ?_; rintro e w3 ⟨rfl, hk3⟩; have k3 : Below wr.heap.size wr w3 := below_kept hb00 hk3; dsimp only))
      rename_i hS
      clear hS Hk hb00 hk3
      go_wp2_with fail
      go_roundw
      case rel => exact ⟨k + 1, by omega, by go_num, below_kept hkr.out k3⟩
      case measure => simp [intOf]; omega
    · obtain rfl : k = 3 := by omega
      go_wp2_with fail
      go_ret
      exact ⟨rfl, hkr.out⟩
def shortB (L : List Lab) : Bool := decide (L.length ≤ 70) && L.all fun x => decide (x.1.size ≤ 1100) && decide (x.2.size ≤ 1100)
theorem shortB_yes {L : List Lab} (h : shortB L = true) : L.length ≤ 70 ∧ ∀ x ∈ L, shortL x := by
  unfold shortB at h
  simp only [Bool.and_eq_true, decide_eq_true_eq, List.all_eq_true] at h
  exact ⟨h.1, fun x hx => h.2 x hx⟩
set_option maxRecDepth 100000 in
theorem short_any (A : Option Addr) (c : Nat) (L : List Lab) (w : World) (hr : RdL w w.heap.size A L) :
    Calls Tryz.prog 28 #[.slice A L.length c] w fun e w' => e = .returned (.bool (shortB L)) ∧ Kept w w' := by
  have HR := Lib.hid hr
  obtain ⟨n, hn⟩ : ∃ n, n = L.length := ⟨_, rfl⟩
  have Hn := Lib.hid hn
  by_cases h70 : n ≤ 70
  · have hs : shortB L = L.all fun x => decide (x.1.size ≤ 1100) && decide (x.2.size ≤ 1100) := by unfold shortB; rw [← hn, decide_eq_true h70, Bool.true_and]
    rw [hs]
    have h1 : ¬ (70 : Int) < (n : Int) := by omega
    rw [← hn]
    clear hr hs hn
    go_enter Tryz.func28, Tryz.ntmps28
    go_wp2_with fail
    go_loopw [10] (fun v10 wr => ∃ k : Nat, k ≤ n ∧ v10 = .int .i64 k ∧ Hid (Kept w wr) ∧ Hid ((L.all fun x => decide (x.1.size ≤ 1100) && decide (x.2.size ≤ 1100)) = (L.drop k).all fun x => decide (x.1.size ≤ 1100) && decide (x.2.size ≤ 1100))) (fun v10 _ => n - (intOf v10).toNat)
    case atStart => exact ⟨0, by omega, rfl, Below.refl _ _, rfl⟩
    case round =>
      obtain ⟨k, hk, rfl, hkr, hf⟩ := hrel
      by_cases hkn : k < n
      · obtain ⟨ad, ⟨xa, xb⟩, rfl, hadb, hx, hd, hc0, hc1⟩ := rdl_at HR.out (by rw [← Hn.out]; exact hkn)
        have e0 := (Below.cell hkr.out (by rw [addBlock]; exact hadb)).trans hc0
        have e1 := (Below.cell hkr.out (by rw [addBlock]; exact hadb)).trans hc1
        have Hcl := Lib.hid (lab_cells (x := (xa, xb)) e0 e1)
        have Hfd : Hid (((L.drop k).all fun x => decide (x.1.size ≤ 1100) && decide (x.2.size ≤ 1100)) = ((decide (xa.size ≤ 1100) && decide (xb.size ≤ 1100)) && (L.drop (k + 1)).all fun x => decide (x.1.size ≤ 1100) && decide (x.2.size ≤ 1100))) := by show _ = _; rw [hd]; rfl
        have k1 : Kept wr (wr.alloc (.cells #[.string xa, .string xb] 33)) := (Below.refl _ wr).alloc (Nat.le_refl _) _
        have K1 := Lib.hid (below_kept hkr.out k1)
        clear hc0 hc1 hx hd e0 e1 k1
        by_cases ha : xa.size ≤ 1100
        · have ha1 : ¬ (1100 : Int) < (xa.size : Int) := by omega
          by_cases hb : xb.size ≤ 1100
          · have hb1 : ¬ (1100 : Int) < (xb.size : Int) := by omega
            rw [decide_eq_true ha, decide_eq_true hb, Bool.true_and, Bool.true_and] at Hfd
            clear ha hb
            go_wp2_with (first | (refine wpList_load_at rfl 33 (.tmp 12) rfl (ad.add (k * 2)) rfl #[.string (xa, xb).1, .string (xa, xb).2] _ Hcl.out Tryz.underlying33 rfl sizeL ?_))
            go_roundw
            case rel => exact ⟨k + 1, by omega, by go_num, K1.out, by show _ = _; rw [hf.out, Hfd.out]⟩
            case measure => simp [intOf]; omega
          · have hb1 : (1100 : Int) < (xb.size : Int) := by omega
            rw [decide_eq_true ha, decide_eq_false hb, Bool.true_and, Bool.false_and] at Hfd
            clear ha hb
            go_wp2_with (first | (refine wpList_load_at rfl 33 (.tmp 12) rfl (ad.add (k * 2)) rfl #[.string (xa, xb).1, .string (xa, xb).2] _ Hcl.out Tryz.underlying33 rfl sizeL ?_))
            go_ret
            exact ⟨by rw [hf.out, Hfd.out]; rfl, K1.out⟩
        · have ha1 : (1100 : Int) < (xa.size : Int) := by omega
          rw [decide_eq_false ha, Bool.false_and, Bool.false_and] at Hfd
          clear ha
          go_wp2_with (first | (refine wpList_load_at rfl 33 (.tmp 12) rfl (ad.add (k * 2)) rfl #[.string (xa, xb).1, .string (xa, xb).2] _ Hcl.out Tryz.underlying33 rfl sizeL ?_))
          go_ret
          exact ⟨by rw [hf.out, Hfd.out]; rfl, K1.out⟩
      · obtain rfl : k = n := by omega
        go_wp2_with fail
        go_ret
        refine ⟨?_, hkr.out⟩
        rw [hf.out, List.drop_of_length_le (by rw [← Hn.out]; exact Nat.le_refl _)]
        rfl
  · have hs : shortB L = false := by unfold shortB; rw [← hn, decide_eq_false h70, Bool.false_and]
    rw [hs]
    have h1 : (70 : Int) < (n : Int) := by omega
    rw [← hn]
    clear hr hs hn h70 HR Hn
    go_enter Tryz.func28, Tryz.ntmps28
    go_wp2_with fail
    go_ret
    exact ⟨rfl, Below.refl _ _⟩
theorem is_any (A A1 : Option Addr) (c c1 : Nat) (L : List Lab) (hL : L.length ≤ 1000000) (q : Int) (w : World) (hr : RdL w w.heap.size A L) (hr1 : RdL w w.heap.size A1 L) :
    Calls Tryz.prog 36 #[.slice A L.length c, .int .i64 q, .slice A1 L.length c1, .int .i64 q] w fun e w' => e = .returned (.bool true) ∧ Kept w w' := by
  have CS := Lib.hid (same_any A A1 c c1 L L (by omega) (by omega) w hr hr1)
  rw [sameB_refl] at CS
  clear hr hr1
  go_enter Tryz.func36, Tryz.ntmps36
  go_wp2_with (go_at_call 79; (with_reducible refine CS.out.mono ?_); rintro e w1 ⟨rfl, hk⟩; have HK1 := Lib.hid hk; clear hk)
  go_ret
  exact ⟨rfl, HK1.out⟩
theorem overL_nil (w : World) : Calls Tryz.prog 52 #[.slice none 0 0] w fun e w' => e = .returned (.tuple #[]) ∧ w = w' := by
  go_enter Tryz.func52, Tryz.ntmps52
  go_wp2_with fail
  go_loopw [3] (fun v3 wr => v3 = .int .i64 0 ∧ wr = w) (fun v3 _ => 0)
  case atStart => exact ⟨rfl, rfl⟩
  case round =>
    obtain ⟨rfl, rfl⟩ := hrel
    go_wp2_with fail
    exact bodyPost_end (results_none Tryz.results52 _ _ _) rfl ⟨rfl, rfl⟩
set_option maxRecDepth 100000 in
set_option maxHeartbeats 2000000 in
theorem overL_at (g n c : Nat) (cur : Array Value) (hc : cur.size = c * 2) (hn : n ≤ c) (hm : c ≤ maxLen) (w : World) (hg : w.heap[g]? = some (.cells cur 33 (0, 0))) :
    Calls Tryz.prog 52 #[.slice (some ⟨g, 0, none⟩) n c] w fun e w' => e = .returned (.tuple #[]) ∧ Below g w w' := by
  have HG := Lib.hid hg
  have HC := Lib.hid hc
  have Hm := Lib.hid hm
  have hcc : n ≤ c := hn
  clear hg hc hm hn
  go_enter Tryz.func52, Tryz.ntmps52
  go_wp2_with fail
  go_loopw [3] (fun v3 wr => ∃ k : Nat, k ≤ c ∧ v3 = .int .i64 k ∧ Hid (Below g w wr) ∧ Hid (∃ cur', wr.heap[g]? = some (.cells cur' 33 (0, 0)) ∧ cur'.size = c * 2)) (fun v3 _ => c - (intOf v3).toNat)
  case atStart => exact ⟨0, by omega, rfl, Below.refl _ _, ⟨cur, HG.out, HC.out⟩⟩
  case round =>
    obtain ⟨k, hk, rfl, hkr, hcu⟩ := hrel
    by_cases hkn : k < c
    · obtain ⟨cur', hg', hc'⟩ := hcu.out
      have CM := Lib.hid (fun W => markLabel_any 10 (k : Int) W)
      have hw : IntKind.i64.wrap ((k : Int) + 1) = (k : Int) + 1 := by
        have := Hm.out
        unfold maxLen at this
        rw [IntWalk.i64_in _ (by omega)]
      have HG' := Lib.hid hg'
      have HC' := Lib.hid hc'
      have hgl : g < wr.heap.size := heap_lt hg'
      generalize mkLab 10 (k : Int) = x at *
      obtain ⟨xa, xb⟩ := x
      dsimp only at CM
      have Hold : Hid (k * 2 + 2 ≤ cur'.toList.length) := by show _ ≤ _; rw [Array.length_toList, hc']; omega
      clear hg' hc' hcu
      go_wp2_with (first
        | (go_at_call 71; (with_reducible refine (CM.out _).mono ?_); rintro e w3 ⟨rfl, hk3⟩; have HK3 := Lib.hid hk3; clear hk3)
        | (refine wpList_store_at rfl 33 (.tmp 18) (.tmp 17) rfl g (k * 2) [.string xa, .string xb] rfl rfl 33 cur'.toList (by rw [Array.toArray_toList]; exact heap_kept HK3.out HG'.out) sizeL Hold.out (by intro u hu; simp at hu; rcases hu with rfl | rfl <;> rfl) ?_))
      go_roundw
      case rel =>
        refine ⟨k + 1, by omega, by go_num, ?_, ⟨_, setRow_heap _ _ _ _ _ _ (heap_kept HK3.out HG'.out), ?_⟩⟩
        · exact below_setRow (hkr.out.trans (HK3.out.mono (Nat.le_of_lt hgl))) (Nat.le_refl _) _
        · rw [List.size_toArray, ← HC'.out]
          have : (splice cur'.toList (k * 2) [.string xa, .string xb]).length = cur'.toList.length := length_splice _ _ _ Hold.out
          rw [this, Array.length_toList]
      case measure => simp [intOf]; omega
    · obtain rfl : k = c := by omega
      go_wp2_with fail
      exact bodyPost_end (results_none Tryz.results52 _ _ _) rfl ⟨rfl, hkr.out⟩
/-- What is one's own is overwritten, and nothing else. -/
theorem overL_any (base : Nat) (v : Value) (n : Nat) (xs : List Value) (w : World) (h : w.ownsRow base 33 2 v n xs) : Calls Tryz.prog 52 #[v] w fun e w' => e = .returned (.tuple #[]) ∧ Below base w w' := by
  rcases h.2 with ⟨rfl, _⟩ | ⟨g, cap, cur, rfl, hb, hg, hn, hm, hc, _⟩
  · exact (overL_nil w).mono fun e w' ⟨h1, h2⟩ => ⟨h1, by subst h2; exact Below.refl _ _⟩
  · exact (overL_at g n cap cur hc hn hm w hg).mono fun e w' ⟨h1, h2⟩ => ⟨h1, h2.mono hb⟩
end Go.Proofs.YtlhekeokognhmaaGreatDoor
