/-
  Without and Compare.
-/
import Derived.Test.YtlhekeokognhmaaGreatDoorLbL
namespace Go.Proofs.YtlhekeokognhmaaGreatDoor
open Go.RowKit Go.Shelf Go.Maps Go.Sort
/-- How two strings compare. -/
def cmpS (a b : ByteArray) : Int := if Op.bytesLess a.toList b.toList then -1 else if a.toList == b.toList then 0 else 1
theorem nan_any (a : ByteArray) (w : World) : Calls Tryz.prog 103 #[.string a] w fun e w' => e = .returned (.bool false) ∧ w = w' := by
  have h : (a.toList == a.toList) = true := by simp
  go_enter Tryz.func103, Tryz.ntmps103
  go_wp2_with fail
  go_ret
  exact ⟨rfl, rfl⟩
set_option maxRecDepth 100000 in
theorem cmpS_any (a b : ByteArray) (w : World) : Calls Tryz.prog 83 #[.string a, .string b] w fun e w' => e = .returned (.int .i64 (cmpS a b)) ∧ w = w' := by
  have C := nan_any a w
  have C2 := nan_any b w
  have HC := Lib.hid C
  have HC2 := Lib.hid C2
  unfold cmpS
  clear C C2
  rcases h : Op.bytesLess a.toList b.toList with _ | _
  · rcases h2 : a.toList == b.toList with _ | _
    · go_enter Tryz.func83, Tryz.ntmps83
      go_wp2_with (first
        | (go_at_call 103; refine HC.out.mono ?_; rintro e w1 ⟨rfl, rfl⟩)
        | (go_at_call 103; refine HC2.out.mono ?_; rintro e w1 ⟨rfl, rfl⟩))
      go_ret
      exact ⟨rfl, rfl⟩
    · go_enter Tryz.func83, Tryz.ntmps83
      go_wp2_with (first
        | (go_at_call 103; refine HC.out.mono ?_; rintro e w1 ⟨rfl, rfl⟩)
        | (go_at_call 103; refine HC2.out.mono ?_; rintro e w1 ⟨rfl, rfl⟩))
      go_ret
      exact ⟨rfl, rfl⟩
  · go_enter Tryz.func83, Tryz.ntmps83
    go_wp2_with (first
      | (go_at_call 103; refine HC.out.mono ?_; rintro e w1 ⟨rfl, rfl⟩)
      | (go_at_call 103; refine HC2.out.mono ?_; rintro e w1 ⟨rfl, rfl⟩))
    go_ret
    exact ⟨rfl, rfl⟩
def prefB (s p : ByteArray) : Bool := decide (p.size ≤ s.size) && ((s.extract 0 p.size).toList == p.toList)
theorem pref_any (s p : ByteArray) (w : World) : Calls Tryz.prog 93 #[.string s, .string p] w fun e w' => e = .returned (.bool (prefB s p)) ∧ w = w' := by
  unfold prefB
  by_cases h : p.size ≤ s.size
  · go_enter Tryz.func93, Tryz.ntmps93
    go_wp2_with fail
    go_ret
    exact ⟨by simp [h], rfl⟩
  · go_enter Tryz.func93, Tryz.ntmps93
    go_wp2_with fail
    go_ret
    exact ⟨by simp [h], rfl⟩
theorem hasPref_any (s p : ByteArray) (w : World) : Calls Tryz.prog 54 #[.string s, .string p] w fun e w' => e = .returned (.bool (prefB s p)) ∧ w = w' := by
  have C := Lib.hid (pref_any s p w)
  go_enter Tryz.func54, Tryz.ntmps54
  go_wp2_with (go_at_call 93; refine C.out.mono ?_; rintro e w1 ⟨rfl, rfl⟩)
  go_ret
  exact ⟨rfl, rfl⟩
theorem without1_any (s p : ByteArray) (g : Nat) (w : World) (hg : w.cell? ⟨g, 0, none⟩ = some (.string p)) :
    Calls Tryz.prog 70 #[.string s, .pointer (some ⟨g, 0, none⟩)] w fun e w' => e = .returned (.bool (!prefB s p)) ∧ Kept w w' := by
  have C := Lib.hid (hasPref_any s p w)
  generalize prefB s p = b at *
  go_enter Tryz.func70, Tryz.ntmps70
  go_wp2_with (go_at_call 54; refine C.out.mono ?_; rintro e w1 ⟨rfl, rfl⟩)
  go_ret
  exact ⟨rfl, Below.refl _ _⟩
theorem without_any (A : Option Addr) (c : Nat) (L : List Lab) (hL : L.length ≤ 400000) (p : ByteArray) (w : World) (hr : RdL w w.heap.size A L) (hT : Tab w) :
    Calls Tryz.prog 27 #[.slice A L.length c, .string p] w fun e w' => ∃ v x, e = .returned (.tuple #[v, .int .i64 x]) ∧ FltV w.heap.size L (fun s => !prefB s p) v x w' ∧ Kept w w' := by
  obtain ⟨w1, hw1⟩ : ∃ x, x = w.alloc (.cells #[.string p] 9) := ⟨_, rfl⟩
  have hk : Kept w w1 := by rw [hw1]; exact (Below.refl w.heap.size w).alloc (Nat.le_refl _) _
  have hg : w1.cell? ⟨w.heap.size, 0, none⟩ = some (.string p) := by rw [hw1, cell_of_row _ _ _ _ _ _ (heap_alloc_new w _)]; rfl
  have hC := fun W s (h : Kept w1 W) => without1_any s p w.heap.size W ((Below.cell h (block_lt_of_cell hg)).trans hg)
  have hr2 : RdL w1 w1.heap.size A L := (hr.below hk).more (Below.size hk)
  have CK := Lib.hid (filter_any 70 (.inr (.inr rfl)) (fun s => !prefB s p) w.heap.size A c L hL w1 hr2 (hT.below hk) (fun W s h => hC W s h))
  have more : ∀ p v x w', FltV w1.heap.size L p v x w' → FltV w.heap.size L p v x w' := fun p v x w' h => by
    unfold FltV at h ⊢
    split
    · rename_i hR
      rw [if_pos hR] at h
      exact ⟨h.1, own_mono h.2 (Below.size hk)⟩
    · rename_i hR
      rw [if_neg hR] at h
      exact h
  have Hmore := Lib.hid more
  have HK := Lib.hid hk
  clear hr hT hg hC hr2 more hk
  go_enter Tryz.func27, Tryz.ntmps27
  go_wp2_with (go_at_call 66; rw [← hw1]; refine CK.out.mono ?_; rintro e w2 ⟨v, x, rfl, hv, hk2⟩; have HV := Lib.hid hv; have HK2 := Lib.hid (below_kept HK.out hk2); clear hv hk2)
  go_ret2
  exact ⟨_, _, rfl, Hmore.out _ _ _ _ HV.out, HK2.out⟩
def orI : List Int → Int
  | [] => 0
  | x :: L => if x = 0 then orI L else x
theorem or2_any (g : Nat) (a b : Int) (w : World) (h0 : w.cell? ⟨g, 0, none⟩ = some (.int .i64 a)) (h1 : w.cell? ⟨g, 1, none⟩ = some (.int .i64 b)) :
    Calls Tryz.prog 82 #[.slice (some ⟨g, 0, none⟩) 2 2] w fun e w' => e = .returned (.int .i64 (if a = 0 then b else a)) ∧ w = w' := by
  have H0 := Lib.hid h0
  have H1 := Lib.hid h1
  clear h0 h1
  obtain ⟨f, hf⟩ : ∃ f : Nat → Int, f = fun k => if k = 0 then (if a = 0 then b else a) else if k = 1 then b else 0 := ⟨_, rfl⟩
  have hf0 : f 0 = if a = 0 then b else a := by rw [hf]; rfl
  have hf1 : f 1 = b := by rw [hf]; rfl
  have hf2 : f 2 = 0 := by rw [hf]; rfl
  rw [← hf0]
  clear hf
  go_enter Tryz.func82, Tryz.ntmps82
  go_wp2_with fail
  go_loopw [8] (fun v8 wr => ∃ k : Nat, k ≤ 2 ∧ v8 = .int .i64 k ∧ wr = w ∧ f 0 = f k) (fun v8 _ => 2 - (intOf v8).toNat)
  case atStart => exact ⟨0, by omega, rfl, rfl, rfl⟩
  case round =>
    obtain ⟨k, hk, rfl, hw, he⟩ := hrel
    obtain rfl : w = wr := hw.symm
    by_cases hk2 : k < 2
    · obtain ⟨x, hx, hxk⟩ : ∃ x, w.cell? ⟨g, k, none⟩ = some (.int .i64 x) ∧ f k = if x = 0 then f (k + 1) else x := by
        rcases (by omega : k = 0 ∨ k = 1) with rfl | rfl
        · exact ⟨a, H0.out, by rw [hf0, hf1]⟩
        · exact ⟨b, H1.out, by rw [hf1, hf2]; split; assumption; rfl⟩
      have Hxk := Lib.hid hxk
      have He := Lib.hid he
      clear hxk hf0 hf1 hf2 he
      by_cases h0 : x = 0
      · rw [if_pos h0] at Hxk
        subst h0
        go_wp2_with fail
        go_roundw
        case rel => exact ⟨k + 1, by omega, by go_num, trivial, by rw [He.out, Hxk.out]⟩
        case measure => simp [intOf]; omega
      · rw [if_neg h0] at Hxk
        have hb : (x != 0) = true := bne_iff_ne.2 h0
        go_wp2_with fail
        go_ret
        exact ⟨by rw [He.out, Hxk.out]; rfl, rfl⟩
    · obtain rfl : k = 2 := by omega
      rw [hf2] at he
      have He := Lib.hid he
      clear he hf0 hf1 hf2
      go_wp2_with fail
      go_ret
      exact ⟨by rw [He.out]; rfl, rfl⟩
theorem or2_new (a b : Int) (W : World) : Calls Tryz.prog 82 #[.slice (some ⟨W.heap.size, 0, none⟩) 2 2] (W.alloc (.cells #[.int .i64 a, .int .i64 b] 3)) fun e w' => e = .returned (.int .i64 (if a = 0 then b else a)) ∧ (W.alloc (.cells #[.int .i64 a, .int .i64 b] 3)) = w' := by
  have hM : (W.alloc (.cells #[.int .i64 a, .int .i64 b] 3)).heap[W.heap.size]? = some (.cells #[.int .i64 a, .int .i64 b] 3) := heap_alloc_new _ _
  exact or2_any W.heap.size a b _ (by rw [cell_of_row _ _ _ _ _ _ hM]; rfl) (by rw [cell_of_row _ _ _ _ _ _ hM]; rfl)
def cmp1 (x y : Lab) : Int := if cmpS x.1 y.1 = 0 then cmpS x.2 y.2 else cmpS x.1 y.1
end Go.Proofs.YtlhekeokognhmaaGreatDoor
