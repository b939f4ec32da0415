/-
  What Append of package utf computes, onto a slice of one's own.
-/
import Derived.Test.YtdgpbminmlpebaaDoorUtfA
import Derived.Test.YtdgpbminmlpebaaDoorWords
namespace Go.Proofs.YtdgpbminmlpebaaDoor
open Go.RowKit Mt

theorem info5 : (Tryd.prog.info? 5).map (fun i => (i.zero, i.size, i.bytes)) = some (some (.int .u8 0), 1, 1) := by kernel_rfl

/-- The form of x has come behind the n bytes xs. -/
def AppOk (base : Nat) (x : Int) (v0 : Value) (n : Nat) (xs : List Int) (w : World) (e : Ending) (w' : World) : Prop :=
  ∃ v, e = .returned (.tuple #[v, .int .i64 0]) ∧ w'.ownsRow base 5 1 v (n + (form x).length) (u8s (xs ++ form x)) ∧ w.grownBy w' v0.ownBlock

theorem appOk_mk {base : Nat} {x : Int} {v0 : Value} {n : Nat} {xs l : List Int} {w w1 w' : World} {v : Value} (k : Nat) (hl : form x = l) (hk : l.length = k) (hown : w'.ownsRow base 5 1 v (n + k) (u8s xs ++ u8s l)) (h1 : w.grownBy w1 v0.ownBlock) (h2 : w1.grownBy w' v0.ownBlock) :
    AppOk base x v0 n xs w (.returned (.tuple #[v, .int .i64 0])) w' := by
  subst hl hk
  rw [← u8s_append] at hown
  exact ⟨v, rfl, hown, h1.trans h2⟩

set_option maxHeartbeats 400000 in
theorem append_own1 (base : Nat) (x : Int) (h : isPt x = true) (h1 : x < 128) (v : Value) (n : Nat) (xs : List Int) (w : World) (hown : w.ownsRow base 5 1 v n (u8s xs)) (hn : n ≤ 140737488351232) (hb : base ≤ w.heap.size) :
    Calls Tryd.prog 32 #[v, .int .i64 x] w (AppOk base x v n xs w) := by
  have hd := isPt_bd h
  obtain ⟨i0, hi, hz0, hz1, hz2⟩ := info_parts info5
  have hf : form x = [x] := form_1 h1
  have Hf := Lib.hid hf
  have hs : szP x = 1 := szP_1 h1
  have hc := size_yes x h w
  rw [hs] at hc
  clear hs hf
  go_enter Tryd.func32, Tryd.ntmps32
  go_wp2_with (first
      | (go_at_call 27; refine hc.mono ?_; rintro e w' ⟨rfl, rfl⟩; clear hc)
      | (go_at_call 50; refine (tail_any _ (by omega) _).mono ?_; rintro e w' ⟨rfl, rfl⟩)
      | (at_builtin; refine wpList_append_own _ rfl _ _ 22 rfl base 5 i0 (.int .u8 0) 1 1 Tryd.underlying22 hi hz0 hz1 hz2 rfl (by decide) _ _ _ rfl (hown.alloc _) ⟨w.heap.size, 0, none⟩ 1 1 (u8s [x]) rfl rfl (cells_new _ _ _) (u8s_one _) (by unfold maxLen; omega) (by omega) (by simp; omega) ?_; intro v' w1 hown1 hgrow1 _))
  go_ret2
  exact appOk_mk 1 Hf.out rfl hown1 (World.grownBy_alloc _ _ _) hgrow1

set_option maxHeartbeats 400000 in
theorem append_own2 (base : Nat) (x : Int) (h : isPt x = true) (h1 : ¬ x < 128 ∧ x < 2048) (v : Value) (n : Nat) (xs : List Int) (w : World) (hown : w.ownsRow base 5 1 v n (u8s xs)) (hn : n ≤ 140737488351232) (hb : base ≤ w.heap.size) :
    Calls Tryd.prog 32 #[v, .int .i64 x] w (AppOk base x v n xs w) := by
  have hd := isPt_bd h
  obtain ⟨i0, hi, hz0, hz1, hz2⟩ := info_parts info5
  have hf : form x = [192 + x / 64, 128 + x % 64] := form_2 (by omega) (by omega)
  have Hf := Lib.hid hf
  have hs : szP x = 2 := szP_2 (by omega) (by omega)
  have hc := size_yes x h w
  rw [hs] at hc
  clear hs hf
  have a1 : 0 ≤ x / 64 := by omega
  have a2 : x / 64 < 32 := by omega
  go_enter Tryd.func32, Tryd.ntmps32
  go_wp2_with (first
      | (go_at_call 27; refine hc.mono ?_; rintro e w' ⟨rfl, rfl⟩; clear hc)
      | (go_at_call 50; refine (tail_any _ (by omega) _).mono ?_; rintro e w' ⟨rfl, rfl⟩)
      | (at_builtin; refine wpList_append_own _ rfl _ _ 22 rfl base 5 i0 (.int .u8 0) 1 1 Tryd.underlying22 hi hz0 hz1 hz2 rfl (by decide) _ _ _ rfl (hown.alloc _) ⟨w.heap.size, 0, none⟩ 2 2 (u8s [192 + x / 64, 128 + x % 64]) rfl rfl (cells_new _ _ _) (u8s_one _) (by unfold maxLen; omega) (by omega) (by simp; omega) ?_; intro v' w1 hown1 hgrow1 _))
  go_ret2
  exact appOk_mk 2 Hf.out rfl hown1 (World.grownBy_alloc _ _ _) hgrow1

set_option maxHeartbeats 400000 in
theorem append_own3 (base : Nat) (x : Int) (h : isPt x = true) (h1 : ¬ x < 2048 ∧ x < 65536) (v : Value) (n : Nat) (xs : List Int) (w : World) (hown : w.ownsRow base 5 1 v n (u8s xs)) (hn : n ≤ 140737488351232) (hb : base ≤ w.heap.size) :
    Calls Tryd.prog 32 #[v, .int .i64 x] w (AppOk base x v n xs w) := by
  have hd := isPt_bd h
  obtain ⟨i0, hi, hz0, hz1, hz2⟩ := info_parts info5
  have hf : form x = [224 + x / 4096, 128 + x / 64 % 64, 128 + x % 64] := form_3 (by omega) (by omega)
  have Hf := Lib.hid hf
  have hs : szP x = 3 := szP_3 (by omega) (by omega)
  have hc := size_yes x h w
  rw [hs] at hc
  clear hs hf
  have a1 : 0 ≤ x / 64 := by omega
  have a3 : 0 ≤ x / 4096 := by omega
  have a4 : x / 4096 < 16 := by omega
  go_enter Tryd.func32, Tryd.ntmps32
  go_wp2_with (first
      | (go_at_call 27; refine hc.mono ?_; rintro e w' ⟨rfl, rfl⟩; clear hc)
      | (go_at_call 50; refine (tail_any _ (by omega) _).mono ?_; rintro e w' ⟨rfl, rfl⟩)
      | (at_builtin; refine wpList_append_own _ rfl _ _ 22 rfl base 5 i0 (.int .u8 0) 1 1 Tryd.underlying22 hi hz0 hz1 hz2 rfl (by decide) _ _ _ rfl (hown.alloc _) ⟨w.heap.size, 0, none⟩ 3 3 (u8s [224 + x / 4096, 128 + x / 64 % 64, 128 + x % 64]) rfl rfl (cells_new _ _ _) (u8s_one _) (by unfold maxLen; omega) (by omega) (by simp; omega) ?_; intro v' w1 hown1 hgrow1 _))
  go_ret2
  exact appOk_mk 3 Hf.out rfl hown1 (World.grownBy_alloc _ _ _) hgrow1

set_option maxHeartbeats 400000 in
theorem append_own4 (base : Nat) (x : Int) (h : isPt x = true) (h1 : ¬ x < 65536) (v : Value) (n : Nat) (xs : List Int) (w : World) (hown : w.ownsRow base 5 1 v n (u8s xs)) (hn : n ≤ 140737488351232) (hb : base ≤ w.heap.size) :
    Calls Tryd.prog 32 #[v, .int .i64 x] w (AppOk base x v n xs w) := by
  have hd := isPt_bd h
  obtain ⟨i0, hi, hz0, hz1, hz2⟩ := info_parts info5
  have hf : form x = [240 + x / 262144, 128 + x / 4096 % 64, 128 + x / 64 % 64, 128 + x % 64] := form_4 (by omega)
  have Hf := Lib.hid hf
  have hs : szP x = 4 := szP_4 (by omega)
  have hc := size_yes x h w
  rw [hs] at hc
  clear hs hf
  have a1 : 0 ≤ x / 64 := by omega
  have a3 : 0 ≤ x / 4096 := by omega
  have a4 : 0 ≤ x / 262144 := by omega
  have a5 : x / 262144 < 8 := by omega
  go_enter Tryd.func32, Tryd.ntmps32
  go_wp2_with (first
      | (go_at_call 27; refine hc.mono ?_; rintro e w' ⟨rfl, rfl⟩; clear hc)
      | (go_at_call 50; refine (tail_any _ (by omega) _).mono ?_; rintro e w' ⟨rfl, rfl⟩)
      | (at_builtin; refine wpList_append_own _ rfl _ _ 22 rfl base 5 i0 (.int .u8 0) 1 1 Tryd.underlying22 hi hz0 hz1 hz2 rfl (by decide) _ _ _ rfl (hown.alloc _) ⟨w.heap.size, 0, none⟩ 4 4 (u8s [240 + x / 262144, 128 + x / 4096 % 64, 128 + x / 64 % 64, 128 + x % 64]) rfl rfl (cells_new _ _ _) (u8s_one _) (by unfold maxLen; omega) (by omega) (by simp; omega) ?_; intro v' w1 hown1 hgrow1 _))
  go_ret2
  exact appOk_mk 4 Hf.out rfl hown1 (World.grownBy_alloc _ _ _) hgrow1

theorem append_own (base : Nat) (x : Int) (h : isPt x = true) (v : Value) (n : Nat) (xs : List Int) (w : World) (hown : w.ownsRow base 5 1 v n (u8s xs)) (hn : n ≤ 140737488351232) (hb : base ≤ w.heap.size) :
    Calls Tryd.prog 32 #[v, .int .i64 x] w (AppOk base x v n xs w) := by
  by_cases h1 : x < 128
  · exact append_own1 base x h h1 v n xs w hown hn hb
  · by_cases h2 : x < 2048
    · exact append_own2 base x h ⟨h1, h2⟩ v n xs w hown hn hb
    · by_cases h3 : x < 65536
      · exact append_own3 base x h ⟨h2, h3⟩ v n xs w hown hn hb
      · exact append_own4 base x h h3 v n xs w hown hn hb
theorem append_no (x : Int) (h : isPt x = false) (v : Value) (w : World) :
    Calls Tryd.prog 32 #[v, .int .i64 x] w fun e w' => e = .returned (.tuple #[.slice none 0 0, .int .i64 2]) ∧ w = w' := by
  go_enter Tryd.func32, Tryd.ntmps32
  go_wp2_with (go_at_call 27; refine (size_no x h _).mono ?_; rintro e w' ⟨rfl, rfl⟩)
  go_ret2
  exact ⟨rfl, rfl⟩
end Go.Proofs.YtdgpbminmlpebaaDoor
