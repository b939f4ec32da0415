/-
  The examples of the chapter come out as they should, in every world that holds the table.
-/
import Derived.Test.YtdgpbminmlpebaaDoorUtfH
import Derived.Test.YtdgpbminmlpebaaDoorKitA
namespace Go.Proofs.YtdgpbminmlpebaaDoor
open Go.RowKit Mt

/-- Two slices that read alike: yes. -/
theorem same_yes (w : World) (B : Nat) (A A' : Option Addr) (n c c' : Nat) (xs : List Int) (hx : Rd w B A n (u8s xs)) (hy : Rd w B A' n (u8s xs)) (hn : n ≤ 140737488355328) :
    Calls Tryd.prog 37 #[.slice A n c, .slice A' n c'] w fun e w' => e = .returned (.bool true) ∧ Below w.heap.size w w' := by
  refine (same_bytes w B A A' n n c c' xs xs hx hy hn).mono ?_
  rintro e w' ⟨b, rfl, h, q, rfl⟩
  rw [h.2 rfl]
  exact ⟨rfl, below_drewN (Below.refl _ _) q⟩
/-- One new block, and then more, none of the old ones touched. -/
theorem below_step {w w5 w6 : World} {o : Obj} (h : Below w.heap.size w w5) (h6 : Below (w5.alloc o).heap.size (w5.alloc o) w6) : Below w.heap.size w w6 :=
  (h.alloc h.size o).trans (h6.mono (by have := h.size; simp; omega))
theorem Rd.step {w w5 : World} {B n : Nat} {A : Option Addr} {xs : List Value} {o : Obj} (h : Rd w B A n xs) (hB : B ≤ w.heap.size) (hx : Below w.heap.size w w5) : Rd (w5.alloc o) (w5.alloc o).heap.size A n xs :=
  (((h.more hB).below hx).keep (fun p hp => World.cell?_alloc_lt _ _ _ (by have := hx.size; omega))).more (by have := hx.size; simp; omega)
theorem Rd.new (w : World) (l : List Value) (t : TypeId) : Rd (w.alloc (.cells l.toArray t)) (w.alloc (.cells l.toArray t)).heap.size (some ⟨w.heap.size, 0, none⟩) l.length l :=
  ⟨rfl, fun _ => ⟨_, rfl, by simp, cells_new w l t⟩⟩
/-- Read at given values. -/
theorem read_at (s : ByteArray) (at_ x n e : Int) (h : rdAt (bys s) at_ = (x, n, e)) (hs : s.size ≤ 140737488351232) (w : World) (hT : Tab w) :
    Calls Tryd.prog 26 #[.string s, .int .i64 at_] w fun e' w' => e' = .returned (.tuple #[.int .i64 x, .int .i64 n, .int .i64 e]) ∧ Below w.heap.size w w' := by
  have := read_any s at_ hs w hT
  rw [h] at this
  exact this
theorem cut_at (s t : ByteArray) (k e : Int) (h : cutR s k = (t, e)) (hs : s.size ≤ 140737488351232) (w : World) (hT : Tab w) :
    Calls Tryd.prog 20 #[.string s, .int .i64 k] w fun e' w' => e' = .returned (.tuple #[.string t, .int .i64 e]) ∧ Below w.heap.size w w' := by
  have := cut_any s hs k w hT
  rw [h] at this
  exact this
/-- Append to nil. -/
theorem append_nil (x : Int) (l : List Int) (hl : form x = l) (h : isPt x = true) (w : World) :
    Calls Tryd.prog 32 #[.slice none 0 0, .int .i64 x] w fun e w' => ∃ A c, e = .returned (.tuple #[.slice A l.length c, .int .i64 0]) ∧ Rd w' w'.heap.size A l.length (u8s l) ∧ Below w.heap.size w w' := by
  refine (append_own w.heap.size x h (.slice none 0 0) 0 [] w (World.ownsRow_nil _ _ _ _) (by omega) (Nat.le_refl _)).mono ?_
  rintro e w' ⟨v, rfl, hown, hg⟩
  rw [hl, List.nil_append, Nat.zero_add] at hown
  obtain ⟨A, c, rfl, _⟩ := own_slice hown
  exact ⟨A, c, rfl, Rd.of_own hown, (Below.refl _ _).grown hg (Nat.le_refl _) (fun k e => by cases e)⟩

theorem r1 : rdAt (bys ⟨#[226, 130, 172]⟩) 0 = (8364, 3, 0) := by kernel_rfl
theorem r2 : rdAt (bys ⟨#[226, 130, 172]⟩) 1 = (0, 0, 11) := by kernel_rfl
theorem r3 : rdAt (bys ⟨#[226, 130]⟩) 0 = (0, 0, 10) := by kernel_rfl
theorem r4 : rdAt (bys ⟨#[226, 40]⟩) 0 = (0, 0, 11) := by kernel_rfl
theorem r5 : rdAt (bys ⟨#[192, 128]⟩) 0 = (0, 0, 11) := by kernel_rfl
theorem r6 : rdAt (bys ⟨#[237, 160, 128]⟩) 0 = (0, 0, 11) := by kernel_rfl
theorem r7 : rdAt (bys ⟨#[244, 144, 128, 128]⟩) 0 = (0, 0, 11) := by kernel_rfl
theorem r8 : rdAt (bys ⟨#[224, 128]⟩) 0 = (0, 0, 11) := by kernel_rfl
theorem c1 : cutR ⟨#[97, 226, 130, 172, 98]⟩ 3 = (⟨#[97]⟩, 0) := by kernel_rfl
theorem c2 : cutR ⟨#[97, 226, 130, 172, 98]⟩ 4 = (⟨#[97, 226, 130, 172]⟩, 0) := by kernel_rfl
theorem f1 : form 8364 = [226, 130, 172] := by kernel_rfl
theorem f2 : form 1114111 = [244, 143, 191, 191] := by kernel_rfl

/-- The chapter's bad strings. -/
def exL : List ByteArray := [⟨#[226, 40]⟩, ⟨#[192, 128]⟩, ⟨#[237, 160, 128]⟩, ⟨#[244, 144, 128, 128]⟩, ⟨#[224, 128]⟩]
def exS (k : Nat) : ByteArray := exL.getD k ⟨#[]⟩
theorem exS_bad (k : Nat) (hk : k < 5) : rdAt (bys (exS k)) 0 = (0, 0, 11) ∧ (exS k).size ≤ 4 := by
  rcases (by omega : k = 0 ∨ k = 1 ∨ k = 2 ∨ k = 3 ∨ k = 4) with rfl | rfl | rfl | rfl | rfl
  · exact ⟨r4, by decide⟩
  · exact ⟨r5, by decide⟩
  · exact ⟨r6, by decide⟩
  · exact ⟨r7, by decide⟩
  · exact ⟨r8, by decide⟩
theorem exS_get (k : Nat) (hk : k < 5) : (exL.map Value.string)[k]? = some (.string (exS k)) := by
  rcases (by omega : k = 0 ∨ k = 1 ∨ k = 2 ∨ k = 3 ∨ k = 4) with rfl | rfl | rfl | rfl | rfl <;> rfl

set_option maxRecDepth 100000 in
set_option maxHeartbeats 4000000 in
theorem awake_any (w : World) (hT : Tab w) : Calls Tryd.prog 14 #[] w fun e w' => e = .returned (.bool true) ∧ Below w.heap.size w w' := by
  go_enter Tryd.func14, Tryd.ntmps14
  go_wp2_with fail
  refine (append_nil 8364 _ f1 (by kernel_rfl) _).mono ?_
  rintro e w1 ⟨A1, k1, rfl, hr1, hb1⟩
  go_wp2_with fail
  refine (append_nil 1114111 _ f2 (by kernel_rfl) _).mono ?_
  rintro e w2 ⟨A2, k2, rfl, hr2, hb2⟩
  have hB2 : Below w.heap.size w w2 := hb1.trans (hb2.mono hb1.size)
  go_wp2_with fail
  refine (read_at _ _ _ _ _ r1 (by decide) _ (hT.below hB2)).mono ?_
  rintro e w3 ⟨rfl, hb3⟩
  have hB3 : Below w.heap.size w w3 := hB2.trans (hb3.mono hB2.size)
  go_wp2_with fail
  refine (read_at _ _ _ _ _ r2 (by decide) _ (hT.below hB3)).mono ?_
  rintro e w4 ⟨rfl, hb4⟩
  have hB4 : Below w.heap.size w w4 := hB3.trans (hb4.mono hB3.size)
  go_wp2_with fail
  refine (read_at _ _ _ _ _ r3 (by decide) _ (hT.below hB4)).mono ?_
  rintro e w5 ⟨rfl, hb5⟩
  have hB5 : Below w.heap.size w w5 := hB4.trans (hb5.mono hB4.size)
  go_wp2_with fail
  have hx5 : Below w1.heap.size w1 w5 := hb2.trans ((hb3.mono hb2.size).trans ((hb4.mono (Nat.le_trans hb2.size hb3.size)).trans (hb5.mono (Nat.le_trans hb2.size (Nat.le_trans hb3.size hb4.size)))))
  have hx25 : Below w2.heap.size w2 w5 := hb3.trans ((hb4.mono hb3.size).trans (hb5.mono (Nat.le_trans hb3.size hb4.size)))
  refine (same_yes _ _ A1 _ 3 k1 3 [226, 130, 172] (hr1.step (Nat.le_refl _) hx5) (Rd.new w5 (u8s [226, 130, 172]) 5) (by omega)).mono ?_
  rintro e w6 ⟨rfl, hb6⟩
  have hB6 := below_step hB5 hb6
  have hx26 := below_step hx25 hb6
  clear hx5 hx25 hb6 hb1 hb2 hb3 hb4 hb5 hr1
  go_wp2_with fail
  refine (same_yes _ _ A2 _ 4 k2 4 [244, 143, 191, 191] (hr2.step (Nat.le_refl _) hx26) (Rd.new w6 (u8s [244, 143, 191, 191]) 5) (by omega)).mono ?_
  rintro e w7 ⟨rfl, hb7⟩
  have hB7 := below_step hB6 hb7
  clear hb7 hx26 hr2 hB2 hB3 hB4 hB5 hB6
  go_wp2_with fail
  have hcs : ∀ j, j < 5 → (w7.alloc (.cells (exL.map Value.string).toArray 9)).cell? ⟨w7.heap.size, j, none⟩ = some (.string (exS j)) := fun j hj => by
    have := cells_new w7 (exL.map Value.string) 9 j _ (exS_get j hj)
    rwa [add0] at this
  have Hcs := Lib.hid hcs
  clear hcs
  go_loopw [81] (fun i wr => ∃ k : Nat, k ≤ 5 ∧ i = .int .i64 k ∧ Below w.heap.size w wr ∧ Below (w7.heap.size + 1) (w7.alloc (.cells (exL.map Value.string).toArray 9)) wr) (fun i _ => 5 - (intOf i).toNat)
  case atStart => exact ⟨0, by omega, rfl, hB7.alloc hB7.size _, Below.refl _ _⟩
  case round =>
    obtain ⟨k, hk, rfl, hBr, hbr⟩ := hrel
    have Hbr := Lib.hid hbr
    have hsz : w7.heap.size + 1 ≤ wr.heap.size := by have := hbr.size; simp at this; exact this
    by_cases hk5 : k < 5
    · have hcell : wr.cell? ⟨w7.heap.size, k, none⟩ = some (.string (exS k)) := (hbr.cell (p := ⟨w7.heap.size, k, none⟩) (by show w7.heap.size < _; omega)).trans (Hcs.out k hk5)
      clear hbr
      obtain ⟨hr, hs⟩ := exS_bad k hk5
      have Hr := Lib.hid (fun (w : World) (hT : Tab w) => read_at (exS k) 0 _ _ _ hr (by omega) w hT)
      clear hr hs
      generalize exS k = sk at *
      go_wp2_with (go_at_call 26; refine (Hr.out _ (hT.below hBr)).mono ?_; rintro e w8 ⟨rfl, hb8⟩)
      go_roundw
      case rel => exact ⟨k + 1, by omega, by go_num, hBr.trans (hb8.mono hBr.size), Hbr.out.trans (hb8.mono hsz)⟩
      case measure => simp [intOf]; omega
    · obtain rfl : k = 5 := by omega
      clear hbr Hbr Hcs hB7 hsz
      go_wp2_with fail
      refine (cut_at _ _ _ _ c1 (by decide) _ (hT.below hBr)).mono ?_
      rintro e w8 ⟨rfl, hb8⟩
      have hB8 : Below w.heap.size w w8 := hBr.trans (hb8.mono hBr.size)
      go_wp2_with fail
      refine (cut_at _ _ _ _ c2 (by decide) _ (hT.below hB8)).mono ?_
      rintro e w9 ⟨rfl, hb9⟩
      have hB9 : Below w.heap.size w w9 := hB8.trans (hb9.mono hB8.size)
      go_wp2_with fail
      refine (pair_yes _ _ (by decide) _).mono ?_
      rintro e w10 ⟨rfl, rfl⟩
      go_wp2_with fail
      go_ret
      exact ⟨rfl, hB9⟩
end Go.Proofs.YtdgpbminmlpebaaDoor
