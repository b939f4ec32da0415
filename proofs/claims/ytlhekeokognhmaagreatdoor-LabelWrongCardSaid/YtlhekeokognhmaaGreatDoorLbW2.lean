/-
  LabelWrong: the switch; behind region 31.
-/
import Derived.Test.YtlhekeokognhmaaGreatDoorLbW1
import Derived.Test.YtlhekeokognhmaaGreatDoorLbRep
import Derived.Deep.CutBlock
namespace Go.Proofs.YtlhekeokognhmaaGreatDoor
open Go.RowKit Go.Shelf Go.Maps Go.Sort
set_option maxRecDepth 100000 in
set_option maxHeartbeats 40000000 in
theorem wrA (p : List (Nat × Nat)) (a : Value) (k : Nat) (hk : k ≤ 255) (t : Nat) (ht : t ≤ 255) (w : World) (hT : Tab w) (C1 : RightIs p a w) : (wr0 p a k hk t ht w hT C1).1.1 := by
  delta wr0 mk2
  dsimp -zeta only
  clear C1 hT
  intro HT L n1 i0 hi0 hz0 hz1 hz2 nL l1 HnL k7 hk77 hmod Q0 w1 w2 A1 c1 HCap R1 K2 K0 a0 w3 w4 g9 g7 hge9 hne h7 h9 K4 J0 K1 a1 a2
  have d0 : w4.cell? ⟨g9, 0, none⟩ = some (.string ⟨#[122]⟩) := cell_of_row _ _ _ _ _ _ h9.out
  have d1 : w4.cell? ⟨g9, 1, none⟩ = some (.string ⟨#[49]⟩) := cell_of_row _ _ _ _ _ _ h9.out
  have f0 : ∀ j, w4.frozen? ⟨g9, j, none⟩ = false := fun j => by simp [World.frozen?, h9.out]
  have e7 : w4.cell? ⟨g7, 0, none⟩ = some (.slice A1 nL c1) := cell_of_row _ _ _ _ _ _ h7.out
  rcases (by omega : k7 = 0 ∨ k7 = 1 ∨ k7 = 2 ∨ k7 = 3 ∨ k7 = 4 ∨ k7 = 5 ∨ k7 = 6) with rfl | rfl | rfl | rfl | rfl | rfl | rfl
  · obtain ⟨q, hq, hq6⟩ : ∃ q : Nat, (t : Int) % 6 = (q : Int) ∧ q < 6 := ⟨t % 6, by omega, by omega⟩
    rcases (by omega : q = 0 ∨ q = 1 ∨ q = 2 ∨ q = 3 ∨ q = 4 ∨ q = 5) with rfl | rfl | rfl | rfl | rfl | rfl
    · go_wp2_with (go_at_call 10; refine (repx 129 (.inl rfl) _).mono ?_; rintro e w5 ⟨rfl, hk5⟩; have HX9 : Hid (∀ o, (w5.alloc o).heap[g9]? = some (.cells #[.string ⟨#[122]⟩, .string ⟨#[49]⟩] 33 (0, 0))) := (fun o => heap_kept ((Below.refl _ _).alloc (Nat.le_refl _) o) (heap_kept hk5 h9.out)); have HX7 : Hid (∀ o, (w5.alloc o).heap[g7]? = some (.cells #[.slice A1 nL c1] 28 (0, 0))) := (fun o => heap_kept ((Below.refl _ _).alloc (Nat.le_refl _) o) (heap_kept hk5 h7.out)); have HK5 : Hid (∀ o, Kept w2 (w5.alloc o)) := (fun o => below_kept (below_kept K4.out hk5) ((Below.refl _ _).alloc (Nat.le_refl _) o)); have c0' : (∀ o, (w5.alloc o).cell? ⟨g9, 0, none⟩ = some (.string ⟨#[122]⟩)) := (fun o => cell_of_row _ _ _ _ _ _ (HX9.out o)); have c1' : (∀ o, (w5.alloc o).cell? ⟨g9, 1, none⟩ = some (.string ⟨#[49]⟩)) := (fun o => cell_of_row _ _ _ _ _ _ (HX9.out o)); have f0' : (∀ o j, (w5.alloc o).frozen? ⟨g9, j, none⟩ = false) := (fun o j => by simp [World.frozen?, HX9.out o]))
      go_meet
      refine ⟨⟨#[]⟩, ⟨#[49]⟩, 40, rfl, .inl ⟨bad0 _ (by simp), by decide, by decide⟩, ?_, ?_, ?_⟩
      · exact heap_setCell_same _ _ 0 _ _ _ (HX9.out _)
      · exact (heap_setCell_other _ _ _ _ hne).trans (HX7.out _)
      · exact (HK5.out _).setCell hge9 _
    · go_wp2_with (go_at_call 10; refine (repx 129 (.inl rfl) _).mono ?_; rintro e w5 ⟨rfl, hk5⟩; have HX9 : Hid (∀ o, (w5.alloc o).heap[g9]? = some (.cells #[.string ⟨#[122]⟩, .string ⟨#[49]⟩] 33 (0, 0))) := (fun o => heap_kept ((Below.refl _ _).alloc (Nat.le_refl _) o) (heap_kept hk5 h9.out)); have HX7 : Hid (∀ o, (w5.alloc o).heap[g7]? = some (.cells #[.slice A1 nL c1] 28 (0, 0))) := (fun o => heap_kept ((Below.refl _ _).alloc (Nat.le_refl _) o) (heap_kept hk5 h7.out)); have HK5 : Hid (∀ o, Kept w2 (w5.alloc o)) := (fun o => below_kept (below_kept K4.out hk5) ((Below.refl _ _).alloc (Nat.le_refl _) o)); have c0' : (∀ o, (w5.alloc o).cell? ⟨g9, 0, none⟩ = some (.string ⟨#[122]⟩)) := (fun o => cell_of_row _ _ _ _ _ _ (HX9.out o)); have c1' : (∀ o, (w5.alloc o).cell? ⟨g9, 1, none⟩ = some (.string ⟨#[49]⟩)) := (fun o => cell_of_row _ _ _ _ _ _ (HX9.out o)); have f0' : (∀ o j, (w5.alloc o).frozen? ⟨g9, j, none⟩ = false) := (fun o j => by simp [World.frozen?, HX9.out o]))
      go_meet
      refine ⟨⟨#[57]⟩, ⟨#[49]⟩, 40, rfl, .inl ⟨bad0 _ (by simp), by decide, by decide⟩, ?_, ?_, ?_⟩
      · exact heap_setCell_same _ _ 0 _ _ _ (HX9.out _)
      · exact (heap_setCell_other _ _ _ _ hne).trans (HX7.out _)
      · exact (HK5.out _).setCell hge9 _
    · go_wp2_with (go_at_call 10; refine (repx 129 (.inl rfl) _).mono ?_; rintro e w5 ⟨rfl, hk5⟩; have HX9 : Hid (∀ o, (w5.alloc o).heap[g9]? = some (.cells #[.string ⟨#[122]⟩, .string ⟨#[49]⟩] 33 (0, 0))) := (fun o => heap_kept ((Below.refl _ _).alloc (Nat.le_refl _) o) (heap_kept hk5 h9.out)); have HX7 : Hid (∀ o, (w5.alloc o).heap[g7]? = some (.cells #[.slice A1 nL c1] 28 (0, 0))) := (fun o => heap_kept ((Below.refl _ _).alloc (Nat.le_refl _) o) (heap_kept hk5 h7.out)); have HK5 : Hid (∀ o, Kept w2 (w5.alloc o)) := (fun o => below_kept (below_kept K4.out hk5) ((Below.refl _ _).alloc (Nat.le_refl _) o)); have c0' : (∀ o, (w5.alloc o).cell? ⟨g9, 0, none⟩ = some (.string ⟨#[122]⟩)) := (fun o => cell_of_row _ _ _ _ _ _ (HX9.out o)); have c1' : (∀ o, (w5.alloc o).cell? ⟨g9, 1, none⟩ = some (.string ⟨#[49]⟩)) := (fun o => cell_of_row _ _ _ _ _ _ (HX9.out o)); have f0' : (∀ o j, (w5.alloc o).frozen? ⟨g9, j, none⟩ = false) := (fun o j => by simp [World.frozen?, HX9.out o]))
      go_meet
      refine ⟨⟨#[97, 45, 98]⟩, ⟨#[49]⟩, 40, rfl, .inl ⟨bad0 _ (by simp), by decide, by decide⟩, ?_, ?_, ?_⟩
      · exact heap_setCell_same _ _ 0 _ _ _ (HX9.out _)
      · exact (heap_setCell_other _ _ _ _ hne).trans (HX7.out _)
      · exact (HK5.out _).setCell hge9 _
    · go_wp2_with (go_at_call 10; refine (repx 129 (.inl rfl) _).mono ?_; rintro e w5 ⟨rfl, hk5⟩; have HX9 : Hid (∀ o, (w5.alloc o).heap[g9]? = some (.cells #[.string ⟨#[122]⟩, .string ⟨#[49]⟩] 33 (0, 0))) := (fun o => heap_kept ((Below.refl _ _).alloc (Nat.le_refl _) o) (heap_kept hk5 h9.out)); have HX7 : Hid (∀ o, (w5.alloc o).heap[g7]? = some (.cells #[.slice A1 nL c1] 28 (0, 0))) := (fun o => heap_kept ((Below.refl _ _).alloc (Nat.le_refl _) o) (heap_kept hk5 h7.out)); have HK5 : Hid (∀ o, Kept w2 (w5.alloc o)) := (fun o => below_kept (below_kept K4.out hk5) ((Below.refl _ _).alloc (Nat.le_refl _) o)); have c0' : (∀ o, (w5.alloc o).cell? ⟨g9, 0, none⟩ = some (.string ⟨#[122]⟩)) := (fun o => cell_of_row _ _ _ _ _ _ (HX9.out o)); have c1' : (∀ o, (w5.alloc o).cell? ⟨g9, 1, none⟩ = some (.string ⟨#[49]⟩)) := (fun o => cell_of_row _ _ _ _ _ _ (HX9.out o)); have f0' : (∀ o j, (w5.alloc o).frozen? ⟨g9, j, none⟩ = false) := (fun o j => by simp [World.frozen?, HX9.out o]))
      go_meet
      refine ⟨⟨#[97, 58, 98]⟩, ⟨#[49]⟩, 40, rfl, .inl ⟨bad0 _ (by simp), by decide, by decide⟩, ?_, ?_, ?_⟩
      · exact heap_setCell_same _ _ 0 _ _ _ (HX9.out _)
      · exact (heap_setCell_other _ _ _ _ hne).trans (HX7.out _)
      · exact (HK5.out _).setCell hge9 _
    · go_wp2_with (go_at_call 10; refine (repx 129 (.inl rfl) _).mono ?_; rintro e w5 ⟨rfl, hk5⟩; have HX9 : Hid (∀ o, (w5.alloc o).heap[g9]? = some (.cells #[.string ⟨#[122]⟩, .string ⟨#[49]⟩] 33 (0, 0))) := (fun o => heap_kept ((Below.refl _ _).alloc (Nat.le_refl _) o) (heap_kept hk5 h9.out)); have HX7 : Hid (∀ o, (w5.alloc o).heap[g7]? = some (.cells #[.slice A1 nL c1] 28 (0, 0))) := (fun o => heap_kept ((Below.refl _ _).alloc (Nat.le_refl _) o) (heap_kept hk5 h7.out)); have HK5 : Hid (∀ o, Kept w2 (w5.alloc o)) := (fun o => below_kept (below_kept K4.out hk5) ((Below.refl _ _).alloc (Nat.le_refl _) o)); have c0' : (∀ o, (w5.alloc o).cell? ⟨g9, 0, none⟩ = some (.string ⟨#[122]⟩)) := (fun o => cell_of_row _ _ _ _ _ _ (HX9.out o)); have c1' : (∀ o, (w5.alloc o).cell? ⟨g9, 1, none⟩ = some (.string ⟨#[49]⟩)) := (fun o => cell_of_row _ _ _ _ _ _ (HX9.out o)); have f0' : (∀ o j, (w5.alloc o).frozen? ⟨g9, j, none⟩ = false) := (fun o j => by simp [World.frozen?, HX9.out o]))
      go_meet
      refine ⟨⟨#[195, 169]⟩, ⟨#[49]⟩, 40, rfl, .inl ⟨bad0 _ (by simp), by decide, by decide⟩, ?_, ?_, ?_⟩
      · exact heap_setCell_same _ _ 0 _ _ _ (HX9.out _)
      · exact (heap_setCell_other _ _ _ _ hne).trans (HX7.out _)
      · exact (HK5.out _).setCell hge9 _
    · go_wp2_with (go_at_call 10; refine (repx 129 (.inl rfl) _).mono ?_; rintro e w5 ⟨rfl, hk5⟩; have HX9 : Hid (∀ o, (w5.alloc o).heap[g9]? = some (.cells #[.string ⟨#[122]⟩, .string ⟨#[49]⟩] 33 (0, 0))) := (fun o => heap_kept ((Below.refl _ _).alloc (Nat.le_refl _) o) (heap_kept hk5 h9.out)); have HX7 : Hid (∀ o, (w5.alloc o).heap[g7]? = some (.cells #[.slice A1 nL c1] 28 (0, 0))) := (fun o => heap_kept ((Below.refl _ _).alloc (Nat.le_refl _) o) (heap_kept hk5 h7.out)); have HK5 : Hid (∀ o, Kept w2 (w5.alloc o)) := (fun o => below_kept (below_kept K4.out hk5) ((Below.refl _ _).alloc (Nat.le_refl _) o)); have c0' : (∀ o, (w5.alloc o).cell? ⟨g9, 0, none⟩ = some (.string ⟨#[122]⟩)) := (fun o => cell_of_row _ _ _ _ _ _ (HX9.out o)); have c1' : (∀ o, (w5.alloc o).cell? ⟨g9, 1, none⟩ = some (.string ⟨#[49]⟩)) := (fun o => cell_of_row _ _ _ _ _ _ (HX9.out o)); have f0' : (∀ o j, (w5.alloc o).frozen? ⟨g9, j, none⟩ = false) := (fun o j => by simp [World.frozen?, HX9.out o]))
      go_meet
      refine ⟨xN 129, ⟨#[49]⟩, 40, rfl, .inl ⟨bad0 _ (by simp), by decide, by decide⟩, ?_, ?_, ?_⟩
      · exact heap_setCell_same _ _ 0 _ _ _ (HX9.out _)
      · exact (heap_setCell_other _ _ _ _ hne).trans (HX7.out _)
      · exact (HK5.out _).setCell hge9 _
  · obtain ⟨q, hq, hq4⟩ : ∃ q : Nat, (t : Int) % 4 = (q : Int) ∧ q < 4 := ⟨t % 4, by omega, by omega⟩
    rcases (by omega : q = 0 ∨ q = 1 ∨ q = 2 ∨ q = 3) with rfl | rfl | rfl | rfl
    · go_wp2_with (go_at_call 10; refine (repx 1025 (.inr rfl) _).mono ?_; rintro e w5 ⟨rfl, hk5⟩; have HX9 : Hid (∀ o, (w5.alloc o).heap[g9]? = some (.cells #[.string ⟨#[122]⟩, .string ⟨#[49]⟩] 33 (0, 0))) := (fun o => heap_kept ((Below.refl _ _).alloc (Nat.le_refl _) o) (heap_kept hk5 h9.out)); have HX7 : Hid (∀ o, (w5.alloc o).heap[g7]? = some (.cells #[.slice A1 nL c1] 28 (0, 0))) := (fun o => heap_kept ((Below.refl _ _).alloc (Nat.le_refl _) o) (heap_kept hk5 h7.out)); have HK5 : Hid (∀ o, Kept w2 (w5.alloc o)) := (fun o => below_kept (below_kept K4.out hk5) ((Below.refl _ _).alloc (Nat.le_refl _) o)); have c0' : (∀ o, (w5.alloc o).cell? ⟨g9, 0, none⟩ = some (.string ⟨#[122]⟩)) := (fun o => cell_of_row _ _ _ _ _ _ (HX9.out o)); have c1' : (∀ o, (w5.alloc o).cell? ⟨g9, 1, none⟩ = some (.string ⟨#[49]⟩)) := (fun o => cell_of_row _ _ _ _ _ _ (HX9.out o)); have f0' : (∀ o j, (w5.alloc o).frozen? ⟨g9, j, none⟩ = false) := (fun o j => by simp [World.frozen?, HX9.out o]))
      go_meet
      refine ⟨⟨#[122]⟩, ⟨#[255]⟩, 41, rfl, .inl ⟨bad1 _ (by simp), by decide, by decide⟩, ?_, ?_, ?_⟩
      · exact heap_setCell_same _ _ 1 _ _ _ (HX9.out _)
      · exact (heap_setCell_other _ _ _ _ hne).trans (HX7.out _)
      · exact (HK5.out _).setCell hge9 _
    · go_wp2_with (go_at_call 10; refine (repx 1025 (.inr rfl) _).mono ?_; rintro e w5 ⟨rfl, hk5⟩; have HX9 : Hid (∀ o, (w5.alloc o).heap[g9]? = some (.cells #[.string ⟨#[122]⟩, .string ⟨#[49]⟩] 33 (0, 0))) := (fun o => heap_kept ((Below.refl _ _).alloc (Nat.le_refl _) o) (heap_kept hk5 h9.out)); have HX7 : Hid (∀ o, (w5.alloc o).heap[g7]? = some (.cells #[.slice A1 nL c1] 28 (0, 0))) := (fun o => heap_kept ((Below.refl _ _).alloc (Nat.le_refl _) o) (heap_kept hk5 h7.out)); have HK5 : Hid (∀ o, Kept w2 (w5.alloc o)) := (fun o => below_kept (below_kept K4.out hk5) ((Below.refl _ _).alloc (Nat.le_refl _) o)); have c0' : (∀ o, (w5.alloc o).cell? ⟨g9, 0, none⟩ = some (.string ⟨#[122]⟩)) := (fun o => cell_of_row _ _ _ _ _ _ (HX9.out o)); have c1' : (∀ o, (w5.alloc o).cell? ⟨g9, 1, none⟩ = some (.string ⟨#[49]⟩)) := (fun o => cell_of_row _ _ _ _ _ _ (HX9.out o)); have f0' : (∀ o j, (w5.alloc o).frozen? ⟨g9, j, none⟩ = false) := (fun o j => by simp [World.frozen?, HX9.out o]))
      go_meet
      refine ⟨⟨#[122]⟩, ⟨#[192, 128]⟩, 41, rfl, .inl ⟨bad1 _ (by simp), by decide, by decide⟩, ?_, ?_, ?_⟩
      · exact heap_setCell_same _ _ 1 _ _ _ (HX9.out _)
      · exact (heap_setCell_other _ _ _ _ hne).trans (HX7.out _)
      · exact (HK5.out _).setCell hge9 _
    · go_wp2_with (go_at_call 10; refine (repx 1025 (.inr rfl) _).mono ?_; rintro e w5 ⟨rfl, hk5⟩; have HX9 : Hid (∀ o, (w5.alloc o).heap[g9]? = some (.cells #[.string ⟨#[122]⟩, .string ⟨#[49]⟩] 33 (0, 0))) := (fun o => heap_kept ((Below.refl _ _).alloc (Nat.le_refl _) o) (heap_kept hk5 h9.out)); have HX7 : Hid (∀ o, (w5.alloc o).heap[g7]? = some (.cells #[.slice A1 nL c1] 28 (0, 0))) := (fun o => heap_kept ((Below.refl _ _).alloc (Nat.le_refl _) o) (heap_kept hk5 h7.out)); have HK5 : Hid (∀ o, Kept w2 (w5.alloc o)) := (fun o => below_kept (below_kept K4.out hk5) ((Below.refl _ _).alloc (Nat.le_refl _) o)); have c0' : (∀ o, (w5.alloc o).cell? ⟨g9, 0, none⟩ = some (.string ⟨#[122]⟩)) := (fun o => cell_of_row _ _ _ _ _ _ (HX9.out o)); have c1' : (∀ o, (w5.alloc o).cell? ⟨g9, 1, none⟩ = some (.string ⟨#[49]⟩)) := (fun o => cell_of_row _ _ _ _ _ _ (HX9.out o)); have f0' : (∀ o j, (w5.alloc o).frozen? ⟨g9, j, none⟩ = false) := (fun o j => by simp [World.frozen?, HX9.out o]))
      go_meet
      refine ⟨⟨#[122]⟩, xN 1025, 41, rfl, .inl ⟨bad1 _ (by simp), by decide, by decide⟩, ?_, ?_, ?_⟩
      · exact heap_setCell_same _ _ 1 _ _ _ (HX9.out _)
      · exact (heap_setCell_other _ _ _ _ hne).trans (HX7.out _)
      · exact (HK5.out _).setCell hge9 _
    · go_wp2_with (go_at_call 10; refine (repx 1025 (.inr rfl) _).mono ?_; rintro e w5 ⟨rfl, hk5⟩; have HX9 : Hid (∀ o, (w5.alloc o).heap[g9]? = some (.cells #[.string ⟨#[122]⟩, .string ⟨#[49]⟩] 33 (0, 0))) := (fun o => heap_kept ((Below.refl _ _).alloc (Nat.le_refl _) o) (heap_kept hk5 h9.out)); have HX7 : Hid (∀ o, (w5.alloc o).heap[g7]? = some (.cells #[.slice A1 nL c1] 28 (0, 0))) := (fun o => heap_kept ((Below.refl _ _).alloc (Nat.le_refl _) o) (heap_kept hk5 h7.out)); have HK5 : Hid (∀ o, Kept w2 (w5.alloc o)) := (fun o => below_kept (below_kept K4.out hk5) ((Below.refl _ _).alloc (Nat.le_refl _) o)); have c0' : (∀ o, (w5.alloc o).cell? ⟨g9, 0, none⟩ = some (.string ⟨#[122]⟩)) := (fun o => cell_of_row _ _ _ _ _ _ (HX9.out o)); have c1' : (∀ o, (w5.alloc o).cell? ⟨g9, 1, none⟩ = some (.string ⟨#[49]⟩)) := (fun o => cell_of_row _ _ _ _ _ _ (HX9.out o)); have f0' : (∀ o j, (w5.alloc o).frozen? ⟨g9, j, none⟩ = false) := (fun o j => by simp [World.frozen?, HX9.out o]))
      go_meet
      refine ⟨⟨#[122]⟩, ⟨#[237, 160, 128]⟩, 41, rfl, .inl ⟨bad1 _ (by simp), by decide, by decide⟩, ?_, ?_, ?_⟩
      · exact heap_setCell_same _ _ 1 _ _ _ (HX9.out _)
      · exact (heap_setCell_other _ _ _ _ hne).trans (HX7.out _)
      · exact (HK5.out _).setCell hge9 _
  · go_wp2_with fail
    go_meet
    refine ⟨⟨#[45]⟩, ⟨#[255]⟩, 40, rfl, .inl ⟨by kernel_rfl, by decide, by decide⟩, ?_, ?_, ?_⟩
    · exact heap_setCell_same _ _ 1 _ _ _ (heap_setCell_same _ _ 0 _ _ _ h9.out)
    · exact (heap_setCell_other _ _ _ _ hne).trans ((heap_setCell_other _ _ _ _ hne).trans h7.out)
    · exact (K4.out.setCell hge9 _).setCell hge9 _
  · go_wp2_with fail
    go_meet
    refine ⟨⟨#[122]⟩, ⟨#[]⟩, 42, rfl, .inr (.inl ⟨rfl, by kernel_rfl, rfl, z_nms⟩), ?_, ?_, ?_⟩
    · exact heap_setCell_same _ _ 1 _ _ _ h9.out
    · exact (heap_setCell_other _ _ _ _ hne).trans h7.out
    · exact K4.out.setCell hge9 _
  · go_wp2_with fail
    go_meet
    refine ⟨⟨#[]⟩, ⟨#[49]⟩, 40, rfl, .inl ⟨by kernel_rfl, by decide, by decide⟩, ?_, ?_, ?_⟩
    · exact heap_setCell_same _ _ 0 _ _ _ h9.out
    · exact (heap_setCell_other _ _ _ _ hne).trans h7.out
    · exact K4.out.setCell hge9 _
  · rcases Nat.eq_zero_or_pos nL with hz | hz
    · subst hz
      go_wp2_with fail
      go_ret
      exact ⟨rfl, below_kept K2.out K4.out⟩
    · obtain ⟨m, hm⟩ : ∃ m, nL = m + 1 := ⟨nL - 1, by omega⟩
      obtain ⟨ad, y, rfl, hadb, hy, _, hc0, _⟩ := rdl_at R1.out (k := m) (by rw [← HnL.out]; omega)
      have ce : w4.cell? (ad.add (m * 2)) = some (.string y.1) := (Below.cell K4.out (by rw [addBlock]; exact hadb)).trans hc0
      have hmI : (nL : Int) - 1 = (m : Int) := by omega
      have hmlt : (m : Int) < nL := by omega
      have hnz : ¬ (nL : Int) = 0 := by omega
      have hyL : L[L.length - 1]? = some y := by rw [← HnL.out, hm]; exact hy
      have HyL := Lib.hid hyL
      clear hm hy hc0 hyL
      go_wp2_with fail
      go_meet
      refine ⟨y.1, ⟨#[49]⟩, 42, rfl, .inr (.inr ⟨rfl, ?_, (show (⟨#[49]⟩ : ByteArray) ≠ ⟨#[]⟩ by decide), y, HyL.out, rfl⟩), ?_, ?_, ?_⟩
      · have h1 := n1.out.ok y (List.mem_of_getElem? HyL.out)
        unfold wrE at h1 ⊢
        split at h1
        · rename_i h2
          rw [if_pos h2, if_pos (show valB ⟨#[49]⟩ = true by kernel_rfl)]
        · cases h1
      · exact heap_setCell_same _ _ 0 _ _ _ h9.out
      · exact (heap_setCell_other _ _ _ _ hne).trans h7.out
      · exact K4.out.setCell hge9 _
  · have H9' : Hid (∀ o, (w4.alloc o).heap[g7]? = some (.cells #[.slice A1 nL c1] 28 (0, 0))) := fun o => heap_kept ((Below.refl _ _).alloc (Nat.le_refl _) o) h7.out
    have e7' : ∀ o, (w4.alloc o).cell? ⟨g7, 0, none⟩ = some (.slice A1 nL c1) := fun o => cell_of_row _ _ _ _ _ _ (H9'.out o)
    have hka : Kept w4 (w4.alloc (.cells #[] 33)) := (Below.refl _ _).alloc (Nat.le_refl _) _
    have own0 : Hid ((w4.alloc (.cells #[] 33)).ownsRow w4.heap.size 33 2 (.slice (some ⟨w4.heap.size, 0, none⟩) 0 0) 0 (labs [])) := ⟨rfl, .inr ⟨_, 0, #[], rfl, Nat.le_refl _, heap_alloc_new _ _, Nat.le_refl _, Nat.zero_le _, rfl, rfl⟩⟩
    have K4a := below_kept K4.out hka
    have R1a : Hid (Rd (w4.alloc (.cells #[] 33)) (w4.alloc (.cells #[] 33)).heap.size A1 (nL * 2) (labs L)) := by
      rw [HnL.out]
      exact (R1.out.below K4a).more K4a.size
    have K4b := Lib.hid K4a
    clear K4a hka d0 d1 f0
    go_wp2_with (refine wpList_appG rfl _ _ 22 28 rfl Tryz.underlying28 w4.heap.size i0 (.agg #[.string ⟨#[]⟩, .string ⟨#[]⟩]) 32 Tryz.underlying22 hi0 hz0 hz1 hz2 rfl _ 0 (labs []) rfl own0.out A1 nL c1 (labs L) rfl R1a.out (labs_one _) (by unfold maxLen; omega) (by omega) (by simp) ?_; intro v5 w5 hown5 hg5; have Own5 := Lib.hid hown5; have K5 : Hid (Kept w4 w5) := Below.grown ((Below.refl w4.heap.size w4).alloc (Nat.le_refl _) _) hg5 (by simp) (fun j e => (own0.out.lt j e).1); clear hown5 hg5)
    obtain ⟨A5, c5, hv5, _, _⟩ := own_rd Own5.out
    have e5 : 0 + nL = nL := by omega
    rw [e5] at hv5 Own5
    have hn0 : nL + 0 ≤ 65 := by omega
    clear e5 own0 R1a e7' H9' h9 K4b
    go_loopw [11] (fun v11 wr => ∃ j : Nat, nL + j ≤ 65 ∧ ∃ A c, v11 = .slice A (nL + j) c ∧ Hid (wr.ownsRow w4.heap.size 33 2 v11 (nL + j) (labs (manyL L j))) ∧ Hid (Kept w4 wr)) (fun v11 _ => 65 - lenN v11)
    case atStart => exact ⟨0, hn0, A5, c5, hv5, Own5, K5⟩
    case round =>
      clear hv5 Own5 K5 hn0
      obtain ⟨j, hj, A, c, rfl, hown, hkr⟩ := hrel
      obtain ⟨n, hn⟩ : ∃ n, n = nL + j := ⟨_, rfl⟩
      have Hn := Lib.hid hn
      rw [← hn] at hj hown ⊢
      clear hn
      by_cases hin : n < 65
      · have hinI : (n : Int) < 65 := by omega
        have hzn : Hid (zL n = (zN n, ⟨#[49]⟩)) := rfl
        have Hmk : Hid (labs (manyL L (j + 1)) = labs (manyL L j) ++ [.string (zN n), .string ⟨#[49]⟩]) := by
          show labs (manyL L j ++ [zL (L.length + j)]) = _
          rw [labs_snoc, ← HnL.out, ← Hn.out]
          rfl
        have CZ := Lib.hid (repz n hin wr)
        have hadd : ¬ 9223372036854775807 < (⟨#[122, 122]⟩ : ByteArray).size + (zs n).size := by
          rw [zs_size]
          show ¬ _ < 2 + n
          omega
        have heN : (⟨#[122, 122]⟩ : ByteArray) ++ zs n = zN n := rfl
        generalize zN n = zn at *
        generalize zs n = zq at *
        clear hzn
        go_wp2_with (first
          | (go_at_call 10; refine CZ.out.mono ?_; rintro e w6 ⟨rfl, hk6⟩; have K6 := Lib.hid (below_kept hkr.out hk6); have HL1 : Hid ((w6.alloc (.cells #[.string zn, .string ⟨#[49]⟩] 33)).ownsRow w4.heap.size 33 2 (.slice A n c) n (labs (manyL L j))) := (own_below (own_below hown.out hk6) ((Below.refl _ _).alloc (Nat.le_refl _) _)); have hz6 : w4.heap.size ≤ w6.heap.size := K6.out.size; clear hk6)
          | (refine wpList_ownG rfl _ _ 22 rfl w4.heap.size i0 (.agg #[.string ⟨#[]⟩, .string ⟨#[]⟩]) 32 Tryz.underlying22 hi0 hz0 hz1 hz2 rfl (.slice A n c) n (labs (manyL L j)) rfl HL1.out ⟨w6.heap.size, 0, none⟩ 1 1 [.string zn, .string ⟨#[49]⟩] rfl rfl (cells_new w6 [.string zn, .string ⟨#[49]⟩] 33) (by intro u hu; simp at hu; rcases hu with rfl | rfl <;> rfl) (by unfold maxLen; omega) (by omega) (Nat.le_trans hz6 (by simp)) ?_; intro v8 w8 hown8 hg8; have Own8 := Lib.hid hown8; have K8 : Hid (Kept w4 w8) := Below.grown (K6.out.alloc hz6 _) hg8 (Nat.le_trans hz6 (by simp)) (fun j e => (HL1.out.lt j e).1); clear hown8 hg8))
        obtain ⟨A8, c8, hv8, _, _⟩ := own_rd Own8.out
        go_roundw
        case rel =>
          refine ⟨j + 1, by have := Hn.out; omega, A8, c8, ?_, ?_, K8⟩
          · rw [hv8, show nL + (j + 1) = n + 1 by have := Hn.out; omega]
          · rw [show nL + (j + 1) = n + 1 by have := Hn.out; omega, Hmk.out]
            exact Own8
        case measure =>
          rw [hv8]
          simp [lenN]
          omega
      · have hn65 : n = 65 := by omega
        have hge : ¬ (n : Int) < 65 := by omega
        obtain ⟨A', c', hv', hcc, hrr⟩ := own_rd hown.out
        injection hv' with e1 e2 e3
        subst e1 e3
        have HMl : Hid ((manyL L j).length = n) := by show _ = _; rw [manyL_len, ← HnL.out, Hn.out]
        have hlj : L.length + j = 65 := by rw [← HnL.out, ← Hn.out, hn65]
        have HMc : Hid (chk (manyL L j) = (-1, 5)) := chk_many (by rw [HMl.out]; omega)
        have HMok : Hid (∀ x ∈ manyL L j, wrE x = 0) := fun x hx => (manyL_ok n1.out j (by omega) x hx).1
        have HMt : Hid (twB (manyL L j) = false) := once_tw (manyL_once n1.out j (by omega))
        have HMp : Hid ((puts [] ((manyL L j).map lb)).length = 65) := manyL_puts n1.out j hlj
        have HMa : Hid (L ++ (manyL L j).drop nL = manyL L j) := by
          show _ = _
          have h := manyL_take L j
          conv => lhs; lhs; rw [← h]
          rw [HnL.out, List.take_append_drop]
        have RM : Hid (RdL wr wr.heap.size A (manyL L j)) := by
          show Rd _ _ _ _ _
          rw [HMl.out]
          exact hrr
        generalize manyL L j = M at *
        have KW := Lib.hid (below_kept K4.out hkr.out)
        have HTr := Lib.hid (HT.out.below (below_kept K2.out KW.out))
        have CK : Hid (∀ W, Kept wr W → Calls Tryz.prog 12 #[.slice A n c] W fun e w' => e = .returned (.tuple #[.int .i64 (-1), .int .i64 5]) ∧ Kept W w') := fun W h => by
          have h2 := check_any' A c M (by rw [HMl.out]; omega) W ((RM.out.below h).more h.size) (HTr.out.below h)
          rw [HMc.out, HMl.out] at h2
          exact h2
        have CO : Hid (∀ W, Kept wr W → Calls Tryz.prog 13 #[.slice A n c] W fun e w' => ∃ v, e = .returned (.tuple #[v, .int .i64 5]) ∧ Kept W w') := fun W h => by
          have h2 := of_any A c M (by rw [HMl.out]; omega) W ((RM.out.below h).more h.size) (HTr.out.below h)
          rw [HMl.out] at h2
          refine h2.mono fun e w' ⟨h3, hk⟩ => ?_
          rcases h3 with ⟨h0, _⟩ | ⟨_, h0, _⟩ | ⟨_, _, v, q, rfl, h0⟩
          · exact absurd (fwE_ok HMok.out) h0
          · rw [HMt.out] at h0; cases h0
          · rcases h0 with ⟨_, rfl, rfl⟩ | ⟨h0, _⟩
            · exact ⟨_, rfl, hk⟩
            · rw [HMp.out] at h0; omega
        have CM : Hid (∀ W, Kept wr W → Calls Tryz.prog 14 #[.slice A n c, .slice none 0 0] W fun e w' => e = .returned (.tuple #[.slice none 0 0, .int .i64 44]) ∧ Kept W w') := fun W h =>
          (merge_44 (L := M) (R := []) (A1 := none) (c1 := 0) (n1 := 0) (by rw [HMl.out]; omega) HMl.out.symm (rgt_bad HMc.out (by decide)) ((RM.out.below h).more h.size) (HTr.out.below h) (by simp) rfl (Rd.nil (w := W))).1
        have CS : Hid (∀ W, Kept wr W → Calls Tryz.prog 15 #[.slice A1 nL c1, .slice (if c = nL then A else A.map (·.add (nL * 2))) (n - nL) (c - nL)] W fun e w' => ∃ v, e = .returned (.tuple #[v, .int .i64 5]) ∧ Kept W w') := fun W h => by
          have hd := rdl_drop ((RM.out.below h).more h.size) nL c (by rw [HMl.out]; omega) (by rw [HMl.out]; exact hcc)
          have hdl : (M.drop nL).length = n - nL := by rw [List.length_drop, HMl.out]
          have hk1 := below_kept KW.out h
          have h2 := set_any A1 (if c = nL then A else A.map (·.add (nL * 2))) c1 (c - nL) L (M.drop nL) (by rw [← HnL.out]; omega) (by rw [hdl]; omega) W ((R1.out.below hk1).more hk1.size) (by show Rd _ _ _ _ _; rw [hdl]; rw [HMl.out] at hd; exact hd) (HTr.out.below h)
          rw [← HnL.out, hdl, HMa.out, show setBad L (M.drop nL) = none by unfold setBad; rw [if_pos n1.out.1, if_pos (fwE_ok fun x hx => HMok.out x (List.mem_of_mem_drop hx))]] at h2
          refine h2.mono fun e w' ⟨v, q, he, h3, hk⟩ => ?_
          rcases h3 with ⟨_, rfl, rfl⟩ | ⟨h0, _⟩
          · exact ⟨_, he, hk⟩
          · rw [HMp.out] at h0; omega
        have hI1 : (nL : Int) ≤ n := by omega
        have hI2 : (n : Int) ≤ c := by omega
        have hI3 : (nL : Int) ≤ c := by omega
        have hN1 : ¬ n < nL := by omega
        have hN2 : ¬ c < n := by omega
        have hN3 : ¬ c < nL := by omega
        have H7r := Lib.hid (heap_kept hkr.out h7.out)
        have Kr := Lib.hid (Below.refl wr.heap.size wr)
        clear hn65 hlj HMl HMc HMok HMt HMp HMa RM hrr hown Hn hj h7 K4 R1 e7
        go_upto_region 15 with (first
          | (go_at_call 12; refine (CK.out _ Kr.out).mono ?_; rintro e x1 ⟨rfl, hk1⟩; have Kx1 := Lib.hid hk1; clear hk1)
          | (go_at_call 13; refine (CO.out _ Kx1.out).mono ?_; rintro e x2 ⟨vo, rfl, hk2⟩; have Kx2 := Lib.hid (below_kept Kx1.out hk2); clear hk2)
          | (go_at_call 14; refine (CM.out _ Kx2.out).mono ?_; rintro e x3 ⟨rfl, hk3⟩; have Kx3 := Lib.hid (below_kept Kx2.out hk3); clear hk3))
        have hx7 := heap_kept Kx3.out H7r.out
        have Hk : Hid (∀ W', Below x3.heap.size x3 W' → W'.cell? ⟨g7, 0, none⟩ = some (.slice A1 nL c1) ∧ Below x3.heap.size x3 W') := fun W' h => ⟨cell_of_row _ _ _ _ _ _ (heap_kept h hx7), h⟩
        have hb00 : Below x3.heap.size x3 x3.drew := (Below.refl x3.heap.size x3).drew
        clear hx7
        go_region_held3 (fun W' => W'.cell? ⟨g7, 0, none⟩ = some (.slice A1 nL c1) ∧ Below x3.heap.size x3 W')
          ((refine Hk.out _ ?_; assumption))
          (first
            | (go_at_call 15; refine (CS.out _ (below_kept Kx3.out hb00)).mono ?_; rintro e x4 ⟨vs, rfl, hk4⟩; have k4 : Below x3.heap.size x3 x4 := below_kept hb00 hk4; dsimp only))
        rename_i hS
        clear hS Hk hb00 hk4
        go_wp2_with fail
        go_ret
        exact ⟨rfl, below_kept K2.out (below_kept KW.out (below_kept Kx3.out k4))⟩
end Go.Proofs.YtlhekeokognhmaaGreatDoor
namespace Go.Proofs.YtlhekeokognhmaaGreatDoor
open Go.RowKit Go.Shelf Go.Maps Go.Sort
set_option maxRecDepth 100000 in
set_option maxHeartbeats 40000000 in
theorem wrC (p : List (Nat × Nat)) (a : Value) (k : Nat) (hk : k ≤ 255) (t : Nat) (ht : t ≤ 255) (w : World) (hT : Tab w) (C1 : RightIs p a w) : (wr1 p a k hk t ht w hT C1).1.2 := by
  delta wr1 mk2
  dsimp -zeta only
  clear C1 hT
  intro HT L n1 i0 hi0 hz0 hz1 hz2 nL l1 HnL k7 hk77 hmod Q0 w1 w2 A1 c1 HCap R1 K2 w3 w4 g9 g7 hge9 hne h7 h9 K4 owc u6 u11 u12 u13 u14 u15 u16 u17 u18 u19 ou31 ou32 ou33 ou34 ou35 ou36 ou37 ou38 ou39 ou40 ou41 u42 ou43 ou44 ou45 ou46 ou47 ou48 ou49 ou50 ou51 ou52 ou53 ou54 ou55 ou56 ou57 ou58 ou59 ou60 ou61 ou62 ou63 ou64 ou65 ou66 ou67 ou68 ou69 ou70 ou71 ou72 ou73 ou74 ou75 ou76 ou77 ou78 ou79 ou80 ou81 ou82 ou83 ou84 ou85 ou86 ou87 ou88 ou89 ou90 ou91 ou92 ou93 ou94 ou95 ou96 ou97 ou98 u99 ou100 ou101 ou102 ou103 ou104 ou105 ou106 ou107 u108 ou109 ou110 ou111 ou112 ou113 ou114 ou115 ou116 u117 ou118 ou119 u120 ou121 ou122 u123 ou124 ou125 u126 ou127 ou128 ou129 ou130 ou131 ou132 ou133 ou134 ou135 ou136 ou137 ou138 ou139 ou140 ou141 ou142 ou143 ou144 ou145 ou146 ou147 ou148 ou149 ou150 ou151 ou152 ou153 ou154 ou155 ou156 ou157 ou158 ou159 ou160 ou161 ou162 ou163 ou164 ou165 ou166 ou167 ou168 ou169 ou170 ou171 ou172 ou173 ou174 ou175 ou176 ou177 ou178 ou179 ou180 ou181 ou182 ou183 ou184 ou185 ou186 ou187 ou188 ou189 ou190 ou191 ou192 ou193 ou194 ou195 ou196 ou197 ou198 ou199 ou200 ou201 ou205 ou206 ou207 ou208 ou209 ou210 ou211 ou212 ou213 ou214 ou215 ou216 ou217 ou218 ou219 ou220 nm vl wt hbad hx9 hx7 hkx B oK oa wc u20 u31 u32 u33 u34 u35 u36 u37 u38 u39 u40 u41 u43 u44 u45 u46 u47 u48 u49 u50 u51 u52 u53 u54 u55 u56 u57 u58 u59 u60 u61 u62 u63 u64 u65 u66 u67 u68 u69 u70 u71 u72 u73 u74 u75 u76 u77 u78 u79 u80 u81 u82 u83 u84 u85 u86 u87 u88 u89 u90 u91 u92 u93 u94 u95 u96 u97 u98 u100 u101 u102 u103 u104 u105 u106 u107 u109 u110 u111 u112 u113 u114 u115 u116 u118 u119 u121 u122 u124 u125 u127 u128 u129 u130 u131 u132 u133 u134 u135 u136 u137 u138 u139 u140 u141 u142 u143 u144 u145 u146 u147 u148 u149 u150 u151 u152 u153 u154 u155 u156 u157 u158 u159 u160 u161 u162 u163 u164 u165 u166 u167 u168 u169 u170 u171 u172 u173 u174 u175 u176 u177 u178 u179 u180 u181 u182 u183 u184 u185 u186 u187 u188 u189 u190 u191 u192 u193 u194 u195 u196 u197 u198 u199 u200 u201 u205 u206 u207 u208 u209 u210 u211 u212 u213 u214 u215 u216 u217 u218 u219 u220 hcut
  obtain ⟨g20, A20, c20, rfl, hx20, R20, hk20⟩ := hcut
  have Kz : Hid (Kept w2 wc) := below_kept hkx.out hk20.out
  have Kw : Hid (Kept w wc) := below_kept K2.out Kz.out
  have hy9 := Lib.hid (heap_kept hk20.out hx9.out)
  have hy7 := Lib.hid (heap_kept hk20.out hx7.out)
  have hlen : nL + 1 = (L ++ [(nm, vl)]).length := by rw [List.length_append, List.length_singleton, ← HnL.out]
  have RA : Hid (RdL wc wc.heap.size A20 (L ++ [(nm, vl)])) := by
    show Rd _ _ _ _ _
    rw [← hlen, labs_app]
    exact R20.out
  have HTz := Lib.hid (HT.out.below Kw.out)
  have R1z := Lib.hid ((R1.out.below Kz.out).more Kz.out.size)
  have hrb := rgt_bad B.out.1 B.out.2
  have CK : Hid (∀ W, Kept wc W → Calls Tryz.prog 12 #[.slice A20 (nL + 1) c20] W fun e w' => e = .returned (.tuple #[.int .i64 (nL : Int), .int .i64 wt]) ∧ Kept W w') := fun W h => by
    have h2 := check_any' A20 c20 (L ++ [(nm, vl)]) (by rw [← hlen]; omega) W ((RA.out.below h).more h.size) (HTz.out.below h)
    rw [B.out.1, ← hlen, ← HnL.out] at h2
    exact h2
  have CO : Hid (∀ W, Kept wc W → Calls Tryz.prog 13 #[.slice A20 (nL + 1) c20] W fun e w' => ∃ v, e = .returned (.tuple #[v, .int .i64 (offE (nm, vl) wt)]) ∧ Kept W w') := fun W h => bad_of n1.out hbad.out hlen ((RA.out.below h).more h.size) (HTz.out.below h)
  have CR : Hid (∀ W, Kept wc W → Calls Tryz.prog 16 #[.slice A20 (nL + 1) c20] W fun e w' => e = .returned (.bool false) ∧ Kept W w') := fun W h => by
    have h2 := right_any A20 c20 (L ++ [(nm, vl)]) (by rw [← hlen]; omega) W ((RA.out.below h).more h.size) (HTz.out.below h)
    rw [hrb, ← hlen] at h2
    exact h2
  have CS : Hid (∀ W, Kept wc W → Calls Tryz.prog 15 #[.slice A1 nL c1, .slice (some ⟨W.heap.size, 0, none⟩) 1 1] (W.alloc (.cells #[.string nm, .string vl] 33)) fun e w' => ∃ v, e = .returned (.tuple #[v, .int .i64 (setE wt)]) ∧ Kept W w') := fun W h => by
    have hka : Kept W (W.alloc (.cells #[.string nm, .string vl] 33)) := (Below.refl _ _).alloc (Nat.le_refl _) _
    have h1 := below_kept h hka
    refine (bad_set n1.out hbad.out HnL.out (c1 := 1) ((R1z.out.below h1).more h1.size) (rdl_lit W (nm, vl)) (HTz.out.below h1)).mono ?_
    rintro e w' ⟨v, he, hk⟩
    exact ⟨v, he, below_kept hka hk⟩
  have Hcl9 : Hid (∀ W, Kept wc W → ∀ j v, (#[.string nm, .string vl] : Array Value)[j]? = some v → W.cell? ((⟨g9, 0, none⟩ : Addr).add j) = some v) := fun W h j v hv => by
    rw [add0, cell_of_row _ g9 j _ _ _ (heap_kept h hy9.out)]
    exact hv
  have Q20 : Hid (∀ W, Kept wc W → W.cell? ⟨g20, 0, none⟩ = some (.slice A20 (nL + 1) c20)) := fun W h => cell_of_row _ _ _ _ _ _ (heap_kept h hx20.out)
  have Q7 : Hid (∀ W, Kept wc W → W.cell? ⟨g7, 0, none⟩ = some (.slice A1 nL c1)) := fun W h => cell_of_row _ _ _ _ _ _ (heap_kept h hy7.out)
  have Q91 : Hid (∀ W, Kept wc W → W.cell? ⟨g9, 1, none⟩ = some (.string vl)) := fun W h => cell_of_row _ _ _ _ _ _ (heap_kept h hy9.out)
  have CF1 : Hid (∀ W, Kept wc W → Calls Tryz.prog 17 #[.pointer (some ⟨g20, 0, none⟩)] W fun e w' => e = .returned (.tuple #[.slice none 0 0, .int .i64 44]) ∧ Kept W w') := fun W h => (wr1_any g20 (by rw [← hlen]; omega) hlen hrb ((RA.out.below h).more h.size) (HTz.out.below h) (Q20.out W h))
  have CF2 : Hid (∀ W, Kept wc W → Calls Tryz.prog 18 #[.pointer (some ⟨g7, 0, none⟩), .pointer (some ⟨g20, 0, none⟩)] W fun e w' => e = .returned (.tuple #[.slice none 0 0, .int .i64 44]) ∧ Kept W w') := fun W h => (wr2_any g20 g7 (by rw [← hlen]; omega) hlen hrb ((RA.out.below h).more h.size) (HTz.out.below h) (Q20.out W h) (by rw [← HnL.out]; omega) HnL.out ((R1z.out.below h).more h.size) (Q7.out W h))
  have CF3 : Hid (∀ W, Kept wc W → Calls Tryz.prog 19 #[.pointer (some ⟨g20, 0, none⟩), .pointer (some ⟨g7, 0, none⟩)] W fun e w' => e = .returned (.tuple #[.slice none 0 0, .int .i64 44]) ∧ Kept W w') := fun W h => (wr3_any g20 g7 (by rw [← hlen]; omega) hlen hrb ((RA.out.below h).more h.size) (HTz.out.below h) (Q20.out W h) (by rw [← HnL.out]; omega) HnL.out ((R1z.out.below h).more h.size) (Q7.out W h))
  have CF4 : Hid (∀ W, Kept wc W → Calls Tryz.prog 21 #[.pointer (some ⟨g7, 0, none⟩), .pointer (some ⟨g20, 0, none⟩)] W fun e w' => e = .returned (.tuple #[.slice none 0 0, .int .i64 44]) ∧ Kept W w') := fun W h => (wr4_any g20 g7 (by rw [← hlen]; omega) hlen hrb ((RA.out.below h).more h.size) (HTz.out.below h) (Q20.out W h) (by rw [← HnL.out]; omega) HnL.out ((R1z.out.below h).more h.size) (Q7.out W h))
  have CF5 : Hid (∀ W, Kept wc W → Calls Tryz.prog 22 #[.pointer (some ⟨g20, 0, none⟩)] W fun e w' => e = .returned (.tuple #[.slice none 0 0, .int .i64 44]) ∧ Kept W w') := fun W h => (wr5_any g20 (by rw [← hlen]; omega) hlen hrb ((RA.out.below h).more h.size) (HTz.out.below h) (Q20.out W h))
  have CF6 : Hid (∀ W, Kept wc W → Calls Tryz.prog 24 #[.pointer (some ⟨g20, 0, none⟩)] W fun e w' => e = .returned (.tuple #[.slice none 0 0, .int .i64 44]) ∧ Kept W w') := fun W h => (wr6_any g20 (by rw [← hlen]; omega) hlen hrb ((RA.out.below h).more h.size) (HTz.out.below h) (Q20.out W h))
  have CF7 : Hid (∀ W, Kept wc W → Calls Tryz.prog 26 #[.pointer (some ⟨g20, 0, none⟩)] W fun e w' => e = .returned (.tuple #[.slice none 0 0, .int .i64 44]) ∧ Kept W w') := fun W h => (wr7_any g20 (by rw [← hlen]; omega) hlen hrb ((RA.out.below h).more h.size) (HTz.out.below h) (Q20.out W h))
  have Kr := Lib.hid (Below.refl wc.heap.size wc)
  have y20 := Q20.out _ Kr.out
  have HE : Hid ((wt ≠ 42 ∧ offE (nm, vl) wt = wt ∧ setE wt = wt) ∨ (wt = 42 ∧ vl = ⟨#[]⟩ ∧ offE (nm, vl) wt = 0 ∧ setE wt = 0) ∨ (wt = 42 ∧ vl ≠ ⟨#[]⟩ ∧ offE (nm, vl) wt = 43 ∧ setE wt = 0)) := by
    unfold offE setE
    by_cases h1 : wt = 42
    · by_cases h2 : vl = ⟨#[]⟩
      · exact .inr (.inl ⟨h1, h2, by rw [if_pos h1, if_pos h2], by rw [if_pos h1]⟩)
      · exact .inr (.inr ⟨h1, h2, by rw [if_pos h1, if_neg h2], by rw [if_pos h1]⟩)
    · exact .inl ⟨h1, by rw [if_neg h1], by rw [if_neg h1]⟩
  generalize offE (nm, vl) wt = fo at *
  generalize setE wt = fs at *
  clear hx20 hx9 hx7 R20 hmod hk77 B hbad hrb hlen
  go_upto_region 35 with (first
    | (go_at_call 12; refine (CK.out _ Kr.out).mono ?_; rintro e v1 ⟨rfl, hk1⟩; have Kv1 := Lib.hid hk1; have y20b := Q20.out _ hk1; clear hk1)
    | (go_at_call 13; refine (CO.out _ Kv1.out).mono ?_; rintro e v2 ⟨vo, rfl, hk2⟩; have Kv2 := Lib.hid (below_kept Kv1.out hk2); have y7 := Q7.out _ Kv2.out; have hcl := Lib.hid (Hcl9.out _ Kv2.out); clear hk2)
    | (refine wpList_load_at rfl 33 (.tmp 9) rfl ⟨g9, 0, none⟩ rfl #[.string nm, .string vl] _ hcl.out Tryz.underlying33 rfl sizeL ?_)
    | (go_at_call 15; refine (CS.out _ Kv2.out).mono ?_; rintro e v3 ⟨vs, rfl, hk3⟩; have Kv3 := Lib.hid (below_kept Kv2.out hk3); have y7b := Q7.out _ Kv3.out; have y20c := Q20.out _ Kv3.out; clear hk3))
  go_upto_if 176 with (go_at_call 16; refine (CR.out _ Kv3.out).mono ?_; rintro e v4 ⟨rfl, hk4⟩; have Kv4 := Lib.hid (below_kept Kv3.out hk4); have y91 := Q91.out _ Kv4.out; clear hk4)
  go_cut [176] (fun _ wx => Hid (Kept v4 wx))
  case first =>
    rcases HE.out with ⟨h42, e1, e2⟩ | ⟨rfl, rfl, rfl, rfl⟩ | ⟨rfl, hvl, rfl, rfl⟩
    · subst e1 e2
      have h42b : (fs == 42) = false := beq_false_of_ne h42
      clear h42
      go_wp2_with fail
      go_meet
      exact Below.refl _ _
    · go_wp2_with fail
      go_meet
      exact Below.refl _ _
    · have hbz := empty_no hvl
      go_wp2_with fail
      go_meet
      exact Below.refl _ _
  case rest =>
    have Kv5 := Lib.hid (below_kept Kv4.out hcut.out)
    go_wp2_with fail
    obtain ⟨wF, hwF, hF0, hkF, hltF⟩ := new_row wc #[.func (.func 17) #[] #[.pointer (some ⟨g20, 0, none⟩)], .func (.func 18) #[] #[.pointer (some ⟨g7, 0, none⟩), .pointer (some ⟨g20, 0, none⟩)], .func (.func 19) #[] #[.pointer (some ⟨g20, 0, none⟩), .pointer (some ⟨g7, 0, none⟩)], .func (.func 21) #[] #[.pointer (some ⟨g7, 0, none⟩), .pointer (some ⟨g20, 0, none⟩)], .func (.func 22) #[] #[.pointer (some ⟨g20, 0, none⟩)], .func (.func 24) #[] #[.pointer (some ⟨g20, 0, none⟩)], .func (.func 26) #[] #[.pointer (some ⟨g20, 0, none⟩)]] 45
    obtain ⟨gF, hgF⟩ : ∃ g, g = wc.heap.size := ⟨_, rfl⟩
    rw [← hwF, ← hgF]
    rw [← hgF] at hF0
    have HF0 := Lib.hid hF0
    have KF := Lib.hid (below_kept Kv5.out hkF)
    clear hwF hF0 hkF hltF hgF Kv1 Kv2 Kv3 Kv4 Kv5 y20 y20b y20c y7 y7b y91 hcl
    go_loopw [204] (fun v204 wr => ∃ i : Nat, i ≤ 7 ∧ v204 = .int .i64 i ∧ Hid (Kept wF wr)) (fun v204 _ => 7 - (intOf v204).toNat)
    case atStart => exact ⟨0, by omega, rfl, Below.refl _ _⟩
    case round =>
      obtain ⟨i, hi, rfl, hkr⟩ := hrel
      have KW := Lib.hid (below_kept KF.out hkr.out)
      have HFr := heap_kept hkr.out HF0.out
      by_cases hin : i < 7
      · have hinI : (i : Int) < 7 := by omega
        rcases (by omega : i = 0 ∨ i = 1 ∨ i = 2 ∨ i = 3 ∨ i = 4 ∨ i = 5 ∨ i = 6) with rfl | rfl | rfl | rfl | rfl | rfl | rfl
        · have hcf : wr.cell? ⟨gF, 0, none⟩ = some (.func (.func 17) #[] #[.pointer (some ⟨g20, 0, none⟩)]) := cell_of_row _ _ _ _ _ _ HFr
          go_wp2_with (go_at_call 17; refine (CF1.out _ KW.out).mono ?_; rintro e v9 ⟨rfl, hk9⟩; have K9 := Lib.hid (below_kept hkr.out hk9); clear hk9)
          go_roundw
          case rel => exact ⟨1, by omega, by first | rfl | go_num, K9⟩
          case measure => simp [intOf]
        · have hcf : wr.cell? ⟨gF, 1, none⟩ = some (.func (.func 18) #[] #[.pointer (some ⟨g7, 0, none⟩), .pointer (some ⟨g20, 0, none⟩)]) := cell_of_row _ _ _ _ _ _ HFr
          go_wp2_with (go_at_call 18; refine (CF2.out _ KW.out).mono ?_; rintro e v9 ⟨rfl, hk9⟩; have K9 := Lib.hid (below_kept hkr.out hk9); clear hk9)
          go_roundw
          case rel => exact ⟨2, by omega, by first | rfl | go_num, K9⟩
          case measure => simp [intOf]
        · have hcf : wr.cell? ⟨gF, 2, none⟩ = some (.func (.func 19) #[] #[.pointer (some ⟨g20, 0, none⟩), .pointer (some ⟨g7, 0, none⟩)]) := cell_of_row _ _ _ _ _ _ HFr
          go_wp2_with (go_at_call 19; refine (CF3.out _ KW.out).mono ?_; rintro e v9 ⟨rfl, hk9⟩; have K9 := Lib.hid (below_kept hkr.out hk9); clear hk9)
          go_roundw
          case rel => exact ⟨3, by omega, by first | rfl | go_num, K9⟩
          case measure => simp [intOf]
        · have hcf : wr.cell? ⟨gF, 3, none⟩ = some (.func (.func 21) #[] #[.pointer (some ⟨g7, 0, none⟩), .pointer (some ⟨g20, 0, none⟩)]) := cell_of_row _ _ _ _ _ _ HFr
          go_wp2_with (go_at_call 21; refine (CF4.out _ KW.out).mono ?_; rintro e v9 ⟨rfl, hk9⟩; have K9 := Lib.hid (below_kept hkr.out hk9); clear hk9)
          go_roundw
          case rel => exact ⟨4, by omega, by first | rfl | go_num, K9⟩
          case measure => simp [intOf]
        · have hcf : wr.cell? ⟨gF, 4, none⟩ = some (.func (.func 22) #[] #[.pointer (some ⟨g20, 0, none⟩)]) := cell_of_row _ _ _ _ _ _ HFr
          go_wp2_with (go_at_call 22; refine (CF5.out _ KW.out).mono ?_; rintro e v9 ⟨rfl, hk9⟩; have K9 := Lib.hid (below_kept hkr.out hk9); clear hk9)
          go_roundw
          case rel => exact ⟨5, by omega, by first | rfl | go_num, K9⟩
          case measure => simp [intOf]
        · have hcf : wr.cell? ⟨gF, 5, none⟩ = some (.func (.func 24) #[] #[.pointer (some ⟨g20, 0, none⟩)]) := cell_of_row _ _ _ _ _ _ HFr
          go_wp2_with (go_at_call 24; refine (CF6.out _ KW.out).mono ?_; rintro e v9 ⟨rfl, hk9⟩; have K9 := Lib.hid (below_kept hkr.out hk9); clear hk9)
          go_roundw
          case rel => exact ⟨6, by omega, by first | rfl | go_num, K9⟩
          case measure => simp [intOf]
        · have hcf : wr.cell? ⟨gF, 6, none⟩ = some (.func (.func 26) #[] #[.pointer (some ⟨g20, 0, none⟩)]) := cell_of_row _ _ _ _ _ _ HFr
          go_wp2_with (go_at_call 26; refine (CF7.out _ KW.out).mono ?_; rintro e v9 ⟨rfl, hk9⟩; have K9 := Lib.hid (below_kept hkr.out hk9); clear hk9)
          go_roundw
          case rel => exact ⟨7, by omega, by first | rfl | go_num, K9⟩
          case measure => simp [intOf]
      · obtain rfl : i = 7 := by omega
        go_wp2_with fail
        go_ret
        exact ⟨rfl, below_kept Kw.out KW.out⟩
end Go.Proofs.YtlhekeokognhmaaGreatDoor
