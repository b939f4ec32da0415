/-
  right: of what Made makes.
-/
import Derived.Test.YtlhekeokognhmaaGreatDoorLbV
namespace Go.Proofs.YtlhekeokognhmaaGreatDoor
open Go.RowKit Go.Shelf Go.Maps Go.Sort
/-- The right labels that are made of numbers. -/
def rightL (ps : List (Nat × Nat)) : List Lab := (puts [] ((mkL ps).map lb)).map bl
theorem rightL_len (ps : List (Nat × Nat)) : (rightL ps).length ≤ 16 := by
  have h1 := puts_len [] ((mkL ps).map lb)
  have h2 := mkL_len ps
  rw [List.length_map, List.length_nil] at h1
  unfold rightL
  rw [List.length_map]
  omega
theorem of_goodc (A : Option Addr) (c : Nat) (L M : List Lab) (w : World) (hL : L.length ≤ 400000) (hr : RdL w w.heap.size A L) (hT : Tab w) (h0 : fwE L = 0) (h1 : twB L = false) (hM : (puts [] (L.map lb)).map bl = M) (hl : M.length ≤ 64) :
    Calls Tryz.prog 13 #[.slice A L.length c] w fun e w' => ∃ A c, e = .returned (.tuple #[.slice A M.length c, .int .i64 0]) ∧ RdL w' w'.heap.size A M ∧ Kept w w' ∧ M.length ≤ c :=
  (of_any A c L (by omega) w hr hT).mono fun e w' ⟨h, hk⟩ => by
    rcases h with ⟨h, _⟩ | ⟨_, h, _⟩ | ⟨_, _, v, x, rfl, h⟩
    · exact absurd h0 h
    · rw [h1] at h; cases h
    · have hlen : (puts [] (L.map lb)).length = M.length := by rw [← hM, List.length_map]
      rcases h with ⟨h, _⟩ | ⟨_, rfl, ho⟩
      · omega
      · obtain ⟨A, c, rfl, hc, hr⟩ := own_rd ho
        rw [hM, hlen] at hr
        exact ⟨A, c, by rw [hlen], hr, hk, by omega⟩
set_option maxRecDepth 100000 in
theorem right_of_made (ps : List (Nat × Nat)) (a : Value) (w : World) (hT : Tab w) (C : Calls Tryz.prog 59 #[a] w fun e w' => ∃ A c, e = .returned (.slice A (mkL ps).length c) ∧ RdL w' w'.heap.size A (mkL ps) ∧ Kept w w') :
    Calls Tryz.prog 11 #[a] w fun e w' => ∃ A c, e = .returned (.tuple #[.slice A (rightL ps).length c, .bool true]) ∧ RdL w' w'.heap.size A (rightL ps) ∧ Kept w w' ∧ (rightL ps).length ≤ c := by
  have HC := Lib.hid C
  have HT := Lib.hid hT
  have hlen := mkL_len ps
  have CO : Hid (∀ A c W, RdL W W.heap.size A (mkL ps) → Kept w W → Calls Tryz.prog 13 #[.slice A (mkL ps).length c] W fun e w' => ∃ A c, e = .returned (.tuple #[.slice A (rightL ps).length c, .int .i64 0]) ∧ RdL w' w'.heap.size A (rightL ps) ∧ Kept W w' ∧ (rightL ps).length ≤ c) := fun A c W hr hk =>
    of_goodc A c (mkL ps) (rightL ps) W (by omega) hr (hT.below hk) (fwE_ok (mkL_ok ps)) (once_tw (mkL_once ps)) rfl (by have := rightL_len ps; omega)
  have CR : Hid (∀ A c W, RdL W W.heap.size A (rightL ps) → Kept w W → Calls Tryz.prog 16 #[.slice A (rightL ps).length c] W fun e w' => e = .returned (.bool true) ∧ Kept W w') := fun A c W hr hk => by
    have h := right_any A c (rightL ps) (by have := rightL_len ps; omega) W hr (hT.below hk)
    rw [show rgtB (rightL ps) = true from mkL_right ps] at h
    exact h
  generalize rightL ps = M at *
  clear C hT hlen
  go_enter Tryz.func11, Tryz.ntmps11
  go_wp2_with (first
    | (go_at_call 59; refine HC.out.mono ?_; rintro e w1 ⟨A1, c1, rfl, hr, hk⟩; have R1 := Lib.hid hr; have K1 := Lib.hid hk; clear hr hk)
    | (go_at_call 13; refine (CO.out _ _ _ R1.out K1.out).mono ?_; rintro e w2 ⟨A2, c2, rfl, hr, hk, hcap⟩; have HCap := Lib.hid hcap; clear hcap; have R2 := Lib.hid hr; have K2 := Lib.hid (below_kept K1.out hk); clear hr hk)
    | (go_at_call 16; refine (CR.out _ _ _ R2.out K2.out).mono ?_; rintro e w3 ⟨rfl, hk⟩; have R3 := Lib.hid ((R2.out.below hk).more (Below.size hk)); have K3 := Lib.hid (below_kept K2.out hk); clear hk))
  go_ret2
  exact ⟨_, _, rfl, R3.out, K3.out, HCap.out⟩
end Go.Proofs.YtlhekeokognhmaaGreatDoor
