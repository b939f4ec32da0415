/-
  LabelWrong, of what right gives.
-/
import Derived.Test.YtnnnpnmiepbbeaaGreatDoorLbWx
import Derived.Test.YtnnnpnmiepbbeaaGreatDoorLbRep
import Derived.Deep.CutBlock
namespace Go.Proofs.YtnnnpnmiepbbeaaGreatDoor
open Go.RowKit Go.Shelf Go.Maps Go.Sort
/-- A label that is not right behind right ones: which error. -/
def BadX (L : List Lab) (x : Lab) (wt : Int) : Prop :=
  (wrE x = wt ∧ wt ≠ 0 ∧ wt ≠ 42) ∨ (wt = 42 ∧ wrE x = 0 ∧ x.2 = ⟨#[]⟩ ∧ x.1 ∉ nms) ∨ (wt = 42 ∧ wrE x = 0 ∧ x.2 ≠ ⟨#[]⟩ ∧ ∃ y, L[L.length - 1]? = some y ∧ x.1 = y.1)
section
variable {L : List Lab} (hL : RN L) {x : Lab} {wt : Int} (h : BadX L x wt)
include hL h
theorem bad_chk : chk (L ++ [x]) = ((L.length : Int), wt) ∧ wt ≠ 0 := by
  have hl := hL.len
  rcases h with ⟨h1, h2, _⟩ | ⟨rfl, h1, h2, _⟩ | ⟨rfl, h1, _, y, hy, he⟩
  · exact ⟨chk_bad hL.1 hl x (ord_wrong h1 h2) h2, h2⟩
  · exact ⟨chk_bad hL.1 hl x (ord_empty h1 h2) (by decide), by decide⟩
  · exact ⟨chk_bad hL.1 hl x (ord_twice hy h1 he) (by decide), by decide⟩
/-- What Of answers, and Set. -/
def offE (x : Lab) (wt : Int) : Int := if wt = 42 then (if x.2 = ⟨#[]⟩ then 0 else 43) else wt
def setE (wt : Int) : Int := if wt = 42 then 0 else wt
theorem bad_of {A : Option Addr} {c n : Nat} (hn : n = (L ++ [x]).length) {w : World} (hr : RdL w w.heap.size A (L ++ [x])) (hT : Tab w) :
    Calls Tryz.prog 13 #[.slice A n c] w fun e w' => ∃ v, e = .returned (.tuple #[v, .int .i64 (offE x wt)]) ∧ Kept w w' := by
  rw [hn]
  have hl := hL.len
  refine (of_any A c (L ++ [x]) (by rw [List.length_append, List.length_singleton]; omega) w hr hT).mono fun e w' ⟨h3, hk⟩ => ?_
  have hf := fwE_app x hL.ok
  have hps := puts_len [] ((L ++ [x]).map lb)
  rw [List.length_map, List.length_append, List.length_singleton, List.length_nil] at hps
  unfold offE
  rcases h with ⟨h1, h2, h42⟩ | ⟨rfl, h1, h2, hno⟩ | ⟨rfl, h1, h2, y, hy, he⟩
  · rw [if_neg h42]
    rcases h3 with ⟨_, rfl⟩ | ⟨h0, _⟩ | ⟨h0, _⟩
    · rw [hf, h1]; exact ⟨_, rfl, hk⟩
    · rw [hf, h1] at h0; exact absurd h0 h2
    · rw [hf, h1] at h0; exact absurd h0 h2
  · rw [if_pos rfl, if_pos h2]
    have htw : twB (L ++ [x]) = false := once_tw (once_snoc (once_right hL.1) fun z hz e => hno (by rw [← e]; exact hL.2 z hz))
    rcases h3 with ⟨h0, _⟩ | ⟨_, h0, _⟩ | ⟨_, _, v, q, rfl, h0⟩
    · rw [hf, h1] at h0; exact absurd rfl h0
    · rw [htw] at h0; cases h0
    · rcases h0 with ⟨h0, _⟩ | ⟨_, rfl, _⟩
      · omega
      · exact ⟨_, rfl, hk⟩
  · rw [if_pos rfl, if_neg h2]
    have htw : twB (L ++ [x]) = true := tw_twice (once_right hL.1) (List.mem_of_getElem? hy) he
    rcases h3 with ⟨h0, _⟩ | ⟨_, _, rfl⟩ | ⟨_, h0, _⟩
    · rw [hf, h1] at h0; exact absurd rfl h0
    · exact ⟨_, rfl, hk⟩
    · rw [htw] at h0; cases h0
theorem bad_set {A A1 : Option Addr} {c c1 n : Nat} (hn : n = L.length) {w : World} (hr : RdL w w.heap.size A L) (hr1 : RdL w w.heap.size A1 [x]) (hT : Tab w) :
    Calls Tryz.prog 15 #[.slice A n c, .slice A1 1 c1] w fun e w' => ∃ v, e = .returned (.tuple #[v, .int .i64 (setE wt)]) ∧ Kept w w' := by
  rw [hn]
  have hl := hL.len
  refine (set_any A A1 c c1 L [x] (by omega) (by simp) w hr hr1 hT).mono fun e w' ⟨v, q, he, h3, hk⟩ => ?_
  have hps := puts_len [] ((L ++ [x]).map lb)
  rw [List.length_map, List.length_append, List.length_singleton, List.length_nil] at hps
  have hfw : fwE [x] = wrE x := fwE_app (a := []) x (fun _ h => by cases h)
  unfold setE
  have hok : wrE x = 0 → AnsV w.heap.size (setBad L [x]) (puts [] ((L ++ [x]).map lb)) v q w' → q = 0 := fun h1 h3 => by
    rw [show setBad L [x] = none by unfold setBad; rw [if_pos hL.1, if_pos (by rw [hfw, h1])]] at h3
    rcases h3 with ⟨h0, _⟩ | ⟨_, h0, _⟩
    · omega
    · exact h0
  rcases h with ⟨h1, h2, h42⟩ | ⟨rfl, h1, _, _⟩ | ⟨rfl, h1, _, _⟩
  · rw [if_neg h42]
    rw [show setBad L [x] = some wt by unfold setBad; rw [if_pos hL.1, if_neg (by rw [hfw, h1]; exact h2), hfw, h1]] at h3
    obtain ⟨rfl, rfl⟩ := h3
    exact ⟨_, he, hk⟩
  · rw [if_pos rfl]
    obtain rfl := hok h1 h3
    exact ⟨_, he, hk⟩
  · rw [if_pos rfl]
    obtain rfl := hok h1 h3
    exact ⟨_, he, hk⟩
end
/-- A label that lies as a list of one. -/
theorem rdl_lit (W : World) (x : Lab) : RdL (W.alloc (.cells #[.string x.1, .string x.2] 33)) (W.alloc (.cells #[.string x.1, .string x.2] 33)).heap.size (some ⟨W.heap.size, 0, none⟩) [x] :=
  ⟨rfl, fun _ => ⟨_, rfl, by simp, cells_new W [.string x.1, .string x.2] 33⟩⟩
theorem rd_two {w : World} {g : Nat} {a b : Value} {t : TypeId} {fr : Nat × Nat} (h : w.heap[g]? = some (.cells #[a, b] t fr)) : Rd w w.heap.size (some ⟨g, 0, none⟩) (1 * 2) [a, b] :=
  ⟨rfl, fun _ => ⟨_, rfl, heap_lt h, fun j u hu => by rw [add0, cell_of_row _ g j _ _ _ h, show (#[a, b] : Array Value) = [a, b].toArray from rfl, List.getElem?_toArray]; exact hu⟩⟩
/-- A letter x, so many times. -/
def xN (k : Nat) : ByteArray := ⟨(List.replicate k (120 : UInt8)).toArray⟩
theorem repx (k : Nat) (h : k = 129 ∨ k = 1025) (W : World) : Calls Tryz.prog 10 #[.string ⟨#[120]⟩, .int .i64 (k : Int)] W fun e w' => e = .returned (.string (xN k)) ∧ Kept W w' := by
  have h2 := sh_strings_Repeat ⟨#[120]⟩ k W (by omega) (by show 1 * k ≤ _; omega)
  have e : (⟨(Lib.repeatL (⟨#[120]⟩ : ByteArray).data.toList k).toArray⟩ : ByteArray) = xN k := by
    rcases h with rfl | rfl
    · kernel_rfl
    · kernel_rfl
  rw [e] at h2
  exact h2
/-- A letter z, so many times. -/
def zs (k : Nat) : ByteArray := ⟨(List.replicate k (122 : UInt8)).toArray⟩
theorem zs_size (k : Nat) : (zs k).size = k := by
  show (List.replicate k (122 : UInt8)).toArray.size = k
  simp
theorem repz (k : Nat) (h : k < 65) (W : World) : Calls Tryz.prog 10 #[.string ⟨#[122]⟩, .int .i64 (k : Int)] W fun e w' => e = .returned (.string (zs k)) ∧ Kept W w' := by
  have h2 := sh_strings_Repeat ⟨#[122]⟩ k W (by omega) (by show 1 * k ≤ _; omega)
  have e0 : (List.range 65).all (fun k => Lib.repeatL (⟨#[122]⟩ : ByteArray).data.toList k == List.replicate k (122 : UInt8)) = true := by kernel_rfl
  have e : Lib.repeatL (⟨#[122]⟩ : ByteArray).data.toList k = List.replicate k (122 : UInt8) := by simpa using List.all_eq_true.1 e0 k (List.mem_range.2 h)
  rw [e] at h2
  exact h2
def lenN : Value → Nat
  | .slice _ n _ => n
  | _ => 0
theorem z_nms : (⟨#[122]⟩ : ByteArray) ∉ nms := by
  have h : nms.all (fun s => s.data.toList != [122]) = true := by kernel_rfl
  intro e
  have := List.all_eq_true.1 h _ e
  simp at this
theorem bad0 : ∀ s ∈ [(⟨#[]⟩ : ByteArray), ⟨#[57]⟩, ⟨#[97, 45, 98]⟩, ⟨#[97, 58, 98]⟩, ⟨#[195, 169]⟩, xN 129], wrE (s, ⟨#[49]⟩) = 40 := by
  have h : [(⟨#[]⟩ : ByteArray), ⟨#[57]⟩, ⟨#[97, 45, 98]⟩, ⟨#[97, 58, 98]⟩, ⟨#[195, 169]⟩, xN 129].all (fun s => wrE (s, ⟨#[49]⟩) == 40) = true := by kernel_rfl
  exact fun s hs => by simpa using List.all_eq_true.1 h s hs
theorem bad1 : ∀ s ∈ [(⟨#[255]⟩ : ByteArray), ⟨#[192, 128]⟩, xN 1025, ⟨#[237, 160, 128]⟩], wrE (⟨#[122]⟩, s) = 41 := by
  have h : [(⟨#[255]⟩ : ByteArray), ⟨#[192, 128]⟩, xN 1025, ⟨#[237, 160, 128]⟩].all (fun s => wrE (⟨#[122]⟩, s) == 41) = true := by kernel_rfl
  exact fun s hs => by simpa using List.all_eq_true.1 h s hs
set_option maxRecDepth 100000 in
set_option maxHeartbeats 40000000 in
theorem wrong_of (p : List (Nat × Nat)) (a : Value) (k : Nat) (hk : k ≤ 255) (t : Nat) (ht : t ≤ 255) (w : World) (hT : Tab w) (C1 : RightIs p a w) :
    Calls Tryz.prog 5 #[a, .int .u8 (k : Int), .int .u8 (t : Int)] w fun e w' => e = .returned (.bool true) ∧ Kept w w' := by
  have CA := Lib.hid (awake_any w hT)
  have HT := Lib.hid hT
  have H1 : Hid (RightIs p a w) := C1
  unfold RightIs at H1
  have n1 := Lib.hid (rightL_RN p)
  generalize rightL p = L at *
  have l1 := n1.out.len
  obtain ⟨i0, hi0, hz0, hz1, hz2⟩ := info_parts infoLab
  obtain ⟨nL, hnL⟩ : ∃ n, n = L.length := ⟨_, rfl⟩
  have HnL := Lib.hid hnL
  rw [← hnL] at H1 l1
  obtain ⟨k7, hk7⟩ : ∃ i, i = k % 7 := ⟨_, rfl⟩
  have hk77 : k7 < 7 := by omega
  have hmod : (k : Int) % 7 = (k7 : Int) := by omega
  clear C1 hT hnL hk7
  go_enter Tryz.func5, Tryz.ntmps5
  go_wp2_with fail
  refine CA.out.mono ?_
  rintro e w1 ⟨rfl, hk⟩
  have K1 := Lib.hid hk
  clear hk CA
  go_wp2_with fail
  refine (H1.out _ K1.out).mono ?_
  rintro e w2 ⟨A1, c1, rfl, hr, hk, hcap⟩
  have HCap := Lib.hid hcap
  have R1 := Lib.hid hr
  have K2 := Lib.hid (below_kept K1.out hk)
  clear hr hk H1 K1 hcap
  go_upto_block 0 with fail
  obtain ⟨w3, hw3, h30, hk3, hlt3⟩ := new_row w2 #[.slice A1 nL c1] 28
  obtain ⟨w4, hw4, h40, hk4, hlt4⟩ := new_row w3 #[.string ⟨#[122]⟩, .string ⟨#[49]⟩] 33
  obtain ⟨g9, hg9⟩ : ∃ g, g = w2.heap.size + 1 := ⟨_, rfl⟩
  obtain ⟨g7, hg7⟩ : ∃ g, g = w2.heap.size := ⟨_, rfl⟩
  rw [← hw3, ← hw4, ← hg9, ← hg7]
  have hs3 : w3.heap.size = g9 := by rw [hw3, hg9]; simp
  rw [hs3] at h40
  rw [← hg7] at h30
  have hge9 : w2.heap.size ≤ g9 := by omega
  have hne : g7 ≠ g9 := by omega
  have h7 := Lib.hid (heap_kept hk4 h30)
  have h9 := Lib.hid h40
  have K4 := Lib.hid (below_kept hk3 hk4)
  clear hw3 hw4 h30 h40 hk3 hk4 hlt3 hlt4 hg9 hg7 hs3
  go_cut [10, 42] (fun v10 _ wx => ∃ nm vl wt, v10 = .int .i64 wt ∧ Hid (BadX L (nm, vl) wt) ∧ Hid (wx.heap[g9]? = some (.cells #[.string nm, .string vl] 33 (0, 0))) ∧ Hid (wx.heap[g7]? = some (.cells #[.slice A1 nL c1] 28 (0, 0))) ∧ Hid (Kept w2 wx))
  case first =>
    have d0 : w4.cell? ⟨g9, 0, none⟩ = some (.string ⟨#[122]⟩) := cell_of_row _ _ _ _ _ _ h9.out
    have d1 : w4.cell? ⟨g9, 1, none⟩ = some (.string ⟨#[49]⟩) := cell_of_row _ _ _ _ _ _ h9.out
    have f0 : ∀ j, w4.frozen? ⟨g9, j, none⟩ = false := fun j => by simp [World.frozen?, h9.out]
    have e7 : w4.cell? ⟨g7, 0, none⟩ = some (.slice A1 nL c1) := cell_of_row _ _ _ _ _ _ h7.out
    rcases (by omega : k7 = 0 ∨ k7 = 1 ∨ k7 = 2 ∨ k7 = 3 ∨ k7 = 4 ∨ k7 = 5 ∨ k7 = 6) with rfl | rfl | rfl | rfl | rfl | rfl | rfl
    · obtain ⟨q, hq, hq6⟩ : ∃ q : Nat, (t : Int) % 6 = (q : Int) ∧ q < 6 := ⟨t % 6, by omega, by omega⟩
      rcases (by omega : q = 0 ∨ q = 1 ∨ q = 2 ∨ q = 3 ∨ q = 4 ∨ q = 5) with rfl | rfl | rfl | rfl | rfl | rfl
      · go_wp2_with (go_at_call 10; refine (repx 129 (.inl rfl) _).mono ?_; rintro e w5 ⟨rfl, hk5⟩; have HX9 : Hid (∀ o, (w5.alloc o).heap[g9]? = some (.cells #[.string ⟨#[122]⟩, .string ⟨#[49]⟩] 33 (0, 0))) := (fun o => heap_kept ((Below.refl _ _).alloc (Nat.le_refl _) o) (heap_kept hk5 h9.out)); have HX7 : Hid (∀ o, (w5.alloc o).heap[g7]? = some (.cells #[.slice A1 nL c1] 28 (0, 0))) := (fun o => heap_kept ((Below.refl _ _).alloc (Nat.le_refl _) o) (heap_kept hk5 h7.out)); have HK5 : Hid (∀ o, Kept w2 (w5.alloc o)) := (fun o => below_kept (below_kept K4.out hk5) ((Below.refl _ _).alloc (Nat.le_refl _) o)); have c0' : (∀ o, (w5.alloc o).cell? ⟨g9, 0, none⟩ = some (.string ⟨#[122]⟩)) := (fun o => cell_of_row _ _ _ _ _ _ (HX9.out o)); have c1' : (∀ o, (w5.alloc o).cell? ⟨g9, 1, none⟩ = some (.string ⟨#[49]⟩)) := (fun o => cell_of_row _ _ _ _ _ _ (HX9.out o)); have f0' : (∀ o j, (w5.alloc o).frozen? ⟨g9, j, none⟩ = false) := (fun o j => by simp [World.frozen?, HX9.out o]))
        go_meet
        refine ⟨⟨#[]⟩, ⟨#[49]⟩, 40, rfl, .inl ⟨bad0 _ (by simp), by decide, by decide⟩, ?_, ?_, ?_⟩
        · exact heap_setCell_same _ _ 0 _ _ _ (HX9.out _)
        · exact (heap_setCell_other _ _ _ _ hne).trans (HX7.out _)
        · exact (HK5.out _).setCell hge9 _
      · go_wp2_with (go_at_call 10; refine (repx 129 (.inl rfl) _).mono ?_; rintro e w5 ⟨rfl, hk5⟩; have HX9 : Hid (∀ o, (w5.alloc o).heap[g9]? = some (.cells #[.string ⟨#[122]⟩, .string ⟨#[49]⟩] 33 (0, 0))) := (fun o => heap_kept ((Below.refl _ _).alloc (Nat.le_refl _) o) (heap_kept hk5 h9.out)); have HX7 : Hid (∀ o, (w5.alloc o).heap[g7]? = some (.cells #[.slice A1 nL c1] 28 (0, 0))) := (fun o => heap_kept ((Below.refl _ _).alloc (Nat.le_refl _) o) (heap_kept hk5 h7.out)); have HK5 : Hid (∀ o, Kept w2 (w5.alloc o)) := (fun o => below_kept (below_kept K4.out hk5) ((Below.refl _ _).alloc (Nat.le_refl _) o)); have c0' : (∀ o, (w5.alloc o).cell? ⟨g9, 0, none⟩ = some (.string ⟨#[122]⟩)) := (fun o => cell_of_row _ _ _ _ _ _ (HX9.out o)); have c1' : (∀ o, (w5.alloc o).cell? ⟨g9, 1, none⟩ = some (.string ⟨#[49]⟩)) := (fun o => cell_of_row _ _ _ _ _ _ (HX9.out o)); have f0' : (∀ o j, (w5.alloc o).frozen? ⟨g9, j, none⟩ = false) := (fun o j => by simp [World.frozen?, HX9.out o]))
        go_meet
        refine ⟨⟨#[57]⟩, ⟨#[49]⟩, 40, rfl, .inl ⟨bad0 _ (by simp), by decide, by decide⟩, ?_, ?_, ?_⟩
        · exact heap_setCell_same _ _ 0 _ _ _ (HX9.out _)
        · exact (heap_setCell_other _ _ _ _ hne).trans (HX7.out _)
        · exact (HK5.out _).setCell hge9 _
      · go_wp2_with (go_at_call 10; refine (repx 129 (.inl rfl) _).mono ?_; rintro e w5 ⟨rfl, hk5⟩; have HX9 : Hid (∀ o, (w5.alloc o).heap[g9]? = some (.cells #[.string ⟨#[122]⟩, .string ⟨#[49]⟩] 33 (0, 0))) := (fun o => heap_kept ((Below.refl _ _).alloc (Nat.le_refl _) o) (heap_kept hk5 h9.out)); have HX7 : Hid (∀ o, (w5.alloc o).heap[g7]? = some (.cells #[.slice A1 nL c1] 28 (0, 0))) := (fun o => heap_kept ((Below.refl _ _).alloc (Nat.le_refl _) o) (heap_kept hk5 h7.out)); have HK5 : Hid (∀ o, Kept w2 (w5.alloc o)) := (fun o => below_kept (below_kept K4.out hk5) ((Below.refl _ _).alloc (Nat.le_refl _) o)); have c0' : (∀ o, (w5.alloc o).cell? ⟨g9, 0, none⟩ = some (.string ⟨#[122]⟩)) := (fun o => cell_of_row _ _ _ _ _ _ (HX9.out o)); have c1' : (∀ o, (w5.alloc o).cell? ⟨g9, 1, none⟩ = some (.string ⟨#[49]⟩)) := (fun o => cell_of_row _ _ _ _ _ _ (HX9.out o)); have f0' : (∀ o j, (w5.alloc o).frozen? ⟨g9, j, none⟩ = false) := (fun o j => by simp [World.frozen?, HX9.out o]))
        go_meet
        refine ⟨⟨#[97, 45, 98]⟩, ⟨#[49]⟩, 40, rfl, .inl ⟨bad0 _ (by simp), by decide, by decide⟩, ?_, ?_, ?_⟩
        · exact heap_setCell_same _ _ 0 _ _ _ (HX9.out _)
        · exact (heap_setCell_other _ _ _ _ hne).trans (HX7.out _)
        · exact (HK5.out _).setCell hge9 _
      · go_wp2_with (go_at_call 10; refine (repx 129 (.inl rfl) _).mono ?_; rintro e w5 ⟨rfl, hk5⟩; have HX9 : Hid (∀ o, (w5.alloc o).heap[g9]? = some (.cells #[.string ⟨#[122]⟩, .string ⟨#[49]⟩] 33 (0, 0))) := (fun o => heap_kept ((Below.refl _ _).alloc (Nat.le_refl _) o) (heap_kept hk5 h9.out)); have HX7 : Hid (∀ o, (w5.alloc o).heap[g7]? = some (.cells #[.slice A1 nL c1] 28 (0, 0))) := (fun o => heap_kept ((Below.refl _ _).alloc (Nat.le_refl _) o) (heap_kept hk5 h7.out)); have HK5 : Hid (∀ o, Kept w2 (w5.alloc o)) := (fun o => below_kept (below_kept K4.out hk5) ((Below.refl _ _).alloc (Nat.le_refl _) o)); have c0' : (∀ o, (w5.alloc o).cell? ⟨g9, 0, none⟩ = some (.string ⟨#[122]⟩)) := (fun o => cell_of_row _ _ _ _ _ _ (HX9.out o)); have c1' : (∀ o, (w5.alloc o).cell? ⟨g9, 1, none⟩ = some (.string ⟨#[49]⟩)) := (fun o => cell_of_row _ _ _ _ _ _ (HX9.out o)); have f0' : (∀ o j, (w5.alloc o).frozen? ⟨g9, j, none⟩ = false) := (fun o j => by simp [World.frozen?, HX9.out o]))
        go_meet
        refine ⟨⟨#[97, 58, 98]⟩, ⟨#[49]⟩, 40, rfl, .inl ⟨bad0 _ (by simp), by decide, by decide⟩, ?_, ?_, ?_⟩
        · exact heap_setCell_same _ _ 0 _ _ _ (HX9.out _)
        · exact (heap_setCell_other _ _ _ _ hne).trans (HX7.out _)
        · exact (HK5.out _).setCell hge9 _
      · go_wp2_with (go_at_call 10; refine (repx 129 (.inl rfl) _).mono ?_; rintro e w5 ⟨rfl, hk5⟩; have HX9 : Hid (∀ o, (w5.alloc o).heap[g9]? = some (.cells #[.string ⟨#[122]⟩, .string ⟨#[49]⟩] 33 (0, 0))) := (fun o => heap_kept ((Below.refl _ _).alloc (Nat.le_refl _) o) (heap_kept hk5 h9.out)); have HX7 : Hid (∀ o, (w5.alloc o).heap[g7]? = some (.cells #[.slice A1 nL c1] 28 (0, 0))) := (fun o => heap_kept ((Below.refl _ _).alloc (Nat.le_refl _) o) (heap_kept hk5 h7.out)); have HK5 : Hid (∀ o, Kept w2 (w5.alloc o)) := (fun o => below_kept (below_kept K4.out hk5) ((Below.refl _ _).alloc (Nat.le_refl _) o)); have c0' : (∀ o, (w5.alloc o).cell? ⟨g9, 0, none⟩ = some (.string ⟨#[122]⟩)) := (fun o => cell_of_row _ _ _ _ _ _ (HX9.out o)); have c1' : (∀ o, (w5.alloc o).cell? ⟨g9, 1, none⟩ = some (.string ⟨#[49]⟩)) := (fun o => cell_of_row _ _ _ _ _ _ (HX9.out o)); have f0' : (∀ o j, (w5.alloc o).frozen? ⟨g9, j, none⟩ = false) := (fun o j => by simp [World.frozen?, HX9.out o]))
        go_meet
        refine ⟨⟨#[195, 169]⟩, ⟨#[49]⟩, 40, rfl, .inl ⟨bad0 _ (by simp), by decide, by decide⟩, ?_, ?_, ?_⟩
        · exact heap_setCell_same _ _ 0 _ _ _ (HX9.out _)
        · exact (heap_setCell_other _ _ _ _ hne).trans (HX7.out _)
        · exact (HK5.out _).setCell hge9 _
      · go_wp2_with (go_at_call 10; refine (repx 129 (.inl rfl) _).mono ?_; rintro e w5 ⟨rfl, hk5⟩; have HX9 : Hid (∀ o, (w5.alloc o).heap[g9]? = some (.cells #[.string ⟨#[122]⟩, .string ⟨#[49]⟩] 33 (0, 0))) := (fun o => heap_kept ((Below.refl _ _).alloc (Nat.le_refl _) o) (heap_kept hk5 h9.out)); have HX7 : Hid (∀ o, (w5.alloc o).heap[g7]? = some (.cells #[.slice A1 nL c1] 28 (0, 0))) := (fun o => heap_kept ((Below.refl _ _).alloc (Nat.le_refl _) o) (heap_kept hk5 h7.out)); have HK5 : Hid (∀ o, Kept w2 (w5.alloc o)) := (fun o => below_kept (below_kept K4.out hk5) ((Below.refl _ _).alloc (Nat.le_refl _) o)); have c0' : (∀ o, (w5.alloc o).cell? ⟨g9, 0, none⟩ = some (.string ⟨#[122]⟩)) := (fun o => cell_of_row _ _ _ _ _ _ (HX9.out o)); have c1' : (∀ o, (w5.alloc o).cell? ⟨g9, 1, none⟩ = some (.string ⟨#[49]⟩)) := (fun o => cell_of_row _ _ _ _ _ _ (HX9.out o)); have f0' : (∀ o j, (w5.alloc o).frozen? ⟨g9, j, none⟩ = false) := (fun o j => by simp [World.frozen?, HX9.out o]))
        go_meet
        refine ⟨xN 129, ⟨#[49]⟩, 40, rfl, .inl ⟨bad0 _ (by simp), by decide, by decide⟩, ?_, ?_, ?_⟩
        · exact heap_setCell_same _ _ 0 _ _ _ (HX9.out _)
        · exact (heap_setCell_other _ _ _ _ hne).trans (HX7.out _)
        · exact (HK5.out _).setCell hge9 _
    · obtain ⟨q, hq, hq4⟩ : ∃ q : Nat, (t : Int) % 4 = (q : Int) ∧ q < 4 := ⟨t % 4, by omega, by omega⟩
      rcases (by omega : q = 0 ∨ q = 1 ∨ q = 2 ∨ q = 3) with rfl | rfl | rfl | rfl
      · go_wp2_with (go_at_call 10; refine (repx 1025 (.inr rfl) _).mono ?_; rintro e w5 ⟨rfl, hk5⟩; have HX9 : Hid (∀ o, (w5.alloc o).heap[g9]? = some (.cells #[.string ⟨#[122]⟩, .string ⟨#[49]⟩] 33 (0, 0))) := (fun o => heap_kept ((Below.refl _ _).alloc (Nat.le_refl _) o) (heap_kept hk5 h9.out)); have HX7 : Hid (∀ o, (w5.alloc o).heap[g7]? = some (.cells #[.slice A1 nL c1] 28 (0, 0))) := (fun o => heap_kept ((Below.refl _ _).alloc (Nat.le_refl _) o) (heap_kept hk5 h7.out)); have HK5 : Hid (∀ o, Kept w2 (w5.alloc o)) := (fun o => below_kept (below_kept K4.out hk5) ((Below.refl _ _).alloc (Nat.le_refl _) o)); have c0' : (∀ o, (w5.alloc o).cell? ⟨g9, 0, none⟩ = some (.string ⟨#[122]⟩)) := (fun o => cell_of_row _ _ _ _ _ _ (HX9.out o)); have c1' : (∀ o, (w5.alloc o).cell? ⟨g9, 1, none⟩ = some (.string ⟨#[49]⟩)) := (fun o => cell_of_row _ _ _ _ _ _ (HX9.out o)); have f0' : (∀ o j, (w5.alloc o).frozen? ⟨g9, j, none⟩ = false) := (fun o j => by simp [World.frozen?, HX9.out o]))
        go_meet
        refine ⟨⟨#[122]⟩, ⟨#[255]⟩, 41, rfl, .inl ⟨bad1 _ (by simp), by decide, by decide⟩, ?_, ?_, ?_⟩
        · exact heap_setCell_same _ _ 1 _ _ _ (HX9.out _)
        · exact (heap_setCell_other _ _ _ _ hne).trans (HX7.out _)
        · exact (HK5.out _).setCell hge9 _
      · go_wp2_with (go_at_call 10; refine (repx 1025 (.inr rfl) _).mono ?_; rintro e w5 ⟨rfl, hk5⟩; have HX9 : Hid (∀ o, (w5.alloc o).heap[g9]? = some (.cells #[.string ⟨#[122]⟩, .string ⟨#[49]⟩] 33 (0, 0))) := (fun o => heap_kept ((Below.refl _ _).alloc (Nat.le_refl _) o) (heap_kept hk5 h9.out)); have HX7 : Hid (∀ o, (w5.alloc o).heap[g7]? = some (.cells #[.slice A1 nL c1] 28 (0, 0))) := (fun o => heap_kept ((Below.refl _ _).alloc (Nat.le_refl _) o) (heap_kept hk5 h7.out)); have HK5 : Hid (∀ o, Kept w2 (w5.alloc o)) := (fun o => below_kept (below_kept K4.out hk5) ((Below.refl _ _).alloc (Nat.le_refl _) o)); have c0' : (∀ o, (w5.alloc o).cell? ⟨g9, 0, none⟩ = some (.string ⟨#[122]⟩)) := (fun o => cell_of_row _ _ _ _ _ _ (HX9.out o)); have c1' : (∀ o, (w5.alloc o).cell? ⟨g9, 1, none⟩ = some (.string ⟨#[49]⟩)) := (fun o => cell_of_row _ _ _ _ _ _ (HX9.out o)); have f0' : (∀ o j, (w5.alloc o).frozen? ⟨g9, j, none⟩ = false) := (fun o j => by simp [World.frozen?, HX9.out o]))
        go_meet
        refine ⟨⟨#[122]⟩, ⟨#[192, 128]⟩, 41, rfl, .inl ⟨bad1 _ (by simp), by decide, by decide⟩, ?_, ?_, ?_⟩
        · exact heap_setCell_same _ _ 1 _ _ _ (HX9.out _)
        · exact (heap_setCell_other _ _ _ _ hne).trans (HX7.out _)
        · exact (HK5.out _).setCell hge9 _
      · go_wp2_with (go_at_call 10; refine (repx 1025 (.inr rfl) _).mono ?_; rintro e w5 ⟨rfl, hk5⟩; have HX9 : Hid (∀ o, (w5.alloc o).heap[g9]? = some (.cells #[.string ⟨#[122]⟩, .string ⟨#[49]⟩] 33 (0, 0))) := (fun o => heap_kept ((Below.refl _ _).alloc (Nat.le_refl _) o) (heap_kept hk5 h9.out)); have HX7 : Hid (∀ o, (w5.alloc o).heap[g7]? = some (.cells #[.slice A1 nL c1] 28 (0, 0))) := (fun o => heap_kept ((Below.refl _ _).alloc (Nat.le_refl _) o) (heap_kept hk5 h7.out)); have HK5 : Hid (∀ o, Kept w2 (w5.alloc o)) := (fun o => below_kept (below_kept K4.out hk5) ((Below.refl _ _).alloc (Nat.le_refl _) o)); have c0' : (∀ o, (w5.alloc o).cell? ⟨g9, 0, none⟩ = some (.string ⟨#[122]⟩)) := (fun o => cell_of_row _ _ _ _ _ _ (HX9.out o)); have c1' : (∀ o, (w5.alloc o).cell? ⟨g9, 1, none⟩ = some (.string ⟨#[49]⟩)) := (fun o => cell_of_row _ _ _ _ _ _ (HX9.out o)); have f0' : (∀ o j, (w5.alloc o).frozen? ⟨g9, j, none⟩ = false) := (fun o j => by simp [World.frozen?, HX9.out o]))
        go_meet
        refine ⟨⟨#[122]⟩, xN 1025, 41, rfl, .inl ⟨bad1 _ (by simp), by decide, by decide⟩, ?_, ?_, ?_⟩
        · exact heap_setCell_same _ _ 1 _ _ _ (HX9.out _)
        · exact (heap_setCell_other _ _ _ _ hne).trans (HX7.out _)
        · exact (HK5.out _).setCell hge9 _
      · go_wp2_with (go_at_call 10; refine (repx 1025 (.inr rfl) _).mono ?_; rintro e w5 ⟨rfl, hk5⟩; have HX9 : Hid (∀ o, (w5.alloc o).heap[g9]? = some (.cells #[.string ⟨#[122]⟩, .string ⟨#[49]⟩] 33 (0, 0))) := (fun o => heap_kept ((Below.refl _ _).alloc (Nat.le_refl _) o) (heap_kept hk5 h9.out)); have HX7 : Hid (∀ o, (w5.alloc o).heap[g7]? = some (.cells #[.slice A1 nL c1] 28 (0, 0))) := (fun o => heap_kept ((Below.refl _ _).alloc (Nat.le_refl _) o) (heap_kept hk5 h7.out)); have HK5 : Hid (∀ o, Kept w2 (w5.alloc o)) := (fun o => below_kept (below_kept K4.out hk5) ((Below.refl _ _).alloc (Nat.le_refl _) o)); have c0' : (∀ o, (w5.alloc o).cell? ⟨g9, 0, none⟩ = some (.string ⟨#[122]⟩)) := (fun o => cell_of_row _ _ _ _ _ _ (HX9.out o)); have c1' : (∀ o, (w5.alloc o).cell? ⟨g9, 1, none⟩ = some (.string ⟨#[49]⟩)) := (fun o => cell_of_row _ _ _ _ _ _ (HX9.out o)); have f0' : (∀ o j, (w5.alloc o).frozen? ⟨g9, j, none⟩ = false) := (fun o j => by simp [World.frozen?, HX9.out o]))
        go_meet
        refine ⟨⟨#[122]⟩, ⟨#[237, 160, 128]⟩, 41, rfl, .inl ⟨bad1 _ (by simp), by decide, by decide⟩, ?_, ?_, ?_⟩
        · exact heap_setCell_same _ _ 1 _ _ _ (HX9.out _)
        · exact (heap_setCell_other _ _ _ _ hne).trans (HX7.out _)
        · exact (HK5.out _).setCell hge9 _
    · go_wp2_with fail
      go_meet
      refine ⟨⟨#[45]⟩, ⟨#[255]⟩, 40, rfl, .inl ⟨by kernel_rfl, by decide, by decide⟩, ?_, ?_, ?_⟩
      · exact heap_setCell_same _ _ 1 _ _ _ (heap_setCell_same _ _ 0 _ _ _ h9.out)
      · exact (heap_setCell_other _ _ _ _ hne).trans ((heap_setCell_other _ _ _ _ hne).trans h7.out)
      · exact (K4.out.setCell hge9 _).setCell hge9 _
    · go_wp2_with fail
      go_meet
      refine ⟨⟨#[122]⟩, ⟨#[]⟩, 42, rfl, .inr (.inl ⟨rfl, by kernel_rfl, rfl, z_nms⟩), ?_, ?_, ?_⟩
      · exact heap_setCell_same _ _ 1 _ _ _ h9.out
      · exact (heap_setCell_other _ _ _ _ hne).trans h7.out
      · exact K4.out.setCell hge9 _
    · go_wp2_with fail
      go_meet
      refine ⟨⟨#[]⟩, ⟨#[49]⟩, 40, rfl, .inl ⟨by kernel_rfl, by decide, by decide⟩, ?_, ?_, ?_⟩
      · exact heap_setCell_same _ _ 0 _ _ _ h9.out
      · exact (heap_setCell_other _ _ _ _ hne).trans h7.out
      · exact K4.out.setCell hge9 _
    · rcases Nat.eq_zero_or_pos nL with hz | hz
      · subst hz
        go_wp2_with fail
        go_ret
        exact ⟨rfl, below_kept K2.out K4.out⟩
      · obtain ⟨m, hm⟩ : ∃ m, nL = m + 1 := ⟨nL - 1, by omega⟩
        obtain ⟨ad, y, rfl, hadb, hy, _, hc0, _⟩ := rdl_at R1.out (k := m) (by rw [← HnL.out]; omega)
        have ce : w4.cell? (ad.add (m * 2)) = some (.string y.1) := (Below.cell K4.out (by rw [addBlock]; exact hadb)).trans hc0
        have hmI : (nL : Int) - 1 = (m : Int) := by omega
        have hmlt : (m : Int) < nL := by omega
        have hnz : ¬ (nL : Int) = 0 := by omega
        have hyL : L[L.length - 1]? = some y := by rw [← HnL.out, hm]; exact hy
        have HyL := Lib.hid hyL
        clear hm hy hc0 hyL
        go_wp2_with fail
        go_meet
        refine ⟨y.1, ⟨#[49]⟩, 42, rfl, .inr (.inr ⟨rfl, ?_, (show (⟨#[49]⟩ : ByteArray) ≠ ⟨#[]⟩ by decide), y, HyL.out, rfl⟩), ?_, ?_, ?_⟩
        · have h1 := n1.out.ok y (List.mem_of_getElem? HyL.out)
          unfold wrE at h1 ⊢
          split at h1
          · rename_i h2
            rw [if_pos h2, if_pos (show valB ⟨#[49]⟩ = true by kernel_rfl)]
          · cases h1
        · exact heap_setCell_same _ _ 0 _ _ _ h9.out
        · exact (heap_setCell_other _ _ _ _ hne).trans h7.out
        · exact K4.out.setCell hge9 _
    · have H9' : Hid (∀ o, (w4.alloc o).heap[g7]? = some (.cells #[.slice A1 nL c1] 28 (0, 0))) := fun o => heap_kept ((Below.refl _ _).alloc (Nat.le_refl _) o) h7.out
      have e7' : ∀ o, (w4.alloc o).cell? ⟨g7, 0, none⟩ = some (.slice A1 nL c1) := fun o => cell_of_row _ _ _ _ _ _ (H9'.out o)
      have hka : Kept w4 (w4.alloc (.cells #[] 33)) := (Below.refl _ _).alloc (Nat.le_refl _) _
      have own0 : Hid ((w4.alloc (.cells #[] 33)).ownsRow w4.heap.size 33 2 (.slice (some ⟨w4.heap.size, 0, none⟩) 0 0) 0 (labs [])) := ⟨rfl, .inr ⟨_, 0, #[], rfl, Nat.le_refl _, heap_alloc_new _ _, Nat.le_refl _, Nat.zero_le _, rfl, rfl⟩⟩
      have K4a := below_kept K4.out hka
      have R1a : Hid (Rd (w4.alloc (.cells #[] 33)) (w4.alloc (.cells #[] 33)).heap.size A1 (nL * 2) (labs L)) := by
        rw [HnL.out]
        exact (R1.out.below K4a).more K4a.size
      have K4b := Lib.hid K4a
      clear K4a hka d0 d1 f0
      go_wp2_with (refine wpList_appG rfl _ _ 22 28 rfl Tryz.underlying28 w4.heap.size i0 (.agg #[.string ⟨#[]⟩, .string ⟨#[]⟩]) 32 Tryz.underlying22 hi0 hz0 hz1 hz2 rfl _ 0 (labs []) rfl own0.out A1 nL c1 (labs L) rfl R1a.out (labs_one _) (by unfold maxLen; omega) (by omega) (by simp) ?_; intro v5 w5 hown5 hg5; have Own5 := Lib.hid hown5; have K5 : Hid (Kept w4 w5) := Below.grown ((Below.refl w4.heap.size w4).alloc (Nat.le_refl _) _) hg5 (by simp) (fun j e => (own0.out.lt j e).1); clear hown5 hg5)
      obtain ⟨A5, c5, hv5, _, _⟩ := own_rd Own5.out
      have e5 : 0 + nL = nL := by omega
      rw [e5] at hv5 Own5
      have hn0 : nL + 0 ≤ 65 := by omega
      clear e5 own0 R1a e7' H9' h9 K4b
      go_loopw [11] (fun v11 wr => ∃ j : Nat, nL + j ≤ 65 ∧ ∃ A c, v11 = .slice A (nL + j) c ∧ Hid (wr.ownsRow w4.heap.size 33 2 v11 (nL + j) (labs (manyL L j))) ∧ Hid (Kept w4 wr)) (fun v11 _ => 65 - lenN v11)
      case atStart => exact ⟨0, hn0, A5, c5, hv5, Own5, K5⟩
      case round =>
        clear hv5 Own5 K5 hn0
        obtain ⟨j, hj, A, c, rfl, hown, hkr⟩ := hrel
        obtain ⟨n, hn⟩ : ∃ n, n = nL + j := ⟨_, rfl⟩
        have Hn := Lib.hid hn
        rw [← hn] at hj hown ⊢
        clear hn
        by_cases hin : n < 65
        · have hinI : (n : Int) < 65 := by omega
          have hzn : Hid (zL n = (zN n, ⟨#[49]⟩)) := rfl
          have Hmk : Hid (labs (manyL L (j + 1)) = labs (manyL L j) ++ [.string (zN n), .string ⟨#[49]⟩]) := by
            show labs (manyL L j ++ [zL (L.length + j)]) = _
            rw [labs_snoc, ← HnL.out, ← Hn.out]
            rfl
          have CZ := Lib.hid (repz n hin wr)
          have hadd : ¬ 9223372036854775807 < (⟨#[122, 122]⟩ : ByteArray).size + (zs n).size := by
            rw [zs_size]
            show ¬ _ < 2 + n
            omega
          have heN : (⟨#[122, 122]⟩ : ByteArray) ++ zs n = zN n := rfl
          generalize zN n = zn at *
          generalize zs n = zq at *
          clear hzn
          go_wp2_with (first
            | (go_at_call 10; refine CZ.out.mono ?_; rintro e w6 ⟨rfl, hk6⟩; have K6 := Lib.hid (below_kept hkr.out hk6); have HL1 : Hid ((w6.alloc (.cells #[.string zn, .string ⟨#[49]⟩] 33)).ownsRow w4.heap.size 33 2 (.slice A n c) n (labs (manyL L j))) := (own_below (own_below hown.out hk6) ((Below.refl _ _).alloc (Nat.le_refl _) _)); have hz6 : w4.heap.size ≤ w6.heap.size := K6.out.size; clear hk6)
            | (refine wpList_ownG rfl _ _ 22 rfl w4.heap.size i0 (.agg #[.string ⟨#[]⟩, .string ⟨#[]⟩]) 32 Tryz.underlying22 hi0 hz0 hz1 hz2 rfl (.slice A n c) n (labs (manyL L j)) rfl HL1.out ⟨w6.heap.size, 0, none⟩ 1 1 [.string zn, .string ⟨#[49]⟩] rfl rfl (cells_new w6 [.string zn, .string ⟨#[49]⟩] 33) (by intro u hu; simp at hu; rcases hu with rfl | rfl <;> rfl) (by unfold maxLen; omega) (by omega) (Nat.le_trans hz6 (by simp)) ?_; intro v8 w8 hown8 hg8; have Own8 := Lib.hid hown8; have K8 : Hid (Kept w4 w8) := Below.grown (K6.out.alloc hz6 _) hg8 (Nat.le_trans hz6 (by simp)) (fun j e => (HL1.out.lt j e).1); clear hown8 hg8))
          obtain ⟨A8, c8, hv8, _, _⟩ := own_rd Own8.out
          go_roundw
          case rel =>
            refine ⟨j + 1, by have := Hn.out; omega, A8, c8, ?_, ?_, K8⟩
            · rw [hv8, show nL + (j + 1) = n + 1 by have := Hn.out; omega]
            · rw [show nL + (j + 1) = n + 1 by have := Hn.out; omega, Hmk.out]
              exact Own8
          case measure =>
            rw [hv8]
            simp [lenN]
            omega
        · have hn65 : n = 65 := by omega
          have hge : ¬ (n : Int) < 65 := by omega
          obtain ⟨A', c', hv', hcc, hrr⟩ := own_rd hown.out
          injection hv' with e1 e2 e3
          subst e1 e3
          have HMl : Hid ((manyL L j).length = n) := by show _ = _; rw [manyL_len, ← HnL.out, Hn.out]
          have hlj : L.length + j = 65 := by rw [← HnL.out, ← Hn.out, hn65]
          have HMc : Hid (chk (manyL L j) = (-1, 5)) := chk_many (by rw [HMl.out]; omega)
          have HMok : Hid (∀ x ∈ manyL L j, wrE x = 0) := fun x hx => (manyL_ok n1.out j (by omega) x hx).1
          have HMt : Hid (twB (manyL L j) = false) := once_tw (manyL_once n1.out j (by omega))
          have HMp : Hid ((puts [] ((manyL L j).map lb)).length = 65) := manyL_puts n1.out j hlj
          have HMa : Hid (L ++ (manyL L j).drop nL = manyL L j) := by
            show _ = _
            have h := manyL_take L j
            conv => lhs; lhs; rw [← h]
            rw [HnL.out, List.take_append_drop]
          have RM : Hid (RdL wr wr.heap.size A (manyL L j)) := by
            show Rd _ _ _ _ _
            rw [HMl.out]
            exact hrr
          generalize manyL L j = M at *
          have KW := Lib.hid (below_kept K4.out hkr.out)
          have HTr := Lib.hid (HT.out.below (below_kept K2.out KW.out))
          have CK : Hid (∀ W, Kept wr W → Calls Tryz.prog 12 #[.slice A n c] W fun e w' => e = .returned (.tuple #[.int .i64 (-1), .int .i64 5]) ∧ Kept W w') := fun W h => by
            have h2 := check_any' A c M (by rw [HMl.out]; omega) W ((RM.out.below h).more h.size) (HTr.out.below h)
            rw [HMc.out, HMl.out] at h2
            exact h2
          have CO : Hid (∀ W, Kept wr W → Calls Tryz.prog 13 #[.slice A n c] W fun e w' => ∃ v, e = .returned (.tuple #[v, .int .i64 5]) ∧ Kept W w') := fun W h => by
            have h2 := of_any A c M (by rw [HMl.out]; omega) W ((RM.out.below h).more h.size) (HTr.out.below h)
            rw [HMl.out] at h2
            refine h2.mono fun e w' ⟨h3, hk⟩ => ?_
            rcases h3 with ⟨h0, _⟩ | ⟨_, h0, _⟩ | ⟨_, _, v, q, rfl, h0⟩
            · exact absurd (fwE_ok HMok.out) h0
            · rw [HMt.out] at h0; cases h0
            · rcases h0 with ⟨_, rfl, rfl⟩ | ⟨h0, _⟩
              · exact ⟨_, rfl, hk⟩
              · rw [HMp.out] at h0; omega
          have CM : Hid (∀ W, Kept wr W → Calls Tryz.prog 14 #[.slice A n c, .slice none 0 0] W fun e w' => e = .returned (.tuple #[.slice none 0 0, .int .i64 44]) ∧ Kept W w') := fun W h =>
            (merge_44 (L := M) (R := []) (A1 := none) (c1 := 0) (n1 := 0) (by rw [HMl.out]; omega) HMl.out.symm (rgt_bad HMc.out (by decide)) ((RM.out.below h).more h.size) (HTr.out.below h) (by simp) rfl (Rd.nil (w := W))).1
          have CS : Hid (∀ W, Kept wr W → Calls Tryz.prog 15 #[.slice A1 nL c1, .slice (if c = nL then A else A.map (·.add (nL * 2))) (n - nL) (c - nL)] W fun e w' => ∃ v, e = .returned (.tuple #[v, .int .i64 5]) ∧ Kept W w') := fun W h => by
            have hd := rdl_drop ((RM.out.below h).more h.size) nL c (by rw [HMl.out]; omega) (by rw [HMl.out]; exact hcc)
            have hdl : (M.drop nL).length = n - nL := by rw [List.length_drop, HMl.out]
            have hk1 := below_kept KW.out h
            have h2 := set_any A1 (if c = nL then A else A.map (·.add (nL * 2))) c1 (c - nL) L (M.drop nL) (by rw [← HnL.out]; omega) (by rw [hdl]; omega) W ((R1.out.below hk1).more hk1.size) (by show Rd _ _ _ _ _; rw [hdl]; rw [HMl.out] at hd; exact hd) (HTr.out.below h)
            rw [← HnL.out, hdl, HMa.out, show setBad L (M.drop nL) = none by unfold setBad; rw [if_pos n1.out.1, if_pos (fwE_ok fun x hx => HMok.out x (List.mem_of_mem_drop hx))]] at h2
            refine h2.mono fun e w' ⟨v, q, he, h3, hk⟩ => ?_
            rcases h3 with ⟨_, rfl, rfl⟩ | ⟨h0, _⟩
            · exact ⟨_, he, hk⟩
            · rw [HMp.out] at h0; omega
          have hI1 : (nL : Int) ≤ n := by omega
          have hI2 : (n : Int) ≤ c := by omega
          have hI3 : (nL : Int) ≤ c := by omega
          have hN1 : ¬ n < nL := by omega
          have hN2 : ¬ c < n := by omega
          have hN3 : ¬ c < nL := by omega
          have H7r := Lib.hid (heap_kept hkr.out h7.out)
          have Kr := Lib.hid (Below.refl wr.heap.size wr)
          clear hn65 hlj HMl HMc HMok HMt HMp HMa RM hrr hown Hn hj h7 K4 R1 e7
          go_upto_region 15 with (first
            | (go_at_call 12; refine (CK.out _ Kr.out).mono ?_; rintro e x1 ⟨rfl, hk1⟩; have Kx1 := Lib.hid hk1; clear hk1)
            | (go_at_call 13; refine (CO.out _ Kx1.out).mono ?_; rintro e x2 ⟨vo, rfl, hk2⟩; have Kx2 := Lib.hid (below_kept Kx1.out hk2); clear hk2)
            | (go_at_call 14; refine (CM.out _ Kx2.out).mono ?_; rintro e x3 ⟨rfl, hk3⟩; have Kx3 := Lib.hid (below_kept Kx2.out hk3); clear hk3))
          have hx7 := heap_kept Kx3.out H7r.out
          have Hk : Hid (∀ W', Below x3.heap.size x3 W' → W'.cell? ⟨g7, 0, none⟩ = some (.slice A1 nL c1) ∧ Below x3.heap.size x3 W') := fun W' h => ⟨cell_of_row _ _ _ _ _ _ (heap_kept h hx7), h⟩
          have hb00 : Below x3.heap.size x3 x3.drew := (Below.refl x3.heap.size x3).drew
          clear hx7
          go_region_held3 (fun W' => W'.cell? ⟨g7, 0, none⟩ = some (.slice A1 nL c1) ∧ Below x3.heap.size x3 W')
            ((refine Hk.out _ ?_; assumption))
            (first
              | (go_at_call 15; refine (CS.out _ (below_kept Kx3.out hb00)).mono ?_; rintro e x4 ⟨vs, rfl, hk4⟩; have k4 : Below x3.heap.size x3 x4 := below_kept hb00 hk4; dsimp only))
          rename_i hS
          clear hS Hk hb00 hk4
          go_wp2_with fail
          go_ret
          exact ⟨rfl, below_kept K2.out (below_kept KW.out (below_kept Kx3.out k4))⟩
  case rest =>
    obtain ⟨nm, vl, wt, rfl, hbad, hx9, hx7, hkx⟩ := hcut
    have B := Lib.hid (bad_chk n1.out hbad.out)
    go_upto_region 31 with fail
    go_cut [20] (fun v20 wx => ∃ g A c, v20 = .pointer (some ⟨g, 0, none⟩) ∧ Hid (wx.heap[g]? = some (.cells #[.slice A (nL + 1) c] 28 (0, 0))) ∧ Hid (Rd wx wx.heap.size A ((nL + 1) * 2) (labs L ++ [.string nm, .string vl])) ∧ Hid (Kept wc wx))
    case first =>
      obtain ⟨w0, hw0⟩ : ∃ x, x = wc.drew := ⟨_, rfl⟩
      have h7 : w0.cell? ⟨g7, 0, none⟩ = some (.slice A1 nL c1) := by rw [hw0]; exact cell_of_row _ _ _ _ _ _ (heap_drew0 hx7.out)
      have h90 : w0.cell? ⟨g9, 0, none⟩ = some (.string nm) := by rw [hw0]; exact cell_of_row _ _ _ _ _ _ (heap_drew0 hx9.out)
      have h91 : w0.cell? ⟨g9, 1, none⟩ = some (.string vl) := by rw [hw0]; exact cell_of_row _ _ _ _ _ _ (heap_drew0 hx9.out)
      have hlt7 : g7 < w0.heap.size := by rw [hw0]; exact heap_lt (heap_drew0 hx7.out)
      have hlt9 : g9 < w0.heap.size := by rw [hw0]; exact heap_lt (heap_drew0 hx9.out)
      have HRL : Hid (∀ W, w0.grownBy W none → Rd W W.heap.size A1 (nL * 2) (labs L)) := fun W hW => by
        have h2 := R1.out.below (below_kept hkx.out (below_drew0 (Below.refl wc.heap.size wc)))
        rw [← hw0, ← HnL.out] at h2
        exact rd_grown (h2.more (by rw [hw0]; exact hkx.out.size)) hW (fun ad _ => by simp) hW.size
      have Hfin : Hid (∀ W, Kept w0 W → Kept wc W) := fun W h => by rw [hw0] at h; exact below_kept (below_drew0 (Below.refl wc.heap.size wc)) h
      refine wp_region_held_drew (S := fun W => wc.drew.grownBy W none) (by kernel_rfl) (grown_kept (Below.refl _ _) _) (fun hHeld => ?_)
      rw [← hw0] at hHeld ⊢
      clear hbad B hx9 hx7 hkx R1 HnL HT n1 hk ht hk77 hmod HCap K2 K4 hge9 hne hw0
      refine wpAnyH_take (i := 1) (oi := ⟨some 140, _, _, _, _, _⟩) rfl (by kernel_rfl) (by kernel_rfl) (by kernel_rfl) (fun _ _ _ h => h) (yields_cell (by rfl) _ _ rfl ⟨g7, 0, none⟩ rfl (.slice A1 nL c1) (fun w v h => load_labs w _ v h) (hlt7) (by simp) (h7)) hHeld ?_
      try simp only [Act.put, List.setIfInBounds_toArray, List.set_cons_zero, List.set_cons_succ]
      refine wpAnyH_take (i := 3) (oi := ⟨some 142, _, _, _, _, _⟩) rfl (by kernel_rfl) (by kernel_rfl) (by kernel_rfl) (fun _ _ _ h => h) (yields_lab (by rfl) _ rfl g9 rfl _ _ hlt9 (by simp) h90 h91) hHeld ?_
      try simp only [Act.put, List.setIfInBounds_toArray, List.set_cons_zero, List.set_cons_succ]
      refine wpAnyH_ready (rs := [0, 4, 6]) (by kernel_rfl) (by simp) ?_
      refine AllReadyH.cons (o := ⟨some 139, _, _, _, _, _⟩) rfl (fun K hK => ?_) (AllReadyH.cons (o := ⟨some 143, _, _, _, _, _⟩) rfl (fun K hK => ?_) (AllReadyH.cons (o := ⟨some 20, _, _, _, _, _⟩) rfl (fun K hK => ?_) (AllReadyH.nil)))
      · as_aux_lemma =>
        go_simp
        obtain ⟨wn, hwn, hd0, hk, hlt⟩ := new_row w0 #[] 33
        obtain ⟨g0, hg0⟩ : ∃ g, g = w0.heap.size := ⟨_, rfl⟩
        rw [← hwn, ← hg0]
        rw [← hg0] at hd0
        have hge0 : w0.heap.size ≤ g0 := by rw [hg0]; exact hHeld.size
        have own0 : Hid (wn.ownsRow w0.heap.size 33 2 (.slice (some ⟨g0, 0, none⟩) 0 0) 0 (labs [])) := ⟨rfl, .inr ⟨_, 0, #[], rfl, hge0, hd0, Nat.le_refl _, Nat.zero_le _, rfl, rfl⟩⟩
        have hHn : w0.grownBy wn none := grown_new hHeld (grown_kept hk none) (fun k e => by cases e)
        refine hK.out _ _ hHn (fun _ => ?_)
        replace hHeld := hHn
        clear hHn hk hwn hd0 hg0 hlt hge0
        obtain ⟨wc, rfl⟩ : ∃ x, x = wn := ⟨_, rfl⟩
        clear hK K
        try simp only [Act.put, List.setIfInBounds_toArray, List.set_cons_zero, List.set_cons_succ]
        refine wpAnyH_ready (rs := [2, 4, 6]) (by kernel_rfl) (by simp) ?_
        refine AllReadyH.cons (o := ⟨some 141, _, _, _, _, _⟩) rfl (fun K hK => ?_) (AllReadyH.cons (o := ⟨some 143, _, _, _, _, _⟩) rfl (fun K hK => ?_) (AllReadyH.cons (o := ⟨some 20, _, _, _, _, _⟩) rfl (fun K hK => ?_) (AllReadyH.nil)))
        · skip
          refine step_appG rfl _ _ 28 rfl w0.heap.size i0 (.agg #[.string ⟨#[]⟩, .string ⟨#[]⟩]) 32 Tryz.underlying28 hi0 hz0 hz1 hz2 rfl _ 0 (labs []) rfl own0.out A1 nL c1 (labs L) rfl (HRL.out _ hHeld) ?_ (by unfold maxLen; omega) (by omega) hHeld.size ?_
          · exact labs_one _
          intro v2 wn hown hg
          have hHn : w0.grownBy wn none := grown_new hHeld hg (fun k e => (own0.out.lt k e).1)
          have Own2 := Lib.hid hown
          refine hK.out _ _ hHn (fun _ => ?_)
          replace hHeld := hHn
          clear hHn hown hg own0
          obtain ⟨wc, rfl⟩ : ∃ x, x = wn := ⟨_, rfl⟩
          clear hK K
          try simp only [Act.put, List.setIfInBounds_toArray, List.set_cons_zero, List.set_cons_succ]
          refine wpAnyH_ready (rs := [4, 6]) (by kernel_rfl) (by simp) ?_
          refine AllReadyH.cons (o := ⟨some 143, _, _, _, _, _⟩) rfl (fun K hK => ?_) (AllReadyH.cons (o := ⟨some 20, _, _, _, _, _⟩) rfl (fun K hK => ?_) (AllReadyH.nil))
          · go_simp
            obtain ⟨wn, hwn, hd0, hk, hlt⟩ := new_row wc #[.string nm, .string vl] 33
            obtain ⟨gD, hgD⟩ : ∃ g, g = wc.heap.size := ⟨_, rfl⟩
            rw [← hwn, ← hgD]
            rw [← hgD] at hd0
            replace Own2 := Lib.hid (own_below Own2.out hk)
            have HD := Lib.hid hd0
            have hHn : w0.grownBy wn none := grown_new hHeld (grown_kept hk none) (fun k e => by cases e)
            refine hK.out _ _ hHn (fun _ => ?_)
            replace hHeld := hHn
            clear hHn hk hwn hd0 hgD hlt
            obtain ⟨wc, rfl⟩ : ∃ x, x = wn := ⟨_, rfl⟩
            clear hK K
            try simp only [Act.put, List.setIfInBounds_toArray, List.set_cons_zero, List.set_cons_succ]
            refine wpAnyH_ready (rs := [5, 6]) (by kernel_rfl) (by simp) ?_
            refine AllReadyH.cons (o := ⟨some 144, _, _, _, _, _⟩) rfl (fun K hK => ?_) (AllReadyH.cons (o := ⟨some 20, _, _, _, _, _⟩) rfl (fun K hK => ?_) (AllReadyH.nil))
            · skip
              refine step_appG rfl _ _ 28 rfl w0.heap.size i0 (.agg #[.string ⟨#[]⟩, .string ⟨#[]⟩]) 32 Tryz.underlying28 hi0 hz0 hz1 hz2 rfl v2 (0 + nL) (labs [] ++ labs L) rfl Own2.out (some ⟨gD, 0, none⟩) 1 1 [.string nm, .string vl] rfl (rd_two HD.out) ?_ (by unfold maxLen; omega) (by omega) hHeld.size ?_
              · intro u hu; simp at hu; rcases hu with rfl | rfl <;> rfl
              intro v5 wn hown hg
              have hHn : w0.grownBy wn none := grown_new hHeld hg (fun k e => (Own2.out.lt k e).1)
              have Own5 := Lib.hid hown
              refine hK.out _ _ hHn (fun _ => ?_)
              replace hHeld := hHn
              clear hHn hown hg Own2 HD
              obtain ⟨wc, rfl⟩ : ∃ x, x = wn := ⟨_, rfl⟩
              clear hK K
              try simp only [Act.put, List.setIfInBounds_toArray, List.set_cons_zero, List.set_cons_succ]
              refine wpAnyH_ready (rs := [6]) (by kernel_rfl) (by simp) ?_
              refine AllReadyH.cons (o := ⟨some 20, _, _, _, _, _⟩) rfl (fun K hK => ?_) (AllReadyH.nil)
              · go_simp
                obtain ⟨wn, hwn, hd0, hk, hlt⟩ := new_row wc #[.slice none 0 0] 28
                obtain ⟨g20, hg20⟩ : ∃ g, g = wc.heap.size := ⟨_, rfl⟩
                rw [← hwn, ← hg20]
                rw [← hg20] at hd0
                have hge20 : w0.heap.size ≤ g20 := by rw [hg20]; exact hHeld.size
                replace Own5 := Lib.hid (own_below Own5.out hk)
                have hA := Lib.hid hd0
                have hHn : w0.grownBy wn none := grown_new hHeld (grown_kept hk none) (fun k e => by cases e)
                refine hK.out _ _ hHn (fun _ => ?_)
                replace hHeld := hHn
                clear hHn hk hwn hd0 hg20 hlt
                obtain ⟨wc, rfl⟩ : ∃ x, x = wn := ⟨_, rfl⟩
                clear hK K
                try simp only [Act.put, List.setIfInBounds_toArray, List.set_cons_zero, List.set_cons_succ]
                refine wpAnyH_ready (rs := [7]) (by kernel_rfl) (by simp) ?_
                refine AllReadyH.cons (o := ⟨none, _, _, _, _, _⟩) rfl (fun K hK => ?_) (AllReadyH.nil)
                · have d0 : wc.cell? ⟨g20, 0, none⟩ = some (.slice none 0 0) := cell_of_row _ g20 0 _ _ _ hA.out
                  have f0 : ∀ j, wc.frozen? ⟨g20, j, none⟩ = false := fun j => by simp [World.frozen?, hA.out]
                  obtain ⟨A20, c20, hv5, _, hr5⟩ := own_rd Own5.out
                  have hn5 := own_ne Own5.out hA.out (by decide)
                  have e5 : 0 + nL + 1 = nL + 1 := by omega
                  rw [e5] at hv5 hr5
                  clear Own5
                  subst hv5
                  have hgs := grown_set wc g20 0 (.slice A20 (nL + 1) c20)
                  have R20 := Lib.hid (rd_grown hr5 hgs (fun ad e e2 => hn5 (by rw [e]; exact e2.symm)) hgs.size)
                  have hA2 := Lib.hid (heap_setCell_same wc g20 0 _ _ (.slice A20 (nL + 1) c20) hA.out)
                  have hHn : w0.grownBy _ none := grown_new hHeld hgs (fun k e => by injection e with e; omega)
                  clear e5 hr5 hn5 hgs
                  go_simp
                  refine hK.out _ _ hHn (fun _ => ?_)
                  clear d0 f0 hA
                  clear hK K
                  try simp only [Act.put, List.setIfInBounds_toArray, List.set_cons_zero, List.set_cons_succ]
                  refine wpAnyH_done (by kernel_rfl) ?_ _
                  go_wp2_with fail
                  go_meet
                  exact ⟨g20, A20, c20, rfl, hA2, R20, Hfin.out _ (grown_keptN hHn)⟩
            · go_simp
              obtain ⟨wn, hwn, hd0, hk, hlt⟩ := new_row wc #[.slice none 0 0] 28
              obtain ⟨g20, hg20⟩ : ∃ g, g = wc.heap.size := ⟨_, rfl⟩
              rw [← hwn, ← hg20]
              rw [← hg20] at hd0
              have hge20 : w0.heap.size ≤ g20 := by rw [hg20]; exact hHeld.size
              replace Own2 := Lib.hid (own_below Own2.out hk)
              replace HD := Lib.hid (heap_kept hk HD.out)
              have hA := Lib.hid hd0
              have hHn : w0.grownBy wn none := grown_new hHeld (grown_kept hk none) (fun k e => by cases e)
              refine hK.out _ _ hHn (fun _ => ?_)
              replace hHeld := hHn
              clear hHn hk hwn hd0 hg20 hlt
              obtain ⟨wc, rfl⟩ : ∃ x, x = wn := ⟨_, rfl⟩
              clear hK K
              try simp only [Act.put, List.setIfInBounds_toArray, List.set_cons_zero, List.set_cons_succ]
              refine wpAnyH_ready (rs := [5]) (by kernel_rfl) (by simp) ?_
              refine AllReadyH.cons (o := ⟨some 144, _, _, _, _, _⟩) rfl (fun K hK => ?_) (AllReadyH.nil)
              · skip
                refine step_appG rfl _ _ 28 rfl w0.heap.size i0 (.agg #[.string ⟨#[]⟩, .string ⟨#[]⟩]) 32 Tryz.underlying28 hi0 hz0 hz1 hz2 rfl v2 (0 + nL) (labs [] ++ labs L) rfl Own2.out (some ⟨gD, 0, none⟩) 1 1 [.string nm, .string vl] rfl (rd_two HD.out) ?_ (by unfold maxLen; omega) (by omega) hHeld.size ?_
                · intro u hu; simp at hu; rcases hu with rfl | rfl <;> rfl
                intro v5 wn hown hg
                have hHn : w0.grownBy wn none := grown_new hHeld hg (fun k e => (Own2.out.lt k e).1)
                have Own5 := Lib.hid hown
                replace hA := Lib.hid ((hg.block g20 (heap_lt hA.out) (own_ne Own2.out hA.out (by decide))).trans hA.out)
                refine hK.out _ _ hHn (fun _ => ?_)
                replace hHeld := hHn
                clear hHn hown hg Own2 HD
                obtain ⟨wc, rfl⟩ : ∃ x, x = wn := ⟨_, rfl⟩
                clear hK K
                try simp only [Act.put, List.setIfInBounds_toArray, List.set_cons_zero, List.set_cons_succ]
                refine wpAnyH_ready (rs := [7]) (by kernel_rfl) (by simp) ?_
                refine AllReadyH.cons (o := ⟨none, _, _, _, _, _⟩) rfl (fun K hK => ?_) (AllReadyH.nil)
                · have d0 : wc.cell? ⟨g20, 0, none⟩ = some (.slice none 0 0) := cell_of_row _ g20 0 _ _ _ hA.out
                  have f0 : ∀ j, wc.frozen? ⟨g20, j, none⟩ = false := fun j => by simp [World.frozen?, hA.out]
                  obtain ⟨A20, c20, hv5, _, hr5⟩ := own_rd Own5.out
                  have hn5 := own_ne Own5.out hA.out (by decide)
                  have e5 : 0 + nL + 1 = nL + 1 := by omega
                  rw [e5] at hv5 hr5
                  clear Own5
                  subst hv5
                  have hgs := grown_set wc g20 0 (.slice A20 (nL + 1) c20)
                  have R20 := Lib.hid (rd_grown hr5 hgs (fun ad e e2 => hn5 (by rw [e]; exact e2.symm)) hgs.size)
                  have hA2 := Lib.hid (heap_setCell_same wc g20 0 _ _ (.slice A20 (nL + 1) c20) hA.out)
                  have hHn : w0.grownBy _ none := grown_new hHeld hgs (fun k e => by injection e with e; omega)
                  clear e5 hr5 hn5 hgs
                  go_simp
                  refine hK.out _ _ hHn (fun _ => ?_)
                  clear d0 f0 hA
                  clear hK K
                  try simp only [Act.put, List.setIfInBounds_toArray, List.set_cons_zero, List.set_cons_succ]
                  refine wpAnyH_done (by kernel_rfl) ?_ _
                  go_wp2_with fail
                  go_meet
                  exact ⟨g20, A20, c20, rfl, hA2, R20, Hfin.out _ (grown_keptN hHn)⟩
          · go_simp
            obtain ⟨wn, hwn, hd0, hk, hlt⟩ := new_row wc #[.slice none 0 0] 28
            obtain ⟨g20, hg20⟩ : ∃ g, g = wc.heap.size := ⟨_, rfl⟩
            rw [← hwn, ← hg20]
            rw [← hg20] at hd0
            have hge20 : w0.heap.size ≤ g20 := by rw [hg20]; exact hHeld.size
            replace Own2 := Lib.hid (own_below Own2.out hk)
            have hA := Lib.hid hd0
            have hHn : w0.grownBy wn none := grown_new hHeld (grown_kept hk none) (fun k e => by cases e)
            refine hK.out _ _ hHn (fun _ => ?_)
            replace hHeld := hHn
            clear hHn hk hwn hd0 hg20 hlt
            obtain ⟨wc, rfl⟩ : ∃ x, x = wn := ⟨_, rfl⟩
            clear hK K
            try simp only [Act.put, List.setIfInBounds_toArray, List.set_cons_zero, List.set_cons_succ]
            refine wpAnyH_ready (rs := [4]) (by kernel_rfl) (by simp) ?_
            refine AllReadyH.cons (o := ⟨some 143, _, _, _, _, _⟩) rfl (fun K hK => ?_) (AllReadyH.nil)
            · go_simp
              obtain ⟨wn, hwn, hd0, hk, hlt⟩ := new_row wc #[.string nm, .string vl] 33
              obtain ⟨gD, hgD⟩ : ∃ g, g = wc.heap.size := ⟨_, rfl⟩
              rw [← hwn, ← hgD]
              rw [← hgD] at hd0
              replace Own2 := Lib.hid (own_below Own2.out hk)
              replace hA := Lib.hid (heap_kept hk hA.out)
              have HD := Lib.hid hd0
              have hHn : w0.grownBy wn none := grown_new hHeld (grown_kept hk none) (fun k e => by cases e)
              refine hK.out _ _ hHn (fun _ => ?_)
              replace hHeld := hHn
              clear hHn hk hwn hd0 hgD hlt
              obtain ⟨wc, rfl⟩ : ∃ x, x = wn := ⟨_, rfl⟩
              clear hK K
              try simp only [Act.put, List.setIfInBounds_toArray, List.set_cons_zero, List.set_cons_succ]
              refine wpAnyH_ready (rs := [5]) (by kernel_rfl) (by simp) ?_
              refine AllReadyH.cons (o := ⟨some 144, _, _, _, _, _⟩) rfl (fun K hK => ?_) (AllReadyH.nil)
              · skip
                refine step_appG rfl _ _ 28 rfl w0.heap.size i0 (.agg #[.string ⟨#[]⟩, .string ⟨#[]⟩]) 32 Tryz.underlying28 hi0 hz0 hz1 hz2 rfl v2 (0 + nL) (labs [] ++ labs L) rfl Own2.out (some ⟨gD, 0, none⟩) 1 1 [.string nm, .string vl] rfl (rd_two HD.out) ?_ (by unfold maxLen; omega) (by omega) hHeld.size ?_
                · intro u hu; simp at hu; rcases hu with rfl | rfl <;> rfl
                intro v5 wn hown hg
                have hHn : w0.grownBy wn none := grown_new hHeld hg (fun k e => (Own2.out.lt k e).1)
                have Own5 := Lib.hid hown
                replace hA := Lib.hid ((hg.block g20 (heap_lt hA.out) (own_ne Own2.out hA.out (by decide))).trans hA.out)
                refine hK.out _ _ hHn (fun _ => ?_)
                replace hHeld := hHn
                clear hHn hown hg Own2 HD
                obtain ⟨wc, rfl⟩ : ∃ x, x = wn := ⟨_, rfl⟩
                clear hK K
                try simp only [Act.put, List.setIfInBounds_toArray, List.set_cons_zero, List.set_cons_succ]
                refine wpAnyH_ready (rs := [7]) (by kernel_rfl) (by simp) ?_
                refine AllReadyH.cons (o := ⟨none, _, _, _, _, _⟩) rfl (fun K hK => ?_) (AllReadyH.nil)
                · have d0 : wc.cell? ⟨g20, 0, none⟩ = some (.slice none 0 0) := cell_of_row _ g20 0 _ _ _ hA.out
                  have f0 : ∀ j, wc.frozen? ⟨g20, j, none⟩ = false := fun j => by simp [World.frozen?, hA.out]
                  obtain ⟨A20, c20, hv5, _, hr5⟩ := own_rd Own5.out
                  have hn5 := own_ne Own5.out hA.out (by decide)
                  have e5 : 0 + nL + 1 = nL + 1 := by omega
                  rw [e5] at hv5 hr5
                  clear Own5
                  subst hv5
                  have hgs := grown_set wc g20 0 (.slice A20 (nL + 1) c20)
                  have R20 := Lib.hid (rd_grown hr5 hgs (fun ad e e2 => hn5 (by rw [e]; exact e2.symm)) hgs.size)
                  have hA2 := Lib.hid (heap_setCell_same wc g20 0 _ _ (.slice A20 (nL + 1) c20) hA.out)
                  have hHn : w0.grownBy _ none := grown_new hHeld hgs (fun k e => by injection e with e; omega)
                  clear e5 hr5 hn5 hgs
                  go_simp
                  refine hK.out _ _ hHn (fun _ => ?_)
                  clear d0 f0 hA
                  clear hK K
                  try simp only [Act.put, List.setIfInBounds_toArray, List.set_cons_zero, List.set_cons_succ]
                  refine wpAnyH_done (by kernel_rfl) ?_ _
                  go_wp2_with fail
                  go_meet
                  exact ⟨g20, A20, c20, rfl, hA2, R20, Hfin.out _ (grown_keptN hHn)⟩
        · go_simp
          obtain ⟨wn, hwn, hd0, hk, hlt⟩ := new_row wc #[.string nm, .string vl] 33
          obtain ⟨gD, hgD⟩ : ∃ g, g = wc.heap.size := ⟨_, rfl⟩
          rw [← hwn, ← hgD]
          rw [← hgD] at hd0
          have hnD : gD ≠ g0 := by have := (own0.out.lt g0 rfl).2; omega
          replace own0 := Lib.hid (own_below own0.out hk)
          have HD := Lib.hid hd0
          have hHn : w0.grownBy wn none := grown_new hHeld (grown_kept hk none) (fun k e => by cases e)
          refine hK.out _ _ hHn (fun _ => ?_)
          replace hHeld := hHn
          clear hHn hk hwn hd0 hgD hlt
          obtain ⟨wc, rfl⟩ : ∃ x, x = wn := ⟨_, rfl⟩
          clear hK K
          try simp only [Act.put, List.setIfInBounds_toArray, List.set_cons_zero, List.set_cons_succ]
          refine wpAnyH_ready (rs := [2, 6]) (by kernel_rfl) (by simp) ?_
          refine AllReadyH.cons (o := ⟨some 141, _, _, _, _, _⟩) rfl (fun K hK => ?_) (AllReadyH.cons (o := ⟨some 20, _, _, _, _, _⟩) rfl (fun K hK => ?_) (AllReadyH.nil))
          · skip
            refine step_appG rfl _ _ 28 rfl w0.heap.size i0 (.agg #[.string ⟨#[]⟩, .string ⟨#[]⟩]) 32 Tryz.underlying28 hi0 hz0 hz1 hz2 rfl _ 0 (labs []) rfl own0.out A1 nL c1 (labs L) rfl (HRL.out _ hHeld) ?_ (by unfold maxLen; omega) (by omega) hHeld.size ?_
            · exact labs_one _
            intro v2 wn hown hg
            have hHn : w0.grownBy wn none := grown_new hHeld hg (fun k e => (own0.out.lt k e).1)
            have Own2 := Lib.hid hown
            replace HD := Lib.hid ((hg.block gD (heap_lt HD.out) (fun e => hnD (by injection e))).trans HD.out)
            refine hK.out _ _ hHn (fun _ => ?_)
            replace hHeld := hHn
            clear hHn hown hg own0
            obtain ⟨wc, rfl⟩ : ∃ x, x = wn := ⟨_, rfl⟩
            clear hK K
            try simp only [Act.put, List.setIfInBounds_toArray, List.set_cons_zero, List.set_cons_succ]
            refine wpAnyH_ready (rs := [5, 6]) (by kernel_rfl) (by simp) ?_
            refine AllReadyH.cons (o := ⟨some 144, _, _, _, _, _⟩) rfl (fun K hK => ?_) (AllReadyH.cons (o := ⟨some 20, _, _, _, _, _⟩) rfl (fun K hK => ?_) (AllReadyH.nil))
            · skip
              refine step_appG rfl _ _ 28 rfl w0.heap.size i0 (.agg #[.string ⟨#[]⟩, .string ⟨#[]⟩]) 32 Tryz.underlying28 hi0 hz0 hz1 hz2 rfl v2 (0 + nL) (labs [] ++ labs L) rfl Own2.out (some ⟨gD, 0, none⟩) 1 1 [.string nm, .string vl] rfl (rd_two HD.out) ?_ (by unfold maxLen; omega) (by omega) hHeld.size ?_
              · intro u hu; simp at hu; rcases hu with rfl | rfl <;> rfl
              intro v5 wn hown hg
              have hHn : w0.grownBy wn none := grown_new hHeld hg (fun k e => (Own2.out.lt k e).1)
              have Own5 := Lib.hid hown
              refine hK.out _ _ hHn (fun _ => ?_)
              replace hHeld := hHn
              clear hHn hown hg Own2 HD
              obtain ⟨wc, rfl⟩ : ∃ x, x = wn := ⟨_, rfl⟩
              clear hK K
              try simp only [Act.put, List.setIfInBounds_toArray, List.set_cons_zero, List.set_cons_succ]
              refine wpAnyH_ready (rs := [6]) (by kernel_rfl) (by simp) ?_
              refine AllReadyH.cons (o := ⟨some 20, _, _, _, _, _⟩) rfl (fun K hK => ?_) (AllReadyH.nil)
              · go_simp
                obtain ⟨wn, hwn, hd0, hk, hlt⟩ := new_row wc #[.slice none 0 0] 28
                obtain ⟨g20, hg20⟩ : ∃ g, g = wc.heap.size := ⟨_, rfl⟩
                rw [← hwn, ← hg20]
                rw [← hg20] at hd0
                have hge20 : w0.heap.size ≤ g20 := by rw [hg20]; exact hHeld.size
                replace Own5 := Lib.hid (own_below Own5.out hk)
                have hA := Lib.hid hd0
                have hHn : w0.grownBy wn none := grown_new hHeld (grown_kept hk none) (fun k e => by cases e)
                refine hK.out _ _ hHn (fun _ => ?_)
                replace hHeld := hHn
                clear hHn hk hwn hd0 hg20 hlt
                obtain ⟨wc, rfl⟩ : ∃ x, x = wn := ⟨_, rfl⟩
                clear hK K
                try simp only [Act.put, List.setIfInBounds_toArray, List.set_cons_zero, List.set_cons_succ]
                refine wpAnyH_ready (rs := [7]) (by kernel_rfl) (by simp) ?_
                refine AllReadyH.cons (o := ⟨none, _, _, _, _, _⟩) rfl (fun K hK => ?_) (AllReadyH.nil)
                · have d0 : wc.cell? ⟨g20, 0, none⟩ = some (.slice none 0 0) := cell_of_row _ g20 0 _ _ _ hA.out
                  have f0 : ∀ j, wc.frozen? ⟨g20, j, none⟩ = false := fun j => by simp [World.frozen?, hA.out]
                  obtain ⟨A20, c20, hv5, _, hr5⟩ := own_rd Own5.out
                  have hn5 := own_ne Own5.out hA.out (by decide)
                  have e5 : 0 + nL + 1 = nL + 1 := by omega
                  rw [e5] at hv5 hr5
                  clear Own5
                  subst hv5
                  have hgs := grown_set wc g20 0 (.slice A20 (nL + 1) c20)
                  have R20 := Lib.hid (rd_grown hr5 hgs (fun ad e e2 => hn5 (by rw [e]; exact e2.symm)) hgs.size)
                  have hA2 := Lib.hid (heap_setCell_same wc g20 0 _ _ (.slice A20 (nL + 1) c20) hA.out)
                  have hHn : w0.grownBy _ none := grown_new hHeld hgs (fun k e => by injection e with e; omega)
                  clear e5 hr5 hn5 hgs
                  go_simp
                  refine hK.out _ _ hHn (fun _ => ?_)
                  clear d0 f0 hA
                  clear hK K
                  try simp only [Act.put, List.setIfInBounds_toArray, List.set_cons_zero, List.set_cons_succ]
                  refine wpAnyH_done (by kernel_rfl) ?_ _
                  go_wp2_with fail
                  go_meet
                  exact ⟨g20, A20, c20, rfl, hA2, R20, Hfin.out _ (grown_keptN hHn)⟩
            · go_simp
              obtain ⟨wn, hwn, hd0, hk, hlt⟩ := new_row wc #[.slice none 0 0] 28
              obtain ⟨g20, hg20⟩ : ∃ g, g = wc.heap.size := ⟨_, rfl⟩
              rw [← hwn, ← hg20]
              rw [← hg20] at hd0
              have hge20 : w0.heap.size ≤ g20 := by rw [hg20]; exact hHeld.size
              replace Own2 := Lib.hid (own_below Own2.out hk)
              replace HD := Lib.hid (heap_kept hk HD.out)
              have hA := Lib.hid hd0
              have hHn : w0.grownBy wn none := grown_new hHeld (grown_kept hk none) (fun k e => by cases e)
              refine hK.out _ _ hHn (fun _ => ?_)
              replace hHeld := hHn
              clear hHn hk hwn hd0 hg20 hlt
              obtain ⟨wc, rfl⟩ : ∃ x, x = wn := ⟨_, rfl⟩
              clear hK K
              try simp only [Act.put, List.setIfInBounds_toArray, List.set_cons_zero, List.set_cons_succ]
              refine wpAnyH_ready (rs := [5]) (by kernel_rfl) (by simp) ?_
              refine AllReadyH.cons (o := ⟨some 144, _, _, _, _, _⟩) rfl (fun K hK => ?_) (AllReadyH.nil)
              · skip
                refine step_appG rfl _ _ 28 rfl w0.heap.size i0 (.agg #[.string ⟨#[]⟩, .string ⟨#[]⟩]) 32 Tryz.underlying28 hi0 hz0 hz1 hz2 rfl v2 (0 + nL) (labs [] ++ labs L) rfl Own2.out (some ⟨gD, 0, none⟩) 1 1 [.string nm, .string vl] rfl (rd_two HD.out) ?_ (by unfold maxLen; omega) (by omega) hHeld.size ?_
                · intro u hu; simp at hu; rcases hu with rfl | rfl <;> rfl
                intro v5 wn hown hg
                have hHn : w0.grownBy wn none := grown_new hHeld hg (fun k e => (Own2.out.lt k e).1)
                have Own5 := Lib.hid hown
                replace hA := Lib.hid ((hg.block g20 (heap_lt hA.out) (own_ne Own2.out hA.out (by decide))).trans hA.out)
                refine hK.out _ _ hHn (fun _ => ?_)
                replace hHeld := hHn
                clear hHn hown hg Own2 HD
                obtain ⟨wc, rfl⟩ : ∃ x, x = wn := ⟨_, rfl⟩
                clear hK K
                try simp only [Act.put, List.setIfInBounds_toArray, List.set_cons_zero, List.set_cons_succ]
                refine wpAnyH_ready (rs := [7]) (by kernel_rfl) (by simp) ?_
                refine AllReadyH.cons (o := ⟨none, _, _, _, _, _⟩) rfl (fun K hK => ?_) (AllReadyH.nil)
                · have d0 : wc.cell? ⟨g20, 0, none⟩ = some (.slice none 0 0) := cell_of_row _ g20 0 _ _ _ hA.out
                  have f0 : ∀ j, wc.frozen? ⟨g20, j, none⟩ = false := fun j => by simp [World.frozen?, hA.out]
                  obtain ⟨A20, c20, hv5, _, hr5⟩ := own_rd Own5.out
                  have hn5 := own_ne Own5.out hA.out (by decide)
                  have e5 : 0 + nL + 1 = nL + 1 := by omega
                  rw [e5] at hv5 hr5
                  clear Own5
                  subst hv5
                  have hgs := grown_set wc g20 0 (.slice A20 (nL + 1) c20)
                  have R20 := Lib.hid (rd_grown hr5 hgs (fun ad e e2 => hn5 (by rw [e]; exact e2.symm)) hgs.size)
                  have hA2 := Lib.hid (heap_setCell_same wc g20 0 _ _ (.slice A20 (nL + 1) c20) hA.out)
                  have hHn : w0.grownBy _ none := grown_new hHeld hgs (fun k e => by injection e with e; omega)
                  clear e5 hr5 hn5 hgs
                  go_simp
                  refine hK.out _ _ hHn (fun _ => ?_)
                  clear d0 f0 hA
                  clear hK K
                  try simp only [Act.put, List.setIfInBounds_toArray, List.set_cons_zero, List.set_cons_succ]
                  refine wpAnyH_done (by kernel_rfl) ?_ _
                  go_wp2_with fail
                  go_meet
                  exact ⟨g20, A20, c20, rfl, hA2, R20, Hfin.out _ (grown_keptN hHn)⟩
          · go_simp
            obtain ⟨wn, hwn, hd0, hk, hlt⟩ := new_row wc #[.slice none 0 0] 28
            obtain ⟨g20, hg20⟩ : ∃ g, g = wc.heap.size := ⟨_, rfl⟩
            rw [← hwn, ← hg20]
            rw [← hg20] at hd0
            have hge20 : w0.heap.size ≤ g20 := by rw [hg20]; exact hHeld.size
            replace own0 := Lib.hid (own_below own0.out hk)
            replace HD := Lib.hid (heap_kept hk HD.out)
            have hA := Lib.hid hd0
            have hHn : w0.grownBy wn none := grown_new hHeld (grown_kept hk none) (fun k e => by cases e)
            refine hK.out _ _ hHn (fun _ => ?_)
            replace hHeld := hHn
            clear hHn hk hwn hd0 hg20 hlt
            obtain ⟨wc, rfl⟩ : ∃ x, x = wn := ⟨_, rfl⟩
            clear hK K
            try simp only [Act.put, List.setIfInBounds_toArray, List.set_cons_zero, List.set_cons_succ]
            refine wpAnyH_ready (rs := [2]) (by kernel_rfl) (by simp) ?_
            refine AllReadyH.cons (o := ⟨some 141, _, _, _, _, _⟩) rfl (fun K hK => ?_) (AllReadyH.nil)
            · skip
              refine step_appG rfl _ _ 28 rfl w0.heap.size i0 (.agg #[.string ⟨#[]⟩, .string ⟨#[]⟩]) 32 Tryz.underlying28 hi0 hz0 hz1 hz2 rfl _ 0 (labs []) rfl own0.out A1 nL c1 (labs L) rfl (HRL.out _ hHeld) ?_ (by unfold maxLen; omega) (by omega) hHeld.size ?_
              · exact labs_one _
              intro v2 wn hown hg
              have hHn : w0.grownBy wn none := grown_new hHeld hg (fun k e => (own0.out.lt k e).1)
              have Own2 := Lib.hid hown
              replace HD := Lib.hid ((hg.block gD (heap_lt HD.out) (fun e => hnD (by injection e))).trans HD.out)
              replace hA := Lib.hid ((hg.block g20 (heap_lt hA.out) (own_ne own0.out hA.out (by decide))).trans hA.out)
              refine hK.out _ _ hHn (fun _ => ?_)
              replace hHeld := hHn
              clear hHn hown hg own0
              obtain ⟨wc, rfl⟩ : ∃ x, x = wn := ⟨_, rfl⟩
              clear hK K
              try simp only [Act.put, List.setIfInBounds_toArray, List.set_cons_zero, List.set_cons_succ]
              refine wpAnyH_ready (rs := [5]) (by kernel_rfl) (by simp) ?_
              refine AllReadyH.cons (o := ⟨some 144, _, _, _, _, _⟩) rfl (fun K hK => ?_) (AllReadyH.nil)
              · skip
                refine step_appG rfl _ _ 28 rfl w0.heap.size i0 (.agg #[.string ⟨#[]⟩, .string ⟨#[]⟩]) 32 Tryz.underlying28 hi0 hz0 hz1 hz2 rfl v2 (0 + nL) (labs [] ++ labs L) rfl Own2.out (some ⟨gD, 0, none⟩) 1 1 [.string nm, .string vl] rfl (rd_two HD.out) ?_ (by unfold maxLen; omega) (by omega) hHeld.size ?_
                · intro u hu; simp at hu; rcases hu with rfl | rfl <;> rfl
                intro v5 wn hown hg
                have hHn : w0.grownBy wn none := grown_new hHeld hg (fun k e => (Own2.out.lt k e).1)
                have Own5 := Lib.hid hown
                replace hA := Lib.hid ((hg.block g20 (heap_lt hA.out) (own_ne Own2.out hA.out (by decide))).trans hA.out)
                refine hK.out _ _ hHn (fun _ => ?_)
                replace hHeld := hHn
                clear hHn hown hg Own2 HD
                obtain ⟨wc, rfl⟩ : ∃ x, x = wn := ⟨_, rfl⟩
                clear hK K
                try simp only [Act.put, List.setIfInBounds_toArray, List.set_cons_zero, List.set_cons_succ]
                refine wpAnyH_ready (rs := [7]) (by kernel_rfl) (by simp) ?_
                refine AllReadyH.cons (o := ⟨none, _, _, _, _, _⟩) rfl (fun K hK => ?_) (AllReadyH.nil)
                · have d0 : wc.cell? ⟨g20, 0, none⟩ = some (.slice none 0 0) := cell_of_row _ g20 0 _ _ _ hA.out
                  have f0 : ∀ j, wc.frozen? ⟨g20, j, none⟩ = false := fun j => by simp [World.frozen?, hA.out]
                  obtain ⟨A20, c20, hv5, _, hr5⟩ := own_rd Own5.out
                  have hn5 := own_ne Own5.out hA.out (by decide)
                  have e5 : 0 + nL + 1 = nL + 1 := by omega
                  rw [e5] at hv5 hr5
                  clear Own5
                  subst hv5
                  have hgs := grown_set wc g20 0 (.slice A20 (nL + 1) c20)
                  have R20 := Lib.hid (rd_grown hr5 hgs (fun ad e e2 => hn5 (by rw [e]; exact e2.symm)) hgs.size)
                  have hA2 := Lib.hid (heap_setCell_same wc g20 0 _ _ (.slice A20 (nL + 1) c20) hA.out)
                  have hHn : w0.grownBy _ none := grown_new hHeld hgs (fun k e => by injection e with e; omega)
                  clear e5 hr5 hn5 hgs
                  go_simp
                  refine hK.out _ _ hHn (fun _ => ?_)
                  clear d0 f0 hA
                  clear hK K
                  try simp only [Act.put, List.setIfInBounds_toArray, List.set_cons_zero, List.set_cons_succ]
                  refine wpAnyH_done (by kernel_rfl) ?_ _
                  go_wp2_with fail
                  go_meet
                  exact ⟨g20, A20, c20, rfl, hA2, R20, Hfin.out _ (grown_keptN hHn)⟩
        · go_simp
          obtain ⟨wn, hwn, hd0, hk, hlt⟩ := new_row wc #[.slice none 0 0] 28
          obtain ⟨g20, hg20⟩ : ∃ g, g = wc.heap.size := ⟨_, rfl⟩
          rw [← hwn, ← hg20]
          rw [← hg20] at hd0
          have hge20 : w0.heap.size ≤ g20 := by rw [hg20]; exact hHeld.size
          replace own0 := Lib.hid (own_below own0.out hk)
          have hA := Lib.hid hd0
          have hHn : w0.grownBy wn none := grown_new hHeld (grown_kept hk none) (fun k e => by cases e)
          refine hK.out _ _ hHn (fun _ => ?_)
          replace hHeld := hHn
          clear hHn hk hwn hd0 hg20 hlt
          obtain ⟨wc, rfl⟩ : ∃ x, x = wn := ⟨_, rfl⟩
          clear hK K
          try simp only [Act.put, List.setIfInBounds_toArray, List.set_cons_zero, List.set_cons_succ]
          refine wpAnyH_ready (rs := [2, 4]) (by kernel_rfl) (by simp) ?_
          refine AllReadyH.cons (o := ⟨some 141, _, _, _, _, _⟩) rfl (fun K hK => ?_) (AllReadyH.cons (o := ⟨some 143, _, _, _, _, _⟩) rfl (fun K hK => ?_) (AllReadyH.nil))
          · skip
            refine step_appG rfl _ _ 28 rfl w0.heap.size i0 (.agg #[.string ⟨#[]⟩, .string ⟨#[]⟩]) 32 Tryz.underlying28 hi0 hz0 hz1 hz2 rfl _ 0 (labs []) rfl own0.out A1 nL c1 (labs L) rfl (HRL.out _ hHeld) ?_ (by unfold maxLen; omega) (by omega) hHeld.size ?_
            · exact labs_one _
            intro v2 wn hown hg
            have hHn : w0.grownBy wn none := grown_new hHeld hg (fun k e => (own0.out.lt k e).1)
            have Own2 := Lib.hid hown
            replace hA := Lib.hid ((hg.block g20 (heap_lt hA.out) (own_ne own0.out hA.out (by decide))).trans hA.out)
            refine hK.out _ _ hHn (fun _ => ?_)
            replace hHeld := hHn
            clear hHn hown hg own0
            obtain ⟨wc, rfl⟩ : ∃ x, x = wn := ⟨_, rfl⟩
            clear hK K
            try simp only [Act.put, List.setIfInBounds_toArray, List.set_cons_zero, List.set_cons_succ]
            refine wpAnyH_ready (rs := [4]) (by kernel_rfl) (by simp) ?_
            refine AllReadyH.cons (o := ⟨some 143, _, _, _, _, _⟩) rfl (fun K hK => ?_) (AllReadyH.nil)
            · go_simp
              obtain ⟨wn, hwn, hd0, hk, hlt⟩ := new_row wc #[.string nm, .string vl] 33
              obtain ⟨gD, hgD⟩ : ∃ g, g = wc.heap.size := ⟨_, rfl⟩
              rw [← hwn, ← hgD]
              rw [← hgD] at hd0
              replace Own2 := Lib.hid (own_below Own2.out hk)
              replace hA := Lib.hid (heap_kept hk hA.out)
              have HD := Lib.hid hd0
              have hHn : w0.grownBy wn none := grown_new hHeld (grown_kept hk none) (fun k e => by cases e)
              refine hK.out _ _ hHn (fun _ => ?_)
              replace hHeld := hHn
              clear hHn hk hwn hd0 hgD hlt
              obtain ⟨wc, rfl⟩ : ∃ x, x = wn := ⟨_, rfl⟩
              clear hK K
              try simp only [Act.put, List.setIfInBounds_toArray, List.set_cons_zero, List.set_cons_succ]
              refine wpAnyH_ready (rs := [5]) (by kernel_rfl) (by simp) ?_
              refine AllReadyH.cons (o := ⟨some 144, _, _, _, _, _⟩) rfl (fun K hK => ?_) (AllReadyH.nil)
              · skip
                refine step_appG rfl _ _ 28 rfl w0.heap.size i0 (.agg #[.string ⟨#[]⟩, .string ⟨#[]⟩]) 32 Tryz.underlying28 hi0 hz0 hz1 hz2 rfl v2 (0 + nL) (labs [] ++ labs L) rfl Own2.out (some ⟨gD, 0, none⟩) 1 1 [.string nm, .string vl] rfl (rd_two HD.out) ?_ (by unfold maxLen; omega) (by omega) hHeld.size ?_
                · intro u hu; simp at hu; rcases hu with rfl | rfl <;> rfl
                intro v5 wn hown hg
                have hHn : w0.grownBy wn none := grown_new hHeld hg (fun k e => (Own2.out.lt k e).1)
                have Own5 := Lib.hid hown
                replace hA := Lib.hid ((hg.block g20 (heap_lt hA.out) (own_ne Own2.out hA.out (by decide))).trans hA.out)
                refine hK.out _ _ hHn (fun _ => ?_)
                replace hHeld := hHn
                clear hHn hown hg Own2 HD
                obtain ⟨wc, rfl⟩ : ∃ x, x = wn := ⟨_, rfl⟩
                clear hK K
                try simp only [Act.put, List.setIfInBounds_toArray, List.set_cons_zero, List.set_cons_succ]
                refine wpAnyH_ready (rs := [7]) (by kernel_rfl) (by simp) ?_
                refine AllReadyH.cons (o := ⟨none, _, _, _, _, _⟩) rfl (fun K hK => ?_) (AllReadyH.nil)
                · have d0 : wc.cell? ⟨g20, 0, none⟩ = some (.slice none 0 0) := cell_of_row _ g20 0 _ _ _ hA.out
                  have f0 : ∀ j, wc.frozen? ⟨g20, j, none⟩ = false := fun j => by simp [World.frozen?, hA.out]
                  obtain ⟨A20, c20, hv5, _, hr5⟩ := own_rd Own5.out
                  have hn5 := own_ne Own5.out hA.out (by decide)
                  have e5 : 0 + nL + 1 = nL + 1 := by omega
                  rw [e5] at hv5 hr5
                  clear Own5
                  subst hv5
                  have hgs := grown_set wc g20 0 (.slice A20 (nL + 1) c20)
                  have R20 := Lib.hid (rd_grown hr5 hgs (fun ad e e2 => hn5 (by rw [e]; exact e2.symm)) hgs.size)
                  have hA2 := Lib.hid (heap_setCell_same wc g20 0 _ _ (.slice A20 (nL + 1) c20) hA.out)
                  have hHn : w0.grownBy _ none := grown_new hHeld hgs (fun k e => by injection e with e; omega)
                  clear e5 hr5 hn5 hgs
                  go_simp
                  refine hK.out _ _ hHn (fun _ => ?_)
                  clear d0 f0 hA
                  clear hK K
                  try simp only [Act.put, List.setIfInBounds_toArray, List.set_cons_zero, List.set_cons_succ]
                  refine wpAnyH_done (by kernel_rfl) ?_ _
                  go_wp2_with fail
                  go_meet
                  exact ⟨g20, A20, c20, rfl, hA2, R20, Hfin.out _ (grown_keptN hHn)⟩
          · go_simp
            obtain ⟨wn, hwn, hd0, hk, hlt⟩ := new_row wc #[.string nm, .string vl] 33
            obtain ⟨gD, hgD⟩ : ∃ g, g = wc.heap.size := ⟨_, rfl⟩
            rw [← hwn, ← hgD]
            rw [← hgD] at hd0
            have hnD : gD ≠ g0 := by have := (own0.out.lt g0 rfl).2; omega
            replace own0 := Lib.hid (own_below own0.out hk)
            replace hA := Lib.hid (heap_kept hk hA.out)
            have HD := Lib.hid hd0
            have hHn : w0.grownBy wn none := grown_new hHeld (grown_kept hk none) (fun k e => by cases e)
            refine hK.out _ _ hHn (fun _ => ?_)
            replace hHeld := hHn
            clear hHn hk hwn hd0 hgD hlt
            obtain ⟨wc, rfl⟩ : ∃ x, x = wn := ⟨_, rfl⟩
            clear hK K
            try simp only [Act.put, List.setIfInBounds_toArray, List.set_cons_zero, List.set_cons_succ]
            refine wpAnyH_ready (rs := [2]) (by kernel_rfl) (by simp) ?_
            refine AllReadyH.cons (o := ⟨some 141, _, _, _, _, _⟩) rfl (fun K hK => ?_) (AllReadyH.nil)
            · skip
              refine step_appG rfl _ _ 28 rfl w0.heap.size i0 (.agg #[.string ⟨#[]⟩, .string ⟨#[]⟩]) 32 Tryz.underlying28 hi0 hz0 hz1 hz2 rfl _ 0 (labs []) rfl own0.out A1 nL c1 (labs L) rfl (HRL.out _ hHeld) ?_ (by unfold maxLen; omega) (by omega) hHeld.size ?_
              · exact labs_one _
              intro v2 wn hown hg
              have hHn : w0.grownBy wn none := grown_new hHeld hg (fun k e => (own0.out.lt k e).1)
              have Own2 := Lib.hid hown
              replace HD := Lib.hid ((hg.block gD (heap_lt HD.out) (fun e => hnD (by injection e))).trans HD.out)
              replace hA := Lib.hid ((hg.block g20 (heap_lt hA.out) (own_ne own0.out hA.out (by decide))).trans hA.out)
              refine hK.out _ _ hHn (fun _ => ?_)
              replace hHeld := hHn
              clear hHn hown hg own0
              obtain ⟨wc, rfl⟩ : ∃ x, x = wn := ⟨_, rfl⟩
              clear hK K
              try simp only [Act.put, List.setIfInBounds_toArray, List.set_cons_zero, List.set_cons_succ]
              refine wpAnyH_ready (rs := [5]) (by kernel_rfl) (by simp) ?_
              refine AllReadyH.cons (o := ⟨some 144, _, _, _, _, _⟩) rfl (fun K hK => ?_) (AllReadyH.nil)
              · skip
                refine step_appG rfl _ _ 28 rfl w0.heap.size i0 (.agg #[.string ⟨#[]⟩, .string ⟨#[]⟩]) 32 Tryz.underlying28 hi0 hz0 hz1 hz2 rfl v2 (0 + nL) (labs [] ++ labs L) rfl Own2.out (some ⟨gD, 0, none⟩) 1 1 [.string nm, .string vl] rfl (rd_two HD.out) ?_ (by unfold maxLen; omega) (by omega) hHeld.size ?_
                · intro u hu; simp at hu; rcases hu with rfl | rfl <;> rfl
                intro v5 wn hown hg
                have hHn : w0.grownBy wn none := grown_new hHeld hg (fun k e => (Own2.out.lt k e).1)
                have Own5 := Lib.hid hown
                replace hA := Lib.hid ((hg.block g20 (heap_lt hA.out) (own_ne Own2.out hA.out (by decide))).trans hA.out)
                refine hK.out _ _ hHn (fun _ => ?_)
                replace hHeld := hHn
                clear hHn hown hg Own2 HD
                obtain ⟨wc, rfl⟩ : ∃ x, x = wn := ⟨_, rfl⟩
                clear hK K
                try simp only [Act.put, List.setIfInBounds_toArray, List.set_cons_zero, List.set_cons_succ]
                refine wpAnyH_ready (rs := [7]) (by kernel_rfl) (by simp) ?_
                refine AllReadyH.cons (o := ⟨none, _, _, _, _, _⟩) rfl (fun K hK => ?_) (AllReadyH.nil)
                · have d0 : wc.cell? ⟨g20, 0, none⟩ = some (.slice none 0 0) := cell_of_row _ g20 0 _ _ _ hA.out
                  have f0 : ∀ j, wc.frozen? ⟨g20, j, none⟩ = false := fun j => by simp [World.frozen?, hA.out]
                  obtain ⟨A20, c20, hv5, _, hr5⟩ := own_rd Own5.out
                  have hn5 := own_ne Own5.out hA.out (by decide)
                  have e5 : 0 + nL + 1 = nL + 1 := by omega
                  rw [e5] at hv5 hr5
                  clear Own5
                  subst hv5
                  have hgs := grown_set wc g20 0 (.slice A20 (nL + 1) c20)
                  have R20 := Lib.hid (rd_grown hr5 hgs (fun ad e e2 => hn5 (by rw [e]; exact e2.symm)) hgs.size)
                  have hA2 := Lib.hid (heap_setCell_same wc g20 0 _ _ (.slice A20 (nL + 1) c20) hA.out)
                  have hHn : w0.grownBy _ none := grown_new hHeld hgs (fun k e => by injection e with e; omega)
                  clear e5 hr5 hn5 hgs
                  go_simp
                  refine hK.out _ _ hHn (fun _ => ?_)
                  clear d0 f0 hA
                  clear hK K
                  try simp only [Act.put, List.setIfInBounds_toArray, List.set_cons_zero, List.set_cons_succ]
                  refine wpAnyH_done (by kernel_rfl) ?_ _
                  go_wp2_with fail
                  go_meet
                  exact ⟨g20, A20, c20, rfl, hA2, R20, Hfin.out _ (grown_keptN hHn)⟩
      · as_aux_lemma =>
        go_simp
        obtain ⟨wn, hwn, hd0, hk, hlt⟩ := new_row w0 #[.string nm, .string vl] 33
        obtain ⟨gD, hgD⟩ : ∃ g, g = w0.heap.size := ⟨_, rfl⟩
        rw [← hwn, ← hgD]
        rw [← hgD] at hd0
        have HD := Lib.hid hd0
        have hHn : w0.grownBy wn none := grown_new hHeld (grown_kept hk none) (fun k e => by cases e)
        refine hK.out _ _ hHn (fun _ => ?_)
        replace hHeld := hHn
        clear hHn hk hwn hd0 hgD hlt
        obtain ⟨wc, rfl⟩ : ∃ x, x = wn := ⟨_, rfl⟩
        clear hK K
        try simp only [Act.put, List.setIfInBounds_toArray, List.set_cons_zero, List.set_cons_succ]
        refine wpAnyH_ready (rs := [0, 6]) (by kernel_rfl) (by simp) ?_
        refine AllReadyH.cons (o := ⟨some 139, _, _, _, _, _⟩) rfl (fun K hK => ?_) (AllReadyH.cons (o := ⟨some 20, _, _, _, _, _⟩) rfl (fun K hK => ?_) (AllReadyH.nil))
        · go_simp
          obtain ⟨wn, hwn, hd0, hk, hlt⟩ := new_row wc #[] 33
          obtain ⟨g0, hg0⟩ : ∃ g, g = wc.heap.size := ⟨_, rfl⟩
          rw [← hwn, ← hg0]
          rw [← hg0] at hd0
          have hge0 : w0.heap.size ≤ g0 := by rw [hg0]; exact hHeld.size
          have own0 : Hid (wn.ownsRow w0.heap.size 33 2 (.slice (some ⟨g0, 0, none⟩) 0 0) 0 (labs [])) := ⟨rfl, .inr ⟨_, 0, #[], rfl, hge0, hd0, Nat.le_refl _, Nat.zero_le _, rfl, rfl⟩⟩
          have hnD : gD ≠ g0 := by have := heap_lt HD.out; omega
          replace HD := Lib.hid (heap_kept hk HD.out)
          have hHn : w0.grownBy wn none := grown_new hHeld (grown_kept hk none) (fun k e => by cases e)
          refine hK.out _ _ hHn (fun _ => ?_)
          replace hHeld := hHn
          clear hHn hk hwn hd0 hg0 hlt hge0
          obtain ⟨wc, rfl⟩ : ∃ x, x = wn := ⟨_, rfl⟩
          clear hK K
          try simp only [Act.put, List.setIfInBounds_toArray, List.set_cons_zero, List.set_cons_succ]
          refine wpAnyH_ready (rs := [2, 6]) (by kernel_rfl) (by simp) ?_
          refine AllReadyH.cons (o := ⟨some 141, _, _, _, _, _⟩) rfl (fun K hK => ?_) (AllReadyH.cons (o := ⟨some 20, _, _, _, _, _⟩) rfl (fun K hK => ?_) (AllReadyH.nil))
          · skip
            refine step_appG rfl _ _ 28 rfl w0.heap.size i0 (.agg #[.string ⟨#[]⟩, .string ⟨#[]⟩]) 32 Tryz.underlying28 hi0 hz0 hz1 hz2 rfl _ 0 (labs []) rfl own0.out A1 nL c1 (labs L) rfl (HRL.out _ hHeld) ?_ (by unfold maxLen; omega) (by omega) hHeld.size ?_
            · exact labs_one _
            intro v2 wn hown hg
            have hHn : w0.grownBy wn none := grown_new hHeld hg (fun k e => (own0.out.lt k e).1)
            have Own2 := Lib.hid hown
            replace HD := Lib.hid ((hg.block gD (heap_lt HD.out) (fun e => hnD (by injection e))).trans HD.out)
            refine hK.out _ _ hHn (fun _ => ?_)
            replace hHeld := hHn
            clear hHn hown hg own0
            obtain ⟨wc, rfl⟩ : ∃ x, x = wn := ⟨_, rfl⟩
            clear hK K
            try simp only [Act.put, List.setIfInBounds_toArray, List.set_cons_zero, List.set_cons_succ]
            refine wpAnyH_ready (rs := [5, 6]) (by kernel_rfl) (by simp) ?_
            refine AllReadyH.cons (o := ⟨some 144, _, _, _, _, _⟩) rfl (fun K hK => ?_) (AllReadyH.cons (o := ⟨some 20, _, _, _, _, _⟩) rfl (fun K hK => ?_) (AllReadyH.nil))
            · skip
              refine step_appG rfl _ _ 28 rfl w0.heap.size i0 (.agg #[.string ⟨#[]⟩, .string ⟨#[]⟩]) 32 Tryz.underlying28 hi0 hz0 hz1 hz2 rfl v2 (0 + nL) (labs [] ++ labs L) rfl Own2.out (some ⟨gD, 0, none⟩) 1 1 [.string nm, .string vl] rfl (rd_two HD.out) ?_ (by unfold maxLen; omega) (by omega) hHeld.size ?_
              · intro u hu; simp at hu; rcases hu with rfl | rfl <;> rfl
              intro v5 wn hown hg
              have hHn : w0.grownBy wn none := grown_new hHeld hg (fun k e => (Own2.out.lt k e).1)
              have Own5 := Lib.hid hown
              refine hK.out _ _ hHn (fun _ => ?_)
              replace hHeld := hHn
              clear hHn hown hg Own2 HD
              obtain ⟨wc, rfl⟩ : ∃ x, x = wn := ⟨_, rfl⟩
              clear hK K
              try simp only [Act.put, List.setIfInBounds_toArray, List.set_cons_zero, List.set_cons_succ]
              refine wpAnyH_ready (rs := [6]) (by kernel_rfl) (by simp) ?_
              refine AllReadyH.cons (o := ⟨some 20, _, _, _, _, _⟩) rfl (fun K hK => ?_) (AllReadyH.nil)
              · go_simp
                obtain ⟨wn, hwn, hd0, hk, hlt⟩ := new_row wc #[.slice none 0 0] 28
                obtain ⟨g20, hg20⟩ : ∃ g, g = wc.heap.size := ⟨_, rfl⟩
                rw [← hwn, ← hg20]
                rw [← hg20] at hd0
                have hge20 : w0.heap.size ≤ g20 := by rw [hg20]; exact hHeld.size
                replace Own5 := Lib.hid (own_below Own5.out hk)
                have hA := Lib.hid hd0
                have hHn : w0.grownBy wn none := grown_new hHeld (grown_kept hk none) (fun k e => by cases e)
                refine hK.out _ _ hHn (fun _ => ?_)
                replace hHeld := hHn
                clear hHn hk hwn hd0 hg20 hlt
                obtain ⟨wc, rfl⟩ : ∃ x, x = wn := ⟨_, rfl⟩
                clear hK K
                try simp only [Act.put, List.setIfInBounds_toArray, List.set_cons_zero, List.set_cons_succ]
                refine wpAnyH_ready (rs := [7]) (by kernel_rfl) (by simp) ?_
                refine AllReadyH.cons (o := ⟨none, _, _, _, _, _⟩) rfl (fun K hK => ?_) (AllReadyH.nil)
                · have d0 : wc.cell? ⟨g20, 0, none⟩ = some (.slice none 0 0) := cell_of_row _ g20 0 _ _ _ hA.out
                  have f0 : ∀ j, wc.frozen? ⟨g20, j, none⟩ = false := fun j => by simp [World.frozen?, hA.out]
                  obtain ⟨A20, c20, hv5, _, hr5⟩ := own_rd Own5.out
                  have hn5 := own_ne Own5.out hA.out (by decide)
                  have e5 : 0 + nL + 1 = nL + 1 := by omega
                  rw [e5] at hv5 hr5
                  clear Own5
                  subst hv5
                  have hgs := grown_set wc g20 0 (.slice A20 (nL + 1) c20)
                  have R20 := Lib.hid (rd_grown hr5 hgs (fun ad e e2 => hn5 (by rw [e]; exact e2.symm)) hgs.size)
                  have hA2 := Lib.hid (heap_setCell_same wc g20 0 _ _ (.slice A20 (nL + 1) c20) hA.out)
                  have hHn : w0.grownBy _ none := grown_new hHeld hgs (fun k e => by injection e with e; omega)
                  clear e5 hr5 hn5 hgs
                  go_simp
                  refine hK.out _ _ hHn (fun _ => ?_)
                  clear d0 f0 hA
                  clear hK K
                  try simp only [Act.put, List.setIfInBounds_toArray, List.set_cons_zero, List.set_cons_succ]
                  refine wpAnyH_done (by kernel_rfl) ?_ _
                  go_wp2_with fail
                  go_meet
                  exact ⟨g20, A20, c20, rfl, hA2, R20, Hfin.out _ (grown_keptN hHn)⟩
            · go_simp
              obtain ⟨wn, hwn, hd0, hk, hlt⟩ := new_row wc #[.slice none 0 0] 28
              obtain ⟨g20, hg20⟩ : ∃ g, g = wc.heap.size := ⟨_, rfl⟩
              rw [← hwn, ← hg20]
              rw [← hg20] at hd0
              have hge20 : w0.heap.size ≤ g20 := by rw [hg20]; exact hHeld.size
              replace Own2 := Lib.hid (own_below Own2.out hk)
              replace HD := Lib.hid (heap_kept hk HD.out)
              have hA := Lib.hid hd0
              have hHn : w0.grownBy wn none := grown_new hHeld (grown_kept hk none) (fun k e => by cases e)
              refine hK.out _ _ hHn (fun _ => ?_)
              replace hHeld := hHn
              clear hHn hk hwn hd0 hg20 hlt
              obtain ⟨wc, rfl⟩ : ∃ x, x = wn := ⟨_, rfl⟩
              clear hK K
              try simp only [Act.put, List.setIfInBounds_toArray, List.set_cons_zero, List.set_cons_succ]
              refine wpAnyH_ready (rs := [5]) (by kernel_rfl) (by simp) ?_
              refine AllReadyH.cons (o := ⟨some 144, _, _, _, _, _⟩) rfl (fun K hK => ?_) (AllReadyH.nil)
              · skip
                refine step_appG rfl _ _ 28 rfl w0.heap.size i0 (.agg #[.string ⟨#[]⟩, .string ⟨#[]⟩]) 32 Tryz.underlying28 hi0 hz0 hz1 hz2 rfl v2 (0 + nL) (labs [] ++ labs L) rfl Own2.out (some ⟨gD, 0, none⟩) 1 1 [.string nm, .string vl] rfl (rd_two HD.out) ?_ (by unfold maxLen; omega) (by omega) hHeld.size ?_
                · intro u hu; simp at hu; rcases hu with rfl | rfl <;> rfl
                intro v5 wn hown hg
                have hHn : w0.grownBy wn none := grown_new hHeld hg (fun k e => (Own2.out.lt k e).1)
                have Own5 := Lib.hid hown
                replace hA := Lib.hid ((hg.block g20 (heap_lt hA.out) (own_ne Own2.out hA.out (by decide))).trans hA.out)
                refine hK.out _ _ hHn (fun _ => ?_)
                replace hHeld := hHn
                clear hHn hown hg Own2 HD
                obtain ⟨wc, rfl⟩ : ∃ x, x = wn := ⟨_, rfl⟩
                clear hK K
                try simp only [Act.put, List.setIfInBounds_toArray, List.set_cons_zero, List.set_cons_succ]
                refine wpAnyH_ready (rs := [7]) (by kernel_rfl) (by simp) ?_
                refine AllReadyH.cons (o := ⟨none, _, _, _, _, _⟩) rfl (fun K hK => ?_) (AllReadyH.nil)
                · have d0 : wc.cell? ⟨g20, 0, none⟩ = some (.slice none 0 0) := cell_of_row _ g20 0 _ _ _ hA.out
                  have f0 : ∀ j, wc.frozen? ⟨g20, j, none⟩ = false := fun j => by simp [World.frozen?, hA.out]
                  obtain ⟨A20, c20, hv5, _, hr5⟩ := own_rd Own5.out
                  have hn5 := own_ne Own5.out hA.out (by decide)
                  have e5 : 0 + nL + 1 = nL + 1 := by omega
                  rw [e5] at hv5 hr5
                  clear Own5
                  subst hv5
                  have hgs := grown_set wc g20 0 (.slice A20 (nL + 1) c20)
                  have R20 := Lib.hid (rd_grown hr5 hgs (fun ad e e2 => hn5 (by rw [e]; exact e2.symm)) hgs.size)
                  have hA2 := Lib.hid (heap_setCell_same wc g20 0 _ _ (.slice A20 (nL + 1) c20) hA.out)
                  have hHn : w0.grownBy _ none := grown_new hHeld hgs (fun k e => by injection e with e; omega)
                  clear e5 hr5 hn5 hgs
                  go_simp
                  refine hK.out _ _ hHn (fun _ => ?_)
                  clear d0 f0 hA
                  clear hK K
                  try simp only [Act.put, List.setIfInBounds_toArray, List.set_cons_zero, List.set_cons_succ]
                  refine wpAnyH_done (by kernel_rfl) ?_ _
                  go_wp2_with fail
                  go_meet
                  exact ⟨g20, A20, c20, rfl, hA2, R20, Hfin.out _ (grown_keptN hHn)⟩
          · go_simp
            obtain ⟨wn, hwn, hd0, hk, hlt⟩ := new_row wc #[.slice none 0 0] 28
            obtain ⟨g20, hg20⟩ : ∃ g, g = wc.heap.size := ⟨_, rfl⟩
            rw [← hwn, ← hg20]
            rw [← hg20] at hd0
            have hge20 : w0.heap.size ≤ g20 := by rw [hg20]; exact hHeld.size
            replace own0 := Lib.hid (own_below own0.out hk)
            replace HD := Lib.hid (heap_kept hk HD.out)
            have hA := Lib.hid hd0
            have hHn : w0.grownBy wn none := grown_new hHeld (grown_kept hk none) (fun k e => by cases e)
            refine hK.out _ _ hHn (fun _ => ?_)
            replace hHeld := hHn
            clear hHn hk hwn hd0 hg20 hlt
            obtain ⟨wc, rfl⟩ : ∃ x, x = wn := ⟨_, rfl⟩
            clear hK K
            try simp only [Act.put, List.setIfInBounds_toArray, List.set_cons_zero, List.set_cons_succ]
            refine wpAnyH_ready (rs := [2]) (by kernel_rfl) (by simp) ?_
            refine AllReadyH.cons (o := ⟨some 141, _, _, _, _, _⟩) rfl (fun K hK => ?_) (AllReadyH.nil)
            · skip
              refine step_appG rfl _ _ 28 rfl w0.heap.size i0 (.agg #[.string ⟨#[]⟩, .string ⟨#[]⟩]) 32 Tryz.underlying28 hi0 hz0 hz1 hz2 rfl _ 0 (labs []) rfl own0.out A1 nL c1 (labs L) rfl (HRL.out _ hHeld) ?_ (by unfold maxLen; omega) (by omega) hHeld.size ?_
              · exact labs_one _
              intro v2 wn hown hg
              have hHn : w0.grownBy wn none := grown_new hHeld hg (fun k e => (own0.out.lt k e).1)
              have Own2 := Lib.hid hown
              replace HD := Lib.hid ((hg.block gD (heap_lt HD.out) (fun e => hnD (by injection e))).trans HD.out)
              replace hA := Lib.hid ((hg.block g20 (heap_lt hA.out) (own_ne own0.out hA.out (by decide))).trans hA.out)
              refine hK.out _ _ hHn (fun _ => ?_)
              replace hHeld := hHn
              clear hHn hown hg own0
              obtain ⟨wc, rfl⟩ : ∃ x, x = wn := ⟨_, rfl⟩
              clear hK K
              try simp only [Act.put, List.setIfInBounds_toArray, List.set_cons_zero, List.set_cons_succ]
              refine wpAnyH_ready (rs := [5]) (by kernel_rfl) (by simp) ?_
              refine AllReadyH.cons (o := ⟨some 144, _, _, _, _, _⟩) rfl (fun K hK => ?_) (AllReadyH.nil)
              · skip
                refine step_appG rfl _ _ 28 rfl w0.heap.size i0 (.agg #[.string ⟨#[]⟩, .string ⟨#[]⟩]) 32 Tryz.underlying28 hi0 hz0 hz1 hz2 rfl v2 (0 + nL) (labs [] ++ labs L) rfl Own2.out (some ⟨gD, 0, none⟩) 1 1 [.string nm, .string vl] rfl (rd_two HD.out) ?_ (by unfold maxLen; omega) (by omega) hHeld.size ?_
                · intro u hu; simp at hu; rcases hu with rfl | rfl <;> rfl
                intro v5 wn hown hg
                have hHn : w0.grownBy wn none := grown_new hHeld hg (fun k e => (Own2.out.lt k e).1)
                have Own5 := Lib.hid hown
                replace hA := Lib.hid ((hg.block g20 (heap_lt hA.out) (own_ne Own2.out hA.out (by decide))).trans hA.out)
                refine hK.out _ _ hHn (fun _ => ?_)
                replace hHeld := hHn
                clear hHn hown hg Own2 HD
                obtain ⟨wc, rfl⟩ : ∃ x, x = wn := ⟨_, rfl⟩
                clear hK K
                try simp only [Act.put, List.setIfInBounds_toArray, List.set_cons_zero, List.set_cons_succ]
                refine wpAnyH_ready (rs := [7]) (by kernel_rfl) (by simp) ?_
                refine AllReadyH.cons (o := ⟨none, _, _, _, _, _⟩) rfl (fun K hK => ?_) (AllReadyH.nil)
                · have d0 : wc.cell? ⟨g20, 0, none⟩ = some (.slice none 0 0) := cell_of_row _ g20 0 _ _ _ hA.out
                  have f0 : ∀ j, wc.frozen? ⟨g20, j, none⟩ = false := fun j => by simp [World.frozen?, hA.out]
                  obtain ⟨A20, c20, hv5, _, hr5⟩ := own_rd Own5.out
                  have hn5 := own_ne Own5.out hA.out (by decide)
                  have e5 : 0 + nL + 1 = nL + 1 := by omega
                  rw [e5] at hv5 hr5
                  clear Own5
                  subst hv5
                  have hgs := grown_set wc g20 0 (.slice A20 (nL + 1) c20)
                  have R20 := Lib.hid (rd_grown hr5 hgs (fun ad e e2 => hn5 (by rw [e]; exact e2.symm)) hgs.size)
                  have hA2 := Lib.hid (heap_setCell_same wc g20 0 _ _ (.slice A20 (nL + 1) c20) hA.out)
                  have hHn : w0.grownBy _ none := grown_new hHeld hgs (fun k e => by injection e with e; omega)
                  clear e5 hr5 hn5 hgs
                  go_simp
                  refine hK.out _ _ hHn (fun _ => ?_)
                  clear d0 f0 hA
                  clear hK K
                  try simp only [Act.put, List.setIfInBounds_toArray, List.set_cons_zero, List.set_cons_succ]
                  refine wpAnyH_done (by kernel_rfl) ?_ _
                  go_wp2_with fail
                  go_meet
                  exact ⟨g20, A20, c20, rfl, hA2, R20, Hfin.out _ (grown_keptN hHn)⟩
        · go_simp
          obtain ⟨wn, hwn, hd0, hk, hlt⟩ := new_row wc #[.slice none 0 0] 28
          obtain ⟨g20, hg20⟩ : ∃ g, g = wc.heap.size := ⟨_, rfl⟩
          rw [← hwn, ← hg20]
          rw [← hg20] at hd0
          have hge20 : w0.heap.size ≤ g20 := by rw [hg20]; exact hHeld.size
          replace HD := Lib.hid (heap_kept hk HD.out)
          have hA := Lib.hid hd0
          have hHn : w0.grownBy wn none := grown_new hHeld (grown_kept hk none) (fun k e => by cases e)
          refine hK.out _ _ hHn (fun _ => ?_)
          replace hHeld := hHn
          clear hHn hk hwn hd0 hg20 hlt
          obtain ⟨wc, rfl⟩ : ∃ x, x = wn := ⟨_, rfl⟩
          clear hK K
          try simp only [Act.put, List.setIfInBounds_toArray, List.set_cons_zero, List.set_cons_succ]
          refine wpAnyH_ready (rs := [0]) (by kernel_rfl) (by simp) ?_
          refine AllReadyH.cons (o := ⟨some 139, _, _, _, _, _⟩) rfl (fun K hK => ?_) (AllReadyH.nil)
          · go_simp
            obtain ⟨wn, hwn, hd0, hk, hlt⟩ := new_row wc #[] 33
            obtain ⟨g0, hg0⟩ : ∃ g, g = wc.heap.size := ⟨_, rfl⟩
            rw [← hwn, ← hg0]
            rw [← hg0] at hd0
            have hge0 : w0.heap.size ≤ g0 := by rw [hg0]; exact hHeld.size
            have own0 : Hid (wn.ownsRow w0.heap.size 33 2 (.slice (some ⟨g0, 0, none⟩) 0 0) 0 (labs [])) := ⟨rfl, .inr ⟨_, 0, #[], rfl, hge0, hd0, Nat.le_refl _, Nat.zero_le _, rfl, rfl⟩⟩
            have hnD : gD ≠ g0 := by have := heap_lt HD.out; omega
            replace HD := Lib.hid (heap_kept hk HD.out)
            replace hA := Lib.hid (heap_kept hk hA.out)
            have hHn : w0.grownBy wn none := grown_new hHeld (grown_kept hk none) (fun k e => by cases e)
            refine hK.out _ _ hHn (fun _ => ?_)
            replace hHeld := hHn
            clear hHn hk hwn hd0 hg0 hlt hge0
            obtain ⟨wc, rfl⟩ : ∃ x, x = wn := ⟨_, rfl⟩
            clear hK K
            try simp only [Act.put, List.setIfInBounds_toArray, List.set_cons_zero, List.set_cons_succ]
            refine wpAnyH_ready (rs := [2]) (by kernel_rfl) (by simp) ?_
            refine AllReadyH.cons (o := ⟨some 141, _, _, _, _, _⟩) rfl (fun K hK => ?_) (AllReadyH.nil)
            · skip
              refine step_appG rfl _ _ 28 rfl w0.heap.size i0 (.agg #[.string ⟨#[]⟩, .string ⟨#[]⟩]) 32 Tryz.underlying28 hi0 hz0 hz1 hz2 rfl _ 0 (labs []) rfl own0.out A1 nL c1 (labs L) rfl (HRL.out _ hHeld) ?_ (by unfold maxLen; omega) (by omega) hHeld.size ?_
              · exact labs_one _
              intro v2 wn hown hg
              have hHn : w0.grownBy wn none := grown_new hHeld hg (fun k e => (own0.out.lt k e).1)
              have Own2 := Lib.hid hown
              replace HD := Lib.hid ((hg.block gD (heap_lt HD.out) (fun e => hnD (by injection e))).trans HD.out)
              replace hA := Lib.hid ((hg.block g20 (heap_lt hA.out) (own_ne own0.out hA.out (by decide))).trans hA.out)
              refine hK.out _ _ hHn (fun _ => ?_)
              replace hHeld := hHn
              clear hHn hown hg own0
              obtain ⟨wc, rfl⟩ : ∃ x, x = wn := ⟨_, rfl⟩
              clear hK K
              try simp only [Act.put, List.setIfInBounds_toArray, List.set_cons_zero, List.set_cons_succ]
              refine wpAnyH_ready (rs := [5]) (by kernel_rfl) (by simp) ?_
              refine AllReadyH.cons (o := ⟨some 144, _, _, _, _, _⟩) rfl (fun K hK => ?_) (AllReadyH.nil)
              · skip
                refine step_appG rfl _ _ 28 rfl w0.heap.size i0 (.agg #[.string ⟨#[]⟩, .string ⟨#[]⟩]) 32 Tryz.underlying28 hi0 hz0 hz1 hz2 rfl v2 (0 + nL) (labs [] ++ labs L) rfl Own2.out (some ⟨gD, 0, none⟩) 1 1 [.string nm, .string vl] rfl (rd_two HD.out) ?_ (by unfold maxLen; omega) (by omega) hHeld.size ?_
                · intro u hu; simp at hu; rcases hu with rfl | rfl <;> rfl
                intro v5 wn hown hg
                have hHn : w0.grownBy wn none := grown_new hHeld hg (fun k e => (Own2.out.lt k e).1)
                have Own5 := Lib.hid hown
                replace hA := Lib.hid ((hg.block g20 (heap_lt hA.out) (own_ne Own2.out hA.out (by decide))).trans hA.out)
                refine hK.out _ _ hHn (fun _ => ?_)
                replace hHeld := hHn
                clear hHn hown hg Own2 HD
                obtain ⟨wc, rfl⟩ : ∃ x, x = wn := ⟨_, rfl⟩
                clear hK K
                try simp only [Act.put, List.setIfInBounds_toArray, List.set_cons_zero, List.set_cons_succ]
                refine wpAnyH_ready (rs := [7]) (by kernel_rfl) (by simp) ?_
                refine AllReadyH.cons (o := ⟨none, _, _, _, _, _⟩) rfl (fun K hK => ?_) (AllReadyH.nil)
                · have d0 : wc.cell? ⟨g20, 0, none⟩ = some (.slice none 0 0) := cell_of_row _ g20 0 _ _ _ hA.out
                  have f0 : ∀ j, wc.frozen? ⟨g20, j, none⟩ = false := fun j => by simp [World.frozen?, hA.out]
                  obtain ⟨A20, c20, hv5, _, hr5⟩ := own_rd Own5.out
                  have hn5 := own_ne Own5.out hA.out (by decide)
                  have e5 : 0 + nL + 1 = nL + 1 := by omega
                  rw [e5] at hv5 hr5
                  clear Own5
                  subst hv5
                  have hgs := grown_set wc g20 0 (.slice A20 (nL + 1) c20)
                  have R20 := Lib.hid (rd_grown hr5 hgs (fun ad e e2 => hn5 (by rw [e]; exact e2.symm)) hgs.size)
                  have hA2 := Lib.hid (heap_setCell_same wc g20 0 _ _ (.slice A20 (nL + 1) c20) hA.out)
                  have hHn : w0.grownBy _ none := grown_new hHeld hgs (fun k e => by injection e with e; omega)
                  clear e5 hr5 hn5 hgs
                  go_simp
                  refine hK.out _ _ hHn (fun _ => ?_)
                  clear d0 f0 hA
                  clear hK K
                  try simp only [Act.put, List.setIfInBounds_toArray, List.set_cons_zero, List.set_cons_succ]
                  refine wpAnyH_done (by kernel_rfl) ?_ _
                  go_wp2_with fail
                  go_meet
                  exact ⟨g20, A20, c20, rfl, hA2, R20, Hfin.out _ (grown_keptN hHn)⟩
      · as_aux_lemma =>
        go_simp
        obtain ⟨wn, hwn, hd0, hk, hlt⟩ := new_row w0 #[.slice none 0 0] 28
        obtain ⟨g20, hg20⟩ : ∃ g, g = w0.heap.size := ⟨_, rfl⟩
        rw [← hwn, ← hg20]
        rw [← hg20] at hd0
        have hge20 : w0.heap.size ≤ g20 := by rw [hg20]; exact hHeld.size
        have hA := Lib.hid hd0
        have hHn : w0.grownBy wn none := grown_new hHeld (grown_kept hk none) (fun k e => by cases e)
        refine hK.out _ _ hHn (fun _ => ?_)
        replace hHeld := hHn
        clear hHn hk hwn hd0 hg20 hlt
        obtain ⟨wc, rfl⟩ : ∃ x, x = wn := ⟨_, rfl⟩
        clear hK K
        try simp only [Act.put, List.setIfInBounds_toArray, List.set_cons_zero, List.set_cons_succ]
        refine wpAnyH_ready (rs := [0, 4]) (by kernel_rfl) (by simp) ?_
        refine AllReadyH.cons (o := ⟨some 139, _, _, _, _, _⟩) rfl (fun K hK => ?_) (AllReadyH.cons (o := ⟨some 143, _, _, _, _, _⟩) rfl (fun K hK => ?_) (AllReadyH.nil))
        · go_simp
          obtain ⟨wn, hwn, hd0, hk, hlt⟩ := new_row wc #[] 33
          obtain ⟨g0, hg0⟩ : ∃ g, g = wc.heap.size := ⟨_, rfl⟩
          rw [← hwn, ← hg0]
          rw [← hg0] at hd0
          have hge0 : w0.heap.size ≤ g0 := by rw [hg0]; exact hHeld.size
          have own0 : Hid (wn.ownsRow w0.heap.size 33 2 (.slice (some ⟨g0, 0, none⟩) 0 0) 0 (labs [])) := ⟨rfl, .inr ⟨_, 0, #[], rfl, hge0, hd0, Nat.le_refl _, Nat.zero_le _, rfl, rfl⟩⟩
          replace hA := Lib.hid (heap_kept hk hA.out)
          have hHn : w0.grownBy wn none := grown_new hHeld (grown_kept hk none) (fun k e => by cases e)
          refine hK.out _ _ hHn (fun _ => ?_)
          replace hHeld := hHn
          clear hHn hk hwn hd0 hg0 hlt hge0
          obtain ⟨wc, rfl⟩ : ∃ x, x = wn := ⟨_, rfl⟩
          clear hK K
          try simp only [Act.put, List.setIfInBounds_toArray, List.set_cons_zero, List.set_cons_succ]
          refine wpAnyH_ready (rs := [2, 4]) (by kernel_rfl) (by simp) ?_
          refine AllReadyH.cons (o := ⟨some 141, _, _, _, _, _⟩) rfl (fun K hK => ?_) (AllReadyH.cons (o := ⟨some 143, _, _, _, _, _⟩) rfl (fun K hK => ?_) (AllReadyH.nil))
          · skip
            refine step_appG rfl _ _ 28 rfl w0.heap.size i0 (.agg #[.string ⟨#[]⟩, .string ⟨#[]⟩]) 32 Tryz.underlying28 hi0 hz0 hz1 hz2 rfl _ 0 (labs []) rfl own0.out A1 nL c1 (labs L) rfl (HRL.out _ hHeld) ?_ (by unfold maxLen; omega) (by omega) hHeld.size ?_
            · exact labs_one _
            intro v2 wn hown hg
            have hHn : w0.grownBy wn none := grown_new hHeld hg (fun k e => (own0.out.lt k e).1)
            have Own2 := Lib.hid hown
            replace hA := Lib.hid ((hg.block g20 (heap_lt hA.out) (own_ne own0.out hA.out (by decide))).trans hA.out)
            refine hK.out _ _ hHn (fun _ => ?_)
            replace hHeld := hHn
            clear hHn hown hg own0
            obtain ⟨wc, rfl⟩ : ∃ x, x = wn := ⟨_, rfl⟩
            clear hK K
            try simp only [Act.put, List.setIfInBounds_toArray, List.set_cons_zero, List.set_cons_succ]
            refine wpAnyH_ready (rs := [4]) (by kernel_rfl) (by simp) ?_
            refine AllReadyH.cons (o := ⟨some 143, _, _, _, _, _⟩) rfl (fun K hK => ?_) (AllReadyH.nil)
            · go_simp
              obtain ⟨wn, hwn, hd0, hk, hlt⟩ := new_row wc #[.string nm, .string vl] 33
              obtain ⟨gD, hgD⟩ : ∃ g, g = wc.heap.size := ⟨_, rfl⟩
              rw [← hwn, ← hgD]
              rw [← hgD] at hd0
              replace Own2 := Lib.hid (own_below Own2.out hk)
              replace hA := Lib.hid (heap_kept hk hA.out)
              have HD := Lib.hid hd0
              have hHn : w0.grownBy wn none := grown_new hHeld (grown_kept hk none) (fun k e => by cases e)
              refine hK.out _ _ hHn (fun _ => ?_)
              replace hHeld := hHn
              clear hHn hk hwn hd0 hgD hlt
              obtain ⟨wc, rfl⟩ : ∃ x, x = wn := ⟨_, rfl⟩
              clear hK K
              try simp only [Act.put, List.setIfInBounds_toArray, List.set_cons_zero, List.set_cons_succ]
              refine wpAnyH_ready (rs := [5]) (by kernel_rfl) (by simp) ?_
              refine AllReadyH.cons (o := ⟨some 144, _, _, _, _, _⟩) rfl (fun K hK => ?_) (AllReadyH.nil)
              · skip
                refine step_appG rfl _ _ 28 rfl w0.heap.size i0 (.agg #[.string ⟨#[]⟩, .string ⟨#[]⟩]) 32 Tryz.underlying28 hi0 hz0 hz1 hz2 rfl v2 (0 + nL) (labs [] ++ labs L) rfl Own2.out (some ⟨gD, 0, none⟩) 1 1 [.string nm, .string vl] rfl (rd_two HD.out) ?_ (by unfold maxLen; omega) (by omega) hHeld.size ?_
                · intro u hu; simp at hu; rcases hu with rfl | rfl <;> rfl
                intro v5 wn hown hg
                have hHn : w0.grownBy wn none := grown_new hHeld hg (fun k e => (Own2.out.lt k e).1)
                have Own5 := Lib.hid hown
                replace hA := Lib.hid ((hg.block g20 (heap_lt hA.out) (own_ne Own2.out hA.out (by decide))).trans hA.out)
                refine hK.out _ _ hHn (fun _ => ?_)
                replace hHeld := hHn
                clear hHn hown hg Own2 HD
                obtain ⟨wc, rfl⟩ : ∃ x, x = wn := ⟨_, rfl⟩
                clear hK K
                try simp only [Act.put, List.setIfInBounds_toArray, List.set_cons_zero, List.set_cons_succ]
                refine wpAnyH_ready (rs := [7]) (by kernel_rfl) (by simp) ?_
                refine AllReadyH.cons (o := ⟨none, _, _, _, _, _⟩) rfl (fun K hK => ?_) (AllReadyH.nil)
                · have d0 : wc.cell? ⟨g20, 0, none⟩ = some (.slice none 0 0) := cell_of_row _ g20 0 _ _ _ hA.out
                  have f0 : ∀ j, wc.frozen? ⟨g20, j, none⟩ = false := fun j => by simp [World.frozen?, hA.out]
                  obtain ⟨A20, c20, hv5, _, hr5⟩ := own_rd Own5.out
                  have hn5 := own_ne Own5.out hA.out (by decide)
                  have e5 : 0 + nL + 1 = nL + 1 := by omega
                  rw [e5] at hv5 hr5
                  clear Own5
                  subst hv5
                  have hgs := grown_set wc g20 0 (.slice A20 (nL + 1) c20)
                  have R20 := Lib.hid (rd_grown hr5 hgs (fun ad e e2 => hn5 (by rw [e]; exact e2.symm)) hgs.size)
                  have hA2 := Lib.hid (heap_setCell_same wc g20 0 _ _ (.slice A20 (nL + 1) c20) hA.out)
                  have hHn : w0.grownBy _ none := grown_new hHeld hgs (fun k e => by injection e with e; omega)
                  clear e5 hr5 hn5 hgs
                  go_simp
                  refine hK.out _ _ hHn (fun _ => ?_)
                  clear d0 f0 hA
                  clear hK K
                  try simp only [Act.put, List.setIfInBounds_toArray, List.set_cons_zero, List.set_cons_succ]
                  refine wpAnyH_done (by kernel_rfl) ?_ _
                  go_wp2_with fail
                  go_meet
                  exact ⟨g20, A20, c20, rfl, hA2, R20, Hfin.out _ (grown_keptN hHn)⟩
          · go_simp
            obtain ⟨wn, hwn, hd0, hk, hlt⟩ := new_row wc #[.string nm, .string vl] 33
            obtain ⟨gD, hgD⟩ : ∃ g, g = wc.heap.size := ⟨_, rfl⟩
            rw [← hwn, ← hgD]
            rw [← hgD] at hd0
            have hnD : gD ≠ g0 := by have := (own0.out.lt g0 rfl).2; omega
            replace own0 := Lib.hid (own_below own0.out hk)
            replace hA := Lib.hid (heap_kept hk hA.out)
            have HD := Lib.hid hd0
            have hHn : w0.grownBy wn none := grown_new hHeld (grown_kept hk none) (fun k e => by cases e)
            refine hK.out _ _ hHn (fun _ => ?_)
            replace hHeld := hHn
            clear hHn hk hwn hd0 hgD hlt
            obtain ⟨wc, rfl⟩ : ∃ x, x = wn := ⟨_, rfl⟩
            clear hK K
            try simp only [Act.put, List.setIfInBounds_toArray, List.set_cons_zero, List.set_cons_succ]
            refine wpAnyH_ready (rs := [2]) (by kernel_rfl) (by simp) ?_
            refine AllReadyH.cons (o := ⟨some 141, _, _, _, _, _⟩) rfl (fun K hK => ?_) (AllReadyH.nil)
            · skip
              refine step_appG rfl _ _ 28 rfl w0.heap.size i0 (.agg #[.string ⟨#[]⟩, .string ⟨#[]⟩]) 32 Tryz.underlying28 hi0 hz0 hz1 hz2 rfl _ 0 (labs []) rfl own0.out A1 nL c1 (labs L) rfl (HRL.out _ hHeld) ?_ (by unfold maxLen; omega) (by omega) hHeld.size ?_
              · exact labs_one _
              intro v2 wn hown hg
              have hHn : w0.grownBy wn none := grown_new hHeld hg (fun k e => (own0.out.lt k e).1)
              have Own2 := Lib.hid hown
              replace HD := Lib.hid ((hg.block gD (heap_lt HD.out) (fun e => hnD (by injection e))).trans HD.out)
              replace hA := Lib.hid ((hg.block g20 (heap_lt hA.out) (own_ne own0.out hA.out (by decide))).trans hA.out)
              refine hK.out _ _ hHn (fun _ => ?_)
              replace hHeld := hHn
              clear hHn hown hg own0
              obtain ⟨wc, rfl⟩ : ∃ x, x = wn := ⟨_, rfl⟩
              clear hK K
              try simp only [Act.put, List.setIfInBounds_toArray, List.set_cons_zero, List.set_cons_succ]
              refine wpAnyH_ready (rs := [5]) (by kernel_rfl) (by simp) ?_
              refine AllReadyH.cons (o := ⟨some 144, _, _, _, _, _⟩) rfl (fun K hK => ?_) (AllReadyH.nil)
              · skip
                refine step_appG rfl _ _ 28 rfl w0.heap.size i0 (.agg #[.string ⟨#[]⟩, .string ⟨#[]⟩]) 32 Tryz.underlying28 hi0 hz0 hz1 hz2 rfl v2 (0 + nL) (labs [] ++ labs L) rfl Own2.out (some ⟨gD, 0, none⟩) 1 1 [.string nm, .string vl] rfl (rd_two HD.out) ?_ (by unfold maxLen; omega) (by omega) hHeld.size ?_
                · intro u hu; simp at hu; rcases hu with rfl | rfl <;> rfl
                intro v5 wn hown hg
                have hHn : w0.grownBy wn none := grown_new hHeld hg (fun k e => (Own2.out.lt k e).1)
                have Own5 := Lib.hid hown
                replace hA := Lib.hid ((hg.block g20 (heap_lt hA.out) (own_ne Own2.out hA.out (by decide))).trans hA.out)
                refine hK.out _ _ hHn (fun _ => ?_)
                replace hHeld := hHn
                clear hHn hown hg Own2 HD
                obtain ⟨wc, rfl⟩ : ∃ x, x = wn := ⟨_, rfl⟩
                clear hK K
                try simp only [Act.put, List.setIfInBounds_toArray, List.set_cons_zero, List.set_cons_succ]
                refine wpAnyH_ready (rs := [7]) (by kernel_rfl) (by simp) ?_
                refine AllReadyH.cons (o := ⟨none, _, _, _, _, _⟩) rfl (fun K hK => ?_) (AllReadyH.nil)
                · have d0 : wc.cell? ⟨g20, 0, none⟩ = some (.slice none 0 0) := cell_of_row _ g20 0 _ _ _ hA.out
                  have f0 : ∀ j, wc.frozen? ⟨g20, j, none⟩ = false := fun j => by simp [World.frozen?, hA.out]
                  obtain ⟨A20, c20, hv5, _, hr5⟩ := own_rd Own5.out
                  have hn5 := own_ne Own5.out hA.out (by decide)
                  have e5 : 0 + nL + 1 = nL + 1 := by omega
                  rw [e5] at hv5 hr5
                  clear Own5
                  subst hv5
                  have hgs := grown_set wc g20 0 (.slice A20 (nL + 1) c20)
                  have R20 := Lib.hid (rd_grown hr5 hgs (fun ad e e2 => hn5 (by rw [e]; exact e2.symm)) hgs.size)
                  have hA2 := Lib.hid (heap_setCell_same wc g20 0 _ _ (.slice A20 (nL + 1) c20) hA.out)
                  have hHn : w0.grownBy _ none := grown_new hHeld hgs (fun k e => by injection e with e; omega)
                  clear e5 hr5 hn5 hgs
                  go_simp
                  refine hK.out _ _ hHn (fun _ => ?_)
                  clear d0 f0 hA
                  clear hK K
                  try simp only [Act.put, List.setIfInBounds_toArray, List.set_cons_zero, List.set_cons_succ]
                  refine wpAnyH_done (by kernel_rfl) ?_ _
                  go_wp2_with fail
                  go_meet
                  exact ⟨g20, A20, c20, rfl, hA2, R20, Hfin.out _ (grown_keptN hHn)⟩
        · go_simp
          obtain ⟨wn, hwn, hd0, hk, hlt⟩ := new_row wc #[.string nm, .string vl] 33
          obtain ⟨gD, hgD⟩ : ∃ g, g = wc.heap.size := ⟨_, rfl⟩
          rw [← hwn, ← hgD]
          rw [← hgD] at hd0
          replace hA := Lib.hid (heap_kept hk hA.out)
          have HD := Lib.hid hd0
          have hHn : w0.grownBy wn none := grown_new hHeld (grown_kept hk none) (fun k e => by cases e)
          refine hK.out _ _ hHn (fun _ => ?_)
          replace hHeld := hHn
          clear hHn hk hwn hd0 hgD hlt
          obtain ⟨wc, rfl⟩ : ∃ x, x = wn := ⟨_, rfl⟩
          clear hK K
          try simp only [Act.put, List.setIfInBounds_toArray, List.set_cons_zero, List.set_cons_succ]
          refine wpAnyH_ready (rs := [0]) (by kernel_rfl) (by simp) ?_
          refine AllReadyH.cons (o := ⟨some 139, _, _, _, _, _⟩) rfl (fun K hK => ?_) (AllReadyH.nil)
          · go_simp
            obtain ⟨wn, hwn, hd0, hk, hlt⟩ := new_row wc #[] 33
            obtain ⟨g0, hg0⟩ : ∃ g, g = wc.heap.size := ⟨_, rfl⟩
            rw [← hwn, ← hg0]
            rw [← hg0] at hd0
            have hge0 : w0.heap.size ≤ g0 := by rw [hg0]; exact hHeld.size
            have own0 : Hid (wn.ownsRow w0.heap.size 33 2 (.slice (some ⟨g0, 0, none⟩) 0 0) 0 (labs [])) := ⟨rfl, .inr ⟨_, 0, #[], rfl, hge0, hd0, Nat.le_refl _, Nat.zero_le _, rfl, rfl⟩⟩
            have hnD : gD ≠ g0 := by have := heap_lt HD.out; omega
            replace HD := Lib.hid (heap_kept hk HD.out)
            replace hA := Lib.hid (heap_kept hk hA.out)
            have hHn : w0.grownBy wn none := grown_new hHeld (grown_kept hk none) (fun k e => by cases e)
            refine hK.out _ _ hHn (fun _ => ?_)
            replace hHeld := hHn
            clear hHn hk hwn hd0 hg0 hlt hge0
            obtain ⟨wc, rfl⟩ : ∃ x, x = wn := ⟨_, rfl⟩
            clear hK K
            try simp only [Act.put, List.setIfInBounds_toArray, List.set_cons_zero, List.set_cons_succ]
            refine wpAnyH_ready (rs := [2]) (by kernel_rfl) (by simp) ?_
            refine AllReadyH.cons (o := ⟨some 141, _, _, _, _, _⟩) rfl (fun K hK => ?_) (AllReadyH.nil)
            · skip
              refine step_appG rfl _ _ 28 rfl w0.heap.size i0 (.agg #[.string ⟨#[]⟩, .string ⟨#[]⟩]) 32 Tryz.underlying28 hi0 hz0 hz1 hz2 rfl _ 0 (labs []) rfl own0.out A1 nL c1 (labs L) rfl (HRL.out _ hHeld) ?_ (by unfold maxLen; omega) (by omega) hHeld.size ?_
              · exact labs_one _
              intro v2 wn hown hg
              have hHn : w0.grownBy wn none := grown_new hHeld hg (fun k e => (own0.out.lt k e).1)
              have Own2 := Lib.hid hown
              replace HD := Lib.hid ((hg.block gD (heap_lt HD.out) (fun e => hnD (by injection e))).trans HD.out)
              replace hA := Lib.hid ((hg.block g20 (heap_lt hA.out) (own_ne own0.out hA.out (by decide))).trans hA.out)
              refine hK.out _ _ hHn (fun _ => ?_)
              replace hHeld := hHn
              clear hHn hown hg own0
              obtain ⟨wc, rfl⟩ : ∃ x, x = wn := ⟨_, rfl⟩
              clear hK K
              try simp only [Act.put, List.setIfInBounds_toArray, List.set_cons_zero, List.set_cons_succ]
              refine wpAnyH_ready (rs := [5]) (by kernel_rfl) (by simp) ?_
              refine AllReadyH.cons (o := ⟨some 144, _, _, _, _, _⟩) rfl (fun K hK => ?_) (AllReadyH.nil)
              · skip
                refine step_appG rfl _ _ 28 rfl w0.heap.size i0 (.agg #[.string ⟨#[]⟩, .string ⟨#[]⟩]) 32 Tryz.underlying28 hi0 hz0 hz1 hz2 rfl v2 (0 + nL) (labs [] ++ labs L) rfl Own2.out (some ⟨gD, 0, none⟩) 1 1 [.string nm, .string vl] rfl (rd_two HD.out) ?_ (by unfold maxLen; omega) (by omega) hHeld.size ?_
                · intro u hu; simp at hu; rcases hu with rfl | rfl <;> rfl
                intro v5 wn hown hg
                have hHn : w0.grownBy wn none := grown_new hHeld hg (fun k e => (Own2.out.lt k e).1)
                have Own5 := Lib.hid hown
                replace hA := Lib.hid ((hg.block g20 (heap_lt hA.out) (own_ne Own2.out hA.out (by decide))).trans hA.out)
                refine hK.out _ _ hHn (fun _ => ?_)
                replace hHeld := hHn
                clear hHn hown hg Own2 HD
                obtain ⟨wc, rfl⟩ : ∃ x, x = wn := ⟨_, rfl⟩
                clear hK K
                try simp only [Act.put, List.setIfInBounds_toArray, List.set_cons_zero, List.set_cons_succ]
                refine wpAnyH_ready (rs := [7]) (by kernel_rfl) (by simp) ?_
                refine AllReadyH.cons (o := ⟨none, _, _, _, _, _⟩) rfl (fun K hK => ?_) (AllReadyH.nil)
                · have d0 : wc.cell? ⟨g20, 0, none⟩ = some (.slice none 0 0) := cell_of_row _ g20 0 _ _ _ hA.out
                  have f0 : ∀ j, wc.frozen? ⟨g20, j, none⟩ = false := fun j => by simp [World.frozen?, hA.out]
                  obtain ⟨A20, c20, hv5, _, hr5⟩ := own_rd Own5.out
                  have hn5 := own_ne Own5.out hA.out (by decide)
                  have e5 : 0 + nL + 1 = nL + 1 := by omega
                  rw [e5] at hv5 hr5
                  clear Own5
                  subst hv5
                  have hgs := grown_set wc g20 0 (.slice A20 (nL + 1) c20)
                  have R20 := Lib.hid (rd_grown hr5 hgs (fun ad e e2 => hn5 (by rw [e]; exact e2.symm)) hgs.size)
                  have hA2 := Lib.hid (heap_setCell_same wc g20 0 _ _ (.slice A20 (nL + 1) c20) hA.out)
                  have hHn : w0.grownBy _ none := grown_new hHeld hgs (fun k e => by injection e with e; omega)
                  clear e5 hr5 hn5 hgs
                  go_simp
                  refine hK.out _ _ hHn (fun _ => ?_)
                  clear d0 f0 hA
                  clear hK K
                  try simp only [Act.put, List.setIfInBounds_toArray, List.set_cons_zero, List.set_cons_succ]
                  refine wpAnyH_done (by kernel_rfl) ?_ _
                  go_wp2_with fail
                  go_meet
                  exact ⟨g20, A20, c20, rfl, hA2, R20, Hfin.out _ (grown_keptN hHn)⟩
    case rest =>
      obtain ⟨g20, A20, c20, rfl, hx20, R20, hk20⟩ := hcut
      have Kz : Hid (Kept w2 wc) := below_kept hkx.out hk20.out
      have Kw : Hid (Kept w wc) := below_kept K2.out Kz.out
      have hy9 := Lib.hid (heap_kept hk20.out hx9.out)
      have hy7 := Lib.hid (heap_kept hk20.out hx7.out)
      have hlen : nL + 1 = (L ++ [(nm, vl)]).length := by rw [List.length_append, List.length_singleton, ← HnL.out]
      have RA : Hid (RdL wc wc.heap.size A20 (L ++ [(nm, vl)])) := by
        show Rd _ _ _ _ _
        rw [← hlen, labs_app]
        exact R20.out
      have HTz := Lib.hid (HT.out.below Kw.out)
      have R1z := Lib.hid ((R1.out.below Kz.out).more Kz.out.size)
      have hrb := rgt_bad B.out.1 B.out.2
      have CK : Hid (∀ W, Kept wc W → Calls Tryz.prog 12 #[.slice A20 (nL + 1) c20] W fun e w' => e = .returned (.tuple #[.int .i64 (nL : Int), .int .i64 wt]) ∧ Kept W w') := fun W h => by
        have h2 := check_any' A20 c20 (L ++ [(nm, vl)]) (by rw [← hlen]; omega) W ((RA.out.below h).more h.size) (HTz.out.below h)
        rw [B.out.1, ← hlen, ← HnL.out] at h2
        exact h2
      have CO : Hid (∀ W, Kept wc W → Calls Tryz.prog 13 #[.slice A20 (nL + 1) c20] W fun e w' => ∃ v, e = .returned (.tuple #[v, .int .i64 (offE (nm, vl) wt)]) ∧ Kept W w') := fun W h => bad_of n1.out hbad.out hlen ((RA.out.below h).more h.size) (HTz.out.below h)
      have CR : Hid (∀ W, Kept wc W → Calls Tryz.prog 16 #[.slice A20 (nL + 1) c20] W fun e w' => e = .returned (.bool false) ∧ Kept W w') := fun W h => by
        have h2 := right_any A20 c20 (L ++ [(nm, vl)]) (by rw [← hlen]; omega) W ((RA.out.below h).more h.size) (HTz.out.below h)
        rw [hrb, ← hlen] at h2
        exact h2
      have CS : Hid (∀ W, Kept wc W → Calls Tryz.prog 15 #[.slice A1 nL c1, .slice (some ⟨W.heap.size, 0, none⟩) 1 1] (W.alloc (.cells #[.string nm, .string vl] 33)) fun e w' => ∃ v, e = .returned (.tuple #[v, .int .i64 (setE wt)]) ∧ Kept W w') := fun W h => by
        have hka : Kept W (W.alloc (.cells #[.string nm, .string vl] 33)) := (Below.refl _ _).alloc (Nat.le_refl _) _
        have h1 := below_kept h hka
        refine (bad_set n1.out hbad.out HnL.out (c1 := 1) ((R1z.out.below h1).more h1.size) (rdl_lit W (nm, vl)) (HTz.out.below h1)).mono ?_
        rintro e w' ⟨v, he, hk⟩
        exact ⟨v, he, below_kept hka hk⟩
      have Hcl9 : Hid (∀ W, Kept wc W → ∀ j v, (#[.string nm, .string vl] : Array Value)[j]? = some v → W.cell? ((⟨g9, 0, none⟩ : Addr).add j) = some v) := fun W h j v hv => by
        rw [add0, cell_of_row _ g9 j _ _ _ (heap_kept h hy9.out)]
        exact hv
      have Q20 : Hid (∀ W, Kept wc W → W.cell? ⟨g20, 0, none⟩ = some (.slice A20 (nL + 1) c20)) := fun W h => cell_of_row _ _ _ _ _ _ (heap_kept h hx20.out)
      have Q7 : Hid (∀ W, Kept wc W → W.cell? ⟨g7, 0, none⟩ = some (.slice A1 nL c1)) := fun W h => cell_of_row _ _ _ _ _ _ (heap_kept h hy7.out)
      have Q91 : Hid (∀ W, Kept wc W → W.cell? ⟨g9, 1, none⟩ = some (.string vl)) := fun W h => cell_of_row _ _ _ _ _ _ (heap_kept h hy9.out)
      have CF1 : Hid (∀ W, Kept wc W → Calls Tryz.prog 17 #[.pointer (some ⟨g20, 0, none⟩)] W fun e w' => e = .returned (.tuple #[.slice none 0 0, .int .i64 44]) ∧ Kept W w') := fun W h => (wr1_any g20 (by rw [← hlen]; omega) hlen hrb ((RA.out.below h).more h.size) (HTz.out.below h) (Q20.out W h))
      have CF2 : Hid (∀ W, Kept wc W → Calls Tryz.prog 18 #[.pointer (some ⟨g7, 0, none⟩), .pointer (some ⟨g20, 0, none⟩)] W fun e w' => e = .returned (.tuple #[.slice none 0 0, .int .i64 44]) ∧ Kept W w') := fun W h => (wr2_any g20 g7 (by rw [← hlen]; omega) hlen hrb ((RA.out.below h).more h.size) (HTz.out.below h) (Q20.out W h) (by rw [← HnL.out]; omega) HnL.out ((R1z.out.below h).more h.size) (Q7.out W h))
      have CF3 : Hid (∀ W, Kept wc W → Calls Tryz.prog 19 #[.pointer (some ⟨g20, 0, none⟩), .pointer (some ⟨g7, 0, none⟩)] W fun e w' => e = .returned (.tuple #[.slice none 0 0, .int .i64 44]) ∧ Kept W w') := fun W h => (wr3_any g20 g7 (by rw [← hlen]; omega) hlen hrb ((RA.out.below h).more h.size) (HTz.out.below h) (Q20.out W h) (by rw [← HnL.out]; omega) HnL.out ((R1z.out.below h).more h.size) (Q7.out W h))
      have CF4 : Hid (∀ W, Kept wc W → Calls Tryz.prog 21 #[.pointer (some ⟨g7, 0, none⟩), .pointer (some ⟨g20, 0, none⟩)] W fun e w' => e = .returned (.tuple #[.slice none 0 0, .int .i64 44]) ∧ Kept W w') := fun W h => (wr4_any g20 g7 (by rw [← hlen]; omega) hlen hrb ((RA.out.below h).more h.size) (HTz.out.below h) (Q20.out W h) (by rw [← HnL.out]; omega) HnL.out ((R1z.out.below h).more h.size) (Q7.out W h))
      have CF5 : Hid (∀ W, Kept wc W → Calls Tryz.prog 22 #[.pointer (some ⟨g20, 0, none⟩)] W fun e w' => e = .returned (.tuple #[.slice none 0 0, .int .i64 44]) ∧ Kept W w') := fun W h => (wr5_any g20 (by rw [← hlen]; omega) hlen hrb ((RA.out.below h).more h.size) (HTz.out.below h) (Q20.out W h))
      have CF6 : Hid (∀ W, Kept wc W → Calls Tryz.prog 24 #[.pointer (some ⟨g20, 0, none⟩)] W fun e w' => e = .returned (.tuple #[.slice none 0 0, .int .i64 44]) ∧ Kept W w') := fun W h => (wr6_any g20 (by rw [← hlen]; omega) hlen hrb ((RA.out.below h).more h.size) (HTz.out.below h) (Q20.out W h))
      have CF7 : Hid (∀ W, Kept wc W → Calls Tryz.prog 26 #[.pointer (some ⟨g20, 0, none⟩)] W fun e w' => e = .returned (.tuple #[.slice none 0 0, .int .i64 44]) ∧ Kept W w') := fun W h => (wr7_any g20 (by rw [← hlen]; omega) hlen hrb ((RA.out.below h).more h.size) (HTz.out.below h) (Q20.out W h))
      have Kr := Lib.hid (Below.refl wc.heap.size wc)
      have y20 := Q20.out _ Kr.out
      have HE : Hid ((wt ≠ 42 ∧ offE (nm, vl) wt = wt ∧ setE wt = wt) ∨ (wt = 42 ∧ vl = ⟨#[]⟩ ∧ offE (nm, vl) wt = 0 ∧ setE wt = 0) ∨ (wt = 42 ∧ vl ≠ ⟨#[]⟩ ∧ offE (nm, vl) wt = 43 ∧ setE wt = 0)) := by
        unfold offE setE
        by_cases h1 : wt = 42
        · by_cases h2 : vl = ⟨#[]⟩
          · exact .inr (.inl ⟨h1, h2, by rw [if_pos h1, if_pos h2], by rw [if_pos h1]⟩)
          · exact .inr (.inr ⟨h1, h2, by rw [if_pos h1, if_neg h2], by rw [if_pos h1]⟩)
        · exact .inl ⟨h1, by rw [if_neg h1], by rw [if_neg h1]⟩
      generalize offE (nm, vl) wt = fo at *
      generalize setE wt = fs at *
      clear hx20 hx9 hx7 R20 hmod hk77 B hbad hrb hlen
      go_upto_region 35 with (first
        | (go_at_call 12; refine (CK.out _ Kr.out).mono ?_; rintro e v1 ⟨rfl, hk1⟩; have Kv1 := Lib.hid hk1; have y20b := Q20.out _ hk1; clear hk1)
        | (go_at_call 13; refine (CO.out _ Kv1.out).mono ?_; rintro e v2 ⟨vo, rfl, hk2⟩; have Kv2 := Lib.hid (below_kept Kv1.out hk2); have y7 := Q7.out _ Kv2.out; have hcl := Lib.hid (Hcl9.out _ Kv2.out); clear hk2)
        | (refine wpList_load_at rfl 33 (.tmp 9) rfl ⟨g9, 0, none⟩ rfl #[.string nm, .string vl] _ hcl.out Tryz.underlying33 rfl sizeL ?_)
        | (go_at_call 15; refine (CS.out _ Kv2.out).mono ?_; rintro e v3 ⟨vs, rfl, hk3⟩; have Kv3 := Lib.hid (below_kept Kv2.out hk3); have y7b := Q7.out _ Kv3.out; have y20c := Q20.out _ Kv3.out; clear hk3))
      go_upto_if 176 with (go_at_call 16; refine (CR.out _ Kv3.out).mono ?_; rintro e v4 ⟨rfl, hk4⟩; have Kv4 := Lib.hid (below_kept Kv3.out hk4); have y91 := Q91.out _ Kv4.out; clear hk4)
      go_cut [176] (fun _ wx => Hid (Kept v4 wx))
      case first =>
        rcases HE.out with ⟨h42, e1, e2⟩ | ⟨rfl, rfl, rfl, rfl⟩ | ⟨rfl, hvl, rfl, rfl⟩
        · subst e1 e2
          have h42b : (fs == 42) = false := beq_false_of_ne h42
          clear h42
          go_wp2_with fail
          go_meet
          exact Below.refl _ _
        · go_wp2_with fail
          go_meet
          exact Below.refl _ _
        · have hbz := empty_no hvl
          go_wp2_with fail
          go_meet
          exact Below.refl _ _
      case rest =>
        have Kv5 := Lib.hid (below_kept Kv4.out hcut.out)
        go_wp2_with fail
        obtain ⟨wF, hwF, hF0, hkF, hltF⟩ := new_row wc #[.func (.func 17) #[] #[.pointer (some ⟨g20, 0, none⟩)], .func (.func 18) #[] #[.pointer (some ⟨g7, 0, none⟩), .pointer (some ⟨g20, 0, none⟩)], .func (.func 19) #[] #[.pointer (some ⟨g20, 0, none⟩), .pointer (some ⟨g7, 0, none⟩)], .func (.func 21) #[] #[.pointer (some ⟨g7, 0, none⟩), .pointer (some ⟨g20, 0, none⟩)], .func (.func 22) #[] #[.pointer (some ⟨g20, 0, none⟩)], .func (.func 24) #[] #[.pointer (some ⟨g20, 0, none⟩)], .func (.func 26) #[] #[.pointer (some ⟨g20, 0, none⟩)]] 45
        obtain ⟨gF, hgF⟩ : ∃ g, g = wc.heap.size := ⟨_, rfl⟩
        rw [← hwF, ← hgF]
        rw [← hgF] at hF0
        have HF0 := Lib.hid hF0
        have KF := Lib.hid (below_kept Kv5.out hkF)
        clear hwF hF0 hkF hltF hgF Kv1 Kv2 Kv3 Kv4 Kv5 y20 y20b y20c y7 y7b y91 hcl
        go_loopw [204] (fun v204 wr => ∃ i : Nat, i ≤ 7 ∧ v204 = .int .i64 i ∧ Hid (Kept wF wr)) (fun v204 _ => 7 - (intOf v204).toNat)
        case atStart => exact ⟨0, by omega, rfl, Below.refl _ _⟩
        case round =>
          obtain ⟨i, hi, rfl, hkr⟩ := hrel
          have KW := Lib.hid (below_kept KF.out hkr.out)
          have HFr := heap_kept hkr.out HF0.out
          by_cases hin : i < 7
          · have hinI : (i : Int) < 7 := by omega
            rcases (by omega : i = 0 ∨ i = 1 ∨ i = 2 ∨ i = 3 ∨ i = 4 ∨ i = 5 ∨ i = 6) with rfl | rfl | rfl | rfl | rfl | rfl | rfl
            · have hcf : wr.cell? ⟨gF, 0, none⟩ = some (.func (.func 17) #[] #[.pointer (some ⟨g20, 0, none⟩)]) := cell_of_row _ _ _ _ _ _ HFr
              go_wp2_with (go_at_call 17; refine (CF1.out _ KW.out).mono ?_; rintro e v9 ⟨rfl, hk9⟩; have K9 := Lib.hid (below_kept hkr.out hk9); clear hk9)
              go_roundw
              case rel => exact ⟨1, by omega, by first | rfl | go_num, K9⟩
              case measure => simp [intOf]
            · have hcf : wr.cell? ⟨gF, 1, none⟩ = some (.func (.func 18) #[] #[.pointer (some ⟨g7, 0, none⟩), .pointer (some ⟨g20, 0, none⟩)]) := cell_of_row _ _ _ _ _ _ HFr
              go_wp2_with (go_at_call 18; refine (CF2.out _ KW.out).mono ?_; rintro e v9 ⟨rfl, hk9⟩; have K9 := Lib.hid (below_kept hkr.out hk9); clear hk9)
              go_roundw
              case rel => exact ⟨2, by omega, by first | rfl | go_num, K9⟩
              case measure => simp [intOf]
            · have hcf : wr.cell? ⟨gF, 2, none⟩ = some (.func (.func 19) #[] #[.pointer (some ⟨g20, 0, none⟩), .pointer (some ⟨g7, 0, none⟩)]) := cell_of_row _ _ _ _ _ _ HFr
              go_wp2_with (go_at_call 19; refine (CF3.out _ KW.out).mono ?_; rintro e v9 ⟨rfl, hk9⟩; have K9 := Lib.hid (below_kept hkr.out hk9); clear hk9)
              go_roundw
              case rel => exact ⟨3, by omega, by first | rfl | go_num, K9⟩
              case measure => simp [intOf]
            · have hcf : wr.cell? ⟨gF, 3, none⟩ = some (.func (.func 21) #[] #[.pointer (some ⟨g7, 0, none⟩), .pointer (some ⟨g20, 0, none⟩)]) := cell_of_row _ _ _ _ _ _ HFr
              go_wp2_with (go_at_call 21; refine (CF4.out _ KW.out).mono ?_; rintro e v9 ⟨rfl, hk9⟩; have K9 := Lib.hid (below_kept hkr.out hk9); clear hk9)
              go_roundw
              case rel => exact ⟨4, by omega, by first | rfl | go_num, K9⟩
              case measure => simp [intOf]
            · have hcf : wr.cell? ⟨gF, 4, none⟩ = some (.func (.func 22) #[] #[.pointer (some ⟨g20, 0, none⟩)]) := cell_of_row _ _ _ _ _ _ HFr
              go_wp2_with (go_at_call 22; refine (CF5.out _ KW.out).mono ?_; rintro e v9 ⟨rfl, hk9⟩; have K9 := Lib.hid (below_kept hkr.out hk9); clear hk9)
              go_roundw
              case rel => exact ⟨5, by omega, by first | rfl | go_num, K9⟩
              case measure => simp [intOf]
            · have hcf : wr.cell? ⟨gF, 5, none⟩ = some (.func (.func 24) #[] #[.pointer (some ⟨g20, 0, none⟩)]) := cell_of_row _ _ _ _ _ _ HFr
              go_wp2_with (go_at_call 24; refine (CF6.out _ KW.out).mono ?_; rintro e v9 ⟨rfl, hk9⟩; have K9 := Lib.hid (below_kept hkr.out hk9); clear hk9)
              go_roundw
              case rel => exact ⟨6, by omega, by first | rfl | go_num, K9⟩
              case measure => simp [intOf]
            · have hcf : wr.cell? ⟨gF, 6, none⟩ = some (.func (.func 26) #[] #[.pointer (some ⟨g20, 0, none⟩)]) := cell_of_row _ _ _ _ _ _ HFr
              go_wp2_with (go_at_call 26; refine (CF7.out _ KW.out).mono ?_; rintro e v9 ⟨rfl, hk9⟩; have K9 := Lib.hid (below_kept hkr.out hk9); clear hk9)
              go_roundw
              case rel => exact ⟨7, by omega, by first | rfl | go_num, K9⟩
              case measure => simp [intOf]
          · obtain rfl : i = 7 := by omega
            go_wp2_with fail
            go_ret
            exact ⟨rfl, below_kept Kw.out KW.out⟩
end Go.Proofs.YtnnnpnmiepbbeaaGreatDoor
