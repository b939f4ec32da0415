/-
  Package syntax: a reader's numbers. Package syntax: what a node says, of whose parts it is known what they say.
-/
import Derived.Test.YtmgkdmbifecekaaGreatDoorMmaj
import Derived.Lib.SmallJoins
import Derived.Deep.RegionHeld3
import Derived.Test.YtmgkdmbifecekaaGreatDoorMmai
set_option linter.all false
set_option linter.unusedSimpArgs false
set_option linter.unusedVariables false
set_option linter.unusedSectionVars false
namespace Go.Proofs.YtmgkdmbifecekaaGreatDoor
open Go.RowKit Go.Shelf
abbrev b8 (l : Bs) : ByteArray := ⟨l.toArray⟩
theorem b8_list (l : Bs) : (b8 l).data.toList = l := rfl
theorem b8_size (l : Bs) : (b8 l).size = l.length := rfl
theorem dig_mem (b : UInt8) : ([48, 49, 50, 51, 52, 53, 54, 55, 56, 57] : Bs).contains b = digP b := by
  have e : ∀ n : UInt8, (b == n) = decide (b.toNat = n.toNat) := fun n => by
    by_cases h : b = n
    · subst h; simp
    · have h2 : b.toNat ≠ n.toNat := fun h3 => h (UInt8.toNat_inj.1 h3)
      simp [h, h2]
  unfold digP
  rw [Bool.eq_iff_iff]
  simp only [List.contains_cons, List.contains_nil, e, Bool.or_false, Bool.or_eq_true, decide_eq_true_eq, Bool.and_eq_true]
  show b.toNat = 48 ∨ b.toNat = 49 ∨ b.toNat = 50 ∨ b.toNat = 51 ∨ b.toNat = 52 ∨ b.toNat = 53 ∨ b.toNat = 54 ∨ b.toNat = 55 ∨ b.toNat = 56 ∨ b.toNat = 57 ↔ 48 ≤ b.toNat ∧ b.toNat ≤ 57
  omega
theorem trim_dig (l : Bs) : Lib.trimLeftS l [48, 49, 50, 51, 52, 53, 54, 55, 56, 57] = numR l := by
  unfold Lib.trimLeftS numR
  congr 1
  funext b
  exact dig_mem b
theorem take_num (l : Bs) : l.take (l.length - (numR l).length) = l.takeWhile digP := by
  have h : l.takeWhile digP ++ numR l = l := List.takeWhile_append_dropWhile
  have hl : (l.takeWhile digP).length + (numR l).length = l.length := by
    have := congrArg List.length h
    rw [List.length_append] at this
    exact this
  rw [show l.length - (numR l).length = (l.takeWhile digP).length from by omega]
  have h2 := List.take_left (l₁ := l.takeWhile digP) (l₂ := numR l)
  rw [h] at h2
  exact h2
theorem dig_all (l : Bs) : ∀ b ∈ l.takeWhile digP, digP b = true := fun b hb => by
  have := List.all_takeWhile (p := digP) (l := l)
  exact List.all_eq_true.1 this b hb
theorem digP_val {b : UInt8} (h : digP b = true) : Lib.digitVal b = some (b.toNat - 48) := by
  unfold digP at h
  simp at h
  unfold Lib.digitVal
  rw [if_pos h]
theorem dig_of {b : UInt8} (h : digP b = true) : ∃ i : Nat, i < 10 ∧ b = UInt8.ofNat (48 + i) := by
  unfold digP at h
  simp at h
  refine ⟨b.toNat - 48, by omega, ?_⟩
  apply UInt8.toNat_inj.1
  simp
  omega
/-- Of one or two digits. -/
theorem two_digits (ds : Bs) (h1 : 0 < ds.length) (h2 : ds.length ≤ 2) (hd : ∀ b ∈ ds, digP b = true) : Lib.atoi ds = some (decN ds : Nat) ∧ decN ds < 100 ∧ (Lib.decDigits (decN ds) = ds ↔ ¬ (ds.headD 0 = 48 ∧ ds.length ≠ 1)) := by
  rcases ds with _ | ⟨a, _ | ⟨b, _ | ⟨c, r⟩⟩⟩
  · simp at h1
  · obtain ⟨i, hi, rfl⟩ := dig_of (hd a (by simp))
    rcases (by omega : i = 0 ∨ i = 1 ∨ i = 2 ∨ i = 3 ∨ i = 4 ∨ i = 5 ∨ i = 6 ∨ i = 7 ∨ i = 8 ∨ i = 9) with rfl | rfl | rfl | rfl | rfl | rfl | rfl | rfl | rfl | rfl <;> refine ⟨by rfl, by decide, ?_⟩ <;> (rw [Lib.decDigits]; simp [decN])
  · obtain ⟨i, hi, rfl⟩ := dig_of (hd a (by simp))
    obtain ⟨j, hj, rfl⟩ := dig_of (hd b (by simp))
    have hv : decN [UInt8.ofNat (48 + i), UInt8.ofNat (48 + j)] = i * 10 + j := by
      unfold decN
      simp
      omega
    refine ⟨?_, by rw [hv]; omega, ?_⟩
    · rw [hv]
      have ha := digP_val (hd (UInt8.ofNat (48 + i)) (by simp))
      have hb := digP_val (hd (UInt8.ofNat (48 + j)) (by simp))
      have ht1 : (UInt8.ofNat (48 + i)).toNat = 48 + i := by simp; omega
      have ht2 : (UInt8.ofNat (48 + j)).toNat = 48 + j := by simp; omega
      rw [ht1] at ha
      rw [ht2] at hb
      have n45 : (UInt8.ofNat (48 + i) == 45) = false := by
        rw [beq_eq_false_iff_ne]
        intro e
        have := congrArg UInt8.toNat e
        rw [ht1] at this
        have h45 : (45 : UInt8).toNat = 45 := rfl
        omega
      have n43 : (UInt8.ofNat (48 + i) == 43) = false := by
        rw [beq_eq_false_iff_ne]
        intro e
        have := congrArg UInt8.toNat e
        rw [ht1] at this
        have h43 : (43 : UInt8).toNat = 43 := rfl
        omega
      simp only [Lib.atoi, n45, n43, Bool.false_eq_true, if_false, Lib.decNat, List.isEmpty_cons, Lib.decFrom, ha, hb]
      simp
    · rw [hv]
      have ht1 : (UInt8.ofNat (48 + i)).toNat = 48 + i := by simp; omega
      by_cases h0 : i = 0
      · subst h0
        rw [Lib.decDigits, dif_pos (by omega)]
        simp
      · rw [Lib.decDigits, dif_neg (by omega), show (i * 10 + j) / 10 = i from by omega, show (i * 10 + j) % 10 = j from by omega, Lib.decDigits, dif_pos hi]
        simp
        intro e
        have := congrArg UInt8.toNat e
        simp at this
        omega
  · simp at h2
theorem trimLeft_dig (l : Bs) (w : World) : Calls Tryz.prog 158 #[.string (b8 l), .string ⟨#[48, 49, 50, 51, 52, 53, 54, 55, 56, 57]⟩] w fun e w' => e = .returned (.string (b8 (numR l))) ∧ Kept w w' := by
  have h := Any.strings_TrimLeft_laid sh_lays161 (by kernel_rfl) (b8 l) ⟨#[48, 49, 50, 51, 52, 53, 54, 55, 56, 57]⟩ w (by decide) (fun j b hb => by
    have hm : b ∈ ([48, 49, 50, 51, 52, 53, 54, 55, 56, 57] : Bs) := List.mem_of_getElem? hb
    have := dig_mem b
    rw [List.contains_iff_mem.2 hm] at this
    have h2 := this.symm
    unfold digP at h2
    simp at h2
    omega)
  rw [b8_list, show (⟨#[48, 49, 50, 51, 52, 53, 54, 55, 56, 57]⟩ : ByteArray).data.toList = [48, 49, 50, 51, 52, 53, 54, 55, 56, 57] from rfl, trim_dig] at h
  exact h
end Go.Proofs.YtmgkdmbifecekaaGreatDoor
namespace Go.Proofs.YtmgkdmbifecekaaGreatDoor
open Go.RowKit Go.Shelf
theorem alloc_new2 (w : World) (a b c : Obj) : (((w.alloc a).alloc b).alloc c).heap[w.heap.size + 1 + 1]? = some c := by
  have := heap_alloc_new ((w.alloc a).alloc b) c
  rw [World.size_alloc, World.size_alloc] at this
  exact this
section
variable (d g l m : Int) (en lo : Bool) (k : Int) (A1 : Option Addr) (sn c1 : Nat) (mn mx : Int) (lz : Bool) (A2 : Option Addr) (un c2 : Nat) (w : World)
set_option maxHeartbeats 1000000 in
theorem of_plain (hd : 0 ≤ d ∧ d ≤ 1000000) (h2 : k ≠ 2) (h5 : k ≠ 5) (h6 : k ≠ 6) : Calls Tryz.prog 71 #[fctV ⟨d, g, l, m, en, lo⟩, ndV k A1 sn c1 mn mx lz A2 un c2] w fun e w' => e = .returned (fctV ⟨d + 1, g, l, m, en, lo⟩) ∧ Kept w w' := by
  obtain ⟨hd1, hd2⟩ := hd
  have e2 : (k == 2) = false := by simp [h2]
  have e5 : (k == 5) = false := by simp [h5]
  have e6 : (k == 6) = false := by simp [h6]
  clear h2 h5 h6
  unfold fctV
  dsimp only
  go_enter Tryz.func71, Tryz.ntmps71
  go_wp2_with fail
  exact bodyPost_ret (results_cell_row Tryz.results71 _ _ (w.heap.size + 1 + 1) _ #[.int .i64 (d + 1), .int .i64 g, .int .i64 l, .int .i64 m, .bool en, .bool lo] (0, 0) _ rfl (alloc_new2 _ _ _ _) Tryz.underlying98 rfl sizeFc) rfl ⟨rfl, (((Below.refl _ w).alloc (Nat.le_refl _) _).alloc (by simp) _).alloc (by simp; omega) _⟩
set_option maxHeartbeats 1000000 in
theorem of_set (hd : 0 ≤ d ∧ d ≤ 1000000) : Calls Tryz.prog 71 #[fctV ⟨d, g, l, m, en, lo⟩, ndV 2 A1 sn c1 mn mx lz A2 un c2] w fun e w' => e = .returned (fctV ⟨d + 1, g, 1, 1, en, lo⟩) ∧ Kept w w' := by
  obtain ⟨hd1, hd2⟩ := hd
  unfold fctV
  dsimp only
  go_enter Tryz.func71, Tryz.ntmps71
  go_wp2_with fail
  exact bodyPost_ret (results_cell_row Tryz.results71 _ _ (w.heap.size + 1 + 1) _ #[.int .i64 (d + 1), .int .i64 g, .int .i64 1, .int .i64 1, .bool en, .bool lo] (0, 0) _ rfl (alloc_new2 _ _ _ _) Tryz.underlying98 rfl sizeFc) rfl ⟨rfl, (((Below.refl _ w).alloc (Nat.le_refl _) _).alloc (by simp) _).alloc (by simp; omega) _⟩
set_option maxHeartbeats 1000000 in
theorem of_group (hd : 0 ≤ d ∧ d ≤ 1000000) (hg : 0 ≤ g ∧ g ≤ 1073741824) : Calls Tryz.prog 71 #[fctV ⟨d, g, l, m, en, lo⟩, ndV 6 A1 sn c1 mn mx lz A2 un c2] w fun e w' => e = .returned (fctV ⟨d + 1, capI (g + 1), l, m, en, lo⟩) ∧ Kept w w' := by
  obtain ⟨hd1, hd2⟩ := hd
  obtain ⟨hg1, hg2⟩ := hg
  have CC := Lib.hid capped_any
  unfold fctV
  dsimp only
  go_enter Tryz.func71, Tryz.ntmps71
  go_wp2_with fail
  refine (CC.out _ _).mono ?_
  rintro e w1 ⟨rfl, rfl⟩
  clear CC
  go_wp2_with fail
  exact bodyPost_ret (results_cell_row Tryz.results71 _ _ (w.heap.size + 1 + 1) _ #[.int .i64 (d + 1), .int .i64 (capI (g + 1)), .int .i64 l, .int .i64 m, .bool en, .bool lo] (0, 0) _ rfl (alloc_new2 _ _ _ _) Tryz.underlying98 rfl sizeFc) rfl ⟨rfl, (((Below.refl _ w).alloc (Nat.le_refl _) _).alloc (by simp) _).alloc (by simp; omega) _⟩
end
end Go.Proofs.YtmgkdmbifecekaaGreatDoor
