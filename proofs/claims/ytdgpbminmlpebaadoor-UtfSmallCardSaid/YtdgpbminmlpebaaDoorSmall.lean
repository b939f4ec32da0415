/-
  What the closed statement on small strings needs: its strings, its borders, and a string of zeros that is just long enough.
-/
import Derived.Test.YtdgpbminmlpebaaDoorReads
import Derived.Test.YtdgpbminmlpebaaDoorTells
import Derived.Test.YtdgpbminmlpebaaDoorTexts
namespace Go.Proofs.YtdgpbminmlpebaaDoor
open Go.RowKit Mt
def someL : List ByteArray := [⟨#[]⟩, ⟨#[0]⟩, ⟨#[65]⟩, ⟨#[127]⟩, ⟨#[128]⟩, ⟨#[143]⟩, ⟨#[144]⟩, ⟨#[159]⟩, ⟨#[160]⟩, ⟨#[191]⟩, ⟨#[192]⟩, ⟨#[255]⟩]
def someS (k : Nat) : ByteArray := someL.getD k ⟨#[]⟩
theorem some_all (k : Nat) (hk : k < 12) : (someL.map Value.string)[k]? = some (.string (someS k)) ∧ (someS k).size ≤ 1 := by
  rcases (by omega : k = 0 ∨ k = 1 ∨ k = 2 ∨ k = 3 ∨ k = 4 ∨ k = 5 ∨ k = 6 ∨ k = 7 ∨ k = 8 ∨ k = 9 ∨ k = 10 ∨ k = 11) with rfl | rfl | rfl | rfl | rfl | rfl | rfl | rfl | rfl | rfl | rfl | rfl <;> exact ⟨rfl, by decide⟩
def bordL : List Int := [-9223372036854775808, -1, 0, 1, 127, 128, 2047, 2048, 55295, 55296, 56319, 56320, 57343, 57344, 65535, 65536, 1114111, 1114112, 9223372036854775807]
theorem bord_all (k : Nat) (hk : k < 19) : (i64s bordL)[k]? = some (.int .i64 (bordL.getD k 0)) ∧ -9223372036854775808 ≤ bordL.getD k 0 ∧ bordL.getD k 0 ≤ 9223372036854775807 := by
  rcases (by omega : k = 0 ∨ k = 1 ∨ k = 2 ∨ k = 3 ∨ k = 4 ∨ k = 5 ∨ k = 6 ∨ k = 7 ∨ k = 8 ∨ k = 9 ∨ k = 10 ∨ k = 11 ∨ k = 12 ∨ k = 13 ∨ k = 14 ∨ k = 15 ∨ k = 16 ∨ k = 17 ∨ k = 18) with rfl | rfl | rfl | rfl | rfl | rfl | rfl | rfl | rfl | rfl | rfl | rfl | rfl | rfl | rfl | rfl | rfl | rfl | rfl <;> exact ⟨rfl, by decide⟩
/-- So many zeros. -/
def zeros (n : Nat) : List Int := List.replicate n 0
theorem zeros_pt (n : Nat) : AllPt (zeros n) := fun x hx => by rw [List.eq_of_mem_replicate hx]; rfl
theorem zeros_forms (n : Nat) : forms (zeros n) = zeros n := by
  unfold zeros
  induction n with
  | zero => rfl
  | succ n ih => rw [List.replicate_succ, forms_cons, ih]; rfl
theorem zeros_len (n : Nat) : (zeros n).length = n := List.length_replicate ..
theorem zeros_take (n k : Nat) (h : k ≤ n) : (zeros n).take k = zeros k := by unfold zeros; rw [List.take_replicate, Nat.min_eq_left h]
theorem zeros_drop (n k : Nat) : (zeros n).drop k = zeros (n - k) := by unfold zeros; rw [List.drop_replicate]
theorem zeros_cut (n : Nat) : cutEnd (zeros (n + 1)) (n : Int) = n := by
  obtain ⟨j, h1, h2, h3, h4⟩ := cut_forms (zeros_pt (n + 1)) (n : Int) (by omega)
  rw [zeros_forms, zeros_len] at *
  rw [zeros_take _ _ h1, zeros_forms, zeros_len] at h2 h3 h4
  have h5 := h4 (by omega)
  have : szP ((zeros (n + 1)).getD j 0) = 1 := by
    have hj : j < (zeros (n + 1)).length := by rw [zeros_len]; omega
    have : (zeros (n + 1)).getD j 0 = 0 := by simp [zeros, List.getD, List.getElem?_replicate]; split <;> rfl
    rw [this]; rfl
  rw [h2]
  omega
theorem textR_size (l : List Int) : (textR l).1.size ≤ 4 * l.length := by
  unfold textR
  split
  · show (strOfNums (forms l)).size ≤ _
    rw [strOfNums_size]; exact (forms_len l).2
  · exact Nat.zero_le _
theorem zeros_bd (n : Nat) : ∀ c ∈ zeros n, 0 ≤ c ∧ c ≤ 255 := fun x hx => by rw [List.eq_of_mem_replicate hx]; omega
theorem made_zeros (n : Nat) : (madeCells (Value.int .u8 0).cells (n * 1)).toList = u8s (zeros n) := by
  rw [Nat.mul_one]
  unfold u8s zeros
  rw [List.map_replicate]
  exact toList_madeCells_one _ n
set_option maxRecDepth 10000 in
/-- A string of zeros that is just long enough, and one byte more. -/
theorem zeros_facts : ∃ (N : Nat) (Z S1 : ByteArray), N = 1048576 ∧ strOfNums (zeros N) = Z ∧
    (∀ w, Tab w → Calls Tryd.prog 18 #[.string Z] w fun e w' => ∃ (A : Option Addr) (c : Nat), e = .returned (.tuple #[.slice A N c, .int .i64 0]) ∧ Rd w' w'.heap.size A N (i64s (zeros N)) ∧ Below w.heap.size w w') ∧
    (∀ w, Tab w → Calls Tryd.prog 19 #[.string Z] w fun e w' => e = .returned (.tuple #[.int .i64 (N : Int), .int .i64 0]) ∧ Below w.heap.size w w') ∧
    (∀ w, Tab w → Calls Tryd.prog 20 #[.string Z, .int .i64 1048575] w fun e w' => e = .returned (.tuple #[.string S1, .int .i64 0]) ∧ Below w.heap.size w w') ∧
    (∀ W, (Instr.slice 9 (.string Z) (some (.int .i64 1)) none none).run Tryd.prog W = .ok (.string S1) W) ∧
    (∀ (A : Option Addr) (c : Nat) w, Rd w w.heap.size A N (i64s (zeros N)) → Calls Tryd.prog 21 #[.slice A N c] w fun e w' => e = .returned (.tuple #[.string Z, .int .i64 0]) ∧ Below w.heap.size w w') ∧
    (∀ w, Tab w → Calls Tryd.prog 18 #[.string (Z ++ ⟨#[255]⟩)] w fun e w' => e = .returned (.tuple #[.slice none 0 0, .int .i64 3]) ∧ Below w.heap.size w w') ∧
    (∀ w, Tab w → Calls Tryd.prog 19 #[.string (Z ++ ⟨#[255]⟩)] w fun e w' => e = .returned (.tuple #[.int .i64 0, .int .i64 3]) ∧ Below w.heap.size w w') ∧
    (∀ w, Tab w → Calls Tryd.prog 20 #[.string (Z ++ ⟨#[255]⟩), .int .i64 (-1)] w fun e w' => e = .returned (.tuple #[.string ⟨#[]⟩, .int .i64 3]) ∧ Below w.heap.size w w') ∧
    (∀ w, Tab w → Calls Tryd.prog 22 #[.string (Z ++ ⟨#[255]⟩)] w fun e w' => e = .returned (.tuple #[.int .i64 (N : Int), .int .i64 11]) ∧ Below w.heap.size w w') ∧ Z.size = N := by
  obtain ⟨M, hM⟩ : ∃ M : Nat, M = 1048575 := ⟨_, rfl⟩
  obtain ⟨Z, hZ⟩ : ∃ Z, strOfNums (zeros (M + 1)) = Z := ⟨_, rfl⟩
  have hZb : bys Z = zeros (M + 1) := by rw [← hZ]; exact bys_strOfNums (zeros_bd _)
  have hZs : Z.size = M + 1 := by rw [← bys_length, hZb, zeros_len]
  have hch : chkE (bys Z) = 0 := by have := chkE_forms (zeros_pt (M + 1)); rwa [zeros_forms, ← hZb] at this
  have hsh : shortE Z = 0 := by unfold shortE; rw [if_neg (by omega)]; exact hch
  have hpt : pts (bys Z) = zeros (M + 1) := by rw [hZb]; have := pts_forms (zeros_pt (M + 1)); rwa [zeros_forms] at this
  have hYb : bys (Z ++ ⟨#[255]⟩) = forms (zeros (M + 1)) ++ [255] := by rw [bys_app, zeros_forms, hZb]; rfl
  have hYs : (Z ++ ⟨#[255]⟩ : ByteArray).size = M + 2 := by rw [← bys_length, hYb, List.length_append, zeros_forms, zeros_len]; rfl
  have hY3 : shortE (Z ++ ⟨#[255]⟩) = 3 := by unfold shortE; rw [if_pos (by omega)]
  have hrd : (rd [255]).2.2 = 11 := by decide
  have hfin : fin (bys (Z ++ ⟨#[255]⟩)) = M + 1 := by rw [hYb, fin_stop (zeros_pt _) (by rw [hrd]; decide), zeros_forms, zeros_len]
  have hck : chkE (bys (Z ++ ⟨#[255]⟩)) = 11 := by rw [hYb, chkE_stop (zeros_pt _) (by rw [hrd]; decide) (by simp), hrd]
  refine ⟨M + 1, Z, strOfNums (zeros M), by omega, hZ, fun w hT => ?_, fun w hT => ?_, fun w hT => ?_, fun W => ?_, fun A c w hr => ?_, fun w hT => ?_, fun w hT => ?_, fun w hT => ?_, fun w hT => ?_, hZs⟩
  · refine (points_yes Z hsh w hT).mono ?_
    rintro e w' ⟨A, c, rfl, hr, hb⟩
    rw [hpt, zeros_len] at hr
    exact ⟨A, c, by rw [hpt, zeros_len], hr, hb⟩
  · have := count_yes Z hsh w hT
    rw [hpt, zeros_len] at this
    exact this
  · have := cut_yes Z (by omega) 1048575 (by omega) hsh w hT
    rw [hZb, show (1048575 : Int) = (M : Int) from by omega, zeros_cut, Int.toNat_natCast, extTo Z _ hZb, zeros_take _ _ (by omega)] at this
    rw [show (1048575 : Int) = (M : Int) from by omega]
    exact this
  · have := run_slice_string_l (P := Tryd.prog) W 9 Z Tryd.underlying9 .i64 1 (by omega) (by omega)
    rw [this, show (1 : Int).toNat = 1 from rfl, extFrom Z _ hZb, zeros_drop]
    rfl
  · have := text_pts (zeros (M + 1)) (zeros_pt _) A (M + 1) c w hr (by omega)
    rw [zeros_forms, hZ] at this
    exact this
  · have := points_no (Z ++ ⟨#[255]⟩) (by omega) (by rw [hY3]; decide) w hT
    rwa [hY3] at this
  · have := count_no (Z ++ ⟨#[255]⟩) (by omega) (by rw [hY3]; decide) w hT
    rwa [hY3] at this
  · have := cut_any (Z ++ ⟨#[255]⟩) (by omega) (-1) w hT
    rw [show cutR (Z ++ ⟨#[255]⟩) (-1) = (⟨#[]⟩, 3) from by unfold cutR; rw [if_neg (by omega), hY3, if_neg (by decide)]] at this
    exact this
  · have := check_any (Z ++ ⟨#[255]⟩) (by omega) w hT
    rw [hfin, hck] at this
    exact this
end Go.Proofs.YtdgpbminmlpebaaDoor
