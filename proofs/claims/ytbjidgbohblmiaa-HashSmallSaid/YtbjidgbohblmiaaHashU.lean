/-
  What Read of the reference of hashes computes.
-/
import Derived.Test.YtbjidgbohblmiaaHashT
namespace Go.Proofs.Ytbjidgbohblmiaa
open Go.RowKit

/-- The digits of a string's bytes, 0 where there is none. -/
def hxs (s : ByteArray) : List Nat := s.data.toList.map fun b => (hexv b).getD 0
def vAt (s : ByteArray) (i : Nat) : Nat := rdN ((hxs s).take i) * 16 ^ (16 - i)
theorem hexD_lt (b : UInt8) : (hexv b).getD 0 < 16 := by
  rcases h : hexv b with _ | v
  · simp
  · exact (hexv_dg h).1
theorem hxs_get (s : ByteArray) (i : Nat) (hi : i < s.size) : (hxs s)[i]? = some ((hexv s[i]).getD 0) := by
  have hl : i < s.data.toList.length := by simpa using hi
  unfold hxs
  rw [List.getElem?_map, List.getElem?_eq_getElem hl]
  rfl
theorem vAt_next (s : ByteArray) (i : Nat) (hi : i < s.size) (h16 : i < 16) : vAt s (i + 1) = vAt s i + (hexv s[i]).getD 0 * 16 ^ (15 - i) := by
  unfold vAt
  rw [List.take_add_one, hxs_get s i hi, Option.toList_some, rdN_snoc, show 16 - (i + 1) = 15 - i from by omega, show 16 - i = 15 - i + 1 from by omega, Nat.pow_succ, Nat.add_mul, Nat.mul_assoc, Nat.mul_comm 16]
theorem vAt_lt (s : ByteArray) (i : Nat) (hi : i ≤ s.size) (h16 : i ≤ 16) : vAt s i < 18446744073709551616 := by
  have h1 := rdN_lt ((hxs s).take i) (fun d hd => by
    obtain ⟨b, _, rfl⟩ := List.mem_map.1 (List.mem_of_mem_take hd)
    exact hexD_lt b)
  have h2 : ((hxs s).take i).length = i := by rw [List.length_take]; unfold hxs; rw [List.length_map]; simp; omega
  rw [h2] at h1
  unfold vAt
  have h3 : 16 ^ i * 16 ^ (16 - i) = 18446744073709551616 := by rw [← Nat.pow_add, show i + (16 - i) = 16 from by omega]
  rw [← h3]
  exact Nat.mul_lt_mul_of_pos_right h1 (Nat.pow_pos (by omega))
/-- The state of the inner loop before the digit n is tried. -/
def vIn (s : ByteArray) (i : Nat) (b : UInt8) (n : Nat) : Nat := if (hexv b).isSome = true ∧ (hexv b).getD 0 < n then vAt s i + (hexv b).getD 0 * 16 ^ (15 - i) else vAt s i
theorem vIn_zero (s : ByteArray) (i : Nat) (b : UInt8) : vIn s i b 0 = vAt s i := if_neg (by omega)
theorem vIn_end (s : ByteArray) (i : Nat) (hi : i < s.size) (h16 : i < 16) : vIn s i s[i] 16 = vAt s (i + 1) := by
  rw [vAt_next s i hi h16]
  unfold vIn
  split
  · rfl
  · rename_i h
    have : (hexv s[i]).getD 0 = 0 := by
      rcases hh : hexv s[i] with _ | v
      · rfl
      · exact absurd ⟨by rw [hh]; rfl, hexD_lt _⟩ h
    rw [this, Nat.zero_mul, Nat.add_zero]
theorem vIn_yes (s : ByteArray) (i n : Nat) (b : UInt8) (h : hexv b = some n) : vIn s i b (n + 1) = vIn s i b n + n * 16 ^ (15 - i) := by
  unfold vIn
  rw [h, if_pos ⟨rfl, by simp⟩, if_neg (by simp)]
  simp
theorem vIn_no (s : ByteArray) (i n : Nat) (b : UInt8) (h : hexv b ≠ some n) : vIn s i b (n + 1) = vIn s i b n := by
  unfold vIn
  rcases hh : hexv b with _ | v
  · simp
  · have : v ≠ n := fun e => h (by rw [hh, e])
    simp only [Option.isSome_some, Option.getD_some, true_and]
    by_cases h1 : v < n
    · rw [if_pos h1, if_pos (by omega)]
    · rw [if_neg h1, if_neg (by omega)]
theorem vIn_le (s : ByteArray) (i n : Nat) (hi : i < s.size) (h16 : i < 16) : vIn s i s[i] n < 18446744073709551616 := by
  have h1 := vAt_lt s (i + 1) hi h16
  rw [vAt_next s i hi h16] at h1
  unfold vIn
  split
  · exact h1
  · exact vAt_lt s i (by omega) (by omega)
theorem digit_eq (n : Nat) (hn : n < 16) (b : UInt8) : (dg n == (b.toNat : Int)) = decide (hexv b = some n) := by
  by_cases h : hexv b = some n
  · rw [decide_eq_true h, beq_iff_eq]; exact (hexv_dg h).2.symm
  · rw [decide_eq_false h, beq_eq_false_iff_ne]
    exact fun e => h (hexv_some hn e.symm)
/-- What the reference's Read answers. -/
def RefRdOk (s : ByteArray) (w : World) (e : Ending) (w' : World) : Prop :=
  (s.size = 16 ∧ allHex s.data.toList ∧ e = .returned (.tuple #[U (rdH s.data.toList), .int .i64 0]) ∨ ¬ (s.size = 16 ∧ allHex s.data.toList) ∧ e = .returned (.tuple #[.int .u64 0, .int .i64 20])) ∧ Below w.heap.size w w'
theorem vAt_full (s : ByteArray) (hs : s.size = 16) : BitVec.ofNat 64 (vAt s 16) = rdH s.data.toList := by
  rw [rdH_N]
  unfold vAt hxs
  rw [List.take_of_length_le (by rw [List.length_map]; simp; omega), Nat.sub_self, Nat.pow_zero, Nat.mul_one]

set_option maxHeartbeats 2000000 in
theorem refread_any (s : ByteArray) (hs : s.size ≤ 9223372036854775807) (w : World) : Calls Try.prog 34 #[.string s] w (RefRdOk s w) := by
  go_enter Try.func34, Try.ntmps34
  go_wp2_with fail
  go_loopw [4, 5] (fun v i wr => ∃ (k x : Nat), k ≤ s.size ∧ k ≤ 16 ∧ i = .int .i64 k ∧ v = .int .u64 x ∧ Hid (x = vAt s k) ∧ Below w.heap.size w wr) (fun _ i _ => 16 - (intOf i).toNat)
  case atStart => exact ⟨0, 0, by omega, by omega, rfl, rfl, by show 0 = rdN [] * _; simp [rdN], Below.refl _ _⟩
  case round =>
    obtain ⟨k, x, hks, hk16, rfl, rfl, hx, hB⟩ := hrel
    by_cases h1 : k < s.size
    · by_cases h2 : k < 16
      · have hk2 : (k : Int) < 16 := by omega
        obtain ⟨b, hb⟩ : ∃ b, s[k] = b := ⟨_, rfl⟩
        have hi : ∀ W, (Instr.index 9 (.string s) (.int .i64 (k : Int))).run Try.prog W = .ok (.int .u8 (b.toNat : Int)) W := by
          intro W
          rw [run_index_string W 9 s .i64 (k : Int) Try.underlying9, dif_pos ⟨by omega, by omega⟩]
          simp only [Int.toNat_natCast, hb]
        have hend := vIn_end s k h1 h2
        have hle := fun n => vIn_le s k n h1 h2
        rw [hb] at hend
        simp only [hb] at hle
        have Hend := Lib.hid hend
        have Hle := Lib.hid hle
        have hx0 : Hid (x = vIn s k b 0) := by show _ = _; rw [vIn_zero]; exact hx.out
        clear hb hend hle hx
        go_wp2_with fail
        go_loopw [4, 6] (fun v m wr2 => ∃ (n y : Nat), n ≤ 16 ∧ m = .int .u64 n ∧ v = .int .u64 y ∧ Hid (y = vIn s k b n) ∧ Below w.heap.size w wr2) (fun _ m _ => 16 - (intOf m).toNat)
        case atStart => exact ⟨0, x, by omega, rfl, rfl, hx0, hB⟩
        case round =>
          obtain ⟨n, y, hn, rfl, rfl, hy, hB2⟩ := hrel
          clear hx0 hB
          by_cases hn16 : n < 16
          · have cd := digit_any n hn16
            have hn2 : (n : Int) < 16 := by omega
            by_cases hm : hexv b = some n
            · have e1 : (dg n == (b.toNat : Int)) = true := by rw [digit_eq n hn16 b, decide_eq_true hm]
              have Hm := Lib.hid hm
              clear hm
              generalize (b.toNat : Int) = B at hi e1
              generalize dg n = D at cd e1
              go_wp2_with fail
              go_quiet ((refine (cd _).mono ?_; rintro e w2 ⟨rfl, rfl⟩; exact ⟨rfl, _, rfl⟩))
              go_wp2_with fail
              have hstep : IntKind.u64.wrap ((y : Int) + IntKind.u64.wrap ((n : Int) * (2 : Int) ^ (60 - 4 * k))) = ((vIn s k b (n + 1) : Nat) : Int) := by
                have hcast : ((2 : Int) ^ (60 - 4 * k)) = ((16 ^ (15 - k) : Nat) : Int) := by
                  rw [show 60 - 4 * k = 4 * (15 - k) from by omega, Int.natCast_pow, Int.pow_mul]; rfl
                have h3 := Hle.out (n + 1)
                rw [vIn_yes s k n b Hm.out, ← hy.out] at h3 ⊢
                rw [hcast, IntKind.wrap_u64, IntKind.wrap_u64]
                rw [show ((n : Int) * ((16 ^ (15 - k) : Nat) : Int)) = ((n * 16 ^ (15 - k) : Nat) : Int) from (Int.natCast_mul _ _).symm]
                omega
              go_roundw
              case rel => exact ⟨n + 1, vIn s k b (n + 1), by omega, by go_num, by rw [hstep], rfl, below_drewN' hB2 _⟩
              case measure => simp [intOf]; omega
            · have e1 : (dg n == (b.toNat : Int)) = false := by rw [digit_eq n hn16 b, decide_eq_false hm]
              have hy2 : Hid (y = vIn s k b (n + 1)) := by show _ = _; rw [vIn_no s k n b hm]; exact hy.out
              clear hm hy
              generalize (b.toNat : Int) = B at hi e1
              generalize dg n = D at cd e1
              go_wp2_with fail
              go_quiet ((refine (cd _).mono ?_; rintro e w2 ⟨rfl, rfl⟩; exact ⟨rfl, _, rfl⟩))
              go_wp2_with fail
              go_roundw
              case rel => exact ⟨n + 1, y, by omega, by go_num, rfl, hy2, below_drewN' hB2 _⟩
              case measure => simp [intOf]; omega
          · obtain rfl : n = 16 := by omega
            have hx2 : Hid (y = vAt s (k + 1)) := by show _ = _; rw [hy.out, Hend.out]
            clear hy
            go_wp2_with fail
            go_roundw
            case rel => exact ⟨k + 1, y, by omega, by omega, by go_num, rfl, hx2, hB2⟩
            case measure => simp [intOf]; omega
      · have hk2 : ¬ (k : Int) < 16 := by omega
        have hk3 : k = 16 := by omega
        subst hk3
        obtain ⟨X, hX⟩ : ∃ X : BitVec 64, BitVec.ofNat 64 x = X := ⟨_, rfl⟩
        have hxX : (x : Int) = (X.toNat : Int) := by
          rw [← hX, BitVec.toNat_ofNat, Nat.mod_eq_of_lt (by rw [hx.out]; exact vAt_lt s _ (by omega) (by omega))]
        have ct := reftext_any X
        unfold U at ct
        rw [← hxX] at ct
        by_cases hr : s.size = 16 ∧ allHex s.data.toList
        · have hXr : X = rdH s.data.toList := by rw [← hX, hx.out,  vAt_full s hr.1]
          have htx : txtS X = s := by rw [hXr]; exact txt_rd s hr.1 hr.2
          rw [htx] at ct
          have Hr := Lib.hid hr
          have HX : Hid ((x : Int) = ((rdH s.data.toList).toNat : Int)) := by show _ = _; rw [hxX, hXr]
          have hself : (s.toList == s.toList) = true := by simp
          clear hr hXr htx hX hxX hx
          go_wp2_with fail
          refine (ct _).mono ?_
          rintro e w2 ⟨rfl, hb2⟩
          go_wp2_with fail
          go_ret2
          exact ⟨.inl ⟨Hr.out.1, Hr.out.2, by unfold U; rw [← HX.out]; rfl⟩, hB.trans (hb2.mono hB.size)⟩
        · have hne : ((txtS X).toList == s.toList) = false := by
            apply str_ne
            intro k
            have := bys_eq k
            exact hr ⟨by rw [← this]; exact txtS_size X, by rw [← this]; exact txtS_hex X⟩
          have Hr := Lib.hid hr
          generalize txtS X = T at ct hne
          clear hr hX hxX hx
          go_wp2_with fail
          refine (ct _).mono ?_
          rintro e w2 ⟨rfl, hb2⟩
          go_wp2_with fail
          go_ret2
          exact ⟨.inr ⟨Hr.out, rfl⟩, hB.trans (hb2.mono hB.size)⟩
    · have hk1 : ¬ (k : Int) < s.size := by omega
      have hk3 : k = s.size := by omega
      subst hk3
      obtain ⟨X, hX⟩ : ∃ X : BitVec 64, BitVec.ofNat 64 x = X := ⟨_, rfl⟩
      have hxX : (x : Int) = (X.toNat : Int) := by
        rw [← hX, BitVec.toNat_ofNat, Nat.mod_eq_of_lt (by rw [hx.out]; exact vAt_lt s _ (by omega) (by omega))]
      have ct := reftext_any X
      unfold U at ct
      rw [← hxX] at ct
      by_cases hr : s.size = 16 ∧ allHex s.data.toList
      · have hXr : X = rdH s.data.toList := by rw [← hX, hx.out, hr.1, vAt_full s hr.1]
        have htx : txtS X = s := by rw [hXr]; exact txt_rd s hr.1 hr.2
        rw [htx] at ct
        have Hr := Lib.hid hr
        have HX : Hid ((x : Int) = ((rdH s.data.toList).toNat : Int)) := by show _ = _; rw [hxX, hXr]
        have hself : (s.toList == s.toList) = true := by simp
        clear hr hXr htx hX hxX hx
        go_wp2_with fail
        refine (ct _).mono ?_
        rintro e w2 ⟨rfl, hb2⟩
        go_wp2_with fail
        go_ret2
        exact ⟨.inl ⟨Hr.out.1, Hr.out.2, by unfold U; rw [← HX.out]; rfl⟩, hB.trans (hb2.mono hB.size)⟩
      · have hne : ((txtS X).toList == s.toList) = false := by
          apply str_ne
          intro k
          have := bys_eq k
          exact hr ⟨by rw [← this]; exact txtS_size X, by rw [← this]; exact txtS_hex X⟩
        have Hr := Lib.hid hr
        generalize txtS X = T at ct hne
        clear hr hX hxX hx
        go_wp2_with fail
        refine (ct _).mono ?_
        rintro e w2 ⟨rfl, hb2⟩
        go_wp2_with fail
        go_ret2
        exact ⟨.inr ⟨Hr.out, rfl⟩, hB.trans (hb2.mono hB.size)⟩
end Go.Proofs.Ytbjidgbohblmiaa
