/-
  What begins of the reference computes.
-/
import Derived.Test.YtdgpbminmlpebaaDoorRefVal
namespace Go.Proofs.YtdgpbminmlpebaaDoor
open Go.RowKit Mt
/-- Yes just if a form begins so. -/
def BegOk (l : List Int) (w : World) (e : Ending) (w' : World) : Prop := ∃ b : Bool, e = .returned (.bool b) ∧ (b = true ↔ begS l) ∧ Below w.heap.size w w'
def strLen : Value → Nat
  | .string t => t.size
  | _ => 0
theorem conv1 (W : World) (v : Int) : (convert 22 9 (.slice (some ⟨W.heap.size, 0, none⟩) 1 1)).run Tryd.prog (W.alloc (.cells #[.int .u8 v] 5)) = .ok (.string (strOfNums [v])) (W.alloc (.cells #[.int .u8 v] 5)) :=
  conv_rd _ _ _ 1 1 [v] (rdNew W (u8s [v]) 5)
theorem bys_one (v : Int) (h : 0 ≤ v ∧ v ≤ 255) : bys (strOfNums [v]) = [v] := bys_strOfNums (by intro c hc; rw [List.mem_singleton.1 hc]; exact h)
theorem one_size (v : Int) : (strOfNums [v]).size = 1 := strOfNums_size _
theorem rep_snoc (l : List Int) (x : Int) (j : Nat) : (l ++ x :: List.replicate j 128) ++ [128] = l ++ x :: List.replicate (j + 1) 128 := by
  rw [List.append_assoc, List.cons_append, List.replicate_succ']
set_option maxRecDepth 100000 in
set_option maxHeartbeats 2000000 in
theorem refbeg_any (s : ByteArray) (hs : s.size ≤ 3) (w : World) : Calls Tryd.prog 52 #[.string s] w (BegOk (bys s) w) := by
  have hcat : ∀ t : ByteArray, ∀ v : Int, (t ++ strOfNums [v]).size = t.size + 1 := fun t v => by rw [ByteArray.size_append, one_size]
  have Hcat := Lib.hid hcat
  clear hcat
  go_enter Tryd.func52, Tryd.ntmps52
  go_wp2
  go_loopw [3] (fun v wr => ∃ k : Nat, s.size + 1 ≤ k ∧ k ≤ 5 ∧ v = .int .i64 k ∧ Below w.heap.size w wr ∧ Hid (∀ m i : Nat, s.size < m → m < k → i < 2 → valR (compl (bys s) m i) < 0)) (fun v _ => 5 - (intOf v).toNat)
  case atStart => exact ⟨s.size + 1, by omega, by omega, rfl, Below.refl _ _, fun m i h1 h2 _ => by omega⟩
  case round =>
    obtain ⟨k, hk1, hk2, rfl, hb, hno⟩ := hrel
    by_cases hk : k < 5
    · have hk4 : (k : Int) ≤ 4 := by omega
      go_wp2
      go_loopw [4] (fun v wr => ∃ i : Nat, i ≤ 2 ∧ v = .int .i64 i ∧ Below w.heap.size w wr ∧ Hid (∀ i' : Nat, i' < i → valR (compl (bys s) k i') < 0)) (fun v _ => 2 - (intOf v).toNat)
      case atStart => exact ⟨0, by omega, rfl, hb, fun i' h => by omega⟩
      case round =>
        obtain ⟨i, hi, rfl, hb2, hno2⟩ := hrel
        by_cases hi2 : i < 2
        · obtain ⟨v, hv⟩ : ∃ v : Int, 128 + 63 * (i : Int) = v := ⟨_, rfl⟩
          have hv0 : 0 ≤ v := by omega
          have hv1 : v ≤ 255 := by omega
          have hcv := conv1 wr v
          have Hv := Lib.hid hv
          have hnl : ¬ (9223372036854775807 < s.size + (strOfNums [v]).size) := by rw [one_size]; omega
          go_wp2_with fail
          clear hcv hnl hv
          go_loopw [5] (fun u wq => ∃ (t : ByteArray) (j : Nat), u = .string t ∧ t.size = s.size + 1 + j ∧ s.size + 1 + j ≤ k ∧ Below w.heap.size w wq ∧ Hid (bys t = bys s ++ v :: List.replicate j 128)) (fun u _ => k - strLen u)
          case atStart => exact ⟨_, 0, rfl, Hcat.out _ _, by omega, hb2.alloc hb2.size _, by show bys _ = _; rw [bys_app, bys_one v ⟨hv0, hv1⟩]; rfl⟩
          case round =>
            obtain ⟨t, j, rfl, htj, hjk, hb3, hbt⟩ := hrel
            have Htj := Lib.hid htj
            by_cases hj : s.size + 1 + j < k
            · have h1 : (t.size : Int) < k := by omega
              have hcv := conv1 wr 128
              have hnl : ¬ (9223372036854775807 < t.size + (strOfNums [128]).size) := by rw [one_size]; omega
              clear htj
              go_wp2
              go_roundw
              case rel => exact ⟨_, j + 1, rfl, by rw [Hcat.out, Htj.out]; omega, by omega, hb3.alloc hb3.size _, by show bys _ = _; rw [bys_app, bys_one 128 (by omega), hbt.out, rep_snoc]⟩
              case measure => simp only [strLen]; rw [Hcat.out, Htj.out]; omega
            · have h1 : ¬ (t.size : Int) < k := by omega
              have hc : Hid (bys t = compl (bys s) k i) := by
                show _ = _
                rw [hbt.out]
                unfold compl
                rw [bys_length, Hv.out, show k - s.size - 1 = j from by omega]
              clear htj hbt
              have cv := refval_any t
              rw [hc.out] at cv
              have CV := Lib.hid cv
              clear cv
              go_wp2_with fail
              refine (CV.out _).mono ?_
              rintro e w3 ⟨rfl, hb4⟩
              have hB3 : Below w.heap.size w w3 := hb3.trans (hb4.mono hb3.size)
              clear hb4 CV
              have hlow : -1 ≤ valR (compl (bys s) k i) := by
                by_cases h : 0 ≤ valR (compl (bys s) k i)
                · omega
                · unfold valR at h ⊢
                  split
                  · next q => have := (isPt_bds q.1).1; omega
                  · omega
              obtain ⟨V, hV⟩ : ∃ V, valR (compl (bys s) k i) = V := ⟨_, rfl⟩
              have HV := Lib.hid hV
              rw [hV] at hlow ⊢
              clear hV
              by_cases hV0 : 0 ≤ V
              · go_wp2
                go_ret
                exact ⟨true, rfl, ⟨fun _ => ⟨k, i, by rw [bys_length]; omega, by omega, hi2, by rw [HV.out]; exact hV0⟩, fun _ => rfl⟩, hB3⟩
              · go_wp2
                go_roundw
                case rel => exact ⟨i + 1, by omega, by go_num, hB3, fun i' h => by
                  rcases Nat.lt_or_ge i' i with h' | h'
                  · exact hno2.out i' h'
                  · obtain rfl : i' = i := by omega
                    rw [HV.out]; omega⟩
                case measure => simp [intOf]; omega
        · have h1 : i = 2 := by omega
          subst h1
          go_wp2
          go_roundw
          case rel => exact ⟨k + 1, by omega, by omega, by go_num, hb2, fun m i h1 h2 h3 => by
            rcases Nat.lt_or_ge m k with h' | h'
            · exact hno.out m i h1 h' h3
            · obtain rfl : m = k := by omega
              exact hno2.out i h3⟩
          case measure => simp [intOf]; omega
    · have h5 : k = 5 := by omega
      subst h5
      go_wp2
      go_ret
      refine ⟨false, rfl, ⟨fun h => (by cases h), fun ⟨m, i, h1, h2, h3, h4⟩ => ?_⟩, hb⟩
      have := hno.out m i (by rw [bys_length] at h1; exact h1) (by omega) h3
      omega
end Go.Proofs.YtdgpbminmlpebaaDoor
