/-
  What begins of the reference computes. What Read of the reference computes. What Points and Count of package utf compute.
-/
import Derived.Test.YtlhekeokognhmaaDoorRefVal
import Derived.Test.YtlhekeokognhmaaDoorMgae
import Derived.Test.YtlhekeokognhmaaDoorMgag
import Derived.Test.YtlhekeokognhmaaDoorMgaw
import Derived.RangeFuncBox
import Derived.RangeFuncNested
namespace Go.Proofs.YtlhekeokognhmaaDoor
open Go.RowKit Mt
/-- Yes just if a form begins so. -/
def BegOk (l : List Int) (w : World) (e : Ending) (w' : World) : Prop := ∃ b : Bool, e = .returned (.bool b) ∧ (b = true ↔ begS l) ∧ Below w.heap.size w w'
def strLen : Value → Nat
  | .string t => t.size
  | _ => 0
theorem conv1 (W : World) (v : Int) : (convert 80 9 (.slice (some ⟨W.heap.size, 0, none⟩) 1 1)).run Tryd.prog (W.alloc (.cells #[.int .u8 v] 5)) = .ok (.string (strOfNums [v])) (W.alloc (.cells #[.int .u8 v] 5)) :=
  conv_rd _ _ _ 1 1 [v] (rdNew W (u8s [v]) 5)
theorem bys_one (v : Int) (h : 0 ≤ v ∧ v ≤ 255) : bys (strOfNums [v]) = [v] := bys_strOfNums (by intro c hc; rw [List.mem_singleton.1 hc]; exact h)
theorem one_size (v : Int) : (strOfNums [v]).size = 1 := strOfNums_size _
theorem rep_snoc (l : List Int) (x : Int) (j : Nat) : (l ++ x :: List.replicate j 128) ++ [128] = l ++ x :: List.replicate (j + 1) 128 := by
  rw [List.append_assoc, List.cons_append, List.replicate_succ']
set_option maxRecDepth 100000 in
set_option maxHeartbeats 2000000 in
theorem refbeg_any (s : ByteArray) (hs : s.size ≤ 3) (w : World) : Calls Tryd.prog 102 #[.string s] w (BegOk (bys s) w) := by
  have hcat : ∀ t : ByteArray, ∀ v : Int, (t ++ strOfNums [v]).size = t.size + 1 := fun t v => by rw [ByteArray.size_append, one_size]
  have Hcat := Lib.hid hcat
  clear hcat
  go_enter Tryd.func102, Tryd.ntmps102
  go_wp2
  go_loopw [3] (fun v wr => ∃ k : Nat, s.size + 1 ≤ k ∧ k ≤ 5 ∧ v = .int .i64 k ∧ Below w.heap.size w wr ∧ Hid (∀ m i : Nat, s.size < m → m < k → i < 2 → valR (compl (bys s) m i) < 0)) (fun v _ => 5 - (intOf v).toNat)
  case atStart => exact ⟨s.size + 1, by omega, by omega, rfl, Below.refl _ _, fun m i h1 h2 _ => by omega⟩
  case round =>
    obtain ⟨k, hk1, hk2, rfl, hb, hno⟩ := hrel
    by_cases hk : k < 5
    · have hk4 : (k : Int) ≤ 4 := by omega
      go_wp2
      go_loopw [4] (fun v wr => ∃ i : Nat, i ≤ 2 ∧ v = .int .i64 i ∧ Below w.heap.size w wr ∧ Hid (∀ i' : Nat, i' < i → valR (compl (bys s) k i') < 0)) (fun v _ => 2 - (intOf v).toNat)
      case atStart => exact ⟨0, by omega, rfl, hb, fun i' h => by omega⟩
      case round =>
        obtain ⟨i, hi, rfl, hb2, hno2⟩ := hrel
        by_cases hi2 : i < 2
        · obtain ⟨v, hv⟩ : ∃ v : Int, 128 + 63 * (i : Int) = v := ⟨_, rfl⟩
          have hv0 : 0 ≤ v := by omega
          have hv1 : v ≤ 255 := by omega
          have hcv := conv1 wr v
          have Hv := Lib.hid hv
          have hnl : ¬ (9223372036854775807 < s.size + (strOfNums [v]).size) := by rw [one_size]; omega
          go_wp2_with fail
          clear hcv hnl hv
          go_loopw [5] (fun u wq => ∃ (t : ByteArray) (j : Nat), u = .string t ∧ t.size = s.size + 1 + j ∧ s.size + 1 + j ≤ k ∧ Below w.heap.size w wq ∧ Hid (bys t = bys s ++ v :: List.replicate j 128)) (fun u _ => k - strLen u)
          case atStart => exact ⟨_, 0, rfl, Hcat.out _ _, by omega, hb2.alloc hb2.size _, by show bys _ = _; rw [bys_app, bys_one v ⟨hv0, hv1⟩]; rfl⟩
          case round =>
            obtain ⟨t, j, rfl, htj, hjk, hb3, hbt⟩ := hrel
            have Htj := Lib.hid htj
            by_cases hj : s.size + 1 + j < k
            · have h1 : (t.size : Int) < k := by omega
              have hcv := conv1 wr 128
              have hnl : ¬ (9223372036854775807 < t.size + (strOfNums [128]).size) := by rw [one_size]; omega
              clear htj
              go_wp2
              go_roundw
              case rel => exact ⟨_, j + 1, rfl, by rw [Hcat.out, Htj.out]; omega, by omega, hb3.alloc hb3.size _, by show bys _ = _; rw [bys_app, bys_one 128 (by omega), hbt.out, rep_snoc]⟩
              case measure => simp only [strLen]; rw [Hcat.out, Htj.out]; omega
            · have h1 : ¬ (t.size : Int) < k := by omega
              have hc : Hid (bys t = compl (bys s) k i) := by
                show _ = _
                rw [hbt.out]
                unfold compl
                rw [bys_length, Hv.out, show k - s.size - 1 = j from by omega]
              clear htj hbt
              have cv := refval_any t
              rw [hc.out] at cv
              have CV := Lib.hid cv
              clear cv
              go_wp2_with fail
              refine (CV.out _).mono ?_
              rintro e w3 ⟨rfl, hb4⟩
              have hB3 : Below w.heap.size w w3 := hb3.trans (hb4.mono hb3.size)
              clear hb4 CV
              have hlow : -1 ≤ valR (compl (bys s) k i) := by
                by_cases h : 0 ≤ valR (compl (bys s) k i)
                · omega
                · unfold valR at h ⊢
                  split
                  · next q => have := (isPt_bds q.1).1; omega
                  · omega
              obtain ⟨V, hV⟩ : ∃ V, valR (compl (bys s) k i) = V := ⟨_, rfl⟩
              have HV := Lib.hid hV
              rw [hV] at hlow ⊢
              clear hV
              by_cases hV0 : 0 ≤ V
              · go_wp2
                go_ret
                exact ⟨true, rfl, ⟨fun _ => ⟨k, i, by rw [bys_length]; omega, by omega, hi2, by rw [HV.out]; exact hV0⟩, fun _ => rfl⟩, hB3⟩
              · go_wp2
                go_roundw
                case rel => exact ⟨i + 1, by omega, by go_num, hB3, fun i' h => by
                  rcases Nat.lt_or_ge i' i with h' | h'
                  · exact hno2.out i' h'
                  · obtain rfl : i' = i := by omega
                    rw [HV.out]; omega⟩
                case measure => simp [intOf]; omega
        · have h1 : i = 2 := by omega
          subst h1
          go_wp2
          go_roundw
          case rel => exact ⟨k + 1, by omega, by omega, by go_num, hb2, fun m i h1 h2 h3 => by
            rcases Nat.lt_or_ge m k with h' | h'
            · exact hno.out m i h1 h' h3
            · obtain rfl : m = k := by omega
              exact hno2.out i h3⟩
          case measure => simp [intOf]; omega
    · have h5 : k = 5 := by omega
      subst h5
      go_wp2
      go_ret
      refine ⟨false, rfl, ⟨fun h => (by cases h), fun ⟨m, i, h1, h2, h3, h4⟩ => ?_⟩, hb⟩
      have := hno.out m i (by rw [bys_length] at h1; exact h1) (by omega) h3
      omega
end Go.Proofs.YtlhekeokognhmaaDoor
namespace Go.Proofs.YtlhekeokognhmaaDoor
open Go.RowKit Mt
theorem miss_at {s : ByteArray} {k : Nat} (hk : k < s.size) : (bys s).drop k ≠ [] ∧ (∀ c ∈ (bys s).drop k, 0 ≤ c ∧ c ≤ 255) ∧ rdAt (bys s) (k : Int) = rd ((bys s).drop k) ∧ ((bys s).drop k).length = s.size - k := by
  refine ⟨fun h => ?_, fun c hc => bys_bd s c (List.mem_of_mem_drop hc), ?_, by rw [List.length_drop, bys_length]⟩
  · have := congrArg List.length h
    rw [List.length_drop, bys_length] at this
    simp at this
    omega
  · unfold rdAt
    rw [if_neg (by rw [bys_length]; omega), Int.toNat_natCast]
theorem miss_all {L : List Int} {n : Nat} (hno : ∀ m : Nat, 1 ≤ m → m < n → m ≤ L.length → valR (L.take m) < 0) (h : n = 5 ∨ L.length < n) (h0 : ∀ c ∈ L, 0 ≤ c ∧ c ≤ 255) : (rd L).2.2 ≠ 0 :=
  miss h0 fun m h1 h2 h3 => hno m h1 (by omega) h3
set_option maxRecDepth 100000 in
set_option maxHeartbeats 2000000 in
theorem refread_in (s : ByteArray) (k : Nat) (hk : k < s.size) (hs : s.size ≤ 140737488351232) (w : World) :
    Calls Tryd.prog 93 #[.string s, .int .i64 (k : Int)] w (ReadOk (rdAt (bys s) (k : Int)) w) := by
  obtain ⟨hne, h0, hat, hll⟩ := miss_at hk
  have hxt : ∀ n : Nat, k + n ≤ s.size → ∃ T : ByteArray, Hid (bys T = ((bys s).drop k).take n) ∧ ∀ W, (Instr.slice 9 (.string s) (some (.int .i64 (k : Int))) (some (.int .i64 ((k : Int) + n))) none).run Tryd.prog W = .ok (.string T) W := by
    intro n hn
    refine ⟨s.extract k (k + n), ?_, fun W => ?_⟩
    · show bys _ = _
      rw [bys_extract, Nat.add_sub_cancel_left]
    · have := run_slice_string (P := Tryd.prog) W 9 s .i64 .i64 (k : Int) ((k : Int) + n) Tryd.underlying9 (by omega) (by omega) (by omega)
      rw [this, Int.toNat_natCast, show ((k : Int) + n).toNat = k + n from by omega]
  have hxd : ∃ U : ByteArray, Hid (bys U = (bys s).drop k) ∧ Hid (U.size = s.size - k) ∧ ∀ W, (Instr.slice 9 (.string s) (some (.int .i64 (k : Int))) none none).run Tryd.prog W = .ok (.string U) W := by
    refine ⟨s.extract k s.size, ?_, ?_, fun W => ?_⟩
    · show bys _ = _
      rw [bys_extract, List.take_of_length_le (by rw [hll]; exact Nat.le_refl _)]
    · show _ = _
      rw [← bys_length, bys_extract, List.length_take, hll, Nat.min_self]
    · have := run_slice_string_l (P := Tryd.prog) W 9 s Tryd.underlying9 .i64 (k : Int) (by omega) (by omega)
      rw [this, Int.toNat_natCast]
  obtain ⟨U, hU, hUs, hUr⟩ := hxd
  have Hxt := Lib.hid hxt; have HUr := Lib.hid hUr; have Hne := Lib.hid hne; have H0 := Lib.hid h0; have Hat := Lib.hid hat; have Hll := Lib.hid hll
  clear hxt hUr hne h0 hat hll
  have hk1 : (k : Int) < s.size := by omega
  have hk3 : ¬ s.size < k := by omega
  have hk4 : ¬ (k : Int) < 0 := by omega
  have hk2 : ((k : Int) == (s.size : Int)) = false := by rw [beq_eq_false_iff_ne]; omega
  go_enter Tryd.func93, Tryd.ntmps93
  go_wp2
  go_loopw [7] (fun v wr => ∃ n : Nat, 1 ≤ n ∧ n ≤ 5 ∧ v = .int .i64 n ∧ Below w.heap.size w wr ∧ Hid (∀ m : Nat, 1 ≤ m → m < n → m ≤ ((bys s).drop k).length → valR (((bys s).drop k).take m) < 0)) (fun v _ => 5 - (intOf v).toNat)
  case atStart => exact ⟨1, by omega, by omega, rfl, Below.refl _ _, fun m h1 h2 => by omega⟩
  case round =>
    obtain ⟨n, hn1, hn5, rfl, hb, hno⟩ := hrel
    by_cases hn : n ≤ 4
    · by_cases hkn : k + n ≤ s.size
      · obtain ⟨T, hT, hTr⟩ := Hxt.out n hkn
        have g1 : (n : Int) ≤ 4 := by omega
        have g2 : (k : Int) + n ≤ s.size := by omega
        have cv := refval_any T
        rw [hT.out] at cv
        have CV := Lib.hid cv
        clear cv
        go_wp2_with fail
        refine (CV.out _).mono ?_
        rintro e w3 ⟨rfl, hb4⟩
        have hB3 : Below w.heap.size w w3 := hb.trans (hb4.mono hb.size)
        clear hb4 CV hTr
        have hlow : -1 ≤ valR (((bys s).drop k).take n) := by
          by_cases h : 0 ≤ valR (((bys s).drop k).take n)
          · omega
          · unfold valR at h ⊢
            split
            · next q => have := (isPt_bds q.1).1; omega
            · omega
        obtain ⟨V, hV⟩ : ∃ V, valR (((bys s).drop k).take n) = V := ⟨_, rfl⟩
        have HV := Lib.hid hV
        rw [hV] at hlow ⊢
        clear hV
        by_cases hV0 : 0 ≤ V
        · go_wp2
          go_ret3
          refine readOk_mk ?_ hB3
          rw [Hat.out, hit (n := n) (by rw [Hll.out]; omega) (by rw [HV.out]; exact hV0), HV.out]
        · go_wp2
          go_roundw
          case rel =>
            exact ⟨n + 1, by omega, by omega, by go_num, hB3, fun m h1 h2 h3 => by
            rcases Nat.lt_or_ge m n with h' | h'
            · exact hno.out m h1 h' h3
            · obtain rfl : m = n := by omega
              rw [HV.out]; omega⟩
          case measure => simp [intOf]; omega
      · have g1 : (n : Int) ≤ 4 := by omega
        have g2 : ¬ (k : Int) + n ≤ s.size := by omega
        have hmi := Lib.hid (miss_all hno.out (by rw [Hll.out]; omega) H0.out)
        by_cases hsh : s.size - k < 4
        · have g3 : (s.size : Int) - k < 4 := by omega
          have cb := Lib.hid (fun w => refbeg_any U (by rw [hUs.out]; omega) w)
          have hUr := HUr.out
          go_wp2_with fail
          refine (cb.out _).mono ?_
          rintro e w3 ⟨b, rfl, hbe, hb4⟩
          have hB3 : Below w.heap.size w w3 := hb.trans (hb4.mono hb.size)
          clear hb4 cb hUr
          cases b
          · have Hbe : Hid (¬ begS (bys U)) := fun h => by have := hbe.2 h; cases this
            clear hbe
            go_wp2
            go_ret3
            refine readOk_mk ?_ hB3
            rw [Hat.out]
            rcases rd_err Hne.out H0.out hmi.out with ⟨h, _⟩ | h
            · exact absurd (by rw [hU.out]; exact beg_yes H0.out h) Hbe.out
            · exact h
          · have Hbe : Hid (begS (bys U)) := hbe.1 rfl
            clear hbe
            go_wp2
            go_ret3
            refine readOk_mk ?_ hB3
            rw [Hat.out]
            exact beg_no Hne.out (by rw [← hU.out]; exact Hbe.out)
        · have g3 : ¬ (s.size : Int) - k < 4 := by omega
          go_wp2
          go_ret3
          refine readOk_mk ?_ hb
          rw [Hat.out]
          rcases rd_err Hne.out H0.out hmi.out with ⟨_, h⟩ | h
          · rw [Hll.out] at h; omega
          · exact h
    · have g1 : ¬ (n : Int) ≤ 4 := by omega
      have hmi := Lib.hid (miss_all hno.out (by rw [Hll.out]; omega) H0.out)
      by_cases hsh : s.size - k < 4
      · have g3 : (s.size : Int) - k < 4 := by omega
        have cb := Lib.hid (fun w => refbeg_any U (by rw [hUs.out]; omega) w)
        have hUr := HUr.out
        go_wp2_with fail
        refine (cb.out _).mono ?_
        rintro e w3 ⟨b, rfl, hbe, hb4⟩
        have hB3 : Below w.heap.size w w3 := hb.trans (hb4.mono hb.size)
        clear hb4 cb hUr
        cases b
        · have Hbe : Hid (¬ begS (bys U)) := fun h => by have := hbe.2 h; cases this
          clear hbe
          go_wp2
          go_ret3
          refine readOk_mk ?_ hB3
          rw [Hat.out]
          rcases rd_err Hne.out H0.out hmi.out with ⟨h, _⟩ | h
          · exact absurd (by rw [hU.out]; exact beg_yes H0.out h) Hbe.out
          · exact h
        · have Hbe : Hid (begS (bys U)) := hbe.1 rfl
          clear hbe
          go_wp2
          go_ret3
          refine readOk_mk ?_ hB3
          rw [Hat.out]
          exact beg_no Hne.out (by rw [← hU.out]; exact Hbe.out)
      · have g3 : ¬ (s.size : Int) - k < 4 := by omega
        go_wp2
        go_ret3
        refine readOk_mk ?_ hb
        rw [Hat.out]
        rcases rd_err Hne.out H0.out hmi.out with ⟨_, h⟩ | h
        · rw [Hll.out] at h; omega
        · exact h
theorem refread_any (s : ByteArray) (hs : s.size ≤ 140737488351232) (at_ : Int) (hat : -9223372036854775808 ≤ at_ ∧ at_ ≤ 9223372036854775807) (w : World) :
    Calls Tryd.prog 93 #[.string s, .int .i64 at_] w (ReadOk (rdAt (bys s) at_) w) := by
  obtain ⟨hat0, hat1⟩ := hat
  by_cases h1 : at_ < 0
  · have hr : rdAt (bys s) at_ = (0, 0, 2) := by unfold rdAt; rw [if_pos (.inl h1)]
    have Hr := Lib.hid hr
    clear hr
    go_enter Tryd.func93, Tryd.ntmps93
    go_wp2
    go_ret3
    exact readOk_mk Hr.out (Below.refl _ _)
  · by_cases h2 : (s.size : Int) < at_
    · have hr : rdAt (bys s) at_ = (0, 0, 2) := by unfold rdAt; rw [if_pos (.inr (by rw [bys_length]; exact h2))]
      have Hr := Lib.hid hr
      clear hr
      go_enter Tryd.func93, Tryd.ntmps93
      go_wp2
      go_ret3
      exact readOk_mk Hr.out (Below.refl _ _)
    · by_cases h3 : at_ = s.size
      · have hr : rdAt (bys s) at_ = (0, 0, 6) := by
          unfold rdAt
          rw [if_neg (by rw [bys_length]; omega), List.drop_of_length_le (by rw [bys_length]; omega)]
          rfl
        have Hr := Lib.hid hr
        subst h3
        clear hr h1 h2
        go_enter Tryd.func93, Tryd.ntmps93
        go_wp2
        go_ret3
        exact readOk_mk Hr.out (Below.refl _ _)
      · obtain ⟨k, rfl⟩ : ∃ k : Nat, at_ = k := ⟨at_.toNat, by omega⟩
        exact refread_in s k (by omega) hs w
end Go.Proofs.YtlhekeokognhmaaDoor
namespace Go.Proofs.YtlhekeokognhmaaDoor
open Go.RowKit Go.Shelf Mt
attribute [local go_sem] Oper.semAt_some

/-- The code points of the bytes, in new memory. -/
def PtsOk (l : List Int) (w : World) (e : Ending) (w' : World) : Prop :=
  ∃ (A : Option Addr) (c : Nat), e = .returned (.tuple #[.slice A (pts l).length c, .int .i64 0]) ∧ Rd w' w'.heap.size A (pts l).length (i64s (pts l)) ∧ Below w.heap.size w w'
theorem short_bd {s : ByteArray} (h : shortE s = 0) : s.size ≤ 1048576 ∧ chkE (bys s) = 0 := by
  unfold shortE at h
  split at h
  · cases h
  · exact ⟨by omega, h⟩
/-- The collected code points after some rounds. -/
def sofar (pre : List (Int × Int)) : List Value := i64s (pre.map (·.2))
theorem sofar_snoc (pre : List (Int × Int)) (x : Int × Int) : sofar (pre ++ [x]) = sofar pre ++ i64s [x.2] := by simp [sofar, i64s]

end Go.Proofs.YtlhekeokognhmaaDoor
