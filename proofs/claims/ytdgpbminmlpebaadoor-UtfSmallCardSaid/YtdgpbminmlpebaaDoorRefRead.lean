/-
  What Read of the reference computes.
-/
import Derived.Test.YtdgpbminmlpebaaDoorRefBeg
import Derived.Test.YtdgpbminmlpebaaDoorUtfD
namespace Go.Proofs.YtdgpbminmlpebaaDoor
open Go.RowKit Mt
theorem miss_at {s : ByteArray} {k : Nat} (hk : k < s.size) : (bys s).drop k ≠ [] ∧ (∀ c ∈ (bys s).drop k, 0 ≤ c ∧ c ≤ 255) ∧ rdAt (bys s) (k : Int) = rd ((bys s).drop k) ∧ ((bys s).drop k).length = s.size - k := by
  refine ⟨fun h => ?_, fun c hc => bys_bd s c (List.mem_of_mem_drop hc), ?_, by rw [List.length_drop, bys_length]⟩
  · have := congrArg List.length h
    rw [List.length_drop, bys_length] at this
    simp at this
    omega
  · unfold rdAt
    rw [if_neg (by rw [bys_length]; omega), Int.toNat_natCast]
theorem miss_all {L : List Int} {n : Nat} (hno : ∀ m : Nat, 1 ≤ m → m < n → m ≤ L.length → valR (L.take m) < 0) (h : n = 5 ∨ L.length < n) (h0 : ∀ c ∈ L, 0 ≤ c ∧ c ≤ 255) : (rd L).2.2 ≠ 0 :=
  miss h0 fun m h1 h2 h3 => hno m h1 (by omega) h3
set_option maxRecDepth 100000 in
set_option maxHeartbeats 2000000 in
theorem refread_in (s : ByteArray) (k : Nat) (hk : k < s.size) (hs : s.size ≤ 140737488351232) (w : World) :
    Calls Tryd.prog 39 #[.string s, .int .i64 (k : Int)] w (ReadOk (rdAt (bys s) (k : Int)) w) := by
  obtain ⟨hne, h0, hat, hll⟩ := miss_at hk
  have hxt : ∀ n : Nat, k + n ≤ s.size → ∃ T : ByteArray, Hid (bys T = ((bys s).drop k).take n) ∧ ∀ W, (Instr.slice 9 (.string s) (some (.int .i64 (k : Int))) (some (.int .i64 ((k : Int) + n))) none).run Tryd.prog W = .ok (.string T) W := by
    intro n hn
    refine ⟨s.extract k (k + n), ?_, fun W => ?_⟩
    · show bys _ = _
      rw [bys_extract, Nat.add_sub_cancel_left]
    · have := run_slice_string (P := Tryd.prog) W 9 s .i64 .i64 (k : Int) ((k : Int) + n) Tryd.underlying9 (by omega) (by omega) (by omega)
      rw [this, Int.toNat_natCast, show ((k : Int) + n).toNat = k + n from by omega]
  have hxd : ∃ U : ByteArray, Hid (bys U = (bys s).drop k) ∧ Hid (U.size = s.size - k) ∧ ∀ W, (Instr.slice 9 (.string s) (some (.int .i64 (k : Int))) none none).run Tryd.prog W = .ok (.string U) W := by
    refine ⟨s.extract k s.size, ?_, ?_, fun W => ?_⟩
    · show bys _ = _
      rw [bys_extract, List.take_of_length_le (by rw [hll]; exact Nat.le_refl _)]
    · show _ = _
      rw [← bys_length, bys_extract, List.length_take, hll, Nat.min_self]
    · have := run_slice_string_l (P := Tryd.prog) W 9 s Tryd.underlying9 .i64 (k : Int) (by omega) (by omega)
      rw [this, Int.toNat_natCast]
  obtain ⟨U, hU, hUs, hUr⟩ := hxd
  have Hxt := Lib.hid hxt; have HUr := Lib.hid hUr; have Hne := Lib.hid hne; have H0 := Lib.hid h0; have Hat := Lib.hid hat; have Hll := Lib.hid hll
  clear hxt hUr hne h0 hat hll
  have hk1 : (k : Int) < s.size := by omega
  have hk3 : ¬ s.size < k := by omega
  have hk4 : ¬ (k : Int) < 0 := by omega
  have hk2 : ((k : Int) == (s.size : Int)) = false := by rw [beq_eq_false_iff_ne]; omega
  go_enter Tryd.func39, Tryd.ntmps39
  go_wp2
  go_loopw [7] (fun v wr => ∃ n : Nat, 1 ≤ n ∧ n ≤ 5 ∧ v = .int .i64 n ∧ Below w.heap.size w wr ∧ Hid (∀ m : Nat, 1 ≤ m → m < n → m ≤ ((bys s).drop k).length → valR (((bys s).drop k).take m) < 0)) (fun v _ => 5 - (intOf v).toNat)
  case atStart => exact ⟨1, by omega, by omega, rfl, Below.refl _ _, fun m h1 h2 => by omega⟩
  case round =>
    obtain ⟨n, hn1, hn5, rfl, hb, hno⟩ := hrel
    by_cases hn : n ≤ 4
    · by_cases hkn : k + n ≤ s.size
      · obtain ⟨T, hT, hTr⟩ := Hxt.out n hkn
        have g1 : (n : Int) ≤ 4 := by omega
        have g2 : (k : Int) + n ≤ s.size := by omega
        have cv := refval_any T
        rw [hT.out] at cv
        have CV := Lib.hid cv
        clear cv
        go_wp2_with fail
        refine (CV.out _).mono ?_
        rintro e w3 ⟨rfl, hb4⟩
        have hB3 : Below w.heap.size w w3 := hb.trans (hb4.mono hb.size)
        clear hb4 CV hTr
        have hlow : -1 ≤ valR (((bys s).drop k).take n) := by
          by_cases h : 0 ≤ valR (((bys s).drop k).take n)
          · omega
          · unfold valR at h ⊢
            split
            · next q => have := (isPt_bds q.1).1; omega
            · omega
        obtain ⟨V, hV⟩ : ∃ V, valR (((bys s).drop k).take n) = V := ⟨_, rfl⟩
        have HV := Lib.hid hV
        rw [hV] at hlow ⊢
        clear hV
        by_cases hV0 : 0 ≤ V
        · go_wp2
          go_ret3
          refine readOk_mk ?_ hB3
          rw [Hat.out, hit (n := n) (by rw [Hll.out]; omega) (by rw [HV.out]; exact hV0), HV.out]
        · go_wp2
          go_roundw
          case rel =>
            exact ⟨n + 1, by omega, by omega, by go_num, hB3, fun m h1 h2 h3 => by
            rcases Nat.lt_or_ge m n with h' | h'
            · exact hno.out m h1 h' h3
            · obtain rfl : m = n := by omega
              rw [HV.out]; omega⟩
          case measure => simp [intOf]; omega
      · have g1 : (n : Int) ≤ 4 := by omega
        have g2 : ¬ (k : Int) + n ≤ s.size := by omega
        have hmi := Lib.hid (miss_all hno.out (by rw [Hll.out]; omega) H0.out)
        by_cases hsh : s.size - k < 4
        · have g3 : (s.size : Int) - k < 4 := by omega
          have cb := Lib.hid (fun w => refbeg_any U (by rw [hUs.out]; omega) w)
          have hUr := HUr.out
          go_wp2_with fail
          refine (cb.out _).mono ?_
          rintro e w3 ⟨b, rfl, hbe, hb4⟩
          have hB3 : Below w.heap.size w w3 := hb.trans (hb4.mono hb.size)
          clear hb4 cb hUr
          cases b
          · have Hbe : Hid (¬ begS (bys U)) := fun h => by have := hbe.2 h; cases this
            clear hbe
            go_wp2
            go_ret3
            refine readOk_mk ?_ hB3
            rw [Hat.out]
            rcases rd_err Hne.out H0.out hmi.out with ⟨h, _⟩ | h
            · exact absurd (by rw [hU.out]; exact beg_yes H0.out h) Hbe.out
            · exact h
          · have Hbe : Hid (begS (bys U)) := hbe.1 rfl
            clear hbe
            go_wp2
            go_ret3
            refine readOk_mk ?_ hB3
            rw [Hat.out]
            exact beg_no Hne.out (by rw [← hU.out]; exact Hbe.out)
        · have g3 : ¬ (s.size : Int) - k < 4 := by omega
          go_wp2
          go_ret3
          refine readOk_mk ?_ hb
          rw [Hat.out]
          rcases rd_err Hne.out H0.out hmi.out with ⟨_, h⟩ | h
          · rw [Hll.out] at h; omega
          · exact h
    · have g1 : ¬ (n : Int) ≤ 4 := by omega
      have hmi := Lib.hid (miss_all hno.out (by rw [Hll.out]; omega) H0.out)
      by_cases hsh : s.size - k < 4
      · have g3 : (s.size : Int) - k < 4 := by omega
        have cb := Lib.hid (fun w => refbeg_any U (by rw [hUs.out]; omega) w)
        have hUr := HUr.out
        go_wp2_with fail
        refine (cb.out _).mono ?_
        rintro e w3 ⟨b, rfl, hbe, hb4⟩
        have hB3 : Below w.heap.size w w3 := hb.trans (hb4.mono hb.size)
        clear hb4 cb hUr
        cases b
        · have Hbe : Hid (¬ begS (bys U)) := fun h => by have := hbe.2 h; cases this
          clear hbe
          go_wp2
          go_ret3
          refine readOk_mk ?_ hB3
          rw [Hat.out]
          rcases rd_err Hne.out H0.out hmi.out with ⟨h, _⟩ | h
          · exact absurd (by rw [hU.out]; exact beg_yes H0.out h) Hbe.out
          · exact h
        · have Hbe : Hid (begS (bys U)) := hbe.1 rfl
          clear hbe
          go_wp2
          go_ret3
          refine readOk_mk ?_ hB3
          rw [Hat.out]
          exact beg_no Hne.out (by rw [← hU.out]; exact Hbe.out)
      · have g3 : ¬ (s.size : Int) - k < 4 := by omega
        go_wp2
        go_ret3
        refine readOk_mk ?_ hb
        rw [Hat.out]
        rcases rd_err Hne.out H0.out hmi.out with ⟨_, h⟩ | h
        · rw [Hll.out] at h; omega
        · exact h
theorem refread_any (s : ByteArray) (hs : s.size ≤ 140737488351232) (at_ : Int) (hat : -9223372036854775808 ≤ at_ ∧ at_ ≤ 9223372036854775807) (w : World) :
    Calls Tryd.prog 39 #[.string s, .int .i64 at_] w (ReadOk (rdAt (bys s) at_) w) := by
  obtain ⟨hat0, hat1⟩ := hat
  by_cases h1 : at_ < 0
  · have hr : rdAt (bys s) at_ = (0, 0, 2) := by unfold rdAt; rw [if_pos (.inl h1)]
    have Hr := Lib.hid hr
    clear hr
    go_enter Tryd.func39, Tryd.ntmps39
    go_wp2
    go_ret3
    exact readOk_mk Hr.out (Below.refl _ _)
  · by_cases h2 : (s.size : Int) < at_
    · have hr : rdAt (bys s) at_ = (0, 0, 2) := by unfold rdAt; rw [if_pos (.inr (by rw [bys_length]; exact h2))]
      have Hr := Lib.hid hr
      clear hr
      go_enter Tryd.func39, Tryd.ntmps39
      go_wp2
      go_ret3
      exact readOk_mk Hr.out (Below.refl _ _)
    · by_cases h3 : at_ = s.size
      · have hr : rdAt (bys s) at_ = (0, 0, 6) := by
          unfold rdAt
          rw [if_neg (by rw [bys_length]; omega), List.drop_of_length_le (by rw [bys_length]; omega)]
          rfl
        have Hr := Lib.hid hr
        subst h3
        clear hr h1 h2
        go_enter Tryd.func39, Tryd.ntmps39
        go_wp2
        go_ret3
        exact readOk_mk Hr.out (Below.refl _ _)
      · obtain ⟨k, rfl⟩ : ∃ k : Nat, at_ = k := ⟨at_.toNat, by omega⟩
        exact refread_in s k (by omega) hs w
end Go.Proofs.YtdgpbminmlpebaaDoor
