/-
  What Read of the reference computes. What Points and Count of package utf compute. What Check, Points and Cut of the reference compute. The reference of layer 4, string by string: Less, Name, Value, wrong.
-/
import Derived.Test.YtlhekeokognhmaaGreatDoorMgaw
import Derived.Test.YtlhekeokognhmaaGreatDoorMgad
import Derived.Test.YtlhekeokognhmaaGreatDoorMgae
import Derived.Test.YtlhekeokognhmaaGreatDoorMgat
import Derived.RangeFuncBox
import Derived.RangeFuncNested
import Derived.Test.YtlhekeokognhmaaGreatDoorMgaf
import Derived.BigQuiet
import Derived.Deep.QuietTactic
namespace Go.Proofs.YtlhekeokognhmaaGreatDoor
open Go.RowKit Mt
theorem miss_at {s : ByteArray} {k : Nat} (hk : k < s.size) : (bys s).drop k ≠ [] ∧ (∀ c ∈ (bys s).drop k, 0 ≤ c ∧ c ≤ 255) ∧ rdAt (bys s) (k : Int) = rd ((bys s).drop k) ∧ ((bys s).drop k).length = s.size - k := by
  refine ⟨fun h => ?_, fun c hc => bys_bd s c (List.mem_of_mem_drop hc), ?_, by rw [List.length_drop, bys_length]⟩
  · have := congrArg List.length h
    rw [List.length_drop, bys_length] at this
    simp at this
    omega
  · unfold rdAt
    rw [if_neg (by rw [bys_length]; omega), Int.toNat_natCast]
theorem miss_all {L : List Int} {n : Nat} (hno : ∀ m : Nat, 1 ≤ m → m < n → m ≤ L.length → valR (L.take m) < 0) (h : n = 5 ∨ L.length < n) (h0 : ∀ c ∈ L, 0 ≤ c ∧ c ≤ 255) : (rd L).2.2 ≠ 0 :=
  miss h0 fun m h1 h2 h3 => hno m h1 (by omega) h3
set_option maxRecDepth 100000 in
set_option maxHeartbeats 2000000 in
theorem refread_in (s : ByteArray) (k : Nat) (hk : k < s.size) (hs : s.size ≤ 140737488351232) (w : World) :
    Calls Tryz.prog 107 #[.string s, .int .i64 (k : Int)] w (ReadOk (rdAt (bys s) (k : Int)) w) := by
  obtain ⟨hne, h0, hat, hll⟩ := miss_at hk
  have hxt : ∀ n : Nat, k + n ≤ s.size → ∃ T : ByteArray, Hid (bys T = ((bys s).drop k).take n) ∧ ∀ W, (Instr.slice 9 (.string s) (some (.int .i64 (k : Int))) (some (.int .i64 ((k : Int) + n))) none).run Tryz.prog W = .ok (.string T) W := by
    intro n hn
    refine ⟨s.extract k (k + n), ?_, fun W => ?_⟩
    · show bys _ = _
      rw [bys_extract, Nat.add_sub_cancel_left]
    · have := run_slice_string (P := Tryz.prog) W 9 s .i64 .i64 (k : Int) ((k : Int) + n) Tryz.underlying9 (by omega) (by omega) (by omega)
      rw [this, Int.toNat_natCast, show ((k : Int) + n).toNat = k + n from by omega]
  have hxd : ∃ U : ByteArray, Hid (bys U = (bys s).drop k) ∧ Hid (U.size = s.size - k) ∧ ∀ W, (Instr.slice 9 (.string s) (some (.int .i64 (k : Int))) none none).run Tryz.prog W = .ok (.string U) W := by
    refine ⟨s.extract k s.size, ?_, ?_, fun W => ?_⟩
    · show bys _ = _
      rw [bys_extract, List.take_of_length_le (by rw [hll]; exact Nat.le_refl _)]
    · show _ = _
      rw [← bys_length, bys_extract, List.length_take, hll, Nat.min_self]
    · have := run_slice_string_l (P := Tryz.prog) W 9 s Tryz.underlying9 .i64 (k : Int) (by omega) (by omega)
      rw [this, Int.toNat_natCast]
  obtain ⟨U, hU, hUs, hUr⟩ := hxd
  have Hxt := Lib.hid hxt; have HUr := Lib.hid hUr; have Hne := Lib.hid hne; have H0 := Lib.hid h0; have Hat := Lib.hid hat; have Hll := Lib.hid hll
  clear hxt hUr hne h0 hat hll
  have hk1 : (k : Int) < s.size := by omega
  have hk3 : ¬ s.size < k := by omega
  have hk4 : ¬ (k : Int) < 0 := by omega
  have hk2 : ((k : Int) == (s.size : Int)) = false := by rw [beq_eq_false_iff_ne]; omega
  go_enter Tryz.func107, Tryz.ntmps107
  go_wp2
  go_loopw [7] (fun v wr => ∃ n : Nat, 1 ≤ n ∧ n ≤ 5 ∧ v = .int .i64 n ∧ Below w.heap.size w wr ∧ Hid (∀ m : Nat, 1 ≤ m → m < n → m ≤ ((bys s).drop k).length → valR (((bys s).drop k).take m) < 0)) (fun v _ => 5 - (intOf v).toNat)
  case atStart => exact ⟨1, by omega, by omega, rfl, Below.refl _ _, fun m h1 h2 => by omega⟩
  case round =>
    obtain ⟨n, hn1, hn5, rfl, hb, hno⟩ := hrel
    by_cases hn : n ≤ 4
    · by_cases hkn : k + n ≤ s.size
      · obtain ⟨T, hT, hTr⟩ := Hxt.out n hkn
        have g1 : (n : Int) ≤ 4 := by omega
        have g2 : (k : Int) + n ≤ s.size := by omega
        have cv := refval_any T
        rw [hT.out] at cv
        have CV := Lib.hid cv
        clear cv
        go_wp2_with fail
        refine (CV.out _).mono ?_
        rintro e w3 ⟨rfl, hb4⟩
        have hB3 : Below w.heap.size w w3 := hb.trans (hb4.mono hb.size)
        clear hb4 CV hTr
        have hlow : -1 ≤ valR (((bys s).drop k).take n) := by
          by_cases h : 0 ≤ valR (((bys s).drop k).take n)
          · omega
          · unfold valR at h ⊢
            split
            · next q => have := (isPt_bds q.1).1; omega
            · omega
        obtain ⟨V, hV⟩ : ∃ V, valR (((bys s).drop k).take n) = V := ⟨_, rfl⟩
        have HV := Lib.hid hV
        rw [hV] at hlow ⊢
        clear hV
        by_cases hV0 : 0 ≤ V
        · go_wp2
          go_ret3
          refine readOk_mk ?_ hB3
          rw [Hat.out, hit (n := n) (by rw [Hll.out]; omega) (by rw [HV.out]; exact hV0), HV.out]
        · go_wp2
          go_roundw
          case rel =>
            exact ⟨n + 1, by omega, by omega, by go_num, hB3, fun m h1 h2 h3 => by
            rcases Nat.lt_or_ge m n with h' | h'
            · exact hno.out m h1 h' h3
            · obtain rfl : m = n := by omega
              rw [HV.out]; omega⟩
          case measure => simp [intOf]; omega
      · have g1 : (n : Int) ≤ 4 := by omega
        have g2 : ¬ (k : Int) + n ≤ s.size := by omega
        have hmi := Lib.hid (miss_all hno.out (by rw [Hll.out]; omega) H0.out)
        by_cases hsh : s.size - k < 4
        · have g3 : (s.size : Int) - k < 4 := by omega
          have cb := Lib.hid (fun w => refbeg_any U (by rw [hUs.out]; omega) w)
          have hUr := HUr.out
          go_wp2_with fail
          refine (cb.out _).mono ?_
          rintro e w3 ⟨b, rfl, hbe, hb4⟩
          have hB3 : Below w.heap.size w w3 := hb.trans (hb4.mono hb.size)
          clear hb4 cb hUr
          cases b
          · have Hbe : Hid (¬ begS (bys U)) := fun h => by have := hbe.2 h; cases this
            clear hbe
            go_wp2
            go_ret3
            refine readOk_mk ?_ hB3
            rw [Hat.out]
            rcases rd_err Hne.out H0.out hmi.out with ⟨h, _⟩ | h
            · exact absurd (by rw [hU.out]; exact beg_yes H0.out h) Hbe.out
            · exact h
          · have Hbe : Hid (begS (bys U)) := hbe.1 rfl
            clear hbe
            go_wp2
            go_ret3
            refine readOk_mk ?_ hB3
            rw [Hat.out]
            exact beg_no Hne.out (by rw [← hU.out]; exact Hbe.out)
        · have g3 : ¬ (s.size : Int) - k < 4 := by omega
          go_wp2
          go_ret3
          refine readOk_mk ?_ hb
          rw [Hat.out]
          rcases rd_err Hne.out H0.out hmi.out with ⟨_, h⟩ | h
          · rw [Hll.out] at h; omega
          · exact h
    · have g1 : ¬ (n : Int) ≤ 4 := by omega
      have hmi := Lib.hid (miss_all hno.out (by rw [Hll.out]; omega) H0.out)
      by_cases hsh : s.size - k < 4
      · have g3 : (s.size : Int) - k < 4 := by omega
        have cb := Lib.hid (fun w => refbeg_any U (by rw [hUs.out]; omega) w)
        have hUr := HUr.out
        go_wp2_with fail
        refine (cb.out _).mono ?_
        rintro e w3 ⟨b, rfl, hbe, hb4⟩
        have hB3 : Below w.heap.size w w3 := hb.trans (hb4.mono hb.size)
        clear hb4 cb hUr
        cases b
        · have Hbe : Hid (¬ begS (bys U)) := fun h => by have := hbe.2 h; cases this
          clear hbe
          go_wp2
          go_ret3
          refine readOk_mk ?_ hB3
          rw [Hat.out]
          rcases rd_err Hne.out H0.out hmi.out with ⟨h, _⟩ | h
          · exact absurd (by rw [hU.out]; exact beg_yes H0.out h) Hbe.out
          · exact h
        · have Hbe : Hid (begS (bys U)) := hbe.1 rfl
          clear hbe
          go_wp2
          go_ret3
          refine readOk_mk ?_ hB3
          rw [Hat.out]
          exact beg_no Hne.out (by rw [← hU.out]; exact Hbe.out)
      · have g3 : ¬ (s.size : Int) - k < 4 := by omega
        go_wp2
        go_ret3
        refine readOk_mk ?_ hb
        rw [Hat.out]
        rcases rd_err Hne.out H0.out hmi.out with ⟨_, h⟩ | h
        · rw [Hll.out] at h; omega
        · exact h
theorem refread_any (s : ByteArray) (hs : s.size ≤ 140737488351232) (at_ : Int) (hat : -9223372036854775808 ≤ at_ ∧ at_ ≤ 9223372036854775807) (w : World) :
    Calls Tryz.prog 107 #[.string s, .int .i64 at_] w (ReadOk (rdAt (bys s) at_) w) := by
  obtain ⟨hat0, hat1⟩ := hat
  by_cases h1 : at_ < 0
  · have hr : rdAt (bys s) at_ = (0, 0, 2) := by unfold rdAt; rw [if_pos (.inl h1)]
    have Hr := Lib.hid hr
    clear hr
    go_enter Tryz.func107, Tryz.ntmps107
    go_wp2
    go_ret3
    exact readOk_mk Hr.out (Below.refl _ _)
  · by_cases h2 : (s.size : Int) < at_
    · have hr : rdAt (bys s) at_ = (0, 0, 2) := by unfold rdAt; rw [if_pos (.inr (by rw [bys_length]; exact h2))]
      have Hr := Lib.hid hr
      clear hr
      go_enter Tryz.func107, Tryz.ntmps107
      go_wp2
      go_ret3
      exact readOk_mk Hr.out (Below.refl _ _)
    · by_cases h3 : at_ = s.size
      · have hr : rdAt (bys s) at_ = (0, 0, 6) := by
          unfold rdAt
          rw [if_neg (by rw [bys_length]; omega), List.drop_of_length_le (by rw [bys_length]; omega)]
          rfl
        have Hr := Lib.hid hr
        subst h3
        clear hr h1 h2
        go_enter Tryz.func107, Tryz.ntmps107
        go_wp2
        go_ret3
        exact readOk_mk Hr.out (Below.refl _ _)
      · obtain ⟨k, rfl⟩ : ∃ k : Nat, at_ = k := ⟨at_.toNat, by omega⟩
        exact refread_in s k (by omega) hs w
end Go.Proofs.YtlhekeokognhmaaGreatDoor
namespace Go.Proofs.YtlhekeokognhmaaGreatDoor
open Go.RowKit Go.Shelf Mt
attribute [local go_sem] Oper.semAt_some

/-- The code points of the bytes, in new memory. -/
def PtsOk (l : List Int) (w : World) (e : Ending) (w' : World) : Prop :=
  ∃ (A : Option Addr) (c : Nat), e = .returned (.tuple #[.slice A (pts l).length c, .int .i64 0]) ∧ Rd w' w'.heap.size A (pts l).length (i64s (pts l)) ∧ Below w.heap.size w w'
theorem short_bd {s : ByteArray} (h : shortE s = 0) : s.size ≤ 1048576 ∧ chkE (bys s) = 0 := by
  unfold shortE at h
  split at h
  · cases h
  · exact ⟨by omega, h⟩
/-- The collected code points after some rounds. -/
def sofar (pre : List (Int × Int)) : List Value := i64s (pre.map (·.2))
theorem sofar_snoc (pre : List (Int × Int)) (x : Int × Int) : sofar (pre ++ [x]) = sofar pre ++ i64s [x.2] := by simp [sofar, i64s]

end Go.Proofs.YtlhekeokognhmaaGreatDoor
namespace Go.Proofs.YtlhekeokognhmaaGreatDoor
open Go.RowKit Mt
theorem finF_go {l : List Int} {f a : Nat} (h : (rd (l.drop a)).2.2 = 0) : finF l (f + 1) a = finF l f (a + (rd (l.drop a)).2.1.toNat) := if_pos h
theorem finF_no {l : List Int} {f a : Nat} (h : ¬ (rd (l.drop a)).2.2 = 0) : finF l (f + 1) a = a := if_neg h
theorem rd_end {l : List Int} {a : Nat} (h : l.length ≤ a) : ¬ (rd (l.drop a)).2.2 = 0 := by rw [List.drop_of_length_le h]; decide
theorem chkE_end {l : List Int} (h : fin l = l.length) : chkE l = 0 := if_pos h
theorem chkE_at {l : List Int} {a : Nat} (h : fin l = a) (ha : a < l.length) : chkE l = (rd (l.drop a)).2.2 := by unfold chkE; rw [h, if_neg (by omega)]
theorem tw_no {α : Type} {q : α → Bool} {p : α} (h : q p = false) (l : List α) : (l ++ [p]).takeWhile q = l.takeWhile q := by
  induction l with
  | nil => simp [h]
  | cons x t ih =>
    rw [List.cons_append, List.takeWhile_cons, List.takeWhile_cons, ih]
theorem tw_yes {α : Type} {q : α → Bool} {p : α} (h : q p = true) (l : List α) (k : ∀ x ∈ l, q x = true) : (l ++ [p]).takeWhile q = l ++ [p] :=
  takeWhile_of_all fun y hy => by
    rcases List.mem_append.1 hy with hy | hy
    · exact k y hy
    · rw [List.mem_singleton.1 hy]; exact h
theorem own_below' {w w' : World} {base : Nat} {e : TypeId} {size : Nat} {v : Value} {n : Nat} {xs : List Value} (h : w.ownsRow base e size v n xs) (hb : Below w.heap.size w w') : w'.ownsRow base e size v n xs :=
  h.kept (row := none) ⟨hb.os, hb.tape, hb.output, hb.size, fun k hk _ => hb.block k hk⟩ (by cases v.ownBlock <;> simp)
set_option maxRecDepth 100000 in
set_option maxHeartbeats 2000000 in
theorem refcheck_any (s : ByteArray) (hs : s.size ≤ 140737488351232) (w : World) :
    Calls Tryz.prog 89 #[.string s] w fun e w' => e = .returned (.tuple #[.int .i64 (fin (bys s)), .int .i64 (chkE (bys s))]) ∧ Below w.heap.size w w' := by
  have hbl := bys_length s
  have Hbl := Lib.hid hbl
  have hfl := fin_le (bys s) (bys_bd s)
  rw [hbl] at hfl
  clear hbl
  go_enter Tryz.func89, Tryz.ntmps89
  go_wp2
  go_loopw [4] (fun v wr => ∃ a f : Nat, a ≤ s.size ∧ s.size < f + a ∧ v = .int .i64 a ∧ Below w.heap.size w wr ∧ Hid (finF (bys s) f a = fin (bys s))) (fun v _ => s.size - (intOf v).toNat)
  case atStart => exact ⟨0, s.size + 1, by omega, by omega, rfl, Below.refl _ _, by show _ = _; unfold fin; rw [Hbl.out]⟩
  case round =>
    obtain ⟨a, f, ha, hf, rfl, hb, hfin⟩ := hrel
    obtain ⟨f', rfl⟩ : ∃ f', f = f' + 1 := ⟨f - 1, by omega⟩
    by_cases has : a < s.size
    · have h1 : (a : Int) < s.size := by omega
      obtain ⟨hne, h0, hat, hll⟩ := miss_at has
      have cr := refread_any s hs (a : Int) (by omega) 
      rw [hat] at cr
      have hok := fun h => rd_ok_bd (l := (bys s).drop a) h0 h
      have hgo := fun h => (finF_go (f := f') (a := a) (l := bys s) h).symm.trans hfin.out
      have hno := fun h => (finF_no (f := f') (a := a) (l := bys s) h).symm.trans hfin.out
      have hce := fun h => chkE_at (l := bys s) (a := a) h (by rw [Hbl.out]; exact has)
      rw [hll] at hok
      generalize rd ((bys s).drop a) = R at *
      obtain ⟨x, n, e⟩ := R
      unfold ReadOk at cr
      dsimp only at *
      have CR := Lib.hid cr; have Hok := Lib.hid hok; have Hgo := Lib.hid hgo; have Hno := Lib.hid hno; have Hce := Lib.hid hce
      clear cr hok hgo hno hce hne h0 hat hll
      by_cases he : e = 0
      · obtain ⟨hn1, hn4, hnl⟩ := Hok.out he
        have Hg := Lib.hid (Hgo.out he)
        clear Hok Hgo Hno Hce
        subst he
        go_wp2_with fail
        refine (CR.out _).mono ?_
        rintro e' w3 ⟨rfl, hb3⟩
        have hB3 : Below w.heap.size w w3 := hb.trans (hb3.mono hb.size)
        clear hb3
        go_wp2
        go_roundw
        case rel => exact ⟨a + n.toNat, f', by omega, by omega, by go_num, hB3, Hg.out⟩
        case measure => simp [intOf]; omega
      · have Hf := Lib.hid (Hno.out he)
        have Hc := Lib.hid (Hce.out (Hno.out he).symm)
        have e1 : (e == 0) = false := by rw [beq_eq_false_iff_ne]; exact he
        have e2 : (e != 0) = true := by rw [bne_iff_ne]; exact he
        clear Hok Hgo Hno Hce
        go_wp2_with fail
        refine (CR.out _).mono ?_
        rintro e' w3 ⟨rfl, hb3⟩
        have hB3 : Below w.heap.size w w3 := hb.trans (hb3.mono hb.size)
        clear hb3
        go_wp2
        go_ret2
        exact ⟨by rw [Hc.out, ← Hf.out]; rfl, hB3⟩
    · have h1 : a = s.size := by omega
      have h2 : Hid (fin (bys s) = s.size) := by
        show _ = _
        rw [← hfin.out, finF_no (rd_end (by rw [Hbl.out]; omega)), h1]
      have h3 : Hid (chkE (bys s) = 0) := chkE_end (by rw [h2.out, Hbl.out])
      subst h1
      clear hfin
      go_wp2
      go_ret2
      exact ⟨by rw [h3.out, h2.out]; rfl, hb⟩
end Go.Proofs.YtlhekeokognhmaaGreatDoor
namespace Go.Proofs.YtlhekeokognhmaaGreatDoor
open Go.RowKit Go.Shelf Mt
theorem drewN3 (w : World) (a b c : Nat) : ((w.drewN a).drewN b).drewN c = w.drewN (a + b + c) := by
  simp only [World.drewN, Nat.add_assoc]
/-- The order of strings, byte by byte. -/
def lexI : List Int → List Int → Bool
  | [], [] => false
  | [], _ :: _ => true
  | _ :: _, [] => false
  | a :: l, b :: m => if a = b then lexI l m else decide (a < b)
theorem lexI_is : ∀ a b : List UInt8, lexI (a.map fun c => (c.toNat : Int)) (b.map fun c => (c.toNat : Int)) = decide (a < b)
  | [], [] => by simp [lexI]
  | [], b :: m => by simp [lexI]
  | a :: l, [] => by simp [lexI]
  | a :: l, b :: m => by
    have ih := lexI_is l m
    simp only [List.map_cons, lexI]
    rw [ih]
    by_cases h : a = b
    · subst h
      simp
    · have h2 : ¬ (a.toNat : Int) = (b.toNat : Int) := fun e => h (UInt8.toNat_inj.1 (by omega))
      rw [if_neg h2]
      simp [List.cons_lt_cons_iff, h, UInt8.lt_iff_toNat_lt]
/-- Whether a string is before another one. -/
def ltB (a b : ByteArray) : Bool := decide (a.data.toList < b.data.toList)
theorem ltB_is (a b : ByteArray) : ltB a b = lexI (bys a) (bys b) := (lexI_is _ _).symm
theorem drop_get (l : List Int) (k : Nat) (h : k < l.length) : ∃ x, l[k]? = some x ∧ l.drop k = x :: l.drop (k + 1) :=
  ⟨l[k], List.getElem?_eq_getElem h, List.drop_eq_getElem_cons h⟩
theorem lexI_end {l m : List Int} {k : Nat} (h : ¬ k < l.length ∨ ¬ k < m.length) : lexI (l.drop k) (m.drop k) = (decide (¬ k < l.length) && decide (k < m.length)) := by
  by_cases h1 : k < l.length
  · obtain ⟨x, _, hx⟩ := drop_get l k h1
    have h2 : ¬ k < m.length := by omega
    rw [hx, List.drop_of_length_le (l := m) (by omega)]
    simp [lexI, h1]
  · rw [List.drop_of_length_le (l := l) (by omega)]
    by_cases h2 : k < m.length
    · obtain ⟨y, _, hy⟩ := drop_get m k h2
      rw [hy]
      simp [lexI, h1, h2]
    · rw [List.drop_of_length_le (by omega)]
      simp [lexI, h2]
set_option maxRecDepth 100000 in
theorem less_any (a b : ByteArray) (ha : a.size ≤ 1000000) (hb : b.size ≤ 1000000) (w : World) :
    Calls Tryz.prog 84 #[.string a, .string b] w fun e w' => e = .returned (.bool (ltB a b)) ∧ ∃ q, w' = w.drewN q := by
  have HL : Hid (ltB a b = lexI (bys a) (bys b)) := ltB_is a b
  have Ha := Lib.hid (bys_length a)
  have Hb := Lib.hid (bys_length b)
  go_enter Tryz.func84, Tryz.ntmps84
  go_wp2_with fail
  go_loopw [5] (fun v5 wr => ∃ k q : Nat, k ≤ a.size ∧ k ≤ b.size ∧ v5 = .int .i64 k ∧ wr = w.drewN q ∧ Hid (ltB a b = lexI ((bys a).drop k) ((bys b).drop k))) (fun v5 _ => a.size - (intOf v5).toNat)
  case atStart => exact ⟨0, 0, by omega, by omega, rfl, rfl, HL⟩
  case round =>
    obtain ⟨k, q, hk, hkb, rfl, rfl, hx⟩ := hrel
    by_cases h1 : k < a.size
    · by_cases h2 : k < b.size
      · obtain ⟨x, hx1, hx2⟩ := drop_get (bys a) k (by rw [Ha.out]; exact h1)
        obtain ⟨y, hy1, hy2⟩ := drop_get (bys b) k (by rw [Hb.out]; exact h2)
        have ix := idx_at a (bys a) rfl k k rfl x hx1
        have iy := idx_at b (bys b) rfl k k rfl y hy1
        rw [hx2, hy2] at hx
        clear hx1 hy1 hx2 hy2
        by_cases he : x = y
        · subst he
          have Hs : Hid (ltB a b = lexI ((bys a).drop (k + 1)) ((bys b).drop (k + 1))) := by
            show _ = _
            rw [hx.out, lexI, if_pos rfl]
          go_wp2_with fail
          go_quiet (fail)
          go_wp2_with fail
          go_roundw
          case rel => exact ⟨k + 1, _, by omega, by omega, by go_num, rfl, Hs⟩
          case measure => simp [intOf]; omega
        · have Hs : Hid (ltB a b = decide (x < y)) := by
            show _ = _
            rw [hx.out, lexI, if_neg he]
          have hb1 : (x != y) = true := bne_iff_ne.2 he
          clear he hx
          go_wp2_with fail
          go_quiet (fail)
          go_wp2_with fail
          go_quiet (fail)
          go_wp2_with fail
          go_ret
          exact ⟨by rw [Hs.out]; rfl, _, drewN3 _ _ _ _⟩
      · have Hs := Lib.hid (lexI_end (l := bys a) (m := bys b) (k := k) (.inr (by rw [Hb.out]; exact h2)))
        rw [Ha.out, Hb.out] at Hs
        have h3 : ¬ (a.size : Int) < b.size := by omega
        go_wp2_with fail
        go_ret
        exact ⟨by rw [hx.out, Hs.out]; simp [h1, h2], _, rfl⟩
    · have Hs := Lib.hid (lexI_end (l := bys a) (m := bys b) (k := k) (.inl (by rw [Ha.out]; exact h1)))
      rw [Ha.out, Hb.out] at Hs
      by_cases h2 : k < b.size
      · have h3 : (a.size : Int) < b.size := by omega
        go_wp2_with fail
        go_ret
        exact ⟨by rw [hx.out, Hs.out]; simp [h1, h2], _, rfl⟩
      · have h3 : ¬ (a.size : Int) < b.size := by omega
        go_wp2_with fail
        go_ret
        exact ⟨by rw [hx.out, Hs.out]; simp [h1, h2], _, rfl⟩
/-- A byte: in which of the classes it is. -/
theorem classes (c : Int) : (c < 48) ∨ (48 ≤ c ∧ c ≤ 57) ∨ c = 58 ∨ (59 ≤ c ∧ c ≤ 64) ∨ (65 ≤ c ∧ c ≤ 90) ∨ (91 ≤ c ∧ c ≤ 94) ∨ c = 95 ∨ c = 96 ∨ (97 ≤ c ∧ c ≤ 122) ∨ 123 ≤ c := by omega
theorem refvalue_any (s : ByteArray) (hs : s.size ≤ 1000000) (w : World) : Calls Tryz.prog 49 #[.string s] w fun e w' => e = .returned (.bool (valB s)) ∧ Kept w w' := by
  unfold valB
  by_cases h : s.size ≤ 1024
  · have C := Lib.hid (refcheck_any s (by omega) w)
    have h1 : ¬ (1024 : Int) < (s.size : Int) := by omega
    rw [decide_eq_true h, Bool.true_and]
    unfold vldB
    generalize chkE (bys s) = q at *
    generalize fin (bys s) = q2 at *
    clear h hs
    go_enter Tryz.func49, Tryz.ntmps49
    go_wp2_with (go_at_call 89; refine C.out.mono ?_; rintro e w1 ⟨rfl, hk⟩; have HK := Lib.hid hk; clear hk)
    go_ret
    exact ⟨rfl, HK.out⟩
  · have h1 : (1024 : Int) < (s.size : Int) := by omega
    rw [decide_eq_false h, Bool.false_and]
    clear h hs
    go_enter Tryz.func49, Tryz.ntmps49
    go_wp2_with fail
    go_ret
    exact ⟨rfl, Below.refl _ _⟩
end Go.Proofs.YtlhekeokognhmaaGreatDoor
