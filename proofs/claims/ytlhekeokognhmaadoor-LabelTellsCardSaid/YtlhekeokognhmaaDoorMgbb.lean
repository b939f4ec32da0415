/-
  What Check, Points and Cut of the reference compute. The reference of layer 4, string by string: Less, Name, Value, wrong.
-/
import Derived.Test.YtlhekeokognhmaaDoorMgba
import Derived.Test.YtlhekeokognhmaaDoorMgax
import Derived.Test.YtlhekeokognhmaaDoorLbB
import Derived.BigQuiet
import Derived.Deep.QuietTactic
namespace Go.Proofs.YtlhekeokognhmaaDoor
open Go.RowKit Mt
theorem finF_go {l : List Int} {f a : Nat} (h : (rd (l.drop a)).2.2 = 0) : finF l (f + 1) a = finF l f (a + (rd (l.drop a)).2.1.toNat) := if_pos h
theorem finF_no {l : List Int} {f a : Nat} (h : ¬ (rd (l.drop a)).2.2 = 0) : finF l (f + 1) a = a := if_neg h
theorem rd_end {l : List Int} {a : Nat} (h : l.length ≤ a) : ¬ (rd (l.drop a)).2.2 = 0 := by rw [List.drop_of_length_le h]; decide
theorem chkE_end {l : List Int} (h : fin l = l.length) : chkE l = 0 := if_pos h
theorem chkE_at {l : List Int} {a : Nat} (h : fin l = a) (ha : a < l.length) : chkE l = (rd (l.drop a)).2.2 := by unfold chkE; rw [h, if_neg (by omega)]
theorem tw_no {α : Type} {q : α → Bool} {p : α} (h : q p = false) (l : List α) : (l ++ [p]).takeWhile q = l.takeWhile q := by
  induction l with
  | nil => simp [h]
  | cons x t ih =>
    rw [List.cons_append, List.takeWhile_cons, List.takeWhile_cons, ih]
theorem tw_yes {α : Type} {q : α → Bool} {p : α} (h : q p = true) (l : List α) (k : ∀ x ∈ l, q x = true) : (l ++ [p]).takeWhile q = l ++ [p] :=
  takeWhile_of_all fun y hy => by
    rcases List.mem_append.1 hy with hy | hy
    · exact k y hy
    · rw [List.mem_singleton.1 hy]; exact h
theorem own_below' {w w' : World} {base : Nat} {e : TypeId} {size : Nat} {v : Value} {n : Nat} {xs : List Value} (h : w.ownsRow base e size v n xs) (hb : Below w.heap.size w w') : w'.ownsRow base e size v n xs :=
  h.kept (row := none) ⟨hb.os, hb.tape, hb.output, hb.size, fun k hk _ => hb.block k hk⟩ (by cases v.ownBlock <;> simp)
set_option maxRecDepth 100000 in
set_option maxHeartbeats 2000000 in
theorem refcheck_any (s : ByteArray) (hs : s.size ≤ 140737488351232) (w : World) :
    Calls Tryd.prog 76 #[.string s] w fun e w' => e = .returned (.tuple #[.int .i64 (fin (bys s)), .int .i64 (chkE (bys s))]) ∧ Below w.heap.size w w' := by
  have hbl := bys_length s
  have Hbl := Lib.hid hbl
  have hfl := fin_le (bys s) (bys_bd s)
  rw [hbl] at hfl
  clear hbl
  go_enter Tryd.func76, Tryd.ntmps76
  go_wp2
  go_loopw [4] (fun v wr => ∃ a f : Nat, a ≤ s.size ∧ s.size < f + a ∧ v = .int .i64 a ∧ Below w.heap.size w wr ∧ Hid (finF (bys s) f a = fin (bys s))) (fun v _ => s.size - (intOf v).toNat)
  case atStart => exact ⟨0, s.size + 1, by omega, by omega, rfl, Below.refl _ _, by show _ = _; unfold fin; rw [Hbl.out]⟩
  case round =>
    obtain ⟨a, f, ha, hf, rfl, hb, hfin⟩ := hrel
    obtain ⟨f', rfl⟩ : ∃ f', f = f' + 1 := ⟨f - 1, by omega⟩
    by_cases has : a < s.size
    · have h1 : (a : Int) < s.size := by omega
      obtain ⟨hne, h0, hat, hll⟩ := miss_at has
      have cr := refread_any s hs (a : Int) (by omega) 
      rw [hat] at cr
      have hok := fun h => rd_ok_bd (l := (bys s).drop a) h0 h
      have hgo := fun h => (finF_go (f := f') (a := a) (l := bys s) h).symm.trans hfin.out
      have hno := fun h => (finF_no (f := f') (a := a) (l := bys s) h).symm.trans hfin.out
      have hce := fun h => chkE_at (l := bys s) (a := a) h (by rw [Hbl.out]; exact has)
      rw [hll] at hok
      generalize rd ((bys s).drop a) = R at *
      obtain ⟨x, n, e⟩ := R
      unfold ReadOk at cr
      dsimp only at *
      have CR := Lib.hid cr; have Hok := Lib.hid hok; have Hgo := Lib.hid hgo; have Hno := Lib.hid hno; have Hce := Lib.hid hce
      clear cr hok hgo hno hce hne h0 hat hll
      by_cases he : e = 0
      · obtain ⟨hn1, hn4, hnl⟩ := Hok.out he
        have Hg := Lib.hid (Hgo.out he)
        clear Hok Hgo Hno Hce
        subst he
        go_wp2_with fail
        refine (CR.out _).mono ?_
        rintro e' w3 ⟨rfl, hb3⟩
        have hB3 : Below w.heap.size w w3 := hb.trans (hb3.mono hb.size)
        clear hb3
        go_wp2
        go_roundw
        case rel => exact ⟨a + n.toNat, f', by omega, by omega, by go_num, hB3, Hg.out⟩
        case measure => simp [intOf]; omega
      · have Hf := Lib.hid (Hno.out he)
        have Hc := Lib.hid (Hce.out (Hno.out he).symm)
        have e1 : (e == 0) = false := by rw [beq_eq_false_iff_ne]; exact he
        have e2 : (e != 0) = true := by rw [bne_iff_ne]; exact he
        clear Hok Hgo Hno Hce
        go_wp2_with fail
        refine (CR.out _).mono ?_
        rintro e' w3 ⟨rfl, hb3⟩
        have hB3 : Below w.heap.size w w3 := hb.trans (hb3.mono hb.size)
        clear hb3
        go_wp2
        go_ret2
        exact ⟨by rw [Hc.out, ← Hf.out]; rfl, hB3⟩
    · have h1 : a = s.size := by omega
      have h2 : Hid (fin (bys s) = s.size) := by
        show _ = _
        rw [← hfin.out, finF_no (rd_end (by rw [Hbl.out]; omega)), h1]
      have h3 : Hid (chkE (bys s) = 0) := chkE_end (by rw [h2.out, Hbl.out])
      subst h1
      clear hfin
      go_wp2
      go_ret2
      exact ⟨by rw [h3.out, h2.out]; rfl, hb⟩
end Go.Proofs.YtlhekeokognhmaaDoor
namespace Go.Proofs.YtlhekeokognhmaaDoor
open Go.RowKit Go.Shelf Mt
theorem drewN3 (w : World) (a b c : Nat) : ((w.drewN a).drewN b).drewN c = w.drewN (a + b + c) := by
  simp only [World.drewN, Nat.add_assoc]
/-- The order of strings, byte by byte. -/
def lexI : List Int → List Int → Bool
  | [], [] => false
  | [], _ :: _ => true
  | _ :: _, [] => false
  | a :: l, b :: m => if a = b then lexI l m else decide (a < b)
theorem lexI_is : ∀ a b : List UInt8, lexI (a.map fun c => (c.toNat : Int)) (b.map fun c => (c.toNat : Int)) = decide (a < b)
  | [], [] => by simp [lexI]
  | [], b :: m => by simp [lexI]
  | a :: l, [] => by simp [lexI]
  | a :: l, b :: m => by
    have ih := lexI_is l m
    simp only [List.map_cons, lexI]
    rw [ih]
    by_cases h : a = b
    · subst h
      simp [List.cons_lt_cons_iff]
    · have h2 : ¬ (a.toNat : Int) = (b.toNat : Int) := fun e => h (UInt8.toNat_inj.1 (by omega))
      rw [if_neg h2]
      simp [List.cons_lt_cons_iff, h, UInt8.lt_iff_toNat_lt]
/-- Whether a string is before another one. -/
def ltB (a b : ByteArray) : Bool := decide (a.data.toList < b.data.toList)
theorem ltB_is (a b : ByteArray) : ltB a b = lexI (bys a) (bys b) := (lexI_is _ _).symm
theorem drop_get (l : List Int) (k : Nat) (h : k < l.length) : ∃ x, l[k]? = some x ∧ l.drop k = x :: l.drop (k + 1) :=
  ⟨l[k], List.getElem?_eq_getElem h, List.drop_eq_getElem_cons h⟩
theorem lexI_end {l m : List Int} {k : Nat} (h : ¬ k < l.length ∨ ¬ k < m.length) : lexI (l.drop k) (m.drop k) = (decide (¬ k < l.length) && decide (k < m.length)) := by
  by_cases h1 : k < l.length
  · obtain ⟨x, _, hx⟩ := drop_get l k h1
    have h2 : ¬ k < m.length := by omega
    rw [hx, List.drop_of_length_le (l := m) (by omega)]
    simp [lexI, h1]
  · rw [List.drop_of_length_le (l := l) (by omega)]
    by_cases h2 : k < m.length
    · obtain ⟨y, _, hy⟩ := drop_get m k h2
      rw [hy]
      simp [lexI, h1, h2]
    · rw [List.drop_of_length_le (by omega)]
      simp [lexI, h2]
set_option maxRecDepth 100000 in
theorem less_any (a b : ByteArray) (ha : a.size ≤ 1000000) (hb : b.size ≤ 1000000) (w : World) :
    Calls Tryd.prog 68 #[.string a, .string b] w fun e w' => e = .returned (.bool (ltB a b)) ∧ ∃ q, w' = w.drewN q := by
  have HL : Hid (ltB a b = lexI (bys a) (bys b)) := ltB_is a b
  have Ha := Lib.hid (bys_length a)
  have Hb := Lib.hid (bys_length b)
  go_enter Tryd.func68, Tryd.ntmps68
  go_wp2_with fail
  go_loopw [5] (fun v5 wr => ∃ k q : Nat, k ≤ a.size ∧ k ≤ b.size ∧ v5 = .int .i64 k ∧ wr = w.drewN q ∧ Hid (ltB a b = lexI ((bys a).drop k) ((bys b).drop k))) (fun v5 _ => a.size - (intOf v5).toNat)
  case atStart => exact ⟨0, 0, by omega, by omega, rfl, rfl, HL⟩
  case round =>
    obtain ⟨k, q, hk, hkb, rfl, rfl, hx⟩ := hrel
    by_cases h1 : k < a.size
    · by_cases h2 : k < b.size
      · obtain ⟨x, hx1, hx2⟩ := drop_get (bys a) k (by rw [Ha.out]; exact h1)
        obtain ⟨y, hy1, hy2⟩ := drop_get (bys b) k (by rw [Hb.out]; exact h2)
        have ix := idx_at a (bys a) rfl k k rfl x hx1
        have iy := idx_at b (bys b) rfl k k rfl y hy1
        rw [hx2, hy2] at hx
        clear hx1 hy1 hx2 hy2
        by_cases he : x = y
        · subst he
          have Hs : Hid (ltB a b = lexI ((bys a).drop (k + 1)) ((bys b).drop (k + 1))) := by
            show _ = _
            rw [hx.out, lexI, if_pos rfl]
          go_wp2_with fail
          go_quiet (fail)
          go_wp2_with fail
          go_roundw
          case rel => exact ⟨k + 1, _, by omega, by omega, by go_num, rfl, Hs⟩
          case measure => simp [intOf]; omega
        · have Hs : Hid (ltB a b = decide (x < y)) := by
            show _ = _
            rw [hx.out, lexI, if_neg he]
          have hb1 : (x != y) = true := bne_iff_ne.2 he
          clear he hx
          go_wp2_with fail
          go_quiet (fail)
          go_wp2_with fail
          go_quiet (fail)
          go_wp2_with fail
          go_ret
          exact ⟨by rw [Hs.out]; rfl, _, drewN3 _ _ _ _⟩
      · have Hs := Lib.hid (lexI_end (l := bys a) (m := bys b) (k := k) (.inr (by rw [Hb.out]; exact h2)))
        rw [Ha.out, Hb.out] at Hs
        have h3 : ¬ (a.size : Int) < b.size := by omega
        go_wp2_with fail
        go_ret
        exact ⟨by rw [hx.out, Hs.out]; simp [h1, h2], _, rfl⟩
    · have Hs := Lib.hid (lexI_end (l := bys a) (m := bys b) (k := k) (.inl (by rw [Ha.out]; exact h1)))
      rw [Ha.out, Hb.out] at Hs
      by_cases h2 : k < b.size
      · have h3 : (a.size : Int) < b.size := by omega
        go_wp2_with fail
        go_ret
        exact ⟨by rw [hx.out, Hs.out]; simp [h1, h2], _, rfl⟩
      · have h3 : ¬ (a.size : Int) < b.size := by omega
        go_wp2_with fail
        go_ret
        exact ⟨by rw [hx.out, Hs.out]; simp [h1, h2], _, rfl⟩
/-- A byte: in which of the classes it is. -/
theorem classes (c : Int) : (c < 48) ∨ (48 ≤ c ∧ c ≤ 57) ∨ c = 58 ∨ (59 ≤ c ∧ c ≤ 64) ∨ (65 ≤ c ∧ c ≤ 90) ∨ (91 ≤ c ∧ c ≤ 94) ∨ c = 95 ∨ c = 96 ∨ (97 ≤ c ∧ c ≤ 122) ∨ 123 ≤ c := by omega
theorem refvalue_any (s : ByteArray) (hs : s.size ≤ 1000000) (w : World) : Calls Tryd.prog 37 #[.string s] w fun e w' => e = .returned (.bool (valB s)) ∧ Kept w w' := by
  unfold valB
  by_cases h : s.size ≤ 1024
  · have C := Lib.hid (refcheck_any s (by omega) w)
    have h1 : ¬ (1024 : Int) < (s.size : Int) := by omega
    rw [decide_eq_true h, Bool.true_and]
    unfold vldB
    generalize chkE (bys s) = q at *
    generalize fin (bys s) = q2 at *
    clear h hs
    go_enter Tryd.func37, Tryd.ntmps37
    go_wp2_with (go_at_call 76; refine C.out.mono ?_; rintro e w1 ⟨rfl, hk⟩; have HK := Lib.hid hk; clear hk)
    go_ret
    exact ⟨rfl, HK.out⟩
  · have h1 : (1024 : Int) < (s.size : Int) := by omega
    rw [decide_eq_false h, Bool.false_and]
    clear h hs
    go_enter Tryd.func37, Tryd.ntmps37
    go_wp2_with fail
    go_ret
    exact ⟨rfl, Below.refl _ _⟩
end Go.Proofs.YtlhekeokognhmaaDoor
