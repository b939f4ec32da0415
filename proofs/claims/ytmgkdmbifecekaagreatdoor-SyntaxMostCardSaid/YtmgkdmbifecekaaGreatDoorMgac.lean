/-
  Package class: numbers behind \x, escapes. Package class: escapes. Arrays in memory at any address: loads and stores of all their cells, as steps of a walk and of a region that draws its order.
-/
import Derived.Test.YtmgkdmbifecekaaGreatDoorMgab
import Derived.Test.YtmgkdmbifecekaaGreatDoorMgaa
import Derived.Laws.CopyRow
import Derived.Laws.Tables
import Derived.Deep.RegionLaw
namespace Go.Proofs.YtmgkdmbifecekaaGreatDoor
open Go.RowKit Go.Shelf
def toI (l : List UInt8) : List Int := l.map fun b => (b.toNat : Int)
theorem bys_toI (s : ByteArray) : bys s = toI s.data.toList := rfl
theorem toI_take (l : List UInt8) (k : Nat) : (toI l).take k = toI (l.take k) := by unfold toI; rw [List.map_take]
theorem toI_drop (l : List UInt8) (k : Nat) : (toI l).drop k = toI (l.drop k) := by unfold toI; rw [List.map_drop]
theorem toI_length (l : List UInt8) : (toI l).length = l.length := by simp [toI]
theorem extD (s : ByteArray) (k : Nat) : (s.extract k s.size).data.toList = s.data.toList.drop k := by
  rw [Lib.extract_data, List.take_of_length_le (by rw [List.length_drop, Array.length_toList]; exact Nat.le_refl _)]
theorem data_len (s : ByteArray) : s.data.toList.length = s.size := by rw [Array.length_toList]; rfl
theorem pre1 (b : UInt8) (l : List UInt8) (h : [b].isPrefixOf l = true) : ∃ r, l = b :: r := by
  cases l with
  | nil => simp [List.isPrefixOf] at h
  | cons c r =>
    simp [List.isPrefixOf] at h
    exact ⟨r, by rw [h]⟩
/-- What stands behind a \x. -/
def numS (l : List UInt8) : Int × Nat × Bool :=
  if [123].isPrefixOf l = true then ((hexN (toI ((l.drop 1).take 6))).1, (hexN (toI ((l.drop 1).take 6))).2 + 2, decide (0 < (hexN (toI ((l.drop 1).take 6))).2) && [125].isPrefixOf ((l.drop 1).drop (hexN (toI ((l.drop 1).take 6))).2) && pntB (hexN (toI ((l.drop 1).take 6))).1)
  else ((hexN (toI (l.take 2))).1, (hexN (toI (l.take 2))).2, decide ((hexN (toI (l.take 2))).2 = 2))
theorem hexN_len (xs : List Int) : (hexN xs).2 ≤ xs.length := by have := hexG_len xs 0 0; unfold hexN; omega
theorem number_any (s : ByteArray) (w : World) : Calls Tryz.prog 189 #[.string s] w fun e w' => e = .returned (.tuple #[.int .i64 (numS s.data.toList).1, .int .i64 ((numS s.data.toList).2.1 : Nat), .bool (numS s.data.toList).2.2]) ∧ w = w' := by
  have CP := Lib.hid (fun p => sh_strings_HasPrefix s p w)
  have CG := Lib.hid digits_any
  have CPt := Lib.hid point_any
  have hlen := data_len s
  unfold numS
  by_cases hp : [123].isPrefixOf s.data.toList = true
  · obtain ⟨r, hr⟩ := pre1 _ _ hp
    have h1 : 1 ≤ s.size := by rw [← hlen, hr]; simp
    rw [if_pos hp]
    obtain ⟨t, ht⟩ : ∃ t, t = s.extract 1 s.size := ⟨_, rfl⟩
    have htd : t.data.toList = s.data.toList.drop 1 := by rw [ht, extD]
    rw [← htd]
    obtain ⟨h, hh⟩ : ∃ h, h = hexN (toI (t.data.toList.take 6)) := ⟨_, rfl⟩
    have hle : h.2 ≤ t.size := by
      have := hexN_len (toI (t.data.toList.take 6))
      rw [toI_length, List.length_take, data_len, ← hh] at this
      omega
    have hts : t.size = s.size - 1 := by rw [← data_len, htd, List.length_drop, hlen]
    have hle6 : h.2 ≤ 6 := by
      have := hexN_len (toI (t.data.toList.take 6))
      rw [toI_length, List.length_take, ← hh] at this
      omega
    have CG1 : Hid (∀ w, Calls Tryz.prog 211 #[.string t, .int .i64 (6 : Nat)] w fun e w' => e = .returned (.tuple #[.int .i64 h.1, .int .i64 (h.2 : Nat)]) ∧ w = w') := fun w => by
      have := digits_any t 6 (by omega) w
      rw [bys_toI, toI_take, ← hh] at this
      exact this
    have hp2 : Lib.hasPrefix s.data.toList [123] = true := hp
    rw [← hh]
    obtain ⟨b, hb⟩ : ∃ b, b = [125].isPrefixOf (t.data.toList.drop h.2) := ⟨_, rfl⟩
    have CP2 : Hid (∀ w, Calls Tryz.prog 50 #[.string (s.extract (1 + h.2) s.size), .string ⟨#[125]⟩] w fun e w' => e = .returned (.bool b) ∧ w' = w) := fun w => by
      have h2 := sh_strings_HasPrefix (s.extract (1 + h.2) s.size) ⟨#[125]⟩ w
      rw [extD, ← List.drop_drop, ← htd] at h2
      rw [hb]
      exact h2
    rw [← hb]
    obtain ⟨q, hq⟩ : ∃ q, q = pntB h.1 := ⟨_, rfl⟩
    have CP3 : Hid (∀ w, Calls Tryz.prog 120 #[.int .i64 h.1] w fun e w' => e = .returned (.bool q) ∧ w = w') := fun w => by rw [hq]; exact point_any h.1 w
    rw [← hq]
    clear hh hp hb htd hq hr hlen
    go_enter Tryz.func189, Tryz.ntmps189
    go_wp2_with fail
    refine (CP.out _).mono ?_
    rintro e w1 ⟨rfl, rfl⟩
    have hp3 : Lib.hasPrefix s.data.toList (⟨#[123]⟩ : ByteArray).data.toList = true := hp2
    rw [hp3]
    have h3 : h.2 + 1 ≤ s.size := by omega
    have h4 : (1 : Int) + h.2 ≤ s.size := by omega
    go_wp2_with fail
    rw [← ht]
    refine (CG1.out _).mono ?_
    rintro e w2 ⟨rfl, rfl⟩
    go_wp2_with fail
    refine (CP2.out _).mono ?_
    rintro e w2 ⟨rfl, rfl⟩
    by_cases h5 : 0 < h.2
    · have h6 : (0 : Int) < (h.2 : Int) := by omega
      cases b
      all_goals
        go_wp2_with (refine (CP3.out _).mono ?_; rintro e w2 ⟨rfl, rfl⟩)
        go_ret3
        exact ⟨by first | rfl | (simp [h5]; done) | (simp [h5]; exact h6), rfl⟩
    · have h6 : ¬ (0 : Int) < (h.2 : Int) := by omega
      go_wp2_with fail
      go_ret3
      exact ⟨by first | rfl | (simp [h5]; done) | (simp [h5]; exact h6), rfl⟩
  · rw [if_neg hp]
    have hp2 : Lib.hasPrefix s.data.toList [123] = false := by
      exact eq_false_of_ne_true hp
    obtain ⟨h, hh⟩ : ∃ h, h = hexN (toI (s.data.toList.take 2)) := ⟨_, rfl⟩
    have CG1 : Hid (∀ w, Calls Tryz.prog 211 #[.string s, .int .i64 (2 : Nat)] w fun e w' => e = .returned (.tuple #[.int .i64 h.1, .int .i64 (h.2 : Nat)]) ∧ w = w') := fun w => by
      have := digits_any s 2 (by omega) w
      rw [bys_toI, toI_take, ← hh] at this
      exact this
    rw [← hh]
    clear hh hp
    go_enter Tryz.func189, Tryz.ntmps189
    go_wp2_with fail
    refine (CP.out _).mono ?_
    rintro e w1 ⟨rfl, rfl⟩
    have hp3 : Lib.hasPrefix s.data.toList (⟨#[123]⟩ : ByteArray).data.toList = false := hp2
    rw [hp3]
    go_wp2_with fail
    refine (CG1.out _).mono ?_
    rintro e w2 ⟨rfl, rfl⟩
    by_cases h5 : h.2 = 2
    · have h6 : (h.2 : Int) = 2 := by omega
      go_wp2_with fail
      go_ret3
      exact ⟨by first | rfl | (simp [h5]; done) | (simp [h5]; exact h6), rfl⟩
    · have h6 : ¬ (h.2 : Int) = 2 := by omega
      go_wp2_with fail
      go_ret3
      exact ⟨by first | rfl | (simp [h5]; done) | (simp [h5]; exact h6), rfl⟩
end Go.Proofs.YtmgkdmbifecekaaGreatDoor
namespace Go.Proofs.YtmgkdmbifecekaaGreatDoor
open Go.RowKit Go.Shelf
/-- The letters behind a \, and what they mean. -/
def ltrI (b : UInt8) : Int := Lib.indexByte [110, 116, 114, 102, 118, 97] b
def ltrM (i : Int) : Int := if i = 0 then 10 else if i = 1 then 9 else if i = 2 then 13 else if i = 3 then 12 else if i = 4 then 11 else 7
theorem ltrI_cases (b : UInt8) : ltrI b = -1 ∨ ltrI b = 0 ∨ ltrI b = 1 ∨ ltrI b = 2 ∨ ltrI b = 3 ∨ ltrI b = 4 ∨ ltrI b = 5 := by
  unfold ltrI
  simp only [Lib.indexByte]
  repeat' split
  all_goals simp_all
def escB (b : UInt8) (r : List UInt8) : Option (Int × Nat) :=
  if b = 120 then (if (numS r).2.2 = true then some ((numS r).1, 2 + (numS r).2.1) else none)
  else if 0 ≤ ltrI b then some (ltrM (ltrI b), 2) else if mrkB (b.toNat : Int) = true then some ((b.toNat : Int), 2) else none
def escS : List UInt8 → Option (Int × Nat)
  | a :: b :: r => if a = 92 then escB b r else none
  | _ => none
theorem escS_cons (a b : UInt8) (r : List UInt8) : escS (a :: b :: r) = if a = 92 then escB b r else none := rfl
theorem escS_short (l : List UInt8) (h : l.length < 2) : escS l = none := by
  rcases l with _ | ⟨a, _ | ⟨b, r⟩⟩
  · rfl
  · rfl
  · simp at h; omega
def escV : Option (Int × Nat) → Value
  | some (c, n) => .tuple #[.int .i64 c, .int .i64 (n : Nat), .int .i64 0]
  | none => .tuple #[.int .i64 0, .int .i64 0, .int .i64 61]
theorem numS_le (l : List UInt8) : (numS l).2.1 ≤ 8 := by
  have h6 := hexN_len (toI ((l.drop 1).take 6))
  have h2 := hexN_len (toI (l.take 2))
  rw [toI_length, List.length_take] at h6 h2
  unfold numS
  split <;> dsimp only <;> omega
theorem two_of (s : ByteArray) (h : 2 ≤ s.size) : s.data.toList = s[0] :: s[1] :: s.data.toList.drop 2 := by
  have h1 : 2 ≤ s.data.toList.length := by rw [data_len]; exact h
  have e : s.data.toList.drop 0 = s.data.toList[0] :: s.data.toList.drop 1 := List.drop_eq_getElem_cons (by omega)
  rw [List.drop_zero, List.drop_eq_getElem_cons (i := 1) (by omega)] at e
  exact e
theorem escape_any (s : ByteArray) (w : World) : Calls Tryz.prog 174 #[.string s] w fun e w' => e = .returned (escV (escS s.data.toList)) ∧ w = w' := by
  by_cases h2 : 2 ≤ s.size
  · rw [two_of s h2]
    have hs2 : (s.extract 2 s.size).data.toList = s.data.toList.drop 2 := extD s 2
    have CN := number_any (s.extract 2 s.size)
    rw [hs2] at CN
    obtain ⟨r, hr⟩ : ∃ r, r = s.data.toList.drop 2 := ⟨_, rfl⟩
    rw [← hr] at CN ⊢
    replace CN := Lib.hid CN
    have CI : Hid (∀ w, Calls Tryz.prog 136 #[.string ⟨#[110, 116, 114, 102, 118, 97]⟩, .int .u8 (s[1].toNat : Int)] w fun e w' => e = .returned (.int .i64 (ltrI s[1])) ∧ w' = w) := fun w => by
      have := sh_strings_IndexByte ⟨#[110, 116, 114, 102, 118, 97]⟩ (s[1].toNat : Int) w
      simpa [ltrI] using this
    have CM := Lib.hid (fun w => mark_any (s[1].toNat : Int) (by have := s[1].toNat_lt; omega) w)
    have hI := ltrI_cases s[1]
    have h2i : (2 : Int) ≤ s.size := by omega
    have h01 : 0 < s.size := by omega
    have h11 : 1 < s.size := by omega
    clear hr hs2
    rw [escS_cons]
    by_cases h92 : s[0] = 92
    · have k92 : (s[0].toNat : Int) = 92 := by rw [h92]; rfl
      rw [if_pos h92]
      unfold escB
      by_cases h120 : s[1] = 120
      · have k120 : (s[1].toNat : Int) = 120 := by rw [h120]; rfl
        rw [if_pos h120]
        obtain ⟨t, ht⟩ : ∃ t, t = numS r := ⟨_, rfl⟩
        have hn := numS_le r
        rw [← ht] at CN hn ⊢
        obtain ⟨c, n, ok⟩ := t
        have hn8 : n ≤ 8 := hn
        clear hn
        clear ht CM CI hI
        cases ok
        all_goals
          go_enter Tryz.func174, Tryz.ntmps174
          go_wp2_with (go_at_call 189; refine (CN.out _).mono ?_; rintro e w1 ⟨rfl, rfl⟩)
          go_ret3
          exact ⟨by first | rfl | (simp [escV]; done) | (simp [escV]; unfold wrap64; omega) | (simp [escV]; kernel_rfl), rfl⟩
      · have k120 : ¬ (s[1].toNat : Int) = 120 := by
          intro e
          exact h120 (UInt8.toNat_inj.1 (by show _ = 120; omega))
        have k120b : ((s[1].toNat : Int) == 120) = false := by rw [beq_eq_false_iff_ne]; exact k120
        rw [if_neg h120]
        clear CN
        have hb := s[1].toNat_lt
        rcases hI with hi | hi | hi | hi | hi | hi | hi
        all_goals
          rw [hi] at CI ⊢
        · rw [if_neg (by decide)]
          generalize mrkB (s[1].toNat : Int) = m at CM ⊢
          cases m
          all_goals
            go_enter Tryz.func174, Tryz.ntmps174
            go_wp2_with (first | (go_at_call 136; refine (CI.out _).mono ?_; rintro e w1 ⟨rfl, rfl⟩) | (go_at_call 190; refine (CM.out _).mono ?_; rintro e w1 ⟨rfl, rfl⟩))
            go_ret3
            exact ⟨by first | rfl | (simp [escV]; done) | (simp [escV]; unfold wrap64; omega) | (simp [escV]; kernel_rfl), rfl⟩
        all_goals
          rw [if_pos (by decide)]
          clear CM
          go_enter Tryz.func174, Tryz.ntmps174
          go_wp2_with (go_at_call 136; refine (CI.out _).mono ?_; rintro e w1 ⟨rfl, rfl⟩)
          go_ret3
          exact ⟨by first | rfl | (simp [escV]; done) | (simp [escV]; unfold wrap64; omega) | (simp [escV]; kernel_rfl), rfl⟩
    · have k92 : ¬ (s[0].toNat : Int) = 92 := by
        intro e
        exact h92 (UInt8.toNat_inj.1 (by show _ = 92; omega))
      have k92b : ((s[0].toNat : Int) != 92) = true := by rw [bne_iff_ne]; exact k92
      rw [if_neg h92]
      clear CN CI CM hI
      go_enter Tryz.func174, Tryz.ntmps174
      go_wp2_with fail
      go_ret3
      exact ⟨by first | rfl | (simp [escV]; done) | (simp [escV]; unfold wrap64; omega) | (simp [escV]; kernel_rfl), rfl⟩
  · have h2i : (s.size : Int) < 2 := by omega
    rw [escS_short _ (by rw [data_len]; omega)]
    go_enter Tryz.func174, Tryz.ntmps174
    go_wp2_with fail
    go_ret3
    exact ⟨by first | rfl | (simp [escV]; done) | (simp [escV]; unfold wrap64; omega) | (simp [escV]; kernel_rfl), rfl⟩
end Go.Proofs.YtmgkdmbifecekaaGreatDoor
namespace Go.Proofs.YtmgkdmbifecekaaGreatDoor
open Go.RowKit
section
variable {P : Program} {ops : Array Oper} {rest : List Oper} {o : Oper} {a : Act} {w : World} {K : Act → World → Prop} {Q : Exit → Act → World → Prop} {E : Prop}
theorem run_loadVar_at (w : World) (ad : Addr) (ty : TypeId) (cs : Array Value) (d : TypeDesc) (hc : ∀ j v, cs[j]? = some v → w.cell? (ad.add j) = some v)
    (hu : P.underlying ty = some d) (hd : (match d with | .struct _ | .array _ _ => true | _ => false) = true) (hi : (P.info? ty).map (·.size) = some cs.size) :
    (loadVar ty ad).run P w = .ok (.agg cs) w := by
  have hl : (loadCells ad cs.toList.length).run P w = .ok cs.toList.toArray w := run_loadCells_list (P := P) w ad cs.toList (fun j v hv => hc j v (by simpa using hv))
  cases hq : P.info? ty with
  | none => simp [hq] at hi
  | some i =>
    have hs : i.size = cs.size := by simpa [hq] using hi
    have hagg : (isAgg ty).run P w = .ok true w := by
      unfold isAgg
      rw [Sem.run_bind, run_underlying hu w]
      cases d <;> simp_all
    simp only [Array.length_toList, Array.toArray_toList] at hl
    simp [loadVar, Sem.run_bind, hagg, sizeOf, typeInfo, hq, hs, hl]
theorem wp_load_at (ty : TypeId) (x : Operand) (ho : o.op = .load ty x) (ad : Addr) (hx : a.eval x = .pointer (some ad)) (cs : Array Value) (d : TypeDesc) (hc : ∀ j v, cs[j]? = some v → w.cell? (ad.add j) = some v)
    (hu : P.underlying ty = some d) (hd : (match d with | .struct _ | .array _ _ => true | _ => false) = true) (hi : (P.info? ty).map (·.size) = some cs.size)
    (h : K (a.put o.dst (.agg cs)) w) : o.wp P a w K Q := by
  unfold Oper.wp execOp
  simp only [ho, hx, Instr.loadAt, Instr.sureAddr, Sem.run_bind, Sem.run_pure, Result.andThen_ok, run_loadVar_at w ad ty cs d hc hu hd hi]
  exact h
theorem wpList_load_at (hgd : o.guard = none) (ty : TypeId) (x : Operand) (ho : o.op = .load ty x) (ad : Addr) (hx : a.eval x = .pointer (some ad)) (cs : Array Value) (d : TypeDesc)
    (hc : ∀ j v, cs[j]? = some v → w.cell? (ad.add j) = some v)
    (hu : P.underlying ty = some d) (hd : (match d with | .struct _ | .array _ _ => true | _ => false) = true) (hi : (P.info? ty).map (·.size) = some cs.size)
    (h : wpList P ops Q rest (a.put o.dst (.agg cs)) w) : wpList P ops Q (o :: rest) a w :=
  wpList_plain hgd fun _ hK => wp_load_at ty x ho ad hx cs d hc hu hd hi (hK _ _ h)
theorem step_load_at (hgd : o.guard = none) (ty : TypeId) (x : Operand) (ho : o.op = .load ty x) (ad : Addr) (hx : a.eval x = .pointer (some ad)) (cs : Array Value) (d : TypeDesc)
    (hc : ∀ j v, cs[j]? = some v → w.cell? (ad.add j) = some v)
    (hu : P.underlying ty = some d) (hd : (match d with | .struct _ | .array _ _ => true | _ => false) = true) (hi : (P.info? ty).map (·.size) = some cs.size)
    (h : K (a.put o.dst (.agg cs)) w) : if Region.wanted o (yielded ops a.tmps) = true then Oper.wp P o a w K Q else E := by
  have hw : Region.wanted o (yielded ops a.tmps) = true := by simp [Region.wanted, hgd]
  rw [if_pos hw]
  exact wp_load_at ty x ho ad hx cs d hc hu hd hi h
/-- A store of an array into cells of a block. -/
theorem run_storeVar_at (w : World) (g off : Nat) (t ty : TypeId) (old : List Value) (cells : List Value) (hg : w.heap[g]? = some (.cells old.toArray t (0, 0))) (hi : (P.info? ty).map (·.size) = some cells.length)
    (ho : off + cells.length ≤ old.length) (h1 : ∀ v ∈ cells, v.oneCell' = true) :
    (storeVar ty ⟨g, off, none⟩ (.agg cells.toArray)).run P w = .ok () (w.setRow g (splice old off cells).toArray) := by
  have := run_storeCells_at P g off t cells 0 old.toArray w hg (by simpa using ho) h1
  cases hq : P.info? ty with
  | none => simp [hq] at hi
  | some i =>
    have hs : cells.length = i.size := by simp [hq] at hi; omega
    simp [storeVar, sizeOf, typeInfo, hq, Value.cells, hs, this, splice]
theorem wp_store_at (ty : TypeId) (x y : Operand) (ho : o.op = .store ty x y) (g off : Nat) (cells : List Value) (hx : a.eval x = .pointer (some ⟨g, off, none⟩)) (hy : a.eval y = .agg cells.toArray)
    (t : TypeId) (old : List Value) (hg : w.heap[g]? = some (.cells old.toArray t (0, 0))) (hi : (P.info? ty).map (·.size) = some cells.length)
    (hold : off + cells.length ≤ old.length) (h1 : ∀ v ∈ cells, v.oneCell' = true)
    (h : K (a.put o.dst undef) (w.setRow g (splice old off cells).toArray)) : o.wp P a w K Q := by
  unfold Oper.wp execOp
  simp only [ho, hx, hy, Instr.storeAt, Instr.sureAddr, Sem.run_bind, Sem.run_pure, Result.andThen_ok, run_storeVar_at w g off t ty old cells hg hi hold h1]
  exact h
theorem wpList_store_at (hgd : o.guard = none) (ty : TypeId) (x y : Operand) (ho : o.op = .store ty x y) (g off : Nat) (cells : List Value) (hx : a.eval x = .pointer (some ⟨g, off, none⟩)) (hy : a.eval y = .agg cells.toArray)
    (t : TypeId) (old : List Value) (hg : w.heap[g]? = some (.cells old.toArray t (0, 0))) (hi : (P.info? ty).map (·.size) = some cells.length)
    (hold : off + cells.length ≤ old.length) (h1 : ∀ v ∈ cells, v.oneCell' = true)
    (h : wpList P ops Q rest (a.put o.dst undef) (w.setRow g (splice old off cells).toArray)) : wpList P ops Q (o :: rest) a w :=
  wpList_plain hgd fun _ hK => wp_store_at ty x y ho g off cells hx hy t old hg hi hold h1 (hK _ _ h)
theorem step_store_at (hgd : o.guard = none) (ty : TypeId) (x y : Operand) (ho : o.op = .store ty x y) (g off : Nat) (cells : List Value) (hx : a.eval x = .pointer (some ⟨g, off, none⟩)) (hy : a.eval y = .agg cells.toArray)
    (t : TypeId) (old : List Value) (hg : w.heap[g]? = some (.cells old.toArray t (0, 0))) (hi : (P.info? ty).map (·.size) = some cells.length)
    (hold : off + cells.length ≤ old.length) (h1 : ∀ v ∈ cells, v.oneCell' = true)
    (h : K (a.put o.dst undef) (w.setRow g (splice old off cells).toArray)) : if Region.wanted o (yielded ops a.tmps) = true then Oper.wp P o a w K Q else E := by
  have hw : Region.wanted o (yielded ops a.tmps) = true := by simp [Region.wanted, hgd]
  rw [if_pos hw]
  exact wp_store_at ty x y ho g off cells hx hy t old hg hi hold h1 h
end
theorem cell_at (w : World) (g off : Nat) (old : List Value) (t : TypeId) (fr : Nat × Nat) (hg : w.heap[g]? = some (.cells old.toArray t fr)) (cs : Array Value) (h : ∀ j v, cs[j]? = some v → old[off + j]? = some v) :
    ∀ j v, cs[j]? = some v → w.cell? ((⟨g, off, none⟩ : Addr).add j) = some v := by
  intro j v hv
  have hadd : (⟨g, off, none⟩ : Addr).add j = ⟨g, off + j, none⟩ := by unfold Addr.add; split <;> simp_all
  rw [hadd, cell_of_row w g _ _ t fr hg]
  simpa using h j v hv
theorem rd_cells {w : World} {B n : Nat} {ad : Addr} {xs : List Value} (h : Rd w B (some ad) n xs) (hn : 0 < n) : ∀ j v, xs.toArray[j]? = some v → w.cell? (ad.add j) = some v := by
  obtain ⟨ad', e, _, hc⟩ := h.2 hn
  injection e with e
  subst e
  intro j v hv
  exact hc j v (by simpa using hv)
end Go.Proofs.YtmgkdmbifecekaaGreatDoor
