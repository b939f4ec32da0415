/-
  Plain mathematics on the code points of a string, one after the other. What the iterator points of package utf yields: the code points of a string, each with the offset behind it.
-/
import Derived.Test.YtlhekeokognhmaaDoorMgaa
import Derived.Test.YtlhekeokognhmaaDoorMgae
import Derived.RangeFuncNested
import Derived.RangeFuncBound
import Derived.RangeFuncCalls
import Derived.RangeFuncLeaves
import Derived.RangeFuncFrom
import Derived.Shelf.Abstract
import Derived.Shelf.RegionOpen
import Derived.OwnWalkIn
import Derived.TacticsInMore
import Derived.LoopNIn
import Derived.LoopIn
namespace Go.Proofs.YtlhekeokognhmaaDoor.Mt
theorem cont_bd {x lo hi y : Int} {t : List Int} (h : cont x lo hi t = some y) (hx : 0 ≤ x) (hlo : 128 ≤ lo ∨ t = []) : 0 ≤ y := by
  induction t generalizing x lo hi with
  | nil => simp only [cont, Option.some.injEq] at h; omega
  | cons c t ih =>
    by_cases hc : lo ≤ c ∧ c ≤ hi
    · rw [cont_in hc.1 hc.2] at h
      have : 128 ≤ lo := by rcases hlo with h | h; exact h; cases h
      exact ih h (by omega) (.inl (by omega))
    · rw [cont_out hc] at h; cases h
/-- A code point that was read has some bytes, and they are there. -/
theorem rd_ok_bd {l : List Int} (h0 : ∀ c ∈ l, 0 ≤ c ∧ c ≤ 255) (h : (rd l).2.2 = 0) : 1 ≤ (rd l).2.1 ∧ (rd l).2.1 ≤ 4 ∧ (rd l).2.1 ≤ l.length := by
  cases l with
  | nil => simp [rd] at h
  | cons c t =>
    have hc := h0 c (by simp)
    cases hl : lead c with
    | none => rw [rd_none hl] at h; cases h
    | some r =>
      obtain ⟨m, lo, hi, n⟩ := r
      obtain ⟨_, _, _, _, h5, h6, _⟩ := lead_bd hc.1 hl
      cases hk : cont (c - m) lo hi (t.take (n - 1).toNat) with
      | none => rw [rd_bad hl hk] at h; cases h
      | some x =>
        by_cases hn : (t.length : Int) + 1 < n
        · rw [rd_short hl hk hn] at h; cases h
        · rw [rd_ok hl hk hn]
          simp only [List.length_cons]
          omega
/-- The code points from an offset on, each with the offset behind it. -/
def steps (l : List Int) : Nat → Nat → List (Int × Int)
  | 0, _ => []
  | f + 1, a => if (rd (l.drop a)).2.2 = 0 then ((a : Int) + (rd (l.drop a)).2.1, (rd (l.drop a)).1) :: steps l f (a + (rd (l.drop a)).2.1.toNat) else []
def allSteps (l : List Int) : List (Int × Int) := steps l (l.length + 1) 0
theorem steps_go {l : List Int} {f a : Nat} (h : (rd (l.drop a)).2.2 = 0) : steps l (f + 1) a = ((a : Int) + (rd (l.drop a)).2.1, (rd (l.drop a)).1) :: steps l f (a + (rd (l.drop a)).2.1.toNat) := if_pos h
theorem steps_stop {l : List Int} {f a : Nat} (h : ¬ (rd (l.drop a)).2.2 = 0) : steps l (f + 1) a = [] := if_neg h
/-- The first offset at which bytes are not good. -/
def finF (l : List Int) : Nat → Nat → Nat
  | 0, a => a
  | f + 1, a => if (rd (l.drop a)).2.2 = 0 then finF l f (a + (rd (l.drop a)).2.1.toNat) else a
def fin (l : List Int) : Nat := finF l (l.length + 1) 0
/-- The last of some offsets; the first one if there are none. -/
def lastOf (a : Int) : List (Int × Int) → Int
  | [] => a
  | p :: t => lastOf p.1 t
theorem lastOf_snoc (a : Int) (l : List (Int × Int)) (p : Int × Int) : lastOf a (l ++ [p]) = p.1 := by
  induction l generalizing a with
  | nil => rfl
  | cons q t ih => exact ih q.1
theorem lastOf_steps (l : List Int) (h0 : ∀ c ∈ l, 0 ≤ c ∧ c ≤ 255) (f a : Nat) : lastOf (a : Int) (steps l f a) = (finF l f a : Int) := by
  induction f generalizing a with
  | zero => rfl
  | succ f ih =>
    by_cases h : (rd (l.drop a)).2.2 = 0
    · have := rd_ok_bd (fun c hc => h0 c (List.mem_of_mem_drop hc)) h
      rw [steps_go h]
      show lastOf ((a : Int) + (rd (l.drop a)).2.1) _ = _
      rw [show (a : Int) + (rd (l.drop a)).2.1 = ((a + (rd (l.drop a)).2.1.toNat : Nat) : Int) from by omega, ih]
      show _ = ((if (rd (l.drop a)).2.2 = 0 then finF l f (a + (rd (l.drop a)).2.1.toNat) else a : Nat) : Int)
      rw [if_pos h]
    · rw [steps_stop h]
      show (a : Int) = ((if (rd (l.drop a)).2.2 = 0 then finF l f (a + (rd (l.drop a)).2.1.toNat) else a : Nat) : Int)
      rw [if_neg h]
theorem lastOf_all (l : List Int) (h0 : ∀ c ∈ l, 0 ≤ c ∧ c ≤ 255) : lastOf 0 (allSteps l) = (fin l : Int) := lastOf_steps l h0 _ 0
theorem finF_le (l : List Int) (h0 : ∀ c ∈ l, 0 ≤ c ∧ c ≤ 255) (f a : Nat) (ha : a ≤ l.length) : finF l f a ≤ l.length := by
  induction f generalizing a with
  | zero => exact ha
  | succ f ih =>
    show (if (rd (l.drop a)).2.2 = 0 then finF l f (a + (rd (l.drop a)).2.1.toNat) else a) ≤ l.length
    split
    · next h =>
      have := rd_ok_bd (fun c hc => h0 c (List.mem_of_mem_drop hc)) h
      rw [List.length_drop] at this
      exact ih _ (by omega)
    · exact ha
theorem fin_le (l : List Int) (h0 : ∀ c ∈ l, 0 ≤ c ∧ c ≤ 255) : fin l ≤ l.length := finF_le l h0 _ 0 (Nat.zero_le _)
/-- What Check answers. -/
def chkE (l : List Int) : Int := if fin l = l.length then 0 else (rd (l.drop (fin l))).2.2
/-- The end of the longest beginning of at most n bytes. -/
def cutEnd (l : List Int) (n : Int) : Int := lastOf 0 ((allSteps l).takeWhile fun p => decide (p.1 ≤ n))
theorem takeWhile_of_prefix {α : Type} {q : α → Bool} {xs pre : List α} {x : α} (h : (pre ++ [x]) <+: xs) (h1 : ∀ y ∈ pre, q y = true) (h2 : q x = false) : xs.takeWhile q = pre := by
  obtain ⟨r, rfl⟩ := h
  rw [List.append_assoc, List.takeWhile_append_of_pos h1]
  simp [h2]
theorem takeWhile_of_all {α : Type} {q : α → Bool} {xs : List α} (h : ∀ y ∈ xs, q y = true) : xs.takeWhile q = xs := by
  have := List.takeWhile_append_of_pos (l₂ := []) h
  simpa using this
theorem steps_le (l : List Int) (h0 : ∀ c ∈ l, 0 ≤ c ∧ c ≤ 255) (f a : Nat) (ha : a ≤ l.length) : ∀ p ∈ steps l f a, (a : Int) < p.1 ∧ p.1 ≤ l.length := by
  induction f generalizing a with
  | zero => intro p hp; cases hp
  | succ f ih =>
    intro p hp
    by_cases h : (rd (l.drop a)).2.2 = 0
    · have hb := rd_ok_bd (fun c hc => h0 c (List.mem_of_mem_drop hc)) h
      rw [List.length_drop] at hb
      rw [steps_go h] at hp
      rcases List.mem_cons.1 hp with rfl | hp
      · dsimp only; omega
      · have := ih (a + (rd (l.drop a)).2.1.toNat) (by omega) p hp
        omega
    · rw [steps_stop h] at hp; cases hp
theorem lastOf_mem (a : Int) (xs : List (Int × Int)) : lastOf a xs = a ∨ ∃ p ∈ xs, lastOf a xs = p.1 := by
  induction xs generalizing a with
  | nil => exact .inl rfl
  | cons p t ih =>
    right
    rcases ih p.1 with h | ⟨q, hq, h⟩
    · exact ⟨p, by simp, h⟩
    · exact ⟨q, by simp [hq], h⟩
theorem cutEnd_bd (l : List Int) (h0 : ∀ c ∈ l, 0 ≤ c ∧ c ≤ 255) (n : Int) : 0 ≤ cutEnd l n ∧ cutEnd l n ≤ l.length := by
  unfold cutEnd
  rcases lastOf_mem 0 ((allSteps l).takeWhile fun p => decide (p.1 ≤ n)) with h | ⟨p, hp, h⟩
  · rw [h]; omega
  · rw [h]
    have := steps_le l h0 (l.length + 1) 0 (Nat.zero_le _) p ((List.takeWhile_sublist _).subset hp)
    omega
end Go.Proofs.YtlhekeokognhmaaDoor.Mt
namespace Go.Proofs.YtlhekeokognhmaaDoor
open Go.RowKit Go.Shelf Mt
attribute [local go_sem] Oper.semAt_some

abbrev encP (p : Int × Int) : Array Value := #[.int .i64 p.1, .int .i64 p.2]
set_option maxRecDepth 100000 in
set_option maxHeartbeats 2000000 in
theorem points1_in (n : Nat) (hn : 1 ≤ n) (l Bn n₀ : Nat) (s : ByteArray) (hs : s.size ≤ 140737488351232) (J Jx : List (Int × Int) → World → Prop)
    (W : World) (hJ : AbidesFrom W.heap.size J) (hY : ∀ pre x W1, J pre W1 → pre.length < s.size → YieldAt Fence.wide (n - 1) Tryd.prog l (encP x) W1 fun e W' =>
      (e = .returned (.bool true) ∧ J (pre ++ [x]) W' ∧ KpB n₀ Bn W1 W') ∨ (e = .returned (.bool false) ∧ Jx (pre ++ [x]) W'))
    (hBn : W.cell? ⟨Bn, 0, none⟩ = some (.string s)) (hBn0 : Bn < W.heap.size) (hT : Tab W) (hT0 : 1 < n₀) (h0 : J [] W) :
    CallsIn Fence.wide n Tryd.prog 106 #[.func (.yield l) #[] #[], .pointer (some ⟨Bn, 0, none⟩)] W fun e W' => (∃ v, e = .returned v) ∧
      ((∃ ys, ys = allSteps (bys s) ∧ J ys W') ∨ (∃ pre, pre <+: allSteps (bys s) ∧ Jx pre W')) := by
  refine callsIn_of_wp Tryd.func106 rfl trivial ?_ rfl
  simp only [Tryd.ntmps106, List.size_toArray, List.length_cons, List.length_nil, Nat.reduceAdd, Nat.reduceSub, Array.replicate_succ, Array.replicate_zero, List.push_toArray, List.append_toArray, List.nil_append, List.cons_append]
  refine wpIn_scope_wide ?_
  gi_wp2
  refine wpIn_label ?_
  gi_wp2
  gi_loopw [3] (fun i wr => ∃ (a f : Nat) (pre : List (Int × Int)), i = .int .i64 a ∧ Hid (allSteps (bys s) = pre ++ steps (bys s) f a) ∧ s.size + 1 ≤ f + a ∧ a ≤ s.size ∧ pre.length ≤ a ∧ J pre wr ∧ wr.cell? ⟨Bn, 0, none⟩ = some (.string s) ∧ Tab wr ∧ Bn < wr.heap.size)
    (fun i _ => s.size - (intOf i).toNat)
  case atStart =>
    exact ⟨0, s.size + 1, [], rfl, by show _ = [] ++ _; rw [← bys_length]; rfl, by omega, by omega, by simp, h0, hBn, hT, hBn0⟩
  case round =>
    obtain ⟨a, f, pre, rfl, hst, hfa, ha, hpl, hJs, hbx, hTb, hnw⟩ := hrel
    obtain ⟨x, nn, ee, hr⟩ : ∃ x nn ee, Hid (rd ((bys s).drop a) = (x, nn, ee)) := ⟨_, _, _, rfl⟩
    have rc : ∀ w, Tab w → Calls Tryd.prog 100 #[.string s, .int .i64 (a : Int)] w fun e w' => e = .returned (.tuple #[.int .i64 x, .int .i64 nn, .int .i64 ee]) ∧ Below w.heap.size w w' := by
      intro w hTw
      have := read_any s a hs w hTw
      rw [show rdAt (bys s) (a : Int) = rd ((bys s).drop a) from by unfold rdAt; rw [bys_length, if_neg (by omega), Int.toNat_natCast], hr.out] at this
      exact this
    have Rc := Lib.hid rc
    clear rc
    obtain ⟨f, rfl⟩ : ∃ g, f = g + 1 := ⟨f - 1, by omega⟩
    by_cases he : ee = 0
    · subst he
      have hbd := rd_ok_bd (fun c hc => bys_bd s c (List.mem_of_mem_drop hc)) (show (rd ((bys s).drop a)).2.2 = 0 from by rw [hr.out])
      rw [hr.out, List.length_drop, bys_length] at hbd
      obtain ⟨hb1, hb2, hb3⟩ := hbd
      have hst2 : Hid (allSteps (bys s) = (pre ++ [((a : Int) + nn, x)]) ++ steps (bys s) f (a + nn.toNat)) := by
        show _ = _
        rw [hst.out, steps_go (by rw [hr.out]), hr.out, List.append_assoc]
        rfl
      have hlen : pre.length < s.size := by dsimp only at hb1 hb3; omega
      dsimp only at hb1 hb2 hb3
      gi_wp2_with (refine ⟨trivial, ?_⟩; gi_at_call 100; refine (callsIn_wide.2 (Rc.out _ hTb)).mono ?_; rintro e w1 ⟨rfl, hb⟩; obtain ⟨fn, tmps, assign, body, hy, hR⟩ := hY pre ((a : Int) + nn, x) w1 (hJ _ _ _ none hJs (grown_of_below hb) (fun r e => by cases e)) hlen; dsimp only [encP] at hy)
      refine hR.mono ?_
      rintro e W3 (⟨rfl, hJ3, hk3⟩ | ⟨rfl, hJx3⟩)
      · gi_wp2
        go_roundw
        case rel =>
          refine ⟨a + nn.toNat, f, pre ++ [((a : Int) + nn, x)], by rw [show (a : Int) + nn = ((a + nn.toNat : Nat) : Int) from by omega], hst2, by omega, by omega, by rw [List.length_append, List.length_singleton]; omega, hJ3, ?_, ?_, ?_⟩
          · exact (World.cell?_of_block (w := w1) (a := ⟨Bn, 0, none⟩) hk3.2).trans ((hb.cell (p := ⟨Bn, 0, none⟩) (by show Bn < _; omega)).trans hbx)
          · obtain ⟨t, fr, ht⟩ := hTb.below hb
            exact ⟨t, fr, (hk3.1.block _ hT0).trans ht⟩
          · have h1 := hk3.1.size
            have h2 := hb.size
            omega
        case measure => simp [intOf]; omega
      · gi_wp2
        rw [Exit.noGoto_ret]
        refine bodyPost_ret (results_none rfl _ _ _) rfl ?_
        exact ⟨⟨_, rfl⟩, .inr ⟨_, ⟨_, hst2.out.symm⟩, hJx3⟩⟩
    · have h1 : (ee == 0) = false := beq_eq_false_iff_ne.2 he
      have h2 : (ee != 0) = true := bne_iff_ne.2 he
      have hst2 : Hid (pre = allSteps (bys s)) := by
        show _ = _
        rw [hst.out, steps_stop (by rw [hr.out]; exact he), List.append_nil]
      clear he
      gi_wp2_with (refine ⟨trivial, ?_⟩; gi_at_call 100; refine (callsIn_wide.2 (Rc.out _ hTb)).mono ?_; rintro e w1 ⟨rfl, hb⟩)
      rw [Exit.noGoto_normal]
      go_end0
      exact ⟨⟨_, rfl⟩, .inl ⟨pre, hst2.out, hJ _ _ _ none hJs (grown_of_below hb) (fun r e => by cases e)⟩⟩

/-- THE ITERATOR's WORD: all code points have come, or a part has, a round having said no more. -/
theorem points_stops (n : Nat) (hn : 1 ≤ n) (Bn n₀ : Nat) (s : ByteArray) (hs : s.size ≤ 140737488351232) (w : World) (hBn : w.cell? ⟨Bn, 0, none⟩ = some (.string s)) (hBn0 : Bn < w.heap.size) (hT : Tab w) (hT0 : 1 < n₀) :
    SeqStopsK Fence.wide n Tryd.prog 106 #[.pointer (some ⟨Bn, 0, none⟩)] encP (KpB n₀ Bn) (fun xs => xs = allSteps (bys s)) (fun pre => pre <+: allSteps (bys s)) s.size w :=
  fun l J Jx W hW hJ _ hY h0 => points1_in n hn l Bn n₀ s hs J Jx W hJ hY ((hW.cell (p := ⟨Bn, 0, none⟩) (by show Bn < _; omega)).trans hBn) (by have := hW.size; omega) (hT.below hW) hT0 h0

theorem points_any (s : ByteArray) (w : World) : Calls Tryd.prog 99 #[.string s] w fun e w' => e = .returned (.func (.func 106) #[] #[.pointer (some ⟨w.heap.size, 0, none⟩)]) ∧ w' = w.alloc (.cells #[.string s] 9) := by
  go_enter Tryd.func99, Tryd.ntmps99
  go_wp2
  go_ret
  exact ⟨rfl, rfl⟩
end Go.Proofs.YtlhekeokognhmaaDoor
