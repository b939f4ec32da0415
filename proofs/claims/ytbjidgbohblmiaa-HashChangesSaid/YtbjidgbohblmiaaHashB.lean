/-
  What the iterators forward and backward of package hash yield, and what Add, Back and Sum compute.
-/
import Derived.Test.YtbjidgbohblmiaaFence
import Derived.Test.YtbjidgbohblmiaaHashA
namespace Go.Proofs.Ytbjidgbohblmiaa
open Go.RowKit Go.Shelf
attribute [local go_sem] Oper.semAt_some

abbrev encU (x : UInt8) : Array Value := #[.int .u8 (x.toNat : Int)]
theorem u8_le (b : UInt8) : (b.toNat : Int) ≤ 255 := by have := b.toNat_lt; omega
/-- A step with a byte, and the steps with all of them; a step back, and the steps back from the last byte on. -/
def st8 (h : BitVec 64) (b : UInt8) : BitVec 64 := st h (B8 b.toNat)
def addL (h : BitVec 64) (l : List UInt8) : BitVec 64 := l.foldl st8 h
def bk8 (h : BitVec 64) (b : UInt8) : BitVec 64 := h * Pi ^^^ B8 b.toNat
def backL (h : BitVec 64) (l : List UInt8) : BitVec 64 := l.reverse.foldl bk8 h
theorem addL_snoc (h : BitVec 64) (l : List UInt8) (b : UInt8) : addL h (l ++ [b]) = st8 (addL h l) b := by simp [addL]
theorem addL_append (h : BitVec 64) (l t : List UInt8) : addL h (l ++ t) = addL (addL h l) t := by simp [addL]
theorem take_snoc (s : ByteArray) (k : Nat) (hk : k < s.size) : s.data.toList.take (k + 1) = s.data.toList.take k ++ [s[k]] := by
  rw [List.take_add_one]
  congr 1
  rw [Array.getElem?_toList, Array.getElem?_eq_getElem (by exact hk)]
  rfl

theorem step8 (h : BitVec 64) (b : UInt8) (w : World) :
    Calls Try.prog 36 #[U h, .int .u8 (b.toNat : Int)] w fun e w' => e = .returned (U (st8 h b)) ∧ w = w' := step_any h _ (by omega) (u8_le b) w

set_option maxRecDepth 100000 in
set_option maxHeartbeats 2000000 in
theorem forward1_in (n : Nat) (hn : 1 ≤ n) (l Bn n₀ : Nat) (s : ByteArray) (hs : s.size ≤ 9223372036854775807) (J Jx : List UInt8 → World → Prop)
    (W : World) (hY : ∀ pre x W1, J pre W1 → pre.length < s.size → YieldAt Fence.wide (n - 1) Try.prog l (encU x) W1 fun e W' =>
      (e = .returned (.bool true) ∧ J (pre ++ [x]) W' ∧ KpB n₀ Bn W1 W') ∨ (e = .returned (.bool false) ∧ Jx (pre ++ [x]) W'))
    (hBn : W.cell? ⟨Bn, 0, none⟩ = some (.string s)) (h0 : J [] W) :
    CallsIn Fence.wide n Try.prog 41 #[.func (.yield l) #[] #[], .pointer (some ⟨Bn, 0, none⟩)] W fun e W' => (∃ v, e = .returned v) ∧
      ((∃ ys, ys = s.data.toList ∧ J ys W') ∨ (∃ pre, pre <+: s.data.toList ∧ Jx pre W')) := by
  refine callsIn_of_wp Try.func41 rfl trivial ?_ rfl
  simp only [Try.ntmps41, List.size_toArray, List.length_cons, List.length_nil, Nat.reduceAdd, Nat.reduceSub, Array.replicate_succ, Array.replicate_zero, List.push_toArray, List.append_toArray, List.nil_append, List.cons_append]
  gi_wp2
  gi_loopw [6] (fun i wr => ∃ (k : Nat) (pre : List UInt8), i = .int .i64 k ∧ k ≤ s.size ∧ Hid (pre = s.data.toList.take k) ∧ J pre wr ∧ wr.cell? ⟨Bn, 0, none⟩ = some (.string s))
    (fun i _ => s.size - (intOf i).toNat)
  case atStart => exact ⟨0, [], rfl, by omega, rfl, h0, hBn⟩
  case round =>
    obtain ⟨k, pre, rfl, hk, hp, hJs, hbx⟩ := hrel
    by_cases hks : k < s.size
    · have hlen : pre.length < s.size := by rw [hp.out, List.length_take]; omega
      obtain ⟨fn, tmps, assign, body, hy, hR⟩ := hY pre s[k] wr hJs hlen
      dsimp only [encU] at hy
      gi_wp2
      refine hR.mono ?_
      rintro e W3 (⟨rfl, hJ3, hk3⟩ | ⟨rfl, hJx3⟩)
      · gi_wp2
        go_roundw
        case rel => exact ⟨k + 1, pre ++ [s[k]], by go_num, by omega, by show _ = _; rw [hp.out, take_snoc s k hks], hJ3, (World.cell?_of_block (w := wr) (a := ⟨Bn, 0, none⟩) hk3.2).trans hbx⟩
        case measure => simp [intOf]; omega
      · gi_wp2
        refine bodyPost_ret (results_none rfl _ _ _) rfl ?_
        exact ⟨⟨_, rfl⟩, .inr ⟨_, ⟨s.data.toList.drop (k + 1), by rw [hp.out, ← take_snoc s k hks, List.take_append_drop]⟩, hJx3⟩⟩
    · obtain rfl : k = s.size := by omega
      gi_wp2
      go_end0
      exact ⟨⟨_, rfl⟩, .inl ⟨pre, by rw [hp.out, List.take_of_length_le (by simp)], hJs⟩⟩
/-- THE ITERATOR's WORD. -/
theorem forward_stops (n : Nat) (hn : 1 ≤ n) (Bn n₀ : Nat) (s : ByteArray) (hs : s.size ≤ 9223372036854775807) (w : World) (hBn : w.cell? ⟨Bn, 0, none⟩ = some (.string s)) (hBn0 : Bn < w.heap.size) :
    SeqStopsK Fence.wide n Try.prog 41 #[.pointer (some ⟨Bn, 0, none⟩)] encU (KpB n₀ Bn) (fun xs => xs = s.data.toList) (fun pre => pre <+: s.data.toList) s.size w :=
  fun l J Jx W hW _ _ hY h0 => forward1_in n hn l Bn n₀ s hs J Jx W hY ((hW.cell (p := ⟨Bn, 0, none⟩) (by show Bn < _; omega)).trans hBn) h0
theorem forward_any (s : ByteArray) (w : World) : Calls Try.prog 35 #[.string s] w fun e w' => e = .returned (.func (.func 41) #[] #[.pointer (some ⟨w.heap.size, 0, none⟩)]) ∧ w' = w.alloc (.cells #[.string s] 9) := by
  go_enter Try.func35, Try.ntmps35
  go_wp2
  go_ret
  exact ⟨rfl, rfl⟩

set_option maxRecDepth 100000 in
set_option maxHeartbeats 2000000 in
theorem backward1_in (n : Nat) (hn : 1 ≤ n) (l Bn n₀ : Nat) (s : ByteArray) (hs : s.size ≤ 9223372036854775807) (J Jx : List UInt8 → World → Prop)
    (W : World) (hY : ∀ pre x W1, J pre W1 → pre.length < s.size → YieldAt Fence.wide (n - 1) Try.prog l (encU x) W1 fun e W' =>
      (e = .returned (.bool true) ∧ J (pre ++ [x]) W' ∧ KpB n₀ Bn W1 W') ∨ (e = .returned (.bool false) ∧ Jx (pre ++ [x]) W'))
    (hBn : W.cell? ⟨Bn, 0, none⟩ = some (.string s)) (h0 : J [] W) :
    CallsIn Fence.wide n Try.prog 42 #[.func (.yield l) #[] #[], .pointer (some ⟨Bn, 0, none⟩)] W fun e W' => (∃ v, e = .returned v) ∧
      ((∃ ys, ys = s.data.toList.reverse ∧ J ys W') ∨ (∃ pre, pre <+: s.data.toList.reverse ∧ Jx pre W')) := by
  refine callsIn_of_wp Try.func42 rfl trivial ?_ rfl
  simp only [Try.ntmps42, List.size_toArray, List.length_cons, List.length_nil, Nat.reduceAdd, Nat.reduceSub, Array.replicate_succ, Array.replicate_zero, List.push_toArray, List.append_toArray, List.nil_append, List.cons_append]
  gi_wp2
  gi_loopw [3] (fun i wr => ∃ (k : Nat) (pre : List UInt8), i = .int .i64 ((k : Int) - 1) ∧ k ≤ s.size ∧ Hid (s.data.toList.reverse = pre ++ (s.data.toList.take k).reverse) ∧ J pre wr ∧ wr.cell? ⟨Bn, 0, none⟩ = some (.string s))
    (fun i _ => (intOf i + 1).toNat)
  case atStart => exact ⟨s.size, [], by go_num, by omega, by show _ = _; rw [List.take_of_length_le (by simp), List.nil_append], h0, hBn⟩
  case round =>
    obtain ⟨k, pre, rfl, hk, hp, hJs, hbx⟩ := hrel
    by_cases hks : 0 < k
    · obtain ⟨k, rfl⟩ : ∃ j, k = j + 1 := ⟨k - 1, by omega⟩
      have hks : k < s.size := by omega
      have hp2 : Hid (s.data.toList.reverse = (pre ++ [s[k]]) ++ (s.data.toList.take k).reverse) := by
        show _ = _
        rw [hp.out, take_snoc s k hks, List.reverse_append, List.append_assoc]
        rfl
      have hlen : pre.length < s.size := by
        have := congrArg List.length hp2.out
        simp at this
        omega
      have hkk : ((k + 1 : Nat) : Int) - 1 = (k : Int) := by omega
      rw [hkk]
      have h1 : ((k : Int) - 1) = (k : Int) - 1 := rfl
      obtain ⟨fn, tmps, assign, body, hy, hR⟩ := hY pre s[k] wr hJs hlen
      dsimp only [encU] at hy
      clear hkk h1
      gi_wp2
      refine hR.mono ?_
      rintro e W3 (⟨rfl, hJ3, hk3⟩ | ⟨rfl, hJx3⟩)
      · gi_wp2
        go_roundw
        case rel => exact ⟨k, pre ++ [s[k]], by go_num, by omega, hp2, hJ3, (World.cell?_of_block (w := wr) (a := ⟨Bn, 0, none⟩) hk3.2).trans hbx⟩
        case measure => simp [intOf]
      · gi_wp2
        refine bodyPost_ret (results_none rfl _ _ _) rfl ?_
        exact ⟨⟨_, rfl⟩, .inr ⟨_, ⟨_, hp2.out.symm⟩, hJx3⟩⟩
    · obtain rfl : k = 0 := by omega
      gi_wp2
      go_end0
      exact ⟨⟨_, rfl⟩, .inl ⟨pre, by rw [hp.out]; simp, hJs⟩⟩
theorem backward_stops (n : Nat) (hn : 1 ≤ n) (Bn n₀ : Nat) (s : ByteArray) (hs : s.size ≤ 9223372036854775807) (w : World) (hBn : w.cell? ⟨Bn, 0, none⟩ = some (.string s)) (hBn0 : Bn < w.heap.size) :
    SeqStopsK Fence.wide n Try.prog 42 #[.pointer (some ⟨Bn, 0, none⟩)] encU (KpB n₀ Bn) (fun xs => xs = s.data.toList.reverse) (fun pre => pre <+: s.data.toList.reverse) s.size w :=
  fun l J Jx W hW _ _ hY h0 => backward1_in n hn l Bn n₀ s hs J Jx W hY ((hW.cell (p := ⟨Bn, 0, none⟩) (by show Bn < _; omega)).trans hBn) h0
theorem backward_any (s : ByteArray) (w : World) : Calls Try.prog 37 #[.string s] w fun e w' => e = .returned (.func (.func 42) #[] #[.pointer (some ⟨w.heap.size, 0, none⟩)]) ∧ w' = w.alloc (.cells #[.string s] 9) := by
  go_enter Try.func37, Try.ntmps37
  go_wp2
  go_ret
  exact ⟨rfl, rfl⟩
end Go.Proofs.Ytbjidgbohblmiaa
