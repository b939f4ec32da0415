/-
  How arguments that are slices of numbers in pairs, or of labels, are opened. How an argument that is a slice of labels is opened. append of what came in onto a slice of one's own; Append of package utf onto a slice without room. What SameBytes, SameInts and Pick of the statements' own kit compute.
-/
import Derived.Test.YtlhekeokognhmaaGreatDoorMgab
import Derived.Test.YtlhekeokognhmaaGreatDoorLbZ
import Derived.Deep.SlicePairs
import Derived.Deep.Strs
import Derived.Test.YtlhekeokognhmaaGreatDoorMgac
import Derived.Test.YtlhekeokognhmaaGreatDoorMgaa
import Derived.Deep.AppendLies
import Derived.RegionTactic
import Derived.OwnWalk
import Derived.Test.YtlhekeokognhmaaGreatDoorProg
import Derived.WalkKit
import Derived.WalkSmall
import Derived.ProofKit
import Derived.BigQuiet
import Derived.Deep.QuietTactic
namespace Go.Proofs.YtlhekeokognhmaaGreatDoor
open Go.ChangeShapes Go.WideShapes Go.ChangeAt Go.RowKit Go.WideMaps Go.WideElems
theorem flat2 {α : Type} (f g : α → Value) : ∀ (l : List α) (j : Nat) (u : Value), (l.flatMap fun x => [f x, g x])[j]? = some u → ∃ i x, l[i]? = some x ∧ ((j = i * 2 ∧ u = f x) ∨ (j = i * 2 + 1 ∧ u = g x))
  | [], j, u, h => by simp at h
  | x :: l, 0, u, h => ⟨0, x, rfl, .inl ⟨rfl, by cases h; rfl⟩⟩
  | x :: l, 1, u, h => ⟨0, x, rfl, .inr ⟨rfl, by cases h; rfl⟩⟩
  | x :: l, j + 2, u, h => by
    obtain ⟨i, y, h1, h2⟩ := flat2 f g l j u h
    refine ⟨i + 1, y, h1, ?_⟩
    rcases h2 with ⟨e, e2⟩ | ⟨e, e2⟩
    · exact .inl ⟨by omega, e2⟩
    · exact .inr ⟨by omega, e2⟩
theorem flat2_len {α : Type} (f g : α → Value) : ∀ l : List α, (l.flatMap fun x => [f x, g x]).length = l.length * 2
  | [] => rfl
  | x :: l => by
    have := flat2_len f g l
    rw [List.flatMap_cons, List.length_append, this, List.length_cons]
    simp
    omega
theorem rd_pairs {α : Type} (f g : α → Value) {W : World} {a : Addr} (l : List α) (h : ∀ i x, l[i]? = some x → W.cell? (a.add (i * 2)) = some (f x) ∧ W.cell? (a.add (i * 2 + 1)) = some (g x)) : Rd W W.heap.size (some a) (l.length * 2) (l.flatMap fun x => [f x, g x]) := by
  refine ⟨flat2_len f g l, fun hn => ⟨a, rfl, ?_, fun j u hu => ?_⟩⟩
  · obtain ⟨x, hx⟩ : ∃ x, l[0]? = some x := ⟨_, List.getElem?_eq_getElem (by omega)⟩
    have h0 := (h 0 x hx).1
    have := World.block_lt_of_cell? _ _ h0
    rwa [addBlock] at this
  · obtain ⟨i, x, hx, h2⟩ := flat2 f g l j u hu
    rcases h2 with ⟨rfl, rfl⟩ | ⟨rfl, rfl⟩
    · exact (h i x hx).1
    · exact (h i x hx).2
def natV : Value → Nat
  | .int _ m => m.toNat
  | _ => 0
def strV : Value → ByteArray
  | .string s => s
  | _ => ⟨#[]⟩
section
variable {H : Type} {enc : TypeId × Value → H} {W : World} {base : Nat}
set_option maxRecDepth 100000 in
theorem open_smalls {v : Value} {d : DataW H} {p : List MemPlace}
    (hval : Value.okWide Tryz.prog W .any base 34 v) (hd : DataW.Trod enc Tryz.prog W 0 (fun _ => true) true 34 v d p) :
    ∃ (A : Option Addr) (c : Nat) (ps : List (Nat × Nat)), v = .slice A ps.length c ∧ ps.length ≤ c ∧ c ≤ maxLen ∧ Rd W W.heap.size A (ps.length * 2) (smalls ps) ∧ (∀ q ∈ ps, q.1 ≤ 255 ∧ q.2 ≤ 255) := by
  obtain ⟨a0, len, cap, rfl⟩ := okWide_slice Tryz.underlying34 hval
  obtain ⟨fuel, hf⟩ := hd
  rcases Go.Deep.open_slice_pairs Tryz.underlying34 Tryz.underlying122 (by kernel_rfl) rfl rfl (by kernel_rfl) (by kernel_rfl) hf with ⟨hcs, hx⟩ | ⟨a, len', cap', m, n, V0, V1, D0, D1, P0, P1, hcs, _, hl, hm, hmm, hx, hcell⟩
  · have e : Value.slice a0 len cap = .slice none 0 0 := List.head_eq_of_cons_eq (show [Value.slice a0 len cap] = [Value.slice none 0 0] from hcs)
    injection e with e1 e2 e3
    subst e1 e2 e3
    exact ⟨none, 0, [], rfl, Nat.le_refl _, by simp [maxLen], Rd.nil, (fun _ h => by cases h)⟩
  · have e : Value.slice a0 len cap = .slice (some a) len' cap' := List.head_eq_of_cons_eq (show [Value.slice a0 len cap] = [Value.slice (some a) len' cap'] from hcs)
    injection e with e1 e2 e3
    subst e1 e2 e3
    simp only [if_true] at hmm
    have hv : ∀ i, i < len → ∃ x y : Nat, V0 i = .int .u8 (x : Int) ∧ V1 i = .int .u8 (y : Int) ∧ x ≤ 255 ∧ y ≤ 255 := by
      intro i hi
      obtain ⟨_, _, h0, h1⟩ := hcell i (by omega)
      obtain ⟨x, e1, _, b1⟩ := DataW.trod_int Tryz.underlying5 h0
      obtain ⟨y, e2, _, b2⟩ := DataW.trod_int Tryz.underlying5 h1
      have b1 := bounds_u8 b1
      have b2 := bounds_u8 b2
      obtain ⟨x, rfl⟩ := Int.eq_ofNat_of_zero_le b1.1
      obtain ⟨y, rfl⟩ := Int.eq_ofNat_of_zero_le b2.1
      exact ⟨x, y, List.head_eq_of_cons_eq e1, List.head_eq_of_cons_eq e2, by omega, by omega⟩
    have hlen : ((List.range len).map fun i => (natV (V0 i), natV (V1 i))).length = len := by simp
    refine ⟨some a, cap, (List.range len).map fun i => (natV (V0 i), natV (V1 i)), by rw [hlen], by rw [hlen]; exact hl, hm, ?_, ?_⟩
    · refine rd_pairs (fun q : Nat × Nat => .int .u8 (q.1 : Int)) (fun q : Nat × Nat => .int .u8 (q.2 : Int)) _ ?_
      intro i q hq
      rw [List.getElem?_map] at hq
      obtain ⟨k, hk, rfl⟩ := Option.map_eq_some_iff.1 hq
      obtain ⟨hk1, rfl⟩ := List.getElem?_eq_some_iff.1 hk
      simp only [List.length_range] at hk1
      simp only [List.getElem_range]
      obtain ⟨x, y, e1, e2, _⟩ := hv i hk1
      obtain ⟨c0, c1, _⟩ := hcell i (by omega)
      rw [c0, c1, e1, e2]
      exact ⟨rfl, rfl⟩
    · intro q hq
      obtain ⟨i, hi, rfl⟩ := List.mem_map.1 hq
      obtain ⟨x, y, e1, e2, b1, b2⟩ := hv i (List.mem_range.1 hi)
      rw [e1, e2]
      exact ⟨b1, b2⟩
end
end Go.Proofs.YtlhekeokognhmaaGreatDoor
namespace Go.Proofs.YtlhekeokognhmaaGreatDoor
open Go.ChangeShapes Go.WideShapes Go.ChangeAt Go.RowKit Go.WideMaps Go.WideElems
section
variable {H : Type} {enc : TypeId × Value → H} {W : World} {base : Nat}
set_option maxRecDepth 100000 in
theorem open_labels {v : Value} {d : DataW H} {p : List MemPlace}
    (hval : Value.okWide Tryz.prog W .any base 22 v) (hd : DataW.Trod enc Tryz.prog W 0 (fun _ => true) true 22 v d p) :
    ∃ (A : Option Addr) (c : Nat) (L : List Lab), v = .slice A L.length c ∧ L.length ≤ c ∧ c ≤ maxLen ∧ RdL W W.heap.size A L ∧ (∀ x ∈ L, x.1.size ≤ maxLen ∧ x.2.size ≤ maxLen) := by
  obtain ⟨a0, len, cap, rfl⟩ := okWide_slice Tryz.underlying22 hval
  obtain ⟨fuel, hf⟩ := hd
  rcases Go.Deep.open_slice_pairs Tryz.underlying22 Tryz.underlying33 (by kernel_rfl) rfl rfl (by kernel_rfl) (by kernel_rfl) hf with ⟨hcs, hx⟩ | ⟨a, len', cap', m, n, V0, V1, D0, D1, P0, P1, hcs, _, hl, hm, hmm, hx, hcell⟩
  · have e : Value.slice a0 len cap = .slice none 0 0 := List.head_eq_of_cons_eq (show [Value.slice a0 len cap] = [Value.slice none 0 0] from hcs)
    injection e with e1 e2 e3
    subst e1 e2 e3
    exact ⟨none, 0, [], rfl, Nat.le_refl _, by simp [maxLen], Rd.nil, (fun _ h => by cases h)⟩
  · have e : Value.slice a0 len cap = .slice (some a) len' cap' := List.head_eq_of_cons_eq (show [Value.slice a0 len cap] = [Value.slice (some a) len' cap'] from hcs)
    injection e with e1 e2 e3
    subst e1 e2 e3
    simp only [if_true] at hmm
    have hv : ∀ i, i < len → ∃ x y : ByteArray, V0 i = .string x ∧ V1 i = .string y ∧ x.size ≤ maxLen ∧ y.size ≤ maxLen := by
      intro i hi
      obtain ⟨_, _, h0, h1⟩ := hcell i (by omega)
      obtain ⟨x, e1, _, b1⟩ := DataW.trod_string Tryz.underlying9 h0
      obtain ⟨y, e2, _, b2⟩ := DataW.trod_string Tryz.underlying9 h1
      exact ⟨x, y, List.head_eq_of_cons_eq e1, List.head_eq_of_cons_eq e2, b1, b2⟩
    have hlen : ((List.range len).map fun i => (strV (V0 i), strV (V1 i))).length = len := by simp
    refine ⟨some a, cap, (List.range len).map fun i => (strV (V0 i), strV (V1 i)), by rw [hlen], by rw [hlen]; exact hl, hm, ?_, ?_⟩
    · refine rd_pairs (fun q : Lab => .string q.1) (fun q : Lab => .string q.2) _ ?_
      intro i q hq
      rw [List.getElem?_map] at hq
      obtain ⟨k, hk, rfl⟩ := Option.map_eq_some_iff.1 hq
      obtain ⟨hk1, rfl⟩ := List.getElem?_eq_some_iff.1 hk
      simp only [List.length_range] at hk1
      simp only [List.getElem_range]
      obtain ⟨x, y, e1, e2, _⟩ := hv i hk1
      obtain ⟨c0, c1, _⟩ := hcell i (by omega)
      rw [c0, c1, e1, e2]
      exact ⟨rfl, rfl⟩
    · intro q hq
      obtain ⟨i, hi, rfl⟩ := List.mem_map.1 hq
      obtain ⟨x, y, e1, e2, b1, b2⟩ := hv i (List.mem_range.1 hi)
      rw [e1, e2]
      exact ⟨b1, b2⟩
end
end Go.Proofs.YtlhekeokognhmaaGreatDoor
namespace Go.Proofs.YtlhekeokognhmaaGreatDoor
open Go.RowKit Mt
section
variable {P : Program} (w : World)
end
/-- The form of x has come behind the bytes xs, in new memory. -/
def AppNew (x : Int) (n : Nat) (xs : List Int) (w : World) (e : Ending) (w' : World) : Prop :=
  ∃ A c, e = .returned (.tuple #[.slice A (n + (form x).length) c, .int .i64 0]) ∧ Rd w' w'.heap.size A (n + (form x).length) (u8s (xs ++ form x)) ∧ Below w.heap.size w w'
theorem appNew_mk {x : Int} {n : Nat} {xs l : List Int} {w w1 w' : World} {v : Value} {base : Nat} (k : Nat) (hl : form x = l) (hk : l.length = k) (hown : w'.ownsRow base 5 1 v (n + k) (u8s xs ++ u8s l)) (h1 : w.grownBy w1 none) (h2 : w1.grownBy w' none) :
    AppNew x n xs w (.returned (.tuple #[v, .int .i64 0])) w' := by
  subst hl hk
  rw [← u8s_append] at hown
  obtain ⟨A, c, rfl, _⟩ := own_slice hown
  exact ⟨A, c, rfl, Rd.of_own hown, (Below.refl _ _).grown (h1.trans h2) (Nat.le_refl _) (fun k e => by cases e)⟩
theorem refpoint_any (x : Int) (w : World) :
    Calls Tryz.prog 123 #[.int .i64 x] w fun e w' => e = .returned (.bool (isPt x)) ∧ w = w' := by
  by_cases h1 : 0 ≤ x
  · by_cases h2 : x < 55296
    · have h3 : ¬ 57343 < x := by omega
      have h4 : x < 1114112 := by omega
      go_enter Tryz.func123, Tryz.ntmps123
      go_wp2
      go_ret
      exact ⟨by rw [isPt_mk (by omega)]; rfl, rfl⟩
    · by_cases h3 : 57343 < x
      · by_cases h4 : x < 1114112
        · go_enter Tryz.func123, Tryz.ntmps123
          go_wp2
          go_ret
          exact ⟨by rw [isPt_mk (by omega)]; rfl, rfl⟩
        · have h5 : (decide (x < 1114112)) = false := decide_eq_false h4
          go_enter Tryz.func123, Tryz.ntmps123
          go_wp2
          go_ret
          exact ⟨by rw [isPt_not (by omega)]; rfl, rfl⟩
      · have h4 : x < 1114112 := by omega
        go_enter Tryz.func123, Tryz.ntmps123
        go_wp2
        go_ret
        exact ⟨by rw [isPt_not (by omega)]; rfl, rfl⟩
  · have h2 : x < 55296 := by omega
    have h3 : ¬ 57343 < x := by omega
    have h4 : x < 1114112 := by omega
    go_enter Tryz.func123, Tryz.ntmps123
    go_wp2
    go_ret
    exact ⟨by rw [isPt_not (by omega)]; rfl, rfl⟩
/-- The form of x, in new memory. -/
def FormOk (x : Int) (w : World) (e : Ending) (w' : World) : Prop := ∃ A c, e = .returned (.slice A (form x).length c) ∧ Rd w' w'.heap.size A (form x).length (u8s (form x)) ∧ Below w.heap.size w w'
/-- .. at the beginning of a block. -/
def FormG (x : Int) (w : World) (e : Ending) (w' : World) : Prop := ∃ g c, e = .returned (.slice (some ⟨g, 0, none⟩) (form x).length c) ∧ Rd w' w'.heap.size (some ⟨g, 0, none⟩) (form x).length (u8s (form x)) ∧ Below w.heap.size w w'
theorem formOk_mk {x : Int} {w : World} (l : List Int) (hl : form x = l) : FormG x w (.returned (.slice (some ⟨w.heap.size, 0, none⟩) l.length l.length)) (w.alloc (.cells (u8s l).toArray 5)) := by
  subst hl
  have := rdNew w (u8s (form x)) 5
  rw [u8s_length] at this
  exact ⟨_, _, rfl, this, (Below.refl _ _).alloc (Nat.le_refl _) _⟩
theorem refform1 (x : Int) (h : isPt x = true) (h1 : x < 128) (w : World) : Calls Tryz.prog 124 #[.int .i64 x] w (FormG x w) := by
  have hd := isPt_bd h
  have Hf := Lib.hid (show form x = [x] from form_1 h1)
  have q1 : 0 ≤ x % 64 := by omega
  have q2 : x % 64 < 64 := by omega
  have q3 : 0 ≤ x / 64 % 64 := by omega
  have q4 : x / 64 % 64 < 64 := by omega
  have q5 : 0 ≤ x / 4096 % 64 := by omega
  have q6 : x / 4096 % 64 < 64 := by omega
  go_enter Tryz.func124, Tryz.ntmps124
  go_wp2
  go_ret
  exact formOk_mk [x] Hf.out
theorem refform2 (x : Int) (h : isPt x = true) (h1 : ¬ x < 128 ∧ x < 2048) (w : World) : Calls Tryz.prog 124 #[.int .i64 x] w (FormG x w) := by
  have hd := isPt_bd h
  have Hf := Lib.hid (show form x = [192 + x / 64, 128 + x % 64] from form_2 (by omega) (by omega))
  have q1 : 0 ≤ x % 64 := by omega
  have q2 : x % 64 < 64 := by omega
  have q3 : 0 ≤ x / 64 % 64 := by omega
  have q4 : x / 64 % 64 < 64 := by omega
  have q5 : 0 ≤ x / 4096 % 64 := by omega
  have q6 : x / 4096 % 64 < 64 := by omega
  have a1 : 0 ≤ x / 64 := by omega
  have a2 : x / 64 < 32 := by omega
  go_enter Tryz.func124, Tryz.ntmps124
  go_wp2
  go_ret
  exact formOk_mk [192 + x / 64, 128 + x % 64] Hf.out
theorem refform3 (x : Int) (h : isPt x = true) (h1 : ¬ x < 2048 ∧ x < 65536) (w : World) : Calls Tryz.prog 124 #[.int .i64 x] w (FormG x w) := by
  have hd := isPt_bd h
  have Hf := Lib.hid (show form x = [224 + x / 4096, 128 + x / 64 % 64, 128 + x % 64] from form_3 (by omega) (by omega))
  have q1 : 0 ≤ x % 64 := by omega
  have q2 : x % 64 < 64 := by omega
  have q3 : 0 ≤ x / 64 % 64 := by omega
  have q4 : x / 64 % 64 < 64 := by omega
  have q5 : 0 ≤ x / 4096 % 64 := by omega
  have q6 : x / 4096 % 64 < 64 := by omega
  have a1 : 0 ≤ x / 64 := by omega
  have a3 : 0 ≤ x / 4096 := by omega
  have a4 : x / 4096 < 16 := by omega
  go_enter Tryz.func124, Tryz.ntmps124
  go_wp2
  go_ret
  exact formOk_mk [224 + x / 4096, 128 + x / 64 % 64, 128 + x % 64] Hf.out
theorem refform4 (x : Int) (h : isPt x = true) (h1 : ¬ x < 65536) (w : World) : Calls Tryz.prog 124 #[.int .i64 x] w (FormG x w) := by
  have hd := isPt_bd h
  have Hf := Lib.hid (show form x = [240 + x / 262144, 128 + x / 4096 % 64, 128 + x / 64 % 64, 128 + x % 64] from form_4 (by omega))
  have q1 : 0 ≤ x % 64 := by omega
  have q2 : x % 64 < 64 := by omega
  have q3 : 0 ≤ x / 64 % 64 := by omega
  have q4 : x / 64 % 64 < 64 := by omega
  have q5 : 0 ≤ x / 4096 % 64 := by omega
  have q6 : x / 4096 % 64 < 64 := by omega
  have a1 : 0 ≤ x / 64 := by omega
  have a3 : 0 ≤ x / 4096 := by omega
  have a4 : 0 ≤ x / 262144 := by omega
  have a5 : x / 262144 < 8 := by omega
  go_enter Tryz.func124, Tryz.ntmps124
  go_wp2
  go_ret
  exact formOk_mk [240 + x / 262144, 128 + x / 4096 % 64, 128 + x / 64 % 64, 128 + x % 64] Hf.out
theorem refformG_any (x : Int) (h : isPt x = true) (w : World) : Calls Tryz.prog 124 #[.int .i64 x] w (FormG x w) := by
  by_cases h1 : x < 128
  · exact refform1 x h h1 w
  · by_cases h2 : x < 2048
    · exact refform2 x h ⟨h1, h2⟩ w
    · by_cases h3 : x < 65536
      · exact refform3 x h ⟨h2, h3⟩ w
      · exact refform4 x h h3 w
theorem refform_any (x : Int) (h : isPt x = true) (w : World) : Calls Tryz.prog 124 #[.int .i64 x] w (FormOk x w) :=
  (refformG_any x h w).mono fun _ _ ⟨_, c, h1, h2, h3⟩ => ⟨_, c, h1, h2, h3⟩
end Go.Proofs.YtlhekeokognhmaaGreatDoor
namespace Go.Proofs.YtlhekeokognhmaaGreatDoor
open Go.RowKit

theorem take_eq_snoc {xs ys : List Value} {k : Nat} {x : Value} (h : xs.take k = ys.take k) (hx : xs[k]? = some x) (hy : ys[k]? = some x) : xs.take (k + 1) = ys.take (k + 1) := by
  rw [List.take_add_one, List.take_add_one, h, hx, hy]
theorem ne_of_get {xs ys : List Value} {k : Nat} {x y : Value} (hx : xs[k]? = some x) (hy : ys[k]? = some y) (h : x ≠ y) : xs ≠ ys := by
  rintro rfl
  rw [hx] at hy
  exact h (Option.some.inj hy)

/-- A call answers yes just if two lists are the same, and leaves the world but for draws. -/
def SameOk (xs ys : List Value) (w : World) (e : Ending) (w' : World) : Prop :=
  ∃ b : Bool, e = .returned (.bool b) ∧ (b = true ↔ xs = ys) ∧ ∃ q, w' = w.drewN q
theorem sameOk_no {xs ys : List Value} (h : xs ≠ ys) (w : World) (q : Nat) : SameOk xs ys w (.returned (.bool false)) (w.drewN q) := ⟨false, rfl, ⟨(fun h => by cases h), fun e => absurd e h⟩, q, rfl⟩
theorem sameOk_yes {xs ys : List Value} (h : xs = ys) (w : World) (q : Nat) : SameOk xs ys w (.returned (.bool true)) (w.drewN q) := ⟨true, rfl, ⟨fun _ => h, fun _ => rfl⟩, q, rfl⟩

end Go.Proofs.YtlhekeokognhmaaGreatDoor
