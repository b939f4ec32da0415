/-
  How arguments that are slices of numbers in pairs, or of labels, are opened.
-/
import Derived.Test.YtlhekeokognhmaaGreatDoorLaw
import Derived.Test.YtlhekeokognhmaaGreatDoorLbZ
import Derived.Deep.SlicePairs
import Derived.Deep.Strs
namespace Go.Proofs.YtlhekeokognhmaaGreatDoor
open Go.ChangeShapes Go.WideShapes Go.ChangeAt Go.RowKit Go.WideMaps Go.WideElems
theorem flat2 {α : Type} (f g : α → Value) : ∀ (l : List α) (j : Nat) (u : Value), (l.flatMap fun x => [f x, g x])[j]? = some u → ∃ i x, l[i]? = some x ∧ ((j = i * 2 ∧ u = f x) ∨ (j = i * 2 + 1 ∧ u = g x))
  | [], j, u, h => by simp at h
  | x :: l, 0, u, h => ⟨0, x, rfl, .inl ⟨rfl, by cases h; rfl⟩⟩
  | x :: l, 1, u, h => ⟨0, x, rfl, .inr ⟨rfl, by cases h; rfl⟩⟩
  | x :: l, j + 2, u, h => by
    obtain ⟨i, y, h1, h2⟩ := flat2 f g l j u h
    refine ⟨i + 1, y, h1, ?_⟩
    rcases h2 with ⟨e, e2⟩ | ⟨e, e2⟩
    · exact .inl ⟨by omega, e2⟩
    · exact .inr ⟨by omega, e2⟩
theorem flat2_len {α : Type} (f g : α → Value) : ∀ l : List α, (l.flatMap fun x => [f x, g x]).length = l.length * 2
  | [] => rfl
  | x :: l => by
    have := flat2_len f g l
    rw [List.flatMap_cons, List.length_append, this, List.length_cons]
    simp
    omega
theorem rd_pairs {α : Type} (f g : α → Value) {W : World} {a : Addr} (l : List α) (h : ∀ i x, l[i]? = some x → W.cell? (a.add (i * 2)) = some (f x) ∧ W.cell? (a.add (i * 2 + 1)) = some (g x)) : Rd W W.heap.size (some a) (l.length * 2) (l.flatMap fun x => [f x, g x]) := by
  refine ⟨flat2_len f g l, fun hn => ⟨a, rfl, ?_, fun j u hu => ?_⟩⟩
  · obtain ⟨x, hx⟩ : ∃ x, l[0]? = some x := ⟨_, List.getElem?_eq_getElem (by omega)⟩
    have h0 := (h 0 x hx).1
    have := World.block_lt_of_cell? _ _ h0
    rwa [addBlock] at this
  · obtain ⟨i, x, hx, h2⟩ := flat2 f g l j u hu
    rcases h2 with ⟨rfl, rfl⟩ | ⟨rfl, rfl⟩
    · exact (h i x hx).1
    · exact (h i x hx).2
def natV : Value → Nat
  | .int _ m => m.toNat
  | _ => 0
def strV : Value → ByteArray
  | .string s => s
  | _ => ⟨#[]⟩
section
variable {H : Type} {enc : TypeId × Value → H} {W : World} {base : Nat}
set_option maxRecDepth 100000 in
theorem open_smalls {v : Value} {d : DataW H} {p : List MemPlace}
    (hval : Value.okWide Tryz.prog W .any base 34 v) (hd : DataW.Trod enc Tryz.prog W 0 (fun _ => true) true 34 v d p) :
    ∃ (A : Option Addr) (c : Nat) (ps : List (Nat × Nat)), v = .slice A ps.length c ∧ ps.length ≤ c ∧ c ≤ maxLen ∧ Rd W W.heap.size A (ps.length * 2) (smalls ps) ∧ (∀ q ∈ ps, q.1 ≤ 255 ∧ q.2 ≤ 255) := by
  obtain ⟨a0, len, cap, rfl⟩ := okWide_slice Tryz.underlying34 hval
  obtain ⟨fuel, hf⟩ := hd
  rcases Go.Deep.open_slice_pairs Tryz.underlying34 Tryz.underlying122 (by kernel_rfl) rfl rfl (by kernel_rfl) (by kernel_rfl) hf with ⟨hcs, hx⟩ | ⟨a, len', cap', m, n, V0, V1, D0, D1, P0, P1, hcs, _, hl, hm, hmm, hx, hcell⟩
  · have e : Value.slice a0 len cap = .slice none 0 0 := List.head_eq_of_cons_eq (show [Value.slice a0 len cap] = [Value.slice none 0 0] from hcs)
    injection e with e1 e2 e3
    subst e1 e2 e3
    exact ⟨none, 0, [], rfl, Nat.le_refl _, by simp [maxLen], Rd.nil, (fun _ h => by cases h)⟩
  · have e : Value.slice a0 len cap = .slice (some a) len' cap' := List.head_eq_of_cons_eq (show [Value.slice a0 len cap] = [Value.slice (some a) len' cap'] from hcs)
    injection e with e1 e2 e3
    subst e1 e2 e3
    simp only [if_true] at hmm
    have hv : ∀ i, i < len → ∃ x y : Nat, V0 i = .int .u8 (x : Int) ∧ V1 i = .int .u8 (y : Int) ∧ x ≤ 255 ∧ y ≤ 255 := by
      intro i hi
      obtain ⟨_, _, h0, h1⟩ := hcell i (by omega)
      obtain ⟨x, e1, _, b1⟩ := DataW.trod_int Tryz.underlying5 h0
      obtain ⟨y, e2, _, b2⟩ := DataW.trod_int Tryz.underlying5 h1
      have b1 := bounds_u8 b1
      have b2 := bounds_u8 b2
      obtain ⟨x, rfl⟩ := Int.eq_ofNat_of_zero_le b1.1
      obtain ⟨y, rfl⟩ := Int.eq_ofNat_of_zero_le b2.1
      exact ⟨x, y, List.head_eq_of_cons_eq e1, List.head_eq_of_cons_eq e2, by omega, by omega⟩
    have hlen : ((List.range len).map fun i => (natV (V0 i), natV (V1 i))).length = len := by simp
    refine ⟨some a, cap, (List.range len).map fun i => (natV (V0 i), natV (V1 i)), by rw [hlen], by rw [hlen]; exact hl, hm, ?_, ?_⟩
    · refine rd_pairs (fun q : Nat × Nat => .int .u8 (q.1 : Int)) (fun q : Nat × Nat => .int .u8 (q.2 : Int)) _ ?_
      intro i q hq
      rw [List.getElem?_map] at hq
      obtain ⟨k, hk, rfl⟩ := Option.map_eq_some_iff.1 hq
      obtain ⟨hk1, rfl⟩ := List.getElem?_eq_some_iff.1 hk
      simp only [List.length_range] at hk1
      simp only [List.getElem_range]
      obtain ⟨x, y, e1, e2, _⟩ := hv i hk1
      obtain ⟨c0, c1, _⟩ := hcell i (by omega)
      rw [c0, c1, e1, e2]
      exact ⟨rfl, rfl⟩
    · intro q hq
      obtain ⟨i, hi, rfl⟩ := List.mem_map.1 hq
      obtain ⟨x, y, e1, e2, b1, b2⟩ := hv i (List.mem_range.1 hi)
      rw [e1, e2]
      exact ⟨b1, b2⟩
end
end Go.Proofs.YtlhekeokognhmaaGreatDoor
