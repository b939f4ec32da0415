/-
  What the statements' helper made computes: some code points, at most 200.
-/
import Derived.Test.YtdgpbminmlpebaaDoorUtfT
import Derived.OpenShut
namespace Go.Proofs.YtdgpbminmlpebaaDoor
open Go.RowKit Mt
/-- Numbers as cells of a uint32. -/
def u32s (l : List Int) : List Value := l.map (Value.int .u32)
theorem u32s_get (l : List Int) (k : Nat) (h : k < l.length) : (u32s l)[k]? = some (.int .u32 (l.getD k 0)) := by simp [u32s, h]
theorem getD_mem {l : List Int} {k : Nat} (h : k < l.length) : l.getD k 0 ∈ l := by simp [List.getD, h]

/-- The code points that are made of numbers. -/
def madeL (zs : List Int) : List Int := (zs.take 200).map ptOf
theorem madeL_pt (zs : List Int) : AllPt (madeL zs) := by
  intro x hx
  obtain ⟨z, _, rfl⟩ := List.mem_map.1 hx
  exact ptOf_pt z
theorem madeL_len (zs : List Int) : (madeL zs).length ≤ 200 := by simp [madeL]; omega
/-- The code points, in new memory. -/
def MadeEq (ps : List Int) (w : World) (e : Ending) (w' : World) : Prop :=
  ∃ (A : Option Addr) (c : Nat), e = .returned (.slice A ps.length c) ∧ Rd w' w'.heap.size A ps.length (i64s ps) ∧ Below w.heap.size w w'
/-- Some code points, at most m, in new memory. -/
def MadeOk (m : Nat) (w : World) (e : Ending) (w' : World) : Prop :=
  ∃ (A : Option Addr) (c : Nat) (ps : List Int), e = .returned (.slice A ps.length c) ∧ AllPt ps ∧ ps.length ≤ m ∧ Rd w' w'.heap.size A ps.length (i64s ps) ∧ Below w.heap.size w w'
theorem map_snoc {zs : List Int} {k : Nat} (h : k < zs.length) : (zs.take (k + 1)).map ptOf = (zs.take k).map ptOf ++ [ptOf (zs.getD k 0)] := by
  rw [List.take_succ_eq_append_getElem h, List.map_append]
  simp [List.getD, h]
set_option maxRecDepth 100000 in
set_option maxHeartbeats 1000000 in
theorem made_in (zs : List Int) (hz : ∀ z ∈ zs, 0 ≤ z ∧ z ≤ 4294967295) (A : Option Addr) (n c h : Nat) (w : World) (hr : Rd w w.heap.size A n (u32s zs)) (hnc : n ≤ c) (hc : c ≤ maxLen) (hm : h = n ∧ n ≤ 200 ∨ h = 200 ∧ 200 < n) :
    Calls Tryd.prog 23 #[.slice A n c] w (MadeEq (madeL zs) w) := by
  unfold maxLen at hc
  have Hr := Lib.hid hr
  have hl : zs.length = n := by have := hr.1; simpa [u32s] using this
  have Hz := Lib.hid hz
  have Hl := Lib.hid hl
  clear hr hz hl
  obtain ⟨i0, hi, hz0, hz1, hz2⟩ := info_parts info3
  rcases hm with ⟨rfl, hn⟩ | ⟨rfl, hn⟩
  · go_enter Tryd.func23, Tryd.ntmps23
    go_wp2
    go_loopw [3, 12] (fun v i wr => ∃ k : Nat, k ≤ h ∧ i = .int .i64 k ∧ Hid (wr.ownsRow w.heap.size 3 1 v k (i64s ((zs.take k).map ptOf))) ∧ Below w.heap.size w wr) (fun _ i _ => h - (intOf i).toNat)
    case atStart => exact ⟨0, by omega, rfl, World.ownsRow_nil _ _ _ _, Below.refl _ _⟩
    case round =>
      obtain ⟨k, hk, rfl, hown, hb⟩ := hrel
      by_cases hkn : k < h
      · obtain ⟨ad, u, rfl, hadb, hu, hcu⟩ := Hr.out.at_ (show k < h by omega)
        have hkl : k < zs.length := by rw [Hl.out]; omega
        rw [u32s_get zs k hkl] at hu
        obtain rfl := Option.some.inj hu
        have hcu' : wr.cell? (ad.add k) = some (.int .u32 (zs.getD k 0)) := (hb.cell (p := ad.add k) (by rw [addBlock]; exact hadb)).trans hcu
        obtain ⟨hg0, hg1⟩ := Hz.out _ (getD_mem hkl)
        have Hsn := Lib.hid (map_snoc hkl)
        clear hu hcu
        generalize zs.getD k 0 = z at *
        have hbs := hb.size
        go_wp2_with (first
          | (go_at_call 48; refine (ptmade z hg0 hg1 _).mono ?_; rintro e w1 ⟨rfl, rfl⟩; generalize ptOf z = x at *)
          | (at_builtin; refine wpList_append_own _ rfl _ _ 26 rfl w.heap.size 3 i0 (.int .i64 0) 1 8 Tryd.underlying26 hi hz0 hz1 hz2 rfl (by decide) _ _ _ rfl (hown.out.alloc _) ⟨wr.heap.size, 0, none⟩ 1 1 (i64s [x]) rfl rfl (cells_new _ _ _) (i64s_one _) (by unfold maxLen; omega) (by omega) (by simp; omega) ?_; intro v' w1 hown1 hgrow1 _; have Hown1 := Lib.hid hown1; clear hown1))
        have hB : Below w.heap.size w w1 := (hb.alloc hbs _).grown hgrow1 (by simp; omega) (fun j e => (hown.out.lt j e).1)
        go_roundw
        case rel => exact ⟨k + 1, by omega, by go_num, by show World.ownsRow _ _ _ _ _ _ _; rw [Hsn.out, i64s_append]; exact Hown1.out, hB⟩
        case measure => simp [intOf]; omega
      · obtain rfl : k = h := by omega
        go_wp2
        go_ret
        obtain ⟨A', c', hv, _⟩ := own_slice hown.out
        have ho := hown.out
        rw [hv] at ho
        have hle : (madeL zs).length = k := by have := Hl.out; simp [madeL]; omega
        have hme : (zs.take k).map ptOf = madeL zs := by unfold madeL; rw [List.take_of_length_le (by rw [Hl.out]; exact Nat.le_refl _), List.take_of_length_le (by rw [Hl.out]; omega)]
        rw [hme] at ho
        exact ⟨A', c', by rw [hle, ← hv]; rfl, by rw [hle]; exact Rd.of_own ho, hb⟩
  · go_enter Tryd.func23, Tryd.ntmps23
    go_wp2
    go_loopw [3, 12] (fun v i wr => ∃ k : Nat, k ≤ 200 ∧ i = .int .i64 k ∧ Hid (wr.ownsRow w.heap.size 3 1 v k (i64s ((zs.take k).map ptOf))) ∧ Below w.heap.size w wr) (fun _ i _ => 200 - (intOf i).toNat)
    case atStart => exact ⟨0, by omega, rfl, World.ownsRow_nil _ _ _ _, Below.refl _ _⟩
    case round =>
      obtain ⟨k, hk, rfl, hown, hb⟩ := hrel
      by_cases hkn : k < 200
      · obtain ⟨ad, u, rfl, hadb, hu, hcu⟩ := Hr.out.at_ (show k < n by omega)
        have hkl : k < zs.length := by rw [Hl.out]; omega
        rw [u32s_get zs k hkl] at hu
        obtain rfl := Option.some.inj hu
        have hcu' : wr.cell? (ad.add k) = some (.int .u32 (zs.getD k 0)) := (hb.cell (p := ad.add k) (by rw [addBlock]; exact hadb)).trans hcu
        obtain ⟨hg0, hg1⟩ := Hz.out _ (getD_mem hkl)
        have Hsn := Lib.hid (map_snoc hkl)
        clear hu hcu
        generalize zs.getD k 0 = z at *
        have hbs := hb.size
        go_wp2_with (first
          | (go_at_call 48; refine (ptmade z hg0 hg1 _).mono ?_; rintro e w1 ⟨rfl, rfl⟩; generalize ptOf z = x at *)
          | (at_builtin; refine wpList_append_own _ rfl _ _ 26 rfl w.heap.size 3 i0 (.int .i64 0) 1 8 Tryd.underlying26 hi hz0 hz1 hz2 rfl (by decide) _ _ _ rfl (hown.out.alloc _) ⟨wr.heap.size, 0, none⟩ 1 1 (i64s [x]) rfl rfl (cells_new _ _ _) (i64s_one _) (by unfold maxLen; omega) (by omega) (by simp; omega) ?_; intro v' w1 hown1 hgrow1 _; have Hown1 := Lib.hid hown1; clear hown1))
        have hB : Below w.heap.size w w1 := (hb.alloc hbs _).grown hgrow1 (by simp; omega) (fun j e => (hown.out.lt j e).1)
        go_roundw
        case rel => exact ⟨k + 1, by omega, by go_num, by show World.ownsRow _ _ _ _ _ _ _; rw [Hsn.out, i64s_append]; exact Hown1.out, hB⟩
        case measure => simp [intOf]; omega
      · have hke : k = 200 := by omega
        subst hke
        go_wp2
        go_ret
        obtain ⟨A', c', hv, _⟩ := own_slice hown.out
        have ho := hown.out
        rw [hv] at ho
        have hle : (madeL zs).length = 200 := by have := Hl.out; simp [madeL]; omega
        have hme : (zs.take 200).map ptOf = madeL zs := by unfold madeL; rfl
        rw [hme] at ho
        exact ⟨A', c', by rw [hle, ← hv]; rfl, by rw [hle]; exact Rd.of_own ho, hb⟩

/-- MADE: the code points of the first 200 numbers. -/
theorem made_eq (zs : List Int) (hz : ∀ z ∈ zs, (Lit.int .u32 z).wf = true) (A : Option Addr) (n c : Nat) (w : World) (hr : Rd w w.heap.size A n (u32s zs)) (hnc : n ≤ c) (hc : c ≤ maxLen) :
    Calls Tryd.prog 23 #[.slice A n c] w (MadeEq (madeL zs) w) := by
  by_cases h : n ≤ 200
  · exact made_in zs (fun z h => bounds_u32 (hz z h)) A n c n w hr hnc hc (.inl ⟨rfl, h⟩)
  · exact made_in zs (fun z h => bounds_u32 (hz z h)) A n c 200 w hr hnc hc (.inr ⟨rfl, by omega⟩)
theorem made_any (zs : List Int) (hz : ∀ z ∈ zs, (Lit.int .u32 z).wf = true) (A : Option Addr) (n c : Nat) (w : World) (hr : Rd w w.heap.size A n (u32s zs)) (hnc : n ≤ c) (hc : c ≤ maxLen) :
    Calls Tryd.prog 23 #[.slice A n c] w (MadeOk 200 w) := by
  refine (made_eq zs hz A n c w hr hnc hc).mono ?_
  rintro e w' ⟨A', c', rfl, hr', hb⟩
  exact ⟨A', c', madeL zs, rfl, madeL_pt zs, madeL_len zs, hr', hb⟩
end Go.Proofs.YtdgpbminmlpebaaDoor
