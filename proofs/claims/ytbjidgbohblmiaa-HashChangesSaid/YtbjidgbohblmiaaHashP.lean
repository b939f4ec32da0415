/-
  What Parts computes, here and in the reference.
-/
import Derived.Test.YtbjidgbohblmiaaHashS
namespace Go.Proofs.Ytbjidgbohblmiaa
open Go.RowKit

/-- The steps with the lowest bytes of a length. -/
def lenK (h : BitVec 64) (n : Nat) : Nat → BitVec 64
  | 0 => h
  | k + 1 => st (lenK h n k) (B8 ((n / 256 ^ k % 256 : Nat) : Int))
def partS (h : BitVec 64) (s : ByteArray) : BitVec 64 := addL (lenK h s.size 8) s.data.toList
def partsL (l : List ByteArray) : BitVec 64 := l.foldl partS Of
theorem partsL_take (l : List ByteArray) (k : Nat) (h : k < l.length) : partsL (l.take (k + 1)) = partS (partsL (l.take k)) l[k] := by
  unfold partsL
  rw [List.take_succ_eq_append_getElem h, List.foldl_append]
  rfl

set_option maxHeartbeats 2000000 in
theorem parts_any (l : List ByteArray) (A : Option Addr) (n c : Nat) (w : World) (hr : Rd w w.heap.size A n (strs l)) (hn : n ≤ 9223372036854775807) (hsz : ∀ s ∈ l, s.size ≤ 9223372036854775807) :
    Calls Try.prog 21 #[.slice A n c] w fun e w' => e = .returned (U (partsL l)) ∧ Below w.heap.size w w' := by
  have Hr := Lib.hid hr
  have hl : l.length = n := by have := hr.1; rwa [strs_length] at this
  have Hl := Lib.hid hl
  have Hsz := Lib.hid hsz
  clear hr hl hsz
  go_enter Try.func21, Try.ntmps21
  go_wp2_with fail
  go_loopw [3, 9] (fun v i wr => ∃ (k : Nat) (g : BitVec 64), k ≤ n ∧ i = .int .i64 k ∧ v = U g ∧ Hid (g = partsL (l.take k)) ∧ Below w.heap.size w wr) (fun _ i _ => n - (intOf i).toNat)
  case atStart => exact ⟨0, Of, by omega, rfl, of_U.symm, rfl, Below.refl _ _⟩
  case round =>
    obtain ⟨k, g, hk, rfl, rfl, hg, hB⟩ := hrel
    by_cases hkn : k < n
    · obtain ⟨ad, u, rfl, hadb, hu, hcu⟩ := Hr.out.at_ hkn
      have hkl : k < l.length := by rw [Hl.out]; exact hkn
      rw [strs_get l k hkl] at hu
      obtain rfl := Option.some.inj hu
      have hcu' : wr.cell? (ad.add k) = some (.string l[k]) := (hB.cell (p := ad.add k) (by rw [addBlock]; exact hadb)).trans hcu
      have hs := Hsz.out l[k] (List.getElem_mem hkl)
      have hg2 : Hid (partS g l[k] = partsL (l.take (k + 1))) := by show _ = _; rw [partsL_take l k hkl, hg.out]
      clear hu hcu hg
      generalize l[k] = s at *
      go_wp2_with fail
      go_loopw [3, 6, 16] (fun v m j wr2 => ∃ (q y : Nat) (g2 : BitVec 64), q ≤ 8 ∧ j = .int .i64 q ∧ m = .int .u64 y ∧ v = U g2 ∧ Hid (y = s.size / 256 ^ q) ∧ y ≤ 9223372036854775807 ∧ Hid (g2 = lenK g s.size q) ∧ wr = wr2) (fun _ _ j _ => 8 - (intOf j).toNat)
      case atStart => exact ⟨0, s.size, g, by omega, rfl, rfl, rfl, by show _ = _; simp, hs, rfl, rfl⟩
      case round =>
        obtain ⟨q, y, g2, hq, rfl, rfl, rfl, hy, hy2, hgg, rfl⟩ := hrel
        by_cases hq8 : q < 8
        · obtain ⟨z, hz⟩ : ∃ z, y % 256 = z := ⟨_, rfl⟩
          have hz2 : (y : Int) % 256 = (z : Int) := by omega
          have hz3 : z < 256 := by omega
          have cs := step_any g2 (z : Int) (by omega) (by omega)
          have hgn : Hid (st g2 (B8 (z : Int)) = lenK g s.size (q + 1)) := by
            show _ = st (lenK g s.size q) (B8 ((s.size / 256 ^ q % 256 : Nat) : Int))
            rw [← hgg.out, ← hy.out, hz]
          obtain ⟨d, hd⟩ : ∃ d, y / 256 = d := ⟨_, rfl⟩
          have hd2 : (y : Int) / 256 = (d : Int) := by omega
          have hyn : Hid (d = s.size / 256 ^ (q + 1)) := by show _ = _; rw [Nat.pow_succ, ← Nat.div_div_eq_div_mul, ← hy.out, hd]
          clear hz hd
          go_wp2_with (go_at_call 36; refine (cs _).mono ?_; rintro e w' ⟨rfl, rfl⟩)
          go_roundw
          case rel => exact ⟨q + 1, d, _, by omega, by go_num, rfl, rfl, hyn, by omega, hgn, trivial⟩
          case measure => simp [intOf]; omega
        · obtain rfl : q = 8 := by omega
          have ca := add_any g2 s hs
          have hfin : Hid (addL g2 s.data.toList = partsL (l.take (k + 1))) := by show _ = _; rw [← hg2.out, hgg.out]; rfl
          generalize addL g2 s.data.toList = g3 at ca hfin
          go_wp2_with (go_at_call 18; refine (ca _).mono ?_; rintro e w3 ⟨rfl, hb3⟩)
          go_roundw
          case rel => exact ⟨k + 1, g3, by omega, by go_num, rfl, hfin, hB.trans (hb3.mono hB.size)⟩
          case measure => simp [intOf]; omega
    · obtain rfl : k = n := by omega
      have e : g = partsL l := by rw [hg.out, List.take_of_length_le (by rw [Hl.out]; exact Nat.le_refl _)]
      have He := Lib.hid e
      clear hg e
      go_wp2_with fail
      go_ret
      exact ⟨by rw [← He.out]; rfl, hB⟩

set_option maxHeartbeats 2000000 in
theorem refparts_any (l : List ByteArray) (A : Option Addr) (n c : Nat) (w : World) (hr : Rd w w.heap.size A n (strs l)) (hn : n ≤ 9223372036854775807) (hsz : ∀ s ∈ l, s.size ≤ 9223372036854775807) :
    Calls Try.prog 27 #[.slice A n c] w fun e w' => e = .returned (U (partsL l)) ∧ w = w' := by
  have Hr := Lib.hid hr
  have hl : l.length = n := by have := hr.1; rwa [strs_length] at this
  have Hl := Lib.hid hl
  have Hsz := Lib.hid hsz
  clear hr hl hsz
  go_enter Try.func27, Try.ntmps27
  go_wp2_with fail
  go_loopw [3, 4] (fun v i wr => ∃ (k : Nat) (g : BitVec 64), k ≤ n ∧ i = .int .i64 k ∧ v = U g ∧ Hid (g = partsL (l.take k)) ∧ w = wr) (fun _ i _ => n - (intOf i).toNat)
  case atStart => exact ⟨0, Of, by omega, rfl, of_U.symm, rfl, rfl⟩
  case round =>
    obtain ⟨k, g, hk, rfl, rfl, hg, rfl⟩ := hrel
    by_cases hkn : k < n
    · obtain ⟨ad, u, rfl, hadb, hu, hcu⟩ := Hr.out.at_ hkn
      have hkl : k < l.length := by rw [Hl.out]; exact hkn
      rw [strs_get l k hkl] at hu
      obtain rfl := Option.some.inj hu
      have hs := Hsz.out l[k] (List.getElem_mem hkl)
      have hg2 : Hid (partS g l[k] = partsL (l.take (k + 1))) := by show _ = _; rw [partsL_take l k hkl, hg.out]
      clear hu hg
      generalize l[k] = s at *
      go_wp2_with fail
      go_loopw [3, 5, 6] (fun v m j wr2 => ∃ (q y : Nat) (g2 : BitVec 64), q ≤ 8 ∧ j = .int .i64 q ∧ m = .int .i64 y ∧ v = U g2 ∧ Hid (y = s.size / 256 ^ q) ∧ y ≤ 9223372036854775807 ∧ Hid (g2 = lenK g s.size q) ∧ w = wr2) (fun _ _ j _ => 8 - (intOf j).toNat)
      case atStart => exact ⟨0, s.size, g, by omega, rfl, rfl, rfl, by show _ = _; simp, hs, rfl, rfl⟩
      case round =>
        obtain ⟨q, y, g2, hq, rfl, rfl, rfl, hy, hy2, hgg, rfl⟩ := hrel
        by_cases hq8 : q < 8
        · obtain ⟨z, hz⟩ : ∃ z, y % 256 = z := ⟨_, rfl⟩
          have hz2 : (y : Int) % 256 = (z : Int) := by omega
          have hz3 : z < 256 := by omega
          have cs := refstep_any g2 (z : Int) (by omega) (by omega)
          have hgn : Hid (st g2 (B8 (z : Int)) = lenK g s.size (q + 1)) := by
            show _ = st (lenK g s.size q) (B8 ((s.size / 256 ^ q % 256 : Nat) : Int))
            rw [← hgg.out, ← hy.out, hz]
          obtain ⟨d, hd⟩ : ∃ d, y / 256 = d := ⟨_, rfl⟩
          have hd2 : (y : Int) / 256 = (d : Int) := by omega
          have hyn : Hid (d = s.size / 256 ^ (q + 1)) := by show _ = _; rw [Nat.pow_succ, ← Nat.div_div_eq_div_mul, ← hy.out, hd]
          clear hz hd
          go_wp2_with (go_at_call 32; refine (cs _).mono ?_; rintro e w' ⟨rfl, rfl⟩)
          go_roundw
          case rel => exact ⟨q + 1, d, _, by omega, by go_num, rfl, rfl, hyn, by omega, hgn, trivial⟩
          case measure => simp [intOf]; omega
        · obtain rfl : q = 8 := by omega
          have ca := refadd_any g2 s hs
          have hfin : Hid (addL g2 s.data.toList = partsL (l.take (k + 1))) := by show _ = _; rw [← hg2.out, hgg.out]; rfl
          generalize addL g2 s.data.toList = g3 at ca hfin
          go_wp2_with (go_at_call 28; refine (ca _).mono ?_; rintro e w3 ⟨rfl, rfl⟩)
          go_roundw
          case rel => exact ⟨k + 1, g3, by omega, by go_num, rfl, hfin, trivial⟩
          case measure => simp [intOf]; omega
    · obtain rfl : k = n := by omega
      have e : g = partsL l := by rw [hg.out, List.take_of_length_le (by rw [Hl.out]; exact Nat.le_refl _)]
      have He := Lib.hid e
      clear hg e
      go_wp2_with fail
      go_ret
      exact ⟨by rw [← He.out]; rfl, rfl⟩
end Go.Proofs.Ytbjidgbohblmiaa
