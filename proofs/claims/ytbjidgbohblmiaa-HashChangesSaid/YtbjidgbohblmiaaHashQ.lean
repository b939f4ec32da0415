/-
  What the statements' helper tells computes: yes.
-/
import Derived.Test.YtbjidgbohblmiaaHashP
import Derived.Test.YtbjidgbohblmiaaHashX
import Derived.Test.YtbjidgbohblmiaaOwn
namespace Go.Proofs.Ytbjidgbohblmiaa
open Go.RowKit
theorem infoS : (Try.prog.info? 9).map (fun i => (i.zero, i.size, i.bytes)) = some (some (.string ⟨#[]⟩), 1, 16) := by kernel_rfl
/-- Both ways to each sum. -/
theorem addO_any (s : ByteArray) (hs : s.size ≤ 9223372036854775807) (w : World) :
    Calls Try.prog 28 #[.int .u64 14695981039346656037, .string s] w fun e w' => e = .returned (U (addL Of s.data.toList)) ∧ w = w' := by
  have := refadd_any Of s hs w
  rwa [of_U] at this

set_option maxRecDepth 100000 in
set_option maxHeartbeats 2000000 in
theorem tells_any (h : BitVec 64) (l : List ByteArray) (A : Option Addr) (n c : Nat) (w : World) (hr : Rd w w.heap.size A n (strs l)) (hn : n ≤ 1000) (hsz : ∀ s ∈ l, s.size ≤ 9223372036854775807) :
    Calls Try.prog 14 #[U h, .slice A n c] w fun e w' => e = .returned (.bool true) ∧ Below w.heap.size w w' := by
  have Hr := Lib.hid hr
  have hl : l.length = n := by have := hr.1; rwa [strs_length] at this
  have Hl := Lib.hid hl
  have Hsz := Lib.hid hsz
  clear hr hl hsz
  obtain ⟨i0, hi, hz0, hz1, hz2⟩ := info_parts infoS
  go_enter Try.func14, Try.ntmps14
  go_wp2_with (at_builtin; refine wpList_app_any _ rfl _ _ 23 rfl w.heap.size 9 i0 (.string ⟨#[]⟩) 16 Try.underlying23 hi hz0 hz1 hz2 rfl _ 0 [] rfl (own_none (heap_alloc_new w _) (Nat.le_refl _)) w.heap.size A n c (strs l) rfl (Hr.out.below ((Below.refl _ w).alloc (Nat.le_refl _) _)) (strs_one _) (by unfold maxLen; omega) (by omega) (by simp) ?_; intro v2 w2 hown2 hg2; have Hown2 := Lib.hid hown2; have Hg2 := Lib.hid hg2; clear hown2 hg2)
  have hg2 : (w.alloc (.cells #[] 9)).grownBy w2 (some w.heap.size) := Hg2.out
  have hB2 : Below w.heap.size w w2 := ((Below.refl _ w).alloc (Nat.le_refl _) _).grown hg2 (by simp) (fun k e => by cases e; exact Nat.le_refl _)
  have hown2 := Hown2.out
  rw [Nat.zero_add, List.nil_append] at hown2
  obtain ⟨A2, c2, rfl, _⟩ := own_slice hown2
  have hr2 := Rd.of_own hown2
  have Hr2 := Lib.hid hr2
  clear Hg2 hg2 Hown2 hown2 hr2 hi hz0 hz1 hz2
  go_wp2_with fail
  refine (parts_any l A2 n c2 w2 Hr2.out (by omega) Hsz.out).mono ?_
  rintro e w3 ⟨rfl, hb3⟩
  have hB3 := hB2.trans (hb3.mono hB2.size)
  have Hr3 := Lib.hid ((Hr2.out.below hb3).more hb3.size)
  have HrA := Lib.hid ((Hr.out.below hB3).more hB3.size)
  clear hb3 hB2 Hr2
  go_wp2_with fail
  refine (refparts_any l A n c w3 HrA.out (by omega) Hsz.out).mono ?_
  rintro e w' ⟨rfl, rfl⟩
  go_wp2_with fail
  go_loopw [18] (fun i wr => ∃ k : Nat, k ≤ n ∧ i = .int .i64 k ∧ Below w3.heap.size w3 wr) (fun i _ => n - (intOf i).toNat)
  case atStart => exact ⟨0, by omega, rfl, Below.refl _ _⟩
  case round =>
    obtain ⟨k, hk, rfl, hB⟩ := hrel
    by_cases hkn : k < n
    · obtain ⟨ad, u, rfl, hadb, hu, hcu⟩ := HrA.out.at_ hkn
      obtain ⟨bd, v, rfl, hbdb, hv, hcv⟩ := Hr3.out.at_ hkn
      have hkl : k < l.length := by rw [Hl.out]; exact hkn
      rw [strs_get l k hkl] at hu hv
      obtain rfl := Option.some.inj hu
      obtain rfl := Option.some.inj hv
      have hcu' : wr.cell? (ad.add k) = some (.string l[k]) := (hB.cell (p := ad.add k) (by rw [addBlock]; exact hadb)).trans hcu
      have hcv' : wr.cell? (bd.add k) = some (.string l[k]) := (hB.cell (p := bd.add k) (by rw [addBlock]; exact hbdb)).trans hcv
      have hs := Hsz.out l[k] (List.getElem_mem hkl)
      clear hu hv hcu hcv
      generalize l[k] = s at *
      have hself : (s.toList == s.toList) = true := by simp
      have d1 := sum_any s hs
      have d2 := addO_any s hs
      have d3 := add_any h s hs
      have d4 := refadd_any h s hs
      have d5 := back_any h s hs
      have d6 := refback_any h s hs
      generalize addL Of s.data.toList = a at d1 d2
      generalize addL h s.data.toList = b at d3 d4
      generalize backL h s.data.toList = g at d5 d6
      have D1 := Lib.hid d1; have D2 := Lib.hid d2; have D3 := Lib.hid d3; have D4 := Lib.hid d4; have D5 := Lib.hid d5; have D6 := Lib.hid d6
      clear d1 d2 d3 d4 d5 d6
      go_wp2_with fail
      refine (D1.out _).mono ?_
      rintro e w4 ⟨rfl, hb4⟩
      have hB4 := hB.trans (hb4.mono hB.size)
      clear hb4
      go_wp2_with fail
      refine (D2.out _).mono ?_
      rintro e w' ⟨rfl, rfl⟩
      go_wp2_with fail
      refine (D3.out _).mono ?_
      rintro e w5 ⟨rfl, hb5⟩
      have hB5 := hB4.trans (hb5.mono hB4.size)
      clear hb5 hB4
      go_wp2_with fail
      refine (D4.out _).mono ?_
      rintro e w' ⟨rfl, rfl⟩
      go_wp2_with fail
      refine (D5.out _).mono ?_
      rintro e w6 ⟨rfl, hb6⟩
      have hB6 := hB5.trans (hb6.mono hB5.size)
      clear hb6 hB5
      go_wp2_with fail
      refine (D6.out _).mono ?_
      rintro e w7 ⟨rfl, hb7⟩
      have hB7 := hB6.trans (hb7.mono hB6.size)
      clear hb7 hB6
      go_wp2_with fail
      go_roundw
      case rel => exact ⟨k + 1, by omega, by go_num, hB7⟩
      case measure => simp [intOf]; omega
    · obtain rfl : k = n := by omega
      go_wp2_with fail
      go_ret
      exact ⟨rfl, hB3.trans (hB.mono hB3.size)⟩

theorem short_any (l : List ByteArray) (A : Option Addr) (n c : Nat) (w : World) (hr : Rd w w.heap.size A n (strs l)) :
    Calls Try.prog 13 #[.slice A n c] w fun e w' => (∃ b : Bool, e = .returned (.bool b) ∧ (b = true → n ≤ 100)) ∧ w = w' := by
  have Hr := Lib.hid hr
  clear hr
  by_cases hn : (100 : Int) < n
  · go_enter Try.func13, Try.ntmps13
    go_wp2_with fail
    go_ret
    exact ⟨⟨false, rfl, fun h => by cases h⟩, rfl⟩
  · go_enter Try.func13, Try.ntmps13
    go_wp2_with fail
    go_loopw [10] (fun i wr => ∃ k : Nat, k ≤ n ∧ i = .int .i64 k ∧ w = wr) (fun i _ => n - (intOf i).toNat)
    case atStart => exact ⟨0, by omega, rfl, rfl⟩
    case round =>
      obtain ⟨k, hk, rfl, rfl⟩ := hrel
      by_cases hkn : k < n
      · obtain ⟨ad, u, rfl, hadb, hu, hcu⟩ := Hr.out.at_ hkn
        have hkl : k < l.length := by have := Hr.out.1; rw [strs_length] at this; omega
        rw [strs_get l k hkl] at hu
        obtain rfl := Option.some.inj hu
        clear hu
        generalize l[k] = s at *
        by_cases hs : (300 : Int) < s.size
        · go_wp2_with fail
          go_ret
          exact ⟨⟨false, rfl, fun h => by cases h⟩, rfl⟩
        · go_wp2_with fail
          go_roundw
          case rel => exact ⟨k + 1, by omega, by go_num, trivial⟩
          case measure => simp [intOf]; omega
      · obtain rfl : k = n := by omega
        go_wp2_with fail
        go_ret
        exact ⟨⟨true, rfl, fun _ => by omega⟩, rfl⟩
end Go.Proofs.Ytbjidgbohblmiaa
