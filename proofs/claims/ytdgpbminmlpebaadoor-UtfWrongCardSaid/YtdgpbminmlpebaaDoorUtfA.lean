/-
  What the small functions of package utf compute: Point, Size, tail, Pair, Split.
-/
import Derived.Test.YtdgpbminmlpebaaDoorProg
import Derived.Test.YtdgpbminmlpebaaDoorMath
import Derived.WalkKit
import Derived.ProofKit
namespace Go.Proofs.YtdgpbminmlpebaaDoor
open Go.RowKit Mt

theorem point_any (x : Int) (w : World) :
    Calls Tryd.prog 31 #[.int .i64 x] w fun e w' => e = .returned (.bool (isPt x)) ∧ w = w' := by
  by_cases h1 : 0 ≤ x
  · by_cases h2 : x ≤ 1114111
    · by_cases h3 : x < 55296
      · go_enter Tryd.func31, Tryd.ntmps31
        go_wp2
        go_ret
        exact ⟨by rw [isPt_mk (by omega)]; rfl, rfl⟩
      · by_cases h4 : 57343 < x
        · go_enter Tryd.func31, Tryd.ntmps31
          go_wp2
          go_ret
          exact ⟨by rw [isPt_mk (by omega)]; rfl, rfl⟩
        · go_enter Tryd.func31, Tryd.ntmps31
          go_wp2
          go_ret
          exact ⟨by rw [isPt_not (by omega)]; rfl, rfl⟩
    · go_enter Tryd.func31, Tryd.ntmps31
      go_wp2
      go_ret
      exact ⟨by rw [isPt_not (by omega)]; rfl, rfl⟩
  · go_enter Tryd.func31, Tryd.ntmps31
    go_wp2
    go_ret
    exact ⟨by rw [isPt_not (by omega)]; rfl, rfl⟩

theorem point_yes {x : Int} (h : isPt x = true) (w : World) :
    Calls Tryd.prog 31 #[.int .i64 x] w fun e w' => e = .returned (.bool true) ∧ w = w' := by
  have := point_any x w; rwa [h] at this
theorem point_no {x : Int} (h : isPt x = false) (w : World) :
    Calls Tryd.prog 31 #[.int .i64 x] w fun e w' => e = .returned (.bool false) ∧ w = w' := by
  have := point_any x w; rwa [h] at this

theorem size_no (x : Int) (h : isPt x = false) (w : World) :
    Calls Tryd.prog 27 #[.int .i64 x] w fun e w' => e = .returned (.tuple #[.int .i64 0, .int .i64 2]) ∧ w = w' := by
  go_enter Tryd.func27, Tryd.ntmps27
  go_wp2_with (go_at_call 31; refine (point_no h _).mono ?_; rintro e w' ⟨rfl, rfl⟩)
  go_ret2
  exact ⟨rfl, rfl⟩
theorem size_yes (x : Int) (h : isPt x = true) (w : World) :
    Calls Tryd.prog 27 #[.int .i64 x] w fun e w' => e = .returned (.tuple #[.int .i64 (szP x), .int .i64 0]) ∧ w = w' := by
  have hb := isPt_bd h
  by_cases h1 : x < 128
  · go_enter Tryd.func27, Tryd.ntmps27
    go_wp2_with (go_at_call 31; refine (point_yes h _).mono ?_; rintro e w' ⟨rfl, rfl⟩)
    go_ret2
    exact ⟨by rw [szP_1 h1]; rfl, rfl⟩
  · by_cases h2 : x < 2048
    · go_enter Tryd.func27, Tryd.ntmps27
      go_wp2_with (go_at_call 31; refine (point_yes h _).mono ?_; rintro e w' ⟨rfl, rfl⟩)
      go_ret2
      exact ⟨by rw [szP_2 (by omega) h2]; rfl, rfl⟩
    · by_cases h3 : x < 65536
      · go_enter Tryd.func27, Tryd.ntmps27
        go_wp2_with (go_at_call 31; refine (point_yes h _).mono ?_; rintro e w' ⟨rfl, rfl⟩)
        go_ret2
        exact ⟨by rw [szP_3 (by omega) h3]; rfl, rfl⟩
      · go_enter Tryd.func27, Tryd.ntmps27
        go_wp2_with (go_at_call 31; refine (point_yes h _).mono ?_; rintro e w' ⟨rfl, rfl⟩)
        go_ret2
        exact ⟨by rw [szP_4 (by omega)]; rfl, rfl⟩

theorem tail_any (x : Int) (h0 : 0 ≤ x) (w : World) :
    Calls Tryd.prog 50 #[.int .i64 x] w fun e w' => e = .returned (.int .u8 (128 + x % 64)) ∧ w = w' := by
  have h1 : 0 ≤ x % 64 := by omega
  have h2 : x % 64 < 64 := by omega
  go_enter Tryd.func50, Tryd.ntmps50
  go_wp2
  go_ret
  exact ⟨rfl, rfl⟩

theorem pair_yes (h l : Int) (k : 55296 ≤ h ∧ h < 56320 ∧ 56320 ≤ l ∧ l ≤ 57343) (w : World) :
    Calls Tryd.prog 29 #[.int .i64 h, .int .i64 l] w fun e w' => e = .returned (.tuple #[.int .i64 (65536 + 1024 * (h - 55296) + l - 56320), .int .i64 0]) ∧ w = w' := by
  obtain ⟨h1, h2, h3, h4⟩ := k
  go_enter Tryd.func29, Tryd.ntmps29
  go_wp2
  go_ret2
  exact ⟨rfl, rfl⟩
theorem pair_no (h l : Int) (k : ¬ (55296 ≤ h ∧ h < 56320 ∧ 56320 ≤ l ∧ l ≤ 57343)) (w : World) :
    Calls Tryd.prog 29 #[.int .i64 h, .int .i64 l] w fun e w' => e = .returned (.tuple #[.int .i64 0, .int .i64 2]) ∧ w = w' := by
  by_cases h1 : h < 55296
  · clear k
    go_enter Tryd.func29, Tryd.ntmps29
    go_wp2
    go_ret2
    exact ⟨rfl, rfl⟩
  · by_cases h2 : 56320 ≤ h
    · clear k
      go_enter Tryd.func29, Tryd.ntmps29
      go_wp2
      go_ret2
      exact ⟨rfl, rfl⟩
    · by_cases h3 : l < 56320
      · clear k
        go_enter Tryd.func29, Tryd.ntmps29
        go_wp2
        go_ret2
        exact ⟨rfl, rfl⟩
      · have h4 : 57343 < l := by omega
        clear k
        go_enter Tryd.func29, Tryd.ntmps29
        go_wp2
        go_ret2
        exact ⟨rfl, rfl⟩

theorem split_yes (x : Int) (h1 : 65536 ≤ x) (h2 : x ≤ 1114111) (w : World) :
    Calls Tryd.prog 30 #[.int .i64 x] w fun e w' => e = .returned (.tuple #[.int .i64 (55296 + (x - 65536) / 1024), .int .i64 (56320 + (x - 65536) % 1024), .int .i64 0]) ∧ w = w' := by
  have a0 : 0 ≤ x - 65536 := by omega
  have a1 : (x - 65536) / 1024 < 1024 := by omega
  have a2 : 0 ≤ (x - 65536) / 1024 := by omega
  have a3 : (x - 65536) % 1024 < 1024 := by omega
  have a4 : 0 ≤ (x - 65536) % 1024 := by omega
  go_enter Tryd.func30, Tryd.ntmps30
  go_wp2
  go_ret3
  exact ⟨rfl, rfl⟩
theorem split_no (x : Int) (h : x < 65536 ∨ 1114111 < x) (w : World) :
    Calls Tryd.prog 30 #[.int .i64 x] w fun e w' => e = .returned (.tuple #[.int .i64 0, .int .i64 0, .int .i64 2]) ∧ w = w' := by
  by_cases h1 : x < 65536
  · clear h
    go_enter Tryd.func30, Tryd.ntmps30
    go_wp2
    go_ret3
    exact ⟨rfl, rfl⟩
  · have h2 : 1114111 < x := by omega
    clear h
    go_enter Tryd.func30, Tryd.ntmps30
    go_wp2
    go_ret3
    exact ⟨rfl, rfl⟩
end Go.Proofs.YtdgpbminmlpebaaDoor
