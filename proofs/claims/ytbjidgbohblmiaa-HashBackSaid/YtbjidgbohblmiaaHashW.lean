/-
  The examples of the chapter of package hash come out as they should, in every world.
-/
import Derived.Test.YtbjidgbohblmiaaHashF
namespace Go.Proofs.Ytbjidgbohblmiaa
open Go.RowKit

theorem zeros_c (h : BitVec 64) (n : Nat) (x m r : Int) (hx : (h.toNat : Int) = x) (hm : (n : Int) = m) (hr : ((h * pw n).toNat : Int) = r) (hn : n ≤ 9223372036854775807) (w : World) :
    Calls Try.prog 22 #[.int .u64 x, .int .i64 m] w fun e w' => e = .returned (.tuple #[.int .u64 r, .int .i64 0]) ∧ Below w.heap.size w w' := by
  subst hx hm hr; exact zeros_yes h n hn w
theorem modulo_c (h : BitVec 64) (n : Int) (x r : Int) (hx : (h.toNat : Int) = x) (hr : (h.toNat : Int) % n = r) (h1 : 1 ≤ n) (h2 : n ≤ 9223372036854775807) (w : World) :
    Calls Try.prog 26 #[.int .u64 x, .int .i64 n] w fun e w' => e = .returned (.tuple #[.int .i64 r, .int .i64 0]) ∧ w = w' := by
  subst hx hr; exact modulo_yes h n h1 h2 w
theorem sum_c (s : ByteArray) (r : Int) (hr : ((addL Of s.data.toList).toNat : Int) = r) (hs : s.size ≤ 1000) (w : World) :
    Calls Try.prog 20 #[.string s] w fun e w' => e = .returned (.int .u64 r) ∧ Below w.heap.size w w' := by
  subst hr; exact sum_any s (by omega) w
theorem add_c (h : BitVec 64) (s : ByteArray) (x r : Int) (hx : (h.toNat : Int) = x) (hr : ((addL h s.data.toList).toNat : Int) = r) (hs : s.size ≤ 9223372036854775807) (w : World) :
    Calls Try.prog 18 #[.int .u64 x, .string s] w fun e w' => e = .returned (.int .u64 r) ∧ Below w.heap.size w w' := by
  subst hx hr; exact add_any h s hs w
theorem back_c (h : BitVec 64) (s : ByteArray) (x r : Int) (hx : (h.toNat : Int) = x) (hr : ((backL h s.data.toList).toNat : Int) = r) (hs : s.size ≤ 9223372036854775807) (w : World) :
    Calls Try.prog 19 #[.int .u64 x, .string s] w fun e w' => e = .returned (.int .u64 r) ∧ Below w.heap.size w w' := by
  subst hx hr; exact back_any h s hs w
theorem last_c (a b : BitVec 64) (x y r : Int) (hx : (a.toNat : Int) = x) (hy : (b.toNat : Int) = y) (hr : ((lst a b).toNat : Int) = r) (h : r ≤ 255) (w : World) :
    Calls Try.prog 23 #[.int .u64 x, .int .u64 y] w fun e w' => e = .returned (.tuple #[.int .u8 r, .int .i64 0]) ∧ w = w' := by
  subst hx hy hr; exact last_yes a b h w
theorem text_c (h : BitVec 64) (x : Int) (s : ByteArray) (hx : (h.toNat : Int) = x) (hr : strOfNums (txt h.toNat) = s) (w : World) :
    Calls Try.prog 24 #[.int .u64 x] w fun e w' => e = .returned (.string s) ∧ Below w.heap.size w w' := by
  subst hx hr; exact text_any h w

def sFoobar : ByteArray := ⟨#[102, 111, 111, 98, 97, 114]⟩
theorem hwv1 : ((addL Of (⟨#[97]⟩ : ByteArray).data.toList).toNat : Int) = 12638187200555641996 := by kernel_rfl
theorem hwv2 : ((addL Of (⟨#[]⟩ : ByteArray).data.toList).toNat : Int) = 14695981039346656037 := by kernel_rfl
theorem hwv3 : ((addL Of (⟨#[102, 111, 111, 98, 97, 114]⟩ : ByteArray).data.toList).toNat : Int) = 9625390261332436968 := by kernel_rfl
theorem hwv4 : ((addL Of (⟨#[102, 111, 111]⟩ : ByteArray).data.toList).toNat : Int) = 15902901984413996407 := by kernel_rfl
theorem hwv5 : ((addL 15902901984413996407#64 (⟨#[98, 97, 114]⟩ : ByteArray).data.toList).toNat : Int) = 9625390261332436968 := by kernel_rfl
theorem hwv6 : ((backL 9625390261332436968#64 (⟨#[98, 97, 114]⟩ : ByteArray).data.toList).toNat : Int) = 15902901984413996407 := by kernel_rfl
theorem hwv7 : ((lst Of 12638187200555641996#64).toNat : Int) = 97 := by kernel_rfl
theorem hwv8 : strOfNums (txt (255#64).toNat) = ⟨#[48, 48, 48, 48, 48, 48, 48, 48, 48, 48, 48, 48, 48, 48, 102, 102]⟩ := by kernel_rfl
theorem hwv9 : ((1#64 * pw 1).toNat : Int) = 1099511628211 := by kernel_rfl

set_option maxRecDepth 100000 in
set_option maxHeartbeats 4000000 in
theorem hawake_any (w : World) : Calls Try.prog 15 #[] w fun e w' => e = .returned (.bool true) ∧ Below w.heap.size w w' := by
  go_enter Try.func15, Try.ntmps15
  go_wp2_with fail
  refine (zeros_c 1#64 1 _ _ _ rfl rfl hwv9 (by decide) _).mono ?_
  rintro e w1 ⟨rfl, hb1⟩
  have hB1 : Below w.heap.size w w1 := hb1
  go_wp2_with fail
  refine (modulo_c 100#64 7 _ 2 rfl rfl (by decide) (by decide) _).mono ?_
  rintro e w' ⟨rfl, rfl⟩
  go_wp2_with fail
  refine (sum_c _ _ hwv1 (by decide) _).mono ?_
  rintro e w2 ⟨rfl, hb2⟩
  have hB2 := hB1.trans (hb2.mono hB1.size)
  clear hb2 hB1 hb1
  go_wp2_with fail
  refine (last_c Of 12638187200555641996#64 _ _ _ rfl rfl hwv7 (by decide) _).mono ?_
  rintro e w' ⟨rfl, rfl⟩
  go_wp2_with fail
  refine (sum_c _ _ hwv2 (by decide) _).mono ?_
  rintro e w3 ⟨rfl, hb3⟩
  have hB3 := hB2.trans (hb3.mono hB2.size)
  clear hb3 hB2
  go_wp2_with fail
  refine (sum_c _ _ hwv1 (by decide) _).mono ?_
  rintro e w4 ⟨rfl, hb4⟩
  have hB4 := hB3.trans (hb4.mono hB3.size)
  clear hb4 hB3
  go_wp2_with fail
  refine (sum_c _ _ hwv3 (by decide) _).mono ?_
  rintro e w5 ⟨rfl, hb5⟩
  have hB5 := hB4.trans (hb5.mono hB4.size)
  clear hb5 hB4
  go_wp2_with fail
  refine (sum_c _ _ hwv4 (by decide) _).mono ?_
  rintro e w6 ⟨rfl, hb6⟩
  have hB6 := hB5.trans (hb6.mono hB5.size)
  clear hb6 hB5
  go_wp2_with fail
  refine (add_c 15902901984413996407#64 _ _ _ rfl hwv5 (by decide) _).mono ?_
  rintro e w7 ⟨rfl, hb7⟩
  have hB7 := hB6.trans (hb7.mono hB6.size)
  clear hb7 hB6
  go_wp2_with fail
  refine (sum_c _ _ hwv3 (by decide) _).mono ?_
  rintro e w8 ⟨rfl, hb8⟩
  have hB8 := hB7.trans (hb8.mono hB7.size)
  clear hb8 hB7
  go_wp2_with fail
  refine (sum_c _ _ hwv3 (by decide) _).mono ?_
  rintro e w9 ⟨rfl, hb9⟩
  have hB9 := hB8.trans (hb9.mono hB8.size)
  clear hb9 hB8
  go_wp2_with fail
  refine (back_c 9625390261332436968#64 _ _ _ rfl hwv6 (by decide) _).mono ?_
  rintro e w10 ⟨rfl, hb10⟩
  have hB10 := hB9.trans (hb10.mono hB9.size)
  clear hb10 hB9
  go_wp2_with fail
  refine (sum_c _ _ hwv4 (by decide) _).mono ?_
  rintro e w11 ⟨rfl, hb11⟩
  have hB11 := hB10.trans (hb11.mono hB10.size)
  clear hb11 hB10
  go_wp2_with fail
  refine (text_c 255#64 _ _ rfl hwv8 _).mono ?_
  rintro e w12 ⟨rfl, hb12⟩
  have hB12 := hB11.trans (hb12.mono hB11.size)
  go_wp2_with fail
  go_ret
  exact ⟨rfl, hB12⟩
end Go.Proofs.Ytbjidgbohblmiaa
