/-
  The walk of Md5Tells.
-/
import Derived.Test.YtlgdbhebcglkoaaDoorMdTells
namespace Go.Proofs.YtlgdbhebcglkoaaDoor
open Go.RowKit Go.Shelf
set_option maxRecDepth 100000 in
set_option maxHeartbeats 2000000 in
theorem md5tells_walk (st : St) (A0 : Option Addr) (k c0 : Nat) (P : List Int) (hP : Bts P) (hkc : k ≤ c0) (hc : c0 ≤ maxLen) (n : Nat) (hn : n < 18446744073709551616) (w : World) (hr0 : Rd w w.heap.size A0 k (u8s P)) (hT : Tab w) :
    Calls Tryd.prog 3 #[.agg (vals st), .slice A0 k c0, .int .u64 (n : Int)] w fun e w' => e = .returned (.bool true) ∧ Below w.heap.size w w' := by
  obtain ⟨a, b, c, d⟩ := st
  show Calls _ _ #[.agg #[V a, V b, V c, V d], _, _] _ _
  unfold maxLen at hc
  have HT := Lib.hid hT
  have hB := (Below.refl w.heap.size w).alloc (Nat.le_refl _) (.cells #[V a, V b, V c, V d] 24)
  have Hr := Lib.hid (rd_kept (show Kept w _ from hB) hr0)
  have HB := Lib.hid hB
  have HP := Lib.hid hP
  clear hT hB hr0 hP
  by_cases hk : (1000 : Int) < (k : Int)
  · go_enter Tryd.func3, Tryd.ntmps3
    go_wp2_with (go_at_call 14; refine (awake_any _ (HT.out.below HB.out)).mono ?_; rintro e w1 ⟨rfl, hb1⟩; have HB1 := Lib.hid (HB.out.trans (hb1.mono HB.out.size)); clear hb1)
    go_ret
    exact ⟨rfl, HB1.out⟩
  · go_enter Tryd.func3, Tryd.ntmps3
    go_wp2_with (first
      | (refine wpList_load_if ?c0 24 (.tmp 3) ?c1 w.heap.size ?c2 24 #[V a, V b, V c, V d] _ (heap_alloc_new w _) Tryd.underlying24 ?c3 size4 ?_; (case c0 => rfl); (case c1 => with_reducible rfl); (case c2 => rfl); (case c3 => rfl))
      | (go_at_call 13; refine (tells_any a b c d A0 k c0 P HP.out (by omega) hkc n hn _ Hr.out (HT.out.below HB.out)).mono ?_; rintro e w1 ⟨rfl, hb1⟩; have HB1 := Lib.hid (HB.out.trans (hb1.mono HB.out.size)); clear hb1)
      | (go_at_call 14; refine (awake_any _ (HT.out.below HB1.out)).mono ?_; rintro e w2 ⟨rfl, hb2⟩; have HB2 := Lib.hid (HB1.out.trans (hb2.mono HB1.out.size)); clear hb2))
    go_ret
    exact ⟨rfl, HB2.out⟩
end Go.Proofs.YtlgdbhebcglkoaaDoor
