/-
  The walk of Md5Texts.
-/
import Derived.Test.YtlgdbhebcglkoaaDoorMdT
namespace Go.Proofs.YtlgdbhebcglkoaaDoor
open Go.RowKit Go.Shelf
set_option maxRecDepth 100000 in
set_option maxHeartbeats 2000000 in
theorem md5texts_walk (D : List Int) (hl : D.length = 16) (hb : Bts D) (s : ByteArray) (w : World) (hT : Tab w) :
    Calls Tryd.prog 5 #[.agg (u8s D).toArray, .string s] w fun e w' => e = .returned (.bool true) ∧ Below w.heap.size w w' := by
  have CT := Lib.hid (fun W => texts_any D hl hb s W)
  have Hsz : Hid ((Tryd.prog.info? 30).map (·.size) = some (u8s D).toArray.size) := by show _ = _; rw [List.size_toArray, u8s_length, hl]; exact size16b
  generalize (u8s D).toArray = L at *
  have HT := Lib.hid hT
  clear hl hb hT
  by_cases hs : (200 : Int) < (s.size : Int)
  · go_enter Tryd.func5, Tryd.ntmps5
    have hB0 := Lib.hid ((Below.refl w.heap.size w).alloc (Nat.le_refl _) (.cells L 30))
    go_wp2_with (go_at_call 14; refine (awake_any _ (HT.out.below hB0.out)).mono ?_; rintro e w1 ⟨rfl, hb1⟩; have HB1 := Lib.hid (hB0.out.trans (hb1.mono hB0.out.size)); clear hb1)
    go_ret
    exact ⟨rfl, HB1.out⟩
  · go_enter Tryd.func5, Tryd.ntmps5
    have hB0 := Lib.hid ((Below.refl w.heap.size w).alloc (Nat.le_refl _) (.cells L 30))
    go_wp2_with (first
      | ((refine wpList_load_row ?c0 30 (.tmp 2) ?c1 w.heap.size ?c2 30 L (0, 0) _ (heap_alloc_new w _) Tryd.underlying30 ?c3 Hsz.out ?_); (case c0 => with_reducible rfl); (case c1 => with_reducible rfl); (case c2 => rfl); (case c3 => rfl))
      | (go_at_call 16; refine (CT.out _).mono ?_; rintro e w1 ⟨rfl, hb1⟩; have HB1 := Lib.hid (hB0.out.trans (hb1.mono hB0.out.size)); clear hb1)
      | (go_at_call 14; refine (awake_any _ (HT.out.below HB1.out)).mono ?_; rintro e w2 ⟨rfl, hb2⟩; have HB2 := Lib.hid (HB1.out.trans (hb2.mono HB1.out.size)); clear hb2))
    go_ret
    exact ⟨rfl, HB2.out⟩
end Go.Proofs.YtlgdbhebcglkoaaDoor
