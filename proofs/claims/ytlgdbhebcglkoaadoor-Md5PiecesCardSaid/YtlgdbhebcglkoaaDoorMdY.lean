/-
  Digests that are none.
-/
import Derived.Test.YtlgdbhebcglkoaaDoorMdX
namespace Go.Proofs.YtlgdbhebcglkoaaDoor
open Go.RowKit Go.Shelf
theorem none_nil (w : World) : Calls Tryd.prog 37 #[.pointer none] w fun e w' => e = .returned (.bool true) ∧ w = w' := by
  go_enter Tryd.func37, Tryd.ntmps37
  go_wp2_with fail
  go_ret
  exact ⟨rfl, rfl⟩
theorem none_zero (g : Nat) (w : World) (h0 : w.cell? ⟨g, 0, none⟩ = some (.int .u32 0)) (h1 : w.cell? ⟨g, 1, none⟩ = some (.int .u32 0)) (h2 : w.cell? ⟨g, 2, none⟩ = some (.int .u32 0)) (h3 : w.cell? ⟨g, 3, none⟩ = some (.int .u32 0)) (h68 : w.cell? ⟨g, 68, none⟩ = some (.int .i64 0)) :
    Calls Tryd.prog 37 #[.pointer (some ⟨g, 0, none⟩)] w fun e w' => e = .returned (.bool true) ∧ w = w' := by
  have hez := eq_zero
  unfold z4 at hez
  go_enter Tryd.func37, Tryd.ntmps37
  go_wp2_with fail
  go_ret
  exact ⟨rfl, rfl⟩
section
variable {p : Option Addr} {w : World}
theorem len_none (C : ∀ W, Kept w W → Calls Tryd.prog 37 #[.pointer p] W fun e w' => e = .returned (.bool true) ∧ W = w') (W : World) (h : Kept w W) :
    Calls Tryd.prog 22 #[.pointer p] W fun e w' => e = .returned (.int .i64 0) ∧ Kept W w' := by
  have C := Lib.hid (C W h)
  go_enter Tryd.func22, Tryd.ntmps22
  go_wp2_with (go_at_call 37; refine C.out.mono ?_; rintro e w1 ⟨rfl, rfl⟩)
  go_ret
  exact ⟨rfl, Below.refl _ _⟩
theorem reset_none (C : ∀ W, Kept w W → Calls Tryd.prog 37 #[.pointer p] W fun e w' => e = .returned (.bool true) ∧ W = w') (W : World) (h : Kept w W) :
    Calls Tryd.prog 18 #[.pointer p] W fun e w' => e = .returned (.int .i64 1) ∧ Kept W w' := by
  have C := Lib.hid (C W h)
  go_enter Tryd.func18, Tryd.ntmps18
  go_wp2_with (go_at_call 37; refine C.out.mono ?_; rintro e w1 ⟨rfl, rfl⟩)
  go_ret
  exact ⟨rfl, Below.refl _ _⟩
theorem sum_none (C : ∀ W, Kept w W → Calls Tryd.prog 37 #[.pointer p] W fun e w' => e = .returned (.bool true) ∧ W = w') (W : World) (h : Kept w W) :
    Calls Tryd.prog 20 #[.pointer p] W fun e w' => e = .returned (.tuple #[.agg z16, .int .i64 1]) ∧ Kept W w' := by
  have C := Lib.hid (C (W.alloc (.cells z16 30)) (below_alloc0 h _))
  go_enter Tryd.func20, Tryd.ntmps20
  go_wp2_with (first
    | (go_at_call 37; refine C.out.mono ?_; rintro e w1 ⟨rfl, rfl⟩)
    | ((refine wpList_store_row ?c0 30 (.tmp 2) (.tmp 6) ?c1 W.heap.size z16 ?c2 ?c3 _ _ (heap_alloc_new W _) ?c4 ?c5 ?c6 ?_); (case c0 => with_reducible rfl); (case c1 => with_reducible rfl); (case c2 => rfl); (case c3 => rfl); (case c4 => exact size16b); (case c5 => rfl); (case c6 => simp [Value.oneCell'])))
  exact bodyPost_ret (results_row_tmp Tryd.results20 _ _ W.heap.size _ z16 (0, 0) _ rfl (setRow_heap _ _ _ _ _ _ (heap_alloc_new W _)) Tryd.underlying30 rfl size16b) rfl ⟨rfl, below_setRow ((Below.refl _ W).alloc (Nat.le_refl _) _) (Nat.le_refl _) _⟩
theorem write_none (C : ∀ W, Kept w W → Calls Tryd.prog 37 #[.pointer p] W fun e w' => e = .returned (.bool true) ∧ W = w') (A : Option Addr) (n c : Nat) (W : World) (h : Kept w W) :
    Calls Tryd.prog 19 #[.pointer p, .slice A n c] W fun e w' => e = .returned (.int .i64 1) ∧ Kept W w' := by
  have C := Lib.hid (C (W.alloc (.cells #[.pointer p] 33)) (below_alloc0 h _))
  go_enter Tryd.func19, Tryd.ntmps19
  go_wp2_with (go_at_call 37; refine C.out.mono ?_; rintro e w1 ⟨rfl, rfl⟩)
  go_ret
  exact ⟨rfl, (Below.refl _ W).alloc (Nat.le_refl _) _⟩
end
/-- A digest's zero value. -/
def z69 : Array Value := #[Value.int .u32 0, .int .u32 0, .int .u32 0, .int .u32 0] ++ Array.replicate 64 (.int .u8 0) ++ #[.int .i64 0]
theorem zinfo : (Tryd.prog.info? 50).map (·.zero) = some (some (.agg z69)) := by kernel_rfl
theorem zrun (W : World) : (zeroValue 50).run Tryd.prog W = .ok (.agg z69) W := by
  rcases hi : Tryd.prog.info? 50 with _ | i
  · have := zinfo; rw [hi] at this; cases this
  · have h := zinfo
    rw [hi] at h
    have hz : i.zero = some _ := Option.some.inj h
    simp only [zeroValue, typeInfo, Sem.run_bind]
    simp [hi, hz]
end Go.Proofs.YtlgdbhebcglkoaaDoor
