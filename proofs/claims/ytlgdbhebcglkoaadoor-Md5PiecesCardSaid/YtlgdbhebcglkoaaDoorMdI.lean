/-
  What Sum and Word of package md5 compute.
-/
import Derived.Test.YtlgdbhebcglkoaaDoorMdH
namespace Go.Proofs.YtlgdbhebcglkoaaDoor
open Go.RowKit Go.Shelf
/-- The digest of bytes. -/
def sumL (P : List Int) : List Int := dig (runB st0 (allY (P ++ padL P.length)))
theorem sumL_length (P : List Int) : (sumL P).length = 16 := dig_length _
theorem dig_bts (s : St) : Bts (dig s) := by
  intro c hc
  obtain ⟨i, _, rfl⟩ := List.mem_map.1 hc
  omega
theorem size16b : (Tryd.prog.info? 30).map (·.size) = some 16 := by kernel_rfl
theorem splice_all (old L : List Value) (h : L.length = old.length) : splice old 0 L = L := by
  unfold splice
  rw [List.take_zero, List.nil_append, List.drop_of_length_le (by omega), List.append_nil]
theorem finish_any (s : St) (A : Option Addr) (m cc n : Nat) (P : List Int) (hP : Bts P) (hmn : m % 64 = n % 64) (hm : m ≤ 70368744177664) (hn : n ≤ 70368744177664) (hcc : m ≤ cc) (w : World) (hr : Rd w w.heap.size A m (u8s P)) (hT : Tab w) :
    Calls Tryd.prog 41 #[.agg (vals s), .slice A m cc, .int .i64 (n : Int)] w fun e w' => e = .returned (.agg (u8s (dig (runB s (allY (P ++ padL n))))).toArray) ∧ Below w.heap.size w w' :=
  callsIn_wide.1 (finish_in 6 (Nat.le_refl _) s.1 s.2.1 s.2.2.1 s.2.2.2 A m cc n P hP hmn hm hn hcc w hr hT)
set_option maxRecDepth 100000 in
set_option maxHeartbeats 2000000 in
theorem sum_any (A : Option Addr) (m cc : Nat) (P : List Int) (hP : Bts P) (hm : m ≤ 70368744177664) (hcc : m ≤ cc) (w : World) (hr : Rd w w.heap.size A m (u8s P)) (hT : Tab w) :
    Calls Tryd.prog 24 #[.slice A m cc] w fun e w' => e = .returned (.agg (u8s (sumL P)).toArray) ∧ Below w.heap.size w w' := by
  have hl : P.length = m := by have := hr.1; rwa [u8s_length] at this
  have C0 := Lib.hid fun W hr hT => finish_any st0 A m cc m P hP rfl hm hm hcc W hr hT
  have hsum : dig (runB st0 (allY (P ++ padL m))) = sumL P := by rw [sumL, hl]
  rw [hsum, v0_vals] at C0
  have hlen : (u8s (sumL P)).length = 16 := by rw [u8s_length, sumL_length]
  have hone := u8s_one (sumL P)
  generalize u8s (sumL P) = L at C0 hlen hone ⊢
  have Hone := Lib.hid hone
  have Hlen := Lib.hid hlen
  have Hr := Lib.hid hr
  have HT := Lib.hid hT
  clear hsum hl hP hone hlen hr hT
  have Hsz : Hid ((Tryd.prog.info? 30).map (·.size) = some L.toArray.size) := by show _ = _; rw [List.size_toArray, Hlen.out]; exact size16b
  have Hszl : Hid ((Tryd.prog.info? 30).map (·.size) = some L.length) := by show _ = _; rw [Hlen.out]; exact size16b
  go_enter Tryd.func24, Tryd.ntmps24
  have hB0 : Below w.heap.size w (w.alloc (.cells z16 30)) := (Below.refl _ w).alloc (Nat.le_refl _) _
  have hR0 : (w.alloc (.cells z16 30)).heap[w.heap.size]? = some (.cells z16 30 (0, 0)) := heap_alloc_new _ _
  have HB0 := Lib.hid hB0
  have HR0 := Lib.hid hR0
  clear hB0 hR0
  go_wp2_with (first
    | (go_at_call 26; refine (start_any _).mono ?_; rintro e w1 ⟨rfl, hb1⟩; have hB1 := HB0.out.trans (hb1.mono (by simp)); have HB1 := Lib.hid hB1; have HR1 := Lib.hid ((hb1.block _ (by simp)).trans HR0.out); clear hB1 hb1)
    | (go_at_call 41; refine (C0.out _ ((Hr.out.below HB1.out).more HB1.out.size) (HT.out.below HB1.out)).mono ?_; rintro e w2 ⟨rfl, hb2⟩; have HB2 := Lib.hid (HB1.out.trans (hb2.mono HB1.out.size)); have HR2 := Lib.hid ((hb2.block _ (Array.getElem?_eq_some_iff.1 HR1.out).1).trans HR1.out); clear hb2)
    | (refine wpList_store_at rfl 30 (.tmp 2) (.tmp 7) rfl w.heap.size 0 L rfl rfl 30 z16.toList HR2.out Hszl.out ?c1 Hone.out ?_; (case c1 => rw [Hlen.out]; decide)))
  rw [splice_all _ _ (by rw [Hlen.out]; rfl)]
  exact bodyPost_ret (results_cell_row Tryd.results24 _ _ w.heap.size _ L.toArray (0, 0) _ rfl (setRow_heap _ _ _ _ _ _ HR2.out) Tryd.underlying30 rfl Hsz.out) rfl ⟨rfl, below_setRow HB2.out (Nat.le_refl _) _⟩
end Go.Proofs.YtlgdbhebcglkoaaDoor
