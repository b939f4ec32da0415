/-
  The examples of the chapter come out as they should, in every world that holds the tables.
-/
import Derived.Test.YtlgdbhebcglkoaaDoorMdK
import Derived.Deep.Cut
import Derived.Lib.SlBytesConst
namespace Go.Proofs.YtlgdbhebcglkoaaDoor
open Go.RowKit Go.Shelf
set_option maxRecDepth 100000 in
theorem x_nil : strOfNums (tx (sumL [])) = ⟨#[100, 52, 49, 100, 56, 99, 100, 57, 56, 102, 48, 48, 98, 50, 48, 52, 101, 57, 56, 48, 48, 57, 57, 56, 101, 99, 102, 56, 52, 50, 55, 101]⟩ := by kernel_rfl
set_option maxRecDepth 100000 in
theorem x_a : strOfNums (tx (sumL [97])) = ⟨#[48, 99, 99, 49, 55, 53, 98, 57, 99, 48, 102, 49, 98, 54, 97, 56, 51, 49, 99, 51, 57, 57, 101, 50, 54, 57, 55, 55, 50, 54, 54, 49]⟩ := by kernel_rfl
set_option maxRecDepth 100000 in
theorem x_abc : strOfNums (tx (sumL [97, 98, 99])) = ⟨#[57, 48, 48, 49, 53, 48, 57, 56, 51, 99, 100, 50, 52, 102, 98, 48, 100, 54, 57, 54, 51, 102, 55, 100, 50, 56, 101, 49, 55, 102, 55, 50]⟩ := by kernel_rfl
set_option maxRecDepth 100000 in
theorem x_word : wordL [] = 16825458760271544958 := by kernel_rfl
theorem x_pad : strOfNums (padL 55) = ⟨#[128, 184, 1, 0, 0, 0, 0, 0, 0]⟩ := by kernel_rfl
theorem row_rd (w : World) (g : Nat) (l : List Value) (t : TypeId) (fr : Nat × Nat) (h : w.heap[g]? = some (.cells l.toArray t fr)) (n : Nat) (hn : l.length = n) : Rd w w.heap.size (some ⟨g, 0, none⟩) n l :=
  ⟨hn, fun _ => ⟨_, rfl, (Array.getElem?_eq_some_iff.1 h).1, fun j u hu => by
    rw [add0, cell_of_row _ _ _ _ _ _ h]
    simpa using hu⟩⟩
/-- Sum of bytes, behind whatever went before. -/
theorem sum_at (w0 W : World) (hb : Below w0.heap.size w0 W) (hT : Tab w0) (A : Option Addr) (m cc : Nat) (P : List Int) (hP : Bts P) (hm : m ≤ 70368744177664) (hcc : m ≤ cc) (hr : Rd W W.heap.size A m (u8s P)) :
    Calls Tryd.prog 24 #[.slice A m cc] W fun e w' => e = .returned (.agg (u8s (sumL P)).toArray) ∧ Below w0.heap.size w0 w' :=
  (sum_any A m cc P hP hm hcc W hr (hT.below hb)).mono fun _ _ h => ⟨h.1, hb.trans (h.2.mono hb.size)⟩
theorem text_at (w0 W : World) (hb : Below w0.heap.size w0 W) (D : List Int) (hl : D.length = 16) (h : Bts D) :
    Calls Tryd.prog 23 #[.agg (u8s D).toArray] W fun e w' => e = .returned (.string (strOfNums (tx D))) ∧ Below w0.heap.size w0 w' :=
  (text_any D hl h W).mono fun _ _ h => ⟨h.1, hb.trans (h.2.mono hb.size)⟩
theorem word_at (w0 W : World) (hb : Below w0.heap.size w0 W) (hT : Tab w0) (A : Option Addr) (m cc : Nat) (P : List Int) (hP : Bts P) (hm : m ≤ 70368744177664) (hcc : m ≤ cc) (hr : Rd W W.heap.size A m (u8s P)) :
    Calls Tryd.prog 30 #[.slice A m cc] W fun e w' => e = .returned (.int .u64 (wordL P : Int)) ∧ Below w0.heap.size w0 w' :=
  (word_any A m cc P hP hm hcc W hr (hT.below hb)).mono fun _ _ h => ⟨h.1, hb.trans (h.2.mono hb.size)⟩
/-- Padding, and where it lies. -/
theorem pad_at (n q : Nat) (z : Int) (hz : (n : Int) = z) (hn : n ≤ 1099511627776) (hq : 72 - (n + 8) % 64 = q) (hq0 : 0 < q) (w : World) :
    Calls Tryd.prog 25 #[.int .i64 z] w fun e w' => ∃ g c, e = .returned (.tuple #[.slice (some ⟨g, 0, none⟩) q c, .int .i64 0]) ∧ Rd w' w'.heap.size (some ⟨g, 0, none⟩) q (u8s (padL n)) ∧ Below w.heap.size w w' := by
  subst hz
  refine (padding_yes n hn w).mono ?_
  rintro e w' ⟨v, rfl, hv, hb⟩
  rw [hq] at hv
  obtain ⟨A, c, rfl, hc⟩ := own_slice hv
  rcases hv.2 with ⟨h1, _⟩ | ⟨g, cap, cur, h1, h2, _⟩
  · injection h1 with h1 h3 h4; omega
  · injection h1 with h1 h3 h4
    subst h1
    exact ⟨g, c, rfl, Rd.of_own hv, hb⟩
set_option maxRecDepth 100000 in
set_option maxHeartbeats 2000000 in
theorem awake_any (w : World) (hT : Tab w) : Calls Tryd.prog 14 #[] w fun e w' => e = .returned (.bool true) ∧ Below w.heap.size w w' := by
  have P0 := Lib.hid (pad_at 0 64 0 rfl (by omega) rfl (by omega))
  have P1 := Lib.hid (pad_at 55 9 55 rfl (by omega) rfl (by omega))
  have P2 := Lib.hid (pad_at 56 72 56 rfl (by omega) rfl (by omega))
  have HT := Lib.hid hT
  clear hT
  go_enter Tryd.func14, Tryd.ntmps14
  go_upto_region 4 with (first
    | (go_at_call_of 25 (Value.int IntKind.i64 0); refine (P0.out _).mono ?_; rintro e w1 ⟨g0, k0, rfl, hr0, hb0⟩)
    | (go_at_call_of 25 (Value.int IntKind.i64 55); refine (P1.out _).mono ?_; rintro e w2 ⟨g1, k1, rfl, hr1, hb1⟩)
    | (go_at_call_of 25 (Value.int IntKind.i64 56); refine (P2.out _).mono ?_; rintro e w3 ⟨g2, k2, rfl, hr2, hb2⟩))
  have hb3 : Below w.heap.size w w3 := hb0.trans ((hb1.trans (hb2.mono hb1.size)).mono hb0.size)
  have hT3 := HT.out.below hb3
  have hr0' : Rd w3 w3.heap.size (some ⟨g0, 0, none⟩) 64 (u8s (padL 0)) := (hr0.below (hb1.trans (hb2.mono hb1.size))).more (Nat.le_trans hb1.size hb2.size)
  have hr1' : Rd w3 w3.heap.size (some ⟨g1, 0, none⟩) 9 (u8s (padL 55)) := (hr1.below hb2).more hb2.size
  have hcell : ∀ W, Below w3.heap.size w3 W → W.cell? ⟨g0, 0, none⟩ = some (.int .u8 128) := fun W h => by
    obtain ⟨ad, e, _, hc⟩ := (hr0'.below h).2 (by omega)
    cases e
    have := hc 0 _ (u8s_get _ 0 (by rw [padL_length]; omega))
    rw [add0] at this
    exact this
  have hconv : ∀ W, Below w3.heap.size w3 W → (convert 25 9 (.slice (some ⟨g1, 0, none⟩) 9 k1)).run Tryd.prog W = .ok (.string ⟨#[128, 184, 1, 0, 0, 0, 0, 0, 0]⟩) W := fun W h => by
    rw [← x_pad]
    exact conv_rd W _ g1 9 k1 (padL 55) (hr1'.below h)
  have S0 := Lib.hid (fun W h => sum_at w3 W h hT3 none 0 0 [] (fun _ h => by cases h) (by omega) (by omega) Rd.nil)
  have Sa := Lib.hid (fun W g fr (hg : W.heap[g]? = some (.cells #[Value.int .u8 97] 5 fr)) h => sum_at w3 W h hT3 (some ⟨g, 0, none⟩) 1 1 [97] (by intro c hc; obtain rfl := List.mem_singleton.1 hc; omega) (by omega) (by omega) (row_rd W g [Value.int .u8 97] _ _ hg 1 rfl))
  have Sb := Lib.hid (fun W g fr (hg : W.heap[g]? = some (.cells #[Value.int .u8 97, Value.int .u8 98, Value.int .u8 99] 5 fr)) h => sum_at w3 W h hT3 (some ⟨g, 0, none⟩) 3 3 [97, 98, 99] (by intro c hc; simp at hc; omega) (by omega) (by omega) (row_rd W g [Value.int .u8 97, Value.int .u8 98, Value.int .u8 99] _ _ hg 3 rfl))
  have T0 := Lib.hid (fun W h => text_at w3 W h (sumL []) (sumL_length _) (sumL_bts _))
  have Ta := Lib.hid (fun W h => text_at w3 W h (sumL [97]) (sumL_length _) (sumL_bts _))
  have Tb := Lib.hid (fun W h => text_at w3 W h (sumL [97, 98, 99]) (sumL_length _) (sumL_bts _))
  have Wd := Lib.hid (fun W h => word_at w3 W h hT3 none 0 0 [] (fun _ h => by cases h) (by omega) (by omega) Rd.nil)
  rw [x_nil] at T0
  rw [x_a] at Ta
  rw [x_abc] at Tb
  rw [x_word] at Wd
  generalize (u8s (sumL [])).toArray = L0 at S0 T0
  generalize (u8s (sumL [97])).toArray = La at Sa Ta
  generalize (u8s (sumL [97, 98, 99])).toArray = Lb at Sb Tb
  have HB3 := Lib.hid hb3
  have hB := Below.refl w3.heap.size w3
  have kc := fun (w : World) (C : Array Value) (n c : Nat) => Lib.run_convert_bytes_const (P := Tryd.prog) w 25 5 C n c Tryd.underlying25 Tryd.underlying5
  clear hb3 hT3 hr0' hr1' hr0 hr1 hr2 hb0 hb1 hb2 P0 P1 P2
  go_wp2_with (first
    | (go_at_call_of 24 (Value.slice none 0 0); refine (S0.out _ (by assumption)).mono ?_; rintro e w4 ⟨rfl, hb4⟩)
    | (go_at_call_of 24 (1 : Nat); refine (Sa.out _ _ _ (hnew _ rfl) (below_alloc0 (by assumption) _)).mono ?_; rintro e w4 ⟨rfl, hb4⟩)
    | (go_at_call_of 24 (3 : Nat); refine (Sb.out _ _ _ (hnew _ rfl) (below_alloc0 (by assumption) _)).mono ?_; rintro e w4 ⟨rfl, hb4⟩)
    | (go_at_call_of 23 L0; refine (T0.out _ (by assumption)).mono ?_; rintro e w4 ⟨rfl, hb4⟩)
    | (go_at_call_of 23 La; refine (Ta.out _ (by assumption)).mono ?_; rintro e w4 ⟨rfl, hb4⟩)
    | (go_at_call_of 23 Lb; refine (Tb.out _ (by assumption)).mono ?_; rintro e w4 ⟨rfl, hb4⟩)
    | (go_at_call 30; refine (Wd.out _ (by assumption)).mono ?_; rintro e w4 ⟨rfl, hb4⟩))
  go_ret
  exact ⟨rfl, HB3.out.trans (hb4.mono HB3.out.size)⟩
end Go.Proofs.YtlgdbhebcglkoaaDoor
