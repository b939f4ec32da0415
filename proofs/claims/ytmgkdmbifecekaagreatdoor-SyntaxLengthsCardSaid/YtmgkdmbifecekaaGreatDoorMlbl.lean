/-
  The law's examples. The law on lengths: its numbers.
-/
import Derived.Test.YtmgkdmbifecekaaGreatDoorSt9
import Derived.Test.YtmgkdmbifecekaaGreatDoorMlat
import Derived.Test.YtmgkdmbifecekaaGreatDoorSyM
set_option linter.all false
set_option linter.unusedSimpArgs false
set_option linter.unusedVariables false
set_option linter.unusedSectionVars false
namespace Go.Proofs.YtmgkdmbifecekaaGreatDoor
open Go.RowKit Go.Shelf
theorem nd_1 (W : World) : Calls Tryz.prog 19 #[.string (b8 [97, 124, 98, 99, 42])] W fun e w' => Kept W w' ∧ ∃ A1 c1 A2 c2, e = .returned (.tuple #[.agg #[.int .u8 4, .slice A1 0 c1, .int .i64 0, .int .i64 0, .bool false, .slice A2 2 c2], .int .i64 0]) ∧ NodeV w' tA1 (.agg #[.int .u8 4, .slice A1 0 c1, .int .i64 0, .int .i64 0, .bool false, .slice A2 2 c2]) := by
  refine (par_1 W).mono ?_
  intro e w' h
  obtain ⟨hk, A1, c1, A2, c2, rfl, hn⟩ := paPost_nd h
  exact ⟨hk, A1, c1, A2, c2, rfl, ⟨_, rfl, hn⟩⟩
/-- What lies behind the second one. -/
structure BF (w : World) (ad be ce : Addr) (B1 : Option Addr) (d1 d2 e1 : Nat) : Prop where
  a : ad.block < w.heap.size
  b : be.block < w.heap.size
  c : ce.block < w.heap.size
  g : w.cell? ad = some (.int .u8 6)
  r : ∀ j v, (#[.int .u8 5, .slice B1 0 d1, .int .i64 2, .int .i64 3, .bool true, .slice (some be) 1 d2] : Array Value)[j]? = some v → w.cell? ((ad.add 6).add j) = some v
  s : w.cell? (be.add 1) = some (.slice (some ce) 1 e1)
  x : w.cell? ce = some (.int .i64 120)
  y : w.cell? (ce.add 1) = some (.int .i64 120)
theorem BF.kept {w w' : World} {ad be ce : Addr} {B1 : Option Addr} {d1 d2 e1 : Nat} (h : BF w ad be ce B1 d1 d2 e1) (hk : Kept w w') : BF w' ad be ce B1 d1 d2 e1 :=
  ⟨Nat.lt_of_lt_of_le h.a hk.size, Nat.lt_of_lt_of_le h.b hk.size, Nat.lt_of_lt_of_le h.c hk.size, (Below.cell hk h.a).trans h.g, fun j v hv => (Below.cell hk (by rw [addBlock, addBlock]; exact h.a)).trans (h.r j v hv), (Below.cell hk (by rw [addBlock]; exact h.b)).trans h.s, (Below.cell hk h.c).trans h.x, (Below.cell hk (by rw [addBlock]; exact h.c)).trans h.y⟩
theorem nd_2 (W : World) : Calls Tryz.prog 19 #[.string (b8 [40, 97, 124, 41, 120, 123, 50, 44, 51, 125, 63])] W fun e w' => Kept W w' ∧ ∃ A1 c1 ad c2 be ce B1 d1 d2 e1, e = .returned (.tuple #[.agg #[.int .u8 3, .slice A1 0 c1, .int .i64 0, .int .i64 0, .bool false, .slice (some ad) 2 c2], .int .i64 0]) ∧ NodeV w' tA2 (.agg #[.int .u8 3, .slice A1 0 c1, .int .i64 0, .int .i64 0, .bool false, .slice (some ad) 2 c2]) ∧ BF w' ad be ce B1 d1 d2 e1 := by
  refine (par_2 W).mono ?_
  intro e w' h
  obtain ⟨hk, A1, c1, A2, c2, rfl, hn⟩ := paPost_nd h
  have hn2 := hn
  unfold NodeC at hn2
  obtain ⟨_, _, _, _, ee, _, _, ys, hys, hyc⟩ := hn2
  simp at ee
  obtain ⟨_, rfl, rfl⟩ := ee
  obtain ⟨ad, rfl, hab, _⟩ := hys.1.2 (by decide)
  obtain ⟨G1, f1, G2, f2, _, _, _, hg⟩ := node_cells hys hyc (k := 0) rfl
  obtain ⟨B1, d1, B2, d2, _, _, ⟨zs, hzs, hzc⟩, hr⟩ := node_cells hys hyc (k := 1) rfl
  obtain ⟨be, rfl, hbb, _⟩ := hzs.1.2 (by decide)
  obtain ⟨C1, e1, C2, e2, _, hset, _, hs⟩ := node_cells hzs hzc (k := 0) rfl
  obtain ⟨ce, x, rfl, hcb, hx, _, h0, h1⟩ := rdr_at hset (k := 0) (by decide)
  cases hx
  refine ⟨hk, A1, c1, ad, c2, be, ce, B1, d1, d2, e1, rfl, ⟨_, rfl, hn⟩, ⟨hab, hbb, hcb, ?_, ?_, ?_, ?_, ?_⟩⟩
  · have := hg 0 _ rfl
    rw [Nat.zero_mul, add_z, add_z] at this
    exact this
  · exact hr
  · have := hs 1 _ rfl
    rw [Nat.zero_mul, add_z] at this
    exact this
  · rw [Nat.zero_mul, add_z] at h0
    exact h0
  · rw [Nat.zero_mul, Nat.zero_add] at h1
    exact h1
theorem flat2 {α : Type} (f : α → List Value) (hf : ∀ x, (f x).length = 2) : ∀ (L : List α) (k : Nat) (x : α), L[k]? = some x → ∀ j v, (f x)[j]? = some v → (L.flatMap f)[k * 2 + j]? = some v
  | [], k, x, h => by simp at h
  | y :: L, 0, x, h => by
    intro j v hj
    simp at h
    subst h
    rw [List.flatMap_cons, Nat.zero_mul, Nat.zero_add, List.getElem?_append_left]
    · exact hj
    · exact (List.getElem?_eq_some_iff.1 hj).1
  | y :: L, k + 1, x, h => by
    intro j v hj
    have := flat2 f hf L k x (by simpa using h) j v hj
    rw [List.flatMap_cons, List.getElem?_append_right (by rw [hf]; omega), ← this]
    congr 1
    rw [hf]
    omega
def patC : List Value := pats.flatMap fun x => [.string (b8 x.1), .string (b8 x.2.1)]
def badC : List Value := bads.map fun l => .string (b8 l)
set_option maxRecDepth 100000 in
set_option maxHeartbeats 40000000 in
theorem awake_any (w : World) : Calls Tryz.prog 13 #[] w fun e w' => e = .returned (.bool true) ∧ Kept w w' := by
  go_enter Tryz.func13, Tryz.ntmps13
  go_wp2_with fail
  refine (nd_1 w).mono ?_
  rintro e w1 ⟨hk1, A1, c1, A2, c2, rfl, hn1⟩
  have HKa := Lib.hid hk1
  have HN1 := Lib.hid hn1
  obtain ⟨b1, hb1⟩ : ∃ b, b = w1.heap.size := ⟨_, rfl⟩
  obtain ⟨wa, hwa⟩ : ∃ x, x = w1.alloc (.cells #[.int .u8 4, .slice A1 0 c1, .int .i64 0, .int .i64 0, .bool false, .slice A2 2 c2] 25) := ⟨_, rfl⟩
  have hka : Kept w1 wa := by rw [hwa]; exact (Below.refl _ w1).alloc (Nat.le_refl _) _
  have H1 : Hid (wa.heap[b1]? = some (.cells #[.int .u8 4, .slice A1 0 c1, .int .i64 0, .int .i64 0, .bool false, .slice A2 2 c2] 25 (0, 0))) := by rw [hwa, hb1]; exact heap_alloc_new w1 _
  have HK1 := Lib.hid (below_kept hk1 hka)
  have CL := Lib.hid (len_1 _ wa (hn1.kept hka))
  clear hk1 hn1 HKa HN1 hka
  go_wp2_with fail
  rw [← hwa, ← hb1]
  clear hwa hb1
  refine CL.out.mono ?_
  rintro e w2 ⟨rfl, hk2⟩
  have H12 := Lib.hid (heap_kept hk2 H1.out)
  have HK2 := Lib.hid (below_kept HK1.out hk2)
  clear hk2 H1 HK1 CL
  go_wp2_with fail
  refine (nd_2 w2).mono ?_
  rintro e w3 ⟨hk3, A3, c3, ad, c4, be, ce, B1, d1, d2, e1, rfl, hn2, hbf⟩
  obtain ⟨b2, hb2⟩ : ∃ b, b = w3.heap.size := ⟨_, rfl⟩
  obtain ⟨wb, hwb⟩ : ∃ x, x = w3.alloc (.cells #[.int .u8 3, .slice A3 0 c3, .int .i64 0, .int .i64 0, .bool false, .slice (some ad) 2 c4] 25) := ⟨_, rfl⟩
  have hkb : Kept w3 wb := by rw [hwb]; exact (Below.refl _ w3).alloc (Nat.le_refl _) _
  have H2 : Hid (wb.heap[b2]? = some (.cells #[.int .u8 3, .slice A3 0 c3, .int .i64 0, .int .i64 0, .bool false, .slice (some ad) 2 c4] 25 (0, 0))) := by rw [hwb, hb2]; exact heap_alloc_new w3 _
  have H13 := Lib.hid (heap_kept (below_kept hk3 hkb) H12.out)
  have HK3 := Lib.hid (below_kept HK2.out (below_kept hk3 hkb))
  have HF := Lib.hid (hbf.kept hkb)
  have CM := Lib.hid (len_2 _ wb (hn2.kept hkb))
  clear hk3 hn2 hbf hkb H12 HK2
  go_wp2_with fail
  rw [← hwb, ← hb2]
  clear hwb hb2
  refine CM.out.mono ?_
  rintro e w4 ⟨rfl, hk4⟩
  have H14 := Lib.hid (heap_kept hk4 H13.out)
  have H24 := Lib.hid (heap_kept hk4 H2.out)
  have HK4 := Lib.hid (below_kept HK3.out hk4)
  have HF4 := Lib.hid (HF.out.kept hk4)
  clear hk4 H13 H2 HK3 HF CM
  have x0 := row_cells H14.out 0 _ rfl
  have x5 := row_cells H14.out 5 _ rfl
  have y0 := row_cells H24.out 0 _ rfl
  have y5 := row_cells H24.out 5 _ rfl
  rw [add0] at x0 x5 y0 y5
  have yg := HF4.out.g
  go_upto_region 7 with fail
  clear x0 x5 y0 yg H14
  go_upto_region 8 with (refine wpList_load_at rfl 25 (.tmp 98) rfl (ad.add 6) rfl #[.int .u8 5, .slice B1 0 d1, .int .i64 2, .int .i64 3, .bool true, .slice (some be) 1 d2] _ HF4.out.r Tryz.underlying25 rfl sizeNd ?_)
  clear y5 H24
  obtain ⟨w5, hw5⟩ : ∃ x, x = w4.alloc (.cells #[.int .u8 5, .slice B1 0 d1, .int .i64 2, .int .i64 3, .bool true, .slice (some be) 1 d2] 25) := ⟨_, rfl⟩
  have hk5 : Kept w4 w5 := by rw [hw5]; exact (Below.refl _ w4).alloc (Nat.le_refl _) _
  obtain ⟨b5, hb5⟩ : ∃ b, b = w4.heap.size := ⟨_, rfl⟩
  have H5 : Hid (w5.heap[b5]? = some (.cells #[.int .u8 5, .slice B1 0 d1, .int .i64 2, .int .i64 3, .bool true, .slice (some be) 1 d2] 25 (0, 0))) := by rw [hw5, hb5]; exact heap_alloc_new w4 _
  have HK5 := Lib.hid (below_kept HK4.out hk5)
  have hf5 := HF4.out.kept hk5
  rw [← hw5, ← hb5]
  have r0 := row_cells H5.out 0 _ rfl
  have r2 := row_cells H5.out 2 _ rfl
  have r3 := row_cells H5.out 3 _ rfl
  have r4 := row_cells H5.out 4 _ rfl
  have r5 := row_cells H5.out 5 _ rfl
  rw [add0] at r0 r2 r3 r4 r5
  have rs : w5.cell? ⟨be.block, be.off + 1, none⟩ = some (.slice (some ce) 1 e1) := hf5.s
  have rx := hf5.x
  have ry : w5.cell? ⟨ce.block, ce.off + 1, none⟩ = some (.int .i64 120) := hf5.y
  clear hw5 hb5 hk5 hf5 HF4 HK4
  go_upto_region 10 with fail
  clear r0 r2 r3 r4 r5 rs rx ry H5
  go_upto_block 0 with fail
  obtain ⟨b6, hb6⟩ : ∃ b, b = w5.heap.size := ⟨_, rfl⟩
  obtain ⟨w6, hw6⟩ : ∃ x, x = w5.alloc (.cells #[.string ⟨#[40, 63, 58, 97, 98, 41, 99]⟩, .string ⟨#[40, 63, 58, 97, 98, 41, 99]⟩, .string ⟨#[40, 63, 58, 97, 41, 98]⟩, .string ⟨#[97, 98]⟩, .string ⟨#[97, 123, 49, 44, 125]⟩, .string ⟨#[97, 43]⟩, .string ⟨#[92, 100, 123, 50, 44, 50, 125]⟩, .string ⟨#[91, 48, 45, 57, 93, 123, 50, 125]⟩, .string ⟨#[40, 63, 58, 97, 124, 98, 41, 63, 63]⟩, .string ⟨#[40, 63, 58, 97, 124, 98, 41, 63, 63]⟩, .string ⟨#[40, 97, 42, 41, 63]⟩, .string ⟨#[40, 97, 42, 41, 63]⟩] 74) := ⟨_, rfl⟩
  have hk6 : Kept w5 w6 := by rw [hw6]; exact (Below.refl _ w5).alloc (Nat.le_refl _) _
  have hpc : patC.toArray = #[.string ⟨#[40, 63, 58, 97, 98, 41, 99]⟩, .string ⟨#[40, 63, 58, 97, 98, 41, 99]⟩, .string ⟨#[40, 63, 58, 97, 41, 98]⟩, .string ⟨#[97, 98]⟩, .string ⟨#[97, 123, 49, 44, 125]⟩, .string ⟨#[97, 43]⟩, .string ⟨#[92, 100, 123, 50, 44, 50, 125]⟩, .string ⟨#[91, 48, 45, 57, 93, 123, 50, 125]⟩, .string ⟨#[40, 63, 58, 97, 124, 98, 41, 63, 63]⟩, .string ⟨#[40, 63, 58, 97, 124, 98, 41, 63, 63]⟩, .string ⟨#[40, 97, 42, 41, 63]⟩, .string ⟨#[40, 97, 42, 41, 63]⟩] := by kernel_rfl
  have H6 : Hid (w6.heap[b6]? = some (.cells patC.toArray 74 (0, 0))) := by rw [hw6, hb6, hpc]; exact heap_alloc_new w5 _
  have HK6 := Lib.hid (below_kept HK5.out hk6)
  rw [← hw6, ← hb6]
  clear hw6 hb6 hk6 hpc HK5
  go_wp2_with fail
  go_loopw [152] (fun v152 wr => ∃ k : Nat, k ≤ 6 ∧ v152 = .int .i64 k ∧ Hid (Kept w wr) ∧ Hid (wr.heap[b6]? = some (.cells patC.toArray 74 (0, 0)))) (fun v152 _ => 6 - (intOf v152).toNat)
  case atStart => exact ⟨0, Nat.zero_le _, rfl, HK6, H6⟩
  case round =>
    clear H6 HK6
    obtain ⟨k, hk, rfl, HKr, H6⟩ := hrel
    by_cases hk6 : k < 6
    · have hki : (k : Int) < 6 := by omega
      obtain ⟨x, hx⟩ : ∃ x, pats[k]? = some x := ⟨_, List.getElem?_eq_getElem (by show k < 6; exact hk6)⟩
      have HP := Lib.hid (pats_all x (List.mem_of_getElem? hx))
      have Hr : Hid (wr.rangeAt b6 (k * 2) [.string (b8 x.1), .string (b8 x.2.1)]) := by
        intro j v hv
        have h1 := flat2 (fun x : Bs × Bs × Tree => [.string (b8 x.1), .string (b8 x.2.1)]) (fun _ => rfl) pats k x hx j v hv
        have h2 := row_cells H6.out (k * 2 + j) v (by rw [← h1]; exact (List.getElem?_toArray ..))
        rw [add0] at h2
        exact h2
      obtain ⟨l, s, t⟩ := x
      dsimp only at HP Hr
      have hkk : k ≠ 6 := by omega
      clear hx hk6
      go_upto_region 13 with ((refine wpList_load_mid ?c0 74 (.tmp 154) ?c1 b6 (k * 2) ?c2 [.string (b8 l), .string (b8 s)] _ ?c4 Tryz.underlying74 ?c3 (by kernel_rfl) ?_); (case c0 => with_reducible rfl); (case c1 => with_reducible rfl); (case c2 => rfl); (case c3 => rfl); (case c4 => exact Hr.out))
      obtain ⟨b7, hb7⟩ : ∃ b, b = wr.heap.size := ⟨_, rfl⟩
      obtain ⟨w7, hw7⟩ : ∃ x, x = wr.alloc (.cells #[.string (b8 l), .string (b8 s)] 74) := ⟨_, rfl⟩
      have hk7 : Kept wr w7 := by rw [hw7]; exact (Below.refl _ wr).alloc (Nat.le_refl _) _
      have H7 : Hid (w7.heap[b7]? = some (.cells #[.string (b8 l), .string (b8 s)] 74 (0, 0))) := by rw [hw7, hb7]; exact heap_alloc_new wr _
      have HK7 := Lib.hid (below_kept HKr.out hk7)
      have H67 := Lib.hid (heap_kept hk7 H6.out)
      have c0 := row_cells H7.out 0 _ rfl
      rw [add0] at c0
      rw [← hw7, ← hb7]
      clear hw7 hb7 hk7 HKr H6 Hr
      go_wp2_with fail
      refine (HP.out.par w7).mono ?_
      rintro e w8 hp
      obtain ⟨kd, st, mn, mx, lz, us⟩ := t
      obtain ⟨hk8, A5, c5, A6, c6, rfl, hn8⟩ := paPost_nd hp
      obtain ⟨sn, hsn⟩ : ∃ n, n = st.length := ⟨_, rfl⟩
      obtain ⟨un, hun⟩ : ∃ n, n = us.length := ⟨_, rfl⟩
      rw [← hsn, ← hun] at hn8 ⊢
      obtain ⟨t, ht⟩ : ∃ t, t = Tree.mk kd st mn mx lz us := ⟨_, rfl⟩
      rw [← ht] at hn8 HP
      clear hsn hun ht hp c0
      obtain ⟨b9, hb9⟩ : ∃ b, b = w8.heap.size := ⟨_, rfl⟩
      obtain ⟨w9, hw9⟩ : ∃ x, x = w8.alloc (.cells #[.int .u8 kd, .slice A5 sn c5, .int .i64 mn, .int .i64 mx, .bool lz, .slice A6 un c6] 25) := ⟨_, rfl⟩
      have hk9 : Kept w8 w9 := by rw [hw9]; exact (Below.refl _ w8).alloc (Nat.le_refl _) _
      have H79 := Lib.hid (heap_kept (below_kept hk8 hk9) H7.out)
      have H69 := Lib.hid (heap_kept (below_kept hk8 hk9) H67.out)
      have HK9 := Lib.hid (below_kept HK7.out (below_kept hk8 hk9))
      have CT := Lib.hid (HP.out.txt (.agg #[.int .u8 kd, .slice A5 sn c5, .int .i64 mn, .int .i64 mx, .bool lz, .slice A6 un c6]) w9 ⟨_, rfl, NodeC.kept hk9 _ _ hn8⟩)
      clear hk8 hk9 hn8 H7 H67 HK7
      go_wp2_with fail
      rw [← hw9]
      clear hw9 hb9
      refine CT.out.mono ?_
      rintro e w10 ⟨rfl, hk10⟩
      have H710 := Lib.hid (heap_kept hk10 H79.out)
      have H610 := Lib.hid (heap_kept hk10 H69.out)
      have HK10 := Lib.hid (below_kept HK9.out hk10)
      have c1' := row_cells H710.out 1 _ rfl
      rw [add0] at c1'
      clear hk10 CT H79 H69 HK9
      go_wp2_with fail
      exact ⟨⟨k + 1, by omega, by go_num, HK10, H610⟩, by simp [intOf]; omega⟩
    · obtain rfl : k = 6 := by omega
      clear H6
      go_upto_block 2 with fail
      obtain ⟨b6, hb6⟩ : ∃ b, b = wr.heap.size := ⟨_, rfl⟩
      obtain ⟨w6, hw6⟩ : ∃ x, x = wr.alloc (.cells #[.string ⟨#[40]⟩, .string ⟨#[97, 41]⟩, .string ⟨#[97, 42, 42]⟩, .string ⟨#[97, 123, 49]⟩, .string ⟨#[97, 123, 48, 49, 125]⟩, .string ⟨#[97, 123, 50, 44, 49, 125]⟩, .string ⟨#[94, 97]⟩, .string ⟨#[40, 63, 105, 41, 97]⟩, .string ⟨#[93]⟩] 9) := ⟨_, rfl⟩
      have hk6 : Kept wr w6 := by rw [hw6]; exact (Below.refl _ wr).alloc (Nat.le_refl _) _
      have hpc : badC.toArray = #[.string ⟨#[40]⟩, .string ⟨#[97, 41]⟩, .string ⟨#[97, 42, 42]⟩, .string ⟨#[97, 123, 49]⟩, .string ⟨#[97, 123, 48, 49, 125]⟩, .string ⟨#[97, 123, 50, 44, 49, 125]⟩, .string ⟨#[94, 97]⟩, .string ⟨#[40, 63, 105, 41, 97]⟩, .string ⟨#[93]⟩] := by kernel_rfl
      have H6 : Hid (w6.heap[b6]? = some (.cells badC.toArray 9 (0, 0))) := by rw [hw6, hb6, hpc]; exact heap_alloc_new wr _
      have HK6 := Lib.hid (below_kept HKr.out hk6)
      rw [← hw6, ← hb6]
      clear hw6 hb6 hk6 hpc HKr
      go_wp2_with fail
      go_loopw [180] (fun v180 wr => ∃ k : Nat, k ≤ 9 ∧ v180 = .int .i64 k ∧ Hid (Kept w wr) ∧ Hid (wr.heap[b6]? = some (.cells badC.toArray 9 (0, 0)))) (fun v180 _ => 9 - (intOf v180).toNat)
      case atStart => exact ⟨0, Nat.zero_le _, rfl, HK6, H6⟩
      case round =>
        clear H6 HK6
        obtain ⟨k, hk, rfl, HKr, H6⟩ := hrel
        by_cases hk6 : k < 9
        · have hki : (k : Int) < 9 := by omega
          obtain ⟨l, hl⟩ : ∃ l, bads[k]? = some l := ⟨_, List.getElem?_eq_getElem (by show k < 9; exact hk6)⟩
          have CP := Lib.hid (bads_all l (List.mem_of_getElem? hl) wr)
          have c9 : wr.cell? ⟨b6, k, none⟩ = some (.string (b8 l)) := by
            have := row_cells H6.out k (.string (b8 l)) (by rw [← (show badC[k]? = some (.string (b8 l)) from by unfold badC; rw [List.getElem?_map, hl]; rfl)]; exact (List.getElem?_toArray ..))
            rw [add0] at this
            exact this
          clear hl hk6
          go_wp2_with fail
          refine CP.out.mono ?_
          rintro e w8 hp
          unfold PaPost at hp
          obtain ⟨hk8, kd, A5, sn, c5, mn, mx, lz, A6, un, c6, rfl, _⟩ := hp
          have hk9 : Kept wr (w8.alloc (.cells #[.int .u8 kd, .slice A5 sn c5, .int .i64 mn, .int .i64 mx, .bool lz, .slice A6 un c6] 25)) := below_alloc0 hk8 _
          have H69 := Lib.hid (heap_kept hk9 H6.out)
          have HK9 := Lib.hid (below_kept HKr.out hk9)
          unfold ndV
          clear hk8 hk9 H6 HKr c9 CP
          go_wp2_with fail
          go_roundw
          case rel => exact ⟨_, _, _, _, _, _, _, _, _, _, _, _, _, _, _, _, ⟨k + 1, by omega, by go_num, HK9, H69⟩, rfl⟩
          case measure => simp [intOf]; omega
        · obtain rfl : k = 9 := by omega
          clear H6
          go_wp2_with fail
          refine (par_3 wr).mono ?_
          rintro e w8 hp
          unfold PaPost at hp
          obtain ⟨hk8, kd, A5, sn, c5, mn, mx, lz, A6, un, c6, rfl, _⟩ := hp
          have HK8 := Lib.hid (below_kept HKr.out hk8)
          unfold ndV
          clear hk8 HKr
          go_wp2_with fail
          refine (par_4 w8).mono ?_
          rintro e w9 hp
          unfold PaPost at hp
          obtain ⟨hk9, kd, A5, sn, c5, mn, mx, lz, A6, un, c6, rfl, _⟩ := hp
          have HK9 := Lib.hid (below_kept HK8.out hk9)
          unfold ndV
          clear hk9 HK8
          go_wp2_with fail
          go_ret
          exact ⟨rfl, HK9.out⟩
end Go.Proofs.YtmgkdmbifecekaaGreatDoor
namespace Go.Proofs.YtmgkdmbifecekaaGreatDoor
open Go.RowKit Go.Shelf
theorem rgt_of {t : Tree} (h : TrG t) (hd : (factsT t).depth ≤ 40) (hg : (factsT t).groups ≤ 30) : rgtT t = true := by
  unfold rgtT
  rw [h.ok, h.g.lo]
  simp [hd, hg]
theorem facts_grp (t : Tree) : factsT (.mk 6 [] 0 0 false [t]) = { factsT t with depth := (factsT t).depth + 1, groups := capI ((factsT t).groups + 1) } := by
  rw [factsT_mk, factsL_one]
  simp [ofF]
theorem facts_two {k : Int} (hk : k = 3 ∨ k = 4) (t1 t2 : Tree) : factsT (.mk k [] 0 0 false [t1, t2]) = { andF (factsT t1) (factsT t2) k with depth := (andF (factsT t1) (factsT t2) k).depth + 1 } := by
  rw [factsT_list hk]
  simp [factsL, factsA]
section
variable (t : Tree) (v : Value) (W : World) (hv : NodeV W t v) (hr : rgtT t = true) (hd : (factsT t).depth ≤ 1000000)
include hv hr hd
theorem nullable_r : Calls Tryz.prog 22 #[v] W fun e w' => e = .returned (.tuple #[.bool (decide ((factsT t).least = 0)), .int .i64 0]) ∧ Kept W w' := by
  refine (nullable_any t v W hv hd).mono ?_
  rintro e w' ⟨rfl, hk⟩
  rw [hr]
  refine ⟨?_, hk⟩
  rw [if_pos rfl, Bool.true_and]
  congr 4
theorem groups_r : Calls Tryz.prog 24 #[v] W fun e w' => e = .returned (.tuple #[.int .i64 (factsT t).groups, .int .i64 0]) ∧ Kept W w' := by
  refine (groups_any t v W hv hd).mono ?_
  rintro e w' ⟨rfl, hk⟩
  rw [hr]
  exact ⟨rfl, hk⟩
theorem lengths_r : Calls Tryz.prog 23 #[v] W fun e w' => e = .returned (.tuple #[.int .i64 (factsT t).least, .int .i64 (if (factsT t).endless = true then -1 else (factsT t).most), .int .i64 0]) ∧ Kept W w' := by
  refine (lengths_any t v W hv hd).mono ?_
  rintro e w' ⟨rfl, hk⟩
  rw [hr]
  exact ⟨rfl, hk⟩
end
/-- A greatest length that is told. -/
def mostI (f : Fct) : Int := if f.endless = true then -1 else f.most
theorem mostI_bd {t : Tree} (h : TrG t) : mostI (factsT t) = -1 ∨ ((factsT t).least ≤ mostI (factsT t) ∧ mostI (factsT t) ≤ 1073741824) := by
  unfold mostI
  cases he : (factsT t).endless with
  | true => exact .inl rfl
  | false => exact .inr (h.g.m he)
theorem least_bd {t : Tree} (h : TrG t) : 0 ≤ (factsT t).least ∧ (factsT t).least ≤ 1073741824 := h.g.i.l
theorem two_cat {t1 t2 : Tree} (h1 : TrG t1) (h2 : TrG t2) : (factsT (.mk 3 [] 0 0 false [t1, t2])).least = capI ((factsT t1).least + (factsT t2).least) ∧ mostI (factsT (.mk 3 [] 0 0 false [t1, t2])) = if mostI (factsT t1) = -1 ∨ mostI (factsT t2) = -1 then -1 else capI (mostI (factsT t1) + mostI (factsT t2)) := by
  rw [facts_two (.inl rfl)]
  refine ⟨rfl, ?_⟩
  have b1 := least_bd h1
  have b2 := least_bd h2
  unfold mostI
  show (if ((factsT t1).endless || (factsT t2).endless) = true then (-1 : Int) else capI (wrap64 ((factsT t1).most + (factsT t2).most))) = _
  cases e1 : (factsT t1).endless with
  | true => simp
  | false =>
    cases e2 : (factsT t2).endless with
    | true => simp
    | false =>
      have m1 := h1.g.m e1
      have m2 := h2.g.m e2
      rw [wrap64_id (by omega) (by omega)]
      simp
      intro h; exfalso; omega
theorem two_alt {t1 t2 : Tree} (h1 : TrG t1) (h2 : TrG t2) : (factsT (.mk 4 [] 0 0 false [t1, t2])).least = (if (factsT t1).least ≤ (factsT t2).least then (factsT t1).least else (factsT t2).least) ∧ mostI (factsT (.mk 4 [] 0 0 false [t1, t2])) = if mostI (factsT t1) = -1 ∨ mostI (factsT t2) = -1 then -1 else if mostI (factsT t1) ≤ mostI (factsT t2) then mostI (factsT t2) else mostI (factsT t1) := by
  rw [facts_two (.inr rfl)]
  refine ⟨rfl, ?_⟩
  have b1 := least_bd h1
  have b2 := least_bd h2
  unfold mostI
  show (if ((factsT t1).endless || (factsT t2).endless) = true then (-1 : Int) else if (factsT t1).most ≤ (factsT t2).most then (factsT t2).most else (factsT t1).most) = _
  cases e1 : (factsT t1).endless with
  | true => simp
  | false =>
    cases e2 : (factsT t2).endless with
    | true => simp
    | false =>
      have m1 := h1.g.m e1
      have m2 := h2.g.m e2
      simp
      intro h; exfalso; omega
theorem two_rgt {k : Int} (hk : k = 3 ∨ k = 4) {t1 t2 : Tree} (h1 : TrG t1 ∧ (factsT t1).depth ≤ 16 ∧ (factsT t1).groups ≤ 15) (h2 : TrG t2 ∧ (factsT t2).depth ≤ 16 ∧ (factsT t2).groups ≤ 15) : rgtT (.mk k [] 0 0 false [t1, t2]) = true ∧ (factsT (.mk k [] 0 0 false [t1, t2])).depth ≤ 40 := by
  have hT : TrG (.mk k [] 0 0 false [t1, t2]) := listT_g (by intro t ht; simp at ht; rcases ht with rfl | rfl; exact h1.1; exact h2.1) (by simp) hk
  have hg : (factsT (.mk k [] 0 0 false [t1, t2])).groups ≤ 30 := by
    rw [facts_two hk]
    have g1 := h1.1.g.i.g
    have g2 := h2.1.g.i.g
    show capI ((factsT t1).groups + (factsT t2).groups) ≤ 30
    unfold capI
    split <;> omega
  have hd : (factsT (.mk k [] 0 0 false [t1, t2])).depth ≤ 40 := by
    rw [facts_two hk]
    show (if (factsT t1).depth ≤ (factsT t2).depth then (factsT t2).depth else (factsT t1).depth) + 1 ≤ 40
    split <;> omega
  exact ⟨rgt_of hT hd hg, hd⟩
theorem grp_rgt {t : Tree} (h : TrG t ∧ (factsT t).depth ≤ 16 ∧ (factsT t).groups ≤ 15) : rgtT (.mk 6 [] 0 0 false [t]) = true ∧ (factsT (.mk 6 [] 0 0 false [t])).depth ≤ 40 ∧ (factsT (.mk 6 [] 0 0 false [t])).groups = (factsT t).groups + 1 ∧ (factsT (.mk 6 [] 0 0 false [t])).least = (factsT t).least ∧ mostI (factsT (.mk 6 [] 0 0 false [t])) = mostI (factsT t) := by
  have hT := groupT_g h.1
  have g1 := h.1.g.i.g
  have hg : (factsT (.mk 6 [] 0 0 false [t])).groups = (factsT t).groups + 1 := by
    rw [facts_grp]
    show capI ((factsT t).groups + 1) = _
    unfold capI
    split <;> omega
  have hd : (factsT (.mk 6 [] 0 0 false [t])).depth ≤ 40 := by
    rw [facts_grp]
    show (factsT t).depth + 1 ≤ 40
    omega
  exact ⟨rgt_of hT hd (by omega), hd, hg, by rw [facts_grp], by rw [facts_grp]; rfl⟩
end Go.Proofs.YtmgkdmbifecekaaGreatDoor
