/-
  Package syntax: Parse. Package syntax: Parse, of a string that is known.
-/
import Derived.Test.YtmgkdmbifecekaaGreatDoorMlba
import Derived.Test.YtmgkdmbifecekaaGreatDoorMlat
set_option linter.all false
set_option linter.unusedSimpArgs false
set_option linter.unusedVariables false
set_option linter.unusedSectionVars false
namespace Go.Proofs.YtmgkdmbifecekaaGreatDoor
open Go.RowKit Go.Shelf
/-- The error of a tree that is read whole. -/
def parE (f : Fct) : Int := if f.loops = true then 71 else if 30 < f.groups then 5 else if 40 < f.depth then 72 else 0
/-- What Parse leaves. -/
def PaPost (W : World) (E : Int) (t : Tree) (e : Ending) (w' : World) : Prop :=
  Kept W w' ∧ ∃ k A1 sn c1 mn mx lz A2 un c2, e = .returned (.tuple #[ndV k A1 sn c1 mn mx lz A2 un c2, .int .i64 E]) ∧ (E = 0 → NodeM W.heap.size w' t (ndV k A1 sn c1 mn mx lz A2 un c2))
theorem kept_two {w w1 w2 : World} {g : Nat} (h : Kept w w1) (hg : w1.grownBy w2 (some g)) (hlt : w.heap.size ≤ g) : Kept w w2 :=
  ⟨hg.os.trans h.os, hg.tape.trans h.tape, hg.output.trans h.output, Nat.le_trans h.size hg.size, fun k hk => (hg.block k (Nat.lt_of_lt_of_le hk h.size) (by intro e; cases e; omega)).trans (h.block k hk)⟩
/-- A node in a cell, and a number: what a function hands back. -/
theorem res_cell_int {fn : Func} {p u : Tmp} (h : fn.results = #[.cell p 25, .tmp u]) (tmps : Array Value) (w : World) (g : Nat) (cs : Array Value) (hs : cs.size = 6) (hp : tmps.getD p undef = .pointer (some ⟨g, 0, none⟩)) (hg : w.heap[g]? = some (.cells cs 25 (0, 0))) :
    (results fn tmps).run Tryz.prog w = .ok (.tuple #[.agg cs, tmps.getD u undef]) w := res_node h tmps w g cs hs hp hg
section
variable (l : Bs) (hl : l.length ≤ 1024) (W : World)
include hl
set_option maxRecDepth 10000 in
set_option maxHeartbeats 4000000 in
theorem parse_none (CP : Hid (∀ g W, RdrAt W g (b8 l) → Calls Tryz.prog 44 #[.pointer (some ⟨g, 0, none⟩)] W (NdPost g none W))) (t : Tree) : Calls Tryz.prog 19 #[.string (b8 l)] W (PaPost W 70 t) := by
  obtain ⟨wa, hwa⟩ : ∃ x, x = (W.alloc (.cells #[.int .u8 0, .slice none 0 0, .int .i64 0, .int .i64 0, .bool false, .slice none 0 0] 25)).alloc (.cells #[.string (b8 l)] 94) := ⟨_, rfl⟩
  have HK : Hid (Kept W wa) := by rw [hwa]; exact ((Below.refl _ W).alloc (Nat.le_refl _) _).alloc (by simp) _
  have HZ : Hid (wa.heap[W.heap.size]? = some (.cells #[.int .u8 0, .slice none 0 0, .int .i64 0, .int .i64 0, .bool false, .slice none 0 0] 25 (0, 0))) := by
    show _ = _
    rw [hwa, Below.heap_alloc _ _ _ (by simp)]
    exact heap_alloc_new W _
  have HR : Hid (RdrAt wa (W.heap.size + 1) (b8 l)) := by
    show _ = _
    have := heap_alloc_new (W.alloc (.cells #[.int .u8 0, .slice none 0 0, .int .i64 0, .int .i64 0, .bool false, .slice none 0 0] 25)) (.cells #[.string (b8 l)] 94)
    rw [World.size_alloc] at this
    rw [hwa]
    exact this
  have hll : ¬ (1024 : Int) < (l.length : Int) := by omega
  clear hl
  go_enter Tryz.func19, Tryz.ntmps19
  go_wp2_with fail
  rw [← hwa]
  clear hwa
  refine (CP.out _ wa HR.out).mono ?_
  rintro e w1 hpost
  unfold NdPost at hpost
  obtain ⟨hg1, hpost⟩ := hpost
  obtain ⟨k, A1, sn, c1, mn, mx, lz, A2, un, c2, q, rfl, hr⟩ := hpost
  have HZ1 := grown_heap hg1 HZ.out (by intro e9; have := Option.some.inj e9; omega)
  have hk2 : Kept w1 (w1.alloc (.cells #[.int .u8 k, .slice A1 sn c1, .int .i64 mn, .int .i64 mx, .bool lz, .slice A2 un c2] 25)) := (Below.refl _ w1).alloc (Nat.le_refl _) _
  have HK1 := Lib.hid (kept_two HK.out hg1 (by omega))
  have HK2 := Lib.hid (below_kept HK1.out hk2)
  have H2 := Lib.hid (heap_kept hk2 HZ1)
  clear hg1 hr HZ1 hk2 CP HR HZ
  unfold ndV
  dsimp only
  go_wp2_with (first | ((refine wpList_store_row ?c0 25 (.tmp 2) (.tmp 26) ?c1 W.heap.size #[.int .u8 0, .slice none 0 0, .int .i64 0, .int .i64 0, .bool false, .slice none 0 0] ?c2 ?c3 _ _ H2.out ?c4 ?c5 ?c6 ?_); (case c0 => with_reducible rfl); (case c1 => with_reducible rfl); (case c2 => rfl); (case c3 => rfl); (case c4 => exact sizeNd); (case c5 => rfl); (case c6 => simp [Value.oneCell'])))
  refine bodyPost_ret (res_cell_int Tryz.results19 _ _ W.heap.size #[.int .u8 0, .slice none 0 0, .int .i64 0, .int .i64 0, .bool false, .slice none 0 0] rfl rfl (setRow_heap _ _ _ _ _ _ H2.out)) rfl ?_
  exact ⟨below_setRow HK2.out (Nat.le_refl _) _, 0, none, 0, 0, 0, 0, false, none, 0, 0, rfl, fun h => by omega⟩
set_option maxRecDepth 10000 in
set_option maxHeartbeats 4000000 in
theorem parse_rest (t0 : Tree) (r : Bs) (hne : r ≠ []) (CP : Hid (∀ g W, RdrAt W g (b8 l) → Calls Tryz.prog 44 #[.pointer (some ⟨g, 0, none⟩)] W (NdPost g (some (t0, r)) W))) (t : Tree) : Calls Tryz.prog 19 #[.string (b8 l)] W (PaPost W 70 t) := by
  obtain ⟨wa, hwa⟩ : ∃ x, x = (W.alloc (.cells #[.int .u8 0, .slice none 0 0, .int .i64 0, .int .i64 0, .bool false, .slice none 0 0] 25)).alloc (.cells #[.string (b8 l)] 94) := ⟨_, rfl⟩
  have HK : Hid (Kept W wa) := by rw [hwa]; exact ((Below.refl _ W).alloc (Nat.le_refl _) _).alloc (by simp) _
  have HZ : Hid (wa.heap[W.heap.size]? = some (.cells #[.int .u8 0, .slice none 0 0, .int .i64 0, .int .i64 0, .bool false, .slice none 0 0] 25 (0, 0))) := by
    show _ = _
    rw [hwa, Below.heap_alloc _ _ _ (by simp)]
    exact heap_alloc_new W _
  have HR : Hid (RdrAt wa (W.heap.size + 1) (b8 l)) := by
    show _ = _
    have := heap_alloc_new (W.alloc (.cells #[.int .u8 0, .slice none 0 0, .int .i64 0, .int .i64 0, .bool false, .slice none 0 0] 25)) (.cells #[.string (b8 l)] 94)
    rw [World.size_alloc] at this
    rw [hwa]
    exact this
  have hll : ¬ (1024 : Int) < (l.length : Int) := by omega
  clear hl
  go_enter Tryz.func19, Tryz.ntmps19
  go_wp2_with fail
  rw [← hwa]
  clear hwa
  refine (CP.out _ wa HR.out).mono ?_
  rintro e w1 hpost
  unfold NdPost at hpost
  obtain ⟨hg1, hpost⟩ := hpost
  obtain ⟨k, A1, sn, c1, mn, mx, lz, A2, un, c2, rfl, hn, hr⟩ := hpost
  have HZ1 := grown_heap hg1 HZ.out (by intro e9; have := Option.some.inj e9; omega)
  have hk2 : Kept w1 (w1.alloc (.cells #[.int .u8 k, .slice A1 sn c1, .int .i64 mn, .int .i64 mx, .bool lz, .slice A2 un c2] 25)) := (Below.refl _ w1).alloc (Nat.le_refl _) _
  have HK1 := Lib.hid (kept_two HK.out hg1 (by omega))
  have HK2 := Lib.hid (below_kept HK1.out hk2)
  have H2 := Lib.hid (heap_kept hk2 HZ1)
  have hc : (w1.alloc (.cells #[.int .u8 k, .slice A1 sn c1, .int .i64 mn, .int .i64 mx, .bool lz, .slice A2 un c2] 25)).cell? ⟨W.heap.size + 1, 0, none⟩ = some (.string (b8 r)) := by rw [cell_of_row _ _ _ _ _ _ (rdr_grow hr hk2)]; rfl
  have hpos : (0 : Int) < (r.length : Int) := by have := List.length_pos_iff.2 hne; omega
  have hie : List.isEmpty r = false := by cases r with | nil => exact absurd rfl hne | cons _ _ => rfl
  have hne2 : b8 r ≠ ByteArray.mk #[] := by intro e; apply hne; have := congrArg (fun s => s.data.toList) e; simpa [b8] using this
  clear hg1 hr HZ1 hk2 CP HR HZ hne
  unfold ndV
  dsimp only
  go_wp2_with (first | ((refine wpList_store_row ?c0 25 (.tmp 2) (.tmp 26) ?c1 W.heap.size #[.int .u8 0, .slice none 0 0, .int .i64 0, .int .i64 0, .bool false, .slice none 0 0] ?c2 ?c3 _ _ H2.out ?c4 ?c5 ?c6 ?_); (case c0 => with_reducible rfl); (case c1 => with_reducible rfl); (case c2 => rfl); (case c3 => rfl); (case c4 => exact sizeNd); (case c5 => rfl); (case c6 => simp [Value.oneCell'])))
  refine bodyPost_ret (res_cell_int Tryz.results19 _ _ W.heap.size #[.int .u8 0, .slice none 0 0, .int .i64 0, .int .i64 0, .bool false, .slice none 0 0] rfl rfl (setRow_heap _ _ _ _ _ _ H2.out)) rfl ?_
  exact ⟨below_setRow HK2.out (Nat.le_refl _) _, 0, none, 0, 0, 0, 0, false, none, 0, 0, rfl, fun h => by omega⟩
set_option maxRecDepth 10000 in
set_option maxHeartbeats 4000000 in
theorem parse_tree (kt : Int) (set : List Rng) (mn mx : Int) (lz : Bool) (subs : List Tree) (hok : okTr (.mk kt set mn mx lz subs) = true) (hd : (factsT (.mk kt set mn mx lz subs)).depth ≤ 1024) (CP : Hid (∀ g W, RdrAt W g (b8 l) → Calls Tryz.prog 44 #[.pointer (some ⟨g, 0, none⟩)] W (NdPost g (some (.mk kt set mn mx lz subs, [])) W))) (E : Int) (he : E = parE (factsT (.mk kt set mn mx lz subs))) : Calls Tryz.prog 19 #[.string (b8 l)] W (PaPost W E (.mk kt set mn mx lz subs)) := by
  have HE := Lib.hid he
  have HD := Lib.hid hd
  have HO := Lib.hid hok
  clear he hd hok
  obtain ⟨wa, hwa⟩ : ∃ x, x = (W.alloc (.cells #[.int .u8 0, .slice none 0 0, .int .i64 0, .int .i64 0, .bool false, .slice none 0 0] 25)).alloc (.cells #[.string (b8 l)] 94) := ⟨_, rfl⟩
  have HK : Hid (Kept W wa) := by rw [hwa]; exact ((Below.refl _ W).alloc (Nat.le_refl _) _).alloc (by simp) _
  have HZ : Hid (wa.heap[W.heap.size]? = some (.cells #[.int .u8 0, .slice none 0 0, .int .i64 0, .int .i64 0, .bool false, .slice none 0 0] 25 (0, 0))) := by
    show _ = _
    rw [hwa, Below.heap_alloc _ _ _ (by simp)]
    exact heap_alloc_new W _
  have HR : Hid (RdrAt wa (W.heap.size + 1) (b8 l)) := by
    show _ = _
    have := heap_alloc_new (W.alloc (.cells #[.int .u8 0, .slice none 0 0, .int .i64 0, .int .i64 0, .bool false, .slice none 0 0] 25)) (.cells #[.string (b8 l)] 94)
    rw [World.size_alloc] at this
    rw [hwa]
    exact this
  have hll : ¬ (1024 : Int) < (l.length : Int) := by omega
  clear hl
  go_enter Tryz.func19, Tryz.ntmps19
  go_wp2_with fail
  rw [← hwa]
  clear hwa
  refine (CP.out _ wa HR.out).mono ?_
  rintro e w1 hpost
  unfold NdPost at hpost
  obtain ⟨hg1, hpost⟩ := hpost
  obtain ⟨k', A1', sn', c1', mn', mx', lz', A2', un', c2', rfl, hn, hr⟩ := hpost
  obtain ⟨A1, c1, A2, c2, hv, hnc⟩ := NodeV.nd hn
  rw [hv] at hn ⊢
  clear hnc hv
  obtain ⟨k, hkt⟩ : ∃ k, k = kt := ⟨_, rfl⟩
  subst hkt
  have HZ1 := grown_heap hg1 HZ.out (by intro e9; have := Option.some.inj e9; omega)
  have hk2 : Kept w1 (w1.alloc (.cells #[.int .u8 k, .slice A1 set.length c1, .int .i64 mn, .int .i64 mx, .bool lz, .slice A2 subs.length c2] 25)) := (Below.refl _ w1).alloc (Nat.le_refl _) _
  have HK1 := Lib.hid (kept_two HK.out hg1 (by omega))
  have HK2 := Lib.hid (below_kept HK1.out hk2)
  have H2 := Lib.hid (heap_kept hk2 HZ1)
  have hc : (w1.alloc (.cells #[.int .u8 k, .slice A1 set.length c1, .int .i64 mn, .int .i64 mx, .bool lz, .slice A2 subs.length c2] 25)).cell? ⟨W.heap.size + 1, 0, none⟩ = some (.string (b8 [])) := by rw [cell_of_row _ _ _ _ _ _ (rdr_grow hr hk2)]; rfl
  have Hn2 := Lib.hid (NodeM.kept hn (Nat.le_refl _) hk2)
  have hle := HK.out.size
  have H5 := Lib.hid (heap_alloc_new w1 (.cells #[.int .u8 k, .slice A1 set.length c1, .int .i64 mn, .int .i64 mx, .bool lz, .slice A2 subs.length c2] 25))
  have hsz : W.heap.size < w1.heap.size := heap_lt HZ1
  have hsa : W.heap.size < wa.heap.size := heap_lt HZ.out
  have CS := Lib.hid (fun W' (hk : Kept (w1.alloc (.cells #[.int .u8 k, .slice A1 set.length c1, .int .i64 mn, .int .i64 mx, .bool lz, .slice A2 subs.length c2] 25)) W') (hh : True) => by
    obtain ⟨B1, d1, B2, d2, hv, hnc⟩ := NodeV.nd (NodeM.un Hn2.out)
    unfold ndV at hv
    simp only [Value.agg.injEq, Array.mk.injEq, List.cons.injEq, Value.slice.injEq, true_and, and_true] at hv
    obtain ⟨⟨rfl, rfl⟩, rfl, rfl⟩ := hv
    exact said_any k set mn mx lz subs A1 c1 A2 c2 1024 (by omega) (by have := HD.out; omega) W' (NodeC.kept hk _ _ hnc))
  clear hg1 hr HZ1 hk2 CP HR HZ hn
  unfold ndV
  dsimp only
  go_wp2_with (first | ((refine wpList_load_row ?c0 25 (.tmp 5) ?c1 w1.heap.size ?c2 25 #[.int .u8 k, .slice A1 set.length c1, .int .i64 mn, .int .i64 mx, .bool lz, .slice A2 subs.length c2] (0, 0) _ H5.out Tryz.underlying25 ?c3 sizeNd ?_); (case c0 => with_reducible rfl); (case c1 => with_reducible rfl); (case c2 => rfl); (case c3 => rfl)))
  refine (CS.out _ (Below.refl _ _) trivial).mono ?_
  rintro e w2 ⟨f, ok, rfl, h1, h0, hk3⟩
  cases ok with
  | false =>
    exfalso
    rcases (h0 rfl).2 with h9 | h9
    · rw [HO.out] at h9; cases h9
    · have := HD.out; omega
  | true =>
    obtain ⟨_, hf⟩ := h1 rfl
    rw [← hf] at HE
    clear h1 h0 CS hc
    obtain ⟨d, gg, le, mo, en, lo⟩ := f
    have hkf : Kept w2 (w2.alloc (.cells #[.int .i64 d, .int .i64 gg, .int .i64 le, .int .i64 mo, .bool en, .bool lo] 98)) := (Below.refl _ w2).alloc (Nat.le_refl _) _
    have hkk := below_kept hk3 hkf
    have H2c := Lib.hid (heap_kept hkk H2.out)
    have H5c := Lib.hid (heap_kept hkk H5.out)
    have HK2c := Lib.hid (below_kept HK2.out hkk)
    have Hn2c := Lib.hid (NodeM.kept Hn2.out (Nat.le_refl _) hkk)
    clear hkf hkk hk3 H2 H5 HK2 Hn2 hf
    unfold fctV
    dsimp only
    cases lo with
    | true =>
      have hE : E = 71 := by rw [HE.out]; unfold parE; simp 
      subst hE
      go_wp2_with (first | ((refine wpList_store_row ?c0 25 (.tmp 2) (.tmp 35) ?c1 W.heap.size #[.int .u8 0, .slice none 0 0, .int .i64 0, .int .i64 0, .bool false, .slice none 0 0] ?c2 ?c3 _ _ H2c.out ?c4 ?c5 ?c6 ?_); (case c0 => with_reducible rfl); (case c1 => with_reducible rfl); (case c2 => rfl); (case c3 => rfl); (case c4 => exact sizeNd); (case c5 => rfl); (case c6 => simp [Value.oneCell'])))
      refine bodyPost_ret (res_cell_int Tryz.results19 _ _ W.heap.size #[.int .u8 0, .slice none 0 0, .int .i64 0, .int .i64 0, .bool false, .slice none 0 0] rfl rfl (setRow_heap _ _ _ _ _ _ H2c.out)) rfl ?_
      exact ⟨below_setRow HK2c.out (Nat.le_refl _) _, 0, none, 0, 0, 0, 0, false, none, 0, 0, rfl, fun h => by omega⟩
    | false =>
      by_cases h30 : 30 < gg
      · have hE : E = 5 := by rw [HE.out]; unfold parE; simp [h30]
        subst hE
        go_wp2_with (first | ((refine wpList_store_row ?c0 25 (.tmp 2) (.tmp 40) ?c1 W.heap.size #[.int .u8 0, .slice none 0 0, .int .i64 0, .int .i64 0, .bool false, .slice none 0 0] ?c2 ?c3 _ _ H2c.out ?c4 ?c5 ?c6 ?_); (case c0 => with_reducible rfl); (case c1 => with_reducible rfl); (case c2 => rfl); (case c3 => rfl); (case c4 => exact sizeNd); (case c5 => rfl); (case c6 => simp [Value.oneCell'])))
        refine bodyPost_ret (res_cell_int Tryz.results19 _ _ W.heap.size #[.int .u8 0, .slice none 0 0, .int .i64 0, .int .i64 0, .bool false, .slice none 0 0] rfl rfl (setRow_heap _ _ _ _ _ _ H2c.out)) rfl ?_
        exact ⟨below_setRow HK2c.out (Nat.le_refl _) _, 0, none, 0, 0, 0, 0, false, none, 0, 0, rfl, fun h => by omega⟩
      · by_cases h40 : 40 < d
        · have hE : E = 72 := by rw [HE.out]; unfold parE; simp [h30, h40]
          subst hE
          go_wp2_with (first | ((refine wpList_store_row ?c0 25 (.tmp 2) (.tmp 45) ?c1 W.heap.size #[.int .u8 0, .slice none 0 0, .int .i64 0, .int .i64 0, .bool false, .slice none 0 0] ?c2 ?c3 _ _ H2c.out ?c4 ?c5 ?c6 ?_); (case c0 => with_reducible rfl); (case c1 => with_reducible rfl); (case c2 => rfl); (case c3 => rfl); (case c4 => exact sizeNd); (case c5 => rfl); (case c6 => simp [Value.oneCell'])))
          refine bodyPost_ret (res_cell_int Tryz.results19 _ _ W.heap.size #[.int .u8 0, .slice none 0 0, .int .i64 0, .int .i64 0, .bool false, .slice none 0 0] rfl rfl (setRow_heap _ _ _ _ _ _ H2c.out)) rfl ?_
          exact ⟨below_setRow HK2c.out (Nat.le_refl _) _, 0, none, 0, 0, 0, 0, false, none, 0, 0, rfl, fun h => by omega⟩
        · have hE : E = 0 := by rw [HE.out]; unfold parE; simp [h30, h40]
          subst hE
          go_wp2_with (first | ((refine wpList_load_row ?c0 25 (.tmp 5) ?c1 w1.heap.size ?c2 25 #[.int .u8 k, .slice A1 set.length c1, .int .i64 mn, .int .i64 mx, .bool lz, .slice A2 subs.length c2] (0, 0) _ H5c.out Tryz.underlying25 ?c3 sizeNd ?_); (case c0 => with_reducible rfl); (case c1 => with_reducible rfl); (case c2 => rfl); (case c3 => rfl)) | ((refine wpList_store_row ?c0 25 (.tmp 2) (.tmp 46) ?c1 W.heap.size #[.int .u8 k, .slice A1 set.length c1, .int .i64 mn, .int .i64 mx, .bool lz, .slice A2 subs.length c2] ?c2 ?c3 _ _ H2c.out ?c4 ?c5 ?c6 ?_); (case c0 => with_reducible rfl); (case c1 => with_reducible rfl); (case c2 => rfl); (case c3 => rfl); (case c4 => exact sizeNd); (case c5 => rfl); (case c6 => simp [Value.oneCell'])))
          refine bodyPost_ret (res_cell_int Tryz.results19 _ _ W.heap.size #[.int .u8 k, .slice A1 set.length c1, .int .i64 mn, .int .i64 mx, .bool lz, .slice A2 subs.length c2] rfl rfl (setRow_heap _ _ _ _ _ _ H2c.out)) rfl ?_
          exact ⟨below_setRow HK2c.out (Nat.le_refl _) _, k, A1, set.length, c1, mn, mx, lz, A2, subs.length, c2, rfl, fun _ => NodeM.set Hn2c.out hle hsa _⟩
end
end Go.Proofs.YtmgkdmbifecekaaGreatDoor
namespace Go.Proofs.YtmgkdmbifecekaaGreatDoor
open Go.RowKit Go.Shelf
def fuelOf (l : Bs) : Nat := 8 * l.length + 8
theorem parse_bad (l : Bs) (hl : l.length ≤ 1024) (ho : okB l = true) (hp : match patF (fuelOf l) l with | none => true | some (_, r) => !r.isEmpty) (t : Tree) (W : World) : Calls Tryz.prog 19 #[.string (b8 l)] W (PaPost W 70 t) := by
  have h := fun g W hr => (rd_all (fuelOf l)).1 g l ho (Nat.le_trans hl (by decide)) (Nat.le_refl _) W hr
  cases hq : patF (fuelOf l) l with
  | none => rw [hq] at h; exact parse_none l hl W h t
  | some x =>
    obtain ⟨t0, r⟩ := x
    rw [hq] at h hp
    exact parse_rest l hl W t0 r (by rintro rfl; cases hp) h t
theorem parse_good (l : Bs) (t : Tree) (E : Int) (hl : l.length ≤ 1024) (ho : okB l = true) (hp : patF (fuelOf l) l = some (t, [])) (hk : okTr t = true) (hd : (factsT t).depth ≤ 1024) (he : E = parE (factsT t)) (W : World) : Calls Tryz.prog 19 #[.string (b8 l)] W (PaPost W E t) := by
  have h := fun g W hr => (rd_all (fuelOf l)).1 g l ho (Nat.le_trans hl (by decide)) (Nat.le_refl _) W hr
  rw [hp] at h
  obtain ⟨k, set, mn, mx, lz, subs⟩ := t
  exact parse_tree l hl W k set mn mx lz subs hk hd h E he
end Go.Proofs.YtmgkdmbifecekaaGreatDoor
