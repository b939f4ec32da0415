/-
  Package syntax: patterns of many groups, of many levels, of many characters: what Parse says of them. Package class: the text of a point that is written as it is. Package syntax: the builder within a writer. Package syntax: a pile of trees. Package syntax: a pile of trees, grown and topped.
-/
import Derived.Test.YtmgkdmbifecekaaGreatDoorSo1
import Derived.Test.YtmgkdmbifecekaaGreatDoorMmbb
import Derived.Test.YtmgkdmbifecekaaGreatDoorMmaq
import Derived.Test.YtmgkdmbifecekaaGreatDoorMmak
import Derived.Lib.OthersKept
import Derived.Lib.Builder
import Derived.Lib.UnsafeStr
import Derived.Test.YtmgkdmbifecekaaGreatDoorMmay
import Derived.Deep.MidRow
import Derived.Test.YtmgkdmbifecekaaGreatDoorSrb
set_option linter.all false
set_option linter.unusedSimpArgs false
set_option linter.unusedVariables false
set_option linter.unusedSectionVars false
namespace Go.Proofs.YtmgkdmbifecekaaGreatDoor
open Go.RowKit Go.Shelf
theorem rep_any (l : Bs) (c : Nat) (hc : c ≤ 2000) (hl : l.length ≤ 10) (w : World) : Calls Tryz.prog 27 #[.string (b8 l), .int .i64 c] w fun e w' => e = .returned (.string (b8 (Lib.repeatL l c))) ∧ Kept w w' := by
  have hs : (b8 l).size = l.length := by simp [ByteArray.size]
  have hm : (b8 l).size * c ≤ 10 * 2000 := by rw [hs]; exact Nat.mul_le_mul hl hc
  refine (sh_strings_Repeat (b8 l) c w (by omega) (by omega)).mono ?_
  rintro e w' ⟨he, hk⟩
  exact ⟨by rw [he], hk⟩
/-- What Parse returns, without the tree. -/
def PaE (W : World) (E : Int) (e : Ending) (w' : World) : Prop :=
  Kept W w' ∧ ∃ k A1 sn c1 mn mx lz A2 un c2, e = .returned (.tuple #[.agg #[.int .u8 k, .slice A1 sn c1, .int .i64 mn, .int .i64 mx, .bool lz, .slice A2 un c2], .int .i64 E])
theorem PaPost.e {W : World} {E : Int} {t : Tree} {e : Ending} {w' : World} (h : PaPost W E t e w') : PaE W E e w' := by
  obtain ⟨hk, k, A1, sn, c1, mn, mx, lz, A2, un, c2, he, _⟩ := h
  exact ⟨hk, k, A1, sn, c1, mn, mx, lz, A2, un, c2, he⟩
set_option maxRecDepth 10000 in
set_option maxHeartbeats 4000000 in
theorem parse_long (l : Bs) (hl : 1024 < l.length) (W : World) : Calls Tryz.prog 19 #[.string (b8 l)] W (PaE W 3) := by
  obtain ⟨wa, hwa⟩ : ∃ x, x = W.alloc (.cells #[.int .u8 0, .slice none 0 0, .int .i64 0, .int .i64 0, .bool false, .slice none 0 0] 25) := ⟨_, rfl⟩
  have HK : Hid (Kept W wa) := by rw [hwa]; exact (Below.refl _ W).alloc (Nat.le_refl _) _
  have HZ : Hid (wa.heap[W.heap.size]? = some (.cells #[.int .u8 0, .slice none 0 0, .int .i64 0, .int .i64 0, .bool false, .slice none 0 0] 25 (0, 0))) := by
    show _ = _
    rw [hwa]
    exact heap_alloc_new W _
  have hll : (1024 : Int) < (l.length : Int) := by omega
  clear hl
  go_enter Tryz.func19, Tryz.ntmps19
  go_upto_region 1 with fail
  rw [← hwa]
  clear hwa
  go_wp2_with (first | ((refine wpList_store_row ?c0 25 (.tmp 2) (.tmp 12) ?c1 W.heap.size #[.int .u8 0, .slice none 0 0, .int .i64 0, .int .i64 0, .bool false, .slice none 0 0] ?c2 ?c3 _ _ HZ.out ?c4 ?c5 ?c6 ?_); (case c0 => with_reducible rfl); (case c1 => with_reducible rfl); (case c2 => rfl); (case c3 => rfl); (case c4 => exact sizeNd); (case c5 => rfl); (case c6 => simp [Value.oneCell'])))
  refine bodyPost_ret (res_cell_int Tryz.results19 _ _ W.heap.size #[.int .u8 0, .slice none 0 0, .int .i64 0, .int .i64 0, .bool false, .slice none 0 0] rfl rfl (setRow_heap _ _ _ _ _ _ HZ.out)) rfl ?_
  exact ⟨below_setRow HK.out (Nat.le_refl _) _, 0, none, 0, 0, 0, 0, false, none, 0, 0, rfl⟩
theorem mp_grp (g : Nat) (hg : g < 60) (W : World) : Calls Tryz.prog 19 #[.string (b8 (Lib.repeatL [40, 97, 41] g) ++ ⟨#[98]⟩)] W (PaE W (if 30 < g then 5 else 0)) := by
  obtain ⟨h1, h2, h3, h4⟩ := m_grp g hg
  have := parse_good (gpsS g) _ (if 30 < g then 5 else 0) (by rw [len_grp]; omega) (okB_plain _ (pln_grp g)) h1 h2 h3 h4 W
  rw [show b8 (Lib.repeatL [40, 97, 41] g) ++ (⟨#[98]⟩ : ByteArray) = b8 (gpsS g) from b8_app _ [98]]
  exact this.mono fun _ _ h => h.e
theorem deep_str (d : Nat) : b8 (Lib.repeatL [97, 124, 40, 63, 58] d) ++ (⟨#[98]⟩ : ByteArray) ++ b8 (Lib.repeatL [41] d) = b8 (deepS d) := by
  rw [show b8 (Lib.repeatL [97, 124, 40, 63, 58] d) ++ (⟨#[98]⟩ : ByteArray) = b8 (Lib.repeatL [97, 124, 40, 63, 58] d ++ [98]) from b8_app _ [98], b8_app]
  rfl
theorem mp_deep (d : Nat) (hd : d < 60) (W : World) : Calls Tryz.prog 19 #[.string (b8 (deepS d))] W (PaE W (if 40 ≤ d then 72 else 0)) := by
  obtain ⟨h1, h2, h3, h4⟩ := m_deep d hd
  have := parse_good (deepS d) _ (if 40 ≤ d then 72 else 0) (by rw [len_deep]; omega) (okB_plain _ (pln_deep d)) h1 h2 h3 h4 W
  exact this.mono fun _ _ h => h.e
theorem mp_both (d : Nat) (hd : d < 60) (W : World) : Calls Tryz.prog 19 #[.string (b8 (Lib.repeatL [40, 97, 41] 31) ++ b8 (deepS d))] W (PaE W 5) := by
  obtain ⟨h1, h2, h3, h4⟩ := m_both d hd
  rw [b8_app]
  have := parse_good (Lib.repeatL [40, 97, 41] 31 ++ deepS d) _ 5 (by rw [List.length_append, Lib.repeatL_length, len_deep]; show 31 * 3 + (d * 6 + 1) ≤ 1024; omega) (okB_plain _ (pln_app (pln_rep _ (by decide) 31) (pln_deep d))) h1 h2 h3 h4 W
  exact this.mono fun _ _ h => h.e
theorem mp_as (k : Nat) (W : World) : Calls Tryz.prog 19 #[.string (b8 (Lib.repeatL [97] k))] W (PaE W (if k ≤ 1024 then 0 else 3)) := by
  by_cases hk : k ≤ 1024
  · obtain ⟨h1, h2, h3, h4⟩ := m_as k hk
    rw [if_pos hk]
    have := parse_good (Lib.repeatL [97] k) _ 0 (by rw [Lib.repeatL_length]; show k * 1 ≤ 1024; omega) (okB_plain _ (pln_rep _ (by decide) k)) h1 h2 h3 h4 W
    exact this.mono fun _ _ h => h.e
  · rw [if_neg hk]
    exact parse_long _ (by rw [Lib.repeatL_length]; show 1024 < k * 1; omega) W
theorem mp_star (k : Nat) (W : World) : Calls Tryz.prog 19 #[.string (b8 (Lib.repeatL [42] (k + 1)))] W (PaE W (if k < 1024 then 70 else 3)) := by
  by_cases hk : k < 1024
  · rw [if_pos hk]
    have := parse_bad (Lib.repeatL [42] (k + 1)) (by rw [Lib.repeatL_length]; show (k + 1) * 1 ≤ 1024; omega) (okB_plain _ (pln_rep _ (by decide) (k + 1))) (by rw [m_star k]) eT W
    exact this.mono fun _ _ h => h.e
  · rw [if_neg hk]
    exact parse_long _ (by rw [Lib.repeatL_length]; show 1024 < (k + 1) * 1; omega) W
theorem mq_grp (g : Nat) (hg : g < 60) : ∃ E : Int, Hid (E = 0 ∧ (g : Int) ≤ 30 ∨ E = 5 ∧ ¬ (g : Int) ≤ 30) ∧ Hid (∀ W, Calls Tryz.prog 19 #[.string (b8 (Lib.repeatL [40, 97, 41] g) ++ ⟨#[98]⟩)] W (PaE W E)) := by
  by_cases h : 30 < g
  · refine ⟨5, Lib.hid (.inr ⟨rfl, by omega⟩), Lib.hid (fun W => ?_)⟩
    have := mp_grp g hg W
    rw [if_pos h] at this
    exact this
  · refine ⟨0, Lib.hid (.inl ⟨rfl, by omega⟩), Lib.hid (fun W => ?_)⟩
    have := mp_grp g hg W
    rw [if_neg h] at this
    exact this
theorem mq_deep (d : Nat) (hd : d < 60) : ∃ E : Int, Hid (E = 0 ∧ (d : Int) < 40 ∨ E = 72 ∧ ¬ (d : Int) < 40) ∧ Hid (∀ W, Calls Tryz.prog 19 #[.string (b8 (deepS d))] W (PaE W E)) := by
  by_cases h : 40 ≤ d
  · refine ⟨72, Lib.hid (.inr ⟨rfl, by omega⟩), Lib.hid (fun W => ?_)⟩
    have := mp_deep d hd W
    rw [if_pos h] at this
    exact this
  · refine ⟨0, Lib.hid (.inl ⟨rfl, by omega⟩), Lib.hid (fun W => ?_)⟩
    have := mp_deep d hd W
    rw [if_neg h] at this
    exact this
/-- Up to 1023, 1024, more. -/
def KiE (k : Nat) (E3 E4 : Int) : Prop :=
  (E3 = 0 ∧ E4 = 70 ∧ ¬ (1024 : Int) < k ∧ (k : Int) ≤ 1024 ∧ ¬ (1024 : Int) ≤ k ∧ (k : Int) < 1024) ∨ (E3 = 0 ∧ E4 = 3 ∧ ¬ (1024 : Int) < k ∧ (k : Int) ≤ 1024 ∧ (1024 : Int) ≤ k ∧ ¬ (k : Int) < 1024) ∨ (E3 = 3 ∧ E4 = 3 ∧ (1024 : Int) < k ∧ ¬ (k : Int) ≤ 1024 ∧ (1024 : Int) ≤ k ∧ ¬ (k : Int) < 1024)
theorem mq_long (k : Nat) : ∃ E3 E4 : Int, Hid (KiE k E3 E4) ∧ Hid (∀ W, Calls Tryz.prog 19 #[.string (b8 (Lib.repeatL [97] k))] W (PaE W E3)) ∧ Hid (∀ W, Calls Tryz.prog 19 #[.string (b8 (Lib.repeatL [42] (k + 1)))] W (PaE W E4)) := by
  rcases (by omega : k < 1024 ∨ k = 1024 ∨ 1024 < k) with h | h | h
  · refine ⟨0, 70, Lib.hid (.inl ⟨rfl, rfl, by omega, by omega, by omega, by omega⟩), Lib.hid (fun W => ?_), Lib.hid (fun W => ?_)⟩
    · have := mp_as k W; rw [if_pos (by omega)] at this; exact this
    · have := mp_star k W; rw [if_pos (by omega)] at this; exact this
  · refine ⟨0, 3, Lib.hid (.inr (.inl ⟨rfl, rfl, by omega, by omega, by omega, by omega⟩)), Lib.hid (fun W => ?_), Lib.hid (fun W => ?_)⟩
    · have := mp_as k W; rw [if_pos (by omega)] at this; exact this
    · have := mp_star k W; rw [if_neg (by omega)] at this; exact this
  · refine ⟨3, 3, Lib.hid (.inr (.inr ⟨rfl, rfl, by omega, by omega, by omega, by omega⟩)), Lib.hid (fun W => ?_), Lib.hid (fun W => ?_)⟩
    · have := mp_as k W; rw [if_neg (by omega)] at this; exact this
    · have := mp_star k W; rw [if_neg (by omega)] at this; exact this
end Go.Proofs.YtmgkdmbifecekaaGreatDoor
namespace Go.Proofs.YtmgkdmbifecekaaGreatDoor
open Go.RowKit Go.Shelf
theorem enc_ascii (c : Int) (hc : 0 ≤ c ∧ c < 128) : Utf8.encode c = b8 [UInt8.ofNat c.toNat] := by
  have h1 : Utf8.valid c = true := by unfold Utf8.valid; simp; omega
  have h2 : c.toNat < 128 := by omega
  unfold Utf8.encode
  simp only [h1, if_true]
  rw [if_pos h2]
theorem contains_l (l : Bs) (c : Int) (hc : 0 ≤ c ∧ c < 128) (w : World) : Calls Tryz.prog 91 #[.string (b8 l), .int .i32 c] w fun e w' => e = .returned (.bool (l.contains (UInt8.ofNat c.toNat))) ∧ w = w' := by
  refine (sh_strings_ContainsRune_ascii (b8 l) c w (by omega) (by omega)).mono ?_
  rintro e w' ⟨rfl, rfl⟩
  rw [b8_list, show c.toNat.toUInt8 = UInt8.ofNat c.toNat from rfl, idx_mem]
  exact ⟨rfl, rfl⟩
set_option maxRecDepth 10000 in
set_option maxHeartbeats 2000000 in
theorem pt_plain (c : Int) (h : plainP c = true) (w : World) : Calls Tryz.prog 115 #[.int .i64 c] w fun e w' => e = .returned (.string (b8 (ptS c))) ∧ w = w' := by
  have CV := Lib.hid (fun w => visible_any c w)
  have hp : Hid (ptS c = [UInt8.ofNat c.toNat]) := by show _ = _; unfold ptS; rw [if_pos h]
  unfold plainP at h
  rw [Bool.and_eq_true, Bool.and_eq_true, Bool.and_eq_true, decide_eq_true_eq, decide_eq_true_eq, Bool.not_eq_true', Bool.not_eq_true', decide_eq_false_iff_not] at h
  obtain ⟨h1, h2, h3, h4⟩ := h
  have CC := Lib.hid (fun w => contains_l [92, 91, 93, 45] c (by omega) w)
  rw [h4] at CC
  have hv : visB c = true := by unfold visB; simp; omega
  rw [hv] at CV
  have hn : (c == 94) = false := by rw [beq_eq_false_iff_ne]; exact h3
  have hw : IntKind.i32.wrap c = c := by rw [IntKind.wrap_i32]; omega
  clear h4 hv
  go_enter Tryz.func115, Tryz.ntmps115
  go_wp2_with (first | (go_at_call 133; refine (CV.out _).mono ?_; rintro e w1 ⟨rfl, rfl⟩) | (go_at_call 91; refine (CC.out _).mono ?_; rintro e w1 ⟨rfl, rfl⟩))
  go_ret
  rw [hp.out, enc_ascii c (by omega)]
  exact ⟨rfl, rfl⟩
end Go.Proofs.YtmgkdmbifecekaaGreatDoor
namespace Go.Proofs.YtmgkdmbifecekaaGreatDoor
open Go.RowKit Go.Shelf
/-- A writer that holds bytes. -/
abbrev WrAt (T : TypeId) (B b : Nat) (p : Value) (l : Bs) (w : World) : Prop := Lib.BuilderAtF T 5 B b p (Lib.byteCells l) w
abbrev IsWr (T : TypeId) (B b : Nat) (l : Bs) (w : World) : Prop := Lib.IsBuilderF T 5 B b (Lib.byteCells l) w
abbrev OtK (b : Nat) (w w' : World) : Prop := Lib.OthersKept 5 (some b) w w'
theorem sizeBld : (Tryz.prog.info? 88).map (·.size) = some 2 := by kernel_rfl
/-- A builder may lie there. -/
structure BldT (T : TypeId) : Prop where
  lies : liesAt Tryz.prog Tryz.prog.depth T (2 / Tryz.prog.cellsOf T) 0 88 1 = true
  ne : T ≠ 5
theorem bldWr : BldT 90 := ⟨by kernel_rfl, by decide⟩
theorem bldSb : BldT 88 := ⟨by kernel_rfl, by decide⟩
theorem cells_app (l m : Bs) : Lib.byteCells (l ++ m) = Lib.byteCells l ++ Lib.byteCells m := by simp [Lib.byteCells]
theorem strCells_b8 (l : Bs) : Lib.strCells (b8 l) = Lib.byteCells l := rfl
set_option maxHeartbeats 1000000 in
set_option maxRecDepth 100000 in
theorem wcc_used (b : Nat) (w : World) (h0 : w.cell? ⟨b, 0, none⟩ = some (.pointer (some ⟨b, 0, none⟩))) : Calls Tryz.prog 78 #[.pointer (some ⟨b, 0, none⟩)] w fun e w' => e = .returned (.tuple #[]) ∧ w' = w := by
  obtain ⟨j, hj, hjs⟩ := Option.map_eq_some_iff.1 sizeBld
  go_enter Tryz.func78, Tryz.ntmps78
  go_wp2
  rw [Lib.run_neq_ptr_same w _ Tryz.underlying85 hj]
  go_wp2
  go_end0
  exact ⟨rfl, rfl⟩
set_option maxHeartbeats 1000000 in
set_option maxRecDepth 100000 in
theorem wcc_fresh (T : TypeId) (hT : BldT T) (b : Nat) (w : World) (h0 : w.cell? ⟨b, 0, none⟩ = some (.pointer none)) (hsh : w.shape? b = some (T, 2)) (hfz : w.frozen? ⟨b, 0, none⟩ = false) :
    Calls Tryz.prog 78 #[.pointer (some ⟨b, 0, none⟩)] w fun e w' => e = .returned (.tuple #[]) ∧ w' = w.setCell ⟨b, 0, none⟩ (.pointer (some ⟨b, 0, none⟩)) := by
  obtain ⟨j, hj, hjs⟩ := Option.map_eq_some_iff.1 sizeBld
  go_enter Tryz.func78, Tryz.ntmps78
  go_wp2
  rw [Lib.run_to_unsafe w ⟨b, 0, none⟩ Tryz.underlying85 Tryz.underlying171 hj (by rw [hjs]; decide) hsh (Nat.zero_lt_succ 1)]
  simp only [Result.andThen]
  rw [Oper.upon_value]
  go_wp2
  rw [run_callFunc_extern Tryz.func103 (by kernel_rfl) (by kernel_rfl) (by kernel_rfl) (e := Extern.AbiNoEscape.same) (by kernel_rfl)]
  rw [Lib.run_noEscape]
  simp only [Result.andThen]
  rw [Oper.upon_value]
  go_wp2
  rw [Lib.run_from_unsafe w ⟨b, 0, none⟩ Tryz.underlying171 Tryz.underlying85 hj hsh hT.lies]
  simp only [Result.andThen]
  rw [Oper.upon_value]
  go_wp2
  go_end0
  exact ⟨rfl, rfl⟩
theorem wcc_any (T : TypeId) (hT : BldT T) (B b : Nat) (l : Bs) (w : World) (h : IsWr T B b l w) : Calls Tryz.prog 78 #[.pointer (some ⟨b, 0, none⟩)] w fun e w' => e = .returned (.tuple #[]) ∧ WrAt T B b (.pointer (some ⟨b, 0, none⟩)) l w' ∧ Below B w w' ∧ OtK b w w' := by
  rcases h with h | h
  · refine (wcc_fresh T hT b w h.cell0 h.shape h.frozen0).mono ?_
    rintro e w' ⟨rfl, rfl⟩
    exact ⟨rfl, h.used _, (Below.refl B w).setCell (p := ⟨b, 0, none⟩) h.1 _, (Lib.OthersKept.refl _ _ w).setCell ⟨b, 0, none⟩ rfl _⟩
  · refine (wcc_used b w h.cell0).mono ?_
    rintro e w' ⟨rfl, rfl⟩
    exact ⟨rfl, h, Below.refl B _, Lib.OthersKept.refl _ _ _⟩
theorem infoU8 : ∃ i, Tryz.prog.info? 5 = some i ∧ i.zero = some (.int .u8 0) ∧ i.size = 1 ∧ i.bytes = 1 := info_parts (by kernel_rfl)
set_option maxHeartbeats 2000000 in
set_option maxRecDepth 100000 in
/-- WriteString. -/
theorem wws_any (T : TypeId) (hT : BldT T) (B b : Nat) (l m : Bs) (w : World) (h : IsWr T B b l w) (hl : l.length + m.length ≤ 1000000) (hB : B ≤ w.heap.size) : Calls Tryz.prog 52 #[.pointer (some ⟨b, 0, none⟩), .string (b8 m)] w fun e w' => e = .returned (.tuple #[.int .i64 m.length, .nilIface]) ∧ IsWr T B b (l ++ m) w' ∧ Below B w w' ∧ OtK b w w' := by
  obtain ⟨i0, hi, hz0, hz1, hz2⟩ := infoU8
  have CC := Lib.hid (wcc_any T hT B b l w h)
  have hlb : (Lib.byteCells l).length = l.length := Lib.byteCells_length l
  have hmb : (b8 m).size = m.length := rfl
  obtain ⟨n, hn⟩ : ∃ n, n = m.length := ⟨_, rfl⟩
  have HN := Lib.hid hn
  clear h hn
  go_enter Tryz.func52, Tryz.ntmps52
  go_wp2_with (go_at_call 78; refine CC.out.mono ?_)
  rintro e w1 ⟨rfl, h1, hb1, hk1⟩
  obtain ⟨hB1, v, hbk, hown, hne⟩ := h1
  have c0 : w1.cell? ⟨b, 0, none⟩ = some (.pointer (some ⟨b, 0, none⟩)) := by rw [Lib.cell_of_heap hbk]; rfl
  have c1 : w1.cell? ⟨b, 1, none⟩ = some v := by rw [Lib.cell_of_heap hbk]; rfl
  go_wp2_with (at_builtin; refine Lib.wpList_append_own_stringF _ rfl _ _ 86 9 rfl B 5 i0 Tryz.underlying86 Tryz.underlying9 hi hz0 hz1 hz2 _ _ _ rfl hown (b8 m) rfl ?c3 ?c4 ?c5 ?_)
  case c3 => unfold maxLen; omega
  case c4 => omega
  case c5 => have := hb1.size; omega
  intro v' w2 hown' hgrow _
  have hlt : b < w1.heap.size := by
    rcases Nat.lt_or_ge b w1.heap.size with h' | h'
    · exact h'
    · simp [Array.getElem?_eq_none h'] at hbk
  have hb2 : w2.heap[b]? = some (.cells #[.pointer (some ⟨b, 0, none⟩), v] T (0, 0)) := by
    rw [hgrow.block b hlt (fun e => hne e.symm)]
    exact hbk
  have d0 : w2.cell? ⟨b, 0, none⟩ = some (.pointer (some ⟨b, 0, none⟩)) := by rw [Lib.cell_of_heap hb2]; rfl
  have d1 : w2.cell? ⟨b, 1, none⟩ = some v := by rw [Lib.cell_of_heap hb2]; rfl
  have f1 : w2.frozen? ⟨b, 1, none⟩ = false := Lib.frozen_of_heap hb2 1
  obtain ⟨ao, n', cap, rfl⟩ : ∃ ao n' cap, v' = .slice ao n' cap := by
    rcases hown'.2 with ⟨hv, _⟩ | ⟨g, cap, cur, fz, hv, _⟩
    · exact ⟨_, _, _, hv⟩
    · exact ⟨_, _, _, hv⟩
  go_wp2
  go_ret2
  refine ⟨rfl, .inr ?_, ?_, (hk1.grown hgrow (Lib.ownsRowF_kind hown)).setCell ⟨b, 1, none⟩ rfl _⟩
  · exact Lib.BuilderAtF.put (T := T) (e := 5) hB1 hb2 (bs' := Lib.byteCells (l ++ m)) (by rw [Lib.byteCells_length, List.length_append, cells_app, ← strCells_b8]; exact hown') hT.ne
  · exact (hb1.grown hgrow (by have := hb1.size; omega) (fun k hk => (hown.lt k hk).1)).setCell (p := ⟨b, 1, none⟩) hB1 _
/-- Len. -/
theorem wln_any (T : TypeId) (B b : Nat) (l : Bs) (w : World) (h : IsWr T B b l w) : Calls Tryz.prog 42 #[.pointer (some ⟨b, 0, none⟩)] w fun e w' => e = .returned (.int .i64 l.length) ∧ w' = w := by
  obtain ⟨p, hB, v, hbk, hown, hne⟩ : ∃ p, WrAt T B b p l w := by
    rcases h with h | h
    · exact ⟨_, h⟩
    · exact ⟨_, h⟩
  rw [Lib.byteCells_length] at hown
  obtain ⟨ao, cap, rfl⟩ : ∃ ao cap, v = .slice ao l.length cap := by
    rcases hown.2 with ⟨hv, h0⟩ | ⟨g, cap, cur, fz, hv, _⟩
    · exact ⟨none, 0, by rw [hv, h0]⟩
    · exact ⟨_, _, hv⟩
  have c1 : w.cell? ⟨b, 1, none⟩ = some (.slice ao l.length cap) := by rw [Lib.cell_of_heap hbk]; rfl
  clear hown hbk hne
  go_enter Tryz.func42, Tryz.ntmps42
  go_wp2
  go_ret
  exact ⟨rfl, rfl⟩
set_option maxHeartbeats 2000000 in
set_option maxRecDepth 100000 in
/-- String. -/
theorem wst_any (T : TypeId) (B b : Nat) (l : Bs) (w : World) (h : IsWr T B b l w) (h0 : l ≠ []) : Calls Tryz.prog 43 #[.pointer (some ⟨b, 0, none⟩)] w fun e w' => e = .returned (.string (b8 l)) ∧ Below B w w' := by
  obtain ⟨p, hB, v, hbk, hown, hne⟩ : ∃ p, WrAt T B b p l w := by
    rcases h with h | h
    · exact ⟨_, h⟩
    · exact ⟨_, h⟩
  have hl0 : l.length ≠ 0 := by simpa using h0
  rw [Lib.byteCells_length] at hown
  obtain ⟨g, cap, cur, fz, rfl, hbg, hg, hfz, hnc, hcm, hcs, htake⟩ : ∃ g cap cur fz, v = .slice (some ⟨g, 0, none⟩) l.length cap ∧ B ≤ g ∧ w.heap[g]? = some (.cells cur 5 fz) ∧ fz.2 ≤ l.length * 1 ∧ l.length ≤ cap ∧ cap ≤ maxLen ∧ cur.size = cap * 1 ∧ cur.toList.take (l.length * 1) = Lib.byteCells l := by
    rcases hown.2 with ⟨_, hz⟩ | ⟨g, cap, cur, fz, hv, r⟩
    · exact absurd hz hl0
    · exact ⟨g, cap, cur, fz, hv, r⟩
  have c1 : w.drew.cell? ⟨b, 1, none⟩ = some (.slice (some ⟨g, 0, none⟩) l.length cap) := by
    have : w.drew.heap[b]? = some (.cells #[p, .slice (some ⟨g, 0, none⟩) l.length cap] T (0, 0)) := hbk
    rw [Lib.cell_of_heap this]; rfl
  have hSD : (Builtin.unsafeSliceData_ #[86] 128 #[.slice (some ⟨g, 0, none⟩) l.length cap]).run Tryz.prog w.drew = .ok (.pointer (some ⟨g, 0, none⟩)) w.drew :=
    Lib.run_unsafeSliceData_row _ _ _ _ _ _ (by omega)
  have hUS : (Builtin.unsafeString_ #[128, 3] 9 #[.pointer (some ⟨g, 0, none⟩), .int .i64 l.length]).run Tryz.prog w.drew = .ok (.string ⟨l.toArray⟩) (w.drew.freeze ⟨g, 0, none⟩ l.length) := by
    refine Lib.run_unsafeString_row w.drew 128 3 9 5 Tryz.underlying128 (by kernel_rfl) g cur.size (by have hg' : w.drew.heap[g]? = some (.cells cur 5 fz) := hg; simp [World.shape?, hg']) l h0 (by omega) (by unfold maxLen at hcm; omega) ?_
    intro j x hx
    have := hown.cells (g := g) rfl j (.int .u8 x.toNat) (by simp [Lib.byteCells, hx])
    exact this
  go_enter Tryz.func43, Tryz.ntmps43
  go_wp2
  go_region
  all_goals (go_wp2; go_ret; exact ⟨rfl, Lib.below_freeze (Below.drew (Below.refl B w)) (p := ⟨g, 0, none⟩) hbg _⟩)
end Go.Proofs.YtmgkdmbifecekaaGreatDoor
namespace Go.Proofs.YtmgkdmbifecekaaGreatDoor
open Go.RowKit Go.Shelf
theorem NodesC.split {w : World} : ∀ (p q : List Tree) (xs : List Value), NodesC w (p ++ q) xs → ∃ ys zs, xs = ys ++ zs ∧ NodesC w p ys ∧ NodesC w q zs
  | [], q, xs, h => ⟨[], xs, rfl, by unfold NodesC; rfl, h⟩
  | t :: p, q, xs, h => by
    rw [List.cons_append] at h
    unfold NodesC at h
    obtain ⟨a, b, rfl, h1, h2⟩ := h
    obtain ⟨ys, zs, rfl, h3, h4⟩ := NodesC.split p q b h2
    exact ⟨a ++ ys, zs, (List.append_assoc _ _ _).symm, by unfold NodesC; exact ⟨a, ys, rfl, h1, h3⟩, h4⟩
theorem NodesC.sole {w : World} {t : Tree} {zs : List Value} (h : NodesC w [t] zs) : NodeC w t zs := by
  unfold NodesC at h
  obtain ⟨a, b, rfl, h1, h2⟩ := h
  unfold NodesC at h2
  subst h2
  rw [List.append_nil]
  exact h1
theorem heap_setCells (g : Nat) (t : TypeId) : ∀ (vs : List Value) (o : Nat) (w : World) (cur : Array Value), w.heap[g]? = some (.cells cur t (0, 0)) → o + vs.length ≤ cur.size →
    ∃ cur' : Array Value, (w.setCells g o vs).heap[g]? = some (.cells cur' t (0, 0)) ∧ cur'.size = cur.size ∧ cur'.toList = cur.toList.take o ++ (vs ++ cur.toList.drop (o + vs.length))
  | [], o, w, cur, h, _ => ⟨cur, h, rfl, by simp⟩
  | v :: r, o, w, cur, h, hl => by
    rw [List.length_cons] at hl
    have h1 := Go.heap_setCell_same w g o cur t v h
    obtain ⟨cur', h2, h3, h4⟩ := heap_setCells g t r (o + 1) _ _ h1 (by simp; omega)
    refine ⟨cur', h2, by rw [h3]; simp, ?_⟩
    have hlt : o < cur.toList.length := by rw [Array.length_toList]; omega
    have e : (cur.setIfInBounds o v).toList = cur.toList.take o ++ v :: cur.toList.drop (o + 1) := by
      rw [Array.toList_setIfInBounds, List.set_eq_take_append_cons_drop, if_pos hlt]
    have hlo : (cur.toList.take o).length = o := by rw [List.length_take]; omega
    rw [h4, e]
    have e1 : (cur.toList.take o ++ v :: cur.toList.drop (o + 1)).take (o + 1) = cur.toList.take o ++ [v] := by
      rw [List.take_append, hlo, List.take_of_length_le (by omega), show o + 1 - o = 1 from by omega]
      rfl
    have e2 : (cur.toList.take o ++ v :: cur.toList.drop (o + 1)).drop (o + 1 + r.length) = cur.toList.drop (o + (r.length + 1)) := by
      rw [List.drop_append, hlo, List.drop_eq_nil_of_le (by omega), List.nil_append, show o + 1 + r.length - o = r.length + 1 from by omega, List.drop_succ_cons, List.drop_drop]
      congr 1
      omega
    rw [e1, e2, List.append_assoc, List.length_cons]
    rfl
theorem grown_setCells (g : Nat) : ∀ (vs : List Value) (o : Nat) (w : World), w.grownBy (w.setCells g o vs) (some g)
  | [], o, w => ⟨rfl, rfl, rfl, Nat.le_refl _, fun _ _ _ => rfl⟩
  | v :: r, o, w => grown_trans (w1 := w.setCell ⟨g, o, none⟩ v) ⟨rfl, rfl, rfl, by simp, fun k hk hne => heap_set_out w g o v (fun e => hne (by rw [e]))⟩ (grown_setCells g r (o + 1) _)
/-- The last one. -/
theorem PartsI.last {B : Nat} {w : World} {v : Value} {p : List Tree} {t : Tree} {xs : List Value} (h : PartsI B w v (p ++ [t]) xs) :
    ∃ g c ys cs, v = .slice (some ⟨g, 0, none⟩) (p.length + 1) c ∧ xs = ys ++ cs ∧ ys.length = p.length * 6 ∧ cs.length = 6 ∧ w.rangeAt g (p.length * 6) cs ∧ w.there g (p.length * 6) 6 ∧ NodeC (hideO (some g) (mask B w)) t cs ∧ B ≤ g ∧ g < w.heap.size := by
  obtain ⟨ys, cs, rfl, h1, h2⟩ := NodesC.split _ _ _ h.n
  have hl1 := h1.len
  have hl2 := h2.sole.len
  rcases h.o.2 with ⟨_, h0⟩ | ⟨g, cap, cur, hv, hb, hg, hc, hx, hs, ht⟩
  · simp at h0
  · rw [List.length_append] at hv ht hc
    subst hv
    have hcells : ∀ j u, cs[j]? = some u → w.cell? ⟨g, p.length * 6 + j, none⟩ = some u := by
      intro j u hu
      have := h.o.cells (g := g) rfl (p.length * 6 + j) u (by rw [List.getElem?_append_right (by omega), ← hu]; congr 1; omega)
      rwa [Addr.add_mid, Nat.zero_add] at this
    refine ⟨g, cap, ys, cs, rfl, rfl, hl1, hl2, hcells, fun j hj => ⟨?_, ?_⟩, h2.sole, hb, heap_lt hg⟩
    · rw [hcells j cs[j] (List.getElem?_eq_getElem (by omega))]
      rfl
    · unfold World.frozen?
      rw [hg]
      simp
/-- The last one, another. -/
theorem PartsI.put {B g c : Nat} {w : World} {p : List Tree} {t0 t : Tree} {xs cs : List Value} (h : PartsI B w (.slice (some ⟨g, 0, none⟩) (p.length + 1) c) (p ++ [t0]) xs) (hl : cs.length = 6) (hn : NodeC (hideO (some g) (mask B w)) t cs) :
    PartsI B (w.setCells g (p.length * 6) cs) (.slice (some ⟨g, 0, none⟩) (p.length + 1) c) (p ++ [t]) (xs.take (p.length * 6) ++ cs) := by
  obtain ⟨ys, zs, rfl, h1, h2⟩ := NodesC.split _ _ _ h.n
  have hl1 := h1.len
  have hl2 := h2.sole.len
  have hG := grown_setCells g cs (p.length * 6) w
  have htk : (ys ++ zs).take (p.length * 6) = ys := by rw [← hl1]; exact List.take_left
  rw [htk]
  refine ⟨⟨by rw [List.length_append, List.length_append, hl1, hl]; simp; omega, ?_⟩, ?_⟩
  · rcases h.o.2 with ⟨hv, _⟩ | ⟨g', cap, cur, hv, hb, hg, hc, hx, hs, ht⟩
    · cases hv
    · rw [List.length_append] at hv ht hc
      simp only [Value.slice.injEq, Option.some.injEq, Addr.mk.injEq] at hv
      obtain ⟨⟨rfl, _⟩, _, rfl⟩ := hv
      have hle : p.length * 6 + cs.length ≤ cur.size := by rw [hs, hl]; have : p.length + 1 ≤ c := hc; omega
      obtain ⟨cur', e1, e2, e3⟩ := heap_setCells g _ cs (p.length * 6) w cur hg hle
      refine .inr ⟨g, c, cur', by rw [List.length_append]; rfl, hb, e1, by rw [List.length_append]; exact hc, hx, by rw [e2, hs], ?_⟩
      have ht2 : cur.toList.take (p.length * 6) = ys := by
        have h9 := congrArg (fun l => l.take (p.length * 6)) ht
        try dsimp only at h9
        rw [List.take_take, htk] at h9
        rw [← h9]
        congr 1
        have : [t0].length = 1 := rfl
        omega
      rw [e3, ht2, List.length_append, ← List.append_assoc, List.take_append_of_le_length (by rw [List.length_append, hl1, hl]; simp; omega)]
      rw [List.take_of_length_le (by rw [List.length_append, hl1, hl]; simp; omega)]
  · have hsub : ∀ q u, (hideO (some g) (mask B w)).cell? q = some u → (hideO (some g) (mask B (w.setCells g (p.length * 6) cs))).heap[q.block]? = (hideO (some g) (mask B w)).heap[q.block]? := by
      intro q u hq
      obtain ⟨g1, g2, g3, g4⟩ := hm_cell hq
      rw [hideO_at g1, mask_hi g2, g4]
      exact hG.block _ g3 (fun e => g1 e.symm)
    have hsz : (hideO (some g) (mask B w)).heap.size ≤ (hideO (some g) (mask B (w.setCells g (p.length * 6) cs))).heap.size := by rw [hideO_size, hideO_size, mask_size, mask_size]; exact hG.size
    exact NodesC.app (NodesC.sub hsz hsub p ys h1) (NodeC.sub hsz hsub t cs hn)
end Go.Proofs.YtmgkdmbifecekaaGreatDoor
namespace Go.Proofs.YtmgkdmbifecekaaGreatDoor
open Go.RowKit Go.Shelf
end Go.Proofs.YtmgkdmbifecekaaGreatDoor
