/-
  What the statements' tells computes: yes.
-/
import Derived.Test.YtdgpbminmlpebaaDoorApp
import Derived.Test.YtdgpbminmlpebaaDoorAwake
import Derived.Test.YtdgpbminmlpebaaDoorMath4
namespace Go.Proofs.YtdgpbminmlpebaaDoor
open Go.RowKit Mt
/-- What Pair and Split answer. -/
def pairR (h l : Int) : Int × Int := if 55296 ≤ h ∧ h < 56320 ∧ 56320 ≤ l ∧ l ≤ 57343 then (65536 + 1024 * (h - 55296) + l - 56320, 0) else (0, 2)
def splitR (x : Int) : Int × Int × Int := if 65536 ≤ x ∧ x ≤ 1114111 then (55296 + (x - 65536) / 1024, 56320 + (x - 65536) % 1024, 0) else (0, 0, 2)
theorem pair_any (h l : Int) (w : World) : Calls Tryd.prog 29 #[.int .i64 h, .int .i64 l] w fun e w' => e = .returned (.tuple #[.int .i64 (pairR h l).1, .int .i64 (pairR h l).2]) ∧ w = w' := by
  unfold pairR
  split
  · next k => exact pair_yes h l k w
  · next k => exact pair_no h l k w
theorem refpair_any (h l : Int) (w : World) : Calls Tryd.prog 34 #[.int .i64 h, .int .i64 l] w fun e w' => e = .returned (.tuple #[.int .i64 (pairR h l).1, .int .i64 (pairR h l).2]) ∧ w = w' := by
  unfold pairR
  split
  · next k => exact refpair_yes h l k w
  · next k => exact refpair_no h l k w
theorem split_any (x : Int) (w : World) : Calls Tryd.prog 30 #[.int .i64 x] w fun e w' => e = .returned (.tuple #[.int .i64 (splitR x).1, .int .i64 (splitR x).2.1, .int .i64 (splitR x).2.2]) ∧ w = w' := by
  unfold splitR
  split
  · next k => exact split_yes x k.1 k.2 w
  · next k => exact split_no x (by omega) w
theorem refsplit_any (x : Int) (w : World) : Calls Tryd.prog 35 #[.int .i64 x] w fun e w' => e = .returned (.tuple #[.int .i64 (splitR x).1, .int .i64 (splitR x).2.1, .int .i64 (splitR x).2.2]) ∧ w = w' := by
  unfold splitR
  split
  · next k => exact refsplit_yes x k.1 k.2 w
  · next k => exact refsplit_no x (by omega) w
theorem pairR_bd (h l : Int) : 0 ≤ (pairR h l).2 ∧ (pairR h l).2 ≤ 2 := by unfold pairR; split <;> simp
theorem splitR_bd (x : Int) : 0 ≤ (splitR x).2.2 ∧ (splitR x).2.2 ≤ 2 := by unfold splitR; split <;> simp
theorem wpList_app_first {P : Program} (w : World) {ops : Array Oper} {rest : List Oper} {o : Oper} {a : Act} {Q : Exit → Act → World → Prop} (hgd : Region.wanted o (yielded ops a.tmps) = true) (s x : Operand) (t : TypeId)
    (ho : o.op = .call { callee := .builtin .append, args := #[s, x], argTypes := #[t, t] })
    (base : Nat) (e : TypeId) (i : TypeInfo) (z : Value) (bytes : Nat) (ht : P.underlying t = some (.slice e)) (hi : P.info? e = some i) (hz : i.zero = some z)
    (hsize : i.size = 1) (hby : i.bytes = bytes) (hzs : z.cells.size = 1)
    (v : Value) (hs : a.eval s = v) (hown : w.ownsRow base e 1 v 0 [])
    (B : Nat) (A : Option Addr) (m c : Nat) (news : List Value) (hx : a.eval x = .slice A m c) (hr : Rd w B A m news) (h1 : ∀ u ∈ news, u.oneCell' = true)
    (h63 : m ≤ maxLen) (hbytes : m * bytes ≤ 140737488355328) (hbase : base ≤ w.heap.size)
    (h : ∀ v' w', w'.ownsRow base e 1 v' m news → w.grownBy w' v.ownBlock → wpList P ops Q rest (a.put o.dst v') w') : wpList P ops Q (o :: rest) a w :=
  wpList_app_any w hgd s x t ho base e i z bytes ht hi hz hsize hby hzs v 0 [] hs hown B A m c news hx hr h1 (by omega) (by simpa using hbytes) hbase fun v' w' h1 h2 => h v' w' (by simpa using h1) h2
theorem Rd.take {w : World} {B n : Nat} {A : Option Addr} {xs : List Int} {k : IntKind} (h : Rd w B A n (xs.map (Value.int k))) (m : Nat) (hm : m ≤ n) : Rd w B A m ((xs.take m).map (Value.int k)) := by
  refine ⟨by have := h.1; simp at this ⊢; omega, fun h0 => ?_⟩
  obtain ⟨ad, e, hb, hc⟩ := h.2 (by omega)
  refine ⟨ad, e, hb, fun j u hu => hc j u ?_⟩
  rw [List.map_take, List.getElem?_take] at hu
  split at hu
  · exact hu
  · cases hu
set_option maxRecDepth 100000 in
set_option maxHeartbeats 2000000 in
theorem tells_yes_le (x y : Int) (hx : -9223372036854775808 ≤ x ∧ x ≤ 9223372036854775807) (hy : -9223372036854775808 ≤ y ∧ y ≤ 9223372036854775807) (hp : isPt x = true) (A : Option Addr) (h c : Nat) (ys : List Int) (hn : h ≤ 100) (hc : h ≤ c) (hc2 : c ≤ maxLen) (w : World) (hr : Rd w w.heap.size A h (u8s ys)) :
    Calls Tryd.prog 13 #[.int .i64 x, .int .i64 y, .slice A h c] w fun e w' => e = .returned (.bool true) ∧ Below w.heap.size w w' := by
  unfold maxLen at hc2
  have hn63 : h ≤ 9223372036854775807 := Nat.le_trans hc hc2
  obtain ⟨i0, hi, hz0, hz1, hz2⟩ := info_parts info5
  obtain ⟨hx0, hx1⟩ := hx
  obtain ⟨hy0, hy1⟩ := hy
  have Hr := Lib.hid hr
  clear hr
  have hmin : min (h : Int) 100 = (h : Int) := by omega
  have hA := size_yes x hp
  rw [← form_length x] at hA
  have hfp := form_pos x
  have cP := pair_any x y; have cQ := refpair_any x y; have cS := split_any x; have cT := refsplit_any x
  have cN := refpoint_any x; have cM := point_any x
  rw [hp] at cN cM
  obtain ⟨pb0, pb1⟩ := pairR_bd x y
  obtain ⟨sb0, sb1⟩ := splitR_bd x
  generalize pairR x y = P2 at *
  generalize splitR x = S3 at *
  obtain ⟨p1, p2⟩ := P2
  obtain ⟨s1, s2, s3⟩ := S3
  dsimp only at *
  have CP := Lib.hid cP; have CQ := Lib.hid cQ; have CS := Lib.hid cS; have CT := Lib.hid cT; have CN := Lib.hid cN; have CM := Lib.hid cM; have CA := Lib.hid hA
  clear cP cQ cS cT cN cM hA
  clear hc2
  go_enter Tryd.func13, Tryd.ntmps13
  have hown0 : World.ownsRow (w.alloc (.cells #[] 5)) w.heap.size 5 1 (.slice (some ⟨w.heap.size, 0, none⟩) 0 0) 0 [] := World.ownsRow_lit w #[] 0 (Nat.le_refl _) (by unfold maxLen; omega) rfl
  have Hown0 := Lib.hid hown0
  clear hown0
  go_wp2_with (at_builtin; refine wpList_app_first _ rfl _ _ 22 rfl w.heap.size 5 i0 (.int .u8 0) 1 Tryd.underlying22 hi hz0 hz1 hz2 rfl _ rfl Hown0.out _ A h c (u8s ys) rfl (Hr.out.step (Nat.le_refl _) (Below.refl _ _)) (u8s_one _) (by unfold maxLen; omega) (by omega) (by simp) ?_; intro v1 w1 hown1 hg1)
  obtain ⟨A1, c1, rfl, hc1⟩ := own_slice hown1
  have hown1 := hown1
  have hb1 : Below w.heap.size w w1 := ((Below.refl w.heap.size w).alloc (Nat.le_refl _) _).grown hg1 (by simp) (fun k e => by cases e; exact Nat.le_refl _)
  have hr1 : Rd w1 w1.heap.size A1 h (u8s ys) := Rd.of_own hown1
  have Hr1 := Lib.hid hr1
  clear hown1 hg1 Hown0 hr1
  refine (CA.out _).mono ?_
  rintro e w' ⟨rfl, rfl⟩
  go_wp2_with fail
  refine (append_new x hp A1 h ys _ Hr1.out (by omega)).mono ?_
  rintro e w2 ⟨A2, c2, rfl, hr2, hb2⟩
  have Hr2 := Lib.hid hr2
  clear hr2
  go_wp2_with fail
  refine (CP.out _).mono ?_
  rintro e w' ⟨rfl, rfl⟩
  go_wp2_with fail
  refine (CQ.out _).mono ?_
  rintro e w' ⟨rfl, rfl⟩
  go_wp2_with fail
  refine (CS.out _).mono ?_
  rintro e w' ⟨rfl, rfl⟩
  go_wp2_with fail
  refine (CT.out _).mono ?_
  rintro e w' ⟨rfl, rfl⟩
  go_wp2_with fail
  refine (CM.out _).mono ?_
  rintro e w' ⟨rfl, rfl⟩
  go_wp2_with fail
  refine (CN.out _).mono ?_
  rintro e w' ⟨rfl, rfl⟩
  go_wp2_with fail
  have hB2 : Below w.heap.size w w2 := hb1.trans (hb2.mono hb1.size)
  refine (same_yes _ w2.heap.size A1 A h c1 c ys ((Hr1.out.below hb2).more hb2.size) ((Hr.out.below hB2).more hB2.size) (by omega)).mono ?_
  rintro e w3 ⟨rfl, hb3⟩
  have hB3 : Below w.heap.size w w3 := hB2.trans (hb3.mono hB2.size)
  go_wp2_with fail
  refine (CN.out _).mono ?_
  rintro e w' ⟨rfl, rfl⟩
  go_wp2_with fail
  refine (refform_any x hp _).mono ?_
  rintro e w4 ⟨A4, c4, rfl, hr4, hb4⟩
  have hB4 : Below w.heap.size w w4 := hB3.trans (hb4.mono hB3.size)
  have hb24 : Below w2.heap.size w2 w4 := hb3.trans (hb4.mono hb3.size)
  have hr2 : Rd w4 w4.heap.size A2 (h + (form x).length) (u8s (ys ++ form x)) := (Hr2.out.below hb24).more hb24.size
  have hr0 : Rd w4 w4.heap.size A h (u8s ys) := (Hr.out.below hB4).more hB4.size
  have H2 := Lib.hid hr2; have H0 := Lib.hid hr0; have H4 := Lib.hid hr4
  clear hr2 hr0 hr4 Hr2 Hr1 Hr hb24 hb4 hb3 hb2 hb1 hB2 hB3
  have hown4 : World.ownsRow (w4.alloc (.cells #[] 5)) w4.heap.size 5 1 (.slice (some ⟨w4.heap.size, 0, none⟩) 0 0) 0 [] := World.ownsRow_lit w4 #[] 0 (Nat.le_refl _) (by unfold maxLen; omega) rfl
  have Hown4 := Lib.hid hown4
  clear hown4
  go_wp2_with (first
    | (at_builtin; refine wpList_app_first _ rfl _ _ 22 rfl w4.heap.size 5 i0 (.int .u8 0) 1 Tryd.underlying22 hi hz0 hz1 hz2 rfl _ rfl Hown4.out _ A h c (u8s ys) rfl (H0.out.step (Nat.le_refl _) (Below.refl _ _)) (u8s_one _) (by unfold maxLen; omega) (by omega) (by simp) ?_; intro v5 w5 hown5 hg5; have Hg5 := Lib.hid hg5; have Hown5 := Lib.hid hown5; have hs5 := hg5.size; clear hown5 hg5)
    | (at_builtin; refine wpList_app_any _ rfl _ _ 22 rfl w4.heap.size 5 i0 (.int .u8 0) 1 Tryd.underlying22 hi hz0 hz1 hz2 rfl _ _ _ rfl Hown5.out w4.heap.size A4 _ c4 (u8s (form x)) rfl (H4.out.below (((Below.refl w4.heap.size w4).alloc (Nat.le_refl _) _).grown Hg5.out (by simp) (fun k e => by cases e; exact Nat.le_refl _))) (u8s_one _) (by unfold maxLen; omega) (by omega) (by simp at hs5; omega) ?_; intro v6 w6 hown6 hg6; have Hg6 := Lib.hid hg6; have Hown6 := Lib.hid hown6; clear hown6 hg6))
  obtain ⟨A6, c6, rfl, _⟩ := own_slice Hown6.out
  have hb5 : Below w4.heap.size w4 w5 := ((Below.refl w4.heap.size w4).alloc (Nat.le_refl _) _).grown Hg5.out (by simp) (fun k e => by cases e; exact Nat.le_refl _)
  have hb6 : Below w4.heap.size w4 w6 := hb5.grown Hg6.out hb5.size (fun k e => (Hown5.out.lt k e).1)
  have hr6 : Rd w6 w6.heap.size A6 (h + (form x).length) (u8s (ys ++ form x)) := by have := Rd.of_own Hown6.out; rwa [← u8s_append] at this
  refine (same_yes w6 _ A2 A6 (h + (form x).length) c2 c6 (ys ++ form x) ((H2.out.below hb6).more hb6.size) hr6 (by omega)).mono ?_
  rintro e w7 ⟨rfl, hb7⟩
  have hB7 : Below w.heap.size w w7 := (hB4.trans (hb6.mono hB4.size)).trans (hb7.mono (Nat.le_trans hB4.size hb6.size))
  clear hb7 hb6 hb5 hB4
  go_wp2_with fail
  go_ret
  exact ⟨rfl, hB7⟩
set_option maxRecDepth 100000 in
set_option maxHeartbeats 2000000 in
theorem tells_yes_gt (x y : Int) (hx : -9223372036854775808 ≤ x ∧ x ≤ 9223372036854775807) (hy : -9223372036854775808 ≤ y ∧ y ≤ 9223372036854775807) (hp : isPt x = true) (A : Option Addr) (n c : Nat) (ys : List Int) (hn : 100 < n) (hc : n ≤ c) (hc2 : c ≤ maxLen) (w : World) (hr : Rd w w.heap.size A 100 (u8s ys)) :
    Calls Tryd.prog 13 #[.int .i64 x, .int .i64 y, .slice A n c] w fun e w' => e = .returned (.bool true) ∧ Below w.heap.size w w' := by
  unfold maxLen at hc2
  have hn63 : n ≤ 9223372036854775807 := Nat.le_trans hc hc2
  obtain ⟨i0, hi, hz0, hz1, hz2⟩ := info_parts info5
  obtain ⟨hx0, hx1⟩ := hx
  obtain ⟨hy0, hy1⟩ := hy
  have Hr := Lib.hid hr
  clear hr
  have hmin : min (n : Int) 100 = (100 : Int) := by omega
  have hA := size_yes x hp
  rw [← form_length x] at hA
  have hfp := form_pos x
  have cP := pair_any x y; have cQ := refpair_any x y; have cS := split_any x; have cT := refsplit_any x
  have cN := refpoint_any x; have cM := point_any x
  rw [hp] at cN cM
  obtain ⟨pb0, pb1⟩ := pairR_bd x y
  obtain ⟨sb0, sb1⟩ := splitR_bd x
  generalize pairR x y = P2 at *
  generalize splitR x = S3 at *
  obtain ⟨p1, p2⟩ := P2
  obtain ⟨s1, s2, s3⟩ := S3
  dsimp only at *
  have CP := Lib.hid cP; have CQ := Lib.hid cQ; have CS := Lib.hid cS; have CT := Lib.hid cT; have CN := Lib.hid cN; have CM := Lib.hid cM; have CA := Lib.hid hA
  clear cP cQ cS cT cN cM hA
  clear hc2
  go_enter Tryd.func13, Tryd.ntmps13
  have hown0 : World.ownsRow (w.alloc (.cells #[] 5)) w.heap.size 5 1 (.slice (some ⟨w.heap.size, 0, none⟩) 0 0) 0 [] := World.ownsRow_lit w #[] 0 (Nat.le_refl _) (by unfold maxLen; omega) rfl
  have Hown0 := Lib.hid hown0
  clear hown0
  go_wp2_with (at_builtin; refine wpList_app_first _ rfl _ _ 22 rfl w.heap.size 5 i0 (.int .u8 0) 1 Tryd.underlying22 hi hz0 hz1 hz2 rfl _ rfl Hown0.out _ A 100 c (u8s ys) rfl (Hr.out.step (Nat.le_refl _) (Below.refl _ _)) (u8s_one _) (by unfold maxLen; omega) (by omega) (by simp) ?_; intro v1 w1 hown1 hg1)
  obtain ⟨A1, c1, rfl, hc1⟩ := own_slice hown1
  have hown1 := hown1
  have hb1 : Below w.heap.size w w1 := ((Below.refl w.heap.size w).alloc (Nat.le_refl _) _).grown hg1 (by simp) (fun k e => by cases e; exact Nat.le_refl _)
  have hr1 : Rd w1 w1.heap.size A1 100 (u8s ys) := Rd.of_own hown1
  have Hr1 := Lib.hid hr1
  clear hown1 hg1 Hown0 hr1
  refine (CA.out _).mono ?_
  rintro e w' ⟨rfl, rfl⟩
  go_wp2_with fail
  refine (append_new x hp A1 100 ys _ Hr1.out (by omega)).mono ?_
  rintro e w2 ⟨A2, c2, rfl, hr2, hb2⟩
  have Hr2 := Lib.hid hr2
  clear hr2
  go_wp2_with fail
  refine (CP.out _).mono ?_
  rintro e w' ⟨rfl, rfl⟩
  go_wp2_with fail
  refine (CQ.out _).mono ?_
  rintro e w' ⟨rfl, rfl⟩
  go_wp2_with fail
  refine (CS.out _).mono ?_
  rintro e w' ⟨rfl, rfl⟩
  go_wp2_with fail
  refine (CT.out _).mono ?_
  rintro e w' ⟨rfl, rfl⟩
  go_wp2_with fail
  refine (CM.out _).mono ?_
  rintro e w' ⟨rfl, rfl⟩
  go_wp2_with fail
  refine (CN.out _).mono ?_
  rintro e w' ⟨rfl, rfl⟩
  go_wp2_with fail
  have hB2 : Below w.heap.size w w2 := hb1.trans (hb2.mono hb1.size)
  refine (same_yes _ w2.heap.size A1 A 100 c1 c ys ((Hr1.out.below hb2).more hb2.size) ((Hr.out.below hB2).more hB2.size) (by omega)).mono ?_
  rintro e w3 ⟨rfl, hb3⟩
  have hB3 : Below w.heap.size w w3 := hB2.trans (hb3.mono hB2.size)
  go_wp2_with fail
  refine (CN.out _).mono ?_
  rintro e w' ⟨rfl, rfl⟩
  go_wp2_with fail
  refine (refform_any x hp _).mono ?_
  rintro e w4 ⟨A4, c4, rfl, hr4, hb4⟩
  have hB4 : Below w.heap.size w w4 := hB3.trans (hb4.mono hB3.size)
  have hb24 : Below w2.heap.size w2 w4 := hb3.trans (hb4.mono hb3.size)
  have hr2 : Rd w4 w4.heap.size A2 (100 + (form x).length) (u8s (ys ++ form x)) := (Hr2.out.below hb24).more hb24.size
  have hr0 : Rd w4 w4.heap.size A 100 (u8s ys) := (Hr.out.below hB4).more hB4.size
  have H2 := Lib.hid hr2; have H0 := Lib.hid hr0; have H4 := Lib.hid hr4
  clear hr2 hr0 hr4 Hr2 Hr1 Hr hb24 hb4 hb3 hb2 hb1 hB2 hB3
  have hown4 : World.ownsRow (w4.alloc (.cells #[] 5)) w4.heap.size 5 1 (.slice (some ⟨w4.heap.size, 0, none⟩) 0 0) 0 [] := World.ownsRow_lit w4 #[] 0 (Nat.le_refl _) (by unfold maxLen; omega) rfl
  have Hown4 := Lib.hid hown4
  clear hown4
  go_wp2_with (first
    | (at_builtin; refine wpList_app_first _ rfl _ _ 22 rfl w4.heap.size 5 i0 (.int .u8 0) 1 Tryd.underlying22 hi hz0 hz1 hz2 rfl _ rfl Hown4.out _ A 100 c (u8s ys) rfl (H0.out.step (Nat.le_refl _) (Below.refl _ _)) (u8s_one _) (by unfold maxLen; omega) (by omega) (by simp) ?_; intro v5 w5 hown5 hg5; have Hg5 := Lib.hid hg5; have Hown5 := Lib.hid hown5; have hs5 := hg5.size; clear hown5 hg5)
    | (at_builtin; refine wpList_app_any _ rfl _ _ 22 rfl w4.heap.size 5 i0 (.int .u8 0) 1 Tryd.underlying22 hi hz0 hz1 hz2 rfl _ _ _ rfl Hown5.out w4.heap.size A4 _ c4 (u8s (form x)) rfl (H4.out.below (((Below.refl w4.heap.size w4).alloc (Nat.le_refl _) _).grown Hg5.out (by simp) (fun k e => by cases e; exact Nat.le_refl _))) (u8s_one _) (by unfold maxLen; omega) (by omega) (by simp at hs5; omega) ?_; intro v6 w6 hown6 hg6; have Hg6 := Lib.hid hg6; have Hown6 := Lib.hid hown6; clear hown6 hg6))
  obtain ⟨A6, c6, rfl, _⟩ := own_slice Hown6.out
  have hb5 : Below w4.heap.size w4 w5 := ((Below.refl w4.heap.size w4).alloc (Nat.le_refl _) _).grown Hg5.out (by simp) (fun k e => by cases e; exact Nat.le_refl _)
  have hb6 : Below w4.heap.size w4 w6 := hb5.grown Hg6.out hb5.size (fun k e => (Hown5.out.lt k e).1)
  have hr6 : Rd w6 w6.heap.size A6 (100 + (form x).length) (u8s (ys ++ form x)) := by have := Rd.of_own Hown6.out; rwa [← u8s_append] at this
  refine (same_yes w6 _ A2 A6 (100 + (form x).length) c2 c6 (ys ++ form x) ((H2.out.below hb6).more hb6.size) hr6 (by omega)).mono ?_
  rintro e w7 ⟨rfl, hb7⟩
  have hB7 : Below w.heap.size w w7 := (hB4.trans (hb6.mono hB4.size)).trans (hb7.mono (Nat.le_trans hB4.size hb6.size))
  clear hb7 hb6 hb5 hB4
  go_wp2_with fail
  go_ret
  exact ⟨rfl, hB7⟩
set_option maxRecDepth 100000 in
set_option maxHeartbeats 2000000 in
theorem tells_no_le (x y : Int) (hx : -9223372036854775808 ≤ x ∧ x ≤ 9223372036854775807) (hy : -9223372036854775808 ≤ y ∧ y ≤ 9223372036854775807) (hp : isPt x = false) (A : Option Addr) (h c : Nat) (ys : List Int) (hn : h ≤ 100) (hc : h ≤ c) (hc2 : c ≤ maxLen) (w : World) (hr : Rd w w.heap.size A h (u8s ys)) :
    Calls Tryd.prog 13 #[.int .i64 x, .int .i64 y, .slice A h c] w fun e w' => e = .returned (.bool true) ∧ Below w.heap.size w w' := by
  unfold maxLen at hc2
  have hn63 : h ≤ 9223372036854775807 := Nat.le_trans hc hc2
  obtain ⟨i0, hi, hz0, hz1, hz2⟩ := info_parts info5
  obtain ⟨hx0, hx1⟩ := hx
  obtain ⟨hy0, hy1⟩ := hy
  have Hr := Lib.hid hr
  clear hr
  have hmin : min (h : Int) 100 = (h : Int) := by omega
  have hA := size_no x hp
  have cP := pair_any x y; have cQ := refpair_any x y; have cS := split_any x; have cT := refsplit_any x
  have cN := refpoint_any x; have cM := point_any x
  rw [hp] at cN cM
  obtain ⟨pb0, pb1⟩ := pairR_bd x y
  obtain ⟨sb0, sb1⟩ := splitR_bd x
  generalize pairR x y = P2 at *
  generalize splitR x = S3 at *
  obtain ⟨p1, p2⟩ := P2
  obtain ⟨s1, s2, s3⟩ := S3
  dsimp only at *
  have CP := Lib.hid cP; have CQ := Lib.hid cQ; have CS := Lib.hid cS; have CT := Lib.hid cT; have CN := Lib.hid cN; have CM := Lib.hid cM; have CA := Lib.hid hA
  clear cP cQ cS cT cN cM hA
  clear hc2
  go_enter Tryd.func13, Tryd.ntmps13
  have hown0 : World.ownsRow (w.alloc (.cells #[] 5)) w.heap.size 5 1 (.slice (some ⟨w.heap.size, 0, none⟩) 0 0) 0 [] := World.ownsRow_lit w #[] 0 (Nat.le_refl _) (by unfold maxLen; omega) rfl
  have Hown0 := Lib.hid hown0
  clear hown0
  go_wp2_with (at_builtin; refine wpList_app_first _ rfl _ _ 22 rfl w.heap.size 5 i0 (.int .u8 0) 1 Tryd.underlying22 hi hz0 hz1 hz2 rfl _ rfl Hown0.out _ A h c (u8s ys) rfl (Hr.out.step (Nat.le_refl _) (Below.refl _ _)) (u8s_one _) (by unfold maxLen; omega) (by omega) (by simp) ?_; intro v1 w1 hown1 hg1)
  obtain ⟨A1, c1, rfl, hc1⟩ := own_slice hown1
  have hown1 := hown1
  have hb1 : Below w.heap.size w w1 := ((Below.refl w.heap.size w).alloc (Nat.le_refl _) _).grown hg1 (by simp) (fun k e => by cases e; exact Nat.le_refl _)
  have hr1 : Rd w1 w1.heap.size A1 h (u8s ys) := Rd.of_own hown1
  have Hr1 := Lib.hid hr1
  clear hown1 hg1 Hown0 hr1
  refine (CA.out _).mono ?_
  rintro e w' ⟨rfl, rfl⟩
  go_wp2_with fail
  refine (append_no x hp _ w1).mono ?_
  rintro e w2 ⟨rfl, rfl⟩
  have hb2 := Below.refl w1.heap.size w1
  have hr1' := Hr1.out
  go_wp2_with fail
  refine (CP.out _).mono ?_
  rintro e w' ⟨rfl, rfl⟩
  go_wp2_with fail
  refine (CQ.out _).mono ?_
  rintro e w' ⟨rfl, rfl⟩
  go_wp2_with fail
  refine (CS.out _).mono ?_
  rintro e w' ⟨rfl, rfl⟩
  go_wp2_with fail
  refine (CT.out _).mono ?_
  rintro e w' ⟨rfl, rfl⟩
  go_wp2_with fail
  refine (CM.out _).mono ?_
  rintro e w' ⟨rfl, rfl⟩
  go_wp2_with fail
  refine (CN.out _).mono ?_
  rintro e w' ⟨rfl, rfl⟩
  go_wp2_with fail
  have hB2 : Below w.heap.size w w1 := hb1.trans (hb2.mono hb1.size)
  refine (same_yes _ w1.heap.size A1 A h c1 c ys ((Hr1.out.below hb2).more hb2.size) ((Hr.out.below hB2).more hB2.size) (by omega)).mono ?_
  rintro e w3 ⟨rfl, hb3⟩
  have hB3 : Below w.heap.size w w3 := hB2.trans (hb3.mono hB2.size)
  go_wp2_with fail
  refine (CN.out _).mono ?_
  rintro e w' ⟨rfl, rfl⟩
  go_wp2_with fail
  go_ret
  exact ⟨rfl, hB3⟩
set_option maxRecDepth 100000 in
set_option maxHeartbeats 2000000 in
theorem tells_no_gt (x y : Int) (hx : -9223372036854775808 ≤ x ∧ x ≤ 9223372036854775807) (hy : -9223372036854775808 ≤ y ∧ y ≤ 9223372036854775807) (hp : isPt x = false) (A : Option Addr) (n c : Nat) (ys : List Int) (hn : 100 < n) (hc : n ≤ c) (hc2 : c ≤ maxLen) (w : World) (hr : Rd w w.heap.size A 100 (u8s ys)) :
    Calls Tryd.prog 13 #[.int .i64 x, .int .i64 y, .slice A n c] w fun e w' => e = .returned (.bool true) ∧ Below w.heap.size w w' := by
  unfold maxLen at hc2
  have hn63 : n ≤ 9223372036854775807 := Nat.le_trans hc hc2
  obtain ⟨i0, hi, hz0, hz1, hz2⟩ := info_parts info5
  obtain ⟨hx0, hx1⟩ := hx
  obtain ⟨hy0, hy1⟩ := hy
  have Hr := Lib.hid hr
  clear hr
  have hmin : min (n : Int) 100 = (100 : Int) := by omega
  have hA := size_no x hp
  have cP := pair_any x y; have cQ := refpair_any x y; have cS := split_any x; have cT := refsplit_any x
  have cN := refpoint_any x; have cM := point_any x
  rw [hp] at cN cM
  obtain ⟨pb0, pb1⟩ := pairR_bd x y
  obtain ⟨sb0, sb1⟩ := splitR_bd x
  generalize pairR x y = P2 at *
  generalize splitR x = S3 at *
  obtain ⟨p1, p2⟩ := P2
  obtain ⟨s1, s2, s3⟩ := S3
  dsimp only at *
  have CP := Lib.hid cP; have CQ := Lib.hid cQ; have CS := Lib.hid cS; have CT := Lib.hid cT; have CN := Lib.hid cN; have CM := Lib.hid cM; have CA := Lib.hid hA
  clear cP cQ cS cT cN cM hA
  clear hc2
  go_enter Tryd.func13, Tryd.ntmps13
  have hown0 : World.ownsRow (w.alloc (.cells #[] 5)) w.heap.size 5 1 (.slice (some ⟨w.heap.size, 0, none⟩) 0 0) 0 [] := World.ownsRow_lit w #[] 0 (Nat.le_refl _) (by unfold maxLen; omega) rfl
  have Hown0 := Lib.hid hown0
  clear hown0
  go_wp2_with (at_builtin; refine wpList_app_first _ rfl _ _ 22 rfl w.heap.size 5 i0 (.int .u8 0) 1 Tryd.underlying22 hi hz0 hz1 hz2 rfl _ rfl Hown0.out _ A 100 c (u8s ys) rfl (Hr.out.step (Nat.le_refl _) (Below.refl _ _)) (u8s_one _) (by unfold maxLen; omega) (by omega) (by simp) ?_; intro v1 w1 hown1 hg1)
  obtain ⟨A1, c1, rfl, hc1⟩ := own_slice hown1
  have hown1 := hown1
  have hb1 : Below w.heap.size w w1 := ((Below.refl w.heap.size w).alloc (Nat.le_refl _) _).grown hg1 (by simp) (fun k e => by cases e; exact Nat.le_refl _)
  have hr1 : Rd w1 w1.heap.size A1 100 (u8s ys) := Rd.of_own hown1
  have Hr1 := Lib.hid hr1
  clear hown1 hg1 Hown0 hr1
  refine (CA.out _).mono ?_
  rintro e w' ⟨rfl, rfl⟩
  go_wp2_with fail
  refine (append_no x hp _ w1).mono ?_
  rintro e w2 ⟨rfl, rfl⟩
  have hb2 := Below.refl w1.heap.size w1
  have hr1' := Hr1.out
  go_wp2_with fail
  refine (CP.out _).mono ?_
  rintro e w' ⟨rfl, rfl⟩
  go_wp2_with fail
  refine (CQ.out _).mono ?_
  rintro e w' ⟨rfl, rfl⟩
  go_wp2_with fail
  refine (CS.out _).mono ?_
  rintro e w' ⟨rfl, rfl⟩
  go_wp2_with fail
  refine (CT.out _).mono ?_
  rintro e w' ⟨rfl, rfl⟩
  go_wp2_with fail
  refine (CM.out _).mono ?_
  rintro e w' ⟨rfl, rfl⟩
  go_wp2_with fail
  refine (CN.out _).mono ?_
  rintro e w' ⟨rfl, rfl⟩
  go_wp2_with fail
  have hB2 : Below w.heap.size w w1 := hb1.trans (hb2.mono hb1.size)
  refine (same_yes _ w1.heap.size A1 A 100 c1 c ys ((Hr1.out.below hb2).more hb2.size) ((Hr.out.below hB2).more hB2.size) (by omega)).mono ?_
  rintro e w3 ⟨rfl, hb3⟩
  have hB3 : Below w.heap.size w w3 := hB2.trans (hb3.mono hB2.size)
  go_wp2_with fail
  refine (CN.out _).mono ?_
  rintro e w' ⟨rfl, rfl⟩
  go_wp2_with fail
  go_ret
  exact ⟨rfl, hB3⟩
/-- TELLS: yes. -/
theorem tells_any (x y : Int) (hx : -9223372036854775808 ≤ x ∧ x ≤ 9223372036854775807) (hy : -9223372036854775808 ≤ y ∧ y ≤ 9223372036854775807) (A : Option Addr) (n c : Nat) (zs : List Int) (hc : n ≤ c) (hc2 : c ≤ maxLen) (w : World) (hr : Rd w w.heap.size A n (u8s zs)) :
    Calls Tryd.prog 13 #[.int .i64 x, .int .i64 y, .slice A n c] w fun e w' => e = .returned (.bool true) ∧ Below w.heap.size w w' := by
  cases hp : isPt x
  · by_cases h : n ≤ 100
    · exact tells_no_le x y hx hy hp A n c zs h hc hc2 w hr
    · exact tells_no_gt x y hx hy hp A n c (zs.take 100) (by omega) hc hc2 w (hr.take (k := .u8) 100 (by omega))
  · by_cases h : n ≤ 100
    · exact tells_yes_le x y hx hy hp A n c zs h hc hc2 w hr
    · exact tells_yes_gt x y hx hy hp A n c (zs.take 100) (by omega) hc hc2 w (hr.take (k := .u8) 100 (by omega))
end Go.Proofs.YtdgpbminmlpebaaDoor
