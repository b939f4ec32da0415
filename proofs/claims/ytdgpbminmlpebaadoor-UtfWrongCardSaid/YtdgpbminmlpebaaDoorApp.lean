/-
  append of what came in onto a slice of one's own; Append of package utf onto a slice without room.
-/
import Derived.Test.YtdgpbminmlpebaaDoorUtfB
import Derived.Deep.AppendLies
import Derived.RegionTactic
import Derived.OwnWalk
namespace Go.Proofs.YtdgpbminmlpebaaDoor
open Go.RowKit Mt
section
variable {P : Program} (w : World)
theorem run_app_nil (base : Nat) (t ty e : TypeId) (i : TypeInfo) (ht : P.underlying t = some (.slice e)) (hi : P.info? e = some i)
    (v : Value) (n : Nat) (xs : List Value) (hown : w.ownsRow base e 1 v n xs) (c : Nat) : (Builtin.append_ #[t, t] ty #[v, .slice none 0 c]).run P w = .ok v w := by
  rcases hown.2 with ⟨rfl, rfl⟩ | ⟨g, cap, cur, rfl, _, _, hnc, _⟩
  · simp [Builtin.append_, run_underlying ht, sizeOf, typeInfo, hi, Builtin.lenOf, Builtin.firstCells]
  · simp [Builtin.append_, run_underlying ht, sizeOf, typeInfo, hi, Builtin.lenOf, Builtin.firstCells, hnc, storeCells]
/-- append, the source nil, empty or not. -/
theorem run_app_any (base : Nat) (t ty e : TypeId) (i : TypeInfo) (z : Value) (bytes : Nat) (ht : P.underlying t = some (.slice e)) (hi : P.info? e = some i) (hz : i.zero = some z)
    (hsize : i.size = 1) (hby : i.bytes = bytes) (hzs : z.cells.size = 1)
    (v : Value) (n : Nat) (xs : List Value) (hown : w.ownsRow base e 1 v n xs)
    (B : Nat) (A : Option Addr) (m c : Nat) (news : List Value) (hr : Rd w B A m news) (h1 : ∀ u ∈ news, u.oneCell' = true)
    (h63 : n + m ≤ maxLen) (hbytes : (n + m) * bytes ≤ 140737488355328) (hbase : base ≤ w.heap.size) :
    ∃ v' w', (Builtin.append_ #[t, t] ty #[v, .slice A m c]).run P w = .ok v' w' ∧ w'.ownsRow base e 1 v' (n + m) (xs ++ news) ∧ w.grownBy w' v.ownBlock := by
  have hlen := hr.1
  rcases A with _ | ad
  · have hm : m = 0 := by
      rcases Nat.eq_zero_or_pos m with h0 | h0
      · exact h0
      · obtain ⟨ad, h, _⟩ := hr.2 h0
        cases h
    subst hm
    obtain rfl := List.eq_nil_of_length_eq_zero hlen
    exact ⟨v, w, run_app_nil w base t ty e i ht hi v n xs hown c, by simpa using hown, World.grownBy.refl w _⟩
  · have hcells : ∀ j u, news[j]? = some u → w.cell? (ad.add j) = some u := by
      intro j u hu
      rcases Nat.eq_zero_or_pos m with h0 | h0
      · subst h0
        obtain rfl := List.eq_nil_of_length_eq_zero hlen
        simp at hu
      · obtain ⟨ad', h, _, hc⟩ := hr.2 h0
        injection h with h
        subst h
        exact hc j u hu
    obtain ⟨v', w', hrun, h2, h3, _⟩ := run_append_own (P := P) w base t ty e i z 1 bytes ht hi hz hsize hby hzs (by decide) v n xs hown ad m c news (by omega) hcells h1 h63 hbytes hbase
    exact ⟨v', w', hrun, h2, h3⟩
/-- An operation whose guard says yes, or that has none. -/
theorem wpList_if {ops : Array Oper} {rest : List Oper} {o : Oper} {a : Act} {Q : Exit → Act → World → Prop} (hw : Region.wanted o (yielded ops a.tmps) = true)
    (h : ∀ K : Act → World → Prop, (∀ a w, wpList P ops Q rest a w → K a w) → o.wp P a w K Q) : wpList P ops Q (o :: rest) a w :=
  wpList_step fun K hK => by rw [if_pos hw]; exact h K hK
theorem wpList_app_any {ops : Array Oper} {rest : List Oper} {o : Oper} {a : Act} {Q : Exit → Act → World → Prop} (hgd : Region.wanted o (yielded ops a.tmps) = true) (s x : Operand) (t : TypeId)
    (ho : o.op = .call { callee := .builtin .append, args := #[s, x], argTypes := #[t, t] })
    (base : Nat) (e : TypeId) (i : TypeInfo) (z : Value) (bytes : Nat) (ht : P.underlying t = some (.slice e)) (hi : P.info? e = some i) (hz : i.zero = some z)
    (hsize : i.size = 1) (hby : i.bytes = bytes) (hzs : z.cells.size = 1)
    (v : Value) (n : Nat) (xs : List Value) (hs : a.eval s = v) (hown : w.ownsRow base e 1 v n xs)
    (B : Nat) (A : Option Addr) (m c : Nat) (news : List Value) (hx : a.eval x = .slice A m c) (hr : Rd w B A m news) (h1 : ∀ u ∈ news, u.oneCell' = true)
    (h63 : n + m ≤ maxLen) (hbytes : (n + m) * bytes ≤ 140737488355328) (hbase : base ≤ w.heap.size)
    (h : ∀ v' w', w'.ownsRow base e 1 v' (n + m) (xs ++ news) → w.grownBy w' v.ownBlock → wpList P ops Q rest (a.put o.dst v') w') : wpList P ops Q (o :: rest) a w := by
  refine wpList_if w hgd fun K hK => ?_
  obtain ⟨v', w', hrun, h2, h3⟩ := run_app_any (P := P) w base t o.type e i z bytes ht hi hz hsize hby hzs v n xs hown B A m c news hr h1 h63 hbytes hbase
  unfold Oper.wp execOp
  simp only [ho, resolve, invoke, builtin, Sem.run_bind, Sem.run_pure, Result.andThen_ok, List.map_toArray, List.map_cons, List.map_nil, hs, hx, hrun]
  exact hK _ _ (h v' w' h2 h3)
end
theorem Rd.holds {w : World} {B n : Nat} {A : Option Addr} {xs : List Value} (h : Rd w B A n xs) (hB : B ≤ w.heap.size) (o : Obj) : ∀ b, A = some b → ∀ j u, xs[j]? = some u → (w.alloc o).cell? (b.add j) = some u := by
  intro b hb j u hu
  have hj := (List.getElem?_eq_some_iff.1 hu).1
  obtain ⟨ad, e, hlt, hc⟩ := h.2 (by have := h.1; omega)
  rw [e] at hb
  obtain rfl := Option.some.inj hb
  rw [World.cell?_alloc_lt _ _ _ (by rw [addBlock]; omega)]
  exact hc j u hu
theorem Rd.none_zero {w : World} {B n : Nat} {A : Option Addr} {xs : List Value} (h : Rd w B A n xs) : A = none → n = 0 ∧ n = 0 := by
  intro e
  rcases Nat.eq_zero_or_pos n with h0 | h0
  · exact ⟨h0, h0⟩
  · obtain ⟨ad, e', _⟩ := h.2 h0
    rw [e] at e'; cases e'
/-- The form of x has come behind the bytes xs, in new memory. -/
def AppNew (x : Int) (n : Nat) (xs : List Int) (w : World) (e : Ending) (w' : World) : Prop :=
  ∃ A c, e = .returned (.tuple #[.slice A (n + (form x).length) c, .int .i64 0]) ∧ Rd w' w'.heap.size A (n + (form x).length) (u8s (xs ++ form x)) ∧ Below w.heap.size w w'
theorem appNew_mk {x : Int} {n : Nat} {xs l : List Int} {w w1 w' : World} {v : Value} {base : Nat} (k : Nat) (hl : form x = l) (hk : l.length = k) (hown : w'.ownsRow base 5 1 v (n + k) (u8s xs ++ u8s l)) (h1 : w.grownBy w1 none) (h2 : w1.grownBy w' none) :
    AppNew x n xs w (.returned (.tuple #[v, .int .i64 0])) w' := by
  subst hl hk
  rw [← u8s_append] at hown
  obtain ⟨A, c, rfl, _⟩ := own_slice hown
  exact ⟨A, c, rfl, Rd.of_own hown, (Below.refl _ _).grown (h1.trans h2) (Nat.le_refl _) (fun k e => by cases e)⟩
set_option maxHeartbeats 400000 in
theorem append_new1 (x : Int) (h : isPt x = true) (h1 : x < 128) (A : Option Addr) (n : Nat) (xs : List Int) (w : World) (hr : Rd w w.heap.size A n (u8s xs)) (hn : n ≤ 140737488351232) :
    Calls Tryd.prog 32 #[.slice A n n, .int .i64 x] w (AppNew x n xs w) := by
  have hd := isPt_bd h
  obtain ⟨i0, hi, hz0, hz1, hz2⟩ := info_parts info5
  have hf : form x = [x] := form_1 h1
  have Hf := Lib.hid hf
  have hs : szP x = 1 := szP_1 h1
  have hc := size_yes x h w
  rw [hs] at hc
  have Hr := Lib.hid hr
  clear hs hf hr
  go_enter Tryd.func32, Tryd.ntmps32
  go_wp2_with (first
      | (go_at_call 27; refine hc.mono ?_; rintro e w' ⟨rfl, rfl⟩; clear hc)
      | (go_at_call 50; refine (tail_any _ (by omega) _).mono ?_; rintro e w' ⟨rfl, rfl⟩)
      | (at_builtin; refine wpList_append_grows _ rfl _ _ 22 rfl 5 i0 (.int .u8 0) 1 1 Tryd.underlying22 hi hz0 hz1 hz2 rfl (by decide) A n n (u8s xs) rfl Hr.out.none_zero (by rw [Hr.out.1, Nat.mul_one]) (Hr.out.holds (Nat.le_refl _) _) ⟨w.heap.size, 0, none⟩ 1 1 (u8s [x]) rfl rfl (cells_new _ _ _) (u8s_one _) (by omega) (by unfold maxLen; omega) (by omega) ?_; intro v' w1 hown1 hgrow1))
  go_ret2
  exact appNew_mk 1 Hf.out rfl hown1 (World.grownBy_alloc _ _ _) hgrow1

set_option maxHeartbeats 400000 in
theorem append_new2 (x : Int) (h : isPt x = true) (h1 : ¬ x < 128 ∧ x < 2048) (A : Option Addr) (n : Nat) (xs : List Int) (w : World) (hr : Rd w w.heap.size A n (u8s xs)) (hn : n ≤ 140737488351232) :
    Calls Tryd.prog 32 #[.slice A n n, .int .i64 x] w (AppNew x n xs w) := by
  have hd := isPt_bd h
  obtain ⟨i0, hi, hz0, hz1, hz2⟩ := info_parts info5
  have hf : form x = [192 + x / 64, 128 + x % 64] := form_2 (by omega) (by omega)
  have Hf := Lib.hid hf
  have hs : szP x = 2 := szP_2 (by omega) (by omega)
  have hc := size_yes x h w
  rw [hs] at hc
  have Hr := Lib.hid hr
  clear hs hf hr
  have a1 : 0 ≤ x / 64 := by omega
  have a2 : x / 64 < 32 := by omega
  go_enter Tryd.func32, Tryd.ntmps32
  go_wp2_with (first
      | (go_at_call 27; refine hc.mono ?_; rintro e w' ⟨rfl, rfl⟩; clear hc)
      | (go_at_call 50; refine (tail_any _ (by omega) _).mono ?_; rintro e w' ⟨rfl, rfl⟩)
      | (at_builtin; refine wpList_append_grows _ rfl _ _ 22 rfl 5 i0 (.int .u8 0) 1 1 Tryd.underlying22 hi hz0 hz1 hz2 rfl (by decide) A n n (u8s xs) rfl Hr.out.none_zero (by rw [Hr.out.1, Nat.mul_one]) (Hr.out.holds (Nat.le_refl _) _) ⟨w.heap.size, 0, none⟩ 2 2 (u8s [192 + x / 64, 128 + x % 64]) rfl rfl (cells_new _ _ _) (u8s_one _) (by omega) (by unfold maxLen; omega) (by omega) ?_; intro v' w1 hown1 hgrow1))
  go_ret2
  exact appNew_mk 2 Hf.out rfl hown1 (World.grownBy_alloc _ _ _) hgrow1

set_option maxHeartbeats 400000 in
theorem append_new3 (x : Int) (h : isPt x = true) (h1 : ¬ x < 2048 ∧ x < 65536) (A : Option Addr) (n : Nat) (xs : List Int) (w : World) (hr : Rd w w.heap.size A n (u8s xs)) (hn : n ≤ 140737488351232) :
    Calls Tryd.prog 32 #[.slice A n n, .int .i64 x] w (AppNew x n xs w) := by
  have hd := isPt_bd h
  obtain ⟨i0, hi, hz0, hz1, hz2⟩ := info_parts info5
  have hf : form x = [224 + x / 4096, 128 + x / 64 % 64, 128 + x % 64] := form_3 (by omega) (by omega)
  have Hf := Lib.hid hf
  have hs : szP x = 3 := szP_3 (by omega) (by omega)
  have hc := size_yes x h w
  rw [hs] at hc
  have Hr := Lib.hid hr
  clear hs hf hr
  have a1 : 0 ≤ x / 64 := by omega
  have a3 : 0 ≤ x / 4096 := by omega
  have a4 : x / 4096 < 16 := by omega
  go_enter Tryd.func32, Tryd.ntmps32
  go_wp2_with (first
      | (go_at_call 27; refine hc.mono ?_; rintro e w' ⟨rfl, rfl⟩; clear hc)
      | (go_at_call 50; refine (tail_any _ (by omega) _).mono ?_; rintro e w' ⟨rfl, rfl⟩)
      | (at_builtin; refine wpList_append_grows _ rfl _ _ 22 rfl 5 i0 (.int .u8 0) 1 1 Tryd.underlying22 hi hz0 hz1 hz2 rfl (by decide) A n n (u8s xs) rfl Hr.out.none_zero (by rw [Hr.out.1, Nat.mul_one]) (Hr.out.holds (Nat.le_refl _) _) ⟨w.heap.size, 0, none⟩ 3 3 (u8s [224 + x / 4096, 128 + x / 64 % 64, 128 + x % 64]) rfl rfl (cells_new _ _ _) (u8s_one _) (by omega) (by unfold maxLen; omega) (by omega) ?_; intro v' w1 hown1 hgrow1))
  go_ret2
  exact appNew_mk 3 Hf.out rfl hown1 (World.grownBy_alloc _ _ _) hgrow1

set_option maxHeartbeats 400000 in
theorem append_new4 (x : Int) (h : isPt x = true) (h1 : ¬ x < 65536) (A : Option Addr) (n : Nat) (xs : List Int) (w : World) (hr : Rd w w.heap.size A n (u8s xs)) (hn : n ≤ 140737488351232) :
    Calls Tryd.prog 32 #[.slice A n n, .int .i64 x] w (AppNew x n xs w) := by
  have hd := isPt_bd h
  obtain ⟨i0, hi, hz0, hz1, hz2⟩ := info_parts info5
  have hf : form x = [240 + x / 262144, 128 + x / 4096 % 64, 128 + x / 64 % 64, 128 + x % 64] := form_4 (by omega)
  have Hf := Lib.hid hf
  have hs : szP x = 4 := szP_4 (by omega)
  have hc := size_yes x h w
  rw [hs] at hc
  have Hr := Lib.hid hr
  clear hs hf hr
  have a1 : 0 ≤ x / 64 := by omega
  have a3 : 0 ≤ x / 4096 := by omega
  have a4 : 0 ≤ x / 262144 := by omega
  have a5 : x / 262144 < 8 := by omega
  go_enter Tryd.func32, Tryd.ntmps32
  go_wp2_with (first
      | (go_at_call 27; refine hc.mono ?_; rintro e w' ⟨rfl, rfl⟩; clear hc)
      | (go_at_call 50; refine (tail_any _ (by omega) _).mono ?_; rintro e w' ⟨rfl, rfl⟩)
      | (at_builtin; refine wpList_append_grows _ rfl _ _ 22 rfl 5 i0 (.int .u8 0) 1 1 Tryd.underlying22 hi hz0 hz1 hz2 rfl (by decide) A n n (u8s xs) rfl Hr.out.none_zero (by rw [Hr.out.1, Nat.mul_one]) (Hr.out.holds (Nat.le_refl _) _) ⟨w.heap.size, 0, none⟩ 4 4 (u8s [240 + x / 262144, 128 + x / 4096 % 64, 128 + x / 64 % 64, 128 + x % 64]) rfl rfl (cells_new _ _ _) (u8s_one _) (by omega) (by unfold maxLen; omega) (by omega) ?_; intro v' w1 hown1 hgrow1))
  go_ret2
  exact appNew_mk 4 Hf.out rfl hown1 (World.grownBy_alloc _ _ _) hgrow1

theorem append_new (x : Int) (h : isPt x = true) (A : Option Addr) (n : Nat) (xs : List Int) (w : World) (hr : Rd w w.heap.size A n (u8s xs)) (hn : n ≤ 140737488351232) :
    Calls Tryd.prog 32 #[.slice A n n, .int .i64 x] w (AppNew x n xs w) := by
  by_cases h1 : x < 128
  · exact append_new1 x h h1 A n xs w hr hn
  · by_cases h2 : x < 2048
    · exact append_new2 x h ⟨h1, h2⟩ A n xs w hr hn
    · by_cases h3 : x < 65536
      · exact append_new3 x h ⟨h2, h3⟩ A n xs w hr hn
      · exact append_new4 x h h3 A n xs w hr hn
theorem refpoint_any (x : Int) (w : World) :
    Calls Tryd.prog 36 #[.int .i64 x] w fun e w' => e = .returned (.bool (isPt x)) ∧ w = w' := by
  by_cases h1 : 0 ≤ x
  · by_cases h2 : x < 55296
    · have h3 : ¬ 57343 < x := by omega
      have h4 : x < 1114112 := by omega
      go_enter Tryd.func36, Tryd.ntmps36
      go_wp2
      go_ret
      exact ⟨by rw [isPt_mk (by omega)]; rfl, rfl⟩
    · by_cases h3 : 57343 < x
      · by_cases h4 : x < 1114112
        · go_enter Tryd.func36, Tryd.ntmps36
          go_wp2
          go_ret
          exact ⟨by rw [isPt_mk (by omega)]; rfl, rfl⟩
        · have h5 : (decide (x < 1114112)) = false := decide_eq_false h4
          go_enter Tryd.func36, Tryd.ntmps36
          go_wp2
          go_ret
          exact ⟨by rw [isPt_not (by omega)]; rfl, rfl⟩
      · have h4 : x < 1114112 := by omega
        go_enter Tryd.func36, Tryd.ntmps36
        go_wp2
        go_ret
        exact ⟨by rw [isPt_not (by omega)]; rfl, rfl⟩
  · have h2 : x < 55296 := by omega
    have h3 : ¬ 57343 < x := by omega
    have h4 : x < 1114112 := by omega
    go_enter Tryd.func36, Tryd.ntmps36
    go_wp2
    go_ret
    exact ⟨by rw [isPt_not (by omega)]; rfl, rfl⟩
theorem refpair_yes (h l : Int) (k : 55296 ≤ h ∧ h < 56320 ∧ 56320 ≤ l ∧ l ≤ 57343) (w : World) :
    Calls Tryd.prog 34 #[.int .i64 h, .int .i64 l] w fun e w' => e = .returned (.tuple #[.int .i64 (65536 + 1024 * (h - 55296) + l - 56320), .int .i64 0]) ∧ w = w' := by
  obtain ⟨h1, h2, h3, h4⟩ := k
  go_enter Tryd.func34, Tryd.ntmps34
  go_wp2
  go_ret2
  exact ⟨rfl, rfl⟩
theorem refpair_no (h l : Int) (k : ¬ (55296 ≤ h ∧ h < 56320 ∧ 56320 ≤ l ∧ l ≤ 57343)) (w : World) :
    Calls Tryd.prog 34 #[.int .i64 h, .int .i64 l] w fun e w' => e = .returned (.tuple #[.int .i64 0, .int .i64 2]) ∧ w = w' := by
  by_cases h1 : h < 55296
  · clear k
    go_enter Tryd.func34, Tryd.ntmps34
    go_wp2
    go_ret2
    exact ⟨rfl, rfl⟩
  · by_cases h2 : 56320 ≤ h
    · clear k
      go_enter Tryd.func34, Tryd.ntmps34
      go_wp2
      go_ret2
      exact ⟨rfl, rfl⟩
    · by_cases h3 : l < 56320
      · clear k
        go_enter Tryd.func34, Tryd.ntmps34
        go_wp2
        go_ret2
        exact ⟨rfl, rfl⟩
      · have h4 : 57343 < l := by omega
        clear k
        go_enter Tryd.func34, Tryd.ntmps34
        go_wp2
        go_ret2
        exact ⟨rfl, rfl⟩

theorem refsplit_yes (x : Int) (h1 : 65536 ≤ x) (h2 : x ≤ 1114111) (w : World) :
    Calls Tryd.prog 35 #[.int .i64 x] w fun e w' => e = .returned (.tuple #[.int .i64 (55296 + (x - 65536) / 1024), .int .i64 (56320 + (x - 65536) % 1024), .int .i64 0]) ∧ w = w' := by
  have a0 : 0 ≤ x - 65536 := by omega
  have a1 : (x - 65536) / 1024 < 1024 := by omega
  have a2 : 0 ≤ (x - 65536) / 1024 := by omega
  have a3 : (x - 65536) % 1024 < 1024 := by omega
  have a4 : 0 ≤ (x - 65536) % 1024 := by omega
  go_enter Tryd.func35, Tryd.ntmps35
  go_wp2
  go_ret3
  exact ⟨rfl, rfl⟩
theorem refsplit_no (x : Int) (h : x < 65536 ∨ 1114111 < x) (w : World) :
    Calls Tryd.prog 35 #[.int .i64 x] w fun e w' => e = .returned (.tuple #[.int .i64 0, .int .i64 0, .int .i64 2]) ∧ w = w' := by
  by_cases h1 : x < 65536
  · clear h
    go_enter Tryd.func35, Tryd.ntmps35
    go_wp2
    go_ret3
    exact ⟨rfl, rfl⟩
  · have h2 : 1114111 < x := by omega
    clear h
    go_enter Tryd.func35, Tryd.ntmps35
    go_wp2
    go_ret3
    exact ⟨rfl, rfl⟩
/-- The form of x, in new memory. -/
def FormOk (x : Int) (w : World) (e : Ending) (w' : World) : Prop := ∃ A c, e = .returned (.slice A (form x).length c) ∧ Rd w' w'.heap.size A (form x).length (u8s (form x)) ∧ Below w.heap.size w w'
/-- .. at the beginning of a block. -/
def FormG (x : Int) (w : World) (e : Ending) (w' : World) : Prop := ∃ g c, e = .returned (.slice (some ⟨g, 0, none⟩) (form x).length c) ∧ Rd w' w'.heap.size (some ⟨g, 0, none⟩) (form x).length (u8s (form x)) ∧ Below w.heap.size w w'
theorem rdNew (w : World) (l : List Value) (t : TypeId) : Rd (w.alloc (.cells l.toArray t)) (w.alloc (.cells l.toArray t)).heap.size (some ⟨w.heap.size, 0, none⟩) l.length l :=
  ⟨rfl, fun _ => ⟨_, rfl, by simp, cells_new w l t⟩⟩
theorem formOk_mk {x : Int} {w : World} (l : List Int) (hl : form x = l) : FormG x w (.returned (.slice (some ⟨w.heap.size, 0, none⟩) l.length l.length)) (w.alloc (.cells (u8s l).toArray 5)) := by
  subst hl
  have := rdNew w (u8s (form x)) 5
  rw [u8s_length] at this
  exact ⟨_, _, rfl, this, (Below.refl _ _).alloc (Nat.le_refl _) _⟩
theorem refform1 (x : Int) (h : isPt x = true) (h1 : x < 128) (w : World) : Calls Tryd.prog 38 #[.int .i64 x] w (FormG x w) := by
  have hd := isPt_bd h
  have Hf := Lib.hid (show form x = [x] from form_1 h1)
  have q1 : 0 ≤ x % 64 := by omega
  have q2 : x % 64 < 64 := by omega
  have q3 : 0 ≤ x / 64 % 64 := by omega
  have q4 : x / 64 % 64 < 64 := by omega
  have q5 : 0 ≤ x / 4096 % 64 := by omega
  have q6 : x / 4096 % 64 < 64 := by omega
  go_enter Tryd.func38, Tryd.ntmps38
  go_wp2
  go_ret
  exact formOk_mk [x] Hf.out
theorem refform2 (x : Int) (h : isPt x = true) (h1 : ¬ x < 128 ∧ x < 2048) (w : World) : Calls Tryd.prog 38 #[.int .i64 x] w (FormG x w) := by
  have hd := isPt_bd h
  have Hf := Lib.hid (show form x = [192 + x / 64, 128 + x % 64] from form_2 (by omega) (by omega))
  have q1 : 0 ≤ x % 64 := by omega
  have q2 : x % 64 < 64 := by omega
  have q3 : 0 ≤ x / 64 % 64 := by omega
  have q4 : x / 64 % 64 < 64 := by omega
  have q5 : 0 ≤ x / 4096 % 64 := by omega
  have q6 : x / 4096 % 64 < 64 := by omega
  have a1 : 0 ≤ x / 64 := by omega
  have a2 : x / 64 < 32 := by omega
  go_enter Tryd.func38, Tryd.ntmps38
  go_wp2
  go_ret
  exact formOk_mk [192 + x / 64, 128 + x % 64] Hf.out
theorem refform3 (x : Int) (h : isPt x = true) (h1 : ¬ x < 2048 ∧ x < 65536) (w : World) : Calls Tryd.prog 38 #[.int .i64 x] w (FormG x w) := by
  have hd := isPt_bd h
  have Hf := Lib.hid (show form x = [224 + x / 4096, 128 + x / 64 % 64, 128 + x % 64] from form_3 (by omega) (by omega))
  have q1 : 0 ≤ x % 64 := by omega
  have q2 : x % 64 < 64 := by omega
  have q3 : 0 ≤ x / 64 % 64 := by omega
  have q4 : x / 64 % 64 < 64 := by omega
  have q5 : 0 ≤ x / 4096 % 64 := by omega
  have q6 : x / 4096 % 64 < 64 := by omega
  have a1 : 0 ≤ x / 64 := by omega
  have a3 : 0 ≤ x / 4096 := by omega
  have a4 : x / 4096 < 16 := by omega
  go_enter Tryd.func38, Tryd.ntmps38
  go_wp2
  go_ret
  exact formOk_mk [224 + x / 4096, 128 + x / 64 % 64, 128 + x % 64] Hf.out
theorem refform4 (x : Int) (h : isPt x = true) (h1 : ¬ x < 65536) (w : World) : Calls Tryd.prog 38 #[.int .i64 x] w (FormG x w) := by
  have hd := isPt_bd h
  have Hf := Lib.hid (show form x = [240 + x / 262144, 128 + x / 4096 % 64, 128 + x / 64 % 64, 128 + x % 64] from form_4 (by omega))
  have q1 : 0 ≤ x % 64 := by omega
  have q2 : x % 64 < 64 := by omega
  have q3 : 0 ≤ x / 64 % 64 := by omega
  have q4 : x / 64 % 64 < 64 := by omega
  have q5 : 0 ≤ x / 4096 % 64 := by omega
  have q6 : x / 4096 % 64 < 64 := by omega
  have a1 : 0 ≤ x / 64 := by omega
  have a3 : 0 ≤ x / 4096 := by omega
  have a4 : 0 ≤ x / 262144 := by omega
  have a5 : x / 262144 < 8 := by omega
  go_enter Tryd.func38, Tryd.ntmps38
  go_wp2
  go_ret
  exact formOk_mk [240 + x / 262144, 128 + x / 4096 % 64, 128 + x / 64 % 64, 128 + x % 64] Hf.out
theorem refformG_any (x : Int) (h : isPt x = true) (w : World) : Calls Tryd.prog 38 #[.int .i64 x] w (FormG x w) := by
  by_cases h1 : x < 128
  · exact refform1 x h h1 w
  · by_cases h2 : x < 2048
    · exact refform2 x h ⟨h1, h2⟩ w
    · by_cases h3 : x < 65536
      · exact refform3 x h ⟨h2, h3⟩ w
      · exact refform4 x h h3 w
theorem refform_any (x : Int) (h : isPt x = true) (w : World) : Calls Tryd.prog 38 #[.int .i64 x] w (FormOk x w) :=
  (refformG_any x h w).mono fun _ _ ⟨_, c, h1, h2, h3⟩ => ⟨_, c, h1, h2, h3⟩
end Go.Proofs.YtdgpbminmlpebaaDoor
