/-
  Package class: joined, others, Not. Package syntax: what nodes say, put together. Package syntax: what a reader takes. Package syntax: keys that hold a pointer. Package syntax: the map of what is known already.
-/
import Derived.Test.YtmgkdmbifecekaaGreatDoorMlae
import Derived.LaidEql
import Derived.Laws.StructEq
set_option linter.all false
set_option linter.unusedSimpArgs false
set_option linter.unusedVariables false
set_option linter.unusedSectionVars false
namespace Go.Proofs.YtmgkdmbifecekaaGreatDoor
open Go.RowKit Go.Shelf
theorem partsL_bd {x p : Rng} (h : 0 ≤ x.1 ∧ x.1 ≤ 1114111 ∧ 0 ≤ x.2 ∧ x.2 ≤ 1114111) (hp : p ∈ partsL x) : 0 ≤ p.1 ∧ p.1 ≤ 1114111 ∧ 0 ≤ p.2 ∧ p.2 ≤ 1114111 := by
  unfold partsL okR lowR higR at hp
  simp only [List.mem_append] at hp
  rcases hp with hp | hp
  · split at hp
    · simp at hp; rw [hp]; dsimp only; omega
    · cases hp
  · split at hp
    · rename_i h3
      simp at hp; rw [hp]; dsimp only at h3 ⊢; omega
    · cases hp
/-- Ranges of numbers from 0 to the greatest code point. -/
def BdR (L : List Rng) : Prop := ∀ x ∈ L, 0 ≤ x.1 ∧ x.1 ≤ 1114111 ∧ 0 ≤ x.2 ∧ x.2 ≤ 1114111
theorem bordL_bd {wt : Int} (hw : wt = 1 ∨ wt = -1) {L : List Rng} (h : BdR L) : ∀ x ∈ bordL wt L, 0 ≤ x.1 ∧ x.1 ≤ 1114112 ∧ -1 ≤ x.2 ∧ x.2 ≤ 1 := by
  intro x hx
  unfold bordL bordR at hx
  obtain ⟨r, hr, hx⟩ := List.mem_flatMap.1 hx
  obtain ⟨p, hp, hx⟩ := List.mem_flatMap.1 hx
  have hb := partsL_bd (h r hr) hp
  unfold bordP at hx
  simp at hx
  rcases hx with rfl | rfl <;> dsimp only <;> omega
/-- The set of all code points that ranges have not. -/
def othF (L : List Rng) : List Rng := setB 1 (bordL 1 [(0, 1114111)] ++ bordL (-1) L)
set_option maxRecDepth 10000 in
theorem others_any (A : Option Addr) (c : Nat) (L : List Rng) (hL : L.length ≤ 1000000) (hb : BdR L) (w : World) (hr : RdR w w.heap.size A L) :
    Calls Tryz.prog 132 #[.slice A L.length c] w fun e w' => ∃ v, e = .returned v ∧ w'.ownsRow w.heap.size 73 2 v (othF L).length (rngs (othF L)) ∧ Kept w w' := by
  have Hlen : Hid ((bordL 1 [((0 : Int), (1114111 : Int))] ++ bordL (-1) L).length ≤ 10000000) := by
    show _ ≤ _
    have h1 := bordL_len 1 [((0 : Int), (1114111 : Int))]
    have h2 := bordL_len (-1) L
    rw [List.length_append]
    simp only [List.length_cons, List.length_nil] at h1
    omega
  have hb1 : BdR [((0 : Int), (1114111 : Int))] := by intro x hx; simp at hx; rw [hx]; dsimp only; omega
  have Hbd : Hid (∀ x ∈ bordL 1 [((0 : Int), (1114111 : Int))] ++ bordL (-1) L, 0 ≤ x.1 ∧ x.1 ≤ 1114112 ∧ -1 ≤ x.2 ∧ x.2 ≤ 1) := fun x hx => by
    rcases List.mem_append.1 hx with hx | hx
    · exact bordL_bd (.inl rfl) hb1 x hx
    · exact bordL_bd (.inr rfl) hb x hx
  have CB2 : Hid (∀ W, Kept w W → Calls Tryz.prog 150 #[.slice A L.length c, .int .i64 (-1)] W fun e w' => ∃ v, e = .returned v ∧ IsSl v ∧ w'.ownsRow W.heap.size 222 2 v (bordL (-1) L).length (rngs (bordL (-1) L)) ∧ Kept W w') := fun W hW => borders_any A c L (-1) (.inr rfl) hL hb W (rd_kept hW hr)
  have hwa : Kept w (w.alloc (.cells #[.int .i64 0, .int .i64 1114111] 73)) := below_alloc0 (Below.refl _ _) _
  have CB1 := Lib.hid (borders_any (some ⟨w.heap.size, 0, none⟩) 1 [((0 : Int), (1114111 : Int))] 1 (.inl rfl) (by simp) hb1 (w.alloc (.cells #[.int .i64 0, .int .i64 1114111] 73)) (rdNew w [.int .i64 0, .int .i64 1114111] 73))
  have Hwa := Lib.hid hwa
  obtain ⟨m, hm⟩ : ∃ m, m = L.length := ⟨_, rfl⟩
  rw [← hm] at CB2 ⊢
  have Hm := Lib.hid hm
  obtain ⟨i0, hi0, hz0, hz1, hz2⟩ := info_parts infoB2
  clear hm hr hb hL hwa hb1
  go_enter Tryz.func132, Tryz.ntmps132
  go_wp2_with fail
  refine CB1.out.mono ?_
  rintro e w1 ⟨v1, rfl, hsl1, hown1, hk1⟩
  have Hk1 := Lib.hid (below_kept Hwa.out hk1)
  have Ho1 := Lib.hid (own_monoG hown1 Hwa.out.size)
  clear CB1 hown1 hk1
  go_wp2_with fail
  refine (CB2.out _ Hk1.out).mono ?_
  rintro e w2 ⟨v2, rfl, hsl2, hown2, hk2⟩
  have Hk2 := Lib.hid (below_kept Hk1.out hk2)
  have Ho2 := Lib.hid hown2
  have Ho1' : Hid (w2.ownsRow w.heap.size 222 2 v1 (bordL 1 [((0 : Int), (1114111 : Int))]).length (rngs (bordL 1 [((0 : Int), (1114111 : Int))]))) := own_below Ho1.out hk2
  obtain ⟨a2, n2, c2, rfl⟩ := hsl2
  clear CB2 Ho1 hown2 hk2 Hk1
  obtain ⟨k2, hk2⟩ : ∃ k, k = (bordL (-1) L).length := ⟨_, rfl⟩
  obtain ⟨k1, hk1⟩ : ∃ k, k = (bordL 1 [((0 : Int), (1114111 : Int))]).length := ⟨_, rfl⟩
  obtain ⟨g2, rfl, hn2⟩ : ∃ g, a2 = ⟨g, 0, none⟩ ∧ k2 = n2 := by
    rcases Ho2.out.2 with ⟨e, _⟩ | ⟨g, cap, cur, e, _⟩
    · cases e
    · cases e; exact ⟨g, rfl, hk2⟩
  subst hn2
  have Ho3 : Hid (w2.ownsRow w1.heap.size 222 2 (.slice (some ⟨g2, 0, none⟩) k2 c2) k2 (rngs (bordL (-1) L))) := by show World.ownsRow _ _ _ _ _ _ _; rw [hk2]; rw [hk2] at Ho2; exact Ho2.out
  have Ho4 : Hid (w2.ownsRow w.heap.size 222 2 v1 k1 (rngs (bordL 1 [((0 : Int), (1114111 : Int))]))) := by show World.ownsRow _ _ _ _ _ _ _; rw [hk1]; exact Ho1'.out
  have hkk : k1 + k2 ≤ 10000000 := by have := Hlen.out; rw [List.length_append, ← hk1, ← hk2] at this; exact this
  have Hk12 : Hid (k1 + k2 = (bordL 1 [((0 : Int), (1114111 : Int))] ++ bordL (-1) L).length) := by show _ = _; rw [List.length_append, ← hk1, ← hk2]
  have HL2 : Hid ((rngs (bordL (-1) L)).length = k2 * 2) := by show _ = _; rw [rngs_length, ← hk2]
  have HN2 : Hid (∀ (j : Nat) (u : Value), (rngs (bordL (-1) L))[j]? = some u → w2.cell? ((⟨g2, 0, none⟩ : Addr).add j) = some u) := fun j u hu => by
    rw [add0, Ho3.out.cellAt j (by have := (List.getElem?_eq_some_iff.1 hu).1; rw [HL2.out] at this; exact this)]
    exact hu
  obtain ⟨B1, hB1⟩ : ∃ B, B = rngs (bordL 1 [((0 : Int), (1114111 : Int))]) := ⟨_, rfl⟩
  obtain ⟨B2, hB2⟩ : ∃ B, B = rngs (bordL (-1) L) := ⟨_, rfl⟩
  have H12 : Hid (B1 ++ B2 = rngs (bordL 1 [((0 : Int), (1114111 : Int))] ++ bordL (-1) L)) := by show _ = _; rw [rngs_app, hB1, hB2]
  have HO2 : Hid (∀ u ∈ B2, u.oneCell' = true) := by show ∀ u ∈ _, _; rw [hB2]; exact rngs_one _
  rw [← hB1] at Ho4
  rw [← hB2] at HL2 HN2
  have hsz2 := Hk2.out.size
  clear hk1 hk2 Ho1' Ho2 Ho3 hB1 hB2 Hwa
  go_wp2_with (at_builtin; refine wpList_append_own_at _ rfl _ _ 210 rfl w.heap.size 222 i0 (.agg #[.int .i64 0, .int .i64 0]) 2 16 Tryz.underlying210 hi0 hz0 hz1 hz2 rfl (by decide) _ _ _ rfl Ho4.out ⟨g2, 0, none⟩ k2 c2 B2 rfl HL2.out HN2.out HO2.out (by unfold maxLen; omega) (by omega) hsz2 ?_; intro v' w3 hown' hgrow hnil _; have Hown' := Lib.hid hown'; have Hnil := Lib.hid hnil; have Hk3 : Hid (Kept w w3) := Below.grown Hk2.out hgrow hsz2 (fun j e => (Ho4.out.lt j e).1); clear hown' hgrow hnil)
  have hsl3 : IsSl v' := by
    rcases Hown'.out.2 with ⟨e, _⟩ | ⟨g, cap, cur, e, _⟩
    · obtain ⟨a, n, c, e2⟩ := hsl1
      have h9 : v1 = .slice none 0 0 := (Hnil.out.1 e).1
      rw [h9] at e2
      cases e2
    · exact ⟨_, _, _, e⟩
  refine (counted_any 1 w.heap.size v' hsl3 _ Hlen.out Hbd.out w3 Hk3.out.size (by rw [← H12.out, ← Hk12.out]; exact Hown'.out)).mono ?_
  rintro e w4 ⟨L', v4, hp, hs, rfl, hown, hbl⟩
  rw [setB_of hp hs] at hown
  have Ho := Lib.hid (own_monoG hown Hk3.out.size)
  have Hk := Lib.hid (Hk3.out.trans hbl)
  clear hp hs hown hbl Hown' Hnil Hlen Hbd H12
  go_wp2_with fail
  go_ret
  exact ⟨_, rfl, Ho.out, Hk.out⟩
/-- Not, of a set that is right. -/
theorem not_any (A : Option Addr) (c : Nat) (L : List Rng) (hL : L.length ≤ 1000000) (hb : BdR L) (hok : rgtR 0 L = true) (w : World) (hr : RdR w w.heap.size A L) :
    Calls Tryz.prog 114 #[.slice A L.length c] w fun e w' => ∃ v, e = .returned (.tuple #[v, .int .i64 0]) ∧ w'.ownsRow w.heap.size 73 2 v (othF L).length (rngs (othF L)) ∧ Kept w w' := by
  have CR := cright_any A c L (by omega) w hr
  rw [hok] at CR
  replace CR := Lib.hid CR
  have CO : Hid (∀ W, Kept w W → Calls Tryz.prog 132 #[.slice A L.length c] W fun e w' => ∃ v, e = .returned v ∧ w'.ownsRow W.heap.size 73 2 v (othF L).length (rngs (othF L)) ∧ Kept W w') := fun W hW => others_any A c L hL hb W (rd_kept hW hr)
  obtain ⟨m, hm⟩ : ∃ m, m = L.length := ⟨_, rfl⟩
  rw [← hm] at CR CO ⊢
  clear hm hr hb hL hok
  go_enter Tryz.func114, Tryz.ntmps114
  go_wp2_with fail
  refine CR.out.mono ?_
  rintro e w1 ⟨rfl, hk1⟩
  have Hk1 := Lib.hid hk1
  clear hk1 CR
  go_wp2_with fail
  refine (CO.out _ Hk1.out).mono ?_
  rintro e w2 ⟨v, rfl, hown, hk2⟩
  have Ho := Lib.hid (own_monoG hown Hk1.out.size)
  have Hk := Lib.hid (below_kept Hk1.out hk2)
  clear hown hk2 CO Hk1
  go_wp2_with fail
  go_ret2
  exact ⟨_, rfl, Ho.out, Hk.out⟩
/-- All code points. -/
def allR : List Rng := [(0, 55295), (57344, 1114111)]
theorem othF_nil : othF [] = allR := by decide
theorem all_any (w : World) : Calls Tryz.prog 89 #[] w fun e w' => ∃ v, e = .returned v ∧ w'.ownsRow w.heap.size 73 2 v 2 (rngs allR) ∧ Kept w w' := by
  have CN := not_any none 0 [] (by simp) (fun x hx => by simp at hx) rfl w ⟨rfl, fun h => absurd h (by decide)⟩
  rw [othF_nil] at CN
  have CN2 : Hid (Calls Tryz.prog 114 #[.slice none 0 0] w fun e w' => ∃ v, e = .returned (.tuple #[v, .int .i64 0]) ∧ w'.ownsRow w.heap.size 73 2 v 2 (rngs allR) ∧ Kept w w') := CN
  clear CN
  go_enter Tryz.func89, Tryz.ntmps89
  go_wp2_with fail
  refine CN2.out.mono ?_
  rintro e w1 ⟨v, rfl, hown, hk⟩
  have Ho := Lib.hid hown
  have Hk := Lib.hid hk
  clear hown hk CN2
  go_wp2_with fail
  go_ret
  exact ⟨_, rfl, Ho.out, Hk.out⟩
end Go.Proofs.YtmgkdmbifecekaaGreatDoor
namespace Go.Proofs.YtmgkdmbifecekaaGreatDoor
open Go.RowKit Go.Shelf
def tmsB (a b : Int) : Bool := decide (0 ≤ a) && decide (a ≤ 1000) && (decide (b = -1) || (decide (a ≤ b) && decide (b ≤ 1000)))
theorem times_any (a b : Int) (w : World) : Calls Tryz.prog 97 #[.int .i64 a, .int .i64 b] w fun e w' => e = .returned (.bool (tmsB a b)) ∧ w = w' := by
  unfold tmsB
  by_cases h3 : b = -1
  · subst h3
    by_cases h1 : (0 : Int) ≤ a <;> by_cases h2 : a ≤ 1000
    all_goals try (exfalso; omega)
    all_goals
      go_enter Tryz.func97, Tryz.ntmps97
      go_wp2_with fail
      go_ret
      exact ⟨by first | rfl | (simp [*]; done) | (simp; omega), rfl⟩
  · have h3b : (b == -1) = false := by simp [h3]
    rw [show decide (b = -1) = false from decide_eq_false h3]
    clear h3
    by_cases h1 : (0 : Int) ≤ a <;> by_cases h2 : a ≤ 1000 <;> by_cases h4 : a ≤ b <;> by_cases h5 : b ≤ 1000
    all_goals try (exfalso; omega)
    all_goals
      go_enter Tryz.func97, Tryz.ntmps97
      go_wp2_with fail
      go_ret
      exact ⟨by first | rfl | (simp [*]; done) | (simp; omega), rfl⟩
def capI (n : Int) : Int := if n ≤ 1073741824 then n else 1073741824
theorem capped_any (n : Int) (w : World) : Calls Tryz.prog 98 #[.int .i64 n] w fun e w' => e = .returned (.int .i64 (capI n)) ∧ w = w' := by
  unfold capI
  by_cases h1 : n ≤ 1073741824
  all_goals
    go_enter Tryz.func98, Tryz.ntmps98
    go_wp2_with fail
    go_ret
    exact ⟨by first | rfl | (simp [*]; done) | (simp [*]; omega), rfl⟩
/-- What a tree says. -/
structure Fct where
  depth : Int
  groups : Int
  least : Int
  most : Int
  endless : Bool
  loops : Bool
def fctV (f : Fct) : Value := .agg #[.int .i64 f.depth, .int .i64 f.groups, .int .i64 f.least, .int .i64 f.most, .bool f.endless, .bool f.loops]
/-- Bounds that they keep. -/
structure FctOk (f : Fct) : Prop where
  d : 0 ≤ f.depth ∧ f.depth ≤ 1000000
  g : 0 ≤ f.groups ∧ f.groups ≤ 1073741824
  l : 0 ≤ f.least ∧ f.least ≤ 1073741824
def andF (f g : Fct) (kind : Int) : Fct :=
  { depth := if f.depth ≤ g.depth then g.depth else f.depth, groups := capI (f.groups + g.groups),
    least := if kind = 4 then (if f.least ≤ g.least then f.least else g.least) else capI (f.least + g.least),
    most := if kind = 4 then (if f.most ≤ g.most then g.most else f.most) else capI (wrap64 (f.most + g.most)),
    endless := f.endless || g.endless, loops := f.loops || g.loops }
end Go.Proofs.YtmgkdmbifecekaaGreatDoor
namespace Go.Proofs.YtmgkdmbifecekaaGreatDoor
open Go.RowKit Go.Shelf
/-- A reader at a block, with what is not read yet. -/
abbrev RdrAt (W : World) (g : Nat) (t : ByteArray) : Prop := W.heap[g]? = some (.cells #[.string t] 94 (0, 0))
theorem rdr_set {W : World} {g : Nat} {t : ByteArray} (h : RdrAt W g t) (s : ByteArray) : RdrAt (W.setCell ⟨g, 0, none⟩ (.string s)) g s := by
  have := heap_setCell_same W g 0 _ _ (.string s) h
  simpa using this
theorem take_any (g : Nat) (t p : ByteArray) (W : World) (h : RdrAt W g t) : Calls Tryz.prog 66 #[.pointer (some ⟨g, 0, none⟩), .string p] W fun e w' => e = .returned (.bool (Lib.hasPrefix t.data.toList p.data.toList)) ∧ RdrAt w' g ⟨(Lib.trimPrefix t.data.toList p.data.toList).toArray⟩ ∧ W.grownBy w' (some g) := by
  have CC := Lib.hid (fun W => sh_strings_CutPrefix t p W)
  have hc : W.cell? ⟨g, 0, none⟩ = some (.string t) := by rw [cell_of_row _ _ _ _ _ _ h]; rfl
  have hf : W.frozen? ⟨g, 0, none⟩ = false := by simp [World.frozen?, show W.heap[g]? = _ from h]
  have H1 := Lib.hid (rdr_set h ⟨(Lib.trimPrefix t.data.toList p.data.toList).toArray⟩)
  obtain ⟨q, hq⟩ : ∃ q, q = (⟨(Lib.trimPrefix t.data.toList p.data.toList).toArray⟩ : ByteArray) := ⟨_, rfl⟩
  rw [← hq] at CC H1 ⊢
  generalize Lib.hasPrefix t.data.toList p.data.toList = b at CC ⊢
  clear hq h
  go_enter Tryz.func66, Tryz.ntmps66
  go_wp2_with (go_at_call 94; refine (CC.out _).mono ?_; rintro e w1 ⟨rfl, rfl⟩)
  go_ret
  exact ⟨rfl, H1.out, grownBy_setCell' _ _ _⟩
end Go.Proofs.YtmgkdmbifecekaaGreatDoor
namespace Go.Proofs.YtmgkdmbifecekaaGreatDoor
open Go.RowKit Go.Shelf
theorem eqPtr (d : Nat) (p q : Addr) (w : World) {ca cb : Array Value} {ta tb : TypeId} (hp : w.heap[p.block]? = some (.cells ca ta (0, 0))) (hq : w.heap[q.block]? = some (.cells cb tb (0, 0))) :
    (Op.equalIn (d + 1) 106 (.pointer (some p)) (.pointer (some q))).run Tryz.prog w = .ok (decide (p = q)) w := by
  have hz : (sizeOf 25).run Tryz.prog w = .ok 6 w := Tryz.sizeOf25 w
  have hs : (sameAddr p q).run Tryz.prog w = .ok (decide (p = q)) w := by
    by_cases h : p = q
    · subst h
      rw [run_sameAddr_same]
      simp
    · rw [run_sameAddr_other (w := w) h hp hq]
      simp [h]
  unfold Op.equalIn
  simp [run_underlying (Tryz.underlying106), hz, hs]
theorem keyEq (a b n m : Int) (p q : Addr) (w : World) {ca cb : Array Value} {ta tb : TypeId} (hp : w.heap[p.block]? = some (.cells ca ta (0, 0))) (hq : w.heap[q.block]? = some (.cells cb tb (0, 0))) :
    (Op.equal 134 (.agg #[.int .u8 a, .pointer (some p), .int .i64 n]) (.agg #[.int .u8 b, .pointer (some q), .int .i64 m])).run Tryz.prog w = .ok (decide (a = b ∧ p = q ∧ n = m)) w := by
  have hS : Tryz.prog.underlying 134 = some (.struct (Tryz.prog.fieldsOf 134)) := by kernel_rfl
  have hh : Tryz.prog.stoodInHeld 134 = false := by kernel_rfl
  have u3 := Tryz.underlying3
  have u5 := Tryz.underlying5
  have a3 := Tryz.isAgg3
  have a5 := Tryz.isAgg5
  have a6 := Tryz.isAgg106
  have hP := fun d => eqPtr d p q w hp hq
  unfold Op.equal
  rw [show Op.maxDepth = 9999 + 1 from rfl, run_equalIn_agg w 9999 134 _ _ hS hh]
  simp only [Program.fieldsOf, Tryz.underlying134]
  have hP9 := hP 9998
  go_simp
  by_cases h1 : a = b <;> by_cases h2 : p = q <;> by_cases h3 : n = m <;> simp [h1, h2, h3]
/-- A key: a kind, where a list lies, how long it is. -/
abbrev lstV (a : Int) (p : Addr) (n : Int) : Value := .agg #[.int .u8 a, .pointer (some p), .int .i64 n]
/-- A block of cells lies there. -/
def Lies (w : World) (p : Addr) : Prop := ∃ cs t, w.heap[p.block]? = some (.cells cs t (0, 0))
theorem findAsk (a n : Int) (p : Addr) (w : World) (hp : Lies w p) : ∀ (es : List MapEntry) (i : Nat), (∀ e ∈ es, ∃ b q m, e.key = lstV b q m ∧ Lies w q) →
    (∃ e j, es[j]? = some e ∧ e.key = lstV a p n ∧ (Instr.findAsking 134 (lstV a p n) es i).run Tryz.prog w = .ok (some (i + j, e.val)) w) ∨
    ((∀ e ∈ es, e.key ≠ lstV a p n) ∧ (Instr.findAsking 134 (lstV a p n) es i).run Tryz.prog w = .ok none w)
  | [], i, _ => .inr ⟨fun e h => absurd h (by simp), rfl⟩
  | e :: es, i, h => by
    obtain ⟨b, q, m, hk, cb, tb, hq⟩ := h e (by simp)
    obtain ⟨ca, ta, hp2⟩ := hp
    have hkey := keyEq a b n m p q w hp2 hq
    by_cases h1 : a = b ∧ p = q ∧ n = m
    · obtain ⟨rfl, rfl, rfl⟩ := h1
      refine .inl ⟨e, 0, by simp, hk, ?_⟩
      unfold Instr.findAsking
      rw [Sem.run_bind, hk, hkey]
      simp
    · rw [decide_eq_false h1] at hkey
      have hstep : (Instr.findAsking 134 (lstV a p n) (e :: es) i).run Tryz.prog w = (Instr.findAsking 134 (lstV a p n) es (i + 1)).run Tryz.prog w := by
        rw [Instr.findAsking, Sem.run_bind, hk, hkey]
        simp
      rcases findAsk a n p w ⟨ca, ta, hp2⟩ es (i + 1) (fun e' h' => h e' (by simp [h'])) with ⟨e', j, h3, h4, h5⟩ | ⟨h3, h4⟩
      · exact .inl ⟨e', j + 1, by simp [h3], h4, by rw [hstep, h5, show i + 1 + j = i + (j + 1) from by omega]⟩
      · refine .inr ⟨fun e' h' => ?_, hstep.trans h4⟩
        rcases List.mem_cons.1 h' with rfl | h'
        · rw [hk]
          intro e9
          injection e9 with e9
          simp at e9
          exact h1 ⟨e9.1.symm, e9.2.1.symm, e9.2.2.symm⟩
        · exact h3 e' h'
end Go.Proofs.YtmgkdmbifecekaaGreatDoor
namespace Go.Proofs.YtmgkdmbifecekaaGreatDoor
open Go.RowKit Go.Shelf
theorem chk_u8 (em : Bool) (d : Nat) (a : Int) (w : World) : (Instr.checkKey em (d + 1) 5 (.int .u8 a)).run Tryz.prog w = .ok () w := by
  unfold Instr.checkKey
  simp [Sem.run_bind, run_underlying (Tryz.underlying5)]
theorem chk_int (em : Bool) (d : Nat) (a : Int) (w : World) : (Instr.checkKey em (d + 1) 3 (.int .i64 a)).run Tryz.prog w = .ok () w := by
  unfold Instr.checkKey
  simp [Sem.run_bind, run_underlying (Tryz.underlying3)]
theorem chk_ptr (em : Bool) (d : Nat) (p : Addr) (w : World) : (Instr.checkKey em (d + 1) 106 (.pointer (some p))).run Tryz.prog w = .ok () w := by
  unfold Instr.checkKey
  simp [Sem.run_bind, run_underlying (Tryz.underlying106)]
theorem chkKey (em : Bool) (a n : Int) (p : Addr) (w : World) : (Instr.checkKey em 10000 134 (lstV a p n)).run Tryz.prog w = .ok () w := by
  have u3 := Tryz.underlying3
  have u5 := Tryz.underlying5
  have u6 := Tryz.underlying106
  have a3 := Tryz.isAgg3
  have a5 := Tryz.isAgg5
  have a6 := Tryz.isAgg106
  rw [show (10000 : Nat) = 9998 + 1 + 1 from rfl]
  unfold Instr.checkKey
  simp only [Sem.run_bind, run_underlying (Tryz.underlying134), Result.andThen_ok]
  go_simp
  rw [chk_u8 em 9998 a w, Result.andThen_ok, chk_ptr em 9998 p w, Result.andThen_ok, chk_int em 9998 n w, Result.andThen_ok]
/-- Entries whose keys are such. -/
def KeysOk (w : World) (es : List MapEntry) : Prop := ∀ e ∈ es, ∃ b q m, e.key = lstV b q m ∧ Lies w q
theorem findKey_any (a n : Int) (p : Addr) (w : World) (hp : Lies w p) (es : List MapEntry) (h : KeysOk w es) :
    (∃ e j, es[j]? = some e ∧ e.key = lstV a p n ∧ (Instr.findKey 134 (lstV a p n) es).run Tryz.prog w = .ok (some (j, e.val)) w) ∨
    ((∀ e ∈ es, e.key ≠ lstV a p n) ∧ (Instr.findKey 134 (lstV a p n) es).run Tryz.prog w = .ok none w) := by
  have hf : (Instr.findKey 134 (lstV a p n) es).run Tryz.prog w = (Instr.findAsking 134 (lstV a p n) es 0).run Tryz.prog w := by
    unfold Instr.findKey
    simp only [Sem.run_bind, run_underlying (Tryz.underlying134), Result.andThen_ok]
    cases es with
    | nil => rfl
    | cons e es =>
      obtain ⟨b, q, m, hk, _⟩ := h e (by simp)
      simp [Instr.findNow, Instr.sameNow, hk]
  rw [hf]
  have := findAsk a n p w hp es 0 h
  simpa using this
/-- The map's look-up: what is known of the same list, or nothing. -/
theorem look_known (a n : Int) (p : Addr) (b : Nat) (es : Array MapEntry) (cl : Nat) (w : World) (hb : w.heap[b]? = some (.map es cl)) (hp : Lies w p) (h : KeysOk w es.toList) :
    (∃ e, e ∈ es.toList ∧ e.key = lstV a p n ∧ (Instr.lookup 131 (.map (some b)) (lstV a p n) true).run Tryz.prog w = .ok (.tuple #[e.val, .bool true]) w) ∨
    ((∀ e ∈ es.toList, e.key ≠ lstV a p n) ∧ (Instr.lookup 131 (.map (some b)) (lstV a p n) true).run Tryz.prog w = .ok (.tuple #[fctV ⟨0, 0, 0, 0, false, false⟩, .bool false]) w) := by
  have hz : (zeroValue 98).run Tryz.prog w = .ok (fctV ⟨0, 0, 0, 0, false, false⟩) w := Tryz.zeroValue98 w
  have hg : (getObj b).run Tryz.prog w = .ok (.map es cl) w := by simp [getObj, Sem.run, hb]
  rcases findKey_any a n p w hp es.toList h with ⟨e, j, h1, h2, h3⟩ | ⟨h1, h2⟩
  · refine .inl ⟨e, List.mem_of_getElem? h1, h2, ?_⟩
    unfold Instr.lookup
    simp only [Sem.run_bind, run_underlying (Tryz.underlying131), Result.andThen_ok, hg, Sem.run_pure, chkKey, h3]
    simp
  · refine .inr ⟨h1, ?_⟩
    unfold Instr.lookup
    simp only [Sem.run_bind, run_underlying (Tryz.underlying131), Result.andThen_ok, hg, Sem.run_pure, chkKey, h2, hz]
    simp
theorem sameKey (a n : Int) (p : Addr) : Instr.sameBits 10000 (lstV a p n) (lstV a p n) = true := by
  simp [Instr.sameBits]
/-- The map's update: it knows of this list, too. -/
theorem upd_known (a n : Int) (p : Addr) (v : Value) (b : Nat) (es : Array MapEntry) (cl : Nat) (w : World) (hb : w.heap[b]? = some (.map es cl)) (hp : Lies w p) (h : KeysOk w es.toList) :
    ∃ es' cl', (Instr.mapUpdate 131 (.map (some b)) (lstV a p n) v).run Tryz.prog w = .ok () (w.putObj b (.map es' cl')) ∧ ∀ e ∈ es'.toList, e ∈ es.toList ∨ (e.key = lstV a p n ∧ e.val = v) := by
  have hg : (getObj b).run Tryz.prog w = .ok (.map es cl) w := by simp [getObj, Sem.run, hb]
  have hso : ∀ o, (setObj b o).run Tryz.prog w = .ok () (w.putObj b o) := fun o => by
    have hlt := (Array.getElem?_eq_some_iff.1 hb).1
    simp [setObj, Sem.run, World.putObj, hb]
  rcases findKey_any a n p w hp es.toList h with ⟨e, j, h1, h2, h3⟩ | ⟨h1, h2⟩
  · refine ⟨es.modify j fun e => { e with key := lstV a p n, val := v }, cl, ?_, fun e' he => ?_⟩
    · have h4 : es[j]? = some e := by rw [← Array.getElem?_toList]; exact h1
      have hks : (Instr.keyThatStays (((es[j]?).map (·.key)).getD (lstV a p n)) (lstV a p n)).run Tryz.prog w = .ok (lstV a p n) w := by
        rw [h4]
        simp only [Option.map_some, Option.getD_some, h2]
        unfold Instr.keyThatStays
        rw [if_pos (sameKey a n p)]
        rfl
      unfold Instr.mapUpdate
      simp only [Sem.run_bind, run_underlying (Tryz.underlying131), Result.andThen_ok, hg, chkKey, h3, hks, hso]
    · obtain ⟨i, hi⟩ := List.mem_iff_getElem?.1 he
      rw [Array.getElem?_toList, Array.getElem?_modify] at hi
      by_cases hij : j = i
      · rw [if_pos hij] at hi
        obtain ⟨e2, _, rfl⟩ := Option.map_eq_some_iff.1 hi
        exact .inr ⟨rfl, rfl⟩
      · rw [if_neg hij] at hi
        exact .inl (List.mem_of_getElem? (by rw [Array.getElem?_toList]; exact hi))
  · refine ⟨es.push { key := lstV a p n, val := v, born := cl }, cl + 1, ?_, fun e' he => ?_⟩
    · unfold Instr.mapUpdate
      simp only [Sem.run_bind, run_underlying (Tryz.underlying131), Result.andThen_ok, hg, chkKey, h2, hso]
    · rw [Array.toList_push] at he
      rcases List.mem_append.1 he with he | he
      · exact .inl he
      · rw [List.mem_singleton.1 he]
        exact .inr ⟨rfl, rfl⟩
end Go.Proofs.YtmgkdmbifecekaaGreatDoor
