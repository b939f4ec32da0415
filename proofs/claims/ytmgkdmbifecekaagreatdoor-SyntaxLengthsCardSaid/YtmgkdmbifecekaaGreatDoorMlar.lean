/-
  Package syntax: a reader's points. Package syntax: what said's closure keeps.
-/
import Derived.Test.YtmgkdmbifecekaaGreatDoorSr3
import Derived.Test.YtmgkdmbifecekaaGreatDoorMlak
import Derived.Shelf.Unicode.Decode
import Derived.Test.YtmgkdmbifecekaaGreatDoorMlap
set_option linter.all false
set_option linter.unusedSimpArgs false
set_option linter.unusedVariables false
set_option linter.unusedSectionVars false
namespace Go.Proofs.YtmgkdmbifecekaaGreatDoor
open Go.RowKit Go.Shelf
theorem decode_ascii (b : UInt8) (r : Bs) (hb : b.toNat < 128) (w : World) : Calls Tryz.prog 164 #[.string (b8 (b :: r))] w fun e w' => e = .returned (.tuple #[.int .i32 (b.toNat : Int), .int .i64 1]) ∧ w = w' :=
  (Any.utf8_DecodeRuneInString_ascii sh_lays197 (b8 (b :: r)) b w rfl hb).mono fun _ _ h => ⟨h.1, h.2.symm⟩
theorem idx_mem (c : UInt8) : ∀ (l : Bs), decide (0 ≤ Lib.indexByte l c) = l.contains c
  | [] => by simp [Lib.indexByte]
  | b :: l => by
    have h := idx_mem c l
    have hg := Lib.indexByte_ge l c
    unfold Lib.indexByte
    by_cases hb : b = c
    · subst hb; simp
    · have hbc : (b == c) = false := by simp [hb]
      have hcb : (c == b) = false := by simp [Ne.symm hb]
      rw [hbc, List.contains_cons, hcb, Bool.false_or, ← h]
      simp only [Bool.false_eq_true, if_false]
      by_cases hm : Lib.indexByte l c = -1
      · simp [hm]
      · have h2 : (Lib.indexByte l c == -1) = false := by simp [hm]
        rw [h2]
        simp only [Bool.false_eq_true, if_false]
        have : (0 ≤ Lib.indexByte l c + 1) ↔ 0 ≤ Lib.indexByte l c := by omega
        simp only [this]
theorem contains_any (b : UInt8) (hb : b.toNat < 128) (bb : Bool) (h : noAt.contains b = bb) (w : World) : Calls Tryz.prog 91 #[.string (b8 noAt), .int .i32 (b.toNat : Int)] w fun e w' => e = .returned (.bool bb) ∧ w = w' := by
  refine (sh_strings_ContainsRune_ascii (b8 noAt) (b.toNat : Int) w (by omega) (by omega)).mono ?_
  rintro e w' ⟨rfl, rfl⟩
  have : ((b.toNat : Int)).toNat.toUInt8 = b := by
    apply UInt8.toNat_inj.1
    simp
  rw [b8_list, this, idx_mem, h]
  exact ⟨rfl, rfl⟩
def PtPost (g : Nat) (l : Bs) (W : World) (e : Ending) (w' : World) : Prop :=
  W.grownBy w' (some g) ∧ match pntP l with
    | some (c, r) => e = .returned (.tuple #[.int .i64 c, .bool true]) ∧ RdrAt w' g (b8 r)
    | none => e = .returned (.tuple #[.int .i64 0, .bool false]) ∧ RdrAt w' g (b8 l)
theorem ex1 (b : UInt8) (r : Bs) : (b8 (b :: r)).extract 1 (r.length + 1) = b8 r := by
  apply ByteArray.ext
  simp [ByteArray.data_extract]
theorem esc_none (b : UInt8) (r : Bs) (h : b ≠ 92) : escS (b :: r) = none := by
  cases r with
  | nil => rfl
  | cons c r => rw [escS_cons, if_neg h]
section
variable (g : Nat) (b : UInt8) (r : Bs) (hb : b.toNat < 128) (h92 : b ≠ 92) (hl : (b :: r).length ≤ 1000000) (W : World)
include hb h92 hl
set_option maxRecDepth 10000 in
set_option maxHeartbeats 4000000 in
theorem point_no (hn : noAt.contains b = true) (h : RdrAt W g (b8 (b :: r))) : Calls Tryz.prog 157 #[.pointer (some ⟨g, 0, none⟩)] W (PtPost g (b :: r) W) := by
  have hes : escS (b :: r) = none := esc_none b r h92
  have hp : Hid (pntP (b :: r) = none) := by show _ = _; unfold pntP; rw [hes]; dsimp only; rw [hn]; rfl
  have CE := Lib.hid (fun w => escape_any (b8 (b :: r)) w)
  rw [b8_list, hes] at CE
  unfold escV at CE
  have CD := Lib.hid (fun w => decode_ascii b r hb w)
  have CC := Lib.hid (fun w => contains_any b hb true hn w)
  have hc : W.cell? ⟨g, 0, none⟩ = some (.string (b8 (b :: r))) := by rw [cell_of_row _ _ _ _ _ _ h]; rfl
  have hf : W.frozen? ⟨g, 0, none⟩ = false := by simp [World.frozen?, show W.heap[g]? = _ from h]
  have Hh := Lib.hid h
  have hne : ((b.toNat : Int) == 65533) = false := by rw [beq_eq_false_iff_ne]; omega
  have hex : (b8 (b :: r)).extract 1 (r.length + 1) = b8 r := ex1 b r
  have hli : (1 : Int) ≤ ((b :: r).length : Int) := by rw [List.length_cons]; omega
  have hbi : (b.toNat : Int) < 128 := by omega
  have hbj : 0 ≤ (b.toNat : Int) := by omega
  clear h hes hn
  go_enter Tryz.func157, Tryz.ntmps157
  go_wp2_with (first | (go_at_call 174; refine (CE.out _).mono ?_; rintro e w1 ⟨rfl, rfl⟩) | (go_at_call 164; refine (CD.out _).mono ?_; rintro e w1 ⟨rfl, rfl⟩) | (go_at_call 91; refine (CC.out _).mono ?_; rintro e w1 ⟨rfl, rfl⟩))
  go_ret2
  unfold PtPost
  rw [hp.out]
  exact ⟨⟨rfl, rfl, rfl, Nat.le_refl _, fun _ _ _ => rfl⟩, rfl, Hh.out⟩
set_option maxRecDepth 10000 in
set_option maxHeartbeats 4000000 in
theorem point_yes (hn : noAt.contains b = false) (h : RdrAt W g (b8 (b :: r))) : Calls Tryz.prog 157 #[.pointer (some ⟨g, 0, none⟩)] W (PtPost g (b :: r) W) := by
  have hes : escS (b :: r) = none := esc_none b r h92
  have hp : Hid (pntP (b :: r) = some ((b.toNat : Int), r)) := by show _ = _; unfold pntP; rw [hes]; dsimp only; rw [hn]; rfl
  have CE := Lib.hid (fun w => escape_any (b8 (b :: r)) w)
  rw [b8_list, hes] at CE
  unfold escV at CE
  have CD := Lib.hid (fun w => decode_ascii b r hb w)
  have CC := Lib.hid (fun w => contains_any b hb false hn w)
  have hc : W.cell? ⟨g, 0, none⟩ = some (.string (b8 (b :: r))) := by rw [cell_of_row _ _ _ _ _ _ h]; rfl
  have hf : W.frozen? ⟨g, 0, none⟩ = false := by simp [World.frozen?, show W.heap[g]? = _ from h]
  have Hh := Lib.hid h
  have hne : ((b.toNat : Int) == 65533) = false := by rw [beq_eq_false_iff_ne]; omega
  have hex : (b8 (b :: r)).extract 1 (r.length + 1) = b8 r := ex1 b r
  have hli : (1 : Int) ≤ ((b :: r).length : Int) := by rw [List.length_cons]; omega
  have hbi : (b.toNat : Int) < 128 := by omega
  have hbj : 0 ≤ (b.toNat : Int) := by omega
  clear h hes hn
  go_enter Tryz.func157, Tryz.ntmps157
  go_wp2_with (first | (go_at_call 174; refine (CE.out _).mono ?_; rintro e w1 ⟨rfl, rfl⟩) | (go_at_call 164; refine (CD.out _).mono ?_; rintro e w1 ⟨rfl, rfl⟩) | (go_at_call 91; refine (CC.out _).mono ?_; rintro e w1 ⟨rfl, rfl⟩))
  go_ret2
  unfold PtPost
  rw [hp.out]
  exact ⟨grownBy_setCell' _ _ _, rfl, rdr_set Hh.out (b8 r)⟩
theorem point_rd (h : RdrAt W g (b8 (b :: r))) : Calls Tryz.prog 157 #[.pointer (some ⟨g, 0, none⟩)] W (PtPost g (b :: r) W) := by
  cases hn : noAt.contains b with
  | true => exact point_no g b r hb h92 hl W hn h
  | false => exact point_yes g b r hb h92 hl W hn h
end
end Go.Proofs.YtmgkdmbifecekaaGreatDoor
namespace Go.Proofs.YtmgkdmbifecekaaGreatDoor
open Go.RowKit Go.Shelf
mutual
/-- How many nodes. -/
def szT : Tree → Nat
  | .mk _ _ _ _ _ subs => szL subs + 1
def szL : List Tree → Nat
  | [] => 0
  | t :: ts => szT t + szL ts
end
theorem szL_mem : ∀ (ts : List Tree) (t : Tree), t ∈ ts → szT t ≤ szL ts
  | [], _, h => by cases h
  | u :: ts, t, h => by
    unfold szL
    rcases List.mem_cons.1 h with rfl | h
    · omega
    · have := szL_mem ts t h
      omega
mutual
theorem factsT_d0 : ∀ t : Tree, 1 ≤ (factsT t).depth
  | .mk k set mn mx lz subs => by
    rw [factsT_mk, ofF_d]
    have := factsL_d0 k subs
    omega
theorem factsL_d0 (kind : Int) : ∀ ts : List Tree, 0 ≤ (factsL kind ts).depth
  | [] => by unfold factsL zeroT; exact Int.le_refl _
  | t :: ts => by
    unfold factsL
    have h1 := factsT_d0 t
    have h2 := (factsA_d kind ts (factsT t)).1
    omega
end
/-- What is known of lists that lie in a world. -/
def KnOk (Wb : World) (es : List MapEntry) : Prop := ∀ e ∈ es, ∃ k p ts xs, e.key = lstV k p (ts.length : Nat) ∧ ts ≠ [] ∧ RdP Wb (some p) (ts.length * 6) xs ∧ NodesC Wb ts xs ∧ okTs ts = true ∧ e.val = fctV (factsL k ts) ∧ (factsL k ts).depth ≤ 1000000
/-- The closure, its two boxes, the map. -/
structure SayI (Wb : World) (kb sb mb : Nat) (W : World) : Prop where
  g : Wb.grownBy W (some mb)
  k : W.heap[kb]? = some (.cells #[.map (some mb)] 131 (0, 0))
  s : W.heap[sb]? = some (.cells #[.func (.func 69) #[] #[.pointer (some ⟨kb, 0, none⟩), .pointer (some ⟨sb, 0, none⟩)]] 132 (0, 0))
  m : ∃ es cl, W.heap[mb]? = some (.map es cl) ∧ KnOk Wb es.toList
theorem SayI.kept {Wb : World} {kb sb mb : Nat} {W W' : World} (hk : Kept W W') (h : SayI Wb kb sb mb W) : SayI Wb kb sb mb W' := by
  obtain ⟨es, cl, h1, h2⟩ := h.m
  exact ⟨grown_trans h.g (grown_of_kept hk), heap_kept hk h.k, heap_kept hk h.s, es, cl, heap_kept hk h1, h2⟩
theorem SayI.set {Wb : World} {kb sb mb : Nat} {W : World} {b : Nat} (h : SayI Wb kb sb mb W) (hb : Wb.heap.size ≤ b) (h1 : kb < b) (h2 : sb < b) (h3 : mb < b) (cs : Array Value) : SayI Wb kb sb mb (W.setRow b cs) := by
  have hB := below_setRow (Below.refl b W) (Nat.le_refl b) cs
  obtain ⟨es, cl, h4, h5⟩ := h.m
  exact ⟨⟨hB.os.trans h.g.os, hB.tape.trans h.g.tape, hB.output.trans h.g.output, Nat.le_trans h.g.size hB.size, fun k hk hne => (hB.block k (by omega)).trans (h.g.block k hk hne)⟩, (hB.block kb h1).trans h.k, (hB.block sb h2).trans h.s, es, cl, (hB.block mb h3).trans h4, h5⟩
theorem grown_setRow {W w : World} {r : Option Nat} {b : Nat} (h : W.grownBy w r) (hb : W.heap.size ≤ b) (cs : Array Value) : W.grownBy (w.setRow b cs) r := by
  have hB := below_setRow (Below.refl b w) (Nat.le_refl b) cs
  exact ⟨hB.os.trans h.os, hB.tape.trans h.tape, hB.output.trans h.output, Nat.le_trans h.size hB.size, fun k hk hne => (hB.block k (by omega)).trans (h.block k hk hne)⟩
theorem heap_setRow_out {w : World} {b b' : Nat} (h : b' ≠ b) (cs : Array Value) : (w.setRow b cs).heap[b']? = w.heap[b']? := by
  unfold World.setRow
  simp [Array.getElem?_modify, Ne.symm h]
theorem put_grown (w : World) (b : Nat) (o : Obj) : w.grownBy (w.putObj b o) (some b) := by
  refine ⟨rfl, rfl, rfl, by simp [World.putObj], fun k hk hne => ?_⟩
  have : b ≠ k := fun e => hne (by rw [e])
  simp [World.putObj, Array.getElem?_setIfInBounds, this]
theorem put_same {w : World} {b : Nat} {o o' : Obj} (h : w.heap[b]? = some o') : (w.putObj b o).heap[b]? = some o := by
  have := heap_lt h
  simp [World.putObj, Array.getElem?_setIfInBounds, this]
/-- Its keys lie in blocks of their own. -/
theorem KnOk.keys {Wb W : World} {mb : Nat} (ht : Thin Wb mb) (hg : Wb.grownBy W (some mb)) {es : List MapEntry} (h : KnOk Wb es) : KeysOk W es := by
  intro e he
  obtain ⟨k, p, ts, xs, h1, h2, h3, h4, h5⟩ := h e he
  have hn : 0 < ts.length := List.length_pos_iff.2 h2
  exact ⟨k, p, (ts.length : Nat), h1, (rdp_thin ht hg (by omega) h3).2 (by omega) p rfl⟩
/-- A list that is known. -/
theorem KnOk.at {W : World} {es : List MapEntry} (h : KnOk W es) {e : MapEntry} (he : e ∈ es) {kind : Int} {p : Addr} {ts : List Tree} {xs : List Value} (hk : e.key = lstV kind p (ts.length : Nat)) (hr : RdP W (some p) (ts.length * 6) xs) (hc : NodesC W ts xs) :
    okTs ts = true ∧ e.val = fctV (factsL kind ts) := by
  obtain ⟨k, q, us, ys, h1, h2, h3, h4, h5, h6, h7⟩ := h e he
  rw [h1] at hk
  injection hk with hk
  simp at hk
  obtain ⟨rfl, rfl, hl⟩ := hk
  replace hl : us.length = ts.length := by omega
  have hxy : ys = xs := rd_inj h3.1 (by rw [hl]; exact hr.1)
  subst hxy
  have := NodesC.one us ts ys hl h4 hc
  subst this
  exact ⟨h5, h6⟩
/-- One node of a row. -/
theorem node_cells {w : World} {p : Addr} {n : Nat} {xs : List Value} {ts : List Tree} (hr : RdP w (some p) (n * 6) xs) (hc : NodesC w ts xs) {k : Nat} {kd : Int} {set : List Rng} {mn mx : Int} {lz : Bool} {subs : List Tree} (ht : ts[k]? = some (.mk kd set mn mx lz subs)) :
    ∃ A1 c1 A2 c2, SzOk set.length subs.length ∧ RdR w w.heap.size A1 set ∧ (∃ ys, RdP w A2 (subs.length * 6) ys ∧ NodesC w subs ys) ∧
      ∀ j v, (#[.int .u8 kd, .slice A1 set.length c1, .int .i64 mn, .int .i64 mx, .bool lz, .slice A2 subs.length c2] : Array Value)[j]? = some v → w.cell? ((p.add (k * 6)).add j) = some v := by
  have h := hc.get k _ ht
  unfold NodeC at h
  obtain ⟨A1, c1, A2, c2, e, hz, h1, ys, h2, h3⟩ := h
  refine ⟨A1, c1, A2, c2, hz, h1, ⟨ys, h2, h3⟩, fun j v hv => ?_⟩
  have hj : j < 6 := by have := (Array.getElem?_eq_some_iff.1 hv).1; simpa using this
  have hx : ((xs.drop (k * 6)).take 6)[j]? = some v := by rw [e, ← hv]; exact (List.getElem?_toArray ..).symm
  rw [List.getElem?_take_of_lt hj, List.getElem?_drop] at hx
  have hpos : 0 < n * 6 := by
    have := (List.getElem?_eq_some_iff.1 hx).1
    have := hr.1.1
    omega
  obtain ⟨ad, e9, _, hcell⟩ := hr.1.2 hpos
  cases e9
  rw [addr_add2]
  exact hcell _ _ hx
theorem cell_thin {w w' : World} {g n : Nat} {p : Addr} {xs : List Value} (ht : Thin w g) (hg : w.grownBy w' (some g)) (hr : RdP w (some p) n xs) (hn : 2 ≤ n) (q : Addr) (hq : q.block = p.block) : w'.cell? q = w.cell? q := by
  obtain ⟨ad, e, hb, hc⟩ := hr.1.2 (by omega)
  cases e
  have hne : p.block ≠ g := by
    intro e9
    have h1 : 1 < xs.length := by have := hr.1.1; omega
    have h2 := hc 1 _ (List.getElem?_eq_getElem h1)
    rw [show p.add 1 = ⟨p.block, p.off + 1, none⟩ from rfl, e9, ht] at h2
    cases h2
  have hbl := hg.block p.block hb (fun e9 => hne (Option.some.inj e9))
  unfold World.cell?
  rw [hq, hbl]
theorem row_cells {w : World} {g : Nat} {cs : Array Value} {t : TypeId} {fr : Nat × Nat} (h : w.heap[g]? = some (.cells cs t fr)) : ∀ j v, cs[j]? = some v → w.cell? ((⟨g, 0, none⟩ : Addr).add j) = some v := by
  intro j v hv
  rw [add0, cell_of_row _ _ _ _ _ _ h]
  exact hv
theorem setCell6 {w : World} {b : Nat} {o0 o1 o2 o3 o4 o5 : Value} {t : TypeId} {fr : Nat × Nat} (h : w.heap[b]? = some (.cells #[o0, o1, o2, o3, o4, o5] t fr)) (v0 v1 v2 v3 v4 v5 : Value) :
    (((((w.setCell ⟨b, 0, none⟩ v0).setCell ⟨b, 1, none⟩ v1).setCell ⟨b, 2, none⟩ v2).setCell ⟨b, 3, none⟩ v3).setCell ⟨b, 4, none⟩ v4).setCell ⟨b, 5, none⟩ v5 = w.setRow b #[v0, v1, v2, v3, v4, v5] := by
  unfold World.setCell World.setRow
  simp only [World.mk.injEq, and_true, true_and]
  apply Array.ext_getElem?
  intro i
  by_cases hi : b = i
  · subst hi
    simp [Array.getElem?_modify, h]
  · simp [Array.getElem?_modify, hi]
/-- The facts' cells. -/
def fctC (f : Fct) : Array Value := #[.int .i64 f.depth, .int .i64 f.groups, .int .i64 f.least, .int .i64 f.most, .bool f.endless, .bool f.loops]
theorem grown_heap {w w' : World} {r : Option Nat} (h : w.grownBy w' r) {b : Nat} {x : Obj} (hb : w.heap[b]? = some x) (hne : some b ≠ r) : w'.heap[b]? = some x := (h.block b (heap_lt hb) hne).trans hb
end Go.Proofs.YtmgkdmbifecekaaGreatDoor
