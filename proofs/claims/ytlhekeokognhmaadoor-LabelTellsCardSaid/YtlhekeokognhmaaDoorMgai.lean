/-
  Arrays in memory at any address: loads and stores of all their cells, as steps of a walk and of a region that draws its order. Labels that lie in a slice; the first one that is wrong.
-/
import Derived.Test.YtlhekeokognhmaaDoorMgaa
import Derived.Laws.CopyRow
import Derived.Laws.Tables
import Derived.Deep.RegionLaw
import Derived.Test.YtlhekeokognhmaaDoorLbB
namespace Go.Proofs.YtlhekeokognhmaaDoor
open Go.RowKit
section
variable {P : Program} {ops : Array Oper} {rest : List Oper} {o : Oper} {a : Act} {w : World} {K : Act → World → Prop} {Q : Exit → Act → World → Prop} {E : Prop}
theorem run_loadVar_at (w : World) (ad : Addr) (ty : TypeId) (cs : Array Value) (d : TypeDesc) (hc : ∀ j v, cs[j]? = some v → w.cell? (ad.add j) = some v)
    (hu : P.underlying ty = some d) (hd : (match d with | .struct _ | .array _ _ => true | _ => false) = true) (hi : (P.info? ty).map (·.size) = some cs.size) :
    (loadVar ty ad).run P w = .ok (.agg cs) w := by
  have hl : (loadCells ad cs.toList.length).run P w = .ok cs.toList.toArray w := run_loadCells_list (P := P) w ad cs.toList (fun j v hv => hc j v (by simpa using hv))
  cases hq : P.info? ty with
  | none => simp [hq] at hi
  | some i =>
    have hs : i.size = cs.size := by simpa [hq] using hi
    have hagg : (isAgg ty).run P w = .ok true w := by
      unfold isAgg
      rw [Sem.run_bind, run_underlying hu w]
      cases d <;> simp_all
    simp only [Array.length_toList, Array.toArray_toList] at hl
    simp [loadVar, Sem.run_bind, hagg, sizeOf, typeInfo, hq, hs, hl]
theorem wp_load_at (ty : TypeId) (x : Operand) (ho : o.op = .load ty x) (ad : Addr) (hx : a.eval x = .pointer (some ad)) (cs : Array Value) (d : TypeDesc) (hc : ∀ j v, cs[j]? = some v → w.cell? (ad.add j) = some v)
    (hu : P.underlying ty = some d) (hd : (match d with | .struct _ | .array _ _ => true | _ => false) = true) (hi : (P.info? ty).map (·.size) = some cs.size)
    (h : K (a.put o.dst (.agg cs)) w) : o.wp P a w K Q := by
  unfold Oper.wp execOp
  simp only [ho, hx, Instr.loadAt, Instr.sureAddr, Sem.run_bind, Sem.run_pure, Result.andThen_ok, run_loadVar_at w ad ty cs d hc hu hd hi]
  exact h
theorem wpList_load_at (hgd : o.guard = none) (ty : TypeId) (x : Operand) (ho : o.op = .load ty x) (ad : Addr) (hx : a.eval x = .pointer (some ad)) (cs : Array Value) (d : TypeDesc)
    (hc : ∀ j v, cs[j]? = some v → w.cell? (ad.add j) = some v)
    (hu : P.underlying ty = some d) (hd : (match d with | .struct _ | .array _ _ => true | _ => false) = true) (hi : (P.info? ty).map (·.size) = some cs.size)
    (h : wpList P ops Q rest (a.put o.dst (.agg cs)) w) : wpList P ops Q (o :: rest) a w :=
  wpList_plain hgd fun _ hK => wp_load_at ty x ho ad hx cs d hc hu hd hi (hK _ _ h)
theorem step_load_at (hgd : o.guard = none) (ty : TypeId) (x : Operand) (ho : o.op = .load ty x) (ad : Addr) (hx : a.eval x = .pointer (some ad)) (cs : Array Value) (d : TypeDesc)
    (hc : ∀ j v, cs[j]? = some v → w.cell? (ad.add j) = some v)
    (hu : P.underlying ty = some d) (hd : (match d with | .struct _ | .array _ _ => true | _ => false) = true) (hi : (P.info? ty).map (·.size) = some cs.size)
    (h : K (a.put o.dst (.agg cs)) w) : if Region.wanted o (yielded ops a.tmps) = true then Oper.wp P o a w K Q else E := by
  have hw : Region.wanted o (yielded ops a.tmps) = true := by simp [Region.wanted, hgd]
  rw [if_pos hw]
  exact wp_load_at ty x ho ad hx cs d hc hu hd hi h
/-- A store of an array into cells of a block. -/
theorem run_storeVar_at (w : World) (g off : Nat) (t ty : TypeId) (old : List Value) (cells : List Value) (hg : w.heap[g]? = some (.cells old.toArray t (0, 0))) (hi : (P.info? ty).map (·.size) = some cells.length)
    (ho : off + cells.length ≤ old.length) (h1 : ∀ v ∈ cells, v.oneCell' = true) :
    (storeVar ty ⟨g, off, none⟩ (.agg cells.toArray)).run P w = .ok () (w.setRow g (splice old off cells).toArray) := by
  have := run_storeCells_at P g off t cells 0 old.toArray w hg (by simpa using ho) h1
  cases hq : P.info? ty with
  | none => simp [hq] at hi
  | some i =>
    have hs : cells.length = i.size := by simp [hq] at hi; omega
    simp [storeVar, sizeOf, typeInfo, hq, Value.cells, hs, this, splice]
theorem wp_store_at (ty : TypeId) (x y : Operand) (ho : o.op = .store ty x y) (g off : Nat) (cells : List Value) (hx : a.eval x = .pointer (some ⟨g, off, none⟩)) (hy : a.eval y = .agg cells.toArray)
    (t : TypeId) (old : List Value) (hg : w.heap[g]? = some (.cells old.toArray t (0, 0))) (hi : (P.info? ty).map (·.size) = some cells.length)
    (hold : off + cells.length ≤ old.length) (h1 : ∀ v ∈ cells, v.oneCell' = true)
    (h : K (a.put o.dst undef) (w.setRow g (splice old off cells).toArray)) : o.wp P a w K Q := by
  unfold Oper.wp execOp
  simp only [ho, hx, hy, Instr.storeAt, Instr.sureAddr, Sem.run_bind, Sem.run_pure, Result.andThen_ok, run_storeVar_at w g off t ty old cells hg hi hold h1]
  exact h
theorem wpList_store_at (hgd : o.guard = none) (ty : TypeId) (x y : Operand) (ho : o.op = .store ty x y) (g off : Nat) (cells : List Value) (hx : a.eval x = .pointer (some ⟨g, off, none⟩)) (hy : a.eval y = .agg cells.toArray)
    (t : TypeId) (old : List Value) (hg : w.heap[g]? = some (.cells old.toArray t (0, 0))) (hi : (P.info? ty).map (·.size) = some cells.length)
    (hold : off + cells.length ≤ old.length) (h1 : ∀ v ∈ cells, v.oneCell' = true)
    (h : wpList P ops Q rest (a.put o.dst undef) (w.setRow g (splice old off cells).toArray)) : wpList P ops Q (o :: rest) a w :=
  wpList_plain hgd fun _ hK => wp_store_at ty x y ho g off cells hx hy t old hg hi hold h1 (hK _ _ h)
theorem step_store_at (hgd : o.guard = none) (ty : TypeId) (x y : Operand) (ho : o.op = .store ty x y) (g off : Nat) (cells : List Value) (hx : a.eval x = .pointer (some ⟨g, off, none⟩)) (hy : a.eval y = .agg cells.toArray)
    (t : TypeId) (old : List Value) (hg : w.heap[g]? = some (.cells old.toArray t (0, 0))) (hi : (P.info? ty).map (·.size) = some cells.length)
    (hold : off + cells.length ≤ old.length) (h1 : ∀ v ∈ cells, v.oneCell' = true)
    (h : K (a.put o.dst undef) (w.setRow g (splice old off cells).toArray)) : if Region.wanted o (yielded ops a.tmps) = true then Oper.wp P o a w K Q else E := by
  have hw : Region.wanted o (yielded ops a.tmps) = true := by simp [Region.wanted, hgd]
  rw [if_pos hw]
  exact wp_store_at ty x y ho g off cells hx hy t old hg hi hold h1 h
end
theorem cell_at (w : World) (g off : Nat) (old : List Value) (t : TypeId) (fr : Nat × Nat) (hg : w.heap[g]? = some (.cells old.toArray t fr)) (cs : Array Value) (h : ∀ j v, cs[j]? = some v → old[off + j]? = some v) :
    ∀ j v, cs[j]? = some v → w.cell? ((⟨g, off, none⟩ : Addr).add j) = some v := by
  intro j v hv
  have hadd : (⟨g, off, none⟩ : Addr).add j = ⟨g, off + j, none⟩ := by unfold Addr.add; split <;> simp_all
  rw [hadd, cell_of_row w g _ _ t fr hg]
  simpa using h j v hv
theorem rd_cells {w : World} {B n : Nat} {ad : Addr} {xs : List Value} (h : Rd w B (some ad) n xs) (hn : 0 < n) : ∀ j v, xs.toArray[j]? = some v → w.cell? (ad.add j) = some v := by
  obtain ⟨ad', e, _, hc⟩ := h.2 hn
  injection e with e
  subst e
  intro j v hv
  exact hc j v (by simpa using hv)
end Go.Proofs.YtlhekeokognhmaaDoor
namespace Go.Proofs.YtlhekeokognhmaaDoor
open Go.RowKit Go.Shelf
/-- Labels as cells, two each. -/
def labs (L : List Lab) : List Value := L.flatMap fun x => [.string x.1, .string x.2]
theorem labs_nil : labs [] = [] := rfl
theorem labs_cons (x : Lab) (L : List Lab) : labs (x :: L) = .string x.1 :: .string x.2 :: labs L := rfl
theorem labs_app (a b : List Lab) : labs (a ++ b) = labs a ++ labs b := by simp [labs]
theorem labs_length : ∀ L : List Lab, (labs L).length = L.length * 2
  | [] => rfl
  | x :: L => by rw [labs_cons, List.length_cons, List.length_cons, labs_length L, List.length_cons]; omega
theorem labs_get : ∀ (L : List Lab) (k : Nat) (x : Lab), L[k]? = some x → (labs L)[k * 2]? = some (.string x.1) ∧ (labs L)[k * 2 + 1]? = some (.string x.2)
  | [], k, x, h => by simp at h
  | y :: L, 0, x, h => by cases h; exact ⟨rfl, rfl⟩
  | y :: L, k + 1, x, h => by
    have := labs_get L k x h
    rw [labs_cons, show (k + 1) * 2 = k * 2 + 1 + 1 from by omega, show (k * 2 + 1 + 1 + 1) = (k * 2 + 1) + 1 + 1 from by omega]
    exact this
theorem labs_one (L : List Lab) : ∀ u ∈ labs L, u.oneCell' = true := by
  intro u hu
  obtain ⟨x, _, hx⟩ := List.mem_flatMap.1 hu
  simp at hx
  rcases hx with rfl | rfl <;> rfl
/-- Labels in a slice. -/
abbrev RdL (w : World) (B : Nat) (A : Option Addr) (L : List Lab) : Prop := Rd w B A (L.length * 2) (labs L)
theorem addr_add_add (a : Addr) (i j : Nat) : (a.add i).add j = a.add (i + j) := by
  unfold Addr.add
  split <;> rename_i h <;> split <;> simp_all <;> omega
section
variable {w w' : World} {B : Nat} {A : Option Addr} {L : List Lab}
theorem rdl_at (h : RdL w B A L) {k : Nat} (hk : k < L.length) : ∃ ad x, A = some ad ∧ ad.block < B ∧ L[k]? = some x ∧ L.drop k = x :: L.drop (k + 1) ∧ w.cell? (ad.add (k * 2)) = some (.string x.1) ∧ w.cell? (ad.add (k * 2 + 1)) = some (.string x.2) := by
  obtain ⟨ad, e, hb, hc⟩ := h.2 (by omega)
  obtain ⟨h1, h2⟩ := labs_get L k L[k] (List.getElem?_eq_getElem hk)
  exact ⟨ad, L[k], e, hb, List.getElem?_eq_getElem hk, List.drop_eq_getElem_cons hk, hc _ _ h1, hc _ _ h2⟩
end
theorem sizeL : (Tryd.prog.info? 36).map (·.size) = some 2 := by kernel_rfl
/-- One label, loaded. -/
theorem lab_cells {w : World} {ad : Addr} {k : Nat} {x : Lab} (h0 : w.cell? (ad.add (k * 2)) = some (.string x.1)) (h1 : w.cell? (ad.add (k * 2 + 1)) = some (.string x.2)) : ∀ j v, (#[.string x.1, .string x.2] : Array Value)[j]? = some v → w.cell? ((ad.add (k * 2)).add j) = some v := by
  intro j v hv
  rw [addr_add_add]
  rcases j with _ | _ | j
  · cases hv; exact h0
  · cases hv; exact h1
  · simp at hv
/-- What is wrong with the first label that is wrong by itself. -/
def fwE : List Lab → Int
  | [] => 0
  | x :: L => if wrE x = 0 then fwE L else wrE x
theorem fwE_drop {L : List Lab} {k : Nat} {x : Lab} (hd : L.drop k = x :: L.drop (k + 1)) : fwE (L.drop k) = if wrE x = 0 then fwE (L.drop (k + 1)) else wrE x := by rw [hd]; rfl
set_option maxRecDepth 100000 in
theorem firstWrong_any (A : Option Addr) (c : Nat) (L : List Lab) (hL : L.length ≤ 4611686018427387904) (w : World) (hr : RdL w w.heap.size A L) (hT : Tab w) :
    Calls Tryd.prog 44 #[.slice A L.length c] w fun e w' => e = .returned (.int .i64 (fwE L)) ∧ Kept w w' := by
  have HR := Lib.hid hr
  have HT := Lib.hid hT
  obtain ⟨n, hn⟩ : ∃ n, n = L.length := ⟨_, rfl⟩
  have Hn := Lib.hid hn
  rw [← hn] at hL ⊢
  clear hr hT hn
  go_enter Tryd.func44, Tryd.ntmps44
  go_wp2_with fail
  go_loopw [8] (fun v8 wr => ∃ k : Nat, k ≤ n ∧ v8 = .int .i64 k ∧ Hid (Kept w wr) ∧ Hid (fwE L = fwE (L.drop k))) (fun v8 _ => n - (intOf v8).toNat)
  case atStart => exact ⟨0, by omega, rfl, Below.refl _ _, rfl⟩
  case round =>
    obtain ⟨k, hk, rfl, hkr, hf⟩ := hrel
    by_cases hkn : k < n
    · obtain ⟨ad, x, rfl, hadb, hx, hd, hc0, hc1⟩ := rdl_at HR.out (by rw [← Hn.out]; exact hkn)
      have e0 := (Below.cell hkr.out (by rw [addBlock]; exact hadb)).trans hc0
      have e1 := (Below.cell hkr.out (by rw [addBlock]; exact hadb)).trans hc1
      have Hcl := Lib.hid (lab_cells e0 e1)
      have Hfd := Lib.hid (fwE_drop hd)
      have CW : Hid (∀ W, Kept wr W → Calls Tryd.prog 66 #[.agg #[.string x.1, .string x.2]] W fun e w' => e = .returned (.int .i64 (wrE x)) ∧ Kept W w') := fun W h => wrong_any x W (HT.out.below (below_kept hkr.out h))
      have k1 : Kept wr (wr.alloc (.cells #[.string x.1, .string x.2] 36)) := (Below.refl _ wr).alloc (Nat.le_refl _) _
      have K1 := Lib.hid k1
      generalize wrE x = ee at *
      clear hc0 hc1 hx hd k1 e0 e1
      by_cases he : ee = 0
      · subst he
        rw [if_pos rfl] at Hfd
        go_wp2_with (first | (refine wpList_load_at rfl 36 (.tmp 10) rfl (ad.add (k * 2)) rfl #[.string x.1, .string x.2] _ Hcl.out Tryd.underlying36 rfl sizeL ?_) | (go_at_call 66; refine (CW.out _ K1.out).mono ?_; rintro e w2 ⟨rfl, hk2⟩; have HK2 := Lib.hid (below_kept hkr.out (below_kept K1.out hk2)); clear hk2))
        go_roundw
        case rel => exact ⟨k + 1, by omega, by go_num, HK2, by show _ = _; rw [hf.out, Hfd.out]⟩
        case measure => simp [intOf]; omega
      · rw [if_neg he] at Hfd
        have hb : (ee != 0) = true := bne_iff_ne.2 he
        clear he
        go_wp2_with (first | (refine wpList_load_at rfl 36 (.tmp 10) rfl (ad.add (k * 2)) rfl #[.string x.1, .string x.2] _ Hcl.out Tryd.underlying36 rfl sizeL ?_) | (go_at_call 66; refine (CW.out _ K1.out).mono ?_; rintro e w2 ⟨rfl, hk2⟩; have HK2 := Lib.hid (below_kept hkr.out (below_kept K1.out hk2)); clear hk2))
        go_ret
        exact ⟨by rw [hf.out, Hfd.out]; rfl, HK2.out⟩
    · obtain rfl : k = n := by omega
      go_wp2_with fail
      go_ret
      refine ⟨?_, hkr.out⟩
      rw [hf.out, List.drop_of_length_le (by rw [← Hn.out]; exact Nat.le_refl _)]
      rfl
end Go.Proofs.YtlhekeokognhmaaDoor
