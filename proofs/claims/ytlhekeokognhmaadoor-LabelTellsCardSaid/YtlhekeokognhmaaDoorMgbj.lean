/-
  append onto one's own row of labels, whatever the source is. The statements' kit: marks; labels that are lent, and kept.
-/
import Derived.Test.YtlhekeokognhmaaDoorMgbh
import Derived.Test.YtlhekeokognhmaaDoorMgbi
namespace Go.Proofs.YtlhekeokognhmaaDoor
open Go.RowKit Go.Shelf Go.Maps Go.Sort
section
variable {P : Program}
theorem run_appG (w : World) (base : Nat) (t ty : TypeId) (i : TypeInfo) (z : Value) (bytes : Nat) (ht : P.underlying t = some (.slice 36)) (hi : P.info? 36 = some i) (hz : i.zero = some z)
    (hsize : i.size = 2) (hby : i.bytes = bytes) (hzs : z.cells.size = 2)
    (v : Value) (n : Nat) (xs : List Value) (hown : w.ownsRow base 36 2 v n xs)
    (A : Option Addr) (m c : Nat) (news : List Value) (hr : Rd w w.heap.size A (m * 2) news) (h1 : ∀ u ∈ news, u.oneCell' = true)
    (h63 : n + m ≤ maxLen) (hbytes : (n + m) * bytes ≤ 140737488355328) (hbase : base ≤ w.heap.size) :
    ∃ v' w', (Builtin.append_ #[t, t] ty #[v, .slice A m c]).run P w = .ok v' w' ∧ w'.ownsRow base 36 2 v' (n + m) (xs ++ news) ∧ w.grownBy w' v.ownBlock := by
  rcases A with _ | a
  · have hm : m = 0 := by
      rcases Nat.eq_zero_or_pos m with h | h
      · exact h
      · obtain ⟨_, e, _⟩ := hr.2 (by omega)
        cases e
    subst hm
    obtain rfl := List.eq_nil_of_length_eq_zero (by have := hr.1; omega : news.length = 0)
    refine ⟨v, w, ?_, by simpa using hown, ⟨rfl, rfl, rfl, Nat.le_refl _, fun _ _ _ => rfl⟩⟩
    rcases hown.2 with ⟨rfl, rfl⟩ | ⟨g, cap, cur, rfl, _, _, hnc, _⟩
    · simp [Builtin.append_, run_underlying ht, sizeOf, typeInfo, hi, Builtin.lenOf, Builtin.firstCells]
    · simp [Builtin.append_, run_underlying ht, sizeOf, typeInfo, hi, Builtin.lenOf, Builtin.firstCells, hnc, storeCells]
  · have hc : ∀ j u, news[j]? = some u → w.cell? (a.add j) = some u := by
      intro j u hu
      have hj := (List.getElem?_eq_some_iff.1 hu).1
      obtain ⟨_, e, _, hc⟩ := hr.2 (by have := hr.1; omega)
      cases e
      exact hc j u hu
    obtain ⟨v', w', hrun, h2, h3, _, _⟩ := run_append_own_at (P := P) w base t ty 36 i z 2 bytes ht hi hz hsize hby hzs (by decide) v n xs hown a m c news hr.1 hc h1 h63 hbytes hbase
    exact ⟨v', w', hrun, h2, h3⟩
theorem append_type (w : World) (t t2 ty e : TypeId) (b : Option Addr) (n cap : Nat) (x : Value) (ht : P.underlying t = some (.slice e)) (ht2 : P.underlying t2 = some (.slice e)) : (Builtin.append_ #[t, t2] ty #[.slice b n cap, x]).run P w = (Builtin.append_ #[t, t] ty #[.slice b n cap, x]).run P w := by
  have e1 : (#[t, t2] : Array TypeId)[0]? = some t := rfl
  have e2 : (#[t, t2] : Array TypeId)[1]? = some t2 := rfl
  have e3 : (#[t, t] : Array TypeId)[0]? = some t := rfl
  have e4 : (#[t, t] : Array TypeId)[1]? = some t := rfl
  unfold Builtin.append_
  simp only [e1, e2, e3, e4, Sem.run_bind, run_underlying ht, run_underlying ht2, Result.andThen_ok, List.getElem?_toArray, List.getElem?_cons_zero, List.getElem?_cons_succ]
/-- The same at a plain region's list of operations. -/
theorem wpList_appG {w : World} {ops : Array Oper} {rest : List Oper} {o : Oper} {a : Act} {Q : Exit → Act → World → Prop} (hgd : o.guard = none) (s x : Operand) (t : TypeId)
    (t2 : TypeId) (ho : o.op = .call { callee := .builtin .append, args := #[s, x], argTypes := #[t, t2] }) (ht2 : P.underlying t2 = some (.slice 36))
    (base : Nat) (i : TypeInfo) (z : Value) (bytes : Nat) (ht : P.underlying t = some (.slice 36)) (hi : P.info? 36 = some i) (hz : i.zero = some z)
    (hsize : i.size = 2) (hby : i.bytes = bytes) (hzs : z.cells.size = 2)
    (v : Value) (n : Nat) (xs : List Value) (hs : a.eval s = v) (hown : w.ownsRow base 36 2 v n xs)
    (A : Option Addr) (m c : Nat) (news : List Value) (hx : a.eval x = .slice A m c) (hr : Rd w w.heap.size A (m * 2) news) (h1 : ∀ u ∈ news, u.oneCell' = true)
    (h63 : n + m ≤ maxLen) (hbytes : (n + m) * bytes ≤ 140737488355328) (hbase : base ≤ w.heap.size)
    (h : ∀ v' w', w'.ownsRow base 36 2 v' (n + m) (xs ++ news) → w.grownBy w' v.ownBlock → wpList P ops Q rest (a.put o.dst v') w') : wpList P ops Q (o :: rest) a w := by
  refine wpList_plain hgd fun K hK => ?_
  obtain ⟨v', w', hrun, h2, h3⟩ := run_appG (P := P) w base t o.type i z bytes ht hi hz hsize hby hzs v n xs hown A m c news hr h1 h63 hbytes hbase
  obtain ⟨b0, n0, cap0, rfl⟩ : ∃ b n c, v = .slice b n c := by
    rcases hown.2 with ⟨rfl, _⟩ | ⟨g, cap, cur, rfl, _⟩
    · exact ⟨_, _, _, rfl⟩
    · exact ⟨_, _, _, rfl⟩
  have hr2 := (append_type (P := P) w t t2 o.type 36 b0 n0 cap0 (.slice A m c) ht ht2).trans hrun
  unfold Oper.wp execOp
  simp only [ho, resolve, invoke, builtin, Sem.run_bind, Sem.run_pure, Result.andThen_ok, List.map_toArray, List.map_cons, List.map_nil, hs, hx, hr2]
  exact hK _ _ (h v' w' h2 h3)
end
end Go.Proofs.YtlhekeokognhmaaDoor
namespace Go.Proofs.YtlhekeokognhmaaDoor
open Go.RowKit Go.Shelf Go.Maps Go.Sort
/-- The marks behind labels that are lent. -/
def lmarks : List Lab := [mkLab 9 0, mkLab 9 1, mkLab 9 2]
theorem lmarks_get (k : Nat) (hk : k < 3) : lmarks[k]? = some (mkLab 9 (k : Int)) ∧ lmarks.take (k + 1) = lmarks.take k ++ [mkLab 9 (k : Int)] := by
  rcases (by omega : k = 0 ∨ k = 1 ∨ k = 2) with rfl | rfl | rfl <;> exact ⟨rfl, rfl⟩
/-- Labels that lie with marks behind them. -/
def Lent (w : World) (base : Nat) (A : Option Addr) (c : Nat) (L : List Lab) : Prop := w.ownsRow base 36 2 (.slice A (L.length + 3) c) (L.length + 3) (labs (L ++ lmarks))
theorem labs_mk (O : List Lab) (x : Lab) : labs (O ++ [x]) = labs O ++ [.string x.1, .string x.2] := by rw [labs_app]; rfl
set_option maxRecDepth 100000 in
set_option maxHeartbeats 2000000 in
theorem lentL_any (A : Option Addr) (c : Nat) (L : List Lab) (hL : L.length ≤ 400000) (w : World) (hr : RdL w w.heap.size A L) :
    Calls Tryd.prog 29 #[.slice A L.length c] w fun e w' => ∃ A' c', e = .returned (.slice A' L.length c') ∧ Lent w' w.heap.size A' c' L ∧ Kept w w' := by
  have HR : Hid (Rd w w.heap.size A (L.length * 2) (labs L)) := hr
  obtain ⟨i0, hi0, hz0, hz1, hz2⟩ := info_parts infoLab
  unfold Lent
  obtain ⟨n, hn⟩ : ∃ n, n = L.length := ⟨_, rfl⟩
  have Hn := Lib.hid hn
  rw [← hn] at hL HR ⊢
  clear hr hn
  go_enter Tryd.func29, Tryd.ntmps29
  go_wp2_with (first
    | (at_make; refine wpList_make_own _ rfl _ _ 27 rfl w.heap.size 36 i0 _ 2 Tryd.underlying27 hi0 hz0 hz1 .i64 .i64 _ (n + 3) rfl rfl (by omega) (by rw [hz2]; omega) (by unfold maxLen; omega) (Nat.le_refl _) ?_; intro w1 hown1 hg1; have Hown1 := Lib.hid hown1; have Hg1 := Lib.hid hg1; have hs1 := hg1.size; have HK1 : Hid (Kept w w1) := below_of_grown hg1 (Nat.le_refl _) (fun k e => by cases e); clear hown1 hg1)
    | (at_builtin; refine wpList_appG rfl _ _ 27 27 rfl Tryd.underlying27 w.heap.size i0 _ 32 Tryd.underlying27 hi0 hz0 hz1 hz2 rfl _ 0 [] rfl Hown1.out A n c (labs L) rfl (rd_kept HK1.out HR.out) (labs_one L) (by unfold maxLen; omega) (by omega) hs1 ?_; intro v2 w2 hown2 hg2; have Hown2 := Lib.hid hown2; have Hg2 := Lib.hid hg2; clear hown2 hg2))
  have hB2 : Kept w w2 := HK1.out.grown Hg2.out hs1 (fun k e => (Hown1.out.lt k e).1)
  have hown2' : w2.ownsRow w.heap.size 36 2 v2 n (labs L) := by have := Hown2.out; rwa [Nat.zero_add, List.nil_append] at this
  have Ho := Lib.hid hown2'
  have HB2 := Lib.hid hB2
  clear Hown1 Hg1 hs1 Hown2 Hg2 hown2' hB2 HK1
  go_loopw [3, 4] (fun v i wr => ∃ k : Nat, k ≤ 3 ∧ i = .int .i64 k ∧ Hid (wr.ownsRow w.heap.size 36 2 v (n + k) (labs (L ++ lmarks.take k))) ∧ Hid (Kept w wr)) (fun _ i _ => 3 - (intOf i).toNat)
  case atStart => exact ⟨0, by omega, rfl, by show World.ownsRow _ _ _ _ _ _ _; rw [List.take_zero, List.append_nil]; exact Ho.out, HB2⟩
  case round =>
    obtain ⟨k, hk, rfl, hown, hb⟩ := hrel
    by_cases hkn : k < 3
    · have Hsn := Lib.hid (lmarks_get k hkn).2
      have CM := Lib.hid (fun W => markLabel_any 9 (k : Int) W)
      have hbs := hb.out.size
      generalize mkLab 9 (k : Int) = x at *
      obtain ⟨xa, xb⟩ := x
      dsimp only at CM
      go_wp2_with (first
        | (go_at_call 65; (with_reducible refine (CM.out _).mono ?_); rintro e w3 ⟨rfl, hk3⟩; have HK3 := Lib.hid hk3; have HKw := Lib.hid (below_kept hb.out hk3); have hs3 := (below_kept hb.out hk3).size; clear hk3)
        | (at_builtin; refine wpList_append_own_at _ rfl _ _ 27 rfl w.heap.size 36 i0 _ 2 32 Tryd.underlying27 hi0 hz0 hz1 hz2 rfl (by decide) u3 (n + k) (labs (L ++ lmarks.take k)) rfl ((own_below hown.out HK3.out).alloc _) ⟨w3.heap.size, 0, none⟩ 1 1 [.string xa, .string xb] rfl rfl (cells_new w3 [.string xa, .string xb] 36) (by intro u hu; simp at hu; rcases hu with rfl | rfl <;> rfl) (by unfold maxLen; omega) (by omega) (by simp; omega) ?_; intro v5 w5 hown5 hg5 hn5 hl5; have Hown5 := Lib.hid hown5; have HG5 := Lib.hid hg5; clear hown5 hg5 hn5 hl5))
      have hka : Kept w (w3.alloc (.cells #[.string xa, .string xb] 36)) := HKw.out.alloc hs3 _
      have hB5 : Kept w w5 := hka.grown HG5.out (by simp; omega) (fun j e => ((own_below hown.out HK3.out).lt j e).1)
      go_roundw
      case rel => exact ⟨k + 1, by omega, by go_num, by show World.ownsRow _ _ _ _ _ _ _; rw [Hsn.out, ← List.append_assoc, labs_mk]; exact Hown5.out, hB5⟩
      case measure => simp [intOf]; omega
    · obtain rfl : k = 3 := by omega
      have hown' := hown.out
      rw [show lmarks.take 3 = lmarks from rfl] at hown'
      obtain ⟨A', c', rfl, hc', _⟩ := own_rdG hown'
      have Ho' := Lib.hid hown'
      have hnc : (n : Int) ≤ c' := by omega
      clear hown hown' Ho
      go_wp2_with fail
      go_ret
      exact ⟨A', c', rfl, Ho'.out, hb.out⟩
theorem Lent.rd {w : World} {base : Nat} {A : Option Addr} {c : Nat} {L : List Lab} (h : Lent w base A c L) : ∃ g, A = some ⟨g, 0, none⟩ ∧ base ≤ g ∧ g < w.heap.size ∧ L.length + 3 ≤ c ∧ Rd w w.heap.size A ((L.length + 3) * 2) (labs (L ++ lmarks)) ∧ RdL w w.heap.size A L := by
  have h0 := h
  unfold Lent at h
  obtain ⟨A', c', he, hc, hr, _⟩ := own_rdG h
  cases he
  rcases h.2 with ⟨e, hz⟩ | ⟨g, cap, cur, e, hb, hg, _⟩
  · omega
  · cases e
    refine ⟨g, rfl, hb, heap_lt hg, hc, hr, ⟨labs_length L, fun hn => ?_⟩⟩
    obtain ⟨ad, e, hlt, hcell⟩ := hr.2 (by omega)
    refine ⟨ad, e, hlt, fun j u hu => hcell j u ?_⟩
    rw [labs_app, List.getElem?_append_left (List.getElem?_eq_some_iff.1 hu).1]
    exact hu
theorem Lent.kept {w w' : World} {base : Nat} {A : Option Addr} {c : Nat} {L : List Lab} (h : Lent w base A c L) (hk : Kept w w') : Lent w' base A c L := own_below h hk
end Go.Proofs.YtlhekeokognhmaaDoor
