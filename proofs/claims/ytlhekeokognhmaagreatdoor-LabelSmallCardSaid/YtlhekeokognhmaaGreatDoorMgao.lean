/-
  SameLabels, SameLabelLists. of: labels from strings in turn.
-/
import Derived.Test.YtlhekeokognhmaaGreatDoorMgan
import Derived.Laws.StructEq
import Derived.StillTailTactics
import Derived.Deep.RegionHeld3
import Derived.Maps.AppendAt
namespace Go.Proofs.YtlhekeokognhmaaGreatDoor
open Go.RowKit Go.Shelf Go.Maps Go.Sort
section
variable {P : Program} {ops : Array Oper} {rest : List Oper} {o : Oper} {a : Act} {w : World} {Q : Act → Prop}
theorem still_load (hgd : o.guard = none) (ty : TypeId) (x : Operand) (ho : o.op = .load ty x) (ad : Addr) (hx : a.eval x = .pointer (some ad)) (cs : Array Value) (d : TypeDesc)
    (hc : ∀ j v, cs[j]? = some v → w.cell? (ad.add j) = some v)
    (hu : P.underlying ty = some d) (hd : (match d with | .struct _ | .array _ _ => true | _ => false) = true) (hi : (P.info? ty).map (·.size) = some cs.size)
    (h : wpStill P ops w Q rest (a.put o.dst (.agg cs))) : wpStill P ops w Q (o :: rest) a := by
  refine wpStill_step fun K hK => ?_
  rw [if_pos (by simp [Region.wanted, hgd])]
  unfold Oper.still execOp
  simp only [ho, hx, Instr.loadAt, Instr.sureAddr, Sem.run_bind, Sem.run_pure, Result.andThen_ok, run_loadVar_at w ad ty cs d hc hu hd hi]
  exact ⟨rfl, hK _ h⟩
end
theorem str_beq (a b : ByteArray) : (a.toList == b.toList) = decide (a = b) := by
  by_cases h : a = b
  · subst h; simp
  · rw [decide_eq_false h]
    exact str_ne fun e => h (bys_eq e)
theorem eq_lab (a b a' b' : ByteArray) (W : World) : (Op.equalIn 10000 33 (.agg #[.string a, .string b]) (.agg #[.string a', .string b'])).run Tryz.prog W = .ok (decide ((a, b) = (a', b'))) W := by
  have h1 := str_beq a a'
  have h2 := str_beq b b'
  go_simp
  split
  · split <;> simp_all
  · simp_all
/-- Whether two lists of labels are the same. -/
def sameB (L E : List Lab) : Bool := decide (L = E)
theorem sameB_cons (x y : Lab) (L E : List Lab) : sameB (x :: L) (y :: E) = (decide (x = y) && sameB L E) := by
  unfold sameB
  by_cases h : x = y <;> by_cases h2 : L = E <;> simp [h, h2]
set_option maxRecDepth 100000 in
set_option maxHeartbeats 2000000 in
theorem same_any (A A1 : Option Addr) (c c1 : Nat) (L E : List Lab) (hL : L.length ≤ 4611686018427387904) (hE : E.length ≤ 4611686018427387904) (w : World) (hr : RdL w w.heap.size A L) (hr1 : RdL w w.heap.size A1 E) :
    Calls Tryz.prog 79 #[.slice A L.length c, .slice A1 E.length c1] w fun e w' => e = .returned (.bool (sameB L E)) ∧ Kept w w' := by
  have HR := Lib.hid hr
  have HR1 := Lib.hid hr1
  have Hneq : Hid (L.length ≠ E.length → sameB L E = false) := fun h => by
    unfold sameB
    rw [decide_eq_false fun e => h (by rw [e])]
  obtain ⟨n, hn⟩ : ∃ n, n = L.length := ⟨_, rfl⟩
  obtain ⟨m, hm⟩ : ∃ n, n = E.length := ⟨_, rfl⟩
  have Hn := Lib.hid hn
  have Hm := Lib.hid hm
  rw [← hn] at hL Hneq ⊢
  rw [← hm] at hE Hneq ⊢
  clear hr hr1 hn hm
  by_cases hnm : n = m
  · subst hnm
    go_enter Tryz.func79, Tryz.ntmps79
    go_wp2_with fail
    go_loopw [5] (fun v5 wr => ∃ k : Nat, k ≤ n ∧ v5 = .int .i64 k ∧ Hid (Kept w wr) ∧ Hid (sameB L E = sameB (L.drop k) (E.drop k))) (fun v5 _ => n - (intOf v5).toNat)
    case atStart => exact ⟨0, by omega, rfl, Below.refl _ _, rfl⟩
    case round =>
      obtain ⟨k, hk, rfl, hkr, hf⟩ := hrel
      by_cases hkn : k < n
      · obtain ⟨ad, x, rfl, hadb, hx, hd, hc0, hc1⟩ := rdl_at HR.out (by rw [← Hn.out]; exact hkn)
        obtain ⟨ad2, y, rfl, hadb2, hy, hd2, hd0, hd1⟩ := rdl_at HR1.out (by rw [← Hm.out]; exact hkn)
        have K1 : Hid (Kept w wr.drew) := hkr.out.drew
        have e0 := (Below.cell K1.out (by rw [addBlock]; exact hadb)).trans hc0
        have e1 := (Below.cell K1.out (by rw [addBlock]; exact hadb)).trans hc1
        have Hcl := Lib.hid (lab_cells e0 e1)
        have e2 := (Below.cell K1.out (by rw [addBlock]; exact hadb2)).trans hd0
        have e3 := (Below.cell K1.out (by rw [addBlock]; exact hadb2)).trans hd1
        have Hcl2 := Lib.hid (lab_cells e2 e3)
        have Hst : Hid (sameB (L.drop k) (E.drop k) = (decide (x = y) && sameB (L.drop (k + 1)) (E.drop (k + 1)))) := by show _ = _; rw [hd, hd2, sameB_cons]
        clear hx hd hc0 hc1 hy hd2 hd0 hd1 e0 e1 e2 e3
        obtain ⟨xa, xb⟩ := x
        obtain ⟨ya, yb⟩ := y
        have heq := eq_lab xa xb ya yb
        obtain ⟨bb, hbb⟩ : ∃ b, b = decide ((xa, xb) = (ya, yb)) := ⟨_, rfl⟩
        rw [← hbb] at Hst heq
        dsimp only at Hcl Hcl2
        clear hbb
        go_upto_region 6 with fail
        have hlen1 : (k : Int) < n := by omega
        refine wp_region_still_lit (by kernel_rfl) (by kernel_rfl) ?_
        show wpStill _ _ wr.drew (fun a' => Exit.then _ _ _ a' wr.drew) _ _
        generalize wr.drew = w1 at *
        iterate 3 still_step
        refine still_load rfl 33 (.tmp 19) rfl (ad.add (k * 2)) rfl #[.string xa, .string xb] _ Hcl.out Tryz.underlying33 rfl sizeL ?_
        iterate 3 still_step
        refine still_load rfl 33 (.tmp 23) rfl (ad2.add (k * 2)) rfl #[.string ya, .string yb] _ Hcl2.out Tryz.underlying33 rfl sizeL ?_
        still_step
        refine wpStill_nil ?_
        clear heq hlen1
        rcases bb with _ | _
        · simp only [Bool.false_and] at Hst
          go_wp2_with fail
          go_ret
          exact ⟨by rw [hf.out, Hst.out]; rfl, K1.out⟩
        · simp only [Bool.true_and] at Hst
          go_wp2_with fail
          go_roundw
          case rel => exact ⟨k + 1, by omega, by go_num, K1, by show _ = _; rw [hf.out, Hst.out]⟩
          case measure => simp [intOf]; omega
      · obtain rfl : k = n := by omega
        have Hst : Hid (sameB (L.drop k) (E.drop k) = true) := by
          show _ = _
          rw [List.drop_of_length_le (by rw [← Hn.out]; exact Nat.le_refl _), List.drop_of_length_le (by rw [← Hm.out]; exact Nat.le_refl _)]
          rfl
        go_wp2_with fail
        go_ret
        exact ⟨by rw [hf.out, Hst.out]; rfl, hkr.out⟩
  · have Hf := Lib.hid (Hneq.out hnm)
    have hnm2 : ((n : Int) != (m : Int)) = true := bne_iff_ne.2 (by omega)
    go_enter Tryz.func79, Tryz.ntmps79
    go_wp2_with fail
    go_ret
    exact ⟨by rw [Hf.out]; rfl, Below.refl _ _⟩
/-- Lists of labels, as values. -/
def lrows (Ls : List LRow) : List Value := Ls.map lrow
def sameLL (Ls Es : List LRow) : Bool := decide (Ls.map (·.2.2) = Es.map (·.2.2))
theorem sameLL_cons (x y : LRow) (L E : List LRow) : sameLL (x :: L) (y :: E) = (sameB x.2.2 y.2.2 && sameLL L E) := by
  unfold sameLL sameB
  simp only [List.map_cons, List.cons.injEq]
  by_cases h : x.2.2 = y.2.2 <;> by_cases h2 : L.map (·.2.2) = E.map (·.2.2) <;> simp [h, h2]
theorem lrow_at {w : World} {B : Nat} {A : Option Addr} {Ls : List LRow} (h : Rd w B A Ls.length (lrows Ls)) {k : Nat} (hk : k < Ls.length) : ∃ ad r, A = some ad ∧ ad.block < B ∧ r ∈ Ls ∧ Ls.drop k = r :: Ls.drop (k + 1) ∧ w.cell? (ad.add k) = some (lrow r) := by
  obtain ⟨ad, u, rfl, hadb, hu, hcu⟩ := h.at_ hk
  unfold lrows at hu
  rw [List.getElem?_map] at hu
  obtain ⟨r, hr, e⟩ := Option.map_eq_some_iff.1 hu
  have hg : Ls[k] = r := by rw [List.getElem?_eq_getElem hk] at hr; exact Option.some.inj hr
  exact ⟨ad, r, rfl, hadb, List.mem_of_getElem? hr, by rw [List.drop_eq_getElem_cons hk, hg], by rw [hcu, e]⟩
set_option maxRecDepth 100000 in
set_option maxHeartbeats 2000000 in
theorem sameLL_any (A A1 : Option Addr) (c c1 : Nat) (L E : List LRow) (hN : L.length = E.length) (hL : L.length ≤ 1000) (w : World) (hr : Rd w w.heap.size A L.length (lrows L)) (hr1 : Rd w w.heap.size A1 E.length (lrows E))
    (hl : ∀ r ∈ L, RdL w w.heap.size r.1 r.2.2 ∧ r.2.2.length ≤ 1000000) (hl1 : ∀ r ∈ E, RdL w w.heap.size r.1 r.2.2 ∧ r.2.2.length ≤ 1000000) :
    Calls Tryz.prog 44 #[.slice A L.length c, .slice A1 E.length c1] w fun e w' => e = .returned (.bool (sameLL L E)) ∧ Kept w w' := by
  have HR := Lib.hid hr
  have HR1 := Lib.hid hr1
  have HL := Lib.hid hl
  have HL1 := Lib.hid hl1
  obtain ⟨n, hn⟩ : ∃ n, n = L.length := ⟨_, rfl⟩
  have Hn := Lib.hid hn
  have Hm : Hid (n = E.length) := hn.trans hN
  rw [← Hm.out]
  rw [← hn] at hL ⊢
  clear hr hr1 hn hN hl hl1
  go_enter Tryz.func44, Tryz.ntmps44
  go_wp2_with fail
  go_loopw [5] (fun v5 wr => ∃ k : Nat, k ≤ n ∧ v5 = .int .i64 k ∧ Hid (Kept w wr) ∧ Hid (sameLL L E = sameLL (L.drop k) (E.drop k))) (fun v5 _ => n - (intOf v5).toNat)
  case atStart => exact ⟨0, by omega, rfl, Below.refl _ _, rfl⟩
  case round =>
    obtain ⟨k, hk, rfl, hkr, hf⟩ := hrel
    by_cases hkn : k < n
    · obtain ⟨ad, ⟨rA, rc, X⟩, rfl, hadb, hxm, hd, hc0⟩ := lrow_at HR.out (by rw [← Hn.out]; exact hkn)
      obtain ⟨ad2, ⟨sA, sc, Y⟩, rfl, hadb2, hym, hd2, hd0⟩ := lrow_at HR1.out (by rw [← Hm.out]; exact hkn)
      have K1 : Hid (Kept w wr.drew) := hkr.out.drew
      have e0 : wr.drew.cell? (ad.add k) = some (.slice rA X.length rc) := (Below.cell K1.out (by rw [addBlock]; exact hadb)).trans hc0
      have e1 : wr.drew.cell? (ad2.add k) = some (.slice sA Y.length sc) := (Below.cell K1.out (by rw [addBlock]; exact hadb2)).trans hd0
      have Hst : Hid (sameLL (L.drop k) (E.drop k) = (sameB X Y && sameLL (L.drop (k + 1)) (E.drop (k + 1)))) := by show _ = _; rw [hd, hd2, sameLL_cons]
      have hX := HL.out _ hxm
      have hY := HL1.out _ hym
      dsimp only at hX hY
      have C := Lib.hid (same_any rA sA rc sc X Y (by omega) (by omega) wr.drew ((hX.1.below K1.out).more K1.out.size) ((hY.1.below K1.out).more K1.out.size))
      generalize sameB X Y = bb at *
      generalize X.length = nx at *
      generalize Y.length = ny at *
      clear hxm hd hc0 hym hd2 hd0 hX hY
      go_upto_region 6 with fail
      have hlen1 : (k : Int) < n := by omega
      refine wp_region_still_tail 8 (by kernel_rfl) (by kernel_rfl) ?_
      simp only [List.take_succ_cons, List.take_zero, List.drop_succ_cons, List.drop_zero]
      show wpStill _ _ wr.drew (fun a' => wpList _ _ _ _ _ wr.drew) _ _
      generalize wr.drew = w1 at *
      repeat still_step
      refine wpStill_nil ?_
      clear hlen1 e0 e1
      rcases bb with _ | _
      · simp only [Bool.false_and] at Hst
        go_wp2_with (go_at_call 79; refine C.out.mono ?_; rintro e w2 ⟨rfl, hk2⟩; have HK2 := Lib.hid (below_kept K1.out hk2); clear hk2)
        go_ret
        exact ⟨by rw [hf.out, Hst.out]; rfl, HK2.out⟩
      · simp only [Bool.true_and] at Hst
        go_wp2_with (go_at_call 79; refine C.out.mono ?_; rintro e w2 ⟨rfl, hk2⟩; have HK2 := Lib.hid (below_kept K1.out hk2); clear hk2)
        go_roundw
        case rel => exact ⟨k + 1, by omega, by go_num, HK2, by show _ = _; rw [hf.out, Hst.out]⟩
        case measure => simp [intOf]; omega
    · obtain rfl : k = n := by omega
      have Hst : Hid (sameLL (L.drop k) (E.drop k) = true) := by
        show _ = _
        rw [List.drop_of_length_le (by rw [← Hn.out]; exact Nat.le_refl _), List.drop_of_length_le (by rw [← Hm.out]; exact Nat.le_refl _)]
        rfl
      go_wp2_with fail
      go_ret
      exact ⟨by rw [hf.out, Hst.out]; rfl, hkr.out⟩
end Go.Proofs.YtlhekeokognhmaaGreatDoor
namespace Go.Proofs.YtlhekeokognhmaaGreatDoor
open Go.RowKit Go.Shelf Go.Maps Go.Sort
theorem step_append_at {P : Program} {ops : Array Oper} {o : Oper} {a : Act} {w : World} {K : Act → World → Prop} {Q : Exit → Act → World → Prop} {E : Prop} (hgd : o.guard = none) (s x : Operand) (t : TypeId)
    (ho : o.op = .call { callee := .builtin .append, args := #[s, x], argTypes := #[t, t] })
    (base : Nat) (e : TypeId) (i : TypeInfo) (z : Value) (size bytes : Nat) (ht : P.underlying t = some (.slice e)) (hi : P.info? e = some i) (hz : i.zero = some z)
    (hsize : i.size = size) (hby : i.bytes = bytes) (hzs : z.cells.size = size) (hsz : 0 < size)
    (v : Value) (n : Nat) (xs : List Value) (hs : a.eval s = v) (hown : w.ownsRow base e size v n xs)
    (ad : Addr) (m c : Nat) (news : List Value) (hx : a.eval x = .slice (some ad) m c) (hl : news.length = m * size) (hnews : ∀ j u, news[j]? = some u → w.cell? (ad.add j) = some u) (h1 : ∀ u ∈ news, u.oneCell' = true)
    (h63 : n + m ≤ maxLen) (hbytes : (n + m) * bytes ≤ 140737488355328) (hbase : base ≤ w.heap.size)
    (h : ∀ v' w', w'.ownsRow base e size v' (n + m) (xs ++ news) → w.grownBy w' v.ownBlock → K (a.put o.dst v') w') :
    if Region.wanted o (yielded ops a.tmps) = true then Oper.wp P o a w K Q else E := by
  have hw : Region.wanted o (yielded ops a.tmps) = true := by simp [Region.wanted, hgd]
  rw [if_pos hw]
  obtain ⟨v', w', hr, h2, h3, _, _⟩ := run_append_own_at (P := P) w base t o.type e i z size bytes ht hi hz hsize hby hzs hsz v n xs hown ad m c news hl hnews h1 h63 hbytes hbase
  unfold Oper.wp execOp
  simp only [ho, resolve, invoke, builtin, Sem.run_bind, Sem.run_pure, Result.andThen_ok, List.map_toArray, List.map_cons, List.map_nil, hs, hx, hr]
  exact h v' w' h2 h3
def pairs : List ByteArray → List Lab
  | a :: b :: L => (a, b) :: pairs L
  | _ => []
theorem pairs_length : ∀ L : List ByteArray, (pairs L).length = L.length / 2
  | [] => rfl
  | [_] => by simp [pairs]
  | _ :: _ :: L => by
    show (pairs L).length + 1 = (L.length + 1 + 1) / 2
    rw [pairs_length L]
    omega
theorem pairs_get : ∀ (L : List ByteArray) (k : Nat), 2 * k + 1 < L.length → ∃ a b, L[2 * k]? = some a ∧ L[2 * k + 1]? = some b ∧ (pairs L)[k]? = some (a, b)
  | [], k, h => by simp at h
  | [_], k, h => by simp at h
  | a :: b :: L, 0, _ => ⟨a, b, rfl, rfl, rfl⟩
  | a :: b :: L, k + 1, h => by
    obtain ⟨x, y, h1, h2, h3⟩ := pairs_get L k (by simp only [List.length_cons] at h; omega)
    exact ⟨x, y, h1, h2, h3⟩
set_option maxRecDepth 100000 in
set_option maxHeartbeats 2000000 in
theorem ofS_any (A : Option Addr) (c : Nat) (ns : List ByteArray) (hL : ns.length ≤ 1000000) (w : World) (hr : Rd w w.heap.size A ns.length (strs ns)) :
    Calls Tryz.prog 9 #[.slice A ns.length c] w fun e w' => ∃ v, e = .returned v ∧ w'.ownsRow w.heap.size 33 2 v (ns.length / 2) (labs (pairs ns)) ∧ Kept w w' := by
  have HR := Lib.hid hr
  obtain ⟨i0, hi0, hz0, hz1, hz2⟩ := info_parts infoLab
  obtain ⟨n, hn⟩ : ∃ n, n = ns.length := ⟨_, rfl⟩
  have Hn := Lib.hid hn
  have Hpl : Hid ((pairs ns).length = n / 2) := by show _ = _; rw [pairs_length, ← hn]
  rw [← hn] at hL ⊢
  clear hr hn
  go_enter Tryz.func9, Tryz.ntmps9
  go_wp2_with fail
  go_loopw [3, 4] (fun v3 v4 wr => ∃ k j : Nat, k ≤ n / 2 ∧ v4 = .int .i64 j ∧ Hid (j = 2 * k) ∧ j ≤ n ∧ Hid (Kept w wr) ∧ Hid (wr.ownsRow w.heap.size 33 2 v3 k (labs ((pairs ns).take k)))) (fun _ v4 _ => n - (intOf v4).toNat)
  case atStart => exact ⟨0, 0, by omega, rfl, rfl, by omega, Below.refl _ _, ⟨rfl, .inl ⟨rfl, rfl⟩⟩⟩
  case round =>
    obtain ⟨k, j, hk, rfl, hj, hjn, hkr, hown⟩ := hrel
    obtain ⟨j1, hj1⟩ : ∃ j1, j1 = j + 1 := ⟨_, rfl⟩
    have hwj : IntKind.i64.wrap ((j : Int) + 1) = (j1 : Int) := by rw [IntKind.wrap_i64]; omega
    have hwj2 : IntKind.i64.wrap ((j : Int) + 2) = ((j1 + 1 : Nat) : Int) := by rw [IntKind.wrap_i64]; omega
    have HJ1 := Lib.hid hj1
    by_cases hkn : j1 < n
    · obtain ⟨a, b, ha, hb, hp⟩ := pairs_get ns k (by rw [← Hn.out, ← hj.out, ← hj1]; exact hkn)
      rw [← hj.out] at ha hb
      rw [← hj1] at hb
      obtain ⟨ad, u, hA, hadb, hu, hcu⟩ := HR.out.at_ (k := j) (by rw [← Hn.out]; omega)
      obtain ⟨ad', u', hA', _, hu', hcu'⟩ := HR.out.at_ (k := j1) (by rw [← Hn.out]; exact hkn)
      subst hA
      cases hA'
      have e1 : u = .string a := by
        rw [List.getElem?_eq_some_iff] at ha
        obtain ⟨h1, h2⟩ := ha
        rw [strs_get _ _ h1, h2] at hu
        exact (Option.some.inj hu).symm
      have e2 : u' = .string b := by
        rw [List.getElem?_eq_some_iff] at hb
        obtain ⟨h1, h2⟩ := hb
        rw [strs_get _ _ h1, h2] at hu'
        exact (Option.some.inj hu').symm
      subst e1 e2
      have K1 : Hid (Kept w wr.drew) := hkr.out.drew
      have c0 : wr.drew.cell? (ad.add j) = some (.string a) := (Below.cell K1.out (by rw [addBlock]; exact hadb)).trans hcu
      have c1 : wr.drew.cell? (ad.add j1) = some (.string b) := (Below.cell K1.out (by rw [addBlock]; exact hadb)).trans hcu'
      have Htk : Hid ((pairs ns).take (k + 1) = (pairs ns).take k ++ [(a, b)]) := by show _ = _; rw [List.take_add_one, hp]; rfl
      have hown1 : Hid (wr.drew.ownsRow w.heap.size 33 2 u3 k (labs ((pairs ns).take k))) := hown.out
      have hlt1 : (j : Int) < n := by omega
      have hlt2 : (j1 : Int) < n := by omega
      have Hk : Hid (∀ W, Below w.heap.size wr W → (W.cell? (ad.add j) = some (.string a) ∧ W.cell? (ad.add j1) = some (.string b)) ∧ Below w.heap.size wr W) := fun W h => ⟨⟨(Below.cell (Below.trans hkr.out h) (by rw [addBlock]; exact hadb)).trans hcu, (Below.cell (Below.trans hkr.out h) (by rw [addBlock]; exact hadb)).trans hcu'⟩, h⟩
      clear ha hb hp hu hcu hu' hcu' hj1 c0 c1
      go_upto_region 5 with fail
      have hkk : k < n / 2 := by have := hj.out; have := HJ1.out; omega
      have hb00 := Below.refl w.heap.size wr
      have hwz : w.heap.size ≤ wr.heap.size := Below.size hkr.out
      go_region_held3 (fun W => (W.cell? (ad.add j) = some (.string a) ∧ W.cell? (ad.add j1) = some (.string b)) ∧ Below w.heap.size wr W)
        ((refine Hk.out _ ?_; (repeat (first | with_reducible assumption | with_reducible refine Below.drew ?_ | with_reducible refine Below.alloc ?_ hwz _)); done))
        (first
          | (refine step_append_at rfl _ _ 28 rfl w.heap.size 33 i0 (.agg #[.string ⟨#[]⟩, .string ⟨#[]⟩]) 2 32 Tryz.underlying28 hi0 hz0 hz1 hz2 rfl (by decide) u3 k (labs ((pairs ns).take k)) rfl (hown1.out.alloc _) ⟨wr.heap.size, 0, none⟩ 1 1 [.string a, .string b] rfl rfl (cells_new wr.drew [.string a, .string b] 33) (by intro u hu; simp at hu; rcases hu with rfl | rfl <;> rfl) (by unfold maxLen; omega) (by omega) (Nat.le_trans hwz (by simp)) ?_; intro v5 w5 hown5 hg5; have hb3 := Below.grown (Below.alloc (Below.drew (Below.refl w.heap.size wr)) hwz (.cells #[.string a, .string b] 33)) hg5 (Nat.le_trans hwz (by simp)) (fun j e => (hown.out.lt j e).1); have Hown5 := Lib.hid hown5; clear hown5 hg5))

      go_wp2_with fail
      go_roundw
      case rel =>
        refine ⟨k + 1, j1 + 1, by omega, by go_num, by show _ = _; have := hj.out; have := HJ1.out; omega, by omega, Below.trans hkr.out hb3, ?_⟩
        show World.ownsRow _ _ _ _ _ _ _
        rw [Htk.out, labs_snoc]
        exact Hown5.out
      case measure => have := HJ1.out; simp [intOf]; omega
    · have hkk : k = n / 2 := by have := hj.out; have := HJ1.out; omega
      have Hall : Hid ((pairs ns).take k = pairs ns) := List.take_of_length_le (by rw [Hpl.out]; omega)
      have hge : ¬ (j1 : Int) < n := by omega
      rw [Hall.out] at hown
      have Hkk := Lib.hid hkk
      clear hkk hj1
      go_wp2_with fail
      go_ret
      exact ⟨_, rfl, by rw [← Hkk.out]; exact hown.out, hkr.out⟩
end Go.Proofs.YtlhekeokognhmaaGreatDoor
