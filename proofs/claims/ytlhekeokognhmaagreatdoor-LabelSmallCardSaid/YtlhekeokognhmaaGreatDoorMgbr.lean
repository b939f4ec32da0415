/-
  LabelSmall: what its walk leans on. LabelSmall: what its last region leans on. LabelSmall: its walk; what stands at five places.
-/
import Derived.Test.YtlhekeokognhmaaGreatDoorLcY
import Derived.Test.YtlhekeokognhmaaGreatDoorLcG
import Derived.Test.YtlhekeokognhmaaGreatDoorLbRep
import Derived.Laws.BytesString
import Derived.Test.YtlhekeokognhmaaGreatDoorMgaq
import Derived.Test.YtlhekeokognhmaaGreatDoorLbWx
import Derived.Deep.CutBlock
namespace Go.Proofs.YtlhekeokognhmaaGreatDoor
open Go.RowKit Go.Shelf Go.Maps Go.Sort
theorem conv_rows (w : World) (B : Nat) (A : Option Addr) (n c : Nat) (xs : List Int) (h : Rd w B A n (u8s xs)) : (convert 26 9 (.slice A n c)).run Tryz.prog w = .ok (.string (strOfNums xs)) w := by
  have hl := h.1
  rw [u8s_length] at hl
  rcases A with _ | ad
  · have h0 : n = 0 := by
      rcases Nat.eq_zero_or_pos n with h0 | h0
      · exact h0
      · obtain ⟨_, e, _⟩ := h.2 h0
        cases e
    subst h0
    obtain rfl := List.eq_nil_of_length_eq_zero hl
    exact (run_convert_bytes_nil w 26 5 Tryz.underlying26 Tryz.underlying5 0 c 9 Tryz.underlying9).trans rfl
  · have hc : (loadCells ad n).run Tryz.prog w = .ok (xs.map (Value.int .u8)).toArray w := by
      have := run_loadCells_list (P := Tryz.prog) w ad (u8s xs) (fun j v hv => by
        rcases Nat.eq_zero_or_pos n with h0 | h0
        · have := (List.getElem?_eq_some_iff.1 hv).1
          rw [u8s_length] at this
          omega
        · obtain ⟨ad', e, _, hcl⟩ := h.2 h0
          cases e
          exact hcl j v hv)
      rw [u8s_length, hl] at this
      exact this
    rw [run_convert_bytes_string w 26 9 5 (some ad) n c Tryz.underlying26 Tryz.underlying5 Tryz.underlying9, run_bytesToString w ad n c xs hc, foldl_push_bytes]
    simp [strOfNums, ByteArray.empty, ByteArray.emptyWithCapacity]
    rfl
/-- A row that lies there. -/
theorem rd_row {w : World} {g : Nat} {xs : List Value} {t : TypeId} {fr : Nat × Nat} (h : w.heap[g]? = some (.cells xs.toArray t fr)) : Rd w w.heap.size (some ⟨g, 0, none⟩) xs.length xs :=
  ⟨rfl, fun _ => ⟨_, rfl, heap_lt h, fun j u hu => by rw [add0, cell_of_row _ g j _ _ _ h, List.getElem?_toArray]; exact hu⟩⟩
/-- What lies in a row. -/
theorem row_cellsK {w : World} {g : Nat} {cs : Array Value} {t : TypeId} {fr : Nat × Nat} (h : w.heap[g]? = some (.cells cs t fr)) : ∀ j v, cs[j]? = some v → w.cell? ((⟨g, 0, none⟩ : Addr).add j) = some v :=
  fun j v hv => by rw [add0, cell_of_row _ g j _ _ _ h]; exact hv
theorem rd_first {w : World} {g : Nat} {a b c d e f : Value} {t : TypeId} {fr : Nat × Nat} (h : w.heap[g]? = some (.cells #[a, b, c, d, e, f] t fr)) : Rd w w.heap.size (some ⟨g, 0, none⟩) 4 [a, b, c, d] :=
  ⟨rfl, fun _ => ⟨_, rfl, heap_lt h, fun j u hu => by
    rw [add0, cell_of_row _ g j _ _ _ h]
    rcases j with _ | _ | _ | _ | j <;> first | exact hu | simp at hu⟩⟩
theorem rd_last {w : World} {g : Nat} {a b c d e f : Value} {t : TypeId} {fr : Nat × Nat} (h : w.heap[g]? = some (.cells #[a, b, c, d, e, f] t fr)) : Rd w w.heap.size (some ⟨g, 2, none⟩) 4 [c, d, e, f] :=
  ⟨rfl, fun _ => ⟨_, rfl, heap_lt h, fun j u hu => by
    have ha : (⟨g, 2, none⟩ : Addr).add j = ⟨g, 2 + j, none⟩ := by
      have h2 : (⟨g, 0, none⟩ : Addr).add 2 = ⟨g, 2, none⟩ := by rw [add0]
      rw [← h2, addr_add_add, add0]
    rw [ha, cell_of_row _ g (2 + j) _ _ _ h]
    rcases j with _ | _ | _ | _ | j <;> first | exact hu | simp at hu⟩⟩
/-- The first ones of labels. -/
theorem rdl_take {w : World} {B : Nat} {A : Option Addr} {L : List Lab} (h : RdL w B A L) (n : Nat) : RdL w B A (L.take n) := by
  have hs : labs L = labs (L.take n) ++ labs (L.drop n) := by rw [← labs_app, List.take_append_drop]
  have hl : (labs (L.take n)).length = (L.take n).length * 2 := labs_length _
  refine ⟨hl, fun h0 => ?_⟩
  have h1 : (L.take n).length ≤ L.length := by rw [List.length_take]; omega
  obtain ⟨ad, e, hb, hc⟩ := h.2 (by omega)
  refine ⟨ad, e, hb, fun j u hu => hc j u ?_⟩
  rw [hs, List.getElem?_append_left (List.getElem?_eq_some_iff.1 hu).1]
  exact hu
/-- of, of a literal that lies there. -/
theorem ofAt (g : Nat) (ns : List ByteArray) (hn : ns.length ≤ 1000) (W : World) {t : TypeId} (h : W.heap[g]? = some (.cells (strs ns).toArray t)) :
    Calls Tryz.prog 9 #[.slice (some ⟨g, 0, none⟩) ns.length ns.length] W fun e w' => ∃ A c, e = .returned (.slice A (pairs ns).length c) ∧ RdL w' w'.heap.size A (pairs ns) ∧ Kept W w' := by
  have hrd := rd_row h
  have hsl : (strs ns).length = ns.length := by simp [strs]
  rw [hsl] at hrd
  refine (ofS_any (some ⟨g, 0, none⟩) ns.length ns (by omega) _ hrd).mono ?_
  rintro e w' ⟨v, rfl, ho, hk'⟩
  obtain ⟨A, c, rfl, _, hr⟩ := own_rd ho
  rw [← pairs_length] at hr ⊢
  exact ⟨A, c, rfl, hr, hk'⟩
section
variable (a b c d : ByteArray) (g : Nat) (W : World)
theorem of2At (h : W.heap[g]? = some (.cells #[.string a, .string b] 9)) : Calls Tryz.prog 9 #[.slice (some ⟨g, 0, none⟩) 2 2] W fun e w' => ∃ A c, e = .returned (.slice A 1 c) ∧ RdL w' w'.heap.size A [(a, b)] ∧ Kept W w' := ofAt g [a, b] (by simp) W h
theorem of4At (h : W.heap[g]? = some (.cells #[.string a, .string b, .string c, .string d] 9)) : Calls Tryz.prog 9 #[.slice (some ⟨g, 0, none⟩) 4 4] W fun e w' => ∃ A c', e = .returned (.slice A 2 c') ∧ RdL w' w'.heap.size A [(a, b), (c, d)] ∧ Kept W w' := ofAt g [a, b, c, d] (by simp) W h
end
/-- A letter x, so many times. -/
theorem rep_any (n : Nat) (hn : n ≤ 2000) (b : UInt8) (W : World) : ∃ s : ByteArray, s.size = n ∧ Calls Tryz.prog 10 #[.string ⟨#[b]⟩, .int .i64 (n : Int)] W fun e w' => e = .returned (.string s) ∧ Kept W w' := by
  have h2 := sh_strings_Repeat ⟨#[b]⟩ n W (by omega) (by show 1 * n ≤ _; omega)
  exact ⟨_, by simp [ByteArray.size, Lib.repeatL_length], h2⟩
theorem six_at (W : World) (k : Nat) (hk : k < 6) : ∃ n : Nat, 127 ≤ n ∧ n ≤ 1025 ∧ (W.alloc (.cells #[.int .i64 127, .int .i64 128, .int .i64 129, .int .i64 1023, .int .i64 1024, .int .i64 1025] 3)).cell? ⟨W.heap.size, k, none⟩ = some (.int .i64 n) := by
  have hM : (W.alloc (.cells #[.int .i64 127, .int .i64 128, .int .i64 129, .int .i64 1023, .int .i64 1024, .int .i64 1025] 3)).heap[W.heap.size]? = some (.cells #[.int .i64 127, .int .i64 128, .int .i64 129, .int .i64 1023, .int .i64 1024, .int .i64 1025] 3) := heap_alloc_new _ _
  rcases (by omega : k = 0 ∨ k = 1 ∨ k = 2 ∨ k = 3 ∨ k = 4 ∨ k = 5) with rfl | rfl | rfl | rfl | rfl | rfl
  · exact ⟨127, by omega, by omega, by rw [cell_of_row _ _ _ _ _ _ hM]; rfl⟩
  · exact ⟨128, by omega, by omega, by rw [cell_of_row _ _ _ _ _ _ hM]; rfl⟩
  · exact ⟨129, by omega, by omega, by rw [cell_of_row _ _ _ _ _ _ hM]; rfl⟩
  · exact ⟨1023, by omega, by omega, by rw [cell_of_row _ _ _ _ _ _ hM]; rfl⟩
  · exact ⟨1024, by omega, by omega, by rw [cell_of_row _ _ _ _ _ _ hM]; rfl⟩
  · exact ⟨1025, by omega, by omega, by rw [cell_of_row _ _ _ _ _ _ hM]; rfl⟩
end Go.Proofs.YtlhekeokognhmaaGreatDoor
namespace Go.Proofs.YtlhekeokognhmaaGreatDoor
open Go.RowKit Go.Shelf Go.Maps Go.Sort
/-- The last ones of labels. -/
theorem rdl_dropA {w : World} {B : Nat} {ad : Addr} {L : List Lab} (h : RdL w B (some ad) L) (n : Nat) : RdL w B (some (ad.add (n * 2))) (L.drop n) := by
  have hs : labs L = labs (L.take n) ++ labs (L.drop n) := by rw [← labs_app, List.take_append_drop]
  have hl : (labs (L.drop n)).length = (L.drop n).length * 2 := labs_length _
  refine ⟨hl, fun h0 => ?_⟩
  have h1 : (L.drop n).length = L.length - n := List.length_drop
  obtain ⟨ad', e, hb, hc⟩ := h.2 (by omega)
  cases e
  refine ⟨_, rfl, by unfold Addr.add; split <;> exact hb, fun j u hu => ?_⟩
  rw [addr_add_add]
  refine hc (n * 2 + j) u ?_
  have h2 : (labs (L.take n)).length = n * 2 := by rw [labs_length, List.length_take]; omega
  rw [hs, List.getElem?_append_right (by omega), h2, Nat.add_sub_cancel_left]
  exact hu
/-- tells and changes, of labels in so many places. -/
theorem tellsN {s : ByteArray} {A : Option Addr} {n c : Nat} (L : List Lab) {W : World} (hn : L.length = n) (hs : s.size ≤ 100) (hr : RdL W W.heap.size A L) (hT : Tab W) :
    Calls Tryz.prog 8 #[.string s, .slice A n c] W fun e w' => e = .returned (.bool true) ∧ Kept W w' := by
  subst hn
  exact tells_any s (by unfold maxLen; omega) A c L W hr hT
theorem changesN {A1 A2 A3 A4 : Option Addr} {c1 c2 c3 c4 n1 n2 n3 n4 : Nat} (L1 L2 L3 : List Lab) (ns : List ByteArray) {W : World} (h1 : L1.length = n1) (h2 : L2.length = n2) (h3 : L3.length = n3) (h4 : ns.length = n4)
    (hr1 : RdL W W.heap.size A1 L1) (hr2 : RdL W W.heap.size A2 L2) (hr3 : RdL W W.heap.size A3 L3) (hr4 : Rd W W.heap.size A4 ns.length (strs ns)) (hT : Tab W) :
    Calls Tryz.prog 6 #[.slice A1 n1 c1, .slice A2 n2 c2, .slice A3 n3 c3, .slice A4 n4 c4] W fun e w' => e = .returned (.bool true) ∧ Kept W w' := by
  subst h1 h2 h3 h4
  exact changes_any A1 A2 A3 A4 c1 c2 c3 c4 L1 L2 L3 ns W hr1 hr2 hr3 hr4 hT
theorem rd_none {W : World} {B : Nat} : RdL W B none [] := ⟨rfl, fun h => absurd h (by decide)⟩
theorem rds_none {W : World} {B : Nat} : Rd W B none ([] : List ByteArray).length (strs []) := ⟨rfl, fun h => absurd h (by decide)⟩
/-- of, of two strings: a row of one's own. -/
theorem of2O (a b : ByteArray) (g : Nat) (W : World) (h : W.heap[g]? = some (.cells #[.string a, .string b] 9)) : Calls Tryz.prog 9 #[.slice (some ⟨g, 0, none⟩) 2 2] W fun e w' => ∃ v, e = .returned v ∧ w'.ownsRow W.heap.size 33 2 v 1 (labs [(a, b)]) ∧ Kept W w' := by
  have hrd := rd_row (xs := strs [a, b]) h
  have h2 := ofS_any (some ⟨g, 0, none⟩) 2 [a, b] (by simp) W hrd
  simpa only [List.length_cons, List.length_nil, Nat.zero_add, Nat.reduceAdd, Nat.reduceDiv, pairs] using h2
/-- What an append made of one label and others, as a row. -/
theorem own_app {w : World} {base n : Nat} {v : Value} {y : Lab} {M : List Lab} (hn : M.length = n) (h : w.ownsRow base 33 2 v (1 + n) (labs [y] ++ labs M)) : ∃ A c, v = .slice A (n + 1) c ∧ RdL w w.heap.size A ([y] ++ M) := by
  subst hn
  obtain ⟨A, c, e, _, hr⟩ := own_rd h
  refine ⟨A, c, by rw [Nat.add_comm]; exact e, ?_⟩
  show Rd _ _ _ _ _
  rw [labs_app, List.length_append]
  exact hr
/-- An append of labels, at a ready operation. -/
theorem wp_appG {P : Program} {ops : Array Oper} {o : Oper} {a : Act} {w : World} {K : Act → World → Prop} {Q : Exit → Act → World → Prop} {E : Prop} (hw : Region.wanted o (yielded ops a.tmps) = true) (s x : Operand) (t : TypeId)
    (ho : o.op = .call { callee := .builtin .append, args := #[s, x], argTypes := #[t, t] })
    (base : Nat) (i : TypeInfo) (z : Value) (bytes : Nat) (ht : P.underlying t = some (.slice 33)) (hi : P.info? 33 = some i) (hz : i.zero = some z)
    (hsize : i.size = 2) (hby : i.bytes = bytes) (hzs : z.cells.size = 2)
    (v : Value) (n : Nat) (xs : List Value) (hs : a.eval s = v) (hown : w.ownsRow base 33 2 v n xs)
    (A : Option Addr) (m c : Nat) (news : List Value) (hx : a.eval x = .slice A m c) (hr : Rd w w.heap.size A (m * 2) news) (h1 : ∀ u ∈ news, u.oneCell' = true)
    (h63 : n + m ≤ maxLen) (hbytes : (n + m) * bytes ≤ 140737488355328) (hbase : base ≤ w.heap.size)
    (h : ∀ v' w', w'.ownsRow base 33 2 v' (n + m) (xs ++ news) → w.grownBy w' v.ownBlock → K (a.put o.dst v') w') : if Region.wanted o (yielded ops a.tmps) = true then Oper.wp P o a w K Q else E := by
  rw [if_pos hw]
  obtain ⟨v', w', hrun, h2, h3⟩ := run_appG (P := P) w base t o.type i z bytes ht hi hz hsize hby hzs v n xs hown A m c news hr h1 h63 hbytes hbase
  unfold Oper.wp execOp
  simp only [ho, resolve, invoke, builtin, Sem.run_bind, Sem.run_pure, Result.andThen_ok, List.map_toArray, List.map_cons, List.map_nil, hs, hx, hrun]
  exact h v' w' h2 h3
end Go.Proofs.YtlhekeokognhmaaGreatDoor
namespace Go.Proofs.YtlhekeokognhmaaGreatDoor
open Go.RowKit Go.Shelf Go.Maps Go.Sort
/-- A proposition that no step takes by itself. -/
structure Later (P : Prop) : Prop where
  out : P
/-- What stands at places of a walk, as propositions. -/
def mk5 {T : Prop} (P1 P2 P3 P4 P5 : Prop) (h : Later P1 → Later P2 → Later P3 → Later P4 → Later P5 → T) : {q : Prop × Prop × Prop × Prop × Prop // q.1 → q.2.1 → q.2.2.1 → q.2.2.2.1 → q.2.2.2.2 → T} := ⟨(P1, P2, P3, P4, P5), fun h1 h2 h3 h4 h5 => h ⟨h1⟩ ⟨h2⟩ ⟨h3⟩ ⟨h4⟩ ⟨h5⟩⟩
def mk1 {T : Prop} (P : Prop) (h : Later P → T) : {q : Prop // q → T} := ⟨P, fun h1 => h ⟨h1⟩⟩
set_option maxRecDepth 100000 in
set_option maxHeartbeats 40000000 in
noncomputable def sp0 (w : World) (hT : Tab w) : {q : Prop × Prop × Prop × Prop × Prop // q.1 → q.2.1 → q.2.2.1 → q.2.2.2.1 → q.2.2.2.2 → Calls Tryz.prog 4 #[] w fun e w' => e = .returned (.bool true) ∧ Kept w w'} := by
  apply mk5
  · intro q1 q2 q3 q4 q5
    have HT : Hid (∀ W, Kept w W → Tab W) := fun W h => hT.below h
    go_enter Tryz.func4, Tryz.ntmps4
    go_wp2_with fail
    go_loopw [17] (fun v17 wr => ∃ k : Nat, k ≤ 256 ∧ v17 = .int .i64 k ∧ Hid (Kept w wr)) (fun v17 _ => 256 - (intOf v17).toNat)
    case atStart => exact ⟨0, by omega, rfl, Below.refl _ _⟩
    case round =>
      obtain ⟨k, hk, rfl, hkr⟩ := hrel
      by_cases hkn : k < 256
      · skip
        rename_i ia1 ia2 ia3
        revert HT ia1 ia2 ia3 wr u0 u1 u2 u18 u19 u20 u21 u22 u23 u24 u25 u26 u27 u28 u29 u30 u31 u32 u33 u34 u35 u36 u37 u38 u39 u40 u41 u42 u43 u44 u45 u46 u47 u48 u49 u50 u51 u52 u53 u54 k hk hkr hkn
        exact q1.out
      · have h1 : ¬ (k : Int) < 256 := by omega
        clear q1
        obtain ⟨w1, rfl⟩ : ∃ x, x = wr := ⟨_, rfl⟩
        have HS := Lib.hid (six_at w1)
        go_wp2_with fail
        obtain ⟨w0, hw0⟩ : ∃ x, x = w1.alloc (.cells #[.int .i64 127, .int .i64 128, .int .i64 129, .int .i64 1023, .int .i64 1024, .int .i64 1025] 3) := ⟨_, rfl⟩
        have HK0 : Hid (Kept w w0) := by rw [hw0]; exact below_alloc0 hkr.out _
        have hsz : w1.heap.size < w0.heap.size := by rw [hw0]; simp
        rw [← hw0] at HS ⊢
        clear hw0 hkr hkn h1 hk
        go_loopw [57] (fun v57 wr => ∃ k : Nat, k ≤ 6 ∧ v57 = .int .i64 k ∧ Hid (Kept w0 wr)) (fun v57 _ => 6 - (intOf v57).toNat)
        case atStart => exact ⟨0, by omega, rfl, Below.refl _ _⟩
        case round =>
          obtain ⟨k, hk, rfl, hkr⟩ := hrel
          by_cases hkn : k < 6
          · skip
            rename_i ia1 ia2 ia3 ia4 ia5 ia6 ia7 ia8 ia9
            revert HT ia1 ia2 ia3 u1 u2 u18 u19 u20 u21 u22 u23 u24 u25 u26 u27 u28 u29 u30 u31 u32 u33 u34 u35 u36 u37 u38 u39 u40 u41 u42 u43 u44 u45 u46 u47 u48 u49 u50 u51 u52 u53 u54 ia4 w1 ia5 ia6 ia7 ia8 ia9 w0 HS HK0 hsz wr u0 u4 u5 u58 u59 u60 u61 u62 u63 u64 u65 u66 u67 u68 u69 u70 u71 u72 u73 u74 u75 u76 u77 u78 u79 u80 u81 u82 u83 u84 u85 u86 u87 u88 u89 u90 u91 u92 u93 u94 u95 k hk hkr hkn
            exact q2.out
          · have h1 : ¬ (k : Int) < 6 := by omega
            clear q2
            obtain ⟨w2, rfl⟩ : ∃ x, x = wr := ⟨_, rfl⟩
            have K2 : Hid (Kept w w2) := below_kept HK0.out hkr.out
            clear hkr HS hsz hkn hk HK0
            go_wp2_with fail
            obtain ⟨w0, hw0, hd, hk, hlt⟩ := new_row w2 #[.string ⟨#[97]⟩, .string ⟨#[49]⟩, .string ⟨#[98]⟩, .string ⟨#[50]⟩, .string ⟨#[97]⟩, .string ⟨#[]⟩, .string ⟨#[101, 120, 112, 111, 114, 116, 101, 100, 95, 97]⟩, .string ⟨#[51]⟩, .string ⟨#[101, 120, 112, 111, 114, 116, 101, 100, 95, 98]⟩, .string ⟨#[50]⟩, .string ⟨#[66]⟩, .string ⟨#[57]⟩, .string ⟨#[48]⟩, .string ⟨#[120]⟩, .string ⟨#[97, 98]⟩, .string ⟨#[255]⟩] 33
            obtain ⟨g6, hg6⟩ : ∃ g, g = w2.heap.size := ⟨_, rfl⟩
            rw [← hw0, ← hg6]
            rw [← hg6] at hd
            have HK0 : Hid (Kept w w0) := kk K2 hk
            have hR : RdL w0 w0.heap.size (some ⟨g6, 0, none⟩) [(⟨#[97]⟩, ⟨#[49]⟩), (⟨#[98]⟩, ⟨#[50]⟩), (⟨#[97]⟩, ⟨#[]⟩), (⟨#[101, 120, 112, 111, 114, 116, 101, 100, 95, 97]⟩, ⟨#[51]⟩), (⟨#[101, 120, 112, 111, 114, 116, 101, 100, 95, 98]⟩, ⟨#[50]⟩), (⟨#[66]⟩, ⟨#[57]⟩), (⟨#[48]⟩, ⟨#[120]⟩), (⟨#[97, 98]⟩, ⟨#[255]⟩)] := rd_row hd
            revert hR
            generalize hL : ([(⟨#[97]⟩, ⟨#[49]⟩), (⟨#[98]⟩, ⟨#[50]⟩), (⟨#[97]⟩, ⟨#[]⟩), (⟨#[101, 120, 112, 111, 114, 116, 101, 100, 95, 97]⟩, ⟨#[51]⟩), (⟨#[101, 120, 112, 111, 114, 116, 101, 100, 95, 98]⟩, ⟨#[50]⟩), (⟨#[66]⟩, ⟨#[57]⟩), (⟨#[48]⟩, ⟨#[120]⟩), (⟨#[97, 98]⟩, ⟨#[255]⟩)] : List Lab) = L
            intro hR
            have hLn : L.length = 8 := by rw [← hL]; rfl
            have HZ : ∀ y ∈ L, y.1.size ≤ maxLen := by
              have h : L.all (fun y => Nat.ble y.1.size 100) = true := by rw [← hL]; kernel_rfl
              intro y hy
              have := Nat.le_of_ble_eq_true (List.all_eq_true.1 h y hy)
              unfold maxLen
              omega
            have HR : Hid (∀ W, Kept w0 W → RdL W W.heap.size (some ⟨g6, 0, none⟩) L) := fun W h => (hR.below h).more h.size
            clear hw0 hg6 hd hk hlt hR hL K2 h1
            go_loopw [107] (fun v107 wr => ∃ k : Nat, k ≤ 8 ∧ v107 = .int .i64 k ∧ Hid (Kept w0 wr)) (fun v107 _ => 8 - (intOf v107).toNat)
            case atStart => exact ⟨0, by omega, rfl, Below.refl _ _⟩
            case round =>
              obtain ⟨k3, hk, rfl, hkr⟩ := hrel
              by_cases hkn : k3 < 8
              · skip
                rename_i ia1 ia2 ia3 ia4 ia5 ia6 ia7 ia8 ia9 ia10 ia11 ia12 ia13 ia14 ia15
                revert HT ia1 ia2 ia3 u1 u2 u18 u19 u20 u21 u22 u23 u24 u25 u26 u27 u28 u29 u30 u31 u32 u33 u34 u35 u36 u37 u38 u39 u40 u41 u42 u43 u44 u45 u46 u47 u48 u49 u50 u51 u52 u53 u54 ia4 w1 ia5 ia6 ia7 ia8 ia9 ia10 u4 u5 u58 u59 u60 u61 u62 u63 u64 u65 u66 u67 u68 u69 u70 u71 u72 u73 u74 u75 u76 u77 u78 u79 u80 u81 u82 u83 u84 u85 u86 u87 u88 u89 u90 u91 u92 u93 u94 u95 k w2 ia11 ia12 ia13 ia14 ia15 w0 g6 HK0 L hLn HZ HR wr u0 u8 u10 u12 u13 u108 u109 u110 u111 u112 u113 u114 u115 u116 u117 u118 u119 u120 u121 u122 u123 u124 u125 u126 u127 u128 u129 u130 u131 u132 u133 u134 u135 u136 u137 u138 u139 u140 u141 u142 u143 u144 u145 u146 u147 u148 u149 u150 u151 u152 u153 u154 u155 u156 u157 u158 k3 hk hkr hkn
                exact q3.out
              · have h1 : ¬ (k3 : Int) < 8 := by omega
                clear q3
                obtain ⟨w3, rfl⟩ : ∃ x, x = wr := ⟨_, rfl⟩
                have K3 : Hid (Kept w w3) := below_kept HK0.out hkr.out
                clear HR HZ hLn hkr HK0
                obtain ⟨i0, hi0, hz0, hz1, hz2⟩ := info_parts infoLab
                go_wp2_with fail
                go_loopw [14, 159] (fun v14 v159 wr => ∃ k : Nat, ∃ L : List Lab, k ≤ 65 ∧ L.length = k ∧ v159 = .int .i64 k ∧ Hid (Kept w3 wr) ∧ Hid (wr.ownsRow w3.heap.size 33 2 v14 k (labs L))) (fun _ v159 _ => 65 - (intOf v159).toNat)
                case atStart => exact ⟨0, [], by omega, rfl, rfl, Below.refl _ _, ⟨rfl, .inl ⟨rfl, rfl⟩⟩⟩
                case round =>
                  obtain ⟨k, L, hk, hL, rfl, hkr, hown⟩ := hrel
                  by_cases hkn : k < 65
                  · have h2 : (k : Int) < 65 := by omega
                    rename_i ia1 ia2 ia3 ia4 ia5 ia6 ia7 ia8 ia9 ia10 ia11 ia12 ia13 ia14 ia15 ia16 ia17 ia18 ia19 ia20 ia21 ia22 ia23
                    revert HT ia1 ia2 ia3 u1 u2 u18 u19 u20 u21 u22 u23 u24 u25 u26 u27 u28 u29 u30 u31 u32 u33 u34 u35 u36 u37 u38 u39 u40 u41 u42 u43 u44 u45 u46 u47 u48 u49 u50 u51 u52 u53 u54 ia4 w1 ia5 ia6 ia7 ia8 ia9 ia10 u4 u5 u58 u59 u60 u61 u62 u63 u64 u65 u66 u67 u68 u69 u70 u71 u72 u73 u74 u75 u76 u77 u78 u79 u80 u81 u82 u83 u84 u85 u86 u87 u88 u89 u90 u91 u92 u93 u94 u95 ia11 w2 ia12 ia13 ia14 ia15 w0 g6 ia16 u0 u8 u10 u12 u13 u108 u109 u110 u111 u112 u113 u114 u115 u116 u117 u118 u119 u120 u121 u122 u123 u124 u125 u126 u127 u128 u129 u130 u131 u132 u133 u134 u135 u136 u137 u138 u139 u140 u141 u142 u143 u144 u145 u146 u147 u148 u149 u150 u151 u152 u153 u154 u155 u156 u157 u158 k3 ia17 ia18 w3 K3 i0 hi0 hz0 hz1 hz2 ia19 ia20 ia21 ia22 ia23 h1 wr u14 u15 u160 u161 u162 u163 u164 u165 u166 u167 u168 u169 u170 u171 u172 u173 u174 u175 u176 u177 k L hk hL hkr hown hkn h2
                    exact q4.out
                  · have h2 : ¬ (k : Int) < 65 := by omega
                    clear q4
                    obtain ⟨w4, rfl⟩ : ∃ x, x = wr := ⟨_, rfl⟩
                    obtain ⟨A, c14, rfl, hc14, hrd⟩ := own_rd hown.out
                    have hk65 : Hid (k = 65) := by show _ = _; omega
                    obtain ⟨ad, rfl, had, -⟩ := hrd.2 (by have := hk65.out; omega)
                    have RL : Hid (∀ W, Kept w4 W → RdL W W.heap.size (some ad) L) := fun W h => rd_kept h (by show Rd _ _ _ _ _; rw [hL]; exact hrd)
                    have K4 : Hid (Kept w w4) := below_kept K3.out hkr.out
                    obtain ⟨l, hl1, C⟩ := rep_any 120 (by omega) 121 w4
                    have C : Hid (Calls Tryz.prog 10 #[.string ⟨#[121]⟩, .int .i64 120] w4 fun e w' => e = .returned (.string l) ∧ Kept w4 w') := C
                    clear hown hrd hkr
                    go_upto_region 38 with (go_at_call 10; refine C.out.mono ?_; rintro e w5 ⟨rfl, hk5⟩; have K45 := Lib.hid hk5; clear hk5 C)
                    go_cut [0] (fun v0 W => v0 = .bool true ∧ Hid (Kept w5 W))
                    case first =>
                      rename_i ia1 ia2 ia3 ia4 ia5 ia6 ia7 ia8 ia9 ia10 ia11 ia12 ia13 ia14 ia15 ia16 ia17 ia18 ia19 ia20 ia21 ia22 ia23 ia24 ia25 ia26 ia27 ia28 ia29 ia30 ia31
                      revert HT ia1 ia2 ia3 u1 u2 u18 u19 u20 u21 u22 u23 u24 u25 u26 u27 u28 u29 u30 u31 u32 u33 u34 u35 u36 u37 u38 u39 u40 u41 u42 u43 u44 u45 u46 u47 u48 u49 u50 u51 u52 u53 u54 ia4 w1 ia5 ia6 ia7 ia8 ia9 ia10 u4 u5 u58 u59 u60 u61 u62 u63 u64 u65 u66 u67 u68 u69 u70 u71 u72 u73 u74 u75 u76 u77 u78 u79 u80 u81 u82 u83 u84 u85 u86 u87 u88 u89 u90 u91 u92 u93 u94 u95 ia11 w2 ia12 ia13 ia14 ia15 w0 g6 ia16 u0 u8 u10 u12 u13 u108 u109 u110 u111 u112 u113 u114 u115 u116 u117 u118 u119 u120 u121 u122 u123 u124 u125 u126 u127 u128 u129 u130 u131 u132 u133 u134 u135 u136 u137 u138 u139 u140 u141 u142 u143 u144 u145 u146 u147 u148 u149 u150 u151 u152 u153 u154 u155 u156 u157 u158 k3 ia17 ia18 w3 K3 i0 hi0 hz0 hz1 hz2 ia19 ia20 ia21 ia22 h1 u15 u160 u161 u162 u163 u164 u165 u166 u167 u168 u169 u170 u171 u172 u173 u174 u175 u176 u177 k L hk hL hkn w4 c14 hc14 hk65 ad had RL K4 l hl1 C ia23 ia24 ia25 w5 K45 h2 ia26 ia27 ia28 ia29 ia30 ia31
                      exact q5.out
                    case rest =>
                      obtain ⟨rfl, hk2⟩ := hcut
                      go_wp2_with fail
                      go_ret
                      exact ⟨rfl, below_kept K4.out (below_kept K45.out hk2.out)⟩
end Go.Proofs.YtlhekeokognhmaaGreatDoor
