/-
  LabelMerges, of what right gives. Answers that are one's own: where they lie; what an append leaves of them. The reference of layer 4: bound, Of; Of of the program in the same words.
-/
import Derived.Test.YtlhekeokognhmaaGreatDoorMgbb
import Derived.Test.YtlhekeokognhmaaGreatDoorLbR
import Derived.Deep.DeepCutAuto
import Derived.Test.YtlhekeokognhmaaGreatDoorLbZ
import Derived.Test.YtlhekeokognhmaaGreatDoorMgba
namespace Go.Proofs.YtlhekeokognhmaaGreatDoor
open Go.RowKit Go.Shelf Go.Maps Go.Sort
/-- What right answers. -/
def RightIs (p : List (Nat × Nat)) (a : Value) (w : World) : Prop := ∀ W, Kept w W → Calls Tryz.prog 11 #[a] W fun e w' => ∃ A c, e = .returned (.tuple #[.slice A (rightL p).length c, .bool true]) ∧ RdL w' w'.heap.size A (rightL p) ∧ Kept W w' ∧ (rightL p).length ≤ c
theorem merge_none {L E : List Lab} (hL : RN L) (hE : RN E) : mergeBad L E = none := by unfold mergeBad; rw [if_pos ⟨hL.1, hE.1⟩]
theorem set_none {L E : List Lab} (hL : RN L) (hE : ∀ x ∈ E, wrE x = 0) : setBad L E = none := by unfold setBad; rw [if_pos hL.1, if_pos (fwE_ok hE)]
theorem RN.ok {L : List Lab} (h : RN L) : ∀ x ∈ L, wrE x = 0 := fun x hx => (right_all h.1 x hx).1
section
variable {L : List Lab} (hL : RN L) {A : Option Addr} {c n : Nat} (hn : n = L.length) {w : World} (hr : RdL w w.heap.size A L)
include hL hn hr
theorem get_rn (s : ByteArray) (W : World) (h : Kept w W) : Calls Tryz.prog 50 #[.slice A n c, .string s] W fun e w' => e = .returned (.string (getL s L)) ∧ Kept W w' := by
  rw [hn]
  have := hL.len
  exact get_any A c L (by omega) (right_vals hL.1) s W ((hr.below h).more (Below.size h))
theorem right_rn (hT : Tab w) (W : World) (h : Kept w W) : Calls Tryz.prog 16 #[.slice A n c] W fun e w' => e = .returned (.bool true) ∧ Kept W w' := by
  rw [hn]
  have := hL.len
  have h2 := right_any A c L (by omega) W ((hr.below h).more (Below.size h)) (hT.below h)
  rw [hL.1] at h2
  exact h2
theorem same_rn {A2 : Option Addr} {c2 : Nat} (hr2 : RdL w w.heap.size A2 L) (W : World) (h : Kept w W) : Calls Tryz.prog 79 #[.slice A n c, .slice A2 n c2] W fun e w' => e = .returned (.bool true) ∧ Kept W w' := by
  rw [hn]
  have := hL.len
  have h2 := same_any A A2 c c2 L L (by omega) (by omega) W ((hr.below h).more (Below.size h)) ((hr2.below h).more (Below.size h))
  rw [show sameB L L = true by unfold sameB; exact decide_eq_true rfl] at h2
  exact h2
end
end Go.Proofs.YtlhekeokognhmaaGreatDoor
namespace Go.Proofs.YtlhekeokognhmaaGreatDoor
open Go.RowKit Go.Shelf Go.Maps Go.Sort
theorem own_rdG {w : World} {base n size : Nat} {e : TypeId} {v : Value} {xs : List Value} (h : w.ownsRow base e size v n xs) : ∃ A c, v = .slice A n c ∧ n ≤ c ∧ Rd w w.heap.size A (n * size) xs ∧ ∀ ad, A = some ad → base ≤ ad.block := by
  obtain ⟨A, c, rfl, hc, hr⟩ := own_rd h
  refine ⟨A, c, rfl, hc, hr, fun ad e => ?_⟩
  subst e
  rcases h.2 with ⟨e1, _⟩ | ⟨g, cap, cur, e1, hb, _⟩
  · cases e1
  · cases e1
    exact hb
theorem rd_grown {w w' : World} {B n : Nat} {A : Option Addr} {xs : List Value} {r : Option Nat} (h : Rd w w.heap.size A n xs) (hg : w.grownBy w' r) (hne : ∀ ad, A = some ad → some ad.block ≠ r) (hB : w.heap.size ≤ B) : Rd w' B A n xs :=
  ⟨h.1, fun h0 => by
    obtain ⟨ad, rfl, hb, hc⟩ := h.2 h0
    refine ⟨ad, rfl, Nat.lt_of_lt_of_le hb hB, fun j u hu => ?_⟩
    exact (hg.cell_far (ad.add j) (by rw [addBlock]; exact hb) (by rw [addBlock]; exact hne ad rfl)).trans (hc j u hu)⟩
theorem sortedV_own {B : Nat} {m : List Lb} {v : Value} {x : Int} {w' : World} {M : List Lab} (h : SortedV B m v x w') (hM : m.map bl = M) (hl : M.length ≤ 64) : x = 0 ∧ w'.ownsRow B 33 2 v M.length (labs M) := by
  have hlen : m.length = M.length := by rw [← hM, List.length_map]
  rcases h with ⟨h, _⟩ | ⟨_, rfl, ho⟩
  · omega
  · rw [hM, hlen] at ho
    exact ⟨rfl, ho⟩
theorem set_own (A A1 : Option Addr) (c c1 : Nat) (L E M : List Lab) (w : World) (hL : L.length ≤ 400000) (hE : E.length ≤ 400000) (hr : RdL w w.heap.size A L) (hr1 : RdL w w.heap.size A1 E) (hT : Tab w) (hb : setBad L E = none) (hM : (puts [] ((L ++ E).map lb)).map bl = M) (hl : M.length ≤ 64) :
    Calls Tryz.prog 15 #[.slice A L.length c, .slice A1 E.length c1] w fun e w' => ∃ A c, e = .returned (.tuple #[.slice A M.length c, .int .i64 0]) ∧ RdL w' w'.heap.size A M ∧ Kept w w' ∧ ∀ ad, A = some ad → w.heap.size ≤ ad.block :=
  (set_any A A1 c c1 L E hL hE w hr hr1 hT).mono fun e w' ⟨v, x, he, h, hk⟩ => by
    subst he
    rw [hb] at h
    obtain ⟨rfl, ho⟩ := sortedV_own h hM hl
    obtain ⟨A, c, rfl, _, hr, hg⟩ := own_rdG ho
    exact ⟨A, c, rfl, hr, hk, hg⟩
section
variable {P : Program}
/-- A label put behind a list of one's own, at a plain region's list of operations: only that list's block is turned. -/
theorem wpList_ownG {w : World} {ops : Array Oper} {rest : List Oper} {o : Oper} {a : Act} {Q : Exit → Act → World → Prop} (hgd : o.guard = none) (s x : Operand) (t : TypeId)
    (ho : o.op = .call { callee := .builtin .append, args := #[s, x], argTypes := #[t, t] })
    (base : Nat) (i : TypeInfo) (z : Value) (bytes : Nat) (ht : P.underlying t = some (.slice 33)) (hi : P.info? 33 = some i) (hz : i.zero = some z)
    (hsize : i.size = 2) (hby : i.bytes = bytes) (hzs : z.cells.size = 2)
    (v : Value) (n : Nat) (xs : List Value) (hs : a.eval s = v) (hown : w.ownsRow base 33 2 v n xs)
    (ad : Addr) (m c : Nat) (news : List Value) (hx : a.eval x = .slice (some ad) m c) (hl : news.length = m * 2) (hnews : ∀ j u, news[j]? = some u → w.cell? (ad.add j) = some u) (h1 : ∀ u ∈ news, u.oneCell' = true)
    (h63 : n + m ≤ maxLen) (hbytes : (n + m) * bytes ≤ 140737488355328) (hbase : base ≤ w.heap.size)
    (h : ∀ v' w', w'.ownsRow base 33 2 v' (n + m) (xs ++ news) → w.grownBy w' v.ownBlock → wpList P ops Q rest (a.put o.dst v') w') : wpList P ops Q (o :: rest) a w := by
  refine wpList_plain hgd fun K hK => ?_
  obtain ⟨v', w', hr, h2, h3, _, _⟩ := run_append_own_at (P := P) w base t o.type 33 i z 2 bytes ht hi hz hsize hby hzs (by decide) v n xs hown ad m c news hl hnews h1 h63 hbytes hbase
  unfold Oper.wp execOp
  simp only [ho, resolve, invoke, builtin, Sem.run_bind, Sem.run_pure, Result.andThen_ok, List.map_toArray, List.map_cons, List.map_nil, hs, hx, hr]
  exact hK _ _ (h v' w' h2 h3)
end
end Go.Proofs.YtlhekeokognhmaaGreatDoor
namespace Go.Proofs.YtlhekeokognhmaaGreatDoor
open Go.RowKit Go.Shelf Go.Maps Go.Sort
theorem bound_yes (A : Option Addr) (n c : Nat) (h : 64 < n) (w : World) : Calls Tryz.prog 76 #[.slice A n c] w fun e w' => e = .returned (.tuple #[.slice none 0 0, .int .i64 5]) ∧ w = w' := by
  have h1 : (64 : Int) < (n : Int) := by omega
  go_enter Tryz.func76, Tryz.ntmps76
  go_wp2_with fail
  go_ret2
  exact ⟨rfl, rfl⟩
theorem bound_no (A : Option Addr) (n c : Nat) (h : n ≤ 64) (w : World) : Calls Tryz.prog 76 #[.slice A n c] w fun e w' => e = .returned (.tuple #[.slice A n c, .int .i64 0]) ∧ w = w' := by
  have h1 : ¬ (64 : Int) < (n : Int) := by omega
  go_enter Tryz.func76, Tryz.ntmps76
  go_wp2_with fail
  go_ret2
  exact ⟨rfl, rfl⟩
/-- An answer that reads as labels, beside an error's number. -/
def AnsR (m : List Lab) (q : Int) (w : World) (e : Ending) (w' : World) : Prop := ∃ A c, e = .returned (.tuple #[.slice A m.length c, .int .i64 q]) ∧ RdL w' w'.heap.size A m ∧ Kept w w'
theorem AnsR.nil {q : Int} {w w' : World} (h : Kept w w') : AnsR [] q w (.returned (.tuple #[.slice none 0 0, .int .i64 q])) w' := ⟨none, 0, rfl, Rd.nil, h⟩
/-- What bound makes of labels. -/
def bndR (m : List Lab) : List Lab × Int := if 64 < m.length then ([], 5) else (m, 0)
theorem bound_any (A : Option Addr) (c : Nat) (m : List Lab) (w0 w : World) (hr : RdL w w.heap.size A m) (hk : Kept w0 w) : Calls Tryz.prog 76 #[.slice A m.length c] w (AnsR (bndR m).1 (bndR m).2 w0) := by
  unfold bndR
  by_cases h : 64 < m.length
  · rw [if_pos h]
    exact (bound_yes A m.length c h w).mono fun e w' ⟨h1, h2⟩ => by subst h1 h2; exact AnsR.nil hk
  · rw [if_neg h]
    exact (bound_no A m.length c (by omega) w).mono fun e w' ⟨h1, h2⟩ => by subst h1 h2; exact ⟨A, c, rfl, hr, hk⟩
/-- Labels in order, as a list of labels. -/
def putsL (L : List Lab) : List Lab := (puts [] (L.map lb)).map bl
theorem putsL_nil : putsL [] = [] := rfl
theorem putsL_snoc (L : List Lab) (x : Lab) : putsL (L ++ [x]) = rputL (decide (x.2 = ⟨#[]⟩)) x (putsL L) := by
  rw [put_is]
  unfold putsL
  rw [List.map_append, List.map_cons, List.map_nil, puts_snoc]
  congr 2
  rw [List.map_map]
  exact (List.map_id' _).symm
theorem putsL_length (L : List Lab) : (putsL L).length = (puts [] (L.map lb)).length := List.length_map _
theorem putsL_le (L : List Lab) : (putsL L).length ≤ L.length := by
  have := puts_len [] (L.map lb)
  rw [List.length_map, List.length_nil] at this
  rw [putsL_length]
  omega
theorem putsL_all {p : Lab → Prop} {L : List Lab} (h : ∀ x ∈ L, p x) : ∀ x ∈ putsL L, p x := by
  intro x hx
  obtain ⟨y, hy, rfl⟩ := List.mem_map.1 hx
  exact puts_all (p := fun z => p (bl z)) (m := []) (fun _ h => by cases h) (fun z hz => by
    obtain ⟨u, hu, rfl⟩ := List.mem_map.1 hz
    exact h u hu) y hy
theorem idx_le (s : ByteArray) : ∀ (b : Nat) (L : List Lab) (i : Nat) (y : Lab), L[i]? = some y → y.1 = s → ∃ j, j ≤ i ∧ idxFrom s b L = ((b + j : Nat) : Int)
  | b, [], i, y, h, _ => by simp at h
  | b, x :: L, i, y, h, e => by
    unfold idxFrom
    by_cases h1 : x.1 = s
    · rw [if_pos h1]; exact ⟨0, by omega, rfl⟩
    · rw [if_neg h1]
      cases i with
      | zero => cases h; exact absurd e h1
      | succ i =>
        obtain ⟨j, hj, he⟩ := idx_le s (b + 1) L i y h e
        exact ⟨j + 1, by omega, by rw [he]; congr 1; omega⟩
/-- Each of the first labels is the first one of its name. -/
def FirstK (L : List Lab) (k : Nat) : Prop := ∀ j x, j < k → L[j]? = some x → idxFrom x.1 0 L = (j : Int)
theorem once_first {L : List Lab} {k : Nat} (h : FirstK L k) : Once (L.take k) := by
  unfold Once
  rw [List.pairwise_iff_getElem]
  intro i j hi hj hij e
  rw [List.length_take] at hi hj
  have h1 : L[j]? = some (L.take k)[j] := by rw [List.getElem_take, List.getElem?_eq_getElem]
  have h2 : L[i]? = some (L.take k)[i] := by rw [List.getElem_take, List.getElem?_eq_getElem]
  have h3 := h j _ (by omega) h1
  obtain ⟨q, hq, h4⟩ := idx_le (L.take k)[j].1 0 L i _ h2 e
  omega
theorem tw_dup {L : List Lab} {k : Nat} (h : FirstK L k) {x : Lab} (hx : L[k]? = some x) (hi : idxFrom x.1 0 L ≠ (k : Int)) : twB L = true := by
  obtain ⟨j, hj, he⟩ := idx_le x.1 0 L k x hx rfl
  rcases idx_get x.1 0 L with ⟨h1, _, _⟩ | ⟨j2, y, h1, h2, h3, _, h5⟩
  · omega
  obtain rfl : j = j2 := by omega
  have hjk : j < k := by
    rcases Nat.lt_or_eq_of_le hj with h | rfl
    · exact h
    · exact absurd (by omega) hi
  have ho := once_first h
  have hf := fold_once (L.take k) [] ho
  rw [List.map_nil, List.nil_append] at hf
  have hmem : y ∈ L.take k := List.mem_of_getElem? (i := j) (by rw [List.getElem?_take, if_pos hjk]; exact h3)
  have hk : addKey ((L.take k).map keyL) (keyL x) = (L.take k).map keyL := by
    unfold addKey
    rw [if_pos]
    refine List.any_eq_true.2 ⟨keyL y, List.mem_map_of_mem hmem, ?_⟩
    unfold keyL
    rw [h5]
    simp [Lit.sameKey]
  unfold twB
  have hkl := (List.getElem?_eq_some_iff.1 hx).1
  have hsp : L = L.take k ++ ([x] ++ L.drop (k + 1)) := by
    conv => lhs; rw [← List.take_append_drop k L]
    congr 1
    rw [List.drop_eq_getElem_cons hkl]
    have := (List.getElem?_eq_some_iff.1 hx).2
    rw [this]
    rfl
  refine decide_eq_true ?_
  have hl : L.length = k + (1 + (L.drop (k + 1)).length) := by rw [List.length_drop]; omega
  rw [hl]
  conv => lhs; rw [hsp]
  rw [List.map_append, List.foldl_append, hf, List.map_append, List.foldl_append]
  show ((L.drop (k + 1)).map keyL |>.foldl addKey (addKey ((L.take k).map keyL) (keyL x))).length < _
  rw [hk]
  have h6 := foldKey_len ((L.drop (k + 1)).map keyL) ((L.take k).map keyL)
  rw [List.length_map, List.length_map, List.length_take] at h6
  omega
theorem tw_none {L : List Lab} (h : FirstK L L.length) : twB L = false := once_tw (by have := once_first h; rwa [List.take_length] at this)
/-- What Of answers: labels and an error's number. -/
def ofR (L : List Lab) : List Lab × Int := if fwE L = 0 then (if twB L = true then ([], 43) else bndR (putsL L)) else ([], fwE L)
theorem of_ans (A : Option Addr) (c : Nat) (L : List Lab) (hL : L.length ≤ 1000000) (w : World) (hr : RdL w w.heap.size A L) (hT : Tab w) :
    Calls Tryz.prog 13 #[.slice A L.length c] w fun e w' => ∃ v, e = .returned (.tuple #[v, .int .i64 (ofR L).2]) ∧ w'.ownsRow w.heap.size 33 2 v (ofR L).1.length (labs (ofR L).1) ∧ Kept w w' := by
  refine (of_any A c L hL w hr hT).mono fun e w' ⟨h, hk⟩ => ?_
  unfold ofR
  rcases h with ⟨h1, rfl⟩ | ⟨h1, h2, rfl⟩ | ⟨h1, h2, v, x, rfl, h3⟩
  · rw [if_neg h1]
    exact ⟨_, rfl, ⟨rfl, .inl ⟨rfl, rfl⟩⟩, hk⟩
  · rw [if_pos h1, if_pos h2]
    exact ⟨_, rfl, ⟨rfl, .inl ⟨rfl, rfl⟩⟩, hk⟩
  · rw [if_pos h1, if_neg (by rw [h2]; simp)]
    unfold bndR
    rw [putsL_length]
    rcases h3 with ⟨h4, rfl, rfl⟩ | ⟨h4, rfl, h5⟩
    · rw [if_pos h4]
      exact ⟨_, rfl, ⟨rfl, .inl ⟨rfl, rfl⟩⟩, hk⟩
    · rw [if_neg (by omega)]
      refine ⟨_, rfl, ?_, hk⟩
      show w'.ownsRow _ _ _ v (putsL L).length _
      rw [putsL_length]
      exact h5
set_option maxRecDepth 100000 in
set_option maxHeartbeats 4000000 in
theorem refof_any (A : Option Addr) (c : Nat) (L : List Lab) (hL : L.length ≤ 400000) (hsh : ∀ y ∈ L, shortL y) (w : World) (hr : RdL w w.heap.size A L) :
    Calls Tryz.prog 46 #[.slice A L.length c] w (AnsR (ofR L).1 (ofR L).2 w) := by
  have HR := Lib.hid hr
  have HS := Lib.hid hsh
  obtain ⟨n, hn⟩ : ∃ n, n = L.length := ⟨_, rfl⟩
  have Hn := Lib.hid hn
  have HE1 : Hid (fwE L ≠ 0 → ofR L = ([], fwE L)) := fun h => by unfold ofR; rw [if_neg h]
  have HE2 : Hid (fwE L = 0 → twB L = true → ofR L = ([], 43)) := fun h h2 => by unfold ofR; rw [if_pos h, if_pos h2]
  have HE3 : Hid (fwE L = 0 → twB L = false → ofR L = bndR (putsL L)) := fun h h2 => by unfold ofR; rw [if_pos h, if_neg (by rw [h2]; simp)]
  rw [← hn] at hL ⊢
  clear hr hn hsh
  go_enter Tryz.func46, Tryz.ntmps46
  go_wp2_with fail
  go_loopw [4] (fun v4 wr => ∃ k : Nat, k ≤ n ∧ v4 = .int .i64 k ∧ Hid (Kept w wr) ∧ Hid (fwE L = fwE (L.drop k))) (fun v4 _ => n - (intOf v4).toNat)
  case atStart => exact ⟨0, by omega, rfl, Below.refl _ _, rfl⟩
  case round =>
    obtain ⟨k, hk, rfl, hkr, hf⟩ := hrel
    by_cases hkn : k < n
    · obtain ⟨ad, x, rfl, hadb, hx, hd, hc0, hc1⟩ := rdl_at HR.out (by rw [← Hn.out]; exact hkn)
      have e0 := (Below.cell hkr.out (by rw [addBlock]; exact hadb)).trans hc0
      have e1 := (Below.cell hkr.out (by rw [addBlock]; exact hadb)).trans hc1
      have Hcl := Lib.hid (lab_cells e0 e1)
      have Hfd := Lib.hid (fwE_drop hd)
      have CW := Lib.hid (refwrong_any x (HS.out x (List.mem_of_getElem? hx)))
      generalize wrE x = ee at *
      clear hc0 hc1 hx hd e0 e1
      by_cases he : ee = 0
      · subst he
        rw [if_pos rfl] at Hfd
        go_wp2_with (first | (refine wpList_load_at rfl 33 (.tmp 16) rfl (ad.add (k * 2)) rfl #[.string x.1, .string x.2] _ Hcl.out Tryz.underlying33 rfl sizeL ?_) | (go_at_call 74; refine (CW.out _).mono ?_; rintro e w2 ⟨rfl, hk2⟩; have HK2 := Lib.hid (below_kept hkr.out hk2); clear hk2))
        go_roundw
        case rel => exact ⟨k + 1, by omega, by go_num, HK2, by show _ = _; rw [hf.out, Hfd.out]⟩
        case measure => simp [intOf]; omega
      · rw [if_neg he] at Hfd
        have hb : (ee != 0) = true := bne_iff_ne.2 he
        have Hne := Lib.hid he
        clear he
        go_wp2_with (first | (refine wpList_load_at rfl 33 (.tmp 16) rfl (ad.add (k * 2)) rfl #[.string x.1, .string x.2] _ Hcl.out Tryz.underlying33 rfl sizeL ?_) | (go_at_call 74; refine (CW.out _).mono ?_; rintro e w2 ⟨rfl, hk2⟩; have HK2 := Lib.hid (below_kept hkr.out hk2); clear hk2))
        go_ret2
        have h1 : fwE L = ee := by rw [hf.out, Hfd.out]
        rw [HE1.out (by rw [h1]; exact Hne.out), h1]
        exact AnsR.nil HK2.out
    · obtain rfl : k = n := by omega
      have h0 : fwE L = 0 := by
        rw [hf.out, List.drop_of_length_le (by rw [← Hn.out]; exact Nat.le_refl _)]
        rfl
      have H0 := Lib.hid h0
      obtain ⟨w1, rfl⟩ : ∃ x, x = wr := ⟨_, rfl⟩
      have HK1 := Lib.hid hkr.out
      clear h0 hf hkr
      go_wp2_with fail
      go_loopw [6, 7] (fun v6 v7 wr => ∃ (j : Nat) (A1 : Option Addr) (c1 : Nat), j ≤ k ∧ v7 = .int .i64 j ∧ v6 = .slice A1 (putsL (L.take j)).length c1 ∧ Hid (Kept w wr) ∧ Hid (RdL wr wr.heap.size A1 (putsL (L.take j))) ∧ Hid (FirstK L j)) (fun _ v7 _ => k - (intOf v7).toNat)
      case atStart => exact ⟨0, none, 0, by omega, rfl, rfl, HK1, Rd.nil, fun _ _ h => by omega⟩
      case round =>
        obtain ⟨j, A1, c1, hj, rfl, rfl, hkr, hrd, hfk⟩ := hrel
        by_cases hjn : j < k
        · obtain ⟨ad, x, rfl, hadb, hx, hd, hc0, hc1⟩ := rdl_at HR.out (by rw [← Hn.out]; exact hjn)
          have e0 := (Below.cell hkr.out (by rw [addBlock]; exact hadb)).trans hc0
          have e1 := (Below.cell hkr.out (by rw [addBlock]; exact hadb)).trans hc1
          have Hcl := Lib.hid (lab_cells e0 e1)
          have hlt : j < L.length := by rw [← Hn.out]; exact hjn
          have htk : L.take (j + 1) = L.take j ++ [x] := by rw [List.take_add_one, hx]; rfl
          have Hsn : Hid (putsL (L.take (j + 1)) = rputL (decide (x.2 = ⟨#[]⟩)) x (putsL (L.take j))) := by show _ = _; rw [htk, putsL_snoc]
          have CF := Lib.hid (reffind_any (some ad) c L (by rw [← Hn.out]; omega) x.1 wr ((HR.out.below hkr.out).more (Below.size hkr.out)))
          rw [← Hn.out] at CF
          have hpl := putsL_le (L.take j)
          rw [List.length_take] at hpl
          have CP := Lib.hid (refput_any A1 c1 (putsL (L.take j)) (by omega) (putsL_all fun y hy => HS.out y (List.mem_of_mem_take hy)) x (HS.out x (List.mem_of_getElem? hx)) wr hrd.out)
          have Hdup : Hid (idxFrom x.1 0 L ≠ (j : Int) → twB L = true) := fun h => tw_dup hfk.out hx h
          have Hnx : Hid (idxFrom x.1 0 L = (j : Int) → FirstK L (j + 1)) := fun h i y hi hy => by
            rcases Nat.lt_or_eq_of_le (Nat.lt_succ_iff.1 hi) with h2 | rfl
            · exact hfk.out i y h2 hy
            · rw [hx] at hy; cases hy; exact h
          generalize idxFrom x.1 0 L = ix at *
          obtain ⟨xa, xb⟩ := x
          dsimp only at e0 CF CP Hsn
          clear hc0 hc1 hx hd e1 htk hlt hadb hfk hrd
          generalize hpm : putsL (L.take j) = m at *
          clear hpm
          generalize hpn : m.length = nm at *
          clear hpn
          by_cases hi : ix = (j : Int)
          · have hb1 : (ix != (j : Int)) = false := by simp [hi]
            have Hnx2 := Lib.hid (Hnx.out hi)
            clear hi Hnx Hdup
            go_wp2_with (first
              | (refine wpList_load_at rfl 33 (.tmp 40) rfl (ad.add (j * 2)) rfl #[.string (xa, xb).1, .string (xa, xb).2] _ Hcl.out Tryz.underlying33 rfl sizeL ?_)
              | (go_at_call 77; refine CF.out.mono ?_; rintro e w2 ⟨rfl, rfl⟩)
              | (go_at_call 75; refine CP.out.mono ?_; rintro e w3 ⟨v, rfl, hown, hk3⟩; obtain ⟨A3, c3, rfl, _, hr3, _⟩ := own_rdG hown; have HR3 := Lib.hid hr3; have HK3 := Lib.hid (below_kept hkr.out hk3); clear hk3 hr3 hown))
            go_roundw
            case rel => exact ⟨j + 1, A3, c3, by omega, by go_num, by rw [Hsn.out], HK3, by show Rd _ _ _ _ _; rw [Hsn.out]; exact HR3.out, Hnx2⟩
            case measure => simp [intOf]; omega
          · have hb1 : (ix != (j : Int)) = true := bne_iff_ne.2 hi
            have Ht := Lib.hid (Hdup.out hi)
            clear hi Hnx Hdup
            go_wp2_with (go_at_call 77; refine CF.out.mono ?_; rintro e w2 ⟨rfl, rfl⟩)
            go_ret2
            rw [HE2.out H0.out Ht.out]
            exact AnsR.nil hkr.out
        · obtain rfl : j = k := by omega
          have hT : L.take j = L := List.take_of_length_le (by rw [← Hn.out]; exact Nat.le_refl _)
          rw [hT] at hrd ⊢
          have hf0 := HE3.out H0.out (tw_none (by rw [← Hn.out]; exact hfk.out))
          have Hf0 := Lib.hid hf0
          have CB := Lib.hid (bound_any A1 c1 (putsL L) w wr hrd.out hkr.out)
          generalize hq : bndR (putsL L) = q at *
          clear hq hT hf0
          generalize hpn : (putsL L).length = nm at *
          clear hpn
          go_wp2_with (go_at_call 76; refine CB.out.mono ?_; rintro e w2 ⟨A3, c3, rfl, hr3, hk3⟩; have HR3 := Lib.hid hr3; have HK3 := Lib.hid hk3; clear hr3 hk3)
          go_ret2
          show AnsR _ _ _ _ _
          rw [Hf0.out]
          exact ⟨A3, c3, rfl, HR3.out, HK3.out⟩
end Go.Proofs.YtlhekeokognhmaaGreatDoor
