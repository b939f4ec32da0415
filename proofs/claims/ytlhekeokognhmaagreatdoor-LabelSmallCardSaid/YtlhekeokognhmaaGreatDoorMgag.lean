/-
  Labels that lie in a slice; the first one that is wrong. Labels in a map: what put makes.
-/
import Derived.Test.YtlhekeokognhmaaGreatDoorMgaf
import Derived.Maps.OwnSet
import Derived.Maps.StringElems
import Derived.Sort.KeysCollected
namespace Go.Proofs.YtlhekeokognhmaaGreatDoor
open Go.RowKit Go.Shelf
/-- Labels as cells, two each. -/
def labs (L : List Lab) : List Value := L.flatMap fun x => [.string x.1, .string x.2]
theorem labs_nil : labs [] = [] := rfl
theorem labs_cons (x : Lab) (L : List Lab) : labs (x :: L) = .string x.1 :: .string x.2 :: labs L := rfl
theorem labs_app (a b : List Lab) : labs (a ++ b) = labs a ++ labs b := by simp [labs]
theorem labs_length : ∀ L : List Lab, (labs L).length = L.length * 2
  | [] => rfl
  | x :: L => by rw [labs_cons, List.length_cons, List.length_cons, labs_length L, List.length_cons]; omega
theorem labs_get : ∀ (L : List Lab) (k : Nat) (x : Lab), L[k]? = some x → (labs L)[k * 2]? = some (.string x.1) ∧ (labs L)[k * 2 + 1]? = some (.string x.2)
  | [], k, x, h => by simp at h
  | y :: L, 0, x, h => by cases h; exact ⟨rfl, rfl⟩
  | y :: L, k + 1, x, h => by
    have := labs_get L k x h
    rw [labs_cons, show (k + 1) * 2 = k * 2 + 1 + 1 from by omega, show (k * 2 + 1 + 1 + 1) = (k * 2 + 1) + 1 + 1 from by omega]
    exact this
theorem labs_one (L : List Lab) : ∀ u ∈ labs L, u.oneCell' = true := by
  intro u hu
  obtain ⟨x, _, hx⟩ := List.mem_flatMap.1 hu
  simp at hx
  rcases hx with rfl | rfl <;> rfl
/-- Labels in a slice. -/
abbrev RdL (w : World) (B : Nat) (A : Option Addr) (L : List Lab) : Prop := Rd w B A (L.length * 2) (labs L)
theorem addr_add_add (a : Addr) (i j : Nat) : (a.add i).add j = a.add (i + j) := by
  unfold Addr.add
  split <;> rename_i h <;> split <;> simp_all <;> omega
section
variable {w w' : World} {B : Nat} {A : Option Addr} {L : List Lab}
theorem rdl_at (h : RdL w B A L) {k : Nat} (hk : k < L.length) : ∃ ad x, A = some ad ∧ ad.block < B ∧ L[k]? = some x ∧ L.drop k = x :: L.drop (k + 1) ∧ w.cell? (ad.add (k * 2)) = some (.string x.1) ∧ w.cell? (ad.add (k * 2 + 1)) = some (.string x.2) := by
  obtain ⟨ad, e, hb, hc⟩ := h.2 (by omega)
  obtain ⟨h1, h2⟩ := labs_get L k L[k] (List.getElem?_eq_getElem hk)
  exact ⟨ad, L[k], e, hb, List.getElem?_eq_getElem hk, List.drop_eq_getElem_cons hk, hc _ _ h1, hc _ _ h2⟩
end
theorem sizeL : (Tryz.prog.info? 33).map (·.size) = some 2 := by kernel_rfl
/-- One label, loaded. -/
theorem lab_cells {w : World} {ad : Addr} {k : Nat} {x : Lab} (h0 : w.cell? (ad.add (k * 2)) = some (.string x.1)) (h1 : w.cell? (ad.add (k * 2 + 1)) = some (.string x.2)) : ∀ j v, (#[.string x.1, .string x.2] : Array Value)[j]? = some v → w.cell? ((ad.add (k * 2)).add j) = some v := by
  intro j v hv
  rw [addr_add_add]
  rcases j with _ | _ | j
  · cases hv; exact h0
  · cases hv; exact h1
  · simp at hv
/-- What is wrong with the first label that is wrong by itself. -/
def fwE : List Lab → Int
  | [] => 0
  | x :: L => if wrE x = 0 then fwE L else wrE x
theorem fwE_drop {L : List Lab} {k : Nat} {x : Lab} (hd : L.drop k = x :: L.drop (k + 1)) : fwE (L.drop k) = if wrE x = 0 then fwE (L.drop (k + 1)) else wrE x := by rw [hd]; rfl
set_option maxRecDepth 100000 in
theorem firstWrong_any (A : Option Addr) (c : Nat) (L : List Lab) (hL : L.length ≤ 4611686018427387904) (w : World) (hr : RdL w w.heap.size A L) (hT : Tab w) :
    Calls Tryz.prog 61 #[.slice A L.length c] w fun e w' => e = .returned (.int .i64 (fwE L)) ∧ Kept w w' := by
  have HR := Lib.hid hr
  have HT := Lib.hid hT
  obtain ⟨n, hn⟩ : ∃ n, n = L.length := ⟨_, rfl⟩
  have Hn := Lib.hid hn
  rw [← hn] at hL ⊢
  clear hr hT hn
  go_enter Tryz.func61, Tryz.ntmps61
  go_wp2_with fail
  go_loopw [8] (fun v8 wr => ∃ k : Nat, k ≤ n ∧ v8 = .int .i64 k ∧ Hid (Kept w wr) ∧ Hid (fwE L = fwE (L.drop k))) (fun v8 _ => n - (intOf v8).toNat)
  case atStart => exact ⟨0, by omega, rfl, Below.refl _ _, rfl⟩
  case round =>
    obtain ⟨k, hk, rfl, hkr, hf⟩ := hrel
    by_cases hkn : k < n
    · obtain ⟨ad, x, rfl, hadb, hx, hd, hc0, hc1⟩ := rdl_at HR.out (by rw [← Hn.out]; exact hkn)
      have e0 := (Below.cell hkr.out (by rw [addBlock]; exact hadb)).trans hc0
      have e1 := (Below.cell hkr.out (by rw [addBlock]; exact hadb)).trans hc1
      have Hcl := Lib.hid (lab_cells e0 e1)
      have Hfd := Lib.hid (fwE_drop hd)
      have CW : Hid (∀ W, Kept wr W → Calls Tryz.prog 60 #[.agg #[.string x.1, .string x.2]] W fun e w' => e = .returned (.int .i64 (wrE x)) ∧ Kept W w') := fun W h => wrong_any x W (HT.out.below (below_kept hkr.out h))
      have k1 : Kept wr (wr.alloc (.cells #[.string x.1, .string x.2] 33)) := (Below.refl _ wr).alloc (Nat.le_refl _) _
      have K1 := Lib.hid k1
      generalize wrE x = ee at *
      clear hc0 hc1 hx hd k1 e0 e1
      by_cases he : ee = 0
      · subst he
        rw [if_pos rfl] at Hfd
        go_wp2_with (first | (refine wpList_load_at rfl 33 (.tmp 10) rfl (ad.add (k * 2)) rfl #[.string x.1, .string x.2] _ Hcl.out Tryz.underlying33 rfl sizeL ?_) | (go_at_call 60; refine (CW.out _ K1.out).mono ?_; rintro e w2 ⟨rfl, hk2⟩; have HK2 := Lib.hid (below_kept hkr.out (below_kept K1.out hk2)); clear hk2))
        go_roundw
        case rel => exact ⟨k + 1, by omega, by go_num, HK2, by show _ = _; rw [hf.out, Hfd.out]⟩
        case measure => simp [intOf]; omega
      · rw [if_neg he] at Hfd
        have hb : (ee != 0) = true := bne_iff_ne.2 he
        clear he
        go_wp2_with (first | (refine wpList_load_at rfl 33 (.tmp 10) rfl (ad.add (k * 2)) rfl #[.string x.1, .string x.2] _ Hcl.out Tryz.underlying33 rfl sizeL ?_) | (go_at_call 60; refine (CW.out _ K1.out).mono ?_; rintro e w2 ⟨rfl, hk2⟩; have HK2 := Lib.hid (below_kept hkr.out (below_kept K1.out hk2)); clear hk2))
        go_ret
        exact ⟨by rw [hf.out, Hfd.out]; rfl, HK2.out⟩
    · obtain rfl : k = n := by omega
      go_wp2_with fail
      go_ret
      refine ⟨?_, hkr.out⟩
      rw [hf.out, List.drop_of_length_le (by rw [← Hn.out]; exact Nat.le_refl _)]
      rfl
end Go.Proofs.YtlhekeokognhmaaGreatDoor
namespace Go.Proofs.YtlhekeokognhmaaGreatDoor
open Go.RowKit Go.Shelf Go.Maps
abbrev H0 := Unit
abbrev lb (x : Lab) : Lb := (x.1.data.toList, x.2.data.toList)
noncomputable abbrev PE : Value → Option (DataW H0 × List MemPlace) := plainElem Tryz.prog 9
theorem skey : Keyed Tryz.prog 9 := string_keyed Tryz.underlying9
/-- A map holds just what f says. -/
def MapIs (D : DataW H0) (f : Str → Option Str) : Prop := IsMap D ∧ ∀ k, has D (.string k) = (f k).isSome ∧ ∀ z, D.atKey (.string k) z = match f k with | some v => .lit (.string v) | none => z
theorem MapIs.empty : MapIs (.map []) (find []) := ⟨isMap_empty, fun _ => ⟨rfl, fun _ => rfl⟩⟩
theorem key_ne {a b : Str} (h : a ≠ b) : (Lit.string a : Lit) ≠ .string b := fun e => h (by injection e)
theorem MapIs.put {D : DataW H0} {f : Str → Option Str} (h : MapIs D f) (x : Lb) (hx : x.2 ≠ []) : MapIs (D.put (.string x.1) (.lit (.string x.2))) (upd f x) := by
  refine ⟨h.1.put _ _, fun k => ?_⟩
  unfold upd
  by_cases e : x.1 = k
  · subst e
    rw [if_pos rfl, if_neg hx]
    exact ⟨has_put_same h.1 (by simp [WideAt.IsKeyLit]) _, fun z => atKey_put_same h.1 (by simp [WideAt.IsKeyLit]) _ _⟩
  · rw [if_neg e]
    exact ⟨(has_put_other (key_ne (Ne.symm e)) _).trans (h.2 k).1, fun z => (atKey_put_other (key_ne (Ne.symm e)) _ z).trans ((h.2 k).2 z)⟩
theorem MapIs.del {D : DataW H0} {f : Str → Option Str} (h : MapIs D f) (x : Lb) (hx : x.2 = []) : MapIs (D.del (.string x.1)) (upd f x) := by
  refine ⟨h.1.del _, fun k => ?_⟩
  unfold upd
  by_cases e : x.1 = k
  · subst e
    rw [if_pos rfl, if_pos hx]
    exact ⟨has_del_same, fun z => atKey_del_same z⟩
  · rw [if_neg e]
    exact ⟨(has_del_other (key_ne (Ne.symm e))).trans (h.2 k).1, fun z => (atKey_del_other (key_ne (Ne.symm e)) z).trans ((h.2 k).2 z)⟩
theorem find_puts_snoc (X : List Lab) (x : Lab) : find (puts [] ((X ++ [x]).map lb)) = upd (find (puts [] (X.map lb))) (lb x) := by
  rw [List.map_append]
  show find (puts [] (X.map lb ++ [lb x])) = _
  rw [puts_snoc]
  funext k
  exact find_rput (puts_srt List.Pairwise.nil _) _ k
/-- A name and a value that a map takes. -/
def smallL (x : Lab) : Prop := x.1.size ≤ 128 ∧ x.2.size ≤ 1024
theorem small_of {x : Lab} (h : wrE x = 0) : smallL x := by
  unfold wrE at h
  by_cases p : nmB namB x.1 = true
  · rw [if_pos p] at h
    by_cases q : valB x.2 = true
    · simp only [nmB, valB, Bool.and_eq_true, decide_eq_true_eq] at p q
      exact ⟨p.1.1.2, q.1⟩
    · rw [if_neg q] at h
      omega
  · rw [if_neg p] at h
    omega
/-- A slice of labels, as a cell. -/
abbrev LRow := Option Addr × Nat × List Lab
def lrow (r : LRow) : Value := .slice r.1 r.2.2.length r.2.1
theorem str_empty {b : ByteArray} : b.data.toList = [] ↔ b = ⟨#[]⟩ := by
  constructor
  · intro h
    apply ByteArray.ext
    exact Array.toList_inj.1 h
  · rintro rfl
    rfl
theorem empty_yes {b : ByteArray} (h : b = ⟨#[]⟩) : b.toList.isEmpty = true := by
  rw [h, Lib.toList_data]
  rfl
theorem empty_no {b : ByteArray} (h : b ≠ ⟨#[]⟩) : b.toList.isEmpty = false := by
  rw [Lib.toList_data]
  rcases hb : b.data.toList with _ | ⟨x, l⟩
  · exact absurd (str_empty.1 hb) h
  · rfl
set_option maxRecDepth 100000 in
set_option maxHeartbeats 2000000 in
theorem put_any (A : Option Addr) (c : Nat) (Ls : List LRow) (hL : Ls.length ≤ 1000) (w : World) (hr : Rd w w.heap.size A Ls.length (Ls.map lrow)) (hl : ∀ r ∈ Ls, RdL w w.heap.size r.1 r.2.2 ∧ r.2.2.length ≤ 1000000) (hs : ∀ r ∈ Ls, ∀ x ∈ r.2.2, smallL x) (hT : (Ls.flatMap (·.2.2)).length ≤ 1000000) :
    Calls Tryz.prog 64 #[.slice A Ls.length c] w fun e w' => ∃ b n D, e = .returned (.map (some b)) ∧ w'.ownsMap Tryz.prog 9 PE b n D ∧ MapIs D (find (puts [] ((Ls.flatMap (·.2.2)).map lb))) ∧ n ≤ 1000000 ∧ w.heap.size ≤ b ∧ Kept w w' := by
  have HR := Lib.hid hr
  have HLs := Lib.hid hl
  have HS := Lib.hid hs
  have HT := Lib.hid hT
  have hmm := @run_makeMap Tryz.prog
  obtain ⟨nl, hnl⟩ : ∃ n, n = Ls.length := ⟨_, rfl⟩
  have Hnl := Lib.hid hnl
  rw [← hnl] at hL ⊢
  have HTk : Hid (∀ j, j ≤ nl → ((Ls.take j).flatMap (·.2.2)).length ≤ 1000000) := fun j _ => by
    refine Nat.le_trans ?_ hT
    conv => rhs; rw [← List.take_append_drop j Ls, List.flatMap_append, List.length_append]
    omega
  clear hr hl hs hT hnl
  go_enter Tryz.func64, Tryz.ntmps64
  go_wp2_with fail
  have hown0 : Hid ((w.alloc (.map #[] 0)).ownsMap Tryz.prog 9 PE w.heap.size 0 (.map [])) := World.ownsMap_made _ _ _ _
  go_loopw [11] (fun v11 wr => ∃ (j n : Nat) (D : DataW H0), j ≤ nl ∧ v11 = .int .i64 j ∧ Hid (Kept w wr) ∧ Hid (wr.ownsMap Tryz.prog 9 PE w.heap.size n D) ∧ Hid (MapIs D (find (puts [] (((Ls.take j).flatMap (·.2.2)).map lb)))) ∧ Hid (n ≤ ((Ls.take j).flatMap (·.2.2)).length)) (fun v11 _ => nl - (intOf v11).toNat)
  case atStart => exact ⟨0, 0, .map [], by omega, rfl, (Below.refl _ _).alloc (Nat.le_refl _) _, hown0, MapIs.empty, Nat.le_refl 0⟩
  case round =>
    obtain ⟨j, n, D, hj, rfl, hkr, hown, hD, hn⟩ := hrel
    by_cases hjn : j < nl
    · obtain ⟨ad, u, rfl, hadb, hu, hcu⟩ := HR.out.at_ (by rw [← Hnl.out]; exact hjn)
      obtain ⟨⟨Ab, cb, X⟩, hr, hrm, rfl⟩ : ∃ r, Ls[j]? = some r ∧ r ∈ Ls ∧ u = lrow r := by
        rw [List.getElem?_map] at hu
        obtain ⟨r, hr, e⟩ := Option.map_eq_some_iff.1 hu
        exact ⟨r, hr, List.mem_of_getElem? hr, e.symm⟩
      obtain ⟨hrd, hXl⟩ := HLs.out _ hrm
      have HSx := Lib.hid (HS.out _ hrm)
      have HRX := Lib.hid hrd
      have hcell : wr.cell? (ad.add j) = some (.slice Ab X.length cb) := (Below.cell hkr.out (by rw [addBlock]; exact hadb)).trans hcu
      have Htk : Hid ((Ls.take (j + 1)).flatMap (·.2.2) = (Ls.take j).flatMap (·.2.2) ++ X) := by
        show _ = _
        rw [List.take_add_one, hr]
        simp
      have Hlen := Lib.hid (HTk.out (j + 1) (by omega))
      dsimp only at HSx HRX hXl
      generalize (Ls.take j).flatMap (·.2.2) = Y at *
      rw [Htk.out] at Hlen
      obtain ⟨nx, hnx⟩ : ∃ n, n = X.length := ⟨_, rfl⟩
      have Hnx := Lib.hid hnx
      rw [← hnx] at hcell hXl
      obtain ⟨wo, rfl⟩ : ∃ x, x = wr := ⟨_, rfl⟩
      clear hu hcu hr hrm hrd hnx
      go_wp2_with fail
      go_loopw [17] (fun v17 wr => ∃ (k n : Nat) (D : DataW H0), k ≤ nx ∧ v17 = .int .i64 k ∧ Hid (Kept w wr) ∧ Hid (wr.ownsMap Tryz.prog 9 PE w.heap.size n D) ∧ Hid (MapIs D (find (puts [] ((Y ++ X.take k).map lb)))) ∧ Hid (n ≤ (Y ++ X.take k).length)) (fun v17 _ => nx - (intOf v17).toNat)
      case atStart => exact ⟨0, n, D, by omega, rfl, hkr, hown, by rw [List.take_zero, List.append_nil]; exact hD, by rw [List.take_zero, List.append_nil]; exact hn⟩
      case round =>
        obtain ⟨k, n', D', hk, rfl, hkr2, hown2, hD2, hn2⟩ := hrel
        by_cases hkn : k < nx
        · obtain ⟨ad2, x, rfl, hadb2, hx, hd, hc0, hc1⟩ := rdl_at HRX.out (by rw [← Hnx.out]; exact hkn)
          have e0 := (Below.cell hkr2.out (by rw [addBlock]; exact hadb2)).trans hc0
          have e1 := (Below.cell hkr2.out (by rw [addBlock]; exact hadb2)).trans hc1
          have Hcl := Lib.hid (lab_cells e0 e1)
          have Htx : Hid (Y ++ X.take (k + 1) = (Y ++ X.take k) ++ [x]) := by
            show _ = _
            rw [List.take_add_one, hx, List.append_assoc]
            rfl
          have Hsm := Lib.hid (HSx.out x (List.mem_of_getElem? hx))
          have Hk1 := Lib.hid (show Kept wr (wr.alloc (.cells #[.string x.1, .string x.2] 33)) from (Below.refl _ wr).alloc (Nat.le_refl _) _)
          obtain ⟨a, b⟩ := x
          dsimp only at Hcl Hk1
          clear hc0 hc1 hx hd e0 e1
          have hka := Go.WideMaps.keyOf_string_mk (P := Tryz.prog) Tryz.underlying9 (s := a) (by have := Hsm.out.1; unfold maxLen; dsimp only at this; omega)
          have hvb : PE (.string b) = some (.lit (.string b.data.toList), []) := plainElem_string Tryz.underlying9 (by have := Hsm.out.2; unfold maxLen; dsimp only at this; omega)
          have Hka := Lib.hid hka
          have Hvb := Lib.hid hvb
          have hown3 : Hid ((wr.alloc (.cells #[.string a, .string b] 33)).ownsMap Tryz.prog 9 PE w.heap.size n' D') := hown2.out.alloc _
          have Hbn : Hid (n' + 1 ≤ 1000000) := by
            have h1 := hn2.out
            have h2 := Hlen.out
            rw [List.length_append] at h1 h2
            rw [List.length_take] at h1
            have h3 := Hnx.out
            show _ ≤ _
            omega
          have Hst : Hid (∀ w1, (wr.alloc (.cells #[.string a, .string b] 33)).grownBy w1 (some w.heap.size) → Kept w w1) := fun w1 hg => Below.grown (below_kept hkr2.out Hk1.out) hg (Below.size (below_kept hkr2.out Hk1.out)) (fun j e => by cases e; exact Nat.le_refl _)
          have Hap : Hid ((Y ++ X.take k).length + 1 = (Y ++ X.take (k + 1)).length) := by show _ = _; rw [Htx.out]; generalize Y ++ X.take k = YX; simp
          clear hka hvb
          by_cases hb : b = ⟨#[]⟩
          · have hbb : b.toList.isEmpty = true := empty_yes hb
            have Hup : Hid (MapIs (D'.del (.string a.data.toList)) (find (puts [] ((Y ++ X.take (k + 1)).map lb)))) := by
              show MapIs _ _
              rw [Htx.out, find_puts_snoc]
              exact hD2.out.del (lb (a, b)) (str_empty.2 hb)
            clear hb
            go_wp2_with (first | (refine wpList_load_at rfl 33 (.tmp 19) rfl (ad2.add (k * 2)) rfl #[.string (a, b).1, .string (a, b).2] _ Hcl.out Tryz.underlying33 rfl sizeL ?_) | (at_delete; refine wpList_delete_own _ rfl _ _ 95 9 rfl 9 skey Tryz.underlying95 PE w.heap.size n' D' rfl hown3.out _ _ rfl Hka.out ?_; intro w1 hown4 hg4; have Hown4 := Lib.hid hown4; have HK4 := Lib.hid (Hst.out w1 hg4.grown); clear hown4 hg4))
            go_roundw
            case rel => exact ⟨k + 1, n', _, by omega, by go_num, HK4, Hown4, Hup, Nat.le_trans hn2.out (by rw [← Hap.out]; omega)⟩
            case measure => simp [intOf]; omega
          · have hbb : b.toList.isEmpty = false := empty_no hb
            have Hup : Hid (MapIs (D'.put (.string a.data.toList) (.lit (.string b.data.toList))) (find (puts [] ((Y ++ X.take (k + 1)).map lb)))) := by
              show MapIs _ _
              rw [Htx.out, find_puts_snoc]
              exact hD2.out.put (lb (a, b)) (fun e => hb (str_empty.1 e))
            clear hb
            go_wp2_with (first | (refine wpList_load_at rfl 33 (.tmp 19) rfl (ad2.add (k * 2)) rfl #[.string (a, b).1, .string (a, b).2] _ Hcl.out Tryz.underlying33 rfl sizeL ?_) | (at_mapUpdate; refine wpList_mapUpdate_own _ rfl _ _ _ 95 rfl 9 9 skey Tryz.underlying95 PE w.heap.size n' D' rfl hown3.out (by have := Hbn.out; unfold maxLen; omega) _ _ _ rfl rfl Hka.out _ [] Hvb.out ?_; intro w1 hown4 hg4; have Hown4 := Lib.hid hown4; have HK4 := Lib.hid (Hst.out w1 hg4); clear hown4 hg4))
            go_roundw
            case rel => exact ⟨k + 1, n' + 1, _, by omega, by go_num, HK4, Hown4, Hup, by show _ ≤ _; rw [← Hap.out]; have := hn2.out; omega⟩
            case measure => simp [intOf]; omega
        · obtain rfl : k = nx := by omega
          have Hxx : Hid (Y ++ X.take k = (Ls.take (j + 1)).flatMap (·.2.2)) := by
            show _ = _
            rw [Htk.out, List.take_of_length_le (by rw [← Hnx.out]; exact Nat.le_refl _)]
          rw [Hxx.out] at hD2 hn2
          go_wp2_with fail
          go_roundw
          case rel => exact ⟨j + 1, n', D', by omega, by go_num, hkr2, hown2, hD2, hn2⟩
          case measure => simp [intOf]; omega
    · obtain rfl : j = nl := by omega
      go_wp2_with fail
      go_ret
      have e : Ls.take j = Ls := List.take_of_length_le (by rw [← Hnl.out]; exact Nat.le_refl _)
      have h1 := hD.out
      have h2 := hn.out
      rw [e] at h1 h2
      exact ⟨_, n, D, rfl, hown.out, h1, Nat.le_trans h2 HT.out, Nat.le_refl _, hkr.out⟩
end Go.Proofs.YtlhekeokognhmaaGreatDoor
