/-
  Labels in a map: what put makes. The library's contracts on the sorted keys of a map, laid at this program.
-/
import Derived.Test.YtlhekeokognhmaaDoorMgai
import Derived.Maps.OwnSet
import Derived.Maps.StringElems
import Derived.Sort.KeysCollected
import Derived.Shelf.SlIter.Nil
import Derived.Shelf.SortM.Plain
import Derived.Shelf.SortM.SortNone
import Derived.Test.YtlhekeokognhmaaDoorProg
namespace Go.Proofs.YtlhekeokognhmaaDoor
open Go.RowKit Go.Shelf Go.Maps
abbrev H0 := Unit
abbrev lb (x : Lab) : Lb := (x.1.data.toList, x.2.data.toList)
noncomputable abbrev PE : Value → Option (DataW H0 × List MemPlace) := plainElem Tryd.prog 9
theorem skey : Keyed Tryd.prog 9 := string_keyed Tryd.underlying9
/-- A map holds just what f says. -/
def MapIs (D : DataW H0) (f : Str → Option Str) : Prop := IsMap D ∧ ∀ k, has D (.string k) = (f k).isSome ∧ ∀ z, D.atKey (.string k) z = match f k with | some v => .lit (.string v) | none => z
theorem MapIs.empty : MapIs (.map []) (find []) := ⟨isMap_empty, fun _ => ⟨rfl, fun _ => rfl⟩⟩
theorem key_ne {a b : Str} (h : a ≠ b) : (Lit.string a : Lit) ≠ .string b := fun e => h (by injection e)
theorem MapIs.put {D : DataW H0} {f : Str → Option Str} (h : MapIs D f) (x : Lb) (hx : x.2 ≠ []) : MapIs (D.put (.string x.1) (.lit (.string x.2))) (upd f x) := by
  refine ⟨h.1.put _ _, fun k => ?_⟩
  unfold upd
  by_cases e : x.1 = k
  · subst e
    rw [if_pos rfl, if_neg hx]
    exact ⟨has_put_same h.1 (by simp [WideAt.IsKeyLit]) _, fun z => atKey_put_same h.1 (by simp [WideAt.IsKeyLit]) _ _⟩
  · rw [if_neg e]
    exact ⟨(has_put_other (key_ne (Ne.symm e)) _).trans (h.2 k).1, fun z => (atKey_put_other (key_ne (Ne.symm e)) _ z).trans ((h.2 k).2 z)⟩
theorem MapIs.del {D : DataW H0} {f : Str → Option Str} (h : MapIs D f) (x : Lb) (hx : x.2 = []) : MapIs (D.del (.string x.1)) (upd f x) := by
  refine ⟨h.1.del _, fun k => ?_⟩
  unfold upd
  by_cases e : x.1 = k
  · subst e
    rw [if_pos rfl, if_pos hx]
    exact ⟨has_del_same, fun z => atKey_del_same z⟩
  · rw [if_neg e]
    exact ⟨(has_del_other (key_ne (Ne.symm e))).trans (h.2 k).1, fun z => (atKey_del_other (key_ne (Ne.symm e)) z).trans ((h.2 k).2 z)⟩
theorem find_puts_snoc (X : List Lab) (x : Lab) : find (puts [] ((X ++ [x]).map lb)) = upd (find (puts [] (X.map lb))) (lb x) := by
  rw [List.map_append]
  show find (puts [] (X.map lb ++ [lb x])) = _
  rw [puts_snoc]
  funext k
  exact find_rput (puts_srt List.Pairwise.nil _) _ k
/-- A name and a value that a map takes. -/
def smallL (x : Lab) : Prop := x.1.size ≤ 128 ∧ x.2.size ≤ 1024
theorem small_of {x : Lab} (h : wrE x = 0) : smallL x := by
  unfold wrE at h
  by_cases p : nmB namB x.1 = true
  · rw [if_pos p] at h
    by_cases q : valB x.2 = true
    · simp only [nmB, valB, Bool.and_eq_true, decide_eq_true_eq] at p q
      exact ⟨p.1.1.2, q.1⟩
    · rw [if_neg q] at h
      omega
  · rw [if_neg p] at h
    omega
/-- A slice of labels, as a cell. -/
abbrev LRow := Option Addr × Nat × List Lab
def lrow (r : LRow) : Value := .slice r.1 r.2.2.length r.2.1
theorem str_empty {b : ByteArray} : b.data.toList = [] ↔ b = ⟨#[]⟩ := by
  constructor
  · intro h
    apply ByteArray.ext
    exact Array.toList_inj.1 h
  · rintro rfl
    rfl
theorem empty_yes {b : ByteArray} (h : b = ⟨#[]⟩) : b.toList.isEmpty = true := by
  rw [h, Lib.toList_data]
  rfl
theorem empty_no {b : ByteArray} (h : b ≠ ⟨#[]⟩) : b.toList.isEmpty = false := by
  rw [Lib.toList_data]
  rcases hb : b.data.toList with _ | ⟨x, l⟩
  · exact absurd (str_empty.1 hb) h
  · rfl
set_option maxRecDepth 100000 in
set_option maxHeartbeats 2000000 in
theorem put_any (A : Option Addr) (c : Nat) (Ls : List LRow) (hL : Ls.length ≤ 1000) (w : World) (hr : Rd w w.heap.size A Ls.length (Ls.map lrow)) (hl : ∀ r ∈ Ls, RdL w w.heap.size r.1 r.2.2 ∧ r.2.2.length ≤ 1000000) (hs : ∀ r ∈ Ls, ∀ x ∈ r.2.2, smallL x) (hT : (Ls.flatMap (·.2.2)).length ≤ 1000000) :
    Calls Tryd.prog 47 #[.slice A Ls.length c] w fun e w' => ∃ b n D, e = .returned (.map (some b)) ∧ w'.ownsMap Tryd.prog 9 PE b n D ∧ MapIs D (find (puts [] ((Ls.flatMap (·.2.2)).map lb))) ∧ n ≤ 1000000 ∧ w.heap.size ≤ b ∧ Kept w w' := by
  have HR := Lib.hid hr
  have HLs := Lib.hid hl
  have HS := Lib.hid hs
  have HT := Lib.hid hT
  have hmm := @run_makeMap Tryd.prog
  obtain ⟨nl, hnl⟩ : ∃ n, n = Ls.length := ⟨_, rfl⟩
  have Hnl := Lib.hid hnl
  rw [← hnl] at hL ⊢
  have HTk : Hid (∀ j, j ≤ nl → ((Ls.take j).flatMap (·.2.2)).length ≤ 1000000) := fun j _ => by
    refine Nat.le_trans ?_ hT
    conv => rhs; rw [← List.take_append_drop j Ls, List.flatMap_append, List.length_append]
    omega
  clear hr hl hs hT hnl
  go_enter Tryd.func47, Tryd.ntmps47
  go_wp2_with fail
  have hown0 : Hid ((w.alloc (.map #[] 0)).ownsMap Tryd.prog 9 PE w.heap.size 0 (.map [])) := World.ownsMap_made _ _ _ _
  go_loopw [11] (fun v11 wr => ∃ (j n : Nat) (D : DataW H0), j ≤ nl ∧ v11 = .int .i64 j ∧ Hid (Kept w wr) ∧ Hid (wr.ownsMap Tryd.prog 9 PE w.heap.size n D) ∧ Hid (MapIs D (find (puts [] (((Ls.take j).flatMap (·.2.2)).map lb)))) ∧ Hid (n ≤ ((Ls.take j).flatMap (·.2.2)).length)) (fun v11 _ => nl - (intOf v11).toNat)
  case atStart => exact ⟨0, 0, .map [], by omega, rfl, (Below.refl _ _).alloc (Nat.le_refl _) _, hown0, MapIs.empty, Nat.le_refl 0⟩
  case round =>
    obtain ⟨j, n, D, hj, rfl, hkr, hown, hD, hn⟩ := hrel
    by_cases hjn : j < nl
    · obtain ⟨ad, u, rfl, hadb, hu, hcu⟩ := HR.out.at_ (by rw [← Hnl.out]; exact hjn)
      obtain ⟨⟨Ab, cb, X⟩, hr, hrm, rfl⟩ : ∃ r, Ls[j]? = some r ∧ r ∈ Ls ∧ u = lrow r := by
        rw [List.getElem?_map] at hu
        obtain ⟨r, hr, e⟩ := Option.map_eq_some_iff.1 hu
        exact ⟨r, hr, List.mem_of_getElem? hr, e.symm⟩
      obtain ⟨hrd, hXl⟩ := HLs.out _ hrm
      have HSx := Lib.hid (HS.out _ hrm)
      have HRX := Lib.hid hrd
      have hcell : wr.cell? (ad.add j) = some (.slice Ab X.length cb) := (Below.cell hkr.out (by rw [addBlock]; exact hadb)).trans hcu
      have Htk : Hid ((Ls.take (j + 1)).flatMap (·.2.2) = (Ls.take j).flatMap (·.2.2) ++ X) := by
        show _ = _
        rw [List.take_add_one, hr]
        simp
      have Hlen := Lib.hid (HTk.out (j + 1) (by omega))
      dsimp only at HSx HRX hXl
      generalize (Ls.take j).flatMap (·.2.2) = Y at *
      rw [Htk.out] at Hlen
      obtain ⟨nx, hnx⟩ : ∃ n, n = X.length := ⟨_, rfl⟩
      have Hnx := Lib.hid hnx
      rw [← hnx] at hcell hXl
      obtain ⟨wo, rfl⟩ : ∃ x, x = wr := ⟨_, rfl⟩
      clear hu hcu hr hrm hrd hnx
      go_wp2_with fail
      go_loopw [17] (fun v17 wr => ∃ (k n : Nat) (D : DataW H0), k ≤ nx ∧ v17 = .int .i64 k ∧ Hid (Kept w wr) ∧ Hid (wr.ownsMap Tryd.prog 9 PE w.heap.size n D) ∧ Hid (MapIs D (find (puts [] ((Y ++ X.take k).map lb)))) ∧ Hid (n ≤ (Y ++ X.take k).length)) (fun v17 _ => nx - (intOf v17).toNat)
      case atStart => exact ⟨0, n, D, by omega, rfl, hkr, hown, by rw [List.take_zero, List.append_nil]; exact hD, by rw [List.take_zero, List.append_nil]; exact hn⟩
      case round =>
        obtain ⟨k, n', D', hk, rfl, hkr2, hown2, hD2, hn2⟩ := hrel
        by_cases hkn : k < nx
        · obtain ⟨ad2, x, rfl, hadb2, hx, hd, hc0, hc1⟩ := rdl_at HRX.out (by rw [← Hnx.out]; exact hkn)
          have e0 := (Below.cell hkr2.out (by rw [addBlock]; exact hadb2)).trans hc0
          have e1 := (Below.cell hkr2.out (by rw [addBlock]; exact hadb2)).trans hc1
          have Hcl := Lib.hid (lab_cells e0 e1)
          have Htx : Hid (Y ++ X.take (k + 1) = (Y ++ X.take k) ++ [x]) := by
            show _ = _
            rw [List.take_add_one, hx, List.append_assoc]
            rfl
          have Hsm := Lib.hid (HSx.out x (List.mem_of_getElem? hx))
          have Hk1 := Lib.hid (show Kept wr (wr.alloc (.cells #[.string x.1, .string x.2] 36)) from (Below.refl _ wr).alloc (Nat.le_refl _) _)
          obtain ⟨a, b⟩ := x
          dsimp only at Hcl Hk1
          clear hc0 hc1 hx hd e0 e1
          have hka := Go.WideMaps.keyOf_string_mk (P := Tryd.prog) Tryd.underlying9 (s := a) (by have := Hsm.out.1; unfold maxLen; dsimp only at this; omega)
          have hvb : PE (.string b) = some (.lit (.string b.data.toList), []) := plainElem_string Tryd.underlying9 (by have := Hsm.out.2; unfold maxLen; dsimp only at this; omega)
          have Hka := Lib.hid hka
          have Hvb := Lib.hid hvb
          have hown3 : Hid ((wr.alloc (.cells #[.string a, .string b] 36)).ownsMap Tryd.prog 9 PE w.heap.size n' D') := hown2.out.alloc _
          have Hbn : Hid (n' + 1 ≤ 1000000) := by
            have h1 := hn2.out
            have h2 := Hlen.out
            rw [List.length_append] at h1 h2
            rw [List.length_take] at h1
            have h3 := Hnx.out
            show _ ≤ _
            omega
          have Hst : Hid (∀ w1, (wr.alloc (.cells #[.string a, .string b] 36)).grownBy w1 (some w.heap.size) → Kept w w1) := fun w1 hg => Below.grown (below_kept hkr2.out Hk1.out) hg (Below.size (below_kept hkr2.out Hk1.out)) (fun j e => by cases e; exact Nat.le_refl _)
          have Hap : Hid ((Y ++ X.take k).length + 1 = (Y ++ X.take (k + 1)).length) := by show _ = _; rw [Htx.out]; generalize Y ++ X.take k = YX; simp
          clear hka hvb
          by_cases hb : b = ⟨#[]⟩
          · have hbb : b.toList.isEmpty = true := empty_yes hb
            have Hup : Hid (MapIs (D'.del (.string a.data.toList)) (find (puts [] ((Y ++ X.take (k + 1)).map lb)))) := by
              show MapIs _ _
              rw [Htx.out, find_puts_snoc]
              exact hD2.out.del (lb (a, b)) (str_empty.2 hb)
            clear hb
            go_wp2_with (first | (refine wpList_load_at rfl 36 (.tmp 19) rfl (ad2.add (k * 2)) rfl #[.string (a, b).1, .string (a, b).2] _ Hcl.out Tryd.underlying36 rfl sizeL ?_) | (at_delete; refine wpList_delete_own _ rfl _ _ 72 9 rfl 9 skey Tryd.underlying72 PE w.heap.size n' D' rfl hown3.out _ _ rfl Hka.out ?_; intro w1 hown4 hg4; have Hown4 := Lib.hid hown4; have HK4 := Lib.hid (Hst.out w1 hg4.grown); clear hown4 hg4))
            go_roundw
            case rel => exact ⟨k + 1, n', _, by omega, by go_num, HK4, Hown4, Hup, Nat.le_trans hn2.out (by rw [← Hap.out]; omega)⟩
            case measure => simp [intOf]; omega
          · have hbb : b.toList.isEmpty = false := empty_no hb
            have Hup : Hid (MapIs (D'.put (.string a.data.toList) (.lit (.string b.data.toList))) (find (puts [] ((Y ++ X.take (k + 1)).map lb)))) := by
              show MapIs _ _
              rw [Htx.out, find_puts_snoc]
              exact hD2.out.put (lb (a, b)) (fun e => hb (str_empty.1 e))
            clear hb
            go_wp2_with (first | (refine wpList_load_at rfl 36 (.tmp 19) rfl (ad2.add (k * 2)) rfl #[.string (a, b).1, .string (a, b).2] _ Hcl.out Tryd.underlying36 rfl sizeL ?_) | (at_mapUpdate; refine wpList_mapUpdate_own _ rfl _ _ _ 72 rfl 9 9 skey Tryd.underlying72 PE w.heap.size n' D' rfl hown3.out (by have := Hbn.out; unfold maxLen; omega) _ _ _ rfl rfl Hka.out _ [] Hvb.out ?_; intro w1 hown4 hg4; have Hown4 := Lib.hid hown4; have HK4 := Lib.hid (Hst.out w1 hg4); clear hown4 hg4))
            go_roundw
            case rel => exact ⟨k + 1, n' + 1, _, by omega, by go_num, HK4, Hown4, Hup, by show _ ≤ _; rw [← Hap.out]; have := hn2.out; omega⟩
            case measure => simp [intOf]; omega
        · obtain rfl : k = nx := by omega
          have Hxx : Hid (Y ++ X.take k = (Ls.take (j + 1)).flatMap (·.2.2)) := by
            show _ = _
            rw [Htk.out, List.take_of_length_le (by rw [← Hnx.out]; exact Nat.le_refl _)]
          rw [Hxx.out] at hD2 hn2
          go_wp2_with fail
          go_roundw
          case rel => exact ⟨j + 1, n', D', by omega, by go_num, hkr2, hown2, hD2, hn2⟩
          case measure => simp [intOf]; omega
    · obtain rfl : j = nl := by omega
      go_wp2_with fail
      go_ret
      have e : Ls.take j = Ls := List.take_of_length_le (by rw [← Hnl.out]; exact Nat.le_refl _)
      have h1 := hD.out
      have h2 := hn.out
      rw [e] at h1 h2
      exact ⟨_, n, D, rfl, hown.out, h1, Nat.le_trans h2 HT.out, Nat.le_refl _, hkr.out⟩
end Go.Proofs.YtlhekeokognhmaaDoor
namespace Go.Proofs.YtlhekeokognhmaaDoor
open Go.Shelf
def layKeys_ren : Go.Shelf.Ren := ⟨fun | 7 => 78 | 10 => 96 | n => n, fun | 23 => 72 | 26 => 9 | 3 => 9 | 28 => 108 | 0 => 0 | 27 => 107 | 33 => 62 | 4 => 4 | n => n, fun | n => n⟩
theorem layKeys : Go.Proofs.SlLaysZ.n7 Tryd.prog layKeys_ren := {
  mixed := by kernel_rfl
  f7 := ⟨Tryd.f78.name, by decide, Tryd.func78.trans (congrArg some (by kernel_rfl))⟩
  f10 := ⟨Tryd.f96.name, by decide, Tryd.func96.trans (congrArg some (by kernel_rfl))⟩
  t0 := Tryd.underlying0
  a0 := Tryd.isAgg0
  z0 := Tryd.sizeOf0
  v0 := Tryd.zeroValue0
  t4 := Tryd.underlying4
  a4 := Tryd.isAgg4
  z4 := Tryd.sizeOf4
  v4 := Tryd.zeroValue4
  t23 := Tryd.underlying72
  a23 := Tryd.isAgg72
  z23 := Tryd.sizeOf72
  v23 := Tryd.zeroValue72
  t26 := Tryd.underlying9
  a26 := Tryd.isAgg9
  z26 := Tryd.sizeOf9
  v26 := Tryd.zeroValue9
  t27 := Tryd.underlying107
  a27 := Tryd.isAgg107
  z27 := Tryd.sizeOf107
  v27 := Tryd.zeroValue107
  t28 := Tryd.underlying108
  a28 := Tryd.isAgg108
  z28 := Tryd.sizeOf108
  v28 := Tryd.zeroValue108
  t33 := Tryd.underlying62
  a33 := Tryd.isAgg62
  z33 := Tryd.sizeOf62
  v33 := Tryd.zeroValue62 }
def laySorted_ren : Go.Shelf.Ren := ⟨fun | 6 => 77 | 8 => 94 | 9 => 95 | 11 => 103 | 13 => 105 | 12 => 104 | 23 => 119 | 24 => 120 | 14 => 110 | 15 => 111 | 16 => 112 | 17 => 113 | 18 => 114 | 19 => 115 | 20 => 116 | 21 => 117 | 22 => 118 | 25 => 121 | 26 => 122 | 27 => 123 | 28 => 124 | 29 => 125 | 30 => 88 | 31 => 126 | n => n, fun | 26 => 9 | 28 => 108 | 24 => 33 | 0 => 0 | 3 => 3 | 37 => 76 | 48 => 114 | 50 => 117 | 4 => 4 | 40 => 148 | 39 => 147 | 45 => 152 | 5 => 5 | 9 => 9 | 51 => 157 | 55 => 161 | 57 => 163 | 58 => 58 | 33 => 62 | n => n, fun | n => n⟩
theorem laySorted : Go.Proofs.SlLaysZ.n6 Tryd.prog laySorted_ren := {
  mixed := by kernel_rfl
  f6 := ⟨Tryd.f77.name, by decide, Tryd.func77.trans (congrArg some (by kernel_rfl))⟩
  f8 := ⟨Tryd.f94.name, by decide, Tryd.func94.trans (congrArg some (by kernel_rfl))⟩
  f11 := ⟨Tryd.f103.name, by decide, Tryd.func103.trans (congrArg some (by kernel_rfl))⟩
  t0 := Tryd.underlying0
  a0 := Tryd.isAgg0
  z0 := Tryd.sizeOf0
  v0 := Tryd.zeroValue0
  t24 := Tryd.underlying33
  a24 := Tryd.isAgg33
  z24 := Tryd.sizeOf33
  v24 := Tryd.zeroValue33
  t26 := Tryd.underlying9
  a26 := Tryd.isAgg9
  z26 := Tryd.sizeOf9
  v26 := Tryd.zeroValue9
  t28 := Tryd.underlying108
  a28 := Tryd.isAgg108
  z28 := Tryd.sizeOf108
  v28 := Tryd.zeroValue108
  i26 := by kernel_rfl }
def laySort_ren : Go.Shelf.Ren := ⟨fun | 6 => 95 | 8 => 105 | 9 => 104 | 19 => 119 | 20 => 120 | 21 => 110 | 22 => 111 | 23 => 112 | 24 => 113 | 25 => 114 | 26 => 115 | 27 => 116 | 28 => 117 | 29 => 118 | 36 => 121 | 31 => 122 | 32 => 123 | 37 => 124 | 38 => 125 | 39 => 88 | 41 => 126 | n => n, fun | 27 => 33 | 29 => 9 | 3 => 3 | 32 => 76 | 26 => 33 | 0 => 0 | 44 => 114 | 46 => 117 | 4 => 4 | 36 => 148 | 35 => 147 | 41 => 152 | 5 => 5 | 9 => 9 | 53 => 157 | 57 => 161 | 63 => 163 | 64 => 58 | n => n, fun | n => n⟩
theorem laySort : Go.Proofs.SlLaysM.n6 Tryd.prog laySort_ren := {
  mixed := by kernel_rfl
  f6 := ⟨Tryd.f95.name, by decide, Tryd.func95.trans (congrArg some (by kernel_rfl))⟩
  f8 := Tryd.func105.trans (congrArg some (by kernel_rfl))
  f9 := ⟨Tryd.f104.name, by decide, Tryd.func104.trans (congrArg some (by kernel_rfl))⟩
  f19 := Tryd.func119.trans (congrArg some (by kernel_rfl))
  f20 := Tryd.func120.trans (congrArg some (by kernel_rfl))
  f21 := ⟨Tryd.f110.name, by decide, Tryd.func110.trans (congrArg some (by kernel_rfl))⟩
  f22 := ⟨Tryd.f111.name, by decide, Tryd.func111.trans (congrArg some (by kernel_rfl))⟩
  f23 := ⟨Tryd.f112.name, by decide, Tryd.func112.trans (congrArg some (by kernel_rfl))⟩
  f24 := ⟨Tryd.f113.name, by decide, Tryd.func113.trans (congrArg some (by kernel_rfl))⟩
  f25 := ⟨Tryd.f114.name, by decide, Tryd.func114.trans (congrArg some (by kernel_rfl))⟩
  f26 := ⟨Tryd.f115.name, by decide, Tryd.func115.trans (congrArg some (by kernel_rfl))⟩
  f27 := ⟨Tryd.f116.name, by decide, Tryd.func116.trans (congrArg some (by kernel_rfl))⟩
  f28 := ⟨Tryd.f117.name, by decide, Tryd.func117.trans (congrArg some (by kernel_rfl))⟩
  f29 := ⟨Tryd.f118.name, by decide, Tryd.func118.trans (congrArg some (by kernel_rfl))⟩
  f31 := Tryd.func122.trans (congrArg some (by kernel_rfl))
  f32 := Tryd.func123.trans (congrArg some (by kernel_rfl))
  f36 := ⟨Tryd.f121.name, by decide, Tryd.func121.trans (congrArg some (by kernel_rfl))⟩
  f37 := ⟨Tryd.f124.name, by decide, Tryd.func124.trans (congrArg some (by kernel_rfl))⟩
  f38 := ⟨Tryd.f125.name, by decide, Tryd.func125.trans (congrArg some (by kernel_rfl))⟩
  f39 := ⟨Tryd.f88.name, by decide, Tryd.func88.trans (congrArg some (by kernel_rfl))⟩
  f41 := ⟨Tryd.f126.name, by decide, Tryd.func126.trans (congrArg some (by kernel_rfl))⟩
  t0 := Tryd.underlying0
  a0 := Tryd.isAgg0
  z0 := Tryd.sizeOf0
  v0 := Tryd.zeroValue0
  t3 := Tryd.underlying3
  a3 := Tryd.isAgg3
  z3 := Tryd.sizeOf3
  v3 := Tryd.zeroValue3
  t4 := Tryd.underlying4
  a4 := Tryd.isAgg4
  z4 := Tryd.sizeOf4
  v4 := Tryd.zeroValue4
  t5 := Tryd.underlying5
  a5 := Tryd.isAgg5
  z5 := Tryd.sizeOf5
  v5 := Tryd.zeroValue5
  t9 := Tryd.underlying9
  a9 := Tryd.isAgg9
  z9 := Tryd.sizeOf9
  v9 := Tryd.zeroValue9
  t26 := Tryd.underlying33
  a26 := Tryd.isAgg33
  z26 := Tryd.sizeOf33
  v26 := Tryd.zeroValue33
  t27 := Tryd.underlying33
  a27 := Tryd.isAgg33
  z27 := Tryd.sizeOf33
  v27 := Tryd.zeroValue33
  t29 := Tryd.underlying9
  a29 := Tryd.isAgg9
  z29 := Tryd.sizeOf9
  v29 := Tryd.zeroValue9
  t32 := Tryd.underlying76
  a32 := Tryd.isAgg76
  z32 := Tryd.sizeOf76
  v32 := Tryd.zeroValue76
  t35 := Tryd.underlying147
  a35 := Tryd.isAgg147
  z35 := Tryd.sizeOf147
  v35 := Tryd.zeroValue147
  t36 := Tryd.underlying148
  a36 := Tryd.isAgg148
  z36 := Tryd.sizeOf148
  v36 := Tryd.zeroValue148
  t41 := Tryd.underlying152
  a41 := Tryd.isAgg152
  z41 := Tryd.sizeOf152
  v41 := Tryd.zeroValue152
  t44 := Tryd.underlying114
  a44 := Tryd.isAgg114
  z44 := Tryd.sizeOf114
  v44 := Tryd.zeroValue114
  t46 := Tryd.underlying117
  a46 := Tryd.isAgg117
  z46 := Tryd.sizeOf117
  v46 := Tryd.zeroValue117
  t53 := Tryd.underlying157
  a53 := Tryd.isAgg157
  z53 := Tryd.sizeOf157
  v53 := Tryd.zeroValue157
  t57 := Tryd.underlying161
  a57 := Tryd.isAgg161
  z57 := Tryd.sizeOf161
  v57 := Tryd.zeroValue161
  t63 := Tryd.underlying163
  a63 := Tryd.isAgg163
  z63 := Tryd.sizeOf163
  v63 := Tryd.zeroValue163
  t64 := Tryd.underlying58
  a64 := Tryd.isAgg58
  z64 := Tryd.sizeOf58
  v64 := Tryd.zeroValue58 }
end Go.Proofs.YtlhekeokognhmaaDoor
