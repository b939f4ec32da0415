/-
  The reference's Set and Merge.
-/
import Derived.Test.YtlhekeokognhmaaGreatDoorLcJ
namespace Go.Proofs.YtlhekeokognhmaaGreatDoor
open Go.RowKit Go.Shelf Go.Maps Go.Sort
theorem own_empty (w1 : World) {base : Nat} (hb : base ≤ w1.heap.size) : (w1.alloc (.cells #[] 33)).ownsRow base 33 2 (.slice (some ⟨w1.heap.size, 0, none⟩) 0 0) 0 [] :=
  ⟨rfl, .inr ⟨_, 0, #[], rfl, hb, heap_alloc_new w1 _, Nat.le_refl _, Nat.zero_le _, rfl, rfl⟩⟩
set_option maxRecDepth 100000 in
set_option maxHeartbeats 4000000 in
theorem refset_any (A A1 : Option Addr) (c c1 : Nat) (L E : List Lab) (hL : L.length ≤ 100000) (hE : E.length ≤ 100000) (hsh : ∀ y ∈ L, shortL y) (hsh1 : ∀ y ∈ E, shortL y) (w : World) (hr : RdL w w.heap.size A L) (hr1 : RdL w w.heap.size A1 E) :
    Calls Tryz.prog 31 #[.slice A L.length c, .slice A1 E.length c1] w (AnsR (setR L E).1 (setR L E).2 w) := by
  have HR : Hid (Rd w w.heap.size A (L.length * 2) (labs L)) := hr
  have HRw : Hid (∀ W, Kept w W → Rd W W.heap.size A (L.length * 2) (labs L)) := fun W h => rd_kept h hr
  have HR1 := Lib.hid hr1
  have HS := Lib.hid hsh1
  have CR := Lib.hid (refright_any A c L (by omega) hsh w hr)
  obtain ⟨i0, hi0, hz0, hz1, hz2⟩ := info_parts infoLab
  rcases hR : rgtB L with _ | _
  · have HF : Hid (setR L E = ([], 44)) := by show _ = _; unfold setR; rw [hR]; rfl
    rw [hR] at CR
    clear hr hr1 hR
    go_enter Tryz.func31, Tryz.ntmps31
    go_wp2_with (go_at_call 73; (with_reducible refine CR.out.mono ?_); rintro e w1 ⟨rfl, hk⟩; have K : Hid (Kept w w1) := hk; clear hk)
    go_ret2
    rw [HF.out]
    exact AnsR.nil K.out
  have HE1 : Hid (fwE E ≠ 0 → setR L E = ([], fwE E)) := fun h => by unfold setR; rw [if_pos hR, if_neg h]
  have HE2 : Hid (fwE E = 0 → setR L E = bndR (putsL (L ++ E))) := fun h => by unfold setR; rw [if_pos hR, if_pos h]
  have Hself : Hid (putsL L = L) := putR_self hR
  have HSL := Lib.hid hsh
  rw [hR] at CR
  obtain ⟨n, hn⟩ : ∃ n, n = L.length := ⟨_, rfl⟩
  have Hn := Lib.hid hn
  obtain ⟨m, hm⟩ : ∃ m, m = E.length := ⟨_, rfl⟩
  have Hm := Lib.hid hm
  rw [← hn] at hL CR HR HRw ⊢
  rw [← hm] at hE ⊢
  clear hr hr1 hR hn hm hsh hsh1
  go_enter Tryz.func31, Tryz.ntmps31
  go_upto_region 4 with (first
    | (go_at_call 73; (with_reducible refine CR.out.mono ?_); rintro e w1 ⟨rfl, hk⟩; have K : Hid (Kept w w1) := hk; clear hk)
    | (at_builtin; have hsK := K.out.size; refine wpList_appG rfl _ _ 22 22 rfl Tryz.underlying22 w.heap.size i0 _ 32 Tryz.underlying22 hi0 hz0 hz1 hz2 rfl _ 0 [] rfl (own_empty w1 hsK) A n c (labs L) rfl (rd_kept ((Below.refl _ _).alloc (Nat.le_refl _) _) (HRw.out _ K.out)) (labs_one L) (by unfold maxLen; omega) (by omega) (by simp; omega) ?_; intro v2 w2 hown2 hg2; have Hown2 := Lib.hid hown2; have K2 : Hid (Kept w w2) := (K.out.alloc hsK _).grown hg2 (by simp; omega) (fun j e => ((own_empty w1 hsK).lt j e).1); clear hown2 hg2))
  have Ho2 : Hid (w2.ownsRow w.heap.size 33 2 v2 n (labs L)) := by have := Hown2.out; rwa [Nat.zero_add, List.nil_append] at this
  clear Hown2 CR
  obtain ⟨A2, c2, rfl, _, hr2, _⟩ := own_rdG Ho2.out
  have HR2 := Lib.hid hr2
  clear hr2 Ho2
  go_wp2_with fail
  go_loopw [6, 7] (fun v6 v7 wr => ∃ (k : Nat) (A2 : Option Addr) (c2 : Nat), k ≤ m ∧ v7 = .int .i64 k ∧ v6 = .slice A2 (putsL (L ++ E.take k)).length c2 ∧ Hid (Kept w wr) ∧ Hid (RdL wr wr.heap.size A2 (putsL (L ++ E.take k))) ∧ Hid (fwE E = fwE (E.drop k))) (fun _ v7 _ => m - (intOf v7).toNat)
  case atStart =>
    have e0 : putsL (L ++ E.take 0) = L := by rw [List.take_zero, List.append_nil]; exact Hself.out
    refine ⟨0, A2, c2, by omega, rfl, by rw [e0, ← Hn.out], K2, ?_, rfl⟩
    show Rd _ _ _ _ _
    rw [e0, ← Hn.out]
    exact HR2.out
  case round =>
    clear HR2 K2 K
    obtain ⟨k, A2, c2, hk, rfl, rfl, hkr, hrd, hf⟩ := hrel
    by_cases hkn : k < m
    · obtain ⟨ad, x, rfl, hadb, hx, hd, hc0, hc1⟩ := rdl_at HR1.out (by rw [← Hm.out]; exact hkn)
      have e0 := (Below.cell hkr.out (by rw [addBlock]; exact hadb)).trans hc0
      have e1 := (Below.cell hkr.out (by rw [addBlock]; exact hadb)).trans hc1
      have Hcl := Lib.hid (lab_cells e0 e1)
      have Hfd := Lib.hid (fwE_drop hd)
      have Hsn : Hid (putsL (L ++ E.take (k + 1)) = rputL (decide (x.2 = ⟨#[]⟩)) x (putsL (L ++ E.take k))) := by show _ = _; rw [List.take_add_one, hx, ← List.append_assoc]; exact putsL_snoc _ _
      have CW := Lib.hid (refwrong_any x (HS.out x (List.mem_of_getElem? hx)))
      have hle := putsL_le (L ++ E.take k)
      rw [List.length_append, List.length_take, ← Hn.out, ← Hm.out] at hle
      have hall : ∀ y ∈ putsL (L ++ E.take k), shortL y := putsL_all fun y hy => by
        rcases List.mem_append.1 hy with h | h
        · exact HSL.out y h
        · exact HS.out y (List.mem_of_mem_take h)
      have CP : Hid (∀ W, Kept wr W → Calls Tryz.prog 75 #[.slice A2 (putsL (L ++ E.take k)).length c2, .agg #[.string x.1, .string x.2]] W fun e w' => ∃ v, e = .returned v ∧ w'.ownsRow W.heap.size 33 2 v (rputL (decide (x.2 = ⟨#[]⟩)) x (putsL (L ++ E.take k))).length (labs (rputL (decide (x.2 = ⟨#[]⟩)) x (putsL (L ++ E.take k)))) ∧ Kept W w') := fun W h => refput_any A2 c2 (putsL (L ++ E.take k)) (by omega) hall x (HS.out x (List.mem_of_getElem? hx)) W (rd_kept h hrd.out)
      have Hcl2 : Hid (∀ W, Kept wr W → ∀ j v, (#[.string x.1, .string x.2] : Array Value)[j]? = some v → W.cell? ((ad.add (k * 2)).add j) = some v) := fun W h => lab_cells ((Below.cell h (block_lt_of_cell e0)).trans e0) ((Below.cell h (block_lt_of_cell e1)).trans e1)
      generalize hEE : wrE x = ee at *
      obtain ⟨xa, xb⟩ := x
      dsimp only at Hcl Hcl2 CP CW Hsn
      clear hc0 hc1 hx hd e0 e1 hadb hrd hall hle hEE
      generalize hpm : putsL (L ++ E.take k) = pm at *
      clear hpm
      generalize hpn : pm.length = nm at *
      clear hpn
      by_cases he : ee = 0
      · subst he
        rw [if_pos rfl] at Hfd
        go_wp2_with (first
          | (refine wpList_load_at rfl 33 (.tmp 23) rfl (ad.add (k * 2)) rfl #[.string (xa, xb).1, .string (xa, xb).2] _ Hcl.out Tryz.underlying33 rfl sizeL ?_)
          | (go_at_call 74; (with_reducible refine (CW.out _).mono ?_); rintro e w2 ⟨rfl, hk2⟩; have K2 : Hid (Kept wr w2) := hk2; have hcl2 := Lib.hid (Hcl2.out _ hk2); clear hk2)
          | (refine wpList_load_at rfl 33 (.tmp 32) rfl (ad.add (k * 2)) rfl #[.string (xa, xb).1, .string (xa, xb).2] _ hcl2.out Tryz.underlying33 rfl sizeL ?_)
          | (go_at_call 75; (with_reducible refine (CP.out _ K2.out).mono ?_); rintro e w3 ⟨v, rfl, hown, hk3⟩; obtain ⟨A3, c3, rfl, _, hr3, _⟩ := own_rdG hown; have HR3 := Lib.hid hr3; have HK3 : Hid (Kept w w3) := below_kept (below_kept hkr.out K2.out) hk3; clear hk3 hr3 hown))
        go_roundw
        case rel => exact ⟨k + 1, A3, c3, by omega, by go_num, by rw [Hsn.out], HK3, by show Rd _ _ _ _ _; rw [Hsn.out]; exact HR3.out, by show _ = _; rw [hf.out, Hfd.out]⟩
        case measure => simp [intOf]; omega
      · rw [if_neg he] at Hfd
        have hb : (ee != 0) = true := bne_iff_ne.2 he
        have Hne := Lib.hid he
        clear he
        go_wp2_with (first
          | (refine wpList_load_at rfl 33 (.tmp 23) rfl (ad.add (k * 2)) rfl #[.string (xa, xb).1, .string (xa, xb).2] _ Hcl.out Tryz.underlying33 rfl sizeL ?_)
          | (go_at_call 74; (with_reducible refine (CW.out _).mono ?_); rintro e w2 ⟨rfl, hk2⟩; have K2 : Hid (Kept w w2) := below_kept hkr.out hk2; clear hk2))
        go_ret2
        have h1 : fwE E = ee := by rw [hf.out, Hfd.out]
        rw [HE1.out (by rw [h1]; exact Hne.out), h1]
        exact AnsR.nil K2.out
    · obtain rfl : k = m := by omega
      have hT : E.take k = E := List.take_of_length_le (by rw [← Hm.out]; exact Nat.le_refl _)
      have h0 : fwE E = 0 := by
        rw [hf.out, List.drop_of_length_le (by rw [← Hm.out]; exact Nat.le_refl _)]
        rfl
      have hfin := HE2.out h0
      rw [hT] at hrd ⊢
      clear hT h0 hf
      have CB := Lib.hid (bound_any A2 c2 (putsL (L ++ E)) w wr hrd.out hkr.out)
      generalize hq : bndR (putsL (L ++ E)) = q at *
      have HF2 := Lib.hid hfin
      clear hq hfin
      generalize hpn : (putsL (L ++ E)).length = nm at *
      clear hpn
      go_wp2_with (go_at_call 76; (with_reducible refine CB.out.mono ?_); rintro e w2 ⟨A3, c3, rfl, hr3, hk3⟩; have HR3 := Lib.hid hr3; have HK3 := Lib.hid hk3; clear hr3 hk3)
      go_ret2
      show AnsR _ _ _ _ _
      rw [HF2.out]
      exact ⟨A3, c3, rfl, HR3.out, HK3.out⟩
set_option maxRecDepth 100000 in
set_option maxHeartbeats 4000000 in
theorem refmerge_any (A A1 : Option Addr) (c c1 : Nat) (L E : List Lab) (hL : L.length ≤ 100000) (hE : E.length ≤ 100000) (hsh : ∀ y ∈ L, shortL y) (hsh1 : ∀ y ∈ E, shortL y) (w : World) (hr : RdL w w.heap.size A L) (hr1 : RdL w w.heap.size A1 E) :
    Calls Tryz.prog 32 #[.slice A L.length c, .slice A1 E.length c1] w (AnsR (mergeR L E).1 (mergeR L E).2 w) := by
  have HR : Hid (Rd w w.heap.size A (L.length * 2) (labs L)) := hr
  have HRw : Hid (∀ W, Kept w W → Rd W W.heap.size A (L.length * 2) (labs L)) := fun W h => rd_kept h hr
  have HR1 := Lib.hid hr1
  have HS := Lib.hid hsh1
  have CR := Lib.hid (refright_any A c L (by omega) hsh w hr)
  have CR2 : Hid (∀ W, Kept w W → Calls Tryz.prog 73 #[.slice A1 E.length c1] W fun e w' => e = .returned (.bool (rgtB E)) ∧ Kept W w') := fun W h => refright_any A1 c1 E (by omega) hsh1 W (rd_kept h hr1)
  obtain ⟨i0, hi0, hz0, hz1, hz2⟩ := info_parts infoLab
  rcases hR : rgtB L with _ | _
  · have HF : Hid (mergeR L E = ([], 44)) := by show _ = _; unfold mergeR; rw [hR]; rfl
    rw [hR] at CR
    clear hr hr1 hR CR2
    go_enter Tryz.func32, Tryz.ntmps32
    go_wp2_with (go_at_call 73; (with_reducible refine CR.out.mono ?_); rintro e w1 ⟨rfl, hk⟩; have K : Hid (Kept w w1) := hk; clear hk)
    go_ret2
    rw [HF.out]
    exact AnsR.nil K.out
  rcases hR2 : rgtB E with _ | _
  · have HF : Hid (mergeR L E = ([], 44)) := by show _ = _; unfold mergeR; rw [hR, hR2]; rfl
    rw [hR] at CR
    rw [hR2] at CR2
    clear hr hr1 hR hR2
    go_enter Tryz.func32, Tryz.ntmps32
    go_wp2_with (first | (go_at_call 73; (with_reducible refine (CR2.out _ K.out).mono ?_); rintro e w1 ⟨rfl, hk⟩; replace K := kk K hk; clear hk) | (go_at_call 73; (with_reducible refine CR.out.mono ?_); rintro e w1 ⟨rfl, hk⟩; have K : Hid (Kept w w1) := hk; clear hk))
    go_ret2
    rw [HF.out]
    exact AnsR.nil K.out
  have HF : Hid (mergeR L E = bndR (putsL (L ++ freshL L E))) := by show _ = _; unfold mergeR; rw [if_pos ⟨hR, hR2⟩, merge_same (once_of_right hR) (once_of_right hR2)]
  have Hself : Hid (putsL L = L) := putR_self hR
  have HSL := Lib.hid hsh
  rw [hR] at CR
  rw [hR2] at CR2
  obtain ⟨n, hn⟩ : ∃ n, n = L.length := ⟨_, rfl⟩
  have Hn := Lib.hid hn
  obtain ⟨m, hm⟩ : ∃ m, m = E.length := ⟨_, rfl⟩
  have Hm := Lib.hid hm
  have CF : Hid (∀ W s, Kept w W → Calls Tryz.prog 77 #[.slice A L.length c, .string s] W fun e w' => e = .returned (.int .i64 (idxFrom s 0 L)) ∧ W = w') := fun W s h => reffind_any A c L (by omega) s W (HRw.out W h)
  have CF2 : Hid (∀ W s, Kept w W → Calls Tryz.prog 77 #[.slice A1 E.length c1, .string s] W fun e w' => e = .returned (.int .i64 (idxFrom s 0 E)) ∧ W = w') := fun W s h => reffind_any A1 c1 E (by omega) s W (rd_kept h hr1)
  rw [← hn] at hL CR HR HRw CF ⊢
  rw [← hm] at hE CR2 CF2 ⊢
  clear hr hr1 hR hR2 hn hm hsh hsh1
  go_enter Tryz.func32, Tryz.ntmps32
  go_upto_region 4 with (first
    | (go_at_call 73; (with_reducible refine (CR2.out _ K.out).mono ?_); rintro e w1 ⟨rfl, hk⟩; replace K := kk K hk; clear hk)
    | (go_at_call 73; (with_reducible refine CR.out.mono ?_); rintro e w1 ⟨rfl, hk⟩; have K : Hid (Kept w w1) := hk; clear hk)
    | (at_builtin; have hsK := K.out.size; refine wpList_appG rfl _ _ 22 22 rfl Tryz.underlying22 w.heap.size i0 _ 32 Tryz.underlying22 hi0 hz0 hz1 hz2 rfl _ 0 [] rfl (own_empty w1 hsK) A n c (labs L) rfl (rd_kept ((Below.refl _ _).alloc (Nat.le_refl _) _) (HRw.out _ K.out)) (labs_one L) (by unfold maxLen; omega) (by omega) (by simp; omega) ?_; intro v2 w2 hown2 hg2; have Hown2 := Lib.hid hown2; have K2 : Hid (Kept w w2) := (K.out.alloc hsK _).grown hg2 (by simp; omega) (fun j e => ((own_empty w1 hsK).lt j e).1); clear hown2 hg2))
  have Ho2 : Hid (w2.ownsRow w.heap.size 33 2 v2 n (labs L)) := by have := Hown2.out; rwa [Nat.zero_add, List.nil_append] at this
  clear Hown2 CR
  obtain ⟨A2, c2, rfl, _, hr2, _⟩ := own_rdG Ho2.out
  have HR2 := Lib.hid hr2
  clear hr2 Ho2
  clear CR2
  go_wp2_with fail
  go_loopw [6, 7] (fun v6 v7 wr => ∃ (k : Nat) (A2 : Option Addr) (c2 : Nat), k ≤ m ∧ v7 = .int .i64 k ∧ v6 = .slice A2 (putsL (L ++ freshL L (E.take k))).length c2 ∧ Hid (Kept w wr) ∧ Hid (RdL wr wr.heap.size A2 (putsL (L ++ freshL L (E.take k))))) (fun _ v7 _ => m - (intOf v7).toNat)
  case atStart =>
    have e0 : putsL (L ++ freshL L (E.take 0)) = L := by rw [List.take_zero]; show putsL (L ++ []) = L; rw [List.append_nil]; exact Hself.out
    refine ⟨0, A2, c2, by omega, rfl, by rw [e0, ← Hn.out], K2, ?_⟩
    show Rd _ _ _ _ _
    rw [e0, ← Hn.out]
    exact HR2.out
  case round =>
    clear HR2 K2 K
    obtain ⟨k, A2, c2, hk, rfl, rfl, hkr, hrd⟩ := hrel
    by_cases hkn : k < m
    · obtain ⟨ad, x, rfl, hadb, hx, hd, hc0, hc1⟩ := rdl_at HR1.out (by rw [← Hm.out]; exact hkn)
      have e0 := (Below.cell hkr.out (by rw [addBlock]; exact hadb)).trans hc0
      have e1 := (Below.cell hkr.out (by rw [addBlock]; exact hadb)).trans hc1
      have Hcl := Lib.hid (lab_cells e0 e1)
      have Hsn : Hid (putsL (L ++ freshL L (E.take (k + 1))) = if idxFrom x.1 0 L < 0 then rputL (decide (x.2 = ⟨#[]⟩)) x (putsL (L ++ freshL L (E.take k))) else putsL (L ++ freshL L (E.take k))) := by
        show _ = _
        rw [List.take_add_one, hx, Option.toList_some]
        unfold freshL
        rw [List.filter_append]
        by_cases h : idxFrom x.1 0 L < 0
        · rw [if_pos h, List.filter_cons_of_pos (by simpa using h), List.filter_nil, ← List.append_assoc]
          exact putsL_snoc _ _
        · rw [if_neg h, List.filter_cons_of_neg (by simpa using h), List.filter_nil, List.append_nil]
      have hle := putsL_le (L ++ freshL L (E.take k))
      have hle2 : (freshL L (E.take k)).length ≤ (E.take k).length := List.length_filter_le _ _
      rw [List.length_take] at hle2
      rw [List.length_append, ← Hn.out] at hle
      have hall : ∀ y ∈ putsL (L ++ freshL L (E.take k)), shortL y := putsL_all fun y hy => by
        rcases List.mem_append.1 hy with h | h
        · exact HSL.out y h
        · exact HS.out y (List.mem_of_mem_take (List.mem_filter.1 h).1)
      have CP := Lib.hid (refput_any A2 c2 (putsL (L ++ freshL L (E.take k))) (by omega) hall x (HS.out x (List.mem_of_getElem? hx)) wr hrd.out)
      have CFx := Lib.hid (CF.out wr x.1 hkr.out)
      generalize idxFrom x.1 0 L = ix at *
      obtain ⟨xa, xb⟩ := x
      dsimp only at Hcl CP Hsn CFx e0
      clear hc0 hc1 hx hd e1 hadb hall hle hle2
      generalize hpm : putsL (L ++ freshL L (E.take k)) = pm at *
      clear hpm
      have HRp := hrd
      generalize hpn : pm.length = nm at *
      have Hpn := Lib.hid hpn
      clear hpn
      by_cases hi : ix < 0
      · rw [if_pos hi] at Hsn
        go_wp2_with (first
          | (refine wpList_load_at rfl 33 (.tmp 36) rfl (ad.add (k * 2)) rfl #[.string (xa, xb).1, .string (xa, xb).2] _ Hcl.out Tryz.underlying33 rfl sizeL ?_)
          | (go_at_call 77; (with_reducible refine CFx.out.mono ?_); rintro e w2 ⟨rfl, rfl⟩)
          | (go_at_call 75; (with_reducible refine CP.out.mono ?_); rintro e w3 ⟨v, rfl, hown, hk3⟩; obtain ⟨A3, c3, rfl, _, hr3, _⟩ := own_rdG hown; have HR3 := Lib.hid hr3; have HK3 : Hid (Kept w w3) := below_kept hkr.out hk3; clear hk3 hr3 hown))
        go_roundw
        case rel => exact ⟨k + 1, A3, c3, by omega, by go_num, by rw [Hsn.out], HK3, by show Rd _ _ _ _ _; rw [Hsn.out]; exact HR3.out⟩
        case measure => simp [intOf]; omega
      · rw [if_neg hi] at Hsn
        go_wp2_with (go_at_call 77; (with_reducible refine CFx.out.mono ?_); rintro e w2 ⟨rfl, rfl⟩)
        go_roundw
        case rel => exact ⟨k + 1, A2, c2, by omega, by go_num, by rw [Hsn.out, Hpn.out], hkr, by show Rd _ _ _ _ _; rw [Hsn.out]; exact hrd.out⟩
        case measure => simp [intOf]; omega
    · obtain rfl : k = m := by omega
      have hT : E.take k = E := List.take_of_length_le (by rw [← Hm.out]; exact Nat.le_refl _)
      have hfin := HF.out
      rw [hT] at hrd ⊢
      clear hT HF
      have CB := Lib.hid (bound_any A2 c2 (putsL (L ++ freshL L E)) w wr hrd.out hkr.out)
      generalize hq : bndR (putsL (L ++ freshL L E)) = q at *
      have HF2 := Lib.hid hfin
      clear hq hfin
      generalize hpn : (putsL (L ++ freshL L E)).length = nm at *
      clear hpn
      go_wp2_with (go_at_call 76; (with_reducible refine CB.out.mono ?_); rintro e w2 ⟨A3, c3, rfl, hr3, hk3⟩; have HR3 := Lib.hid hr3; have HK3 := Lib.hid hk3; clear hr3 hk3)
      go_ret2
      show AnsR _ _ _ _ _
      rw [HF2.out]
      exact ⟨A3, c3, rfl, HR3.out, HK3.out⟩
end Go.Proofs.YtlhekeokognhmaaGreatDoor
