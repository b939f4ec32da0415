/-
  The reference's Export.
-/
import Derived.Test.YtlhekeokognhmaaGreatDoorLcK
namespace Go.Proofs.YtlhekeokognhmaaGreatDoor
open Go.RowKit Go.Shelf Go.Maps Go.Sort
set_option maxRecDepth 100000 in
set_option maxHeartbeats 4000000 in
theorem refexport_any (A A1 : Option Addr) (c c1 : Nat) (L E : List Lab) (hL : L.length ≤ 100000) (hE : E.length ≤ 100000) (hsh : ∀ y ∈ L, shortL y) (hsh1 : ∀ y ∈ E, shortL y) (w : World) (hr : RdL w w.heap.size A L) (hr1 : RdL w w.heap.size A1 E) :
    Calls Tryz.prog 33 #[.slice A L.length c, .slice A1 E.length c1] w (AnsR (exportR L E).1 (exportR L E).2 w) := by
  have HR : Hid (Rd w w.heap.size A (L.length * 2) (labs L)) := hr
  have HRw : Hid (∀ W, Kept w W → Rd W W.heap.size A (L.length * 2) (labs L)) := fun W h => rd_kept h hr
  have HR1 := Lib.hid hr1
  have HS := Lib.hid hsh1
  have CR := Lib.hid (refright_any A c L (by omega) hsh w hr)
  have CR2 : Hid (∀ W, Kept w W → Calls Tryz.prog 73 #[.slice A1 E.length c1] W fun e w' => e = .returned (.bool (rgtB E)) ∧ Kept W w') := fun W h => refright_any A1 c1 E (by omega) hsh1 W (rd_kept h hr1)
  obtain ⟨i0, hi0, hz0, hz1, hz2⟩ := info_parts infoLab
  rcases hR : rgtB L with _ | _
  · have HF : Hid (exportR L E = ([], 44)) := by show _ = _; unfold exportR; rw [hR]; rfl
    rw [hR] at CR
    clear hr hr1 hR CR2
    go_enter Tryz.func33, Tryz.ntmps33
    go_wp2_with (go_at_call 73; (with_reducible refine CR.out.mono ?_); rintro e w1 ⟨rfl, hk⟩; have K : Hid (Kept w w1) := hk; clear hk)
    go_ret2
    rw [HF.out]
    exact AnsR.nil K.out
  rcases hR2 : rgtB E with _ | _
  · have HF : Hid (exportR L E = ([], 44)) := by show _ = _; unfold exportR; rw [hR, hR2]; rfl
    rw [hR] at CR
    rw [hR2] at CR2
    clear hr hr1 hR hR2
    go_enter Tryz.func33, Tryz.ntmps33
    go_wp2_with (first | (go_at_call 73; (with_reducible refine (CR2.out _ K.out).mono ?_); rintro e w1 ⟨rfl, hk⟩; replace K := kk K hk; clear hk) | (go_at_call 73; (with_reducible refine CR.out.mono ?_); rintro e w1 ⟨rfl, hk⟩; have K : Hid (Kept w w1) := hk; clear hk))
    go_ret2
    rw [HF.out]
    exact AnsR.nil K.out
  have HF : Hid (exportR L E = bndR (putsL (L ++ expY L E E))) := by show _ = _; unfold exportR; rw [if_pos ⟨hR, hR2⟩, export_same hR hR2]
  have Hself : Hid (putsL L = L) := putR_self hR
  have HSL := Lib.hid hsh
  rw [hR] at CR
  rw [hR2] at CR2
  obtain ⟨n, hn⟩ : ∃ n, n = L.length := ⟨_, rfl⟩
  have Hn := Lib.hid hn
  obtain ⟨m, hm⟩ : ∃ m, m = E.length := ⟨_, rfl⟩
  have Hm := Lib.hid hm
  have CF : Hid (∀ W s, Kept w W → Calls Tryz.prog 77 #[.slice A L.length c, .string s] W fun e w' => e = .returned (.int .i64 (idxFrom s 0 L)) ∧ W = w') := fun W s h => reffind_any A c L (by omega) s W (HRw.out W h)
  have CF2 : Hid (∀ W s, Kept w W → Calls Tryz.prog 77 #[.slice A1 E.length c1, .string s] W fun e w' => e = .returned (.int .i64 (idxFrom s 0 E)) ∧ W = w') := fun W s h => reffind_any A1 c1 E (by omega) s W (rd_kept h hr1)
  rw [← hn] at hL CR HR HRw CF ⊢
  rw [← hm] at hE CR2 CF2 ⊢
  clear hr hr1 hR hR2 hn hm hsh hsh1
  go_enter Tryz.func33, Tryz.ntmps33
  go_upto_region 4 with (first
    | (go_at_call 73; (with_reducible refine (CR2.out _ K.out).mono ?_); rintro e w1 ⟨rfl, hk⟩; replace K := kk K hk; clear hk)
    | (go_at_call 73; (with_reducible refine CR.out.mono ?_); rintro e w1 ⟨rfl, hk⟩; have K : Hid (Kept w w1) := hk; clear hk)
    | (at_builtin; have hsK := K.out.size; refine wpList_appG rfl _ _ 22 22 rfl Tryz.underlying22 w.heap.size i0 _ 32 Tryz.underlying22 hi0 hz0 hz1 hz2 rfl _ 0 [] rfl (own_empty w1 hsK) A n c (labs L) rfl (rd_kept ((Below.refl _ _).alloc (Nat.le_refl _) _) (HRw.out _ K.out)) (labs_one L) (by unfold maxLen; omega) (by omega) (by simp; omega) ?_; intro v2 w2 hown2 hg2; have Hown2 := Lib.hid hown2; have K2 : Hid (Kept w w2) := (K.out.alloc hsK _).grown hg2 (by simp; omega) (fun j e => ((own_empty w1 hsK).lt j e).1); clear hown2 hg2))
  have Ho2 : Hid (w2.ownsRow w.heap.size 33 2 v2 n (labs L)) := by have := Hown2.out; rwa [Nat.zero_add, List.nil_append] at this
  clear Hown2 CR
  obtain ⟨A2, c2, rfl, _, hr2, _⟩ := own_rdG Ho2.out
  have HR2 := Lib.hid hr2
  clear hr2 Ho2
  clear CR2
  go_wp2_with fail
  go_loopw [6, 7] (fun v6 v7 wr => ∃ (k : Nat) (A2 : Option Addr) (c2 : Nat), k ≤ m ∧ v7 = .int .i64 k ∧ v6 = .slice A2 (putsL (L ++ expY L E (E.take k))).length c2 ∧ Hid (Kept w wr) ∧ Hid (RdL wr wr.heap.size A2 (putsL (L ++ expY L E (E.take k))))) (fun _ v7 _ => m - (intOf v7).toNat)
  case atStart =>
    have e0 : putsL (L ++ expY L E (E.take 0)) = L := by rw [List.take_zero]; show putsL (L ++ []) = L; rw [List.append_nil]; exact Hself.out
    refine ⟨0, A2, c2, by omega, rfl, by rw [e0, ← Hn.out], K2, ?_⟩
    show Rd _ _ _ _ _
    rw [e0, ← Hn.out]
    exact HR2.out
  case round =>
    clear HR2 K2 K
    obtain ⟨k, A2, c2, hk, rfl, rfl, hkr, hrd⟩ := hrel
    by_cases hkn : k < m
    · obtain ⟨ad, x, rfl, hadb, hx, hd, hc0, hc1⟩ := rdl_at HR1.out (by rw [← Hm.out]; exact hkn)
      have e0 := (Below.cell hkr.out (by rw [addBlock]; exact hadb)).trans hc0
      have e1 := (Below.cell hkr.out (by rw [addBlock]; exact hadb)).trans hc1
      have Hcl := Lib.hid (lab_cells e0 e1)
      have Hsx := Lib.hid (HS.out x (List.mem_of_getElem? hx))
      have Hst : Hid (∀ r, expG L E x = r → putsL (L ++ expY L E (E.take (k + 1))) = match r with | some z => rputL (decide (z.2 = ⟨#[]⟩)) z (putsL (L ++ expY L E (E.take k))) | none => putsL (L ++ expY L E (E.take k))) := fun r hr => by
        rw [List.take_add_one, hx, Option.toList_some]
        unfold expY
        rw [List.filterMap_append]
        rcases r with _ | z
        · rw [List.filterMap_cons_none hr, List.filterMap_nil, List.append_nil]
        · rw [List.filterMap_cons_some hr, List.filterMap_nil, ← List.append_assoc]
          exact putsL_snoc _ _
      have hle := putsL_le (L ++ expY L E (E.take k))
      have hle2 : (expY L E (E.take k)).length ≤ (E.take k).length := List.length_filterMap_le _ _
      rw [List.length_take] at hle2
      rw [List.length_append, ← Hn.out] at hle
      have hsh2 : ∀ y ∈ expY L E (E.take k), shortL y := fun y hy => by
        obtain ⟨u, hu, he⟩ := List.mem_filterMap.1 hy
        have h1 := HS.out u (List.mem_of_mem_take hu)
        unfold expG at he
        split at he
        · cases he; exact h1
        · split at he
          · rename_i h2
            cases he
            exact ⟨by have := h2.1; dsimp only; omega, h1.2⟩
          · cases he
      have hall : ∀ y ∈ putsL (L ++ expY L E (E.take k)), shortL y := putsL_all fun y hy => by
        rcases List.mem_append.1 hy with h | h
        · exact HSL.out y h
        · exact hsh2 y h
      have CP : Hid (∀ W z, shortL z → Kept wr W → Calls Tryz.prog 75 #[.slice A2 (putsL (L ++ expY L E (E.take k))).length c2, .agg #[.string z.1, .string z.2]] W fun e w' => ∃ v, e = .returned v ∧ w'.ownsRow W.heap.size 33 2 v (rputL (decide (z.2 = ⟨#[]⟩)) z (putsL (L ++ expY L E (E.take k)))).length (labs (rputL (decide (z.2 = ⟨#[]⟩)) z (putsL (L ++ expY L E (E.take k))))) ∧ Kept W w') := fun W z hz h => refput_any A2 c2 (putsL (L ++ expY L E (E.take k))) (by omega) hall z hz W (rd_kept h hrd.out)
      obtain ⟨xa, xb⟩ := x
      dsimp only at Hcl
      obtain ⟨wb, hwb⟩ : ∃ z, z = wr.alloc (.cells #[.string xa, .string xb] 33) := ⟨_, rfl⟩
      obtain ⟨g, hg⟩ : ∃ z, z = wr.heap.size := ⟨_, rfl⟩
      have kb : Kept wr wb := by rw [hwb]; exact (Below.refl _ wr).alloc (Nat.le_refl _) _
      have Kb : Hid (Kept wr wb) := kb
      have Kwb : Hid (Kept w wb) := below_kept hkr.out kb
      have Mb : wb.heap[g]? = some (.cells #[.string xa, .string xb] 33 (0, 0)) := by rw [hwb, hg]; exact heap_alloc_new wr _
      have q0 : wb.cell? ⟨g, 0, none⟩ = some (.string xa) := by rw [cell_of_row _ _ _ _ _ _ Mb]; rfl
      have q1 : wb.cell? ⟨g, 1, none⟩ = some (.string xb) := by rw [cell_of_row _ _ _ _ _ _ Mb]; rfl
      have Hbc : Hid (∀ j v, (#[.string xa, .string xb] : Array Value)[j]? = some v → wb.cell? ((⟨g, 0, none⟩ : Addr).add j) = some v) := fun j v hv => by rw [add0, cell_of_row _ g j _ _ _ Mb]; exact hv
      have CFx := Lib.hid (CF.out wb xa Kwb.out)
      have CFn := Lib.hid (CF.out wb (expN xa) Kwb.out)
      have CEn := Lib.hid (CF2.out wb (expN xa) Kwb.out)
      have hgx : expG L E (xa, xb) = if idxFrom xa 0 L < 0 then some (xa, xb) else if (expN xa).size ≤ 128 ∧ idxFrom (expN xa) 0 L < 0 ∧ idxFrom (expN xa) 0 E < 0 then some (expN xa, xb) else none := rfl
      rw [hgx] at Hst
      have CPx := Lib.hid (CP.out wb (xa, xb) Hsx.out Kb.out)
      have CPn : Hid ((expN xa).size ≤ 128 → _) := fun h => CP.out wb (expN xa, xb) ⟨by dsimp only; omega, Hsx.out.2⟩ Kb.out
      have hNs := expN_size xa
      have hxs : xa.size ≤ 1100 := Hsx.out.1
      have heN : (⟨#[101, 120, 112, 111, 114, 116, 101, 100, 95]⟩ : ByteArray) ++ xa = expN xa := rfl
      have hov : ¬ 9223372036854775807 < 9 + xa.size := by omega
      have Hwb := Lib.hid hwb
      have Hg := Lib.hid hg
      clear hc0 hc1 hx hd e0 e1 hadb hall hle hle2 hgx Mb kb hsh2 CP hwb hg
      generalize idxFrom xa 0 L = i1 at *
      generalize idxFrom (expN xa) 0 L = i2 at *
      generalize idxFrom (expN xa) 0 E = i3 at *
      generalize hpm : putsL (L ++ expY L E (E.take k)) = pm at *
      clear hpm
      generalize hpn : pm.length = nm at *
      have Hpn := Lib.hid hpn
      clear hpn
      by_cases hi1 : i1 < 0
      · have Hs := Lib.hid (Hst.out _ (if_pos hi1))
        dsimp only at Hs CPx
        clear Hst CPn CFn CEn heN hNs q1
        go_upto_region 8 with (first | (refine wpList_load_at rfl 33 (.tmp 29) rfl (ad.add (k * 2)) rfl #[.string (xa, xb).1, .string (xa, xb).2] _ Hcl.out Tryz.underlying33 rfl sizeL ?_))
        rw [← Hwb.out, ← Hg.out]
        go_wp2_with (first
          | (refine wpList_load_at rfl 33 (.tmp 8) rfl (⟨g, 0, none⟩) rfl #[.string (xa, xb).1, .string (xa, xb).2] _ Hbc.out Tryz.underlying33 rfl sizeL ?_)
          | (go_at_call 77; (with_reducible refine CFx.out.mono ?_); rintro e w2 ⟨rfl, rfl⟩)
          | (go_at_call 75; (with_reducible refine CPx.out.mono ?_); rintro e w3 ⟨v, rfl, hown, hk3⟩; obtain ⟨A3, c3, rfl, _, hr3, _⟩ := own_rdG hown; have HR3 := Lib.hid hr3; have HK3 : Hid (Kept w w3) := below_kept Kwb.out hk3; clear hk3 hr3 hown))
        go_roundw
        case rel => exact ⟨k + 1, A3, c3, by omega, by go_num, by rw [Hs.out], HK3, by show Rd _ _ _ _ _; rw [Hs.out]; exact HR3.out⟩
        case measure => simp [intOf]; omega
      · have hst2 := fun r (hr : (if (expN xa).size ≤ 128 ∧ i2 < 0 ∧ i3 < 0 then some (expN xa, xb) else none) = r) => Hst.out r (by rw [if_neg hi1]; exact hr)
        have Hst2 := Lib.hid hst2
        clear hst2 Hst CPx
        generalize expN xa = N at *
        by_cases hc : N.size ≤ 128 ∧ i2 < 0 ∧ i3 < 0
        · have Hs := Lib.hid (Hst2.out _ (if_pos hc))
          have CPn2 := Lib.hid (CPn.out hc.1)
          dsimp only at Hs CPn2
          obtain ⟨h1, h2, h3⟩ := hc
          have h1I : (N.size : Int) ≤ 128 := by omega
          clear Hst2 CPn
          go_upto_region 8 with (first | (refine wpList_load_at rfl 33 (.tmp 29) rfl (ad.add (k * 2)) rfl #[.string (xa, xb).1, .string (xa, xb).2] _ Hcl.out Tryz.underlying33 rfl sizeL ?_))
          rw [← Hwb.out, ← Hg.out]
          go_wp2_with (first
            | (go_at_call 77; (with_reducible refine CFx.out.mono ?_); rintro e w2 ⟨rfl, rfl⟩)
            | (go_at_call 77; (with_reducible refine CFn.out.mono ?_); rintro e w2 ⟨rfl, rfl⟩)
            | (go_at_call 77; (with_reducible refine CEn.out.mono ?_); rintro e w2 ⟨rfl, rfl⟩)
            | (go_at_call 75; (with_reducible refine CPn2.out.mono ?_); rintro e w3 ⟨v, rfl, hown, hk3⟩; obtain ⟨A3, c3, rfl, _, hr3, _⟩ := own_rdG hown; have HR3 := Lib.hid hr3; have HK3 : Hid (Kept w w3) := below_kept Kwb.out hk3; clear hk3 hr3 hown))
          go_roundw
          case rel => exact ⟨k + 1, A3, c3, by omega, by go_num, by rw [Hs.out], HK3, by show Rd _ _ _ _ _; rw [Hs.out]; exact HR3.out⟩
          case measure => simp [intOf]; omega
        · have Hs := Lib.hid (Hst2.out _ (if_neg hc))
          dsimp only at Hs
          clear Hst2 CPn
          have Hrdb : Hid (Rd wb wb.heap.size A2 (pm.length * 2) (labs pm)) := rd_kept Kb.out hrd.out
          go_upto_region 8 with (first | (refine wpList_load_at rfl 33 (.tmp 29) rfl (ad.add (k * 2)) rfl #[.string (xa, xb).1, .string (xa, xb).2] _ Hcl.out Tryz.underlying33 rfl sizeL ?_))
          rw [← Hwb.out, ← Hg.out]
          have Hc := Lib.hid hc
          clear hc
          by_cases h1 : N.size ≤ 128
          · have h1I : (N.size : Int) ≤ 128 := by omega
            by_cases h2 : i2 < 0
            · have h3 : ¬ i3 < 0 := fun h => Hc.out ⟨h1, h2, h⟩
              go_wp2_with (first
                | (go_at_call 77; (with_reducible refine CFx.out.mono ?_); rintro e w2 ⟨rfl, rfl⟩)
                | (go_at_call 77; (with_reducible refine CFn.out.mono ?_); rintro e w2 ⟨rfl, rfl⟩)
                | (go_at_call 77; (with_reducible refine CEn.out.mono ?_); rintro e w2 ⟨rfl, rfl⟩))
              go_roundw
              case rel => exact ⟨k + 1, A2, c2, by omega, by go_num, by rw [Hs.out, Hpn.out], Kwb, by show Rd _ _ _ _ _; rw [Hs.out]; exact Hrdb.out⟩
              case measure => simp [intOf]; omega
            · go_wp2_with (first
                | (go_at_call 77; (with_reducible refine CFx.out.mono ?_); rintro e w2 ⟨rfl, rfl⟩)
                | (go_at_call 77; (with_reducible refine CFn.out.mono ?_); rintro e w2 ⟨rfl, rfl⟩))
              go_roundw
              case rel => exact ⟨k + 1, A2, c2, by omega, by go_num, by rw [Hs.out, Hpn.out], Kwb, by show Rd _ _ _ _ _; rw [Hs.out]; exact Hrdb.out⟩
              case measure => simp [intOf]; omega
          · have h1I : ¬ (N.size : Int) ≤ 128 := by omega
            go_wp2_with (go_at_call 77; (with_reducible refine CFx.out.mono ?_); rintro e w2 ⟨rfl, rfl⟩)
            go_roundw
            case rel => exact ⟨k + 1, A2, c2, by omega, by go_num, by rw [Hs.out, Hpn.out], Kwb, by show Rd _ _ _ _ _; rw [Hs.out]; exact Hrdb.out⟩
            case measure => simp [intOf]; omega
    · obtain rfl : k = m := by omega
      have hT : E.take k = E := List.take_of_length_le (by rw [← Hm.out]; exact Nat.le_refl _)
      have hfin := HF.out
      rw [hT] at hrd ⊢
      clear hT HF
      have CB := Lib.hid (bound_any A2 c2 (putsL (L ++ expY L E E)) w wr hrd.out hkr.out)
      generalize hq : bndR (putsL (L ++ expY L E E)) = q at *
      have HF2 := Lib.hid hfin
      clear hq hfin
      generalize hpn : (putsL (L ++ expY L E E)).length = nm at *
      clear hpn
      go_wp2_with (go_at_call 76; (with_reducible refine CB.out.mono ?_); rintro e w2 ⟨A3, c3, rfl, hr3, hk3⟩; have HR3 := Lib.hid hr3; have HK3 := Lib.hid hk3; clear hr3 hk3)
      go_ret2
      show AnsR _ _ _ _ _
      rw [HF2.out]
      exact ⟨A3, c3, rfl, HR3.out, HK3.out⟩
end Go.Proofs.YtlhekeokognhmaaGreatDoor
