/-
  The reference's Compare.
-/
import Derived.Test.YtlhekeokognhmaaGreatDoorLcJ
namespace Go.Proofs.YtlhekeokognhmaaGreatDoor
open Go.RowKit Go.Shelf Go.Maps Go.Sort
theorem cmpS_lt (a b : ByteArray) : cmpS a b = if ltB a b = true then -1 else if a = b then 0 else 1 := by
  unfold cmpS
  rw [less_is]
  show (if ltB a b = true then (-1 : Int) else _) = _
  rw [str_beq]
  simp only [decide_eq_true_eq]
def befB (x y : Lab) : Bool := ltB x.1 y.1 || ((x.1.toList == y.1.toList) && ltB x.2 y.2)
theorem ltB_self (a : ByteArray) : ltB a a = false := ltB_no.2 (str_lt_irrefl _)
theorem cmp1_is (x y : Lab) : cmp1 x y = if befB x y = true then -1 else if x = y then 0 else 1 := by
  obtain ⟨xa, xb⟩ := x
  obtain ⟨ya, yb⟩ := y
  unfold cmp1 befB
  rw [cmpS_lt, cmpS_lt, str_beq]
  dsimp only
  by_cases h1 : ltB xa ya = true
  · rw [if_pos h1, h1]
    rfl
  · have h1' : ltB xa ya = false := by simpa using h1
    rw [if_neg h1, h1', Bool.false_or]
    by_cases h2 : xa = ya
    · subst h2
      rw [if_pos rfl, decide_eq_true rfl, Bool.true_and, if_pos rfl]
      by_cases h3 : ltB xb yb = true
      · rw [if_pos h3, if_pos h3]
      · rw [if_neg h3, if_neg h3]
        by_cases h4 : xb = yb
        · rw [if_pos h4, if_pos (by rw [h4])]
        · rw [if_neg h4, if_neg (fun e => h4 (Prod.ext_iff.1 e).2)]
    · rw [if_neg h2, if_neg (by decide), decide_eq_false h2, Bool.false_and, if_neg (by simp), if_neg (fun e => h2 (Prod.ext_iff.1 e).1)]
theorem cmpL_end {L E : List Lab} {k : Nat} (h : ¬ k < L.length ∨ ¬ k < E.length) (hk : k ≤ L.length) (hk2 : k ≤ E.length) : cmpL (L.drop k) (E.drop k) = if L.length < E.length then -1 else if E.length < L.length then 1 else 0 := by
  by_cases h1 : k < L.length
  · have h2 : ¬ k < E.length := by omega
    rw [List.drop_of_length_le (l := E) (by omega), if_neg (by omega), if_pos (by omega), List.drop_eq_getElem_cons h1]
    rfl
  · rw [List.drop_of_length_le (l := L) (by omega)]
    by_cases h2 : k < E.length
    · rw [if_pos (by omega), List.drop_eq_getElem_cons h2]
      rfl
    · rw [List.drop_of_length_le (l := E) (by omega), if_neg (by omega), if_neg (by omega)]
      rfl
set_option maxRecDepth 100000 in
set_option maxHeartbeats 4000000 in
theorem refcompare_any (A A1 : Option Addr) (c c1 : Nat) (L E : List Lab) (hL : L.length ≤ 1000000) (hE : E.length ≤ 1000000) (hsh : ∀ y ∈ L, shortL y) (hsh1 : ∀ y ∈ E, shortL y) (w : World) (hr : RdL w w.heap.size A L) (hr1 : RdL w w.heap.size A1 E) :
    Calls Tryz.prog 38 #[.slice A L.length c, .slice A1 E.length c1] w fun e w' => e = .returned (.int .i64 (cmpL L E)) ∧ Kept w w' := by
  have HR := Lib.hid hr
  have HR1 := Lib.hid hr1
  have HS := Lib.hid hsh
  have HS1 := Lib.hid hsh1
  have Hend : Hid (∀ k, (¬ k < L.length ∨ ¬ k < E.length) → k ≤ L.length → k ≤ E.length → cmpL (L.drop k) (E.drop k) = if L.length < E.length then -1 else if E.length < L.length then 1 else 0) := fun k => cmpL_end
  obtain ⟨n, hn⟩ : ∃ n, n = L.length := ⟨_, rfl⟩
  obtain ⟨m, hm⟩ : ∃ n, n = E.length := ⟨_, rfl⟩
  have Hn := Lib.hid hn
  have Hm := Lib.hid hm
  rw [← hn] at hL Hend ⊢
  rw [← hm] at hE Hend ⊢
  clear hr hr1 hn hm hsh hsh1
  go_enter Tryz.func38, Tryz.ntmps38
  go_wp2_with fail
  go_loopw [5] (fun v5 wr => ∃ k : Nat, k ≤ n ∧ k ≤ m ∧ v5 = .int .i64 k ∧ Hid (Kept w wr) ∧ Hid (cmpL L E = cmpL (L.drop k) (E.drop k))) (fun v5 _ => n - (intOf v5).toNat)
  case atStart => exact ⟨0, by omega, by omega, rfl, Below.refl _ _, rfl⟩
  case round =>
    obtain ⟨k, hk, hk2, rfl, hkr, hf⟩ := hrel
    by_cases hkn : k < n ∧ k < m
    · obtain ⟨hkn, hkm⟩ := hkn
      obtain ⟨ad, x, rfl, hadb, hx, hd, hc0, hc1⟩ := rdl_at HR.out (by rw [← Hn.out]; exact hkn)
      obtain ⟨ad2, y, rfl, hadb2, hy, hd2, hd0, hd1⟩ := rdl_at HR1.out (by rw [← Hm.out]; exact hkm)
      have Hsx := Lib.hid (HS.out x (List.mem_of_getElem? hx))
      have Hsy := Lib.hid (HS1.out y (List.mem_of_getElem? hy))
      have Hst : Hid (cmpL (L.drop k) (E.drop k) = if cmp1 x y = 0 then cmpL (L.drop (k + 1)) (E.drop (k + 1)) else cmp1 x y) := by show _ = _; rw [hd, hd2]; rfl
      have f0 := (Below.cell hkr.out (by rw [addBlock]; exact hadb)).trans hc0
      have f1 := (Below.cell hkr.out (by rw [addBlock]; exact hadb)).trans hc1
      have f2 := (Below.cell hkr.out (by rw [addBlock]; exact hadb2)).trans hd0
      have f3 := (Below.cell hkr.out (by rw [addBlock]; exact hadb2)).trans hd1
      have Hcl : Hid (∀ W, Kept wr W → ∀ j v, (#[.string x.1, .string x.2] : Array Value)[j]? = some v → W.cell? ((ad.add (k * 2)).add j) = some v) := fun W h => lab_cells ((Below.cell h (block_lt_of_cell f0)).trans f0) ((Below.cell h (block_lt_of_cell f1)).trans f1)
      have Hcl2 : Hid (∀ W, Kept wr W → ∀ j v, (#[.string y.1, .string y.2] : Array Value)[j]? = some v → W.cell? ((ad2.add (k * 2)).add j) = some v) := fun W h => lab_cells ((Below.cell h (block_lt_of_cell f2)).trans f2) ((Below.cell h (block_lt_of_cell f3)).trans f3)
      have g1 : wr.cell? ⟨(ad.add (k * 2)).block, (ad.add (k * 2)).off + 1, none⟩ = some (.string x.2) := by
        rw [show (⟨(ad.add (k * 2)).block, (ad.add (k * 2)).off + 1, none⟩ : Addr) = (ad.add (k * 2)).add 1 from rfl, addr_add_add]; exact f1
      have g3 : wr.cell? ⟨(ad2.add (k * 2)).block, (ad2.add (k * 2)).off + 1, none⟩ = some (.string y.2) := by
        rw [show (⟨(ad2.add (k * 2)).block, (ad2.add (k * 2)).off + 1, none⟩ : Addr) = (ad2.add (k * 2)).add 1 from rfl, addr_add_add]; exact f3
      obtain ⟨xa, xb⟩ := x
      obtain ⟨ya, yb⟩ := y
      rw [cmp1_is] at Hst
      have Hbef : Hid (befB (xa, xb) (ya, yb) = (ltB xa ya || ((xa.toList == ya.toList) && ltB xb yb))) := rfl
      have heq := Lib.hid (eq_lab xa xb ya yb)
      obtain ⟨bb, hbb⟩ : ∃ b, b = decide ((xa, xb) = (ya, yb)) := ⟨_, rfl⟩
      have hif : ((if (xa, xb) = (ya, yb) then (0 : Int) else 1) = if bb = true then 0 else 1) := by rw [hbb]; simp only [decide_eq_true_eq]
      rw [hif] at Hst
      rw [← hbb] at heq
      dsimp only at Hcl Hcl2 f0 f2 g1 g3
      have hs1 : xa.size ≤ 1000000 := by have := Hsx.out.1; dsimp only at this; omega
      have hs2 : ya.size ≤ 1000000 := by have := Hsy.out.1; dsimp only at this; omega
      have hs3 : xb.size ≤ 1000000 := by have := Hsx.out.2; dsimp only at this; omega
      have hs4 : yb.size ≤ 1000000 := by have := Hsy.out.2; dsimp only at this; omega
      have CL := Lib.hid (less_any xa ya hs1 hs2)
      have CL2 := Lib.hid (less_any xb yb hs3 hs4)
      generalize befB (xa, xb) (ya, yb) = vb at *
      generalize ltB xa ya = l1 at *
      generalize ltB xb yb = l2 at *
      have hb2 := Below.refl wr.heap.size wr
      have hlen1 : (k : Int) < n := by omega
      have hlen2 : (k : Int) < m := by omega
      clear hx hd hc0 hc1 hy hd2 hd0 hd1 f1 f3 hadb hadb2 hbb hif hs1 hs2 hs3 hs4
      go_upto_region 4 with fail
      go_cut [54] (fun v54 wx => v54 = .bool vb ∧ Hid (Kept wr wx))
      case first =>
        have hv := Hbef.out
        rcases l1 with _ | _
        · rcases he : (xa.toList == ya.toList) with _ | _
          · rw [he] at hv
            obtain rfl : vb = false := hv
            go_quiet ((go_at_call 84; exact Calls.quiet_of (CL.out _)))
            go_wp2_with fail
            go_meet
            exact ⟨rfl, below_drewN hb2 _⟩
          · rw [he] at hv
            obtain rfl : vb = l2 := by rw [hv]; cases l2 <;> rfl
            clear hv
            go_quiet ((go_at_call 84; first | (with_reducible exact Calls.quiet_of (CL.out _)) | (with_reducible exact Calls.quiet_of (CL2.out _))))
            go_wp2_with fail
            go_meet
            exact ⟨rfl, below_drewN hb2 _⟩
        · obtain rfl : vb = true := hv
          go_quiet ((go_at_call 84; exact Calls.quiet_of (CL.out _)))
          go_wp2_with fail
          go_meet
          exact ⟨rfl, below_drewN hb2 _⟩
      case rest =>
      obtain ⟨rfl, hk3⟩ := hcut
      obtain ⟨w3, rfl⟩ : ∃ x, x = wc := ⟨_, rfl⟩
      clear CL CL2 Hbef f0 f2 g1 g3 hb2
      cases vb
      · rw [if_neg (by decide : ¬ false = true)] at Hst
        have K1 : Hid (Kept w w3.drew) := (below_kept hkr.out hk3.out).drew
        have hcl := Lib.hid (Hcl.out w3.drew hk3.out.drew)
        have hcl2 := Lib.hid (Hcl2.out w3.drew hk3.out.drew)
        have heq2 := heq.out
        go_upto_region 6 with fail
        refine wp_region_still_lit (by kernel_rfl) (by kernel_rfl) ?_
        show wpStill _ _ w3.drew (fun a' => Exit.then _ _ _ a' w3.drew) _ _
        generalize w3.drew = w4 at *
        iterate 3 still_step
        refine still_load rfl 33 (.tmp 57) rfl (ad.add (k * 2)) rfl #[.string xa, .string xb] _ hcl.out Tryz.underlying33 rfl sizeL ?_
        iterate 3 still_step
        refine still_load rfl 33 (.tmp 61) rfl (ad2.add (k * 2)) rfl #[.string ya, .string yb] _ hcl2.out Tryz.underlying33 rfl sizeL ?_
        still_step
        refine wpStill_nil ?_
        clear heq2
        rcases bb with _ | _
        · go_wp2_with fail
          go_ret
          exact ⟨by rw [hf.out, Hst.out]; rfl, K1.out⟩
        · go_wp2_with fail
          go_roundw
          case rel => exact ⟨k + 1, by omega, by omega, by go_num, K1, by show _ = _; rw [hf.out, Hst.out]; rfl⟩
          case measure => simp [intOf]; omega
      · rw [if_pos (by rfl : true = true)] at Hst
        go_wp2_with fail
        go_ret
        exact ⟨by rw [hf.out, Hst.out]; rfl, below_kept hkr.out hk3.out⟩
    · have He := Lib.hid (Hend.out k (by omega) hk hk2)
      by_cases h1 : n < m
      · have h1I : (n : Int) < m := by omega
        rw [if_pos h1] at He
        have hkn2 : ¬ k < n := by omega
        go_wp2_with fail
        go_ret
        exact ⟨by rw [hf.out, He.out]; rfl, hkr.out⟩
      · rw [if_neg h1] at He
        have h1I : ¬ (n : Int) < m := by omega
        by_cases h2 : m < n
        · rw [if_pos h2] at He
          have h2I : (m : Int) < n := by omega
          have hkn2 : k < n := by omega
          have hkm2 : ¬ k < m := by omega
          go_wp2_with fail
          go_ret
          exact ⟨by rw [hf.out, He.out]; rfl, hkr.out⟩
        · rw [if_neg h2] at He
          have h2I : ¬ (m : Int) < n := by omega
          have hkn2 : ¬ k < n := by omega
          go_wp2_with fail
          go_ret
          exact ⟨by rw [hf.out, He.out]; rfl, hkr.out⟩
end Go.Proofs.YtlhekeokognhmaaGreatDoor
