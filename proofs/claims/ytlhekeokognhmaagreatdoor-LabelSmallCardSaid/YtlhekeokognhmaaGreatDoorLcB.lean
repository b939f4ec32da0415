/-
  The reference of layer 4: what is wrong with a label, find, Check, Right, Get.
-/
import Derived.Test.YtlhekeokognhmaaGreatDoorLcN
import Derived.Test.YtlhekeokognhmaaGreatDoorMgap
import Derived.Deep.DeepCutAuto
import Derived.Laws.Cover1
namespace Go.Proofs.YtlhekeokognhmaaGreatDoor
open Go.RowKit Go.Shelf Go.Maps Go.Sort

/-- A label whose strings are not long. -/
def shortL (x : Lab) : Prop := x.1.size ≤ 1100 ∧ x.2.size ≤ 1100
theorem refwrong_any (x : Lab) (hx : shortL x) (w : World) : Calls Tryz.prog 74 #[.agg #[.string x.1, .string x.2]] w fun e w' => e = .returned (.int .i64 (wrE x)) ∧ Kept w w' := by
  obtain ⟨a, b⟩ := x
  have CN := Lib.hid (fun W => refname_false a (by have := hx.1; dsimp only at this; omega) W)
  have CV := Lib.hid (fun W => refvalue_any b (by have := hx.2; dsimp only at this; omega) W)
  unfold wrE
  dsimp only
  have Fin : Hid (∀ w1, Kept (w.alloc (.cells #[.string a, .string b] 33)) w1 → Kept w w1) := fun w1 hk => Below.trans ((Below.refl _ w).alloc (Nat.le_refl _) _) (Below.mono hk (by simp))
  have Keep : Hid (∀ w1, Kept (w.alloc (.cells #[.string a, .string b] 33)) w1 → w1.heap[w.heap.size]? = some (.cells #[.string a, .string b] 33 (0, 0))) := fun w1 hk => heap_kept hk (heap_alloc_new w _)
  clear hx
  generalize nmB namB a = p at *
  generalize valB b = q at *
  cases p
  · go_enter Tryz.func74, Tryz.ntmps74
    go_wp2_with (go_at_call 47; refine (CN.out _).mono ?_; rintro e w1 ⟨rfl, hk⟩; have HK := Lib.hid hk; clear hk)
    go_ret
    exact ⟨rfl, Fin.out _ HK.out⟩
  · cases q
    all_goals
      go_enter Tryz.func74, Tryz.ntmps74
      go_wp2_with (first
        | (go_at_call 47; refine (CN.out _).mono ?_; rintro e w1 ⟨rfl, hk⟩; have HK := Lib.hid hk; clear hk; have hc1 : w1.cell? ⟨w.heap.size, 1, none⟩ = some (.string b) := by (rw [cell_of_row _ _ _ _ _ _ (Keep.out _ HK.out)]; rfl))
        | (go_at_call 49; refine (CV.out _).mono ?_; rintro e w2 ⟨rfl, hk2⟩; have HK2 := Lib.hid (below_kept HK.out hk2); clear hk2))
      go_ret
      exact ⟨rfl, Fin.out _ HK2.out⟩
set_option maxRecDepth 100000 in
theorem reffind_any (A : Option Addr) (c : Nat) (L : List Lab) (hL : L.length ≤ 1000000) (s : ByteArray) (w : World) (hr : RdL w w.heap.size A L) :
    Calls Tryz.prog 77 #[.slice A L.length c, .string s] w fun e w' => e = .returned (.int .i64 (idxFrom s 0 L)) ∧ w = w' := by
  have HR := Lib.hid hr
  obtain ⟨n, hn⟩ : ∃ n, n = L.length := ⟨_, rfl⟩
  have Hn := Lib.hid hn
  rw [← hn] at hL ⊢
  clear hr hn
  go_enter Tryz.func77, Tryz.ntmps77
  go_wp2_with fail
  go_loopw [5] (fun v5 wr => ∃ k : Nat, k ≤ n ∧ v5 = .int .i64 k ∧ wr = w ∧ Hid (idxFrom s 0 L = idxFrom s k (L.drop k))) (fun v5 _ => n - (intOf v5).toNat)
  case atStart => exact ⟨0, by omega, rfl, rfl, rfl⟩
  case round =>
    obtain ⟨k, hk, rfl, hw, hf⟩ := hrel
    obtain rfl : w = wr := hw.symm
    by_cases hkn : k < n
    · obtain ⟨ad, ⟨xa, xb⟩, rfl, hadb, hx, hd, hc0, hc1⟩ := rdl_at HR.out (by rw [← Hn.out]; exact hkn)
      have Hst : Hid (idxFrom s k (L.drop k) = if xa = s then (k : Int) else idxFrom s (k + 1) (L.drop (k + 1))) := by show _ = _; rw [hd]; rfl
      dsimp only at hc0
      clear hc1 hx hd hadb hw
      by_cases hxs : xa = s
      · rw [if_pos hxs] at Hst
        have he : (xa.toList == s.toList) = true := by simp [hxs]
        clear hxs
        go_wp2_with fail
        go_ret
        exact ⟨by rw [hf.out, Hst.out]; rfl, rfl⟩
      · rw [if_neg hxs] at Hst
        have he : (xa.toList == s.toList) = false := str_ne (fun e => hxs (bys_eq e))
        clear hxs
        go_wp2_with fail
        go_roundw
        case rel => exact ⟨k + 1, by omega, by go_num, trivial, by show _ = _; rw [hf.out, Hst.out]⟩
        case measure => simp [intOf]; omega
    · obtain rfl : k = n := by omega
      go_wp2_with fail
      go_ret
      refine ⟨?_, rfl⟩
      rw [hf.out, List.drop_of_length_le (by rw [← Hn.out]; exact Nat.le_refl _)]
      rfl
theorem leS_ltB (a b : ByteArray) : leS a b = !ltB b a := by
  rw [Bool.eq_iff_iff, leS_is]
  unfold ltB
  simp only [Bool.not_eq_true', decide_eq_false_iff_not]
  constructor
  · rintro (h | rfl) h2
    · exact str_lt_irrefl _ (str_lt_trans h h2)
    · exact str_lt_irrefl _ h2
  · intro h
    rcases str_tri a.data.toList b.data.toList with h2 | h2 | h2
    · exact .inl h2
    · exact .inr (data_inj h2)
    · exact absurd h2 h
set_option maxRecDepth 100000 in
set_option maxHeartbeats 4000000 in
theorem refcheckL_any (A : Option Addr) (c : Nat) (L : List Lab) (hL : L.length ≤ 1000000) (hsh : ∀ x ∈ L, shortL x) (w : World) (hr : RdL w w.heap.size A L) :
    Calls Tryz.prog 45 #[.slice A L.length c] w fun e w' => e = .returned (.tuple #[.int .i64 (chk L).1, .int .i64 (chk L).2]) ∧ Kept w w' := by
  have HR := Lib.hid hr
  have HS := Lib.hid hsh
  unfold chk
  obtain ⟨n, hn⟩ : ∃ n, n = L.length := ⟨_, rfl⟩
  have Hn := Lib.hid hn
  rw [← hn] at hL ⊢
  clear hr hn hsh
  by_cases h64 : 64 < n
  · have h64' : (64 : Int) < (n : Int) := by omega
    rw [if_pos h64]
    go_enter Tryz.func45, Tryz.ntmps45
    go_wp2_with fail
    go_ret2
    exact ⟨rfl, Below.refl _ _⟩
  · have h64' : ¬ (64 : Int) < (n : Int) := by omega
    rw [if_neg h64]
    go_enter Tryz.func45, Tryz.ntmps45
    go_wp2_with fail
    go_loopw [4] (fun v4 wr => ∃ k : Nat, k ≤ n ∧ v4 = .int .i64 k ∧ Hid (Kept w wr) ∧ Hid (chkFrom 0 none L = chkFrom k (prevOf L k) (L.drop k))) (fun v4 _ => n - (intOf v4).toNat)
    case atStart => exact ⟨0, by omega, rfl, Below.refl _ _, rfl⟩
    case round =>
      obtain ⟨k, hk, rfl, hkr, hf⟩ := hrel
      by_cases hkn : k < n
      · obtain ⟨ad, x, rfl, hadb, hx, hd, hc0, hc1⟩ := rdl_at HR.out (by rw [← Hn.out]; exact hkn)
        have e0 := (Below.cell hkr.out (by rw [addBlock]; exact hadb)).trans hc0
        have e1 := (Below.cell hkr.out (by rw [addBlock]; exact hadb)).trans hc1
        have Hcl := Lib.hid (lab_cells e0 e1)
        have Hfd := Lib.hid (chk_drop hx hd)
        have Hsx := Lib.hid (HS.out x (List.mem_of_getElem? hx))
        have CW := Lib.hid (refwrong_any x Hsx.out)
        have Hcell : Hid (∀ W, Kept wr W → W.cell? (ad.add (k * 2)) = some (.string x.1) ∧ W.cell? ⟨(ad.add (k * 2)).block, (ad.add (k * 2)).off + 1, none⟩ = some (.string x.2)) := fun W h => by
          refine ⟨(Below.cell h (block_lt_of_cell e0)).trans e0, ?_⟩
          rw [show (⟨(ad.add (k * 2)).block, (ad.add (k * 2)).off + 1, none⟩ : Addr) = (ad.add (k * 2)).add 1 from rfl, addr_add_add]
          exact (Below.cell h (block_lt_of_cell e1)).trans e1
        have Hpv : Hid (k ≠ 0 → ∃ y, prevOf L k = some y ∧ y.size ≤ 1100 ∧ ∀ W, Kept wr W → W.cell? ((ad.add ((k - 1) * 2))) = some (.string y)) := fun h0 => by
          obtain ⟨ad', y, ha, hb', hy, _, hy0, _⟩ := rdl_at HR.out (k := k - 1) (by rw [← Hn.out]; omega)
          cases ha
          refine ⟨y.1, by unfold prevOf; rw [if_neg h0, hy]; rfl, (HS.out y (List.mem_of_getElem? hy)).1, fun W h => ?_⟩
          exact (Below.cell (Below.trans hkr.out (Below.mono h (Below.size hkr.out))) (by rw [addBlock]; exact hb')).trans hy0
        clear hc0 hc1 hx hd e0 e1
        go_upto_region 7 with (first | (refine wpList_load_at rfl 33 (.tmp 17) rfl (ad.add (k * 2)) rfl #[.string x.1, .string x.2] _ Hcl.out Tryz.underlying33 rfl sizeL ?_) | (go_at_call 74; refine (CW.out _).mono ?_; rintro e w2 ⟨rfl, hk2⟩; have HK2 := Lib.hid hk2; clear hk2))
        obtain ⟨xa, xb⟩ := x
        dsimp only at Hcell Hsx
        generalize hEE : wrE (xa, xb) = ee at *
        have HEE := Lib.hid hEE
        have Hord : Hid (ordE (prevOf L k) (xa, xb) = if ee = 0 then (if xb = ⟨#[]⟩ ∨ (∃ y, prevOf L k = some y ∧ leS xa y = true) then 42 else 0) else ee) := by show _ = _; rw [← HEE.out]; rfl
        clear hEE CW Hcl HEE
        have HKk := Lib.hid (below_kept hkr.out HK2.out)
        have hcc := Hcell.out _ HK2.out
        obtain ⟨n0, n1⟩ := hcc
        have hsx : xa.size ≤ 1000000 := by have := Hsx.out.1; dsimp only at this; omega
        by_cases hee : ee = 0
        · subst hee
          rw [if_pos rfl] at Hord
          obtain ⟨vb, hvb⟩ : ∃ vb, vb = decide (ordE (prevOf L k) (xa, xb) = 42) := ⟨_, rfl⟩
          have Hvb := Lib.hid hvb
          have Hvb2 : Hid (ordE (prevOf L k) (xa, xb) = if vb = true then 42 else 0) := by
            show _ = _
            rw [hvb, Hord.out]
            split <;> simp
          clear hvb
          have hb2 := Below.refl w2.heap.size w2
          go_upto_region 9 with fail
          go_cut [48] (fun v48 wx => v48 = .bool vb ∧ Hid (Kept w2 wx))
          case first =>
            by_cases hxb : xb = ⟨#[]⟩
            · have hbb : xb.toList.isEmpty = true := empty_yes hxb
              have hv : vb = true := by rw [Hvb.out, Hord.out, if_pos (.inl hxb)]; rfl
              subst hv
              clear hxb
              go_quiet (fail)
              go_wp2_with fail
              go_meet
              exact ⟨rfl, below_drewN hb2 _⟩
            · have hbb : xb.toList.isEmpty = false := empty_no hxb
              by_cases hk0 : k = 0
              · have hv : vb = false := by
                  rw [Hvb.out, Hord.out, if_neg (by rintro (h | ⟨y, h, _⟩); exact hxb h; simp [prevOf, hk0] at h)]
                  rfl
                have hk1 : decide ((0 : Int) < (k : Int)) = false := decide_eq_false (by omega)
                have hk2 : decide (0 < k) = false := decide_eq_false (by omega)
                have hk3 : ¬ 0 < k := by omega
                subst hv
                clear hxb hk0
                go_quiet (fail)
                go_wp2_with fail
                go_meet
                exact ⟨rfl, below_drewN hb2 _⟩
              · obtain ⟨y, hpy, hys, hcy⟩ := Hpv.out hk0
                replace hcy := hcy _ HK2.out
                have hv : vb = !ltB y xa := by
                  rw [Hvb.out, Hord.out, hpy, ← leS_ltB]
                  rcases hl : leS xa y with _ | _
                  · rw [if_neg (by rintro (h | ⟨z, h, h2⟩); exact hxb h; cases h; rw [hl] at h2; cases h2)]
                    rfl
                  · rw [if_pos (.inr ⟨y, rfl, hl⟩)]
                    rfl
                have CL := Lib.hid (less_any y xa (by omega) hsx)
                obtain ⟨j, hj⟩ : ∃ j, j = k - 1 := ⟨_, rfl⟩
                rw [← hj] at hcy
                have hjw : IntKind.i64.wrap ((k : Int) - 1) = (j : Int) := by rw [IntWalk.i64_in _ (by omega)]; omega
                have hjn : (j : Int) < (n : Int) := by omega
                have hk1 : decide ((0 : Int) < (k : Int)) = true := decide_eq_true (by omega)
                have hk2 : decide (0 < k) = true := decide_eq_true (by omega)
                have hk3 : 0 < k := by omega
                generalize ltB y xa = lt at *
                subst hv
                clear hxb hpy hj hk0
                go_quiet ((go_at_call 84; exact Calls.quiet_of (CL.out _)))
                go_wp2_with fail
                go_meet
                exact ⟨rfl, below_drewN hb2 _⟩
          case rest =>
          obtain ⟨rfl, hk3⟩ := hcut
          have HK3 : Hid (Kept w wc) := below_kept HKk.out hk3.out
          rcases hvb : vb with _ | _
          · rw [hvb] at Hvb2
            simp only [Bool.false_eq_true, ↓reduceIte] at Hvb2
            clear Hvb Hord n0 n1
            go_wp2_with fail
            go_roundw
            case rel => exact ⟨k + 1, by omega, by go_num, HK3, by show _ = _; rw [hf.out, Hfd.out, if_pos Hvb2.out]⟩
            case measure => simp [intOf]; omega
          · rw [hvb] at Hvb2
            simp only [↓reduceIte] at Hvb2
            clear Hvb Hord n0 n1
            go_wp2_with fail
            go_ret2
            exact ⟨by rw [hf.out, Hfd.out, if_neg (by rw [Hvb2.out]; decide), Hvb2.out]; rfl, HK3.out⟩
        · rw [if_neg hee] at Hord
          have hbe : (ee != 0) = true := bne_iff_ne.2 hee
          clear n0 n1
          have Hne := Lib.hid hee
          clear hee
          go_wp2_with fail
          go_ret2
          exact ⟨by rw [hf.out, Hfd.out, if_neg (by rw [Hord.out]; exact Hne.out), Hord.out]; rfl, HKk.out⟩
      · obtain rfl : k = n := by omega
        go_wp2_with fail
        go_ret2
        refine ⟨?_, hkr.out⟩
        rw [hf.out, List.drop_of_length_le (by rw [← Hn.out]; exact Nat.le_refl _)]
        rfl
theorem refright_any (A : Option Addr) (c : Nat) (L : List Lab) (hL : L.length ≤ 1000000) (hsh : ∀ x ∈ L, shortL x) (w : World) (hr : RdL w w.heap.size A L) :
    Calls Tryz.prog 73 #[.slice A L.length c] w fun e w' => e = .returned (.bool (rgtB L)) ∧ Kept w w' := by
  have C := Lib.hid (refcheckL_any A c L hL hsh w hr)
  unfold rgtB
  generalize chk L = p at *
  obtain ⟨i, x⟩ := p
  clear hr hsh
  go_enter Tryz.func73, Tryz.ntmps73
  go_wp2_with (go_at_call 45; refine C.out.mono ?_; rintro e w1 ⟨rfl, hk⟩; have HK := Lib.hid hk; clear hk)
  go_ret
  exact ⟨rfl, HK.out⟩
set_option maxRecDepth 100000 in
theorem refget_any (A : Option Addr) (c : Nat) (L : List Lab) (hL : L.length ≤ 1000000) (s : ByteArray) (w : World) (hr : RdL w w.heap.size A L) :
    Calls Tryz.prog 51 #[.slice A L.length c, .string s] w fun e w' => e = .returned (.string (getL s L)) ∧ Kept w w' := by
  have C := Lib.hid (reffind_any A c L hL s w hr)
  rcases idx_get s 0 L with ⟨h1, h2, _⟩ | ⟨j, x, h1, h2, h3, h4, _⟩
  · rw [h1] at C
    rw [h2]
    clear h1 h2 hr
    go_enter Tryz.func51, Tryz.ntmps51
    go_wp2_with (go_at_call 77; refine C.out.mono ?_; rintro e w1 ⟨rfl, rfl⟩)
    go_ret
    exact ⟨rfl, Below.refl _ _⟩
  · rw [Nat.zero_add] at h2
    rw [h2] at C
    rw [h4]
    obtain ⟨ad, y, rfl, hadb, hy, _, _, hc1⟩ := rdl_at hr h1
    rw [h3] at hy
    cases hy
    have hc : w.cell? ⟨(ad.add (j * 2)).block, (ad.add (j * 2)).off + 1, none⟩ = some (.string x.2) := by rw [show (⟨(ad.add (j * 2)).block, (ad.add (j * 2)).off + 1, none⟩ : Addr) = (ad.add (j * 2)).add 1 from rfl, addr_add_add]; exact hc1
    obtain ⟨n, hn⟩ : ∃ n, n = L.length := ⟨_, rfl⟩
    rw [← hn] at h1 hL C ⊢
    clear h2 h3 h4 hr hc1 hadb hn
    go_enter Tryz.func51, Tryz.ntmps51
    go_wp2_with (go_at_call 77; refine C.out.mono ?_; rintro e w1 ⟨rfl, rfl⟩)
    go_ret
    exact ⟨rfl, Below.refl _ _⟩
end Go.Proofs.YtlhekeokognhmaaGreatDoor
