/-
  Package slices: Equal, of ranges.
-/
import Derived.Test.YtmgkdmbifecekaaGreatDoorMlbf
import Derived.Test.YtmgkdmbifecekaaGreatDoorMlal
set_option linter.all false
set_option linter.unusedSimpArgs false
set_option linter.unusedVariables false
set_option linter.unusedSectionVars false
namespace Go.Proofs.YtmgkdmbifecekaaGreatDoor
open Go.RowKit Go.Shelf
section
variable (A B : Option Addr) (c d : Nat) (L M : List Rng) (hL : L.length ≤ 1000) (hM : M.length ≤ 1000) (w : World) (hA : RdR w w.heap.size A L) (hB : RdR w w.heap.size B M)
include hL hM hA hB
set_option maxRecDepth 100000 in
set_option maxHeartbeats 4000000 in
theorem requal_any : Calls Tryz.prog 73 #[.slice A L.length c, .slice B M.length d] w fun e w' => e = .returned (.bool (decide (L = M))) ∧ Kept w w' := by
  have HA := Lib.hid hA
  have HB := Lib.hid hB
  by_cases hlm : L.length = M.length
  case neg =>
    have hne : ((L.length : Int) != (M.length : Int)) = true := by rw [bne_iff_ne]; omega
    have hd : decide (L = M) = false := decide_eq_false (fun e => hlm (by rw [e]))
    have HD := Lib.hid hd
    obtain ⟨n, hn⟩ : ∃ n, n = L.length := ⟨_, rfl⟩
    obtain ⟨m, hm⟩ : ∃ m, m = M.length := ⟨_, rfl⟩
    rw [← hn, ← hm] at hne ⊢
    clear hA hB hd hlm hn hm
    go_enter Tryz.func73, Tryz.ntmps73
    go_wp2_with fail
    go_ret
    exact ⟨by rw [HD.out]; rfl, Below.refl _ _⟩
  case pos =>
    obtain ⟨n, hn⟩ : ∃ n, n = L.length := ⟨_, rfl⟩
    have Hn := Lib.hid hn
    have Hm : Hid (n = M.length) := by show _ = _; rw [hn, hlm]
    rw [show M.length = n from Hm.out.symm, show L.length = n from hn.symm]
    rw [← hn] at hL
    clear hA hB hn hM hlm
    go_enter Tryz.func73, Tryz.ntmps73
    go_wp2_with fail
    go_loopw [5, 13] (fun _ v13 wr => ∃ k : Nat, k ≤ n ∧ v13 = .int .i64 k ∧ Hid (Kept w wr) ∧ Hid (L.take k = M.take k)) (fun _ v13 _ => n - (intOf v13).toNat)
    case atStart => exact ⟨0, Nat.zero_le _, rfl, Below.refl _ _, rfl⟩
    case round =>
      obtain ⟨k, hk, rfl, HK, HT⟩ := hrel
      by_cases hkn : k < n
      · obtain ⟨ad, x, rfl, hadb, hx, hd, hc0, hc1⟩ := rdr_at HA.out (by rw [← Hn.out]; exact hkn)
        obtain ⟨ae, y, rfl, haeb, hy, hdy, hd0, hd1⟩ := rdr_at HB.out (by rw [← Hm.out]; exact hkn)
        have hkd : Kept w wr.drew := below_drew0 HK.out
        have Hcl := Lib.hid (rng_cells ((Below.cell hkd (by rw [addBlock]; exact hadb)).trans hc0) ((Below.cell hkd (by rw [addBlock]; exact hadb)).trans hc1))
        have Hce := Lib.hid (rng_cells ((Below.cell hkd (by rw [addBlock]; exact haeb)).trans hd0) ((Below.cell hkd (by rw [addBlock]; exact haeb)).trans hd1))
        have HKd := Lib.hid hkd
        have Hx := Lib.hid hx
        have Hy := Lib.hid hy
        clear hc0 hc1 hd0 hd1 hx hd hy hdy hkd
        have hkni : (k : Int) < (n : Int) := by omega
        have hxe : Hid (decide (L = M) = false ∨ x = y) := by
          by_cases hxy : x = y
          · exact Lib.hid (.inr hxy)
          · refine Lib.hid (.inl (decide_eq_false (fun e => hxy ?_)))
            have := Hx.out
            rw [e, Hy.out] at this
            exact (Option.some.inj this).symm
        rcases hxe.out with hdf | rfl
        · have HDF := Lib.hid hdf
          by_cases hxy : x = y
          · subst hxy
            clear hdf hxe
            go_upto_region 6 with fail
            refine wp_region_held_drew (S := fun W => W = wr.drew) (by kernel_rfl) rfl (fun hHeld => ?_)
            obtain ⟨wd, hwd⟩ : ∃ x, x = wr.drew := ⟨_, rfl⟩
            rw [← hwd] at hHeld HKd Hcl Hce ⊢
            clear hwd
            refine tkC 0 (oi := ⟨some 16, _, _, _, _, _⟩) (v := ?_) rfl (by kernel_rfl) (fun _ _ _ h => h) (by rfl) ?_ hHeld ?_
            rotate_left
            · (intro w hSw; obtain hx := hSw; refine .inl ?_; go_simp; (try with_reducible rfl))
            try simp only [pU1, pU2, pU3, pU4]
            refine tkC 1 (oi := ⟨some 17, _, _, _, _, _⟩) (v := ?_) rfl (by kernel_rfl) (fun _ _ _ h => h) (by rfl) ?_ hHeld ?_
            rotate_left
            · (intro w hSw; obtain hx := hSw; refine .inl ?_; go_simp; (try with_reducible rfl))
            try simp only [pU1, pU2, pU3, pU4]
            refine tkC 2 (oi := ⟨some 18, _, _, _, _, _⟩) (v := ?_) rfl (by kernel_rfl) (fun _ _ _ h => h) (by rfl) ?_ hHeld ?_
            rotate_left
            · (intro w hSw; obtain hx := hSw; refine .inl ?_; go_simp; (try with_reducible rfl))
            try simp only [pU1, pU2, pU3, pU4]
            refine wpAnyH_takeC (i := 3) (oi := ⟨some 19, _, _, _, _, _⟩) rfl (by kernel_rfl) (by kernel_rfl) (by kernel_rfl) (fun _ _ _ h => h) (yieldsC_row rfl 73 _ rfl (ad.add (k * 2)) rfl #[.int .i64 x.1, .int .i64 x.2] _ (fun w hw => by rw [hw]; exact Hcl.out) Tryz.underlying73 rfl sizeR) hHeld ?_
            try simp only [pU1, pU2, pU3, pU4]
            refine tkC 4 (oi := ⟨some 20, _, _, _, _, _⟩) (v := ?_) rfl (by kernel_rfl) (fun _ _ _ h => h) (by rfl) ?_ hHeld ?_
            rotate_left
            · (intro w hSw; obtain hx := hSw; refine .inl ?_; go_simp; (try with_reducible rfl))
            try simp only [pU1, pU2, pU3, pU4]
            refine tkC 5 (oi := ⟨some 21, _, _, _, _, _⟩) (v := ?_) rfl (by kernel_rfl) (fun _ _ _ h => h) (by rfl) ?_ hHeld ?_
            rotate_left
            · (intro w hSw; obtain hx := hSw; refine .inl ?_; go_simp; (try with_reducible rfl))
            try simp only [pU1, pU2, pU3, pU4]
            refine tkC 6 (oi := ⟨some 22, _, _, _, _, _⟩) (v := ?_) rfl (by kernel_rfl) (fun _ _ _ h => h) (by rfl) ?_ hHeld ?_
            rotate_left
            · (intro w hSw; obtain hx := hSw; refine .inl ?_; go_simp; (try with_reducible rfl))
            try simp only [pU1, pU2, pU3, pU4]
            refine wpAnyH_takeC (i := 7) (oi := ⟨some 23, _, _, _, _, _⟩) rfl (by kernel_rfl) (by kernel_rfl) (by kernel_rfl) (fun _ _ _ h => h) (yieldsC_row rfl 73 _ rfl (ae.add (k * 2)) rfl #[.int .i64 x.1, .int .i64 x.2] _ (fun w hw => by rw [hw]; exact Hce.out) Tryz.underlying73 rfl sizeR) hHeld ?_
            try simp only [pU1, pU2, pU3, pU4]
            refine tkC 8 (oi := ⟨some 24, _, _, _, _, _⟩) (v := ?_) rfl (by kernel_rfl) (fun _ _ _ h => h) (by rfl) ?_ hHeld ?_
            rotate_left
            · (intro w hSw; obtain hx := hSw; refine .inl ?_; go_simp; (try with_reducible rfl))
            try simp only [pU1, pU2, pU3, pU4]
            refine wpAnyH_done (by kernel_rfl) ?_ _
            go_wp2_with fail
            go_roundw
            case rel => exact ⟨k + 1, by omega, by go_num, HKd, by show _ = _; rw [List.take_add_one, List.take_add_one, HT.out, Hx.out, Hy.out]⟩
            case measure => simp [intOf]; omega

          · by_cases h1 : x.1 = y.1
            · have h2 : ¬ x.2 = y.2 := fun e => hxy (Prod.ext h1 e)
              clear hxy hdf hxe
              go_upto_region 6 with fail
              refine wp_region_held_drew (S := fun W => W = wr.drew) (by kernel_rfl) rfl (fun hHeld => ?_)
              obtain ⟨wd, hwd⟩ : ∃ x, x = wr.drew := ⟨_, rfl⟩
              rw [← hwd] at hHeld HKd Hcl Hce ⊢
              clear hwd
              refine tkC 0 (oi := ⟨some 16, _, _, _, _, _⟩) (v := ?_) rfl (by kernel_rfl) (fun _ _ _ h => h) (by rfl) ?_ hHeld ?_
              rotate_left
              · (intro w hSw; obtain hx := hSw; refine .inl ?_; go_simp; (try with_reducible rfl))
              try simp only [pU1, pU2, pU3, pU4]
              refine tkC 1 (oi := ⟨some 17, _, _, _, _, _⟩) (v := ?_) rfl (by kernel_rfl) (fun _ _ _ h => h) (by rfl) ?_ hHeld ?_
              rotate_left
              · (intro w hSw; obtain hx := hSw; refine .inl ?_; go_simp; (try with_reducible rfl))
              try simp only [pU1, pU2, pU3, pU4]
              refine tkC 2 (oi := ⟨some 18, _, _, _, _, _⟩) (v := ?_) rfl (by kernel_rfl) (fun _ _ _ h => h) (by rfl) ?_ hHeld ?_
              rotate_left
              · (intro w hSw; obtain hx := hSw; refine .inl ?_; go_simp; (try with_reducible rfl))
              try simp only [pU1, pU2, pU3, pU4]
              refine wpAnyH_takeC (i := 3) (oi := ⟨some 19, _, _, _, _, _⟩) rfl (by kernel_rfl) (by kernel_rfl) (by kernel_rfl) (fun _ _ _ h => h) (yieldsC_row rfl 73 _ rfl (ad.add (k * 2)) rfl #[.int .i64 x.1, .int .i64 x.2] _ (fun w hw => by rw [hw]; exact Hcl.out) Tryz.underlying73 rfl sizeR) hHeld ?_
              try simp only [pU1, pU2, pU3, pU4]
              refine tkC 4 (oi := ⟨some 20, _, _, _, _, _⟩) (v := ?_) rfl (by kernel_rfl) (fun _ _ _ h => h) (by rfl) ?_ hHeld ?_
              rotate_left
              · (intro w hSw; obtain hx := hSw; refine .inl ?_; go_simp; (try with_reducible rfl))
              try simp only [pU1, pU2, pU3, pU4]
              refine tkC 5 (oi := ⟨some 21, _, _, _, _, _⟩) (v := ?_) rfl (by kernel_rfl) (fun _ _ _ h => h) (by rfl) ?_ hHeld ?_
              rotate_left
              · (intro w hSw; obtain hx := hSw; refine .inl ?_; go_simp; (try with_reducible rfl))
              try simp only [pU1, pU2, pU3, pU4]
              refine tkC 6 (oi := ⟨some 22, _, _, _, _, _⟩) (v := ?_) rfl (by kernel_rfl) (fun _ _ _ h => h) (by rfl) ?_ hHeld ?_
              rotate_left
              · (intro w hSw; obtain hx := hSw; refine .inl ?_; go_simp; (try with_reducible rfl))
              try simp only [pU1, pU2, pU3, pU4]
              refine wpAnyH_takeC (i := 7) (oi := ⟨some 23, _, _, _, _, _⟩) rfl (by kernel_rfl) (by kernel_rfl) (by kernel_rfl) (fun _ _ _ h => h) (yieldsC_row rfl 73 _ rfl (ae.add (k * 2)) rfl #[.int .i64 y.1, .int .i64 y.2] _ (fun w hw => by rw [hw]; exact Hce.out) Tryz.underlying73 rfl sizeR) hHeld ?_
              try simp only [pU1, pU2, pU3, pU4]
              refine tkC 8 (oi := ⟨some 24, _, _, _, _, _⟩) (v := ?_) rfl (by kernel_rfl) (fun _ _ _ h => h) (by rfl) ?_ hHeld ?_
              rotate_left
              · (intro w hSw; obtain hx := hSw; refine .inl ?_; go_simp; (try with_reducible rfl))
              try simp only [pU1, pU2, pU3, pU4]
              refine wpAnyH_done (by kernel_rfl) ?_ _
              go_wp2_with fail
              go_ret
              exact ⟨by rw [HDF.out]; rfl, HKd.out⟩

            · clear hxy hdf hxe
              go_upto_region 6 with fail
              refine wp_region_held_drew (S := fun W => W = wr.drew) (by kernel_rfl) rfl (fun hHeld => ?_)
              obtain ⟨wd, hwd⟩ : ∃ x, x = wr.drew := ⟨_, rfl⟩
              rw [← hwd] at hHeld HKd Hcl Hce ⊢
              clear hwd
              refine tkC 0 (oi := ⟨some 16, _, _, _, _, _⟩) (v := ?_) rfl (by kernel_rfl) (fun _ _ _ h => h) (by rfl) ?_ hHeld ?_
              rotate_left
              · (intro w hSw; obtain hx := hSw; refine .inl ?_; go_simp; (try with_reducible rfl))
              try simp only [pU1, pU2, pU3, pU4]
              refine tkC 1 (oi := ⟨some 17, _, _, _, _, _⟩) (v := ?_) rfl (by kernel_rfl) (fun _ _ _ h => h) (by rfl) ?_ hHeld ?_
              rotate_left
              · (intro w hSw; obtain hx := hSw; refine .inl ?_; go_simp; (try with_reducible rfl))
              try simp only [pU1, pU2, pU3, pU4]
              refine tkC 2 (oi := ⟨some 18, _, _, _, _, _⟩) (v := ?_) rfl (by kernel_rfl) (fun _ _ _ h => h) (by rfl) ?_ hHeld ?_
              rotate_left
              · (intro w hSw; obtain hx := hSw; refine .inl ?_; go_simp; (try with_reducible rfl))
              try simp only [pU1, pU2, pU3, pU4]
              refine wpAnyH_takeC (i := 3) (oi := ⟨some 19, _, _, _, _, _⟩) rfl (by kernel_rfl) (by kernel_rfl) (by kernel_rfl) (fun _ _ _ h => h) (yieldsC_row rfl 73 _ rfl (ad.add (k * 2)) rfl #[.int .i64 x.1, .int .i64 x.2] _ (fun w hw => by rw [hw]; exact Hcl.out) Tryz.underlying73 rfl sizeR) hHeld ?_
              try simp only [pU1, pU2, pU3, pU4]
              refine tkC 4 (oi := ⟨some 20, _, _, _, _, _⟩) (v := ?_) rfl (by kernel_rfl) (fun _ _ _ h => h) (by rfl) ?_ hHeld ?_
              rotate_left
              · (intro w hSw; obtain hx := hSw; refine .inl ?_; go_simp; (try with_reducible rfl))
              try simp only [pU1, pU2, pU3, pU4]
              refine tkC 5 (oi := ⟨some 21, _, _, _, _, _⟩) (v := ?_) rfl (by kernel_rfl) (fun _ _ _ h => h) (by rfl) ?_ hHeld ?_
              rotate_left
              · (intro w hSw; obtain hx := hSw; refine .inl ?_; go_simp; (try with_reducible rfl))
              try simp only [pU1, pU2, pU3, pU4]
              refine tkC 6 (oi := ⟨some 22, _, _, _, _, _⟩) (v := ?_) rfl (by kernel_rfl) (fun _ _ _ h => h) (by rfl) ?_ hHeld ?_
              rotate_left
              · (intro w hSw; obtain hx := hSw; refine .inl ?_; go_simp; (try with_reducible rfl))
              try simp only [pU1, pU2, pU3, pU4]
              refine wpAnyH_takeC (i := 7) (oi := ⟨some 23, _, _, _, _, _⟩) rfl (by kernel_rfl) (by kernel_rfl) (by kernel_rfl) (fun _ _ _ h => h) (yieldsC_row rfl 73 _ rfl (ae.add (k * 2)) rfl #[.int .i64 y.1, .int .i64 y.2] _ (fun w hw => by rw [hw]; exact Hce.out) Tryz.underlying73 rfl sizeR) hHeld ?_
              try simp only [pU1, pU2, pU3, pU4]
              refine tkC 8 (oi := ⟨some 24, _, _, _, _, _⟩) (v := ?_) rfl (by kernel_rfl) (fun _ _ _ h => h) (by rfl) ?_ hHeld ?_
              rotate_left
              · (intro w hSw; obtain hx := hSw; refine .inl ?_; go_simp; (try with_reducible rfl))
              try simp only [pU1, pU2, pU3, pU4]
              refine wpAnyH_done (by kernel_rfl) ?_ _
              go_wp2_with fail
              go_ret
              exact ⟨by rw [HDF.out]; rfl, HKd.out⟩

        · clear hxe
          go_upto_region 6 with fail
          refine wp_region_held_drew (S := fun W => W = wr.drew) (by kernel_rfl) rfl (fun hHeld => ?_)
          obtain ⟨wd, hwd⟩ : ∃ x, x = wr.drew := ⟨_, rfl⟩
          rw [← hwd] at hHeld HKd Hcl Hce ⊢
          clear hwd
          refine tkC 0 (oi := ⟨some 16, _, _, _, _, _⟩) (v := ?_) rfl (by kernel_rfl) (fun _ _ _ h => h) (by rfl) ?_ hHeld ?_
          rotate_left
          · (intro w hSw; obtain hx := hSw; refine .inl ?_; go_simp; (try with_reducible rfl))
          try simp only [pU1, pU2, pU3, pU4]
          refine tkC 1 (oi := ⟨some 17, _, _, _, _, _⟩) (v := ?_) rfl (by kernel_rfl) (fun _ _ _ h => h) (by rfl) ?_ hHeld ?_
          rotate_left
          · (intro w hSw; obtain hx := hSw; refine .inl ?_; go_simp; (try with_reducible rfl))
          try simp only [pU1, pU2, pU3, pU4]
          refine tkC 2 (oi := ⟨some 18, _, _, _, _, _⟩) (v := ?_) rfl (by kernel_rfl) (fun _ _ _ h => h) (by rfl) ?_ hHeld ?_
          rotate_left
          · (intro w hSw; obtain hx := hSw; refine .inl ?_; go_simp; (try with_reducible rfl))
          try simp only [pU1, pU2, pU3, pU4]
          refine wpAnyH_takeC (i := 3) (oi := ⟨some 19, _, _, _, _, _⟩) rfl (by kernel_rfl) (by kernel_rfl) (by kernel_rfl) (fun _ _ _ h => h) (yieldsC_row rfl 73 _ rfl (ad.add (k * 2)) rfl #[.int .i64 x.1, .int .i64 x.2] _ (fun w hw => by rw [hw]; exact Hcl.out) Tryz.underlying73 rfl sizeR) hHeld ?_
          try simp only [pU1, pU2, pU3, pU4]
          refine tkC 4 (oi := ⟨some 20, _, _, _, _, _⟩) (v := ?_) rfl (by kernel_rfl) (fun _ _ _ h => h) (by rfl) ?_ hHeld ?_
          rotate_left
          · (intro w hSw; obtain hx := hSw; refine .inl ?_; go_simp; (try with_reducible rfl))
          try simp only [pU1, pU2, pU3, pU4]
          refine tkC 5 (oi := ⟨some 21, _, _, _, _, _⟩) (v := ?_) rfl (by kernel_rfl) (fun _ _ _ h => h) (by rfl) ?_ hHeld ?_
          rotate_left
          · (intro w hSw; obtain hx := hSw; refine .inl ?_; go_simp; (try with_reducible rfl))
          try simp only [pU1, pU2, pU3, pU4]
          refine tkC 6 (oi := ⟨some 22, _, _, _, _, _⟩) (v := ?_) rfl (by kernel_rfl) (fun _ _ _ h => h) (by rfl) ?_ hHeld ?_
          rotate_left
          · (intro w hSw; obtain hx := hSw; refine .inl ?_; go_simp; (try with_reducible rfl))
          try simp only [pU1, pU2, pU3, pU4]
          refine wpAnyH_takeC (i := 7) (oi := ⟨some 23, _, _, _, _, _⟩) rfl (by kernel_rfl) (by kernel_rfl) (by kernel_rfl) (fun _ _ _ h => h) (yieldsC_row rfl 73 _ rfl (ae.add (k * 2)) rfl #[.int .i64 x.1, .int .i64 x.2] _ (fun w hw => by rw [hw]; exact Hce.out) Tryz.underlying73 rfl sizeR) hHeld ?_
          try simp only [pU1, pU2, pU3, pU4]
          refine tkC 8 (oi := ⟨some 24, _, _, _, _, _⟩) (v := ?_) rfl (by kernel_rfl) (fun _ _ _ h => h) (by rfl) ?_ hHeld ?_
          rotate_left
          · (intro w hSw; obtain hx := hSw; refine .inl ?_; go_simp; (try with_reducible rfl))
          try simp only [pU1, pU2, pU3, pU4]
          refine wpAnyH_done (by kernel_rfl) ?_ _
          go_wp2_with fail
          go_roundw
          case rel => exact ⟨k + 1, by omega, by go_num, HKd, by show _ = _; rw [List.take_add_one, List.take_add_one, HT.out, Hx.out, Hy.out]⟩
          case measure => simp [intOf]; omega

      · obtain rfl : k = n := by omega
        have hLM : decide (L = M) = true := by
          have := HT.out
          rw [List.take_of_length_le (by rw [← Hn.out]; exact Nat.le_refl _), List.take_of_length_le (by rw [← Hm.out]; exact Nat.le_refl _)] at this
          exact decide_eq_true this
        have HLM := Lib.hid hLM
        clear hLM
        go_wp2_with fail
        go_ret
        exact ⟨by rw [HLM.out]; rfl, HK.out⟩
end
end Go.Proofs.YtmgkdmbifecekaaGreatDoor
