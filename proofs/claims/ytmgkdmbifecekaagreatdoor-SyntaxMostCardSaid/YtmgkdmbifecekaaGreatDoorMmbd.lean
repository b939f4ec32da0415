/-
  Package class: the text of a set. Package slices: Equal, of ranges.
-/
import Derived.Test.YtmgkdmbifecekaaGreatDoorMmbc
import Derived.Test.YtmgkdmbifecekaaGreatDoorMmbb
import Derived.Test.YtmgkdmbifecekaaGreatDoorMmaj
set_option linter.all false
set_option linter.unusedSimpArgs false
set_option linter.unusedVariables false
set_option linter.unusedSectionVars false
namespace Go.Proofs.YtmgkdmbifecekaaGreatDoor
open Go.RowKit Go.Shelf
theorem hexT_len : ∀ (k n : Nat), (hexT k n).length ≤ k
  | 0, n => by simp [hexT]
  | k + 1, n => by
    unfold hexT
    split
    · simp
    · have := hexT_len k (n / 16)
      rw [List.length_append]
      simp
      omega
theorem ptS_len (c : Int) : (ptS c).length ≤ 10 := by
  unfold ptS
  split
  · simp
  · have := hexT_len 6 c.toNat
    rw [List.length_append, List.length_append]
    simp
    omega
theorem rgS_len (r : Rng) : (rgS r).length ≤ 21 := by
  have h1 := ptS_len r.1
  have h2 := ptS_len r.2
  unfold rgS
  rw [List.length_append]
  split
  · rw [List.length_append]
    simp
    omega
  · simp
    omega
theorem rgsS_len : ∀ L : List Rng, (rgsS L).length ≤ 21 * L.length
  | [] => by simp [rgsS]
  | r :: L => by
    have h1 := rgS_len r
    have h2 := rgsS_len L
    unfold rgsS at h2 ⊢
    rw [List.flatMap_cons, List.length_append, List.length_cons]
    omega
theorem rgsS_take {L : List Rng} {k : Nat} {x : Rng} (h : L[k]? = some x) : rgsS (L.take (k + 1)) = rgsS (L.take k) ++ rgS x := by
  unfold rgsS
  rw [List.take_add_one, h, Option.toList_some, List.flatMap_append]
  simp
theorem IsWr.kept {T : TypeId} {B b : Nat} {l : Bs} {w w' : World} (h : IsWr T B b l w) (hk : Kept w w') : IsWr T B b l w' := by
  have one : ∀ p, WrAt T B b p l w → WrAt T B b p l w' := by
    intro p hA
    have hlt := hA.lt
    obtain ⟨hB, v, hb, hown, hne⟩ := hA
    exact ⟨hB, v, (hk.block b hlt).trans hb, hown.kept (row := none) ⟨hk.os, hk.tape, hk.output, hk.size, fun k h _ => hk.block k h⟩ (by cases hv : v.ownBlock <;> simp), hne⟩
  rcases h with h | h
  · exact .inl (one _ h)
  · exact .inr (one _ h)
theorem IsWr.lt {T : TypeId} {B b : Nat} {l : Bs} {w : World} (h : IsWr T B b l w) : b < w.heap.size := by
  rcases h with h | h <;> exact h.lt
theorem isWr_new (T : TypeId) (B : Nat) (w : World) (h : B ≤ w.heap.size) : IsWr T B w.heap.size [] (w.alloc (.cells #[.pointer none, .slice none 0 0] T)) :=
  .inl ⟨h, _, heap_alloc_new w _, ⟨rfl, .inl ⟨rfl, rfl⟩⟩, by simp [Value.ownBlock]⟩
/-- A point's text is told. -/
abbrev PtC (c : Int) : Prop := ∀ W, Calls Tryz.prog 115 #[.int .i64 c] W fun e w' => e = .returned (.string (b8 (ptS c))) ∧ Kept W w'
theorem ptC_plain (c : Int) (h : plainP c = true) : PtC c := fun W => (pt_plain c h W).mono fun _ _ h => ⟨h.1, h.2 ▸ Below.refl _ _⟩
section
variable (A : Option Addr) (c : Nat) (L : List Rng) (hL : L.length ≤ 1000) (hne : L ≠ []) (hR : rgtR 0 L = true) (hp : ∀ r ∈ L, PtC r.1 ∧ PtC r.2) (w : World) (hr : RdR w w.heap.size A L)
include hL hne hR hp hr
set_option maxRecDepth 100000 in
set_option maxHeartbeats 4000000 in
theorem ctext_any : Calls Tryz.prog 90 #[.slice A L.length c] w fun e w' => e = .returned (.tuple #[.string (b8 (clsS L)), .int .i64 0]) ∧ Kept w w' := by
  have HR := Lib.hid hr
  have HP := Lib.hid hp
  have hn0 : L.length ≠ 0 := fun e => hne (List.length_eq_zero_iff.1 e)
  have hcl : Hid (clsS L = 91 :: (rgsS L ++ [93])) := by show _ = _; unfold clsS; rw [if_neg hne]; rfl
  have CR := Lib.hid (cright_any A c L (by omega) w hr)
  rw [hR] at CR
  have hrl := rgsS_len L
  obtain ⟨n, hn⟩ : ∃ n, n = L.length := ⟨_, rfl⟩
  have Hn := Lib.hid hn
  rw [← hn] at hL hn0 CR hrl ⊢
  have hni : ((n : Int) == 0) = false := by rw [beq_eq_false_iff_ne]; omega
  have HL := Lib.hid hrl
  clear hr hn hp hR hne hrl
  go_enter Tryz.func90, Tryz.ntmps90
  go_wp2_with (go_at_call 96; refine CR.out.mono ?_; rintro e w1 ⟨rfl, hk1⟩)
  obtain ⟨b, hb⟩ : ∃ b, b = w1.heap.size := ⟨_, rfl⟩
  have hw0 := isWr_new 88 w.heap.size w1 hk1.size
  have hk2 : Kept w (w1.alloc (.cells #[.pointer none, .slice none 0 0] 88)) := below_alloc0 hk1 _
  rw [← hb] at hw0 ⊢
  obtain ⟨w2, hw2⟩ : ∃ x, x = w1.alloc (.cells #[.pointer none, .slice none 0 0] 88) := ⟨_, rfl⟩
  rw [← hw2] at hw0 hk2 ⊢
  refine (wws_any _ bldSb _ _ _ [91] _ hw0 (by simp) hk2.size).mono ?_
  rintro e w3 ⟨rfl, hw3, hb3, ho3⟩
  have HW3 : Hid (IsWr 88 w.heap.size b (91 :: rgsS (L.take 0)) w3) := hw3
  have HK3 := Lib.hid (hk2.trans hb3)
  clear hk1 hk2 hw0 hw2 hw3 hb3 hb CR ho3
  go_wp2_with fail
  go_loopw [16] (fun v16 wr => ∃ k : Nat, k ≤ n ∧ v16 = .int .i64 k ∧ Hid (Below w.heap.size w wr) ∧ Hid (IsWr 88 w.heap.size b (91 :: rgsS (L.take k)) wr)) (fun v16 _ => n - (intOf v16).toNat)
  case atStart => exact ⟨0, Nat.zero_le _, rfl, HK3, HW3⟩
  case round =>
    obtain ⟨k, hk, rfl, HK, HW⟩ := hrel
    by_cases hkn : k < n
    · obtain ⟨ad, x, rfl, hadb, hx, hd, hc0, hc1⟩ := rdr_at HR.out (by rw [← Hn.out]; exact hkn)
      have e0 := (Below.cell HK.out (by rw [addBlock]; exact hadb)).trans hc0
      have e1 := (Below.cell HK.out (by rw [addBlock]; exact hadb)).trans hc1
      have Hcl := Lib.hid (rng_cells e0 e1)
      obtain ⟨hp1, hp2⟩ := HP.out x (List.mem_of_getElem? hx)
      have HP1 := Lib.hid hp1
      have HP2 := Lib.hid hp2
      have Htk := Lib.hid (rgsS_take hx)
      have hlt := rgsS_len (L.take k)
      rw [List.length_take] at hlt
      have hl1 := ptS_len x.1
      have hl2 := ptS_len x.2
      obtain ⟨q, hq⟩ : ∃ q, q = rgsS (L.take k) := ⟨_, rfl⟩
      rw [← hq] at HW Htk hlt
      have hlq : q.length ≤ 21000 := by omega
      have hkni : (k : Int) < (n : Int) := by omega
      have hbw := HW.out.lt
      obtain ⟨rb, hrb⟩ : ∃ r, r = wr.heap.size := ⟨_, rfl⟩
      have HB0 : Hid ((wr.alloc (.cells #[.int .i64 x.1, .int .i64 x.2] 73)).heap[rb]? = some (.cells #[.int .i64 x.1, .int .i64 x.2] 73 (0, 0))) := by rw [hrb]; exact heap_alloc_new wr _
      have HWa := Lib.hid (HW.out.kept (below_alloc0 (Below.refl _ wr) (.cells #[.int .i64 x.1, .int .i64 x.2] 73)))
      have HKa : Hid (Below w.heap.size w (wr.alloc (.cells #[.int .i64 x.1, .int .i64 x.2] 73))) := HK.out.alloc HK.out.size _
      have hrbb : rb ≠ b := by omega
      clear hc0 hc1 hx hd e0 e1 hp1 hp2 hlt hq HW HK
      go_wp2_with (refine wpList_load_at rfl 73 (.tmp 18) rfl (ad.add (k * 2)) rfl #[.int .i64 x.1, .int .i64 x.2] _ Hcl.out Tryz.underlying73 rfl sizeR ?_)
      refine (HP1.out _).mono ?_
      rintro e w4 ⟨rfl, hk4⟩
      have HB4 := Lib.hid (heap_kept hk4 HB0.out)
      have HW4 := Lib.hid (HWa.out.kept hk4)
      have HK4 := Lib.hid (HKa.out.trans (hk4.mono HKa.out.size))
      rw [← hrb]
      clear hk4 HB0 HWa HKa hrb
      go_wp2_with fail
      refine (wws_any _ bldSb _ _ _ (ptS x.1) _ HW4.out (by simp; omega) HK4.out.size).mono ?_
      rintro e w5 ⟨rfl, hw5, hb5, ho5⟩
      have HB5 := Lib.hid (ho5 rb _ HB4.out (by intro e; exact hrbb (Option.some.inj e)) (by intro c fz e; injection e with _ e2 _; exact absurd e2 (by decide)))
      have HW5 := Lib.hid hw5
      have HK5 := Lib.hid (HK4.out.trans hb5)
      have c0 := row_cells HB5.out 0 _ rfl
      have c1 := row_cells HB5.out 1 _ rfl
      rw [add0] at c0 c1
      clear hw5 hb5 ho5 HB4 HW4 HK4
      by_cases h12 : x.1 < x.2
      · have hrg : Hid (rgS x = ptS x.1 ++ ([45] ++ ptS x.2)) := by show _ = _; unfold rgS; rw [if_pos h12]
        go_wp2_with fail
        refine (wws_any _ bldSb _ _ _ [45] _ HW5.out (by simp; omega) HK5.out.size).mono ?_
        rintro e w6 ⟨rfl, hw6, hb6, ho6⟩
        have HB6 := Lib.hid (ho6 rb _ HB5.out (by intro e; exact hrbb (Option.some.inj e)) (by intro c fz e; injection e with _ e2 _; exact absurd e2 (by decide)))
        have HW6 := Lib.hid hw6
        have HK6 := Lib.hid (HK5.out.trans hb6)
        clear hw6 hb6 ho6 HB5 HW5 HK5 c0 c1
        have c1 := row_cells HB6.out 1 _ rfl
        rw [add0] at c1
        go_wp2_with fail
        refine (HP2.out _).mono ?_
        rintro e w7 ⟨rfl, hk7⟩
        have HW7 := Lib.hid (HW6.out.kept hk7)
        have HK7 := Lib.hid (HK6.out.trans (hk7.mono HK6.out.size))
        clear hk7 c1 HB6 HW6 HK6
        go_wp2_with fail
        refine (wws_any _ bldSb _ _ _ (ptS x.2) _ HW7.out (by simp; omega) HK7.out.size).mono ?_
        rintro e w8 ⟨rfl, hw8, hb8, ho8⟩
        have HW8 := Lib.hid hw8
        have HK8 := Lib.hid (HK7.out.trans hb8)
        clear hw8 hb8 ho8 HW7 HK7
        go_wp2_with fail
        go_roundw
        case rel =>
          refine ⟨k + 1, by omega, by go_num, HK8, ?_⟩
          rw [Htk.out, hrg.out]
          have := HW8.out
          simp only [List.cons_append, List.append_assoc, List.singleton_append, List.nil_append] at this ⊢
          exact Lib.hid this
        case measure => simp [intOf]; omega
      · have hrg : Hid (rgS x = ptS x.1) := by show _ = _; unfold rgS; rw [if_neg h12, List.append_nil]
        go_wp2_with fail
        go_roundw
        case rel =>
          refine ⟨k + 1, by omega, by go_num, HK5, ?_⟩
          rw [Htk.out, hrg.out]
          have := HW5.out
          simp only [List.cons_append, List.append_assoc, List.singleton_append, List.nil_append] at this ⊢
          exact Lib.hid this
        case measure => simp [intOf]; omega
    · obtain rfl : k = n := by omega
      have hall : L.take k = L := by rw [Hn.out]; exact List.take_length
      rw [hall] at HW
      have hll := HL.out
      go_wp2_with fail
      refine (wws_any _ bldSb _ _ _ [93] _ HW.out (by simp; omega) HK.out.size).mono ?_
      rintro e w6 ⟨rfl, hw6, hb6, ho6⟩
      have HW6 := Lib.hid hw6
      have HK6 := Lib.hid (HK.out.trans hb6)
      clear hw6 hb6 ho6 HW HK hll
      go_wp2_with fail
      refine (wst_any _ _ _ _ _ HW6.out (by simp)).mono ?_
      rintro e w7 ⟨rfl, hb7⟩
      have HK7 := Lib.hid (HK6.out.trans hb7)
      go_wp2_with fail
      go_ret2
      rw [hcl.out]
      exact ⟨rfl, HK7.out⟩
end
end Go.Proofs.YtmgkdmbifecekaaGreatDoor
namespace Go.Proofs.YtmgkdmbifecekaaGreatDoor
open Go.RowKit Go.Shelf
section
variable (A B : Option Addr) (c d : Nat) (L M : List Rng) (hL : L.length ≤ 1000) (hM : M.length ≤ 1000) (w : World) (hA : RdR w w.heap.size A L) (hB : RdR w w.heap.size B M)
include hL hM hA hB
set_option maxRecDepth 100000 in
set_option maxHeartbeats 4000000 in
theorem requal_any : Calls Tryz.prog 73 #[.slice A L.length c, .slice B M.length d] w fun e w' => e = .returned (.bool (decide (L = M))) ∧ Kept w w' := by
  have HA := Lib.hid hA
  have HB := Lib.hid hB
  by_cases hlm : L.length = M.length
  case neg =>
    have hne : ((L.length : Int) != (M.length : Int)) = true := by rw [bne_iff_ne]; omega
    have hd : decide (L = M) = false := decide_eq_false (fun e => hlm (by rw [e]))
    have HD := Lib.hid hd
    obtain ⟨n, hn⟩ : ∃ n, n = L.length := ⟨_, rfl⟩
    obtain ⟨m, hm⟩ : ∃ m, m = M.length := ⟨_, rfl⟩
    rw [← hn, ← hm] at hne ⊢
    clear hA hB hd hlm hn hm
    go_enter Tryz.func73, Tryz.ntmps73
    go_wp2_with fail
    go_ret
    exact ⟨by rw [HD.out]; rfl, Below.refl _ _⟩
  case pos =>
    obtain ⟨n, hn⟩ : ∃ n, n = L.length := ⟨_, rfl⟩
    have Hn := Lib.hid hn
    have Hm : Hid (n = M.length) := by show _ = _; rw [hn, hlm]
    rw [show M.length = n from Hm.out.symm, show L.length = n from hn.symm]
    rw [← hn] at hL
    clear hA hB hn hM hlm
    go_enter Tryz.func73, Tryz.ntmps73
    go_wp2_with fail
    go_loopw [5, 13] (fun _ v13 wr => ∃ k : Nat, k ≤ n ∧ v13 = .int .i64 k ∧ Hid (Kept w wr) ∧ Hid (L.take k = M.take k)) (fun _ v13 _ => n - (intOf v13).toNat)
    case atStart => exact ⟨0, Nat.zero_le _, rfl, Below.refl _ _, rfl⟩
    case round =>
      obtain ⟨k, hk, rfl, HK, HT⟩ := hrel
      by_cases hkn : k < n
      · obtain ⟨ad, x, rfl, hadb, hx, hd, hc0, hc1⟩ := rdr_at HA.out (by rw [← Hn.out]; exact hkn)
        obtain ⟨ae, y, rfl, haeb, hy, hdy, hd0, hd1⟩ := rdr_at HB.out (by rw [← Hm.out]; exact hkn)
        have hkd : Kept w wr.drew := below_drew0 HK.out
        have Hcl := Lib.hid (rng_cells ((Below.cell hkd (by rw [addBlock]; exact hadb)).trans hc0) ((Below.cell hkd (by rw [addBlock]; exact hadb)).trans hc1))
        have Hce := Lib.hid (rng_cells ((Below.cell hkd (by rw [addBlock]; exact haeb)).trans hd0) ((Below.cell hkd (by rw [addBlock]; exact haeb)).trans hd1))
        have HKd := Lib.hid hkd
        have Hx := Lib.hid hx
        have Hy := Lib.hid hy
        clear hc0 hc1 hd0 hd1 hx hd hy hdy hkd
        have hkni : (k : Int) < (n : Int) := by omega
        have hxe : Hid (decide (L = M) = false ∨ x = y) := by
          by_cases hxy : x = y
          · exact Lib.hid (.inr hxy)
          · refine Lib.hid (.inl (decide_eq_false (fun e => hxy ?_)))
            have := Hx.out
            rw [e, Hy.out] at this
            exact (Option.some.inj this).symm
        rcases hxe.out with hdf | rfl
        · have HDF := Lib.hid hdf
          by_cases hxy : x = y
          · subst hxy
            clear hdf hxe
            go_upto_region 6 with fail
            refine wp_region_held_drew (S := fun W => W = wr.drew) (by kernel_rfl) rfl (fun hHeld => ?_)
            obtain ⟨wd, hwd⟩ : ∃ x, x = wr.drew := ⟨_, rfl⟩
            rw [← hwd] at hHeld HKd Hcl Hce ⊢
            clear hwd
            refine tkC 0 (oi := ⟨some 16, _, _, _, _, _⟩) (v := ?_) rfl (by kernel_rfl) (fun _ _ _ h => h) (by rfl) ?_ hHeld ?_
            rotate_left
            · (intro w hSw; obtain hx := hSw; refine .inl ?_; go_simp; (try with_reducible rfl))
            try simp only [pU1, pU2, pU3, pU4]
            refine tkC 1 (oi := ⟨some 17, _, _, _, _, _⟩) (v := ?_) rfl (by kernel_rfl) (fun _ _ _ h => h) (by rfl) ?_ hHeld ?_
            rotate_left
            · (intro w hSw; obtain hx := hSw; refine .inl ?_; go_simp; (try with_reducible rfl))
            try simp only [pU1, pU2, pU3, pU4]
            refine tkC 2 (oi := ⟨some 18, _, _, _, _, _⟩) (v := ?_) rfl (by kernel_rfl) (fun _ _ _ h => h) (by rfl) ?_ hHeld ?_
            rotate_left
            · (intro w hSw; obtain hx := hSw; refine .inl ?_; go_simp; (try with_reducible rfl))
            try simp only [pU1, pU2, pU3, pU4]
            refine wpAnyH_takeC (i := 3) (oi := ⟨some 19, _, _, _, _, _⟩) rfl (by kernel_rfl) (by kernel_rfl) (by kernel_rfl) (fun _ _ _ h => h) (yieldsC_row rfl 73 _ rfl (ad.add (k * 2)) rfl #[.int .i64 x.1, .int .i64 x.2] _ (fun w hw => by rw [hw]; exact Hcl.out) Tryz.underlying73 rfl sizeR) hHeld ?_
            try simp only [pU1, pU2, pU3, pU4]
            refine tkC 4 (oi := ⟨some 20, _, _, _, _, _⟩) (v := ?_) rfl (by kernel_rfl) (fun _ _ _ h => h) (by rfl) ?_ hHeld ?_
            rotate_left
            · (intro w hSw; obtain hx := hSw; refine .inl ?_; go_simp; (try with_reducible rfl))
            try simp only [pU1, pU2, pU3, pU4]
            refine tkC 5 (oi := ⟨some 21, _, _, _, _, _⟩) (v := ?_) rfl (by kernel_rfl) (fun _ _ _ h => h) (by rfl) ?_ hHeld ?_
            rotate_left
            · (intro w hSw; obtain hx := hSw; refine .inl ?_; go_simp; (try with_reducible rfl))
            try simp only [pU1, pU2, pU3, pU4]
            refine tkC 6 (oi := ⟨some 22, _, _, _, _, _⟩) (v := ?_) rfl (by kernel_rfl) (fun _ _ _ h => h) (by rfl) ?_ hHeld ?_
            rotate_left
            · (intro w hSw; obtain hx := hSw; refine .inl ?_; go_simp; (try with_reducible rfl))
            try simp only [pU1, pU2, pU3, pU4]
            refine wpAnyH_takeC (i := 7) (oi := ⟨some 23, _, _, _, _, _⟩) rfl (by kernel_rfl) (by kernel_rfl) (by kernel_rfl) (fun _ _ _ h => h) (yieldsC_row rfl 73 _ rfl (ae.add (k * 2)) rfl #[.int .i64 x.1, .int .i64 x.2] _ (fun w hw => by rw [hw]; exact Hce.out) Tryz.underlying73 rfl sizeR) hHeld ?_
            try simp only [pU1, pU2, pU3, pU4]
            refine tkC 8 (oi := ⟨some 24, _, _, _, _, _⟩) (v := ?_) rfl (by kernel_rfl) (fun _ _ _ h => h) (by rfl) ?_ hHeld ?_
            rotate_left
            · (intro w hSw; obtain hx := hSw; refine .inl ?_; go_simp; (try with_reducible rfl))
            try simp only [pU1, pU2, pU3, pU4]
            refine wpAnyH_done (by kernel_rfl) ?_ _
            go_wp2_with fail
            go_roundw
            case rel => exact ⟨k + 1, by omega, by go_num, HKd, by show _ = _; rw [List.take_add_one, List.take_add_one, HT.out, Hx.out, Hy.out]⟩
            case measure => simp [intOf]; omega

          · by_cases h1 : x.1 = y.1
            · have h2 : ¬ x.2 = y.2 := fun e => hxy (Prod.ext h1 e)
              clear hxy hdf hxe
              go_upto_region 6 with fail
              refine wp_region_held_drew (S := fun W => W = wr.drew) (by kernel_rfl) rfl (fun hHeld => ?_)
              obtain ⟨wd, hwd⟩ : ∃ x, x = wr.drew := ⟨_, rfl⟩
              rw [← hwd] at hHeld HKd Hcl Hce ⊢
              clear hwd
              refine tkC 0 (oi := ⟨some 16, _, _, _, _, _⟩) (v := ?_) rfl (by kernel_rfl) (fun _ _ _ h => h) (by rfl) ?_ hHeld ?_
              rotate_left
              · (intro w hSw; obtain hx := hSw; refine .inl ?_; go_simp; (try with_reducible rfl))
              try simp only [pU1, pU2, pU3, pU4]
              refine tkC 1 (oi := ⟨some 17, _, _, _, _, _⟩) (v := ?_) rfl (by kernel_rfl) (fun _ _ _ h => h) (by rfl) ?_ hHeld ?_
              rotate_left
              · (intro w hSw; obtain hx := hSw; refine .inl ?_; go_simp; (try with_reducible rfl))
              try simp only [pU1, pU2, pU3, pU4]
              refine tkC 2 (oi := ⟨some 18, _, _, _, _, _⟩) (v := ?_) rfl (by kernel_rfl) (fun _ _ _ h => h) (by rfl) ?_ hHeld ?_
              rotate_left
              · (intro w hSw; obtain hx := hSw; refine .inl ?_; go_simp; (try with_reducible rfl))
              try simp only [pU1, pU2, pU3, pU4]
              refine wpAnyH_takeC (i := 3) (oi := ⟨some 19, _, _, _, _, _⟩) rfl (by kernel_rfl) (by kernel_rfl) (by kernel_rfl) (fun _ _ _ h => h) (yieldsC_row rfl 73 _ rfl (ad.add (k * 2)) rfl #[.int .i64 x.1, .int .i64 x.2] _ (fun w hw => by rw [hw]; exact Hcl.out) Tryz.underlying73 rfl sizeR) hHeld ?_
              try simp only [pU1, pU2, pU3, pU4]
              refine tkC 4 (oi := ⟨some 20, _, _, _, _, _⟩) (v := ?_) rfl (by kernel_rfl) (fun _ _ _ h => h) (by rfl) ?_ hHeld ?_
              rotate_left
              · (intro w hSw; obtain hx := hSw; refine .inl ?_; go_simp; (try with_reducible rfl))
              try simp only [pU1, pU2, pU3, pU4]
              refine tkC 5 (oi := ⟨some 21, _, _, _, _, _⟩) (v := ?_) rfl (by kernel_rfl) (fun _ _ _ h => h) (by rfl) ?_ hHeld ?_
              rotate_left
              · (intro w hSw; obtain hx := hSw; refine .inl ?_; go_simp; (try with_reducible rfl))
              try simp only [pU1, pU2, pU3, pU4]
              refine tkC 6 (oi := ⟨some 22, _, _, _, _, _⟩) (v := ?_) rfl (by kernel_rfl) (fun _ _ _ h => h) (by rfl) ?_ hHeld ?_
              rotate_left
              · (intro w hSw; obtain hx := hSw; refine .inl ?_; go_simp; (try with_reducible rfl))
              try simp only [pU1, pU2, pU3, pU4]
              refine wpAnyH_takeC (i := 7) (oi := ⟨some 23, _, _, _, _, _⟩) rfl (by kernel_rfl) (by kernel_rfl) (by kernel_rfl) (fun _ _ _ h => h) (yieldsC_row rfl 73 _ rfl (ae.add (k * 2)) rfl #[.int .i64 y.1, .int .i64 y.2] _ (fun w hw => by rw [hw]; exact Hce.out) Tryz.underlying73 rfl sizeR) hHeld ?_
              try simp only [pU1, pU2, pU3, pU4]
              refine tkC 8 (oi := ⟨some 24, _, _, _, _, _⟩) (v := ?_) rfl (by kernel_rfl) (fun _ _ _ h => h) (by rfl) ?_ hHeld ?_
              rotate_left
              · (intro w hSw; obtain hx := hSw; refine .inl ?_; go_simp; (try with_reducible rfl))
              try simp only [pU1, pU2, pU3, pU4]
              refine wpAnyH_done (by kernel_rfl) ?_ _
              go_wp2_with fail
              go_ret
              exact ⟨by rw [HDF.out]; rfl, HKd.out⟩

            · clear hxy hdf hxe
              go_upto_region 6 with fail
              refine wp_region_held_drew (S := fun W => W = wr.drew) (by kernel_rfl) rfl (fun hHeld => ?_)
              obtain ⟨wd, hwd⟩ : ∃ x, x = wr.drew := ⟨_, rfl⟩
              rw [← hwd] at hHeld HKd Hcl Hce ⊢
              clear hwd
              refine tkC 0 (oi := ⟨some 16, _, _, _, _, _⟩) (v := ?_) rfl (by kernel_rfl) (fun _ _ _ h => h) (by rfl) ?_ hHeld ?_
              rotate_left
              · (intro w hSw; obtain hx := hSw; refine .inl ?_; go_simp; (try with_reducible rfl))
              try simp only [pU1, pU2, pU3, pU4]
              refine tkC 1 (oi := ⟨some 17, _, _, _, _, _⟩) (v := ?_) rfl (by kernel_rfl) (fun _ _ _ h => h) (by rfl) ?_ hHeld ?_
              rotate_left
              · (intro w hSw; obtain hx := hSw; refine .inl ?_; go_simp; (try with_reducible rfl))
              try simp only [pU1, pU2, pU3, pU4]
              refine tkC 2 (oi := ⟨some 18, _, _, _, _, _⟩) (v := ?_) rfl (by kernel_rfl) (fun _ _ _ h => h) (by rfl) ?_ hHeld ?_
              rotate_left
              · (intro w hSw; obtain hx := hSw; refine .inl ?_; go_simp; (try with_reducible rfl))
              try simp only [pU1, pU2, pU3, pU4]
              refine wpAnyH_takeC (i := 3) (oi := ⟨some 19, _, _, _, _, _⟩) rfl (by kernel_rfl) (by kernel_rfl) (by kernel_rfl) (fun _ _ _ h => h) (yieldsC_row rfl 73 _ rfl (ad.add (k * 2)) rfl #[.int .i64 x.1, .int .i64 x.2] _ (fun w hw => by rw [hw]; exact Hcl.out) Tryz.underlying73 rfl sizeR) hHeld ?_
              try simp only [pU1, pU2, pU3, pU4]
              refine tkC 4 (oi := ⟨some 20, _, _, _, _, _⟩) (v := ?_) rfl (by kernel_rfl) (fun _ _ _ h => h) (by rfl) ?_ hHeld ?_
              rotate_left
              · (intro w hSw; obtain hx := hSw; refine .inl ?_; go_simp; (try with_reducible rfl))
              try simp only [pU1, pU2, pU3, pU4]
              refine tkC 5 (oi := ⟨some 21, _, _, _, _, _⟩) (v := ?_) rfl (by kernel_rfl) (fun _ _ _ h => h) (by rfl) ?_ hHeld ?_
              rotate_left
              · (intro w hSw; obtain hx := hSw; refine .inl ?_; go_simp; (try with_reducible rfl))
              try simp only [pU1, pU2, pU3, pU4]
              refine tkC 6 (oi := ⟨some 22, _, _, _, _, _⟩) (v := ?_) rfl (by kernel_rfl) (fun _ _ _ h => h) (by rfl) ?_ hHeld ?_
              rotate_left
              · (intro w hSw; obtain hx := hSw; refine .inl ?_; go_simp; (try with_reducible rfl))
              try simp only [pU1, pU2, pU3, pU4]
              refine wpAnyH_takeC (i := 7) (oi := ⟨some 23, _, _, _, _, _⟩) rfl (by kernel_rfl) (by kernel_rfl) (by kernel_rfl) (fun _ _ _ h => h) (yieldsC_row rfl 73 _ rfl (ae.add (k * 2)) rfl #[.int .i64 y.1, .int .i64 y.2] _ (fun w hw => by rw [hw]; exact Hce.out) Tryz.underlying73 rfl sizeR) hHeld ?_
              try simp only [pU1, pU2, pU3, pU4]
              refine tkC 8 (oi := ⟨some 24, _, _, _, _, _⟩) (v := ?_) rfl (by kernel_rfl) (fun _ _ _ h => h) (by rfl) ?_ hHeld ?_
              rotate_left
              · (intro w hSw; obtain hx := hSw; refine .inl ?_; go_simp; (try with_reducible rfl))
              try simp only [pU1, pU2, pU3, pU4]
              refine wpAnyH_done (by kernel_rfl) ?_ _
              go_wp2_with fail
              go_ret
              exact ⟨by rw [HDF.out]; rfl, HKd.out⟩

        · clear hxe
          go_upto_region 6 with fail
          refine wp_region_held_drew (S := fun W => W = wr.drew) (by kernel_rfl) rfl (fun hHeld => ?_)
          obtain ⟨wd, hwd⟩ : ∃ x, x = wr.drew := ⟨_, rfl⟩
          rw [← hwd] at hHeld HKd Hcl Hce ⊢
          clear hwd
          refine tkC 0 (oi := ⟨some 16, _, _, _, _, _⟩) (v := ?_) rfl (by kernel_rfl) (fun _ _ _ h => h) (by rfl) ?_ hHeld ?_
          rotate_left
          · (intro w hSw; obtain hx := hSw; refine .inl ?_; go_simp; (try with_reducible rfl))
          try simp only [pU1, pU2, pU3, pU4]
          refine tkC 1 (oi := ⟨some 17, _, _, _, _, _⟩) (v := ?_) rfl (by kernel_rfl) (fun _ _ _ h => h) (by rfl) ?_ hHeld ?_
          rotate_left
          · (intro w hSw; obtain hx := hSw; refine .inl ?_; go_simp; (try with_reducible rfl))
          try simp only [pU1, pU2, pU3, pU4]
          refine tkC 2 (oi := ⟨some 18, _, _, _, _, _⟩) (v := ?_) rfl (by kernel_rfl) (fun _ _ _ h => h) (by rfl) ?_ hHeld ?_
          rotate_left
          · (intro w hSw; obtain hx := hSw; refine .inl ?_; go_simp; (try with_reducible rfl))
          try simp only [pU1, pU2, pU3, pU4]
          refine wpAnyH_takeC (i := 3) (oi := ⟨some 19, _, _, _, _, _⟩) rfl (by kernel_rfl) (by kernel_rfl) (by kernel_rfl) (fun _ _ _ h => h) (yieldsC_row rfl 73 _ rfl (ad.add (k * 2)) rfl #[.int .i64 x.1, .int .i64 x.2] _ (fun w hw => by rw [hw]; exact Hcl.out) Tryz.underlying73 rfl sizeR) hHeld ?_
          try simp only [pU1, pU2, pU3, pU4]
          refine tkC 4 (oi := ⟨some 20, _, _, _, _, _⟩) (v := ?_) rfl (by kernel_rfl) (fun _ _ _ h => h) (by rfl) ?_ hHeld ?_
          rotate_left
          · (intro w hSw; obtain hx := hSw; refine .inl ?_; go_simp; (try with_reducible rfl))
          try simp only [pU1, pU2, pU3, pU4]
          refine tkC 5 (oi := ⟨some 21, _, _, _, _, _⟩) (v := ?_) rfl (by kernel_rfl) (fun _ _ _ h => h) (by rfl) ?_ hHeld ?_
          rotate_left
          · (intro w hSw; obtain hx := hSw; refine .inl ?_; go_simp; (try with_reducible rfl))
          try simp only [pU1, pU2, pU3, pU4]
          refine tkC 6 (oi := ⟨some 22, _, _, _, _, _⟩) (v := ?_) rfl (by kernel_rfl) (fun _ _ _ h => h) (by rfl) ?_ hHeld ?_
          rotate_left
          · (intro w hSw; obtain hx := hSw; refine .inl ?_; go_simp; (try with_reducible rfl))
          try simp only [pU1, pU2, pU3, pU4]
          refine wpAnyH_takeC (i := 7) (oi := ⟨some 23, _, _, _, _, _⟩) rfl (by kernel_rfl) (by kernel_rfl) (by kernel_rfl) (fun _ _ _ h => h) (yieldsC_row rfl 73 _ rfl (ae.add (k * 2)) rfl #[.int .i64 x.1, .int .i64 x.2] _ (fun w hw => by rw [hw]; exact Hce.out) Tryz.underlying73 rfl sizeR) hHeld ?_
          try simp only [pU1, pU2, pU3, pU4]
          refine tkC 8 (oi := ⟨some 24, _, _, _, _, _⟩) (v := ?_) rfl (by kernel_rfl) (fun _ _ _ h => h) (by rfl) ?_ hHeld ?_
          rotate_left
          · (intro w hSw; obtain hx := hSw; refine .inl ?_; go_simp; (try with_reducible rfl))
          try simp only [pU1, pU2, pU3, pU4]
          refine wpAnyH_done (by kernel_rfl) ?_ _
          go_wp2_with fail
          go_roundw
          case rel => exact ⟨k + 1, by omega, by go_num, HKd, by show _ = _; rw [List.take_add_one, List.take_add_one, HT.out, Hx.out, Hy.out]⟩
          case measure => simp [intOf]; omega

      · obtain rfl : k = n := by omega
        have hLM : decide (L = M) = true := by
          have := HT.out
          rw [List.take_of_length_le (by rw [← Hn.out]; exact Nat.le_refl _), List.take_of_length_le (by rw [← Hm.out]; exact Nat.le_refl _)] at this
          exact decide_eq_true this
        have HLM := Lib.hid hLM
        clear hLM
        go_wp2_with fail
        go_ret
        exact ⟨by rw [HLM.out]; rfl, HK.out⟩
end
end Go.Proofs.YtmgkdmbifecekaaGreatDoor
