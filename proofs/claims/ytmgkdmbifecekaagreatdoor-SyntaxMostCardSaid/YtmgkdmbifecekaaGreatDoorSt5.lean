/-
  Package syntax: the text of a set, as a pattern.
-/
import Derived.Test.YtmgkdmbifecekaaGreatDoorSt4
namespace Go.Proofs.YtmgkdmbifecekaaGreatDoor
open Go.RowKit Go.Shelf
theorem own_rdr {w : World} {b : Nat} {v : Value} {L : List Rng} (h : w.ownsRow b 73 2 v L.length (rngs L)) : ∃ A c, v = .slice A L.length c ∧ RdR w w.heap.size A L := by
  rcases h.2 with ⟨rfl, h0⟩ | ⟨g, cap, cur, rfl, hb, hg, hc, hx, hs, ht⟩
  · have hL : L = [] := List.length_eq_zero_iff.1 h0
    subst hL
    exact ⟨none, 0, rfl, Rd.nil⟩
  · refine ⟨_, _, rfl, rngs_length L, fun _ => ⟨_, rfl, heap_lt hg, fun j u hu => ?_⟩⟩
    have hj : j < L.length * 2 := by have := (List.getElem?_eq_some_iff.1 hu).1; rw [rngs_length] at this; exact this
    rw [add0, h.cellAt j hj]
    exact hu
theorem rdr_kept {w w' : World} {A : Option Addr} {L : List Rng} (h : RdR w w.heap.size A L) (hk : Kept w w') : RdR w' w'.heap.size A L := rd_kept hk h
theorem add_z (a : Addr) : a.add 0 = a := by
  unfold Addr.add
  split <;> simp_all
/-- What setText is said to do. -/
abbrev SetC (L : List Rng) : Prop := ∀ (A : Option Addr) (c : Nat) (W : World), RdR W W.heap.size A L → Calls Tryz.prog 63 #[.slice A L.length c] W fun e w' => e = .returned (.string (b8 (setS L))) ∧ Kept W w'
set_option maxRecDepth 100000 in
set_option maxHeartbeats 4000000 in
theorem sett_all : SetC allR := by
  intro A c W hA
  have HA := Lib.hid hA
  clear hA
  obtain ⟨L, hLe⟩ : ∃ L, L = allR := ⟨_, rfl⟩
  have hL : L.length ≤ 1000 := by rw [hLe]; decide
  have HD : Hid (decide (L = allR) = true) := Lib.hid (decide_eq_true hLe)
  have HS : Hid (setS L = [46]) := by show _ = _; unfold setS; rw [if_pos hLe]
  rw [← hLe] at HA ⊢
  clear hLe
  have CA := Lib.hid (all_any W)
  go_enter Tryz.func63, Tryz.ntmps63
  go_wp2_with fail
  refine CA.out.mono ?_
  rintro e w1 ⟨v, rfl, hown, hk1⟩
  obtain ⟨B, d, rfl, hrB⟩ := own_rdr (L := allR) hown
  have HB := Lib.hid hrB
  have HA1 := Lib.hid (rdr_kept HA.out hk1)
  have HK1 := Lib.hid hk1
  clear hown hrB hk1 CA
  go_wp2_with fail
  refine (requal_any A B c d L allR hL (by decide) w1 HA1.out HB.out).mono ?_
  rintro e w2 ⟨rfl, hk2⟩
  rw [HD.out]
  have HA2 := Lib.hid (rdr_kept HA1.out hk2)
  have HK2 := Lib.hid (below_kept HK1.out hk2)
  clear hk2 HA1 HK1 HB
  go_wp2_with fail
  go_ret
  exact ⟨by rw [HS.out]; rfl, HK2.out⟩
set_option maxRecDepth 100000 in
set_option maxHeartbeats 4000000 in
theorem sett_many (L : List Rng) (hL : L.length ≤ 1000) (hne : L ≠ []) (hl1 : L.length ≠ 1) (hR : rgtR 0 L = true) (hp : ∀ r ∈ L, PtC r.1 ∧ PtC r.2) (hna : L ≠ allR) : SetC L := by
  intro A c W hA
  have HA := Lib.hid hA
  clear hA
  have HD : Hid (decide (L = allR) = false) := Lib.hid (decide_eq_false hna)
  have HS : Hid (setS L = clsS L) := by
    show _ = _
    unfold setS
    rw [if_neg hna]
    rcases L with _ | ⟨x, _ | ⟨y, L⟩⟩
    · rfl
    · exact absurd rfl hl1
    · rfl
  have CA := Lib.hid (all_any W)
  go_enter Tryz.func63, Tryz.ntmps63
  go_wp2_with fail
  refine CA.out.mono ?_
  rintro e w1 ⟨v, rfl, hown, hk1⟩
  obtain ⟨B, d, rfl, hrB⟩ := own_rdr (L := allR) hown
  have HB := Lib.hid hrB
  have HA1 := Lib.hid (rdr_kept HA.out hk1)
  have HK1 := Lib.hid hk1
  clear hown hrB hk1 CA
  go_wp2_with fail
  refine (requal_any A B c d L allR hL (by decide) w1 HA1.out HB.out).mono ?_
  rintro e w2 ⟨rfl, hk2⟩
  rw [HD.out]
  have HA2 := Lib.hid (rdr_kept HA1.out hk2)
  have HK2 := Lib.hid (below_kept HK1.out hk2)
  clear hk2 HA1 HK1 HB
  go_wp2_with fail
  refine (ctext_any A c L hL hne hR hp w2 HA2.out).mono ?_
  rintro e w3 ⟨rfl, hk3⟩
  have HA3 := Lib.hid (rdr_kept HA2.out hk3)
  have HK3 := Lib.hid (below_kept HK2.out hk3)
  clear hk3 HA2 HK2
  go_upto_region 4 with fail
  have hli : ((L.length : Int) != 1) = true := by rw [bne_iff_ne]; omega
  obtain ⟨n, hn⟩ : ∃ n, n = L.length := ⟨_, rfl⟩
  rw [← hn] at hli ⊢
  clear hn hl1 hp hne hna hR hL HA3
  refine wp_region_held_drew (S := fun W => W = w3.drew) (by kernel_rfl) rfl (fun hHeld => ?_)
  obtain ⟨wd, hwd⟩ : ∃ x, x = w3.drew := ⟨_, rfl⟩
  have HKd : Hid (Kept W wd) := by rw [hwd]; exact below_drew0 HK3.out
  rw [← hwd] at hHeld ⊢
  clear hwd
  refine wpAnyH_takeC (i := 0) (oi := ⟨some 14, _, _, _, _, _⟩) (v := ?_) rfl (by kernel_rfl) (by kernel_rfl) (by kernel_rfl) (fun _ _ _ h => h) (Or.inl ⟨by rfl, ?_⟩) hHeld ?_
  rotate_left
  · (intro w hSw; obtain rfl := hSw; refine .inl ?_; go_simp; (try with_reducible rfl))
  try simp only [Act.put, List.setIfInBounds_toArray, List.set_cons_zero, List.set_cons_succ]
  refine wpAnyH_takeC (i := 1) (oi := ⟨some 15, _, _, _, _, _⟩) (v := ?_) rfl (by kernel_rfl) (by kernel_rfl) (by kernel_rfl) (fun _ _ _ h => h) (Or.inl ⟨by rfl, ?_⟩) hHeld ?_
  rotate_left
  · (intro w hSw; obtain rfl := hSw; refine .inl ?_; go_simp; (try with_reducible rfl))
  try simp only [Act.put, List.setIfInBounds_toArray, List.set_cons_zero, List.set_cons_succ]
  refine wpAnyH_takeC (i := 2) (oi := ⟨some 16, _, _, _, _, _⟩) (v := ?_) rfl (by kernel_rfl) (by kernel_rfl) (by kernel_rfl) (fun _ _ _ h => h) (Or.inl ⟨by rfl, ?_⟩) hHeld ?_
  rotate_left
  · (intro w hSw; obtain rfl := hSw; refine .inl ?_; go_simp; (try with_reducible rfl))
  try simp only [Act.put, List.setIfInBounds_toArray, List.set_cons_zero, List.set_cons_succ]
  refine wpAnyH_takeC (i := 3) (oi := ⟨some 17, _, _, _, _, _⟩) (v := ?_) rfl (by kernel_rfl) (by kernel_rfl) (by kernel_rfl) (fun _ _ _ h => h) (Or.inl ⟨by rfl, ?_⟩) hHeld ?_
  rotate_left
  · (intro w hSw; obtain rfl := hSw; refine .inl ?_; go_simp; (try with_reducible rfl))
  try simp only [Act.put, List.setIfInBounds_toArray, List.set_cons_zero, List.set_cons_succ]
  refine wpAnyH_takeC (i := 4) (oi := ⟨some 18, _, _, _, _, _⟩) rfl (by kernel_rfl) (by kernel_rfl) (by kernel_rfl) (fun _ _ _ h => h) (Or.inr ⟨by rfl, rfl⟩) hHeld ?_
  try simp only [Act.put, List.setIfInBounds_toArray, List.set_cons_zero, List.set_cons_succ]
  refine wpAnyH_takeC (i := 5) (oi := ⟨some 19, _, _, _, _, _⟩) rfl (by kernel_rfl) (by kernel_rfl) (by kernel_rfl) (fun _ _ _ h => h) (Or.inr ⟨by rfl, rfl⟩) hHeld ?_
  try simp only [Act.put, List.setIfInBounds_toArray, List.set_cons_zero, List.set_cons_succ]
  refine wpAnyH_takeC (i := 6) (oi := ⟨some 20, _, _, _, _, _⟩) rfl (by kernel_rfl) (by kernel_rfl) (by kernel_rfl) (fun _ _ _ h => h) (Or.inr ⟨by rfl, rfl⟩) hHeld ?_
  try simp only [Act.put, List.setIfInBounds_toArray, List.set_cons_zero, List.set_cons_succ]
  refine wpAnyH_takeC (i := 7) (oi := ⟨some 21, _, _, _, _, _⟩) rfl (by kernel_rfl) (by kernel_rfl) (by kernel_rfl) (fun _ _ _ h => h) (Or.inr ⟨by rfl, rfl⟩) hHeld ?_
  try simp only [Act.put, List.setIfInBounds_toArray, List.set_cons_zero, List.set_cons_succ]
  refine wpAnyH_takeC (i := 8) (oi := ⟨some 22, _, _, _, _, _⟩) rfl (by kernel_rfl) (by kernel_rfl) (by kernel_rfl) (fun _ _ _ h => h) (Or.inr ⟨by rfl, rfl⟩) hHeld ?_
  try simp only [Act.put, List.setIfInBounds_toArray, List.set_cons_zero, List.set_cons_succ]
  refine wpAnyH_takeC (i := 9) (oi := ⟨some 23, _, _, _, _, _⟩) rfl (by kernel_rfl) (by kernel_rfl) (by kernel_rfl) (fun _ _ _ h => h) (Or.inr ⟨by rfl, rfl⟩) hHeld ?_
  try simp only [Act.put, List.setIfInBounds_toArray, List.set_cons_zero, List.set_cons_succ]
  refine wpAnyH_takeC (i := 10) (oi := ⟨some 24, _, _, _, _, _⟩) rfl (by kernel_rfl) (by kernel_rfl) (by kernel_rfl) (fun _ _ _ h => h) (Or.inr ⟨by rfl, rfl⟩) hHeld ?_
  try simp only [Act.put, List.setIfInBounds_toArray, List.set_cons_zero, List.set_cons_succ]
  refine wpAnyH_takeC (i := 11) (oi := ⟨some 25, _, _, _, _, _⟩) rfl (by kernel_rfl) (by kernel_rfl) (by kernel_rfl) (fun _ _ _ h => h) (Or.inr ⟨by rfl, rfl⟩) hHeld ?_
  try simp only [Act.put, List.setIfInBounds_toArray, List.set_cons_zero, List.set_cons_succ]
  refine wpAnyH_takeC (i := 12) (oi := ⟨some 26, _, _, _, _, _⟩) rfl (by kernel_rfl) (by kernel_rfl) (by kernel_rfl) (fun _ _ _ h => h) (Or.inr ⟨by rfl, rfl⟩) hHeld ?_
  try simp only [Act.put, List.setIfInBounds_toArray, List.set_cons_zero, List.set_cons_succ]
  refine wpAnyH_takeC (i := 13) (oi := ⟨some 27, _, _, _, _, _⟩) (v := ?_) rfl (by kernel_rfl) (by kernel_rfl) (by kernel_rfl) (fun _ _ _ h => h) (Or.inl ⟨by rfl, ?_⟩) hHeld ?_
  rotate_left
  · (intro w hSw; obtain rfl := hSw; refine .inl ?_; go_simp; (try with_reducible rfl))
  try simp only [Act.put, List.setIfInBounds_toArray, List.set_cons_zero, List.set_cons_succ]
  refine wpAnyH_done (by kernel_rfl) ?_ _
  go_wp2_with fail
  go_ret
  exact ⟨by rw [HS.out]; rfl, HKd.out⟩
set_option maxRecDepth 100000 in
set_option maxHeartbeats 4000000 in
theorem sett_two (x y : Int) (hR : rgtR 0 [(x, y)] = true) (hp : ∀ r ∈ [(x, y)], PtC r.1 ∧ PtC r.2) (hxy : x ≠ y) : SetC [(x, y)] := by
  intro A c W hA
  have HA := Lib.hid hA
  clear hA
  obtain ⟨L, hLe⟩ : ∃ L : List Rng, L = [(x, y)] := ⟨_, rfl⟩
  have hL : L.length ≤ 1000 := by rw [hLe]; simp
  have hne : L ≠ [] := by rw [hLe]; simp
  have Hl1 : Hid (L.length = 1) := by show _ = _; rw [hLe]; rfl
  have HD : Hid (decide (L = allR) = false) := Lib.hid (decide_eq_false (by rw [hLe]; unfold allR; simp))
  have HLe := Lib.hid hLe
  rw [← hLe] at HA hR hp ⊢
  have HS : Hid (setS L = clsS L) := by
    show _ = _
    rw [hLe]
    unfold setS
    rw [if_neg (by unfold allR; simp)]
    simp [hxy]
  clear hLe
  have CA := Lib.hid (all_any W)
  go_enter Tryz.func63, Tryz.ntmps63
  go_wp2_with fail
  refine CA.out.mono ?_
  rintro e w1 ⟨v, rfl, hown, hk1⟩
  obtain ⟨B, d, rfl, hrB⟩ := own_rdr (L := allR) hown
  have HB := Lib.hid hrB
  have HA1 := Lib.hid (rdr_kept HA.out hk1)
  have HK1 := Lib.hid hk1
  clear hown hrB hk1 CA
  go_wp2_with fail
  refine (requal_any A B c d L allR hL (by decide) w1 HA1.out HB.out).mono ?_
  rintro e w2 ⟨rfl, hk2⟩
  rw [HD.out]
  have HA2 := Lib.hid (rdr_kept HA1.out hk2)
  have HK2 := Lib.hid (below_kept HK1.out hk2)
  clear hk2 HA1 HK1 HB
  go_wp2_with fail
  refine (ctext_any A c L hL hne hR hp w2 HA2.out).mono ?_
  rintro e w3 ⟨rfl, hk3⟩
  have HA3 := Lib.hid (rdr_kept HA2.out hk3)
  have HK3 := Lib.hid (below_kept HK2.out hk3)
  clear hk3 HA2 HK2
  go_upto_region 4 with fail
  have hc0 : Hid (∃ ad, A = some ad ∧ w3.cell? ad = some (.int .i64 x) ∧ w3.cell? (ad.add 1) = some (.int .i64 y)) := by
    obtain ⟨ad, z, rfl, hadb, hx, hd, h0, h1⟩ := rdr_at HA3.out (k := 0) (by rw [Hl1.out]; exact Nat.zero_lt_one)
    rw [HLe.out] at hx
    simp at hx
    subst hx
    rw [Nat.zero_mul, add_z] at h0
    exact Lib.hid ⟨ad, rfl, h0, h1⟩
  rw [Hl1.out]
  obtain ⟨ad, rfl, c0, c1⟩ := hc0.out
  clear hc0 hp hne hR hL HA3
  have hxyb : (x != y) = true := by rw [bne_iff_ne]; exact hxy
  refine wp_region_held_drew (S := fun W => W = w3.drew) (by kernel_rfl) rfl (fun hHeld => ?_)
  obtain ⟨wd, hwd⟩ : ∃ x, x = w3.drew := ⟨_, rfl⟩
  have HKd : Hid (Kept W wd) := by rw [hwd]; exact below_drew0 HK3.out
  have d0 : wd.cell? ad = some (.int .i64 x) := by rw [hwd]; exact c0
  have d1 : wd.cell? ⟨ad.block, ad.off + 1, none⟩ = some (.int .i64 y) := by rw [hwd]; exact c1
  rw [← hwd] at hHeld ⊢
  clear hwd c0 c1
  refine wpAnyH_takeC (i := 0) (oi := ⟨some 14, _, _, _, _, _⟩) (v := ?_) rfl (by kernel_rfl) (by kernel_rfl) (by kernel_rfl) (fun _ _ _ h => h) (Or.inl ⟨by rfl, ?_⟩) hHeld ?_
  rotate_left
  · (intro w hSw; obtain rfl := hSw; refine .inl ?_; go_simp; (try with_reducible rfl))
  try simp only [Act.put, List.setIfInBounds_toArray, List.set_cons_zero, List.set_cons_succ]
  refine wpAnyH_takeC (i := 1) (oi := ⟨some 15, _, _, _, _, _⟩) (v := ?_) rfl (by kernel_rfl) (by kernel_rfl) (by kernel_rfl) (fun _ _ _ h => h) (Or.inl ⟨by rfl, ?_⟩) hHeld ?_
  rotate_left
  · (intro w hSw; obtain rfl := hSw; refine .inl ?_; go_simp; (try with_reducible rfl))
  try simp only [Act.put, List.setIfInBounds_toArray, List.set_cons_zero, List.set_cons_succ]
  refine wpAnyH_takeC (i := 2) (oi := ⟨some 16, _, _, _, _, _⟩) (v := ?_) rfl (by kernel_rfl) (by kernel_rfl) (by kernel_rfl) (fun _ _ _ h => h) (Or.inl ⟨by rfl, ?_⟩) hHeld ?_
  rotate_left
  · (intro w hSw; obtain rfl := hSw; refine .inl ?_; go_simp; (try with_reducible rfl))
  try simp only [Act.put, List.setIfInBounds_toArray, List.set_cons_zero, List.set_cons_succ]
  refine wpAnyH_takeC (i := 3) (oi := ⟨some 17, _, _, _, _, _⟩) (v := ?_) rfl (by kernel_rfl) (by kernel_rfl) (by kernel_rfl) (fun _ _ _ h => h) (Or.inl ⟨by rfl, ?_⟩) hHeld ?_
  rotate_left
  · (intro w hSw; obtain rfl := hSw; refine .inl ?_; go_simp; (try with_reducible rfl))
  try simp only [Act.put, List.setIfInBounds_toArray, List.set_cons_zero, List.set_cons_succ]
  refine wpAnyH_takeC (i := 4) (oi := ⟨some 18, _, _, _, _, _⟩) (v := ?_) rfl (by kernel_rfl) (by kernel_rfl) (by kernel_rfl) (fun _ _ _ h => h) (Or.inl ⟨by rfl, ?_⟩) hHeld ?_
  rotate_left
  · (intro w hSw; obtain rfl := hSw; refine .inl ?_; go_simp; (try with_reducible rfl))
  try simp only [Act.put, List.setIfInBounds_toArray, List.set_cons_zero, List.set_cons_succ]
  refine wpAnyH_takeC (i := 5) (oi := ⟨some 19, _, _, _, _, _⟩) (v := ?_) rfl (by kernel_rfl) (by kernel_rfl) (by kernel_rfl) (fun _ _ _ h => h) (Or.inl ⟨by rfl, ?_⟩) hHeld ?_
  rotate_left
  · (intro w hSw; obtain rfl := hSw; refine .inl ?_; go_simp; (try with_reducible rfl))
  try simp only [Act.put, List.setIfInBounds_toArray, List.set_cons_zero, List.set_cons_succ]
  refine wpAnyH_takeC (i := 6) (oi := ⟨some 20, _, _, _, _, _⟩) (v := ?_) rfl (by kernel_rfl) (by kernel_rfl) (by kernel_rfl) (fun _ _ _ h => h) (Or.inl ⟨by rfl, ?_⟩) hHeld ?_
  rotate_left
  · (intro w hSw; obtain rfl := hSw; refine .inl ?_; go_simp; (try with_reducible rfl))
  try simp only [Act.put, List.setIfInBounds_toArray, List.set_cons_zero, List.set_cons_succ]
  refine wpAnyH_takeC (i := 7) (oi := ⟨some 21, _, _, _, _, _⟩) (v := ?_) rfl (by kernel_rfl) (by kernel_rfl) (by kernel_rfl) (fun _ _ _ h => h) (Or.inl ⟨by rfl, ?_⟩) hHeld ?_
  rotate_left
  · (intro w hSw; obtain rfl := hSw; refine .inl ?_; go_simp; (try with_reducible rfl))
  try simp only [Act.put, List.setIfInBounds_toArray, List.set_cons_zero, List.set_cons_succ]
  refine wpAnyH_takeC (i := 8) (oi := ⟨some 22, _, _, _, _, _⟩) (v := ?_) rfl (by kernel_rfl) (by kernel_rfl) (by kernel_rfl) (fun _ _ _ h => h) (Or.inl ⟨by rfl, ?_⟩) hHeld ?_
  rotate_left
  · (intro w hSw; obtain rfl := hSw; refine .inl ?_; go_simp; (try with_reducible rfl))
  try simp only [Act.put, List.setIfInBounds_toArray, List.set_cons_zero, List.set_cons_succ]
  refine wpAnyH_takeC (i := 9) (oi := ⟨some 23, _, _, _, _, _⟩) (v := ?_) rfl (by kernel_rfl) (by kernel_rfl) (by kernel_rfl) (fun _ _ _ h => h) (Or.inl ⟨by rfl, ?_⟩) hHeld ?_
  rotate_left
  · (intro w hSw; obtain rfl := hSw; refine .inl ?_; go_simp; (try with_reducible rfl))
  try simp only [Act.put, List.setIfInBounds_toArray, List.set_cons_zero, List.set_cons_succ]
  refine wpAnyH_takeC (i := 10) (oi := ⟨some 24, _, _, _, _, _⟩) (v := ?_) rfl (by kernel_rfl) (by kernel_rfl) (by kernel_rfl) (fun _ _ _ h => h) (Or.inl ⟨by rfl, ?_⟩) hHeld ?_
  rotate_left
  · (intro w hSw; obtain rfl := hSw; refine .inl ?_; go_simp; (try with_reducible rfl))
  try simp only [Act.put, List.setIfInBounds_toArray, List.set_cons_zero, List.set_cons_succ]
  refine wpAnyH_takeC (i := 11) (oi := ⟨some 25, _, _, _, _, _⟩) (v := ?_) rfl (by kernel_rfl) (by kernel_rfl) (by kernel_rfl) (fun _ _ _ h => h) (Or.inl ⟨by rfl, ?_⟩) hHeld ?_
  rotate_left
  · (intro w hSw; obtain rfl := hSw; refine .inl ?_; go_simp; (try with_reducible rfl))
  try simp only [Act.put, List.setIfInBounds_toArray, List.set_cons_zero, List.set_cons_succ]
  refine wpAnyH_takeC (i := 12) (oi := ⟨some 26, _, _, _, _, _⟩) (v := ?_) rfl (by kernel_rfl) (by kernel_rfl) (by kernel_rfl) (fun _ _ _ h => h) (Or.inl ⟨by rfl, ?_⟩) hHeld ?_
  rotate_left
  · (intro w hSw; obtain rfl := hSw; refine .inl ?_; go_simp; (try with_reducible rfl))
  try simp only [Act.put, List.setIfInBounds_toArray, List.set_cons_zero, List.set_cons_succ]
  refine wpAnyH_takeC (i := 13) (oi := ⟨some 27, _, _, _, _, _⟩) (v := ?_) rfl (by kernel_rfl) (by kernel_rfl) (by kernel_rfl) (fun _ _ _ h => h) (Or.inl ⟨by rfl, ?_⟩) hHeld ?_
  rotate_left
  · (intro w hSw; obtain rfl := hSw; refine .inl ?_; go_simp; (try with_reducible rfl))
  try simp only [Act.put, List.setIfInBounds_toArray, List.set_cons_zero, List.set_cons_succ]
  refine wpAnyH_done (by kernel_rfl) ?_ _
  go_wp2_with fail
  go_ret
  exact ⟨by rw [HS.out]; rfl, HKd.out⟩
set_option maxRecDepth 100000 in
set_option maxHeartbeats 4000000 in
theorem sett_esc (x : Int) (hx : 33 ≤ x ∧ x ≤ 126) (hb : noAt.contains (UInt8.ofNat x.toNat) = true) (hR : rgtR 0 [(x, x)] = true) (hp : ∀ r ∈ [(x, x)], PtC r.1 ∧ PtC r.2) : SetC [(x, x)] := by
  intro A c W hA
  have HA := Lib.hid hA
  clear hA
  obtain ⟨L, hLe⟩ : ∃ L : List Rng, L = [(x, x)] := ⟨_, rfl⟩
  have hL : L.length ≤ 1000 := by rw [hLe]; simp
  have hne : L ≠ [] := by rw [hLe]; simp
  have Hl1 : Hid (L.length = 1) := by show _ = _; rw [hLe]; rfl
  have HD : Hid (decide (L = allR) = false) := Lib.hid (decide_eq_false (by rw [hLe]; unfold allR; simp))
  have HLe := Lib.hid hLe
  rw [← hLe] at HA hR hp ⊢
  have HS : Hid (setS L = [92, UInt8.ofNat x.toNat]) := by
    show _ = _
    rw [hLe]
    unfold setS
    rw [if_neg (by unfold allR; simp)]
    dsimp only
    rw [if_neg (by simp), if_neg (by omega), hb]
    rfl
  clear hLe
  have CA := Lib.hid (all_any W)
  go_enter Tryz.func63, Tryz.ntmps63
  go_wp2_with fail
  refine CA.out.mono ?_
  rintro e w1 ⟨v, rfl, hown, hk1⟩
  obtain ⟨B, d, rfl, hrB⟩ := own_rdr (L := allR) hown
  have HB := Lib.hid hrB
  have HA1 := Lib.hid (rdr_kept HA.out hk1)
  have HK1 := Lib.hid hk1
  clear hown hrB hk1 CA
  go_wp2_with fail
  refine (requal_any A B c d L allR hL (by decide) w1 HA1.out HB.out).mono ?_
  rintro e w2 ⟨rfl, hk2⟩
  rw [HD.out]
  have HA2 := Lib.hid (rdr_kept HA1.out hk2)
  have HK2 := Lib.hid (below_kept HK1.out hk2)
  clear hk2 HA1 HK1 HB
  go_wp2_with fail
  refine (ctext_any A c L hL hne hR hp w2 HA2.out).mono ?_
  rintro e w3 ⟨rfl, hk3⟩
  have HA3 := Lib.hid (rdr_kept HA2.out hk3)
  have HK3 := Lib.hid (below_kept HK2.out hk3)
  clear hk3 HA2 HK2
  go_upto_region 4 with fail
  have hc0 : Hid (∃ ad, A = some ad ∧ w3.cell? ad = some (.int .i64 x) ∧ w3.cell? (ad.add 1) = some (.int .i64 x)) := by
    obtain ⟨ad, z, rfl, hadb, hx, hd, h0, h1⟩ := rdr_at HA3.out (k := 0) (by rw [Hl1.out]; exact Nat.zero_lt_one)
    rw [HLe.out] at hx
    simp at hx
    subst hx
    rw [Nat.zero_mul, add_z] at h0
    exact Lib.hid ⟨ad, rfl, h0, h1⟩
  rw [Hl1.out]
  obtain ⟨ad, rfl, c0, c1⟩ := hc0.out
  clear hc0 hp hne hR hL HA3
  have CC := Lib.hid (fun w => contains_l noAt x (by omega) w)
  rw [hb] at CC
  have hw : IntKind.i32.wrap x = x := by rw [IntKind.wrap_i32]; omega
  have hen : Utf8.encode x = b8 [UInt8.ofNat x.toNat] := enc_ascii x (by omega)
  have hxyb : (x != x) = false := by simp
  clear hb
  refine wp_region_held_drew (S := fun W => W = w3.drew) (by kernel_rfl) rfl (fun hHeld => ?_)
  obtain ⟨wd, hwd⟩ : ∃ x, x = w3.drew := ⟨_, rfl⟩
  have HKd : Hid (Kept W wd) := by rw [hwd]; exact below_drew0 HK3.out
  have d0 : wd.cell? ad = some (.int .i64 x) := by rw [hwd]; exact c0
  have d1 : wd.cell? ⟨ad.block, ad.off + 1, none⟩ = some (.int .i64 x) := by rw [hwd]; exact c1
  rw [← hwd] at hHeld ⊢
  clear hwd c0 c1
  refine wpAnyH_takeC (i := 0) (oi := ⟨some 14, _, _, _, _, _⟩) (v := ?_) rfl (by kernel_rfl) (by kernel_rfl) (by kernel_rfl) (fun _ _ _ h => h) (Or.inl ⟨by rfl, ?_⟩) hHeld ?_
  rotate_left
  · (intro w hSw; obtain rfl := hSw; refine .inl ?_; go_simp; (try with_reducible rfl))
  try simp only [Act.put, List.setIfInBounds_toArray, List.set_cons_zero, List.set_cons_succ]
  refine wpAnyH_takeC (i := 1) (oi := ⟨some 15, _, _, _, _, _⟩) (v := ?_) rfl (by kernel_rfl) (by kernel_rfl) (by kernel_rfl) (fun _ _ _ h => h) (Or.inl ⟨by rfl, ?_⟩) hHeld ?_
  rotate_left
  · (intro w hSw; obtain rfl := hSw; refine .inl ?_; go_simp; (try with_reducible rfl))
  try simp only [Act.put, List.setIfInBounds_toArray, List.set_cons_zero, List.set_cons_succ]
  refine wpAnyH_takeC (i := 2) (oi := ⟨some 16, _, _, _, _, _⟩) (v := ?_) rfl (by kernel_rfl) (by kernel_rfl) (by kernel_rfl) (fun _ _ _ h => h) (Or.inl ⟨by rfl, ?_⟩) hHeld ?_
  rotate_left
  · (intro w hSw; obtain rfl := hSw; refine .inl ?_; go_simp; (try with_reducible rfl))
  try simp only [Act.put, List.setIfInBounds_toArray, List.set_cons_zero, List.set_cons_succ]
  refine wpAnyH_takeC (i := 3) (oi := ⟨some 17, _, _, _, _, _⟩) (v := ?_) rfl (by kernel_rfl) (by kernel_rfl) (by kernel_rfl) (fun _ _ _ h => h) (Or.inl ⟨by rfl, ?_⟩) hHeld ?_
  rotate_left
  · (intro w hSw; obtain rfl := hSw; refine .inl ?_; go_simp; (try with_reducible rfl))
  try simp only [Act.put, List.setIfInBounds_toArray, List.set_cons_zero, List.set_cons_succ]
  refine wpAnyH_takeC (i := 4) (oi := ⟨some 18, _, _, _, _, _⟩) (v := ?_) rfl (by kernel_rfl) (by kernel_rfl) (by kernel_rfl) (fun _ _ _ h => h) (Or.inl ⟨by rfl, ?_⟩) hHeld ?_
  rotate_left
  · (intro w hSw; obtain rfl := hSw; refine .inl ?_; go_simp; (try with_reducible rfl))
  try simp only [Act.put, List.setIfInBounds_toArray, List.set_cons_zero, List.set_cons_succ]
  refine wpAnyH_takeC (i := 5) (oi := ⟨some 19, _, _, _, _, _⟩) (v := ?_) rfl (by kernel_rfl) (by kernel_rfl) (by kernel_rfl) (fun _ _ _ h => h) (Or.inl ⟨by rfl, ?_⟩) hHeld ?_
  rotate_left
  · (intro w hSw; obtain rfl := hSw; refine .inl ?_; go_simp; (try with_reducible rfl))
  try simp only [Act.put, List.setIfInBounds_toArray, List.set_cons_zero, List.set_cons_succ]
  refine wpAnyH_takeC (i := 6) (oi := ⟨some 20, _, _, _, _, _⟩) (v := ?_) rfl (by kernel_rfl) (by kernel_rfl) (by kernel_rfl) (fun _ _ _ h => h) (Or.inl ⟨by rfl, ?_⟩) hHeld ?_
  rotate_left
  · (intro w hSw; obtain rfl := hSw; refine .inl ?_; go_simp; (try with_reducible rfl))
  try simp only [Act.put, List.setIfInBounds_toArray, List.set_cons_zero, List.set_cons_succ]
  refine wpAnyH_takeC (i := 7) (oi := ⟨some 21, _, _, _, _, _⟩) (v := ?_) rfl (by kernel_rfl) (by kernel_rfl) (by kernel_rfl) (fun _ _ _ h => h) (Or.inl ⟨by rfl, ?_⟩) hHeld ?_
  rotate_left
  · (intro w hSw; obtain rfl := hSw; refine .inl ?_; go_simp; (try with_reducible rfl))
  try simp only [Act.put, List.setIfInBounds_toArray, List.set_cons_zero, List.set_cons_succ]
  refine wpAnyH_takeC (i := 8) (oi := ⟨some 22, _, _, _, _, _⟩) (v := ?_) rfl (by kernel_rfl) (by kernel_rfl) (by kernel_rfl) (fun _ _ _ h => h) (Or.inl ⟨by rfl, ?_⟩) hHeld ?_
  rotate_left
  · (intro w hSw; obtain rfl := hSw; refine .inl ?_; go_simp; (try with_reducible rfl))
  try simp only [Act.put, List.setIfInBounds_toArray, List.set_cons_zero, List.set_cons_succ]
  refine wpAnyH_takeC (i := 9) (oi := ⟨some 23, _, _, _, _, _⟩) (v := ?_) rfl (by kernel_rfl) (by kernel_rfl) (by kernel_rfl) (fun _ _ _ h => h) (Or.inl ⟨by rfl, ?_⟩) hHeld ?_
  rotate_left
  · (intro w hSw; obtain rfl := hSw; refine .inl ?_; go_simp; (try with_reducible rfl))
  try simp only [Act.put, List.setIfInBounds_toArray, List.set_cons_zero, List.set_cons_succ]
  refine wpAnyH_takeC (i := 10) (oi := ⟨some 24, _, _, _, _, _⟩) (v := ?_) rfl (by kernel_rfl) (by kernel_rfl) (by kernel_rfl) (fun _ _ _ h => h) (Or.inl ⟨by rfl, ?_⟩) hHeld ?_
  rotate_left
  · (intro w hSw; obtain rfl := hSw; refine .inl ?_; go_simp; (try with_reducible rfl))
  try simp only [Act.put, List.setIfInBounds_toArray, List.set_cons_zero, List.set_cons_succ]
  refine wpAnyH_takeC (i := 11) (oi := ⟨some 25, _, _, _, _, _⟩) (v := ?_) rfl (by kernel_rfl) (by kernel_rfl) (by kernel_rfl) (fun _ _ _ h => h) (Or.inl ⟨by rfl, ?_⟩) hHeld ?_
  rotate_left
  · (intro w hSw; obtain rfl := hSw; refine .inl ?_; go_simp; (try with_reducible rfl))
  try simp only [Act.put, List.setIfInBounds_toArray, List.set_cons_zero, List.set_cons_succ]
  refine wpAnyH_takeC (i := 12) (oi := ⟨some 26, _, _, _, _, _⟩) (v := ?_) rfl (by kernel_rfl) (by kernel_rfl) (by kernel_rfl) (fun _ _ _ h => h) (Or.inl ⟨by rfl, ?_⟩) hHeld ?_
  rotate_left
  · (intro w hSw; obtain rfl := hSw; refine .inl ?_; go_simp; (try with_reducible rfl))
  try simp only [Act.put, List.setIfInBounds_toArray, List.set_cons_zero, List.set_cons_succ]
  refine wpAnyH_takeC (i := 13) (oi := ⟨some 27, _, _, _, _, _⟩) (v := ?_) rfl (by kernel_rfl) (by kernel_rfl) (by kernel_rfl) (fun _ _ _ h => h) (Or.inl ⟨by rfl, ?_⟩) hHeld ?_
  rotate_left
  · (intro w hSw; obtain rfl := hSw; refine .inl ?_; go_simp; (try with_reducible rfl))
  try simp only [Act.put, List.setIfInBounds_toArray, List.set_cons_zero, List.set_cons_succ]
  refine wpAnyH_done (by kernel_rfl) ?_ _
  go_wp2_with fail
  refine (CC.out _).mono ?_
  rintro e w5 ⟨rfl, rfl⟩
  go_wp2_with fail
  go_ret
  exact ⟨by rw [HS.out]; rfl, HKd.out⟩
set_option maxRecDepth 100000 in
set_option maxHeartbeats 4000000 in
theorem sett_one (x : Int) (hx : 33 ≤ x ∧ x ≤ 126) (hb : noAt.contains (UInt8.ofNat x.toNat) = false) (hR : rgtR 0 [(x, x)] = true) (hp : ∀ r ∈ [(x, x)], PtC r.1 ∧ PtC r.2) : SetC [(x, x)] := by
  intro A c W hA
  have HA := Lib.hid hA
  clear hA
  obtain ⟨L, hLe⟩ : ∃ L : List Rng, L = [(x, x)] := ⟨_, rfl⟩
  have hL : L.length ≤ 1000 := by rw [hLe]; simp
  have hne : L ≠ [] := by rw [hLe]; simp
  have Hl1 : Hid (L.length = 1) := by show _ = _; rw [hLe]; rfl
  have HD : Hid (decide (L = allR) = false) := Lib.hid (decide_eq_false (by rw [hLe]; unfold allR; simp))
  have HLe := Lib.hid hLe
  rw [← hLe] at HA hR hp ⊢
  have HS : Hid (setS L = [UInt8.ofNat x.toNat]) := by
    show _ = _
    rw [hLe]
    unfold setS
    rw [if_neg (by unfold allR; simp)]
    dsimp only
    rw [if_neg (by simp), if_neg (by omega), hb]
    rfl
  clear hLe
  have CA := Lib.hid (all_any W)
  go_enter Tryz.func63, Tryz.ntmps63
  go_wp2_with fail
  refine CA.out.mono ?_
  rintro e w1 ⟨v, rfl, hown, hk1⟩
  obtain ⟨B, d, rfl, hrB⟩ := own_rdr (L := allR) hown
  have HB := Lib.hid hrB
  have HA1 := Lib.hid (rdr_kept HA.out hk1)
  have HK1 := Lib.hid hk1
  clear hown hrB hk1 CA
  go_wp2_with fail
  refine (requal_any A B c d L allR hL (by decide) w1 HA1.out HB.out).mono ?_
  rintro e w2 ⟨rfl, hk2⟩
  rw [HD.out]
  have HA2 := Lib.hid (rdr_kept HA1.out hk2)
  have HK2 := Lib.hid (below_kept HK1.out hk2)
  clear hk2 HA1 HK1 HB
  go_wp2_with fail
  refine (ctext_any A c L hL hne hR hp w2 HA2.out).mono ?_
  rintro e w3 ⟨rfl, hk3⟩
  have HA3 := Lib.hid (rdr_kept HA2.out hk3)
  have HK3 := Lib.hid (below_kept HK2.out hk3)
  clear hk3 HA2 HK2
  go_upto_region 4 with fail
  have hc0 : Hid (∃ ad, A = some ad ∧ w3.cell? ad = some (.int .i64 x) ∧ w3.cell? (ad.add 1) = some (.int .i64 x)) := by
    obtain ⟨ad, z, rfl, hadb, hx, hd, h0, h1⟩ := rdr_at HA3.out (k := 0) (by rw [Hl1.out]; exact Nat.zero_lt_one)
    rw [HLe.out] at hx
    simp at hx
    subst hx
    rw [Nat.zero_mul, add_z] at h0
    exact Lib.hid ⟨ad, rfl, h0, h1⟩
  rw [Hl1.out]
  obtain ⟨ad, rfl, c0, c1⟩ := hc0.out
  clear hc0 hp hne hR hL HA3
  have CC := Lib.hid (fun w => contains_l noAt x (by omega) w)
  rw [hb] at CC
  have hw : IntKind.i32.wrap x = x := by rw [IntKind.wrap_i32]; omega
  have hen : Utf8.encode x = b8 [UInt8.ofNat x.toNat] := enc_ascii x (by omega)
  have hxyb : (x != x) = false := by simp
  clear hb
  refine wp_region_held_drew (S := fun W => W = w3.drew) (by kernel_rfl) rfl (fun hHeld => ?_)
  obtain ⟨wd, hwd⟩ : ∃ x, x = w3.drew := ⟨_, rfl⟩
  have HKd : Hid (Kept W wd) := by rw [hwd]; exact below_drew0 HK3.out
  have d0 : wd.cell? ad = some (.int .i64 x) := by rw [hwd]; exact c0
  have d1 : wd.cell? ⟨ad.block, ad.off + 1, none⟩ = some (.int .i64 x) := by rw [hwd]; exact c1
  rw [← hwd] at hHeld ⊢
  clear hwd c0 c1
  refine wpAnyH_takeC (i := 0) (oi := ⟨some 14, _, _, _, _, _⟩) (v := ?_) rfl (by kernel_rfl) (by kernel_rfl) (by kernel_rfl) (fun _ _ _ h => h) (Or.inl ⟨by rfl, ?_⟩) hHeld ?_
  rotate_left
  · (intro w hSw; obtain rfl := hSw; refine .inl ?_; go_simp; (try with_reducible rfl))
  try simp only [Act.put, List.setIfInBounds_toArray, List.set_cons_zero, List.set_cons_succ]
  refine wpAnyH_takeC (i := 1) (oi := ⟨some 15, _, _, _, _, _⟩) (v := ?_) rfl (by kernel_rfl) (by kernel_rfl) (by kernel_rfl) (fun _ _ _ h => h) (Or.inl ⟨by rfl, ?_⟩) hHeld ?_
  rotate_left
  · (intro w hSw; obtain rfl := hSw; refine .inl ?_; go_simp; (try with_reducible rfl))
  try simp only [Act.put, List.setIfInBounds_toArray, List.set_cons_zero, List.set_cons_succ]
  refine wpAnyH_takeC (i := 2) (oi := ⟨some 16, _, _, _, _, _⟩) (v := ?_) rfl (by kernel_rfl) (by kernel_rfl) (by kernel_rfl) (fun _ _ _ h => h) (Or.inl ⟨by rfl, ?_⟩) hHeld ?_
  rotate_left
  · (intro w hSw; obtain rfl := hSw; refine .inl ?_; go_simp; (try with_reducible rfl))
  try simp only [Act.put, List.setIfInBounds_toArray, List.set_cons_zero, List.set_cons_succ]
  refine wpAnyH_takeC (i := 3) (oi := ⟨some 17, _, _, _, _, _⟩) (v := ?_) rfl (by kernel_rfl) (by kernel_rfl) (by kernel_rfl) (fun _ _ _ h => h) (Or.inl ⟨by rfl, ?_⟩) hHeld ?_
  rotate_left
  · (intro w hSw; obtain rfl := hSw; refine .inl ?_; go_simp; (try with_reducible rfl))
  try simp only [Act.put, List.setIfInBounds_toArray, List.set_cons_zero, List.set_cons_succ]
  refine wpAnyH_takeC (i := 4) (oi := ⟨some 18, _, _, _, _, _⟩) (v := ?_) rfl (by kernel_rfl) (by kernel_rfl) (by kernel_rfl) (fun _ _ _ h => h) (Or.inl ⟨by rfl, ?_⟩) hHeld ?_
  rotate_left
  · (intro w hSw; obtain rfl := hSw; refine .inl ?_; go_simp; (try with_reducible rfl))
  try simp only [Act.put, List.setIfInBounds_toArray, List.set_cons_zero, List.set_cons_succ]
  refine wpAnyH_takeC (i := 5) (oi := ⟨some 19, _, _, _, _, _⟩) (v := ?_) rfl (by kernel_rfl) (by kernel_rfl) (by kernel_rfl) (fun _ _ _ h => h) (Or.inl ⟨by rfl, ?_⟩) hHeld ?_
  rotate_left
  · (intro w hSw; obtain rfl := hSw; refine .inl ?_; go_simp; (try with_reducible rfl))
  try simp only [Act.put, List.setIfInBounds_toArray, List.set_cons_zero, List.set_cons_succ]
  refine wpAnyH_takeC (i := 6) (oi := ⟨some 20, _, _, _, _, _⟩) (v := ?_) rfl (by kernel_rfl) (by kernel_rfl) (by kernel_rfl) (fun _ _ _ h => h) (Or.inl ⟨by rfl, ?_⟩) hHeld ?_
  rotate_left
  · (intro w hSw; obtain rfl := hSw; refine .inl ?_; go_simp; (try with_reducible rfl))
  try simp only [Act.put, List.setIfInBounds_toArray, List.set_cons_zero, List.set_cons_succ]
  refine wpAnyH_takeC (i := 7) (oi := ⟨some 21, _, _, _, _, _⟩) (v := ?_) rfl (by kernel_rfl) (by kernel_rfl) (by kernel_rfl) (fun _ _ _ h => h) (Or.inl ⟨by rfl, ?_⟩) hHeld ?_
  rotate_left
  · (intro w hSw; obtain rfl := hSw; refine .inl ?_; go_simp; (try with_reducible rfl))
  try simp only [Act.put, List.setIfInBounds_toArray, List.set_cons_zero, List.set_cons_succ]
  refine wpAnyH_takeC (i := 8) (oi := ⟨some 22, _, _, _, _, _⟩) (v := ?_) rfl (by kernel_rfl) (by kernel_rfl) (by kernel_rfl) (fun _ _ _ h => h) (Or.inl ⟨by rfl, ?_⟩) hHeld ?_
  rotate_left
  · (intro w hSw; obtain rfl := hSw; refine .inl ?_; go_simp; (try with_reducible rfl))
  try simp only [Act.put, List.setIfInBounds_toArray, List.set_cons_zero, List.set_cons_succ]
  refine wpAnyH_takeC (i := 9) (oi := ⟨some 23, _, _, _, _, _⟩) (v := ?_) rfl (by kernel_rfl) (by kernel_rfl) (by kernel_rfl) (fun _ _ _ h => h) (Or.inl ⟨by rfl, ?_⟩) hHeld ?_
  rotate_left
  · (intro w hSw; obtain rfl := hSw; refine .inl ?_; go_simp; (try with_reducible rfl))
  try simp only [Act.put, List.setIfInBounds_toArray, List.set_cons_zero, List.set_cons_succ]
  refine wpAnyH_takeC (i := 10) (oi := ⟨some 24, _, _, _, _, _⟩) (v := ?_) rfl (by kernel_rfl) (by kernel_rfl) (by kernel_rfl) (fun _ _ _ h => h) (Or.inl ⟨by rfl, ?_⟩) hHeld ?_
  rotate_left
  · (intro w hSw; obtain rfl := hSw; refine .inl ?_; go_simp; (try with_reducible rfl))
  try simp only [Act.put, List.setIfInBounds_toArray, List.set_cons_zero, List.set_cons_succ]
  refine wpAnyH_takeC (i := 11) (oi := ⟨some 25, _, _, _, _, _⟩) (v := ?_) rfl (by kernel_rfl) (by kernel_rfl) (by kernel_rfl) (fun _ _ _ h => h) (Or.inl ⟨by rfl, ?_⟩) hHeld ?_
  rotate_left
  · (intro w hSw; obtain rfl := hSw; refine .inl ?_; go_simp; (try with_reducible rfl))
  try simp only [Act.put, List.setIfInBounds_toArray, List.set_cons_zero, List.set_cons_succ]
  refine wpAnyH_takeC (i := 12) (oi := ⟨some 26, _, _, _, _, _⟩) (v := ?_) rfl (by kernel_rfl) (by kernel_rfl) (by kernel_rfl) (fun _ _ _ h => h) (Or.inl ⟨by rfl, ?_⟩) hHeld ?_
  rotate_left
  · (intro w hSw; obtain rfl := hSw; refine .inl ?_; go_simp; (try with_reducible rfl))
  try simp only [Act.put, List.setIfInBounds_toArray, List.set_cons_zero, List.set_cons_succ]
  refine wpAnyH_takeC (i := 13) (oi := ⟨some 27, _, _, _, _, _⟩) (v := ?_) rfl (by kernel_rfl) (by kernel_rfl) (by kernel_rfl) (fun _ _ _ h => h) (Or.inl ⟨by rfl, ?_⟩) hHeld ?_
  rotate_left
  · (intro w hSw; obtain rfl := hSw; refine .inl ?_; go_simp; (try with_reducible rfl))
  try simp only [Act.put, List.setIfInBounds_toArray, List.set_cons_zero, List.set_cons_succ]
  refine wpAnyH_done (by kernel_rfl) ?_ _
  go_wp2_with fail
  refine (CC.out _).mono ?_
  rintro e w5 ⟨rfl, rfl⟩
  go_wp2_with fail
  go_ret
  exact ⟨by rw [HS.out]; rfl, HKd.out⟩
end Go.Proofs.YtmgkdmbifecekaaGreatDoor
