/-
  Package syntax: the text of a set, as a pattern. Package syntax: the writer.
-/
import Derived.Test.YtmgkdmbifecekaaGreatDoorSt4
set_option linter.all false
set_option linter.unusedSimpArgs false
set_option linter.unusedVariables false
set_option linter.unusedSectionVars false
namespace Go.Proofs.YtmgkdmbifecekaaGreatDoor
open Go.RowKit Go.Shelf
theorem own_rdr {w : World} {b : Nat} {v : Value} {L : List Rng} (h : w.ownsRow b 73 2 v L.length (rngs L)) : ∃ A c, v = .slice A L.length c ∧ RdR w w.heap.size A L := by
  rcases h.2 with ⟨rfl, h0⟩ | ⟨g, cap, cur, rfl, hb, hg, hc, hx, hs, ht⟩
  · have hL : L = [] := List.length_eq_zero_iff.1 h0
    subst hL
    exact ⟨none, 0, rfl, Rd.nil⟩
  · refine ⟨_, _, rfl, rngs_length L, fun _ => ⟨_, rfl, heap_lt hg, fun j u hu => ?_⟩⟩
    have hj : j < L.length * 2 := by have := (List.getElem?_eq_some_iff.1 hu).1; rw [rngs_length] at this; exact this
    rw [add0, h.cellAt j hj]
    exact hu
theorem rdr_kept {w w' : World} {A : Option Addr} {L : List Rng} (h : RdR w w.heap.size A L) (hk : Kept w w') : RdR w' w'.heap.size A L := rd_kept hk h
theorem add_z (a : Addr) : a.add 0 = a := by
  unfold Addr.add
  split <;> simp_all
/-- What setText is said to do. -/
abbrev SetC (L : List Rng) : Prop := ∀ (A : Option Addr) (c : Nat) (W : World), RdR W W.heap.size A L → Calls Tryz.prog 63 #[.slice A L.length c] W fun e w' => e = .returned (.string (b8 (setS L))) ∧ Kept W w'
set_option maxRecDepth 100000 in
set_option maxHeartbeats 4000000 in
theorem sett_two (x y : Int) (hR : rgtR 0 [(x, y)] = true) (hp : ∀ r ∈ [(x, y)], PtC r.1 ∧ PtC r.2) (hxy : x ≠ y) : SetC [(x, y)] := by
  intro A c W hA
  have HA := Lib.hid hA
  clear hA
  obtain ⟨L, hLe⟩ : ∃ L : List Rng, L = [(x, y)] := ⟨_, rfl⟩
  have hL : L.length ≤ 1000 := by rw [hLe]; simp
  have hne : L ≠ [] := by rw [hLe]; simp
  have Hl1 : Hid (L.length = 1) := by show _ = _; rw [hLe]; rfl
  have HD : Hid (decide (L = allR) = false) := Lib.hid (decide_eq_false (by rw [hLe]; unfold allR; simp))
  have HLe := Lib.hid hLe
  rw [← hLe] at HA hR hp ⊢
  have HS : Hid (setS L = clsS L) := by
    show _ = _
    rw [hLe]
    unfold setS
    rw [if_neg (by unfold allR; simp)]
    simp [hxy]
  clear hLe
  have CA := Lib.hid (all_any W)
  go_enter Tryz.func63, Tryz.ntmps63
  go_wp2_with fail
  refine CA.out.mono ?_
  rintro e w1 ⟨v, rfl, hown, hk1⟩
  obtain ⟨B, d, rfl, hrB⟩ := own_rdr (L := allR) hown
  have HB := Lib.hid hrB
  have HA1 := Lib.hid (rdr_kept HA.out hk1)
  have HK1 := Lib.hid hk1
  clear hown hrB hk1 CA
  go_wp2_with fail
  refine (requal_any A B c d L allR hL (by decide) w1 HA1.out HB.out).mono ?_
  rintro e w2 ⟨rfl, hk2⟩
  rw [HD.out]
  have HA2 := Lib.hid (rdr_kept HA1.out hk2)
  have HK2 := Lib.hid (below_kept HK1.out hk2)
  clear hk2 HA1 HK1 HB
  go_wp2_with fail
  refine (ctext_any A c L hL hne hR hp w2 HA2.out).mono ?_
  rintro e w3 ⟨rfl, hk3⟩
  have HA3 := Lib.hid (rdr_kept HA2.out hk3)
  have HK3 := Lib.hid (below_kept HK2.out hk3)
  clear hk3 HA2 HK2
  go_upto_region 4 with fail
  have hc0 : Hid (∃ ad, A = some ad ∧ w3.cell? ad = some (.int .i64 x) ∧ w3.cell? (ad.add 1) = some (.int .i64 y)) := by
    obtain ⟨ad, z, rfl, hadb, hx, hd, h0, h1⟩ := rdr_at HA3.out (k := 0) (by rw [Hl1.out]; exact Nat.zero_lt_one)
    rw [HLe.out] at hx
    simp at hx
    subst hx
    rw [Nat.zero_mul, add_z] at h0
    exact Lib.hid ⟨ad, rfl, h0, h1⟩
  rw [Hl1.out]
  obtain ⟨ad, rfl, c0, c1⟩ := hc0.out
  clear hc0 hp hne hR hL HA3
  have hxyb : (x != y) = true := by rw [bne_iff_ne]; exact hxy
  refine wp_region_held_drew (S := fun W => W = w3.drew) (by kernel_rfl) rfl (fun hHeld => ?_)
  obtain ⟨wd, hwd⟩ : ∃ x, x = w3.drew := ⟨_, rfl⟩
  have HKd : Hid (Kept W wd) := by rw [hwd]; exact below_drew0 HK3.out
  have d0 : wd.cell? ad = some (.int .i64 x) := by rw [hwd]; exact c0
  have d1 : wd.cell? ⟨ad.block, ad.off + 1, none⟩ = some (.int .i64 y) := by rw [hwd]; exact c1
  rw [← hwd] at hHeld ⊢
  clear hwd c0 c1
  refine tkC 0 (oi := ⟨some 14, _, _, _, _, _⟩) (v := ?_) rfl (by kernel_rfl) (fun _ _ _ h => h) (by rfl) ?_ hHeld ?_
  rotate_left
  · (intro w hSw; obtain rfl := hSw; refine .inl ?_; go_simp; (try with_reducible rfl))
  try simp only [pU1, pU2, pU3, pU4]
  refine tkC 1 (oi := ⟨some 15, _, _, _, _, _⟩) (v := ?_) rfl (by kernel_rfl) (fun _ _ _ h => h) (by rfl) ?_ hHeld ?_
  rotate_left
  · (intro w hSw; obtain rfl := hSw; refine .inl ?_; go_simp; (try with_reducible rfl))
  try simp only [pU1, pU2, pU3, pU4]
  refine tkC 2 (oi := ⟨some 16, _, _, _, _, _⟩) (v := ?_) rfl (by kernel_rfl) (fun _ _ _ h => h) (by rfl) ?_ hHeld ?_
  rotate_left
  · (intro w hSw; obtain rfl := hSw; refine .inl ?_; go_simp; (try with_reducible rfl))
  try simp only [pU1, pU2, pU3, pU4]
  refine tkC 3 (oi := ⟨some 17, _, _, _, _, _⟩) (v := ?_) rfl (by kernel_rfl) (fun _ _ _ h => h) (by rfl) ?_ hHeld ?_
  rotate_left
  · (intro w hSw; obtain rfl := hSw; refine .inl ?_; go_simp; (try with_reducible rfl))
  try simp only [pU1, pU2, pU3, pU4]
  refine tkC 4 (oi := ⟨some 18, _, _, _, _, _⟩) (v := ?_) rfl (by kernel_rfl) (fun _ _ _ h => h) (by rfl) ?_ hHeld ?_
  rotate_left
  · (intro w hSw; obtain rfl := hSw; refine .inl ?_; go_simp; (try with_reducible rfl))
  try simp only [pU1, pU2, pU3, pU4]
  refine tkC 5 (oi := ⟨some 19, _, _, _, _, _⟩) (v := ?_) rfl (by kernel_rfl) (fun _ _ _ h => h) (by rfl) ?_ hHeld ?_
  rotate_left
  · (intro w hSw; obtain rfl := hSw; refine .inl ?_; go_simp; (try with_reducible rfl))
  try simp only [pU1, pU2, pU3, pU4]
  refine tkC 6 (oi := ⟨some 20, _, _, _, _, _⟩) (v := ?_) rfl (by kernel_rfl) (fun _ _ _ h => h) (by rfl) ?_ hHeld ?_
  rotate_left
  · (intro w hSw; obtain rfl := hSw; refine .inl ?_; go_simp; (try with_reducible rfl))
  try simp only [pU1, pU2, pU3, pU4]
  refine tkC 7 (oi := ⟨some 21, _, _, _, _, _⟩) (v := ?_) rfl (by kernel_rfl) (fun _ _ _ h => h) (by rfl) ?_ hHeld ?_
  rotate_left
  · (intro w hSw; obtain rfl := hSw; refine .inl ?_; go_simp; (try with_reducible rfl))
  try simp only [pU1, pU2, pU3, pU4]
  refine tkC 8 (oi := ⟨some 22, _, _, _, _, _⟩) (v := ?_) rfl (by kernel_rfl) (fun _ _ _ h => h) (by rfl) ?_ hHeld ?_
  rotate_left
  · (intro w hSw; obtain rfl := hSw; refine .inl ?_; go_simp; (try with_reducible rfl))
  try simp only [pU1, pU2, pU3, pU4]
  refine tkC 9 (oi := ⟨some 23, _, _, _, _, _⟩) (v := ?_) rfl (by kernel_rfl) (fun _ _ _ h => h) (by rfl) ?_ hHeld ?_
  rotate_left
  · (intro w hSw; obtain rfl := hSw; refine .inl ?_; go_simp; (try with_reducible rfl))
  try simp only [pU1, pU2, pU3, pU4]
  refine tkC 10 (oi := ⟨some 24, _, _, _, _, _⟩) (v := ?_) rfl (by kernel_rfl) (fun _ _ _ h => h) (by rfl) ?_ hHeld ?_
  rotate_left
  · (intro w hSw; obtain rfl := hSw; refine .inl ?_; go_simp; (try with_reducible rfl))
  try simp only [pU1, pU2, pU3, pU4]
  refine tkC 11 (oi := ⟨some 25, _, _, _, _, _⟩) (v := ?_) rfl (by kernel_rfl) (fun _ _ _ h => h) (by rfl) ?_ hHeld ?_
  rotate_left
  · (intro w hSw; obtain rfl := hSw; refine .inl ?_; go_simp; (try with_reducible rfl))
  try simp only [pU1, pU2, pU3, pU4]
  refine tkC 12 (oi := ⟨some 26, _, _, _, _, _⟩) (v := ?_) rfl (by kernel_rfl) (fun _ _ _ h => h) (by rfl) ?_ hHeld ?_
  rotate_left
  · (intro w hSw; obtain rfl := hSw; refine .inl ?_; go_simp; (try with_reducible rfl))
  try simp only [pU1, pU2, pU3, pU4]
  refine tkC 13 (oi := ⟨some 27, _, _, _, _, _⟩) (v := ?_) rfl (by kernel_rfl) (fun _ _ _ h => h) (by rfl) ?_ hHeld ?_
  rotate_left
  · (intro w hSw; obtain rfl := hSw; refine .inl ?_; go_simp; (try with_reducible rfl))
  try simp only [pU1, pU2, pU3, pU4]
  refine wpAnyH_done (by kernel_rfl) ?_ _
  go_wp2_with fail
  go_ret
  exact ⟨by rw [HS.out]; rfl, HKd.out⟩
set_option maxRecDepth 100000 in
set_option maxHeartbeats 4000000 in
theorem sett_one (x : Int) (hx : 33 ≤ x ∧ x ≤ 126) (hb : noAt.contains (UInt8.ofNat x.toNat) = false) (hR : rgtR 0 [(x, x)] = true) (hp : ∀ r ∈ [(x, x)], PtC r.1 ∧ PtC r.2) : SetC [(x, x)] := by
  intro A c W hA
  have HA := Lib.hid hA
  clear hA
  obtain ⟨L, hLe⟩ : ∃ L : List Rng, L = [(x, x)] := ⟨_, rfl⟩
  have hL : L.length ≤ 1000 := by rw [hLe]; simp
  have hne : L ≠ [] := by rw [hLe]; simp
  have Hl1 : Hid (L.length = 1) := by show _ = _; rw [hLe]; rfl
  have HD : Hid (decide (L = allR) = false) := Lib.hid (decide_eq_false (by rw [hLe]; unfold allR; simp))
  have HLe := Lib.hid hLe
  rw [← hLe] at HA hR hp ⊢
  have HS : Hid (setS L = [UInt8.ofNat x.toNat]) := by
    show _ = _
    rw [hLe]
    unfold setS
    rw [if_neg (by unfold allR; simp)]
    dsimp only
    rw [if_neg (by simp), if_neg (by omega), hb]
    rfl
  clear hLe
  have CA := Lib.hid (all_any W)
  go_enter Tryz.func63, Tryz.ntmps63
  go_wp2_with fail
  refine CA.out.mono ?_
  rintro e w1 ⟨v, rfl, hown, hk1⟩
  obtain ⟨B, d, rfl, hrB⟩ := own_rdr (L := allR) hown
  have HB := Lib.hid hrB
  have HA1 := Lib.hid (rdr_kept HA.out hk1)
  have HK1 := Lib.hid hk1
  clear hown hrB hk1 CA
  go_wp2_with fail
  refine (requal_any A B c d L allR hL (by decide) w1 HA1.out HB.out).mono ?_
  rintro e w2 ⟨rfl, hk2⟩
  rw [HD.out]
  have HA2 := Lib.hid (rdr_kept HA1.out hk2)
  have HK2 := Lib.hid (below_kept HK1.out hk2)
  clear hk2 HA1 HK1 HB
  go_wp2_with fail
  refine (ctext_any A c L hL hne hR hp w2 HA2.out).mono ?_
  rintro e w3 ⟨rfl, hk3⟩
  have HA3 := Lib.hid (rdr_kept HA2.out hk3)
  have HK3 := Lib.hid (below_kept HK2.out hk3)
  clear hk3 HA2 HK2
  go_upto_region 4 with fail
  have hc0 : Hid (∃ ad, A = some ad ∧ w3.cell? ad = some (.int .i64 x) ∧ w3.cell? (ad.add 1) = some (.int .i64 x)) := by
    obtain ⟨ad, z, rfl, hadb, hx, hd, h0, h1⟩ := rdr_at HA3.out (k := 0) (by rw [Hl1.out]; exact Nat.zero_lt_one)
    rw [HLe.out] at hx
    simp at hx
    subst hx
    rw [Nat.zero_mul, add_z] at h0
    exact Lib.hid ⟨ad, rfl, h0, h1⟩
  rw [Hl1.out]
  obtain ⟨ad, rfl, c0, c1⟩ := hc0.out
  clear hc0 hp hne hR hL HA3
  have CC := Lib.hid (fun w => contains_l noAt x (by omega) w)
  rw [hb] at CC
  have hw : IntKind.i32.wrap x = x := by rw [IntKind.wrap_i32]; omega
  have hen : Utf8.encode x = b8 [UInt8.ofNat x.toNat] := enc_ascii x (by omega)
  have hxyb : (x != x) = false := by simp
  clear hb
  refine wp_region_held_drew (S := fun W => W = w3.drew) (by kernel_rfl) rfl (fun hHeld => ?_)
  obtain ⟨wd, hwd⟩ : ∃ x, x = w3.drew := ⟨_, rfl⟩
  have HKd : Hid (Kept W wd) := by rw [hwd]; exact below_drew0 HK3.out
  have d0 : wd.cell? ad = some (.int .i64 x) := by rw [hwd]; exact c0
  have d1 : wd.cell? ⟨ad.block, ad.off + 1, none⟩ = some (.int .i64 x) := by rw [hwd]; exact c1
  rw [← hwd] at hHeld ⊢
  clear hwd c0 c1
  refine tkC 0 (oi := ⟨some 14, _, _, _, _, _⟩) (v := ?_) rfl (by kernel_rfl) (fun _ _ _ h => h) (by rfl) ?_ hHeld ?_
  rotate_left
  · (intro w hSw; obtain rfl := hSw; refine .inl ?_; go_simp; (try with_reducible rfl))
  try simp only [pU1, pU2, pU3, pU4]
  refine tkC 1 (oi := ⟨some 15, _, _, _, _, _⟩) (v := ?_) rfl (by kernel_rfl) (fun _ _ _ h => h) (by rfl) ?_ hHeld ?_
  rotate_left
  · (intro w hSw; obtain rfl := hSw; refine .inl ?_; go_simp; (try with_reducible rfl))
  try simp only [pU1, pU2, pU3, pU4]
  refine tkC 2 (oi := ⟨some 16, _, _, _, _, _⟩) (v := ?_) rfl (by kernel_rfl) (fun _ _ _ h => h) (by rfl) ?_ hHeld ?_
  rotate_left
  · (intro w hSw; obtain rfl := hSw; refine .inl ?_; go_simp; (try with_reducible rfl))
  try simp only [pU1, pU2, pU3, pU4]
  refine tkC 3 (oi := ⟨some 17, _, _, _, _, _⟩) (v := ?_) rfl (by kernel_rfl) (fun _ _ _ h => h) (by rfl) ?_ hHeld ?_
  rotate_left
  · (intro w hSw; obtain rfl := hSw; refine .inl ?_; go_simp; (try with_reducible rfl))
  try simp only [pU1, pU2, pU3, pU4]
  refine tkC 4 (oi := ⟨some 18, _, _, _, _, _⟩) (v := ?_) rfl (by kernel_rfl) (fun _ _ _ h => h) (by rfl) ?_ hHeld ?_
  rotate_left
  · (intro w hSw; obtain rfl := hSw; refine .inl ?_; go_simp; (try with_reducible rfl))
  try simp only [pU1, pU2, pU3, pU4]
  refine tkC 5 (oi := ⟨some 19, _, _, _, _, _⟩) (v := ?_) rfl (by kernel_rfl) (fun _ _ _ h => h) (by rfl) ?_ hHeld ?_
  rotate_left
  · (intro w hSw; obtain rfl := hSw; refine .inl ?_; go_simp; (try with_reducible rfl))
  try simp only [pU1, pU2, pU3, pU4]
  refine tkC 6 (oi := ⟨some 20, _, _, _, _, _⟩) (v := ?_) rfl (by kernel_rfl) (fun _ _ _ h => h) (by rfl) ?_ hHeld ?_
  rotate_left
  · (intro w hSw; obtain rfl := hSw; refine .inl ?_; go_simp; (try with_reducible rfl))
  try simp only [pU1, pU2, pU3, pU4]
  refine tkC 7 (oi := ⟨some 21, _, _, _, _, _⟩) (v := ?_) rfl (by kernel_rfl) (fun _ _ _ h => h) (by rfl) ?_ hHeld ?_
  rotate_left
  · (intro w hSw; obtain rfl := hSw; refine .inl ?_; go_simp; (try with_reducible rfl))
  try simp only [pU1, pU2, pU3, pU4]
  refine tkC 8 (oi := ⟨some 22, _, _, _, _, _⟩) (v := ?_) rfl (by kernel_rfl) (fun _ _ _ h => h) (by rfl) ?_ hHeld ?_
  rotate_left
  · (intro w hSw; obtain rfl := hSw; refine .inl ?_; go_simp; (try with_reducible rfl))
  try simp only [pU1, pU2, pU3, pU4]
  refine tkC 9 (oi := ⟨some 23, _, _, _, _, _⟩) (v := ?_) rfl (by kernel_rfl) (fun _ _ _ h => h) (by rfl) ?_ hHeld ?_
  rotate_left
  · (intro w hSw; obtain rfl := hSw; refine .inl ?_; go_simp; (try with_reducible rfl))
  try simp only [pU1, pU2, pU3, pU4]
  refine tkC 10 (oi := ⟨some 24, _, _, _, _, _⟩) (v := ?_) rfl (by kernel_rfl) (fun _ _ _ h => h) (by rfl) ?_ hHeld ?_
  rotate_left
  · (intro w hSw; obtain rfl := hSw; refine .inl ?_; go_simp; (try with_reducible rfl))
  try simp only [pU1, pU2, pU3, pU4]
  refine tkC 11 (oi := ⟨some 25, _, _, _, _, _⟩) (v := ?_) rfl (by kernel_rfl) (fun _ _ _ h => h) (by rfl) ?_ hHeld ?_
  rotate_left
  · (intro w hSw; obtain rfl := hSw; refine .inl ?_; go_simp; (try with_reducible rfl))
  try simp only [pU1, pU2, pU3, pU4]
  refine tkC 12 (oi := ⟨some 26, _, _, _, _, _⟩) (v := ?_) rfl (by kernel_rfl) (fun _ _ _ h => h) (by rfl) ?_ hHeld ?_
  rotate_left
  · (intro w hSw; obtain rfl := hSw; refine .inl ?_; go_simp; (try with_reducible rfl))
  try simp only [pU1, pU2, pU3, pU4]
  refine tkC 13 (oi := ⟨some 27, _, _, _, _, _⟩) (v := ?_) rfl (by kernel_rfl) (fun _ _ _ h => h) (by rfl) ?_ hHeld ?_
  rotate_left
  · (intro w hSw; obtain rfl := hSw; refine .inl ?_; go_simp; (try with_reducible rfl))
  try simp only [pU1, pU2, pU3, pU4]
  refine wpAnyH_done (by kernel_rfl) ?_ _
  go_wp2_with fail
  refine (CC.out _).mono ?_
  rintro e w5 ⟨rfl, rfl⟩
  go_wp2_with fail
  go_ret
  exact ⟨by rw [HS.out]; rfl, HKd.out⟩
end Go.Proofs.YtmgkdmbifecekaaGreatDoor
namespace Go.Proofs.YtmgkdmbifecekaaGreatDoor
open Go.RowKit Go.Shelf
/-- What a writer's method leaves. -/
def WPost (W0 : World) (b : Nat) (l : Bs) (W : World) (e : Ending) (w' : World) : Prop := e = .returned (.tuple #[]) ∧ IsWr 90 W0.heap.size b l w' ∧ Below W0.heap.size W w' ∧ OtK b W w'
def TreeC (W0 : World) (b : Nat) (t : Tree) : Prop := ∀ (W : World) (l : Bs) (cs : List Value), Hid (Kept W0 W) → Hid (NodeC W0 t cs) → Hid (IsWr 90 W0.heap.size b l W) → l.length + (textT t).length ≤ 1024 → Calls Tryz.prog 41 #[.pointer (some ⟨b, 0, none⟩), .agg cs.toArray] W (WPost W0 b (l ++ textT t) W)
def PartC (W0 : World) (b : Nat) (of : Int) (t : Tree) : Prop := ∀ (W : World) (l : Bs) (cs : List Value), Hid (Kept W0 W) → Hid (NodeC W0 t cs) → Hid (IsWr 90 W0.heap.size b l W) → l.length + (partS of t).length ≤ 1024 → Calls Tryz.prog 65 #[.pointer (some ⟨b, 0, none⟩), .agg cs.toArray, .int .u8 of] W (WPost W0 b (l ++ partS of t) W)
theorem otk_node {b g : Nat} {w w' : World} {cs : Array Value} (h : OtK b w w') (hne : g ≠ b) (hg : w.heap[g]? = some (.cells cs 25 (0, 0))) : w'.heap[g]? = some (.cells cs 25 (0, 0)) :=
  h g _ hg (fun e => hne (Option.some.inj e)) (by intro c fz e; injection e with _ e2 _; exact absurd e2 (by decide))
theorem otk_kept {b : Nat} {w w' : World} (h : Kept w w') : OtK b w w' := fun k o hk _ _ => (h.block k (Array.getElem?_eq_some_iff.1 hk).1).trans hk
set_option maxRecDepth 10000 in
set_option maxHeartbeats 4000000 in
theorem wpart_any (W0 : World) (b : Nat) (of : Int) (kd : Int) (st : List Rng) (mn mx : Int) (lz : Bool) (us : List Tree) (HC : TreeC W0 b (.mk kd st mn mx lz us)) : PartC W0 b of (.mk kd st mn mx lz us) := by
  intro W l cs HK HN HW hl
  have HC := Lib.hid HC
  obtain ⟨t, ht⟩ : ∃ t, t = Tree.mk kd st mn mx lz us := ⟨_, rfl⟩
  have hk : kindT t = kd := by rw [ht]; rfl
  have hN2 := HN.out
  unfold NodeC at hN2
  obtain ⟨A1, c1, A2, c2, rfl, _⟩ := hN2
  obtain ⟨sn, hsn⟩ : ∃ n, n = st.length := ⟨_, rfl⟩
  obtain ⟨un, hun⟩ : ∃ n, n = us.length := ⟨_, rfl⟩
  rw [← hsn, ← hun] at HN ⊢
  rw [← ht] at HC HN hl ⊢
  clear hsn hun ht
  have HO : Hid (OtK b W (W.alloc (.cells #[.int .u8 kd, .slice A1 sn c1, .int .i64 mn, .int .i64 mx, .bool lz, .slice A2 un c2] 25))) := otk_kept ((Below.refl _ W).alloc (Nat.le_refl _) _)
  have HWa := Lib.hid (HW.out.kept (w' := W.alloc (.cells #[.int .u8 kd, .slice A1 sn c1, .int .i64 mn, .int .i64 mx, .bool lz, .slice A2 un c2] 25)) ((Below.refl _ W).alloc (Nat.le_refl _) _))
  have HKa : Hid (Kept W0 (W.alloc (.cells #[.int .u8 kd, .slice A1 sn c1, .int .i64 mn, .int .i64 mx, .bool lz, .slice A2 un c2] 25))) := below_alloc0 HK.out _
  have HB : Hid ((W.alloc (.cells #[.int .u8 kd, .slice A1 sn c1, .int .i64 mn, .int .i64 mx, .bool lz, .slice A2 un c2] 25)).heap[W.heap.size]? = some (.cells #[.int .u8 kd, .slice A1 sn c1, .int .i64 mn, .int .i64 mx, .bool lz, .slice A2 un c2] 25 (0, 0))) := heap_alloc_new W _
  have hbW : W.heap.size ≠ b := by have := HW.out.lt; omega
  have HBW : Hid (Below W0.heap.size W (W.alloc (.cells #[.int .u8 kd, .slice A1 sn c1, .int .i64 mn, .int .i64 mx, .bool lz, .slice A2 un c2] 25))) := (Below.refl _ W).alloc HK.out.size _
  cases ha : aprF kd of with
  | false =>
    have hp : partS of t = textT t := by unfold partS; rw [hk, ha]; rfl
    rw [hp] at hl ⊢
    have CA := Lib.hid (fun w => apart_any kd of w)
    rw [ha] at CA
    have CT := Lib.hid (HC.out _ l _ HKa HN HWa hl)
    clear hk ha hp HC
    go_enter Tryz.func65, Tryz.ntmps65
    go_wp2_with fail
    refine (CA.out _).mono ?_
    rintro e w1 ⟨rfl, rfl⟩
    go_wp2_with fail
    refine CT.out.mono ?_
    rintro e w2 hp
    unfold WPost at hp
    obtain ⟨rfl, hw2, hb2, ho2⟩ := hp
    go_wp2_with fail
    go_end0
    unfold WPost
    exact ⟨rfl, hw2, HBW.out.trans hb2, HO.out.trans ho2⟩
  | true =>
    have hp : partS of t = [40, 63, 58] ++ (textT t ++ [41]) := by unfold partS; rw [hk, ha]; rfl
    have Hp := Lib.hid hp
    rw [hp] at hl
    simp only [List.length_append, List.length_cons, List.length_nil] at hl
    have CA := Lib.hid (fun w => apart_any kd of w)
    rw [ha] at CA
    clear hk ha hp
    go_enter Tryz.func65, Tryz.ntmps65
    go_wp2_with fail
    refine (CA.out _).mono ?_
    rintro e w1 ⟨rfl, rfl⟩
    go_wp2_with fail
    refine (wws_any _ bldWr _ _ _ [40, 63, 58] _ HWa.out (by simp; omega) HKa.out.size).mono ?_
    rintro e w2 ⟨rfl, hw2, hb2, ho2⟩
    have HB2 := Lib.hid (otk_node ho2 hbW HB.out)
    have HW2 := Lib.hid hw2
    have HK2 : Hid (Kept W0 w2) := HKa.out.trans hb2
    have HO2 := Lib.hid (HO.out.trans ho2)
    have HBW2 := Lib.hid (HBW.out.trans hb2)
    clear hw2 hb2 ho2 HB HWa HKa HO HBW
    go_wp2_with ((refine wpList_load_row ?c0 25 (.tmp 4) ?c1 W.heap.size ?c2 25 #[.int .u8 kd, .slice A1 sn c1, .int .i64 mn, .int .i64 mx, .bool lz, .slice A2 un c2] (0, 0) _ HB2.out Tryz.underlying25 ?c3 sizeNd ?_); (case c0 => with_reducible rfl); (case c1 => with_reducible rfl); (case c2 => rfl); (case c3 => rfl))
    refine (HC.out _ _ _ HK2 HN HW2 (by simp; omega)).mono ?_
    rintro e w3 hp
    unfold WPost at hp
    obtain ⟨rfl, hw3, hb3, ho3⟩ := hp
    have HW3 := Lib.hid hw3
    have HK3 : Hid (Kept W0 w3) := HK2.out.trans hb3
    have HO3 := Lib.hid (HO2.out.trans ho3)
    have HBW3 := Lib.hid (HBW2.out.trans hb3)
    clear hw3 hb3 ho3 HB2 HW2 HK2 HO2 HBW2
    go_wp2_with fail
    refine (wws_any _ bldWr _ _ _ [41] _ HW3.out (by simp; omega) HK3.out.size).mono ?_
    rintro e w4 ⟨rfl, hw4, hb4, ho4⟩
    go_wp2_with fail
    go_end0
    unfold WPost
    refine ⟨rfl, ?_, HBW3.out.trans hb4, HO3.out.trans ho4⟩
    rw [Hp.out]
    simp only [List.append_assoc] at hw4 ⊢
    exact hw4
end Go.Proofs.YtmgkdmbifecekaaGreatDoor
