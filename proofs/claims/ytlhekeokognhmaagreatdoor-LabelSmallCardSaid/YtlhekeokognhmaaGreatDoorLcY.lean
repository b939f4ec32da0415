/-
  changes answers true.
-/
import Derived.Test.YtlhekeokognhmaaGreatDoorMgbn
namespace Go.Proofs.YtlhekeokognhmaaGreatDoor
open Go.RowKit Go.Shelf Go.Maps Go.Sort
theorem new_rowC (w : World) (cs : Array Value) (t : TypeId) : Kept w (w.alloc (.cells cs t)) ∧ (w.alloc (.cells cs t)).heap[w.heap.size]? = some (.cells cs t (0, 0)) ∧ (w.alloc (.cells cs t)).heap.size = w.heap.size + 1 := ⟨(Below.refl _ w).alloc (Nat.le_refl _) _, heap_alloc_new w _, by simp⟩
theorem setR_len (a e : List Lab) : (setR a e).1.length ≤ a.length + e.length := by
  unfold setR
  split
  · split
    · exact bndR_len (by have := putsL_le (a ++ e); rwa [List.length_append] at this)
    · simp
  · simp
theorem mergeR_len (a b : List Lab) : (mergeR a b).1.length ≤ a.length + b.length := by
  unfold mergeR
  split
  · exact bndR_len (by have := putsL_le (b ++ a); rw [List.length_append] at this; omega)
  · simp
theorem exportR_len (a b : List Lab) : (exportR a b).1.length ≤ a.length + b.length + b.length := by
  unfold exportR
  split
  · refine bndR_len ?_
    rw [List.length_map]
    have h1 := expF_len a b (puts [] ((b ++ a).map lb))
    have h2 := puts_len [] ((b ++ a).map lb)
    rw [List.length_map, List.length_append, List.length_nil] at h2
    omega
  · simp
theorem filtR_len (p : ByteArray → Bool) (a : List Lab) : (filtR p a).1.length ≤ a.length := by
  unfold filtR
  split
  · exact List.length_filter_le _ _
  · simp
theorem ph_start (W5 : World) (t1 t2 : TypeId) : Ph t1 t2 W5.heap.size (W5.heap.size + 1) W5 ((W5.alloc (.cells #[.slice none 0 0, .slice none 0 0, .slice none 0 0, .slice none 0 0, .slice none 0 0, .slice none 0 0] t1)).alloc (.cells #[.int .i64 0, .int .i64 0, .int .i64 0, .int .i64 0, .int .i64 0, .int .i64 0] t2)) ((W5.alloc (.cells #[.slice none 0 0, .slice none 0 0, .slice none 0 0, .slice none 0 0, .slice none 0 0, .slice none 0 0] t1)).alloc (.cells #[.int .i64 0, .int .i64 0, .int .i64 0, .int .i64 0, .int .i64 0, .int .i64 0] t2)) [] := by
  refine ⟨((Below.refl _ W5).alloc (Nat.le_refl _) _).alloc (by simp) _, by simp; omega, ?_, ?_, fun _ h => (by cases h), Nat.le_refl _⟩
  · exact heap_alloc0 (heap_alloc_new W5 _) _
  · exact heap_new' _ (by simp)
theorem own_rdA {w : World} {A : Option Addr} {c : Nat} {m : List Lab} (h : OwnA w (.slice A m.length c) m) : RdL w w.heap.size A m := by
  obtain ⟨A', c', e, hr⟩ := h.rd
  cases e
  exact hr
theorem ph2_start (W5 : World) (t1 t2 : TypeId) : Ph2 t1 t2 W5.heap.size (W5.heap.size + 1) W5 W5 ((W5.alloc (.cells #[.slice none 0 0, .slice none 0 0, .slice none 0 0, .slice none 0 0, .slice none 0 0, .slice none 0 0] t1)).alloc (.cells #[.int .i64 0, .int .i64 0, .int .i64 0, .int .i64 0, .int .i64 0, .int .i64 0] t2)) [] := by
  refine ⟨((Below.refl _ W5).alloc (Nat.le_refl _) _).alloc (by simp) _, by simp, ?_, ?_, fun _ h => (by cases h)⟩
  · exact heap_alloc0 (heap_alloc_new W5 _) _
  · exact heap_new' _ (by simp)
theorem pack {A1 A2 A3 A4 B1 B2 B3 B4 : Option Addr} {c1 c2 c3 c4 d1 d2 d3 d4 m1 m2 m3 n : Nat} {L1 L2 L3 : List Lab} {ns : List ByteArray} {w w1 w2 w3 w4 wc : World} (pfx : ByteArray)
    (Hm1 : m1 = L1.length) (Hm2 : m2 = L2.length) (Hm3 : m3 = L3.length) (Hn : n = ns.length) (l1 : L1.length ≤ 70) (l2 : L2.length ≤ 70) (l3 : L3.length ≤ 70) (l4 : ns.length ≤ 20)
    (HS1 : ∀ x ∈ L1, shortL x) (HS2 : ∀ x ∈ L2, shortL x) (HS3 : ∀ x ∈ L3, shortL x)
    (R1 : ∀ W, Kept w W → RdL W W.heap.size A1 L1) (R2 : ∀ W, Kept w W → RdL W W.heap.size A2 L2) (R3 : ∀ W, Kept w W → RdL W W.heap.size A3 L3) (R4 : ∀ W, Kept w W → Rd W W.heap.size A4 ns.length (strs ns)) (HT : ∀ W, Kept w W → Tab W)
    (K1 : Hid (Kept w w1)) (K5 : Hid (Kept w wc)) (E1 : Lent w2 w1.heap.size B1 d1 L1) (S1 : Hid (Kept w1 w2)) (E2 : Lent w3 w2.heap.size B2 d2 L2) (S2 : Hid (Kept w2 w3)) (E3 : Lent w4 w3.heap.size B3 d3 L3) (S3 : Kept w3 w4) (E4 : LentT wc B4 d4 ns) (S4 : Kept w4 wc) :
    ∃ (p0 p1 p2 p3 p4 p5 : List Lab) (q0 q1 q2 q3 q4 q5 cv : Int), Hid (∀ W, Kept wc W → Calls Tryz.prog 15 #[.slice B1 m1 d1, .slice B3 m3 d3] W (OutR p0 q0 W)) ∧ Hid (∀ W, Kept wc W → Calls Tryz.prog 14 #[.slice B1 m1 d1, .slice B2 m2 d2] W (OutR p1 q1 W)) ∧ Hid (∀ W, Kept wc W → Calls Tryz.prog 20 #[.slice B1 m1 d1, .slice B2 m2 d2] W (OutR p2 q2 W)) ∧ Hid (∀ W, Kept wc W → Calls Tryz.prog 23 #[.slice B1 m1 d1, .slice B4 n d4] W (OutR p3 q3 W)) ∧ Hid (∀ W, Kept wc W → Calls Tryz.prog 25 #[.slice B1 m1 d1, .slice B4 n d4] W (OutR p4 q4 W)) ∧ Hid (∀ W, Kept wc W → Calls Tryz.prog 27 #[.slice B1 m1 d1, .string pfx] W (OutR p5 q5 W)) ∧ Hid (∀ W, Kept w W → Calls Tryz.prog 31 #[.slice A1 m1 c1, .slice A3 m3 c3] W (AnsR p0 q0 W)) ∧ Hid (∀ W, Kept w W → Calls Tryz.prog 32 #[.slice A1 m1 c1, .slice A2 m2 c2] W (AnsR p1 q1 W)) ∧ Hid (∀ W, Kept w W → Calls Tryz.prog 33 #[.slice A1 m1 c1, .slice A2 m2 c2] W (AnsR p2 q2 W)) ∧ Hid (∀ W, Kept w W → Calls Tryz.prog 34 #[.slice A1 m1 c1, .slice A4 n c4, .bool true] W (AnsR p3 q3 W)) ∧ Hid (∀ W, Kept w W → Calls Tryz.prog 34 #[.slice A1 m1 c1, .slice A4 n c4, .bool false] W (AnsR p4 q4 W)) ∧ Hid (∀ W, Kept w W → Calls Tryz.prog 35 #[.slice A1 m1 c1, .string pfx] W (AnsR p5 q5 W)) ∧ Hid (p0.length ≤ 1000) ∧ Hid (p1.length ≤ 1000) ∧ Hid (p2.length ≤ 1000) ∧ Hid (p3.length ≤ 1000) ∧ Hid (p4.length ≤ 1000) ∧ Hid (p5.length ≤ 1000) ∧ Hid (∀ W, Kept wc W → Calls Tryz.prog 37 #[.slice B1 m1 d1, .slice B2 m2 d2] W fun e w' => e = .returned (.int .i64 cv) ∧ Kept W w') ∧ Hid (∀ W, Kept w W → Calls Tryz.prog 38 #[.slice A1 m1 c1, .slice A2 m2 c2] W fun e w' => e = .returned (.int .i64 cv) ∧ Kept W w') ∧ Hid (∀ W, Kept wc W → Calls Tryz.prog 39 #[.slice B1 m1 d1, .slice A1 m1 c1] W fun e w' => e = .returned (.bool true) ∧ Kept W w') ∧ Hid (∀ W, Kept wc W → Calls Tryz.prog 39 #[.slice B2 m2 d2, .slice A2 m2 c2] W fun e w' => e = .returned (.bool true) ∧ Kept W w') ∧ Hid (∀ W, Kept wc W → Calls Tryz.prog 39 #[.slice B3 m3 d3, .slice A3 m3 c3] W fun e w' => e = .returned (.bool true) ∧ Kept W w') ∧ Hid (∀ W, Kept wc W → Calls Tryz.prog 40 #[.slice B4 n d4, .slice A4 n c4] W fun e w' => e = .returned (.bool true) ∧ Kept W w') ∧ Hid (∀ (t1 t2 : TypeId) (g14 g15 : Nat) (w7 W : World) (v0 v1 v2 v3 v4 v5 : Value), Ph t1 t2 g14 g15 wc w7 W [(v0, q0, p0), (v1, q1, p1), (v2, q2, p2), (v3, q3, p3), (v4, q4, p4), (v5, q5, p5)] → ∀ T, Calls Tryz.prog 41 #[.slice (some ⟨W.heap.size, 0, none⟩) 9 9] (W.alloc (.cells #[.slice B1 m1 d1, .slice B2 m2 d2, .slice B3 m3 d3, v0, v1, v2, v3, v4, v5] T)) fun e w' => e = .returned (.bool true) ∧ Below w.heap.size (W.alloc (.cells #[.slice B1 m1 d1, .slice B2 m2 d2, .slice B3 m3 d3, v0, v1, v2, v3, v4, v5] T)) w') := by
  subst Hm1 Hm2 Hm3 Hn
  have HX1 : ∀ W, Kept wc W → RdL W W.heap.size B1 L1 := fun W h => by
    obtain ⟨g, rfl, _, _, _, _, h4⟩ := (E1.kept (kk (kk (kk S2 S3) S4) h).out).rd
    exact h4
  have HX2 : ∀ W, Kept wc W → RdL W W.heap.size B2 L2 := fun W h => by
    obtain ⟨g, rfl, _, _, _, _, h4⟩ := (E2.kept (kk (kk S3 S4) h).out).rd
    exact h4
  have HX3 : ∀ W, Kept wc W → RdL W W.heap.size B3 L3 := fun W h => by
    obtain ⟨g, rfl, _, _, _, _, h4⟩ := (E3.kept (kk S4 h).out).rd
    exact h4
  have HX4 : ∀ W, Kept wc W → Rd W W.heap.size B4 ns.length (strs ns) := fun W h => (E4.kept h).2.2
  have KK : ∀ W, Kept wc W → Kept w W := fun W h => (kk K5 h).out
  exact ⟨(setR L1 L3).1, (mergeR L1 L2).1, (exportR L1 L2).1, (filtR (fun s => inB s ns == true) L1).1, (filtR (fun s => inB s ns == false) L1).1, (filtR (fun s => !prefB s pfx) L1).1, (setR L1 L3).2, (mergeR L1 L2).2, (exportR L1 L2).2, (filtR (fun s => inB s ns == true) L1).2, (filtR (fun s => inB s ns == false) L1).2, (filtR (fun s => !prefB s pfx) L1).2, cmpL L1 L2,
    fun W h => set_out B1 B3 d1 d3 L1 L3 W (HX1 W h) (by omega) (HT W (KK W h)) (by omega) (HX3 W h),
    fun W h => merge_out B1 B2 d1 d2 L1 L2 W (HX1 W h) (by omega) (HT W (KK W h)) (by omega) (HX2 W h),
    fun W h => export_out B1 B2 d1 d2 L1 L2 W (HX1 W h) (by omega) (HT W (KK W h)) (by omega) (HX2 W h),
    fun W h => keep_out B1 B4 d1 d4 L1 W (HX1 W h) (by omega) (HT W (KK W h)) ns (by omega) (HX4 W h),
    fun W h => drop_out B1 B4 d1 d4 L1 W (HX1 W h) (by omega) (HT W (KK W h)) ns (by omega) (HX4 W h),
    fun W h => without_out B1 d1 L1 W (HX1 W h) (by omega) (HT W (KK W h)) pfx,
    fun W h => refset_any A1 A3 c1 c3 L1 L3 (by omega) (by omega) HS1 HS3 W (R1 W h) (R3 W h),
    fun W h => refmerge_any A1 A2 c1 c2 L1 L2 (by omega) (by omega) HS1 HS2 W (R1 W h) (R2 W h),
    fun W h => refexport_any A1 A2 c1 c2 L1 L2 (by omega) (by omega) HS1 HS2 W (R1 W h) (R2 W h),
    fun W h => refFilter_any A1 c1 L1 (by omega) HS1 A4 c4 ns (by omega) true W (R1 W h) (R4 W h),
    fun W h => refFilter_any A1 c1 L1 (by omega) HS1 A4 c4 ns (by omega) false W (R1 W h) (R4 W h),
    fun W h => refWithout_any A1 c1 L1 (by omega) HS1 pfx W (R1 W h),
    (Nat.le_trans (setR_len L1 L3) (by omega)),
    (Nat.le_trans (mergeR_len L1 L2) (by omega)),
    (Nat.le_trans (exportR_len L1 L2) (by omega)),
    (Nat.le_trans (filtR_len _ L1) (by omega)),
    (Nat.le_trans (filtR_len _ L1) (by omega)),
    (Nat.le_trans (filtR_len _ L1) (by omega)),
    fun W h => compare_any B1 B2 d1 d2 L1 L2 (by omega) (by omega) W (HX1 W h) (HX2 W h),
    fun W h => refcompare_any A1 A2 c1 c2 L1 L2 (by omega) (by omega) HS1 HS2 W (R1 W h) (R2 W h),
    fun W h => by
    obtain ⟨g, rfl, _, _, hc, h3, h4⟩ := (E1.kept (kk (kk (kk S2 S3) S4) h).out).rd
    exact keptL_any g d1 c1 A1 L1 (by omega) W h3 h4 hc (R1 W (KK W h)),
    fun W h => by
    obtain ⟨g, rfl, _, _, hc, h3, h4⟩ := (E2.kept (kk (kk S3 S4) h).out).rd
    exact keptL_any g d2 c2 A2 L2 (by omega) W h3 h4 hc (R2 W (KK W h)),
    fun W h => by
    obtain ⟨g, rfl, _, _, hc, h3, h4⟩ := (E3.kept (kk S4 h).out).rd
    exact keptL_any g d3 c3 A3 L3 (by omega) W h3 h4 hc (R3 W (KK W h)),
    fun W h => keptT_any B4 A4 d4 c4 ns (by omega) W (E4.kept h) (R4 W (KK W h)),
    fun t1 t2 g14 g15 w7 W v0 v1 v2 v3 v4 v5 P T => apart9 w w1 w2 w3 w4 wc w7 W K1.out E1 S1.out E2 S2.out E3 S3 S4 P T⟩
set_option maxRecDepth 100000 in
set_option maxHeartbeats 16000000 in
theorem changes_any (A1 A2 A3 A4 : Option Addr) (c1 c2 c3 c4 : Nat) (L1 L2 L3 : List Lab) (ns : List ByteArray) (w : World) (hr1 : RdL w w.heap.size A1 L1) (hr2 : RdL w w.heap.size A2 L2) (hr3 : RdL w w.heap.size A3 L3) (hr4 : Rd w w.heap.size A4 ns.length (strs ns)) (hT : Tab w) :
    Calls Tryz.prog 6 #[.slice A1 L1.length c1, .slice A2 L2.length c2, .slice A3 L3.length c3, .slice A4 ns.length c4] w fun e w' => e = .returned (.bool true) ∧ Kept w w' := by
  have C1 := Lib.hid (short_any A1 c1 L1 w hr1)
  have C2 : Hid (∀ W, Kept w W → Calls Tryz.prog 28 #[.slice A2 L2.length c2] W fun e w' => e = .returned (.bool (shortB L2)) ∧ Kept W w') := fun W h => short_any A2 c2 L2 W (rd_kept h hr2)
  have C3 : Hid (∀ W, Kept w W → Calls Tryz.prog 28 #[.slice A3 L3.length c3] W fun e w' => e = .returned (.bool (shortB L3)) ∧ Kept W w') := fun W h => short_any A3 c3 L3 W (rd_kept h hr3)
  obtain ⟨m1, hm1⟩ : ∃ m, m = L1.length := ⟨_, rfl⟩
  obtain ⟨m2, hm2⟩ : ∃ m, m = L2.length := ⟨_, rfl⟩
  obtain ⟨m3, hm3⟩ : ∃ m, m = L3.length := ⟨_, rfl⟩
  obtain ⟨n, hn⟩ : ∃ m, m = ns.length := ⟨_, rfl⟩
  rw [← hm1, ← hm2, ← hm3, ← hn]
  rw [← hm1] at C1
  rw [← hm2] at C2
  rw [← hm3] at C3
  rcases hs1 : shortB L1 with _ | _
  · rw [hs1] at C1
    clear hr1 hr2 hr3 hr4 hT hs1 hm1 hm2 hm3 hn
    go_enter Tryz.func6, Tryz.ntmps6
    go_wp2_with (go_at_call 28; (with_reducible refine (C1.out).mono ?_); rintro e wb ⟨rfl, hk⟩; have K : Hid (Kept w wb) := hk; clear hk)
    go_ret
    exact ⟨rfl, K.out⟩
  rcases hs2 : shortB L2 with _ | _
  · rw [hs1] at C1
    rw [hs2] at C2
    clear hr1 hr2 hr3 hr4 hT hs1 hs2 hm1 hm2 hm3 hn
    go_enter Tryz.func6, Tryz.ntmps6
    go_wp2_with (first | (go_at_call 28; (with_reducible refine (C1.out).mono ?_); rintro e wb ⟨rfl, hk⟩; have K : Hid (Kept w wb) := hk; clear hk) | (go_at_call 28; (with_reducible refine (C2.out _ K.out).mono ?_); rintro e wb ⟨rfl, hk⟩; replace K := kk K hk; clear hk))
    go_ret
    exact ⟨rfl, K.out⟩
  rcases hs3 : shortB L3 with _ | _
  · rw [hs1] at C1
    rw [hs2] at C2
    rw [hs3] at C3
    clear hr1 hr2 hr3 hr4 hT hs1 hs2 hs3 hm1 hm2 hm3 hn
    go_enter Tryz.func6, Tryz.ntmps6
    go_wp2_with (first | (go_at_call 28; (with_reducible refine (C1.out).mono ?_); rintro e wb ⟨rfl, hk⟩; have K : Hid (Kept w wb) := hk; clear hk) | (go_at_call 28; (with_reducible refine (C2.out _ K.out).mono ?_); rintro e wb ⟨rfl, hk⟩; replace K := kk K hk; clear hk) | (go_at_call 28; (with_reducible refine (C3.out _ K.out).mono ?_); rintro e wb ⟨rfl, hk⟩; replace K := kk K hk; clear hk))
    go_ret
    exact ⟨rfl, K.out⟩
  by_cases h20 : n ≤ 20
  case neg =>
    have h20I : (20 : Int) < (n : Int) := by omega
    rw [hs1] at C1
    rw [hs2] at C2
    rw [hs3] at C3
    clear hr1 hr2 hr3 hr4 hT hs1 hs2 hs3 hm1 hm2 hm3 hn h20
    go_enter Tryz.func6, Tryz.ntmps6
    go_wp2_with (first | (go_at_call 28; (with_reducible refine (C1.out).mono ?_); rintro e wb ⟨rfl, hk⟩; have K : Hid (Kept w wb) := hk; clear hk) | (go_at_call 28; (with_reducible refine (C2.out _ K.out).mono ?_); rintro e wb ⟨rfl, hk⟩; replace K := kk K hk; clear hk) | (go_at_call 28; (with_reducible refine (C3.out _ K.out).mono ?_); rintro e wb ⟨rfl, hk⟩; replace K := kk K hk; clear hk))
    go_ret
    exact ⟨rfl, K.out⟩
  have h20I : ¬ (20 : Int) < (n : Int) := by omega
  rw [hs1] at C1
  rw [hs2] at C2
  rw [hs3] at C3
  obtain ⟨l1, sh1⟩ := shortB_yes hs1
  obtain ⟨l2, sh2⟩ := shortB_yes hs2
  obtain ⟨l3, sh3⟩ := shortB_yes hs3
  have R1 : Hid (∀ W, Kept w W → RdL W W.heap.size A1 L1) := fun W h => rd_kept h hr1
  have R2 : Hid (∀ W, Kept w W → RdL W W.heap.size A2 L2) := fun W h => rd_kept h hr2
  have R3 : Hid (∀ W, Kept w W → RdL W W.heap.size A3 L3) := fun W h => rd_kept h hr3
  have R4 : Hid (∀ W, Kept w W → Rd W W.heap.size A4 ns.length (strs ns)) := fun W h => rd_kept h hr4
  have HT : Hid (∀ W, Kept w W → Tab W) := fun W h => hT.below h
  have CL1 : Hid (∀ W, Kept w W → Calls Tryz.prog 29 #[.slice A1 L1.length c1] W fun e w' => ∃ A' c', e = .returned (.slice A' L1.length c') ∧ Lent w' W.heap.size A' c' L1 ∧ Kept W w') := fun W h => lentL_any A1 c1 L1 (by omega) W (R1.out W h)
  have CL2 : Hid (∀ W, Kept w W → Calls Tryz.prog 29 #[.slice A2 L2.length c2] W fun e w' => ∃ A' c', e = .returned (.slice A' L2.length c') ∧ Lent w' W.heap.size A' c' L2 ∧ Kept W w') := fun W h => lentL_any A2 c2 L2 (by omega) W (R2.out W h)
  have CL3 : Hid (∀ W, Kept w W → Calls Tryz.prog 29 #[.slice A3 L3.length c3] W fun e w' => ∃ A' c', e = .returned (.slice A' L3.length c') ∧ Lent w' W.heap.size A' c' L3 ∧ Kept W w') := fun W h => lentL_any A3 c3 L3 (by omega) W (R3.out W h)
  have CT : Hid (∀ W, Kept w W → Calls Tryz.prog 30 #[.slice A4 ns.length c4] W fun e w' => ∃ A' c', e = .returned (.slice A' ns.length c') ∧ LentT w' A' c' ns ∧ Kept W w') := fun W h => lentT_any A4 c4 ns (by omega) W (R4.out W h)
  have X4 : Hid (0 < n → ∀ W, Kept w W → ∃ ad, A4 = some ad ∧ W.cell? ad = some (.string (ns.getD 0 ⟨#[]⟩))) := fun h0 W hk => by
    obtain ⟨ad, u, e, _, hu, hc⟩ := (R4.out W hk).at_ (k := 0) (by omega)
    have ha : ad.add 0 = ad := by unfold Addr.add; simp
    rw [ha] at hc
    rw [strs_get ns 0 (by omega)] at hu
    refine ⟨ad, e, ?_⟩
    rw [hc, ← hu, List.getD_eq_getElem?_getD, List.getElem?_eq_getElem (by omega)]
    rfl
  have X40 : Hid (n = 0 → ns.getD 0 ⟨#[]⟩ = ⟨#[]⟩) := fun h0 => by
    obtain rfl := List.eq_nil_of_length_eq_zero (by omega : ns.length = 0)
    rfl
  rw [← hm1] at CL1
  rw [← hm2] at CL2
  rw [← hm3] at CL3
  rw [← hn] at CT
  have Hm1 := Lib.hid hm1
  have Hm2 := Lib.hid hm2
  have Hm3 := Lib.hid hm3
  have Hn := Lib.hid hn
  have Hl1 := Lib.hid l1
  have Hl2 := Lib.hid l2
  have Hl3 := Lib.hid l3
  have HS1 := Lib.hid sh1
  have HS2 := Lib.hid sh2
  have HS3 := Lib.hid sh3
  have H20 := Lib.hid h20
  clear hr1 hr2 hr3 hr4 hT hs1 hs2 hs3 hm1 hm2 hm3 hn l1 l2 l3 sh1 sh2 sh3
  go_enter Tryz.func6, Tryz.ntmps6
  go_upto_region 3 with (first | (go_at_call 28; (with_reducible refine (C1.out).mono ?_); rintro e wb ⟨rfl, hk⟩; have K : Hid (Kept w wb) := hk; clear hk) | (go_at_call 28; (with_reducible refine (C2.out _ K.out).mono ?_); rintro e wb ⟨rfl, hk⟩; replace K := kk K hk; clear hk) | (go_at_call 28; (with_reducible refine (C3.out _ K.out).mono ?_); rintro e wb ⟨rfl, hk⟩; replace K := kk K hk; clear hk))
  obtain ⟨w1, rfl⟩ : ∃ x, x = wb := ⟨_, rfl⟩
  have K1 := K
  clear C1 C2 C3
  go_upto_region 4 with (first
    | (go_at_call 29; (with_reducible refine (CL1.out _ K1.out).mono ?_); rintro e w2 ⟨B1, d1, rfl, hl, hk⟩; have E1 := Lib.hid hl; have S1 : Hid (Kept w1 w2) := hk; have K2 := kk K1 hk; clear hl hk)
    | (go_at_call 29; (with_reducible refine (CL2.out _ K2.out).mono ?_); rintro e w3 ⟨B2, d2, rfl, hl, hk⟩; have E2 := Lib.hid hl; have S2 : Hid (Kept w2 w3) := hk; have K3 := kk K2 hk; clear hl hk)
    | (go_at_call 29; (with_reducible refine (CL3.out _ K3.out).mono ?_); rintro e w4 ⟨B3, d3, rfl, hl, hk⟩; have E3 := Lib.hid hl; have S3 : Hid (Kept w3 w4) := hk; have K4 := kk K3 hk; clear hl hk))
  clear CL1 CL2 CL3 K
  go_upto_region 6 with (go_at_call 30; (with_reducible refine (CT.out _ K4.out).mono ?_); rintro e w5 ⟨B4, d4, rfl, hl, hk⟩; have E4 := Lib.hid hl; have S4 : Hid (Kept w4 w5) := hk; have K5 := kk K4 hk; clear hl hk)
  clear CT
  obtain ⟨pfx, hpfx⟩ : ∃ p, p = ns.getD 0 ⟨#[]⟩ := ⟨_, rfl⟩
  have Hpfx := Lib.hid hpfx
  rw [← hpfx] at X4 X40
  clear hpfx
  go_upto_if 47 with fail
  go_cut [13] (fun v13 wx => v13 = .string pfx ∧ wx = w5)
  case first =>
    by_cases h0 : 0 < n
    · obtain ⟨ad, rfl, hc⟩ := X4.out h0 w5 K5.out
      have h0I : (0 : Int) < (n : Int) := by omega
      go_wp2_with fail
      go_meet
      exact ⟨rfl, rfl⟩
    · have h0I : ¬ (0 : Int) < (n : Int) := by omega
      have hp := Lib.hid (X40.out (by omega))
      go_wp2_with fail
      go_meet
      exact ⟨by rw [hp.out], rfl⟩
  case rest =>
  obtain ⟨rfl, hwc⟩ := hcut
  obtain rfl := hwc
  clear X4 X40
  go_upto_region 10 with fail
  obtain ⟨p0, p1, p2, p3, p4, p5, q0, q1, q2, q3, q4, q5, cv, S0', S1', S2', S3', S4', S5', T0', T1', T2', T3', T4', T5', N0, N1, N2, N3, N4, N5, HC1, HC2, HK1, HK2, HK3, HK4, HAp⟩ := pack (c1 := c1) (c2 := c2) (c3 := c3) (c4 := c4) pfx Hm1.out Hm2.out Hm3.out Hn.out Hl1.out Hl2.out Hl3.out (by rw [← Hn.out]; exact H20.out) HS1.out HS2.out HS3.out R1.out R2.out R3.out R4.out HT.out K1 K5 E1.out S1 E2.out S2 E3.out S3.out E4.out S4.out
  clear Hm1 Hm2 Hm3 Hn Hl1 Hl2 Hl3 HS1 HS2 HS3 H20 Hpfx R1 R2 R3 R4 HT E1 E2 E3 E4 S1 S2 S3 S4 K1 K2 K3 K4 h20
  have P := Lib.hid (ph_start wc 53 54)
  generalize (wc.alloc (.cells #[.slice none 0 0, .slice none 0 0, .slice none 0 0, .slice none 0 0, .slice none 0 0, .slice none 0 0] 53)).alloc (.cells #[.int .i64 0, .int .i64 0, .int .i64 0, .int .i64 0, .int .i64 0, .int .i64 0] 54) = w7 at *
  generalize wc.heap.size + 1 = g15 at P ⊢
  generalize wc.heap.size = g14 at P ⊢
  have h1415 : g14 ≠ g15 := P.out.lo.2.2.2.2.1
  have h1514 : g15 ≠ g14 := fun e => h1415 e.symm
  go_upto_region 11 with (go_at_call 15; (with_reducible refine (S0'.out _ P.out.kept).mono ?_); rintro e wq ⟨v0, rfl, ho, hk⟩; obtain ⟨Av0, cv0, rfl, _, _, _⟩ := own_rdG ho; obtain ⟨ca, cb, fa, fb⟩ := P.out.cells hk; have a0 : wq.cell? ⟨g14, 0, none⟩ = some (.slice none 0 0) := ca 0 _ rfl; have b0 : wq.cell? ⟨g15, 0, none⟩ = some (.int .i64 0) := cb 0 _ rfl; have Hst := Lib.hid (P.out.put (q := q0) hk ho (Nat.le_of_ble_eq_true rfl) (k := 0) rfl); clear hk ho ca cb)
  generalize (wq.setCell ⟨g14, 0, none⟩ (.slice Av0 p0.length cv0)).setCell ⟨g15, 0, none⟩ (.int .i64 q0) = W0 at *
  replace P := Hst
  clear Hst fa fb a0 b0 S0'
  go_upto_region 12 with (go_at_call 14; (with_reducible refine (S1'.out _ P.out.kept).mono ?_); rintro e wq ⟨v1, rfl, ho, hk⟩; obtain ⟨Av1, cv1, rfl, _, _, _⟩ := own_rdG ho; obtain ⟨ca, cb, fa, fb⟩ := P.out.cells hk; have a0 : wq.cell? ⟨g14, 1, none⟩ = some (.slice none 0 0) := ca 1 _ rfl; have b0 : wq.cell? ⟨g15, 1, none⟩ = some (.int .i64 0) := cb 1 _ rfl; have Hst := Lib.hid (P.out.put (q := q1) hk ho (Nat.le_of_ble_eq_true rfl) (k := 1) rfl); clear hk ho ca cb)
  generalize (wq.setCell ⟨g14, 1, none⟩ (.slice Av1 p1.length cv1)).setCell ⟨g15, 1, none⟩ (.int .i64 q1) = W1 at *
  replace P := Hst
  clear Hst fa fb a0 b0 S1'
  go_upto_region 13 with (go_at_call 20; (with_reducible refine (S2'.out _ P.out.kept).mono ?_); rintro e wq ⟨v2, rfl, ho, hk⟩; obtain ⟨Av2, cv2, rfl, _, _, _⟩ := own_rdG ho; obtain ⟨ca, cb, fa, fb⟩ := P.out.cells hk; have a0 : wq.cell? ⟨g14, 2, none⟩ = some (.slice none 0 0) := ca 2 _ rfl; have b0 : wq.cell? ⟨g15, 2, none⟩ = some (.int .i64 0) := cb 2 _ rfl; have Hst := Lib.hid (P.out.put (q := q2) hk ho (Nat.le_of_ble_eq_true rfl) (k := 2) rfl); clear hk ho ca cb)
  generalize (wq.setCell ⟨g14, 2, none⟩ (.slice Av2 p2.length cv2)).setCell ⟨g15, 2, none⟩ (.int .i64 q2) = W2 at *
  replace P := Hst
  clear Hst fa fb a0 b0 S2'
  go_upto_region 14 with (go_at_call 23; (with_reducible refine (S3'.out _ P.out.kept).mono ?_); rintro e wq ⟨v3, rfl, ho, hk⟩; obtain ⟨Av3, cv3, rfl, _, _, _⟩ := own_rdG ho; obtain ⟨ca, cb, fa, fb⟩ := P.out.cells hk; have a0 : wq.cell? ⟨g14, 3, none⟩ = some (.slice none 0 0) := ca 3 _ rfl; have b0 : wq.cell? ⟨g15, 3, none⟩ = some (.int .i64 0) := cb 3 _ rfl; have Hst := Lib.hid (P.out.put (q := q3) hk ho (Nat.le_of_ble_eq_true rfl) (k := 3) rfl); clear hk ho ca cb)
  generalize (wq.setCell ⟨g14, 3, none⟩ (.slice Av3 p3.length cv3)).setCell ⟨g15, 3, none⟩ (.int .i64 q3) = W3 at *
  replace P := Hst
  clear Hst fa fb a0 b0 S3'
  go_upto_region 15 with (go_at_call 25; (with_reducible refine (S4'.out _ P.out.kept).mono ?_); rintro e wq ⟨v4, rfl, ho, hk⟩; obtain ⟨Av4, cv4, rfl, _, _, _⟩ := own_rdG ho; obtain ⟨ca, cb, fa, fb⟩ := P.out.cells hk; have a0 : wq.cell? ⟨g14, 4, none⟩ = some (.slice none 0 0) := ca 4 _ rfl; have b0 : wq.cell? ⟨g15, 4, none⟩ = some (.int .i64 0) := cb 4 _ rfl; have Hst := Lib.hid (P.out.put (q := q4) hk ho (Nat.le_of_ble_eq_true rfl) (k := 4) rfl); clear hk ho ca cb)
  generalize (wq.setCell ⟨g14, 4, none⟩ (.slice Av4 p4.length cv4)).setCell ⟨g15, 4, none⟩ (.int .i64 q4) = W4 at *
  replace P := Hst
  clear Hst fa fb a0 b0 S4'
  go_upto_region 16 with (go_at_call 27; (with_reducible refine (S5'.out _ P.out.kept).mono ?_); rintro e wq ⟨v5, rfl, ho, hk⟩; obtain ⟨Av5, cv5, rfl, _, _, _⟩ := own_rdG ho; obtain ⟨ca, cb, fa, fb⟩ := P.out.cells hk; have a0 : wq.cell? ⟨g14, 5, none⟩ = some (.slice none 0 0) := ca 5 _ rfl; have b0 : wq.cell? ⟨g15, 5, none⟩ = some (.int .i64 0) := cb 5 _ rfl; have Hst := Lib.hid (P.out.put (q := q5) hk ho (Nat.le_of_ble_eq_true rfl) (k := 5) rfl); clear hk ho ca cb)
  generalize (wq.setCell ⟨g14, 5, none⟩ (.slice Av5 p5.length cv5)).setCell ⟨g15, 5, none⟩ (.int .i64 q5) = W5 at *
  replace P := Hst
  clear Hst fa fb a0 b0 S5'
  go_upto_region 18 with fail
  have P2 := Lib.hid (ph2_start W5 55 56)
  generalize (W5.alloc (.cells #[.slice none 0 0, .slice none 0 0, .slice none 0 0, .slice none 0 0, .slice none 0 0, .slice none 0 0] 55)).alloc (.cells #[.int .i64 0, .int .i64 0, .int .i64 0, .int .i64 0, .int .i64 0, .int .i64 0] 56) = V at P2 ⊢
  generalize W5.heap.size + 1 = g17 at P2 ⊢
  generalize W5.heap.size = g16 at P2 ⊢
  have h1617 : g16 ≠ g17 := P2.out.lo.2.2
  have h1716 : g17 ≠ g16 := fun e => h1617 e.symm
  have K16 : Hid (Kept w W5) := kk K5 P.out.kept
  go_upto_region 19 with (go_at_call 31; (with_reducible refine (T0'.out _ (kk K16 P2.out.kept).out).mono ?_); rintro e wq ⟨Aw0, cw0, rfl, hr, hk⟩; obtain ⟨ca, cb, fa, fb⟩ := P2.out.cells hk; have a0 : wq.cell? ⟨g16, 0, none⟩ = some (.slice none 0 0) := ca 0 _ rfl; have b0 : wq.cell? ⟨g17, 0, none⟩ = some (.int .i64 0) := cb 0 _ rfl; have Hst := Lib.hid (P2.out.put (c := cw0) (q := q0) hk hr (Nat.le_of_ble_eq_true rfl) (k := 0) rfl); clear hk hr ca cb)
  generalize (wq.setCell ⟨g16, 0, none⟩ (.slice Aw0 p0.length cw0)).setCell ⟨g17, 0, none⟩ (.int .i64 q0) = V0 at *
  replace P2 := Hst
  clear Hst fa fb a0 b0 T0'
  go_upto_region 20 with (go_at_call 32; (with_reducible refine (T1'.out _ (kk K16 P2.out.kept).out).mono ?_); rintro e wq ⟨Aw1, cw1, rfl, hr, hk⟩; obtain ⟨ca, cb, fa, fb⟩ := P2.out.cells hk; have a0 : wq.cell? ⟨g16, 1, none⟩ = some (.slice none 0 0) := ca 1 _ rfl; have b0 : wq.cell? ⟨g17, 1, none⟩ = some (.int .i64 0) := cb 1 _ rfl; have Hst := Lib.hid (P2.out.put (c := cw1) (q := q1) hk hr (Nat.le_of_ble_eq_true rfl) (k := 1) rfl); clear hk hr ca cb)
  generalize (wq.setCell ⟨g16, 1, none⟩ (.slice Aw1 p1.length cw1)).setCell ⟨g17, 1, none⟩ (.int .i64 q1) = V1 at *
  replace P2 := Hst
  clear Hst fa fb a0 b0 T1'
  go_upto_region 21 with (go_at_call 33; (with_reducible refine (T2'.out _ (kk K16 P2.out.kept).out).mono ?_); rintro e wq ⟨Aw2, cw2, rfl, hr, hk⟩; obtain ⟨ca, cb, fa, fb⟩ := P2.out.cells hk; have a0 : wq.cell? ⟨g16, 2, none⟩ = some (.slice none 0 0) := ca 2 _ rfl; have b0 : wq.cell? ⟨g17, 2, none⟩ = some (.int .i64 0) := cb 2 _ rfl; have Hst := Lib.hid (P2.out.put (c := cw2) (q := q2) hk hr (Nat.le_of_ble_eq_true rfl) (k := 2) rfl); clear hk hr ca cb)
  generalize (wq.setCell ⟨g16, 2, none⟩ (.slice Aw2 p2.length cw2)).setCell ⟨g17, 2, none⟩ (.int .i64 q2) = V2 at *
  replace P2 := Hst
  clear Hst fa fb a0 b0 T2'
  go_upto_region 22 with (go_at_call 34; (with_reducible refine (T3'.out _ (kk K16 P2.out.kept).out).mono ?_); rintro e wq ⟨Aw3, cw3, rfl, hr, hk⟩; obtain ⟨ca, cb, fa, fb⟩ := P2.out.cells hk; have a0 : wq.cell? ⟨g16, 3, none⟩ = some (.slice none 0 0) := ca 3 _ rfl; have b0 : wq.cell? ⟨g17, 3, none⟩ = some (.int .i64 0) := cb 3 _ rfl; have Hst := Lib.hid (P2.out.put (c := cw3) (q := q3) hk hr (Nat.le_of_ble_eq_true rfl) (k := 3) rfl); clear hk hr ca cb)
  generalize (wq.setCell ⟨g16, 3, none⟩ (.slice Aw3 p3.length cw3)).setCell ⟨g17, 3, none⟩ (.int .i64 q3) = V3 at *
  replace P2 := Hst
  clear Hst fa fb a0 b0 T3'
  go_upto_region 23 with (go_at_call 34; (with_reducible refine (T4'.out _ (kk K16 P2.out.kept).out).mono ?_); rintro e wq ⟨Aw4, cw4, rfl, hr, hk⟩; obtain ⟨ca, cb, fa, fb⟩ := P2.out.cells hk; have a0 : wq.cell? ⟨g16, 4, none⟩ = some (.slice none 0 0) := ca 4 _ rfl; have b0 : wq.cell? ⟨g17, 4, none⟩ = some (.int .i64 0) := cb 4 _ rfl; have Hst := Lib.hid (P2.out.put (c := cw4) (q := q4) hk hr (Nat.le_of_ble_eq_true rfl) (k := 4) rfl); clear hk hr ca cb)
  generalize (wq.setCell ⟨g16, 4, none⟩ (.slice Aw4 p4.length cw4)).setCell ⟨g17, 4, none⟩ (.int .i64 q4) = V4 at *
  replace P2 := Hst
  clear Hst fa fb a0 b0 T4'
  go_upto_region 24 with (go_at_call 35; (with_reducible refine (T5'.out _ (kk K16 P2.out.kept).out).mono ?_); rintro e wq ⟨Aw5, cw5, rfl, hr, hk⟩; obtain ⟨ca, cb, fa, fb⟩ := P2.out.cells hk; have a0 : wq.cell? ⟨g16, 5, none⟩ = some (.slice none 0 0) := ca 5 _ rfl; have b0 : wq.cell? ⟨g17, 5, none⟩ = some (.int .i64 0) := cb 5 _ rfl; have Hst := Lib.hid (P2.out.put (c := cw5) (q := q5) hk hr (Nat.le_of_ble_eq_true rfl) (k := 5) rfl); clear hk hr ca cb)
  generalize (wq.setCell ⟨g16, 5, none⟩ (.slice Aw5 p5.length cw5)).setCell ⟨g17, 5, none⟩ (.int .i64 q5) = V5 at *
  replace P2 := Hst
  clear Hst fa fb a0 b0 T5'
  have KV5 : Kept W5 V5 := P2.out.kept
  have PV := P.out.later KV5
  have HAll : Hid (∀ i : Nat, i < 6 → ∃ (A : Option Addr) (c : Nat) (A' : Option Addr) (c' : Nat) (pm : List Lab) (q : Int), pm.length ≤ 1000 ∧ ∀ W, Kept V5 W → (W.cell? ⟨g14, i, none⟩ = some (.slice A pm.length c) ∧ W.cell? ⟨g15, i, none⟩ = some (.int .i64 q) ∧ W.cell? ⟨g16, i, none⟩ = some (.slice A' pm.length c') ∧ W.cell? ⟨g17, i, none⟩ = some (.int .i64 q)) ∧ RdL W W.heap.size A pm ∧ RdL W W.heap.size A' pm) := fun i hi => by
    rcases (by omega : i = 0 ∨ i = 1 ∨ i = 2 ∨ i = 3 ∨ i = 4 ∨ i = 5) with rfl | rfl | rfl | rfl | rfl | rfl
    · exact ⟨Av0, cv0, Aw0, cw0, p0, q0, N0.out, fun W hk => ⟨⟨(PV.cells hk).1 0 _ rfl, (PV.cells hk).2.1 0 _ rfl, (P2.out.cells hk).1 0 _ rfl, (P2.out.cells hk).2.1 0 _ rfl⟩, rd_kept hk (own_rdA (PV.own (.slice Av0 p0.length cv0, q0, p0) (by simp))), rd_kept hk (P2.out.rd (Aw0, cw0, q0, p0) (by simp))⟩⟩
    · exact ⟨Av1, cv1, Aw1, cw1, p1, q1, N1.out, fun W hk => ⟨⟨(PV.cells hk).1 1 _ rfl, (PV.cells hk).2.1 1 _ rfl, (P2.out.cells hk).1 1 _ rfl, (P2.out.cells hk).2.1 1 _ rfl⟩, rd_kept hk (own_rdA (PV.own (.slice Av1 p1.length cv1, q1, p1) (by simp))), rd_kept hk (P2.out.rd (Aw1, cw1, q1, p1) (by simp))⟩⟩
    · exact ⟨Av2, cv2, Aw2, cw2, p2, q2, N2.out, fun W hk => ⟨⟨(PV.cells hk).1 2 _ rfl, (PV.cells hk).2.1 2 _ rfl, (P2.out.cells hk).1 2 _ rfl, (P2.out.cells hk).2.1 2 _ rfl⟩, rd_kept hk (own_rdA (PV.own (.slice Av2 p2.length cv2, q2, p2) (by simp))), rd_kept hk (P2.out.rd (Aw2, cw2, q2, p2) (by simp))⟩⟩
    · exact ⟨Av3, cv3, Aw3, cw3, p3, q3, N3.out, fun W hk => ⟨⟨(PV.cells hk).1 3 _ rfl, (PV.cells hk).2.1 3 _ rfl, (P2.out.cells hk).1 3 _ rfl, (P2.out.cells hk).2.1 3 _ rfl⟩, rd_kept hk (own_rdA (PV.own (.slice Av3 p3.length cv3, q3, p3) (by simp))), rd_kept hk (P2.out.rd (Aw3, cw3, q3, p3) (by simp))⟩⟩
    · exact ⟨Av4, cv4, Aw4, cw4, p4, q4, N4.out, fun W hk => ⟨⟨(PV.cells hk).1 4 _ rfl, (PV.cells hk).2.1 4 _ rfl, (P2.out.cells hk).1 4 _ rfl, (P2.out.cells hk).2.1 4 _ rfl⟩, rd_kept hk (own_rdA (PV.own (.slice Av4 p4.length cv4, q4, p4) (by simp))), rd_kept hk (P2.out.rd (Aw4, cw4, q4, p4) (by simp))⟩⟩
    · exact ⟨Av5, cv5, Aw5, cw5, p5, q5, N5.out, fun W hk => ⟨⟨(PV.cells hk).1 5 _ rfl, (PV.cells hk).2.1 5 _ rfl, (P2.out.cells hk).1 5 _ rfl, (P2.out.cells hk).2.1 5 _ rfl⟩, rd_kept hk (own_rdA (PV.own (.slice Av5 p5.length cv5, q5, p5) (by simp))), rd_kept hk (P2.out.rd (Aw5, cw5, q5, p5) (by simp))⟩⟩
  clear N0 N1 N2 N3 N4 N5 P2 PV h1415 h1514 h1617 h1716
  go_wp2_with fail
  go_loopw [147] (fun v147 wr => ∃ i : Nat, i ≤ 6 ∧ v147 = .int .i64 i ∧ Hid (Kept V5 wr)) (fun v147 _ => 6 - (intOf v147).toNat)
  case atStart => exact ⟨0, by omega, rfl, Below.refl _ _⟩
  case round =>
    obtain ⟨i, hi, rfl, hkr⟩ := hrel
    by_cases hin : i < 6
    · obtain ⟨Ao, co, Ap, cp, pm, qm, hpl, hall⟩ := HAll.out i hin
      obtain ⟨⟨x0, x1, x2, x3⟩, y0, y1⟩ := hall wr hkr.out
      have HI : Hid (∀ W, Kept wr W → Calls Tryz.prog 36 #[.slice Ao pm.length co, .int .i64 qm, .slice Ap pm.length cp, .int .i64 qm] W fun e w' => e = .returned (.bool true) ∧ Kept W w') := fun W h => is_any Ao Ap co cp pm (by omega) qm W (rd_kept h y0) (rd_kept h y1)
      have hinI : (i : Int) < 6 := by omega
      have Hk : Hid (∀ W', Below wr.heap.size wr W' → (W'.cell? ⟨g14, i, none⟩ = some (.slice Ao pm.length co) ∧ W'.cell? ⟨g15, i, none⟩ = some (.int .i64 qm) ∧ W'.cell? ⟨g16, i, none⟩ = some (.slice Ap pm.length cp) ∧ W'.cell? ⟨g17, i, none⟩ = some (.int .i64 qm)) ∧ Below wr.heap.size wr W') := fun W' h => ⟨⟨(Below.cell h (block_lt_of_cell x0)).trans x0, (Below.cell h (block_lt_of_cell x1)).trans x1, (Below.cell h (block_lt_of_cell x2)).trans x2, (Below.cell h (block_lt_of_cell x3)).trans x3⟩, h⟩
      generalize pm.length = pl at *
      clear hall y0 y1 hpl x0 x1 x2 x3
      go_upto_region 27 with fail
      go_cut [163] (fun v163 wx => v163 = .bool false ∧ Hid (Kept wr wx))
      case first =>
        have hb00 : Below wr.heap.size wr wr.drew := (Below.refl wr.heap.size wr).drew
        go_region_held3 (fun W' => (W'.cell? ⟨g14, i, none⟩ = some (.slice Ao pl co) ∧ W'.cell? ⟨g15, i, none⟩ = some (.int .i64 qm) ∧ W'.cell? ⟨g16, i, none⟩ = some (.slice Ap pl cp) ∧ W'.cell? ⟨g17, i, none⟩ = some (.int .i64 qm)) ∧ Below wr.heap.size wr W')
          ((refine Hk.out _ ?_; assumption))
          (first
            | (go_at_call 36; refine (HI.out _ (by assumption)).mono ?_; rintro e wz ⟨rfl, hkz⟩; have kz : Below wr.heap.size wr wz := below_kept (by assumption) hkz; dsimp only))
        all_goals
          rename_i hS
          clear hS
          go_wp2_with fail
          go_meet
          exact ⟨rfl, kz⟩
      case rest =>
        obtain ⟨rfl, hk3⟩ := hcut
        have K9 : Hid (Kept V5 wc) := below_kept hkr.out hk3.out
        go_wp2_with fail
        go_roundw
        case rel => exact ⟨i + 1, by omega, by go_num, K9⟩
        case measure => simp [intOf]; omega
    · obtain rfl : i = 6 := by omega
      clear HAll
      have KB : Hid (Kept W5 wr) := below_kept KV5 hkr.out
      have KA : Hid (Kept wc wr) := below_kept P.out.kept KB.out
      have KC : Hid (Kept w wr) := below_kept K5.out KA.out
      go_upto_region 32 with (first
        | (go_at_call 37; (with_reducible refine (HC1.out _ KA.out).mono ?_); rintro e wq ⟨rfl, hk⟩; replace KA := kk KA hk; replace KB := kk KB hk; replace KC := kk KC hk; clear hk)
        | (go_at_call 38; (with_reducible refine (HC2.out _ KC.out).mono ?_); rintro e wq ⟨rfl, hk⟩; replace KA := kk KA hk; replace KB := kk KB hk; replace KC := kk KC hk; clear hk)
        | (go_at_call 39; (with_reducible refine (HK1.out _ KA.out).mono ?_); rintro e wq ⟨rfl, hk⟩; replace KA := kk KA hk; replace KB := kk KB hk; replace KC := kk KC hk; clear hk)
        | (go_at_call 39; (with_reducible refine (HK2.out _ KA.out).mono ?_); rintro e wq ⟨rfl, hk⟩; replace KA := kk KA hk; replace KB := kk KB hk; replace KC := kk KC hk; clear hk)
        | (go_at_call 39; (with_reducible refine (HK3.out _ KA.out).mono ?_); rintro e wq ⟨rfl, hk⟩; replace KA := kk KA hk; replace KB := kk KB hk; replace KC := kk KC hk; clear hk)
        | (go_at_call 40; (with_reducible refine (HK4.out _ KA.out).mono ?_); rintro e wq ⟨rfl, hk⟩; replace KA := kk KA hk; replace KB := kk KB hk; replace KC := kk KC hk; clear hk))
      have P3 : Ph 53 54 g14 g15 wc w7 wq [(.slice Av0 p0.length cv0, q0, p0), (.slice Av1 p1.length cv1, q1, p1), (.slice Av2 p2.length cv2, q2, p2), (.slice Av3 p3.length cv3, q3, p3), (.slice Av4 p4.length cv4, q4, p4), (.slice Av5 p5.length cv5, q5, p5)] := P.out.later KB.out
      have hca := (P3.cells (Below.refl _ _)).1
      have z0 : wq.cell? ⟨g14, 0, none⟩ = some (.slice Av0 p0.length cv0) := hca 0 _ rfl
      have z1 : wq.cell? ⟨g14, 1, none⟩ = some (.slice Av1 p1.length cv1) := hca 1 _ rfl
      have z2 : wq.cell? ⟨g14, 2, none⟩ = some (.slice Av2 p2.length cv2) := hca 2 _ rfl
      have z3 : wq.cell? ⟨g14, 3, none⟩ = some (.slice Av3 p3.length cv3) := hca 3 _ rfl
      have z4 : wq.cell? ⟨g14, 4, none⟩ = some (.slice Av4 p4.length cv4) := hca 4 _ rfl
      have z5 : wq.cell? ⟨g14, 5, none⟩ = some (.slice Av5 p5.length cv5) := hca 5 _ rfl
      have hAp := fun T => HAp.out _ _ _ _ _ _ _ _ _ _ _ _ P3 T
      have HAp2 := Lib.hid hAp
      clear hca hAp HAp P3 P
      go_wp2_with (go_at_call 41; refine (HAp2.out _).mono ?_; rintro e w33 ⟨rfl, hb⟩; have K33 : Hid (Kept w w33) := (KC.out.alloc KC.out.size _).trans hb; clear hb)
      go_ret
      exact ⟨rfl, K33.out⟩
end Go.Proofs.YtlhekeokognhmaaGreatDoor
