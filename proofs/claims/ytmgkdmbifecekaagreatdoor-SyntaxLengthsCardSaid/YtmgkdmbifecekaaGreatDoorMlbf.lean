/-
  Package class: the text of a set. Package syntax: the texts of quantifiers.
-/
import Derived.Test.YtmgkdmbifecekaaGreatDoorMlbe
import Derived.Test.YtmgkdmbifecekaaGreatDoorMlbb
import Derived.Test.YtmgkdmbifecekaaGreatDoorMlap
set_option linter.all false
set_option linter.unusedSimpArgs false
set_option linter.unusedVariables false
set_option linter.unusedSectionVars false
namespace Go.Proofs.YtmgkdmbifecekaaGreatDoor
open Go.RowKit Go.Shelf
theorem hexT_len : ∀ (k n : Nat), (hexT k n).length ≤ k
  | 0, n => by simp [hexT]
  | k + 1, n => by
    unfold hexT
    split
    · simp
    · have := hexT_len k (n / 16)
      rw [List.length_append]
      simp
      omega
theorem ptS_len (c : Int) : (ptS c).length ≤ 10 := by
  unfold ptS
  split
  · simp
  · have := hexT_len 6 c.toNat
    rw [List.length_append, List.length_append]
    simp
    omega
theorem rgS_len (r : Rng) : (rgS r).length ≤ 21 := by
  have h1 := ptS_len r.1
  have h2 := ptS_len r.2
  unfold rgS
  rw [List.length_append]
  split
  · rw [List.length_append]
    simp
    omega
  · simp
    omega
theorem rgsS_len : ∀ L : List Rng, (rgsS L).length ≤ 21 * L.length
  | [] => by simp [rgsS]
  | r :: L => by
    have h1 := rgS_len r
    have h2 := rgsS_len L
    unfold rgsS at h2 ⊢
    rw [List.flatMap_cons, List.length_append, List.length_cons]
    omega
theorem rgsS_take {L : List Rng} {k : Nat} {x : Rng} (h : L[k]? = some x) : rgsS (L.take (k + 1)) = rgsS (L.take k) ++ rgS x := by
  unfold rgsS
  rw [List.take_add_one, h, Option.toList_some, List.flatMap_append]
  simp
theorem IsWr.kept {T : TypeId} {B b : Nat} {l : Bs} {w w' : World} (h : IsWr T B b l w) (hk : Kept w w') : IsWr T B b l w' := by
  have one : ∀ p, WrAt T B b p l w → WrAt T B b p l w' := by
    intro p hA
    have hlt := hA.lt
    obtain ⟨hB, v, hb, hown, hne⟩ := hA
    exact ⟨hB, v, (hk.block b hlt).trans hb, hown.kept (row := none) ⟨hk.os, hk.tape, hk.output, hk.size, fun k h _ => hk.block k h⟩ (by cases hv : v.ownBlock <;> simp), hne⟩
  rcases h with h | h
  · exact .inl (one _ h)
  · exact .inr (one _ h)
theorem IsWr.lt {T : TypeId} {B b : Nat} {l : Bs} {w : World} (h : IsWr T B b l w) : b < w.heap.size := by
  rcases h with h | h <;> exact h.lt
theorem isWr_new (T : TypeId) (B : Nat) (w : World) (h : B ≤ w.heap.size) : IsWr T B w.heap.size [] (w.alloc (.cells #[.pointer none, .slice none 0 0] T)) :=
  .inl ⟨h, _, heap_alloc_new w _, ⟨rfl, .inl ⟨rfl, rfl⟩⟩, by simp [Value.ownBlock]⟩
/-- A point's text is told. -/
abbrev PtC (c : Int) : Prop := ∀ W, Calls Tryz.prog 115 #[.int .i64 c] W fun e w' => e = .returned (.string (b8 (ptS c))) ∧ Kept W w'
theorem ptC_plain (c : Int) (h : plainP c = true) : PtC c := fun W => (pt_plain c h W).mono fun _ _ h => ⟨h.1, h.2 ▸ Below.refl _ _⟩
section
variable (A : Option Addr) (c : Nat) (L : List Rng) (hL : L.length ≤ 1000) (hne : L ≠ []) (hR : rgtR 0 L = true) (hp : ∀ r ∈ L, PtC r.1 ∧ PtC r.2) (w : World) (hr : RdR w w.heap.size A L)
include hL hne hR hp hr
set_option maxRecDepth 100000 in
set_option maxHeartbeats 4000000 in
theorem ctext_any : Calls Tryz.prog 90 #[.slice A L.length c] w fun e w' => e = .returned (.tuple #[.string (b8 (clsS L)), .int .i64 0]) ∧ Kept w w' := by
  have HR := Lib.hid hr
  have HP := Lib.hid hp
  have hn0 : L.length ≠ 0 := fun e => hne (List.length_eq_zero_iff.1 e)
  have hcl : Hid (clsS L = 91 :: (rgsS L ++ [93])) := by show _ = _; unfold clsS; rw [if_neg hne]; rfl
  have CR := Lib.hid (cright_any A c L (by omega) w hr)
  rw [hR] at CR
  have hrl := rgsS_len L
  obtain ⟨n, hn⟩ : ∃ n, n = L.length := ⟨_, rfl⟩
  have Hn := Lib.hid hn
  rw [← hn] at hL hn0 CR hrl ⊢
  have hni : ((n : Int) == 0) = false := by rw [beq_eq_false_iff_ne]; omega
  have HL := Lib.hid hrl
  clear hr hn hp hR hne hrl
  go_enter Tryz.func90, Tryz.ntmps90
  go_wp2_with (go_at_call 96; refine CR.out.mono ?_; rintro e w1 ⟨rfl, hk1⟩)
  obtain ⟨b, hb⟩ : ∃ b, b = w1.heap.size := ⟨_, rfl⟩
  have hw0 := isWr_new 88 w.heap.size w1 hk1.size
  have hk2 : Kept w (w1.alloc (.cells #[.pointer none, .slice none 0 0] 88)) := below_alloc0 hk1 _
  rw [← hb] at hw0 ⊢
  obtain ⟨w2, hw2⟩ : ∃ x, x = w1.alloc (.cells #[.pointer none, .slice none 0 0] 88) := ⟨_, rfl⟩
  rw [← hw2] at hw0 hk2 ⊢
  refine (wws_any _ bldSb _ _ _ [91] _ hw0 (by simp) hk2.size).mono ?_
  rintro e w3 ⟨rfl, hw3, hb3, ho3⟩
  have HW3 : Hid (IsWr 88 w.heap.size b (91 :: rgsS (L.take 0)) w3) := hw3
  have HK3 := Lib.hid (hk2.trans hb3)
  clear hk1 hk2 hw0 hw2 hw3 hb3 hb CR ho3
  go_wp2_with fail
  go_loopw [16] (fun v16 wr => ∃ k : Nat, k ≤ n ∧ v16 = .int .i64 k ∧ Hid (Below w.heap.size w wr) ∧ Hid (IsWr 88 w.heap.size b (91 :: rgsS (L.take k)) wr)) (fun v16 _ => n - (intOf v16).toNat)
  case atStart => exact ⟨0, Nat.zero_le _, rfl, HK3, HW3⟩
  case round =>
    obtain ⟨k, hk, rfl, HK, HW⟩ := hrel
    by_cases hkn : k < n
    · obtain ⟨ad, x, rfl, hadb, hx, hd, hc0, hc1⟩ := rdr_at HR.out (by rw [← Hn.out]; exact hkn)
      have e0 := (Below.cell HK.out (by rw [addBlock]; exact hadb)).trans hc0
      have e1 := (Below.cell HK.out (by rw [addBlock]; exact hadb)).trans hc1
      have Hcl := Lib.hid (rng_cells e0 e1)
      obtain ⟨hp1, hp2⟩ := HP.out x (List.mem_of_getElem? hx)
      have HP1 := Lib.hid hp1
      have HP2 := Lib.hid hp2
      have Htk := Lib.hid (rgsS_take hx)
      have hlt := rgsS_len (L.take k)
      rw [List.length_take] at hlt
      have hl1 := ptS_len x.1
      have hl2 := ptS_len x.2
      obtain ⟨q, hq⟩ : ∃ q, q = rgsS (L.take k) := ⟨_, rfl⟩
      rw [← hq] at HW Htk hlt
      have hlq : q.length ≤ 21000 := by omega
      have hkni : (k : Int) < (n : Int) := by omega
      have hbw := HW.out.lt
      obtain ⟨rb, hrb⟩ : ∃ r, r = wr.heap.size := ⟨_, rfl⟩
      have HB0 : Hid ((wr.alloc (.cells #[.int .i64 x.1, .int .i64 x.2] 73)).heap[rb]? = some (.cells #[.int .i64 x.1, .int .i64 x.2] 73 (0, 0))) := by rw [hrb]; exact heap_alloc_new wr _
      have HWa := Lib.hid (HW.out.kept (below_alloc0 (Below.refl _ wr) (.cells #[.int .i64 x.1, .int .i64 x.2] 73)))
      have HKa : Hid (Below w.heap.size w (wr.alloc (.cells #[.int .i64 x.1, .int .i64 x.2] 73))) := HK.out.alloc HK.out.size _
      have hrbb : rb ≠ b := by omega
      clear hc0 hc1 hx hd e0 e1 hp1 hp2 hlt hq HW HK
      go_wp2_with (refine wpList_load_at rfl 73 (.tmp 18) rfl (ad.add (k * 2)) rfl #[.int .i64 x.1, .int .i64 x.2] _ Hcl.out Tryz.underlying73 rfl sizeR ?_)
      refine (HP1.out _).mono ?_
      rintro e w4 ⟨rfl, hk4⟩
      have HB4 := Lib.hid (heap_kept hk4 HB0.out)
      have HW4 := Lib.hid (HWa.out.kept hk4)
      have HK4 := Lib.hid (HKa.out.trans (hk4.mono HKa.out.size))
      rw [← hrb]
      clear hk4 HB0 HWa HKa hrb
      go_wp2_with fail
      refine (wws_any _ bldSb _ _ _ (ptS x.1) _ HW4.out (by simp; omega) HK4.out.size).mono ?_
      rintro e w5 ⟨rfl, hw5, hb5, ho5⟩
      have HB5 := Lib.hid (ho5 rb _ HB4.out (by intro e; exact hrbb (Option.some.inj e)) (by intro c fz e; injection e with _ e2 _; exact absurd e2 (by decide)))
      have HW5 := Lib.hid hw5
      have HK5 := Lib.hid (HK4.out.trans hb5)
      have c0 := row_cells HB5.out 0 _ rfl
      have c1 := row_cells HB5.out 1 _ rfl
      rw [add0] at c0 c1
      clear hw5 hb5 ho5 HB4 HW4 HK4
      by_cases h12 : x.1 < x.2
      · have hrg : Hid (rgS x = ptS x.1 ++ ([45] ++ ptS x.2)) := by show _ = _; unfold rgS; rw [if_pos h12]
        go_wp2_with fail
        refine (wws_any _ bldSb _ _ _ [45] _ HW5.out (by simp; omega) HK5.out.size).mono ?_
        rintro e w6 ⟨rfl, hw6, hb6, ho6⟩
        have HB6 := Lib.hid (ho6 rb _ HB5.out (by intro e; exact hrbb (Option.some.inj e)) (by intro c fz e; injection e with _ e2 _; exact absurd e2 (by decide)))
        have HW6 := Lib.hid hw6
        have HK6 := Lib.hid (HK5.out.trans hb6)
        clear hw6 hb6 ho6 HB5 HW5 HK5 c0 c1
        have c1 := row_cells HB6.out 1 _ rfl
        rw [add0] at c1
        go_wp2_with fail
        refine (HP2.out _).mono ?_
        rintro e w7 ⟨rfl, hk7⟩
        have HW7 := Lib.hid (HW6.out.kept hk7)
        have HK7 := Lib.hid (HK6.out.trans (hk7.mono HK6.out.size))
        clear hk7 c1 HB6 HW6 HK6
        go_wp2_with fail
        refine (wws_any _ bldSb _ _ _ (ptS x.2) _ HW7.out (by simp; omega) HK7.out.size).mono ?_
        rintro e w8 ⟨rfl, hw8, hb8, ho8⟩
        have HW8 := Lib.hid hw8
        have HK8 := Lib.hid (HK7.out.trans hb8)
        clear hw8 hb8 ho8 HW7 HK7
        go_wp2_with fail
        go_roundw
        case rel =>
          refine ⟨k + 1, by omega, by go_num, HK8, ?_⟩
          rw [Htk.out, hrg.out]
          have := HW8.out
          simp only [List.cons_append, List.append_assoc, List.singleton_append, List.nil_append] at this ⊢
          exact Lib.hid this
        case measure => simp [intOf]; omega
      · have hrg : Hid (rgS x = ptS x.1) := by show _ = _; unfold rgS; rw [if_neg h12, List.append_nil]
        go_wp2_with fail
        go_roundw
        case rel =>
          refine ⟨k + 1, by omega, by go_num, HK5, ?_⟩
          rw [Htk.out, hrg.out]
          have := HW5.out
          simp only [List.cons_append, List.append_assoc, List.singleton_append, List.nil_append] at this ⊢
          exact Lib.hid this
        case measure => simp [intOf]; omega
    · obtain rfl : k = n := by omega
      have hall : L.take k = L := by rw [Hn.out]; exact List.take_length
      rw [hall] at HW
      have hll := HL.out
      go_wp2_with fail
      refine (wws_any _ bldSb _ _ _ [93] _ HW.out (by simp; omega) HK.out.size).mono ?_
      rintro e w6 ⟨rfl, hw6, hb6, ho6⟩
      have HW6 := Lib.hid hw6
      have HK6 := Lib.hid (HK.out.trans hb6)
      clear hw6 hb6 ho6 HW HK hll
      go_wp2_with fail
      refine (wst_any _ _ _ _ _ HW6.out (by simp)).mono ?_
      rintro e w7 ⟨rfl, hb7⟩
      have HK7 := Lib.hid (HK6.out.trans hb7)
      go_wp2_with fail
      go_ret2
      rw [hcl.out]
      exact ⟨rfl, HK7.out⟩
end
end Go.Proofs.YtmgkdmbifecekaaGreatDoor
namespace Go.Proofs.YtmgkdmbifecekaaGreatDoor
open Go.RowKit Go.Shelf
theorem b8_app (l m : Bs) : b8 l ++ b8 m = b8 (l ++ m) := by
  apply ByteArray.ext
  simp
theorem itoaT (a : Int) (ha : 0 ≤ a ∧ a < 100) (w : World) : Calls Tryz.prog 26 #[.int .i64 a] w fun e w' => e = .returned (.string (b8 (decT a.toNat))) ∧ w = w' := by
  have := itoa_any a.toNat (by omega) w
  rw [decT_eq, show ((a.toNat : Nat) : Int) = a from by omega] at this
  exact this
theorem decT_len (n : Nat) (h : n < 100) : (decT n).length ≤ 2 := by
  unfold decT
  split
  · simp
  · simp [h]
theorem tmsS_len (a b : Int) (ha : 0 ≤ a ∧ a < 100) (hb : b = -1 ∨ (0 ≤ b ∧ b < 100)) : (tmsS a b).length ≤ 7 := by
  have h1 := decT_len a.toNat (by omega)
  have h2 := decT_len b.toNat (by omega)
  unfold tmsS
  split
  · simp
  · split
    · simp
    · split
      · simp
      · split
        · simp; omega
        · split
          · simp; omega
          · simp; omega
set_option maxRecDepth 10000 in
set_option maxHeartbeats 2000000 in
theorem tms_a (w : World) : Calls Tryz.prog 92 #[.int .i64 (0), .int .i64 (-1)] w fun e w' => e = .returned (.string (b8 (tmsS (0) (-1)))) ∧ w = w' := by
  have CA := Lib.hid (fun w => itoaT (0) (by omega) w)
  have hla := decT_len ((0 : Int)).toNat (by omega)
  obtain ⟨sa, hsa⟩ : ∃ s, s = decT ((0 : Int)).toNat := ⟨_, rfl⟩
  rw [← hsa] at CA hla
  have HSA := Lib.hid hsa
  clear hsa
  go_enter Tryz.func92, Tryz.ntmps92
  go_wp2_with fail
  refine (CA.out _).mono ?_
  rintro e w1 ⟨rfl, rfl⟩
  go_wp2_with fail
  go_ret
  have hsa := HSA.out
  subst hsa
  exact ⟨rfl, rfl⟩
set_option maxRecDepth 10000 in
set_option maxHeartbeats 2000000 in
theorem tms_b (w : World) : Calls Tryz.prog 92 #[.int .i64 (1), .int .i64 (-1)] w fun e w' => e = .returned (.string (b8 (tmsS (1) (-1)))) ∧ w = w' := by
  have CA := Lib.hid (fun w => itoaT (1) (by omega) w)
  have hla := decT_len ((1 : Int)).toNat (by omega)
  obtain ⟨sa, hsa⟩ : ∃ s, s = decT ((1 : Int)).toNat := ⟨_, rfl⟩
  rw [← hsa] at CA hla
  have HSA := Lib.hid hsa
  clear hsa
  go_enter Tryz.func92, Tryz.ntmps92
  go_wp2_with fail
  refine (CA.out _).mono ?_
  rintro e w1 ⟨rfl, rfl⟩
  go_wp2_with fail
  go_ret
  have hsa := HSA.out
  subst hsa
  exact ⟨rfl, rfl⟩
set_option maxRecDepth 10000 in
set_option maxHeartbeats 2000000 in
theorem tms_c (a : Int) (ha : 2 ≤ a ∧ a < 100) (w : World) : Calls Tryz.prog 92 #[.int .i64 (a), .int .i64 (-1)] w fun e w' => e = .returned (.string (b8 (tmsS (a) (-1)))) ∧ w = w' := by
  have CA := Lib.hid (fun w => itoaT (a) (by omega) w)
  have hla := decT_len ((a : Int)).toNat (by omega)
  obtain ⟨sa, hsa⟩ : ∃ s, s = decT ((a : Int)).toNat := ⟨_, rfl⟩
  rw [← hsa] at CA hla
  have HSA := Lib.hid hsa
  clear hsa
  have g0 : ((a : Int) == 0) = false := by rw [beq_eq_false_iff_ne]; omega
  have g1 : ((a : Int) == 1) = false := by rw [beq_eq_false_iff_ne]; omega
  have g2 : ((a : Int) == -1) = false := by rw [beq_eq_false_iff_ne]; omega
  go_enter Tryz.func92, Tryz.ntmps92
  go_wp2_with fail
  refine (CA.out _).mono ?_
  rintro e w1 ⟨rfl, rfl⟩
  go_wp2_with fail
  go_ret
  have hsa := HSA.out
  subst hsa
  unfold tmsS
  rw [if_neg (by omega), if_neg (by omega), if_neg (by omega), if_neg (by omega), if_pos (by omega)]
  refine ⟨?_, rfl⟩
  show Ending.returned (.string (b8 [123] ++ b8 (decT a.toNat) ++ b8 [44, 125])) = _
  simp only [b8_app, List.append_assoc]
set_option maxRecDepth 10000 in
set_option maxHeartbeats 2000000 in
theorem tms_d (w : World) : Calls Tryz.prog 92 #[.int .i64 (0), .int .i64 (1)] w fun e w' => e = .returned (.string (b8 (tmsS (0) (1)))) ∧ w = w' := by
  have CA := Lib.hid (fun w => itoaT (0) (by omega) w)
  have hla := decT_len ((0 : Int)).toNat (by omega)
  obtain ⟨sa, hsa⟩ : ∃ s, s = decT ((0 : Int)).toNat := ⟨_, rfl⟩
  rw [← hsa] at CA hla
  have HSA := Lib.hid hsa
  clear hsa
  go_enter Tryz.func92, Tryz.ntmps92
  go_wp2_with fail
  refine (CA.out _).mono ?_
  rintro e w1 ⟨rfl, rfl⟩
  go_wp2_with fail
  go_ret
  have hsa := HSA.out
  subst hsa
  exact ⟨rfl, rfl⟩
set_option maxRecDepth 10000 in
set_option maxHeartbeats 2000000 in
theorem tms_e (w : World) : Calls Tryz.prog 92 #[.int .i64 (0), .int .i64 (0)] w fun e w' => e = .returned (.string (b8 (tmsS (0) (0)))) ∧ w = w' := by
  have CA := Lib.hid (fun w => itoaT (0) (by omega) w)
  have hla := decT_len ((0 : Int)).toNat (by omega)
  obtain ⟨sa, hsa⟩ : ∃ s, s = decT ((0 : Int)).toNat := ⟨_, rfl⟩
  rw [← hsa] at CA hla
  have HSA := Lib.hid hsa
  clear hsa
  go_enter Tryz.func92, Tryz.ntmps92
  go_wp2_with fail
  refine (CA.out _).mono ?_
  rintro e w1 ⟨rfl, rfl⟩
  go_wp2_with fail
  go_ret
  have hsa := HSA.out
  subst hsa
  exact ⟨rfl, rfl⟩
set_option maxRecDepth 10000 in
set_option maxHeartbeats 2000000 in
theorem tms_f (b : Int) (hb : 2 ≤ b ∧ b < 100) (w : World) : Calls Tryz.prog 92 #[.int .i64 (0), .int .i64 (b)] w fun e w' => e = .returned (.string (b8 (tmsS (0) (b)))) ∧ w = w' := by
  have CA := Lib.hid (fun w => itoaT (0) (by omega) w)
  have CB := Lib.hid (fun w => itoaT (b) (by omega) w)
  have hla := decT_len ((0 : Int)).toNat (by omega)
  obtain ⟨sa, hsa⟩ : ∃ s, s = decT ((0 : Int)).toNat := ⟨_, rfl⟩
  rw [← hsa] at CA hla
  have HSA := Lib.hid hsa
  clear hsa
  have hlb := decT_len ((b : Int)).toNat (by omega)
  obtain ⟨sb, hsb⟩ : ∃ s, s = decT ((b : Int)).toNat := ⟨_, rfl⟩
  rw [← hsb] at CB hlb
  have HSB := Lib.hid hsb
  clear hsb
  have g0 : ((b : Int) == 1) = false := by rw [beq_eq_false_iff_ne]; omega
  have g1 : ((b : Int) == -1) = false := by rw [beq_eq_false_iff_ne]; omega
  have g2 : ((0 : Int) == b) = false := by rw [beq_eq_false_iff_ne]; omega
  go_enter Tryz.func92, Tryz.ntmps92
  go_wp2_with fail
  refine (CA.out _).mono ?_
  rintro e w1 ⟨rfl, rfl⟩
  go_wp2_with fail
  refine (CB.out _).mono ?_
  rintro e w1 ⟨rfl, rfl⟩
  go_wp2_with fail
  go_ret
  have hsa := HSA.out
  subst hsa
  have hsb := HSB.out
  subst hsb
  unfold tmsS
  rw [if_neg (by omega), if_neg (by omega), if_neg (by omega), if_neg (by omega), if_neg (by omega)]
  refine ⟨?_, rfl⟩
  show Ending.returned (.string (b8 [123] ++ b8 (decT (0 : Int).toNat) ++ b8 [44] ++ b8 (decT b.toNat) ++ b8 [125])) = _
  simp only [b8_app, List.append_assoc]
set_option maxRecDepth 10000 in
set_option maxHeartbeats 2000000 in
theorem tms_g (w : World) : Calls Tryz.prog 92 #[.int .i64 (1), .int .i64 (1)] w fun e w' => e = .returned (.string (b8 (tmsS (1) (1)))) ∧ w = w' := by
  have CA := Lib.hid (fun w => itoaT (1) (by omega) w)
  have hla := decT_len ((1 : Int)).toNat (by omega)
  obtain ⟨sa, hsa⟩ : ∃ s, s = decT ((1 : Int)).toNat := ⟨_, rfl⟩
  rw [← hsa] at CA hla
  have HSA := Lib.hid hsa
  clear hsa
  go_enter Tryz.func92, Tryz.ntmps92
  go_wp2_with fail
  refine (CA.out _).mono ?_
  rintro e w1 ⟨rfl, rfl⟩
  go_wp2_with fail
  go_ret
  have hsa := HSA.out
  subst hsa
  exact ⟨rfl, rfl⟩
set_option maxRecDepth 10000 in
set_option maxHeartbeats 2000000 in
theorem tms_h (b : Int) (hb : 0 ≤ b ∧ b < 100) (hne : b ≠ 1) (w : World) : Calls Tryz.prog 92 #[.int .i64 (1), .int .i64 (b)] w fun e w' => e = .returned (.string (b8 (tmsS (1) (b)))) ∧ w = w' := by
  have CA := Lib.hid (fun w => itoaT (1) (by omega) w)
  have CB := Lib.hid (fun w => itoaT (b) (by omega) w)
  have hla := decT_len ((1 : Int)).toNat (by omega)
  obtain ⟨sa, hsa⟩ : ∃ s, s = decT ((1 : Int)).toNat := ⟨_, rfl⟩
  rw [← hsa] at CA hla
  have HSA := Lib.hid hsa
  clear hsa
  have hlb := decT_len ((b : Int)).toNat (by omega)
  obtain ⟨sb, hsb⟩ : ∃ s, s = decT ((b : Int)).toNat := ⟨_, rfl⟩
  rw [← hsb] at CB hlb
  have HSB := Lib.hid hsb
  clear hsb
  have g0 : ((b : Int) == -1) = false := by rw [beq_eq_false_iff_ne]; omega
  have g1 : ((1 : Int) == b) = false := by rw [beq_eq_false_iff_ne]; omega
  go_enter Tryz.func92, Tryz.ntmps92
  go_wp2_with fail
  refine (CA.out _).mono ?_
  rintro e w1 ⟨rfl, rfl⟩
  go_wp2_with fail
  refine (CB.out _).mono ?_
  rintro e w1 ⟨rfl, rfl⟩
  go_wp2_with fail
  go_ret
  have hsa := HSA.out
  subst hsa
  have hsb := HSB.out
  subst hsb
  unfold tmsS
  rw [if_neg (by omega), if_neg (by omega), if_neg (by omega), if_neg (by omega), if_neg (by omega)]
  refine ⟨?_, rfl⟩
  show Ending.returned (.string (b8 [123] ++ b8 (decT (1 : Int).toNat) ++ b8 [44] ++ b8 (decT b.toNat) ++ b8 [125])) = _
  simp only [b8_app, List.append_assoc]
set_option maxRecDepth 10000 in
set_option maxHeartbeats 2000000 in
theorem tms_i (a : Int) (ha : 2 ≤ a ∧ a < 100) (w : World) : Calls Tryz.prog 92 #[.int .i64 (a), .int .i64 (a)] w fun e w' => e = .returned (.string (b8 (tmsS (a) (a)))) ∧ w = w' := by
  have CA := Lib.hid (fun w => itoaT (a) (by omega) w)
  have hla := decT_len ((a : Int)).toNat (by omega)
  obtain ⟨sa, hsa⟩ : ∃ s, s = decT ((a : Int)).toNat := ⟨_, rfl⟩
  rw [← hsa] at CA hla
  have HSA := Lib.hid hsa
  clear hsa
  have g0 : ((a : Int) == 0) = false := by rw [beq_eq_false_iff_ne]; omega
  have g1 : ((a : Int) == 1) = false := by rw [beq_eq_false_iff_ne]; omega
  have g2 : ((a : Int) == -1) = false := by rw [beq_eq_false_iff_ne]; omega
  go_enter Tryz.func92, Tryz.ntmps92
  go_wp2_with fail
  refine (CA.out _).mono ?_
  rintro e w1 ⟨rfl, rfl⟩
  go_wp2_with fail
  go_ret
  have hsa := HSA.out
  subst hsa
  unfold tmsS
  rw [if_neg (by omega), if_neg (by omega), if_neg (by omega), if_pos (by omega)]
  refine ⟨?_, rfl⟩
  show Ending.returned (.string (b8 [123] ++ b8 (decT a.toNat) ++ b8 [125])) = _
  simp only [b8_app, List.append_assoc]
set_option maxRecDepth 10000 in
set_option maxHeartbeats 2000000 in
theorem tms_j (a b : Int) (ha : 2 ≤ a ∧ a < 100) (hb : 0 ≤ b ∧ b < 100) (hne : a ≠ b) (w : World) : Calls Tryz.prog 92 #[.int .i64 (a), .int .i64 (b)] w fun e w' => e = .returned (.string (b8 (tmsS (a) (b)))) ∧ w = w' := by
  have CA := Lib.hid (fun w => itoaT (a) (by omega) w)
  have CB := Lib.hid (fun w => itoaT (b) (by omega) w)
  have hla := decT_len ((a : Int)).toNat (by omega)
  obtain ⟨sa, hsa⟩ : ∃ s, s = decT ((a : Int)).toNat := ⟨_, rfl⟩
  rw [← hsa] at CA hla
  have HSA := Lib.hid hsa
  clear hsa
  have hlb := decT_len ((b : Int)).toNat (by omega)
  obtain ⟨sb, hsb⟩ : ∃ s, s = decT ((b : Int)).toNat := ⟨_, rfl⟩
  rw [← hsb] at CB hlb
  have HSB := Lib.hid hsb
  clear hsb
  have g0 : ((a : Int) == 0) = false := by rw [beq_eq_false_iff_ne]; omega
  have g1 : ((a : Int) == 1) = false := by rw [beq_eq_false_iff_ne]; omega
  have g2 : ((a : Int) == b) = false := by rw [beq_eq_false_iff_ne]; omega
  have g3 : ((b : Int) == -1) = false := by rw [beq_eq_false_iff_ne]; omega
  go_enter Tryz.func92, Tryz.ntmps92
  go_wp2_with fail
  refine (CA.out _).mono ?_
  rintro e w1 ⟨rfl, rfl⟩
  go_wp2_with fail
  refine (CB.out _).mono ?_
  rintro e w1 ⟨rfl, rfl⟩
  go_wp2_with fail
  go_ret
  have hsa := HSA.out
  subst hsa
  have hsb := HSB.out
  subst hsb
  unfold tmsS
  rw [if_neg (by omega), if_neg (by omega), if_neg (by omega), if_neg (by omega), if_neg (by omega)]
  refine ⟨?_, rfl⟩
  show Ending.returned (.string (b8 [123] ++ b8 (decT a.toNat) ++ b8 [44] ++ b8 (decT b.toNat) ++ b8 [125])) = _
  simp only [b8_app, List.append_assoc]
theorem tmst_any (a b : Int) (ha : 0 ≤ a ∧ a < 100) (hb : b = -1 ∨ (0 ≤ b ∧ b < 100)) (w : World) : Calls Tryz.prog 92 #[.int .i64 a, .int .i64 b] w fun e w' => e = .returned (.string (b8 (tmsS a b))) ∧ w = w' := by
  by_cases a0 : a = 0
  · subst a0
    rcases hb with rfl | hb
    · exact tms_a w
    · by_cases b1 : b = 1
      · subst b1; exact tms_d w
      · by_cases b0 : b = 0
        · subst b0; exact tms_e w
        · exact tms_f b (by omega) w
  · by_cases a1 : a = 1
    · subst a1
      rcases hb with rfl | hb
      · exact tms_b w
      · by_cases b1 : b = 1
        · subst b1; exact tms_g w
        · exact tms_h b hb b1 w
    · rcases hb with rfl | hb
      · exact tms_c a (by omega) w
      · by_cases e : a = b
        · subst e; exact tms_i a (by omega) w
        · exact tms_j a b (by omega) hb e w
set_option maxRecDepth 10000 in
set_option maxHeartbeats 2000000 in
theorem quat_any (k mn mx : Int) (A1 A2 : Option Addr) (sn c1 un c2 : Nat) (lz : Bool) (ha : 0 ≤ mn ∧ mn < 100) (hb : mx = -1 ∨ (0 ≤ mx ∧ mx < 100)) (w : World) : Calls Tryz.prog 64 #[ndV k A1 sn c1 mn mx lz A2 un c2] w fun e w' => e = .returned (.string (b8 (quaS mn mx lz))) ∧ Kept w w' := by
  have CT := Lib.hid (fun w => tmst_any mn mx ha hb w)
  obtain ⟨s, hs⟩ : ∃ s, s = tmsS mn mx := ⟨_, rfl⟩
  have hq : Hid (quaS mn mx lz = s ++ if lz = true then [63] else []) := by show _ = _; rw [hs]; rfl
  have hl := tmsS_len mn mx ha hb
  rw [← hs] at CT hl
  clear ha hb hs
  unfold ndV
  cases lz
  · go_enter Tryz.func64, Tryz.ntmps64
    go_wp2_with fail
    refine (CT.out _).mono ?_
    rintro e w1 ⟨rfl, rfl⟩
    go_wp2_with fail
    go_ret
    rw [hq.out]
    exact ⟨by simp, (Below.refl _ w).alloc (Nat.le_refl _) _⟩
  · go_enter Tryz.func64, Tryz.ntmps64
    go_wp2_with fail
    refine (CT.out _).mono ?_
    rintro e w1 ⟨rfl, rfl⟩
    go_wp2_with fail
    go_ret
    rw [hq.out]
    refine ⟨?_, (Below.refl _ w).alloc (Nat.le_refl _) _⟩
    show Ending.returned (.string (b8 s ++ b8 [63])) = _
    rw [b8_app]
    rfl
end Go.Proofs.YtmgkdmbifecekaaGreatDoor
