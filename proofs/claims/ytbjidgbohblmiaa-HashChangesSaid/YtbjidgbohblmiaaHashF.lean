/-
  What Read of package hash computes.
-/
import Derived.Test.YtbjidgbohblmiaaHashE
import Derived.WalkMore
namespace Go.Proofs.Ytbjidgbohblmiaa
open Go.RowKit Go.Shelf
attribute [local go_sem] Oper.semAt_some

/-- The value of a hexadecimal digit in small letters. -/
def hexv (b : UInt8) : Option Nat := if 48 ≤ b.toNat ∧ b.toNat ≤ 57 then some (b.toNat - 48) else if 97 ≤ b.toNat ∧ b.toNat ≤ 102 then some (b.toNat - 87) else none
def hx (g : BitVec 64) (b : UInt8) : BitVec 64 := g * 16#64 + BitVec.ofNat 64 ((hexv b).getD 0)
def rdH (l : List UInt8) : BitVec 64 := l.foldl hx 0#64
theorem rdH_snoc (l : List UInt8) (b : UInt8) : rdH (l ++ [b]) = hx (rdH l) b := by simp [rdH]
def allHex (l : List UInt8) : Prop := ∀ b ∈ l, (hexv b).isSome = true
theorem allHex_snoc {l : List UInt8} {b : UInt8} (h : allHex l) (hb : (hexv b).isSome = true) : allHex (l ++ [b]) := by
  intro c hc
  rcases List.mem_append.1 hc with h1 | h1
  · exact h c h1
  · obtain rfl := List.mem_singleton.1 h1; exact hb
theorem shl4 (g : BitVec 64) : IntKind.u64.wrap ((g.toNat : Int) * 16) = ((g * 16#64).toNat : Int) := by
  have := mul_u64 g 16#64
  exact this
theorem hx_lo (g : BitVec 64) (b : UInt8) (h1 : 48 ≤ (b.toNat : Int)) (h2 : (b.toNat : Int) ≤ 57) : IntKind.u64.wrap (((g * 16#64).toNat : Int) + ((b.toNat : Int) - 48)) = ((hx g b).toNat : Int) := by
  unfold hx hexv
  rw [if_pos ⟨by omega, by omega⟩, ← add_u64, Option.getD_some, BitVec.toNat_ofNat, Nat.mod_eq_of_lt (by omega), show ((b.toNat - 48 : Nat) : Int) = (b.toNat : Int) - 48 from by omega]
theorem hx_hi (g : BitVec 64) (b : UInt8) (h1 : 97 ≤ (b.toNat : Int)) (h2 : (b.toNat : Int) ≤ 102) : IntKind.u64.wrap (IntKind.u64.wrap (((g * 16#64).toNat : Int) + ((b.toNat : Int) - 97)) + 10) = ((hx g b).toNat : Int) := by
  unfold hx hexv
  rw [if_neg (by omega), if_pos ⟨by omega, by omega⟩, ← add_u64, Option.getD_some, BitVec.toNat_ofNat, Nat.mod_eq_of_lt (by omega), show ((b.toNat - 87 : Nat) : Int) = (b.toNat : Int) - 87 from by omega, IntKind.wrap_u64, IntKind.wrap_u64, IntKind.wrap_u64]
  omega
theorem hex_lo {b : UInt8} (h1 : 48 ≤ (b.toNat : Int)) (h2 : (b.toNat : Int) ≤ 57) : (hexv b).isSome = true := by unfold hexv; rw [if_pos ⟨by omega, by omega⟩]; rfl
theorem hex_hi {b : UInt8} (h1 : 97 ≤ (b.toNat : Int)) (h2 : (b.toNat : Int) ≤ 102) : (hexv b).isSome = true := by unfold hexv; rw [if_neg (by omega), if_pos ⟨by omega, by omega⟩]; rfl
theorem hex_no {b : UInt8} (h1 : ¬ (48 ≤ (b.toNat : Int) ∧ (b.toNat : Int) ≤ 57)) (h2 : ¬ (97 ≤ (b.toNat : Int) ∧ (b.toNat : Int) ≤ 102)) : hexv b = none := by
  unfold hexv
  rw [if_neg (by omega), if_neg (by omega)]

theorem read_len (s : ByteArray) (h : ¬ s.size = 16) (w : World) : Calls Try.prog 25 #[.string s] w fun e w' => e = .returned (.tuple #[.int .u64 0, .int .i64 20]) ∧ Below w.heap.size w w' := by
  have h1 : ((s.size : Int) == 16) = false := by rw [beq_eq_false_iff_ne]; omega
  have h2 : ((s.size : Int) != 16) = true := by rw [bne_iff_ne]; omega
  clear h
  go_enter Try.func25, Try.ntmps25
  go_wp2
  refine wp_scope_straight ?_
  go_wp2
  rw [Exit.noGoto_ret]
  go_ret2
  exact ⟨rfl, Below.refl _ _⟩

/-- What a round that goes on leaves. -/
theorem rd_goes {n0 : Nat} {W : World} {w : World} (hn : w.heap.size = n0) {pre : List UInt8} {x : UInt8} {g g2 : BitVec 64} {m : Nat} (hc : W.cell? ⟨n0, 0, none⟩ = some (U g)) (hf : W.frozen? ⟨n0, 0, none⟩ = false)
    (hc' : W.cell? ⟨n0 + 1, 0, none⟩ = some (.int .i64 m)) (hf' : W.frozen? ⟨n0 + 1, 0, none⟩ = false) (hall : Hid (allHex pre)) (hhx : Hid ((hexv x).isSome = true)) (hm : Hid (pre.length = m)) (hg : Hid (rdH pre = g)) (hg2 : Hid (hx g x = g2)) (hB : Below n0 w W) :
    KeepsOthers W ((W.setCell ⟨n0, 0, none⟩ (.int .u64 g2.toNat)).setCell ⟨n0 + 1, 0, none⟩ (.int .i64 ((m : Int) + 1))) ∧
    KpB n0 (n0 + 2) W ((W.setCell ⟨n0, 0, none⟩ (.int .u64 g2.toNat)).setCell ⟨n0 + 1, 0, none⟩ (.int .i64 ((m : Int) + 1))) ∧
    ((((W.setCell ⟨n0, 0, none⟩ (.int .u64 g2.toNat)).setCell ⟨n0 + 1, 0, none⟩ (.int .i64 ((m : Int) + 1))).cell? ⟨n0, 0, none⟩ = some (U (rdH (pre ++ [x]))) ∧ ((W.setCell ⟨n0, 0, none⟩ (.int .u64 g2.toNat)).setCell ⟨n0 + 1, 0, none⟩ (.int .i64 ((m : Int) + 1))).frozen? ⟨n0, 0, none⟩ = false) ∧
     (((W.setCell ⟨n0, 0, none⟩ (.int .u64 g2.toNat)).setCell ⟨n0 + 1, 0, none⟩ (.int .i64 ((m : Int) + 1))).cell? ⟨n0 + 1, 0, none⟩ = some (.int .i64 (pre ++ [x]).length) ∧ ((W.setCell ⟨n0, 0, none⟩ (.int .u64 g2.toNat)).setCell ⟨n0 + 1, 0, none⟩ (.int .i64 ((m : Int) + 1))).frozen? ⟨n0 + 1, 0, none⟩ = false) ∧ allHex (pre ++ [x])) ∧
    Below n0 w ((W.setCell ⟨n0, 0, none⟩ (.int .u64 g2.toNat)).setCell ⟨n0 + 1, 0, none⟩ (.int .i64 ((m : Int) + 1))) := by
  have hc1 : (W.setCell ⟨n0, 0, none⟩ (.int .u64 g2.toNat)).cell? ⟨n0 + 1, 0, none⟩ = some (.int .i64 m) := by rw [World.cell?_setCell_other _ _ _ _ (by intro e; injection e with e; omega)]; exact hc'
  refine ⟨(KeepsOthers.setCell _ _ _).trans (KeepsOthers.setCell _ _ _), kpB_t (kpB_set W _ (Nat.le_refl _) (by omega)) (kpB_set _ _ (by omega) (by omega)), ⟨⟨?_, ?_⟩, ⟨?_, ?_⟩, allHex_snoc hall.out hhx.out⟩, ?_⟩
  · rw [World.cell?_setCell_other _ _ _ _ (by intro e; injection e with e; omega), World.cell?_setCell_same' _ _ _ (by rw [hc]; rfl), rdH_snoc, hg.out, hg2.out]
  · rw [World.frozen?_setCell, World.frozen?_setCell]; exact hf
  · rw [World.cell?_setCell_same' _ _ _ (by rw [hc1]; rfl), List.length_append, hm.out]
    rfl
  · rw [World.frozen?_setCell, World.frozen?_setCell]; exact hf'
  · exact (hB.setCell (p := ⟨n0, 0, none⟩) (Nat.le_refl _) _).setCell (p := ⟨n0 + 1, 0, none⟩) (Nat.le_succ _) _
/-- What Read answers of 16 bytes. -/
def RdOk (l : List UInt8) (w : World) (e : Ending) (w' : World) : Prop :=
  (allHex l ∧ e = .returned (.tuple #[U (rdH l), .int .i64 0]) ∨ ¬ allHex l ∧ e = .returned (.tuple #[.int .u64 0, .int .i64 20])) ∧ Below w.heap.size w w'

set_option maxRecDepth 100000 in
set_option maxHeartbeats 4000000 in
theorem read_in (n : Nat) (hn : 4 ≤ n) (s : ByteArray) (hs : s.size = 16) (w : World) :
    CallsIn Fence.wide n Try.prog 25 #[.string s] w (RdOk s.data.toList w) := by
  have h1 : 1 ≤ n := by omega
  have h2 : 1 ≤ n - 1 - 1 := by omega
  have e1 : ((s.size : Int) == 16) = true := by rw [hs]; rfl
  have e2 : ((s.size : Int) != 16) = false := by rw [hs]; rfl
  have Hs := Lib.hid hs
  have hs' : s.size ≤ 9223372036854775807 := by omega
  clear hs
  refine callsIn_of_wp_marks Try.func25 rfl trivial ?_ rfl
  simp only [Try.ntmps25, List.size_toArray, List.length_cons, List.length_nil, Nat.reduceAdd, Nat.reduceSub, Array.replicate_succ, Array.replicate_zero, List.push_toArray, List.append_toArray, List.nil_append, List.cons_append]
  gi_wp2
  refine wpIn_scope_wide ?_
  gi_wp2
  refine wpIn_label ?_
  gi_wp2_with (refine ⟨trivial, ?_⟩; gi_at_call 35; refine (callsIn_wide.2 (forward_any s _)).mono ?_; rintro e w' ⟨rfl, rfl⟩)
  have hc0 := box_new w (.int .u64 0) 22
  have hc1 := box_new (w.alloc (.cells #[.int .u64 0] 22)) (.int .i64 0) 3
  rw [World.size_alloc] at hc1
  have hc2 := box_new ((w.alloc (.cells #[.int .u64 0] 22)).alloc (.cells #[.int .i64 0] 3)) (.string s) 9
  rw [World.size_alloc, World.size_alloc] at hc2
  have hB0 : Below w.heap.size w (((w.alloc (.cells #[.int .u64 0] 22)).alloc (.cells #[.int .i64 0] 3)).alloc (.cells #[.string s] 9)) := (((Below.refl _ w).alloc (Nat.le_refl _) _).alloc (by simp) _).alloc (by simp; omega) _
  refine wpIn_rangeFunc_ownF rfl h1 (gf := 41) (lb := #[.pointer (some ⟨w.heap.size + 2, 0, none⟩)]) rfl trivial (enters_of Try.func41 (by kernel_rfl) rfl)
    (forward_stops (n - 1) (by omega) (w.heap.size + 2) w.heap.size s hs' _ hc2.1 (by simp)) kpB_t (kpB_b (by simp; omega) (by simp)) (Below.refl _ _) (fun _ => rfl)
    (fun pre W => ((W.cell? ⟨w.heap.size, 0, none⟩ = some (U (rdH pre)) ∧ W.frozen? ⟨w.heap.size, 0, none⟩ = false) ∧ (W.cell? ⟨w.heap.size + 1, 0, none⟩ = some (.int .i64 pre.length) ∧ W.frozen? ⟨w.heap.size + 1, 0, none⟩ = false) ∧ allHex pre) ∧ Below w.heap.size w W)
    (fun c pre W => (c = .exit 0 ∧ ∃ (q : List UInt8) (b : UInt8), pre = q ++ [b] ∧ hexv b = none ∧ W.cell? ⟨w.heap.size + 1, 0, none⟩ = some (.int .i64 q.length)) ∧ Below w.heap.size w W)
    (OwnFrom.and (Own.from (fun s A B row hs hg hr => ⟨⟨cell_kept hs.1.1 hg hr, (frozen_kept hs.1.1 hg hr).trans hs.1.2⟩, ⟨cell_kept hs.2.1.1 hg hr, (frozen_kept hs.2.1.1 hg hr).trans hs.2.1.2⟩, hs.2.2⟩) _) (ownFrom_below (Nat.le_refl _) (by simp; omega)))
    (fun c => OwnFrom.and (Own.from (fun s A B row hs hg hr => by obtain ⟨h1, q, b, h2, h3, h4⟩ := hs; exact ⟨h1, q, b, h2, h3, cell_kept h4 hg hr⟩) _) (ownFrom_below (Nat.le_refl _) (by simp; omega)))
    ⟨⟨⟨box_alloc _ (box_alloc _ hc0.1), box_alloc_f _ (box_alloc _ hc0.1) (box_alloc_f _ hc0.1 hc0.2)⟩, ⟨box_alloc _ hc1.1, box_alloc_f _ hc1.1 hc1.2⟩, (fun _ h => by cases h)⟩, hB0⟩
    (fun x => { tmps := #[.string s, undef, .int .u64 0, .int .i64 0, .pointer (some ⟨w.heap.size, 0, none⟩), .pointer (some ⟨w.heap.size + 1, 0, none⟩), .int .u8 (x.toNat : Int), .string s, .int .i64 s.size, .bool false, .string s, .func (.func 41) #[] #[.pointer (some ⟨w.heap.size + 2, 0, none⟩)], .int .u8 (x.toNat : Int), undef, undef, undef, undef, undef, undef, undef, undef, undef, undef, undef, undef, undef, undef, undef, undef, undef, undef, undef, undef, undef, undef, undef, undef, undef, undef, undef, undef, undef, undef, undef, undef], defers := [] }) ?assign ?body ?done ?stop
  case assign =>
    intro l x W K hK
    gi_wp2
    exact hK
  case body =>
    rintro l pre x W ⟨⟨⟨hc, hf⟩, ⟨hc', hf'⟩, hall⟩, hB⟩ hlen
    have Hall := Lib.hid hall
    have hl16 : pre.length < 16 := by rw [Hs.out] at hlen; exact hlen
    clear hlen hall
    obtain ⟨m, hm⟩ : ∃ m, pre.length = m := ⟨_, rfl⟩
    rw [hm] at hc' hl16
    have Hm := Lib.hid hm
    clear hm
    generalize hg : rdH pre = g at hc
    have Hg := Lib.hid hg
    clear hg
    have u0 : (0 : Int) ≤ (x.toNat : Int) := by omega
    have u1 := u8_le x
    by_cases d1 : 48 ≤ (x.toNat : Int) ∧ (x.toNat : Int) ≤ 57
    · obtain ⟨d1, d2⟩ := d1
      have hw := shl4 g
      have hv := hx_lo g x d1 d2
      have Hx := Lib.hid (hex_lo d1 d2)
      generalize hg2 : hx g x = g2 at hv
      have Hg2 := Lib.hid hg2
      generalize g * 16#64 = g1 at hw hv
      clear hg2
      generalize (x.toNat : Int) = y at *
      gi_wp2
      exact rd_goes rfl hc hf hc' hf' Hall Hx Hm Hg Hg2 hB
    · by_cases d2 : 97 ≤ (x.toNat : Int) ∧ (x.toNat : Int) ≤ 102
      · clear d1
        obtain ⟨d1, d2⟩ := d2
        have d3 : ¬ (x.toNat : Int) ≤ 57 := by omega
        have d4 : 48 ≤ (x.toNat : Int) := by omega
        have hw := shl4 g
        have hv := hx_hi g x d1 d2
        have Hx := Lib.hid (hex_hi d1 d2)
        generalize hg2 : hx g x = g2 at hv
        have Hg2 := Lib.hid hg2
        generalize g * 16#64 = g1 at hw hv
        clear hg2
        generalize (x.toNat : Int) = y at *
        gi_wp2
        exact rd_goes rfl hc hf hc' hf' Hall Hx Hm Hg Hg2 hB
      · have Hx := Lib.hid (hex_no d1 d2)
        have hcl : ∃ q b, pre ++ [x] = q ++ [b] ∧ hexv b = none ∧ W.cell? ⟨w.heap.size + 1, 0, none⟩ = some (.int .i64 q.length) := ⟨pre, x, rfl, Hx.out, by rw [Hm.out]; exact hc'⟩
        have Hcl := Lib.hid hcl
        clear hcl
        rcases (by omega : (x.toNat : Int) < 48 ∨ (57 < (x.toNat : Int) ∧ (x.toNat : Int) < 97) ∨ 102 < (x.toNat : Int)) with d | ⟨d, d'⟩ | d
        · clear d1 d2
          have d3 : ¬ 97 ≤ (x.toNat : Int) := by omega
          generalize (x.toNat : Int) = y at *
          gi_wp2
          exact ⟨KeepsOthers.refl _, ⟨rfl, Hcl.out⟩, hB⟩
        · clear d1 d2
          have d3 : 48 ≤ (x.toNat : Int) := by omega
          generalize (x.toNat : Int) = y at *
          gi_wp2
          exact ⟨KeepsOthers.refl _, ⟨rfl, Hcl.out⟩, hB⟩
        · clear d1 d2
          have d3 : 48 ≤ (x.toNat : Int) := by omega
          have d4 : 97 ≤ (x.toNat : Int) := by omega
          have d5 : ¬ (x.toNat : Int) ≤ 57 := by omega
          generalize (x.toNat : Int) = y at *
          gi_wp2
          exact ⟨KeepsOthers.refl _, ⟨rfl, Hcl.out⟩, hB⟩
  case done =>
    rintro D ys W hD rfl ⟨⟨⟨hc, _⟩, ⟨hc', _⟩, hall⟩, hB⟩ hK
    generalize hg : rdH s.data.toList = g at hc
    have Hg := Lib.hid hg
    have Hall := Lib.hid hall
    clear hg hall
    have hl : s.data.toList.length = 16 := by have := Hs.out; simpa using this
    rw [hl] at hc'
    clear hl
    gi_wp2
    rw [Exit.noGoto_ret]
    refine ⟨by simp, .inl ⟨_, _, rfl, run_takeDeferred hK, ?_⟩⟩
    exact ⟨_, results_tmp2 rfl _ _ _, .inl ⟨Hall.out, by rw [Hg.out]; rfl⟩, hB.trans (belowK_b (w := w) (Nat.le_refl _) W D _ _ (by simp at hD; omega) hK rfl rfl)⟩
  case stop =>
    rintro D c pre W hD hp ⟨⟨rfl, q, b, rfl, hb, hc'⟩, hB⟩ hK
    obtain ⟨t, ht⟩ := hp
    have hlen : q.length < 16 := by
      have h1 := congrArg List.length ht
      have h2 := Hs.out
      simp at h1
      omega
    have Hn : Hid (¬ allHex s.data.toList) := by
      show ¬ _
      intro h
      have := h b (by rw [← ht]; simp)
      rw [hb] at this
      cases this
    obtain ⟨m, hm⟩ : ∃ m, q.length = m := ⟨_, rfl⟩
    rw [hm] at hc' hlen
    clear ht hb hm
    gi_wp2
    rw [Exit.noGoto_ret]
    refine ⟨by simp, .inl ⟨_, _, rfl, run_takeDeferred hK, ?_⟩⟩
    exact ⟨_, results_tmp2 rfl _ _ _, .inr ⟨Hn.out, rfl⟩, hB.trans (belowK_b (w := w) (Nat.le_refl _) W D _ _ (by simp at hD; omega) hK rfl rfl)⟩
/-- READ: the number, if there are 16 digits and nothing else. -/
theorem read_any (s : ByteArray) (w : World) :
    Calls Try.prog 25 #[.string s] w fun e w' =>
      (s.size = 16 ∧ allHex s.data.toList ∧ e = .returned (.tuple #[U (rdH s.data.toList), .int .i64 0]) ∨ ¬ (s.size = 16 ∧ allHex s.data.toList) ∧ e = .returned (.tuple #[.int .u64 0, .int .i64 20])) ∧ Below w.heap.size w w' := by
  by_cases h : s.size = 16
  · refine (callsIn_wide.1 (read_in 4 (Nat.le_refl _) s h w)).mono ?_
    rintro e w' ⟨h1 | h1, hb⟩
    · exact ⟨.inl ⟨h, h1⟩, hb⟩
    · exact ⟨.inr ⟨fun k => h1.1 k.2, h1.2⟩, hb⟩
  · refine (read_len s h w).mono ?_
    rintro e w' ⟨h1, hb⟩
    exact ⟨.inr ⟨fun k => h k.1, h1⟩, hb⟩
end Go.Proofs.Ytbjidgbohblmiaa
