/-
  Package class: borders. The library's contract on slices.SortFunc at a struct, laid at this program.
-/
import Derived.Test.YtmgkdmbifecekaaGreatDoorMlac
import Derived.RangeFuncBox
import Derived.Laws.MakeOwn
import Derived.Maps.OwnIn
import Derived.Shelf.SlSortCmp.WholeK
import Derived.Test.YtmgkdmbifecekaaGreatDoorProg
set_option linter.all false
set_option linter.unusedSimpArgs false
set_option linter.unusedVariables false
set_option linter.unusedSectionVars false
namespace Go.Proofs.YtmgkdmbifecekaaGreatDoor
open Go.RowKit Go.Shelf
attribute [local go_sem] Oper.semAt_some
def bordP (wt : Int) (p : Rng) : List Rng := [(p.1, wt), (p.2 + 1, -wt)]
def bordR (wt : Int) (r : Rng) : List Rng := (partsL r).flatMap (bordP wt)
/-- Where ranges begin, and where they have ended. -/
def bordL (wt : Int) (L : List Rng) : List Rng := L.flatMap (bordR wt)
/-- The same with the sum as the machine takes it. -/
def bordQ (wt : Int) (p : Rng) : List Rng := [(p.1, wt), (wrap64 (p.2 + 1), -wt)]
theorem own_neG {w : World} {base n size g : Nat} {e t : TypeId} {v : Value} {xs : List Value} {cs : Array Value} {fr : Nat × Nat} (h : w.ownsRow base e size v n xs) (hg : w.heap[g]? = some (.cells cs t fr)) (hne : t ≠ e) : some g ≠ v.ownBlock := by
  rcases h.2 with ⟨rfl, _⟩ | ⟨g', cap, cur, rfl, _, hgb, _⟩
  · simp [Value.ownBlock]
  · intro e'
    obtain rfl : g = g' := by simpa [Value.ownBlock] using e'
    have := hg.symm.trans hgb
    simp at this
    exact hne this.2.1
/-- A slice that is there. -/
def IsSl (v : Value) : Prop := ∃ a n c, v = .slice (some a) n c
theorem heapAt_own {β : Type} (B : Nat) (o : Obj) (ho : o.isCells = true) : Own (fun (_ : β) W => W.heap[B]? = some o) :=
  fun _ _ _ _ h hg hrow => (hg.block B (heap_lt h) (fun e => by obtain ⟨o', h1, h2⟩ := hrow B e.symm; rw [h] at h1; cases h1; rw [ho] at h2; cases h2)).trans h
theorem bordL_take {wt : Int} {L : List Rng} {k : Nat} {x : Rng} (h : L[k]? = some x) : bordL wt (L.take (k + 1)) = bordL wt (L.take k) ++ bordR wt x := by
  unfold bordL
  rw [List.take_add_one, h, List.flatMap_append]
  simp
/-- A mark of a range over a function, which the function takes in when it ends. -/
abbrev mkD (D : Nat) : Deferred := { target := .collected D, args := #[] }
/-- The blocks of the marks. -/
structure Marks (b : Nat) (ds : List Nat) (W : World) : Prop where
  at_ : ∀ D ∈ ds, W.heap[D]? = some (.deferred (some []))
  nd : ds.Nodup
  ge : ∀ D ∈ ds, b ≤ D
theorem Marks.keeps {b : Nat} {ds : List Nat} {W W' : World} (h : Marks b ds W) (hk : KeepsOthers W W') : Marks b ds W' := ⟨fun D hD => hk.same D _ (h.at_ D hD) rfl, h.nd, h.ge⟩
theorem Marks.own {β : Type} (b : Nat) (ds : List Nat) (B : Nat) (hB : ∀ D ∈ ds, D < B) : OwnFrom B (fun (_ : β) W => Marks b ds W) :=
  fun _ _ _ _ hs hg hr => ⟨fun D hD => (hg.block D (heap_lt (hs.at_ D hD)) (fun e => by have := (hr D e.symm).1; have := hB D hD; omega)).trans (hs.at_ D hD), hs.nd, hs.ge⟩
theorem Marks.alloc {b : Nat} {ds : List Nat} {W : World} (h : Marks b ds W) (o : Obj) : Marks b ds (W.alloc o) := h.keeps (KeepsOthers.alloc W o)
theorem Marks.lt {b : Nat} {ds : List Nat} {W : World} (h : Marks b ds W) : ∀ D ∈ ds, D < W.heap.size := fun D hD => heap_lt (h.at_ D hD)
/-- A function that holds marks returns. -/
theorem leaves_marks {F : Fence} {n : Nat} {P : Program} {fn : Func} {tmps : Array Value} {R : Ending → World → Prop} (b : Nat) (S : World → Prop) (hS : ∀ W D, b ≤ D → W.heap[D]? = some (.deferred (some [])) → S W → S (W.putObj D (.deferred none)))
    (hfin : ∀ w', S w' → ∃ v, (results fn tmps).run P w' = .ok v w' ∧ R (.returned v) w') : ∀ (ds : List Nat) (w : World), Marks b ds w → S w → LeavesInM F n P fn tmps R (ds.map mkD) .returning w
  | [], w, _, h => hfin w h
  | D :: ds, w, hm, h => by
    have hD := hm.at_ D (by simp)
    have hnd := List.nodup_cons.1 hm.nd
    refine ⟨by simp, .inl ⟨D, _, rfl, run_takeDeferred hD, ?_⟩⟩
    refine leaves_marks b S hS hfin ds _ ⟨fun E hE => ?_, hnd.2, fun E hE => hm.ge E (by simp [hE])⟩ (hS w D (hm.ge D (by simp)) hD h)
    rw [World.putObj_heap_other (fun e => hnd.1 (by rw [← e]; exact hE))]
    exact hm.at_ E (by simp [hE])
theorem infoB2 : (Tryz.prog.info? 222).map (fun i => (i.zero, i.size, i.bytes)) = some (some (.agg #[.int .i64 0, .int .i64 0]), 2, 16) := by kernel_rfl
theorem partsL_len (r : Rng) : (partsL r).length ≤ 2 := by
  unfold partsL okR
  split <;> split <;> simp
theorem bordR_len (wt : Int) (x : Rng) : (bordR wt x).length = (partsL x).length * 2 := by
  unfold bordR
  induction partsL x with
  | nil => rfl
  | cons a l ih => rw [List.flatMap_cons, List.length_append, ih]; simp [bordP]; omega
theorem bordQ_eq (wt : Int) (x : Rng) (h : 0 ≤ x.2 ∧ x.2 ≤ 1114111) : (partsL x).flatMap (bordQ wt) = bordR wt x := by
  have h2 : ∀ p ∈ partsL x, bordQ wt p = bordP wt p := by
    intro p hp
    have hp2 : 0 ≤ p.2 ∧ p.2 ≤ 1114111 := by
      unfold partsL okR lowR higR at hp
      simp only [List.mem_append] at hp
      rcases hp with hp | hp
      · split at hp
        · simp at hp; rw [hp]; dsimp only; omega
        · cases hp
      · split at hp
        · simp at hp; rw [hp]; dsimp only; omega
        · cases hp
    unfold bordQ bordP
    rw [show wrap64 (p.2 + 1) = p.2 + 1 from by unfold wrap64; omega]
  unfold bordR
  generalize partsL x = l at h2
  induction l with
  | nil => rfl
  | cons a l ih => rw [List.flatMap_cons, List.flatMap_cons, h2 a (by simp), ih (fun p hp => h2 p (by simp [hp]))]
theorem rngs_flat_snoc (wt : Int) (pre : List Rng) (y : Rng) : rngs ((pre ++ [y]).flatMap (bordQ wt)) = rngs (pre.flatMap (bordQ wt)) ++ [.int .i64 y.1, .int .i64 wt, .int .i64 (wrap64 (y.2 + 1)), .int .i64 (-wt)] := by
  rw [List.flatMap_append, rngs_app]
  rfl
theorem bordL_len (wt : Int) : ∀ L : List Rng, (bordL wt L).length ≤ 4 * L.length
  | [] => by simp [bordL]
  | x :: L => by
    have h1 := bordL_len wt L
    have h2 := partsL_len x
    have h3 : bordL wt (x :: L) = bordR wt x ++ bordL wt L := by simp [bordL]
    have h4 : (bordR wt x).length = 2 * (partsL x).length := by
      unfold bordR
      induction partsL x with
      | nil => rfl
      | cons a l ih => rw [List.flatMap_cons, List.length_append, ih]; simp [bordP]; omega
    rw [h3, List.length_append, List.length_cons]
    omega
set_option maxRecDepth 100000 in
set_option maxHeartbeats 4000000 in
theorem borders_in (n : Nat) (hn : 3 ≤ n) (A : Option Addr) (c : Nat) (L : List Rng) (wt : Int) (hw : wt = 1 ∨ wt = -1) (hL : L.length ≤ 1000000) (hb : ∀ x ∈ L, 0 ≤ x.1 ∧ x.1 ≤ 1114111 ∧ 0 ≤ x.2 ∧ x.2 ≤ 1114111) (w : World) (hr : RdR w w.heap.size A L) :
    CallsIn Fence.wide n Tryz.prog 150 #[.slice A L.length c, .int .i64 wt] w fun e w' => ∃ v, e = .returned v ∧ IsSl v ∧ w'.ownsRow w.heap.size 222 2 v (bordL wt L).length (rngs (bordL wt L)) ∧ Kept w w' := by
  have h1 : 1 ≤ n := by omega
  have HR := Lib.hid hr
  obtain ⟨m, hm⟩ : ∃ m, m = L.length := ⟨_, rfl⟩
  have Hm := Lib.hid hm
  rw [← hm] at hL ⊢
  clear hr hm
  refine callsIn_of_wp_marks Tryz.func150 rfl trivial ?_ rfl
  simp only [Tryz.ntmps150, List.size_toArray, List.length_cons, List.length_nil, Nat.reduceAdd, Nat.reduceSub, Array.replicate_succ, Array.replicate_zero, List.push_toArray, List.append_toArray, List.nil_append, List.cons_append]
  obtain ⟨i0, hi, hz0, hz1, hz2⟩ := info_parts infoB2
  have hmk : ∀ W : World, (Instr.makeSlice 210 (.int .i64 0) (.int .i64 (2 * (m : Int)))).run Tryz.prog W = .ok (.slice (some ⟨W.heap.size, 0, none⟩) 0 (2 * m)) (W.alloc (.cells (madeCells #[.int .i64 0, .int .i64 0] (2 * m * 2)) 222)) := fun W => by
    have := run_make (P := Tryz.prog) W 210 222 i0 (.agg #[.int .i64 0, .int .i64 0]) Tryz.underlying210 hi hz0 .i64 .i64 0 (2 * (m : Int)) (by omega) (by omega) (by rw [hz2]; omega) (by omega)
    rw [hz1, show (2 * (m : Int)).toNat = 2 * m from by omega] at this
    exact this
  obtain ⟨C, hC⟩ : ∃ C, C = madeCells (#[.int .i64 0, .int .i64 0] : Array Value) (2 * m * 2) := ⟨_, rfl⟩
  have hCs : C.size = 2 * m * 2 := by rw [hC]; simp [madeCells]
  rw [← hC] at hmk
  clear hC
  gi_wp2
  obtain ⟨w1, hw1⟩ : ∃ x, x = ((w.alloc (.cells #[.int .i64 wt] 3)).alloc (.cells C 222)).alloc (.cells #[.slice (some ⟨w.heap.size + 1, 0, none⟩) 0 (2 * m)] 210) := ⟨_, rfl⟩
  have K1 : Hid (Kept w w1) := by rw [hw1]; exact ((Below.refl _ w).alloc (Nat.le_refl _) _ |>.alloc (by simp) _).alloc (by simp; omega) _
  have hz2' : ((w.alloc (.cells #[.int .i64 wt] 3)).alloc (.cells C 222)).heap.size = w.heap.size + 1 + 1 := by simp
  have bW : Hid (Boxed w1 w.heap.size 3 (.int .i64 wt)) := by rw [hw1]; exact ((Boxed.new w _ _).alloc _).alloc _
  have bB : Hid (Boxed w1 (w.heap.size + 1 + 1) 210 (.slice (some ⟨w.heap.size + 1, 0, none⟩) 0 (2 * m))) := by rw [hw1, ← hz2']; exact Boxed.new _ _ _
  have own0 : Hid (w1.ownsRow w.heap.size 222 2 (.slice (some ⟨w.heap.size + 1, 0, none⟩) 0 (2 * m)) 0 (rngs [])) := by
    rw [hw1]
    refine World.ownsRow.alloc ⟨rfl, .inr ⟨w.heap.size + 1, 2 * m, C, rfl, by omega, ?_, by omega, by unfold maxLen; omega, hCs, rfl⟩⟩ _
    have := heap_alloc_new (w.alloc (.cells #[.int .i64 wt] 3)) (.cells C 222)
    rwa [World.size_alloc] at this
  rw [← hw1]
  clear hw1 hz2' hmk hCs
  obtain ⟨gB, hgB⟩ : ∃ g, g = w.heap.size + 1 + 1 := ⟨_, rfl⟩
  rw [← hgB] at bB ⊢
  have hgB1 : w.heap.size < gB := by omega
  clear hgB
  refine wpIn_loop (fun a' wr => ∃ (u7 u8 u15 u16 u17 u18 u19 u20 u22 u23 u24 u25 u26 u27 u28 u29 u30 u31 u32 u33 u34 u35 : Value) (ds : List Nat) (k : Nat) (v : Value), (k ≤ m ∧ u15 = .int .i64 k ∧ IsSl v ∧ Hid (Boxed wr w.heap.size 3 (.int .i64 wt)) ∧ Hid (Boxed wr gB 210 v) ∧ Hid (wr.ownsRow w.heap.size 222 2 v (bordL wt (L.take k)).length (rngs (bordL wt (L.take k)))) ∧ Hid (Kept w wr) ∧ Hid (Marks w.heap.size ds wr)) ∧ a' = { tmps := #[.slice A m c, .int .i64 wt, undef, .pointer (some ⟨w.heap.size, 0, none⟩), .slice none 0 0, .pointer (some ⟨gB, 0, none⟩), undef, u7, u8, .slice A m c, .int .i64 m, .int .i64 (2 * (m : Int)), .slice (some ⟨w.heap.size + 1, 0, none⟩) 0 (2 * m), .slice A m c, .int .i64 m, u15, u16, u17, u18, u19, u20, undef, u22, u23, u24, u25, u26, u27, u28, u29, u30, u31, u32, u33, u34, u35, undef], defers := ds.map mkD }) (fun a' _ => m - (intOf (a'.tmps.getD 15 undef)).toNat) ?start ?round
  case start => exact ⟨_, _, _, _, _, _, _, _, _, _, _, _, _, _, _, _, _, _, _, _, _, _, [], 0, _, ⟨by omega, rfl, ⟨_, _, _, rfl⟩, bW, bB, own0, K1, ⟨by simp, by simp, by simp⟩⟩, rfl⟩
  case round =>
    rintro a' wr ⟨u7, u8, u15, u16, u17, u18, u19, u20, u22, u23, u24, u25, u26, u27, u28, u29, u30, u31, u32, u33, u34, u35, ds, k, v, ⟨hk, rfl, hsl, hbW, hbB, hown, hkr, hmk⟩, rfl⟩
    dsimp only
    obtain ⟨wq, rfl⟩ : ∃ x, x = wr := ⟨_, rfl⟩
    by_cases hkm : k < m
    · have hkmi : (k : Int) < (m : Int) := by omega
      obtain ⟨ad, x, rfl, hadb, hx, hd, hc0, hc1⟩ := rdr_at HR.out (by rw [← Hm.out]; exact hkm)
      have e0 := (Below.cell hkr.out (by rw [addBlock]; exact hadb)).trans hc0
      have e1 := (Below.cell hkr.out (by rw [addBlock]; exact hadb)).trans hc1
      have Hcl := Lib.hid (rng_cells e0 e1)
      have Hb4 := Lib.hid (bordL_take (wt := wt) hx)
      have hxb := hb x (List.mem_of_getElem? hx)
      clear hc0 hc1 hx hd e0 e1
      gi_wp2_with (first | (refine wpListIn_load_at rfl 73 (.tmp 17) rfl (ad.add (k * 2)) rfl #[.int .i64 x.1, .int .i64 x.2] _ Hcl.out Tryz.underlying73 rfl sizeR ?_) | (refine ⟨trivial, ?_⟩; gi_at_call 163; refine (callsIn_wide.2 (parts_any x _)).mono ?_; rintro e w' ⟨rfl, rfl⟩))
      have hBn : wq.heap.size + 1 = (wq.alloc (.cells #[.int .i64 x.1, .int .i64 x.2] 73)).heap.size := by simp
      obtain ⟨Bn, hBn2⟩ : ∃ b, b = wq.heap.size + 1 := ⟨_, rfl⟩
      obtain ⟨W0, hW0⟩ : ∃ x', x' = (wq.alloc (.cells #[.int .i64 x.1, .int .i64 x.2] 73)).alloc (.cells #[.int .i64 x.1, .int .i64 x.2] 73) := ⟨_, rfl⟩
      have hB4 : W0.heap[Bn]? = some (.cells #[.int .i64 x.1, .int .i64 x.2] 73 (0, 0)) := by rw [hW0, hBn2, hBn]; exact heap_alloc_new _ _
      have hsq := hkr.out.size
      have K0 : Below w.heap.size w W0 := by rw [hW0]; exact (hkr.out.alloc hsq _).alloc (by simp; omega) _
      have hbW2 : Boxed W0 w.heap.size 3 (.int .i64 wt) := by rw [hW0]; exact (hbW.out.alloc _).alloc _
      have hbB2 : Boxed W0 gB 210 v := by rw [hW0]; exact (hbB.out.alloc _).alloc _
      have hown2 : W0.ownsRow w.heap.size 222 2 v (bordL wt (L.take k)).length (rngs (bordL wt (L.take k))) := by rw [hW0]; exact (hown.out.alloc _).alloc _
      have hBn1 : w.heap.size < Bn := by omega
      have hmk2 : Marks w.heap.size ds W0 := by rw [hW0]; exact (hmk.out.alloc _).alloc _
      rw [← hW0, ← hBn2]
      clear hW0 hBn hBn2
      obtain ⟨K0n, hK0n⟩ : ∃ K0n, K0n = (bordL wt (L.take k)).length := ⟨_, rfl⟩
      have hK0b : K0n ≤ 4000000 := by
        have := bordL_len wt (L.take k)
        rw [List.length_take, ← hK0n, ← Hm.out] at this
        omega
      rw [← hK0n] at hown2
      obtain ⟨R0, hR0⟩ : ∃ R0, R0 = rngs (bordL wt (L.take k)) := ⟨_, rfl⟩
      rw [← hR0] at hown2
      have HK0n := Lib.hid hK0n
      have HR0 := Lib.hid hR0
      clear hK0n hR0
      refine wpIn_rangeFunc_ownH rfl h1 (gf := 184) (lb := #[.pointer (some ⟨Bn, 0, none⟩)]) rfl trivial (enters_of Tryz.func184 (by kernel_rfl) rfl)
        (parts_stops (n - 1) (by omega) Bn w.heap.size x W0 (by rw [cell_of_row _ _ _ _ _ _ hB4]; rfl) (by rw [cell_of_row _ _ _ _ _ _ hB4]; rfl) (heap_lt hB4)) kpB_t (kpB_b K0.size (heap_lt hB4)) (Below.refl _ _) (fun _ => rfl)
        (fun pre W => ((((∃ v, Boxed W gB 210 v ∧ W.ownsRow w.heap.size 222 2 v (K0n + pre.length * 2) (R0 ++ rngs (pre.flatMap (bordQ wt))) ∧ IsSl v) ∧ W.heap[Bn]? = some (.cells #[.int .i64 x.1, .int .i64 x.2] 73 (0, 0))) ∧ Boxed W w.heap.size 3 (.int .i64 wt)) ∧ Marks w.heap.size ds W) ∧ Below w.heap.size w W)
        (fun _ _ _ => False)
        (OwnFrom.and (OwnFrom.and (OwnFrom.and (OwnFrom.and (Own.from (holdsRow_own w.heap.size gB 210 222 2 (fun (pre : List Rng) => K0n + pre.length * 2) (fun pre => R0 ++ rngs (pre.flatMap (bordQ wt))) (fun _ v => IsSl v)) _) (Own.from (heapAt_own _ _ rfl) _)) (Own.from (boxed_own _ _ (fun _ => .int .i64 wt)) _)) (Marks.own _ _ _ hmk2.lt)) (ownFrom_below (Nat.le_refl _) K0.size))
        (fun _ _ _ _ _ hs _ _ => hs)
        ⟨⟨⟨⟨⟨v, hbB2, by simpa [rngs] using hown2, hsl⟩, hB4⟩, hbW2⟩, hmk2⟩, K0⟩
        (fun y a' W => ∃ Bx, W.heap[Bx]? = some (.cells #[.int .i64 y.1, .int .i64 y.2] 73 (0, 0)) ∧ a' = { tmps := #[.slice (some ad) m c, .int .i64 wt, undef, .pointer (some ⟨w.heap.size, 0, none⟩), .slice none 0 0, .pointer (some ⟨gB, 0, none⟩), undef, .pointer (some ⟨wq.heap.size, 0, none⟩), .pointer (some ⟨Bx, 0, none⟩), .slice (some ad) m c, .int .i64 m, .int .i64 (2 * (m : Int)), .slice (some ⟨w.heap.size + 1, 0, none⟩) 0 (2 * m), .slice (some ad) m c, .int .i64 m, .int .i64 k, .bool true, .pointer (some (ad.add (k * 2))), .agg #[.int .i64 x.1, .int .i64 x.2], .agg #[.int .i64 x.1, .int .i64 x.2], .func (.func 184) #[] #[.pointer (some ⟨Bn, 0, none⟩)], .agg #[.int .i64 y.1, .int .i64 y.2], u22, u23, u24, u25, u26, u27, u28, u29, u30, u31, u32, u33, u34, u35, undef], defers := [] })
        (fun y a' _ W W' row h hg hr => by obtain ⟨Bx, hx, e⟩ := h; exact ⟨Bx, (hg.block Bx (heap_lt hx) (fun e2 => by obtain ⟨_, o, h1, h2⟩ := hr Bx e2.symm; rw [hx] at h1; cases h1; cases h2)).trans hx, e⟩)
        ?assign ?body ?done ?stop
      case assign =>
        rintro l pre y W K ⟨⟨⟨⟨⟨v, hv, hrow, hsv⟩, hbn⟩, hbw⟩, hmm⟩, hB⟩ hK
        have hsz := hB.size
        gi_wp2
        have hgr := World.grownBy_alloc W (.cells #[.int .i64 y.1, .int .i64 y.2] 73) none
        exact hK _ _ ((KeepsOthers.alloc _ _).from _) ⟨(Below.refl _ W).alloc hsz _, hgr.block _ (heap_lt hbn) (fun e => by cases e)⟩
          ⟨⟨⟨⟨⟨v, hv.alloc _, hrow.alloc _, hsv⟩, (hgr.block _ (heap_lt hbn) (fun e => by cases e)).trans hbn⟩, hbw.alloc _⟩, hmm.alloc _⟩, hB.alloc hsz _⟩ ⟨W.heap.size, heap_alloc_new _ _, rfl⟩
      case body =>
        rintro l pre y a' W hl hr ⟨⟨⟨⟨⟨v, hv, hrow, _⟩, hbn⟩, hbw⟩, hmm⟩, hB⟩ ⟨Bx, hx, rfl⟩ hlt
        have hc := hv.cell
        have hcw := hbw.cell
        have hx0 : W.cell? ⟨Bx, 0, none⟩ = some (.int .i64 y.1) := by rw [cell_of_row _ _ _ _ _ _ hx]; rfl
        have hx1 : W.cell? ⟨Bx, 1, none⟩ = some (.int .i64 y.2) := by rw [cell_of_row _ _ _ _ _ _ hx]; rfl
        have Hrow := Lib.hid hrow
        have hBs := hB.size
        clear hrow hx
        gi_wp2_with (gi_at_builtin; refine wpListIn_append_own_at _ rfl _ _ 210 rfl w.heap.size 222 i0 (.agg #[.int .i64 0, .int .i64 0]) 2 16 Tryz.underlying210 hi hz0 hz1 hz2 rfl (by decide) _ _ _ rfl (Hrow.out.alloc _) ⟨W.heap.size, 0, none⟩ 2 2 [.int .i64 y.1, .int .i64 wt, .int .i64 (wrap64 (y.2 + 1)), .int .i64 (-wt)] rfl rfl (cells_new _ _ _) (by intro u hu; simp at hu; rcases hu with rfl | rfl | rfl | rfl <;> rfl) (by unfold maxLen; omega) (by omega) (by simp; omega) ?_; intro v' w2 hown' hgrow _ _; obtain ⟨g', cap', rfl⟩ : ∃ g cap, v' = .slice (some ⟨g, 0, none⟩) (K0n + pre.length * 2 + 2) cap := (by rcases hown'.2 with ⟨_, h0⟩ | ⟨g', cap', cur', e', _⟩; exact absurd h0 (by omega); exact ⟨_, _, e'⟩); obtain ⟨hv1, hv2, hr2, hk2, hb2⟩ := hv.appended (by decide) Hrow.out hBs (by omega) hown' hgrow; have hc1 := hv1.cell; have hf1 := hv1.frozen; have Hr2 := Lib.hid hr2; have Hgrow := Lib.hid hgrow; clear hr2 hown' hgrow)
        have hgB2 : Bn ≠ gB := fun e => by
          have h3 : W.heap[gB]? = some (.cells #[v] 210 (0, 0)) := hv
          rw [← e, hbn] at h3
          cases h3
        have hbn1 : w2.heap[Bn]? = some (.cells #[.int .i64 x.1, .int .i64 x.2] 73 (0, 0)) := (Hgrow.out.block Bn (by have := heap_lt hbn; simp; omega) (own_neG Hrow.out hbn (by decide))).trans ((World.grownBy_alloc W _ none).block Bn (heap_lt hbn) (fun e => by cases e) |>.trans hbn)
        have hbn2 : (w2.setCell ⟨gB, 0, none⟩ (.slice (some ⟨g', 0, none⟩) (K0n + pre.length * 2 + 2) cap')).heap[Bn]? = some (.cells #[.int .i64 x.1, .int .i64 x.2] 73 (0, 0)) := (Below.heap_setCell _ _ _ _ hgB2).trans hbn1
        have hbw2 : Boxed (w2.setCell ⟨gB, 0, none⟩ (.slice (some ⟨g', 0, none⟩) (K0n + pre.length * 2 + 2) cap')) w.heap.size 3 (.int .i64 wt) := ((hbw.alloc _).kept Hgrow.out (hbw.not_row (by decide) Hrow.out)).other (by omega) _
        exact ⟨hk2.from _, ⟨hb2, hbn2.trans hbn.symm⟩, ⟨⟨⟨⟨_, hv2, by rw [List.length_append, List.length_singleton, rngs_flat_snoc, ← List.append_assoc, Nat.add_mul, ← Nat.add_assoc]; exact Hr2.out, ⟨_, _, _, rfl⟩⟩, hbn2⟩, hbw2⟩, hmm.keeps hk2⟩, hB.trans hb2⟩
      case done =>
        rintro D ys W hD rfl ⟨⟨⟨⟨⟨v, hv, hrow, hsv⟩, hbn⟩, hbw⟩, hmm⟩, hB⟩ hK
        have Hrow := Lib.hid hrow
        have hm' : Marks w.heap.size (D :: ds) W := ⟨fun E hE => by rcases List.mem_cons.1 hE with rfl | hE; exact hK; exact hmm.at_ E hE, List.nodup_cons.2 ⟨fun hE => by have := hmk2.lt D hE; omega, hmm.nd⟩, fun E hE => by rcases List.mem_cons.1 hE with rfl | hE; have := K0.size; omega; exact hmm.ge E hE⟩
        have hown3 : W.ownsRow w.heap.size 222 2 v (bordL wt (L.take (k + 1))).length (rngs (bordL wt (L.take (k + 1)))) := by
          rw [Hb4.out, List.length_append, rngs_app, ← HK0n.out, ← HR0.out, bordR_len, ← bordQ_eq wt x ⟨hxb.2.2.1, hxb.2.2.2⟩]
          exact hrow
        clear hrow
        gi_wp2
        refine ⟨⟨_, _, _, _, _, _, _, _, _, _, _, _, _, _, _, _, _, _, _, _, _, _, D :: ds, k + 1, v, ⟨by omega, by go_num, hsv, hbw, hv, hown3, hB, hm'⟩, rfl⟩, ?_⟩
        simp [intOf]
        omega
      case stop =>
        rintro D c pre W _ _ h _
        exact h.elim
    · have hkmi : ¬ (k : Int) < (m : Int) := by omega
      have hc := hbB.out.cell
      have hkm2 : k = m := by omega
      have hLk : L.take k = L := List.take_of_length_le (by rw [← Hm.out]; omega)
      rw [hLk] at hown
      clear hLk hkm2
      gi_wp2
      refine leaves_marks w.heap.size (fun W => W.ownsRow w.heap.size 222 2 v (bordL wt L).length (rngs (bordL wt L)) ∧ Kept w W) (fun W D hD hK hS => ⟨ownsRow_putObj hS.1 (.deferred none) hK rfl, hS.2.trans (belowK_b (w := w) (Nat.le_refl _) W D _ _ hD hK rfl rfl)⟩) (fun w' hS => ⟨_, results_tmp rfl _ _ _, _, rfl, hsl, hS.1, hS.2⟩) ds _ hmk.out ⟨hown.out, hkr.out⟩
theorem borders_any (A : Option Addr) (c : Nat) (L : List Rng) (wt : Int) (hw : wt = 1 ∨ wt = -1) (hL : L.length ≤ 1000000) (hb : ∀ x ∈ L, 0 ≤ x.1 ∧ x.1 ≤ 1114111 ∧ 0 ≤ x.2 ∧ x.2 ≤ 1114111) (w : World) (hr : RdR w w.heap.size A L) :
    Calls Tryz.prog 150 #[.slice A L.length c, .int .i64 wt] w fun e w' => ∃ v, e = .returned v ∧ IsSl v ∧ w'.ownsRow w.heap.size 222 2 v (bordL wt L).length (rngs (bordL wt L)) ∧ Kept w w' :=
  callsIn_wide.1 (borders_in 3 (Nat.le_refl _) A c L wt hw hL hb w hr)
end Go.Proofs.YtmgkdmbifecekaaGreatDoor
namespace Go.Proofs.YtmgkdmbifecekaaGreatDoor
open Go.Shelf
def laySortB_ren : Go.Shelf.Ren := ⟨fun | 6 => 160 | 15 => 182 | 14 => 181 | 28 => 205 | 29 => 122 | 20 => 197 | 21 => 198 | 22 => 199 | 23 => 200 | 24 => 201 | 25 => 202 | 26 => 203 | 27 => 204 | 46 => 215 | 47 => 216 | 48 => 217 | 49 => 218 | 50 => 219 | 57 => 224 | n => n, fun | 22 => 210 | 24 => 222 | 25 => 224 | 3 => 3 | 39 => 109 | 0 => 0 | 53 => 139 | 55 => 142 | 4 => 4 | 46 => 264 | 45 => 263 | 50 => 203 | 5 => 5 | 9 => 9 | 66 => 282 | 70 => 286 | 76 => 297 | 77 => 65 | n => n, fun | n => n⟩
theorem laySortB : Go.Proofs.SlLaysF0.n6 Tryz.prog laySortB_ren := {
  mixed := by kernel_rfl
  f6 := ⟨Tryz.f160.name, by decide, Tryz.func160.trans (congrArg some (by kernel_rfl))⟩
  f14 := ⟨Tryz.f181.name, by decide, Tryz.func181.trans (congrArg some (by kernel_rfl))⟩
  f15 := Tryz.func182.trans (congrArg some (by kernel_rfl))
  f20 := ⟨Tryz.f197.name, by decide, Tryz.func197.trans (congrArg some (by kernel_rfl))⟩
  f21 := ⟨Tryz.f198.name, by decide, Tryz.func198.trans (congrArg some (by kernel_rfl))⟩
  f22 := ⟨Tryz.f199.name, by decide, Tryz.func199.trans (congrArg some (by kernel_rfl))⟩
  f23 := ⟨Tryz.f200.name, by decide, Tryz.func200.trans (congrArg some (by kernel_rfl))⟩
  f24 := ⟨Tryz.f201.name, by decide, Tryz.func201.trans (congrArg some (by kernel_rfl))⟩
  f25 := ⟨Tryz.f202.name, by decide, Tryz.func202.trans (congrArg some (by kernel_rfl))⟩
  f26 := ⟨Tryz.f203.name, by decide, Tryz.func203.trans (congrArg some (by kernel_rfl))⟩
  f27 := ⟨Tryz.f204.name, by decide, Tryz.func204.trans (congrArg some (by kernel_rfl))⟩
  f28 := Tryz.func205.trans (congrArg some (by kernel_rfl))
  f29 := Tryz.func122.trans (congrArg some (by kernel_rfl))
  f46 := ⟨Tryz.f215.name, by decide, Tryz.func215.trans (congrArg some (by kernel_rfl))⟩
  f47 := Tryz.func216.trans (congrArg some (by kernel_rfl))
  f48 := Tryz.func217.trans (congrArg some (by kernel_rfl))
  f49 := ⟨Tryz.f218.name, by decide, Tryz.func218.trans (congrArg some (by kernel_rfl))⟩
  f50 := ⟨Tryz.f219.name, by decide, Tryz.func219.trans (congrArg some (by kernel_rfl))⟩
  f57 := ⟨Tryz.f224.name, by decide, Tryz.func224.trans (congrArg some (by kernel_rfl))⟩
  t0 := Tryz.underlying0
  a0 := Tryz.isAgg0
  z0 := Tryz.sizeOf0
  v0 := Tryz.zeroValue0
  t3 := Tryz.underlying3
  a3 := Tryz.isAgg3
  z3 := Tryz.sizeOf3
  v3 := Tryz.zeroValue3
  t4 := Tryz.underlying4
  a4 := Tryz.isAgg4
  z4 := Tryz.sizeOf4
  v4 := Tryz.zeroValue4
  t5 := Tryz.underlying5
  a5 := Tryz.isAgg5
  z5 := Tryz.sizeOf5
  v5 := Tryz.zeroValue5
  t9 := Tryz.underlying9
  a9 := Tryz.isAgg9
  z9 := Tryz.sizeOf9
  v9 := Tryz.zeroValue9
  t22 := Tryz.underlying210
  a22 := Tryz.isAgg210
  z22 := Tryz.sizeOf210
  v22 := Tryz.zeroValue210
  t25 := Tryz.underlying224
  a25 := Tryz.isAgg224
  z25 := Tryz.sizeOf224
  v25 := Tryz.zeroValue224
  t39 := Tryz.underlying109
  a39 := Tryz.isAgg109
  z39 := Tryz.sizeOf109
  v39 := Tryz.zeroValue109
  t45 := Tryz.underlying263
  a45 := Tryz.isAgg263
  z45 := Tryz.sizeOf263
  v45 := Tryz.zeroValue263
  t46 := Tryz.underlying264
  a46 := Tryz.isAgg264
  z46 := Tryz.sizeOf264
  v46 := Tryz.zeroValue264
  t50 := Tryz.underlying203
  a50 := Tryz.isAgg203
  z50 := Tryz.sizeOf203
  v50 := Tryz.zeroValue203
  t53 := Tryz.underlying139
  a53 := Tryz.isAgg139
  z53 := Tryz.sizeOf139
  v53 := Tryz.zeroValue139
  t55 := Tryz.underlying142
  a55 := Tryz.isAgg142
  z55 := Tryz.sizeOf142
  v55 := Tryz.zeroValue142
  t66 := Tryz.underlying282
  a66 := Tryz.isAgg282
  z66 := Tryz.sizeOf282
  v66 := Tryz.zeroValue282
  t70 := Tryz.underlying286
  a70 := Tryz.isAgg286
  z70 := Tryz.sizeOf286
  v70 := Tryz.zeroValue286
  t76 := Tryz.underlying297
  a76 := Tryz.isAgg297
  z76 := Tryz.sizeOf297
  v76 := Tryz.zeroValue297
  t77 := Tryz.underlying65
  a77 := Tryz.isAgg65
  z77 := Tryz.sizeOf65
  v77 := Tryz.zeroValue65 }
end Go.Proofs.YtmgkdmbifecekaaGreatDoor
