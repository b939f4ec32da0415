/-
  What blocks and finish of package md5 compute.
-/
import Derived.Test.YtlgdbhebcglkoaaDoorMdG
import Derived.Test.YtlgdbhebcglkoaaDoorMdE
namespace Go.Proofs.YtlgdbhebcglkoaaDoor
open Go.RowKit Go.Shelf
attribute [local go_sem] Oper.semAt_some

/-- Steps with blocks, one after the other. -/
def runB (s : St) (l : List (List Int × Nat)) : St := l.foldl (fun s x => stp s x.1) s
theorem runB_snoc (s : St) (l : List (List Int × Nat)) (x : List Int × Nat) : runB s (l ++ [x]) = stp (runB s l) x.1 := by simp [runB]
theorem allY_mem {D : List Int} (hb : Bts D) {x : List Int × Nat} (h : x ∈ allY D) : x.1.length = 64 ∧ Bts x.1 := by
  unfold allY at h
  rcases List.mem_append.1 h with h | h
  · obtain ⟨i, _, rfl⟩ := List.mem_map.1 h
    exact ⟨blk_length _ _, blk_bts _ hb _⟩
  · split at h
    · obtain rfl := List.mem_singleton.1 h
      exact ⟨blk_length _ _, blk_bts _ hb _⟩
    · cases h
theorem blocks_any (A : Option Addr) (m c : Nat) (w : World) : Calls Tryd.prog 38 #[.slice A m c] w fun e w' => e = .returned (.func (.func 46) #[] #[.pointer (some ⟨w.heap.size, 0, none⟩)]) ∧ w' = w.alloc (.cells #[.slice A m c] 32) := by
  go_enter Tryd.func38, Tryd.ntmps38
  go_wp2
  go_ret
  exact ⟨rfl, rfl⟩
/-- A digest: the words of a state as bytes. -/
def wrd (s : St) (i : Nat) : BitVec 32 := if i = 0 then s.1 else if i = 1 then s.2.1 else if i = 2 then s.2.2.1 else s.2.2.2
def dig (s : St) : List Int := (List.range 16).map fun i => (((wrd s (i / 4)).toNat / 256 ^ (i % 4) % 256 : Nat) : Int)
theorem dig_length (s : St) : (dig s).length = 16 := by simp [dig]
def digK (s : St) (k : Nat) : List Int := (dig s).take k ++ List.replicate (16 - k) 0
theorem digK_length (s : St) (k : Nat) (hk : k ≤ 16) : (digK s k).length = 16 := by simp [digK, dig_length]; omega
theorem digK_zero (s : St) : digK s 0 = List.replicate 16 0 := by simp [digK]
theorem digK_all (s : St) : digK s 16 = dig s := by
  unfold digK
  rw [List.take_of_length_le (by rw [dig_length]; omega)]
  simp
theorem digK_succ (s : St) (k : Nat) (hk : k < 16) (v : Int) (hv : v = (((wrd s (k / 4)).toNat / 256 ^ (k % 4) % 256 : Nat) : Int)) :
    ((u8s (digK s k)).toArray.setIfInBounds k (.int .u8 v)) = (u8s (digK s (k + 1))).toArray := by
  have hd : (dig s)[k]? = some v := by
    unfold dig
    rw [List.getElem?_map, List.getElem?_range hk, hv]
    rfl
  apply Array.toList_inj.1
  rw [Array.toList_setIfInBounds]
  show (u8s (digK s k)).set k _ = u8s (digK s (k + 1))
  unfold digK u8s
  obtain ⟨j, hj⟩ : ∃ j, 16 - k = j + 1 := ⟨15 - k, by omega⟩
  rw [hj, List.replicate_succ, List.take_add_one, hd, show 16 - (k + 1) = j from by omega]
  simp [List.map_append, List.set_append, dig_length, Nat.min_eq_left (by omega : k ≤ 16)]
theorem blocks_yields (n : Nat) (hn : 1 ≤ n) (Bn Sg dB : Nat) (A1 A2 : Option Addr) (n1 n2 c1 c2 : Nat) (P1 P2 : List Int) (w : World)
    (hBn : w.cell? ⟨Bn, 0, none⟩ = some (.slice (some ⟨Sg, 0, none⟩) 2 2)) (hS0 : w.cell? ⟨Sg, 0, none⟩ = some (.slice A1 n1 c1)) (hS1 : w.cell? ⟨Sg, 1, none⟩ = some (.slice A2 n2 c2)) (hdB : Bn ≠ dB) (hdS : Sg ≠ dB)
    (h1 : Rd w w.heap.size A1 n1 (u8s P1)) (h2 : Rd w w.heap.size A2 n2 (u8s P2)) (hd1 : n1 < 64 ∨ ∀ ad, A1 = some ad → ad.block ≠ dB) (hd2 : ∀ ad, A2 = some ad → 0 < n2 → ad.block ≠ dB) (hc1 : n1 ≤ c1) (hc2 : n2 ≤ c2)
    (hlen : n1 + n2 ≤ 140737488355328) (hW : dB < w.heap.size) :
    Yields Fence.wide n Tryd.prog 46 #[.pointer (some ⟨Bn, 0, none⟩)] encB (KpD dB) (allY (P1 ++ P2)) w := fun l J W hB hA hY h0 =>
  blocks1_in n hn l Bn Sg dB A1 A2 n1 n2 c1 c2 P1 P2 J W hA hY ((hB.cell (p := ⟨Bn, 0, none⟩) (block_lt_of_cell hBn)).trans hBn) ((hB.cell (p := ⟨Sg, 0, none⟩) (block_lt_of_cell hS0)).trans hS0) ((hB.cell (p := ⟨Sg, 1, none⟩) (block_lt_of_cell hS1)).trans hS1)
    hdB hdS ((h1.below hB).more hB.size) ((h2.below hB).more hB.size) hd1 hd2 hc1 hc2 hlen (Nat.lt_of_lt_of_le hW hB.size) h0
theorem le8_bts (x : Nat) : Bts (le8 x) := by
  intro c hc
  obtain ⟨i, _, rfl⟩ := List.mem_map.1 hc
  omega
theorem padL_bts (n : Nat) : Bts (padL n) := by
  intro c hc
  rcases List.mem_append.1 hc with h | h
  · rcases List.mem_cons.1 h with rfl | h
    · omega
    · obtain rfl := (List.mem_replicate.1 h).2
      omega
  · exact le8_bts _ c h
theorem Abd.block {β : Type} {B g : Nat} {f : β → Obj} (hg : g < B) : Abd B (fun s W => W.heap[g]? = some (f s)) :=
  fun _ _ _ _ hs hgr hr => (hgr.block _ (Array.getElem?_eq_some_iff.1 hs).1 (fun e => by have := hr _ e.symm; omega)).trans hs
theorem keepsFrom_below {B : Nat} {W W' : World} (h : Below W.heap.size W W') : KeepsFrom B W W' :=
  ⟨h.size, fun k o _ hk _ => (h.block k (Array.getElem?_eq_some_iff.1 hk).1).trans hk⟩
theorem own_ge {w : World} {base : Nat} {e : TypeId} {A : Option Addr} {n c : Nat} {xs : List Value} (h : w.ownsRow base e 1 (.slice A n c) n xs) : ∀ ad, A = some ad → base ≤ ad.block := by
  intro ad e
  rcases h.2 with ⟨h1, _⟩ | ⟨g, cap, cur, h1, h2, _⟩
  · injection h1 with h1; rw [e] at h1; cases h1
  · injection h1 with h1; rw [e] at h1; cases h1; exact h2
abbrev z16 : Array Value := #[.int .u8 0, .int .u8 0, .int .u8 0, .int .u8 0, .int .u8 0, .int .u8 0, .int .u8 0, .int .u8 0, .int .u8 0, .int .u8 0, .int .u8 0, .int .u8 0, .int .u8 0, .int .u8 0, .int .u8 0, .int .u8 0]
set_option maxRecDepth 100000 in
set_option maxHeartbeats 2000000 in
theorem finish_in (k : Nat) (hk : 6 ≤ k) (a b c d : BitVec 32) (A : Option Addr) (m cc n : Nat) (P : List Int) (hP : Bts P) (hmn : m % 64 = n % 64) (hm : m ≤ 70368744177664) (hn : n ≤ 70368744177664) (hcc : m ≤ cc) (w : World) (hr : Rd w w.heap.size A m (u8s P)) (hT : Tab w) :
    CallsIn Fence.wide k Tryd.prog 41 #[.agg #[V a, V b, V c, V d], .slice A m cc, .int .i64 (n : Int)] w fun e w' => e = .returned (.agg (u8s (dig (runB (a, b, c, d) (allY (P ++ padL n))))).toArray) ∧ Below w.heap.size w w' := by
  have h1 : 1 ≤ k := by omega
  have h2 : 1 ≤ k - 1 - 1 := by omega
  have C := Lib.hid fun W => padding_any n (by omega) W
  refine callsIn_of_wp_marks Tryd.func41 rfl trivial ?_ rfl
  simp only [Tryd.ntmps41, List.size_toArray, List.length_cons, List.length_nil, Nat.reduceAdd, Nat.reduceSub, Array.replicate_succ, Array.replicate_zero, List.push_toArray, List.append_toArray, List.nil_append, List.cons_append]
  gi_wp2_with (first | (refine ⟨trivial, ?_⟩; gi_at_call 42; refine (callsIn_wide.2 (C.out _)).mono ?_; rintro e w1 ⟨v, rfl, hv, hb1⟩; obtain ⟨A2, c2, rfl, hc2⟩ := own_slice hv) | (refine ⟨trivial, ?_⟩; gi_at_call 38; refine (callsIn_wide.2 (blocks_any _ _ _ _)).mono ?_; rintro e w' ⟨rfl, rfl⟩))
  have hq9 : 0 < 72 - (n + 8) % 64 := by omega
  have hlq : (m + (72 - (n + 8) % 64)) % 64 = 0 := by omega
  have hq72 : 72 - (n + 8) % 64 ≤ 72 := by omega
  have hpl := padL_length n
  generalize 72 - (n + 8) % 64 = q at *
  have hs1 := hb1.size
  simp only [World.size_alloc] at hs1 hv
  have hB1 : Below w.heap.size w w1 := (((Below.refl _ w).alloc (Nat.le_refl _) _).alloc (by simp) _).trans (hb1.mono (by simp; omega))
  have hx0 : w1.heap[w.heap.size]? = some (.cells #[V a, V b, V c, V d] 24 (0, 0)) := (hb1.block _ (by simp; omega)).trans (halloc _ (hnew _ rfl))
  have hx1 : w1.heap[w.heap.size + 1]? = some (.cells z16 30 (0, 0)) := (hb1.block _ (by simp)).trans (hnew _ (by simp))
  have hr1 : Rd w1 w1.heap.size A m (u8s P) := (hr.below hB1).more hB1.size
  have hr2 : Rd w1 w1.heap.size A2 q (u8s (padL n)) := Rd.of_own hv
  have hd2 : ∀ ad, A2 = some ad → ad.block ≠ w.heap.size := fun ad e => by have := own_ge hv ad e; omega
  have hd1 : m < 64 ∨ ∀ ad, A = some ad → ad.block ≠ w.heap.size := by
    by_cases h : m < 64
    · exact .inl h
    · obtain ⟨ad, e, hlt, _⟩ := hr.2 (by omega)
      exact .inr fun ad' e' => by rw [e] at e'; cases e'; omega
  obtain ⟨s0, hs0⟩ : ∃ s0, s0 = w1.heap.size := ⟨_, rfl⟩
  have hcs0 : (w1.alloc (.cells #[.slice A m cc, .slice A2 q c2] 25)).heap[s0]? = some (.cells #[.slice A m cc, .slice A2 q c2] 25 (0, 0)) := hnew _ hs0
  have hB2 : Below w1.heap.size w1 ((w1.alloc (.cells #[.slice A m cc, .slice A2 q c2] 25)).alloc (.cells #[.slice (some ⟨w1.heap.size, 0, none⟩) 2 2] 32)) := ((Below.refl _ w1).alloc (Nat.le_refl _) _).alloc (by simp) _
  have hcb : ((w1.alloc (.cells #[.slice A m cc, .slice A2 q c2] 25)).alloc (.cells #[.slice (some ⟨w1.heap.size, 0, none⟩) 2 2] 32)).heap[s0 + 1]? = some (.cells #[.slice (some ⟨w1.heap.size, 0, none⟩) 2 2] 32 (0, 0)) := hnew _ (by simp [hs0])
  have hcs := halloc (.cells #[.slice (some ⟨w1.heap.size, 0, none⟩) 2 2] 32) hcs0
  have hz2 : ((w1.alloc (.cells #[.slice A m cc, .slice A2 q c2] 25)).alloc (.cells #[.slice (some ⟨w1.heap.size, 0, none⟩) 2 2] 32)).heap.size = s0 + 2 := by simp [hs0]
  rw [← hs0] at hB2 hcb hcs hz2 ⊢
  generalize (w1.alloc (.cells #[.slice A m cc, .slice A2 q c2] 25)).alloc (.cells #[.slice (some ⟨s0, 0, none⟩) 2 2] 32) = w2 at *
  have hB : Below w.heap.size w w2 := hB1.trans (hB2.mono (by omega))
  have hrS : s0 = w1.heap.size := hs0
  have hk2 : ∀ g o, w1.heap[g]? = some o → w2.heap[g]? = some o := fun g o h => (hB2.block g (by have := (Array.getElem?_eq_some_iff.1 h).1; omega)).trans h
  have hY := blocks_yields (k - 1) (by omega) (s0 + 1) s0 w.heap.size A A2 m q cc c2 P (padL n) w2 (by rw [cell_of_row _ _ _ _ _ _ hcb]; rfl) (by rw [cell_of_row _ _ _ _ _ _ hcs]; rfl) (by rw [cell_of_row _ _ _ _ _ _ hcs]; rfl)
    (by omega) (by omega) ((hr1.below (by rw [← hs0]; exact hB2)).more (by omega)) ((hr2.below (by rw [← hs0]; exact hB2)).more (by omega)) hd1 (fun ad e _ => hd2 ad e) hcc hc2 (by omega) (by omega)
  have hBD : Bts (P ++ padL n) := by
    intro x hx
    rcases List.mem_append.1 hx with h | h
    · exact hP x h
    · exact padL_bts n x h
  have hz : s0 + 2 = w2.heap.size := hz2.symm
  have hsw : w.heap.size + 2 ≤ s0 := by omega
  have HT := Lib.hid hT
  have HB := Lib.hid hB
  generalize hw0 : w.heap.size = b0 at *
  refine wpIn_range rfl h1 (gf := 46) (lb := #[.pointer (some ⟨s0 + 1, 0, none⟩)]) rfl trivial (enters_of Tryd.func46 (by kernel_rfl) rfl) hY (Below.refl _ _) (fun _ => rfl) KpD.trans (fun W l o o' h ho => KpD.putObj W l o o' h ho)
    (fun pre W => (W.heap[b0]? = some (.cells (vals (runB (a, b, c, d) pre)) 24 (0, 0)) ∧ W.heap[b0 + 1]? = some (.cells z16 30 (0, 0))) ∧ Below b0 w W)
    ((Abd.and (Abd.block (by omega)) (Abd.block (by omega))).and (Abd.below (by omega) (by omega))) ⟨⟨hk2 _ _ hx0, hk2 _ _ hx1⟩, hB⟩ ?round ?done
  case round =>
    rintro l pre x W ⟨⟨hc0, hc1⟩, hBW⟩ hpre
    obtain ⟨hl64, hbt⟩ := allY_mem hBD (hpre.subset (by simp) : x ∈ _)
    have CS := Lib.hid fun p q r t W hT => step_any p q r t x.1 hl64 hbt W hT
    have Hsnoc := Lib.hid (runB_snoc (a, b, c, d) pre x)
    have hsz : (Tryd.prog.info? 48).map (·.size) = some (u8s x.1).length := by rw [size64, u8s_length, hl64]
    have Hone := Lib.hid (u8s_one x.1)
    have hL64 : (u8s x.1).length = 64 := by rw [u8s_length, hl64]
    generalize hX : u8s x.1 = L at CS hsz Hone hL64
    obtain ⟨⟨p, q', r, t⟩, hst⟩ : ∃ st, runB (a, b, c, d) pre = st := ⟨_, rfl⟩
    rw [hst] at hc0 Hsnoc
    have Hst := Lib.hid hst
    have hCS := CS.out p q' r t
    obtain ⟨x1, x2, x3, x4, hR⟩ : ∃ x1 x2 x3 x4, stp (p, q', r, t) x.1 = (x1, x2, x3, x4) := ⟨_, _, _, _, rfl⟩
    rw [hR] at hCS Hsnoc
    have CS2 := Lib.hid hCS
    have Hsz := Lib.hid hsz
    have HL64 := Lib.hid hL64
    have HX := Lib.hid hX
    clear hCS CS hst hR hsz hL64 hX hl64 hbt hpre hY hcs hcb hcs0 hx0 hx1 hr hr1 hr2 hv hd1 hd2 hB2 hB1 hb1
    gi_wp2_with (refine wpListIn_store_at rfl 48 (.tmp 7) (.tmp 15) rfl W.heap.size 0 L rfl ?c1 48 (List.replicate 64 (.int .u8 0)) (hnew _ rfl) Hsz.out ?c2 Hone.out ?_; (case c1 => rw [← HX.out]; rfl); (case c2 => rw [HL64.out]; decide))
    have hsp : splice (List.replicate 64 (Value.int .u8 0)) 0 L = L := by
      unfold splice
      rw [List.take_zero, List.nil_append, HL64.out, Nat.zero_add, List.drop_of_length_le (by simp), List.append_nil]
    rw [hsp]
    generalize hW1 : World.setRow _ W.heap.size L.toArray = W1
    have hgn : W1.heap[W.heap.size]? = some (.cells L.toArray 48 (0, 0)) := by rw [← hW1]; exact setRow_heap _ _ _ _ _ _ (heap_alloc_new _ _)
    have hBn : Below W.heap.size W W1 := by rw [← hW1]; exact below_setRow ((Below.refl _ W).alloc (Nat.le_refl _) _) (Nat.le_refl _) _
    clear hW1
    have hbW : b0 + 1 < W.heap.size := (Array.getElem?_eq_some_iff.1 hc1).1
    obtain ⟨gW, hgW⟩ : ∃ g, g = W.heap.size := ⟨_, rfl⟩
    have hc1W := (hBn.block _ hbW).trans hc1
    have hc0W := (hBn.block b0 (by omega)).trans hc0
    have hBW1 := hBW.trans (hBn.mono (by omega))
    refine ⟨keepsFrom_below hBn, KpD.of_below hBn (Nat.le_refl _), ⟨⟨by rw [Hst.out]; exact hc0W, hc1W⟩, hBW1⟩, ?_⟩
    rintro W2 hz2' hg2 hcc2 ⟨⟨hd0, hd1⟩, hBW2⟩
    rw [Hst.out] at hd0
    have hgn2 := hcc2 _ _ _ _ hgn
    have hT2 := HT.out.below (by rw [← hw0] at hBW2; exact hBW2)
    rw [← hgW] at hgn2
    have hcl : ∀ j v, L.toArray[j]? = some v → W2.cell? ((⟨gW, 0, none⟩ : Addr).add j) = some v := cell_at W2 gW 0 _ _ _ hgn2 _ (fun j v h => by rw [Nat.zero_add]; simpa using h)
    have hcs2 : ∀ j v, (#[V p, V q', V r, V t] : Array Value)[j]? = some v → W2.cell? ((⟨b0, 0, none⟩ : Addr).add j) = some v := cell_at W2 b0 0 [V p, V q', V r, V t] _ _ hd0 _ (fun j v h => by rw [Nat.zero_add]; simpa using h)
    have HsL : Hid ((Tryd.prog.info? 48).map (·.size) = some L.toArray.size) := by show _ = _; rw [List.size_toArray]; exact Hsz.out
    have HK3 : Hid (∀ w3, Below W2.heap.size W2 w3 → w3.heap[b0]? = some (.cells (List.toArray [V p, V q', V r, V t]) 24 (0, 0))) := fun w3 h3 => (h3.block b0 (Array.getElem?_eq_some_iff.1 hd0).1).trans hd0
    have HK4 : Hid (∀ w3, Below W2.heap.size W2 w3 → w3.heap[b0 + 1]? = some (.cells z16 30 (0, 0))) := fun w3 h3 => (h3.block (b0 + 1) (Array.getElem?_eq_some_iff.1 hd1).1).trans hd1
    have Hcl := Lib.hid hcl
    have Hcs2 := Lib.hid hcs2
    have HBW2 := Lib.hid hBW2
    have HT2 := Lib.hid hT2
    have hzz := (Array.getElem?_eq_some_iff.1 hd1).1
    clear hcl hcs2 hBW2 hT2 hd0 hd1 hgn2 hcc2 hg2 hc0W hc1W hBW1 hgn hBn hc0 hc1 hBW hsp
    gi_wp2_with (first
      | (refine wpListIn_load_at rfl 24 (.tmp 3) rfl ⟨b0, 0, none⟩ rfl #[V p, V q', V r, V t] _ Hcs2.out Tryd.underlying24 rfl size4 ?_)
      | (refine wpListIn_load_at rfl 48 (.tmp 7) rfl ⟨gW, 0, none⟩ ?c1 L.toArray _ Hcl.out Tryd.underlying48 rfl HsL.out ?_; (case c1 => rw [hgW]; rfl))
      | (refine ⟨trivial, ?_⟩; gi_at_call 40; refine (CallsIn.inRound l (callsIn_wide.2 (CS2.out _ HT2.out))).mono ?_; rintro e w3 ⟨rfl, hb3⟩)
      | (refine wpListIn_store_at rfl 24 (.tmp 3) (.tmp 19) rfl b0 0 [V x1, V x2, V x3, V x4] rfl rfl 24 [V p, V q', V r, V t] (HK3.out _ hb3) size4 (by simp) (by simp [Value.oneCell']) ?_))
    have hsp2 : splice [V p, V q', V r, V t] 0 [V x1, V x2, V x3, V x4] = [V x1, V x2, V x3, V x4] := rfl
    rw [hsp2]
    have hrow := setRow_heap _ _ _ (List.toArray [V x1, V x2, V x3, V x4]) _ _ (HK3.out _ hb3)
    exact ⟨(keepsFrom_below hb3).trans (KeepsFrom.of_grownBy (grownBy_setRow' _ _ _) (fun j e => by cases e; omega)),
      (KpD.of_below hb3 (Nat.le_refl _)).trans ⟨by simp [World.setRow], fun g t cs fr hg h => (setRow_other _ _ _ _ hg).trans h⟩,
      ⟨⟨by rw [Hsnoc.out]; exact hrow, (setRow_other _ _ _ _ (by omega)).trans (HK4.out _ hb3)⟩, HBW2.out.trans (below_setRow (hb3.mono (by omega)) (Nat.le_refl _) _)⟩⟩
  case done =>
    rintro D W hD ⟨⟨hc0, hc1⟩, hBW⟩ hK
    generalize hst : runB (a, b, c, d) (allY (P ++ padL n)) = st at *
    obtain ⟨p, q', r, t⟩ := st
    have Hst := Lib.hid hst
    have Hw0 := Lib.hid hw0
    have hzb := (Array.getElem?_eq_some_iff.1 hc1).1
    have hDz := (Array.getElem?_eq_some_iff.1 hK).1
    have hDb : b0 + 1 < D := by omega
    clear hY hcs hcb hcs0 hx0 hx1 hr hr1 hr2 hv hd1 hd2 hB2 hB1 hb1 C hst hB HB hk2 hBD
    have Hc0 := Lib.hid hc0
    have Hc1 := Lib.hid hc1
    have HBW := Lib.hid hBW
    have HK := Lib.hid hK
    clear hc0 hc1 hBW hK
    gi_wp2
    have hgd : (W.alloc (.cells z16 30)).heap[W.heap.size]? = some (.cells (u8s (digK (p, q', r, t) 0)).toArray 30 (0, 0)) := by
      rw [digK_zero]
      exact heap_alloc_new _ _
    have hBd : Below W.heap.size W (W.alloc (.cells z16 30)) := (Below.refl _ W).alloc (Nat.le_refl _) _
    generalize W.alloc (.cells z16 30) = w5 at hgd hBd ⊢
    obtain ⟨gd, hgd'⟩ : ∃ g, g = W.heap.size := ⟨_, rfl⟩
    have hgdD : D < gd := by omega
    have hgd0 : b0 + 1 < gd := by omega
    have HB0 : Hid (∀ w', Below gd w5 w' → Below b0 w w' ∧ w'.heap[b0]? = some (.cells #[V p, V q', V r, V t] 24 (0, 0)) ∧ w'.heap[b0 + 1]? = some (.cells z16 30 (0, 0)) ∧ w'.heap[D]? = some (.deferred (some []))) := by
      intro w' h
      have h' : Below gd W w' := by rw [hgd'] at h ⊢; exact hBd.trans h
      exact ⟨HBW.out.trans (h'.mono (by omega)), (h'.block b0 (by omega)).trans Hc0.out, (h'.block (b0 + 1) (by omega)).trans Hc1.out, (h'.block D (by omega)).trans HK.out⟩
    rw [← hgd'] at hgd ⊢
    have Hgd := Lib.hid hgd
    clear hgd hBd Hc0 Hc1 HBW HK hgd' hzb hDz
    gi_loopw [20] (fun i wr => ∃ k : Nat, k ≤ 16 ∧ i = .int .i64 k ∧ Below gd w5 wr ∧ Hid (wr.heap[gd]? = some (.cells (u8s (digK (p, q', r, t) k)).toArray 30 (0, 0)))) (fun i _ => 16 - (intOf i).toNat)
    case atStart => exact ⟨0, by omega, rfl, Below.refl _ _, Hgd⟩
    case round =>
      obtain ⟨k, hk, rfl, hBr, hrow⟩ := hrel
      by_cases hk16 : k < 16
      · obtain ⟨_, hc0, _, _⟩ := HB0.out wr hBr
        obtain ⟨k4, hk4⟩ : ∃ x, k / 4 = x := ⟨_, rfl⟩
        obtain ⟨r4, hr4⟩ : ∃ x, k % 4 = x := ⟨_, rfl⟩
        have e1 : (k : Int) / 4 = (k4 : Int) := by omega
        have e2 : (k : Int) % 4 = (r4 : Int) := by omega
        have h44 : k4 < 4 := by omega
        have hr44 : r4 < 4 := by omega
        obtain ⟨ww, hww⟩ : ∃ x, wrd (p, q', r, t) k4 = x := ⟨_, rfl⟩
        have hcell : wr.cell? ⟨b0, k4, none⟩ = some (V ww) := by
          rw [cell_of_row _ _ _ _ _ _ hc0, ← hww]
          rcases (by omega : k4 = 0 ∨ k4 = 1 ∨ k4 = 2 ∨ k4 = 3) with rfl | rfl | rfl | rfl <;> rfl
        have hcg : wr.cell? ⟨gd, k, none⟩ = some (.int .u8 ((digK (p, q', r, t) k).getD k 0)) := by
          rw [cell_of_row _ _ _ _ _ _ hrow.out, List.getElem?_toArray, u8s_get _ _ (by rw [digK_length _ _ hk]; omega)]
        have hfg : wr.frozen? ⟨gd, k, none⟩ = false := by simp [World.frozen?, hrow.out]
        have Hs := Lib.hid (digK_succ (p, q', r, t) k hk16)
        rw [hk4, hr4, hww] at Hs
        generalize (digK (p, q', r, t) k).getD k 0 = oo at hcg
        clear hc0 hww hk4 hr4
        gi_wp2
        go_roundw
        case rel =>
          refine ⟨k + 1, by omega, by go_num, hBr.setCell (p := ⟨gd, k, none⟩) (Nat.le_refl _) _, ?_⟩
          show _ = _
          have hv : ((ww.toNat : Int) / 2 ^ (8 * r4) % 256) = ((ww.toNat / 256 ^ r4 % 256 : Nat) : Int) := by
            have : (256 : Nat) ^ r4 = 2 ^ (8 * r4) := by rw [Nat.pow_mul]
            rw [this]
            simp
          rw [heap_setCell_same _ _ _ _ _ _ hrow.out, Hs.out _ hv]
        case measure => simp [intOf]; omega
      · obtain rfl : k = 16 := by omega
        rw [digK_all] at hrow
        obtain ⟨hBW, _, hc1, hK⟩ := HB0.out wr hBr
        have hcl : ∀ j v, (u8s (dig (p, q', r, t))).toArray[j]? = some v → wr.cell? ((⟨gd, 0, none⟩ : Addr).add j) = some v := cell_at wr gd 0 _ _ _ hrow.out _ (fun j v h => by rw [Nat.zero_add]; simpa using h)
        have hsz : (Tryd.prog.info? 30).map (·.size) = some (u8s (dig (p, q', r, t))).length := by rw [u8s_length, dig_length]; kernel_rfl
        have Hone := Lib.hid (u8s_one (dig (p, q', r, t)))
        have hl16 : (u8s (dig (p, q', r, t))).length = 16 := by rw [u8s_length, dig_length]
        have HL := Lib.hid (rfl : u8s (dig (p, q', r, t)) = u8s (dig (p, q', r, t)))
        generalize hLL : u8s (dig (p, q', r, t)) = L at hcl hsz Hone hl16 hrow
        have HLL := Lib.hid hLL
        clear hLL HL
        have HsL : Hid ((Tryd.prog.info? 30).map (·.size) = some L.toArray.size) := by show _ = _; rw [List.size_toArray]; exact hsz
        have Hcl := Lib.hid hcl
        have Hsz := Lib.hid hsz
        have Hc1 := Lib.hid hc1
        have HK := Lib.hid hK
        have Hl16 := Lib.hid hl16
        have HBW := Lib.hid hBW
        clear hcl hsz hc1 hK hl16 hBW HB0 hrow
        gi_wp2_with (first
          | (refine wpListIn_load_at rfl 30 (.tmp 8) rfl ⟨gd, 0, none⟩ rfl L.toArray _ Hcl.out Tryd.underlying30 rfl HsL.out ?_)
          | (refine wpListIn_store_at rfl 30 (.tmp 6) (.tmp 35) rfl (b0 + 1) 0 L rfl rfl 30 z16.toList (Hc1.out) Hsz.out ?c1 Hone.out ?_; (case c1 => rw [Hl16.out]; decide)))
        have hsp : splice z16.toList 0 L = L := by
          unfold splice
          rw [List.take_zero, List.nil_append, Hl16.out, List.drop_of_length_le (by simp), List.append_nil]
        rw [hsp]
        refine ⟨by simp, .inl ⟨_, _, rfl, run_takeDeferred ((setRow_other _ _ _ _ (by omega)).trans HK.out), ?_⟩⟩
        refine ⟨_, results_cell_row Tryd.results41 _ _ (b0 + 1) _ L.toArray (0, 0) _ rfl ((World.putObj_heap_other (by omega)).trans (setRow_heap _ _ _ _ _ _ Hc1.out)) Tryd.underlying30 rfl HsL.out, ?_, ?_⟩
        · rw [Hst.out, HLL.out]
        · rw [Hw0.out]
          have h1 := below_setRow HBW.out (by omega : b0 ≤ b0 + 1) L.toArray
          exact h1.trans (belowK_b (w := w) (by omega) _ D _ _ (by omega) ((setRow_other _ _ _ _ (by omega)).trans HK.out) rfl rfl)
end Go.Proofs.YtlgdbhebcglkoaaDoor
