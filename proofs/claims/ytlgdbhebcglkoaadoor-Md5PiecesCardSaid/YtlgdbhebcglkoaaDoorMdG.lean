/-
  What the iterator blocks of package md5 yields.
-/
import Derived.Test.YtlgdbhebcglkoaaDoorMdF
import Derived.Test.YtlgdbhebcglkoaaDoorMdB
import Derived.Test.YtlgdbhebcglkoaaDoorRange
import Derived.Test.YtlgdbhebcglkoaaDoorArrIn
import Derived.Test.YtlgdbhebcglkoaaDoorOwn
namespace Go.Proofs.YtlgdbhebcglkoaaDoor
open Go.RowKit Go.Shelf
attribute [local go_sem] Oper.semAt_some

abbrev encB (x : List Int × Nat) : Array Value := #[.agg (u8s x.1).toArray, .int .i64 (x.2 : Int)]
theorem cell_block {w : World} {p : Addr} {v : Value} (h : w.cell? p = some v) : ∃ cs t fr, w.heap[p.block]? = some (.cells cs t fr) := by
  unfold World.cell? at h
  split at h
  · exact ⟨_, _, _, by assumption⟩
  · cases h
theorem kpD_cell {D : Nat} {w w' : World} (hk : KpD D w w') {p : Addr} (hp : p.block ≠ D) {v : Value} (h : w.cell? p = some v) : w'.cell? p = some v := by
  obtain ⟨cs, t, fr, hb⟩ := cell_block h
  rw [World.cell?_of_block ((hk.2 _ _ _ _ hp hb).trans hb.symm)]
  exact h
theorem rd_kpD0 {D : Nat} {w w' : World} {B n : Nat} {A : Option Addr} {xs : List Value} (h : Rd w B A n xs) (hk : KpD D w w') (hne : ∀ ad, A = some ad → 0 < n → ad.block ≠ D) : Rd w' B A n xs := by
  rcases Nat.eq_zero_or_pos n with h0 | h0
  · exact ⟨h.1, fun hn => absurd hn (by omega)⟩
  · exact ⟨h.1, fun hn => by
      obtain ⟨ad, e, hb, hc⟩ := h.2 hn
      exact ⟨ad, e, hb, fun j u hu => kpD_cell hk (by rw [addBlock]; exact hne ad e h0) (hc j u hu)⟩⟩
theorem rd_kpD {D : Nat} {w w' : World} {B n : Nat} {A : Option Addr} {xs : List Value} (h : Rd w B A n xs) (hk : KpD D w w') (hne : ∀ ad, A = some ad → ad.block ≠ D) : Rd w' B A n xs :=
  ⟨h.1, fun hn => by
    obtain ⟨ad, e, hb, hc⟩ := h.2 hn
    exact ⟨ad, e, hb, fun j u hu => kpD_cell hk (by rw [addBlock]; exact hne ad e) (hc j u hu)⟩⟩
theorem addr_add_add (a : Addr) (i j : Nat) : (a.add i).add j = a.add (i + j) := by
  unfold Addr.add
  split <;> rename_i h <;> split <;> simp_all <;> omega
def lenOf : Value → Nat
  | .slice _ n _ => n
  | _ => 0
theorem zero64 (D : List Int) : (Array.replicate 64 (Value.int .u8 0)) = (u8s (blk D 0)).toArray := by
  rw [blk_zero]
  rfl
theorem grownBy_setRow' (w : World) (g : Nat) (cs : Array Value) : w.grownBy (w.setRow g cs) (some g) := ⟨rfl, rfl, rfl, by simp [World.setRow], fun k _ hk => setRow_other _ _ _ _ (fun e => hk (by rw [e]))⟩
/-- What the iterator holds between two rounds, k bytes taken. -/
def BInv (G Sg dB : Nat) (A1 A2 : Option Addr) (n1 n2 c1 c2 : Nat) (P1 P2 D : List Int) (J : List (List Int × Nat) → World → Prop) (f k : Nat) (w : World) : Prop :=
  J (fulls D f) w ∧ w.heap[G]? = some (.cells (u8s (blk D k)).toArray 48 (0, 0)) ∧ (w.cell? ⟨Sg, 0, none⟩ = some (.slice A1 n1 c1) ∧ w.cell? ⟨Sg, 1, none⟩ = some (.slice A2 n2 c2)) ∧
    ((k < 64 ∨ ∀ ad, A1 = some ad → ad.block ≠ dB) → Rd w G A1 n1 (u8s P1)) ∧ Rd w G A2 n2 (u8s P2)
section
variable {G Sg dB n1 n2 c1 c2 k m f : Nat} {A1 A2 : Option Addr} {P1 P2 D : List Int} {J : List (List Int × Nat) → World → Prop} {w w' : World}
theorem BInv.store (h : BInv G Sg dB A1 A2 n1 n2 c1 c2 P1 P2 D J f k w) (hJ : Abd G J) (hS : Sg < G) (hm : k % 64 + m ≤ 64) (hm0 : 0 < m) (hl : k + m ≤ D.length) :
    BInv G Sg dB A1 A2 n1 n2 c1 c2 P1 P2 D J f (k + m) (w.setRow G (splice (u8s (blk D k)) (k % 64) (u8s ((D.drop k).take m))).toArray) := by
  obtain ⟨h1, h2, ⟨h3, h4⟩, h5, h6⟩ := h
  have hB : Below G w (w.setRow G (splice (u8s (blk D k)) (k % 64) (u8s ((D.drop k).take m))).toArray) := below_setRow (Below.refl _ _) (Nat.le_refl _) _
  refine ⟨hJ _ _ _ (some G) h1 (grownBy_setRow' _ _ _) (fun r e => by cases e; exact Nat.le_refl _), ?_, ⟨(hB.cell (p := ⟨Sg, 0, none⟩) hS).trans h3, (hB.cell (p := ⟨Sg, 1, none⟩) hS).trans h4⟩, fun hk => (h5 (hk.imp (fun h => by omega) id)).below hB, h6.below hB⟩
  rw [← blk_add D k m hm hm0 hl, ← splice_u8s]
  exact setRow_heap _ _ _ _ _ _ h2
theorem BInv.drew (h : BInv G Sg dB A1 A2 n1 n2 c1 c2 P1 P2 D J f k w) (hJ : Abd G J) : BInv G Sg dB A1 A2 n1 n2 c1 c2 P1 P2 D J f k w.drew :=
  ⟨hJ _ _ _ none h.1 ⟨rfl, rfl, rfl, Nat.le_refl _, fun _ _ _ => rfl⟩ (fun r e => by cases e), h.2⟩
theorem BInv.yield (h : BInv G Sg dB A1 A2 n1 n2 c1 c2 P1 P2 D J f k w) (hk : KpD dB w w') (hG : G ≠ dB) (hS : Sg ≠ dB) (h64 : 64 ≤ k) (h2 : ∀ ad, A2 = some ad → 0 < n2 → ad.block ≠ dB) (hJ : J (fulls D (f + 1)) w') : BInv G Sg dB A1 A2 n1 n2 c1 c2 P1 P2 D J (f + 1) k w' := by
  obtain ⟨_, g2, ⟨g3, g4⟩, g5, g6⟩ := h
  refine ⟨hJ, hk.2 _ _ _ _ hG g2, ⟨kpD_cell hk hS g3, kpD_cell hk hS g4⟩, fun hd => rd_kpD (g5 hd) hk ?_, rd_kpD0 g6 hk h2⟩
  rcases hd with hd | hd
  · omega
  · exact hd
end
set_option maxRecDepth 100000 in
set_option maxHeartbeats 2000000 in
theorem blocks1_in (n : Nat) (hn : 1 ≤ n) (l Bn Sg dB : Nat) (A1 A2 : Option Addr) (n1 n2 c1 c2 : Nat) (P1 P2 : List Int) (J : List (List Int × Nat) → World → Prop) (W : World) (hAb : Abd W.heap.size J)
    (hY : ∀ pre x W1, J pre W1 → pre ++ [x] <+: allY (P1 ++ P2) → YieldAt Fence.wide (n - 1) Tryd.prog l (encB x) W1 fun e W' => e = .returned (.bool true) ∧ J (pre ++ [x]) W' ∧ KpD dB W1 W')
    (hBn : W.cell? ⟨Bn, 0, none⟩ = some (.slice (some ⟨Sg, 0, none⟩) 2 2)) (hS0 : W.cell? ⟨Sg, 0, none⟩ = some (.slice A1 n1 c1)) (hS1 : W.cell? ⟨Sg, 1, none⟩ = some (.slice A2 n2 c2)) (hdB : Bn ≠ dB) (hdS : Sg ≠ dB)
    (h1 : Rd W W.heap.size A1 n1 (u8s P1)) (h2 : Rd W W.heap.size A2 n2 (u8s P2)) (hd1 : n1 < 64 ∨ ∀ ad, A1 = some ad → ad.block ≠ dB) (hd2 : ∀ ad, A2 = some ad → 0 < n2 → ad.block ≠ dB) (hc1 : n1 ≤ c1) (hc2 : n2 ≤ c2)
    (hlen : n1 + n2 ≤ 140737488355328) (hW : dB < W.heap.size) (h0 : J [] W) :
    CallsIn Fence.wide n Tryd.prog 46 #[.func (.yield l) #[] #[], .pointer (some ⟨Bn, 0, none⟩)] W fun e W' => (∃ v, e = .returned v) ∧ J (allY (P1 ++ P2)) W' := by
  obtain ⟨D, hD⟩ : ∃ D, D = P1 ++ P2 := ⟨_, rfl⟩
  rw [← hD] at hY ⊢
  have hb0 := fun o => box_alloc o hBn
  refine callsIn_of_wp Tryd.func46 rfl trivial ?_ rfl
  simp only [Tryd.ntmps46, List.size_toArray, List.length_cons, List.length_nil, Nat.reduceAdd, Nat.reduceSub, Array.replicate_succ, Array.replicate_zero, List.push_toArray, List.append_toArray, List.nil_append, List.cons_append]
  gi_wp2
  have hG0 : (W.alloc (.cells (u8s (blk D 0)).toArray 48)).heap[W.heap.size]? = some (.cells (u8s (blk D 0)).toArray 48 (0, 0)) := heap_alloc_new _ _
  have hB0 : Below W.heap.size W (W.alloc (.cells (u8s (blk D 0)).toArray 48)) := (Below.refl _ W).alloc (Nat.le_refl _) _
  have hJ0 := hAb.alloc (.cells (u8s (blk D 0)).toArray 48) h0
  change Code.wpIn _ _ _ _ _ _ (W.alloc (.cells (Array.replicate 64 (Value.int .u8 0)) 48))
  rw [zero64 D]
  generalize W.alloc (.cells (u8s (blk D 0)).toArray 48) = w0 at hG0 hB0 hJ0 ⊢
  obtain ⟨G, hGe⟩ : ∃ G, G = W.heap.size := ⟨_, rfl⟩
  rw [← hGe] at hG0 hB0 h1 h2 hAb ⊢
  have hSlt : Sg < G := by
    have := block_lt_of_cell hS0
    rw [hGe]; exact this
  have hInv0 : BInv G Sg dB A1 A2 n1 n2 c1 c2 P1 P2 D J 0 0 w0 := ⟨hJ0, hG0, ⟨(hB0.cell (p := ⟨Sg, 0, none⟩) hSlt).trans hS0, (hB0.cell (p := ⟨Sg, 1, none⟩) hSlt).trans hS1⟩, fun _ => h1.below hB0, h2.below hB0⟩
  have hGne : G ≠ dB := by omega
  have HY := Lib.hid hY
  have HA := Lib.hid hAb
  have Hd1 := Lib.hid hd1
  have Hd2 := Lib.hid hd2
  have hDl : D.length = n1 + n2 := by
    have e1 := h1.1
    have e2 := h2.1
    rw [u8s_length] at e1 e2
    rw [hD, List.length_append, e1, e2]
  have Hp1 : Hid (P1 = (D.drop 0).take n1) := by
    have e1 := h1.1
    rw [u8s_length] at e1
    show _ = _
    rw [hD, List.drop_zero, ← e1, List.take_left]
  have Hp2 : Hid (P2 = (D.drop n1).take n2) := by
    have e1 := h1.1
    have e2 := h2.1
    rw [u8s_length] at e1 e2
    show _ = _
    rw [hD, ← e1, List.drop_left, ← e2, List.take_length]
  have HI0 := Lib.hid hInv0
  have HG := Lib.hid hGne
  clear hGe hGne hY hAb hd1 hd2 hInv0 hJ0 hG0 hB0 h1 h2 hBn hS0 hS1 hb0 h0
  gi_loopw [4, 10] (fun v i wr => ∃ (q k f : Nat), q ≤ 2 ∧ i = .int .i64 q ∧ k = (if q = 0 then 0 else if q = 1 then n1 else n1 + n2) ∧ v = .int .i64 ((k % 64 : Nat) : Int) ∧ k / 64 = f ∧ Hid (BInv G Sg dB A1 A2 n1 n2 c1 c2 P1 P2 D J f k wr)) (fun _ i _ => 2 - (intOf i).toNat)
  case atStart => exact ⟨0, 0, 0, by omega, rfl, rfl, rfl, rfl, HI0.out⟩
  case round =>
    obtain ⟨q, k, f, hq, rfl, hk, rfl, hf, HI⟩ := hrel
    by_cases hq2 : q < 2
    · obtain ⟨A, m, c, P, o, hcell, HR, hmc, HP, hom, hok, hod, HS⟩ : ∃ (A : Option Addr) (m c : Nat) (P : List Int) (o : Nat), wr.cell? ⟨Sg, q, none⟩ = some (.slice A m c) ∧ Hid (∀ f k W', BInv G Sg dB A1 A2 n1 n2 c1 c2 P1 P2 D J f k W' → k < o + m → Rd W' G A m (u8s P)) ∧ m ≤ c ∧ Hid (P = (D.drop o).take m) ∧ o + m ≤ D.length ∧ k = o ∧ o + m = (if q + 1 = 0 then 0 else if q + 1 = 1 then n1 else n1 + n2) ∧ True := by
        rcases (by omega : q = 0 ∨ q = 1) with rfl | rfl
        · exact ⟨A1, n1, c1, P1, 0, HI.out.2.2.1.1, fun f k W' h hk => h.2.2.2.1 (Hd1.out.imp (fun h => by omega) id), hc1, Hp1, by omega, hk, by simp, trivial⟩
        · exact ⟨A2, n2, c2, P2, n1, HI.out.2.2.1.2, fun f k W' h hk => h.2.2.2.2, hc2, Hp2, by omega, hk, by simp, trivial⟩
      clear hk
      obtain ⟨k0, rfl⟩ : ∃ k0, k0 = k := ⟨_, rfl⟩
      subst hok
      have hq1 : (q : Int) < 2 := by omega
      gi_wp2
      gi_loopw [4, 6] (fun v p wr => ∃ (k f r c' : Nat) (A' : Option Addr), v = .int .i64 ((k % 64 : Nat) : Int) ∧ p = .slice A' r c' ∧ r ≤ c' ∧ k + r = k0 + m ∧ k0 ≤ k ∧ (0 < r → ∃ ad, A = some ad ∧ A' = some (ad.add (k - k0))) ∧ k / 64 = f ∧ Hid (BInv G Sg dB A1 A2 n1 n2 c1 c2 P1 P2 D J f k wr)) (fun _ p _ => (lenOf p))
      case atStart => exact ⟨k0, f, m, c, A, rfl, rfl, hmc, rfl, Nat.le_refl _, fun hm => by
        obtain ⟨ad, e, _⟩ := (HR.out f k0 wr HI.out (by omega)).2 hm
        refine ⟨ad, e, ?_⟩
        rw [e, Nat.sub_self]
        unfold Addr.add
        split <;> simp_all, hf, HI⟩
      case round =>
        clear HI hf f
        obtain ⟨k, f, r, c', A', rfl, rfl, hrc, hkr, hkk, had, hf, HI⟩ := hrel
        by_cases hr : 0 < r
        · obtain ⟨ad, hA, hA'⟩ := had hr
          obtain ⟨ad', had'⟩ : ∃ ad', ad' = ad.add (k - k0) := ⟨_, rfl⟩
          rw [← had'] at hA'
          subst hA'
          obtain ⟨nn, hnn⟩ : ∃ nn, k % 64 = nn := ⟨_, rfl⟩
          have hnn64 : nn < 64 := by omega
          obtain ⟨mm, hmm⟩ : ∃ mm, mm = Nat.min r (64 - nn) := ⟨_, rfl⟩
          have hmr : mm ≤ r := by rw [hmm]; exact Nat.min_le_left _ _
          have hm64 : nn + mm ≤ 64 := by have h : Nat.min r (64 - nn) ≤ 64 - nn := Nat.min_le_right r (64 - nn); rw [← hmm] at h; omega
          have hm0 : 0 < mm := by rw [hmm]; exact Nat.lt_min.2 ⟨hr, by omega⟩
          have hmor : mm = r ∨ nn + mm = 64 := by
            rcases Nat.le_total r (64 - nn) with h | h
            · left; rw [hmm]; exact Nat.min_eq_left h
            · right; have := Nat.min_eq_right h; rw [show Nat.min r (64 - nn) = min r (64 - nn) from rfl] at hmm; omega
          have hrd := HR.out f k wr HI.out (by omega)
          have hsrc : Hid (∀ j v, (u8s ((D.drop k).take mm))[j]? = some v → wr.cell? (ad'.add j) = some v) := by
            intro j v hv
            obtain ⟨ad2, e2, _, hc2⟩ := hrd.2 (by omega)
            rw [hA] at e2
            cases e2
            have hj : j < mm := by
              have := (List.getElem?_eq_some_iff.1 hv).1
              rw [u8s_length, List.length_take] at this
              omega
            rw [had', addr_add_add]
            refine hc2 _ v ?_
            rw [HP.out, ← hv]
            unfold u8s
            rw [List.getElem?_map, List.getElem?_map, List.getElem?_take, List.getElem?_take, if_pos (by omega), if_pos hj, List.getElem?_drop, List.getElem?_drop]
            congr 2; omega
          have hcn : Hid ((u8s ((D.drop k).take mm)).length = mm) := by
            show _ = _
            rw [u8s_length, List.length_take, List.length_drop]
            omega
          have HS2 := Lib.hid (HI.out.store HA.out hSlt (by omega : k % 64 + mm ≤ 64) hm0 (by omega : k + mm ≤ D.length))
          rw [hnn] at HS2
          have hrI : (0 : Int) < (r : Int) := by omega
          have hnI : (nn : Int) ≤ 64 := by omega
          have hmI : (mm : Int) ≤ (r : Int) := by omega
          have hcI : (r : Int) ≤ (c' : Int) := by omega
          have Hmm := Lib.hid hmm
          have Hcopy : Hid (mm = Nat.min r (64 - nn)) := hmm
          have Hhad := Lib.hid had'
          have HhA := Lib.hid hA
          have Hnn := Lib.hid hnn
          rw [hnn]
          clear hrd hD had' hmm hnn had hA
          gi_wp2_with (refine wpListIn_copy_at rfl (.tmp 18) (.tmp 19) 25 25 rfl 5 Tryd.underlying25 (by kernel_rfl) G nn (64 - nn) (64 - nn) ad' r c' ?c1 ?c2 (u8s (blk D k)) 48 HI.out.2.1 (u8s ((D.drop k).take mm)) ?c3 hsrc.out ?c4 (u8s_one _) ?_; (case c1 => rfl); (case c2 => rfl); (case c3 => rw [hcn.out]; exact Hmm.out); (case c4 => rw [hcn.out, u8s_length, blk_length]; omega))
          rw [hcn.out]
          generalize World.setRow wr G _ = w3 at HS2 ⊢
          clear HI hsrc hcn
          gi_region
          have HS3 := Lib.hid (HS2.out.drew HA.out)
          generalize w3.drew = w4 at HS3 ⊢
          obtain ⟨A2', hA2'⟩ : ∃ x, x = (if c' = mm then some ad' else some (ad'.add mm)) := ⟨_, rfl⟩
          rw [← hA2']
          have HA2 : Hid (0 < r - mm → ∃ ad, A = some ad ∧ A2' = some (ad.add (k + mm - k0))) := fun h => by
            rw [hA2', if_neg (by omega), Hhad.out, addr_add_add]
            exact ⟨ad, HhA.out, by rw [show k - k0 + mm = k + mm - k0 from by omega]⟩
          clear hA2' HS2
          by_cases h64 : nn + mm < 64
          · have hI64 : ((nn : Int) + (mm : Int)) < 64 := by omega
            gi_wp2
            go_roundw
            case rel => exact ⟨k + mm, f, r - mm, c' - mm, A2', by rw [show (k + mm) % 64 = nn + mm from by have := Hnn.out; omega]; go_num, rfl, by omega, by omega, by omega, HA2.out, by have := Hnn.out; omega, HS3⟩
            case measure =>
              show r - mm < r
              omega
          · have hI64 : ¬ ((nn : Int) + (mm : Int)) < 64 := by omega
            have hf1 : k + mm = 64 * (f + 1) := by have := Hnn.out; omega
            have Hpre : Hid (fulls D f ++ [(blk D (k + mm), 64)] <+: allY D) := by
              show _ <+: _
              rw [hf1, ← fulls_succ]
              exact fulls_pre _ _ (by omega)
            obtain ⟨fn, tmps, assign, body, hy, hR⟩ := HY.out (fulls D f) (blk D (k + mm), 64) w4 HS3.out.1 Hpre.out
            have HR2 := Lib.hid hR
            clear hR
            dsimp only [encB] at hy
            rw [show ((64 : Nat) : Int) = 64 from rfl] at hy
            have HL := Lib.hid (HS3.out.2.1)
            have hsz : (Tryd.prog.info? 48).map (·.size) = some (u8s (blk D (k + mm))).toArray.size := by rw [size64]; simp [u8s_length, blk_length]
            have Hsz := Lib.hid hsz
            have hcl : ∀ j v, (u8s (blk D (k + mm))).toArray[j]? = some v → w4.cell? ((⟨G, 0, none⟩ : Addr).add j) = some v := cell_at w4 G 0 _ _ _ HL.out _ (fun j v h => by rw [Nat.zero_add]; simpa using h)
            have Hcl := Lib.hid hcl
            generalize hbb : (u8s (blk D (k + mm))).toArray = bb at hy Hsz Hcl
            clear hsz hcl hbb
            have hn64 : (nn : Int) + (mm : Int) = 64 := by omega
            generalize (nn : Int) + (mm : Int) = tt at hI64 hn64 ⊢
            subst hn64
            clear hI64
            have HI4 : Hid (∀ W', J (fulls D (f + 1)) W' → KpD dB w4 W' → BInv G Sg dB A1 A2 n1 n2 c1 c2 P1 P2 D J (f + 1) (k + mm) W') := fun W' hj hkp =>
              HS3.out.yield hkp HG.out hdS (by omega) Hd2.out hj
            have Hf1 := Lib.hid hf1
            clear hf1
            have Hff : Hid (fulls D f ++ [(blk D (k + mm), 64)] = fulls D (f + 1)) := by show _ = _; rw [fulls_succ, Hf1.out]
            gi_wp2_with (refine wpListIn_load_at rfl 48 (.tmp 3) rfl ⟨G, 0, none⟩ rfl bb _ Hcl.out Tryd.underlying48 rfl Hsz.out ?_)
            refine HR2.out.mono ?_
            rintro e W3 ⟨rfl, hJ3, hk3⟩
            rw [Hff.out] at hJ3
            have HI5 := Lib.hid (HI4.out W3 hJ3 hk3)
            clear hy hJ3 hk3
            gi_wp2
            go_roundw
            case rel => exact ⟨k + mm, f + 1, r - mm, c' - mm, A2', by rw [show (k + mm) % 64 = 0 from by have := Hf1.out; omega]; rfl, rfl, by omega, by omega, by omega, HA2.out, by have := Hf1.out; omega, HI5⟩
            case measure =>
              show r - mm < r
              omega
        · obtain rfl : r = 0 := by omega
          have hk2 : k = k0 + m := by omega
          gi_wp2
          go_roundw
          case rel => exact ⟨q + 1, k, f, by omega, by go_num, by rw [hk2]; exact hod, rfl, hf, HI⟩
          case measure => simp [intOf]; omega
    · obtain rfl : q = 2 := by omega
      have hkD : k = D.length := by rw [hk, hDl]; rfl
      by_cases h0 : k % 64 = 0
      · have hz : ¬ 0 < ((k % 64 : Nat) : Int) := by omega
        generalize hrr : ((k % 64 : Nat) : Int) = rr at hz
        have Hall : Hid (fulls D f = allY D) := by
          show _ = _
          unfold allY
          rw [if_neg (by omega), List.append_nil, ← hkD, hf]
        clear hrr hD
        gi_wp2
        go_end0
        refine ⟨⟨_, rfl⟩, ?_⟩
        rw [← Hall.out]
        exact HI.out.1
      · have hz : 0 < ((k % 64 : Nat) : Int) := by omega
        have Hall : Hid (fulls D f ++ [(blk D k, k % 64)] = allY D) := by
          show _ = _
          unfold allY
          rw [if_pos (by omega), ← hkD, hf]
        obtain ⟨fn, tmps, assign, body, hy, hR⟩ := HY.out (fulls D f) (blk D k, k % 64) wr HI.out.1 (by rw [Hall.out]; exact List.prefix_rfl)
        have HR2 := Lib.hid hR
        clear hR
        dsimp only [encB] at hy
        have HL := Lib.hid (HI.out.2.1)
        have hsz : (Tryd.prog.info? 48).map (·.size) = some (u8s (blk D k)).toArray.size := by rw [size64]; simp [u8s_length, blk_length]
        have Hsz := Lib.hid hsz
        have hcl : ∀ j v, (u8s (blk D k)).toArray[j]? = some v → wr.cell? ((⟨G, 0, none⟩ : Addr).add j) = some v := cell_at wr G 0 _ _ _ HL.out _ (fun j v h => by rw [Nat.zero_add]; simpa using h)
        have Hcl := Lib.hid hcl
        generalize hrr : ((k % 64 : Nat) : Int) = rr at hz hy ⊢
        generalize hbb : (u8s (blk D k)).toArray = bb at hy Hsz Hcl
        clear hsz hcl hrr hD hkD hk hf h0 hbb
        gi_wp2_with (refine wpListIn_load_at rfl 48 (.tmp 3) rfl ⟨G, 0, none⟩ rfl bb _ Hcl.out Tryd.underlying48 rfl Hsz.out ?_)
        refine HR2.out.mono ?_
        rintro e W3 ⟨rfl, hJ3, hk3⟩
        rw [Hall.out] at hJ3
        have HJ3 := Lib.hid hJ3
        clear hy hJ3 hk3
        gi_wp2
        go_end0
        exact ⟨⟨_, rfl⟩, HJ3.out⟩
end Go.Proofs.YtlgdbhebcglkoaaDoor
