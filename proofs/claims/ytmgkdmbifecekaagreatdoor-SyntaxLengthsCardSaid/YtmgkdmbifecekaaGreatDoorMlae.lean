/-
  Package class: borders, sorted. Package class: the set for which borders count. Package class: what borders count does not depend on their order.
-/
import Derived.Test.YtmgkdmbifecekaaGreatDoorMlad
import Derived.Deep.CutBlock
import Derived.Deep.DeepCutAuto
set_option linter.all false
set_option linter.unusedSimpArgs false
set_option linter.unusedVariables false
set_option linter.unusedSectionVars false
namespace Go.Proofs.YtmgkdmbifecekaaGreatDoor
open Go.RowKit Go.Shelf Go.Lib Go.Sort
/-- A border's cells. -/
def encB (x : Rng) : List Value := [.int .i64 x.1, .int .i64 x.2]
def cmpB (x y : Rng) : Int := Lib.compareInt x.1 y.1
theorem ltB (x y : Rng) : ltOf cmpB x y = decide (x.1 < y.1) := by
  unfold ltOf cmpB Lib.compareInt
  by_cases h1 : x.1 < y.1
  · simp [h1]
  · by_cases h2 : y.1 < x.1 <;> simp [h1, h2]
theorem swoB : SWO (ltOf cmpB) where
  irrefl x := by rw [ltB]; simp
  trans x y z h1 h2 := by rw [ltB] at *; simp at *; omega
  ntrans x y z h1 h2 := by rw [ltB] at *; simp at *; omega
theorem flatB (d : Array Rng) : (flatK encB 2 d).toList = rngs d.toList := by
  apply List.ext_getElem?
  intro t
  by_cases ht : t < d.size * 2
  · have h1 : (flatK encB 2 d).toList[t]? = some ((encB d[t / 2]!)[t % 2]!) := by
      have h := get_flatK encB 2 d t ht
      rw [getElem!_pos _ t (by rw [size_flatK]; exact ht)] at h
      rw [Array.getElem?_toList, Array.getElem?_eq_getElem (by rw [size_flatK]; exact ht), h]
    have h2 : d.toList[t / 2]? = some d[t / 2]! := by
      rw [Array.getElem?_toList, Array.getElem?_eq_getElem (by omega), getElem!_pos d (t / 2) (by omega)]
    obtain ⟨g0, g1⟩ := rngs_get d.toList (t / 2) _ h2
    rw [h1]
    rcases (by omega : t % 2 = 0 ∨ t % 2 = 1) with h | h
    · rw [show t / 2 * 2 = t from by omega] at g0
      rw [g0, h]
      rfl
    · rw [show t / 2 * 2 + 1 = t from by omega] at g1
      rw [g1, h]
      rfl
  · rw [List.getElem?_eq_none (by rw [Array.length_toList, size_flatK]; omega), List.getElem?_eq_none (by rw [rngs_length, Array.length_toList]; omega)]
theorem heap_sortB {w : World} {g n : Nat} {os : Array Obj} {cur : Array Value} {e : TypeId} {fr : Nat × Nat} (d : Array Rng) (hb : w.heap[g]? = some (.cells cur e fr)) :
    (sortWorldK encB 2 w g 0 n d os).heap[g]? = some (.cells (putCells id 0 (flatK encB 2 d) cur) e fr) := by
  have hg : g < w.heap.size := (Array.getElem?_eq_some_iff.1 hb).1
  unfold sortWorldK putRowK
  rw [heap_grow_old _ _ (by simpa using hg)]
  simp [putRow, mapBlock, Sort.ahead, Array.getElem?_modify, hb, onCells]
theorem grownBy_sortB {w : World} {g n : Nat} {os : Array Obj} (d : Array Rng) : w.grownBy (sortWorldK encB 2 w g 0 n d os) (some g) := by
  unfold sortWorldK putRowK
  refine ⟨rfl, rfl, rfl, by simp, fun k hk hne => ?_⟩
  rw [heap_grow_old _ _ (by simpa using hk)]
  have : g ≠ k := fun e => hne (by rw [e])
  simp [putRow, mapBlock, Sort.ahead, Array.getElem?_modify, this]
theorem take_putB (cur : Array Value) (F : Array Value) (h : F.size ≤ cur.size) : (putCells id 0 F cur).toList.take F.size = F.toList := by
  apply List.ext_getElem?
  intro j
  by_cases hj : j < F.size
  · rw [List.getElem?_take_of_lt hj, Array.getElem?_toList]
    simp [putCells, hj, show j < cur.size by omega]
  · rw [List.getElem?_take_eq_none (by omega), List.getElem?_eq_none (by simp; omega)]
set_option maxHeartbeats 1000000 in
theorem closureB (x y : Rng) (W : World) : Calls Tryz.prog 161 #[.agg #[.int .i64 x.1, .int .i64 x.2], .agg #[.int .i64 y.1, .int .i64 y.2]] W fun e w' => e = .returned (.int .i64 (cmpB x y)) ∧ ∃ q os', w' = grow (W.drewN q) os' := by
  have hcon := fun W' => sh_cmp_Compare_int x.1 y.1 W'
  unfold cmpB
  generalize Lib.compareInt x.1 y.1 = r at hcon ⊢
  go_enter Tryz.func161, Tryz.ntmps161
  go_wp2_with (go_at_call 162; refine (hcon _).mono ?_; rintro e w' ⟨rfl, rfl⟩)
  go_ret
  exact ⟨rfl, 0, _, by rw [alloc_eq_grow, alloc_eq_grow, grow_grow]; rfl⟩
theorem cmpLaysB (blk off size : Nat) (w : World) : CmpLays Tryz.prog 161 #[] encB 2 cmpB blk off size w :=
  fun _ _ _ _ x y => closureB x y _
/-- The first numbers do not fall. -/
def SrtB (L : List Rng) : Prop := ∀ (i j : Nat) (x y : Rng), i < j → L[i]? = some x → L[j]? = some y → x.1 ≤ y.1
set_option maxRecDepth 10000 in
theorem sortB_any (base : Nat) (v : Value) (hv : IsSl v) (L : List Rng) (hL : L.length < 4611686018427387904) (w : World) (h : w.ownsRow base 222 2 v L.length (rngs L)) :
    Calls Tryz.prog 160 #[v, .func (.func 161) #[] #[]] w fun e w' => e = .returned (.tuple #[]) ∧ ∃ L', L'.Perm L ∧ SrtB L' ∧ w'.ownsRow base 222 2 v L.length (rngs L') ∧ w.grownBy w' v.ownBlock := by
  obtain ⟨a, n0, c0, rfl⟩ := hv
  rcases h.2 with ⟨e, _⟩ | ⟨g, cap, cur, e, hb, hg, hc, hm, hs, ht⟩
  · cases e
  · cases e
    have hg2 := heap_lt hg
    have hH : HoldsK encB 2 w g 0 L.toArray := by
      intro j hj
      rw [size_flatK, List.size_toArray] at hj
      have h1 : (rngs L)[j]? = some (flatK encB 2 L.toArray)[j]! := by
        have := flatB L.toArray
        rw [List.toList_toArray] at this
        rw [← this, Array.getElem?_toList, getElem!_pos _ j (by rw [size_flatK, List.size_toArray]; exact hj), Array.getElem?_eq_getElem (by rw [size_flatK, List.size_toArray]; exact hj)]
      have h2 := h.cellAt j hj
      rw [Nat.zero_add]
      exact ⟨h2.trans h1, h.frozenAt j⟩
    have eg : ∀ args w, (callFunc 161 args).run Tryz.prog w = .ok (.enter 161 args) w := enters_of Tryz.func161 (by kernel_rfl) rfl
    have hcon := AnyQ.slices_SortFunc laySortB 2 Tryz.isAgg222 Tryz.sizeOf222 encB (fun _ => rfl) (fun x v hv => by simp [encB] at hv; rcases hv with rfl | rfl <;> rfl) cmpB swoB 161 #[] g 0 c0 L.toArray w eg (cmpLaysB g 0 L.toArray.size w) hH hg2 (by rw [List.size_toArray]; exact hL)
    rw [List.size_toArray] at hcon
    refine hcon.mono ?_
    rintro e w' ⟨rfl, d', k, os, ⟨hp1', _, hp3⟩, hsd, rfl⟩
    have hp1 : d'.size = L.length := hp1'
    clear hp1'
    have hfs : (flatK encB 2 d').size = L.length * 2 := by rw [size_flatK, hp1]
    refine ⟨rfl, d'.toList, ?_, ?_, ⟨by rw [rngs_length]; show d'.size * 2 = _; rw [hp1], .inr ⟨g, c0, _, rfl, hb, heap_sortB d' hg, hc, hm, by simpa [putCells] using hs, ?_⟩⟩, grownBy_sortB d'⟩
    · have e1 : d'.extract 0 L.length = d' := by rw [← hp1]; simp
      have e2 : L.toArray.extract 0 L.length = L.toArray := by simp
      rw [e1, e2] at hp3
      exact hp3
    · intro i j x y hij hi hj
      have hj2 : j < L.length := by have := (List.getElem?_eq_some_iff.1 hj).1; have h3 : j < d'.size := this; omega
      have := hsd i j (Nat.zero_le _) hij hj2
      rw [ltB] at this
      rw [Array.getElem?_toList, Array.getElem?_eq_getElem (by omega)] at hi hj
      cases hi; cases hj
      rw [getElem!_pos d' j (by omega), getElem!_pos d' i (by omega)] at this
      simp at this
      omega
    · rw [← hfs, take_putB _ _ (by rw [hfs, hs]; exact Nat.mul_le_mul_right 2 hc), flatB]
end Go.Proofs.YtmgkdmbifecekaaGreatDoor
namespace Go.Proofs.YtmgkdmbifecekaaGreatDoor
open Go.RowKit Go.Shelf
theorem sizeBd : (Tryz.prog.info? 222).map (·.size) = some 2 := by kernel_rfl
theorem infoR : (Tryz.prog.info? 73).map (fun i => (i.zero, i.size, i.bytes)) = some (some (.agg #[.int .i64 0, .int .i64 0]), 2, 16) := by kernel_rfl
theorem own_monoG {w : World} {base b2 n size : Nat} {e : TypeId} {v : Value} {xs : List Value} (h : w.ownsRow base e size v n xs) (hb : b2 ≤ base) : w.ownsRow b2 e size v n xs := by
  refine ⟨h.1, ?_⟩
  rcases h.2 with h1 | ⟨g, cap, cur, h1, h2, h3⟩
  · exact .inl h1
  · exact .inr ⟨g, cap, cur, h1, Nat.le_trans hb h2, h3⟩
/-- Whether another border comes at the same number. -/
def moreB (x : Rng) : List Rng → Bool
  | [] => false
  | y :: _ => decide (y.1 = x.1)
/-- What borders in their order count. -/
def cntF (least : Int) : List Rng → Int → Int → Bool → List Rng
  | [], _, _, _ => []
  | x :: r, c, lo, ins =>
    if moreB x r = true ∨ ins = decide (least ≤ c + x.2) then cntF least r (c + x.2) lo ins
    else if ins = true then (lo, x.1 - 1) :: cntF least r (c + x.2) x.1 false else cntF least r (c + x.2) x.1 true
set_option maxRecDepth 100000 in
set_option maxHeartbeats 8000000 in
theorem counted_any (least : Int) (base : Nat) (v : Value) (hv : IsSl v) (L : List Rng) (hL : L.length ≤ 10000000) (hb : ∀ x ∈ L, 0 ≤ x.1 ∧ x.1 ≤ 1114112 ∧ -1 ≤ x.2 ∧ x.2 ≤ 1) (w : World) (hbw : base ≤ w.heap.size) (h : w.ownsRow base 222 2 v L.length (rngs L)) :
    Calls Tryz.prog 149 #[.int .i64 least, v] w fun e w' => ∃ L' v', L'.Perm L ∧ SrtB L' ∧ e = .returned v' ∧ w'.ownsRow w.heap.size 73 2 v' (cntF least L' 0 0 false).length (rngs (cntF least L' 0 0 false)) ∧ Below base w w' := by
  have CS := Lib.hid (sortB_any base v hv L (by omega) w h)
  obtain ⟨n, hn⟩ : ∃ n, n = L.length := ⟨_, rfl⟩
  obtain ⟨a, n0, c0, rfl⟩ := hv
  obtain ⟨g, rfl, rfl⟩ : ∃ g, a = ⟨g, 0, none⟩ ∧ n0 = L.length := by
    rcases h.2 with ⟨e, _⟩ | ⟨g, cap, cur, e, _⟩
    · cases e
    · cases e; exact ⟨g, rfl, rfl⟩
  rw [← hn] at CS
  have Hn := Lib.hid hn
  have Hb := Lib.hid hb
  clear hb h
  rw [← hn]
  rw [← hn] at hL
  clear hn
  go_enter Tryz.func149, Tryz.ntmps149
  go_wp2_with fail
  refine CS.out.mono ?_
  rintro e w1 ⟨rfl, L', hp, hs, hown, hgr⟩
  have Hlen : Hid (L'.length = n) := by show _ = _; rw [hp.length_eq, ← Hn.out]
  have Hb2 : Hid (∀ x ∈ L', 0 ≤ x.1 ∧ x.1 ≤ 1114112 ∧ -1 ≤ x.2 ∧ x.2 ≤ 1) := fun x hx => Hb.out x (hp.mem_iff.1 hx)
  have Hp := Lib.hid hp
  have Hs := Lib.hid hs
  have Hown := Lib.hid hown
  have Hgr := Lib.hid hgr
  clear CS Hb hp hs hown hgr
  obtain ⟨i0, hi0, hz0, hz1, hz2⟩ := info_parts infoR
  go_wp2_with fail
  have Hg : Hid (g < w1.heap.size) := by have := Hown.out.lt g rfl; exact this.2
  have Hc : Hid (∀ W, Kept w1 W → ∀ j u, (rngs L')[j]? = some u → W.cell? ⟨g, j, none⟩ = some u) := fun W hW j u hu => by
    refine (Below.cell hW (p := ⟨g, j, none⟩) Hg.out).trans ?_
    rw [Hown.out.cellAt j (by have := (List.getElem?_eq_some_iff.1 hu).1; rw [rngs_length, Hlen.out] at this; exact this)]
    exact hu
  go_loopw [5, 6, 7, 8, 16] (fun v5 v6 v7 v8 v16 wr => ∃ (k : Nat) (cnt lo : Int) (ins : Bool) (R : List Rng), k ≤ n ∧ v16 = .int .i64 k ∧ v6 = .int .i64 cnt ∧ v7 = .int .i64 lo ∧ v8 = .bool ins ∧ -(k : Int) ≤ cnt ∧ cnt ≤ k ∧ 0 ≤ lo ∧ lo ≤ 1114112 ∧ R.length ≤ k ∧ Hid (cntF least L' 0 0 false = R ++ cntF least (L'.drop k) cnt lo ins) ∧ Hid (wr.ownsRow w1.heap.size 73 2 v5 R.length (rngs R)) ∧ Hid (Kept w1 wr)) (fun _ _ _ _ v16 _ => n - (intOf v16).toNat)
  case atStart => exact ⟨0, 0, 0, false, [], by omega, rfl, rfl, rfl, rfl, by omega, by omega, by omega, by omega, by simp, rfl, ⟨rfl, .inl ⟨rfl, rfl⟩⟩, Below.refl _ _⟩
  case round =>
    obtain ⟨k, cnt, lo, ins, R, hk, rfl, rfl, rfl, rfl, hc1, hc2, hl1, hl2, hR, hf, hownR, hkr⟩ := hrel
    obtain ⟨wq, rfl⟩ : ∃ x, x = wr := ⟨_, rfl⟩
    by_cases hkn : k < n
    · obtain ⟨x, hx⟩ : ∃ x, L'[k]? = some x := ⟨_, List.getElem?_eq_getElem (by rw [Hlen.out]; exact hkn)⟩
      obtain ⟨g0, g1⟩ := rngs_get L' k x hx
      have e0 := Hc.out wq hkr.out _ _ g0
      have e1 := Hc.out wq hkr.out _ _ g1
      have Hcl : Hid (∀ j u, (#[.int .i64 x.1, .int .i64 x.2] : Array Value)[j]? = some u → wq.cell? ((⟨g, k * 2, none⟩ : Addr).add j) = some u) := by
        intro j u hu
        have ha : (⟨g, k * 2, none⟩ : Addr).add j = ⟨g, k * 2 + j, none⟩ := by
          have h2 : (⟨g, 0, none⟩ : Addr).add (k * 2) = ⟨g, k * 2, none⟩ := by rw [add0]
          rw [← h2, addr_add2, add0]
        rw [ha]
        rcases j with _ | _ | j
        · cases hu; exact e0
        · cases hu; exact e1
        · simp at hu
      have hxb := Hb2.out x (List.mem_of_getElem? hx)
      have hki : (k : Int) < (n : Int) := by omega
      have hdr : L'.drop k = x :: L'.drop (k + 1) := by
        have h1 : k < L'.length := by rw [Hlen.out]; exact hkn
        rw [List.drop_eq_getElem_cons h1]
        rw [List.getElem?_eq_getElem h1] at hx
        rw [Option.some.inj hx]
      obtain ⟨mo, hmo⟩ : ∃ mo, mo = moreB x (L'.drop (k + 1)) := ⟨_, rfl⟩
      have Hnx : Hid (cntF least (L'.drop k) cnt lo ins = if mo = true ∨ ins = decide (least ≤ cnt + x.2) then cntF least (L'.drop (k + 1)) (cnt + x.2) lo ins else if ins = true then (lo, x.1 - 1) :: cntF least (L'.drop (k + 1)) (cnt + x.2) x.1 false else cntF least (L'.drop (k + 1)) (cnt + x.2) x.1 true) := by
        show _ = _
        rw [hdr, hmo]
        rfl
      have Hmo1 : Hid (k + 1 < n → ∃ y : Rng, mo = (y.1 == x.1) ∧ wq.cell? ⟨g, (k + 1) * 2, none⟩ = some (.int .i64 y.1)) := fun hk1 => by
        have h1 : k + 1 < L'.length := by rw [Hlen.out]; exact hk1
        refine ⟨L'[k + 1], ?_, Hc.out wq hkr.out _ _ (rngs_get L' (k + 1) _ (List.getElem?_eq_getElem h1)).1⟩
        rw [hmo, List.drop_eq_getElem_cons h1]
        show decide _ = _
        rw [Bool.eq_iff_iff]
        simp
      have Hmo2 : Hid (¬ k + 1 < n → mo = false) := fun hk1 => by
        rw [hmo, List.drop_of_length_le (by rw [Hlen.out]; omega)]
        rfl
      clear g0 g1 e0 e1 hx hdr hmo
      go_upto_region 8 with (refine wpList_load_at rfl 222 (.tmp 19) rfl (⟨g, k * 2, none⟩) rfl #[.int .i64 x.1, .int .i64 x.2] _ Hcl.out Tryz.underlying222 rfl sizeBd ?_)
      obtain ⟨wb, hwb⟩ : ∃ x', x' = wq.alloc (.cells #[.int .i64 x.1, .int .i64 x.2] 222) := ⟨_, rfl⟩
      have hbx : wb.heap[wq.heap.size]? = some (.cells #[.int .i64 x.1, .int .i64 x.2] 222 (0, 0)) := by rw [hwb]; exact heap_alloc_new _ _
      have hkb : Kept wq wb := by rw [hwb]; exact below_alloc0 (Below.refl _ _) _
      have hkw := Lib.hid (below_kept hkr.out hkb)
      have hownB : Hid (wb.ownsRow w1.heap.size 73 2 u5 R.length (rngs R)) := by show World.ownsRow _ _ _ _ _ _ _; rw [hwb]; exact hownR.out.alloc _
      have Hmo3 : Hid (k + 1 < n → ∃ y : Rng, mo = (y.1 == x.1) ∧ wb.cell? ⟨g, (k + 1) * 2, none⟩ = some (.int .i64 y.1)) := fun hk1 => by
        obtain ⟨y, h1, h2⟩ := Hmo1.out hk1
        exact ⟨y, h1, (hkb.cell (p := ⟨g, (k + 1) * 2, none⟩) (Nat.lt_of_lt_of_le Hg.out hkr.out.size)).trans h2⟩
      obtain ⟨b0, hb0⟩ : ∃ b, b = wq.heap.size := ⟨_, rfl⟩
      rw [← hwb, ← hb0]
      rw [← hb0] at hbx
      have hb0w : w1.heap.size ≤ b0 := by rw [hb0]; exact hkr.out.size
      clear hwb hb0 Hcl hkb Hmo1
      go_cut [11] (fun v11 W => v11 = .bool mo ∧ Hid (Kept wb W) ∧ W.heap[b0]? = some (.cells #[.int .i64 x.1, .int .i64 x.2] 222 (0, 0)) ∧ Hid (W.ownsRow w1.heap.size 73 2 u5 R.length (rngs R)))
      case first =>
        have hd0 : wb.drew.cell? ⟨b0, 0, none⟩ = some (.int .i64 x.1) := by rw [cell_of_row _ _ _ _ _ _ (heap_drew0 hbx)]; rfl
        have HK2 : Hid (Kept wb wb.drew) := below_drew0 (Below.refl _ _)
        have hbx2 := Lib.hid (heap_drew0 hbx)
        by_cases hk1 : k + 1 < n
        · obtain ⟨y, rfl, e3⟩ := Hmo3.out hk1
          have hk1i : (k : Int) + 1 < (n : Int) := by omega
          have hd1 : wb.drew.cell? ⟨g, (k + 1) * 2, none⟩ = some (.int .i64 y.1) := e3
          clear hbx e3
          go_region
          all_goals (go_wp2_with fail; go_meet; exact ⟨rfl, HK2, hbx2.out, hownB⟩)
        · obtain rfl := Hmo2.out hk1
          have hk1i : ¬ (k : Int) + 1 < (n : Int) := by omega
          clear hbx
          go_region
          all_goals (go_wp2_with fail; go_meet; exact ⟨rfl, HK2, hbx2.out, hownB⟩)
      case rest =>
        obtain ⟨rfl, hkc, hbx2, hownC⟩ := hcut
        have hkc2 := Lib.hid (below_kept hkw.out hkc.out)
        have f0 : wc.cell? ⟨b0, 0, none⟩ = some (.int .i64 x.1) := by rw [cell_of_row _ _ _ _ _ _ hbx2]; rfl
        have Hbx := Lib.hid hbx2
        clear hbx hbx2 hkw hownB hkc Hmo2 Hmo3
        obtain ⟨wd, rfl⟩ : ∃ x, x = wc := ⟨_, rfl⟩
        cases mo with
        | true =>
          have Hnx2 : Hid (cntF least L' 0 0 false = R ++ cntF least (L'.drop (k + 1)) (cnt + x.2) lo ins) := by show _ = _; rw [hf.out, Hnx.out, if_pos (Or.inl rfl)]
          go_wp2_with fail
          go_roundw
          case rel => exact ⟨k + 1, cnt + x.2, lo, ins, R, by omega, by go_num, rfl, rfl, rfl, by omega, by omega, by omega, by omega, by omega, Hnx2, hownC, hkc2⟩
          case measure => simp [intOf]; omega
        | false =>
          by_cases hle : least ≤ cnt + x.2
          · cases ins with
            | true =>
              have Hnx2 : Hid (cntF least L' 0 0 false = R ++ cntF least (L'.drop (k + 1)) (cnt + x.2) lo true) := by show _ = _; rw [hf.out, Hnx.out, if_pos (Or.inr (decide_eq_true hle).symm)]
              go_wp2_with fail
              go_roundw
              case rel => exact ⟨k + 1, cnt + x.2, lo, true, R, by omega, by go_num, rfl, rfl, rfl, by omega, by omega, by omega, by omega, by omega, Hnx2, hownC, hkc2⟩
              case measure => simp [intOf]; omega
            | false =>
              have Hnx2 : Hid (cntF least L' 0 0 false = R ++ cntF least (L'.drop (k + 1)) (cnt + x.2) x.1 true) := by show _ = _; rw [hf.out, Hnx.out, if_neg (by simp [hle]), if_neg (by simp)]
              go_wp2_with fail
              go_roundw
              case rel => exact ⟨k + 1, cnt + x.2, x.1, true, R, by omega, by go_num, rfl, rfl, rfl, by omega, by omega, by omega, by omega, by omega, Hnx2, hownC, hkc2⟩
              case measure => simp [intOf]; omega
          · cases ins with
            | false =>
              have Hnx2 : Hid (cntF least L' 0 0 false = R ++ cntF least (L'.drop (k + 1)) (cnt + x.2) lo false) := by show _ = _; rw [hf.out, Hnx.out, if_pos (Or.inr (decide_eq_false hle).symm)]
              go_wp2_with fail
              go_roundw
              case rel => exact ⟨k + 1, cnt + x.2, lo, false, R, by omega, by go_num, rfl, rfl, rfl, by omega, by omega, by omega, by omega, by omega, Hnx2, hownC, hkc2⟩
              case measure => simp [intOf]; omega
            | true =>
              have Hnx2 : Hid (cntF least L' 0 0 false = (R ++ [(lo, x.1 - 1)]) ++ cntF least (L'.drop (k + 1)) (cnt + x.2) x.1 false) := by show _ = _; rw [hf.out, Hnx.out, if_neg (by simp [hle]), if_pos rfl, List.append_assoc]; rfl
              have hszd := hkc2.out.size
              have Hwd : Hid (Kept w1 (wd.alloc (.cells #[.int .i64 lo, .int .i64 (x.1 - 1)] 73))) := hkc2.out.alloc hszd _
              go_wp2_with (at_builtin; refine wpList_append_own_at _ rfl _ _ 22 rfl w1.heap.size 73 i0 (.agg #[.int .i64 0, .int .i64 0]) 2 16 Tryz.underlying22 hi0 hz0 hz1 hz2 rfl (by decide) _ _ _ rfl (hownC.out.alloc _) ⟨wd.heap.size, 0, none⟩ 1 1 [.int .i64 lo, .int .i64 (x.1 - 1)] rfl rfl (cells_new _ _ _) (by intro u hu; simp at hu; rcases hu with rfl | rfl <;> rfl) (by unfold maxLen; omega) (by omega) (by simp; omega) ?_; intro v' w2 hown' hgrow _ _; have Hown' := Lib.hid hown'; have Hkw : Hid (Kept w1 w2) := Below.grown Hwd.out hgrow (by simp; omega) (fun j e => (hownC.out.lt j e).1); have f1 : w2.cell? ⟨b0, 0, none⟩ = some (.int .i64 x.1) := (World.cell?_of_block (a := ⟨b0, 0, none⟩) ((hgrow.block b0 (by have := heap_lt Hbx.out; simp; omega) (own_neG hownC.out Hbx.out (by decide))).trans ((World.grownBy_alloc wd _ none).block b0 (heap_lt Hbx.out) (fun e => by cases e)))).trans f0; clear hown' hgrow)
              go_roundw
              case rel => exact ⟨k + 1, cnt + x.2, x.1, false, R ++ [(lo, x.1 - 1)], by omega, by go_num, rfl, rfl, rfl, by omega, by omega, by omega, by omega, by rw [List.length_append, List.length_singleton]; omega, Hnx2, (by show World.ownsRow _ _ _ _ _ _ _; rw [rngs_app, List.length_append, List.length_singleton]; exact Hown'.out), Hkw⟩
              case measure => simp [intOf]; omega
    · have hki : ¬ (k : Int) < (n : Int) := by omega
      have hkn2 : L'.drop k = [] := List.drop_of_length_le (by rw [Hlen.out]; omega)
      have hf2 : Hid (cntF least L' 0 0 false = R) := by show _ = _; rw [hf.out, hkn2]; simp [cntF]
      clear hf hkn2
      go_wp2_with fail
      go_ret
      refine ⟨L', Hp.out, Hs.out, u5, rfl, ?_, ?_⟩
      · rw [hf2.out]
        exact own_monoG hownR.out Hgr.out.size
      · exact ((Below.refl _ _).grown Hgr.out hbw (fun k e => by cases e; exact (Hown.out.lt g rfl).1)).trans (hkr.out.mono (Nat.le_trans hbw Hgr.out.size))
end Go.Proofs.YtmgkdmbifecekaaGreatDoor
namespace Go.Proofs.YtmgkdmbifecekaaGreatDoor
open Go.RowKit Go.Shelf
def putN (x : Rng) : List Rng → List Rng
  | [] => [x]
  | (a, s) :: t => if x.1 < a then x :: (a, s) :: t else if x.1 = a then (a, x.2 + s) :: t else (a, s) :: putN x t
theorem putN_comm (x y : Rng) : ∀ n, putN x (putN y n) = putN y (putN x n)
  | [] => by
    obtain ⟨x1, x2⟩ := x
    obtain ⟨y1, y2⟩ := y
    rcases Int.lt_trichotomy x1 y1 with h | rfl | h
    · simp [putN, h, show ¬ y1 < x1 by omega, show ¬ y1 = x1 by omega]
    · simp [putN, Int.add_comm]
    · simp [putN, h, show ¬ x1 < y1 by omega, show ¬ x1 = y1 by omega]
  | (a, s) :: t => by
    obtain ⟨x1, x2⟩ := x
    obtain ⟨y1, y2⟩ := y
    have ih := putN_comm (x1, x2) (y1, y2) t
    rcases Int.lt_trichotomy x1 a with hx | hx | hx <;> rcases Int.lt_trichotomy y1 a with hy | hy | hy <;> rcases Int.lt_trichotomy x1 y1 with h | h | h
    all_goals first
      | (exfalso; omega)
      | (subst_vars; simp [putN, *, Int.add_comm, Int.add_left_comm, Int.not_lt.2 (Int.le_of_lt ‹_›), Int.ne_of_gt ‹_›]; done)
      | (simp [putN, ih, show ¬ x1 < a by omega, show ¬ x1 = a by omega, show ¬ y1 < a by omega, show ¬ y1 = a by omega]; done)
      | (simp [putN, hx, hy, h, show ¬ y1 < x1 by omega, show ¬ y1 = x1 by omega]; done)
      | (simp [putN, hx, hy, h, show ¬ x1 < y1 by omega, show ¬ x1 = y1 by omega]; done)
      | (simp [putN, hx, show ¬ y1 < a by omega, show ¬ y1 = a by omega, show ¬ y1 < x1 by omega, show ¬ y1 = x1 by omega]; done)
      | (simp [putN, hy, show ¬ x1 < a by omega, show ¬ x1 = a by omega, show ¬ x1 < y1 by omega, show ¬ x1 = y1 by omega]; done)
      | (subst hx; subst hy; simp [putN, Int.add_left_comm]; done)
      | (subst h; simp [putN, hx, Int.add_comm]; done)
      | (subst hx; simp [putN, hy, show ¬ x1 < y1 by omega, show ¬ x1 = y1 by omega]; done)
      | (subst hx; simp [putN, hy, show ¬ y1 < x1 by omega, show ¬ y1 = x1 by omega]; done)
      | (subst hy; simp [putN, hx, show ¬ y1 < x1 by omega, show ¬ y1 = x1 by omega]; done)
      | (subst hy; simp [putN, hx, show ¬ x1 < y1 by omega, show ¬ x1 = y1 by omega]; done)
def normB (L : List Rng) : List Rng := L.foldr putN []
theorem normB_perm {L M : List Rng} (h : L.Perm M) : normB L = normB M := by
  induction h with
  | nil => rfl
  | cons x _ ih => show putN x _ = putN x _; rw [show List.foldr putN [] _ = List.foldr putN [] _ from ih]
  | swap x y l => exact putN_comm y x _
  | trans _ _ h1 h2 => exact h1.trans h2
/-- What numbers of their own count. -/
def cntG (least : Int) : List Rng → Int → Int → Bool → List Rng
  | [], _, _, _ => []
  | x :: r, c, lo, ins =>
    if ins = decide (least ≤ c + x.2) then cntG least r (c + x.2) lo ins
    else if ins = true then (lo, x.1 - 1) :: cntG least r (c + x.2) x.1 false else cntG least r (c + x.2) x.1 true
theorem srtB_tail {x : Rng} {r : List Rng} (h : SrtB (x :: r)) : SrtB r := fun i j a b hij ha hb => h (i + 1) (j + 1) a b (by omega) ha hb
theorem srtB_head {x : Rng} {r : List Rng} (h : SrtB (x :: r)) : ∀ y ∈ r, x.1 ≤ y.1 := fun y hy => by
  obtain ⟨j, hj, e⟩ := List.mem_iff_getElem.1 hy
  exact h 0 (j + 1) x y (by omega) rfl (by rw [List.getElem?_cons_succ, List.getElem?_eq_getElem hj, e])
theorem normB_head : ∀ (x : Rng) (r : List Rng), SrtB (x :: r) → ∃ s t, normB (x :: r) = (x.1, s) :: t
  | x, [], _ => ⟨x.2, [], rfl⟩
  | x, y :: r, h => by
    obtain ⟨s, t, e⟩ := normB_head y r (srtB_tail h)
    have hxy := srtB_head h y (by simp)
    show ∃ s t, putN x (normB (y :: r)) = _
    rw [e]
    by_cases h1 : x.1 < y.1
    · exact ⟨x.2, (y.1, s) :: t, by simp [putN, h1]⟩
    · have h2 : x.1 = y.1 := by omega
      exact ⟨x.2 + s, t, by simp [putN, h2]⟩
theorem cntF_norm (least : Int) : ∀ (L : List Rng), SrtB L → ∀ c lo ins, cntF least L c lo ins = cntG least (normB L) c lo ins
  | [], _, _, _, _ => rfl
  | [x], _, c, lo, ins => by simp [cntF, cntG, normB, putN, moreB]
  | x :: y :: r, h, c, lo, ins => by
    have ih := cntF_norm least (y :: r) (srtB_tail h)
    obtain ⟨s, t, e⟩ := normB_head y r (srtB_tail h)
    have hxy := srtB_head h y (by simp)
    have hn : normB (x :: y :: r) = putN x (normB (y :: r)) := rfl
    rw [hn]
    by_cases h1 : x.1 < y.1
    · have hm : moreB x (y :: r) = false := by simp [moreB]; omega
      have hp : putN x (normB (y :: r)) = x :: normB (y :: r) := by rw [e]; simp [putN, h1]
      rw [hp]
      unfold cntF cntG
      rw [hm, ih, ih, ih]
      simp
    · have h2 : y.1 = x.1 := by omega
      have hm : moreB x (y :: r) = true := by simp [moreB, h2]
      have hp : putN x (normB (y :: r)) = (y.1, x.2 + s) :: t := by rw [e]; simp [putN, h2]
      rw [hp, show cntF least (x :: y :: r) c lo ins = cntF least (y :: r) (c + x.2) lo ins from by rw [cntF]; simp [hm], ih, e]
      unfold cntG
      simp only [Int.add_assoc]
/-- What borders count, in whatever order they come. -/
def setB (least : Int) (B : List Rng) : List Rng := cntG least (normB B) 0 0 false
theorem setB_of {least : Int} {L B : List Rng} (hp : L.Perm B) (hs : SrtB L) : cntF least L 0 0 false = setB least B := by
  rw [cntF_norm least L hs, normB_perm hp]
  rfl
end Go.Proofs.YtmgkdmbifecekaaGreatDoor
