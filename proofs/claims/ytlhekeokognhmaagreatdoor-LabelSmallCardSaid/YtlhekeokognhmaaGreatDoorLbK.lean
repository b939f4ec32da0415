/-
  filter: Keep, Drop, Without.
-/
import Derived.Test.YtlhekeokognhmaaGreatDoorMgak
namespace Go.Proofs.YtlhekeokognhmaaGreatDoor
open Go.RowKit Go.Shelf Go.Maps Go.Sort
/-- What filter answers. -/
def FltV (B : Nat) (L : List Lab) (p : ByteArray → Bool) (v : Value) (x : Int) (w' : World) : Prop :=
  if rgtB L = true then x = 0 ∧ w'.ownsRow B 33 2 v (L.filter fun y => p y.1).length (labs (L.filter fun y => p y.1)) else v = .slice none 0 0 ∧ x = 44
set_option maxRecDepth 100000 in
set_option maxHeartbeats 2000000 in
theorem filter_any (f : Nat) (hf : f = 67 ∨ f = 69 ∨ f = 70) (p : ByteArray → Bool) (g : Nat) (A : Option Addr) (c : Nat) (L : List Lab) (hL : L.length ≤ 400000) (w : World) (hr : RdL w w.heap.size A L) (hT : Tab w)
    (C : ∀ W s, Kept w W → Calls Tryz.prog f #[.string s, .pointer (some ⟨g, 0, none⟩)] W fun e w' => e = .returned (.bool (p s)) ∧ Kept W w') :
    Calls Tryz.prog 66 #[.slice A L.length c, .func (.func f) #[] #[.pointer (some ⟨g, 0, none⟩)]] w fun e w' => ∃ v x, e = .returned (.tuple #[v, .int .i64 x]) ∧ FltV w.heap.size L p v x w' ∧ Kept w w' := by
  have CR := Lib.hid (right_any A c L (by omega) w hr hT)
  have HC := Lib.hid C
  unfold FltV
  rcases hR : rgtB L with _ | _
  · simp only [Bool.false_eq_true, ↓reduceIte]
    rw [hR] at CR
    clear hr hT hR hL C HC hf
    go_enter Tryz.func66, Tryz.ntmps66
    go_wp2_with (go_at_call 16; refine CR.out.mono ?_; rintro e w1 ⟨rfl, hk⟩; have HK1 := Lib.hid hk; clear hk)
    go_ret2
    exact ⟨_, _, rfl, ⟨rfl, rfl⟩, HK1.out⟩
  · simp only [↓reduceIte]
    rw [hR] at CR
    have HSm : Hid (∀ x ∈ L, smallL x) := fun x hx => small_of (right_all hR x hx).1
    have HR := Lib.hid hr
    obtain ⟨i0, hi0, hz0, hz1, hz2⟩ := info_parts infoLab
    have Hfin : Hid (L.filter (fun y => p y.1) = (L.take L.length).filter fun y => p y.1) := by show _ = _; rw [List.take_length]
    obtain ⟨n, hn⟩ : ∃ n, n = L.length := ⟨_, rfl⟩
    have Hn := Lib.hid hn
    rw [← hn] at hL CR Hfin ⊢
    clear hr hT hR C hn
    rcases hf with rfl | rfl | rfl
    all_goals
      go_enter Tryz.func66, Tryz.ntmps66
      go_wp2_with (go_at_call 16; refine CR.out.mono ?_; rintro e w1 ⟨rfl, hk⟩; have HK1 := Lib.hid hk; clear hk)
      go_loopw [6, 14] (fun v6 v14 wr => ∃ k : Nat, k ≤ n ∧ v14 = .int .i64 k ∧ Hid (Kept w wr) ∧ Hid (wr.ownsRow w.heap.size 33 2 v6 ((L.take k).filter fun y => p y.1).length (labs ((L.take k).filter fun y => p y.1)))) (fun _ v14 _ => n - (intOf v14).toNat)
      case atStart => exact ⟨0, by omega, rfl, HK1, ⟨rfl, .inl ⟨rfl, rfl⟩⟩⟩
      case round =>
        obtain ⟨k, hk, rfl, hkr, hown⟩ := hrel
        by_cases hkn : k < n
        · obtain ⟨ad, x, rfl, hadb, hx, hd, hc0, hc1⟩ := rdl_at HR.out (by rw [← Hn.out]; exact hkn)
          have e0 := (Below.cell hkr.out (by rw [addBlock]; exact hadb)).trans hc0
          have e1 := (Below.cell hkr.out (by rw [addBlock]; exact hadb)).trans hc1
          have Hcl := Lib.hid (lab_cells e0 e1)
          have htk : L.take (k + 1) = L.take k ++ [x] := by rw [List.take_add_one, hx]; rfl
          have Hsm := Lib.hid (HSm.out x (List.mem_of_getElem? hx))
          have k1 : Kept wr (wr.alloc (.cells #[.string x.1, .string x.2] 33)) := (Below.refl _ wr).alloc (Nat.le_refl _) _
          have K1 := Lib.hid (below_kept hkr.out k1)
          have K1' := Lib.hid k1
          have M1 : Hid ((wr.alloc (.cells #[.string x.1, .string x.2] 33)).heap[wr.heap.size]? = some (.cells #[.string x.1, .string x.2] 33 (0, 0))) := heap_alloc_new wr _
          have Cx : Hid (∀ W, Kept w W → Calls Tryz.prog _ #[.string x.1, .pointer (some ⟨g, 0, none⟩)] W fun e w' => e = .returned (.bool (p x.1)) ∧ Kept W w') := fun W h => HC.out W x.1 h
          clear hc0 hc1 hx hd e0 e1 k1
          rcases hp : p x.1 with _ | _
          · rw [hp] at Cx
            have Hfl : Hid ((L.take (k + 1)).filter (fun y => p y.1) = (L.take k).filter fun y => p y.1) := by show _ = _; rw [htk, List.filter_append]; simp [hp]
            clear htk hp
            go_wp2_with (first
              | (refine wpList_load_at rfl 33 (.tmp 16) rfl (ad.add (k * 2)) rfl #[.string x.1, .string x.2] _ Hcl.out Tryz.underlying33 rfl sizeL ?_)
              | (go_at_call 67; refine (Cx.out _ K1.out).mono ?_; rintro e w2 ⟨rfl, hk2⟩; have HK2 := Lib.hid (below_kept K1'.out hk2); clear hk2)
              | (go_at_call 69; refine (Cx.out _ K1.out).mono ?_; rintro e w2 ⟨rfl, hk2⟩; have HK2 := Lib.hid (below_kept K1'.out hk2); clear hk2)
              | (go_at_call 70; refine (Cx.out _ K1.out).mono ?_; rintro e w2 ⟨rfl, hk2⟩; have HK2 := Lib.hid (below_kept K1'.out hk2); clear hk2))
            go_roundw
            case rel => exact ⟨k + 1, by omega, by go_num, below_kept hkr.out HK2.out, by show World.ownsRow _ _ _ _ _ _ _; rw [Hfl.out]; exact own_below hown.out HK2.out⟩
            case measure => simp [intOf]; omega
          · rw [hp] at Cx
            have Hfl : Hid ((L.take (k + 1)).filter (fun y => p y.1) = ((L.take k).filter fun y => p y.1) ++ [x]) := by show _ = _; rw [htk, List.filter_append]; simp [hp]
            have Hle : Hid (((L.take k).filter fun y => p y.1).length ≤ k) := by
              have := List.length_filter_le (fun y : Lab => p y.1) (L.take k)
              rw [List.length_take] at this
              show _ ≤ _
              omega
            clear htk hp
            generalize (L.take k).filter (fun y => p y.1) = F at *
            obtain ⟨xa, xb⟩ := x
            dsimp only at Hcl K1 K1' M1 Cx Hfl
            have hsa : xa.size ≤ 128 := Hsm.out.1
            have hsb : xb.size ≤ 1024 := Hsm.out.2
            have HF := Lib.hid (fun W => fresh_any xa xb (by omega) (by omega) W)
            obtain ⟨nF, hnF⟩ : ∃ q, q = F.length := ⟨_, rfl⟩
            have HnF := Lib.hid hnF
            rw [← hnF] at hown Hle
            have hle := Hle.out
            clear hnF hsa hsb
            go_wp2_with (first
              | (refine wpList_load_at rfl 33 (.tmp 16) rfl (ad.add (k * 2)) rfl #[.string (xa, xb).1, .string (xa, xb).2] _ Hcl.out Tryz.underlying33 rfl sizeL ?_)
              | (go_at_call 67; refine (Cx.out _ K1.out).mono ?_; rintro e w2 ⟨rfl, hk2⟩; have HK2 := Lib.hid (below_kept K1'.out hk2); have hq0 : w2.cell? ⟨wr.heap.size, 0, none⟩ = some (.string xa) := (by rw [cell_of_row _ _ _ _ _ _ (heap_kept hk2 M1.out)]; rfl); have hq1 : w2.cell? ⟨wr.heap.size, 1, none⟩ = some (.string xb) := (by rw [cell_of_row _ _ _ _ _ _ (heap_kept hk2 M1.out)]; rfl); clear hk2)
              | (go_at_call 69; refine (Cx.out _ K1.out).mono ?_; rintro e w2 ⟨rfl, hk2⟩; have HK2 := Lib.hid (below_kept K1'.out hk2); have hq0 : w2.cell? ⟨wr.heap.size, 0, none⟩ = some (.string xa) := (by rw [cell_of_row _ _ _ _ _ _ (heap_kept hk2 M1.out)]; rfl); have hq1 : w2.cell? ⟨wr.heap.size, 1, none⟩ = some (.string xb) := (by rw [cell_of_row _ _ _ _ _ _ (heap_kept hk2 M1.out)]; rfl); clear hk2)
              | (go_at_call 70; refine (Cx.out _ K1.out).mono ?_; rintro e w2 ⟨rfl, hk2⟩; have HK2 := Lib.hid (below_kept K1'.out hk2); have hq0 : w2.cell? ⟨wr.heap.size, 0, none⟩ = some (.string xa) := (by rw [cell_of_row _ _ _ _ _ _ (heap_kept hk2 M1.out)]; rfl); have hq1 : w2.cell? ⟨wr.heap.size, 1, none⟩ = some (.string xb) := (by rw [cell_of_row _ _ _ _ _ _ (heap_kept hk2 M1.out)]; rfl); clear hk2)
              | (go_at_call 99; refine (HF.out _).mono ?_; rintro e w3 ⟨rfl, hk3⟩; have HK3 := Lib.hid (below_kept HK2.out hk3); clear hk3)
              | (at_builtin; refine wpList_append_own_at _ rfl _ _ 28 rfl w.heap.size 33 i0 _ 2 32 Tryz.underlying28 hi0 hz0 hz1 hz2 rfl (by decide) u6 nF (labs F) rfl ((own_below hown.out HK3.out).alloc _) ⟨w3.heap.size, 0, none⟩ 1 1 [.string xa, .string xb] rfl rfl (cells_new w3 [.string xa, .string xb] 33) (by intro u hu; simp at hu; rcases hu with rfl | rfl <;> rfl) (by unfold maxLen; omega) (by omega) (by have := Below.size (below_kept hkr.out HK3.out); simp; omega) ?_; intro v5 w5 hown5 hg5 hn5 hl5; have Hown5 := Lib.hid hown5; have HG5 := Lib.hid hg5; clear hown5 hg5 hn5 hl5))
            have HA2 := Lib.hid ((own_below hown.out HK3.out).alloc (.cells #[.string xa, .string xb] 33))
            have HKw : Hid (Kept w (w3.alloc (.cells #[.string xa, .string xb] 33))) := below_alloc0 (below_kept hkr.out HK3.out) _
            go_roundw
            case rel =>
              refine ⟨k + 1, by omega, by go_num, Below.grown HKw.out HG5.out (Below.size HKw.out) (fun j e => (HA2.out.lt j e).1), ?_⟩
              show World.ownsRow _ _ _ _ _ _ _
              rw [Hfl.out, labs_snoc, List.length_append, ← HnF.out]
              exact Hown5.out
            case measure => simp [intOf]; omega
        · obtain rfl : k = n := by omega
          go_wp2_with fail
          go_ret2
          exact ⟨_, _, rfl, ⟨rfl, by rw [Hfin.out]; exact hown.out⟩, hkr.out⟩
def sIdx (s : ByteArray) : Nat → List ByteArray → Int
  | _, [] => -1
  | i, x :: L => if s = x then (i : Int) else sIdx s (i + 1) L
theorem sIdx_has (s : ByteArray) : ∀ (i : Nat) (L : List ByteArray), (sIdx s i L = -1 ∧ s ∉ L) ∨ (0 ≤ sIdx s i L ∧ s ∈ L)
  | i, [] => .inl ⟨rfl, fun h => by cases h⟩
  | i, x :: L => by
    unfold sIdx
    by_cases h : s = x
    · rw [if_pos h]
      exact .inr ⟨by omega, by rw [h]; exact List.mem_cons_self ..⟩
    · rw [if_neg h]
      rcases sIdx_has s (i + 1) L with ⟨h1, h2⟩ | ⟨h1, h2⟩
      · exact .inl ⟨h1, fun hm => by rcases List.mem_cons.1 hm with e | e; exact h e; exact h2 e⟩
      · exact .inr ⟨h1, List.mem_cons_of_mem _ h2⟩
theorem strIndex_any (A : Option Addr) (c : Nat) (ns : List ByteArray) (hL : ns.length ≤ 4611686018427387904) (s : ByteArray) (w : World) (hr : Rd w w.heap.size A ns.length (strs ns)) :
    Calls Tryz.prog 102 #[.slice A ns.length c, .string s] w fun e w' => e = .returned (.int .i64 (sIdx s 0 ns)) ∧ w = w' := by
  have HR := Lib.hid hr
  obtain ⟨n, hn⟩ : ∃ n, n = ns.length := ⟨_, rfl⟩
  have Hn := Lib.hid hn
  rw [← hn] at hL HR ⊢
  clear hr hn
  go_enter Tryz.func102, Tryz.ntmps102
  go_wp2_with fail
  go_loopw [8] (fun v8 wr => ∃ k : Nat, k ≤ n ∧ v8 = .int .i64 k ∧ wr = w ∧ Hid (sIdx s 0 ns = sIdx s k (ns.drop k))) (fun v8 _ => n - (intOf v8).toNat)
  case atStart => exact ⟨0, by omega, rfl, rfl, rfl⟩
  case round =>
    obtain ⟨k, hk, rfl, hw, hf⟩ := hrel
    obtain rfl : w = wr := hw.symm
    by_cases hkn : k < n
    · obtain ⟨ad, u, rfl, hadb, hu, hcu⟩ := HR.out.at_ hkn
      have hl : k < ns.length := by rw [← Hn.out]; exact hkn
      rw [strs_get _ _ hl] at hu
      cases hu
      obtain ⟨y, hy⟩ : ∃ y, y = ns[k] := ⟨_, rfl⟩
      have Hst : Hid (sIdx s k (ns.drop k) = if s = y then (k : Int) else sIdx s (k + 1) (ns.drop (k + 1))) := by show _ = _; rw [List.drop_eq_getElem_cons hl, ← hy]; rfl
      rw [← hy] at hcu
      clear hy hl
      by_cases hs : s = y
      · subst hs
        rw [if_pos rfl] at Hst
        go_wp2_with fail
        go_ret
        exact ⟨by rw [hf.out, Hst.out]; rfl, rfl⟩
      · have he : (s.toList == y.toList) = false := str_ne (fun e => hs (bys_eq e))
        rw [if_neg hs] at Hst
        clear hs
        go_wp2_with fail
        go_roundw
        case rel => exact ⟨k + 1, by omega, by go_num, trivial, by show _ = _; rw [hf.out, Hst.out]⟩
        case measure => simp [intOf]; omega
    · obtain rfl : k = n := by omega
      go_wp2_with fail
      go_ret
      refine ⟨?_, rfl⟩
      rw [hf.out, List.drop_of_length_le (by rw [← Hn.out]; exact Nat.le_refl _)]
      rfl
/-- Whether a string is among some. -/
def inB (s : ByteArray) (ns : List ByteArray) : Bool := decide (0 ≤ sIdx s 0 ns)
theorem inB_iff {s : ByteArray} {ns : List ByteArray} : inB s ns = true ↔ s ∈ ns := by
  unfold inB
  rw [decide_eq_true_eq]
  rcases sIdx_has s 0 ns with ⟨h1, h2⟩ | ⟨h1, h2⟩
  · exact ⟨fun h => by omega, fun h => absurd h h2⟩
  · exact ⟨fun _ => h2, fun _ => h1⟩
theorem contains_any (A : Option Addr) (c : Nat) (ns : List ByteArray) (hL : ns.length ≤ 4611686018427387904) (s : ByteArray) (w : World) (hr : Rd w w.heap.size A ns.length (strs ns)) :
    Calls Tryz.prog 68 #[.slice A ns.length c, .string s] w fun e w' => e = .returned (.bool (inB s ns)) ∧ w = w' := by
  have C := Lib.hid (strIndex_any A c ns hL s w hr)
  unfold inB
  generalize sIdx s 0 ns = i at *
  clear hr
  go_enter Tryz.func68, Tryz.ntmps68
  go_wp2_with (go_at_call 102; refine C.out.mono ?_; rintro e w1 ⟨rfl, rfl⟩)
  go_ret
  exact ⟨rfl, rfl⟩
theorem keep1_any (A : Option Addr) (c : Nat) (ns : List ByteArray) (hL : ns.length ≤ 4611686018427387904) (s : ByteArray) (g : Nat) (w : World) (hr : Rd w w.heap.size A ns.length (strs ns)) (hg : w.cell? ⟨g, 0, none⟩ = some (.slice A ns.length c)) :
    (Calls Tryz.prog 67 #[.string s, .pointer (some ⟨g, 0, none⟩)] w fun e w' => e = .returned (.bool (inB s ns)) ∧ Kept w w') ∧
    (Calls Tryz.prog 69 #[.string s, .pointer (some ⟨g, 0, none⟩)] w fun e w' => e = .returned (.bool (!inB s ns)) ∧ Kept w w') := by
  have C := Lib.hid (contains_any A c ns hL s w hr)
  generalize inB s ns = b at *
  generalize ns.length = n at *
  clear hr
  refine ⟨?_, ?_⟩
  · go_enter Tryz.func67, Tryz.ntmps67
    go_wp2_with (go_at_call 68; refine C.out.mono ?_; rintro e w1 ⟨rfl, rfl⟩)
    go_ret
    exact ⟨rfl, Below.refl _ _⟩
  · go_enter Tryz.func69, Tryz.ntmps69
    go_wp2_with (go_at_call 68; refine C.out.mono ?_; rintro e w1 ⟨rfl, rfl⟩)
    go_ret
    exact ⟨rfl, Below.refl _ _⟩
theorem keep_any (A : Option Addr) (c : Nat) (L : List Lab) (hL : L.length ≤ 400000) (A1 : Option Addr) (c1 : Nat) (ns : List ByteArray) (hN : ns.length ≤ 4611686018427387904) (w : World) (hr : RdL w w.heap.size A L) (hr1 : Rd w w.heap.size A1 ns.length (strs ns)) (hT : Tab w) :
    (Calls Tryz.prog 23 #[.slice A L.length c, .slice A1 ns.length c1] w fun e w' => ∃ v x, e = .returned (.tuple #[v, .int .i64 x]) ∧ FltV w.heap.size L (fun s => inB s ns) v x w' ∧ Kept w w') ∧
    (Calls Tryz.prog 25 #[.slice A L.length c, .slice A1 ns.length c1] w fun e w' => ∃ v x, e = .returned (.tuple #[v, .int .i64 x]) ∧ FltV w.heap.size L (fun s => !inB s ns) v x w' ∧ Kept w w') := by
  obtain ⟨w1, hw1⟩ : ∃ x, x = w.alloc (.cells #[.slice A1 ns.length c1] 23) := ⟨_, rfl⟩
  have hk : Kept w w1 := by rw [hw1]; exact (Below.refl w.heap.size w).alloc (Nat.le_refl _) _
  have hg : w1.cell? ⟨w.heap.size, 0, none⟩ = some (.slice A1 ns.length c1) := by rw [hw1, cell_of_row _ _ _ _ _ _ (heap_alloc_new w _)]; rfl
  have hC := fun W s (h : Kept w1 W) => keep1_any A1 c1 ns hN s w.heap.size W ((hr1.below (below_kept hk h)).more (Nat.le_trans (Below.size hk) (Below.size h))) ((Below.cell h (block_lt_of_cell hg)).trans hg)
  have hr2 : RdL w1 w1.heap.size A L := (hr.below hk).more (Below.size hk)
  have CK := Lib.hid (filter_any 67 (.inl rfl) (fun s => inB s ns) w.heap.size A c L hL w1 hr2 (hT.below hk) (fun W s h => (hC W s h).1))
  have CD := Lib.hid (filter_any 69 (.inr (.inl rfl)) (fun s => !inB s ns) w.heap.size A c L hL w1 hr2 (hT.below hk) (fun W s h => (hC W s h).2))
  have more : ∀ p v x w', FltV w1.heap.size L p v x w' → FltV w.heap.size L p v x w' := fun p v x w' h => by
    unfold FltV at h ⊢
    split
    · rename_i hR
      rw [if_pos hR] at h
      exact ⟨h.1, own_mono h.2 (Below.size hk)⟩
    · rename_i hR
      rw [if_neg hR] at h
      exact h
  have Hmore := Lib.hid more
  have HK := Lib.hid hk
  generalize ns.length = nn at *
  clear hr hr1 hT hg hC hr2 more hk
  refine ⟨?_, ?_⟩
  · go_enter Tryz.func23, Tryz.ntmps23
    go_wp2_with (go_at_call 66; rw [← hw1]; refine CK.out.mono ?_; rintro e w2 ⟨v, x, rfl, hv, hk2⟩; have HV := Lib.hid hv; have HK2 := Lib.hid (below_kept HK.out hk2); clear hv hk2)
    go_ret2
    exact ⟨_, _, rfl, Hmore.out _ _ _ _ HV.out, HK2.out⟩
  · go_enter Tryz.func25, Tryz.ntmps25
    go_wp2_with (go_at_call 66; rw [← hw1]; refine CD.out.mono ?_; rintro e w2 ⟨v, x, rfl, hv, hk2⟩; have HV := Lib.hid hv; have HK2 := Lib.hid (below_kept HK.out hk2); clear hv hk2)
    go_ret2
    exact ⟨_, _, rfl, Hmore.out _ _ _ _ HV.out, HK2.out⟩
end Go.Proofs.YtlhekeokognhmaaGreatDoor
