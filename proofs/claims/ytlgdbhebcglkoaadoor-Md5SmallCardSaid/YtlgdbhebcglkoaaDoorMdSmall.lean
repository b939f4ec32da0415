/-
  The walk of Md5Small.
-/
import Derived.Test.YtlgdbhebcglkoaaDoorMdTells
import Derived.Test.YtlgdbhebcglkoaaDoorMdY
import Derived.Test.YtlgdbhebcglkoaaDoorMdT
import Derived.Test.YtlgdbhebcglkoaaDoorMdU
import Derived.BigRegion
import Derived.Lib.ConvBytes
namespace Go.Proofs.YtlgdbhebcglkoaaDoor
open Go.RowKit Go.Shelf
def sA0 : ByteArray := ⟨([109, 101, 115, 115, 97, 103, 101, 32, 100, 105, 103, 101, 115, 116] : List UInt8).toArray⟩
def sB0 : ByteArray := ⟨([102, 57, 54, 98, 54, 57, 55, 100, 55, 99, 98, 55, 57, 51, 56, 100, 53, 50, 53, 97, 50, 102, 51, 49, 97, 97, 102, 49, 54, 49, 100, 48] : List UInt8).toArray⟩
set_option maxRecDepth 100000 in
theorem dg0 : sB0 = strOfNums (tx (sumL (bys sA0))) := by kernel_rfl
def sA1 : ByteArray := ⟨([97, 98, 99, 100, 101, 102, 103, 104, 105, 106, 107, 108, 109, 110, 111, 112, 113, 114, 115, 116, 117, 118, 119, 120, 121, 122] : List UInt8).toArray⟩
def sB1 : ByteArray := ⟨([99, 51, 102, 99, 100, 51, 100, 55, 54, 49, 57, 50, 101, 52, 48, 48, 55, 100, 102, 98, 52, 57, 54, 99, 99, 97, 54, 55, 101, 49, 51, 98] : List UInt8).toArray⟩
set_option maxRecDepth 100000 in
theorem dg1 : sB1 = strOfNums (tx (sumL (bys sA1))) := by kernel_rfl
def sA2 : ByteArray := ⟨([65, 66, 67, 68, 69, 70, 71, 72, 73, 74, 75, 76, 77, 78, 79, 80, 81, 82, 83, 84, 85, 86, 87, 88, 89, 90, 97, 98, 99, 100, 101, 102, 103, 104, 105, 106, 107, 108, 109, 110, 111, 112, 113, 114, 115, 116, 117, 118, 119, 120, 121, 122, 48, 49, 50, 51, 52, 53, 54, 55, 56, 57] : List UInt8).toArray⟩
def sB2 : ByteArray := ⟨([100, 49, 55, 52, 97, 98, 57, 56, 100, 50, 55, 55, 100, 57, 102, 53, 97, 53, 54, 49, 49, 99, 50, 99, 57, 102, 52, 49, 57, 100, 57, 102] : List UInt8).toArray⟩
set_option maxRecDepth 100000 in
theorem dg2 : sB2 = strOfNums (tx (sumL (bys sA2))) := by kernel_rfl
def sA3 : ByteArray := ⟨([49, 50, 51, 52, 53, 54, 55, 56, 57, 48, 49, 50, 51, 52, 53, 54, 55, 56, 57, 48, 49, 50, 51, 52, 53, 54, 55, 56, 57, 48, 49, 50, 51, 52, 53, 54, 55, 56, 57, 48, 49, 50, 51, 52, 53, 54, 55, 56, 57, 48, 49, 50, 51, 52, 53, 54, 55, 56, 57, 48, 49, 50, 51, 52, 53, 54, 55, 56, 57, 48, 49, 50, 51, 52, 53, 54, 55, 56, 57, 48] : List UInt8).toArray⟩
def sB3 : ByteArray := ⟨([53, 55, 101, 100, 102, 52, 97, 50, 50, 98, 101, 51, 99, 57, 53, 53, 97, 99, 52, 57, 100, 97, 50, 101, 50, 49, 48, 55, 98, 54, 55, 97] : List UInt8).toArray⟩
set_option maxRecDepth 100000 in
theorem dg3 : sB3 = strOfNums (tx (sumL (bys sA3))) := by kernel_rfl
theorem bw_kept (w : World) (e : TypeId) (s : ByteArray) : Kept w (Lib.bytesWorld w e s) :=
  ⟨rfl, rfl, rfl, by rw [Lib.bytesWorld_size]; omega, fun k hk => Lib.bytesWorld_at_old w e s k hk⟩
theorem bw_rd (w : World) (e : TypeId) (s : ByteArray) : Rd (Lib.bytesWorld w e s) (Lib.bytesWorld w e s).heap.size (some ⟨w.heap.size, 0, none⟩) s.size (u8s (bys s)) := by
  refine ⟨by rw [u8s_length, bys_length], fun _ => ⟨_, rfl, by rw [Lib.bytesWorld_size]; exact Nat.lt_succ_self _, fun j u hu => ?_⟩⟩
  have hj : j < s.size := by
    have := (List.getElem?_eq_some_iff.1 hu).1
    rwa [u8s_length, bys_length] at this
  rw [u8s_get _ _ (by rw [bys_length]; exact hj)] at hu
  cases hu
  rw [add0, Lib.bytesWorld_cell w e s j hj]
  have e1 : s.data.toList[j]? = some s[j] := by rw [List.getElem?_eq_getElem (by simpa using hj)]; rfl
  simp [List.getD_eq_getElem?_getD, e1, bys_get s j hj]
def nums : List Int := [-9223372036854775808, -1, 1099511627775, 1099511627776, 1099511627777, 9223372036854775807]
theorem nums_bd (k : Nat) (hk : k < 6) : -9223372036854775808 ≤ nums.getD k 0 ∧ nums.getD k 0 ≤ 9223372036854775807 := by
  have : ∀ j : Fin 6, -9223372036854775808 ≤ nums.getD j.1 0 ∧ nums.getD j.1 0 ≤ 9223372036854775807 := by decide
  exact this ⟨k, hk⟩
theorem nums_get (k : Nat) (hk : k < 6) : (nums.map (Value.int .i64)).toArray[k]? = some (.int .i64 (nums.getD k 0)) := by
  rcases (by omega : k = 0 ∨ k = 1 ∨ k = 2 ∨ k = 3 ∨ k = 4 ∨ k = 5) with rfl | rfl | rfl | rfl | rfl | rfl <;> rfl
theorem row2 (i : Int) : (u8s ([i, 255] ++ List.replicate 14 0)).toArray = #[.int .u8 i, .int .u8 255, .int .u8 0, .int .u8 0, .int .u8 0, .int .u8 0, .int .u8 0, .int .u8 0, .int .u8 0, .int .u8 0, .int .u8 0, .int .u8 0, .int .u8 0, .int .u8 0, .int .u8 0, .int .u8 0] := rfl
theorem texts2 (i : Nat) (hi : i ≤ 255) (s : ByteArray) (W : World) : Calls Tryd.prog 16 #[.agg #[.int .u8 (i : Int), .int .u8 255, .int .u8 0, .int .u8 0, .int .u8 0, .int .u8 0, .int .u8 0, .int .u8 0, .int .u8 0, .int .u8 0, .int .u8 0, .int .u8 0, .int .u8 0, .int .u8 0, .int .u8 0, .int .u8 0], .string s] W fun e w' => e = .returned (.bool true) ∧ Kept W w' := by
  have h := texts_any ([(i : Int), 255] ++ List.replicate 14 0) rfl (by
    intro c hc
    rcases List.mem_append.1 hc with h | h
    · rcases List.mem_cons.1 h with rfl | h
      · omega
      · obtain rfl := List.mem_singleton.1 h
        omega
    · have := (List.mem_replicate.1 h).2
      omega) s W
  rw [row2] at h
  exact h
def prs : Array Value := #[.string sA0, .string sB0, .string sA1, .string sB1, .string sA2, .string sB2, .string sA3, .string sB3]
set_option maxRecDepth 100000 in
set_option maxHeartbeats 8000000 in
theorem small_walk (w : World) (hT : Tab w) : Calls Tryd.prog 7 #[] w fun e w' => e = .returned (.bool true) ∧ Below w.heap.size w w' := by
  have HT := Lib.hid hT
  have hcv : ∀ (s : ByteArray) W, (convert 9 25 (.string s)).run Tryd.prog W = .ok (.slice (some ⟨W.heap.size, 0, none⟩) s.size (grownCap W s.size 0 5)) (Lib.bytesWorld W 5 s) := fun s W => Lib.run_convert_string_bytes W 9 25 5 s Tryd.underlying9 Tryd.underlying25 Tryd.underlying5
  have Hcv := Lib.hid hcv
  obtain ⟨i0, hi, hz0, hz1', hz2'⟩ := info_parts infoB
  clear hT hcv
  go_enter Tryd.func7, Tryd.ntmps7
  go_upto_region 2 with fail
  generalize hw1 : World.alloc w _ = w1
  have hB1 : Kept w w1 := by rw [← hw1]; exact (Below.refl _ w).alloc (Nat.le_refl _) _
  have hg1 : w1.heap[w.heap.size]? = some (.cells prs 43 (0, 0)) := by rw [← hw1]; exact heap_alloc_new w _
  clear hw1
  have HB1 := Lib.hid hB1
  have Hg1 := Lib.hid hg1
  have hb11 := Below.refl w1.heap.size w1
  clear hB1 hg1
  go_wp2_with fail
  go_loopw [21] (fun i wr => ∃ k : Nat, k ≤ 4 ∧ i = .int .i64 k ∧ Kept w1 wr) (fun i _ => 4 - (intOf i).toNat)
  case atStart => exact ⟨0, by omega, rfl, hb11⟩
  case round =>
    obtain ⟨k, hk, rfl, hK⟩ := hrel
    by_cases hk4 : k < 4
    · have hkI : (k : Int) < 4 := by omega
      have hg := heap_kept hK Hg1.out
      obtain ⟨s, t, hs, ht, hst, hsz⟩ : ∃ s t : ByteArray, wr.cell? ⟨w.heap.size, k * 2, none⟩ = some (.string s) ∧ wr.cell? ⟨w.heap.size, k * 2 + 1, none⟩ = some (.string t) ∧ t = strOfNums (tx (sumL (bys s))) ∧ s.size ≤ 100 := by
        rcases (by omega : k = 0 ∨ k = 1 ∨ k = 2 ∨ k = 3) with rfl | rfl | rfl | rfl
        · exact ⟨sA0, sB0, by rw [cell_of_row _ _ _ _ _ _ hg]; rfl, by rw [cell_of_row _ _ _ _ _ _ hg]; rfl, dg0, by decide⟩
        · exact ⟨sA1, sB1, by rw [cell_of_row _ _ _ _ _ _ hg]; rfl, by rw [cell_of_row _ _ _ _ _ _ hg]; rfl, dg1, by decide⟩
        · exact ⟨sA2, sB2, by rw [cell_of_row _ _ _ _ _ _ hg]; rfl, by rw [cell_of_row _ _ _ _ _ _ hg]; rfl, dg2, by decide⟩
        · exact ⟨sA3, sB3, by rw [cell_of_row _ _ _ _ _ _ hg]; rfl, by rw [cell_of_row _ _ _ _ _ _ hg]; rfl, dg3, by decide⟩
      have CT : Hid (∀ W, Calls Tryd.prog 23 #[.agg (u8s (sumL (bys s))).toArray] W fun e w' => e = .returned (.string t) ∧ Kept W w') := fun W => by rw [hst]; exact text_any _ (sumL_length _) (sumL_bts _) W
      have CSm : Hid (∀ W g cc, Kept w1 W → s.size ≤ cc → Rd W W.heap.size (some ⟨g, 0, none⟩) s.size (u8s (bys s)) → Calls Tryd.prog 24 #[.slice (some ⟨g, 0, none⟩) s.size cc] W fun e w' => e = .returned (.agg (u8s (sumL (bys s))).toArray) ∧ Kept W w') := fun W g cc h hcc hr => sum_any _ _ _ (bys s) (bys_bd s) (by omega) hcc W hr (HT.out.below (below_kept HB1.out h))
      generalize hLS : (u8s (sumL (bys s))).toArray = LS at *
      clear hg hst hLS
      go_upto_region 4 with fail
      have k3 : Kept wr (wr.alloc (.cells #[.string s, .string t] 43)) := (Below.refl _ wr).alloc (Nat.le_refl _) _
      have m3 : (wr.alloc (.cells #[.string s, .string t] 43)).heap[wr.heap.size]? = some (.cells #[.string s, .string t] 43 (0, 0)) := heap_alloc_new wr _
      have HK3 := Lib.hid (below_kept hK k3)
      generalize wr.alloc (.cells #[.string s, .string t] 43) = w3 at *
      obtain ⟨g3, hg3⟩ : ∃ g, g = wr.heap.size := ⟨_, rfl⟩
      rw [← hg3] at m3 ⊢
      have Hk : Hid (∀ W, Below w3.heap.size w3 W → (W.cell? ⟨g3, 0, none⟩ = some (.string s) ∧ W.cell? ⟨g3, 1, none⟩ = some (.string t)) ∧ Below w3.heap.size w3 W) := fun W h => ⟨⟨by rw [cell_of_row _ _ _ _ _ _ (heap_kept h m3)]; rfl, by rw [cell_of_row _ _ _ _ _ _ (heap_kept h m3)]; rfl⟩, h⟩
      have hb3 := Below.refl w3.heap.size w3
      have hcv := Hcv.out s
      have hbw := bw_kept w3.drew 5 s
      have hbr := bw_rd w3.drew 5 s
      have hbk : Below w3.heap.size w3 (Lib.bytesWorld w3.drew 5 s) := below_kept (below_drew0 hb3) hbw
      clear k3 m3 hg3 hs ht hK
      go_cut [32] (fun v wx => v = .bool false ∧ Below w3.heap.size w3 wx)
      case first =>
        refine wp_region_held_drew (S := (fun W => (W.cell? ⟨g3, 0, none⟩ = some (.string s) ∧ W.cell? ⟨g3, 1, none⟩ = some (.string t)) ∧ Below w3.heap.size w3 W)) (by kernel_rfl) ?_ (fun hHeld => ?_)
        · exact Hk.out _ (by repeat (first | with_reducible assumption | with_reducible refine below_drew0 ?_))
        refine wpAnyH_take (i := 0) (oi := ⟨some 25, _, _, _, _, _⟩) (v := ?_) rfl (by kernel_rfl) (by kernel_rfl) (by kernel_rfl) (fun _ _ _ h => h) (Or.inl ⟨by rfl, ?_⟩) hHeld ?_
        rotate_left
        · (intro w hSw; (try dsimp only at hSw); go_simp; (try with_reducible rfl))
        try simp only [Act.put, List.setIfInBounds_toArray, List.set_cons_zero, List.set_cons_succ]
        refine wpAnyH_take (i := 1) (oi := ⟨some 26, _, _, _, _, _⟩) (v := ?_) rfl (by kernel_rfl) (by kernel_rfl) (by kernel_rfl) (fun _ _ _ h => h) (Or.inl ⟨by rfl, ?_⟩) hHeld ?_
        rotate_left
        · (intro w hSw; (try dsimp only at hSw); go_simp; (try with_reducible rfl))
        try simp only [Act.put, List.setIfInBounds_toArray, List.set_cons_zero, List.set_cons_succ]
        refine wpAnyH_take (i := 5) (oi := ⟨some 30, _, _, _, _, _⟩) (v := ?_) rfl (by kernel_rfl) (by kernel_rfl) (by kernel_rfl) (fun _ _ _ h => h) (Or.inl ⟨by rfl, ?_⟩) hHeld ?_
        rotate_left
        · (intro w hSw; (try dsimp only at hSw); go_simp; (try with_reducible rfl))
        try simp only [Act.put, List.setIfInBounds_toArray, List.set_cons_zero, List.set_cons_succ]
        refine wpAnyH_take (i := 6) (oi := ⟨some 31, _, _, _, _, _⟩) (v := ?_) rfl (by kernel_rfl) (by kernel_rfl) (by kernel_rfl) (fun _ _ _ h => h) (Or.inl ⟨by rfl, ?_⟩) hHeld ?_
        rotate_left
        · (intro w hSw; (try dsimp only at hSw); go_simp; (try with_reducible rfl))
        try simp only [Act.put, List.setIfInBounds_toArray, List.set_cons_zero, List.set_cons_succ]
        refine wpAnyH_ready (rs := [2]) (by kernel_rfl) (by simp) ?_
        refine AllReadyH.cons (o := ⟨some 27, _, _, _, _, _⟩) rfl (fun K hK => ?_) (AllReadyH.nil)
        · go_simp
          refine hK.out _ _ ?_ (fun hHeld => ?_)
          · exact Hk.out _ (by repeat (first | with_reducible assumption | with_reducible refine below_drew0 ?_))
          clear hK K
          try simp only [Act.put, List.setIfInBounds_toArray, List.set_cons_zero, List.set_cons_succ]
          refine wpAnyH_ready (rs := [3]) (by kernel_rfl) (by simp) ?_
          refine AllReadyH.cons (o := ⟨some 28, _, _, _, _, _⟩) rfl (fun K hK => ?_) (AllReadyH.nil)
          · go_simp
            go_at_call 24; refine (CSm.out _ _ _ (below_kept HK3.out hbk) (grownCap_ge _ _ _ _) hbr).mono ?_; rintro e w4 ⟨rfl, k4⟩; have hb4 := below_kept hbk k4; dsimp only
            go_wp2_with fail
            refine hK.out _ _ ?_ (fun hHeld => ?_)
            · exact Hk.out _ (by repeat (first | with_reducible assumption | with_reducible refine below_drew0 ?_))
            clear hK K
            try simp only [Act.put, List.setIfInBounds_toArray, List.set_cons_zero, List.set_cons_succ]
            refine wpAnyH_ready (rs := [4]) (by kernel_rfl) (by simp) ?_
            refine AllReadyH.cons (o := ⟨some 29, _, _, _, _, _⟩) rfl (fun K hK => ?_) (AllReadyH.nil)
            · go_simp
              go_at_call 23; refine (CT.out _).mono ?_; rintro e w5 ⟨rfl, k5⟩; have hb5 := below_kept hb4 k5; dsimp only
              go_wp2_with fail
              refine hK.out _ _ ?_ (fun hHeld => ?_)
              · exact Hk.out _ (by repeat (first | with_reducible assumption | with_reducible refine below_drew0 ?_))
              clear hK K
              try simp only [Act.put, List.setIfInBounds_toArray, List.set_cons_zero, List.set_cons_succ]
              refine wpAnyH_take (i := 7) (oi := ⟨some 32, _, _, _, _, _⟩) (v := ?_) rfl (by kernel_rfl) (by kernel_rfl) (by kernel_rfl) (fun _ _ _ h => h) (Or.inl ⟨by rfl, ?_⟩) hHeld ?_
              rotate_left
              · (intro w hSw; (try dsimp only at hSw); go_simp; (try with_reducible rfl))
              try simp only [Act.put, List.setIfInBounds_toArray, List.set_cons_zero, List.set_cons_succ]
              refine wpAnyH_done (by kernel_rfl) ?_ _
              go_wp2_with fail
              go_meet
              exact ⟨rfl, hHeld.2⟩
      case rest =>
      obtain ⟨rfl, k6⟩ := hcut
      have HK6 := Lib.hid (below_kept HK3.out k6)
      clear k6 Hk hb3 hcv hbw hbr hbk
      go_wp2_with fail
      go_roundw
      case rel => exact ⟨k + 1, by omega, by go_num, HK6.out⟩
      case measure => simp [intOf]; omega
    · obtain rfl : k = 4 := by omega
      have hkI : ¬ (4 : Int) < 4 := by omega
      have HK := Lib.hid hK
      obtain ⟨w2, rfl⟩ : ∃ x, x = wr := ⟨_, rfl⟩
      clear hK hk hk4 Hg1
      have hb22 := Below.refl w2.heap.size w2
      go_upto_region 9 with fail
      go_loopw [3, 34] (fun v i wr => ∃ (n : Nat) (L : List Int), n ≤ 200 ∧ i = .int .i64 n ∧ Hid (Bts L) ∧ Kept w2 wr ∧ Hid (wr.ownsRow w2.heap.size 5 1 v n (u8s L))) (fun _ i _ => 200 - (intOf i).toNat)
      case atStart => exact ⟨0, [], by omega, rfl, fun _ h => (by cases h), hb22, ⟨rfl, .inl ⟨rfl, rfl⟩⟩⟩
      case round =>
        obtain ⟨n, L, hn, rfl, hLb, hK2, hown⟩ := hrel
        by_cases hn200 : n < 200
        · have hnI : (n : Int) < 200 := by omega
          obtain ⟨A, c, rfl, hc⟩ := own_slice hown.out
          have hrd := Rd.of_own hown.out
          obtain ⟨b, hbn⟩ : ∃ b : BitVec 32, b.toNat = n := ⟨BitVec.ofNat 32 n, by rw [BitVec.toNat_ofNat, Nat.mod_eq_of_lt (by omega)]⟩
          have hnot := not_v b
          obtain ⟨y, hy⟩ : ∃ y, (~~~b).toNat = y := ⟨_, rfl⟩
          have hct := tells_any b 1#32 2147483648#32 (~~~b) A n c L hLb.out (by omega) hc n (by omega) wr hrd (HT.out.below (below_kept HB1.out (below_kept HK.out hK2)))
          unfold V at hct
          rw [hbn, hy] at hct hnot
          have CTl : Hid (Calls Tryd.prog 13 #[.agg #[.int .u32 (n : Int), .int .u32 1, .int .u32 2147483648, .int .u32 (y : Int)], .slice A n c, .int .u64 (n : Int)] wr fun e w' => e = .returned (.bool true) ∧ Kept wr w') := hct
          have CPd := Lib.hid (fun W => pads_any (n : Int) (by omega) (by omega) W)
          have hw1 : IntKind.u32.wrap (n : Int) = (n : Int) := by rw [IntKind.wrap_u32]; omega
          have hw2 : IntKind.u64.wrap (n : Int) = (n : Int) := by rw [IntKind.wrap_u64]; omega
          obtain ⟨z, hz⟩ : ∃ z, n * 37 % 256 = z := ⟨_, rfl⟩
          have hz1 : (n : Int) * 37 % 256 = (z : Int) := by omega
          have hz2 : IntKind.u8.wrap ((n : Int) * 37) = (z : Int) := by rw [IntKind.wrap_u8]; exact hz1
          have hz256 : z < 256 := by omega
          have HK2 := Lib.hid hK2
          clear hct hbn hy hz hrd hK2
          go_upto_region 11 with fail
          go_wp2_with fail
          refine CTl.out.mono ?_
          rintro e w5 ⟨rfl, k5⟩
          have K5 := Lib.hid k5
          clear k5
          go_wp2_with fail
          refine (CPd.out _).mono ?_
          rintro e w6 ⟨rfl, k6⟩
          have K6 := Lib.hid (below_kept K5.out k6)
          clear k6
          have hown6 := own_below hown.out K6.out
          have Hown6 := Lib.hid hown6
          have HK26 := Lib.hid (below_kept HK2.out K6.out)
          clear hown hown6
          go_wp2_with (at_builtin; refine wpList_app_any _ rfl _ _ 25 rfl w2.heap.size 5 i0 (.int .u8 0) 1 Tryd.underlying25 hi hz0 hz1' hz2' rfl _ n (u8s L) rfl (own_alloc Hown6.out _) _ _ 1 _ (u8s [(z : Int)]) rfl (rdNew w6 (u8s [(z : Int)]) 5) (u8s_one _) (by unfold maxLen; omega) (by omega) (Nat.le_trans HK26.out.size (by simp)) ?_; intro v7 w7 hown7 hg7; have Hown7 := Lib.hid hown7; have HK7 := Lib.hid ((HK26.out.alloc HK26.out.size _).grown hg7 (Nat.le_trans HK26.out.size (by simp)) (fun j e => (Hown6.out.lt j e).1)); clear hown7 hg7)
          go_roundw
          case rel => exact ⟨n + 1, L ++ [(z : Int)], by omega, by go_num, fun x hx => by rcases List.mem_append.1 hx with h | h; exact hLb.out x h; obtain rfl := List.mem_singleton.1 h; omega, HK7.out, by show World.ownsRow _ _ _ _ _ _ _; rw [u8s_append]; exact Hown7.out⟩
          case measure => simp [intOf]; omega
        · obtain rfl : n = 200 := by omega
          have hnI : ¬ (200 : Int) < 200 := by omega
          have HK3 := Lib.hid (below_kept HK.out hK2)
          obtain ⟨w3, rfl⟩ : ∃ x, x = wr := ⟨_, rfl⟩
          clear hown hLb hK2 hn hn200 hb22
          go_upto_region 16 with fail
          have k34 : Kept w3 (w3.alloc (.cells (nums.map (Value.int .i64)).toArray 3)) := (Below.refl _ w3).alloc (Nat.le_refl _) _
          have m4 : (w3.alloc (.cells (nums.map (Value.int .i64)).toArray 3)).heap[w3.heap.size]? = some (.cells (nums.map (Value.int .i64)).toArray 3 (0, 0)) := heap_alloc_new w3 _
          change Code.wp _ _ _ _ (w3.alloc (.cells (nums.map (Value.int .i64)).toArray 3))
          generalize w3.alloc (.cells (nums.map (Value.int .i64)).toArray 3) = w4 at *
          obtain ⟨g4, hg4⟩ : ∃ g, g = w3.heap.size := ⟨_, rfl⟩
          rw [← hg4] at m4 ⊢
          have M4 := Lib.hid m4
          have HK4 := Lib.hid (below_kept HK3.out k34)
          have hb44 := Below.refl w4.heap.size w4
          clear m4 k34 hg4
          go_loopw [62] (fun i wr => ∃ k : Nat, k ≤ 6 ∧ i = .int .i64 k ∧ Kept w4 wr) (fun i _ => 6 - (intOf i).toNat)
          case atStart => exact ⟨0, by omega, rfl, hb44⟩
          case round =>
            obtain ⟨k, hk, rfl, hK4⟩ := hrel
            by_cases hk6 : k < 6
            · have hkI6 : (k : Int) < 6 := by omega
              have hcell : wr.cell? ⟨g4, k, none⟩ = some (.int .i64 (nums.getD k 0)) := by
                rw [cell_of_row _ _ _ _ _ _ (heap_kept hK4 M4.out), nums_get k hk6]
              have hnb := nums_bd k hk6
              have CPd := Lib.hid (fun W => pads_any (nums.getD k 0) hnb.1 hnb.2 W)
              generalize nums.getD k 0 = x at *
              have HK5 := Lib.hid hK4
              clear hK4
              go_wp2_with (go_at_call 15; refine (CPd.out _).mono ?_; rintro e w6 ⟨rfl, k6⟩; have K6 := Lib.hid (below_kept HK5.out k6); clear k6)
              go_roundw
              case rel => exact ⟨k + 1, by omega, by go_num, K6.out⟩
              case measure => simp [intOf]; omega
            · obtain rfl : k = 6 := by omega
              have hkI6 : ¬ (6 : Int) < 6 := by omega
              have HK5 := Lib.hid (below_kept HK4.out hK4)
              obtain ⟨w5, rfl⟩ : ∃ x, x = wr := ⟨_, rfl⟩
              clear hK4 M4 hk hk6 hb44
              go_upto_region 23 with fail
              have hb55 := Below.refl w5.heap.size w5
              generalize ht : (⟨#[100, 52, 49, 100, 56, 99, 100, 57, 56, 102, 48, 48, 98, 50, 48, 52, 101, 57, 56, 48, 48, 57, 57, 56, 101, 99, 102, 56, 52, 50, 55, 101]⟩ : ByteArray) = t
              have ht32 : t.size = 32 := by rw [← ht]; decide
              clear ht
              go_loopw [73] (fun i wr => ∃ k : Nat, k ≤ 33 ∧ i = .int .i64 k ∧ Kept w5 wr) (fun i _ => 33 - (intOf i).toNat)
              case atStart => exact ⟨0, by omega, rfl, hb55⟩
              case round =>
                clear hb55
                obtain ⟨i, hi33, rfl, hK5⟩ := hrel
                obtain ⟨wa, rfl⟩ : ∃ wa, wa = wr := ⟨_, rfl⟩
                by_cases hi17 : i < 33
                · have hii : (i : Int) < 33 := by omega
                  have HKa := Lib.hid (below_kept HK5.out hK5)
                  have HK5a := Lib.hid hK5
                  clear hK5
                  go_wp2_with fail
                  go_region
                  generalize (if (i : Int) - 1 < 0 then (0 : Int) else (i : Int) - 1) = m
                  generalize t.extract 0 i = X1
                  generalize t.extract i 32 = X2
                  generalize t.extract 0 m.toNat = X3
                  generalize X1 ++ ⟨#[48]⟩ ++ X2 = S3
                  generalize X3 ++ ⟨#[103]⟩ ++ X2 = S4
                  generalize X3 ++ ⟨#[68]⟩ ++ X2 = S5
                  generalize X3 ++ ⟨#[0]⟩ ++ X2 = S6
                  generalize X3 ++ ⟨#[47]⟩ ++ X2 = S7
                  obtain ⟨L, hL, hL7⟩ : ∃ L : List ByteArray, (#[Value.string X1, Value.string X2, Value.string S3, Value.string S4, Value.string S5, Value.string S6, Value.string S7] : Array Value) = (strs L).toArray ∧ L.length = 7 :=
                    ⟨[X1, X2, S3, S4, S5, S6, S7], rfl, rfl⟩
                  rw [hL]
                  have kW : Kept wa ((wa.alloc (.cells (strs L).toArray 9)).drew) := ((Below.refl _ wa).alloc (Nat.le_refl _) _).drew
                  have mW : ((wa.alloc (.cells (strs L).toArray 9)).drew).heap[wa.heap.size]? = some (.cells (strs L).toArray 9 (0, 0)) := heap_alloc_new wa _
                  generalize (wa.alloc (.cells (strs L).toArray 9)).drew = W1 at *
                  obtain ⟨gL, hgL⟩ : ∃ g, g = wa.heap.size := ⟨_, rfl⟩
                  rw [← hgL] at mW ⊢
                  have MW := Lib.hid mW
                  have HKW := Lib.hid (below_kept HK5a.out kW)
                  have HL7 := Lib.hid hL7
                  have hbW := Below.refl W1.heap.size W1
                  have CTx := Lib.hid (fun s W => texts2 i (by omega) s W)
                  have hiw : IntKind.u8.wrap (i : Int) = (i : Int) := by rw [IntKind.wrap_u8]; omega
                  have hiw2 : (i : Int) % 256 = (i : Int) := by omega
                  clear kW mW hL hL7 hgL
                  go_wp2_with fail
                  go_loopw [132] (fun j wr => ∃ k : Nat, k ≤ 7 ∧ j = .int .i64 k ∧ Kept W1 wr) (fun j _ => 7 - (intOf j).toNat)
                  case atStart => exact ⟨0, by omega, rfl, hbW⟩
                  case round =>
                    obtain ⟨k, hk, rfl, hK6⟩ := hrel
                    by_cases hk7 : k < 7
                    · have hk7i : (k : Int) < 7 := by omega
                      have hkL : k < L.length := by rw [HL7.out]; exact hk7
                      have hcell : wr.cell? ⟨gL, k, none⟩ = some (.string L[k]) := by
                        rw [cell_of_row _ _ _ _ _ _ (heap_kept hK6 MW.out), List.getElem?_toArray, strs_get L k hkL]
                      generalize L[k] = s at hcell
                      have HK6 := Lib.hid hK6
                      clear hK6
                      go_upto_region 28 with fail
                      go_wp2_with fail
                      refine (CTx.out s _).mono ?_
                      rintro e w7 ⟨rfl, k7⟩
                      have K7 := Lib.hid (below_kept HK6.out k7)
                      clear k7
                      go_wp2_with fail
                      go_roundw
                      case rel => exact ⟨k + 1, by omega, by go_num, K7.out⟩
                      case measure => simp [intOf]; omega
                    · obtain rfl : k = 7 := by omega
                      have hk7i : ¬ (7 : Int) < 7 := by omega
                      have HKn := Lib.hid (below_kept HKW.out hK6)
                      clear hK6 hbW MW
                      go_wp2_with fail
                      go_roundw
                      case rel => exact ⟨i + 1, by omega, by go_num, HKn.out⟩
                      case measure => simp [intOf]; omega
                · obtain rfl : i = 33 := by omega
                  have hii : ¬ (33 : Int) < 33 := by omega
                  have HK6 := Lib.hid (below_kept HK5.out hK5)
                  clear hK5
                  obtain ⟨w6, rfl⟩ : ∃ x, x = wa := ⟨_, rfl⟩
                  have hzr := zrun
                  go_upto_region 33 with fail
                  clear hzr
                  generalize hw8 : World.alloc (World.alloc w6 _) _ = w8
                  have k8 : Kept w6 w8 := by rw [← hw8]; exact below_alloc0 (below_alloc0 (Below.refl _ w6) _) _
                  have hP8 : w8.heap[w6.heap.size + 1]? = some (.cells #[.pointer none, .pointer (some ⟨w6.heap.size, 0, none⟩)] 33 (0, 0)) := by rw [← hw8]; exact hnew _ (by simp)
                  obtain ⟨Z, hZ8, z0, z1, z2, z3, z68⟩ : ∃ Z : Array Value, w8.heap[w6.heap.size]? = some (.cells Z 50 (0, 0)) ∧ Z[0]? = some (.int .u32 0) ∧ Z[1]? = some (.int .u32 0) ∧ Z[2]? = some (.int .u32 0) ∧ Z[3]? = some (.int .u32 0) ∧ Z[68]? = some (.int .i64 0) :=
                    ⟨z69, by rw [← hw8]; exact halloc _ (heap_alloc_new w6 _), rfl, rfl, rfl, rfl, rfl⟩
                  have HK8 := Lib.hid (below_kept HK6.out k8)
                  have HP8 := Lib.hid hP8
                  have CZ : Hid (∀ W, Kept w8 W → Calls Tryd.prog 37 #[.pointer (some ⟨w6.heap.size, 0, none⟩)] W fun e w' => e = .returned (.bool true) ∧ W = w') := by
                    intro W h
                    have hz := heap_kept h hZ8
                    refine none_zero w6.heap.size W ?_ ?_ ?_ ?_ ?_ <;> rw [cell_of_row _ _ _ _ _ _ hz] <;> assumption
                  have CN : Hid (∀ W, Kept w8 W → Calls Tryd.prog 37 #[.pointer none] W fun e w' => e = .returned (.bool true) ∧ W = w') := fun W _ => none_nil W
                  have hb88 := Below.refl w8.heap.size w8
                  clear hw8 k8 hP8 hZ8 z0 z1 z2 z3 z68 Z
                  go_loopw [148] (fun j wr => ∃ k : Nat, k ≤ 2 ∧ j = .int .i64 k ∧ Kept w8 wr) (fun j _ => 2 - (intOf j).toNat)
                  case atStart => exact ⟨0, by omega, rfl, hb88⟩
                  case round =>
                    clear hb88
                    obtain ⟨k, hk, rfl, hK8⟩ := hrel
                    by_cases hk2 : k < 2
                    · have hk2i : (k : Int) < 2 := by omega
                      obtain ⟨p, hcell, C⟩ : ∃ p, wr.cell? ⟨w6.heap.size + 1, k, none⟩ = some (.pointer p) ∧ Hid (∀ W, Kept w8 W → Calls Tryd.prog 37 #[.pointer p] W fun e w' => e = .returned (.bool true) ∧ W = w') := by
                        rcases (by omega : k = 0 ∨ k = 1) with rfl | rfl
                        · exact ⟨none, by rw [cell_of_row _ _ _ _ _ _ (heap_kept hK8 HP8.out)]; rfl, CN⟩
                        · exact ⟨some ⟨w6.heap.size, 0, none⟩, by rw [cell_of_row _ _ _ _ _ _ (heap_kept hK8 HP8.out)]; rfl, CZ⟩
                      have HKr := Lib.hid hK8
                      have DS := Lib.hid (fun W h => sum_none C.out W h)
                      have DW := Lib.hid (fun W h => write_none C.out none 0 0 W h)
                      have DR := Lib.hid (fun W h => reset_none C.out W h)
                      have DL := Lib.hid (fun W h => len_none C.out W h)
                      clear hK8 C CZ CN
                      go_upto_region 36 with (first
                        | (go_at_call 20; refine (DS.out _ HKr.out).mono ?_; rintro e w9 ⟨rfl, k9⟩; have K9 := Lib.hid (below_kept HKr.out k9); clear k9)
                        | ((refine wpList_store_row ?c0 30 (.tmp 13) (.tmp 155) ?c1 w9.heap.size z16 ?c2 ?c3 _ _ (hnew _ rfl) ?c4 ?c5 ?c6 ?_); (case c0 => with_reducible rfl); (case c1 => with_reducible rfl); (case c2 => rfl); (case c3 => rfl); (case c4 => exact size16b); (case c5 => rfl); (case c6 => simp [Value.oneCell'])))
                      have k10 : Kept w9 (World.setRow (w9.alloc (.cells z16 30)) w9.heap.size z16) := below_setRow ((Below.refl _ w9).alloc (Nat.le_refl _) _) (Nat.le_refl _) _
                      have HK10 := Lib.hid (below_kept K9.out k10)
                      clear k10
                      go_wp2_with (first
                        | (go_at_call 19; refine (DW.out _ HK10.out).mono ?_; rintro e w11 ⟨rfl, k11⟩; have K11 := Lib.hid (below_kept HK10.out k11); clear k11)
                        | (go_at_call 18; refine (DR.out _ K11.out).mono ?_; rintro e w12 ⟨rfl, k12⟩; have K12 := Lib.hid (below_kept K11.out k12); clear k12)
                        | (go_at_call 22; refine (DL.out _ K12.out).mono ?_; rintro e w13 ⟨rfl, k13⟩; have K13 := Lib.hid (below_kept K12.out k13); clear k13))
                      go_roundw
                      case rel => exact ⟨k + 1, by omega, by go_num, K13.out⟩
                      case measure => simp [intOf]; omega
                    · obtain rfl : k = 2 := by omega
                      have hk2i : ¬ (2 : Int) < 2 := by omega
                      have HKz := Lib.hid (below_kept HB1.out (below_kept HK8.out hK8))
                      go_wp2_with (go_at_call 14; refine (awake_any _ (HT.out.below HKz.out)).mono ?_; rintro e w14 ⟨rfl, k14⟩; have K14 := Lib.hid (below_kept HKz.out k14); clear k14)
                      go_ret
                      exact ⟨rfl, K14.out⟩
end Go.Proofs.YtlgdbhebcglkoaaDoor
