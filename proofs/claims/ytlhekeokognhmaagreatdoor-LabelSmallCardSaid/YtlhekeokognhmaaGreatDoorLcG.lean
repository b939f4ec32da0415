/-
  tells answers true.
-/
import Derived.Test.YtlhekeokognhmaaGreatDoorMgbf
import Derived.Test.YtlhekeokognhmaaGreatDoorLbR
namespace Go.Proofs.YtlhekeokognhmaaGreatDoor
open Go.RowKit Go.Shelf Go.Maps Go.Sort
theorem kk {a b c : World} (h : Hid (Kept a b)) (k : Kept b c) : Hid (Kept a c) := below_kept h.out k
set_option maxRecDepth 100000 in
set_option maxHeartbeats 8000000 in
theorem tells_any (s : ByteArray) (hs0 : s.size ≤ maxLen) (A : Option Addr) (c : Nat) (L : List Lab) (w : World) (hr : RdL w w.heap.size A L) (hT : Tab w) :
    Calls Tryz.prog 8 #[.string s, .slice A L.length c] w fun e w' => e = .returned (.bool true) ∧ Kept w w' := by
  by_cases hs : s.size ≤ 1500
  case neg =>
    have h1 : (1500 : Int) < (s.size : Int) := by omega
    clear hs0 hr hT
    go_enter Tryz.func8, Tryz.ntmps8
    go_wp2_with fail
    go_ret
    exact ⟨rfl, Below.refl _ _⟩
  have h1 : ¬ (1500 : Int) < (s.size : Int) := by omega
  have CS := Lib.hid (short_any A c L w hr)
  rcases hsh : shortB L with _ | _
  · rw [hsh] at CS
    clear hs0 hr hT hsh
    go_enter Tryz.func8, Tryz.ntmps8
    go_wp2_with (go_at_call 28; (with_reducible refine CS.out.mono ?_); rintro e w1 ⟨rfl, hk⟩; have HK1 := Lib.hid hk; clear hk)
    go_ret
    exact ⟨rfl, HK1.out⟩
  obtain ⟨hl, hsl⟩ := shortB_yes hsh
  rw [hsh] at CS
  have HR : Hid (∀ W, Kept w W → Rd W W.heap.size A (L.length * 2) (labs L)) := fun W h => (hr.below h).more h.size
  have HT : Hid (∀ W, Kept w W → Tab W) := fun W h => hT.below h
  have HS := Lib.hid hsl
  have CL : Hid (∀ W, Kept w W → Calls Tryz.prog 29 #[.slice A L.length c] W fun e w' => ∃ A' c', e = .returned (.slice A' L.length c') ∧ Lent w' W.heap.size A' c' L ∧ Kept W w') := fun W h => lentL_any A c L (by omega) W (HR.out W h)
  have CK : Hid (∀ W, Kept w W → Calls Tryz.prog 45 #[.slice A L.length c] W fun e w' => e = .returned (.tuple #[.int .i64 (chk L).1, .int .i64 (chk L).2]) ∧ Kept W w') := fun W h => refcheckL_any A c L (by omega) hsl W (HR.out W h)
  have CO : Hid (∀ W, Kept w W → Calls Tryz.prog 46 #[.slice A L.length c] W (AnsR (ofR L).1 (ofR L).2 W)) := fun W h => refof_any A c L (by omega) hsl W (HR.out W h)
  have CN := Lib.hid (fun W => name_any s W)
  have CN2 := Lib.hid (fun W => refname_false s (by omega) W)
  have CM := Lib.hid (fun W => metric_any s W)
  have CM2 := Lib.hid (fun W => refname_true s (by omega) W)
  have CV : Hid (∀ W, Kept w W → Calls Tryz.prog 48 #[.string s] W fun e w' => e = .returned (.bool (valB s)) ∧ Kept W w') := fun W h => value_any s W (HT.out W h)
  have CV2 := Lib.hid (fun W => refvalue_any s (by omega) W)
  have CG2 : Hid (∀ W x, Kept w W → Calls Tryz.prog 51 #[.slice A L.length c, .string x] W fun e w' => e = .returned (.string (getL x L)) ∧ Kept W w') := fun W x h => refget_any A c L (by omega) x W (HR.out W h)
  have HO1 : Hid (∀ W A' c', Kept w W → RdL W W.heap.size A' L → Calls Tryz.prog 12 #[.slice A' L.length c'] W fun e w' => e = .returned (.tuple #[.int .i64 (chk L).1, .int .i64 (chk L).2]) ∧ Kept W w') := fun W A' c' h h2 => check_any' A' c' L (by omega) W h2 (HT.out W h)
  have HO2 : Hid (∀ W A' c', Kept w W → RdL W W.heap.size A' L → Calls Tryz.prog 13 #[.slice A' L.length c'] W fun e w' => ∃ v, e = .returned (.tuple #[v, .int .i64 (ofR L).2]) ∧ w'.ownsRow W.heap.size 33 2 v (ofR L).1.length (labs (ofR L).1) ∧ Kept W w') := fun W A' c' h h2 => of_ans A' c' L (by omega) W h2 (HT.out W h)
  have HO3 : Hid (∀ W A' c', Kept w W → RdL W W.heap.size A' L → Calls Tryz.prog 16 #[.slice A' L.length c'] W fun e w' => e = .returned (.bool ((chk L).2 == 0)) ∧ Kept W w') := fun W A' c' h h2 => right_any A' c' L (by omega) W h2 (HT.out W h)
  have HO4 : Hid (∀ W A' c' x, RdL W W.heap.size A' L → Calls Tryz.prog 50 #[.slice A' L.length c', .string x] W fun e w' => e = .returned (.string (getL x L)) ∧ Kept W w') := fun W A' c' x h2 => get_any A' c' L (by omega) (fun y hy => by have := (hsl y hy).2; omega) x W h2
  have HI : Hid (∀ W A' c' A2 c2 q, RdL W W.heap.size A' (ofR L).1 → RdL W W.heap.size A2 (ofR L).1 → Calls Tryz.prog 36 #[.slice A' (ofR L).1.length c', .int .i64 q, .slice A2 (ofR L).1.length c2, .int .i64 q] W fun e w' => e = .returned (.bool true) ∧ Kept W w') := fun W A' c' A2 c2 q h1 h2 => is_any A' A2 c' c2 (ofR L).1 (by
    have := putsL_le L
    unfold ofR bndR
    split
    · split
      · simp
      · split
        · simp
        · dsimp only; omega
    · simp) q W h1 h2
  have HKe : Hid (∀ W base A' c', Lent W base A' c' L → Kept w W → Calls Tryz.prog 39 #[.slice A' L.length c', .slice A L.length c] W fun e w' => e = .returned (.bool true) ∧ Kept W w') := fun W base A' c' h1 h2 => by
    obtain ⟨g, rfl, _, _, hc, h3, h4⟩ := h1.rd
    exact keptL_any g c' c A L (by omega) W h3 h4 hc (HR.out W h2)
  have Hlen : Hid (∀ k, k < L.length → ∃ ad x, A = some ad ∧ x ∈ L ∧ ∀ W, Kept w W → ∀ j v, (#[.string x.1, .string x.2] : Array Value)[j]? = some v → W.cell? ((ad.add (k * 2)).add j) = some v) := fun k hk => by
    obtain ⟨ad, x, h2, hadb, hx, _, hc0, hc1⟩ := rdl_at hr hk
    exact ⟨ad, x, h2, List.mem_of_getElem? hx, fun W h => lab_cells ((Below.cell h (by rw [addBlock]; exact hadb)).trans hc0) ((Below.cell h (by rw [addBlock]; exact hadb)).trans hc1)⟩
  generalize hck : chk L = ck at *
  obtain ⟨ci, ce⟩ := ck
  dsimp only at CK HO1 HO3
  generalize nmB namB s = bn at *
  generalize nmB metB s = bm at *
  generalize valB s = bv at *
  generalize ofR L = oR at *
  obtain ⟨oL, oE⟩ := oR
  dsimp only at CO HO2 HI
  obtain ⟨n, hn⟩ : ∃ n, n = L.length := ⟨_, rfl⟩
  have Hn := Lib.hid hn
  rw [← hn] at CS HR CL CK CO CG2 HO1 HO2 HO3 HO4 HKe Hlen hl ⊢
  have K0 := Lib.hid (Below.refl w.heap.size w)
  clear hr hT hs0 hs hsl hsh hck hn
  go_enter Tryz.func8, Tryz.ntmps8
  go_upto_region 4 with (first
    | (go_at_call 28; (with_reducible refine CS.out.mono ?_); rintro e w1 ⟨rfl, hk⟩; have K : Hid (Kept w w1) := hk; clear hk)
    | (go_at_call 29; (with_reducible refine (CL.out _ K.out).mono ?_); rintro e w2 ⟨A', c', rfl, hl2, hk⟩; replace K := kk K hk; have HL2 := Lib.hid hl2; clear hk hl2))
  have HRA : Hid (∀ W, Kept w2 W → RdL W W.heap.size A' L) := fun W h => by
    obtain ⟨g, rfl, _, _, _, _, h4⟩ := (HL2.out.kept h).rd
    exact h4
  have J : Hid (Kept w2 w2) := Below.refl _ _
  clear CS CL
  go_upto_region 6 with (first
    | (go_at_call 12; (with_reducible refine (HO1.out _ A' c' K.out (HRA.out _ J.out)).mono ?_); rintro e wq ⟨rfl, hk⟩; replace K := kk K hk; replace J := kk J hk; clear hk)
    | (go_at_call 45; (with_reducible refine (CK.out _ K.out).mono ?_); rintro e wq ⟨rfl, hk⟩; replace K := kk K hk; replace J := kk J hk; clear hk))
  obtain ⟨w4, rfl⟩ : ∃ x, x = wq := ⟨_, rfl⟩
  have J4 := J
  have K4 := K
  have M : Hid (Kept w4 w4) := Below.refl _ _
  clear HO1 CK
  go_upto_region 7 with (go_at_call 13; (with_reducible refine (HO2.out _ A' c' K.out (HRA.out _ J.out)).mono ?_); rintro e w5 ⟨v, rfl, hown, hk⟩; replace K := kk K hk; replace J := kk J hk; replace M := kk M hk; have HOwn := Lib.hid hown; clear hk hown)
  obtain ⟨A4, c4, rfl, _, _, _⟩ := own_rdG HOwn.out
  clear HO2
  go_upto_region 8 with (go_at_call 46; (with_reducible refine (CO.out _ K.out).mono ?_); rintro e w6 ⟨A5, c5, rfl, hr5, hk⟩; replace K := kk K hk; replace J := kk J hk; replace M := kk M hk; have HOwn6 := Lib.hid (own_below HOwn.out hk); have HR5 := Lib.hid hr5; clear hk hr5)
  have HR4 : Hid (RdL w6 w6.heap.size A4 oL) := by
    obtain ⟨A', c', e, _, h, _⟩ := own_rdG HOwn6.out
    cases e
    exact h
  have Q : Hid (Kept w6 w6) := Below.refl _ _
  have HR4a : Hid (∀ W, Kept w6 W → RdL W W.heap.size A4 oL) := fun W h => rd_kept h HR4.out
  have HR5a : Hid (∀ W, Kept w6 W → RdL W W.heap.size A5 oL) := fun W h => rd_kept h HR5.out
  clear HOwn CO
  go_upto_region 10 with (first
    | (go_at_call 42; (with_reducible refine (CN.out _).mono ?_); rintro e wq ⟨rfl, hk⟩; replace K := kk K hk; replace J := kk J hk; replace M := kk M hk; replace Q := kk Q hk; clear hk)
    | (go_at_call 47; (with_reducible refine (CN2.out _).mono ?_); rintro e wq ⟨rfl, hk⟩; replace K := kk K hk; replace J := kk J hk; replace M := kk M hk; replace Q := kk Q hk; clear hk)
    | (go_at_call 43; (with_reducible refine (CM.out _).mono ?_); rintro e wq ⟨rfl, hk⟩; replace K := kk K hk; replace J := kk J hk; replace M := kk M hk; replace Q := kk Q hk; clear hk)
    | (go_at_call 47; (with_reducible refine (CM2.out _).mono ?_); rintro e wq ⟨rfl, hk⟩; replace K := kk K hk; replace J := kk J hk; replace M := kk M hk; replace Q := kk Q hk; clear hk)
    | (go_at_call 48; (with_reducible refine (CV.out _ K.out).mono ?_); rintro e wq ⟨rfl, hk⟩; replace K := kk K hk; replace J := kk J hk; replace M := kk M hk; replace Q := kk Q hk; clear hk)
    | (go_at_call 49; (with_reducible refine (CV2.out _).mono ?_); rintro e wq ⟨rfl, hk⟩; replace K := kk K hk; replace J := kk J hk; replace M := kk M hk; replace Q := kk Q hk; clear hk)
    | (go_at_call 16; (with_reducible refine (HO3.out _ A' c' K.out (HRA.out _ J.out)).mono ?_); rintro e wq ⟨rfl, hk⟩; replace K := kk K hk; replace J := kk J hk; replace M := kk M hk; replace Q := kk Q hk; clear hk)
    | (go_at_call 36; (with_reducible refine (HI.out _ A4 c4 A5 c5 oE (HR4a.out _ Q.out) (HR5a.out _ Q.out)).mono ?_); rintro e wq ⟨rfl, hk⟩; replace K := kk K hk; replace J := kk J hk; replace M := kk M hk; replace Q := kk Q hk; clear hk)
    | (go_at_call 50; (with_reducible refine (HO4.out _ A' c' s (HRA.out _ J.out)).mono ?_); rintro e wq ⟨rfl, hk⟩; replace K := kk K hk; replace J := kk J hk; replace M := kk M hk; replace Q := kk Q hk; clear hk)
    | (go_at_call 51; (with_reducible refine (CG2.out _ s K.out).mono ?_); rintro e wq ⟨rfl, hk⟩; replace K := kk K hk; replace J := kk J hk; replace M := kk M hk; replace Q := kk Q hk; clear hk))
  obtain ⟨w7, rfl⟩ : ∃ x, x = wq := ⟨_, rfl⟩
  clear CN CN2 CM CM2 CV CV2 HO3 HI
  have HOwn7 := Lib.hid (own_below HOwn6.out Q.out)
  clear HOwn6 Q HR4 HR5 HR4a HR5a
  go_wp2_with fail
  go_loopw [101] (fun v101 wr => ∃ k : Nat, k ≤ n ∧ v101 = .int .i64 k ∧ Hid (Kept w7 wr)) (fun v101 _ => n - (intOf v101).toNat)
  case atStart => exact ⟨0, by omega, rfl, Below.refl _ _⟩
  case round =>
    obtain ⟨k, hk, rfl, hkr⟩ := hrel
    by_cases hkn : k < n
    · obtain ⟨ad, ⟨xa, xb⟩, rfl, hxm, hcl⟩ := Hlen.out k hkn
      have Hcl := Lib.hid (hcl wr (below_kept K.out hkr.out))
      dsimp only at Hcl
      have k1 : Kept wr (wr.alloc (.cells #[.string xa, .string xb] 33)) := (Below.refl _ wr).alloc (Nat.le_refl _) _
      have q0 : (wr.alloc (.cells #[.string xa, .string xb] 33)).cell? ⟨wr.heap.size, 0, none⟩ = some (.string xa) := by rw [cell_of_row _ _ _ _ _ _ (heap_alloc_new wr _)]; rfl
      have hlt : wr.heap.size < (wr.alloc (.cells #[.string xa, .string xb] 33)).heap.size := by simp
      have K1 := Lib.hid k1
      have Q0 := Lib.hid q0
      have Hlt := Lib.hid hlt
      clear hcl k1 q0 hlt
      go_upto_region 13 with (first | (refine wpList_load_at rfl 33 (.tmp 103) rfl (ad.add (k * 2)) rfl #[.string (xa, xb).1, .string (xa, xb).2] _ Hcl.out Tryz.underlying33 rfl sizeL ?_))
      generalize wr.alloc (.cells #[.string xa, .string xb] 33) = wb at *
      obtain ⟨gb, hgb⟩ : ∃ g, g = wr.heap.size := ⟨_, rfl⟩
      rw [← hgb] at Q0 Hlt ⊢
      clear hgb Hcl
      have KW : Hid (Kept w wb) := below_kept K.out (below_kept hkr.out K1.out)
      have JW : Hid (Kept w2 wb) := below_kept J.out (below_kept hkr.out K1.out)
      have Hk : Hid (∀ W', Below wb.heap.size wb W' → W'.cell? ⟨gb, 0, none⟩ = some (.string xa) ∧ Below wb.heap.size wb W') := fun W' h => ⟨(Below.cell h Hlt.out).trans Q0.out, h⟩
      have HG1 : Hid (∀ W, Kept wb W → Calls Tryz.prog 50 #[.slice A' n c', .string xa] W fun e w' => e = .returned (.string (getL xa L)) ∧ Kept W w') := fun W h => HO4.out W A' c' xa (HRA.out _ (below_kept JW.out h))
      have HG2 : Hid (∀ W, Kept wb W → Calls Tryz.prog 51 #[.slice (some ad) n c, .string xa] W fun e w' => e = .returned (.string (getL xa L)) ∧ Kept W w') := fun W h => CG2.out W xa (below_kept KW.out h)
      have hb00 : Below wb.heap.size wb wb.drew := (Below.refl wb.heap.size wb).drew
      have q00 := (Hk.out _ (Below.refl _ _)).1
      generalize getL xa L = gv at *
      go_cut [113] (fun v113 wx => v113 = .bool false ∧ Hid (Kept wb wx))
      case first =>
        go_region_held3 (fun W' => W'.cell? ⟨gb, 0, none⟩ = some (.string xa) ∧ Below wb.heap.size wb W')
          ((refine Hk.out _ ?_; assumption))
          (first
            | (go_at_call 50; refine (HG1.out _ (by assumption)).mono ?_; rintro e wz ⟨rfl, hkz⟩; have kz : Below wb.heap.size wb wz := below_kept (by assumption) hkz; dsimp only)
            | (go_at_call 51; refine (HG2.out _ (by assumption)).mono ?_; rintro e wz ⟨rfl, hkz⟩; have kz : Below wb.heap.size wb wz := below_kept (by assumption) hkz; dsimp only))
        all_goals
          rename_i hS
          clear hS
          go_wp2_with fail
          go_meet
          exact ⟨by first | rfl | simp, kz⟩
      case rest =>
        obtain ⟨rfl, hk3⟩ := hcut
        have K9 : Hid (Kept w7 wc) := below_kept hkr.out (below_kept K1.out hk3.out)
        go_wp2_with fail
        go_roundw
        case rel => exact ⟨k + 1, by omega, by go_num, K9.out⟩
        case measure => simp [intOf]; omega
    · obtain rfl : k = n := by omega
      have Kr := kk K hkr.out
      have Jr := kk J hkr.out
      have Mr := kk M hkr.out
      have COv := Lib.hid (overL_any w4.heap.size _ _ _ wr (own_below HOwn7.out hkr.out))
      clear HO4 CG2 Hlen
      go_wp2_with (first
        | (go_at_call 52; (with_reducible refine COv.out.mono ?_); rintro e w8 ⟨rfl, hb⟩; have M8 : Hid (Kept w4 w8) := Below.trans Mr.out hb; clear hb)
        | (go_at_call 39; (with_reducible refine (HKe.out _ _ A' c' (HL2.out.kept (kk J4 M8.out).out) (kk K4 M8.out).out).mono ?_); rintro e w9 ⟨rfl, hk⟩; have K9 := kk (kk K4 M8.out) hk; clear hk))
      go_ret
      exact ⟨rfl, K9.out⟩
end Go.Proofs.YtlhekeokognhmaaGreatDoor
