/-
  What the reference's Read computes.
-/
import Derived.Test.YtlgdbhebcglkoaaDoorMdR
namespace Go.Proofs.YtlgdbhebcglkoaaDoor
open Go.RowKit Go.Shelf
/-- What a byte stands for. -/
def nx (c : Nat) : Nat := if 48 ≤ c ∧ c ≤ 57 then c - 48 else if 97 ≤ c ∧ c ≤ 102 then c - 87 else 0
theorem nx_lt (c : Nat) : nx c < 16 := by unfold nx; split <;> (try split) <;> omega
theorem nx_dg (n : Nat) (h : n < 16) : nx (dg n).toNat = n := by
  have h' : ∀ n : Fin 16, nx (dg n.1).toNat = n.1 := by decide
  exact h' ⟨n, h⟩
/-- The bytes behind k rounds. -/
def rr (l : List Int) : Nat → List Int
  | 0 => List.replicate 16 0
  | k + 1 => (rr l k).set (k / 2) (((((rr l k).getD (k / 2) 0).toNat * 16 % 256 + nx (l.getD k 0).toNat) % 256 : Nat) : Int)
theorem rr_length (l : List Int) (k : Nat) : (rr l k).length = 16 := by
  induction k with
  | zero => rfl
  | succ k ih => simp [rr, ih]
theorem rr_bts (l : List Int) (k : Nat) : Bts (rr l k) := by
  induction k with
  | zero =>
    intro c hc
    have := (List.mem_replicate.1 hc).2
    omega
  | succ k ih =>
    intro c hc
    rcases List.mem_or_eq_of_mem_set hc with h | h
    · exact ih c h
    · omega
theorem rr_rK (l : List Int) (k : Nat) (hk : k ≤ 32) (hd : digs l k) : rr l k = rK l k := by
  induction k with
  | zero => exact (rK_zero l).symm
  | succ k ih =>
    have hd' : digs l k := fun i hi => hd i (by omega)
    obtain ⟨o, ho, hoe, h0, h1⟩ := rK_old l k (by omega) hd'
    have hs := rK_succ l k o (hv l k) (by omega) h0 h1 rfl
    obtain ⟨hv16, hvd⟩ := hd k (by omega)
    show (rr l k).set (k / 2) _ = _
    rw [ih (by omega) hd', hoe, Int.toNat_natCast, ← hvd, nx_dg _ hv16, show (o * 16 % 256 + hv l k) % 256 = o * 16 + hv l k from by omega]
    have h := congrArg Array.toList hs
    rw [Array.toList_setIfInBounds] at h
    have h2 : u8s ((rK l k).set (k / 2) ((o * 16 + hv l k : Nat) : Int)) = u8s (rK l (k + 1)) := by
      have h3 : (u8s (rK l k)).set (k / 2) _ = u8s (rK l (k + 1)) := h
      rw [← h3]
      unfold u8s
      rw [List.map_set]
    unfold u8s at h2
    exact (List.map_inj_right (fun a b e => by injection e)).1 h2
theorem rr_row (l : List Int) (k : Nat) (o v : Nat) (ho : (rr l k).getD (k / 2) 0 = (o : Int)) (c : Nat) (hc : l.getD k 0 = (c : Int)) (hv : v = (o * 16 % 256 + nx c) % 256) :
    (u8s (rr l k)).toArray.setIfInBounds (k / 2) (.int .u8 (v : Int)) = (u8s (rr l (k + 1))).toArray := by
  apply Array.toList_inj.1
  rw [Array.toList_setIfInBounds]
  show (u8s (rr l k)).set (k / 2) _ = u8s ((rr l k).set (k / 2) _)
  rw [ho, hc, Int.toNat_natCast, Int.toNat_natCast, ← hv]
  unfold u8s
  rw [List.map_set]
theorem rr_tx (s : ByteArray) (h : s ≠ strOfNums (tx (rr (bys s) 32))) : noTx s := by
  intro D hl hb e
  have he := congrArg bys e
  rw [bys_strOfNums (tx_bts D hb)] at he
  have hd : digs (bys s) 32 := by
    have := tx_digs D hb
    rw [tx_length, hl] at this
    rw [he]
    exact this
  have hln : (bys s).length = 32 := by rw [he, tx_length, hl]
  apply h
  rw [rr_rK _ _ (Nat.le_refl _) hd, tx_rK _ hln hd, strNum_bys]
theorem rr_tx2 (s : ByteArray) (h : s.size ≠ 32) (D : List Int) (hl : D.length = 16) (hb : Bts D) : s ≠ strOfNums (tx D) := noTx_size s h D hl hb
set_option maxRecDepth 100000 in
set_option maxHeartbeats 4000000 in
theorem rread_any (s : ByteArray) (w : World) :
    Calls Tryd.prog 35 #[.string s] w fun e w' => ((∃ D, D.length = 16 ∧ Bts D ∧ s = strOfNums (tx D) ∧ e = .returned (.tuple #[.agg (u8s D).toArray, .int .i64 0])) ∨ (noTx s ∧ e = .returned (.tuple #[.agg z16, .int .i64 30]))) ∧ Below w.heap.size w w' := by
  have hix := fun (k : Nat) c hc => idx_at s (bys s) rfl k k rfl c hc
  have Hix := Lib.hid hix
  have Hbd := Lib.hid (show Bts (bys s) from bys_bd s)
  have Hrt := Lib.hid (rr_tx s)
  have Hlen := Lib.hid (bys_length s)
  obtain ⟨l, hll⟩ : ∃ l, l = bys s := ⟨_, rfl⟩
  rw [← hll] at Hix Hbd Hrt Hlen
  clear hix hll
  go_enter Tryd.func35, Tryd.ntmps35
  go_wp2_with fail
  generalize hw0 : World.alloc (World.alloc w _) _ = w0
  have hB0 : Below w.heap.size w w0 := by rw [← hw0]; exact ((Below.refl _ w).alloc (Nat.le_refl _) _).alloc (by simp) _
  have hg0 : w0.heap[w.heap.size]? = some (.cells z16 30 (0, 0)) := by rw [← hw0]; exact halloc _ (heap_alloc_new w _)
  have hg1 : w0.heap[w.heap.size + 1]? = some (.cells (u8s (rr l 0)).toArray 30 (0, 0)) := by rw [← hw0]; exact hnew _ (by simp)
  clear hw0
  have HB0 := Lib.hid hB0
  have HG0 := Lib.hid hg0
  have HG1 := Lib.hid hg1
  clear hB0 hg0 hg1
  go_loopw [5] (fun i wr => ∃ k : Nat, (k ≤ 32 ∧ k ≤ s.size) ∧ i = .int .i64 k ∧ Below w.heap.size w wr ∧ Hid (wr.heap[w.heap.size]? = some (.cells z16 30 (0, 0))) ∧ Hid (wr.heap[w.heap.size + 1]? = some (.cells (u8s (rr l k)).toArray 30 (0, 0)))) (fun i _ => 32 - (intOf i).toNat)
  case atStart => exact ⟨0, ⟨by omega, by omega⟩, rfl, HB0.out, HG0, HG1⟩
  case round =>
    clear HB0 HG0 HG1
    obtain ⟨k, ⟨hk, hks⟩, rfl, hB, hg0, hg1⟩ := hrel
    by_cases hk32 : k < 32 ∧ k < s.size
    · obtain ⟨hk1, hk2⟩ := hk32
      have hkI : (k : Int) < 32 := by omega
      have hkS : (k : Int) < (s.size : Int) := by omega
      have hcb := Hbd.out.getD k
      obtain ⟨c, hc⟩ := Int.eq_ofNat_of_zero_le hcb.1
      have hkl : k < l.length := by have := Hlen.out; omega
      have hix := Hix.out k (c : Int) (by rw [← hc]; simp [hkl])
      have hc255 : c ≤ 255 := by omega
      have hob := (rr_bts l k).getD (k / 2)
      obtain ⟨o, ho⟩ := Int.eq_ofNat_of_zero_le hob.1
      have ho255 : o ≤ 255 := by omega
      have Hrow := Lib.hid (fun v hv => rr_row l k o v ho c hc hv)
      obtain ⟨q, hq⟩ : ∃ q, k / 2 = q := ⟨_, rfl⟩
      have hqI : (k : Int) / 2 = (q : Int) := by omega
      have hq16 : q < 16 := by omega
      rw [hq] at Hrow ho
      have hcl : wr.cell? ⟨w.heap.size + 1, q, none⟩ = some (.int .u8 (o : Int)) := by
        rw [cell_of_row _ _ _ _ _ _ hg1.out, List.getElem?_toArray, u8s_get _ _ (by rw [rr_length]; omega), ho]
      have hf : wr.frozen? ⟨w.heap.size + 1, q, none⟩ = false := by simp [World.frozen?, hg1.out]
      obtain ⟨m, hm⟩ : ∃ m, o * 16 % 256 = m := ⟨_, rfl⟩
      have hmI : IntKind.u8.wrap ((o : Int) * 16) = (m : Int) := by rw [IntKind.wrap_u8]; omega
      have hmJ : (o : Int) * 16 % 256 = (m : Int) := by omega
      have hm255 : m ≤ 255 := by omega
      rw [hm] at Hrow
      clear hm ho hq hc hcb hob
      rcases (by omega : (c < 48) ∨ (48 ≤ c ∧ c ≤ 57) ∨ (57 < c ∧ c < 97) ∨ (97 ≤ c ∧ c ≤ 102) ∨ (102 < c)) with hr | hr | hr | hr | hr
      · have _hk0 : ¬ ((48 : Int) ≤ (c : Int)) := by omega
        have _hk1 : ((c : Int) ≤ 57) := by omega
        have _hk2 : ¬ ((97 : Int) ≤ (c : Int)) := by omega
        have _hk3 : ((c : Int) ≤ 102) := by omega
        have hnx : nx c = 0 := by unfold nx; rw [if_neg (by omega), if_neg (by omega)]
        obtain ⟨v, hv⟩ : ∃ v, v = m := ⟨_, rfl⟩
        have hv1 : IntKind.u8.wrap (m : Int) = (m : Int) := by rw [IntKind.wrap_u8]; omega
        have hv2 : (m : Int) % 256 = (m : Int) := by omega
        have Hs := Lib.hid (Hrow.out m (by rw [hnx]; omega))
        clear hnx hv
        go_wp2_with fail
        go_roundw
        case rel =>
          refine ⟨k + 1, ⟨by omega, by omega⟩, by go_num, hB.setCell (p := ⟨w.heap.size + 1, q, none⟩) (by show w.heap.size ≤ w.heap.size + 1; omega) _, ?_, ?_⟩
          · exact ((Below.setCell (Below.refl (w.heap.size + 1) wr) (p := ⟨w.heap.size + 1, q, none⟩) (Nat.le_refl _) _).block _ (by omega)).trans hg0.out
          · show _ = _
            rw [heap_setCell_same _ _ _ _ _ _ hg1.out, Hs.out]
        case measure => simp [intOf]; omega
      · have _hk0 : ((48 : Int) ≤ (c : Int)) := by omega
        have _hk1 : ((c : Int) ≤ 57) := by omega
        have _hk2 : ¬ ((97 : Int) ≤ (c : Int)) := by omega
        have _hk3 : ((c : Int) ≤ 102) := by omega
        obtain ⟨n, hn⟩ : ∃ n, c - 48 = n := ⟨_, rfl⟩
        have hn1 : IntKind.u8.wrap ((c : Int) - 48) = (n : Int) := by rw [IntKind.wrap_u8]; omega
        have hn2 : ((c : Int) - 48) % 256 = (n : Int) := by omega
        have hnx : nx c = n := by unfold nx; rw [if_pos (by omega)]; exact hn
        obtain ⟨v, hv⟩ : ∃ v, (m + n) % 256 = v := ⟨_, rfl⟩
        have hv1 : IntKind.u8.wrap ((m : Int) + (n : Int)) = (v : Int) := by rw [IntKind.wrap_u8]; omega
        have hv2 : ((m : Int) + (n : Int)) % 256 = (v : Int) := by omega
        have Hs := Lib.hid (Hrow.out v (by rw [hnx, hv]))
        clear hn hnx hv
        go_wp2_with fail
        go_roundw
        case rel =>
          refine ⟨k + 1, ⟨by omega, by omega⟩, by go_num, hB.setCell (p := ⟨w.heap.size + 1, q, none⟩) (by show w.heap.size ≤ w.heap.size + 1; omega) _, ?_, ?_⟩
          · exact ((Below.setCell (Below.refl (w.heap.size + 1) wr) (p := ⟨w.heap.size + 1, q, none⟩) (Nat.le_refl _) _).block _ (by omega)).trans hg0.out
          · show _ = _
            rw [heap_setCell_same _ _ _ _ _ _ hg1.out, Hs.out]
        case measure => simp [intOf]; omega
      · have _hk0 : ((48 : Int) ≤ (c : Int)) := by omega
        have _hk1 : ¬ ((c : Int) ≤ 57) := by omega
        have _hk2 : ¬ ((97 : Int) ≤ (c : Int)) := by omega
        have _hk3 : ((c : Int) ≤ 102) := by omega
        have hnx : nx c = 0 := by unfold nx; rw [if_neg (by omega), if_neg (by omega)]
        obtain ⟨v, hv⟩ : ∃ v, v = m := ⟨_, rfl⟩
        have hv1 : IntKind.u8.wrap (m : Int) = (m : Int) := by rw [IntKind.wrap_u8]; omega
        have hv2 : (m : Int) % 256 = (m : Int) := by omega
        have Hs := Lib.hid (Hrow.out m (by rw [hnx]; omega))
        clear hnx hv
        go_wp2_with fail
        go_roundw
        case rel =>
          refine ⟨k + 1, ⟨by omega, by omega⟩, by go_num, hB.setCell (p := ⟨w.heap.size + 1, q, none⟩) (by show w.heap.size ≤ w.heap.size + 1; omega) _, ?_, ?_⟩
          · exact ((Below.setCell (Below.refl (w.heap.size + 1) wr) (p := ⟨w.heap.size + 1, q, none⟩) (Nat.le_refl _) _).block _ (by omega)).trans hg0.out
          · show _ = _
            rw [heap_setCell_same _ _ _ _ _ _ hg1.out, Hs.out]
        case measure => simp [intOf]; omega
      · have _hk0 : ((48 : Int) ≤ (c : Int)) := by omega
        have _hk1 : ¬ ((c : Int) ≤ 57) := by omega
        have _hk2 : ((97 : Int) ≤ (c : Int)) := by omega
        have _hk3 : ((c : Int) ≤ 102) := by omega
        obtain ⟨n, hn⟩ : ∃ n, c - 87 = n := ⟨_, rfl⟩
        have hn1 : IntKind.u8.wrap ((c : Int) - 87) = (n : Int) := by rw [IntKind.wrap_u8]; omega
        have hn2 : ((c : Int) - 87) % 256 = (n : Int) := by omega
        have hnx : nx c = n := by unfold nx; rw [if_neg (by omega), if_pos (by omega)]; exact hn
        obtain ⟨v, hv⟩ : ∃ v, (m + n) % 256 = v := ⟨_, rfl⟩
        have hv1 : IntKind.u8.wrap ((m : Int) + (n : Int)) = (v : Int) := by rw [IntKind.wrap_u8]; omega
        have hv2 : ((m : Int) + (n : Int)) % 256 = (v : Int) := by omega
        have Hs := Lib.hid (Hrow.out v (by rw [hnx, hv]))
        clear hn hnx hv
        go_wp2_with fail
        go_roundw
        case rel =>
          refine ⟨k + 1, ⟨by omega, by omega⟩, by go_num, hB.setCell (p := ⟨w.heap.size + 1, q, none⟩) (by show w.heap.size ≤ w.heap.size + 1; omega) _, ?_, ?_⟩
          · exact ((Below.setCell (Below.refl (w.heap.size + 1) wr) (p := ⟨w.heap.size + 1, q, none⟩) (Nat.le_refl _) _).block _ (by omega)).trans hg0.out
          · show _ = _
            rw [heap_setCell_same _ _ _ _ _ _ hg1.out, Hs.out]
        case measure => simp [intOf]; omega
      · have _hk0 : ((48 : Int) ≤ (c : Int)) := by omega
        have _hk1 : ¬ ((c : Int) ≤ 57) := by omega
        have _hk2 : ((97 : Int) ≤ (c : Int)) := by omega
        have _hk3 : ¬ ((c : Int) ≤ 102) := by omega
        have hnx : nx c = 0 := by unfold nx; rw [if_neg (by omega), if_neg (by omega)]
        obtain ⟨v, hv⟩ : ∃ v, v = m := ⟨_, rfl⟩
        have hv1 : IntKind.u8.wrap (m : Int) = (m : Int) := by rw [IntKind.wrap_u8]; omega
        have hv2 : (m : Int) % 256 = (m : Int) := by omega
        have Hs := Lib.hid (Hrow.out m (by rw [hnx]; omega))
        clear hnx hv
        go_wp2_with fail
        go_roundw
        case rel =>
          refine ⟨k + 1, ⟨by omega, by omega⟩, by go_num, hB.setCell (p := ⟨w.heap.size + 1, q, none⟩) (by show w.heap.size ≤ w.heap.size + 1; omega) _, ?_, ?_⟩
          · exact ((Below.setCell (Below.refl (w.heap.size + 1) wr) (p := ⟨w.heap.size + 1, q, none⟩) (Nat.le_refl _) _).block _ (by omega)).trans hg0.out
          · show _ = _
            rw [heap_setCell_same _ _ _ _ _ _ hg1.out, Hs.out]
        case measure => simp [intOf]; omega
    · obtain ⟨D, hDe⟩ : ∃ D, D = rr l k := ⟨_, rfl⟩
      have hDl : D.length = 16 := by rw [hDe]; exact rr_length l k
      have hDb : Bts D := by rw [hDe]; exact rr_bts l k
      rw [← hDe] at hg1
      have Hno : Hid (s ≠ strOfNums (tx D) → noTx s) := by
        intro h
        by_cases hs : s.size = 32
        · obtain rfl : k = 32 := by omega
          rw [hDe] at h
          exact Hrt.out h
        · exact noTx_size s hs
      have HD := Lib.hid (show D.length = 16 ∧ Bts D from ⟨hDl, hDb⟩)
      have CT := Lib.hid (fun W => rtext_any D hDl hDb W)
      have Hsz16 : Hid ((Tryd.prog.info? 30).map (·.size) = some (u8s D).toArray.size) := by show _ = _; rw [List.size_toArray, u8s_length, hDl]; exact size16b
      have Hls : Hid ((u8s D).toArray.size = 16) := by show _ = _; rw [List.size_toArray, u8s_length, hDl]
      have Hone : Hid ((u8s D).toArray.all (·.oneCell') = true) := by
        show _ = _
        rw [Array.all_eq_true_iff_forall_mem]
        intro v hv
        exact u8s_one D v (by simpa using hv)
      generalize hL : (u8s D).toArray = L at hg1 Hsz16 Hone Hls CT
      have HL := Lib.hid hL
      obtain ⟨tD, htD⟩ : ∃ x, x = strOfNums (tx D) := ⟨_, rfl⟩
      rw [← htD] at CT Hno
      have HtD := Lib.hid htD
      clear hL hDe hDl hDb htD
      have hkS : ¬ ((k : Int) < (s.size : Int) ∧ (k : Int) < 32) := by omega
      have HB := Lib.hid hB
      clear hB
      by_cases hkz : (k : Int) < (s.size : Int)
      · have hk3 : ¬ (k : Int) < 32 := by omega
        clear hkS
        by_cases hts : tD = s
        · subst hts
          go_wp2_with (first
            | ((refine wpList_load_row ?c0 30 (.tmp 4) ?c1 (w.heap.size + 1) ?c2 30 L (0, 0) _ hg1.out Tryd.underlying30 ?c3 Hsz16.out ?_); (case c0 => with_reducible rfl); (case c1 => with_reducible rfl); (case c2 => rfl); (case c3 => rfl))
            | (go_at_call 36; refine (CT.out _).mono ?_; rintro e w1 ⟨rfl, hb1⟩; have hB1 := HB.out.trans (hb1.mono HB.out.size); have hg0' := heap_kept hb1 hg0.out; have hg1' := heap_kept hb1 hg1.out; have HB1 := Lib.hid hB1; have Hg0 := Lib.hid hg0'; have Hg1 := Lib.hid hg1'; clear hB1 hg0' hg1' hb1)
            | ((refine wpList_load_row ?c0 30 (.tmp 4) ?c1 (w.heap.size + 1) ?c2 30 L (0, 0) _ Hg1.out Tryd.underlying30 ?c3 Hsz16.out ?_); (case c0 => with_reducible rfl); (case c1 => with_reducible rfl); (case c2 => rfl); (case c3 => rfl))
            | ((refine wpList_store_row ?c0 30 (.tmp 2) (.tmp 60) ?c1 w.heap.size L ?c2 ?c3 _ _ Hg0.out ?c4 ?c5 ?c6 ?_); (case c0 => with_reducible rfl); (case c1 => with_reducible rfl); (case c2 => rfl); (case c3 => rfl); (case c4 => exact Hsz16.out); (case c5 => exact Hls.out.symm); (case c6 => exact Hone.out)))
          exact bodyPost_ret (results_row_tmp Tryd.results35 _ _ w.heap.size _ L (0, 0) _ rfl (setRow_heap _ _ _ _ _ _ Hg0.out) Tryd.underlying30 rfl Hsz16.out) rfl ⟨.inl ⟨D, HD.out.1, HD.out.2, HtD.out, by rw [HL.out]; rfl⟩, below_setRow HB1.out (Nat.le_refl _) _⟩
        · have Hno2 := Lib.hid (Hno.out fun e => hts e.symm)
          have hstr : (tD.toList == s.toList) = false := str_ne (fun e => hts (bys_eq e))
          clear Hno
          go_wp2_with (first
            | ((refine wpList_load_row ?c0 30 (.tmp 4) ?c1 (w.heap.size + 1) ?c2 30 L (0, 0) _ hg1.out Tryd.underlying30 ?c3 Hsz16.out ?_); (case c0 => with_reducible rfl); (case c1 => with_reducible rfl); (case c2 => rfl); (case c3 => rfl))
            | (go_at_call 36; refine (CT.out _).mono ?_; rintro e w1 ⟨rfl, hb1⟩; have hB1 := HB.out.trans (hb1.mono HB.out.size); have hg0' := heap_kept hb1 hg0.out; have HB1 := Lib.hid hB1; have Hg0 := Lib.hid hg0'; clear hB1 hg0' hb1)
            | ((refine wpList_store_row ?c0 30 (.tmp 2) (.tmp 59) ?c1 w.heap.size z16 ?c2 ?c3 _ _ Hg0.out ?c4 ?c5 ?c6 ?_); (case c0 => with_reducible rfl); (case c1 => with_reducible rfl); (case c2 => rfl); (case c3 => rfl); (case c4 => exact size16b); (case c5 => rfl); (case c6 => simp [Value.oneCell'])))
          exact bodyPost_ret (results_row_tmp Tryd.results35 _ _ w.heap.size _ z16 (0, 0) _ rfl (setRow_heap _ _ _ _ _ _ Hg0.out) Tryd.underlying30 rfl size16b) rfl ⟨.inr ⟨Hno2.out, rfl⟩, below_setRow HB1.out (Nat.le_refl _) _⟩
      · clear hkS
        by_cases hts : tD = s
        · subst hts
          go_wp2_with (first
            | ((refine wpList_load_row ?c0 30 (.tmp 4) ?c1 (w.heap.size + 1) ?c2 30 L (0, 0) _ hg1.out Tryd.underlying30 ?c3 Hsz16.out ?_); (case c0 => with_reducible rfl); (case c1 => with_reducible rfl); (case c2 => rfl); (case c3 => rfl))
            | (go_at_call 36; refine (CT.out _).mono ?_; rintro e w1 ⟨rfl, hb1⟩; have hB1 := HB.out.trans (hb1.mono HB.out.size); have hg0' := heap_kept hb1 hg0.out; have hg1' := heap_kept hb1 hg1.out; have HB1 := Lib.hid hB1; have Hg0 := Lib.hid hg0'; have Hg1 := Lib.hid hg1'; clear hB1 hg0' hg1' hb1)
            | ((refine wpList_load_row ?c0 30 (.tmp 4) ?c1 (w.heap.size + 1) ?c2 30 L (0, 0) _ Hg1.out Tryd.underlying30 ?c3 Hsz16.out ?_); (case c0 => with_reducible rfl); (case c1 => with_reducible rfl); (case c2 => rfl); (case c3 => rfl))
            | ((refine wpList_store_row ?c0 30 (.tmp 2) (.tmp 60) ?c1 w.heap.size L ?c2 ?c3 _ _ Hg0.out ?c4 ?c5 ?c6 ?_); (case c0 => with_reducible rfl); (case c1 => with_reducible rfl); (case c2 => rfl); (case c3 => rfl); (case c4 => exact Hsz16.out); (case c5 => exact Hls.out.symm); (case c6 => exact Hone.out)))
          exact bodyPost_ret (results_row_tmp Tryd.results35 _ _ w.heap.size _ L (0, 0) _ rfl (setRow_heap _ _ _ _ _ _ Hg0.out) Tryd.underlying30 rfl Hsz16.out) rfl ⟨.inl ⟨D, HD.out.1, HD.out.2, HtD.out, by rw [HL.out]; rfl⟩, below_setRow HB1.out (Nat.le_refl _) _⟩
        · have Hno2 := Lib.hid (Hno.out fun e => hts e.symm)
          have hstr : (tD.toList == s.toList) = false := str_ne (fun e => hts (bys_eq e))
          clear Hno
          go_wp2_with (first
            | ((refine wpList_load_row ?c0 30 (.tmp 4) ?c1 (w.heap.size + 1) ?c2 30 L (0, 0) _ hg1.out Tryd.underlying30 ?c3 Hsz16.out ?_); (case c0 => with_reducible rfl); (case c1 => with_reducible rfl); (case c2 => rfl); (case c3 => rfl))
            | (go_at_call 36; refine (CT.out _).mono ?_; rintro e w1 ⟨rfl, hb1⟩; have hB1 := HB.out.trans (hb1.mono HB.out.size); have hg0' := heap_kept hb1 hg0.out; have HB1 := Lib.hid hB1; have Hg0 := Lib.hid hg0'; clear hB1 hg0' hb1)
            | ((refine wpList_store_row ?c0 30 (.tmp 2) (.tmp 59) ?c1 w.heap.size z16 ?c2 ?c3 _ _ Hg0.out ?c4 ?c5 ?c6 ?_); (case c0 => with_reducible rfl); (case c1 => with_reducible rfl); (case c2 => rfl); (case c3 => rfl); (case c4 => exact size16b); (case c5 => rfl); (case c6 => simp [Value.oneCell'])))
          exact bodyPost_ret (results_row_tmp Tryd.results35 _ _ w.heap.size _ z16 (0, 0) _ rfl (setRow_heap _ _ _ _ _ _ Hg0.out) Tryd.underlying30 rfl size16b) rfl ⟨.inr ⟨Hno2.out, rfl⟩, below_setRow HB1.out (Nat.le_refl _) _⟩
end Go.Proofs.YtlgdbhebcglkoaaDoor
