/-
  PROVED: gauger/gaugerlaw02.HashChanges returns true for every input, and each argument reads afterwards as it read before.
  Conditions: those of the given row alone.
-/
import Derived.Test.YtbjidgbohblmiaaLaw0
import Derived.Test.YtbjidgbohblmiaaHashY
import Derived.Test.YtbjidgbohblmiaaHashQ
import Derived.Test.YtbjidgbohblmiaaHashW
import Derived.Test.YtbjidgbohblmiaaKept
import Derived.Test.YtbjidgbohblmiaaOpen0
import Derived.Deep.RegionHeld3
import Derived.Lib.ConvBytes
import Derived.Lib.Strings
import Derived.Deep.DeepCutAuto

namespace Go.Proofs.Ytbjidgbohblmiaa.hashChanges
open Go.ChangeShapes Go.WideShapes Go.ChangeAt Go.RowKit Go.WideMaps Go.WideElems
open Go.ChangeMaps (shut_map_nil open_string shut_string)


theorem bytes_frozen (w : World) (e : TypeId) (t : ByteArray) (k : Nat) (hk : k < t.size) : (Lib.bytesWorld w e t).frozen? ⟨w.heap.size, k, none⟩ = false := by
  unfold World.frozen?
  rw [Lib.bytesWorld_at_new]
  have : t.size ≤ (Lib.bytesCells w e t).size := by unfold Lib.bytesCells; simp
  simp
  omega
theorem bytes_cell (w : World) (t : ByteArray) (j : Nat) (hj : j < t.size) : (Lib.bytesWorld w 5 t).cell? ⟨w.heap.size, j, none⟩ = some (.int .u8 (t[j].toNat : Int)) := by
  rw [Lib.bytesWorld_cell w _ t j hj]
  have hl : j < t.data.toList.length := by simpa using hj
  rw [List.getD, List.getElem?_eq_getElem hl]
  rfl
/-- What lies behind the store of one byte: the conversion's row with that byte, in this and in every later world. -/
theorem conv_put (w : World) (t : ByteArray) (k : Nat) (hk : k < t.size) (c : UInt8) (cap : Nat) (W0 : World) (hW : (Lib.bytesWorld w 5 t).setCell ⟨w.heap.size, k, none⟩ (.int .u8 (c.toNat : Int)) = W0) :
    Below w.heap.size w W0 ∧ ∀ W, Below W0.heap.size W0 W → (convert 30 9 (.slice (some ⟨w.heap.size, 0, none⟩) t.size cap)).run Try.prog W = .ok (.string (putB t k c)) W := by
  have h0 : Below w.heap.size w (Lib.bytesWorld w 5 t) := ⟨rfl, rfl, rfl, by rw [Lib.bytesWorld_size]; omega, fun j hj => Lib.bytesWorld_at_old w _ t j hj⟩
  have hsz : W0.heap.size = w.heap.size + 1 := by rw [← hW]; have := Lib.bytesWorld_size w 5 t; simpa using this
  refine ⟨by rw [← hW]; exact h0.setCell (p := ⟨w.heap.size, k, none⟩) (Nat.le_refl _) _, fun W hB => ?_⟩
  have hcell : ∀ j (hj : j < t.size), W0.cell? ⟨w.heap.size, j, none⟩ = some (.int .u8 (if j = k then (c.toNat : Int) else (t[j].toNat : Int))) := by
    intro j hj
    rw [← hW]
    by_cases e : j = k
    · subst e
      rw [World.cell?_setCell_same' _ _ _ (by rw [bytes_cell w t j hj]; rfl), if_pos rfl]
    · rw [World.cell?_setCell_other _ _ _ _ (by intro e2; injection e2 with _ e2; exact e e2.symm), bytes_cell w t j hj, if_neg e]
  have hr := conv_rd W W.heap.size w.heap.size t.size cap (bys (putB t k c)) ⟨by rw [u8s_length, bys_length, putB_size], fun _ => ⟨_, rfl, (by show w.heap.size < W.heap.size; have := hB.size; omega), fun j u hu => by
    have hj : j < t.size := by
      have := (List.getElem?_eq_some_iff.1 hu).1
      rwa [u8s_length, bys_length, putB_size] at this
    rw [add0, hB.cell (p := ⟨w.heap.size, j, none⟩) (by show w.heap.size < _; omega), hcell j hj, ← hu]
    unfold u8s
    rw [List.getElem?_map, putB_bys t k c j hj]
    rfl⟩⟩
  rwa [strNum_bys] at hr

theorem rd_take {w : World} {B n : Nat} {A : Option Addr} {xs : List Value} (h : Rd w B A n xs) (k : Nat) (hk : k ≤ n) : Rd w B A k (xs.take k) := by
  refine ⟨by rw [List.length_take, h.1]; omega, fun h0 => ?_⟩
  obtain ⟨ad, e, hb, hc⟩ := h.2 (by omega)
  refine ⟨ad, e, hb, fun j u hu => hc j u ?_⟩
  have hj : j < (xs.take k).length := (List.getElem?_eq_some_iff.1 hu).1
  rw [List.length_take] at hj
  rw [List.getElem?_take, if_pos (by omega)] at hu
  exact hu
set_option maxRecDepth 100000 in
set_option maxHeartbeats 8000000 in
theorem walk (s : ByteArray) (at_ b : Int) (a0 : 0 ≤ at_) (a1 : at_ ≤ 65535) (b0 : 0 ≤ b) (b1 : b ≤ 255) (l : List ByteArray) (A : Option Addr) (n c : Nat) (hnc : n ≤ c) (w : World) (hr : Rd w w.heap.size A n (strs l)) (hsz : ∀ s ∈ l, s.size ≤ 9223372036854775807) :
    Calls Try.prog 8 #[.string s, .int .u16 at_, .int .u8 b, .slice A n c] w fun e w' => e = .returned (.bool true) ∧ Below w.heap.size w w' := by
  have Hr := Lib.hid hr
  have Hsz := Lib.hid hsz
  clear hr hsz
  obtain ⟨i0, hi, hz0, hz1, hz2⟩ := info_parts infoS
  go_enter Try.func8, Try.ntmps8
  go_upto_region 1 with fail
  go_cut [0] (fun v0 wx => (∃ T : ByteArray, v0 = .string T ∧ 1 ≤ T.size ∧ T.size ≤ 2001) ∧ wx = w)
  case first =>
    have h1 : (⟨#[120]⟩ : ByteArray).size = 1 := rfl
    have H1 := Lib.hid h1
    clear h1
    by_cases hs : (2000 : Int) < s.size
    · go_wp2_with fail
      go_meet
      exact ⟨⟨_, rfl, by rw [ByteArray.size_append, H1.out]; omega, by rw [ByteArray.size_append, H1.out, ByteArray.size_extract]; omega⟩, rfl⟩
    · go_wp2_with fail
      go_meet
      exact ⟨⟨_, rfl, by rw [ByteArray.size_append, H1.out]; omega, by rw [ByteArray.size_append, H1.out]; omega⟩, rfl⟩
  case rest =>
  obtain ⟨⟨T, rfl, t1, t2⟩, hw⟩ := hcut
  obtain rfl := hw.symm
  have t3 : ¬ T.size = 0 := by omega
  have hcv := fun (W : World) (t : ByteArray) => Lib.run_convert_string_bytes (P := Try.prog) W 9 30 5 t Try.underlying9 Try.underlying30 Try.underlying5
  obtain ⟨k, hk, hkT⟩ : ∃ k : Nat, at_ % (T.size : Int) = (k : Int) ∧ k < T.size := by
    have h1 := Int.emod_nonneg at_ (show (T.size : Int) ≠ 0 by omega)
    have h2 := Int.emod_lt_of_pos at_ (show 0 < (T.size : Int) by omega)
    exact ⟨(at_ % (T.size : Int)).toNat, by omega, by omega⟩
  obtain ⟨bm, hbm, m1, m2⟩ : ∃ bm : Int, Hid (bm = if b < 1 then 1 else b) ∧ 1 ≤ bm ∧ bm ≤ 255 := ⟨if b < 1 then 1 else b, rfl, by split <;> omega, by split <;> omega⟩
  obtain ⟨cc, hx, hne⟩ := xor_byte T[k] bm m1 m2
  have hcell := bytes_cell w T k hkT
  have hfro := bytes_frozen w 5 T k hkT
  obtain ⟨W0, hW0⟩ : ∃ W0, (Lib.bytesWorld w 5 T).setCell ⟨w.heap.size, k, none⟩ (.int .u8 (cc.toNat : Int)) = W0 := ⟨_, rfl⟩
  obtain ⟨hB0, hcv2⟩ := conv_put w T k hkT cc (grownCap w T.size 0 5) W0 hW0
  have p1 := addL_put Of T k hkT cc hne
  have p2 := addL_put 5#64 T k hkT cc hne
  have p3 := fun own => partsL_put T k hkT cc hne own
  have hOs := putB_size T k cc
  generalize putB T k cc = O at hcv2 p1 p2 p3 hOs
  generalize (T[k].toNat : Int) = bk at hx hcell
  have Hcv2 := Lib.hid hcv2; have Hx := Lib.hid hx
  have Hp1 := Lib.hid p1; have Hp2 := Lib.hid p2; have Hp3 := Lib.hid p3; have HOs := Lib.hid hOs; have HB0 := Lib.hid hB0
  clear hcv2 hx p1 p2 p3 hOs hne hB0
  go_upto_region 4 with fail
  simp only [hk]
  go_cut [10] (fun v10 wx => v10 = .slice (some ⟨w.heap.size, 0, none⟩) T.size (grownCap w T.size 0 5) ∧ wx = W0)
  case first =>
    by_cases hb : b < 1
    · have e : bm = 1 := by rw [hbm.out, if_pos hb]
      have hx := Hx.out
      rw [e] at hx
      clear e
      go_wp2_with fail
      go_meet
      exact ⟨rfl, rfl⟩
    · have e : bm = b := by rw [hbm.out, if_neg hb]
      have hx := Hx.out
      rw [e] at hx
      clear e
      go_wp2_with fail
      go_meet
      exact ⟨rfl, rfl⟩
  case rest =>
  obtain ⟨rfl, hw⟩ := hcut
  obtain rfl := hw.symm
  clear hW0 hcell hfro hk hcv
  have hb00 : Below W0.heap.size W0 W0.drew := (Below.refl _ _).drew
  have hcv2 := Hcv2.out
  have d1 := sum_any T (by omega)
  have d2 := sum_any O (by rw [HOs.out]; omega)
  have d3 := add_c 5#64 T 5 _ rfl rfl (by omega)
  have d4 := add_c 5#64 O 5 _ rfl rfl (by rw [HOs.out]; omega)
  have e5 : (((addL Of T.data.toList).toNat : Int) == ((addL Of O.data.toList).toNat : Int)) = false := by rw [beq_U, decide_eq_false Hp1.out]
  have e6 : (((addL 5#64 T.data.toList).toNat : Int) == ((addL 5#64 O.data.toList).toNat : Int)) = false := by rw [beq_U, decide_eq_false Hp2.out]
  unfold U at d1 d2
  generalize ((addL Of T.data.toList).toNat : Int) = x1 at d1 e5
  generalize ((addL Of O.data.toList).toNat : Int) = x2 at d2 e5
  generalize ((addL 5#64 T.data.toList).toNat : Int) = x3 at d3 e6
  generalize ((addL 5#64 O.data.toList).toNat : Int) = x4 at d4 e6
  have D1 := Lib.hid d1; have D2 := Lib.hid d2; have D3 := Lib.hid d3; have D4 := Lib.hid d4
  clear d1 d2 d3 d4
  go_upto_region 5 with fail
  go_cut [46] (fun v46 wx => v46 = .bool false ∧ Below W0.heap.size W0 wx)
  case first =>
    go_region_with (first
      | (go_at_call_of 20 T; refine (D1.out _).mono ?_; rintro e w1 ⟨rfl, k1⟩; have hb1 := below_kept (by repeat (first | assumption | exact Below.refl _ _ | refine below_alloc0 ?_ _)) k1)
      | (go_at_call_of 20 O; refine (D2.out _).mono ?_; rintro e w2 ⟨rfl, k2⟩; have hb2 := below_kept (by repeat (first | assumption | exact Below.refl _ _ | refine below_alloc0 ?_ _)) k2)
      | (go_at_call_of 18 T; refine (D3.out _).mono ?_; rintro e w3 ⟨rfl, k3⟩; have hb3 := below_kept (by repeat (first | assumption | exact Below.refl _ _ | refine below_alloc0 ?_ _)) k3)
      | (go_at_call_of 18 O; refine (D4.out _).mono ?_; rintro e w4 ⟨rfl, k4⟩; have hb4 := below_kept (by repeat (first | assumption | exact Below.refl _ _ | refine below_alloc0 ?_ _)) k4))
    all_goals
      go_wp2_with fail
      go_meet
      exact ⟨rfl, hb4⟩
  case rest =>
  obtain ⟨rfl, hB5⟩ := hcut
  clear D1 D2 D3 D4 hb00
  have Hcw := Lib.hid hcv2
  clear hcv2 e5 e6
  obtain ⟨w5, rfl⟩ : ∃ w5, w5 = wc := ⟨_, rfl⟩
  have HrA := Lib.hid ((Hr.out.below (HB0.out.trans (hB5.mono HB0.out.size))).more (HB0.out.trans (hB5.mono HB0.out.size)).size)
  go_upto_region 7 with fail
  go_cut [11] (fun v11 wx => ∃ (A7 : Option Addr) (m c7 : Nat) (own : List ByteArray), v11 = .slice A7 m c7 ∧ m ≤ 10 ∧ Rd wx wx.heap.size A7 m (strs own) ∧ (∀ s ∈ own, s.size ≤ 9223372036854775807) ∧ Below W0.heap.size W0 wx)
  case first =>
    by_cases hn : (10 : Int) < n
    · have hr10 := rd_take HrA.out 10 (by omega)
      have Hr10 := Lib.hid hr10
      clear hr10
      go_wp2_with (at_builtin; refine wpList_app_any _ rfl _ _ 23 rfl w5.heap.size 9 i0 (.string ⟨#[]⟩) 16 Try.underlying23 hi hz0 hz1 hz2 rfl _ 0 [] rfl (own_none (heap_alloc_new w5 _) (Nat.le_refl _)) w5.heap.size A 10 c ((strs l).take 10) rfl (Hr10.out.below ((Below.refl _ w5).alloc (Nat.le_refl _) _)) (fun u hu => strs_one l u (List.mem_of_mem_take hu)) (by unfold maxLen; omega) (by omega) (by simp) ?_; intro v2 w6 hown2 hg2; have Hown2 := Lib.hid hown2; have Hg2 := Lib.hid hg2; clear hown2 hg2)
      have hg2 : (w5.alloc (.cells #[] 9)).grownBy w6 (some w5.heap.size) := Hg2.out
      have hB6 : Below w5.heap.size w5 w6 := ((Below.refl _ w5).alloc (Nat.le_refl _) _).grown hg2 (by simp) (fun k e => by cases e; exact Nat.le_refl _)
      have hown2 := Hown2.out
      rw [Nat.zero_add, List.nil_append, show (strs l).take 10 = strs (l.take 10) from (List.map_take ..).symm] at hown2
      obtain ⟨A2, c2, rfl, _⟩ := own_slice hown2
      have hr2 := Lib.hid (Rd.of_own hown2)
      clear Hg2 hg2 Hown2 hown2
      go_wp2_with fail
      go_meet
      exact ⟨A2, 10, c2, l.take 10, rfl, by omega, hr2.out, fun s hs => Hsz.out s (List.mem_of_mem_take hs), hB5.trans (hB6.mono hB5.size)⟩
    · have Hr10 := HrA
      go_wp2_with (at_builtin; refine wpList_app_any _ rfl _ _ 23 rfl w5.heap.size 9 i0 (.string ⟨#[]⟩) 16 Try.underlying23 hi hz0 hz1 hz2 rfl _ 0 [] rfl (own_none (heap_alloc_new w5 _) (Nat.le_refl _)) w5.heap.size A n c (strs l) rfl (Hr10.out.below ((Below.refl _ w5).alloc (Nat.le_refl _) _)) (strs_one l) (by unfold maxLen; omega) (by omega) (by simp) ?_; intro v2 w6 hown2 hg2; have Hown2 := Lib.hid hown2; have Hg2 := Lib.hid hg2; clear hown2 hg2)
      have hg2 : (w5.alloc (.cells #[] 9)).grownBy w6 (some w5.heap.size) := Hg2.out
      have hB6 : Below w5.heap.size w5 w6 := ((Below.refl _ w5).alloc (Nat.le_refl _) _).grown hg2 (by simp) (fun k e => by cases e; exact Nat.le_refl _)
      have hown2 := Hown2.out
      rw [Nat.zero_add, List.nil_append] at hown2
      obtain ⟨A2, c2, rfl, _⟩ := own_slice hown2
      have hr2 := Lib.hid (Rd.of_own hown2)
      clear Hg2 hg2 Hown2 hown2
      go_wp2_with fail
      go_meet
      exact ⟨A2, n, c2, l, rfl, by omega, hr2.out, Hsz.out, hB5.trans (hB6.mono hB5.size)⟩
  case rest =>
  obtain ⟨A7, m, c7, own, rfl, hm10, hrO, hszO, hB8⟩ := hcut
  obtain ⟨w8, rfl⟩ : ∃ w8, w8 = wc := ⟨_, rfl⟩
  have HrO := Lib.hid hrO
  have HszO := Lib.hid hszO
  have hcv8 : ∀ W, Below w8.heap.size w8 W → (convert 30 9 (.slice (some ⟨w.heap.size, 0, none⟩) T.size (grownCap w T.size 0 5))).run Try.prog W = .ok (.string O) W := fun W hW => Hcw.out W (hB8.trans (hW.mono hB8.size))
  obtain ⟨N, hN⟩ : ∃ N, 1 + m = N := ⟨_, rfl⟩
  have hN2 : N ≤ 11 := by omega
  have HN := Lib.hid hN
  have q1 : ∀ (A' : Option Addr) (c' : Nat) (W : World), Rd W W.heap.size A' N (strs (T :: own)) → Calls Try.prog 21 #[.slice A' N c'] W fun e w' => e = .returned (U (partsL (T :: own))) ∧ Kept W w' := fun A' c' W hr => parts_any (T :: own) A' N c' W hr (by omega) (by intro s hs; rcases List.mem_cons.1 hs with rfl | h; omega; exact HszO.out s h)
  have q2 : ∀ (A' : Option Addr) (c' : Nat) (W : World), Rd W W.heap.size A' N (strs (O :: own)) → Calls Try.prog 21 #[.slice A' N c'] W fun e w' => e = .returned (U (partsL (O :: own))) ∧ Kept W w' := fun A' c' W hr => parts_any (O :: own) A' N c' W hr (by omega) (by intro s hs; rcases List.mem_cons.1 hs with rfl | h; (rw [HOs.out]; omega); exact HszO.out s h)
  have e7 : (((partsL (T :: own)).toNat : Int) != ((partsL (O :: own)).toNat : Int)) = true := by rw [bne_U, decide_eq_false (Hp3.out own)]; rfl
  unfold U at q1 q2
  generalize ((partsL (T :: own)).toNat : Int) = y1 at q1 e7
  generalize ((partsL (O :: own)).toNat : Int) = y2 at q2 e7
  have Q1 := Lib.hid q1; have Q2 := Lib.hid q2
  have HB8 : Below w.heap.size w w8 := HB0.out.trans (hB8.mono HB0.out.size)
  have hb80 : Below w8.heap.size w8 w8.drew := (Below.refl _ _).drew
  clear q1 q2 hrO hszO hN hB8 hB5 HrA Hr Hsz Hcw Hcv2 Hp1 Hp2 Hp3
  go_upto_region 8 with fail
  go_region_held3 (fun W => Below w8.heap.size w8 W) ((repeat (first | with_reducible assumption | with_reducible exact Below.refl _ _ | with_reducible refine below_alloc0 ?_ _ | with_reducible refine below_drew0 ?_))) ((first
    | (refine step_full (W0 := w8) (by rfl) _ _ 23 (by rfl) 9 i0 (.string ⟨#[]⟩) 16 Try.underlying23 hi hz0 hz1 hz2 (.string T) N A7 m c7 (strs own) (strs (T :: own)) (by rfl) HN.out (by omega) (by omega) _ (by rfl) (by rfl) ?_ ?_ HrO.out ?_; (focus ((repeat (first | (with_reducible refine heap_new' _ ?_; simp; done) | with_reducible refine heap_alloc0 ?_ _ | with_reducible refine heap_drew0 ?_ | with_reducible refine heap_kept (by with_reducible assumption) ?_)); done)); (focus ((repeat (first | with_reducible assumption | with_reducible exact Below.refl _ _ | with_reducible refine below_alloc0 ?_ _ | with_reducible refine below_drew0 ?_)); done)); intro A1 c1 wA hrA kA hbA)
    | (refine step_full (W0 := w8) (by rfl) _ _ 23 (by rfl) 9 i0 (.string ⟨#[]⟩) 16 Try.underlying23 hi hz0 hz1 hz2 (.string O) N A7 m c7 (strs own) (strs (O :: own)) (by rfl) HN.out (by omega) (by omega) _ (by rfl) (by rfl) ?_ ?_ HrO.out ?_; (focus ((repeat (first | (with_reducible refine heap_new' _ ?_; simp; done) | with_reducible refine heap_alloc0 ?_ _ | with_reducible refine heap_drew0 ?_ | with_reducible refine heap_kept (by with_reducible assumption) ?_)); done)); (focus ((repeat (first | with_reducible assumption | with_reducible exact Below.refl _ _ | with_reducible refine below_alloc0 ?_ _ | with_reducible refine below_drew0 ?_)); done)); intro A2 c2 wB hrB kB hbB)
    | (go_at_call_of 21 A2; refine (Q2.out A2 c2 _ ?_).mono ?_; (focus ((repeat (first | with_reducible exact hrB | with_reducible refine rd_alloc0 ?_ _ | with_reducible refine rd_drew0 ?_ | with_reducible refine rd_kept (by with_reducible assumption) ?_)); done)); rintro e wQ ⟨rfl, kQ⟩; have hbQ := below_kept (by repeat (first | with_reducible assumption | with_reducible exact Below.refl _ _ | with_reducible refine below_alloc0 ?_ _ | with_reducible refine below_drew0 ?_)) kQ; dsimp only)
    | (go_at_call_of 21 A1; refine (Q1.out A1 c1 _ ?_).mono ?_; (focus ((repeat (first | with_reducible exact hrA | with_reducible refine rd_alloc0 ?_ _ | with_reducible refine rd_drew0 ?_ | with_reducible refine rd_kept (by with_reducible assumption) ?_)); done)); rintro e wP ⟨rfl, kP⟩; have hbP := below_kept (by repeat (first | with_reducible assumption | with_reducible exact Below.refl _ _ | with_reducible refine below_alloc0 ?_ _ | with_reducible refine below_drew0 ?_)) kP; dsimp only)
    | (go_at_call 15; refine (hawake_any _).mono ?_; rintro e wW ⟨rfl, kW⟩; have hbW := below_kept (by repeat (first | with_reducible assumption | with_reducible exact Below.refl _ _ | with_reducible refine below_alloc0 ?_ _ | with_reducible refine below_drew0 ?_)) kW; dsimp only)))
  all_goals
    go_wp2_with fail
    go_ret
    exact ⟨rfl, HB8.trans (hbW.mono HB8.size)⟩

theorem params_ok : ∀ t ∈ Try.f8.params.toList, Try.prog.readableRec t = true ∧ t < Try.prog.types.size := by
  have h : Try.f8.params.toList.all (fun t => Try.prog.readableRec t && decide (t < Try.prog.types.size)) = true := by kernel_rfl
  intro t ht
  have := List.all_eq_true.1 h t ht
  simpa using this

set_option maxRecDepth 100000 in
set_option maxHeartbeats 2000000 in
theorem lifted (os : Os) (started : os.Started) (H : Type) (enc : TypeId × Value → H) :
    ReturnsInHanded {} Try.checked os 8 .any (Rows.hashChangesSpec.pre6 enc Try.prog Try.f8 Rows.hashChangesRow.domain false) (Rows.hashChangesSpec.post enc Try.prog Try.f8 false true false false) := by
  refine returnsInHanded_of_change (C := Try.checked) gOwn started (by kernel_rfl) Try.func8
    (ChangeSpec.witness6 (enc := enc) (C := Try.checked) false ⟨#[], #[.string ⟨#[]⟩, .int .u16 0, .int .u8 0, .slice none 0 0], []⟩ 8 (by kernel_rfl) (by kernel_rfl) (by kernel_rfl) (by kernel_rfl)) ?_
  intro W base args ds gs before hval0 hW hcnd _
  have hval : ∀ (j : Nat) t v, Try.f8.params[j]? = some t → args[j]? = some v → Value.okWide Try.prog W .any base t v := hval0
  have hW' := hW
  obtain ⟨p, q, hA0, hV, rfl, hfz, hnd⟩ := hW
  have hA : DataW.TrodAll enc Try.prog W 0 (fun _ => true) true Try.f8.params.toList args.toList ds p := hA0
  rw [Try.params8] at hA hval
  obtain ⟨v0, vs0, d0, ds0, p0, q0, hargs, rfl, rfl, h0, r0⟩ := trodAll_cons hA
  obtain ⟨v1, vs1, d1, ds1, p1, q1, rfl, rfl, rfl, h1, r1⟩ := trodAll_cons r0
  obtain ⟨v2, vs2, d2, ds2, p2, q2, rfl, rfl, rfl, h2, r2⟩ := trodAll_cons r1
  obtain ⟨v3, vs3, d3, ds3, p3, q3, rfl, rfl, rfl, h3, r3⟩ := trodAll_cons r2
  obtain ⟨rfl, rfl, rfl⟩ := trodAll_nil r3
  obtain rfl : args = #[v0, v1, v2, v3] := by cases args; simp_all
  obtain ⟨rfl, rfl⟩ := trodVars_none hV
  obtain ⟨s0, rfl, rfl, rfl, hs0⟩ := open_string Try.underlying9 (hval 0 9 v0 rfl rfl) h0
  obtain ⟨x1, rfl, rfl, rfl, w1⟩ := open_int Try.underlying35 (hval 1 35 v1 rfl rfl) h1
  have b1 := bounds_u16 w1
  obtain ⟨x2, rfl, rfl, rfl, w2⟩ := open_int Try.underlying5 (hval 2 5 v2 rfl rfl) h2
  have b2 := bounds_u8 w2
  obtain ⟨A3, n3, c3, zs3, rfl, hn3, hm3, hr3, hz3⟩ := open_strs Try.underlying23 Try.underlying9 (by kernel_rfl) (hval 3 23 v3 rfl rfl) h3
  refine (walk s0 x1 x2 (by omega) (by omega) (by omega) (by omega) zs3 A3 n3 c3 hn3 W hr3 hz3).mono fun e W' ⟨he, hb⟩ => ?_
  subst he
  exact ⟨_, rfl, law_post rfl rfl params_ok hW' rfl hb⟩

theorem said : Rows.HashChangesSaid :=
  OpenClaim.holds_of_wide 8 Try.f8 rfl rfl rfl rfl rfl rfl rfl ⟨rfl, rfl, rfl, rfl, rfl⟩ rfl rfl rfl rfl rfl (by kernel_rfl) Try.func8 (by kernel_rfl)
    (of_decide_eq_true (by kernel_rfl)) (by unfold Func.isWrapper; first | (rw [if_pos (by decide +kernel)]; kernel_rfl) | (rw [if_neg (by decide +kernel)]; exact ⟨rfl, rfl⟩))
    (fun os started H enc _ => lifted os started H enc)
end Go.Proofs.Ytbjidgbohblmiaa.hashChanges
