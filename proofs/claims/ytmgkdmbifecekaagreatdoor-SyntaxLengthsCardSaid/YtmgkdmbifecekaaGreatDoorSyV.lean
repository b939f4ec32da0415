/-
 Package syntax: said's closure.
-/
import Derived.Test.YtmgkdmbifecekaaGreatDoorMlar
import Derived.Test.YtmgkdmbifecekaaGreatDoorMlal
import Derived.Test.YtmgkdmbifecekaaGreatDoorMlak
import Derived.Deep.CutBlock
import Derived.Deep.DeepCutAuto
set_option linter.all false
set_option linter.unusedSimpArgs false
set_option linter.unusedVariables false
set_option linter.unusedSectionVars false
namespace Go.Proofs.YtmgkdmbifecekaaGreatDoor
open Go.RowKit Go.Shelf
/-- What the closure answers. -/
def SayPost (Wb : World) (kb sb mb : Nat) (kind room : Int) (ts : List Tree) (W : World) (e : Ending) (W' : World) : Prop :=
 ∃ f ok, e = .returned (.tuple #[fctV f, .bool ok]) ∧ (ok = true → okTs ts = true ∧ f = factsL kind ts) ∧ (ok = false → f = zeroT ∧ (okTs ts = false ∨ room < (factsL kind ts).depth)) ∧ SayI Wb kb sb mb W' ∧ W.grownBy W' (some mb)
section
variable (Wb : World) (kb sb mb : Nat)
abbrev SayC (kind : Int) (A : Option Addr) (c : Nat) (room : Int) (ts : List Tree) (W : World) : Prop :=
 Calls Tryz.prog 69 #[.int .u8 kind, .slice A ts.length c, .int .i64 room, .pointer (some ⟨kb, 0, none⟩), .pointer (some ⟨sb, 0, none⟩)] W (SayPost Wb kb sb mb kind room ts W)
theorem sizeFcL : (Tryz.prog.info? 134).map (·.size) = some 3 := by kernel_rfl
set_option maxRecDepth 10000 in
set_option maxHeartbeats 4000000 in
theorem say_nil (kind : Int) (A : Option Addr) (c : Nat) (room : Int) (W : World) (h : SayI Wb kb sb mb W) : SayC Wb kb sb mb kind A c room [] W := by
 have H := Lib.hid h
 clear h
 go_enter Tryz.func69, Tryz.ntmps69
 go_wp2_with fail
 have hK : Kept W (W.alloc (.cells #[.int .i64 0, .int .i64 0, .int .i64 0, .int .i64 0, .bool false, .bool false] 98)) := (Below.refl _ W).alloc (Nat.le_refl _) _
 exact bodyPost_ret (res_facts Tryz.results69 _ _ W.heap.size #[.int .i64 0, .int .i64 0, .int .i64 0, .int .i64 0, .bool false, .bool false] rfl rfl (heap_alloc_new W _)) rfl ⟨zeroT, true, rfl, fun _ => ⟨rfl, rfl⟩, (fun h => by cases h), H.out.kept hK, grown_of_kept hK⟩
set_option maxRecDepth 10000 in
set_option maxHeartbeats 4000000 in
theorem say_cons (kind : Int) (A : Option Addr) (c : Nat) (room : Int) (hroom : 0 ≤ room ∧ room ≤ 1000000) (ts : List Tree) (hne : ts ≠ []) (hlen : ts.length ≤ 1000000000000000000) (hd : (factsL kind ts).depth ≤ 1000000) (W : World)
  (IH : ∀ us : List Tree, szL us < szL ts → ∀ (kind : Int) (A : Option Addr) (c : Nat) (room : Int) (W : World) (ys : List Value), 0 ≤ room ∧ room ≤ 1000000 → us.length ≤ 1000000000000000000 → (factsL kind us).depth ≤ 1000000 → RdP Wb A (us.length * 6) ys → NodesC Wb us ys → SayI Wb kb sb mb W → SayC Wb kb sb mb kind A c room us W)
  (xs : List Value) (hth : Thin Wb mb) (hr : RdP Wb A (ts.length * 6) xs) (hc : NodesC Wb ts xs) (h : SayI Wb kb sb mb W) : SayC Wb kb sb mb kind A c room ts W := by
 have H := Lib.hid h
 have HI := Lib.hid IH
 clear IH
 have HR := Lib.hid hr
 have HC := Lib.hid hc
 have hn : 0 < ts.length := List.length_pos_iff.2 hne
 obtain ⟨n, hnn⟩ : ∃ n, n = ts.length := ⟨_, rfl⟩
 obtain ⟨p, rfl, hpb, _⟩ := hr.1.2 (by omega)
 have HL := Lib.hid (fun W (hg : Wb.grownBy W (some mb)) => (rdp_thin hth hg (by omega) hr).2 (by omega) p rfl)
 have Hth := Lib.hid hth
 clear hth
 obtain ⟨hroom0, hroom1⟩ := hroom
 clear h hr hc
 unfold SayC
 rw [← hnn] at hn hlen HR ⊢
 have Hn := Lib.hid hnn
 clear hnn
 have hn0 : ((n : Int) == 0) = false := by rw [beq_eq_false_iff_ne]; omega
 obtain ⟨es, cl, hm, hkn⟩ := H.out.m
 go_enter Tryz.func69, Tryz.ntmps69
 go_upto_region 4 with fail
 obtain ⟨W1, hW1⟩ : ∃ x, x = (W.alloc (.cells #[.int .i64 0, .int .i64 0, .int .i64 0, .int .i64 0, .bool false, .bool false] 98)).alloc (.cells #[.int .u8 kind, .pointer (some p), .int .i64 n] 134) := ⟨_, rfl⟩
 rw [← hW1]
 have hK1 : Kept W W1 := by rw [hW1]; exact ((Below.refl _ W).alloc (Nat.le_refl _) _).alloc (by simp) _
 have h8 : W1.heap[W.heap.size]? = some (.cells #[.int .i64 0, .int .i64 0, .int .i64 0, .int .i64 0, .bool false, .bool false] 98 (0, 0)) := by rw [hW1]; exact (Below.heap_alloc _ _ _ (by simp)).trans (heap_alloc_new W _)
 have h10 : W1.heap[W.heap.size + 1]? = some (.cells #[.int .u8 kind, .pointer (some p), .int .i64 n] 134 (0, 0)) := by
  have := heap_alloc_new (W.alloc (.cells #[.int .i64 0, .int .i64 0, .int .i64 0, .int .i64 0, .bool false, .bool false] 98)) (.cells #[.int .u8 kind, .pointer (some p), .int .i64 n] 134)
  rw [World.size_alloc] at this
  rw [hW1]
  exact this
 obtain ⟨b8, hb8⟩ : ∃ b, b = W.heap.size := ⟨_, rfl⟩
 obtain ⟨b10, hb10⟩ : ∃ b, b = W.heap.size + 1 := ⟨_, rfl⟩
 rw [← hb8] at h8
 rw [← hb10] at h10
 rw [← hb10, ← hb8]
 have hw8 : W.heap.size ≤ b8 := by omega
 have hw10 : W.heap.size ≤ b10 := by omega
 have H8 := Lib.hid h8
 have H10 := Lib.hid h10
 have HK1 := Lib.hid hK1
 have H1 := Lib.hid (H.out.kept hK1)
 have hm1 := heap_kept hK1 hm
 have ck : W1.cell? ⟨kb, 0, none⟩ = some (.map (some mb)) := by rw [cell_of_row _ _ _ _ _ _ H1.out.k]; rfl
 have hlk := look_known kind n p mb es cl W1 hm1 (HL.out W1 H1.out.g) (hkn.keys Hth.out H1.out.g)
 clear hW1 h8 h10 hK1 hb8 hb10
 rcases hlk with ⟨e, he, hk, hv⟩ | ⟨hno, hv⟩
 ·obtain ⟨hok, hval⟩ := hkn.at he (by rw [hk, Hn.out]) (by rw [← Hn.out]; exact HR.out) HC.out
  rw [hval] at hv
  obtain ⟨f, hf⟩ : ∃ f, f = factsL kind ts := ⟨_, rfl⟩
  rw [← hf] at hv
  have Hf := Lib.hid hf
  clear hf hval hk he hkn hm hm1
  obtain ⟨d, g, l, m, en, lo⟩ := f
  unfold fctV at hv
  dsimp only at hv
  have H8a : Hid ((W1.alloc (.cells #[.int .i64 d, .int .i64 g, .int .i64 l, .int .i64 m, .bool en, .bool lo] 98)).heap[b8]? = some (.cells #[.int .i64 0, .int .i64 0, .int .i64 0, .int .i64 0, .bool false, .bool false] 98 (0, 0))) := (Below.heap_alloc _ _ _ (heap_lt H8.out)).trans H8.out
  have HK2 : Hid (Kept W (W1.alloc (.cells #[.int .i64 d, .int .i64 g, .int .i64 l, .int .i64 m, .bool en, .bool lo] 98))) := HK1.out.alloc HK1.out.size _
  go_wp2_with (first | ((refine wpList_load_row ?c0 134 (.tmp 10) ?c1 b10 ?c2 134 #[.int .u8 kind, .pointer (some p), .int .i64 n] (0, 0) _ H10.out Tryz.underlying134 ?c3 sizeFcL ?_); (case c0 => with_reducible rfl); (case c1 => with_reducible rfl); (case c2 => rfl); (case c3 => rfl)) | ((refine wpList_store_row ?c0 98 (.tmp 8) (.tmp 35) ?c1 b8 #[.int .i64 d, .int .i64 g, .int .i64 l, .int .i64 m, .bool en, .bool lo] ?c2 ?c3 _ _ H8a.out ?c4 ?c5 ?c6 ?_); (case c0 => with_reducible rfl); (case c1 => with_reducible rfl); (case c2 => rfl); (case c3 => rfl); (case c4 => exact sizeFc); (case c5 => rfl); (case c6 => simp [Value.oneCell'])))
  have HK3 := below_setRow HK2.out hw8 #[.int .i64 d, .int .i64 g, .int .i64 l, .int .i64 m, .bool en, .bool lo]
  exact bodyPost_ret (res_facts Tryz.results69 _ _ b8 #[.int .i64 d, .int .i64 g, .int .i64 l, .int .i64 m, .bool en, .bool lo] rfl rfl (setRow_heap _ _ _ _ _ _ H8a.out)) rfl ⟨⟨d, g, l, m, en, lo⟩, true, rfl, fun _ => ⟨hok, Hf.out⟩, (fun h => by cases h), H.out.kept HK3, grown_of_kept HK3⟩
 ·clear hno
  have Hm : Hid (mb < W.heap.size) := heap_lt hm
  have hkW := heap_lt H.out.k
  have hsW := heap_lt H.out.s
  have hwb8 : Wb.heap.size ≤ b8 := Nat.le_trans H.out.g.size hw8
  have hwbW := H.out.g.size
  clear hkn hm hm1
  unfold fctV at hv
  dsimp only at hv
  go_wp2_with (first | ((refine wpList_load_row ?c0 134 (.tmp 10) ?c1 b10 ?c2 134 #[.int .u8 kind, .pointer (some p), .int .i64 n] (0, 0) _ H10.out Tryz.underlying134 ?c3 sizeFcL ?_); (case c0 => with_reducible rfl); (case c1 => with_reducible rfl); (case c2 => rfl); (case c3 => rfl)))
  obtain ⟨W2, hW2⟩ : ∃ x, x = (W1.alloc (.cells #[.int .i64 0, .int .i64 0, .int .i64 0, .int .i64 0, .bool false, .bool false] 98)).alloc (.cells #[.int .i64 0, .int .i64 0, .int .i64 0, .int .i64 0, .bool false, .bool false] 98) := ⟨_, rfl⟩
  rw [← hW2]
  have hK2 : Kept W1 W2 := by rw [hW2]; exact ((Below.refl _ W1).alloc (Nat.le_refl _) _).alloc (by simp) _
  have h13 : W2.heap[W1.heap.size + 1]? = some (.cells #[.int .i64 0, .int .i64 0, .int .i64 0, .int .i64 0, .bool false, .bool false] 98 (0, 0)) := by
   have := heap_alloc_new (W1.alloc (.cells #[.int .i64 0, .int .i64 0, .int .i64 0, .int .i64 0, .bool false, .bool false] 98)) (.cells #[.int .i64 0, .int .i64 0, .int .i64 0, .int .i64 0, .bool false, .bool false] 98)
   rw [World.size_alloc] at this
   rw [hW2]
   exact this
  obtain ⟨b13, hb13⟩ : ∃ b, b = W1.heap.size + 1 := ⟨_, rfl⟩
  rw [← hb13] at h13
  rw [← hb13]
  have hw13 : W.heap.size ≤ b13 := by have := HK1.out.size; omega
  have hw13b : W1.heap.size ≤ b13 := by omega
  have h813 : b8 ≠ b13 := by have := heap_lt H8.out; omega
  have h1013 : b10 ≠ b13 := by have := heap_lt H10.out; omega
  have A0 := Lib.hid (H1.out.kept hK2)
  have A1 := Lib.hid (grown_of_kept (r := some mb) (below_kept HK1.out hK2))
  have A2 := Lib.hid (heap_kept hK2 H8.out)
  have A3 := Lib.hid (heap_kept hK2 H10.out)
  have A4 := Lib.hid h13
  clear hW2 hK2 h13 hb13 H8 H10 H1 HK1 hv ck
  go_loopw [38] (fun v38 wr => ∃ k : Nat, k ≤ n ∧ v38 = .int .i64 k ∧ Hid (okTs (ts.take k) = true) ∧ Hid (SayI Wb kb sb mb wr) ∧ Hid (W.grownBy wr (some mb)) ∧ Hid (wr.heap[b8]? = some (.cells #[.int .i64 0, .int .i64 0, .int .i64 0, .int .i64 0, .bool false, .bool false] 98 (0, 0))) ∧ Hid (wr.heap[b10]? = some (.cells #[.int .u8 kind, .pointer (some p), .int .i64 n] 134 (0, 0))) ∧ Hid (wr.heap[b13]? = some (.cells (fctC (factsL kind (ts.take k))) 98 (0, 0)))) (fun v38 _ => n - (intOf v38).toNat)
  case atStart => exact ⟨0, Nat.zero_le _, rfl, rfl, A0, A1, A2, A3, A4⟩
  case round =>
   obtain ⟨k, hk, rfl, Hok, B0, B1, B2, B3, B4⟩ := hrel
   obtain ⟨wq, rfl⟩ : ∃ x, x = wr := ⟨_, rfl⟩
   clear A0 A1 A2 A3 A4
   by_cases hkn : k < n
   ·obtain ⟨t, ht⟩ : ∃ t, ts[k]? = some t := ⟨_, List.getElem?_eq_getElem (by rw [← Hn.out]; exact hkn)⟩
    have hmem : t ∈ ts := List.mem_of_getElem? ht
    have htd := factsL_d kind ts t hmem
    have hsz := szL_mem ts t hmem
    obtain ⟨kd, set, mn, mx, lz, subs⟩ := t
    obtain ⟨A1, c1, A2, c2, hz, hset, ⟨ys, hys, hyc⟩, hcell⟩ := node_cells HR.out HC.out ht
    have hcq : ∀ j v, (#[.int .u8 kd, .slice A1 set.length c1, .int .i64 mn, .int .i64 mx, .bool lz, .slice A2 subs.length c2] : Array Value)[j]? = some v → wq.cell? ((p.add (k * 6)).add j) = some v := fun j v hv => (cell_thin Hth.out B0.out.g HR.out (by omega) _ (by rw [addBlock, addBlock])).trans (hcell j v hv)
    have Hset : Hid (RdR wq wq.heap.size A1 set) := rd_thin Hth.out B0.out.g (by omega) hset
    have Hz := Lib.hid hz
    have Hys := Lib.hid hys
    have Hyc := Lib.hid hyc
    have Htd := Lib.hid htd
    have Hsz := Lib.hid hsz
    have Ht := Lib.hid ht
    have Hmem := Lib.hid hmem
    clear ht hmem htd hsz hz hset hys hyc hcell
    have hki : (k : Int) < n := by omega
    obtain ⟨W4, hW4⟩ : ∃ x, x = wq.alloc (.cells #[.int .u8 kd, .slice A1 set.length c1, .int .i64 mn, .int .i64 mx, .bool lz, .slice A2 subs.length c2] 25) := ⟨_, rfl⟩
    have hK4 : Kept wq W4 := by rw [hW4]; exact (Below.refl _ wq).alloc (Nat.le_refl _) _
    have D2 := Lib.hid (heap_kept hK4 B2.out)
    have D0 := Lib.hid (B0.out.kept hK4)
    have D1 : Hid (W.grownBy W4 (some mb)) := grown_trans B1.out (grown_of_kept hK4)
    have D4 := Lib.hid (heap_kept hK4 B4.out)
    have D3 := Lib.hid (heap_kept hK4 B3.out)
    have D5 : Hid (W4.heap[wq.heap.size]? = some (.cells #[.int .u8 kd, .slice A1 set.length c1, .int .i64 mn, .int .i64 mx, .bool lz, .slice A2 subs.length c2] 25 (0, 0))) := by rw [hW4]; exact heap_alloc_new wq _
    have Hset4 : Hid (RdR W4 W4.heap.size A1 set) := rd_kept hK4 Hset.out
    by_cases hr0 : room = 0
    ·have hrb : (room == 0) = true := by simp [hr0]
     have Hw : Hid (room < (factsL kind ts).depth) := by
      have := Htd.out
      have h1 := factsT_d0 (.mk kd set mn mx lz subs)
      show _ < _
      omega
     clear hr0
     subst hW4
     go_wp2_with (first | (refine wpList_load_at rfl 25 (.tmp 41) rfl (p.add (k * 6)) rfl #[.int .u8 kd, .slice A1 set.length c1, .int .i64 mn, .int .i64 mx, .bool lz, .slice A2 subs.length c2] _ hcq Tryz.underlying25 rfl sizeNd ?_) | ((refine wpList_store_row ?c0 98 (.tmp 8) (.tmp 50) ?c1 b8 #[.int .i64 0, .int .i64 0, .int .i64 0, .int .i64 0, .bool false, .bool false] ?c2 ?c3 _ _ D2.out ?c4 ?c5 ?c6 ?_); (case c0 => with_reducible rfl); (case c1 => with_reducible rfl); (case c2 => rfl); (case c3 => rfl); (case c4 => exact sizeFc); (case c5 => rfl); (case c6 => simp [Value.oneCell'])))
     exact bodyPost_ret (res_facts Tryz.results69 _ _ b8 #[.int .i64 0, .int .i64 0, .int .i64 0, .int .i64 0, .bool false, .bool false] rfl rfl (setRow_heap _ _ _ _ _ _ D2.out)) rfl ⟨zeroT, false, rfl, (fun h => by cases h), fun _ => ⟨rfl, .inr Hw.out⟩, D0.out.set hwb8 (by omega) (by omega) (by have := Hm.out; omega) _, grown_setRow D1.out hw8 _⟩
    ·have hrb : (room == 0) = false := by simp [hr0]
     have CA := Lib.hid (alone_any kd A1 c1 mn mx lz A2 subs.length c2 W4 set Hz.out.1 Hset4.out)
     obtain ⟨al, hal⟩ : ∃ al, al = aloneF kd set.length (rgtR 0 set) mn mx lz subs.length := ⟨_, rfl⟩
     rw [← hal] at CA
     have Hal := Lib.hid hal
     clear hal
     cases al
     ·have Hno : Hid (okTs ts = false) := by
       show _ = _
       rw [Bool.eq_false_iff]
       intro h9
       have h8 := (okTs_iff ts).1 h9 _ Hmem.out
       rw [okTr_mk, ← Hal.out] at h8
       cases h8.1
      go_wp2_with (first | (refine wpList_load_at rfl 25 (.tmp 41) rfl (p.add (k * 6)) rfl #[.int .u8 kd, .slice A1 set.length c1, .int .i64 mn, .int .i64 mx, .bool lz, .slice A2 subs.length c2] _ hcq Tryz.underlying25 rfl sizeNd ?_) | (go_at_call 70; rw [← hW4]; refine CA.out.mono ?_; rintro e w5 ⟨rfl, hk5⟩; have F2 := Lib.hid (heap_kept hk5 D2.out); have F0 := Lib.hid (D0.out.kept hk5); have F1 : Hid (W.grownBy w5 (some mb)) := grown_trans D1.out (grown_of_kept hk5); clear hk5) | ((refine wpList_store_row ?c0 98 (.tmp 8) (.tmp 50) ?c1 b8 #[.int .i64 0, .int .i64 0, .int .i64 0, .int .i64 0, .bool false, .bool false] ?c2 ?c3 _ _ F2.out ?c4 ?c5 ?c6 ?_); (case c0 => with_reducible rfl); (case c1 => with_reducible rfl); (case c2 => rfl); (case c3 => rfl); (case c4 => exact sizeFc); (case c5 => rfl); (case c6 => simp [Value.oneCell'])))
      exact bodyPost_ret (res_facts Tryz.results69 _ _ b8 #[.int .i64 0, .int .i64 0, .int .i64 0, .int .i64 0, .bool false, .bool false] rfl rfl (setRow_heap _ _ _ _ _ _ F2.out)) rfl ⟨zeroT, false, rfl, (fun h => by cases h), fun _ => ⟨rfl, .inl Hno.out⟩, F0.out.set hwb8 (by omega) (by omega) (by have := Hm.out; omega) _, grown_setRow F1.out hw8 _⟩
     ·go_upto_region 13 with (first | (refine wpList_load_at rfl 25 (.tmp 41) rfl (p.add (k * 6)) rfl #[.int .u8 kd, .slice A1 set.length c1, .int .i64 mn, .int .i64 mx, .bool lz, .slice A2 subs.length c2] _ hcq Tryz.underlying25 rfl sizeNd ?_) | (go_at_call 70; rw [← hW4]; refine CA.out.mono ?_; rintro e w5 ⟨rfl, hk5⟩; have F2 := Lib.hid (heap_kept hk5 D2.out); have F0 := Lib.hid (D0.out.kept hk5); have F1 : Hid (W.grownBy w5 (some mb)) := grown_trans D1.out (grown_of_kept hk5); have F4 := Lib.hid (heap_kept hk5 D4.out); have F3 := Lib.hid (heap_kept hk5 D3.out); have F5 := Lib.hid (heap_kept hk5 D5.out); clear hk5))
      have Hal2 : Hid (okTr (.mk kd set mn mx lz subs) = okTs subs) := by
       show _ = _
       rw [Bool.eq_iff_iff, okTr_mk, ← Hal.out]
       simp
      have hAm : kd = 5 → 0 ≤ mn ∧ mn ≤ 1000 := fun h5 => by
       have := tmsB_bd (aloneF_mn Hal.out.symm h5)
       omega
      have hsd : (factsL kd subs).depth + 1 ≤ (factsL kind ts).depth := by
       have := Htd.out
       rw [factsT_mk, ofF_d] at this
       exact this
      have Hsd := Lib.hid hsd
      have HAm := Lib.hid hAm
      clear hAm
      have hszs : szL subs < szL ts := by
       have := Hsz.out
       rw [szT] at this
       omega
      have CI := Lib.hid (HI.out subs hszs kd A2 c2 (room - 1) w5 ys (by omega) Hz.out.2 (by omega) Hys.out Hyc.out F0.out)
      have es : w5.cell? ⟨sb, 0, none⟩ = some (.func (.func 69) #[] #[.pointer (some ⟨kb, 0, none⟩), .pointer (some ⟨sb, 0, none⟩)]) := by rw [cell_of_row _ _ _ _ _ _ F0.out.s]; rfl
      have e0 : w5.cell? ⟨wq.heap.size, 0, none⟩ = some (.int .u8 kd) := by rw [cell_of_row _ _ _ _ _ _ F5.out]; rfl
      have e5 : w5.cell? ⟨wq.heap.size, 5, none⟩ = some (.slice A2 subs.length c2) := by rw [cell_of_row _ _ _ _ _ _ F5.out]; rfl
      obtain ⟨b15, hb15⟩ : ∃ b, b = wq.heap.size := ⟨_, rfl⟩
      rw [← hb15] at F5 e0 e5 ⊢
      have hw15 : W.heap.size ≤ b15 := by have := B1.out.size; omega
      have h1513' : b15 ≠ b13 := by have := heap_lt B4.out; omega
      clear hsd hszs hb15
      go_wp2_with fail
      refine CI.out.mono ?_
      rintro e w6 ⟨⟨d, g, l, m, en, lo⟩, ok, rfl, hT, hF, I6, G6⟩
      have hmb := Hm.out
      have hK7 : Kept w6 (w6.alloc (.cells #[.int .i64 d, .int .i64 g, .int .i64 l, .int .i64 m, .bool en, .bool lo] 98)) := (Below.refl _ w6).alloc (Nat.le_refl _) _
      have G2 : Hid ((w6.alloc (.cells #[.int .i64 d, .int .i64 g, .int .i64 l, .int .i64 m, .bool en, .bool lo] 98)).heap[b8]? = some (.cells #[.int .i64 0, .int .i64 0, .int .i64 0, .int .i64 0, .bool false, .bool false] 98 (0, 0))) := heap_kept hK7 (grown_heap G6 F2.out (by intro e9; cases e9; omega))
      have G3 : Hid ((w6.alloc (.cells #[.int .i64 d, .int .i64 g, .int .i64 l, .int .i64 m, .bool en, .bool lo] 98)).heap[b10]? = some (.cells #[.int .u8 kind, .pointer (some p), .int .i64 n] 134 (0, 0))) := heap_kept hK7 (grown_heap G6 F3.out (by intro e9; cases e9; omega))
      have G4 : Hid ((w6.alloc (.cells #[.int .i64 d, .int .i64 g, .int .i64 l, .int .i64 m, .bool en, .bool lo] 98)).heap[b13]? = some (.cells (fctC (factsL kind (ts.take k))) 98 (0, 0))) := heap_kept hK7 (grown_heap G6 F4.out (by intro e9; cases e9; omega))
      have G5 : Hid ((w6.alloc (.cells #[.int .i64 d, .int .i64 g, .int .i64 l, .int .i64 m, .bool en, .bool lo] 98)).heap[b15]? = some (.cells #[.int .u8 kd, .slice A1 set.length c1, .int .i64 mn, .int .i64 mx, .bool lz, .slice A2 subs.length c2] 25 (0, 0))) := heap_kept hK7 (grown_heap G6 F5.out (by intro e9; cases e9; omega))
      have G0 := Lib.hid (I6.kept hK7)
      have G1 : Hid (W.grownBy (w6.alloc (.cells #[.int .i64 d, .int .i64 g, .int .i64 l, .int .i64 m, .bool en, .bool lo] 98)) (some mb)) := grown_trans (grown_trans F1.out G6) (grown_of_kept hK7)
      have hw16 : W.heap.size ≤ w6.heap.size := (grown_trans F1.out G6).size
      have h1316 : b13 ≠ w6.heap.size := by have := heap_lt (grown_heap G6 F4.out (by intro e9; cases e9; omega)); omega
      have HT := Lib.hid hT
      have HF := Lib.hid hF
      clear CI es e0 e5 F0 F1 F2 F3 F4 F5 hK7 I6 G6 hT hF
      cases ok
      ·obtain ⟨hz0, hno⟩ := HF.out rfl
       have Hno : Hid (okTs ts = false ∨ room < (factsL kind ts).depth) := by
        rcases hno with h9 | h9
        ·left
         rw [Bool.eq_false_iff]
         intro h8
         have h7 := (okTs_iff ts).1 h8 _ Hmem.out
         rw [Hal2.out, h9] at h7
         cases h7
        ·right
         have := Hsd.out
         omega
       clear hno hz0
       unfold fctV
       dsimp only
       go_wp2_with (first | ((refine wpList_store_row ?c0 98 (.tmp 8) (.tmp 71) ?c1 b8 #[.int .i64 0, .int .i64 0, .int .i64 0, .int .i64 0, .bool false, .bool false] ?c2 ?c3 _ _ G2.out ?c4 ?c5 ?c6 ?_); (case c0 => with_reducible rfl); (case c1 => with_reducible rfl); (case c2 => rfl); (case c3 => rfl); (case c4 => exact sizeFc); (case c5 => rfl); (case c6 => simp [Value.oneCell'])))
       exact bodyPost_ret (res_facts Tryz.results69 _ _ b8 #[.int .i64 0, .int .i64 0, .int .i64 0, .int .i64 0, .bool false, .bool false] rfl rfl (setRow_heap _ _ _ _ _ _ G2.out)) rfl ⟨zeroT, false, rfl, (fun h => by cases h), fun _ => ⟨rfl, Hno.out⟩, G0.out.set hwb8 (by omega) (by omega) (by omega) _, grown_setRow G1.out hw8 _⟩
      ·obtain ⟨hsub, hff⟩ := HT.out rfl
       have Hff := Lib.hid hff
       have HokT : Hid (okTr (.mk kd set mn mx lz subs) = true) := Hal2.out.trans hsub
       have Hok1 : Hid (okTs (ts.take (k + 1)) = true) := by
        show _ = _
        rw [okTs_iff]
        intro u hu
        rw [List.take_add_one, Ht.out] at hu
        rcases List.mem_append.1 hu with hu | hu
        ·exact (okTs_iff _).1 Hok.out u hu
        ·simp at hu
         rw [hu]
         exact HokT.out
       have CO := Lib.hid (fun w => of_any ⟨d, g, l, m, en, lo⟩ ((show FctIn ⟨d, g, l, m, en, lo⟩ from by rw [hff]; exact factsL_in kd subs hsub).ok (by rw [hff]; have := Hsd.out; omega)) kd A1 set.length c1 mn mx lz A2 subs.length c2 HAm.out w)
       have Hft : Hid (ofF ⟨d, g, l, m, en, lo⟩ kd mn mx = factsT (.mk kd set mn mx lz subs)) := by show _ = _; rw [factsT_mk, hff]
       rw [Hft.out] at CO
       clear hsub hff HF HT Hft
       by_cases hk0 : k = 0
       ·have hkb : ((k : Int) == 0) = true := by simp [hk0]
        obtain ⟨F, hF⟩ : ∃ F, F = factsT (.mk kd set mn mx lz subs) := ⟨_, rfl⟩
        rw [← hF] at CO
        have Hnew : Hid (factsL kind (ts.take (k + 1)) = F) := by
         show _ = _
         rw [List.take_add_one, Ht.out, hk0, List.take_zero, hF]
         exact factsL_one kind _
        clear hk0 hF
        obtain ⟨d', g', l', m', en', lo'⟩ := F
        unfold fctC at G4
        unfold fctV at CO
        dsimp only at CO
        unfold fctV
        dsimp only
        go_wp2_with (first | ((refine wpList_load_row ?c0 25 (.tmp 15) ?c1 b15 ?c2 25 #[.int .u8 kd, .slice A1 set.length c1, .int .i64 mn, .int .i64 mx, .bool lz, .slice A2 subs.length c2] (0, 0) _ G5.out Tryz.underlying25 ?c3 sizeNd ?_); (case c0 => with_reducible rfl); (case c1 => with_reducible rfl); (case c2 => rfl); (case c3 => rfl)) | (go_at_call 71; refine (CO.out _).mono ?_; rintro e w8 ⟨rfl, hk8⟩; have J0 := Lib.hid (G0.out.kept hk8); have J1 : Hid (W.grownBy w8 (some mb)) := grown_trans G1.out (grown_of_kept hk8); have J2 := Lib.hid (heap_kept hk8 G2.out); have J3 := Lib.hid (heap_kept hk8 G3.out); have J4 := Lib.hid (heap_kept hk8 G4.out); clear hk8) | ((refine wpList_store_row ?c0 98 (.tmp 13) (.tmp 77) ?c1 b13 #[.int .i64 d', .int .i64 g', .int .i64 l', .int .i64 m', .bool en', .bool lo'] ?c2 ?c3 _ _ J4.out ?c4 ?c5 ?c6 ?_); (case c0 => with_reducible rfl); (case c1 => with_reducible rfl); (case c2 => rfl); (case c3 => rfl); (case c4 => exact sizeFc); (case c5 => rfl); (case c6 => simp [Value.oneCell'])))
        refine ⟨⟨k + 1, by omega, by go_num, Hok1, J0.out.set (by omega) (by omega) (by omega) (by omega) _, grown_setRow J1.out hw13 _, (heap_setRow_out h813 _).trans J2.out, (heap_setRow_out h1013 _).trans J3.out, ?_⟩, ?_⟩
        ·show _ = _
         rw [Hnew.out]
         exact setRow_heap _ _ _ _ _ _ J4.out
        ·simp [intOf]
         omega
       ·have hkb : ((k : Int) == 0) = false := by rw [beq_eq_false_iff_ne]; omega
        obtain ⟨F, hF⟩ : ∃ F, F = factsT (.mk kd set mn mx lz subs) := ⟨_, rfl⟩
        obtain ⟨TT, hTT⟩ : ∃ F, F = factsL kind (ts.take k) := ⟨_, rfl⟩
        rw [← hF] at CO
        rw [← hTT] at G4
        have hFi : FctIn F := by rw [hF]; exact factsT_in _ HokT.out
        have hTi : FctIn TT := by rw [hTT]; exact factsL_in kind _ Hok.out
        have CN := Lib.hid (fun w => and_any TT F hTi hFi kind w)
        obtain ⟨R, hR⟩ : ∃ R, R = andF TT F kind := ⟨_, rfl⟩
        rw [← hR] at CN
        have Hnew : Hid (factsL kind (ts.take (k + 1)) = R) := by
         show _ = _
         rw [List.take_add_one, Ht.out, hR, hF, hTT]
         refine factsL_app kind _ _ ?_
         intro e9
         have := congrArg List.length e9
         rw [List.length_take, ← Hn.out, List.length_nil] at this
         omega
        clear hF hTT hFi hTi hR
        obtain ⟨d', g', l', m', en', lo'⟩ := F
        obtain ⟨d1, g1, l1, m1, en1, lo1⟩ := TT
        obtain ⟨d2, g2, l2, m2, en2, lo2⟩ := R
        unfold fctV at CO CN
        unfold fctC at G4
        dsimp only at CO CN G4
        unfold fctV
        dsimp only
        go_upto_region 14 with fail
        have G6 : Hid ((w6.alloc (.cells #[.int .i64 d, .int .i64 g, .int .i64 l, .int .i64 m, .bool en, .bool lo] 98)).heap[w6.heap.size]? = some (.cells #[.int .i64 d, .int .i64 g, .int .i64 l, .int .i64 m, .bool en, .bool lo] 98 (0, 0))) := heap_alloc_new w6 _
        obtain ⟨b16, hb16⟩ : ∃ b, b = w6.heap.size := ⟨_, rfl⟩
        rw [← hb16] at G6 h1316 ⊢
        obtain ⟨w7, hw7⟩ : ∃ x, x = w6.alloc (.cells #[.int .i64 d, .int .i64 g, .int .i64 l, .int .i64 m, .bool en, .bool lo] 98) := ⟨_, rfl⟩
        rw [← hw7] at G0 G1 G2 G3 G4 G5 G6 ⊢
        clear hw7 hb16
        have h1513 : b15 ≠ b13 := h1513'
        have h1613 : b16 ≠ b13 := fun e9 => h1316 e9.symm
        have HKc : Hid (Kept w7 w7.drew) := below_drew0 (Below.refl _ w7)
        refine wp_region_held_drew (S := fun W => W.heap[b15]? = some (.cells #[.int .u8 kd, .slice A1 set.length c1, .int .i64 mn, .int .i64 mx, .bool lz, .slice A2 subs.length c2] 25 (0, 0)) ∧ W.heap[b16]? = some (.cells #[.int .i64 d, .int .i64 g, .int .i64 l, .int .i64 m, .bool en, .bool lo] 98 (0, 0))) (by kernel_rfl) ?_ (fun hHeld => ?_)
        ·exact ⟨heap_kept HKc.out G5.out, heap_kept HKc.out G6.out⟩
        refine wpAnyH_takeC (i := 1) (oi := ⟨some 63, _, _, _, _, _⟩) rfl (by kernel_rfl) (by kernel_rfl) (by kernel_rfl) (fun _ _ _ h => h) (((yieldsC_row rfl 98 _ rfl ⟨b16, 0, none⟩ rfl #[.int .i64 d, .int .i64 g, .int .i64 l, .int .i64 m, .bool en, .bool lo] _ (fun w hw => row_cells hw.2) Tryz.underlying98 rfl sizeFc))) hHeld ?_
        try simp only [pU1, pU2, pU3, pU4]
        refine wpAnyH_takeC (i := 2) (oi := ⟨some 64, _, _, _, _, _⟩) rfl (by kernel_rfl) (by kernel_rfl) (by kernel_rfl) (fun _ _ _ h => h) (((yieldsC_row rfl 25 _ rfl ⟨b15, 0, none⟩ rfl #[.int .u8 kd, .slice A1 set.length c1, .int .i64 mn, .int .i64 mx, .bool lz, .slice A2 subs.length c2] _ (fun w hw => row_cells hw.1) Tryz.underlying25 rfl sizeNd))) hHeld ?_
        try simp only [pU1, pU2, pU3, pU4]
        refine tkC 4 (oi := ⟨some 66, _, _, _, _, _⟩) (v := ?_) rfl (by kernel_rfl) (fun _ _ _ h => h) (by rfl) ?_ hHeld ?_
        rotate_left
        ·(intro w hSw; refine .inl ?_; go_simp; (try with_reducible rfl))
        try simp only [pU1, pU2, pU3, pU4]
        refine wpAnyH_ready (rs := [0, 3]) (by kernel_rfl) (by simp) ?_
        refine AllReadyH.cons (o := ⟨some 62, _, _, _, _, _⟩) rfl (fun K hK => ?_) (AllReadyH.cons (o := ⟨some 65, _, _, _, _, _⟩) rfl (fun K hK => ?_) (AllReadyH.nil))
        ·
         have L4 := heap_kept HKc.out G4.out
         have z0 := row_cells L4 0 _ rfl
         have z1 := row_cells L4 1 _ rfl
         have z2 := row_cells L4 2 _ rfl
         have z3 := row_cells L4 3 _ rfl
         have z4 := row_cells L4 4 _ rfl
         have z5 := row_cells L4 5 _ rfl
         rw [add0] at z0 z1 z2 z3 z4 z5
         go_simp
         refine hK.out _ _ hHeld (fun hHeld2 => ?_)
         replace hHeld := hHeld2
         clear hHeld2
         clear z0 z1 z2 z3 z4 z5 L4
         clear hK
         try simp only [pU1, pU2, pU3, pU4]
         refine wpAnyH_ready (rs := [3]) (by kernel_rfl) (by simp) ?_
         refine AllReadyH.cons (o := ⟨some 65, _, _, _, _, _⟩) rfl (fun K hK => ?_) (AllReadyH.nil)
         go_simp
         refine (CO.out _).mono ?_
         rintro e w8 ⟨rfl, hk8⟩
         replace HKc := Lib.hid (below_kept HKc.out hk8)
         refine hK.out _ _ ⟨heap_kept hk8 hHeld.1, heap_kept hk8 hHeld.2⟩ (fun hHeld2 => ?_)
         replace hHeld := hHeld2
         clear hk8 hHeld2
         clear hK
         try simp only [pU1, pU2, pU3, pU4]
         refine wpAnyH_ready (rs := [5]) (by kernel_rfl) (by simp) ?_
         refine AllReadyH.cons (o := ⟨some 67, _, _, _, _, _⟩) rfl (fun K hK => ?_) (AllReadyH.nil)
         go_simp
         refine (CN.out _).mono ?_
         rintro e w9 ⟨rfl, hk9⟩
         replace HKc := Lib.hid (below_kept HKc.out hk9)
         refine hK.out _ _ ⟨heap_kept hk9 hHeld.1, heap_kept hk9 hHeld.2⟩ (fun hHeld2 => ?_)
         replace hHeld := hHeld2
         clear hk9 hHeld2
         clear hK
         try simp only [pU1, pU2, pU3, pU4]
         refine wpAnyH_ready (rs := [6]) (by kernel_rfl) (by simp) ?_
         refine AllReadyH.cons (o := ⟨none, _, _, _, _, _⟩) rfl (fun K hK => ?_) (AllReadyH.nil)
         have L4 := heap_kept HKc.out G4.out
         have z0 := row_cells L4 0 _ rfl
         have z1 := row_cells L4 1 _ rfl
         have z2 := row_cells L4 2 _ rfl
         have z3 := row_cells L4 3 _ rfl
         have z4 := row_cells L4 4 _ rfl
         have z5 := row_cells L4 5 _ rfl
         rw [add0] at z0 z1 z2 z3 z4 z5
         have zf : ∀ j, w9.frozen? ⟨b13, j, none⟩ = false := fun j => by simp [World.frozen?, show w9.heap[b13]? = _ from L4]
         go_simp
         rw [setCell6 L4]
         have hHs := hHeld
         refine hK.out _ _ ⟨(heap_setRow_out h1513 _).trans hHeld.1, (heap_setRow_out h1613 _).trans hHeld.2⟩ (fun hHeld2 => ?_)
         clear hHeld2 hHeld zf z0 z1 z2 z3 z4 z5
         clear hK
         try simp only [pU1, pU2, pU3, pU4]
         refine wpAnyH_done (by kernel_rfl) ?_ _
         have Q0 := Lib.hid (G0.out.kept HKc.out)
         have Q1 : Hid (W.grownBy w9 (some mb)) := grown_trans G1.out (grown_of_kept HKc.out)
         have Q2 := Lib.hid (heap_kept HKc.out G2.out)
         have Q3 := Lib.hid (heap_kept HKc.out G3.out)
         have Q4 := Lib.hid L4
         clear hHs L4 G0 G1 G2 G3 G4 G5 G6 HKc CO CN
         go_wp2_with fail
         refine ⟨⟨k + 1, by omega, by go_num, Hok1, Q0.out.set (by omega) (by omega) (by omega) (by omega) _, grown_setRow Q1.out hw13 _, (heap_setRow_out h813 _).trans Q2.out, (heap_setRow_out h1013 _).trans Q3.out, ?_⟩, ?_⟩
         ·show _ = _
          rw [Hnew.out]
          exact setRow_heap _ _ _ _ _ _ Q4.out
         ·simp [intOf]
          omega
        ·
         go_simp
         refine (CO.out _).mono ?_
         rintro e w8 ⟨rfl, hk8⟩
         replace HKc := Lib.hid (below_kept HKc.out hk8)
         refine hK.out _ _ ⟨heap_kept hk8 hHeld.1, heap_kept hk8 hHeld.2⟩ (fun hHeld2 => ?_)
         replace hHeld := hHeld2
         clear hk8 hHeld2
         clear hK
         try simp only [pU1, pU2, pU3, pU4]
         refine wpAnyH_ready (rs := [0]) (by kernel_rfl) (by simp) ?_
         refine AllReadyH.cons (o := ⟨some 62, _, _, _, _, _⟩) rfl (fun K hK => ?_) (AllReadyH.nil)
         have L4 := heap_kept HKc.out G4.out
         have z0 := row_cells L4 0 _ rfl
         have z1 := row_cells L4 1 _ rfl
         have z2 := row_cells L4 2 _ rfl
         have z3 := row_cells L4 3 _ rfl
         have z4 := row_cells L4 4 _ rfl
         have z5 := row_cells L4 5 _ rfl
         rw [add0] at z0 z1 z2 z3 z4 z5
         go_simp
         refine hK.out _ _ hHeld (fun hHeld2 => ?_)
         replace hHeld := hHeld2
         clear hHeld2
         clear z0 z1 z2 z3 z4 z5 L4
         clear hK
         try simp only [pU1, pU2, pU3, pU4]
         refine wpAnyH_ready (rs := [5]) (by kernel_rfl) (by simp) ?_
         refine AllReadyH.cons (o := ⟨some 67, _, _, _, _, _⟩) rfl (fun K hK => ?_) (AllReadyH.nil)
         go_simp
         refine (CN.out _).mono ?_
         rintro e w9 ⟨rfl, hk9⟩
         replace HKc := Lib.hid (below_kept HKc.out hk9)
         refine hK.out _ _ ⟨heap_kept hk9 hHeld.1, heap_kept hk9 hHeld.2⟩ (fun hHeld2 => ?_)
         replace hHeld := hHeld2
         clear hk9 hHeld2
         clear hK
         try simp only [pU1, pU2, pU3, pU4]
         refine wpAnyH_ready (rs := [6]) (by kernel_rfl) (by simp) ?_
         refine AllReadyH.cons (o := ⟨none, _, _, _, _, _⟩) rfl (fun K hK => ?_) (AllReadyH.nil)
         have L4 := heap_kept HKc.out G4.out
         have z0 := row_cells L4 0 _ rfl
         have z1 := row_cells L4 1 _ rfl
         have z2 := row_cells L4 2 _ rfl
         have z3 := row_cells L4 3 _ rfl
         have z4 := row_cells L4 4 _ rfl
         have z5 := row_cells L4 5 _ rfl
         rw [add0] at z0 z1 z2 z3 z4 z5
         have zf : ∀ j, w9.frozen? ⟨b13, j, none⟩ = false := fun j => by simp [World.frozen?, show w9.heap[b13]? = _ from L4]
         go_simp
         rw [setCell6 L4]
         have hHs := hHeld
         refine hK.out _ _ ⟨(heap_setRow_out h1513 _).trans hHeld.1, (heap_setRow_out h1613 _).trans hHeld.2⟩ (fun hHeld2 => ?_)
         clear hHeld2 hHeld zf z0 z1 z2 z3 z4 z5
         clear hK
         try simp only [pU1, pU2, pU3, pU4]
         refine wpAnyH_done (by kernel_rfl) ?_ _
         have Q0 := Lib.hid (G0.out.kept HKc.out)
         have Q1 : Hid (W.grownBy w9 (some mb)) := grown_trans G1.out (grown_of_kept HKc.out)
         have Q2 := Lib.hid (heap_kept HKc.out G2.out)
         have Q3 := Lib.hid (heap_kept HKc.out G3.out)
         have Q4 := Lib.hid L4
         clear hHs L4 G0 G1 G2 G3 G4 G5 G6 HKc CO CN
         go_wp2_with fail
         refine ⟨⟨k + 1, by omega, by go_num, Hok1, Q0.out.set (by omega) (by omega) (by omega) (by omega) _, grown_setRow Q1.out hw13 _, (heap_setRow_out h813 _).trans Q2.out, (heap_setRow_out h1013 _).trans Q3.out, ?_⟩, ?_⟩
         ·show _ = _
          rw [Hnew.out]
          exact setRow_heap _ _ _ _ _ _ Q4.out
         ·simp [intOf]
          omega
   ·have hkn' : k = n := by omega
    have htk : ts.take k = ts := List.take_of_length_le (by rw [← Hn.out]; omega)
    rw [htk] at Hok B4
    obtain ⟨f, hf⟩ : ∃ f, f = factsL kind ts := ⟨_, rfl⟩
    rw [← hf] at B4
    have Hf := Lib.hid hf
    obtain ⟨es2, cl2, hm2, hkn2⟩ := B0.out.m
    obtain ⟨es3, cl3, hupd, hes3⟩ := upd_known kind n p (fctV f) mb es2 cl2 wq hm2 (HL.out wq B0.out.g) (hkn2.keys Hth.out B0.out.g)
    have ck : wq.cell? ⟨kb, 0, none⟩ = some (.map (some mb)) := by rw [cell_of_row _ _ _ _ _ _ B0.out.k]; rfl
    have hkb : kb < b8 := by omega
    have hsb : sb < b8 := by omega
    have E0 : Hid (SayI Wb kb sb mb (wq.putObj mb (.map es3 cl3))) := by
     refine ⟨grown_trans B0.out.g (put_grown _ _ _), (World.putObj_heap_other (w := wq) ?_).trans B0.out.k, (World.putObj_heap_other (w := wq) ?_).trans B0.out.s, es3, cl3, put_same hm2, fun e he => ?_⟩
     ·intro e9; have := B0.out.k; rw [e9, hm2] at this; cases this
     ·intro e9; have := B0.out.s; rw [e9, hm2] at this; cases this
     ·rcases hes3 e he with he | ⟨hk1, hv1⟩
      ·exact hkn2 e he
      ·exact ⟨kind, p, ts, xs, by rw [hk1, Hn.out], hne, by rw [← Hn.out]; exact HR.out, HC.out, Hok.out, by rw [hv1, hf], hd⟩
    have E1 : Hid (W.grownBy (wq.putObj mb (.map es3 cl3)) (some mb)) := grown_trans B1.out (put_grown _ _ _)
    have E2 : Hid ((wq.putObj mb (.map es3 cl3)).heap[b8]? = some (.cells #[.int .i64 0, .int .i64 0, .int .i64 0, .int .i64 0, .bool false, .bool false] 98 (0, 0))) := (World.putObj_heap_other (w := wq) (by have := Hm.out; omega)).trans B2.out
    have E4 : Hid ((wq.putObj mb (.map es3 cl3)).heap[b13]? = some (.cells (fctC f) 98 (0, 0))) := (World.putObj_heap_other (w := wq) (by have := Hm.out; omega)).trans B4.out
    clear hf hm2 hkn2 hes3 htk B0 B1 B2
    obtain ⟨d, g, l, m, en, lo⟩ := f
    unfold fctV at hupd
    unfold fctC at B4 E4
    dsimp only at hupd B4 E4
    have hk2 : ¬ (k : Int) < n := by omega
    go_wp2_with (first | ((refine wpList_load_row ?c0 134 (.tmp 10) ?c1 b10 ?c2 134 #[.int .u8 kind, .pointer (some p), .int .i64 n] (0, 0) _ B3.out Tryz.underlying134 ?c3 sizeFcL ?_); (case c0 => with_reducible rfl); (case c1 => with_reducible rfl); (case c2 => rfl); (case c3 => rfl)) | ((refine wpList_load_row ?c0 98 (.tmp 13) ?c1 b13 ?c2 98 #[.int .i64 d, .int .i64 g, .int .i64 l, .int .i64 m, .bool en, .bool lo] (0, 0) _ B4.out Tryz.underlying98 ?c3 sizeFc ?_); (case c0 => with_reducible rfl); (case c1 => with_reducible rfl); (case c2 => rfl); (case c3 => rfl)) | ((refine wpList_load_row ?c0 98 (.tmp 13) ?c1 b13 ?c2 98 #[.int .i64 d, .int .i64 g, .int .i64 l, .int .i64 m, .bool en, .bool lo] (0, 0) _ E4.out Tryz.underlying98 ?c3 sizeFc ?_); (case c0 => with_reducible rfl); (case c1 => with_reducible rfl); (case c2 => rfl); (case c3 => rfl)) | ((refine wpList_store_row ?c0 98 (.tmp 8) (.tmp 82) ?c1 b8 #[.int .i64 d, .int .i64 g, .int .i64 l, .int .i64 m, .bool en, .bool lo] ?c2 ?c3 _ _ E2.out ?c4 ?c5 ?c6 ?_); (case c0 => with_reducible rfl); (case c1 => with_reducible rfl); (case c2 => rfl); (case c3 => rfl); (case c4 => exact sizeFc); (case c5 => rfl); (case c6 => simp [Value.oneCell'])))
    exact bodyPost_ret (res_facts Tryz.results69 _ _ b8 #[.int .i64 d, .int .i64 g, .int .i64 l, .int .i64 m, .bool en, .bool lo] rfl rfl (setRow_heap _ _ _ _ _ _ E2.out)) rfl ⟨⟨d, g, l, m, en, lo⟩, true, rfl, fun _ => ⟨Hok.out, Hf.out⟩, (fun h => by cases h), E0.out.set hwb8 hkb hsb (by have := Hm.out; omega) _, grown_setRow E1.out hw8 _⟩
end
end Go.Proofs.YtmgkdmbifecekaaGreatDoor
