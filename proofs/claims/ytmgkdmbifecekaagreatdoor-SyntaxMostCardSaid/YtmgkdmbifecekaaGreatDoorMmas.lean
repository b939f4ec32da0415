/-
  Package syntax: said, told, and what they tell of trees. Package syntax: told. Package syntax: Right, Nullable, Groups, Lengths of trees in memory. The law's own nullable. The law's leaf. Package syntax: trees in memory that begins at some block.
-/
import Derived.Test.YtmgkdmbifecekaaGreatDoorSyV
import Derived.Test.YtmgkdmbifecekaaGreatDoorMmai
import Derived.Carry
import Derived.Laws.EntriesVeiled
set_option linter.all false
set_option linter.unusedSimpArgs false
set_option linter.unusedVariables false
set_option linter.unusedSectionVars false
namespace Go.Proofs.YtmgkdmbifecekaaGreatDoor
open Go.RowKit Go.Shelf
theorem al_old {w : World} {o x : Obj} {b : Nat} (h : w.heap[b]? = some x) : (w.alloc o).heap[b]? = some x := (Below.heap_alloc _ _ _ (heap_lt h)).trans h
theorem al_new (w : World) (o : Obj) {b : Nat} (hb : b = w.heap.size) : (w.alloc o).heap[b]? = some o := by rw [hb]; exact heap_alloc_new w o
theorem say_any (Wb : World) (kb sb mb : Nat) (hth : Thin Wb mb) : ∀ (N : Nat) (ts : List Tree), szL ts ≤ N → ∀ (kind : Int) (A : Option Addr) (c : Nat) (room : Int) (W : World) (ys : List Value), 0 ≤ room ∧ room ≤ 1000000 → ts.length ≤ 1000000000000000000 → (factsL kind ts).depth ≤ 1000000 → RdP Wb A (ts.length * 6) ys → NodesC Wb ts ys → SayI Wb kb sb mb W → SayC Wb kb sb mb kind A c room ts W := by
  intro N
  induction N with
  | zero =>
    intro ts hN kind A c room W ys hr hl hd h1 h2 h3
    cases ts with
    | nil => exact say_nil Wb kb sb mb kind A c room W h3
    | cons t ts => obtain ⟨_, _, _, _, _, _⟩ := t; unfold szL szT at hN; omega
  | succ N ih =>
    intro ts hN kind A c room W ys hr hl hd h1 h2 h3
    by_cases hne : ts = []
    · subst hne
      exact say_nil Wb kb sb mb kind A c room W h3
    · exact say_cons Wb kb sb mb kind A c room hr ts hne hl hd W (fun us hu kind A c room W ys g1 g2 g3 g4 g5 g6 => ih us (by omega) kind A c room W ys g1 g2 g3 g4 g5 g6) ys hth h1 h2 h3
section
variable (k : Int) (set : List Rng) (mn mx : Int) (lz : Bool) (subs : List Tree) (A1 : Option Addr) (c1 : Nat) (A2 : Option Addr) (c2 : Nat)
set_option maxRecDepth 10000 in
set_option maxHeartbeats 4000000 in
theorem said_any (room : Int) (hroom : 0 ≤ room ∧ room ≤ 1000000) (hd : (factsT (.mk k set mn mx lz subs)).depth ≤ 1000000) (w : World) (hc : NodeC w (.mk k set mn mx lz subs) [.int .u8 k, .slice A1 set.length c1, .int .i64 mn, .int .i64 mx, .bool lz, .slice A2 subs.length c2]) :
    Calls Tryz.prog 45 #[ndV k A1 set.length c1 mn mx lz A2 subs.length c2, .int .i64 room] w fun e w' => ∃ f ok, e = .returned (.tuple #[fctV f, .bool ok]) ∧ (ok = true → okTr (.mk k set mn mx lz subs) = true ∧ f = factsT (.mk k set mn mx lz subs)) ∧ (ok = false → f = zeroT ∧ (okTr (.mk k set mn mx lz subs) = false ∨ room < (factsT (.mk k set mn mx lz subs)).depth)) ∧ Kept w w' := by
  have HC := Lib.hid hc
  have HD := Lib.hid hd
  obtain ⟨hr0, hr1⟩ := hroom
  clear hc hd
  have hmm := @run_makeMap Tryz.prog
  go_enter Tryz.func45, Tryz.ntmps45
  go_wp2_with fail
  obtain ⟨Wb, hWb⟩ : ∃ x, x = (((((w.alloc (.cells #[.int .u8 k, .slice A1 set.length c1, .int .i64 mn, .int .i64 mx, .bool lz, .slice A2 subs.length c2] 25)).alloc (.cells #[.int .i64 0, .int .i64 0, .int .i64 0, .int .i64 0, .bool false, .bool false] 98)).alloc (.map #[] 0)).alloc (.cells #[.map (some (w.heap.size + 1 + 1))] 131)).alloc (.cells #[(.func (.func 69) #[] #[.pointer (some ⟨w.heap.size + 1 + 1 + 1, 0, none⟩), .pointer (some ⟨w.heap.size + 1 + 1 + 1 + 1, 0, none⟩)])] 132)).alloc (.cells #[.int .u8 k, .slice A1 set.length c1, .int .i64 mn, .int .i64 mx, .bool lz, .slice A2 subs.length c2] 25) := ⟨_, rfl⟩
  rw [← hWb]
  have hK : Kept w Wb := by
    rw [hWb]
    exact ((((((Below.refl _ w).alloc (Nat.le_refl _) _).alloc (by simp) _).alloc (by simp; omega) _).alloc (by simp; omega) _).alloc (by simp; omega) _).alloc (by simp; omega) _
  have h1 : Wb.heap[w.heap.size + 1]? = some (.cells #[.int .i64 0, .int .i64 0, .int .i64 0, .int .i64 0, .bool false, .bool false] 98 (0, 0)) := by rw [hWb]; exact al_old (al_old (al_old (al_old (al_new _ _ (by simp)))))
  have h2 : Wb.heap[w.heap.size + 1 + 1]? = some (.map #[] 0) := by rw [hWb]; exact al_old (al_old (al_old (al_new _ _ (by simp))))
  have h3 : Wb.heap[w.heap.size + 1 + 1 + 1]? = some (.cells #[.map (some (w.heap.size + 1 + 1))] 131 (0, 0)) := by rw [hWb]; exact al_old (al_old (al_new _ _ (by simp)))
  have h4 : Wb.heap[w.heap.size + 1 + 1 + 1 + 1]? = some (.cells #[(.func (.func 69) #[] #[.pointer (some ⟨w.heap.size + 1 + 1 + 1, 0, none⟩), .pointer (some ⟨w.heap.size + 1 + 1 + 1 + 1, 0, none⟩)])] 132 (0, 0)) := by rw [hWb]; exact al_old (al_new _ _ (by simp))
  have h5 : Wb.heap[w.heap.size + 1 + 1 + 1 + 1 + 1]? = some (.cells #[.int .u8 k, .slice A1 set.length c1, .int .i64 mn, .int .i64 mx, .bool lz, .slice A2 subs.length c2] 25 (0, 0)) := by rw [hWb]; exact al_new _ _ (by simp)
  clear hWb
  have hs1 : w.heap.size ≤ w.heap.size + 1 := by omega
  have hs2 : w.heap.size ≤ w.heap.size + 1 + 1 := by omega
  have h12 : w.heap.size + 1 ≠ w.heap.size + 1 + 1 := by omega
  generalize w.heap.size + 1 + 1 + 1 + 1 + 1 = b5 at h5 ⊢
  generalize w.heap.size + 1 + 1 + 1 + 1 = b4 at h4 h3 ⊢
  generalize w.heap.size + 1 + 1 + 1 = b3 at h4 h3 ⊢
  generalize w.heap.size + 1 + 1 = b2 at h2 h3 h12 hs2 ⊢
  generalize w.heap.size + 1 = b1 at h1 h12 hs1 ⊢
  have hI : SayI Wb b3 b4 b2 Wb := ⟨⟨rfl, rfl, rfl, Nat.le_refl _, fun _ _ _ => rfl⟩, h3, h4, #[], 0, h2, fun e he => by simp at he⟩
  have hP : RdP Wb (some ⟨b5, 0, none⟩) (1 * 6) [.int .u8 k, .slice A1 set.length c1, .int .i64 mn, .int .i64 mx, .bool lz, .slice A2 subs.length c2] := ⟨⟨rfl, fun _ => ⟨_, rfl, heap_lt h5, fun j u hu => row_cells h5 j u (by rw [← hu]; exact List.getElem?_toArray ..)⟩⟩, fun _ ad e => by cases e; exact ⟨_, _, h5⟩⟩
  have hN : NodesC Wb [.mk k set mn mx lz subs] [.int .u8 k, .slice A1 set.length c1, .int .i64 mn, .int .i64 mx, .bool lz, .slice A2 subs.length c2] := by
    unfold NodesC
    exact ⟨_, [], (List.append_nil _).symm, NodeC.kept hK _ _ HC.out, by unfold NodesC; rfl⟩
  have CS := Lib.hid (say_any Wb b3 b4 b2 (thin_map h2) _ [.mk k set mn mx lz subs] (Nat.le_refl _) 3 (some ⟨b5, 0, none⟩) 1 room Wb _ ⟨hr0, hr1⟩ (by simp) (by rw [factsL_one]; exact HD.out) hP hN hI)
  have H1 := Lib.hid h1
  have HK := Lib.hid hK
  clear h1 h2 h3 h4 h5 hI hP hN hK hmm
  refine CS.out.mono ?_
  rintro e w1 ⟨⟨d, g, l, m, en, lo⟩, ok, rfl, hT, hF, I1, G1⟩
  have M1 : Hid (w1.heap[b1]? = some (.cells #[.int .i64 0, .int .i64 0, .int .i64 0, .int .i64 0, .bool false, .bool false] 98 (0, 0))) := grown_heap G1 H1.out (by intro e9; cases e9; exact h12 rfl)
  have hk1 : Kept w w1 := ⟨G1.os.trans HK.out.os, G1.tape.trans HK.out.tape, G1.output.trans HK.out.output, Nat.le_trans HK.out.size G1.size, fun b hb => (G1.block b (Nat.lt_of_lt_of_le hb HK.out.size) (by intro e9; cases e9; omega)).trans (HK.out.block b hb)⟩
  have HK1 := Lib.hid hk1
  have HT := Lib.hid hT
  have HF := Lib.hid hF
  clear CS H1 hk1 hT hF I1 G1
  unfold fctV
  dsimp only
  go_wp2_with (first | ((refine wpList_store_row ?c0 98 (.tmp 4) (.tmp 15) ?c1 b1 #[.int .i64 d, .int .i64 g, .int .i64 l, .int .i64 m, .bool en, .bool lo] ?c2 ?c3 _ _ M1.out ?c4 ?c5 ?c6 ?_); (case c0 => with_reducible rfl); (case c1 => with_reducible rfl); (case c2 => rfl); (case c3 => rfl); (case c4 => exact sizeFc); (case c5 => rfl); (case c6 => simp [Value.oneCell'])))
  refine bodyPost_ret (res_facts Tryz.results45 _ _ b1 #[.int .i64 d, .int .i64 g, .int .i64 l, .int .i64 m, .bool en, .bool lo] rfl rfl (setRow_heap _ _ _ _ _ _ M1.out)) rfl ⟨⟨d, g, l, m, en, lo⟩, ok, rfl, fun h => ?_, fun h => ?_, below_setRow HK1.out hs1 _⟩
  · obtain ⟨h8, h9⟩ := HT.out h
    rw [factsL_one] at h9
    exact ⟨by simpa [okTs] using h8, h9⟩
  · obtain ⟨h8, h9⟩ := HF.out h
    rw [factsL_one] at h9
    exact ⟨h8, by simpa [okTs] using h9⟩
end
end Go.Proofs.YtmgkdmbifecekaaGreatDoor
namespace Go.Proofs.YtmgkdmbifecekaaGreatDoor
open Go.RowKit Go.Shelf
def ToldPost (PP : Fct → Bool → Prop) (w : World) (e : Ending) (w' : World) : Prop := ∃ f ok, PP f ok ∧ e = .returned (.tuple #[fctV (if okT f ok = true then f else zeroT), .bool (okT f ok)]) ∧ Kept w w'
section
variable (k : Int) (A1 : Option Addr) (sn c1 : Nat) (mn mx : Int) (lz : Bool) (A2 : Option Addr) (un c2 : Nat) (w : World)
set_option maxHeartbeats 1000000 in
theorem told_ex (PP : Fct → Bool → Prop) (CS : Hid (∀ W, Kept w W → Calls Tryz.prog 45 #[ndV k A1 sn c1 mn mx lz A2 un c2, .int .i64 40] W fun e w' => ∃ f ok, PP f ok ∧ e = .returned (.tuple #[fctV f, .bool ok]) ∧ Kept W w')) :
    Calls Tryz.prog 46 #[ndV k A1 sn c1 mn mx lz A2 un c2] w (ToldPost PP w) := by
  obtain ⟨wa, hwa⟩ : ∃ x, x = (w.alloc (.cells #[.int .u8 k, .slice A1 sn c1, .int .i64 mn, .int .i64 mx, .bool lz, .slice A2 un c2] 25)).alloc (.cells #[.int .i64 0, .int .i64 0, .int .i64 0, .int .i64 0, .bool false, .bool false] 98) := ⟨_, rfl⟩
  have HK : Hid (Kept w wa) := by rw [hwa]; exact ((Below.refl _ w).alloc (Nat.le_refl _) _).alloc (by simp) _
  have Hz : Hid (wa.heap[w.heap.size + 1]? = some (.cells #[.int .i64 0, .int .i64 0, .int .i64 0, .int .i64 0, .bool false, .bool false] 98 (0, 0))) := by
    show _ = _
    have := heap_alloc_new (w.alloc (.cells #[.int .u8 k, .slice A1 sn c1, .int .i64 mn, .int .i64 mx, .bool lz, .slice A2 un c2] 25)) (.cells #[.int .i64 0, .int .i64 0, .int .i64 0, .int .i64 0, .bool false, .bool false] 98)
    rw [World.size_alloc] at this
    rw [hwa]
    exact this
  go_enter Tryz.func46, Tryz.ntmps46
  go_wp2_with fail
  rw [← hwa]
  clear hwa
  refine (CS.out wa HK.out).mono ?_
  rintro e w1 ⟨⟨d, g, l, m, en, lo⟩, ok, hP, rfl, hk1⟩
  have HP := Lib.hid hP
  have M1 := Lib.hid (heap_kept hk1 Hz.out)
  have HK1 := Lib.hid (below_kept HK.out hk1)
  have hne : w.heap.size + 1 < w1.heap.size := heap_lt M1.out
  have M2 : Hid ((w1.alloc (.cells #[.int .i64 d, .int .i64 g, .int .i64 l, .int .i64 m, .bool en, .bool lo] 98)).heap[w.heap.size + 1]? = some (.cells #[.int .i64 0, .int .i64 0, .int .i64 0, .int .i64 0, .bool false, .bool false] 98 (0, 0))) := (Below.heap_alloc _ _ _ hne).trans M1.out
  clear hk1 CS Hz M1 hP
  unfold fctV
  dsimp only
  cases ok
  · go_wp2_with ((refine wpList_store_row ?c0 98 (.tmp 2) (.tmp 27) ?c1 (w.heap.size + 1) #[.int .i64 0, .int .i64 0, .int .i64 0, .int .i64 0, .bool false, .bool false] ?c2 ?c3 _ _ M2.out ?c4 ?c5 ?c6 ?_); (case c0 => with_reducible rfl); (case c1 => with_reducible rfl); (case c2 => rfl); (case c3 => rfl); (case c4 => exact sizeFc); (case c5 => rfl); (case c6 => simp [Value.oneCell']))
    exact bodyPost_ret (res_facts Tryz.results46 _ _ (w.heap.size + 1) #[.int .i64 0, .int .i64 0, .int .i64 0, .int .i64 0, .bool false, .bool false] rfl rfl (setRow_heap _ _ _ _ _ _ M2.out)) rfl ⟨⟨d, g, l, m, en, lo⟩, false, HP.out, rfl, below_setRow (HK1.out.alloc HK1.out.size _) (by omega) _⟩
  · cases lo
    · by_cases h30 : 30 < g
      · have hgo : okT ⟨d, g, l, m, en, false⟩ true = false := by unfold okT; simp; omega
        go_wp2_with ((refine wpList_store_row ?c0 98 (.tmp 2) (.tmp 27) ?c1 (w.heap.size + 1) #[.int .i64 0, .int .i64 0, .int .i64 0, .int .i64 0, .bool false, .bool false] ?c2 ?c3 _ _ M2.out ?c4 ?c5 ?c6 ?_); (case c0 => with_reducible rfl); (case c1 => with_reducible rfl); (case c2 => rfl); (case c3 => rfl); (case c4 => exact sizeFc); (case c5 => rfl); (case c6 => simp [Value.oneCell']))
        exact bodyPost_ret (res_facts Tryz.results46 _ _ (w.heap.size + 1) #[.int .i64 0, .int .i64 0, .int .i64 0, .int .i64 0, .bool false, .bool false] rfl rfl (setRow_heap _ _ _ _ _ _ M2.out)) rfl ⟨⟨d, g, l, m, en, false⟩, true, HP.out, by rw [hgo]; rfl, below_setRow (HK1.out.alloc HK1.out.size _) (by omega) _⟩
      · by_cases h40 : 40 < d
        · have hgo : okT ⟨d, g, l, m, en, false⟩ true = false := by unfold okT; simp; omega
          go_wp2_with ((refine wpList_store_row ?c0 98 (.tmp 2) (.tmp 27) ?c1 (w.heap.size + 1) #[.int .i64 0, .int .i64 0, .int .i64 0, .int .i64 0, .bool false, .bool false] ?c2 ?c3 _ _ M2.out ?c4 ?c5 ?c6 ?_); (case c0 => with_reducible rfl); (case c1 => with_reducible rfl); (case c2 => rfl); (case c3 => rfl); (case c4 => exact sizeFc); (case c5 => rfl); (case c6 => simp [Value.oneCell']))
          exact bodyPost_ret (res_facts Tryz.results46 _ _ (w.heap.size + 1) #[.int .i64 0, .int .i64 0, .int .i64 0, .int .i64 0, .bool false, .bool false] rfl rfl (setRow_heap _ _ _ _ _ _ M2.out)) rfl ⟨⟨d, g, l, m, en, false⟩, true, HP.out, by rw [hgo]; rfl, below_setRow (HK1.out.alloc HK1.out.size _) (by omega) _⟩
        · have hgo : okT ⟨d, g, l, m, en, false⟩ true = true := by unfold okT; simp; omega
          go_wp2_with ((refine wpList_store_row ?c0 98 (.tmp 2) (.tmp 28) ?c1 (w.heap.size + 1) #[.int .i64 d, .int .i64 g, .int .i64 l, .int .i64 m, .bool en, .bool false] ?c2 ?c3 _ _ M2.out ?c4 ?c5 ?c6 ?_); (case c0 => with_reducible rfl); (case c1 => with_reducible rfl); (case c2 => rfl); (case c3 => rfl); (case c4 => exact sizeFc); (case c5 => rfl); (case c6 => simp [Value.oneCell']))
          exact bodyPost_ret (res_facts Tryz.results46 _ _ (w.heap.size + 1) #[.int .i64 d, .int .i64 g, .int .i64 l, .int .i64 m, .bool en, .bool false] rfl rfl (setRow_heap _ _ _ _ _ _ M2.out)) rfl ⟨⟨d, g, l, m, en, false⟩, true, HP.out, by rw [hgo]; rfl, below_setRow (HK1.out.alloc HK1.out.size _) (by omega) _⟩
    · have hgo : okT ⟨d, g, l, m, en, true⟩ true = false := by unfold okT; simp
      go_wp2_with ((refine wpList_store_row ?c0 98 (.tmp 2) (.tmp 27) ?c1 (w.heap.size + 1) #[.int .i64 0, .int .i64 0, .int .i64 0, .int .i64 0, .bool false, .bool false] ?c2 ?c3 _ _ M2.out ?c4 ?c5 ?c6 ?_); (case c0 => with_reducible rfl); (case c1 => with_reducible rfl); (case c2 => rfl); (case c3 => rfl); (case c4 => exact sizeFc); (case c5 => rfl); (case c6 => simp [Value.oneCell']))
      exact bodyPost_ret (res_facts Tryz.results46 _ _ (w.heap.size + 1) #[.int .i64 0, .int .i64 0, .int .i64 0, .int .i64 0, .bool false, .bool false] rfl rfl (setRow_heap _ _ _ _ _ _ M2.out)) rfl ⟨⟨d, g, l, m, en, true⟩, true, HP.out, by rw [hgo]; rfl, below_setRow (HK1.out.alloc HK1.out.size _) (by omega) _⟩
end
section
variable (k : Int) (set : List Rng) (mn mx : Int) (lz : Bool) (subs : List Tree) (A1 : Option Addr) (c1 : Nat) (A2 : Option Addr) (c2 : Nat)
/-- TOLD: what a tree says, if it is right. -/
theorem told_any (hd : (factsT (.mk k set mn mx lz subs)).depth ≤ 1000000) (w : World) (hc : NodeC w (.mk k set mn mx lz subs) [.int .u8 k, .slice A1 set.length c1, .int .i64 mn, .int .i64 mx, .bool lz, .slice A2 subs.length c2]) :
    Calls Tryz.prog 46 #[ndV k A1 set.length c1 mn mx lz A2 subs.length c2] w fun e w' => e = .returned (.tuple #[fctV (if rgtT (.mk k set mn mx lz subs) = true then factsT (.mk k set mn mx lz subs) else zeroT), .bool (rgtT (.mk k set mn mx lz subs))]) ∧ Kept w w' := by
  refine (told_ex k A1 set.length c1 mn mx lz A2 subs.length c2 w (fun f ok => (ok = true → okTr (.mk k set mn mx lz subs) = true ∧ f = factsT (.mk k set mn mx lz subs)) ∧ (ok = false → f = zeroT ∧ (okTr (.mk k set mn mx lz subs) = false ∨ 40 < (factsT (.mk k set mn mx lz subs)).depth))) (Lib.hid fun W hW => ?_)).mono ?_
  · refine (said_any k set mn mx lz subs A1 c1 A2 c2 40 (by omega) hd W (NodeC.kept hW _ _ hc)).mono ?_
    rintro e w' ⟨f, ok, h1, h2, h3, h4⟩
    exact ⟨f, ok, ⟨h2, h3⟩, h1, h4⟩
  · rintro e w' ⟨f, ok, ⟨h2, h3⟩, h1, h4⟩
    refine ⟨?_, h4⟩
    rw [h1]
    obtain ⟨T, hT⟩ : ∃ T, T = Tree.mk k set mn mx lz subs := ⟨_, rfl⟩
    rw [← hT] at h2 h3 ⊢
    cases ok
    · obtain ⟨rfl, h5⟩ := h3 rfl
      have hr : rgtT T = false := by
        unfold rgtT
        rcases h5 with h5 | h5
        · rw [h5]; rfl
        · have : decide ((factsT T).depth ≤ 40) = false := by simp; omega
          rw [this]; simp
      rw [hr]
      rfl
    · obtain ⟨h5, rfl⟩ := h2 rfl
      have hr : okT (factsT T) true = rgtT T := by unfold okT rgtT; rw [h5]; rfl
      rw [hr]
end
end Go.Proofs.YtmgkdmbifecekaaGreatDoor
namespace Go.Proofs.YtmgkdmbifecekaaGreatDoor
open Go.RowKit Go.Shelf
/-- A value that is a tree. -/
def NodeV (w : World) (t : Tree) (v : Value) : Prop := ∃ cs, v = .agg (List.toArray cs) ∧ NodeC w t cs
theorem NodeV.kept {w w' : World} (hk : Kept w w') {t : Tree} {v : Value} (h : NodeV w t v) : NodeV w' t v := by
  obtain ⟨cs, e, h⟩ := h
  exact ⟨cs, e, h.kept hk⟩
/-- Its six cells. -/
theorem NodeV.nd {w : World} {k : Int} {set : List Rng} {mn mx : Int} {lz : Bool} {subs : List Tree} {v : Value} (h : NodeV w (.mk k set mn mx lz subs) v) :
    ∃ A1 c1 A2 c2, v = ndV k A1 set.length c1 mn mx lz A2 subs.length c2 ∧ NodeC w (.mk k set mn mx lz subs) [.int .u8 k, .slice A1 set.length c1, .int .i64 mn, .int .i64 mx, .bool lz, .slice A2 subs.length c2] := by
  obtain ⟨cs, rfl, h⟩ := h
  have h2 := h
  unfold NodeC at h
  obtain ⟨A1, c1, A2, c2, rfl, _⟩ := h
  exact ⟨A1, c1, A2, c2, rfl, h2⟩
section
variable (t : Tree) (v : Value) (w : World) (hv : NodeV w t v) (hd : (factsT t).depth ≤ 1000000)
include hv hd
theorem right_any : Calls Tryz.prog 20 #[v] w fun e w' => e = .returned (.bool (rgtT t)) ∧ Kept w w' := by
  obtain ⟨k, set, mn, mx, lz, subs⟩ := t
  obtain ⟨A1, c1, A2, c2, rfl, hc⟩ := hv.nd
  exact right_of k A1 set.length c1 mn mx lz A2 subs.length c2 w _ _ (Lib.hid fun W hW => told_any k set mn mx lz subs A1 c1 A2 c2 hd W (NodeC.kept hW _ _ hc))
theorem lengths_any : Calls Tryz.prog 23 #[v] w fun e w' => e = .returned (.tuple #[.int .i64 (if rgtT t = true then (factsT t).least else 0), .int .i64 (if rgtT t = true then (if (factsT t).endless = true then -1 else (factsT t).most) else 0), .int .i64 (if rgtT t = true then 0 else 73)]) ∧ Kept w w' := by
  obtain ⟨k, set, mn, mx, lz, subs⟩ := t
  obtain ⟨A1, c1, A2, c2, rfl, hc⟩ := hv.nd
  refine (lengths_of k A1 set.length c1 mn mx lz A2 subs.length c2 w _ _ (Lib.hid fun W hW => told_any k set mn mx lz subs A1 c1 A2 c2 hd W (NodeC.kept hW _ _ hc))).mono ?_
  rintro e w' ⟨rfl, hk⟩
  refine ⟨?_, hk⟩
  cases rgtT (.mk k set mn mx lz subs) <;> simp
end
end Go.Proofs.YtmgkdmbifecekaaGreatDoor
namespace Go.Proofs.YtmgkdmbifecekaaGreatDoor
open Go.RowKit Go.Shelf
end Go.Proofs.YtmgkdmbifecekaaGreatDoor
namespace Go.Proofs.YtmgkdmbifecekaaGreatDoor
open Go.RowKit Go.Shelf
theorem rdr_new {w : World} {g : Nat} {t : TypeId} {L : List Rng} (h : w.heap[g]? = some (.cells (rngs L).toArray t (0, 0))) : RdR w w.heap.size (some ⟨g, 0, none⟩) L :=
  ⟨rngs_length L, fun _ => ⟨_, rfl, heap_lt h, fun j u hu => row_cells h j u (by rw [← hu]; exact List.getElem?_toArray ..)⟩⟩
end Go.Proofs.YtmgkdmbifecekaaGreatDoor
namespace Go.Proofs.YtmgkdmbifecekaaGreatDoor
open Go.RowKit Go.Shelf
/-- A world without what lies below a block. -/
def mask (b : Nat) (w : World) : World := { w with heap := w.heap.mapIdx fun i o => if i < b then .cells #[] 0 (0, 0) else o }
theorem mask_size (b : Nat) (w : World) : (mask b w).heap.size = w.heap.size := by simp [mask]
theorem mask_hi {b k : Nat} {w : World} (h : b ≤ k) : (mask b w).heap[k]? = w.heap[k]? := by
  unfold mask
  rw [Array.getElem?_mapIdx]
  cases hk : w.heap[k]? with
  | none => rfl
  | some o => simp [Nat.not_lt.2 h]
theorem mask_cell {b : Nat} {w : World} {p : Addr} {v : Value} (h : (mask b w).cell? p = some v) : b ≤ p.block := by
  by_cases hb : b ≤ p.block
  · exact hb
  · exfalso
    unfold World.cell? at h
    have : (mask b w).heap[p.block]? = (w.heap[p.block]?).map (fun o => if p.block < b then Obj.cells #[] 0 (0, 0) else o) := by
      unfold mask
      rw [Array.getElem?_mapIdx]
    rw [this] at h
    cases hk : w.heap[p.block]? with
    | none => rw [hk] at h; cases h
    | some o =>
      rw [hk, Option.map_some, if_pos (by omega)] at h
      simp at h
section
variable {w w' : World} (hs : w.heap.size ≤ w'.heap.size) (h : ∀ p v, w.cell? p = some v → w'.heap[p.block]? = w.heap[p.block]?)
include hs h
theorem cell_sub {p : Addr} {v : Value} (hp : w.cell? p = some v) : w'.cell? p = some v := by
  have := h p v hp
  unfold World.cell? at hp ⊢
  rw [this]
  exact hp
theorem rd_sub {A : Option Addr} {n : Nat} {xs : List Value} (hr : Rd w w.heap.size A n xs) : Rd w' w'.heap.size A n xs :=
  ⟨hr.1, fun hn => by
    obtain ⟨ad, e, hb, hc⟩ := hr.2 hn
    exact ⟨ad, e, Nat.lt_of_lt_of_le hb hs, fun j u hu => cell_sub hs h (hc j u hu)⟩⟩
theorem rdp_sub {A : Option Addr} {n : Nat} {xs : List Value} (hr : RdP w A n xs) : RdP w' A n xs := by
  refine ⟨rd_sub hs h hr.1, fun hn ad e => ?_⟩
  obtain ⟨ad', e', hb, hc⟩ := hr.1.2 hn
  rw [e] at e'
  cases e'
  obtain ⟨cs, t, hl⟩ := hr.2 hn ad e
  have h1 : 0 < xs.length := by have := hr.1.1; omega
  have h2 := h _ _ (hc 0 _ (List.getElem?_eq_getElem h1))
  rw [addBlock] at h2
  exact ⟨cs, t, h2.trans hl⟩
mutual
theorem NodeC.sub : ∀ (t : Tree) (cs : List Value), NodeC w t cs → NodeC w' t cs
  | .mk k set mn mx lz subs, cs, hn => by
    unfold NodeC at hn ⊢
    obtain ⟨A1, c1, A2, c2, e, hz, h1, xs, h2, h3⟩ := hn
    exact ⟨A1, c1, A2, c2, e, hz, rd_sub hs h h1, xs, rdp_sub hs h h2, NodesC.sub subs xs h3⟩
theorem NodesC.sub : ∀ (ts : List Tree) (xs : List Value), NodesC w ts xs → NodesC w' ts xs
  | [], xs, hn => by unfold NodesC at hn ⊢; exact hn
  | t :: ts, xs, hn => by
    unfold NodesC at hn ⊢
    obtain ⟨a, b, e, h1, h2⟩ := hn
    exact ⟨a, b, e, NodeC.sub t a h1, NodesC.sub ts b h2⟩
end
theorem NodeV.sub {t : Tree} {v : Value} (hn : NodeV w t v) : NodeV w' t v := by
  obtain ⟨cs, e, h1⟩ := hn
  exact ⟨cs, e, NodeC.sub hs h t cs h1⟩
end
/-- A tree whose memory begins at a block. -/
abbrev NodeM (b : Nat) (w : World) (t : Tree) (v : Value) : Prop := NodeV (mask b w) t v
theorem NodeM.un {b : Nat} {w : World} {t : Tree} {v : Value} (h : NodeM b w t v) : NodeV w t v :=
  NodeV.sub (by rw [mask_size]; exact Nat.le_refl _) (fun _ _ hp => (mask_hi (mask_cell hp)).symm) h
theorem grow_hyp {b b' : Nat} {w w' : World} (hb : b' ≤ b) (hk : ∀ k, b ≤ k → k < w.heap.size → w'.heap[k]? = w.heap[k]?) (p : Addr) (v : Value) (hp : (mask b w).cell? p = some v) : (mask b' w').heap[p.block]? = (mask b w).heap[p.block]? := by
  have h1 := mask_cell hp
  have h2 : p.block < w.heap.size := by
    have := (show (mask b w).heap[p.block]? ≠ none from fun e => by unfold World.cell? at hp; rw [e] at hp; cases hp)
    rw [← mask_size b w]
    exact Nat.lt_of_not_le fun h => this (Array.getElem?_eq_none h)
  rw [mask_hi (Nat.le_trans hb h1), mask_hi h1]
  exact hk _ h1 h2
theorem NodeM.grow {b b' : Nat} {w w' : World} {t : Tree} {v : Value} (h : NodeM b w t v) (hb : b' ≤ b) (hs : w.heap.size ≤ w'.heap.size) (hk : ∀ k, b ≤ k → k < w.heap.size → w'.heap[k]? = w.heap[k]?) : NodeM b' w' t v :=
  NodeV.sub (by rw [mask_size, mask_size]; exact hs) (grow_hyp hb hk) h
theorem NodeM.kept {b b' : Nat} {w w' : World} {t : Tree} {v : Value} (h : NodeM b w t v) (hb : b' ≤ b) (hk : Kept w w') : NodeM b' w' t v :=
  h.grow hb hk.size (fun k _ hlt => hk.block k hlt)
theorem NodeM.grown {b b' g : Nat} {w w' : World} {t : Tree} {v : Value} (h : NodeM b w t v) (hb : b' ≤ b) (hg : w.grownBy w' (some g)) (hlt : g < b) : NodeM b' w' t v :=
  h.grow hb hg.size (fun k hbk hk => hg.block k hk (by intro e; cases e; omega))
theorem NodeM.set {b b' g : Nat} {w : World} {t : Tree} {v : Value} (h : NodeM b w t v) (hb : b' ≤ b) (hlt : g < b) (cs : Array Value) : NodeM b' (w.setRow g cs) t v := by
  have hB := below_setRow (Below.refl g w) (Nat.le_refl g) cs
  exact h.grow hb hB.size (fun k hbk hk => heap_setRow_out (by omega) cs)
/-- Sets alike. -/
abbrev RdRM (b : Nat) (w : World) (A : Option Addr) (L : List Rng) : Prop := RdR (mask b w) (mask b w).heap.size A L
theorem RdRM.grow {b b' : Nat} {w w' : World} {A : Option Addr} {L : List Rng} (h : RdRM b w A L) (hb : b' ≤ b) (hs : w.heap.size ≤ w'.heap.size) (hk : ∀ k, b ≤ k → k < w.heap.size → w'.heap[k]? = w.heap[k]?) : RdRM b' w' A L :=
  rd_sub (by rw [mask_size, mask_size]; exact hs) (grow_hyp hb hk) h
theorem RdRM.kept {b b' : Nat} {w w' : World} {A : Option Addr} {L : List Rng} (h : RdRM b w A L) (hb : b' ≤ b) (hk : Kept w w') : RdRM b' w' A L :=
  h.grow hb hk.size (fun k _ hlt => hk.block k hlt)
/-- A row of one's own. -/
theorem own_mask {w : World} {base : Nat} {v : Value} {L : List Rng} (h : w.ownsRow base 73 2 v L.length (rngs L)) : ∃ A c, v = .slice A L.length c ∧ RdRM base w A L := by
  rcases h.2 with ⟨rfl, h0⟩ | ⟨g, cap, cur, rfl, hb, hg, hc, hx, hs, ht⟩
  · have h00 : L.length = 0 := h0
    have hL : L = [] := List.length_eq_zero_iff.1 h00
    subst hL
    exact ⟨none, 0, rfl, Rd.nil⟩
  · refine ⟨_, _, rfl, rngs_length L, fun _ => ⟨_, rfl, by rw [mask_size]; exact heap_lt hg, fun j u hu => ?_⟩⟩
    have hj : j < L.length * 2 := by have := (List.getElem?_eq_some_iff.1 hu).1; rw [rngs_length] at this; exact this
    have h2 : w.cell? ⟨g, j, none⟩ = some u := by
      rw [h.cellAt j hj]
      exact hu
    rw [add0]
    unfold World.cell? at h2 ⊢
    rw [mask_hi hb]
    exact h2
theorem new_mask {w : World} {g b : Nat} {t : TypeId} {L : List Rng} (hb : b ≤ g) (h : w.heap[g]? = some (.cells (rngs L).toArray t (0, 0))) : RdRM b w (some ⟨g, 0, none⟩) L := by
  have h2 : (mask b w).heap[g]? = some (.cells (rngs L).toArray t (0, 0)) := (mask_hi hb).trans h
  exact rdr_new h2
/-- A node of a set. -/
theorem set_mask {w : World} {b : Nat} {A : Option Addr} {L : List Rng} {c : Nat} (hl : L.length ≤ 1000) (h : RdRM b w A L) : NodeM b w (.mk 2 L 0 0 false []) (ndV 2 A L.length c 0 0 false none 0 0) := by
  refine ⟨_, rfl, ?_⟩
  unfold NodeC
  refine ⟨_, _, none, 0, rfl, ⟨by omega, by simp⟩, h, [], ⟨Rd.nil, fun h => absurd h (by simp)⟩, ?_⟩
  unfold NodesC
  rfl
/-- A node with one part. -/
theorem one_mask {w : World} {b g : Nat} {t : Tree} {cs : List Value} {kd mn mx : Int} {lz : Bool} {c : Nat} (hb : b ≤ g) (hn : NodeC (mask b w) t cs) (h : w.heap[g]? = some (.cells cs.toArray 25 (0, 0))) : NodeM b w (.mk kd [] mn mx lz [t]) (ndV kd none 0 0 mn mx lz (some ⟨g, 0, none⟩) 1 c) := by
  have h2 : (mask b w).heap[g]? = some (.cells cs.toArray 25 (0, 0)) := (mask_hi hb).trans h
  have hlen := NodeC.len hn
  refine ⟨_, rfl, ?_⟩
  unfold NodeC
  refine ⟨none, 0, some ⟨g, 0, none⟩, c, rfl, ⟨by simp, by simp⟩, Rd.nil, cs, ⟨⟨hlen, fun _ => ⟨_, rfl, heap_lt h2, fun j u hu => row_cells h2 j u (by rw [← hu]; exact List.getElem?_toArray ..)⟩⟩, fun _ ad e => by cases e; exact ⟨_, _, h2⟩⟩, ?_⟩
  unfold NodesC
  exact ⟨cs, [], (List.append_nil _).symm, hn, by unfold NodesC; rfl⟩
end Go.Proofs.YtmgkdmbifecekaaGreatDoor
