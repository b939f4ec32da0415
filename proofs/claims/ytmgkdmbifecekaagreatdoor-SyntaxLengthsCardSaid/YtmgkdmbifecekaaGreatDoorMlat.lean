/-
  Package syntax: said, told, and what they tell of trees. Package syntax: told. Package syntax: Right, Nullable, Groups, Lengths of trees in memory. The law's own nullable. The law's leaf.
-/
import Derived.Test.YtmgkdmbifecekaaGreatDoorSyV
import Derived.Test.YtmgkdmbifecekaaGreatDoorMlai
import Derived.Carry
import Derived.Laws.EntriesVeiled
set_option linter.all false
set_option linter.unusedSimpArgs false
set_option linter.unusedVariables false
set_option linter.unusedSectionVars false
namespace Go.Proofs.YtmgkdmbifecekaaGreatDoor
open Go.RowKit Go.Shelf
theorem al_old {w : World} {o x : Obj} {b : Nat} (h : w.heap[b]? = some x) : (w.alloc o).heap[b]? = some x := (Below.heap_alloc _ _ _ (heap_lt h)).trans h
theorem al_new (w : World) (o : Obj) {b : Nat} (hb : b = w.heap.size) : (w.alloc o).heap[b]? = some o := by rw [hb]; exact heap_alloc_new w o
theorem say_any (Wb : World) (kb sb mb : Nat) (hth : Thin Wb mb) : ∀ (N : Nat) (ts : List Tree), szL ts ≤ N → ∀ (kind : Int) (A : Option Addr) (c : Nat) (room : Int) (W : World) (ys : List Value), 0 ≤ room ∧ room ≤ 1000000 → ts.length ≤ 1000000000000000000 → (factsL kind ts).depth ≤ 1000000 → RdP Wb A (ts.length * 6) ys → NodesC Wb ts ys → SayI Wb kb sb mb W → SayC Wb kb sb mb kind A c room ts W := by
  intro N
  induction N with
  | zero =>
    intro ts hN kind A c room W ys hr hl hd h1 h2 h3
    cases ts with
    | nil => exact say_nil Wb kb sb mb kind A c room W h3
    | cons t ts => obtain ⟨_, _, _, _, _, _⟩ := t; unfold szL szT at hN; omega
  | succ N ih =>
    intro ts hN kind A c room W ys hr hl hd h1 h2 h3
    by_cases hne : ts = []
    · subst hne
      exact say_nil Wb kb sb mb kind A c room W h3
    · exact say_cons Wb kb sb mb kind A c room hr ts hne hl hd W (fun us hu kind A c room W ys g1 g2 g3 g4 g5 g6 => ih us (by omega) kind A c room W ys g1 g2 g3 g4 g5 g6) ys hth h1 h2 h3
section
variable (k : Int) (set : List Rng) (mn mx : Int) (lz : Bool) (subs : List Tree) (A1 : Option Addr) (c1 : Nat) (A2 : Option Addr) (c2 : Nat)
set_option maxRecDepth 10000 in
set_option maxHeartbeats 4000000 in
theorem said_any (room : Int) (hroom : 0 ≤ room ∧ room ≤ 1000000) (hd : (factsT (.mk k set mn mx lz subs)).depth ≤ 1000000) (w : World) (hc : NodeC w (.mk k set mn mx lz subs) [.int .u8 k, .slice A1 set.length c1, .int .i64 mn, .int .i64 mx, .bool lz, .slice A2 subs.length c2]) :
    Calls Tryz.prog 45 #[ndV k A1 set.length c1 mn mx lz A2 subs.length c2, .int .i64 room] w fun e w' => ∃ f ok, e = .returned (.tuple #[fctV f, .bool ok]) ∧ (ok = true → okTr (.mk k set mn mx lz subs) = true ∧ f = factsT (.mk k set mn mx lz subs)) ∧ (ok = false → f = zeroT ∧ (okTr (.mk k set mn mx lz subs) = false ∨ room < (factsT (.mk k set mn mx lz subs)).depth)) ∧ Kept w w' := by
  have HC := Lib.hid hc
  have HD := Lib.hid hd
  obtain ⟨hr0, hr1⟩ := hroom
  clear hc hd
  have hmm := @run_makeMap Tryz.prog
  go_enter Tryz.func45, Tryz.ntmps45
  go_wp2_with fail
  obtain ⟨Wb, hWb⟩ : ∃ x, x = (((((w.alloc (.cells #[.int .u8 k, .slice A1 set.length c1, .int .i64 mn, .int .i64 mx, .bool lz, .slice A2 subs.length c2] 25)).alloc (.cells #[.int .i64 0, .int .i64 0, .int .i64 0, .int .i64 0, .bool false, .bool false] 98)).alloc (.map #[] 0)).alloc (.cells #[.map (some (w.heap.size + 1 + 1))] 131)).alloc (.cells #[(.func (.func 69) #[] #[.pointer (some ⟨w.heap.size + 1 + 1 + 1, 0, none⟩), .pointer (some ⟨w.heap.size + 1 + 1 + 1 + 1, 0, none⟩)])] 132)).alloc (.cells #[.int .u8 k, .slice A1 set.length c1, .int .i64 mn, .int .i64 mx, .bool lz, .slice A2 subs.length c2] 25) := ⟨_, rfl⟩
  rw [← hWb]
  have hK : Kept w Wb := by
    rw [hWb]
    exact ((((((Below.refl _ w).alloc (Nat.le_refl _) _).alloc (by simp) _).alloc (by simp; omega) _).alloc (by simp; omega) _).alloc (by simp; omega) _).alloc (by simp; omega) _
  have h1 : Wb.heap[w.heap.size + 1]? = some (.cells #[.int .i64 0, .int .i64 0, .int .i64 0, .int .i64 0, .bool false, .bool false] 98 (0, 0)) := by rw [hWb]; exact al_old (al_old (al_old (al_old (al_new _ _ (by simp)))))
  have h2 : Wb.heap[w.heap.size + 1 + 1]? = some (.map #[] 0) := by rw [hWb]; exact al_old (al_old (al_old (al_new _ _ (by simp))))
  have h3 : Wb.heap[w.heap.size + 1 + 1 + 1]? = some (.cells #[.map (some (w.heap.size + 1 + 1))] 131 (0, 0)) := by rw [hWb]; exact al_old (al_old (al_new _ _ (by simp)))
  have h4 : Wb.heap[w.heap.size + 1 + 1 + 1 + 1]? = some (.cells #[(.func (.func 69) #[] #[.pointer (some ⟨w.heap.size + 1 + 1 + 1, 0, none⟩), .pointer (some ⟨w.heap.size + 1 + 1 + 1 + 1, 0, none⟩)])] 132 (0, 0)) := by rw [hWb]; exact al_old (al_new _ _ (by simp))
  have h5 : Wb.heap[w.heap.size + 1 + 1 + 1 + 1 + 1]? = some (.cells #[.int .u8 k, .slice A1 set.length c1, .int .i64 mn, .int .i64 mx, .bool lz, .slice A2 subs.length c2] 25 (0, 0)) := by rw [hWb]; exact al_new _ _ (by simp)
  clear hWb
  have hs1 : w.heap.size ≤ w.heap.size + 1 := by omega
  have hs2 : w.heap.size ≤ w.heap.size + 1 + 1 := by omega
  have h12 : w.heap.size + 1 ≠ w.heap.size + 1 + 1 := by omega
  generalize w.heap.size + 1 + 1 + 1 + 1 + 1 = b5 at h5 ⊢
  generalize w.heap.size + 1 + 1 + 1 + 1 = b4 at h4 h3 ⊢
  generalize w.heap.size + 1 + 1 + 1 = b3 at h4 h3 ⊢
  generalize w.heap.size + 1 + 1 = b2 at h2 h3 h12 hs2 ⊢
  generalize w.heap.size + 1 = b1 at h1 h12 hs1 ⊢
  have hI : SayI Wb b3 b4 b2 Wb := ⟨⟨rfl, rfl, rfl, Nat.le_refl _, fun _ _ _ => rfl⟩, h3, h4, #[], 0, h2, fun e he => by simp at he⟩
  have hP : RdP Wb (some ⟨b5, 0, none⟩) (1 * 6) [.int .u8 k, .slice A1 set.length c1, .int .i64 mn, .int .i64 mx, .bool lz, .slice A2 subs.length c2] := ⟨⟨rfl, fun _ => ⟨_, rfl, heap_lt h5, fun j u hu => row_cells h5 j u (by rw [← hu]; exact List.getElem?_toArray ..)⟩⟩, fun _ ad e => by cases e; exact ⟨_, _, h5⟩⟩
  have hN : NodesC Wb [.mk k set mn mx lz subs] [.int .u8 k, .slice A1 set.length c1, .int .i64 mn, .int .i64 mx, .bool lz, .slice A2 subs.length c2] := by
    unfold NodesC
    exact ⟨_, [], (List.append_nil _).symm, NodeC.kept hK _ _ HC.out, by unfold NodesC; rfl⟩
  have CS := Lib.hid (say_any Wb b3 b4 b2 (thin_map h2) _ [.mk k set mn mx lz subs] (Nat.le_refl _) 3 (some ⟨b5, 0, none⟩) 1 room Wb _ ⟨hr0, hr1⟩ (by simp) (by rw [factsL_one]; exact HD.out) hP hN hI)
  have H1 := Lib.hid h1
  have HK := Lib.hid hK
  clear h1 h2 h3 h4 h5 hI hP hN hK hmm
  refine CS.out.mono ?_
  rintro e w1 ⟨⟨d, g, l, m, en, lo⟩, ok, rfl, hT, hF, I1, G1⟩
  have M1 : Hid (w1.heap[b1]? = some (.cells #[.int .i64 0, .int .i64 0, .int .i64 0, .int .i64 0, .bool false, .bool false] 98 (0, 0))) := grown_heap G1 H1.out (by intro e9; cases e9; exact h12 rfl)
  have hk1 : Kept w w1 := ⟨G1.os.trans HK.out.os, G1.tape.trans HK.out.tape, G1.output.trans HK.out.output, Nat.le_trans HK.out.size G1.size, fun b hb => (G1.block b (Nat.lt_of_lt_of_le hb HK.out.size) (by intro e9; cases e9; omega)).trans (HK.out.block b hb)⟩
  have HK1 := Lib.hid hk1
  have HT := Lib.hid hT
  have HF := Lib.hid hF
  clear CS H1 hk1 hT hF I1 G1
  unfold fctV
  dsimp only
  go_wp2_with (first | ((refine wpList_store_row ?c0 98 (.tmp 4) (.tmp 15) ?c1 b1 #[.int .i64 d, .int .i64 g, .int .i64 l, .int .i64 m, .bool en, .bool lo] ?c2 ?c3 _ _ M1.out ?c4 ?c5 ?c6 ?_); (case c0 => with_reducible rfl); (case c1 => with_reducible rfl); (case c2 => rfl); (case c3 => rfl); (case c4 => exact sizeFc); (case c5 => rfl); (case c6 => simp [Value.oneCell'])))
  refine bodyPost_ret (res_facts Tryz.results45 _ _ b1 #[.int .i64 d, .int .i64 g, .int .i64 l, .int .i64 m, .bool en, .bool lo] rfl rfl (setRow_heap _ _ _ _ _ _ M1.out)) rfl ⟨⟨d, g, l, m, en, lo⟩, ok, rfl, fun h => ?_, fun h => ?_, below_setRow HK1.out hs1 _⟩
  · obtain ⟨h8, h9⟩ := HT.out h
    rw [factsL_one] at h9
    exact ⟨by simpa [okTs] using h8, h9⟩
  · obtain ⟨h8, h9⟩ := HF.out h
    rw [factsL_one] at h9
    exact ⟨h8, by simpa [okTs] using h9⟩
end
end Go.Proofs.YtmgkdmbifecekaaGreatDoor
namespace Go.Proofs.YtmgkdmbifecekaaGreatDoor
open Go.RowKit Go.Shelf
def ToldPost (PP : Fct → Bool → Prop) (w : World) (e : Ending) (w' : World) : Prop := ∃ f ok, PP f ok ∧ e = .returned (.tuple #[fctV (if okT f ok = true then f else zeroT), .bool (okT f ok)]) ∧ Kept w w'
section
variable (k : Int) (A1 : Option Addr) (sn c1 : Nat) (mn mx : Int) (lz : Bool) (A2 : Option Addr) (un c2 : Nat) (w : World)
set_option maxHeartbeats 1000000 in
theorem told_ex (PP : Fct → Bool → Prop) (CS : Hid (∀ W, Kept w W → Calls Tryz.prog 45 #[ndV k A1 sn c1 mn mx lz A2 un c2, .int .i64 40] W fun e w' => ∃ f ok, PP f ok ∧ e = .returned (.tuple #[fctV f, .bool ok]) ∧ Kept W w')) :
    Calls Tryz.prog 46 #[ndV k A1 sn c1 mn mx lz A2 un c2] w (ToldPost PP w) := by
  obtain ⟨wa, hwa⟩ : ∃ x, x = (w.alloc (.cells #[.int .u8 k, .slice A1 sn c1, .int .i64 mn, .int .i64 mx, .bool lz, .slice A2 un c2] 25)).alloc (.cells #[.int .i64 0, .int .i64 0, .int .i64 0, .int .i64 0, .bool false, .bool false] 98) := ⟨_, rfl⟩
  have HK : Hid (Kept w wa) := by rw [hwa]; exact ((Below.refl _ w).alloc (Nat.le_refl _) _).alloc (by simp) _
  have Hz : Hid (wa.heap[w.heap.size + 1]? = some (.cells #[.int .i64 0, .int .i64 0, .int .i64 0, .int .i64 0, .bool false, .bool false] 98 (0, 0))) := by
    show _ = _
    have := heap_alloc_new (w.alloc (.cells #[.int .u8 k, .slice A1 sn c1, .int .i64 mn, .int .i64 mx, .bool lz, .slice A2 un c2] 25)) (.cells #[.int .i64 0, .int .i64 0, .int .i64 0, .int .i64 0, .bool false, .bool false] 98)
    rw [World.size_alloc] at this
    rw [hwa]
    exact this
  go_enter Tryz.func46, Tryz.ntmps46
  go_wp2_with fail
  rw [← hwa]
  clear hwa
  refine (CS.out wa HK.out).mono ?_
  rintro e w1 ⟨⟨d, g, l, m, en, lo⟩, ok, hP, rfl, hk1⟩
  have HP := Lib.hid hP
  have M1 := Lib.hid (heap_kept hk1 Hz.out)
  have HK1 := Lib.hid (below_kept HK.out hk1)
  have hne : w.heap.size + 1 < w1.heap.size := heap_lt M1.out
  have M2 : Hid ((w1.alloc (.cells #[.int .i64 d, .int .i64 g, .int .i64 l, .int .i64 m, .bool en, .bool lo] 98)).heap[w.heap.size + 1]? = some (.cells #[.int .i64 0, .int .i64 0, .int .i64 0, .int .i64 0, .bool false, .bool false] 98 (0, 0))) := (Below.heap_alloc _ _ _ hne).trans M1.out
  clear hk1 CS Hz M1 hP
  unfold fctV
  dsimp only
  cases ok
  · go_wp2_with ((refine wpList_store_row ?c0 98 (.tmp 2) (.tmp 27) ?c1 (w.heap.size + 1) #[.int .i64 0, .int .i64 0, .int .i64 0, .int .i64 0, .bool false, .bool false] ?c2 ?c3 _ _ M2.out ?c4 ?c5 ?c6 ?_); (case c0 => with_reducible rfl); (case c1 => with_reducible rfl); (case c2 => rfl); (case c3 => rfl); (case c4 => exact sizeFc); (case c5 => rfl); (case c6 => simp [Value.oneCell']))
    exact bodyPost_ret (res_facts Tryz.results46 _ _ (w.heap.size + 1) #[.int .i64 0, .int .i64 0, .int .i64 0, .int .i64 0, .bool false, .bool false] rfl rfl (setRow_heap _ _ _ _ _ _ M2.out)) rfl ⟨⟨d, g, l, m, en, lo⟩, false, HP.out, rfl, below_setRow (HK1.out.alloc HK1.out.size _) (by omega) _⟩
  · cases lo
    · by_cases h30 : 30 < g
      · have hgo : okT ⟨d, g, l, m, en, false⟩ true = false := by unfold okT; simp; omega
        go_wp2_with ((refine wpList_store_row ?c0 98 (.tmp 2) (.tmp 27) ?c1 (w.heap.size + 1) #[.int .i64 0, .int .i64 0, .int .i64 0, .int .i64 0, .bool false, .bool false] ?c2 ?c3 _ _ M2.out ?c4 ?c5 ?c6 ?_); (case c0 => with_reducible rfl); (case c1 => with_reducible rfl); (case c2 => rfl); (case c3 => rfl); (case c4 => exact sizeFc); (case c5 => rfl); (case c6 => simp [Value.oneCell']))
        exact bodyPost_ret (res_facts Tryz.results46 _ _ (w.heap.size + 1) #[.int .i64 0, .int .i64 0, .int .i64 0, .int .i64 0, .bool false, .bool false] rfl rfl (setRow_heap _ _ _ _ _ _ M2.out)) rfl ⟨⟨d, g, l, m, en, false⟩, true, HP.out, by rw [hgo]; rfl, below_setRow (HK1.out.alloc HK1.out.size _) (by omega) _⟩
      · by_cases h40 : 40 < d
        · have hgo : okT ⟨d, g, l, m, en, false⟩ true = false := by unfold okT; simp; omega
          go_wp2_with ((refine wpList_store_row ?c0 98 (.tmp 2) (.tmp 27) ?c1 (w.heap.size + 1) #[.int .i64 0, .int .i64 0, .int .i64 0, .int .i64 0, .bool false, .bool false] ?c2 ?c3 _ _ M2.out ?c4 ?c5 ?c6 ?_); (case c0 => with_reducible rfl); (case c1 => with_reducible rfl); (case c2 => rfl); (case c3 => rfl); (case c4 => exact sizeFc); (case c5 => rfl); (case c6 => simp [Value.oneCell']))
          exact bodyPost_ret (res_facts Tryz.results46 _ _ (w.heap.size + 1) #[.int .i64 0, .int .i64 0, .int .i64 0, .int .i64 0, .bool false, .bool false] rfl rfl (setRow_heap _ _ _ _ _ _ M2.out)) rfl ⟨⟨d, g, l, m, en, false⟩, true, HP.out, by rw [hgo]; rfl, below_setRow (HK1.out.alloc HK1.out.size _) (by omega) _⟩
        · have hgo : okT ⟨d, g, l, m, en, false⟩ true = true := by unfold okT; simp; omega
          go_wp2_with ((refine wpList_store_row ?c0 98 (.tmp 2) (.tmp 28) ?c1 (w.heap.size + 1) #[.int .i64 d, .int .i64 g, .int .i64 l, .int .i64 m, .bool en, .bool false] ?c2 ?c3 _ _ M2.out ?c4 ?c5 ?c6 ?_); (case c0 => with_reducible rfl); (case c1 => with_reducible rfl); (case c2 => rfl); (case c3 => rfl); (case c4 => exact sizeFc); (case c5 => rfl); (case c6 => simp [Value.oneCell']))
          exact bodyPost_ret (res_facts Tryz.results46 _ _ (w.heap.size + 1) #[.int .i64 d, .int .i64 g, .int .i64 l, .int .i64 m, .bool en, .bool false] rfl rfl (setRow_heap _ _ _ _ _ _ M2.out)) rfl ⟨⟨d, g, l, m, en, false⟩, true, HP.out, by rw [hgo]; rfl, below_setRow (HK1.out.alloc HK1.out.size _) (by omega) _⟩
    · have hgo : okT ⟨d, g, l, m, en, true⟩ true = false := by unfold okT; simp
      go_wp2_with ((refine wpList_store_row ?c0 98 (.tmp 2) (.tmp 27) ?c1 (w.heap.size + 1) #[.int .i64 0, .int .i64 0, .int .i64 0, .int .i64 0, .bool false, .bool false] ?c2 ?c3 _ _ M2.out ?c4 ?c5 ?c6 ?_); (case c0 => with_reducible rfl); (case c1 => with_reducible rfl); (case c2 => rfl); (case c3 => rfl); (case c4 => exact sizeFc); (case c5 => rfl); (case c6 => simp [Value.oneCell']))
      exact bodyPost_ret (res_facts Tryz.results46 _ _ (w.heap.size + 1) #[.int .i64 0, .int .i64 0, .int .i64 0, .int .i64 0, .bool false, .bool false] rfl rfl (setRow_heap _ _ _ _ _ _ M2.out)) rfl ⟨⟨d, g, l, m, en, true⟩, true, HP.out, by rw [hgo]; rfl, below_setRow (HK1.out.alloc HK1.out.size _) (by omega) _⟩
end
section
variable (k : Int) (set : List Rng) (mn mx : Int) (lz : Bool) (subs : List Tree) (A1 : Option Addr) (c1 : Nat) (A2 : Option Addr) (c2 : Nat)
/-- TOLD: what a tree says, if it is right. -/
theorem told_any (hd : (factsT (.mk k set mn mx lz subs)).depth ≤ 1000000) (w : World) (hc : NodeC w (.mk k set mn mx lz subs) [.int .u8 k, .slice A1 set.length c1, .int .i64 mn, .int .i64 mx, .bool lz, .slice A2 subs.length c2]) :
    Calls Tryz.prog 46 #[ndV k A1 set.length c1 mn mx lz A2 subs.length c2] w fun e w' => e = .returned (.tuple #[fctV (if rgtT (.mk k set mn mx lz subs) = true then factsT (.mk k set mn mx lz subs) else zeroT), .bool (rgtT (.mk k set mn mx lz subs))]) ∧ Kept w w' := by
  refine (told_ex k A1 set.length c1 mn mx lz A2 subs.length c2 w (fun f ok => (ok = true → okTr (.mk k set mn mx lz subs) = true ∧ f = factsT (.mk k set mn mx lz subs)) ∧ (ok = false → f = zeroT ∧ (okTr (.mk k set mn mx lz subs) = false ∨ 40 < (factsT (.mk k set mn mx lz subs)).depth))) (Lib.hid fun W hW => ?_)).mono ?_
  · refine (said_any k set mn mx lz subs A1 c1 A2 c2 40 (by omega) hd W (NodeC.kept hW _ _ hc)).mono ?_
    rintro e w' ⟨f, ok, h1, h2, h3, h4⟩
    exact ⟨f, ok, ⟨h2, h3⟩, h1, h4⟩
  · rintro e w' ⟨f, ok, ⟨h2, h3⟩, h1, h4⟩
    refine ⟨?_, h4⟩
    rw [h1]
    obtain ⟨T, hT⟩ : ∃ T, T = Tree.mk k set mn mx lz subs := ⟨_, rfl⟩
    rw [← hT] at h2 h3 ⊢
    cases ok
    · obtain ⟨rfl, h5⟩ := h3 rfl
      have hr : rgtT T = false := by
        unfold rgtT
        rcases h5 with h5 | h5
        · rw [h5]; rfl
        · have : decide ((factsT T).depth ≤ 40) = false := by simp; omega
          rw [this]; simp
      rw [hr]
      rfl
    · obtain ⟨h5, rfl⟩ := h2 rfl
      have hr : okT (factsT T) true = rgtT T := by unfold okT rgtT; rw [h5]; rfl
      rw [hr]
end
end Go.Proofs.YtmgkdmbifecekaaGreatDoor
namespace Go.Proofs.YtmgkdmbifecekaaGreatDoor
open Go.RowKit Go.Shelf
/-- A value that is a tree. -/
def NodeV (w : World) (t : Tree) (v : Value) : Prop := ∃ cs, v = .agg (List.toArray cs) ∧ NodeC w t cs
theorem NodeV.kept {w w' : World} (hk : Kept w w') {t : Tree} {v : Value} (h : NodeV w t v) : NodeV w' t v := by
  obtain ⟨cs, e, h⟩ := h
  exact ⟨cs, e, h.kept hk⟩
/-- Its six cells. -/
theorem NodeV.nd {w : World} {k : Int} {set : List Rng} {mn mx : Int} {lz : Bool} {subs : List Tree} {v : Value} (h : NodeV w (.mk k set mn mx lz subs) v) :
    ∃ A1 c1 A2 c2, v = ndV k A1 set.length c1 mn mx lz A2 subs.length c2 ∧ NodeC w (.mk k set mn mx lz subs) [.int .u8 k, .slice A1 set.length c1, .int .i64 mn, .int .i64 mx, .bool lz, .slice A2 subs.length c2] := by
  obtain ⟨cs, rfl, h⟩ := h
  have h2 := h
  unfold NodeC at h
  obtain ⟨A1, c1, A2, c2, rfl, _⟩ := h
  exact ⟨A1, c1, A2, c2, rfl, h2⟩
section
variable (t : Tree) (v : Value) (w : World) (hv : NodeV w t v) (hd : (factsT t).depth ≤ 1000000)
include hv hd
theorem right_any : Calls Tryz.prog 20 #[v] w fun e w' => e = .returned (.bool (rgtT t)) ∧ Kept w w' := by
  obtain ⟨k, set, mn, mx, lz, subs⟩ := t
  obtain ⟨A1, c1, A2, c2, rfl, hc⟩ := hv.nd
  exact right_of k A1 set.length c1 mn mx lz A2 subs.length c2 w _ _ (Lib.hid fun W hW => told_any k set mn mx lz subs A1 c1 A2 c2 hd W (NodeC.kept hW _ _ hc))
theorem nullable_any : Calls Tryz.prog 22 #[v] w fun e w' => e = .returned (.tuple #[.bool (rgtT t && (factsT t).least == 0), .int .i64 (if rgtT t = true then 0 else 73)]) ∧ Kept w w' := by
  obtain ⟨k, set, mn, mx, lz, subs⟩ := t
  obtain ⟨A1, c1, A2, c2, rfl, hc⟩ := hv.nd
  refine (nullable_of k A1 set.length c1 mn mx lz A2 subs.length c2 w _ _ (Lib.hid fun W hW => told_any k set mn mx lz subs A1 c1 A2 c2 hd W (NodeC.kept hW _ _ hc))).mono ?_
  rintro e w' ⟨rfl, hk⟩
  refine ⟨?_, hk⟩
  cases rgtT (.mk k set mn mx lz subs) <;> simp
theorem groups_any : Calls Tryz.prog 24 #[v] w fun e w' => e = .returned (.tuple #[.int .i64 (if rgtT t = true then (factsT t).groups else 0), .int .i64 (if rgtT t = true then 0 else 73)]) ∧ Kept w w' := by
  obtain ⟨k, set, mn, mx, lz, subs⟩ := t
  obtain ⟨A1, c1, A2, c2, rfl, hc⟩ := hv.nd
  refine (groups_of k A1 set.length c1 mn mx lz A2 subs.length c2 w _ _ (Lib.hid fun W hW => told_any k set mn mx lz subs A1 c1 A2 c2 hd W (NodeC.kept hW _ _ hc))).mono ?_
  rintro e w' ⟨rfl, hk⟩
  refine ⟨?_, hk⟩
  cases rgtT (.mk k set mn mx lz subs) <;> simp
theorem lengths_any : Calls Tryz.prog 23 #[v] w fun e w' => e = .returned (.tuple #[.int .i64 (if rgtT t = true then (factsT t).least else 0), .int .i64 (if rgtT t = true then (if (factsT t).endless = true then -1 else (factsT t).most) else 0), .int .i64 (if rgtT t = true then 0 else 73)]) ∧ Kept w w' := by
  obtain ⟨k, set, mn, mx, lz, subs⟩ := t
  obtain ⟨A1, c1, A2, c2, rfl, hc⟩ := hv.nd
  refine (lengths_of k A1 set.length c1 mn mx lz A2 subs.length c2 w _ _ (Lib.hid fun W hW => told_any k set mn mx lz subs A1 c1 A2 c2 hd W (NodeC.kept hW _ _ hc))).mono ?_
  rintro e w' ⟨rfl, hk⟩
  refine ⟨?_, hk⟩
  cases rgtT (.mk k set mn mx lz subs) <;> simp
end
end Go.Proofs.YtmgkdmbifecekaaGreatDoor
namespace Go.Proofs.YtmgkdmbifecekaaGreatDoor
open Go.RowKit Go.Shelf
theorem someN_app : ∀ (xs : List Tree) (t : Tree), someN (xs ++ [t]) = (someN xs || nullT t)
  | [], t => by simp [someN]
  | x :: xs, t => by rw [List.cons_append, someN, someN, someN_app xs t, Bool.or_assoc]
theorem allN_app : ∀ (xs : List Tree) (t : Tree), allN (xs ++ [t]) = (allN xs && nullT t)
  | [], t => by simp [allN]
  | x :: xs, t => by rw [List.cons_append, allN, allN, allN_app xs t, Bool.and_assoc]
abbrev NulC (t : Tree) (v : Value) (w : World) : Prop := Calls Tryz.prog 25 #[v] w fun e w' => e = .returned (.bool (nullT t)) ∧ Kept w w'
set_option maxRecDepth 10000 in
set_option maxHeartbeats 4000000 in
theorem nul_step (k : Int) (set : List Rng) (mn mx : Int) (lz : Bool) (subs : List Tree) (IH : ∀ u : Tree, szT u ≤ szL subs → ∀ v w, NodeV w u v → NulC u v w) (v : Value) (w : World) (hv : NodeV w (.mk k set mn mx lz subs) v) : NulC (.mk k set mn mx lz subs) v w := by
  obtain ⟨A1, c1, A2, c2, rfl, hc⟩ := hv.nd
  have hc2 := hc
  unfold NodeC at hc2
  obtain ⟨_, _, _, _, e, hz, _, ys, hys, hyc⟩ := hc2
  simp at e
  obtain ⟨⟨rfl, rfl⟩, rfl, rfl⟩ := e
  have HI := Lib.hid IH
  have Hys := Lib.hid hys
  have Hyc := Lib.hid hyc
  have hzl := hz.2
  obtain ⟨n, hn⟩ : ∃ n, n = subs.length := ⟨_, rfl⟩
  have Hn := Lib.hid hn
  unfold NulC
  rw [← hn] at Hys hzl ⊢
  clear IH hys hyc hz hc hv hn
  go_enter Tryz.func25, Tryz.ntmps25
  go_wp2_with fail
  have hK1 : Kept w (w.alloc (.cells #[.int .u8 k, .slice A1 set.length c1, .int .i64 mn, .int .i64 mx, .bool lz, .slice A2 n c2] 25)) := (Below.refl _ w).alloc (Nat.le_refl _) _
  have H1 := Lib.hid (heap_alloc_new w (.cells #[.int .u8 k, .slice A1 set.length c1, .int .i64 mn, .int .i64 mx, .bool lz, .slice A2 n c2] 25))
  go_loopw [3, 4, 11] (fun v3 v4 v11 wr => ∃ i : Nat, i ≤ n ∧ v11 = .int .i64 i ∧ v3 = .bool (someN (subs.take i)) ∧ v4 = .bool (allN (subs.take i)) ∧ Hid (Kept (w.alloc (.cells #[.int .u8 k, .slice A1 set.length c1, .int .i64 mn, .int .i64 mx, .bool lz, .slice A2 n c2] 25)) wr)) (fun _ _ v11 _ => n - (intOf v11).toNat)
  case atStart => exact ⟨0, Nat.zero_le _, rfl, rfl, rfl, Below.refl _ _⟩
  case round =>
    obtain ⟨i, hi, rfl, rfl, rfl, HK⟩ := hrel
    obtain ⟨wq, rfl⟩ : ∃ x, x = wr := ⟨_, rfl⟩
    by_cases hin : i < n
    · obtain ⟨t, ht⟩ : ∃ t, subs[i]? = some t := ⟨_, List.getElem?_eq_getElem (by rw [← Hn.out]; exact hin)⟩
      have hsz := szL_mem subs t (List.mem_of_getElem? ht)
      have hkq : Kept w wq := below_kept hK1 HK.out
      have hnew : Hid (someN (subs.take (i + 1)) = (someN (subs.take i) || nullT t) ∧ allN (subs.take (i + 1)) = (allN (subs.take i) && nullT t)) := by
        rw [List.take_add_one, ht, Option.toList_some]
        exact ⟨someN_app _ _, allN_app _ _⟩
      obtain ⟨ad, rfl, _⟩ := Hys.out.1.2 (by omega)
      have hget := NodesC.get (NodesC.kept hkq _ _ Hyc.out) i t ht
      obtain ⟨kd, st, m1, m2, l2, sb⟩ := t
      obtain ⟨B1, d1, B2, d2, hz2, hset2, ⟨zs, hzs, hzc⟩, hcell⟩ := node_cells (rdp_kept hkq Hys.out) (NodesC.kept hkq _ _ Hyc.out) ht
      have hrow : ∀ j v, (#[.int .u8 kd, .slice B1 st.length d1, .int .i64 m1, .int .i64 m2, .bool l2, .slice B2 sb.length d2] : Array Value)[j]? = some v → wq.cell? ((ad.add (i * 6)).add j) = some v := hcell
      have hkk : Kept wq (wq.alloc (.cells #[.int .u8 kd, .slice B1 st.length d1, .int .i64 m1, .int .i64 m2, .bool l2, .slice B2 sb.length d2] 25)) := (Below.refl _ wq).alloc (Nat.le_refl _) _
      have CR := Lib.hid (HI.out _ hsz (ndV kd B1 st.length d1 m1 m2 l2 B2 sb.length d2) (wq.alloc (.cells #[.int .u8 kd, .slice B1 st.length d1, .int .i64 m1, .int .i64 m2, .bool l2, .slice B2 sb.length d2] 25)) (NodeV.kept hkk ⟨_, rfl, by unfold NodeC; exact ⟨B1, d1, B2, d2, rfl, hz2, hset2, zs, hzs, hzc⟩⟩))
      have HKK := Lib.hid (below_kept HK.out hkk)
      obtain ⟨b1, hb1⟩ : ∃ b, b = someN (subs.take i) := ⟨_, rfl⟩
      obtain ⟨b2, hb2⟩ : ∃ b, b = allN (subs.take i) := ⟨_, rfl⟩
      obtain ⟨b3, hb3⟩ : ∃ b, b = nullT (.mk kd st m1 m2 l2 sb) := ⟨_, rfl⟩
      unfold NulC at CR
      rw [← hb3] at CR hnew
      rw [← hb1, ← hb2] at hnew ⊢
      have hii : (i : Int) < n := by omega
      clear hb1 hb2 hb3 hcell hkk hget hset2 hzs hzc hz2 HK ht hsz hkq
      cases b1 <;> cases b2
      all_goals
        go_wp2_with (first | (refine wpList_load_at rfl 25 (.tmp 13) rfl (ad.add (i * 6)) rfl #[.int .u8 kd, .slice B1 st.length d1, .int .i64 m1, .int .i64 m2, .bool l2, .slice B2 sb.length d2] _ hrow Tryz.underlying25 rfl sizeNd ?_) | (go_at_call 25; refine CR.out.mono ?_; rintro e w5 ⟨rfl, hk5⟩; have HK5 := Lib.hid (below_kept HKK.out hk5); clear hk5))
        refine ⟨⟨i + 1, by omega, by go_num, ?_, ?_, HK5.out⟩, ?_⟩
        · rw [hnew.out.1]; first | rfl | simp
        · rw [hnew.out.2]; first | rfl | simp
        · simp [intOf]; omega
    · have hii : i = n := by omega
      have htk : subs.take i = subs := List.take_of_length_le (by rw [← Hn.out]; omega)
      rw [htk]
      have hin2 : ¬ (i : Int) < n := by omega
      have H2 := heap_kept HK.out H1.out
      have e0 : wq.cell? ⟨w.heap.size, 0, none⟩ = some (.int .u8 k) := by rw [cell_of_row _ _ _ _ _ _ H2]; rfl
      have e2 : wq.cell? ⟨w.heap.size, 2, none⟩ = some (.int .i64 mn) := by rw [cell_of_row _ _ _ _ _ _ H2]; rfl
      have HKf := Lib.hid (below_kept hK1 HK.out)
      obtain ⟨b1, hb1⟩ : ∃ b, b = someN subs := ⟨_, rfl⟩
      obtain ⟨b2, hb2⟩ : ∃ b, b = allN subs := ⟨_, rfl⟩
      have hT : Hid (nullT (.mk k set mn mx lz subs) = if k = 1 then true else if k = 3 then b2 else if k = 5 then b1 || decide (mn = 0) else b1) := by
        show _ = _
        rw [nullT, hb1, hb2]
      rw [← hb1, ← hb2]
      clear hb1 hb2 H2 HK htk
      by_cases k1 : k = 1
      · have q : (k == 1) = true := by simp [k1]
        have hT2 : Hid (nullT (.mk k set mn mx lz subs) = true) := hT.out.trans (if_pos k1)
        clear k1 hT
        go_wp2_with fail
        go_ret
        exact ⟨by rw [hT2.out]; rfl, HKf.out⟩
      · have q : (k == 1) = false := by simp [k1]
        by_cases k3 : k = 3
        · have q3 : (k == 3) = true := by simp [k3]
          have hT2 : Hid (nullT (.mk k set mn mx lz subs) = b2) := hT.out.trans ((if_neg k1).trans (if_pos k3))
          clear k1 k3 hT
          go_wp2_with fail
          go_ret
          exact ⟨by rw [hT2.out]; rfl, HKf.out⟩
        · have q3 : (k == 3) = false := by simp [k3]
          by_cases k5 : k = 5
          · have q5 : (k == 5) = true := by simp [k5]
            have hT2 : Hid (nullT (.mk k set mn mx lz subs) = (b1 || decide (mn = 0))) := hT.out.trans ((if_neg k1).trans ((if_neg k3).trans (if_pos k5)))
            clear k1 k3 k5 hT
            cases b1
            all_goals
              go_wp2_with fail
              go_ret
              exact ⟨by rw [hT2.out]; first | rfl | simp, HKf.out⟩
          · have q5 : (k == 5) = false := by simp [k5]
            have hT2 : Hid (nullT (.mk k set mn mx lz subs) = b1) := hT.out.trans ((if_neg k1).trans ((if_neg k3).trans (if_neg k5)))
            clear k1 k3 k5 hT
            go_wp2_with fail
            go_ret
            exact ⟨by rw [hT2.out]; rfl, HKf.out⟩
theorem nul_any : ∀ (N : Nat) (t : Tree), szT t ≤ N → ∀ v w, NodeV w t v → NulC t v w := by
  intro N
  induction N with
  | zero => intro t h; obtain ⟨_, _, _, _, _, _⟩ := t; unfold szT at h; omega
  | succ N ih =>
    intro t h v w hv
    obtain ⟨k, set, mn, mx, lz, subs⟩ := t
    unfold szT at h
    exact nul_step k set mn mx lz subs (fun u hu v w hv => ih u (by omega) v w hv) v w hv
end Go.Proofs.YtmgkdmbifecekaaGreatDoor
namespace Go.Proofs.YtmgkdmbifecekaaGreatDoor
open Go.RowKit Go.Shelf
theorem rdr_new {w : World} {g : Nat} {t : TypeId} {L : List Rng} (h : w.heap[g]? = some (.cells (rngs L).toArray t (0, 0))) : RdR w w.heap.size (some ⟨g, 0, none⟩) L :=
  ⟨rngs_length L, fun _ => ⟨_, rfl, heap_lt h, fun j u hu => row_cells h j u (by rw [← hu]; exact List.getElem?_toArray ..)⟩⟩
end Go.Proofs.YtmgkdmbifecekaaGreatDoor
