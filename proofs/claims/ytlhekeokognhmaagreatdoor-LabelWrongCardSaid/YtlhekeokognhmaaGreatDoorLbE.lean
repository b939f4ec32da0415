/-
  The labels that a map makes, in order.
-/
import Derived.Test.YtlhekeokognhmaaGreatDoorLbD
import Derived.Test.YtlhekeokognhmaaGreatDoorLbIter
import Derived.Sort.OwnSorted
import Derived.OwnWalk
import Derived.Maps.AppendAt
namespace Go.Proofs.YtlhekeokognhmaaGreatDoor
open Go.RowKit Go.Shelf Go.Maps Go.Sort
theorem sorts77 (m : Nat) : AnyZ.SortsIn Tryz.prog laySorted_ren Fence.wide m :=
  ⟨fun blk off cap ss W hH hblk hsz => callsIn_wide.2 (AnyM.slices_Sort_string laySort blk off cap ss W hH hblk hsz),
   fun p cap W => callsIn_wide.2 (AnyM.slices_Sort_string_none laySort p cap W)⟩
theorem keys_any (mb : Option Nat) (W : World) : Calls Tryz.prog 98 #[.map mb] W fun e w' => e = .returned (.func (.func 113) #[] #[.pointer (some ⟨W.heap.size, 0, none⟩)]) ∧ w' = W.alloc (.cells #[.map mb] 95) :=
  callsIn_wide.1 (AnyZ.keys_in layKeys Fence.wide 5 trivial rfl mb W)
set_option maxHeartbeats 1000000 in
theorem sortedKeys_any {H : Type} (b nn : Nat) (D0 : DataW H) (R : Value → Option (DataW H × List MemPlace)) (w : World) (hown : w.ownsMap Tryz.prog 9 R b nn D0) (hmax : Maps.size D0 ≤ maxLen) (hbytes : Maps.size D0 * 16 ≤ 140737488355328) :
    Calls Tryz.prog 97 #[.func (.func 113) #[] #[.pointer (some ⟨w.heap.size, 0, none⟩)]] (w.alloc (.cells #[.map (some b)] 95)) fun e w' => ∃ (v : Value) (ss : List (List UInt8)), e = .returned v ∧ ss.Perm (strKeys D0) ∧
      w'.ownsRow (w.alloc (.cells #[.map (some b)] 95)).heap.size 9 1 v ss.length ((ss.mergeSort (fun x y => decide (x ≤ y))).map encStr) ∧ (v = .slice none 0 0 ↔ ss = []) ∧ Below (w.alloc (.cells #[.map (some b)] 95)).heap.size (w.alloc (.cells #[.map (some b)] 95)) w' := by
  have hbl := hown.lt
  have hseq : SeqGives Fence.wide 2 Tryz.prog 113 #[.pointer (some ⟨w.heap.size, 0, none⟩)] encStr (fun ss => ss.Perm (strKeys D0)) (Maps.size D0) (w.alloc (.cells #[.map (some b)] 95)) :=
    AnyZ.keys_gives (ρ := layKeys_ren) { layKeys with } Fence.wide _ trivial rfl (by omega) w.heap.size b nn D0 _ (by simp) (by simp) (by
      obtain ⟨es, clock, hb, Ft, hs, hD⟩ := hown
      exact ⟨es, clock, (Below.heap_alloc _ _ b hbl).trans hb, Ft, hs, hD⟩)
  exact callsIn_wide.1 (AnyZ.sorted_in laySorted Fence.wide 5 trivial trivial trivial trivial rfl (by omega) (sorts77 _) (enters_of Tryz.func112 (by kernel_rfl) rfl) 113 #[.pointer (some ⟨w.heap.size, 0, none⟩)] trivial (enters_of Tryz.func113 (by kernel_rfl) rfl) _ _ hmax hbytes _ hseq)
set_option maxRecDepth 100000 in
theorem fresh_any (a b : ByteArray) (ha : a.size ≤ 281474976710656) (hb : b.size ≤ 281474976710656) (w : World) : Calls Tryz.prog 99 #[.string a, .string b] w fun e w' => e = .returned (.agg #[.string a, .string b]) ∧ Kept w w' := by
  have CA := Lib.hid (fun W => sclone_any a W ha)
  have CB := Lib.hid (fun W => sclone_any b W hb)
  have K0 : Hid (Kept w (w.alloc (.cells #[.string ⟨#[]⟩, .string ⟨#[]⟩] 33))) := (Below.refl _ w).alloc (Nat.le_refl _) _
  have M0 : Hid ((w.alloc (.cells #[.string ⟨#[]⟩, .string ⟨#[]⟩] 33)).heap[w.heap.size]? = some (.cells #[.string ⟨#[]⟩, .string ⟨#[]⟩] 33 (0, 0))) := heap_alloc_new w _
  clear ha hb
  go_enter Tryz.func99, Tryz.ntmps99
  go_upto_region 1 with fail
  generalize w.alloc (.cells #[.string ⟨#[]⟩, .string ⟨#[]⟩] 33) = w1 at *
  obtain ⟨g, hg⟩ : ∃ g, g = w.heap.size := ⟨_, rfl⟩
  rw [← hg] at M0 ⊢
  have HG := Lib.hid hg
  clear hg
  go_wp2_with (first
    | (go_at_call 90; refine (CA.out _).mono ?_; rintro e w2 ⟨rfl, hk2⟩; have HK2 := Lib.hid hk2; clear hk2)
    | (go_at_call 90; refine (CB.out _).mono ?_; rintro e w3 ⟨rfl, hk3⟩; have HK3 := Lib.hid hk3; clear hk3)
    | ((refine wpList_store_row ?c0 33 (.tmp 4) (.tmp 9) ?c1 g #[.string a, .string b] ?c2 ?c3 _ _ (heap_kept HK3.out (heap_kept HK2.out M0.out)) ?c4 ?c5 ?c6 ?_); (case c0 => with_reducible rfl); (case c1 => with_reducible rfl); (case c2 => rfl); (case c3 => rfl); (case c4 => exact sizeL); (case c5 => rfl); (case c6 => simp [Value.oneCell'])))
  refine bodyPost_ret (results_cell_row Tryz.results99 _ _ g _ #[.string a, .string b] (0, 0) _ rfl (setRow_heap _ _ _ _ _ _ (heap_kept HK3.out (heap_kept HK2.out M0.out))) Tryz.underlying33 rfl sizeL) rfl ⟨rfl, ?_⟩
  exact below_setRow (Below.trans K0.out ((below_kept HK2.out HK3.out).mono (Below.size K0.out))) (by rw [HG.out]; exact Nat.le_refl _) _
theorem infoLab : (Tryz.prog.info? 33).map (fun i => (i.zero, i.size, i.bytes)) = some (some (.agg #[.string ⟨#[]⟩, .string ⟨#[]⟩]), 2, 32) := by kernel_rfl
theorem zstr (w : World) : (zeroValue 9).run Tryz.prog w = .ok (.string ⟨#[]⟩) w := by kernel_rfl
/-- A label of bytes, as strings. -/
abbrev bl (x : Lb) : Lab := (⟨x.1.toArray⟩, ⟨x.2.toArray⟩)
theorem lb_bl (x : Lb) : lb (bl x) = x := rfl
theorem bl_lb (x : Lab) : bl (lb x) = x := rfl
/-- The keys of a map that holds sorted labels. -/
theorem keys_of {w : World} {b n : Nat} {D : DataW H0} {m : List Lb} (hown : w.ownsMap Tryz.prog 9 PE b n D) (hD : MapIs D (find m)) (hs : Srt m) : (m.map (·.1)).Perm (strKeys D) := by
  obtain ⟨es, rfl, hp⟩ := hown.tidy skey
  obtain ⟨es', he, hk⟩ := hown.keysOf
  injection he with he
  subst he
  refine perm_strKeys hp (fun p hp' => ?_) ?_ fun x => ?_
  · obtain ⟨v, hv⟩ := hk p hp'
    obtain ⟨x, _, hx, _⟩ := Maps.keyOf_str Tryz.underlying9 hv
    exact ⟨x, hx⟩
  · exact List.pairwise_map.2 (List.Pairwise.imp (S := fun a b : Lb => a.1 ≠ b.1) (fun {a b} h e => str_lt_irrefl b.1 (by rw [← e] at h ⊢; exact h)) hs)
  · rw [(hD.2 x).1]
    exact find_isSome.symm
theorem keys_size {D : DataW H0} {m : List Lb} (hI : IsMap D) (h : (m.map (·.1)).Perm (strKeys D)) : Maps.size D = m.length := by
  obtain ⟨es, rfl⟩ := hI
  have := h.length_eq
  rw [List.length_map] at this
  rw [this]
  show es.length = (es.map _).length
  rw [List.length_map]
theorem keys_sorted {m : List Lb} (hs : Srt m) {ss : List Str} (h : ss.Perm (m.map (·.1))) : ss.mergeSort (fun x y => decide (x ≤ y)) = m.map (·.1) := by
  have h1 : ss.mergeSort leB = (m.map (·.1)).mergeSort leB := mergeSort_of_perm h
  have h2 : (m.map (·.1)).Pairwise fun a b => leB a b = true := List.pairwise_map.2 (hs.imp fun h => by simp only [leB, decide_eq_true_eq]; exact List.le_of_lt h)
  exact h1.trans (List.mergeSort_of_pairwise h2)
end Go.Proofs.YtlhekeokognhmaaGreatDoor
