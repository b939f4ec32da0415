/-
  Labels that lie in a slice; the first one that is wrong.
-/
import Derived.Test.YtlhekeokognhmaaGreatDoorLbB
import Derived.Test.YtlhekeokognhmaaGreatDoorArr
namespace Go.Proofs.YtlhekeokognhmaaGreatDoor
open Go.RowKit Go.Shelf
/-- Labels as cells, two each. -/
def labs (L : List Lab) : List Value := L.flatMap fun x => [.string x.1, .string x.2]
theorem labs_nil : labs [] = [] := rfl
theorem labs_cons (x : Lab) (L : List Lab) : labs (x :: L) = .string x.1 :: .string x.2 :: labs L := rfl
theorem labs_app (a b : List Lab) : labs (a ++ b) = labs a ++ labs b := by simp [labs]
theorem labs_length : ∀ L : List Lab, (labs L).length = L.length * 2
  | [] => rfl
  | x :: L => by rw [labs_cons, List.length_cons, List.length_cons, labs_length L, List.length_cons]; omega
theorem labs_get : ∀ (L : List Lab) (k : Nat) (x : Lab), L[k]? = some x → (labs L)[k * 2]? = some (.string x.1) ∧ (labs L)[k * 2 + 1]? = some (.string x.2)
  | [], k, x, h => by simp at h
  | y :: L, 0, x, h => by cases h; exact ⟨rfl, rfl⟩
  | y :: L, k + 1, x, h => by
    have := labs_get L k x h
    rw [labs_cons, show (k + 1) * 2 = k * 2 + 1 + 1 from by omega, show (k * 2 + 1 + 1 + 1) = (k * 2 + 1) + 1 + 1 from by omega]
    exact this
theorem labs_one (L : List Lab) : ∀ u ∈ labs L, u.oneCell' = true := by
  intro u hu
  obtain ⟨x, _, hx⟩ := List.mem_flatMap.1 hu
  simp at hx
  rcases hx with rfl | rfl <;> rfl
/-- Labels in a slice. -/
abbrev RdL (w : World) (B : Nat) (A : Option Addr) (L : List Lab) : Prop := Rd w B A (L.length * 2) (labs L)
theorem addr_add_add (a : Addr) (i j : Nat) : (a.add i).add j = a.add (i + j) := by
  unfold Addr.add
  split <;> rename_i h <;> split <;> simp_all <;> omega
section
variable {w w' : World} {B : Nat} {A : Option Addr} {L : List Lab}
theorem rdl_at (h : RdL w B A L) {k : Nat} (hk : k < L.length) : ∃ ad x, A = some ad ∧ ad.block < B ∧ L[k]? = some x ∧ L.drop k = x :: L.drop (k + 1) ∧ w.cell? (ad.add (k * 2)) = some (.string x.1) ∧ w.cell? (ad.add (k * 2 + 1)) = some (.string x.2) := by
  obtain ⟨ad, e, hb, hc⟩ := h.2 (by omega)
  obtain ⟨h1, h2⟩ := labs_get L k L[k] (List.getElem?_eq_getElem hk)
  exact ⟨ad, L[k], e, hb, List.getElem?_eq_getElem hk, List.drop_eq_getElem_cons hk, hc _ _ h1, hc _ _ h2⟩
end
theorem sizeL : (Tryz.prog.info? 33).map (·.size) = some 2 := by kernel_rfl
/-- One label, loaded. -/
theorem lab_cells {w : World} {ad : Addr} {k : Nat} {x : Lab} (h0 : w.cell? (ad.add (k * 2)) = some (.string x.1)) (h1 : w.cell? (ad.add (k * 2 + 1)) = some (.string x.2)) : ∀ j v, (#[.string x.1, .string x.2] : Array Value)[j]? = some v → w.cell? ((ad.add (k * 2)).add j) = some v := by
  intro j v hv
  rw [addr_add_add]
  rcases j with _ | _ | j
  · cases hv; exact h0
  · cases hv; exact h1
  · simp at hv
/-- What is wrong with the first label that is wrong by itself. -/
def fwE : List Lab → Int
  | [] => 0
  | x :: L => if wrE x = 0 then fwE L else wrE x
theorem fwE_drop {L : List Lab} {k : Nat} {x : Lab} (hd : L.drop k = x :: L.drop (k + 1)) : fwE (L.drop k) = if wrE x = 0 then fwE (L.drop (k + 1)) else wrE x := by rw [hd]; rfl
set_option maxRecDepth 100000 in
theorem firstWrong_any (A : Option Addr) (c : Nat) (L : List Lab) (hL : L.length ≤ 4611686018427387904) (w : World) (hr : RdL w w.heap.size A L) (hT : Tab w) :
    Calls Tryz.prog 61 #[.slice A L.length c] w fun e w' => e = .returned (.int .i64 (fwE L)) ∧ Kept w w' := by
  have HR := Lib.hid hr
  have HT := Lib.hid hT
  obtain ⟨n, hn⟩ : ∃ n, n = L.length := ⟨_, rfl⟩
  have Hn := Lib.hid hn
  rw [← hn] at hL ⊢
  clear hr hT hn
  go_enter Tryz.func61, Tryz.ntmps61
  go_wp2_with fail
  go_loopw [8] (fun v8 wr => ∃ k : Nat, k ≤ n ∧ v8 = .int .i64 k ∧ Hid (Kept w wr) ∧ Hid (fwE L = fwE (L.drop k))) (fun v8 _ => n - (intOf v8).toNat)
  case atStart => exact ⟨0, by omega, rfl, Below.refl _ _, rfl⟩
  case round =>
    obtain ⟨k, hk, rfl, hkr, hf⟩ := hrel
    by_cases hkn : k < n
    · obtain ⟨ad, x, rfl, hadb, hx, hd, hc0, hc1⟩ := rdl_at HR.out (by rw [← Hn.out]; exact hkn)
      have e0 := (Below.cell hkr.out (by rw [addBlock]; exact hadb)).trans hc0
      have e1 := (Below.cell hkr.out (by rw [addBlock]; exact hadb)).trans hc1
      have Hcl := Lib.hid (lab_cells e0 e1)
      have Hfd := Lib.hid (fwE_drop hd)
      have CW : Hid (∀ W, Kept wr W → Calls Tryz.prog 60 #[.agg #[.string x.1, .string x.2]] W fun e w' => e = .returned (.int .i64 (wrE x)) ∧ Kept W w') := fun W h => wrong_any x W (HT.out.below (below_kept hkr.out h))
      have k1 : Kept wr (wr.alloc (.cells #[.string x.1, .string x.2] 33)) := (Below.refl _ wr).alloc (Nat.le_refl _) _
      have K1 := Lib.hid k1
      generalize wrE x = ee at *
      clear hc0 hc1 hx hd k1 e0 e1
      by_cases he : ee = 0
      · subst he
        rw [if_pos rfl] at Hfd
        go_wp2_with (first | (refine wpList_load_at rfl 33 (.tmp 10) rfl (ad.add (k * 2)) rfl #[.string x.1, .string x.2] _ Hcl.out Tryz.underlying33 rfl sizeL ?_) | (go_at_call 60; refine (CW.out _ K1.out).mono ?_; rintro e w2 ⟨rfl, hk2⟩; have HK2 := Lib.hid (below_kept hkr.out (below_kept K1.out hk2)); clear hk2))
        go_roundw
        case rel => exact ⟨k + 1, by omega, by go_num, HK2, by show _ = _; rw [hf.out, Hfd.out]⟩
        case measure => simp [intOf]; omega
      · rw [if_neg he] at Hfd
        have hb : (ee != 0) = true := bne_iff_ne.2 he
        clear he
        go_wp2_with (first | (refine wpList_load_at rfl 33 (.tmp 10) rfl (ad.add (k * 2)) rfl #[.string x.1, .string x.2] _ Hcl.out Tryz.underlying33 rfl sizeL ?_) | (go_at_call 60; refine (CW.out _ K1.out).mono ?_; rintro e w2 ⟨rfl, hk2⟩; have HK2 := Lib.hid (below_kept hkr.out (below_kept K1.out hk2)); clear hk2))
        go_ret
        exact ⟨by rw [hf.out, Hfd.out]; rfl, HK2.out⟩
    · obtain rfl : k = n := by omega
      go_wp2_with fail
      go_ret
      refine ⟨?_, hkr.out⟩
      rw [hf.out, List.drop_of_length_le (by rw [← Hn.out]; exact Nat.le_refl _)]
      rfl
end Go.Proofs.YtlhekeokognhmaaGreatDoor
