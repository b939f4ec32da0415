/-
  What the functions that change labels answer, in the words of the reference; its has, Filter, Without, Compare.
-/
import Derived.Test.YtlhekeokognhmaaGreatDoorMgbe
import Derived.Test.YtlhekeokognhmaaGreatDoorLcG
import Derived.Test.YtlhekeokognhmaaGreatDoorMgan
namespace Go.Proofs.YtlhekeokognhmaaGreatDoor
open Go.RowKit Go.Shelf Go.Maps Go.Sort
/-- An answer of one's own: labels and an error's number. -/
def OutR (m : List Lab) (q : Int) (w : World) (e : Ending) (w' : World) : Prop := ∃ v, e = .returned (.tuple #[v, .int .i64 q]) ∧ w'.ownsRow w.heap.size 33 2 v m.length (labs m) ∧ Kept w w'
theorem OutR.nil {q : Int} {w w' : World} (h : Kept w w') : OutR [] q w (.returned (.tuple #[.slice none 0 0, .int .i64 q])) w' := ⟨_, rfl, ⟨rfl, .inl ⟨rfl, rfl⟩⟩, h⟩
def ansR (bad : Option Int) (m : List Lb) : List Lab × Int := match bad with
  | some q => ([], q)
  | none => bndR (m.map bl)
theorem outV {bad : Option Int} {m : List Lb} {v : Value} {x : Int} {w w' : World} {r : List Lab × Int} (h : AnsV w.heap.size bad m v x w') (hk : Kept w w') (hr : r = ansR bad m) : OutR r.1 r.2 w (.returned (.tuple #[v, .int .i64 x])) w' := by
  subst hr
  rcases bad with _ | q
  · show OutR (bndR (m.map bl)).1 (bndR (m.map bl)).2 _ _ _
    unfold bndR
    rw [List.length_map]
    rcases h with ⟨h4, rfl, rfl⟩ | ⟨h4, rfl, h5⟩
    · rw [if_pos h4]; exact OutR.nil hk
    · rw [if_neg (by omega)]
      refine ⟨_, rfl, ?_, hk⟩
      show w'.ownsRow _ _ _ v (m.map bl).length _
      rw [List.length_map]
      exact h5
  · obtain ⟨rfl, rfl⟩ := h
    exact OutR.nil hk
def setR (a e : List Lab) : List Lab × Int := if rgtB a = true then (if fwE e = 0 then bndR (putsL (a ++ e)) else ([], fwE e)) else ([], 44)
def mergeR (a b : List Lab) : List Lab × Int := if rgtB a = true ∧ rgtB b = true then bndR (putsL (b ++ a)) else ([], 44)
def exportR (a b : List Lab) : List Lab × Int := if rgtB a = true ∧ rgtB b = true then bndR ((expF a b (puts [] ((b ++ a).map lb))).map bl) else ([], 44)
def filtR (p : ByteArray → Bool) (a : List Lab) : List Lab × Int := if rgtB a = true then (a.filter fun y => p y.1, 0) else ([], 44)
theorem bndR_len {m : List Lab} {n : Nat} (h : m.length ≤ n) : (bndR m).1.length ≤ n := by
  unfold bndR
  split
  · simp
  · exact h
section
variable (A A1 : Option Addr) (c c1 : Nat) (L E : List Lab) (w : World) (hr : RdL w w.heap.size A L) (hL : L.length ≤ 400000) (hT : Tab w)
include hr hL hT
theorem set_out (hE : E.length ≤ 400000) (hr1 : RdL w w.heap.size A1 E) : Calls Tryz.prog 15 #[.slice A L.length c, .slice A1 E.length c1] w (OutR (setR L E).1 (setR L E).2 w) :=
  (set_any A A1 c c1 L E hL hE w hr hr1 hT).mono fun e w' ⟨v, x, he, h, hk⟩ => by
    subst he
    refine outV h hk ?_
    unfold ansR setR setBad
    by_cases h1 : rgtB L = true
    · rw [if_pos h1, if_pos h1]
      by_cases h2 : fwE E = 0
      · rw [if_pos h2, if_pos h2]; rfl
      · rw [if_neg h2, if_neg h2]
    · rw [if_neg h1, if_neg h1]
theorem merge_out (hE : E.length ≤ 400000) (hr1 : RdL w w.heap.size A1 E) : Calls Tryz.prog 14 #[.slice A L.length c, .slice A1 E.length c1] w (OutR (mergeR L E).1 (mergeR L E).2 w) :=
  (merge_any A A1 c c1 L E hL hE w hr hr1 hT).mono fun e w' ⟨v, x, he, h, hk⟩ => by
    subst he
    refine outV h hk ?_
    unfold ansR mergeR mergeBad
    by_cases h1 : rgtB L = true ∧ rgtB E = true
    · rw [if_pos h1, if_pos h1]; rfl
    · rw [if_neg h1, if_neg h1]
theorem export_out (hE : E.length ≤ 400000) (hr1 : RdL w w.heap.size A1 E) : Calls Tryz.prog 20 #[.slice A L.length c, .slice A1 E.length c1] w (OutR (exportR L E).1 (exportR L E).2 w) :=
  (export_any A A1 c c1 L E hL hE w hr hr1 hT).mono fun e w' ⟨v, x, he, h, hk⟩ => by
    subst he
    refine outV h hk ?_
    unfold ansR exportR mergeBad
    by_cases h1 : rgtB L = true ∧ rgtB E = true
    · rw [if_pos h1, if_pos h1]
    · rw [if_neg h1, if_neg h1]
omit hr hL hT in
theorem outF {p : ByteArray → Bool} {v : Value} {x : Int} {w' : World} (h : FltV w.heap.size L p v x w') (hk : Kept w w') : OutR (filtR p L).1 (filtR p L).2 w (.returned (.tuple #[v, .int .i64 x])) w' := by
  unfold FltV at h
  unfold filtR
  by_cases h1 : rgtB L = true
  · rw [if_pos h1] at h ⊢
    obtain ⟨rfl, h⟩ := h
    exact ⟨_, rfl, h, hk⟩
  · rw [if_neg h1] at h ⊢
    obtain ⟨rfl, rfl⟩ := h
    exact OutR.nil hk
theorem keep_out (ns : List ByteArray) (hN : ns.length ≤ 4611686018427387904) (hr1 : Rd w w.heap.size A1 ns.length (strs ns)) : Calls Tryz.prog 23 #[.slice A L.length c, .slice A1 ns.length c1] w (OutR (filtR (fun s => inB s ns == true) L).1 (filtR (fun s => inB s ns == true) L).2 w) :=
  (keep_any A c L hL A1 c1 ns hN w hr hr1 hT).1.mono fun e w' ⟨v, x, he, h, hk⟩ => by
    subst he
    rw [show (fun s => inB s ns == true) = fun s => inB s ns from funext fun s => by cases inB s ns <;> rfl]
    exact outF L w h hk
theorem drop_out (ns : List ByteArray) (hN : ns.length ≤ 4611686018427387904) (hr1 : Rd w w.heap.size A1 ns.length (strs ns)) : Calls Tryz.prog 25 #[.slice A L.length c, .slice A1 ns.length c1] w (OutR (filtR (fun s => inB s ns == false) L).1 (filtR (fun s => inB s ns == false) L).2 w) :=
  (keep_any A c L hL A1 c1 ns hN w hr hr1 hT).2.mono fun e w' ⟨v, x, he, h, hk⟩ => by
    subst he
    rw [show (fun s => inB s ns == false) = fun s => !inB s ns from funext fun s => by cases inB s ns <;> rfl]
    exact outF L w h hk
theorem without_out (p : ByteArray) : Calls Tryz.prog 27 #[.slice A L.length c, .string p] w (OutR (filtR (fun s => !prefB s p) L).1 (filtR (fun s => !prefB s p) L).2 w) :=
  (without_any A c L hL p w hr hT).mono fun e w' ⟨v, x, he, h, hk⟩ => by
    subst he
    exact outF L w h hk
end
set_option maxRecDepth 100000 in
theorem has_any (A : Option Addr) (c : Nat) (ns : List ByteArray) (hN : ns.length ≤ 1000000) (s : ByteArray) (w : World) (hr : Rd w w.heap.size A ns.length (strs ns)) :
    Calls Tryz.prog 78 #[.slice A ns.length c, .string s] w fun e w' => e = .returned (.bool (inB s ns)) ∧ w = w' := by
  have HR := Lib.hid hr
  have Hin : Hid (∀ b : Bool, (b = true ↔ s ∈ ns) → inB s ns = b) := fun b h => by
    unfold inB
    rcases sIdx_has s 0 ns with ⟨h1, h2⟩ | ⟨h1, h2⟩
    · have hb : b = false := by
        cases b
        · rfl
        · exact absurd (h.1 rfl) h2
      rw [h1, hb]
      rfl
    · rw [h.2 h2]
      exact decide_eq_true h1
  obtain ⟨n, hn⟩ : ∃ n, n = ns.length := ⟨_, rfl⟩
  have Hn := Lib.hid hn
  rw [← hn] at hN HR ⊢
  clear hr hn
  go_enter Tryz.func78, Tryz.ntmps78
  go_wp2_with fail
  go_loopw [5] (fun v5 wr => ∃ k : Nat, k ≤ n ∧ v5 = .int .i64 k ∧ wr = w ∧ Hid (∀ x ∈ ns.take k, x ≠ s)) (fun v5 _ => n - (intOf v5).toNat)
  case atStart => exact ⟨0, by omega, rfl, rfl, fun x h => by simp at h⟩
  case round =>
    obtain ⟨k, hk, rfl, hw, hf⟩ := hrel
    obtain rfl : w = wr := hw.symm
    by_cases hkn : k < n
    · obtain ⟨ad, u, rfl, _, hu, hcu⟩ := HR.out.at_ hkn
      have hx : ns[k]? = some (ns.getD k ⟨#[]⟩) := by rw [List.getD_eq_getElem?_getD, List.getElem?_eq_getElem (by rw [← Hn.out]; exact hkn)]; rfl
      have hu2 : u = .string (ns.getD k ⟨#[]⟩) := by
        unfold strs at hu
        rw [List.getElem?_map, hx] at hu
        exact (Option.some.inj hu).symm
      subst hu2
      have Hx := Lib.hid hx
      generalize ns.getD k ⟨#[]⟩ = x at *
      clear hu hw hx
      by_cases hxs : x = s
      · have he : (x.toList == s.toList) = true := by simp [hxs]
        have Hm : Hid (s ∈ ns) := by show _ ∈ _; rw [← hxs]; exact List.mem_of_getElem? Hx.out
        clear hxs
        go_wp2_with fail
        go_ret
        exact ⟨by rw [Hin.out true ⟨fun _ => Hm.out, fun _ => rfl⟩]; rfl, rfl⟩
      · have he : (x.toList == s.toList) = false := str_ne (fun e => hxs (bys_eq e))
        have Hne := Lib.hid hxs
        clear hxs
        go_wp2_with fail
        go_roundw
        case rel =>
          refine ⟨k + 1, by omega, by go_num, trivial, fun y hy => ?_⟩
          rw [List.take_add_one, Hx.out] at hy
          rcases List.mem_append.1 hy with h | h
          · exact hf.out y h
          · rw [List.mem_singleton.1 h]; exact Hne.out
        case measure => simp [intOf]; omega
    · obtain rfl : k = n := by omega
      go_wp2_with fail
      go_ret
      have hT : ns.take k = ns := List.take_of_length_le (by rw [← Hn.out]; exact Nat.le_refl _)
      rw [hT] at hf
      exact ⟨by rw [Hin.out false ⟨fun h => (by cases h), fun h => absurd rfl (hf.out s h)⟩]; rfl, rfl⟩
set_option maxRecDepth 100000 in
set_option maxHeartbeats 4000000 in
theorem refFilter_any (A : Option Addr) (c : Nat) (L : List Lab) (hL : L.length ≤ 400000) (hsh : ∀ y ∈ L, shortL y) (A1 : Option Addr) (c1 : Nat) (ns : List ByteArray) (hN : ns.length ≤ 1000000) (am : Bool) (w : World) (hr : RdL w w.heap.size A L) (hr1 : Rd w w.heap.size A1 ns.length (strs ns)) :
    Calls Tryz.prog 34 #[.slice A L.length c, .slice A1 ns.length c1, .bool am] w (AnsR (filtR (fun s => inB s ns == am) L).1 (filtR (fun s => inB s ns == am) L).2 w) := by
  have CR := Lib.hid (refright_any A c L (by omega) hsh w hr)
  obtain ⟨i0, hi0, hz0, hz1, hz2⟩ := info_parts infoLab
  rcases hR : rgtB L with _ | _
  · have HF : Hid (filtR (fun s => inB s ns == am) L = ([], 44)) := by show _ = _; unfold filtR; rw [hR]; rfl
    rw [hR] at CR
    clear hr hR hr1
    go_enter Tryz.func34, Tryz.ntmps34
    go_wp2_with (go_at_call 73; (with_reducible refine CR.out.mono ?_); rintro e w1 ⟨rfl, hk⟩; have K1 : Hid (Kept w w1) := hk; clear hk)
    go_ret2
    rw [HF.out]
    exact AnsR.nil K1.out
  have HF : Hid (filtR (fun s => inB s ns == am) L = (L.filter (fun y => inB y.1 ns == am), 0)) := by show _ = _; unfold filtR; rw [hR]; rfl
  rw [hR] at CR
  have HR := Lib.hid hr
  have HS := Lib.hid hsh
  have HR1 : Hid (Rd w w.heap.size A1 ns.length (strs ns)) := hr1
  obtain ⟨n, hn⟩ : ∃ n, n = L.length := ⟨_, rfl⟩
  have Hn := Lib.hid hn
  rw [← hn] at hL CR ⊢
  clear hr hR hn hsh hr1
  go_enter Tryz.func34, Tryz.ntmps34
  go_wp2_with (go_at_call 73; (with_reducible refine CR.out.mono ?_); rintro e w1 ⟨rfl, hk⟩; have K1 : Hid (Kept w w1) := hk; clear hk)
  go_loopw [8, 9] (fun vo vi wr => ∃ k : Nat, k ≤ n ∧ vi = .int .i64 k ∧ Hid (Kept w wr) ∧ Hid (wr.ownsRow w.heap.size 33 2 vo ((L.take k).filter fun y => inB y.1 ns == am).length (labs ((L.take k).filter fun y => inB y.1 ns == am)))) (fun _ vi _ => n - (intOf vi).toNat)
  case atStart => exact ⟨0, by omega, rfl, K1, ⟨rfl, .inl ⟨rfl, rfl⟩⟩⟩
  case round =>
    obtain ⟨k, hk, rfl, hkr, hown⟩ := hrel
    by_cases hkn : k < n
    · obtain ⟨ad, ⟨xa, xb⟩, rfl, hadb, hx, hd, hc0, hc1⟩ := rdl_at HR.out (by rw [← Hn.out]; exact hkn)
      have e0 := (Below.cell hkr.out (by rw [addBlock]; exact hadb)).trans hc0
      have e1 := (Below.cell hkr.out (by rw [addBlock]; exact hadb)).trans hc1
      have htk : L.take (k + 1) = L.take k ++ [(xa, xb)] := by rw [List.take_add_one, hx]; rfl
      have Hsx := Lib.hid (HS.out _ (List.mem_of_getElem? hx))
      have hsx : xa.size ≤ 1100 := Hsx.out.1
      have Hle : Hid (((L.take k).filter fun y => inB y.1 ns == am).length ≤ k) := by
        have := List.length_filter_le (fun y : Lab => inB y.1 ns == am) (L.take k)
        rw [List.length_take] at this
        show _ ≤ _
        omega
      have Hcl := Lib.hid (lab_cells (x := (xa, xb)) e0 e1)
      have hsr := hkr.out.size
      have Hfl : Hid ((L.take (k + 1)).filter (fun y => inB y.1 ns == am) = ((L.take k).filter fun y => inB y.1 ns == am) ++ (if ((inB xa ns == am) = true) then [(xa, xb)] else [])) := by
        show _ = _
        rw [htk, List.filter_append]
        congr 1
        by_cases h : (inB xa ns == am) = true
        · rw [if_pos h, List.filter_cons_of_pos (by simpa using h)]; rfl
        · rw [if_neg h, List.filter_cons_of_neg (by simpa using h)]; rfl
      dsimp only at e0
      clear hc0 hc1 hx hd hadb htk e1
      have CH := Lib.hid (has_any A1 c1 ns hN xa wr ((HR1.out.below hkr.out).more hkr.out.size))
      generalize (L.take k).filter (fun y => inB y.1 ns == am) = F at *
      obtain ⟨nF, hnF⟩ : ∃ q, q = F.length := ⟨_, rfl⟩
      have HnF := Lib.hid hnF
      rw [← hnF] at hown Hle
      have hle := Hle.out
      clear hnF
      rcases hb : inB xa ns == am with _ | _
      · rw [hb, if_neg (by simp), List.append_nil] at Hfl
        generalize inB xa ns = bb at *
        go_wp2_with (go_at_call 78; (with_reducible refine CH.out.mono ?_); rintro e wz ⟨rfl, rfl⟩)
        go_roundw
        case rel => exact ⟨k + 1, by omega, by go_num, hkr, by show World.ownsRow _ _ _ _ _ _ _; rw [Hfl.out, ← HnF.out]; exact hown.out⟩
        case measure => simp [intOf]; omega
      · rw [hb, if_pos rfl] at Hfl
        generalize inB xa ns = bb at *
        go_wp2_with (first
            | (refine wpList_load_at rfl 33 (.tmp 31) rfl (ad.add (k * 2)) rfl #[.string (xa, xb).1, .string (xa, xb).2] _ Hcl.out Tryz.underlying33 rfl sizeL ?_)
            | (go_at_call 78; (with_reducible refine CH.out.mono ?_); rintro e wz ⟨rfl, rfl⟩)
            | (at_builtin; refine wpList_append_own_at _ rfl _ _ 22 rfl w.heap.size 33 i0 _ 2 32 Tryz.underlying22 hi0 hz0 hz1 hz2 rfl (by decide) u8 nF (labs F) rfl (hown.out.alloc _) ⟨wr.heap.size, 0, none⟩ 1 1 [.string xa, .string xb] rfl rfl (cells_new wr [.string xa, .string xb] 33) (by intro u hu; simp at hu; rcases hu with rfl | rfl <;> rfl) (by unfold maxLen; omega) (by omega) (by simp; omega) ?_; intro v5 w5 hown5 hg5 hn5 hl5; have Hown5 := Lib.hid hown5; have HG5 := Lib.hid hg5; clear hown5 hg5 hn5 hl5))
        have hka : Kept w (wr.alloc (.cells #[.string xa, .string xb] 33)) := hkr.out.alloc hsr _
        have hB5 : Kept w w5 := hka.grown HG5.out (by simp; omega) (fun j e => (hown.out.lt j e).1)
        go_roundw
        case rel =>
          refine ⟨k + 1, by omega, by go_num, hB5, ?_⟩
          show World.ownsRow _ _ _ _ _ _ _
          rw [Hfl.out, labs_mk, List.length_append, ← HnF.out]
          exact Hown5.out
        case measure => simp [intOf]; omega
    · obtain rfl : k = n := by omega
      have hT : L.take k = L := List.take_of_length_le (by rw [← Hn.out]; exact Nat.le_refl _)
      rw [hT] at hown
      obtain ⟨A2, c2, rfl, _, hr2, _⟩ := own_rdG hown.out
      have HR2 := Lib.hid hr2
      clear hown hr2
      go_wp2_with fail
      go_ret2
      rw [HF.out]
      exact ⟨A2, c2, rfl, HR2.out, hkr.out⟩
set_option maxRecDepth 100000 in
set_option maxHeartbeats 4000000 in
theorem refWithout_any (A : Option Addr) (c : Nat) (L : List Lab) (hL : L.length ≤ 400000) (hsh : ∀ y ∈ L, shortL y) (p : ByteArray) (w : World) (hr : RdL w w.heap.size A L) :
    Calls Tryz.prog 35 #[.slice A L.length c, .string p] w (AnsR (filtR (fun s => !prefB s p) L).1 (filtR (fun s => !prefB s p) L).2 w) := by
  have CR := Lib.hid (refright_any A c L (by omega) hsh w hr)
  obtain ⟨i0, hi0, hz0, hz1, hz2⟩ := info_parts infoLab
  rcases hR : rgtB L with _ | _
  · have HF : Hid (filtR (fun s => !prefB s p) L = ([], 44)) := by show _ = _; unfold filtR; rw [hR]; rfl
    rw [hR] at CR
    clear hr hR 
    go_enter Tryz.func35, Tryz.ntmps35
    go_wp2_with (go_at_call 73; (with_reducible refine CR.out.mono ?_); rintro e w1 ⟨rfl, hk⟩; have K1 : Hid (Kept w w1) := hk; clear hk)
    go_ret2
    rw [HF.out]
    exact AnsR.nil K1.out
  have HF : Hid (filtR (fun s => !prefB s p) L = (L.filter (fun y => !prefB y.1 p), 0)) := by show _ = _; unfold filtR; rw [hR]; rfl
  rw [hR] at CR
  have HR := Lib.hid hr
  have HS := Lib.hid hsh
  obtain ⟨n, hn⟩ : ∃ n, n = L.length := ⟨_, rfl⟩
  have Hn := Lib.hid hn
  rw [← hn] at hL CR ⊢
  clear hr hR hn hsh 
  go_enter Tryz.func35, Tryz.ntmps35
  go_wp2_with (go_at_call 73; (with_reducible refine CR.out.mono ?_); rintro e w1 ⟨rfl, hk⟩; have K1 : Hid (Kept w w1) := hk; clear hk)
  go_loopw [6, 7] (fun vo vi wr => ∃ k : Nat, k ≤ n ∧ vi = .int .i64 k ∧ Hid (Kept w wr) ∧ Hid (wr.ownsRow w.heap.size 33 2 vo ((L.take k).filter fun y => !prefB y.1 p).length (labs ((L.take k).filter fun y => !prefB y.1 p)))) (fun _ vi _ => n - (intOf vi).toNat)
  case atStart => exact ⟨0, by omega, rfl, K1, ⟨rfl, .inl ⟨rfl, rfl⟩⟩⟩
  case round =>
    obtain ⟨k, hk, rfl, hkr, hown⟩ := hrel
    by_cases hkn : k < n
    · obtain ⟨ad, ⟨xa, xb⟩, rfl, hadb, hx, hd, hc0, hc1⟩ := rdl_at HR.out (by rw [← Hn.out]; exact hkn)
      have e0 := (Below.cell hkr.out (by rw [addBlock]; exact hadb)).trans hc0
      have e1 := (Below.cell hkr.out (by rw [addBlock]; exact hadb)).trans hc1
      have htk : L.take (k + 1) = L.take k ++ [(xa, xb)] := by rw [List.take_add_one, hx]; rfl
      have Hsx := Lib.hid (HS.out _ (List.mem_of_getElem? hx))
      have hsx : xa.size ≤ 1100 := Hsx.out.1
      have Hle : Hid (((L.take k).filter fun y => !prefB y.1 p).length ≤ k) := by
        have := List.length_filter_le (fun y : Lab => !prefB y.1 p) (L.take k)
        rw [List.length_take] at this
        show _ ≤ _
        omega
      have Hcl := Lib.hid (lab_cells (x := (xa, xb)) e0 e1)
      have hsr := hkr.out.size
      have Hfl : Hid ((L.take (k + 1)).filter (fun y => !prefB y.1 p) = ((L.take k).filter fun y => !prefB y.1 p) ++ (if ((!prefB xa p) = true) then [(xa, xb)] else [])) := by
        show _ = _
        rw [htk, List.filter_append]
        congr 1
        by_cases h : (!prefB xa p) = true
        · rw [if_pos h, List.filter_cons_of_pos (by simpa using h)]; rfl
        · rw [if_neg h, List.filter_cons_of_neg (by simpa using h)]; rfl
      dsimp only at e0
      clear hc0 hc1 hx hd hadb htk e1
      generalize (L.take k).filter (fun y => !prefB y.1 p) = F at *
      obtain ⟨nF, hnF⟩ : ∃ q, q = F.length := ⟨_, rfl⟩
      have HnF := Lib.hid hnF
      rw [← hnF] at hown Hle
      have hle := Hle.out
      clear hnF
      by_cases hs1 : p.size ≤ xa.size
      · have hI : ¬ (xa.size : Int) < (p.size : Int) := by omega
        have hI2 : (p.size : Int) ≤ (xa.size : Int) := by omega
        have hpb : prefB xa p = ((xa.extract 0 p.size).toList == p.toList) := by unfold prefB; rw [decide_eq_true hs1, Bool.true_and]
        rcases hb : ((xa.extract 0 p.size).toList == p.toList) with _ | _
        · rw [hpb, hb, if_pos (by decide : (!false) = true)] at Hfl
          go_wp2_with (first
              | (refine wpList_load_at rfl 33 (.tmp 41) rfl (ad.add (k * 2)) rfl #[.string (xa, xb).1, .string (xa, xb).2] _ Hcl.out Tryz.underlying33 rfl sizeL ?_)
              | (at_builtin; refine wpList_append_own_at _ rfl _ _ 22 rfl w.heap.size 33 i0 _ 2 32 Tryz.underlying22 hi0 hz0 hz1 hz2 rfl (by decide) u6 nF (labs F) rfl (hown.out.alloc _) ⟨wr.heap.size, 0, none⟩ 1 1 [.string xa, .string xb] rfl rfl (cells_new wr [.string xa, .string xb] 33) (by intro u hu; simp at hu; rcases hu with rfl | rfl <;> rfl) (by unfold maxLen; omega) (by omega) (by simp; omega) ?_; intro v5 w5 hown5 hg5 hn5 hl5; have Hown5 := Lib.hid hown5; have HG5 := Lib.hid hg5; clear hown5 hg5 hn5 hl5))
          have hka : Kept w (wr.alloc (.cells #[.string xa, .string xb] 33)) := hkr.out.alloc hsr _
          have hB5 : Kept w w5 := hka.grown HG5.out (by simp; omega) (fun j e => (hown.out.lt j e).1)
          go_roundw
          case rel =>
            refine ⟨k + 1, by omega, by go_num, hB5, ?_⟩
            show World.ownsRow _ _ _ _ _ _ _
            rw [Hfl.out, labs_mk, List.length_append, ← HnF.out]
            exact Hown5.out
          case measure => simp [intOf]; omega
        · rw [hpb, hb, if_neg (by simp), List.append_nil] at Hfl
          go_wp2_with fail
          go_roundw
          case rel => exact ⟨k + 1, by omega, by go_num, hkr, by show World.ownsRow _ _ _ _ _ _ _; rw [Hfl.out, ← HnF.out]; exact hown.out⟩
          case measure => simp [intOf]; omega
      · have hI : (xa.size : Int) < (p.size : Int) := by omega
        have hpb : prefB xa p = false := by unfold prefB; rw [decide_eq_false hs1, Bool.false_and]
        rw [hpb, if_pos (by decide : (!false) = true)] at Hfl
        go_wp2_with (first
            | (refine wpList_load_at rfl 33 (.tmp 41) rfl (ad.add (k * 2)) rfl #[.string (xa, xb).1, .string (xa, xb).2] _ Hcl.out Tryz.underlying33 rfl sizeL ?_)
            | (at_builtin; refine wpList_append_own_at _ rfl _ _ 22 rfl w.heap.size 33 i0 _ 2 32 Tryz.underlying22 hi0 hz0 hz1 hz2 rfl (by decide) u6 nF (labs F) rfl (hown.out.alloc _) ⟨wr.heap.size, 0, none⟩ 1 1 [.string xa, .string xb] rfl rfl (cells_new wr [.string xa, .string xb] 33) (by intro u hu; simp at hu; rcases hu with rfl | rfl <;> rfl) (by unfold maxLen; omega) (by omega) (by simp; omega) ?_; intro v5 w5 hown5 hg5 hn5 hl5; have Hown5 := Lib.hid hown5; have HG5 := Lib.hid hg5; clear hown5 hg5 hn5 hl5))
        have hka : Kept w (wr.alloc (.cells #[.string xa, .string xb] 33)) := hkr.out.alloc hsr _
        have hB5 : Kept w w5 := hka.grown HG5.out (by simp; omega) (fun j e => (hown.out.lt j e).1)
        go_roundw
        case rel =>
          refine ⟨k + 1, by omega, by go_num, hB5, ?_⟩
          show World.ownsRow _ _ _ _ _ _ _
          rw [Hfl.out, labs_mk, List.length_append, ← HnF.out]
          exact Hown5.out
        case measure => simp [intOf]; omega
    · obtain rfl : k = n := by omega
      have hT : L.take k = L := List.take_of_length_le (by rw [← Hn.out]; exact Nat.le_refl _)
      rw [hT] at hown
      obtain ⟨A2, c2, rfl, _, hr2, _⟩ := own_rdG hown.out
      have HR2 := Lib.hid hr2
      clear hown hr2
      go_wp2_with fail
      go_ret2
      rw [HF.out]
      exact ⟨A2, c2, rfl, HR2.out, hkr.out⟩
end Go.Proofs.YtlhekeokognhmaaGreatDoor
