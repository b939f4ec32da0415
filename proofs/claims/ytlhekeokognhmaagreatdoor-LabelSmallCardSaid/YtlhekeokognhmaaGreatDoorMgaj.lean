/-
  Names that are there twice; Of. Check and Right.
-/
import Derived.Test.YtlhekeokognhmaaGreatDoorLbF
import Derived.Deep.DeepCutAuto
import Derived.Deep.QuietTactic
import Derived.Laws.Cover1
namespace Go.Proofs.YtlhekeokognhmaaGreatDoor
open Go.RowKit Go.Shelf Go.Maps Go.Sort
def keyL (x : Lab) : Lit := .string x.1.data.toList
abbrev tru : DataW H0 := .lit (.bool true)
noncomputable abbrev PB : Value → Option (DataW H0 × List MemPlace) := plainElem Tryz.prog 4
/-- A name is there twice. -/
def twB (L : List Lab) : Bool := decide (((L.map keyL).foldl addKey []).length < L.length)
theorem keyL_is (L : List Lab) : ∀ x ∈ L.map keyL, WideAt.IsKeyLit x := by
  intro x hx
  obtain ⟨y, _, rfl⟩ := List.mem_map.1 hx
  simp [WideAt.IsKeyLit, keyL]
theorem addKey_len (acc : List Lit) (x : Lit) : (addKey acc x).length ≤ acc.length + 1 := by
  unfold addKey
  split <;> simp
theorem foldKey_len : ∀ (xs acc : List Lit), (xs.foldl addKey acc).length ≤ acc.length + xs.length
  | [], acc => by simp
  | x :: xs, acc => by
    have h1 := foldKey_len xs (addKey acc x)
    have h2 := addKey_len acc x
    rw [List.foldl_cons, List.length_cons]
    omega
set_option maxRecDepth 100000 in
theorem twice_any (A : Option Addr) (c : Nat) (L : List Lab) (hL : L.length ≤ 1000000) (hs : ∀ x ∈ L, smallL x) (w : World) (hr : RdL w w.heap.size A L) :
    Calls Tryz.prog 62 #[.slice A L.length c] w fun e w' => e = .returned (.bool (twB L)) ∧ Kept w w' := by
  have HR := Lib.hid hr
  have HS := Lib.hid hs
  have hmm := @run_makeMap Tryz.prog
  have Htw : Hid (∀ s : Nat, s = ((L.map keyL).foldl addKey []).length → twB L = decide (s < L.length)) := fun s h => by
    unfold twB
    rw [← h]
  obtain ⟨n, hn⟩ : ∃ n, n = L.length := ⟨_, rfl⟩
  have Hn := Lib.hid hn
  rw [← hn] at hL Htw ⊢
  clear hr hs hn
  go_enter Tryz.func62, Tryz.ntmps62
  go_wp2_with fail
  have hown0 : Hid ((w.alloc (.map #[] 0)).ownsMap Tryz.prog 9 PB w.heap.size 0 (setOf tru [])) := World.ownsMap_made _ _ _ _
  go_loopw [9] (fun v9 wr => ∃ k : Nat, k ≤ n ∧ v9 = .int .i64 k ∧ Hid (Kept w wr) ∧ Hid (wr.ownsMap Tryz.prog 9 PB w.heap.size k (setOf tru ((L.take k).map keyL)))) (fun v9 _ => n - (intOf v9).toNat)
  case atStart => exact ⟨0, by omega, rfl, (Below.refl _ _).alloc (Nat.le_refl _) _, hown0⟩
  case round =>
    obtain ⟨k, hk, rfl, hkr, hown⟩ := hrel
    by_cases hkn : k < n
    · obtain ⟨ad, x, rfl, hadb, hx, hd, hc0, hc1⟩ := rdl_at HR.out (by rw [← Hn.out]; exact hkn)
      have e0 := (Below.cell hkr.out (by rw [addBlock]; exact hadb)).trans hc0
      have e1 := (Below.cell hkr.out (by rw [addBlock]; exact hadb)).trans hc1
      have Hcl := Lib.hid (lab_cells e0 e1)
      have Hka := Lib.hid (Go.WideMaps.keyOf_string_mk (P := Tryz.prog) Tryz.underlying9 (s := x.1) (by have := (HS.out x (List.mem_of_getElem? hx)).1; unfold maxLen; omega))
      have Hk1 := Lib.hid (show Kept wr (wr.alloc (.cells #[.string x.1, .string x.2] 33)) from (Below.refl _ wr).alloc (Nat.le_refl _) _)
      have Hown1 := Lib.hid (hown.out.alloc (.cells #[.string x.1, .string x.2] 33))
      have Hnx : Hid ((setOf tru ((L.take k).map keyL)).put (.string x.1.data.toList) tru = setOf tru ((L.take (k + 1)).map keyL)) := by
        show _ = _
        rw [List.take_add_one, hx, Option.toList_some, List.map_append, List.map_cons, List.map_nil, setOf_snoc]
        rfl
      have hkn2 : k < maxLen := by unfold maxLen; omega
      clear hc0 hc1 hx hd e0 e1
      go_wp2_with (first | (refine wpList_load_at rfl 33 (.tmp 11) rfl (ad.add (k * 2)) rfl #[.string x.1, .string x.2] _ Hcl.out Tryz.underlying33 rfl sizeL ?_) | (at_mapUpdate; refine wpList_mapUpdate_own _ rfl _ _ _ 124 rfl 9 4 skey Tryz.underlying124 PB w.heap.size k _ rfl Hown1.out hkn2 _ _ _ rfl rfl Hka.out _ [] (plainElem_bool Tryz.underlying4 true) ?_; intro w1 hown4 hg4; rw [Hnx.out] at hown4; have Hown4 := Lib.hid hown4; have HK4 : Hid (Kept w w1) := (Below.grown (below_kept hkr.out Hk1.out) hg4 (Below.size (below_kept hkr.out Hk1.out)) (fun j e => by cases e; exact Nat.le_refl _)); clear hown4 hg4))
      go_roundw
      case rel => exact ⟨k + 1, by omega, by go_num, HK4, Hown4⟩
      case measure => simp [intOf]; omega
    · obtain rfl : k = n := by omega
      have e : L.take k = L := List.take_of_length_le (by rw [← Hn.out]; exact Nat.le_refl _)
      rw [e] at hown
      have hsz := size_setOf tru (L.map keyL) (keyL_is L)
      have Hsz := Lib.hid hsz
      have hres := Htw.out _ hsz
      have Hres := Lib.hid hres
      generalize setOf tru (L.map keyL) = D at *
      clear hsz hres e
      go_wp2_with (at_len; refine wpList_len_own _ rfl _ 124 rfl 9 4 Tryz.underlying124 PB w.heap.size k D rfl hown.out ?_)
      go_ret
      exact ⟨by rw [Hres.out]; rfl, hkr.out⟩
theorem fwE_zero : ∀ {L : List Lab}, fwE L = 0 → ∀ x ∈ L, wrE x = 0
  | y :: L, h, x, hx => by
    unfold fwE at h
    split at h
    · rename_i h0
      rcases List.mem_cons.1 hx with rfl | hx
      · exact h0
      · exact fwE_zero h x hx
    · rename_i h0
      exact absurd h h0
theorem rputA_len (x : Lb) : ∀ (b : Bool) (l : List Lb), (rputA b x l).length ≤ l.length + 1
  | b, [] => by unfold rputA; split <;> simp
  | b, y :: l => by
    unfold rputA
    by_cases h : b = false ∧ ¬ y.1 < x.1
    · rw [if_pos h, show (b || !decide (y.1 < x.1)) = true from by simp [h.2], rputA_true]
      have := List.length_filter_le (fun z : Lb => decide (z.1 ≠ x.1)) l
      generalize l.filter (fun z : Lb => decide (z.1 ≠ x.1)) = F at *
      rw [List.length_append, List.length_append]
      split <;> simp only [List.length_cons, List.length_nil] <;> omega
    · rw [if_neg h]
      have := rputA_len x (b || !decide (y.1 < x.1)) l
      rw [List.length_append, List.length_append]
      split <;> simp <;> omega
theorem puts_len (m : List Lb) : ∀ l, (puts m l).length ≤ m.length + l.length
  | [] => by rw [puts_nil]; simp
  | x :: l => by
    have h1 := puts_len (rput m x) l
    have h2 : (rput m x).length ≤ m.length + 1 := rputA_len x _ m
    rw [puts_cons, List.length_cons]
    omega
theorem puts_small {L : List Lab} (h : ∀ x ∈ L, smallL x) : ∀ x ∈ puts [] (L.map lb), x.1.length ≤ 1000 ∧ x.2.length ≤ 1024 :=
  puts_all (p := fun x => x.1.length ≤ 1000 ∧ x.2.length ≤ 1024) (fun x hx => by cases hx) fun x hx => by
    obtain ⟨y, hy, rfl⟩ := List.mem_map.1 hx
    have := h y hy
    refine ⟨?_, ?_⟩
    · show y.1.data.toList.length ≤ 1000
      rw [Array.length_toList]
      have := this.1
      show y.1.size ≤ 1000
      omega
    · show y.2.data.toList.length ≤ 1024
      rw [Array.length_toList]
      exact this.2
theorem own_mono {w : World} {base b2 n size : Nat} {e : TypeId} {v : Value} {xs : List Value} (h : w.ownsRow base e size v n xs) (hb : b2 ≤ base) : w.ownsRow b2 e size v n xs := by
  refine ⟨h.1, ?_⟩
  rcases h.2 with h | ⟨g, cap, cur, h1, h2, h3⟩
  · exact .inl h
  · exact .inr ⟨g, cap, cur, h1, Nat.le_trans hb h2, h3⟩
/-- What sorted answers of labels in order: v and x. -/
def SortedV (B : Nat) (m : List Lb) (v : Value) (x : Int) (w' : World) : Prop :=
  (64 < m.length ∧ v = .slice none 0 0 ∧ x = 5) ∨ (m.length ≤ 64 ∧ x = 0 ∧ w'.ownsRow B 33 2 v m.length (labs (m.map bl)))
theorem SortedV.more {B B0 : Nat} {w' : World} {m : List Lb} {v : Value} {x : Int} (h : SortedV B m v x w') (hw : B0 ≤ B) : SortedV B0 m v x w' := by
  rcases h with h | ⟨h1, h2, h3⟩
  · exact .inl h
  · exact .inr ⟨h1, h2, own_mono h3 hw⟩
/-- What put and sorted make of lists of labels. -/
theorem putSorted (w : World) (Ls : List LRow) (hs : ∀ r ∈ Ls, ∀ x ∈ r.2.2, smallL x) (hT : (Ls.flatMap (·.2.2)).length ≤ 1000000) (b n : Nat) (D : DataW H0) (hown : w.ownsMap Tryz.prog 9 PE b n D) (hD : MapIs D (find (puts [] ((Ls.flatMap (·.2.2)).map lb)))) :
    Calls Tryz.prog 63 #[.map (some b)] w fun e w' => ∃ v x, e = .returned (.tuple #[v, .int .i64 x]) ∧ SortedV w.heap.size (puts [] ((Ls.flatMap (·.2.2)).map lb)) v x w' ∧ Kept w w' :=
  (sorted_any b n D _ w hown hD (puts_srt List.Pairwise.nil _) (puts_small fun x hx => by obtain ⟨r, hr, hx⟩ := List.mem_flatMap.1 hx; exact hs r hr x hx) (by have := puts_len [] ((Ls.flatMap (·.2.2)).map lb); rw [List.length_map, List.length_nil] at this; omega)).mono fun e w' ⟨h, hk⟩ => by
    rcases h with ⟨h1, rfl⟩ | ⟨h1, v, rfl, h2⟩
    · exact ⟨_, _, rfl, .inl ⟨h1, rfl, rfl⟩, hk⟩
    · exact ⟨_, _, rfl, .inr ⟨h1, rfl, h2⟩, hk⟩
set_option maxRecDepth 100000 in
/-- OF, of labels that are as many as may be: what comes out. -/
theorem of_any (A : Option Addr) (c : Nat) (L : List Lab) (hL : L.length ≤ 1000000) (w : World) (hr : RdL w w.heap.size A L) (hT : Tab w) :
    Calls Tryz.prog 13 #[.slice A L.length c] w fun e w' =>
      ((fwE L ≠ 0 ∧ e = .returned (.tuple #[.slice none 0 0, .int .i64 (fwE L)])) ∨ (fwE L = 0 ∧ twB L = true ∧ e = .returned (.tuple #[.slice none 0 0, .int .i64 43])) ∨ (fwE L = 0 ∧ twB L = false ∧ ∃ v x, e = .returned (.tuple #[v, .int .i64 x]) ∧ SortedV w.heap.size (puts [] (L.map lb)) v x w')) ∧ Kept w w' := by
  have CF := Lib.hid (firstWrong_any A c L (by omega) w hr hT)
  have HR := Lib.hid hr
  by_cases h0 : fwE L = 0
  · have hsm : ∀ x ∈ L, smallL x := fun x hx => small_of (fwE_zero h0 x hx)
    have CT : Hid (∀ W, Kept w W → Calls Tryz.prog 62 #[.slice A L.length c] W fun e w' => e = .returned (.bool (twB L)) ∧ Kept W w') := fun W h => twice_any A c L hL hsm W ((hr.below h).more h.size)
    have CP : Hid (∀ W, Kept w W → Calls Tryz.prog 64 #[.slice (some ⟨W.heap.size, 0, none⟩) 1 1] (W.alloc (.cells #[.slice A L.length c] 22)) fun e w' => ∃ b n D, e = .returned (.map (some b)) ∧ w'.ownsMap Tryz.prog 9 PE b n D ∧ MapIs D (find (puts [] (L.map lb))) ∧ Kept W w') := fun W h => by
      have hk := (Below.refl W.heap.size W).alloc (Nat.le_refl _) (.cells #[.slice A L.length c] 22)
      refine (put_any (some ⟨W.heap.size, 0, none⟩) 1 [(A, c, L)] (by simp) (W.alloc (.cells #[.slice A L.length c] 22)) (rdNew W [.slice A L.length c] 22) ?_ ?_ ?_).mono ?_
      · intro r hr'
        obtain rfl := List.mem_singleton.1 hr'
        exact ⟨(hr.below (Below.trans h (hk.mono (Below.size h)))).more (Nat.le_trans (Below.size h) (by simp)), hL⟩
      · intro r hr'
        obtain rfl := List.mem_singleton.1 hr'
        exact hsm
      · simpa using hL
      · rintro e w' ⟨b, n, D, rfl, ho, hD, _, _, hk'⟩
        refine ⟨b, n, D, rfl, ho, ?_, Below.trans hk (Below.mono hk' (by simp))⟩
        simpa using hD
    have CS : Hid (∀ W b n D, W.ownsMap Tryz.prog 9 PE b n D → MapIs D (find (puts [] (L.map lb))) → Calls Tryz.prog 63 #[.map (some b)] W fun e w' => ∃ v x, e = .returned (.tuple #[v, .int .i64 x]) ∧ SortedV W.heap.size (puts [] (L.map lb)) v x w' ∧ Kept W w') := fun W b n D ho hD => by
      have := putSorted W [(A, c, L)] (fun r hr' => by obtain rfl := List.mem_singleton.1 hr'; exact hsm) (by simpa using hL) b n D ho (by simpa using hD)
      simpa using this
    rw [h0] at CF
    generalize puts [] (L.map lb) = m at *
    rcases hb : twB L with _ | _
    · rw [hb] at CT
      clear hr hT hsm hL HR
      go_enter Tryz.func13, Tryz.ntmps13
      go_wp2_with (first
        | (go_at_call 61; refine CF.out.mono ?_; rintro e w1 ⟨rfl, hk⟩; have HK1 := Lib.hid hk; clear hk)
        | (go_at_call 62; refine (CT.out _ HK1.out).mono ?_; rintro e w2 ⟨rfl, hk⟩; have HK2 := Lib.hid (below_kept HK1.out hk); clear hk)
        | (go_at_call 64; refine (CP.out _ HK2.out).mono ?_; rintro e w3 ⟨b, n, D, rfl, ho, hD, hk⟩; have HO := Lib.hid ho; have HD := Lib.hid hD; have HK3 := Lib.hid (below_kept HK2.out hk); clear ho hD hk)
        | (go_at_call 63; refine (CS.out _ _ _ _ HO.out HD.out).mono ?_; rintro e w4 ⟨v, x, rfl, h4, hk⟩; have H4 := Lib.hid h4; have HK4 := Lib.hid (below_kept HK3.out hk); clear h4 hk))
      go_ret2
      exact ⟨.inr (.inr ⟨h0, trivial, _, _, rfl, H4.out.more (Below.size HK3.out)⟩), HK4.out⟩
    · rw [hb] at CT
      clear hr hT hsm hL HR
      go_enter Tryz.func13, Tryz.ntmps13
      go_wp2_with (first
        | (go_at_call 61; refine CF.out.mono ?_; rintro e w1 ⟨rfl, hk⟩; have HK1 := Lib.hid hk; clear hk)
        | (go_at_call 62; refine (CT.out _ HK1.out).mono ?_; rintro e w2 ⟨rfl, hk⟩; have HK2 := Lib.hid (below_kept HK1.out hk); clear hk))
      go_ret2
      exact ⟨.inr (.inl ⟨h0, trivial, rfl⟩), HK2.out⟩
  · have hb : (fwE L != 0) = true := bne_iff_ne.2 h0
    generalize fwE L = ee at *
    clear hr hT
    go_enter Tryz.func13, Tryz.ntmps13
    go_wp2_with (go_at_call 61; refine CF.out.mono ?_; rintro e w1 ⟨rfl, hk⟩)
    go_ret2
    exact ⟨.inl ⟨h0, rfl⟩, hk⟩
end Go.Proofs.YtlhekeokognhmaaGreatDoor
namespace Go.Proofs.YtlhekeokognhmaaGreatDoor
open Go.RowKit Go.Shelf Go.Maps Go.Sort
/-- Whether a string is before another one, or the same. -/
def leS (a b : ByteArray) : Bool := Op.bytesLess a.toList b.toList || a.toList == b.toList
/-- What is wrong with a label behind another one (or none). -/
def ordE (p : Option ByteArray) (x : Lab) : Int := if wrE x = 0 then (if x.2 = ⟨#[]⟩ ∨ (∃ y, p = some y ∧ leS x.1 y = true) then 42 else 0) else wrE x
def chkFrom : Nat → Option ByteArray → List Lab → Int × Int
  | _, _, [] => (-1, 0)
  | i, p, x :: L => if ordE p x = 0 then chkFrom (i + 1) (some x.1) L else (i, ordE p x)
def chk (L : List Lab) : Int × Int := if 64 < L.length then (-1, 5) else chkFrom 0 none L
def prevOf (L : List Lab) (k : Nat) : Option ByteArray := if k = 0 then none else (L[k - 1]?).map (·.1)
theorem chk_drop {L : List Lab} {k : Nat} {x : Lab} (hx : L[k]? = some x) (hd : L.drop k = x :: L.drop (k + 1)) : chkFrom k (prevOf L k) (L.drop k) = if ordE (prevOf L k) x = 0 then chkFrom (k + 1) (prevOf L (k + 1)) (L.drop (k + 1)) else (k, ordE (prevOf L k) x) := by
  have : prevOf L (k + 1) = some x.1 := by unfold prevOf; simp [hx]
  rw [hd, this]
  rfl
set_option maxRecDepth 100000 in
set_option maxHeartbeats 2000000 in
theorem check_any' (A : Option Addr) (c : Nat) (L : List Lab) (hL : L.length ≤ 4611686018427387904) (w : World) (hr : RdL w w.heap.size A L) (hT : Tab w) :
    Calls Tryz.prog 12 #[.slice A L.length c] w fun e w' => e = .returned (.tuple #[.int .i64 (chk L).1, .int .i64 (chk L).2]) ∧ Kept w w' := by
  have HR := Lib.hid hr
  have HT := Lib.hid hT
  unfold chk
  obtain ⟨n, hn⟩ : ∃ n, n = L.length := ⟨_, rfl⟩
  have Hn := Lib.hid hn
  rw [← hn] at hL ⊢
  clear hr hT hn
  by_cases h64 : 64 < n
  · have h64' : (64 : Int) < (n : Int) := by omega
    rw [if_pos h64]
    go_enter Tryz.func12, Tryz.ntmps12
    go_wp2_with fail
    go_ret2
    exact ⟨rfl, Below.refl _ _⟩
  · have h64' : ¬ (64 : Int) < (n : Int) := by omega
    rw [if_neg h64]
    go_enter Tryz.func12, Tryz.ntmps12
    go_wp2_with fail
    go_loopw [12] (fun v12 wr => ∃ k : Nat, k ≤ n ∧ v12 = .int .i64 k ∧ Hid (Kept w wr) ∧ Hid (chkFrom 0 none L = chkFrom k (prevOf L k) (L.drop k))) (fun v12 _ => n - (intOf v12).toNat)
    case atStart => exact ⟨0, by omega, rfl, Below.refl _ _, rfl⟩
    case round =>
      obtain ⟨k, hk, rfl, hkr, hf⟩ := hrel
      by_cases hkn : k < n
      · obtain ⟨ad, x, rfl, hadb, hx, hd, hc0, hc1⟩ := rdl_at HR.out (by rw [← Hn.out]; exact hkn)
        have e0 := (Below.cell hkr.out (by rw [addBlock]; exact hadb)).trans hc0
        have e1 := (Below.cell hkr.out (by rw [addBlock]; exact hadb)).trans hc1
        have Hcl := Lib.hid (lab_cells e0 e1)
        have Hfd := Lib.hid (chk_drop hx hd)
        have CW : Hid (∀ W, Kept wr W → Calls Tryz.prog 60 #[.agg #[.string x.1, .string x.2]] W fun e w' => e = .returned (.int .i64 (wrE x)) ∧ Kept W w') := fun W h => wrong_any x W (HT.out.below (below_kept hkr.out h))
        have k1 : Kept wr (wr.alloc (.cells #[.string x.1, .string x.2] 33)) := (Below.refl _ wr).alloc (Nat.le_refl _) _
        have K1 := Lib.hid k1
        have M1 : Hid ((wr.alloc (.cells #[.string x.1, .string x.2] 33)).heap[wr.heap.size]? = some (.cells #[.string x.1, .string x.2] 33 (0, 0))) := heap_alloc_new wr _
        have Hpv : Hid (k ≠ 0 → ∃ y, prevOf L k = some y ∧ wr.cell? ((ad.add ((k - 1) * 2))) = some (.string y)) := fun h0 => by
          obtain ⟨ad', y, ha, hb', hy, _, hy0, _⟩ := rdl_at HR.out (k := k - 1) (by rw [← Hn.out]; omega)
          cases ha
          exact ⟨y.1, by unfold prevOf; rw [if_neg h0, hy]; rfl, (Below.cell hkr.out (by rw [addBlock]; exact hb')).trans hy0⟩
        clear hc0 hc1 hx hd k1 e0 e1
        go_upto_region 7 with (first | (refine wpList_load_at rfl 33 (.tmp 15) rfl (ad.add (k * 2)) rfl #[.string x.1, .string x.2] _ Hcl.out Tryz.underlying33 rfl sizeL ?_) | (go_at_call 60; refine (CW.out _ K1.out).mono ?_; rintro e w2 ⟨rfl, hk2⟩; have HK2 := Lib.hid (below_kept K1.out hk2); have M2 := Lib.hid (heap_kept hk2 M1.out); clear hk2))
        have hk1 := hkn
        obtain ⟨g, hg⟩ : ∃ g, g = wr.heap.size := ⟨_, rfl⟩
        rw [← hg] at M2 ⊢
        have n0 : w2.cell? ⟨g, 0, none⟩ = some (.string x.1) := by rw [cell_of_row _ _ _ _ _ _ M2.out]; rfl
        have n1 : w2.cell? ⟨g, 1, none⟩ = some (.string x.2) := by rw [cell_of_row _ _ _ _ _ _ M2.out]; rfl
        have Hpv2 : Hid (k ≠ 0 → ∃ y, prevOf L k = some y ∧ w2.cell? ((ad.add ((k - 1) * 2))) = some (.string y)) := fun h0 => by
          obtain ⟨y, h1, h2⟩ := Hpv.out h0
          exact ⟨y, h1, (Below.cell HK2.out (block_lt_of_cell h2)).trans h2⟩
        have HK2' := Lib.hid (below_kept hkr.out HK2.out)
        have hb2 := Below.refl w2.heap.size w2
        obtain ⟨xa, xb⟩ := x
        dsimp only at n0 n1
        generalize hEE : wrE (xa, xb) = ee at *
        have HEE := Lib.hid hEE
        clear hEE hg M1 M2 K1 HK2 CW Hpv Hcl
        have Hord : Hid (ordE (prevOf L k) (xa, xb) = if ee = 0 then (if xb = ⟨#[]⟩ ∨ (∃ y, prevOf L k = some y ∧ leS xa y = true) then 42 else 0) else ee) := by show _ = _; rw [← HEE.out]; rfl
        obtain ⟨vb, hvb⟩ : ∃ vb, vb = decide (ee = 0 ∧ ordE (prevOf L k) (xa, xb) = 42) := ⟨_, rfl⟩
        have Hvb := Lib.hid hvb
        clear hvb
        go_cut [40] (fun v40 wx => v40 = .bool vb ∧ Below w2.heap.size w2 wx)
        case first =>
          by_cases hee : ee = 0
          · subst hee
            by_cases hxb : xb = ⟨#[]⟩
            · have hbb : xb.toList.isEmpty = true := empty_yes hxb
              have hv : vb = true := by rw [Hvb.out, Hord.out, if_pos rfl, if_pos (.inl hxb)]; rfl
              subst hv
              clear hxb
              go_quiet (fail)
              go_wp2_with fail
              go_meet
              exact ⟨rfl, below_drewN hb2 nq⟩
            · have hbb : xb.toList.isEmpty = false := empty_no hxb
              rcases k with _ | j
              · have hv : vb = false := by
                  rw [Hvb.out, Hord.out, if_pos rfl, if_neg (by rintro (h | ⟨y, h, _⟩); exact hxb h; simp [prevOf] at h)]
                  rfl
                subst hv
                clear hxb
                go_quiet (fail)
                go_wp2_with fail
                go_meet
                exact ⟨rfl, below_drewN hb2 nq⟩
              · obtain ⟨y, hpy, hcy⟩ := Hpv2.out (by omega)
                have hv : vb = leS xa y := by
                  rw [Hvb.out, Hord.out, if_pos rfl, hpy]
                  rcases hl : leS xa y with _ | _
                  · rw [if_neg (by rintro (h | ⟨z, h, h2⟩); exact hxb h; cases h; rw [hl] at h2; cases h2)]
                    rfl
                  · rw [if_pos (.inr ⟨y, rfl, hl⟩)]
                    rfl
                have hj1 : ((j : Int) + 1 - 1) = (j : Int) := by omega
                have hjn : (j : Int) < (n : Int) := by omega
                have hj0 : (0 : Int) < (j : Int) + 1 := by omega
                have hjw : IntKind.i64.wrap (j : Int) = (j : Int) := by rw [IntWalk.i64_in _ (by omega)]
                rw [show j + 1 - 1 = j from by omega] at hcy
                subst hv
                clear hxb hpy
                go_quiet (fail)
                go_wp2_with fail
                go_meet
                exact ⟨rfl, below_drewN hb2 nq⟩
          · have hbe : (ee == 0) = false := beq_eq_false_iff_ne.2 hee
            have hv : vb = false := by rw [Hvb.out]; exact decide_eq_false (fun h => hee h.1)
            subst hv
            clear hee
            go_quiet (fail)
            go_wp2_with fail
            go_meet
            exact ⟨rfl, below_drewN hb2 nq⟩
        case rest =>
        obtain ⟨rfl, hk3⟩ := hcut
        obtain ⟨w3, rfl⟩ : ∃ x, x = wc := ⟨_, rfl⟩
        have HK3 : Hid (Kept w w3) := below_kept HK2'.out hk3
        rcases hvb : vb with _ | _
        · have ho : ordE (prevOf L k) (xa, xb) = ee := by
            rw [Hord.out]
            by_cases he : ee = 0
            · rw [if_pos he]
              rw [hvb] at Hvb
              have := of_decide_eq_false Hvb.out.symm
              rw [Hord.out, if_pos he] at this
              by_cases hc : xb = ⟨#[]⟩ ∨ (∃ y, prevOf L k = some y ∧ leS xa y = true)
              · rw [if_pos hc] at this
                exact absurd ⟨he, rfl⟩ this
              · rw [if_neg hc, he]
            · rw [if_neg he]
          rw [ho] at Hfd
          by_cases he : ee = 0
          · rw [if_pos he] at Hfd
            subst he
            clear ho hvb
            go_wp2_with fail
            go_roundw
            case rel => exact ⟨k + 1, by omega, by go_num, HK3, by show _ = _; rw [hf.out, Hfd.out]⟩
            case measure => simp [intOf]; omega
          · rw [if_neg he] at Hfd
            have hne : (ee != 0) = true := bne_iff_ne.2 he
            clear ho hvb he
            go_wp2_with fail
            go_ret2
            exact ⟨by rw [hf.out, Hfd.out]; rfl, HK3.out⟩
        · rw [hvb] at Hvb
          obtain ⟨h1, h2⟩ := of_decide_eq_true Hvb.out.symm
          rw [h2, if_neg (by decide)] at Hfd
          clear hvb h1 h2
          go_wp2_with fail
          go_ret2
          exact ⟨by rw [hf.out, Hfd.out]; rfl, HK3.out⟩
      · obtain rfl : k = n := by omega
        go_wp2_with fail
        go_ret2
        refine ⟨?_, hkr.out⟩
        rw [hf.out, List.drop_of_length_le (by rw [← Hn.out]; exact Nat.le_refl _)]
        rfl
end Go.Proofs.YtlhekeokognhmaaGreatDoor
