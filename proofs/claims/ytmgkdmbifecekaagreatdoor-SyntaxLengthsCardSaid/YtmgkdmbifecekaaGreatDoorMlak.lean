/-
  Package class: the named sets. Package syntax: a reader's named sets. Package syntax: what a reader reads: the mathematics. Package syntax: trees in memory, where one block that holds no such row is written. The library's contracts, laid at this program.
-/
import Derived.Test.YtmgkdmbifecekaaGreatDoorMlaf
import Derived.Test.YtmgkdmbifecekaaGreatDoorSyM
import Derived.Shelf.Strings.Trim
import Derived.Shelf.Strings.SlTrimAscii
import Derived.Shelf.Strconv.Atoi
import Derived.Test.YtmgkdmbifecekaaGreatDoorProg
set_option linter.all false
set_option linter.unusedSimpArgs false
set_option linter.unusedVariables false
set_option linter.unusedSectionVars false
namespace Go.Proofs.YtmgkdmbifecekaaGreatDoor
open Go.RowKit Go.Shelf
def nmdD : List Rng := [(48, 57)]
def nmdS : List Rng := [(9, 10), (12, 13), (32, 32)]
def nmdW : List Rng := [(48, 57), (65, 90), (95, 95), (97, 122)]
/-- The named set of a letter. -/
def nmdF (c : Int) : Option (List Rng) :=
  if c = 100 then some nmdD else if c = 115 then some nmdS else if c = 119 then some nmdW
  else if c = 68 then some (othF nmdD) else if c = 83 then some (othF nmdS) else if c = 87 then some (othF nmdW) else none
theorem own_rdR {w : World} {base n size : Nat} {e : TypeId} {v : Value} {xs : List Value} (h : w.ownsRow base e size v n xs) : ∃ A c, v = .slice A n c ∧ Rd w w.heap.size A (n * size) xs := by
  rcases h.2 with ⟨rfl, rfl⟩ | ⟨g, cap, cur, rfl, _, hg, hc, _, hs, ht⟩
  · have := h.1
    exact ⟨none, 0, rfl, ⟨h.1, fun h0 => by omega⟩⟩
  · refine ⟨_, _, rfl, ⟨h.1, fun _ => ⟨_, rfl, heap_lt hg, fun j u hu => ?_⟩⟩⟩
    have hj : j < n * size := by have := (List.getElem?_eq_some_iff.1 hu).1; rw [h.1] at this; exact this
    rw [add0, h.cellAt j hj]
    exact hu
/-- What Named answers. -/
abbrev NmdIs (c : Int) (o : Option (List Rng)) (W : World) (e : Ending) (w' : World) : Prop :=
  ∃ v, e = .returned (.tuple #[v, .bool o.isSome]) ∧ w'.ownsRow W.heap.size 73 2 v (o.getD []).length (rngs (o.getD [])) ∧ Kept W w'
theorem named_d (W : World) : Calls Tryz.prog 173 #[.int .u8 100] W fun e w' => NmdIs 100 (some nmdD) W e w' := by
  go_enter Tryz.func173, Tryz.ntmps173
  go_wp2_with fail
  go_ret2
  exact ⟨_, rfl, World.ownsRow_lit W #[.int .i64 48, .int .i64 57] 1 (Nat.le_refl _) (by unfold maxLen; omega) rfl, (Below.refl _ W).alloc (Nat.le_refl _) _⟩
theorem named_s (W : World) : Calls Tryz.prog 173 #[.int .u8 115] W fun e w' => NmdIs 115 (some nmdS) W e w' := by
  go_enter Tryz.func173, Tryz.ntmps173
  go_wp2_with fail
  go_ret2
  exact ⟨_, rfl, World.ownsRow_lit W #[.int .i64 9, .int .i64 10, .int .i64 12, .int .i64 13, .int .i64 32, .int .i64 32] 3 (Nat.le_refl _) (by unfold maxLen; omega) rfl, (Below.refl _ W).alloc (Nat.le_refl _) _⟩
theorem named_w (W : World) : Calls Tryz.prog 173 #[.int .u8 119] W fun e w' => NmdIs 119 (some nmdW) W e w' := by
  go_enter Tryz.func173, Tryz.ntmps173
  go_wp2_with fail
  go_ret2
  exact ⟨_, rfl, World.ownsRow_lit W #[.int .i64 48, .int .i64 57, .int .i64 65, .int .i64 90, .int .i64 95, .int .i64 95, .int .i64 97, .int .i64 122] 4 (Nat.le_refl _) (by unfold maxLen; omega) rfl, (Below.refl _ W).alloc (Nat.le_refl _) _⟩
theorem named_up (c : Int) (k : Nat) (L : List Rng) (hL : L.length = k) (hk : k ≤ 10) (hb : BdR L) (hc : c = 68 ∨ c = 83 ∨ c = 87) (C : ∀ W, Calls Tryz.prog 173 #[.int .u8 (c + 32)] W fun e w' => NmdIs (c + 32) (some L) W e w') (W : World) :
    Calls Tryz.prog 173 #[.int .u8 c] W fun e w' => NmdIs c (some (othF L)) W e w' := by
  have HC := Lib.hid C
  have CO : Hid (∀ A c W, RdR W W.heap.size A L → Calls Tryz.prog 132 #[.slice A k c] W fun e w' => ∃ v, e = .returned v ∧ w'.ownsRow W.heap.size 73 2 v (othF L).length (rngs (othF L)) ∧ Kept W w') := fun A c W h => by
    have := others_any A c L (by omega) hb W h
    rw [hL] at this
    exact this
  have HL := Lib.hid hL
  clear C hb hL
  rcases hc with rfl | rfl | rfl
  all_goals
    go_enter Tryz.func173, Tryz.ntmps173
    go_wp2_with fail
    refine (HC.out W).mono ?_
    rintro e w1 ⟨v, rfl, hown, hk⟩
    have hown2 : w1.ownsRow W.heap.size 73 2 v k (rngs L) := by rw [← HL.out]; exact hown
    obtain ⟨A, c, rfl, hrd⟩ := own_rdR hown2
    have Hrd : Hid (RdR w1 w1.heap.size A L) := by show Rd _ _ _ _ _; rw [HL.out]; exact hrd
    have Hk := Lib.hid hk
    clear hown hown2 hrd hk
    go_wp2_with fail
    refine (CO.out _ _ _ Hrd.out).mono ?_
    rintro e w2 ⟨v2, rfl, hown, hk⟩
    have Ho := Lib.hid (own_monoG hown Hk.out.size)
    have Hk2 := Lib.hid (below_kept Hk.out hk)
    clear hown hk Hrd
    go_wp2_with fail
    go_ret2
    exact ⟨_, rfl, Ho.out, Hk2.out⟩
theorem named_none (c : Int) (h : nmdF c = none) (W : World) : Calls Tryz.prog 173 #[.int .u8 c] W fun e w' => NmdIs c none W e w' := by
  have hs : (c == 100) = false ∧ (c == 115) = false ∧ (c == 119) = false ∧ (c == 68) = false ∧ (c == 83) = false ∧ (c == 87) = false := by
    unfold nmdF at h
    refine ⟨?_, ?_, ?_, ?_, ?_, ?_⟩ <;> (rw [beq_eq_false_iff_ne]; rintro rfl; simp at h)
  obtain ⟨h1, h2, h3, h4, h5, h6⟩ := hs
  clear h
  go_enter Tryz.func173, Tryz.ntmps173
  go_wp2_with fail
  go_ret2
  exact ⟨_, rfl, ⟨rfl, .inl ⟨rfl, rfl⟩⟩, Below.refl _ _⟩
theorem named_any (c : Int) (W : World) : Calls Tryz.prog 173 #[.int .u8 c] W fun e w' => NmdIs c (nmdF c) W e w' := by
  by_cases h0 : nmdF c = none
  · rw [h0]; exact named_none c h0 W
  · unfold nmdF at h0 ⊢
    by_cases h1 : c = 100
    · subst h1; exact named_d W
    · by_cases h2 : c = 115
      · subst h2; exact named_s W
      · by_cases h3 : c = 119
        · subst h3; exact named_w W
        · by_cases h4 : c = 68
          · subst h4; exact named_up 68 1 nmdD rfl (by decide) (by unfold BdR; decide) (by simp) named_d W
          · by_cases h5 : c = 83
            · subst h5; exact named_up 83 3 nmdS rfl (by decide) (by unfold BdR; decide) (by simp) named_s W
            · by_cases h6 : c = 87
              · subst h6; exact named_up 87 4 nmdW rfl (by decide) (by unfold BdR; decide) (by simp) named_w W
              · simp [h1, h2, h3, h4, h5, h6] at h0
end Go.Proofs.YtmgkdmbifecekaaGreatDoor
namespace Go.Proofs.YtmgkdmbifecekaaGreatDoor
open Go.RowKit Go.Shelf
def rdrN : List UInt8 → Option (List Rng)
  | a :: b :: _ => if a = 92 then nmdF (b.toNat : Int) else none
  | _ => none
theorem rdrN_cons (a b : UInt8) (r : List UInt8) : rdrN (a :: b :: r) = if a = 92 then nmdF (b.toNat : Int) else none := rfl
theorem rdrN_short (l : List UInt8) (h : l.length < 2) : rdrN l = none := by
  rcases l with _ | ⟨a, _ | ⟨b, r⟩⟩
  · rfl
  · rfl
  · simp at h; omega
theorem grown_of_kept {w w' : World} {r : Option Nat} (h : Kept w w') : w.grownBy w' r := ⟨h.os, h.tape, h.output, h.size, fun k hk _ => h.block k hk⟩
theorem grown_two {w w1 w2 : World} {r : Option Nat} (h : Kept w w1) (hg : w1.grownBy w2 r) : w.grownBy w2 r :=
  ⟨hg.os.trans h.os, hg.tape.trans h.tape, hg.output.trans h.output, Nat.le_trans h.size hg.size, fun k hk hne => (hg.block k (Nat.lt_of_lt_of_le hk h.size) hne).trans (h.block k hk)⟩
theorem grown_trans {w w1 w2 : World} {r : Option Nat} (h : w.grownBy w1 r) (hg : w1.grownBy w2 r) : w.grownBy w2 r :=
  ⟨hg.os.trans h.os, hg.tape.trans h.tape, hg.output.trans h.output, Nat.le_trans h.size hg.size, fun k hk hne => (hg.block k (Nat.lt_of_lt_of_le hk h.size) hne).trans (h.block k hk hne)⟩
set_option maxHeartbeats 1000000 in
theorem rnamed_any (g : Nat) (t : ByteArray) (W : World) (h : RdrAt W g t) : Calls Tryz.prog 156 #[.pointer (some ⟨g, 0, none⟩)] W fun e w' =>
    ∃ v, e = .returned (.tuple #[v, .bool (rdrN t.data.toList).isSome]) ∧ w'.ownsRow W.heap.size 73 2 v ((rdrN t.data.toList).getD []).length (rngs ((rdrN t.data.toList).getD [])) ∧
      RdrAt w' g (if (rdrN t.data.toList).isSome = true then t.extract 2 t.size else t) ∧ W.grownBy w' (some g) := by
  have hc : W.cell? ⟨g, 0, none⟩ = some (.string t) := by rw [cell_of_row _ _ _ _ _ _ h]; rfl
  have Hh := Lib.hid h
  have hg := heap_lt h
  clear h
  by_cases h2 : 2 ≤ t.size
  · have h2i : (2 : Int) ≤ t.size := by omega
    have h01 : 0 < t.size := by omega
    have h11 : 1 < t.size := by omega
    rw [two_of t h2, rdrN_cons]
    by_cases h92 : t[0] = 92
    · have k92 : (t[0].toNat : Int) = 92 := by rw [h92]; rfl
      rw [if_pos h92]
      have CN := Lib.hid (fun W => named_any (t[1].toNat : Int) W)
      obtain ⟨o, ho⟩ : ∃ o, o = nmdF (t[1].toNat : Int) := ⟨_, rfl⟩
      rw [← ho] at CN ⊢
      clear ho
      cases o with
      | none =>
        go_enter Tryz.func156, Tryz.ntmps156
        go_wp2_with fail
        refine (CN.out _).mono ?_
        rintro e w1 ⟨v, rfl, hown, hk⟩
        have Ho := Lib.hid hown
        have Hk := Lib.hid hk
        clear hown hk CN
        go_wp2_with fail
        go_ret2
        exact ⟨_, rfl, Ho.out, heap_kept Hk.out Hh.out, grown_of_kept Hk.out⟩
      | some L =>
        go_enter Tryz.func156, Tryz.ntmps156
        go_wp2_with fail
        refine (CN.out _).mono ?_
        rintro e w1 ⟨v, rfl, hown, hk⟩
        have Ho := Lib.hid hown
        have Hk := Lib.hid hk
        have H1 := heap_kept hk Hh.out
        have hc1 : w1.cell? ⟨g, 0, none⟩ = some (.string t) := by rw [cell_of_row _ _ _ _ _ _ H1]; rfl
        have hf1 : w1.frozen? ⟨g, 0, none⟩ = false := by simp [World.frozen?, show w1.heap[g]? = _ from H1]
        have Hs := Lib.hid (rdr_set H1 (t.extract 2 t.size))
        have Ho2 : Hid ((w1.setCell ⟨g, 0, none⟩ (.string (t.extract 2 t.size))).ownsRow W.heap.size 73 2 v (((some L : Option (List Rng))).getD []).length (rngs ((some L : Option (List Rng)).getD []))) := hown.kept (grownBy_setCell' w1 g _) (by
          rcases hv : v.ownBlock with _ | b
          · exact .inl rfl
          · refine .inr fun e => ?_
            cases e
            have := (hown.lt g hv).1
            omega)
        clear hown hk CN H1 Ho
        go_wp2_with fail
        go_ret2
        exact ⟨_, rfl, Ho2.out, Hs.out, grown_two Hk.out (grownBy_setCell' _ _ _)⟩
    · have k92 : ¬ (t[0].toNat : Int) = 92 := by
        intro e
        exact h92 (UInt8.toNat_inj.1 (by show _ = 92; omega))
      have k92b : ((t[0].toNat : Int) != 92) = true := by rw [bne_iff_ne]; exact k92
      rw [if_neg h92]
      go_enter Tryz.func156, Tryz.ntmps156
      go_wp2_with fail
      go_ret2
      exact ⟨_, rfl, ⟨rfl, .inl ⟨rfl, rfl⟩⟩, Hh.out, grown_of_kept (Below.refl _ _)⟩
  · have h2i : (t.size : Int) < 2 := by omega
    rw [rdrN_short _ (by rw [data_len]; omega)]
    go_enter Tryz.func156, Tryz.ntmps156
    go_wp2_with fail
    go_ret2
    exact ⟨_, rfl, ⟨rfl, .inl ⟨rfl, rfl⟩⟩, Hh.out, grown_of_kept (Below.refl _ _)⟩
end Go.Proofs.YtmgkdmbifecekaaGreatDoor
namespace Go.Proofs.YtmgkdmbifecekaaGreatDoor
open Go.RowKit Go.Shelf
abbrev Bs := List UInt8
def digP (b : UInt8) : Bool := decide (48 ≤ b.toNat) && decide (b.toNat ≤ 57)
def decN (l : Bs) : Nat := l.foldl (fun a d => a * 10 + (d.toNat - 48)) 0
/-- A decimal number without leading zeros. -/
def numP (l : Bs) : Option Int :=
  if (l.takeWhile digP).length = 0 ∨ ((l.takeWhile digP).headD 0 = 48 ∧ (l.takeWhile digP).length ≠ 1) ∨ 9223372036854775807 < decN (l.takeWhile digP) then none else some (decN (l.takeWhile digP) : Nat)
def numR (l : Bs) : Bs := l.dropWhile digP
/-- How many times, and what closes it. -/
def brcP (l : Bs) : Option (Int × Int × Bs) :=
  match numP l with
  | none => none
  | some a =>
    if Lib.hasPrefix (numR l) [44] = true then
      if Lib.hasPrefix (Lib.trimPrefix (numR l) [44]) [125] = true then
        if tmsB a (-1) = true then some (a, -1, Lib.trimPrefix (Lib.trimPrefix (numR l) [44]) [125]) else none
      else match numP (Lib.trimPrefix (numR l) [44]) with
        | none => none
        | some b => if Lib.hasPrefix (numR (Lib.trimPrefix (numR l) [44])) [125] = true ∧ tmsB a b = true then some (a, b, Lib.trimPrefix (numR (Lib.trimPrefix (numR l) [44])) [125]) else none
    else if Lib.hasPrefix (numR l) [125] = true ∧ tmsB a a = true then some (a, a, Lib.trimPrefix (numR l) [125]) else none
def lazP (t : Tree) (a b : Int) (l : Bs) : Tree × Bs := (.mk 5 [] a b (Lib.hasPrefix l [63]) [t], Lib.trimPrefix l [63])
/-- A quantifier, if one comes next. -/
def quaP (t : Tree) (l : Bs) : Option (Tree × Bs) :=
  if Lib.hasPrefix l [42] = true then some (lazP t 0 (-1) (Lib.trimPrefix l [42]))
  else if Lib.hasPrefix l [43] = true then some (lazP t 1 (-1) (Lib.trimPrefix l [43]))
  else if Lib.hasPrefix l [63] = true then some (lazP t 0 1 (Lib.trimPrefix l [63]))
  else if Lib.hasPrefix l [123] = true then
    match brcP (Lib.trimPrefix l [123]) with
    | none => none
    | some (a, b, r) => some (lazP t a b r)
  else some (t, l)
def noAt : Bs := [92, 46, 91, 93, 40, 41, 123, 125, 42, 43, 63, 124, 94, 36]
/-- An escape, or a character that is an atom of its own (of ASCII). -/
def pntP (l : Bs) : Option (Int × Bs) :=
  match escS l with
  | some (c, n) => some (c, l.drop n)
  | none => match l with
    | [] => none
    | b :: r => if noAt.contains b = true then none else some ((b.toNat : Int), r)
/-- What takes one code point, but for classes. -/
def setP (l : Bs) : Option (List Rng × Bs) :=
  if Lib.hasPrefix l [46] = true then some (allR, Lib.trimPrefix l [46])
  else match rdrN l with
    | some s => some (s, l.drop 2)
    | none => match pntP l with
      | none => none
      | some (c, r) => some ([(c, c)], r)
def joinT (k : Int) (ts : List Tree) : Tree := if ts.length = 0 then eT else if ts.length = 1 then lastT ts else .mk k [] 0 0 false ts
/-- Whether a sequence ends there. -/
def stopP (l : Bs) : Bool := decide (l = []) || decide (l.headD 0 = 124) || decide (l.headD 0 = 41)
mutual
def patF : Nat → Bs → Option (Tree × Bs)
  | 0, _ => none
  | n + 1, l => match altsF n l with
    | none => none
    | some (ts, r) => some (joinT 4 ts, r)
def altsF : Nat → Bs → Option (List Tree × Bs)
  | 0, _ => none
  | n + 1, l => match seqF n l with
    | none => none
    | some (t, r) => if Lib.hasPrefix r [124] = true then (match altsF n (Lib.trimPrefix r [124]) with
        | none => none
        | some (ts, r2) => some (t :: ts, r2)) else some ([t], r)
def seqF : Nat → Bs → Option (Tree × Bs)
  | 0, _ => none
  | n + 1, l => match itemsF n l with
    | none => none
    | some (ts, r) => some (joinT 3 ts, r)
def itemsF : Nat → Bs → Option (List Tree × Bs)
  | 0, _ => none
  | n + 1, l => if stopP l = true then some ([], l) else match itemF n l with
    | none => none
    | some (t, r) => match itemsF n r with
      | none => none
      | some (ts, r2) => some (t :: ts, r2)
def itemF : Nat → Bs → Option (Tree × Bs)
  | 0, _ => none
  | n + 1, l => match atomF n l with
    | none => none
    | some (t, r) => quaP t r
def atomF : Nat → Bs → Option (Tree × Bs)
  | 0, _ => none
  | n + 1, l => if Lib.hasPrefix l [40, 63, 58] = true then encF n (Lib.trimPrefix l [40, 63, 58])
    else if Lib.hasPrefix l [40] = true then (match encF n (Lib.trimPrefix l [40]) with
      | none => none
      | some (t, r) => some (.mk 6 [] 0 0 false [t], r))
    else match setP l with
      | none => none
      | some (s, r) => some (.mk 2 s 0 0 false [], r)
def encF : Nat → Bs → Option (Tree × Bs)
  | 0, _ => none
  | n + 1, l => match patF n l with
    | none => none
    | some (t, r) => if Lib.hasPrefix r [41] = true then some (t, Lib.trimPrefix r [41]) else none
end
end Go.Proofs.YtmgkdmbifecekaaGreatDoor
namespace Go.Proofs.YtmgkdmbifecekaaGreatDoor
open Go.RowKit Go.Shelf
/-- A block that is no row of two cells or more. -/
def Thin (w : World) (g : Nat) : Prop := ∀ o s, w.cell? ⟨g, o + 1, s⟩ = none
theorem thin_map {w : World} {g : Nat} {es : Array MapEntry} {cl : Nat} (h : w.heap[g]? = some (.map es cl)) : Thin w g := by
  intro o s
  unfold World.cell?
  rw [h]
theorem rd_thin {w w' : World} {g n : Nat} {A : Option Addr} {xs : List Value} (ht : Thin w g) (hg : w.grownBy w' (some g)) (hn : n ≠ 1) (h : Rd w w.heap.size A n xs) : Rd w' w'.heap.size A n xs := by
  refine ⟨h.1, fun h0 => ?_⟩
  obtain ⟨ad, e, hb, hc⟩ := h.2 h0
  have hne : ad.block ≠ g := by
    intro e9
    have h1 : 1 < xs.length := by have := h.1; omega
    have h2 := hc 1 _ (List.getElem?_eq_getElem h1)
    rw [show ad.add 1 = ⟨ad.block, ad.off + 1, none⟩ from rfl, e9, ht] at h2
    cases h2
  refine ⟨ad, e, Nat.lt_of_lt_of_le hb hg.size, fun j u hu => ?_⟩
  have hbl := hg.block ad.block hb (fun e9 => hne (Option.some.inj e9))
  have h2 := hc j u hu
  unfold World.cell? at h2 ⊢
  rw [addBlock] at h2 ⊢
  rw [hbl]
  exact h2
theorem lies_thin {w w' : World} {g : Nat} (hg : w.grownBy w' (some g)) {p : Addr} (hne : p.block ≠ g) (h : Lies w p) : Lies w' p := by
  obtain ⟨cs, t, h⟩ := h
  exact ⟨cs, t, (hg.block p.block (heap_lt h) (fun e9 => hne (Option.some.inj e9))).trans h⟩
theorem rdp_thin {w w' : World} {g n : Nat} {A : Option Addr} {xs : List Value} (ht : Thin w g) (hg : w.grownBy w' (some g)) (hn : n ≠ 1) (h : RdP w A n xs) : RdP w' A n xs := by
  refine ⟨rd_thin ht hg hn h.1, fun h0 ad e => ?_⟩
  obtain ⟨ad', e', hb, hc⟩ := h.1.2 h0
  rw [e] at e'
  cases e'
  refine lies_thin hg ?_ (h.2 h0 ad e)
  intro e9
  have h1 : 1 < xs.length := by have := h.1.1; omega
  have h2 := hc 1 _ (List.getElem?_eq_getElem h1)
  rw [show ad.add 1 = ⟨ad.block, ad.off + 1, none⟩ from rfl, e9, ht] at h2
  cases h2
end Go.Proofs.YtmgkdmbifecekaaGreatDoor
namespace Go.Proofs.YtmgkdmbifecekaaGreatDoor
open Go.Shelf
def sh_lays161_ren : Go.Shelf.Ren := ⟨fun | 161 => 158 | 231 => 175 | 227 => 176 | 233 => 177 | 235 => 178 | 228 => 191 | 197 => 164 | 151 => 91 | 260 => 185 | 152 => 116 | 137 => 136 | 119 => 137 | 224 => 138 | 225 => 139 | 217 => 154 | 266 => 169 | n => n, fun | 9 => 9 | 4 => 4 | 3 => 3 | 5 => 5 | 117 => 240 | 116 => 239 | 0 => 0 | 124 => 243 | 105 => 228 | 21 => 21 | 119 => 269 | 46 => 109 | 139 => 272 | 138 => 271 | n => n, fun | 3 => 5 | 4 => 6 | n => n⟩
theorem sh_lays161 : Go.Proofs.Lays.n161 Tryz.prog sh_lays161_ren := {
  mixed := by kernel_rfl
  f119 := Tryz.func137.trans (congrArg some (by kernel_rfl))
  f137 := Tryz.func136.trans (congrArg some (by kernel_rfl))
  f151 := Tryz.func91.trans (congrArg some (by kernel_rfl))
  f152 := Tryz.func116.trans (congrArg some (by kernel_rfl))
  f161 := Tryz.func158.trans (congrArg some (by kernel_rfl))
  f197 := Tryz.func164.trans (congrArg some (by kernel_rfl))
  f217 := Tryz.func154.trans (congrArg some (by kernel_rfl))
  f224 := Tryz.func138.trans (congrArg some (by kernel_rfl))
  f225 := Tryz.func139.trans (congrArg some (by kernel_rfl))
  f227 := Tryz.func176.trans (congrArg some (by kernel_rfl))
  f228 := Tryz.func191.trans (congrArg some (by kernel_rfl))
  f231 := Tryz.func175.trans (congrArg some (by kernel_rfl))
  f233 := Tryz.func177.trans (congrArg some (by kernel_rfl))
  f235 := Tryz.func178.trans (congrArg some (by kernel_rfl))
  f260 := Tryz.func185.trans (congrArg some (by kernel_rfl))
  f266 := Tryz.func169.trans (congrArg some (by kernel_rfl))
  t0 := Tryz.underlying0
  a0 := Tryz.isAgg0
  z0 := Tryz.sizeOf0
  v0 := Tryz.zeroValue0
  t3 := Tryz.underlying3
  a3 := Tryz.isAgg3
  z3 := Tryz.sizeOf3
  v3 := Tryz.zeroValue3
  t4 := Tryz.underlying4
  a4 := Tryz.isAgg4
  z4 := Tryz.sizeOf4
  v4 := Tryz.zeroValue4
  t5 := Tryz.underlying5
  a5 := Tryz.isAgg5
  z5 := Tryz.sizeOf5
  v5 := Tryz.zeroValue5
  t9 := Tryz.underlying9
  a9 := Tryz.isAgg9
  z9 := Tryz.sizeOf9
  v9 := Tryz.zeroValue9
  t21 := Tryz.underlying21
  a21 := Tryz.isAgg21
  z21 := Tryz.sizeOf21
  v21 := Tryz.zeroValue21
  t46 := Tryz.underlying109
  a46 := Tryz.isAgg109
  z46 := Tryz.sizeOf109
  v46 := Tryz.zeroValue109
  t105 := Tryz.underlying228
  a105 := Tryz.isAgg228
  z105 := Tryz.sizeOf228
  v105 := Tryz.zeroValue228
  t116 := Tryz.underlying239
  a116 := Tryz.isAgg239
  z116 := Tryz.sizeOf239
  t117 := Tryz.underlying240
  a117 := Tryz.isAgg240
  z117 := Tryz.sizeOf240
  v117 := Tryz.zeroValue240
  t119 := Tryz.underlying269
  a119 := Tryz.isAgg269
  z119 := Tryz.sizeOf269
  t124 := Tryz.underlying243
  a124 := Tryz.isAgg243
  z124 := Tryz.sizeOf243
  v124 := Tryz.zeroValue243
  t138 := Tryz.underlying271
  a138 := Tryz.isAgg271
  z138 := Tryz.sizeOf271
  v138 := Tryz.zeroValue271
  t139 := Tryz.underlying272
  a139 := Tryz.isAgg272
  z139 := Tryz.sizeOf272
  v139 := Tryz.zeroValue272
  g3 := by kernel_rfl
  g4 := by kernel_rfl }
def sh_lays172_ren : Go.Shelf.Ren := ⟨fun | 172 => 159 | 244 => 179 | 245 => 180 | 247 => 192 | 279 => 193 | 280 => 194 | 281 => 195 | 282 => 196 | 287 => 212 | 316 => 213 | 171 => 26 | 205 => 214 | 321 => 222 | 322 => 223 | 243 => 48 | 246 => 74 | 283 => 99 | 284 => 100 | 285 => 101 | 286 => 102 | 129 => 122 | 317 => 121 | 318 => 123 | 319 => 124 | 320 => 125 | 337 => 143 | 338 => 144 | n => n, fun | 9 => 9 | 3 => 3 | 75 => 115 | 76 => 116 | 4 => 4 | 5 => 5 | 167 => 256 | 37 => 86 | 0 => 0 | 85 => 257 | 2 => 2 | 168 => 259 | 53 => 142 | 175 => 277 | 46 => 109 | 210 => 280 | 127 => 128 | 145 => 296 | 143 => 294 | 21 => 21 | 171 => 166 | 173 => 169 | 212 => 188 | 51 => 139 | 20 => 20 | 213 => 189 | 232 => 218 | 233 => 219 | 80 => 92 | n => n, fun | 15 => 7 | 16 => 8 | 17 => 0 | 18 => 2 | 19 => 3 | n => n⟩
theorem sh_lays172 : Go.Proofs.Lays.n172 Tryz.prog sh_lays172_ren := {
  mixed := by kernel_rfl
  f129 := Tryz.func122.trans (congrArg some (by kernel_rfl))
  f171 := Tryz.func26.trans (congrArg some (by kernel_rfl))
  f172 := Tryz.func159.trans (congrArg some (by kernel_rfl))
  f205 := Tryz.func214.trans (congrArg some (by kernel_rfl))
  f243 := Tryz.func48.trans (congrArg some (by kernel_rfl))
  f244 := Tryz.func179.trans (congrArg some (by kernel_rfl))
  f245 := Tryz.func180.trans (congrArg some (by kernel_rfl))
  f246 := Tryz.func74.trans (congrArg some (by kernel_rfl))
  f247 := Tryz.func192.trans (congrArg some (by kernel_rfl))
  f279 := Tryz.func193.trans (congrArg some (by kernel_rfl))
  f280 := Tryz.func194.trans (congrArg some (by kernel_rfl))
  f281 := Tryz.func195.trans (congrArg some (by kernel_rfl))
  f282 := Tryz.func196.trans (congrArg some (by kernel_rfl))
  f283 := Tryz.func99.trans (congrArg some (by kernel_rfl))
  f284 := Tryz.func100.trans (congrArg some (by kernel_rfl))
  f285 := Tryz.func101.trans (congrArg some (by kernel_rfl))
  f286 := Tryz.func102.trans (congrArg some (by kernel_rfl))
  f287 := Tryz.func212.trans (congrArg some (by kernel_rfl))
  f316 := Tryz.func213.trans (congrArg some (by kernel_rfl))
  f317 := Tryz.func121.trans (congrArg some (by kernel_rfl))
  f318 := Tryz.func123.trans (congrArg some (by kernel_rfl))
  f319 := Tryz.func124.trans (congrArg some (by kernel_rfl))
  f320 := Tryz.func125.trans (congrArg some (by kernel_rfl))
  f321 := Tryz.func222.trans (congrArg some (by kernel_rfl))
  f322 := Tryz.func223.trans (congrArg some (by kernel_rfl))
  f337 := Tryz.func143.trans (congrArg some (by kernel_rfl))
  f338 := Tryz.func144.trans (congrArg some (by kernel_rfl))
  t0 := Tryz.underlying0
  a0 := Tryz.isAgg0
  z0 := Tryz.sizeOf0
  v0 := Tryz.zeroValue0
  t2 := Tryz.underlying2
  a2 := Tryz.isAgg2
  z2 := Tryz.sizeOf2
  v2 := Tryz.zeroValue2
  t3 := Tryz.underlying3
  a3 := Tryz.isAgg3
  z3 := Tryz.sizeOf3
  v3 := Tryz.zeroValue3
  t4 := Tryz.underlying4
  a4 := Tryz.isAgg4
  z4 := Tryz.sizeOf4
  v4 := Tryz.zeroValue4
  t5 := Tryz.underlying5
  a5 := Tryz.isAgg5
  z5 := Tryz.sizeOf5
  v5 := Tryz.zeroValue5
  t9 := Tryz.underlying9
  a9 := Tryz.isAgg9
  z9 := Tryz.sizeOf9
  v9 := Tryz.zeroValue9
  t20 := Tryz.underlying20
  a20 := Tryz.isAgg20
  z20 := Tryz.sizeOf20
  v20 := Tryz.zeroValue20
  t21 := Tryz.underlying21
  a21 := Tryz.isAgg21
  z21 := Tryz.sizeOf21
  v21 := Tryz.zeroValue21
  t37 := Tryz.underlying86
  a37 := Tryz.isAgg86
  z37 := Tryz.sizeOf86
  v37 := Tryz.zeroValue86
  t46 := Tryz.underlying109
  a46 := Tryz.isAgg109
  z46 := Tryz.sizeOf109
  v46 := Tryz.zeroValue109
  t51 := Tryz.underlying139
  a51 := Tryz.isAgg139
  z51 := Tryz.sizeOf139
  v51 := Tryz.zeroValue139
  t53 := Tryz.underlying142
  a53 := Tryz.isAgg142
  z53 := Tryz.sizeOf142
  v53 := Tryz.zeroValue142
  t75 := Tryz.underlying115
  a75 := Tryz.isAgg115
  z75 := Tryz.sizeOf115
  v75 := Tryz.zeroValue115
  t76 := Tryz.underlying116
  a76 := Tryz.isAgg116
  z76 := Tryz.sizeOf116
  v76 := Tryz.zeroValue116
  t85 := Tryz.underlying257
  a85 := Tryz.isAgg257
  z85 := Tryz.sizeOf257
  v85 := Tryz.zeroValue257
  t127 := Tryz.underlying128
  a127 := Tryz.isAgg128
  z127 := Tryz.sizeOf128
  v127 := Tryz.zeroValue128
  t143 := Tryz.underlying294
  a143 := Tryz.isAgg294
  z143 := Tryz.sizeOf294
  v143 := Tryz.zeroValue294
  t145 := Tryz.underlying296
  a145 := Tryz.isAgg296
  z145 := Tryz.sizeOf296
  v145 := Tryz.zeroValue296
  t167 := Tryz.underlying256
  a167 := Tryz.isAgg256
  z167 := Tryz.sizeOf256
  v167 := Tryz.zeroValue256
  t168 := Tryz.underlying259
  a168 := Tryz.isAgg259
  z168 := Tryz.sizeOf259
  v168 := Tryz.zeroValue259
  t171 := Tryz.underlying166
  a171 := Tryz.isAgg166
  z171 := Tryz.sizeOf166
  v171 := Tryz.zeroValue166
  t173 := Tryz.underlying169
  a173 := Tryz.isAgg169
  z173 := Tryz.sizeOf169
  v173 := Tryz.zeroValue169
  t175 := Tryz.underlying277
  a175 := Tryz.isAgg277
  z175 := Tryz.sizeOf277
  v175 := Tryz.zeroValue277
  t210 := Tryz.underlying280
  a210 := Tryz.isAgg280
  z210 := Tryz.sizeOf280
  v210 := Tryz.zeroValue280
  t212 := Tryz.underlying188
  a212 := Tryz.isAgg188
  z212 := Tryz.sizeOf188
  v212 := Tryz.zeroValue188
  t213 := Tryz.underlying189
  a213 := Tryz.isAgg189
  z213 := Tryz.sizeOf189
  t232 := Tryz.underlying218
  a232 := Tryz.isAgg218
  z232 := Tryz.sizeOf218
  v232 := Tryz.zeroValue218
  t233 := Tryz.underlying219
  a233 := Tryz.isAgg219
  z233 := Tryz.sizeOf219
  v233 := Tryz.zeroValue219
  g15 := by kernel_rfl
  g16 := by kernel_rfl
  g17 := by kernel_rfl
  g18 := by kernel_rfl
  g19 := by kernel_rfl }
open Go.RowKit in
/-- strconv.Atoi: "Atoi is equivalent to ParseInt(s, 10, 0), converted to type int.": AT A DECIMAL NUMERAL OF AT MOST 18 BYTES: its value, and a nil error. The world behind the call: the one new row that the library's '[]byte(s)' lays. (LAID: no walk: one application.) -/
theorem sh_strconv_Atoi (s : ByteArray) (n : Int) (hl : s.size ≤ 18) (h : Lib.atoi s.data.toList = some n) (w : World) :
    Calls Tryz.prog 159 #[.string s] w fun e w' => e = .returned (.tuple #[.int .i64 n, .nilIface]) ∧ ∃ t, w' = Lib.bytesWorld w 5 t := Any.strconv_Atoi sh_lays172 s n hl h w
end Go.Proofs.YtmgkdmbifecekaaGreatDoor
