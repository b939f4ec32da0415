/-
  Package syntax: patterns of many groups, of many levels, of many characters: the mathematics.
-/
import Derived.Test.YtmgkdmbifecekaaGreatDoorMmaz
import Derived.Lib.Repeat
set_option linter.all false
set_option linter.unusedSimpArgs false
set_option linter.unusedVariables false
set_option linter.unusedSectionVars false
namespace Go.Proofs.YtmgkdmbifecekaaGreatDoor
open Go.RowKit Go.Shelf
def sA : Tree := .mk 2 [(97, 97)] 0 0 false []
def sB : Tree := .mk 2 [(98, 98)] 0 0 false []
def sG : Tree := .mk 6 [] 0 0 false [sA]
/-- No quantifier stands there. -/
def cleanQ (r : Bs) : Prop := Lib.hasPrefix r [42] = false ∧ Lib.hasPrefix r [43] = false ∧ Lib.hasPrefix r [63] = false ∧ Lib.hasPrefix r [123] = false
theorem quaP_clean (t : Tree) {r : Bs} (h : cleanQ r) : quaP t r = some (t, r) := by
  obtain ⟨h1, h2, h3, h4⟩ := h
  unfold quaP
  rw [h1, h2, h3, h4]
  rfl
theorem clean_nil : cleanQ [] := ⟨rfl, rfl, rfl, rfl⟩
theorem clean_cons {b : UInt8} (r : Bs) (h : b ≠ 42 ∧ b ≠ 43 ∧ b ≠ 63 ∧ b ≠ 123) : cleanQ (b :: r) := by
  have g : ∀ c : UInt8, b ≠ c → Lib.hasPrefix (b :: r) [c] = false := by
    intro c hc
    unfold Lib.hasPrefix
    simp [List.isPrefixOf]
    exact fun e => hc e.symm
  exact ⟨g _ h.1, g _ h.2.1, g _ h.2.2.1, g _ h.2.2.2⟩
theorem setP_a (r : Bs) : setP (97 :: r) = some ([(97, 97)], r) := by
  have h1 : rdrN (97 :: r) = none := by cases r <;> rfl
  have h2 : escS (97 :: r) = none := by cases r <;> rfl
  unfold setP pntP
  rw [h1, h2]
  rfl
theorem setP_b (r : Bs) : setP (98 :: r) = some ([(98, 98)], r) := by
  have h1 : rdrN (98 :: r) = none := by cases r <;> rfl
  have h2 : escS (98 :: r) = none := by cases r <;> rfl
  unfold setP pntP
  rw [h1, h2]
  rfl
theorem setP_star (r : Bs) : setP (42 :: r) = none := by
  have h1 : rdrN (42 :: r) = none := by cases r <;> rfl
  have h2 : escS (42 :: r) = none := by cases r <;> rfl
  unfold setP pntP
  rw [h1, h2]
  rfl
theorem atom_a (n : Nat) (r : Bs) : atomF (n + 1) (97 :: r) = some (sA, r) := by
  rw [atomF, setP_a]; rfl
theorem atom_b (n : Nat) (r : Bs) : atomF (n + 1) (98 :: r) = some (sB, r) := by
  rw [atomF, setP_b]; rfl
theorem item_a (n : Nat) {r : Bs} (h : cleanQ r) : itemF (n + 2) (97 :: r) = some (sA, r) := by
  rw [itemF, atom_a]; exact quaP_clean _ h
theorem item_b (n : Nat) {r : Bs} (h : cleanQ r) : itemF (n + 2) (98 :: r) = some (sB, r) := by
  rw [itemF, atom_b]; exact quaP_clean _ h
theorem clean41 (r : Bs) : cleanQ (41 :: r) := clean_cons r (by decide)
theorem clean124 (r : Bs) : cleanQ (124 :: r) := clean_cons r (by decide)
theorem clean97 (r : Bs) : cleanQ (97 :: r) := clean_cons r (by decide)
theorem clean98 (r : Bs) : cleanQ (98 :: r) := clean_cons r (by decide)
theorem clean40 (r : Bs) : cleanQ (40 :: r) := clean_cons r (by decide)
theorem stop_in {b : UInt8} (r : Bs) (h : b ≠ 124 ∧ b ≠ 41) : stopP (b :: r) = false := by
  unfold stopP; simp [h.1, h.2]
theorem items_stop (n : Nat) {r : Bs} (h : stopP r = true) : itemsF (n + 1) r = some ([], r) := by
  rw [itemsF, if_pos h]
theorem stop41 (r : Bs) : stopP (41 :: r) = true := by unfold stopP; simp
theorem stop124 (r : Bs) : stopP (124 :: r) = true := by unfold stopP; simp
theorem items_cons (n : Nat) {b : UInt8} {r r1 r2 : Bs} {t : Tree} {ts : List Tree} (hs : b ≠ 124 ∧ b ≠ 41) (h1 : itemF n (b :: r) = some (t, r1)) (h2 : itemsF n r1 = some (ts, r2)) : itemsF (n + 1) (b :: r) = some (t :: ts, r2) := by
  rw [itemsF, if_neg (by rw [stop_in r hs]; decide), h1]
  dsimp only
  rw [h2]
/-- A sequence of one item, behind which it stops. -/
theorem seq_one (n : Nat) {b : UInt8} {r r1 : Bs} {t : Tree} (hs : b ≠ 124 ∧ b ≠ 41) (h1 : itemF (n + 1) (b :: r) = some (t, r1)) (h2 : stopP r1 = true) : seqF (n + 3) (b :: r) = some (t, r1) := by
  rw [seqF, items_cons (n + 1) hs h1 (items_stop n h2)]
  rfl
theorem alts_one (n : Nat) {l r : Bs} {t : Tree} (h1 : seqF n l = some (t, r)) (h2 : Lib.hasPrefix r [124] = false) : altsF (n + 1) l = some ([t], r) := by
  rw [altsF, h1]
  dsimp only
  rw [if_neg (by rw [h2]; decide)]
theorem trim_cons (b : UInt8) (r : Bs) : Lib.trimPrefix (b :: r) [b] = r := by
  unfold Lib.trimPrefix Lib.hasPrefix
  simp [List.isPrefixOf]
theorem pre_cons (b : UInt8) (r : Bs) : Lib.hasPrefix (b :: r) [b] = true := by
  unfold Lib.hasPrefix
  simp [List.isPrefixOf]
theorem pre_ne {b c : UInt8} (r : Bs) (h : b ≠ c) : Lib.hasPrefix (b :: r) [c] = false := by
  unfold Lib.hasPrefix
  simp [List.isPrefixOf]
  exact fun e => h e.symm
theorem alts_more (n : Nat) {l r r2 : Bs} {t : Tree} {ts : List Tree} (h1 : seqF n l = some (t, 124 :: r)) (h2 : altsF n r = some (ts, r2)) : altsF (n + 1) l = some (t :: ts, r2) := by
  rw [altsF, h1]
  dsimp only
  rw [if_pos (pre_cons 124 r), trim_cons, h2]
theorem enc_pat (n : Nat) {l r : Bs} {t : Tree} (h : patF n l = some (t, 41 :: r)) : encF (n + 1) l = some (t, r) := by
  rw [encF, h]
  dsimp only
  rw [if_pos (pre_cons 41 r), trim_cons]
theorem pre_part (r : Bs) : Lib.hasPrefix (40 :: 63 :: 58 :: r) [40, 63, 58] = true := by
  unfold Lib.hasPrefix
  simp [List.isPrefixOf]
theorem trim_part (r : Bs) : Lib.trimPrefix (40 :: 63 :: 58 :: r) [40, 63, 58] = r := by
  unfold Lib.trimPrefix
  rw [if_pos (pre_part r)]
  rfl
theorem atom_part (n : Nat) {l r : Bs} {t : Tree} (h : encF n l = some (t, r)) : atomF (n + 1) (40 :: 63 :: 58 :: l) = some (t, r) := by
  rw [atomF, if_pos (pre_part l), trim_part, h]
theorem atom_group (n : Nat) {b : UInt8} {l r : Bs} {t : Tree} (hb : b ≠ 63) (h : encF n (b :: l) = some (t, r)) : atomF (n + 1) (40 :: b :: l) = some (.mk 6 [] 0 0 false [t], r) := by
  rw [atomF, if_neg (by unfold Lib.hasPrefix; simp [List.isPrefixOf]; exact fun e => absurd e.symm hb), if_pos (pre_cons 40 _), trim_cons, h]
/-- (a). -/
theorem item_g (n : Nat) {r : Bs} (h : cleanQ r) : itemF (n + 9) (40 :: 97 :: 41 :: r) = some (sG, r) := by
  have h1 : seqF (n + 4) (97 :: 41 :: r) = some (sA, 41 :: r) := seq_one (n + 1) (by decide) (item_a n (clean41 r)) (stop41 r)
  have h2 : altsF (n + 5) (97 :: 41 :: r) = some ([sA], 41 :: r) := alts_one (n + 4) h1 (pre_ne r (by decide))
  have h3 : patF (n + 6) (97 :: 41 :: r) = some (sA, 41 :: r) := by rw [patF, h2]; rfl
  rw [itemF, atom_group (n + 7) (by decide) (enc_pat (n + 6) h3)]
  exact quaP_clean _ h
/-- Many (a), and what comes behind. -/
theorem items_g (n : Nat) {rest r : Bs} {ts : List Tree} (hc : cleanQ rest) (h : itemsF (n + 9) rest = some (ts, r)) : ∀ g : Nat, itemsF (n + 9 + g) (Lib.repeatL [40, 97, 41] g ++ rest) = some (List.replicate g sG ++ ts, r) ∧ cleanQ (Lib.repeatL [40, 97, 41] g ++ rest)
  | 0 => by
    rw [Lib.repeatL]
    exact ⟨h, hc⟩
  | g + 1 => by
    obtain ⟨i1, i2⟩ := items_g n hc h g
    rw [Lib.repeatL, List.append_assoc]
    refine ⟨?_, clean40 _⟩
    have := items_cons (n + 9 + g) (b := 40) (r := 97 :: 41 :: (Lib.repeatL [40, 97, 41] g ++ rest)) (by decide) (by have := item_g (n + g) i2; rw [show n + g + 9 = n + 9 + g from by omega] at this; exact this) i1
    rw [List.replicate_succ]
    exact this
/-- Many a. -/
theorem items_as (n : Nat) : ∀ k : Nat, itemsF (n + 2 + k) (Lib.repeatL [97] k) = some (List.replicate k sA, []) ∧ cleanQ (Lib.repeatL [97] k)
  | 0 => by
    rw [Lib.repeatL]
    exact ⟨by rw [Nat.add_zero, items_stop (n + 1) (by rfl)]; rfl, clean_nil⟩
  | k + 1 => by
    obtain ⟨i1, i2⟩ := items_as n k
    rw [Lib.repeatL]
    refine ⟨?_, clean97 _⟩
    have := items_cons (n + 2 + k) (b := 97) (r := Lib.repeatL [97] k) (by decide) (by have := item_a (n + k) i2; rw [show n + k + 2 = n + 2 + k from by omega] at this; exact this) i1
    rw [List.replicate_succ]
    exact this
/-- a|(?:a|(?: .. b)). -/
def deepS (d : Nat) : Bs := Lib.repeatL [97, 124, 40, 63, 58] d ++ [98] ++ Lib.repeatL [41] d
theorem deepS_zero : deepS 0 = [98] := rfl
theorem deepS_succ (d : Nat) : deepS (d + 1) = 97 :: 124 :: 40 :: 63 :: 58 :: (deepS d ++ [41]) := by
  unfold deepS
  rw [Lib.repeatL_add [41] d 1, Lib.repeatL_one, Lib.repeatL]
  simp
mutual
def deepT : Nat → Tree
  | 0 => sB
  | d + 1 => .mk 4 [] 0 0 false [sA, deepT d]
end
def deepL : Nat → List Tree
  | 0 => [sB]
  | d + 1 => [sA, deepT d]
theorem joinT_deep (d : Nat) : joinT 4 (deepL d) = deepT d := by
  cases d with
  | zero => rfl
  | succ d => rw [deepT]; rfl
/-- What may stand behind. -/
def endQ (r : Bs) : Prop := r = [] ∨ ∃ q, r = 41 :: q
theorem endQ.clean {r : Bs} (h : endQ r) : cleanQ r ∧ stopP r = true ∧ Lib.hasPrefix r [124] = false := by
  rcases h with rfl | ⟨q, rfl⟩
  · exact ⟨clean_nil, rfl, rfl⟩
  · exact ⟨clean41 q, stop41 q, pre_ne q (by decide)⟩
theorem alts_deep : ∀ (d n : Nat) (rest : Bs), endQ rest → altsF (n + 5 + 8 * d) (deepS d ++ rest) = some (deepL d, rest)
  | 0, n, rest, h => by
    obtain ⟨h1, h2, h3⟩ := h.clean
    rw [deepS_zero]
    exact alts_one (n + 4) (seq_one (n + 1) (by decide) (item_b n h1) h2) h3
  | d + 1, n, rest, h => by
    obtain ⟨h1, h2, h3⟩ := h.clean
    have i1 := alts_deep d n (41 :: rest) (.inr ⟨rest, rfl⟩)
    have e : deepS (d + 1) ++ rest = 97 :: 124 :: 40 :: 63 :: 58 :: (deepS d ++ 41 :: rest) := by rw [deepS_succ]; simp
    rw [e, show n + 5 + 8 * (d + 1) = (n + 5 + 8 * d + 7) + 1 from by omega]
    obtain ⟨m, hm⟩ : ∃ m, m = n + 5 + 8 * d := ⟨_, rfl⟩
    rw [← hm] at i1 ⊢
    have p1 : patF (m + 1) (deepS d ++ 41 :: rest) = some (deepT d, 41 :: rest) := by rw [patF, i1]; dsimp only; rw [joinT_deep]
    have a1 := atom_part (m + 2) (enc_pat (m + 1) p1)
    have j1 : itemF (m + 4) (40 :: 63 :: 58 :: (deepS d ++ 41 :: rest)) = some (deepT d, rest) := by rw [itemF, a1]; exact quaP_clean _ h1
    have q1 : altsF (m + 7) (40 :: 63 :: 58 :: (deepS d ++ 41 :: rest)) = some ([deepT d], rest) := alts_one (m + 6) (seq_one (m + 3) (by decide) j1 h2) h3
    have s1 : seqF (m + 7) (97 :: 124 :: 40 :: 63 :: 58 :: (deepS d ++ 41 :: rest)) = some (sA, 124 :: 40 :: 63 :: 58 :: (deepS d ++ 41 :: rest)) := seq_one (m + 4) (by decide) (item_a (m + 3) (clean124 _)) (stop124 _)
    exact alts_more (m + 7) s1 q1
/-- (a)(a) .. b. -/
def gpsS (g : Nat) : Bs := Lib.repeatL [40, 97, 41] g ++ [98]
theorem pat_grp (g n : Nat) : patF (n + 14 + g) (gpsS g) = some (joinT 3 (List.replicate g sG ++ [sB]), []) := by
  have h0 : itemsF (n + 10) [98] = some ([sB], []) := items_cons (n + 9) (by decide) (item_b (n + 7) clean_nil) (items_stop (n + 8) rfl)
  have h1 := (items_g (n + 1) (clean98 []) h0 g).1
  have h2 : seqF (n + 11 + g) (gpsS g) = some (joinT 3 (List.replicate g sG ++ [sB]), []) := by
    rw [show n + 11 + g = (n + 1 + 9 + g) + 1 from by omega, seqF]
    unfold gpsS
    rw [h1]
  rw [show n + 14 + g = (n + 2 + 11 + g) + 1 from by omega, patF]
  have h3 : seqF (n + 1 + 11 + g) (gpsS g) = some (joinT 3 (List.replicate g sG ++ [sB]), []) := by
    have h0 : itemsF (n + 1 + 10) [98] = some ([sB], []) := items_cons (n + 1 + 9) (by decide) (item_b (n + 1 + 7) clean_nil) (items_stop (n + 1 + 8) rfl)
    have h1 := (items_g (n + 1 + 1) (clean98 []) h0 g).1
    rw [show n + 1 + 11 + g = (n + 1 + 1 + 9 + g) + 1 from by omega, seqF]
    unfold gpsS
    rw [h1]
  have h4 := alts_one (n + 1 + 11 + g) h3 rfl
  rw [show n + 1 + 11 + g + 1 = n + 2 + 11 + g from by omega] at h4
  rw [h4]
  rfl
theorem pat_as (k n : Nat) : patF (n + 5 + k) (Lib.repeatL [97] k) = some (joinT 3 (List.replicate k sA), []) := by
  have h1 := (items_as n k).1
  have h2 : seqF (n + 3 + k) (Lib.repeatL [97] k) = some (joinT 3 (List.replicate k sA), []) := by
    rw [show n + 3 + k = (n + 2 + k) + 1 from by omega, seqF, h1]
  have h3 := alts_one (n + 3 + k) h2 rfl
  rw [show n + 5 + k = (n + 3 + k + 1) + 1 from by omega, patF, h3]
  rfl
theorem pat_deep (d n : Nat) : patF (n + 6 + 8 * d) (deepS d) = some (deepT d, []) := by
  have := alts_deep d n [] (.inl rfl)
  rw [List.append_nil] at this
  rw [show n + 6 + 8 * d = (n + 5 + 8 * d) + 1 from by omega, patF, this]
  dsimp only
  rw [joinT_deep]
def bothT : Nat → Tree
  | 0 => joinT 3 (List.replicate 31 sG ++ [sB])
  | d + 1 => .mk 4 [] 0 0 false [joinT 3 (List.replicate 31 sG ++ [sA]), deepT d]
/-- Groups, and behind them the deep one. -/
theorem pat_both (d n : Nat) : patF (n + 60 + 8 * d) (Lib.repeatL [40, 97, 41] 31 ++ deepS d) = some (bothT d, []) := by
  cases d with
  | zero =>
    have := pat_grp 31 (n + 15)
    rw [show n + 15 + 14 + 31 = n + 60 + 8 * 0 from by omega] at this
    exact this
  | succ d =>
    rw [deepS_succ]
    obtain ⟨m, hm⟩ : ∃ m, m = n + 55 + 8 * d := ⟨_, rfl⟩
    have i1 : altsF (m + 0) (deepS d ++ [41]) = some (deepL d, [41]) := by
      have := alts_deep d (n + 50) [41] (.inr ⟨[], rfl⟩)
      rw [show n + 50 + 5 + 8 * d = m + 0 from by omega] at this
      exact this
    have p1 : patF (m + 1) (deepS d ++ [41]) = some (deepT d, [41]) := by rw [patF, show m = m + 0 from rfl, i1]; dsimp only; rw [joinT_deep]
    have a1 := atom_part (m + 2) (enc_pat (m + 1) p1)
    have j1 : itemF (m + 4) (40 :: 63 :: 58 :: (deepS d ++ [41])) = some (deepT d, []) := by rw [itemF, a1]; exact quaP_clean _ clean_nil
    have q1 : altsF (m + 7) (40 :: 63 :: 58 :: (deepS d ++ [41])) = some ([deepT d], []) := alts_one (m + 6) (seq_one (m + 3) (by decide) j1 rfl) rfl
    -- the first sequence
    have q2 : altsF (m + 11) (40 :: 63 :: 58 :: (deepS d ++ [41])) = some ([deepT d], []) := by
      have i1 : altsF (m + 4) (deepS d ++ [41]) = some (deepL d, [41]) := by
        have := alts_deep d (n + 54) [41] (.inr ⟨[], rfl⟩)
        rw [show n + 54 + 5 + 8 * d = m + 4 from by omega] at this
        exact this
      have p1 : patF (m + 5) (deepS d ++ [41]) = some (deepT d, [41]) := by rw [patF, i1]; dsimp only; rw [joinT_deep]
      have a1 := atom_part (m + 6) (enc_pat (m + 5) p1)
      have j1 : itemF (m + 8) (40 :: 63 :: 58 :: (deepS d ++ [41])) = some (deepT d, []) := by rw [itemF, a1]; exact quaP_clean _ clean_nil
      exact alts_one (m + 10) (seq_one (m + 7) (by decide) j1 rfl) rfl
    have h0 : itemsF (m + 10 - 31) (97 :: 124 :: 40 :: 63 :: 58 :: (deepS d ++ [41])) = some ([sA], 124 :: 40 :: 63 :: 58 :: (deepS d ++ [41])) := by
      rw [show m + 10 - 31 = (m - 22) + 1 from by omega]
      exact items_cons (m - 22) (by decide) (by rw [show m - 22 = (m - 24) + 2 from by omega]; exact item_a (m - 24) (clean124 _)) (by rw [show m - 22 = (m - 23) + 1 from by omega]; exact items_stop (m - 23) (stop124 _))
    have h1 := (items_g (m - 30) (clean97 _) (by rw [show m - 30 + 9 = m + 10 - 31 from by omega]; exact h0) 31).1
    rw [show m - 30 + 9 + 31 = m + 10 from by omega] at h1
    have h2 : seqF (m + 11) (Lib.repeatL [40, 97, 41] 31 ++ 97 :: 124 :: 40 :: 63 :: 58 :: (deepS d ++ [41])) = some (joinT 3 (List.replicate 31 sG ++ [sA]), 124 :: 40 :: 63 :: 58 :: (deepS d ++ [41])) := by
      rw [seqF, h1]
    have h3 := alts_more (m + 11) h2 q2
    rw [show n + 60 + 8 * (d + 1) = m + 12 + 1 from by omega, patF, h3]
    rfl
theorem pat_star (n : Nat) (r : Bs) : patF (n + 6) (42 :: r) = none := by
  have h1 : atomF (n + 1) (42 :: r) = none := by
    rw [atomF, if_neg (by unfold Lib.hasPrefix; simp [List.isPrefixOf]), if_neg (by rw [pre_ne r (by decide)]; decide), setP_star]
  have h2 : itemF (n + 2) (42 :: r) = none := by rw [itemF, h1]
  have h3 : itemsF (n + 3) (42 :: r) = none := by rw [itemsF, if_neg (by rw [stop_in r (by decide)]; decide), h2]
  have h4 : seqF (n + 4) (42 :: r) = none := by rw [seqF, h3]
  have h5 : altsF (n + 5) (42 :: r) = none := by rw [altsF, h4]
  rw [patF, h5]
/-! What these trees say. -/
theorem f_sA : factsT sA = ⟨1, 0, 1, 1, false, false⟩ := by kernel_rfl
theorem f_sB : factsT sB = ⟨1, 0, 1, 1, false, false⟩ := by kernel_rfl
theorem f_sG : factsT sG = ⟨2, 1, 1, 1, false, false⟩ := by kernel_rfl
/-- What of them Parse looks at. -/
structure Lk (f : Fct) (g d : Int) : Prop where
  l : f.loops = false
  g : f.groups = g
  d : f.depth ≤ d
theorem Lk.and {f h : Fct} {a b d : Int} (k : Int) (hf : Lk f a d) (hh : Lk h b d) (h0 : a + b ≤ 1000) : Lk (andF f h k) (a + b) d := by
  refine ⟨?_, ?_, ?_⟩
  · show (f.loops || h.loops) = false
    rw [hf.l, hh.l]; rfl
  · show capI (f.groups + h.groups) = a + b
    rw [hf.g, hh.g]; unfold capI; rw [if_pos (by omega)]
  · show (if f.depth ≤ h.depth then h.depth else f.depth) ≤ d
    have := hf.d; have := hh.d
    split <;> omega
theorem lk_A : Lk (factsT sA) 0 2 := by rw [f_sA]; exact ⟨rfl, rfl, by decide⟩
theorem lk_B : Lk (factsT sB) 0 2 := by rw [f_sB]; exact ⟨rfl, rfl, by decide⟩
theorem lk_G : Lk (factsT sG) 1 2 := by rw [f_sG]; exact ⟨rfl, rfl, by decide⟩
theorem lk_gs {x : Tree} (hx : Lk (factsT x) 0 2) : ∀ (g : Nat) (acc : Fct) (a : Int), Lk acc a 2 → a + g ≤ 1000 → Lk (factsA 3 acc (List.replicate g sG ++ [x])) (a + g) 2
  | 0, acc, a, h, h0 => by
    rw [List.replicate_zero, List.nil_append, factsA, factsA]
    have := Lk.and 3 h hx (by omega)
    simpa using this
  | g + 1, acc, a, h, h0 => by
    rw [List.replicate_succ, List.cons_append, factsA]
    have := lk_gs hx g _ (a + 1) (Lk.and 3 h lk_G (by omega)) (by omega)
    rw [show a + 1 + (g : Int) = a + ((g + 1 : Nat) : Int) from by omega] at this
    exact this
theorem lk_as : ∀ (g : Nat) (acc : Fct), Lk acc 0 2 → Lk (factsA 3 acc (List.replicate g sA)) 0 2
  | 0, acc, h => by rw [List.replicate_zero, factsA]; exact h
  | g + 1, acc, h => by
    rw [List.replicate_succ, factsA]
    exact lk_as g _ (by have := Lk.and 3 h lk_A (by omega); simpa using this)
theorem lk_cat {ts : List Tree} {g d : Int} (k : Int) (hk : k = 3 ∨ k = 4) (h : Lk (factsL k ts) g d) : Lk (factsT (.mk k [] 0 0 false ts)) g (d + 1) := by
  rw [factsT_mk]
  have e : ofF (factsL k ts) k 0 0 = { factsL k ts with depth := (factsL k ts).depth + 1 } := by
    unfold ofF
    rw [if_neg (by omega), if_neg (by omega), if_neg (by omega)]
  rw [e]
  exact ⟨h.l, h.g, by show (factsL k ts).depth + 1 ≤ d + 1; have := h.d; omega⟩
theorem joinT_two (k : Int) {ts : List Tree} (h : 2 ≤ ts.length) : joinT k ts = .mk k [] 0 0 false ts := by
  unfold joinT
  rw [if_neg (by omega), if_neg (by omega)]
theorem ok_sA : okTr sA = true := by kernel_rfl
theorem ok_sB : okTr sB = true := by kernel_rfl
theorem ok_sG : okTr sG = true := by kernel_rfl
theorem ok_join {ts : List Tree} (k : Int) (hk : k = 3 ∨ k = 4) (h : ∀ t ∈ ts, okTr t = true) : okTr (joinT k ts) = true := by
  by_cases h0 : ts.length = 0
  · unfold joinT; rw [if_pos h0]; rfl
  · by_cases h1 : ts.length = 1
    · match ts, h1 with
      | [t], _ => exact h t (by simp)
    · rw [joinT_two k (by omega), okTr_mk]
      refine ⟨?_, (okTs_iff ts).2 h⟩
      have h2 : 2 ≤ ts.length := by omega
      rcases hk with rfl | rfl <;> (unfold aloneF rgtR; simp [h2])
theorem ok_gs {x : Tree} (hx : okTr x = true) (g : Nat) : okTr (joinT 3 (List.replicate g sG ++ [x])) = true := by
  refine ok_join 3 (.inl rfl) (fun t ht => ?_)
  rcases List.mem_append.1 ht with h | h
  · rw [(List.mem_replicate.1 h).2]; exact ok_sG
  · rw [List.mem_singleton.1 h]; exact hx
theorem lk_grp {x : Tree} (hx : Lk (factsT x) 0 2) (g : Nat) (hg : g ≤ 900) : Lk (factsT (joinT 3 (List.replicate g sG ++ [x]))) g 3 := by
  cases g with
  | zero => exact ⟨hx.l, hx.g, by have := hx.d; show (factsT x).depth ≤ 3; omega⟩
  | succ g =>
    rw [joinT_two 3 (by simp)]
    refine lk_cat (d := 2) 3 (.inl rfl) ?_
    rw [List.replicate_succ, List.cons_append, factsL]
    have := lk_gs hx g _ 1 lk_G (by omega)
    rw [show (1 : Int) + (g : Int) = ((g + 1 : Nat) : Int) from by omega] at this
    exact this
theorem lk_ks (k : Nat) : Lk (factsT (joinT 3 (List.replicate k sA))) 0 3 := by
  match k with
  | 0 => exact ⟨rfl, rfl, by decide⟩
  | 1 => exact ⟨lk_A.l, lk_A.g, by have := lk_A.d; show (factsT sA).depth ≤ 3; omega⟩
  | k + 2 =>
    rw [joinT_two 3 (by simp)]
    refine lk_cat (d := 2) 3 (.inl rfl) ?_
    rw [List.replicate_succ, factsL]
    exact lk_as (k + 1) _ lk_A
theorem ok_ks (k : Nat) : okTr (joinT 3 (List.replicate k sA)) = true := by
  refine ok_join 3 (.inl rfl) (fun t ht => ?_)
  rw [(List.mem_replicate.1 ht).2]; exact ok_sA
theorem f_deep : ∀ d : Nat, (factsT (deepT d)).loops = false ∧ (factsT (deepT d)).groups = 0 ∧ (factsT (deepT d)).depth = (d : Int) + 1 ∧ okTr (deepT d) = true
  | 0 => by
    have : deepT 0 = sB := by rw [deepT]
    rw [this, f_sB]
    exact ⟨rfl, rfl, rfl, ok_sB⟩
  | d + 1 => by
    obtain ⟨h1, h2, h3, h4⟩ := f_deep d
    have e : deepT (d + 1) = .mk 4 [] 0 0 false [sA, deepT d] := by rw [deepT]
    rw [e, factsT_mk]
    have e2 : factsL 4 [sA, deepT d] = andF (factsT sA) (factsT (deepT d)) 4 := by rw [factsL, factsA, factsA]
    rw [e2]
    have e3 : ∀ f : Fct, ofF f 4 0 0 = { f with depth := f.depth + 1 } := by
      intro f
      unfold ofF
      rw [if_neg (by omega), if_neg (by omega), if_neg (by omega)]
    rw [e3]
    refine ⟨?_, ?_, ?_, ?_⟩
    · show ((factsT sA).loops || (factsT (deepT d)).loops) = false
      rw [h1, f_sA]; rfl
    · show capI ((factsT sA).groups + (factsT (deepT d)).groups) = 0
      rw [h2, f_sA]; rfl
    · show (if (factsT sA).depth ≤ (factsT (deepT d)).depth then (factsT (deepT d)).depth else (factsT sA).depth) + 1 = ((d + 1 : Nat) : Int) + 1
      rw [h3, f_sA]
      show (if (1 : Int) ≤ (d : Int) + 1 then (d : Int) + 1 else 1) + 1 = ((d + 1 : Nat) : Int) + 1
      rw [if_pos (by omega)]
      omega
    · rw [okTr_mk]
      exact ⟨rfl, (okTs_iff _).2 (fun t ht => by rcases List.mem_cons.1 ht with rfl | ht; exact ok_sA; rw [List.mem_singleton.1 ht]; exact h4)⟩
theorem ok_both (d : Nat) : okTr (bothT d) = true := by
  cases d with
  | zero => exact ok_gs ok_sB 31
  | succ d =>
    unfold bothT
    rw [okTr_mk]
    exact ⟨rfl, (okTs_iff _).2 (fun t ht => by rcases List.mem_cons.1 ht with rfl | ht; exact ok_gs ok_sA 31; rw [List.mem_singleton.1 ht]; exact (f_deep d).2.2.2)⟩
theorem lk_both (d : Nat) (hd : d ≤ 900) : Lk (factsT (bothT d)) 31 1000 := by
  cases d with
  | zero =>
    have h := lk_grp lk_B 31 (by decide)
    exact ⟨h.l, h.g, by have := h.d; show (factsT (joinT 3 (List.replicate 31 sG ++ [sB]))).depth ≤ 1000; omega⟩
  | succ d =>
    have h := lk_grp lk_A 31 (by decide)
    obtain ⟨h1, h2, h3, _⟩ := f_deep d
    unfold bothT
    refine lk_cat (d := 999) 4 (.inr rfl) ?_
    rw [factsL, factsA, factsA]
    have := Lk.and (f := factsT (joinT 3 (List.replicate 31 sG ++ [sA]))) (h := factsT (deepT d)) (a := 31) (b := 0) (d := 999) 4 ⟨h.l, h.g, by have := h.d; omega⟩ ⟨h1, h2, by omega⟩ (by decide)
    exact this
/-- Bytes of which a reader knows all. -/
def plnB (b : UInt8) : Bool := decide (b.toNat < 128) && decide (b ≠ 91) && decide (b ≠ 92) && decide (b ≠ 123)
theorem okB_plain : ∀ l : Bs, (∀ b ∈ l, plnB b = true) → okB l = true
  | [], _ => rfl
  | b :: r, h => by
    have hb := h b (by simp)
    unfold plnB at hb
    simp only [Bool.and_eq_true, decide_eq_true_eq] at hb
    obtain ⟨⟨⟨h1, h2⟩, h3⟩, h4⟩ := hb
    unfold okB okH
    rw [okB_plain r (fun c hc => h c (by simp [hc]))]
    simp [h1, h2, h3, h4]
theorem mem_rep {b : UInt8} {l : Bs} : ∀ c : Nat, b ∈ Lib.repeatL l c → b ∈ l
  | 0, h => by rw [Lib.repeatL] at h; cases h
  | c + 1, h => by
    rw [Lib.repeatL] at h
    rcases List.mem_append.1 h with h | h
    · exact h
    · exact mem_rep c h
theorem pln_rep (l : Bs) (hl : ∀ b ∈ l, plnB b = true) (c : Nat) : ∀ b ∈ Lib.repeatL l c, plnB b = true := fun b hb => hl b (mem_rep c hb)
theorem pln_app {l m : Bs} (hl : ∀ b ∈ l, plnB b = true) (hm : ∀ b ∈ m, plnB b = true) : ∀ b ∈ l ++ m, plnB b = true := fun b hb => (List.mem_append.1 hb).elim (hl b) (hm b)
theorem pln_grp (g : Nat) : ∀ b ∈ gpsS g, plnB b = true := pln_app (pln_rep _ (by decide) g) (by decide)
theorem pln_deep (d : Nat) : ∀ b ∈ deepS d, plnB b = true := pln_app (pln_app (pln_rep _ (by decide) d) (by decide)) (pln_rep _ (by decide) d)
theorem len_grp (g : Nat) : (gpsS g).length = g * 3 + 1 := by unfold gpsS; rw [List.length_append, Lib.repeatL_length]; rfl
theorem len_deep (d : Nat) : (deepS d).length = d * 6 + 1 := by unfold deepS; rw [List.length_append, List.length_append, Lib.repeatL_length, Lib.repeatL_length]; show d * 5 + 1 + d * 1 = _; omega
theorem parE_lk {f : Fct} {g d : Int} (h : Lk f g d) (hd : d ≤ 40) : parE f = if 30 < g then 5 else 0 := by
  unfold parE
  rw [h.l, h.g]
  have := h.d
  simp only [Bool.false_eq_true, if_false]
  split
  · rfl
  · rw [if_neg (by omega)]
theorem fuel_is (l : Bs) (k : Nat) (h : k ≤ 8 * l.length + 8) : ∃ n, fuelOf l = n + k := ⟨8 * l.length + 8 - k, by unfold fuelOf; omega⟩
theorem m_grp (g : Nat) (hg : g < 60) : patF (fuelOf (gpsS g)) (gpsS g) = some (joinT 3 (List.replicate g sG ++ [sB]), []) ∧ okTr (joinT 3 (List.replicate g sG ++ [sB])) = true ∧ (factsT (joinT 3 (List.replicate g sG ++ [sB]))).depth ≤ 1024 ∧ (if 30 < g then 5 else 0) = parE (factsT (joinT 3 (List.replicate g sG ++ [sB]))) := by
  obtain ⟨n, hn⟩ := fuel_is (gpsS g) (14 + g) (by rw [len_grp]; omega)
  have h := lk_grp lk_B g (by omega)
  refine ⟨?_, ok_gs ok_sB g, by have := h.d; omega, ?_⟩
  · rw [hn, ← Nat.add_assoc]; exact pat_grp g n
  · rw [parE_lk h (by decide)]
    by_cases h3 : 30 < g
    · rw [if_pos h3, if_pos (by omega)]
    · rw [if_neg h3, if_neg (by omega)]
theorem m_as (k : Nat) (hk : k ≤ 1024) : patF (fuelOf (Lib.repeatL [97] k)) (Lib.repeatL [97] k) = some (joinT 3 (List.replicate k sA), []) ∧ okTr (joinT 3 (List.replicate k sA)) = true ∧ (factsT (joinT 3 (List.replicate k sA))).depth ≤ 1024 ∧ 0 = parE (factsT (joinT 3 (List.replicate k sA))) := by
  obtain ⟨n, hn⟩ := fuel_is (Lib.repeatL [97] k) (5 + k) (by rw [Lib.repeatL_length]; show _ ≤ 8 * (k * 1) + 8; omega)
  have h := lk_ks k
  refine ⟨?_, ok_ks k, by have := h.d; omega, ?_⟩
  · rw [hn, ← Nat.add_assoc]; exact pat_as k n
  · rw [parE_lk h (by decide)]; rfl
theorem m_deep (d : Nat) (hd : d < 60) : patF (fuelOf (deepS d)) (deepS d) = some (deepT d, []) ∧ okTr (deepT d) = true ∧ (factsT (deepT d)).depth ≤ 1024 ∧ (if 40 ≤ d then 72 else 0) = parE (factsT (deepT d)) := by
  obtain ⟨n, hn⟩ := fuel_is (deepS d) (6 + 8 * d) (by rw [len_deep]; omega)
  obtain ⟨h1, h2, h3, h4⟩ := f_deep d
  refine ⟨?_, h4, by omega, ?_⟩
  · rw [hn, ← Nat.add_assoc]; exact pat_deep d n
  · unfold parE
    rw [h1, h2, h3]
    simp only [Bool.false_eq_true, if_false]
    rw [if_neg (show ¬ (30 : Int) < 0 by decide)]
    by_cases h5 : 40 ≤ d
    · rw [if_pos h5, if_pos (by omega)]
    · rw [if_neg h5, if_neg (by omega)]
theorem m_both (d : Nat) (hd : d < 60) : patF (fuelOf (Lib.repeatL [40, 97, 41] 31 ++ deepS d)) (Lib.repeatL [40, 97, 41] 31 ++ deepS d) = some (bothT d, []) ∧ okTr (bothT d) = true ∧ (factsT (bothT d)).depth ≤ 1024 ∧ 5 = parE (factsT (bothT d)) := by
  obtain ⟨n, hn⟩ := fuel_is (Lib.repeatL [40, 97, 41] 31 ++ deepS d) (60 + 8 * d) (by rw [List.length_append, Lib.repeatL_length, len_deep]; show _ ≤ 8 * (31 * 3 + (d * 6 + 1)) + 8; omega)
  have h := lk_both d (by omega)
  refine ⟨?_, ok_both d, by have := h.d; omega, ?_⟩
  · rw [hn, ← Nat.add_assoc]; exact pat_both d n
  · unfold parE
    rw [h.l, h.g]
    rfl
theorem m_star (k : Nat) : patF (fuelOf (Lib.repeatL [42] (k + 1))) (Lib.repeatL [42] (k + 1)) = none := by
  obtain ⟨n, hn⟩ := fuel_is (Lib.repeatL [42] (k + 1)) 6 (by omega)
  rw [hn, Lib.repeatL]
  exact pat_star n _
end Go.Proofs.YtmgkdmbifecekaaGreatDoor
