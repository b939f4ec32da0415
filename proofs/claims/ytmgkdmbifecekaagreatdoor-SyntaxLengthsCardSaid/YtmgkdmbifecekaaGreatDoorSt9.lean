/-
  Package syntax: the patterns of the examples.
-/
import Derived.Test.YtmgkdmbifecekaaGreatDoorMlbi
import Derived.Test.YtmgkdmbifecekaaGreatDoorMlbj
set_option linter.all false
set_option linter.unusedSimpArgs false
set_option linter.unusedVariables false
set_option linter.unusedSectionVars false
namespace Go.Proofs.YtmgkdmbifecekaaGreatDoor
open Go.RowKit Go.Shelf
def tA1 : Tree := .mk 4 [] 0 0 false [.mk 2 [(97, 97)] 0 0 false [], .mk 3 [] 0 0 false [.mk 2 [(98, 98)] 0 0 false [], .mk 5 [] 0 (-1) false [.mk 2 [(99, 99)] 0 0 false []]]]
theorem par_1 (W : World) : Calls Tryz.prog 19 #[.string (b8 [97, 124, 98, 99, 42])] W (PaPost W 0 tA1) := parse_good [97, 124, 98, 99, 42] tA1 0 (by decide) (by kernel_rfl) (by kernel_rfl) (by kernel_rfl) (by decide) (by kernel_rfl) W
def tA2 : Tree := .mk 3 [] 0 0 false [.mk 6 [] 0 0 false [.mk 4 [] 0 0 false [.mk 2 [(97, 97)] 0 0 false [], .mk 1 [] 0 0 false []]], .mk 5 [] 2 (3) true [.mk 2 [(120, 120)] 0 0 false []]]
theorem par_2 (W : World) : Calls Tryz.prog 19 #[.string (b8 [40, 97, 124, 41, 120, 123, 50, 44, 51, 125, 63])] W (PaPost W 0 tA2) := parse_good [40, 97, 124, 41, 120, 123, 50, 44, 51, 125, 63] tA2 0 (by decide) (by kernel_rfl) (by kernel_rfl) (by kernel_rfl) (by decide) (by kernel_rfl) W
def tA3 : Tree := .mk 5 [] 0 (-1) false [.mk 6 [] 0 0 false [.mk 5 [] 0 (-1) false [.mk 2 [(97, 97)] 0 0 false []]]]
theorem par_3 (W : World) : Calls Tryz.prog 19 #[.string (b8 [40, 97, 42, 41, 42])] W (PaPost W 71 tA3) := parse_good [40, 97, 42, 41, 42] tA3 71 (by decide) (by kernel_rfl) (by kernel_rfl) (by kernel_rfl) (by decide) (by kernel_rfl) W
def tA4 : Tree := .mk 5 [] 0 (2) false [.mk 6 [] 0 0 false [.mk 4 [] 0 0 false [.mk 2 [(97, 97)] 0 0 false [], .mk 1 [] 0 0 false []]]]
theorem par_4 (W : World) : Calls Tryz.prog 19 #[.string (b8 [40, 97, 124, 41, 123, 48, 44, 50, 125])] W (PaPost W 71 tA4) := parse_good [40, 97, 124, 41, 123, 48, 44, 50, 125] tA4 71 (by decide) (by kernel_rfl) (by kernel_rfl) (by kernel_rfl) (by decide) (by kernel_rfl) W
def tAQ0 : Tree := .mk 3 [] 0 0 false [.mk 3 [] 0 0 false [.mk 2 [(97, 97)] 0 0 false [], .mk 2 [(98, 98)] 0 0 false []], .mk 2 [(99, 99)] 0 0 false []]
theorem par_Q0 (W : World) : Calls Tryz.prog 19 #[.string (b8 [40, 63, 58, 97, 98, 41, 99])] W (PaPost W 0 tAQ0) := parse_good [40, 63, 58, 97, 98, 41, 99] tAQ0 0 (by decide) (by kernel_rfl) (by kernel_rfl) (by kernel_rfl) (by decide) (by kernel_rfl) W
def tAQ1 : Tree := .mk 3 [] 0 0 false [.mk 2 [(97, 97)] 0 0 false [], .mk 2 [(98, 98)] 0 0 false []]
theorem par_Q1 (W : World) : Calls Tryz.prog 19 #[.string (b8 [40, 63, 58, 97, 41, 98])] W (PaPost W 0 tAQ1) := parse_good [40, 63, 58, 97, 41, 98] tAQ1 0 (by decide) (by kernel_rfl) (by kernel_rfl) (by kernel_rfl) (by decide) (by kernel_rfl) W
def tAQ2 : Tree := .mk 5 [] 1 (-1) false [.mk 2 [(97, 97)] 0 0 false []]
theorem par_Q2 (W : World) : Calls Tryz.prog 19 #[.string (b8 [97, 123, 49, 44, 125])] W (PaPost W 0 tAQ2) := parse_good [97, 123, 49, 44, 125] tAQ2 0 (by decide) (by kernel_rfl) (by kernel_rfl) (by kernel_rfl) (by decide) (by kernel_rfl) W
def tAQ3 : Tree := .mk 5 [] 2 (2) false [.mk 2 [(48, 57)] 0 0 false []]
theorem par_Q3 (W : World) : Calls Tryz.prog 19 #[.string (b8 [92, 100, 123, 50, 44, 50, 125])] W (PaPost W 0 tAQ3) := parse_good [92, 100, 123, 50, 44, 50, 125] tAQ3 0 (by decide) (by kernel_rfl) (by kernel_rfl) (by kernel_rfl) (by decide) (by kernel_rfl) W
def tAQ4 : Tree := .mk 5 [] 0 (1) true [.mk 4 [] 0 0 false [.mk 2 [(97, 97)] 0 0 false [], .mk 2 [(98, 98)] 0 0 false []]]
theorem par_Q4 (W : World) : Calls Tryz.prog 19 #[.string (b8 [40, 63, 58, 97, 124, 98, 41, 63, 63])] W (PaPost W 0 tAQ4) := parse_good [40, 63, 58, 97, 124, 98, 41, 63, 63] tAQ4 0 (by decide) (by kernel_rfl) (by kernel_rfl) (by kernel_rfl) (by decide) (by kernel_rfl) W
def tAQ5 : Tree := .mk 5 [] 0 (1) false [.mk 6 [] 0 0 false [.mk 5 [] 0 (-1) false [.mk 2 [(97, 97)] 0 0 false []]]]
theorem par_Q5 (W : World) : Calls Tryz.prog 19 #[.string (b8 [40, 97, 42, 41, 63])] W (PaPost W 0 tAQ5) := parse_good [40, 97, 42, 41, 63] tAQ5 0 (by decide) (by kernel_rfl) (by kernel_rfl) (by kernel_rfl) (by decide) (by kernel_rfl) W
def badB (l : Bs) : Bool := match patF (fuelOf l) l with
  | none => true
  | some (_, r) => !r.isEmpty
theorem parse_bad2 (l : Bs) (hl : l.length ≤ 1024) (ho : okB l = true) (hb : badB l = true) (t : Tree) (W : World) : Calls Tryz.prog 19 #[.string (b8 l)] W (PaPost W 70 t) := by
  refine parse_bad l hl ho ?_ t W
  unfold badB at hb
  cases hq : patF (fuelOf l) l with
  | none => rfl
  | some x => rw [hq] at hb; exact hb
def bads : List Bs := [[40], [97, 41], [97, 42, 42], [97, 123, 49], [97, 123, 48, 49, 125], [97, 123, 50, 44, 49, 125], [94, 97], [40, 63, 105, 41, 97], [93]]
theorem bad_0 (W : World) : Calls Tryz.prog 19 #[.string (b8 [40])] W (PaPost W 70 eT) := parse_bad2 [40] (by decide) (by kernel_rfl) (by kernel_rfl) eT W
theorem bad_1 (W : World) : Calls Tryz.prog 19 #[.string (b8 [97, 41])] W (PaPost W 70 eT) := parse_bad2 [97, 41] (by decide) (by kernel_rfl) (by kernel_rfl) eT W
theorem bad_2 (W : World) : Calls Tryz.prog 19 #[.string (b8 [97, 42, 42])] W (PaPost W 70 eT) := parse_bad2 [97, 42, 42] (by decide) (by kernel_rfl) (by kernel_rfl) eT W
theorem bad_3 (W : World) : Calls Tryz.prog 19 #[.string (b8 [97, 123, 49])] W (PaPost W 70 eT) := parse_bad2 [97, 123, 49] (by decide) (by kernel_rfl) (by kernel_rfl) eT W
theorem bad_4 (W : World) : Calls Tryz.prog 19 #[.string (b8 [97, 123, 48, 49, 125])] W (PaPost W 70 eT) := parse_bad2 [97, 123, 48, 49, 125] (by decide) (by kernel_rfl) (by kernel_rfl) eT W
theorem bad_5 (W : World) : Calls Tryz.prog 19 #[.string (b8 [97, 123, 50, 44, 49, 125])] W (PaPost W 70 eT) := parse_bad2 [97, 123, 50, 44, 49, 125] (by decide) (by kernel_rfl) (by kernel_rfl) eT W
theorem bad_6 (W : World) : Calls Tryz.prog 19 #[.string (b8 [94, 97])] W (PaPost W 70 eT) := parse_bad2 [94, 97] (by decide) (by kernel_rfl) (by kernel_rfl) eT W
theorem bad_7 (W : World) : Calls Tryz.prog 19 #[.string (b8 [40, 63, 105, 41, 97])] W (PaPost W 70 eT) := parse_bad2 [40, 63, 105, 41, 97] (by decide) (by kernel_rfl) (by kernel_rfl) eT W
theorem bad_8 (W : World) : Calls Tryz.prog 19 #[.string (b8 [93])] W (PaPost W 70 eT) := parse_bad2 [93] (by decide) (by kernel_rfl) (by kernel_rfl) eT W
theorem bads_all : ∀ l ∈ bads, ∀ W, Calls Tryz.prog 19 #[.string (b8 l)] W (PaPost W 70 eT) := by
  intro l hl
  unfold bads at hl
  simp only [List.mem_cons, List.mem_nil_iff, or_false] at hl
  rcases hl with rfl | rfl | rfl | rfl | rfl | rfl | rfl | rfl | rfl
  · exact bad_0
  · exact bad_1
  · exact bad_2
  · exact bad_3
  · exact bad_4
  · exact bad_5
  · exact bad_6
  · exact bad_7
  · exact bad_8
theorem setC_a (c : Int) (h : 97 ≤ c ∧ c ≤ 122) : SetC [(c, c)] := by
  have hx : 33 ≤ c ∧ c ≤ 126 := by omega
  have hcs : ∀ n : Nat, n < 26 → noAt.contains (UInt8.ofNat (97 + n)) = false ∧ plainP ((97 + n : Nat) : Int) = true ∧ rgtR 0 [(((97 + n : Nat) : Int), ((97 + n : Nat) : Int))] = true := by decide
  obtain ⟨h1, h2, h3⟩ := hcs (c.toNat - 97) (by omega)
  have e : 97 + (c.toNat - 97) = c.toNat := by omega
  have e2 : ((c.toNat : Nat) : Int) = c := by omega
  rw [e] at h1 h2 h3
  rw [e2] at h2 h3
  exact sett_one c hx h1 h3 (by intro r hr; rw [List.mem_singleton] at hr; subst hr; exact ⟨ptC_plain c h2, ptC_plain c h2⟩)
theorem setC_d : SetC [(48, 57)] := sett_two 48 57 (by decide) (by intro r hr; rw [List.mem_singleton] at hr; subst hr; exact ⟨ptC_plain 48 (by decide), ptC_plain 57 (by decide)⟩) (by decide)
/-- A pattern that is read, and written. -/
structure Pat (l s : Bs) (t : Tree) : Prop where
  par : ∀ W, Calls Tryz.prog 19 #[.string (b8 l)] W (PaPost W 0 t)
  txt : ∀ v W, NodeV W t v → Calls Tryz.prog 18 #[v] W fun e w' => e = .returned (.tuple #[.string (b8 s), .int .i64 0]) ∧ Kept W w'
theorem pat_of (l s : Bs) (t : Tree) (h1 : ∀ W, Calls Tryz.prog 19 #[.string (b8 l)] W (PaPost W 0 t)) (hr : rgtT t = true) (hd : (factsT t).depth ≤ 1000000) (hx : TxtOk t) (hs : textT t = s) (hl : s.length ≤ 1024) (hne : s ≠ []) : Pat l s t :=
  ⟨h1, fun v W hv => by
    have := text_any t v W hv hr hd hx (by rw [hs]; exact hl) (by rw [hs]; exact hne)
    rw [hs] at this
    exact this⟩
theorem pat_0 : Pat [40, 63, 58, 97, 98, 41, 99] [40, 63, 58, 97, 98, 41, 99] tAQ0 := pat_of _ _ _ par_Q0 (by kernel_rfl) (by decide) (by
  unfold tAQ0
  simp only [TxtOk, TxtsOk]
  repeat' (first | exact trivial | refine ⟨?_, ?_⟩ | (intro h; first | exact absurd h (by decide) | exact setC_a _ (by decide) | exact setC_d | exact ⟨by decide, by decide⟩))) (by kernel_rfl) (by decide) (by decide)
theorem pat_1 : Pat [40, 63, 58, 97, 41, 98] [97, 98] tAQ1 := pat_of _ _ _ par_Q1 (by kernel_rfl) (by decide) (by
  unfold tAQ1
  simp only [TxtOk, TxtsOk]
  repeat' (first | exact trivial | refine ⟨?_, ?_⟩ | (intro h; first | exact absurd h (by decide) | exact setC_a _ (by decide) | exact setC_d | exact ⟨by decide, by decide⟩))) (by kernel_rfl) (by decide) (by decide)
theorem pat_2 : Pat [97, 123, 49, 44, 125] [97, 43] tAQ2 := pat_of _ _ _ par_Q2 (by kernel_rfl) (by decide) (by
  unfold tAQ2
  simp only [TxtOk, TxtsOk]
  repeat' (first | exact trivial | refine ⟨?_, ?_⟩ | (intro h; first | exact absurd h (by decide) | exact setC_a _ (by decide) | exact setC_d | exact ⟨by decide, by decide⟩))) (by kernel_rfl) (by decide) (by decide)
theorem pat_3 : Pat [92, 100, 123, 50, 44, 50, 125] [91, 48, 45, 57, 93, 123, 50, 125] tAQ3 := pat_of _ _ _ par_Q3 (by kernel_rfl) (by decide) (by
  unfold tAQ3
  simp only [TxtOk, TxtsOk]
  repeat' (first | exact trivial | refine ⟨?_, ?_⟩ | (intro h; first | exact absurd h (by decide) | exact setC_a _ (by decide) | exact setC_d | exact ⟨by decide, by decide⟩))) (by kernel_rfl) (by decide) (by decide)
theorem pat_4 : Pat [40, 63, 58, 97, 124, 98, 41, 63, 63] [40, 63, 58, 97, 124, 98, 41, 63, 63] tAQ4 := pat_of _ _ _ par_Q4 (by kernel_rfl) (by decide) (by
  unfold tAQ4
  simp only [TxtOk, TxtsOk]
  repeat' (first | exact trivial | refine ⟨?_, ?_⟩ | (intro h; first | exact absurd h (by decide) | exact setC_a _ (by decide) | exact setC_d | exact ⟨by decide, by decide⟩))) (by kernel_rfl) (by decide) (by decide)
theorem pat_5 : Pat [40, 97, 42, 41, 63] [40, 97, 42, 41, 63] tAQ5 := pat_of _ _ _ par_Q5 (by kernel_rfl) (by decide) (by
  unfold tAQ5
  simp only [TxtOk, TxtsOk]
  repeat' (first | exact trivial | refine ⟨?_, ?_⟩ | (intro h; first | exact absurd h (by decide) | exact setC_a _ (by decide) | exact setC_d | exact ⟨by decide, by decide⟩))) (by kernel_rfl) (by decide) (by decide)
def pats : List (Bs × Bs × Tree) := [([40, 63, 58, 97, 98, 41, 99], [40, 63, 58, 97, 98, 41, 99], tAQ0), ([40, 63, 58, 97, 41, 98], [97, 98], tAQ1), ([97, 123, 49, 44, 125], [97, 43], tAQ2), ([92, 100, 123, 50, 44, 50, 125], [91, 48, 45, 57, 93, 123, 50, 125], tAQ3), ([40, 63, 58, 97, 124, 98, 41, 63, 63], [40, 63, 58, 97, 124, 98, 41, 63, 63], tAQ4), ([40, 97, 42, 41, 63], [40, 97, 42, 41, 63], tAQ5)]
theorem pats_all : ∀ x ∈ pats, Pat x.1 x.2.1 x.2.2 := by
  intro x hx
  unfold pats at hx
  simp only [List.mem_cons, List.mem_nil_iff, or_false] at hx
  rcases hx with rfl | rfl | rfl | rfl | rfl | rfl
  · exact pat_0
  · exact pat_1
  · exact pat_2
  · exact pat_3
  · exact pat_4
  · exact pat_5
theorem len_1 (v : Value) (w : World) (hv : NodeV w tA1 v) : Calls Tryz.prog 23 #[v] w fun e w' => e = .returned (.tuple #[.int .i64 1, .int .i64 (-1), .int .i64 0]) ∧ Kept w w' := by
  have h := lengths_any tA1 v w hv (by decide)
  rw [show rgtT tA1 = true from by kernel_rfl, show (factsT tA1).least = 1 from by kernel_rfl, show (factsT tA1).endless = true from by kernel_rfl] at h
  exact h
theorem len_2 (v : Value) (w : World) (hv : NodeV w tA2 v) : Calls Tryz.prog 23 #[v] w fun e w' => e = .returned (.tuple #[.int .i64 2, .int .i64 4, .int .i64 0]) ∧ Kept w w' := by
  have h := lengths_any tA2 v w hv (by decide)
  rw [show rgtT tA2 = true from by kernel_rfl, show (factsT tA2).least = 2 from by kernel_rfl, show (factsT tA2).endless = false from by kernel_rfl, show (factsT tA2).most = 4 from by kernel_rfl] at h
  exact h
theorem paPost_nd {W : World} {k mn mx : Int} {set : List Rng} {lz : Bool} {subs : List Tree} {e : Ending} {w' : World} (h : PaPost W 0 (.mk k set mn mx lz subs) e w') : Kept W w' ∧ ∃ A1 c1 A2 c2, e = .returned (.tuple #[.agg #[.int .u8 k, .slice A1 set.length c1, .int .i64 mn, .int .i64 mx, .bool lz, .slice A2 subs.length c2], .int .i64 0]) ∧ NodeC w' (.mk k set mn mx lz subs) [.int .u8 k, .slice A1 set.length c1, .int .i64 mn, .int .i64 mx, .bool lz, .slice A2 subs.length c2] := by
  unfold PaPost at h
  obtain ⟨hk, k', A1, sn, c1, mn', mx', lz', A2, un, c2, rfl, hn⟩ := h
  obtain ⟨B1, d1, B2, d2, hv, hc⟩ := (hn rfl).un.nd
  refine ⟨hk, B1, d1, B2, d2, ?_, hc⟩
  rw [hv]
end Go.Proofs.YtmgkdmbifecekaaGreatDoor
