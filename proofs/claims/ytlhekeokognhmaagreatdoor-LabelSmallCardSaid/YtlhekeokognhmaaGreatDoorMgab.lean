/-
  What the rows' list gives: the table's block holds its numbers. And a world in which it does. The last step of every law's row: the call has answered true, and nothing that was there has turned. Sorted labels: what finds, puts and merges of them are.
-/
import Derived.Test.YtlhekeokognhmaaGreatDoorCards
import Derived.Test.YtlhekeokognhmaaGreatDoorTie
import Derived.Test.YtlhekeokognhmaaGreatDoorMgaa
import Derived.WalkKit
import Derived.ProofKit
import Derived.OpenShut
import Derived.Deep.DeepHandedRow
import Derived.Lib.LaidTab
import Derived.Below
import Derived.ChangeSame
import Derived.Carry
import Derived.Sort.EncStr
namespace Go.Proofs.YtlhekeokognhmaaGreatDoor
open Go.ChangeShapes Go.WideShapes Go.ChangeAt Go.RowKit

theorem gOwn : ownKnob Tryz.prog.godebug = none := by kernel_rfl
theorem gTab : Tryz.prog.globalNamed "gauger/utf.beginnings" = some 1 := by kernel_rfl
theorem gTabType : (Tryz.prog.globals[1]?).map (·.type) = some 166 := by kernel_rfl
theorem cellsB : Tryz.prog.cellsOf 152 = 6 := by kernel_rfl
theorem cellsA : Tryz.prog.cellsOf 166 = 54 := by kernel_rfl
theorem cells1 : Tryz.prog.cellsOf 5 = 1 := by kernel_rfl
theorem cells2 : Tryz.prog.cellsOf 3 = 1 := by kernel_rfl

section
variable {H : Type} {enc : TypeId × Value → H} {w : World} {base : Nat} {sp : Nat → Bool} {held : Bool}
theorem fst_get {α β : Type} {xs : List (α × β)} {l : List α} (h : xs.map (·.1) = l) (i : Nat) {b : α × β} (hb : xs[i]? = some b) : l[i]? = some b.1 := by
  rw [← h, List.getElem?_map, hb]; rfl
theorem int_cell {fuel : Nat} {t : TypeId} {k : IntKind} {v : Value} {n : Int} {b : DataW H × List MemPlace} (ht : Tryz.prog.underlying t = some (.int k)) (h : DataW.trod enc Tryz.prog w base sp held fuel t [v] = some b) (hb : some (DataW.lit (.int k n)) = some b.1) : v = .int k n := by
  obtain ⟨m, h1, rfl, _⟩ := DataW.trod_int ht h
  simp only [Option.some.injEq, DataW.lit.injEq, Lit.int.injEq, true_and] at hb
  subst hb
  exact List.head_eq_of_cons_eq h1
theorem len6 : ∀ cs : List Value, cs.length = 6 → ∃ v0 v1 v2 v3 v4 v5, cs = [v0, v1, v2, v3, v4, v5]
  | [v0, v1, v2, v3, v4, v5], _ => ⟨v0, v1, v2, v3, v4, v5, rfl⟩
/-- A row of the table. -/
theorem row_cells {fuel : Nat} {cs : List Value} {x : DataW H × List MemPlace} (h : DataW.trod enc Tryz.prog w base sp held fuel 152 cs = some x) {a b c d e f : Int}
    (hx : x.1 = .agg [.lit (.int .u8 a), .lit (.int .u8 b), .lit (.int .u8 c), .lit (.int .u8 d), .lit (.int .u8 e), .lit (.int .i64 f)]) : cs = [.int .u8 a, .int .u8 b, .int .u8 c, .int .u8 d, .int .u8 e, .int .i64 f] := by
  cases fuel with
  | zero => simp [DataW.trod] at h
  | succ fuel =>
    simp only [DataW.trod, Tryz.underlying152, cellsB] at h
    split at h
    · rename_i hl
      obtain ⟨v0, v1, v2, v3, v4, v5, rfl⟩ : ∃ v0 v1 v2 v3 v4 v5, cs = [v0, v1, v2, v3, v4, v5] := by
        exact len6 cs (by simpa using hl)
      obtain ⟨xs, hm, rfl⟩ := Option.map_eq_some_iff.1 h
      have hxs := (DataW.agg.injEq _ _).mp hx
      obtain ⟨b0, g0, k0⟩ := Lib.mapM_at hm 0 _ rfl
      obtain ⟨b1, g1, k1⟩ := Lib.mapM_at hm 1 _ rfl
      obtain ⟨b2, g2, k2⟩ := Lib.mapM_at hm 2 _ rfl
      obtain ⟨b3, g3, k3⟩ := Lib.mapM_at hm 3 _ rfl
      obtain ⟨b4, g4, k4⟩ := Lib.mapM_at hm 4 _ rfl
      obtain ⟨b5, g5, k5⟩ := Lib.mapM_at hm 5 _ rfl
      simp only [cells1, cells2] at k0 k1 k2 k3 k4 k5
      rw [int_cell Tryz.underlying5 k0 (fst_get hxs 0 g0), int_cell Tryz.underlying5 k1 (fst_get hxs 1 g1), int_cell Tryz.underlying5 k2 (fst_get hxs 2 g2), int_cell Tryz.underlying5 k3 (fst_get hxs 3 g3), int_cell Tryz.underlying5 k4 (fst_get hxs 4 g4), int_cell Tryz.underlying3 k5 (fst_get hxs 5 g5)]
    · cases h
end
theorem chunks (m : Nat) (n : Nat) (cs : List Value) (h : cs.length = n * m) : ((List.range n).map fun i => (cs.drop (i * m)).take m).flatten = cs := by
  induction n generalizing cs with
  | zero =>
    rw [Nat.zero_mul] at h
    rw [List.eq_nil_of_length_eq_zero h]
    rfl
  | succ n ih =>
    rw [List.range_succ_eq_map, List.map_cons, List.map_map, List.flatten_cons]
    have := ih (cs.drop m) (by rw [List.length_drop, h, Nat.succ_mul]; omega)
    rw [show (List.map ((fun i => (cs.drop (i * m)).take m) ∘ Nat.succ) (List.range n)) = List.map (fun i => ((cs.drop m).drop (i * m)).take m) (List.range n) from List.map_congr_left fun i _ => by
      show (cs.drop ((i + 1) * m)).take m = _
      rw [List.drop_drop, Nat.succ_mul, Nat.add_comm m], this, Nat.zero_mul, List.drop_zero, List.take_append_drop]

/-- WHAT THE ROW's LIST GIVES. -/
theorem tab_of_laid {W : World} (h : laidMet Tryz.prog [("gauger/utf.beginnings", Rows.laid_gauger_utf_beginnings)] W) : Tab W := by
  obtain ⟨ps, ⟨g', t', cs, fuel, p, q, hg', ht', hvar, hd, _, _⟩, _⟩ := h
  obtain rfl := Option.some.inj (gTab.symm.trans hg')
  obtain rfl := Option.some.inj (gTabType.symm.trans ht')
  have hcs : cs.toList = tabV.toList := by
    cases fuel with
    | zero => simp [DataW.trod] at hd
    | succ fuel =>
      simp only [DataW.trod, Tryz.underlying166, cellsB, cellsA] at hd
      split at hd
      · rename_i hl
        obtain ⟨xs, hm, hx⟩ := Option.map_eq_some_iff.1 hd
        have hxs := (DataW.agg.injEq _ _).mp (congrArg Prod.fst hx)
        rw [← chunks 6 9 cs.toList hl]
        have hk : ∀ k, k < 9 → (cs.toList.drop (k * 6)).take 6 = (entV k).toList := by
          intro k hk
          obtain ⟨b, g, kk⟩ := Lib.mapM_at hm k k (by simp [hk])
          have hb := fst_get hxs k g
          rcases (by omega : k = 0 ∨ k = 1 ∨ k = 2 ∨ k = 3 ∨ k = 4 ∨ k = 5 ∨ k = 6 ∨ k = 7 ∨ k = 8) with rfl | rfl | rfl | rfl | rfl | rfl | rfl | rfl | rfl <;>
            exact row_cells kk (Option.some.inj hb).symm
        rw [show tabV.toList = ((List.range 9).map fun k => (entV k).toList).flatten from rfl, List.map_congr_left (fun i hi => hk i (by simpa using hi))]
      · cases hd
  obtain rfl : cs = tabV := Array.toList_inj.1 hcs
  simp only [World.var?, gTab, Option.bind_some] at hvar
  split at hvar
  · rename_i c t fr heq
    obtain rfl := Option.some.inj hvar
    exact ⟨t, fr, heq⟩
  · cases hvar
end Go.Proofs.YtlhekeokognhmaaGreatDoor
namespace Go.Proofs.YtlhekeokognhmaaGreatDoor
open Go.RowKit Go.WideShapes Go.ChangeShapes

theorem laidOut : laidOutB Tryz.prog = true := by kernel_rfl
section
variable {H : Type} {enc : TypeId × Value → H}
/-- What was read reads as it did. -/
theorem trodAll_stays {P : Program} {W W' : World} (hl : laidOutB P = true) (hb : Below W.heap.size W W') (sp : Nat → Bool) : ∀ {ts : List TypeId} {vs : List Value} {ds : List (DataW H)} {ps : List MemPlace},
    (∀ t ∈ ts, P.readableRec t = true ∧ t < P.types.size) → DataW.TrodAll enc P W 0 (fun _ => true) true ts vs ds ps → (∀ x ∈ ps, x.block < W.heap.size) → (∀ x ∈ ps, sp x.block = true) → DataW.TrodAll enc P W' 0 sp true ts vs ds ps
  | [], [], [], _, _, h, _, _ => h
  | t :: ts, v :: vs, d :: ds, ps, hts, h, hlt, hsp => by
    obtain ⟨p, q, h1, h2, rfl⟩ := h
    have ht := hts t (by simp)
    exact ⟨p, q, WideElems.Trod_stays hl ht.1 ht.2 h1 (fun x hx => hb.same (hlt x (by simp [hx]))) (fun x hx => hsp x (by simp [hx])),
      trodAll_stays hl hb sp (fun t ht => hts t (by simp [ht])) h2 (fun x hx => hlt x (by simp [hx])) (fun x hx => hsp x (by simp [hx])), rfl⟩
  | [], _ :: _, _, _, _, h, _, _ => h.elim
  | [], [], _ :: _, _, _, h, _, _ => h.elim
  | _ :: _, [], _, _, _, h, _, _ => h.elim
  | _ :: _, _ :: _, [], _, _, h, _, _ => h.elim

/-- THE LAST STEP. -/
theorem law_post {f : Func} {s : ChangeSpec} {W W' : World} {args : Array Value} {ds : List (DataW H)} {before : List MemPlace} (hrt : f.resultTypes = #[4]) (hsv : s.vars = [])
    (hts : ∀ t ∈ f.params.toList, Tryz.prog.readableRec t = true ∧ t < Tryz.prog.types.size)
    (hW : DataW.Whole enc Tryz.prog f.params.toList s.vars false W args.toList ds [] before) (hfn : s.fn H (ds ++ []) = { results := [.lit (.bool true)], args := ds })
    (hb : Below W.heap.size W W') : s.post enc Tryz.prog f false true false false W args (.bool true) W' := by
  have hlt : ∀ p ∈ before, p.block < W.heap.size := fun p hp => hW.lt p hp
  obtain ⟨p, q, hA, hV, rfl, hfz, hnd⟩ := hW
  have hW : DataW.Whole enc Tryz.prog f.params.toList s.vars false W args.toList ds [] (p ++ q) := ⟨p, q, hA, hV, rfl, hfz, hnd⟩
  rw [hsv] at hV
  obtain rfl : q = [] := hV
  refine ⟨ds, [], p ++ [], [], p, [], hW, ?_, ?_, ?_, World.keptBut_mono (fun x hx => ⟨hx, Or.inr (by simpa using hx)⟩) (hb.frame (· ∈ p ++ [])), fun h => by cases h⟩
  · rw [hfn, hrt]
    exact trodAll_cons_mk (shut_bool Tryz.underlying4 _) trodAll_mk0
  · rw [hfn]
    exact trodAll_stays laidOut hb _ hts hA (fun x hx => hlt x (by simp [hx])) (fun x hx => by simpa using hlt x (by simp [hx]))
  · rw [hfn, hsv]
    rfl
end
end Go.Proofs.YtlhekeokognhmaaGreatDoor
namespace Go.Proofs.YtlhekeokognhmaaGreatDoor
/-- A string's bytes; a label: its name and its value. -/
abbrev Str := List UInt8
abbrev Lb := Str × Str
/-- The value of the first label with a name. -/
def find : List Lb → Str → Option Str
  | [], _ => none
  | x :: l, k => if x.1 = k then some x.2 else find l k
/-- Labels in order, each name once. -/
def Srt (l : List Lb) : Prop := l.Pairwise fun a b => a.1 < b.1
theorem str_lt_irrefl (a : Str) : ¬ a < a := List.lt_irrefl a
theorem str_lt_trans {a b c : Str} (h : a < b) (k : b < c) : a < c := List.lt_trans h k
theorem str_tri (a b : Str) : a < b ∨ a = b ∨ b < a := by
  rcases List.le_total a b with h | h
  · by_cases e : b ≤ a
    · exact .inr (.inl (List.le_antisymm h e))
    · exact .inl (List.not_le.1 e)
  · by_cases e : a ≤ b
    · exact .inr (.inl (List.le_antisymm e h))
    · exact .inr (.inr (List.not_le.1 e))
theorem find_none_of_lt {l : List Lb} {k : Str} (h : ∀ y ∈ l, k < y.1) : find l k = none := by
  induction l with
  | nil => rfl
  | cons y l ih =>
    have hy := h y (List.mem_cons_self ..)
    unfold find
    rw [if_neg (fun e => str_lt_irrefl _ (e ▸ hy)), ih fun z hz => h z (List.mem_cons_of_mem _ hz)]
theorem find_mem {l : List Lb} {k v : Str} (h : find l k = some v) : (k, v) ∈ l := by
  induction l with
  | nil => cases h
  | cons y l ih =>
    unfold find at h
    split at h
    · rename_i e
      cases h
      rw [← e]
      exact List.mem_cons_self ..
    · exact List.mem_cons_of_mem _ (ih h)
theorem find_of_mem {l : List Lb} (hs : Srt l) {x : Lb} (h : x ∈ l) : find l x.1 = some x.2 := by
  induction l with
  | nil => cases h
  | cons y l ih =>
    have hp := List.pairwise_cons.1 hs
    unfold find
    rcases List.mem_cons.1 h with rfl | h
    · rw [if_pos rfl]
    · rw [if_neg (fun e => str_lt_irrefl y.1 (by have := hp.1 x h; rwa [← e] at this)), ih hp.2 h]
theorem find_isSome {l : List Lb} {k : Str} : (find l k).isSome = true ↔ k ∈ l.map (·.1) := by
  induction l with
  | nil => simp [find]
  | cons y l ih =>
    unfold find
    split
    · rename_i e
      simp [e]
    · rename_i e
      rw [ih]
      simp [Ne.symm e]
/-- Sorted labels are what is found in them. -/
theorem srt_ext : ∀ {l m : List Lb}, Srt l → Srt m → (∀ k, find l k = find m k) → l = m
  | [], [], _, _, _ => rfl
  | [], y :: m, _, _, h => by have := h y.1; simp [find] at this
  | x :: l, [], _, _, h => by have := h x.1; simp [find] at this
  | x :: l, y :: m, hl, hm, h => by
    have hl' := List.pairwise_cons.1 hl
    have hm' := List.pairwise_cons.1 hm
    have e : x.1 = y.1 := by
      rcases str_tri x.1 y.1 with g | g | g
      · have := h x.1
        rw [show find (x :: l) x.1 = some x.2 from by simp [find], show find (y :: m) x.1 = none from find_none_of_lt fun z hz => by
          rcases List.mem_cons.1 hz with rfl | hz
          · exact g
          · exact str_lt_trans g (hm'.1 z hz)] at this
        cases this
      · exact g
      · have := h y.1
        rw [show find (y :: m) y.1 = some y.2 from by simp [find], show find (x :: l) y.1 = none from find_none_of_lt fun z hz => by
          rcases List.mem_cons.1 hz with rfl | hz
          · exact g
          · exact str_lt_trans g (hl'.1 z hz)] at this
        cases this
    have e2 : x.2 = y.2 := by
      have := h x.1
      rw [show find (x :: l) x.1 = some x.2 from by simp [find], e, show find (y :: m) y.1 = some y.2 from by simp [find]] at this
      exact Option.some.inj this
    have : x = y := Prod.ext e e2
    subst this
    congr 1
    refine srt_ext hl'.2 hm'.2 fun k => ?_
    have := h k
    unfold find at this
    by_cases g : x.1 = k
    · subst g
      rw [find_none_of_lt hl'.1, find_none_of_lt hm'.1]
    · rwa [if_neg g, if_neg g] at this
/-- To give a name a value in labels that are in order; an empty one takes the label away. -/
def rputA : Bool → Lb → List Lb → List Lb
  | there, x, [] => if there then [] else [x]
  | there, x, y :: l => (if there = false ∧ ¬ y.1 < x.1 then [x] else []) ++ ((if y.1 ≠ x.1 then [y] else []) ++ rputA (there || !decide (y.1 < x.1)) x l)
def rput (l : List Lb) (x : Lb) : List Lb := rputA (decide (x.2 = [])) x l
def puts (m l : List Lb) : List Lb := l.foldl rput m
theorem puts_nil (m : List Lb) : puts m [] = m := rfl
theorem puts_cons (m : List Lb) (x : Lb) (l : List Lb) : puts m (x :: l) = puts (rput m x) l := rfl
theorem puts_snoc (m l : List Lb) (x : Lb) : puts m (l ++ [x]) = rput (puts m l) x := by simp [puts]
theorem puts_app (m a b : List Lb) : puts m (a ++ b) = puts (puts m a) b := by simp [puts]
/-- What is found behind a put. -/
def upd (f : Str → Option Str) (x : Lb) : Str → Option Str := fun k => if x.1 = k then (if x.2 = [] then none else some x.2) else f k
theorem rputA_true (x : Lb) : ∀ l, rputA true x l = l.filter fun y => decide (y.1 ≠ x.1)
  | [] => rfl
  | y :: l => by
    unfold rputA
    rw [if_neg (by simp), Bool.true_or, rputA_true x l, List.nil_append]
    by_cases h : y.1 = x.1
    · rw [if_neg (by simpa using h), List.filter_cons_of_neg (by simpa using h), List.nil_append]
    · rw [if_pos h, List.filter_cons_of_pos (by simpa using h)]
      rfl
theorem find_filter (l : List Lb) (p : Lb → Bool) (q : Str → Bool) (hp : ∀ y ∈ l, p y = q y.1) (k : Str) : find (l.filter p) k = if q k then find l k else none := by
  induction l with
  | nil => simp [find]
  | cons y l ih =>
    have ih := ih fun z hz => hp z (List.mem_cons_of_mem _ hz)
    have hy := hp y (List.mem_cons_self ..)
    by_cases h : p y = true
    · rw [List.filter_cons_of_pos h]
      unfold find
      by_cases e : y.1 = k
      · rw [if_pos e, if_pos e, if_pos (by rw [← e, ← hy]; exact h)]
      · rw [if_neg e, if_neg e, ih]
    · rw [List.filter_cons_of_neg h, ih]
      by_cases e : y.1 = k
      · rw [if_neg (by rw [← e, ← hy]; exact h), if_neg (by rw [← e, ← hy]; exact h)]
      · conv => rhs; unfold find
        rw [if_neg e]
theorem srt_filter {l : List Lb} (h : Srt l) (p : Lb → Bool) : Srt (l.filter p) := h.filter p
theorem rputA_mem {x : Lb} : ∀ {b : Bool} {l : List Lb} {z : Lb}, z ∈ rputA b x l → z = x ∨ z ∈ l
  | b, [], z, h => by
    unfold rputA at h
    split at h
    · cases h
    · exact .inl (List.mem_singleton.1 h)
  | b, y :: l, z, h => by
    unfold rputA at h
    rcases List.mem_append.1 h with h | h
    · split at h
      · exact .inl (List.mem_singleton.1 h)
      · cases h
    · rcases List.mem_append.1 h with h | h
      · split at h
        · exact .inr (by rw [List.mem_singleton.1 h]; exact List.mem_cons_self ..)
        · cases h
      · rcases rputA_mem h with h | h
        · exact .inl h
        · exact .inr (List.mem_cons_of_mem _ h)
theorem rputA_srt {x : Lb} : ∀ {b : Bool} {l : List Lb}, Srt l → (b = true ∨ True) → Srt (rputA b x l)
  | true, l, h, _ => by rw [rputA_true]; exact srt_filter h _
  | false, [], _, _ => by
    unfold rputA
    exact List.pairwise_singleton ..
  | false, y :: l, h, _ => by
    have h' := List.pairwise_cons.1 h
    unfold rputA
    by_cases g : y.1 < x.1
    · rw [if_neg (by simp [g]), if_pos (fun e => str_lt_irrefl _ (by rw [e] at g; exact g)), List.nil_append, show (false || !decide (y.1 < x.1)) = false from by simp [g]]
      refine List.pairwise_cons.2 ⟨fun z hz => ?_, rputA_srt h'.2 (.inr trivial)⟩
      rcases rputA_mem hz with rfl | hz
      · exact g
      · exact h'.1 z hz
    · rw [if_pos ⟨rfl, g⟩, show (false || !decide (y.1 < x.1)) = true from by simp [g], rputA_true]
      have hx : ∀ z ∈ l, x.1 < z.1 := fun z hz => by
        rcases str_tri x.1 y.1 with k | k | k
        · exact str_lt_trans k (h'.1 z hz)
        · rw [k]; exact h'.1 z hz
        · exact absurd k g
      show Srt (x :: ((if y.1 ≠ x.1 then [y] else []) ++ l.filter fun y => decide (y.1 ≠ x.1)))
      refine List.pairwise_cons.2 ⟨fun z hz => ?_, ?_⟩
      · rcases List.mem_append.1 hz with hz | hz
        · split at hz
          · rename_i hne
            rw [List.mem_singleton.1 hz]
            rcases str_tri x.1 y.1 with k | k | k
            · exact k
            · exact absurd k.symm hne
            · exact absurd k g
          · cases hz
        · exact hx z (List.mem_filter.1 hz).1
      · split
        · exact List.pairwise_cons.2 ⟨fun z hz => h'.1 z (List.mem_filter.1 hz).1, srt_filter h'.2 _⟩
        · exact srt_filter h'.2 _
theorem find_rputA {x : Lb} : ∀ {b : Bool} {l : List Lb}, Srt l → ∀ k, find (rputA b x l) k = if x.1 = k then (if b then none else some x.2) else find l k
  | true, l, h, k => by
    rw [rputA_true, find_filter l _ (fun k => decide (k ≠ x.1)) (fun _ _ => rfl)]
    by_cases e : x.1 = k
    · rw [if_neg (by simp [e]), if_pos e, if_pos rfl]
    · rw [if_pos (by simpa using Ne.symm e), if_neg e]
  | false, [], _, k => by
    unfold rputA
    simp [find]
  | false, y :: l, h, k => by
    have h' := List.pairwise_cons.1 h
    unfold rputA
    by_cases g : y.1 < x.1
    · have hne : y.1 ≠ x.1 := fun e => str_lt_irrefl _ (by rw [e] at g; exact g)
      rw [if_neg (by simp [g]), if_pos hne, List.nil_append, show (false || !decide (y.1 < x.1)) = false from by simp [g]]
      show find (y :: rputA false x l) k = _
      unfold find
      by_cases e : y.1 = k
      · rw [if_pos e, if_pos e, if_neg (fun e' => hne (e.trans e'.symm))]
      · rw [if_neg e, if_neg e, find_rputA h'.2 k]
    · rw [if_pos ⟨rfl, g⟩, show (false || !decide (y.1 < x.1)) = true from by simp [g]]
      show find (x :: ((if y.1 ≠ x.1 then [y] else []) ++ rputA true x l)) k = _
      rw [find.eq_2]
      by_cases e : x.1 = k
      · rw [if_pos e, if_pos e]
        rfl
      · rw [if_neg e, if_neg e]
        have hr := find_rputA (x := x) (b := true) h'.2 k
        rw [if_neg e] at hr
        by_cases e2 : y.1 = x.1
        · rw [if_neg (by simpa using e2), List.nil_append, hr, find.eq_2, if_neg (fun e3 => e (e2.symm.trans e3))]
        · rw [if_pos e2]
          show find (y :: rputA true x l) k = find (y :: l) k
          rw [find.eq_2, find.eq_2, hr]
theorem rput_srt {l : List Lb} (h : Srt l) (x : Lb) : Srt (rput l x) := rputA_srt h (.inr trivial)
theorem find_rput {l : List Lb} (h : Srt l) (x : Lb) (k : Str) : find (rput l x) k = upd (find l) x k := by
  unfold rput upd
  rw [find_rputA h]
  by_cases e : x.2 = [] <;> simp [e]
theorem puts_srt {m : List Lb} (h : Srt m) : ∀ l, Srt (puts m l)
  | [] => h
  | x :: l => puts_srt (rput_srt h x) l
def upds (f : Str → Option Str) (l : List Lb) : Str → Option Str := l.foldl upd f
theorem upds_snoc (f : Str → Option Str) (l : List Lb) (x : Lb) : upds f (l ++ [x]) = upd (upds f l) x := by simp [upds]
theorem upds_app (f : Str → Option Str) (a b : List Lb) : upds f (a ++ b) = upds (upds f a) b := by simp [upds]
theorem find_puts {m : List Lb} (h : Srt m) (l : List Lb) : find (puts m l) = upds (find m) l := by
  induction l generalizing m with
  | nil => rfl
  | cons x l ih =>
    rw [puts_cons, ih (rput_srt h x)]
    show _ = upds (upd (find m) x) l
    congr 1
    funext k
    exact find_rput h x k
theorem find_nil : find [] = fun _ => none := by funext k; rfl
/-- No label is empty. -/
def Full (l : List Lb) : Prop := ∀ x ∈ l, x.2 ≠ []
theorem upds_full {l : List Lb} (hs : Srt l) (hf : Full l) (f : Str → Option Str) (k : Str) : upds f l k = (find l k).or (f k) := by
  induction l generalizing f with
  | nil => simp [upds, find]
  | cons x l ih =>
    have hs' := List.pairwise_cons.1 hs
    show upds (upd f x) l k = _
    rw [ih hs'.2 (fun z hz => hf z (List.mem_cons_of_mem _ hz)), find.eq_2]
    unfold upd
    by_cases e : x.1 = k
    · rw [if_pos e, if_pos e, if_neg (hf x (List.mem_cons_self ..)), find_none_of_lt (fun y hy => by rw [← e]; exact hs'.1 y hy)]
      rfl
    · rw [if_neg e, if_neg e]
theorem puts_self {l : List Lb} (hs : Srt l) (hf : Full l) : puts [] l = l := by
  refine srt_ext (puts_srt List.Pairwise.nil l) hs fun k => ?_
  rw [find_puts List.Pairwise.nil, upds_full hs hf, find_nil]
  simp
theorem rput_full {l : List Lb} (h : Full l) (x : Lb) : Full (rput l x) := by
  intro z hz
  unfold rput at hz
  by_cases e : x.2 = []
  · rw [show decide (x.2 = []) = true from by simp [e], rputA_true] at hz
    exact h z (List.mem_filter.1 hz).1
  · rcases rputA_mem hz with rfl | hz
    · exact e
    · exact h z hz
theorem puts_full {m : List Lb} (h : Full m) : ∀ l, Full (puts m l)
  | [] => h
  | x :: l => puts_full (rput_full h x) l
/-- What holds of all labels that are put holds of what comes out. -/
theorem puts_all {p : Lb → Prop} {m l : List Lb} (hm : ∀ x ∈ m, p x) (hl : ∀ x ∈ l, p x) : ∀ x ∈ puts m l, p x := by
  induction l generalizing m with
  | nil => exact hm
  | cons y l ih =>
    refine ih (fun x hx => ?_) (fun x hx => hl x (List.mem_cons_of_mem _ hx))
    rcases rputA_mem hx with rfl | hx
    · exact hl _ (List.mem_cons_self ..)
    · exact hm x hx
end Go.Proofs.YtlhekeokognhmaaGreatDoor
