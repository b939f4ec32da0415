/-
  Plain mathematics on bytes and code points, used by the walks; no program is mentioned. What the small functions of package utf compute: Point, Size, tail, Pair, Split. Words on memory that the walks share: what a slice reads as, a block that is known whole, bytes as values. What Append of package utf computes, onto a slice of one's own. What begin of package utf computes: the first row of its table whose range of first bytes has the byte.
-/
import Derived.Test.YtlhekeokognhmaaGreatDoorProg
import Derived.WalkKit
import Derived.ProofKit
import Derived.Below
import Derived.Laws.OwnMore
import Derived.Deep.AppendLies
import Derived.Deep.Draws
import Derived.Laws.Rows
import Derived.Maps.AppendAt
import Derived.Lib.Hide
import Derived.Lib.Strings
import Derived.Lib.ConvBytes
import Derived.Laws.ResultCell
import Derived.Laws.CopyOwn
import Derived.Tactics
import Derived.Lib.LaidTab
namespace Go.Proofs.YtlhekeokognhmaaGreatDoor.Mt
/-- The number is a code point. -/
def isPt (x : Int) : Bool := decide (0 ≤ x ∧ x ≤ 1114111 ∧ (x < 55296 ∨ 57343 < x))
/-- How many bytes the form of a code point has. -/
def szP (x : Int) : Int := if x < 128 then 1 else if x < 2048 then 2 else if x < 65536 then 3 else 4
/-- The form of a code point, as numbers. -/
def form (x : Int) : List Int :=
  if x < 128 then [x] else if x < 2048 then [192 + x / 64, 128 + x % 64]
  else if x < 65536 then [224 + x / 4096, 128 + x / 64 % 64, 128 + x % 64]
  else [240 + x / 262144, 128 + x / 4096 % 64, 128 + x / 64 % 64, 128 + x % 64]
theorem form_length (x : Int) : ((form x).length : Int) = szP x := by
  unfold form szP; split; · simp
  split; · simp
  split <;> simp
theorem form_length' (x : Int) : (form x).length = (szP x).toNat := by have := form_length x; omega
theorem szP_bd (x : Int) : 1 ≤ szP x ∧ szP x ≤ 4 := by
  unfold szP
  split
  · omega
  · split
    · omega
    · split <;> omega
theorem szP_1 {x : Int} (h : x < 128) : szP x = 1 := by unfold szP; rw [if_pos h]
theorem szP_2 {x : Int} (h : ¬ x < 128) (h2 : x < 2048) : szP x = 2 := by unfold szP; rw [if_neg h, if_pos h2]
theorem szP_3 {x : Int} (h : ¬ x < 2048) (h2 : x < 65536) : szP x = 3 := by unfold szP; rw [if_neg (by omega), if_neg h, if_pos h2]
theorem szP_4 {x : Int} (h : ¬ x < 65536) : szP x = 4 := by unfold szP; rw [if_neg (by omega), if_neg (by omega), if_neg h]
theorem form_1 {x : Int} (h : x < 128) : form x = [x] := by unfold form; rw [if_pos h]
theorem form_2 {x : Int} (h : ¬ x < 128) (h2 : x < 2048) : form x = [192 + x / 64, 128 + x % 64] := by unfold form; rw [if_neg h, if_pos h2]
theorem form_3 {x : Int} (h : ¬ x < 2048) (h2 : x < 65536) : form x = [224 + x / 4096, 128 + x / 64 % 64, 128 + x % 64] := by unfold form; rw [if_neg (by omega), if_neg h, if_pos h2]
theorem form_4 {x : Int} (h : ¬ x < 65536) : form x = [240 + x / 262144, 128 + x / 4096 % 64, 128 + x / 64 % 64, 128 + x % 64] := by unfold form; rw [if_neg (by omega), if_neg (by omega), if_neg h]
/-- What Pair answers. -/
def okPair (h l : Int) : Bool := decide (55296 ≤ h ∧ h < 56320 ∧ 56320 ≤ l ∧ l ≤ 57343)
theorem isPt_mk {x : Int} (h : 0 ≤ x ∧ x ≤ 1114111 ∧ (x < 55296 ∨ 57343 < x)) : isPt x = true := by unfold isPt; exact decide_eq_true h
theorem isPt_not {x : Int} (h : ¬ (0 ≤ x ∧ x ≤ 1114111 ∧ (x < 55296 ∨ 57343 < x))) : isPt x = false := by unfold isPt; exact decide_eq_false h
theorem isPt_bd {x : Int} (h : isPt x = true) : 0 ≤ x ∧ x ≤ 1114111 ∧ (x < 55296 ∨ 57343 < x) := of_decide_eq_true h
/-- What forms with a first byte have in common: mark, low, high, size. -/
def lead (c : Int) : Option (Int × Int × Int × Int) :=
  if c ≤ 127 then some (0, 0, 0, 1) else if c ≤ 193 then none else if c ≤ 223 then some (192, 128, 191, 2)
  else if c ≤ 224 then some (224, 160, 191, 3) else if c ≤ 236 then some (224, 128, 191, 3) else if c ≤ 237 then some (224, 128, 159, 3) else if c ≤ 239 then some (224, 128, 191, 3)
  else if c ≤ 240 then some (240, 144, 191, 4) else if c ≤ 243 then some (240, 128, 191, 4) else if c ≤ 244 then some (240, 128, 143, 4) else none
theorem lead_bd {c m lo hi n : Int} (h0 : 0 ≤ c) (h : lead c = some (m, lo, hi, n)) : m ≤ c ∧ c - m ≤ 127 ∧ 0 ≤ lo ∧ hi ≤ 191 ∧ 1 ≤ n ∧ n ≤ 4 ∧ (128 ≤ lo ∨ n = 1) ∧ 0 ≤ m ∧ 0 ≤ hi ∧ (n = 1 → m = 0) := by
  unfold lead at h
  repeat (first
    | (split at h; (first | (simp only [Option.some.injEq, Prod.mk.injEq] at h; obtain ⟨rfl, rfl, rfl, rfl⟩ := h; omega) | cases h))
    | (simp only [Option.some.injEq, Prod.mk.injEq] at h; obtain ⟨rfl, rfl, rfl, rfl⟩ := h; omega)
    | cases h)
/-- The bytes behind the first one, read into a number; none if one of them is bad. -/
def cont (x lo hi : Int) : List Int → Option Int
  | [] => some x
  | c :: t => if lo ≤ c ∧ c ≤ hi then cont (x * 64 + (c - 128)) 128 191 t else none
/-- What Read answers at the beginning of some bytes: the code point, its size, the error. -/
def rd : List Int → Int × Int × Int
  | [] => (0, 0, 6)
  | c :: t => match lead c with
    | none => (0, 0, 11)
    | some (m, lo, hi, n) => match cont (c - m) lo hi (t.take (n - 1).toNat) with
      | none => (0, 0, 11)
      | some x => if (t.length : Int) + 1 < n then (0, 0, 10) else (x, n, 0)
theorem rd_none {c : Int} {t : List Int} (h : lead c = none) : rd (c :: t) = (0, 0, 11) := by simp only [rd, h]
theorem rd_bad {c : Int} {t : List Int} {m lo hi n : Int} (h : lead c = some (m, lo, hi, n)) (hc : cont (c - m) lo hi (t.take (n - 1).toNat) = none) : rd (c :: t) = (0, 0, 11) := by simp only [rd, h, hc]
theorem rd_short {c : Int} {t : List Int} {m lo hi n x : Int} (h : lead c = some (m, lo, hi, n)) (hc : cont (c - m) lo hi (t.take (n - 1).toNat) = some x) (hn : (t.length : Int) + 1 < n) : rd (c :: t) = (0, 0, 10) := by simp only [rd, h, hc, if_pos hn]
theorem rd_ok {c : Int} {t : List Int} {m lo hi n x : Int} (h : lead c = some (m, lo, hi, n)) (hc : cont (c - m) lo hi (t.take (n - 1).toNat) = some x) (hn : ¬ (t.length : Int) + 1 < n) : rd (c :: t) = (x, n, 0) := by simp only [rd, h, hc, if_neg hn]
theorem cont_in {x lo hi c : Int} {t : List Int} (h1 : lo ≤ c) (h2 : c ≤ hi) : cont x lo hi (c :: t) = cont (x * 64 + (c - 128)) 128 191 t := if_pos ⟨h1, h2⟩
theorem cont_out {x lo hi c : Int} {t : List Int} (h : ¬ (lo ≤ c ∧ c ≤ hi)) : cont x lo hi (c :: t) = none := if_neg h
/-- What Read answers. -/
def rdAt (l : List Int) (at_ : Int) : Int × Int × Int :=
  if at_ < 0 ∨ (l.length : Int) < at_ then (0, 0, 2) else rd (l.drop at_.toNat)
end Go.Proofs.YtlhekeokognhmaaGreatDoor.Mt
namespace Go.Proofs.YtlhekeokognhmaaGreatDoor
open Go.RowKit Mt

end Go.Proofs.YtlhekeokognhmaaGreatDoor
namespace Go.Proofs.YtlhekeokognhmaaGreatDoor
open Go.RowKit

/-- Numbers as cells of one byte. -/
def u8s (l : List Int) : List Value := l.map (Value.int .u8)
theorem u8s_length (l : List Int) : (u8s l).length = l.length := List.length_map ..
theorem u8s_append (a b : List Int) : u8s (a ++ b) = u8s a ++ u8s b := List.map_append ..
theorem u8s_get (l : List Int) (k : Nat) (h : k < l.length) : (u8s l)[k]? = some (.int .u8 (l.getD k 0)) := by
  simp [u8s, h]
theorem u8s_one (l : List Int) : ∀ u ∈ u8s l, u.oneCell' = true := by
  intro u hu
  obtain ⟨a, _, rfl⟩ := List.mem_map.1 hu
  rfl
/-- A string's bytes as numbers. -/
def bys (s : ByteArray) : List Int := s.data.toList.map fun b => (b.toNat : Int)
theorem bys_length (s : ByteArray) : (bys s).length = s.size := by simp [bys]
theorem bys_get (s : ByteArray) (k : Nat) (h : k < s.size) : (bys s)[k]? = some (s[k].toNat : Int) := by
  have : (bys s)[k]'(by rw [bys_length]; exact h) = (s[k].toNat : Int) := by simp [bys]; rfl
  rw [List.getElem?_eq_getElem (by rw [bys_length]; exact h), this]
theorem bys_drop (s : ByteArray) (k : Nat) (h : k < s.size) : (bys s).drop k = (s[k].toNat : Int) :: (bys s).drop (k + 1) := by
  have hl : k < (bys s).length := by rw [bys_length]; exact h
  rw [List.drop_eq_getElem_cons hl]
  have := bys_get s k h
  rw [List.getElem?_eq_getElem hl] at this
  rw [Option.some.inj this]
theorem bys_extract (s : ByteArray) (a b : Nat) : bys (s.extract a b) = ((bys s).drop a).take (b - a) := by
  unfold bys
  rw [Lib.extract_data, List.map_take, List.map_drop]
theorem bys_bd (s : ByteArray) : ∀ c ∈ bys s, 0 ≤ c ∧ c ≤ 255 := by
  intro c hc
  obtain ⟨b, _, rfl⟩ := List.mem_map.1 hc
  have := b.toNat_lt
  omega
/-- Numbers as cells of an int. -/
def i64s (l : List Int) : List Value := l.map (Value.int .i64)
theorem i64s_length (l : List Int) : (i64s l).length = l.length := List.length_map ..
theorem i64s_append (a b : List Int) : i64s (a ++ b) = i64s a ++ i64s b := List.map_append ..
theorem i64s_get (l : List Int) (k : Nat) (h : k < l.length) : (i64s l)[k]? = some (.int .i64 (l.getD k 0)) := by
  simp [i64s, h]

theorem i64s_one (l : List Int) : ∀ u ∈ i64s l, u.oneCell' = true := by
  intro u hu
  obtain ⟨a, _, rfl⟩ := List.mem_map.1 hu
  rfl
/-- Strings as cells. -/
def strs (l : List ByteArray) : List Value := l.map Value.string
theorem strs_length (l : List ByteArray) : (strs l).length = l.length := List.length_map ..
theorem strs_append (a b : List ByteArray) : strs (a ++ b) = strs a ++ strs b := List.map_append ..
theorem strs_get (l : List ByteArray) (k : Nat) (h : k < l.length) : (strs l)[k]? = some (.string l[k]) := by simp [strs, h]
theorem strs_one (l : List ByteArray) : ∀ u ∈ strs l, u.oneCell' = true := by
  intro u hu
  obtain ⟨a, _, rfl⟩ := List.mem_map.1 hu
  rfl
theorem add0 (g j : Nat) : (⟨g, 0, none⟩ : Addr).add j = ⟨g, j, none⟩ := by
  unfold Addr.add
  split
  · next h => rw [h]
  · simp
/-- A new block holds what it was made of. -/
theorem cells_new (w : World) (l : List Value) (t : TypeId) : ∀ (j : Nat) (u : Value), l[j]? = some u → (w.alloc (.cells l.toArray t)).cell? ((⟨w.heap.size, 0, none⟩ : Addr).add j) = some u := by
  intro j u h
  rw [add0, cell_of_row _ w.heap.size j l.toArray t (0, 0) (heap_alloc_new w _)]
  simpa using h
/-- The cells of a slice at address A, n of them, one cell each, are xs, and lie below block B. -/
def Rd (w : World) (B : Nat) (A : Option Addr) (n : Nat) (xs : List Value) : Prop :=
  xs.length = n ∧ (0 < n → ∃ ad, A = some ad ∧ ad.block < B ∧ ∀ j u, xs[j]? = some u → w.cell? (ad.add j) = some u)
section
variable {w w' : World} {B B' n : Nat} {A : Option Addr} {xs : List Value}
theorem addBlock (a : Addr) (n : Nat) : (a.add n).block = a.block := by unfold Addr.add; split <;> rfl
theorem Rd.nil : Rd w B A 0 [] := ⟨rfl, fun h => absurd h (by omega)⟩
theorem Rd.keep (h : Rd w B A n xs) (hk : ∀ p : Addr, p.block < B → w'.cell? p = w.cell? p) : Rd w' B A n xs :=
  ⟨h.1, fun hn => by
    obtain ⟨ad, e, hb, hc⟩ := h.2 hn
    exact ⟨ad, e, hb, fun j u hu => (hk _ (by rw [addBlock]; exact hb)).trans (hc j u hu)⟩⟩
theorem Rd.more (h : Rd w B A n xs) (hB : B ≤ B') : Rd w B' A n xs :=
  ⟨h.1, fun hn => by
    obtain ⟨ad, e, hb, hc⟩ := h.2 hn
    exact ⟨ad, e, by omega, hc⟩⟩
theorem Rd.below (h : Rd w B A n xs) (hb : Below B w w') : Rd w' B A n xs := h.keep fun _ hp => hb.cell hp
theorem Rd.at_ {k : Nat} (h : Rd w B A n xs) (hk : k < n) : ∃ ad u, A = some ad ∧ ad.block < B ∧ xs[k]? = some u ∧ w.cell? (ad.add k) = some u := by
  obtain ⟨ad, e, hb, hc⟩ := h.2 (by omega)
  have hl : k < xs.length := by have := h.1; omega
  exact ⟨ad, xs[k], e, hb, List.getElem?_eq_getElem hl, hc k _ (List.getElem?_eq_getElem hl)⟩
theorem Rd.of_own {base : Nat} {e : TypeId} {c : Nat} (h : w.ownsRow base e 1 (.slice A n c) n xs) : Rd w w.heap.size A n xs := by
  refine ⟨by have := h.1; omega, fun hn => ?_⟩
  obtain ⟨g, cap, hv, _, hlt⟩ := h.form hn
  have hA : A = some ⟨g, 0, none⟩ := by injection hv
  subst hA
  exact ⟨_, rfl, hlt, h.cells (g := g) rfl⟩
end
/-- An owned row is a slice value. -/
theorem own_slice {w : World} {base : Nat} {e : TypeId} {v : Value} {n : Nat} {xs : List Value} (h : w.ownsRow base e 1 v n xs) : ∃ A c, v = .slice A n c ∧ n ≤ c := by
  rcases h.2 with ⟨rfl, rfl⟩ | ⟨g, cap, cur, rfl, _, _, hc, _⟩
  · exact ⟨none, 0, rfl, Nat.le_refl _⟩
  · exact ⟨_, cap, rfl, hc⟩
/-- What was there is as it was, but for one block of one's own. -/
theorem below_of_grown {w w' : World} {B : Nat} {row : Option Nat} (h : w.grownBy w' row) (hB : B ≤ w.heap.size) (hr : ∀ k, row = some k → B ≤ k) : Below B w w' :=
  (Below.refl B w).grown h hB hr
/-- Two results, of which the first lies in a block of its own, the second in a slot. -/
theorem results_row_tmp {P : Program} {fn : Func} {p u : Tmp} {ty : TypeId} (h : fn.results = #[.cell p ty, .tmp u]) (tmps : Array Value) (w : World) (g : Nat) (t : TypeId) (cs : Array Value) (fr : Nat × Nat) (d : TypeDesc)
    (hp : tmps.getD p undef = .pointer (some ⟨g, 0, none⟩)) (hg : w.heap[g]? = some (.cells cs t fr))
    (hu : P.underlying ty = some d) (hd : (match d with | .struct _ | .array _ _ => true | _ => false) = true) (hi : (P.info? ty).map (·.size) = some cs.size) :
    (results fn tmps).run P w = .ok (.tuple #[.agg cs, tmps.getD u undef]) w := by
  rw [results_cell_tmp h, hp]
  simp only [asAddr, Sem.run_pure, Result.andThen_ok, run_loadVar_row w g t ty cs fr d hg hu hd hi]
end Go.Proofs.YtlhekeokognhmaaGreatDoor
namespace Go.Proofs.YtlhekeokognhmaaGreatDoor
open Go.RowKit Mt

theorem info5 : (Tryz.prog.info? 5).map (fun i => (i.zero, i.size, i.bytes)) = some (some (.int .u8 0), 1, 1) := by kernel_rfl

/-- The form of x has come behind the n bytes xs. -/
def AppOk (base : Nat) (x : Int) (v0 : Value) (n : Nat) (xs : List Int) (w : World) (e : Ending) (w' : World) : Prop :=
  ∃ v, e = .returned (.tuple #[v, .int .i64 0]) ∧ w'.ownsRow base 5 1 v (n + (form x).length) (u8s (xs ++ form x)) ∧ w.grownBy w' v0.ownBlock

theorem appOk_mk {base : Nat} {x : Int} {v0 : Value} {n : Nat} {xs l : List Int} {w w1 w' : World} {v : Value} (k : Nat) (hl : form x = l) (hk : l.length = k) (hown : w'.ownsRow base 5 1 v (n + k) (u8s xs ++ u8s l)) (h1 : w.grownBy w1 v0.ownBlock) (h2 : w1.grownBy w' v0.ownBlock) :
    AppOk base x v0 n xs w (.returned (.tuple #[v, .int .i64 0])) w' := by
  subst hl hk
  rw [← u8s_append] at hown
  exact ⟨v, rfl, hown, h1.trans h2⟩

end Go.Proofs.YtlhekeokognhmaaGreatDoor
namespace Go.Proofs.YtlhekeokognhmaaGreatDoor
open Go.RowKit Mt

/-- The table as rows of numbers. -/
def tabRows : List (List Int) := [[0, 127, 0, 0, 0, 1], [194, 223, 192, 128, 191, 2], [224, 224, 224, 160, 191, 3], [225, 236, 224, 128, 191, 3], [237, 237, 224, 128, 159, 3], [238, 239, 224, 128, 191, 3], [240, 240, 240, 144, 191, 4], [241, 243, 240, 128, 191, 4], [244, 244, 240, 128, 143, 4]]
def tb (k j : Nat) : Int := (tabRows.getD k []).getD j 0
def entV (k : Nat) : Array Value := #[.int .u8 (tb k 0), .int .u8 (tb k 1), .int .u8 (tb k 2), .int .u8 (tb k 3), .int .u8 (tb k 4), .int .i64 (tb k 5)]
def tabV : Array Value := ((List.range 9).map fun k => (entV k).toList).flatten.toArray
/-- The table lies where its variable is. -/
def Tab (w : World) : Prop := ∃ t fr, w.heap[1]? = some (.cells tabV t fr)
theorem Tab.below {w w' : World} (h : Tab w) (hb : Below w.heap.size w w') : Tab w' := by
  obtain ⟨t, fr, h⟩ := h
  exact ⟨t, fr, (hb.block _ (Array.getElem?_eq_some_iff.1 h).1).trans h⟩
theorem tab_index (w : World) (k : Nat) (hk : k < 9) : (Instr.index 166 (.agg tabV) (.int .i64 (k : Int))).run Tryz.prog w = .ok (.agg (entV k)) w := by
  rcases (by omega : k = 0 ∨ k = 1 ∨ k = 2 ∨ k = 3 ∨ k = 4 ∨ k = 5 ∨ k = 6 ∨ k = 7 ∨ k = 8) with rfl | rfl | rfl | rfl | rfl | rfl | rfl | rfl | rfl <;> kernel_rfl
theorem tab_size : (Tryz.prog.info? 166).map (·.size) = some tabV.size := by kernel_rfl

set_option maxRecDepth 100000 in
set_option maxHeartbeats 400000 in
theorem begin_T (T : Array Value) (f l m lo hi s : Nat → Int) (c : Int) (w : World) (t : TypeId) (fr : Nat × Nat) (hT : w.heap[1]? = some (.cells T t fr)) (hsz : (Tryz.prog.info? 166).map (·.size) = some T.size)
    (hidx : ∀ (W : World) (k : Nat), k < 9 → (Instr.index 166 (.agg T) (.int .i64 (k : Int))).run Tryz.prog W = .ok (.agg #[.int .u8 (f k), .int .u8 (l k), .int .u8 (m k), .int .u8 (lo k), .int .u8 (hi k), .int .i64 (s k)]) W) :
    Calls Tryz.prog 122 #[.int .u8 c] w fun e w' => Below w.heap.size w w' ∧ 
      ((∃ k, k < 9 ∧ f k ≤ c ∧ c ≤ l k ∧ (∀ j, j < k → ¬ (f j ≤ c ∧ c ≤ l j)) ∧ e = .returned (.tuple #[.agg #[.int .u8 (f k), .int .u8 (l k), .int .u8 (m k), .int .u8 (lo k), .int .u8 (hi k), .int .i64 (s k)], .bool true])) ∨
       ((∀ j, j < 9 → ¬ (f j ≤ c ∧ c ≤ l j)) ∧ e = .returned (.tuple #[.agg #[.int .u8 0, .int .u8 0, .int .u8 0, .int .u8 0, .int .u8 0, .int .i64 0], .bool false]))) := by
  have hs80 : (Tryz.prog.info? 152).map (·.size) = some 6 := by kernel_rfl
  have Hs80 := Lib.hid hs80
  clear hs80
  go_enter Tryz.func122, Tryz.ntmps122
  have hlt : 1 < w.heap.size := (Array.getElem?_eq_some_iff.1 hT).1
  go_wp2_with ((refine wpList_load_row ?c0 166 (.global 1) ?c1 1 ?c2 t T fr _ ((Below.heap_alloc w _ _ hlt).trans hT) Tryz.underlying166 ?c3 hsz ?_); (case c0 => with_reducible rfl); (case c1 => with_reducible rfl); (case c2 => rfl); (case c3 => rfl))
  go_loopw [7] (fun i wr => ∃ k : Nat, k ≤ 9 ∧ i = .int .i64 k ∧ Below w.heap.size w wr ∧ wr.heap[w.heap.size]? = some (.cells #[.int .u8 0, .int .u8 0, .int .u8 0, .int .u8 0, .int .u8 0, .int .i64 0] 152 (0, 0)) ∧ ∀ j, j < k → ¬ (f j ≤ c ∧ c ≤ l j)) (fun i _ => 9 - (intOf i).toNat)
  case atStart => exact ⟨0, by omega, rfl, (Below.refl _ _).alloc (Nat.le_refl _) _, heap_alloc_new w _, fun j hj => absurd hj (by omega)⟩
  case round =>
    obtain ⟨k, hk, rfl, hb, hr, hm⟩ := hrel
    have Hm := Lib.hid hm
    clear hm
    have hz : w.heap.size < wr.heap.size := (Array.getElem?_eq_some_iff.1 hr).1
    by_cases hlt9 : k < 9
    · have Hr := Lib.hid hr
      clear hr
      by_cases h1 : f k ≤ c
      · by_cases h2 : c ≤ l k
        · go_wp2_with ((refine wpList_store_row ?c0 152 (.tmp 2) (.tmp 20) ?c1 w.heap.size #[.int .u8 (f k), .int .u8 (l k), .int .u8 (m k), .int .u8 (lo k), .int .u8 (hi k), .int .i64 (s k)] ?c2 ?c3 _ _ ((Below.heap_alloc wr _ _ hz).trans Hr.out) ?c4 ?c5 ?c6 ?_); (case c0 => with_reducible rfl); (case c1 => with_reducible rfl); (case c2 => rfl); (case c3 => rfl); (case c4 => exact Hs80.out); (case c5 => rfl); (case c6 => simp [Value.oneCell']))
          refine bodyPost_ret (results_row_tmp Tryz.results122 _ _ w.heap.size _ #[.int .u8 (f k), .int .u8 (l k), .int .u8 (m k), .int .u8 (lo k), .int .u8 (hi k), .int .i64 (s k)] _ _ rfl (setRow_heap _ _ _ _ _ _ ((Below.heap_alloc wr _ _ hz).trans Hr.out)) Tryz.underlying152 rfl (by exact Hs80.out)) rfl ?_
          exact ⟨below_setRow (hb.alloc (by omega) _) (Nat.le_refl _) _, Or.inl ⟨k, hlt9, h1, h2, Hm.out, rfl⟩⟩
        · go_wp2
          go_roundw
          case rel => exact ⟨k + 1, by omega, by go_num, hb.alloc (by omega) _, (Below.heap_alloc wr _ _ hz).trans Hr.out, fun j hj hc => by
            rcases Nat.lt_or_eq_of_le (Nat.le_of_lt_succ hj) with h | rfl
            · exact Hm.out j h hc
            · exact h2 hc.2⟩
          case measure => simp [intOf]; omega
      · go_wp2
        go_roundw
        case rel => exact ⟨k + 1, by omega, by go_num, hb.alloc (by omega) _, (Below.heap_alloc wr _ _ hz).trans Hr.out, fun j hj hc => by
            rcases Nat.lt_or_eq_of_le (Nat.le_of_lt_succ hj) with h | rfl
            · exact Hm.out j h hc
            · exact h1 hc.1⟩
        case measure => simp [intOf]; omega
    · obtain rfl : k = 9 := by omega
      have Hr := Lib.hid hr
      clear hr
      go_wp2_with ((refine wpList_store_row ?c0 152 (.tmp 2) (.tmp 22) ?c1 w.heap.size #[.int .u8 0, .int .u8 0, .int .u8 0, .int .u8 0, .int .u8 0, .int .i64 0] ?c2 ?c3 _ _ Hr.out ?c4 ?c5 ?c6 ?_); (case c0 => with_reducible rfl); (case c1 => with_reducible rfl); (case c2 => rfl); (case c3 => rfl); (case c4 => exact Hs80.out); (case c5 => rfl); (case c6 => simp [Value.oneCell']))
      refine bodyPost_ret (results_row_tmp Tryz.results122 _ _ w.heap.size _ #[.int .u8 0, .int .u8 0, .int .u8 0, .int .u8 0, .int .u8 0, .int .i64 0] _ _ rfl (setRow_heap _ _ _ _ _ _ Hr.out) Tryz.underlying152 rfl (by exact Hs80.out)) rfl ?_
      exact ⟨below_setRow hb (Nat.le_refl _) _, Or.inr ⟨Hm.out, rfl⟩⟩

def agg6 (a b c d e f : Int) : Value := .agg #[.int .u8 a, .int .u8 b, .int .u8 c, .int .u8 d, .int .u8 e, .int .i64 f]
theorem lead_row (c : Int) (k : Nat) (hk : k < 9) (h1 : tb k 0 ≤ c) (h2 : c ≤ tb k 1) : lead c = some (tb k 2, tb k 3, tb k 4, tb k 5) := by
  rcases (by omega : k = 0 ∨ k = 1 ∨ k = 2 ∨ k = 3 ∨ k = 4 ∨ k = 5 ∨ k = 6 ∨ k = 7 ∨ k = 8) with rfl | rfl | rfl | rfl | rfl | rfl | rfl | rfl | rfl <;>
    (simp only [tb, tabRows, List.getD_cons_zero, List.getD_cons_succ] at h1 h2 ⊢; unfold lead; repeat (first | rw [if_pos (by omega)] | rw [if_neg (by omega)]))
theorem lead_no (c : Int) (h0 : 0 ≤ c) (h : ∀ j, j < 9 → ¬ (tb j 0 ≤ c ∧ c ≤ tb j 1)) : lead c = none := by
  have a0 := h 0 (by omega); have a1 := h 1 (by omega); have a2 := h 2 (by omega); have a3 := h 3 (by omega); have a4 := h 4 (by omega); have a5 := h 5 (by omega); have a6 := h 6 (by omega); have a7 := h 7 (by omega); have a8 := h 8 (by omega)
  simp only [tb, tabRows, List.getD_cons_zero, List.getD_cons_succ] at a0 a1 a2 a3 a4 a5 a6 a7 a8
  unfold lead
  by_cases hc : c ≤ 193
  · rw [if_neg (by omega), if_pos hc]
  · repeat (first | rw [if_pos (by omega)] | rw [if_neg (by omega)])
/-- Some row's first and last byte, and what the row has in common. -/
def BegYes (m lo hi n : Int) (w : World) (e : Ending) (w' : World) : Prop :=
  ∃ a b, e = .returned (.tuple #[agg6 a b m lo hi n, .bool true]) ∧ Below w.heap.size w w'
theorem begin_yes (c m lo hi n : Int) (h0 : 0 ≤ c) (h : lead c = some (m, lo, hi, n)) (w : World) (hT : Tab w) : Calls Tryz.prog 122 #[.int .u8 c] w (BegYes m lo hi n w) := by
  obtain ⟨t, fr, hT⟩ := hT
  refine (begin_T tabV (fun k => tb k 0) (fun k => tb k 1) (fun k => tb k 2) (fun k => tb k 3) (fun k => tb k 4) (fun k => tb k 5) c w t fr hT tab_size (fun W k hk => tab_index W k hk)).mono ?_
  rintro e w' ⟨hb, ⟨k, hk, h1, h2, _, rfl⟩ | ⟨hn, rfl⟩⟩
  · rw [lead_row c k hk h1 h2] at h
    simp only [Option.some.injEq, Prod.mk.injEq] at h
    obtain ⟨rfl, rfl, rfl, rfl⟩ := h
    exact ⟨_, _, rfl, hb⟩
  · rw [lead_no c h0 hn] at h
    cases h
theorem begin_no (c : Int) (h : lead c = none) (w : World) (hT : Tab w) : Calls Tryz.prog 122 #[.int .u8 c] w fun e w' => e = .returned (.tuple #[agg6 0 0 0 0 0 0, .bool false]) ∧ Below w.heap.size w w' := by
  obtain ⟨t, fr, hT⟩ := hT
  refine (begin_T tabV (fun k => tb k 0) (fun k => tb k 1) (fun k => tb k 2) (fun k => tb k 3) (fun k => tb k 4) (fun k => tb k 5) c w t fr hT tab_size (fun W k hk => tab_index W k hk)).mono ?_
  rintro e w' ⟨hb, ⟨k, hk, h1, h2, _, rfl⟩ | ⟨hn, rfl⟩⟩
  · rw [lead_row c k hk h1 h2] at h
    cases h
  · exact ⟨rfl, hb⟩
end Go.Proofs.YtlhekeokognhmaaGreatDoor
