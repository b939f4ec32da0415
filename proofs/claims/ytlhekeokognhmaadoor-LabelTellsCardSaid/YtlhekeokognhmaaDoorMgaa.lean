/-
  Plain mathematics on bytes and code points, used by the walks; no program is mentioned. What the small functions of package utf compute: Point, Size, tail, Pair, Split. Words on memory that the walks share: what a slice reads as, a block that is known whole, bytes as values. What Append of package utf computes, onto a slice of one's own.
-/
import Derived.Test.YtlhekeokognhmaaDoorProg
import Derived.WalkKit
import Derived.ProofKit
import Derived.Below
import Derived.Laws.OwnMore
import Derived.Deep.AppendLies
import Derived.Deep.Draws
import Derived.Laws.Rows
import Derived.Maps.AppendAt
import Derived.Lib.Hide
import Derived.Lib.Strings
import Derived.Lib.ConvBytes
import Derived.Laws.ResultCell
import Derived.Laws.CopyOwn
import Derived.Tactics
namespace Go.Proofs.YtlhekeokognhmaaDoor.Mt
/-- The number is a code point. -/
def isPt (x : Int) : Bool := decide (0 ≤ x ∧ x ≤ 1114111 ∧ (x < 55296 ∨ 57343 < x))
/-- How many bytes the form of a code point has. -/
def szP (x : Int) : Int := if x < 128 then 1 else if x < 2048 then 2 else if x < 65536 then 3 else 4
/-- The form of a code point, as numbers. -/
def form (x : Int) : List Int :=
  if x < 128 then [x] else if x < 2048 then [192 + x / 64, 128 + x % 64]
  else if x < 65536 then [224 + x / 4096, 128 + x / 64 % 64, 128 + x % 64]
  else [240 + x / 262144, 128 + x / 4096 % 64, 128 + x / 64 % 64, 128 + x % 64]
theorem form_length (x : Int) : ((form x).length : Int) = szP x := by
  unfold form szP; split; · simp
  split; · simp
  split <;> simp
theorem form_length' (x : Int) : (form x).length = (szP x).toNat := by have := form_length x; omega
theorem szP_bd (x : Int) : 1 ≤ szP x ∧ szP x ≤ 4 := by
  unfold szP
  split
  · omega
  · split
    · omega
    · split <;> omega
theorem szP_1 {x : Int} (h : x < 128) : szP x = 1 := by unfold szP; rw [if_pos h]
theorem szP_2 {x : Int} (h : ¬ x < 128) (h2 : x < 2048) : szP x = 2 := by unfold szP; rw [if_neg h, if_pos h2]
theorem szP_3 {x : Int} (h : ¬ x < 2048) (h2 : x < 65536) : szP x = 3 := by unfold szP; rw [if_neg (by omega), if_neg h, if_pos h2]
theorem szP_4 {x : Int} (h : ¬ x < 65536) : szP x = 4 := by unfold szP; rw [if_neg (by omega), if_neg (by omega), if_neg h]
theorem form_1 {x : Int} (h : x < 128) : form x = [x] := by unfold form; rw [if_pos h]
theorem form_2 {x : Int} (h : ¬ x < 128) (h2 : x < 2048) : form x = [192 + x / 64, 128 + x % 64] := by unfold form; rw [if_neg h, if_pos h2]
theorem form_3 {x : Int} (h : ¬ x < 2048) (h2 : x < 65536) : form x = [224 + x / 4096, 128 + x / 64 % 64, 128 + x % 64] := by unfold form; rw [if_neg (by omega), if_neg h, if_pos h2]
theorem form_4 {x : Int} (h : ¬ x < 65536) : form x = [240 + x / 262144, 128 + x / 4096 % 64, 128 + x / 64 % 64, 128 + x % 64] := by unfold form; rw [if_neg (by omega), if_neg (by omega), if_neg h]
/-- What Pair answers. -/
def okPair (h l : Int) : Bool := decide (55296 ≤ h ∧ h < 56320 ∧ 56320 ≤ l ∧ l ≤ 57343)
theorem isPt_mk {x : Int} (h : 0 ≤ x ∧ x ≤ 1114111 ∧ (x < 55296 ∨ 57343 < x)) : isPt x = true := by unfold isPt; exact decide_eq_true h
theorem isPt_not {x : Int} (h : ¬ (0 ≤ x ∧ x ≤ 1114111 ∧ (x < 55296 ∨ 57343 < x))) : isPt x = false := by unfold isPt; exact decide_eq_false h
theorem isPt_bd {x : Int} (h : isPt x = true) : 0 ≤ x ∧ x ≤ 1114111 ∧ (x < 55296 ∨ 57343 < x) := of_decide_eq_true h
/-- What forms with a first byte have in common: mark, low, high, size. -/
def lead (c : Int) : Option (Int × Int × Int × Int) :=
  if c ≤ 127 then some (0, 0, 0, 1) else if c ≤ 193 then none else if c ≤ 223 then some (192, 128, 191, 2)
  else if c ≤ 224 then some (224, 160, 191, 3) else if c ≤ 236 then some (224, 128, 191, 3) else if c ≤ 237 then some (224, 128, 159, 3) else if c ≤ 239 then some (224, 128, 191, 3)
  else if c ≤ 240 then some (240, 144, 191, 4) else if c ≤ 243 then some (240, 128, 191, 4) else if c ≤ 244 then some (240, 128, 143, 4) else none
theorem lead_bd {c m lo hi n : Int} (h0 : 0 ≤ c) (h : lead c = some (m, lo, hi, n)) : m ≤ c ∧ c - m ≤ 127 ∧ 0 ≤ lo ∧ hi ≤ 191 ∧ 1 ≤ n ∧ n ≤ 4 ∧ (128 ≤ lo ∨ n = 1) ∧ 0 ≤ m ∧ 0 ≤ hi ∧ (n = 1 → m = 0) := by
  unfold lead at h
  repeat (first
    | (split at h; (first | (simp only [Option.some.injEq, Prod.mk.injEq] at h; obtain ⟨rfl, rfl, rfl, rfl⟩ := h; omega) | cases h))
    | (simp only [Option.some.injEq, Prod.mk.injEq] at h; obtain ⟨rfl, rfl, rfl, rfl⟩ := h; omega)
    | cases h)
/-- The bytes behind the first one, read into a number; none if one of them is bad. -/
def cont (x lo hi : Int) : List Int → Option Int
  | [] => some x
  | c :: t => if lo ≤ c ∧ c ≤ hi then cont (x * 64 + (c - 128)) 128 191 t else none
/-- What Read answers at the beginning of some bytes: the code point, its size, the error. -/
def rd : List Int → Int × Int × Int
  | [] => (0, 0, 6)
  | c :: t => match lead c with
    | none => (0, 0, 11)
    | some (m, lo, hi, n) => match cont (c - m) lo hi (t.take (n - 1).toNat) with
      | none => (0, 0, 11)
      | some x => if (t.length : Int) + 1 < n then (0, 0, 10) else (x, n, 0)
theorem rd_none {c : Int} {t : List Int} (h : lead c = none) : rd (c :: t) = (0, 0, 11) := by simp only [rd, h]
theorem rd_bad {c : Int} {t : List Int} {m lo hi n : Int} (h : lead c = some (m, lo, hi, n)) (hc : cont (c - m) lo hi (t.take (n - 1).toNat) = none) : rd (c :: t) = (0, 0, 11) := by simp only [rd, h, hc]
theorem rd_short {c : Int} {t : List Int} {m lo hi n x : Int} (h : lead c = some (m, lo, hi, n)) (hc : cont (c - m) lo hi (t.take (n - 1).toNat) = some x) (hn : (t.length : Int) + 1 < n) : rd (c :: t) = (0, 0, 10) := by simp only [rd, h, hc, if_pos hn]
theorem rd_ok {c : Int} {t : List Int} {m lo hi n x : Int} (h : lead c = some (m, lo, hi, n)) (hc : cont (c - m) lo hi (t.take (n - 1).toNat) = some x) (hn : ¬ (t.length : Int) + 1 < n) : rd (c :: t) = (x, n, 0) := by simp only [rd, h, hc, if_neg hn]
theorem cont_in {x lo hi c : Int} {t : List Int} (h1 : lo ≤ c) (h2 : c ≤ hi) : cont x lo hi (c :: t) = cont (x * 64 + (c - 128)) 128 191 t := if_pos ⟨h1, h2⟩
theorem cont_out {x lo hi c : Int} {t : List Int} (h : ¬ (lo ≤ c ∧ c ≤ hi)) : cont x lo hi (c :: t) = none := if_neg h
/-- What Read answers. -/
def rdAt (l : List Int) (at_ : Int) : Int × Int × Int :=
  if at_ < 0 ∨ (l.length : Int) < at_ then (0, 0, 2) else rd (l.drop at_.toNat)
end Go.Proofs.YtlhekeokognhmaaDoor.Mt
namespace Go.Proofs.YtlhekeokognhmaaDoor
open Go.RowKit Mt

end Go.Proofs.YtlhekeokognhmaaDoor
namespace Go.Proofs.YtlhekeokognhmaaDoor
open Go.RowKit

/-- Numbers as cells of one byte. -/
def u8s (l : List Int) : List Value := l.map (Value.int .u8)
theorem u8s_length (l : List Int) : (u8s l).length = l.length := List.length_map ..
theorem u8s_append (a b : List Int) : u8s (a ++ b) = u8s a ++ u8s b := List.map_append ..
theorem u8s_get (l : List Int) (k : Nat) (h : k < l.length) : (u8s l)[k]? = some (.int .u8 (l.getD k 0)) := by
  simp [u8s, h]
theorem u8s_one (l : List Int) : ∀ u ∈ u8s l, u.oneCell' = true := by
  intro u hu
  obtain ⟨a, _, rfl⟩ := List.mem_map.1 hu
  rfl
/-- A string's bytes as numbers. -/
def bys (s : ByteArray) : List Int := s.data.toList.map fun b => (b.toNat : Int)
theorem bys_length (s : ByteArray) : (bys s).length = s.size := by simp [bys]
theorem bys_get (s : ByteArray) (k : Nat) (h : k < s.size) : (bys s)[k]? = some (s[k].toNat : Int) := by
  have : (bys s)[k]'(by rw [bys_length]; exact h) = (s[k].toNat : Int) := by simp [bys]; rfl
  rw [List.getElem?_eq_getElem (by rw [bys_length]; exact h), this]
theorem bys_drop (s : ByteArray) (k : Nat) (h : k < s.size) : (bys s).drop k = (s[k].toNat : Int) :: (bys s).drop (k + 1) := by
  have hl : k < (bys s).length := by rw [bys_length]; exact h
  rw [List.drop_eq_getElem_cons hl]
  have := bys_get s k h
  rw [List.getElem?_eq_getElem hl] at this
  rw [Option.some.inj this]
theorem bys_extract (s : ByteArray) (a b : Nat) : bys (s.extract a b) = ((bys s).drop a).take (b - a) := by
  unfold bys
  rw [Lib.extract_data, List.map_take, List.map_drop]
theorem bys_bd (s : ByteArray) : ∀ c ∈ bys s, 0 ≤ c ∧ c ≤ 255 := by
  intro c hc
  obtain ⟨b, _, rfl⟩ := List.mem_map.1 hc
  have := b.toNat_lt
  omega
/-- Numbers as cells of an int. -/
def i64s (l : List Int) : List Value := l.map (Value.int .i64)
theorem i64s_length (l : List Int) : (i64s l).length = l.length := List.length_map ..
theorem i64s_append (a b : List Int) : i64s (a ++ b) = i64s a ++ i64s b := List.map_append ..
theorem i64s_get (l : List Int) (k : Nat) (h : k < l.length) : (i64s l)[k]? = some (.int .i64 (l.getD k 0)) := by
  simp [i64s, h]

theorem i64s_one (l : List Int) : ∀ u ∈ i64s l, u.oneCell' = true := by
  intro u hu
  obtain ⟨a, _, rfl⟩ := List.mem_map.1 hu
  rfl
/-- Strings as cells. -/
def strs (l : List ByteArray) : List Value := l.map Value.string
theorem strs_length (l : List ByteArray) : (strs l).length = l.length := List.length_map ..
theorem strs_append (a b : List ByteArray) : strs (a ++ b) = strs a ++ strs b := List.map_append ..
theorem strs_get (l : List ByteArray) (k : Nat) (h : k < l.length) : (strs l)[k]? = some (.string l[k]) := by simp [strs, h]
theorem strs_one (l : List ByteArray) : ∀ u ∈ strs l, u.oneCell' = true := by
  intro u hu
  obtain ⟨a, _, rfl⟩ := List.mem_map.1 hu
  rfl
theorem add0 (g j : Nat) : (⟨g, 0, none⟩ : Addr).add j = ⟨g, j, none⟩ := by
  unfold Addr.add
  split
  · next h => rw [h]
  · simp
/-- A new block holds what it was made of. -/
theorem cells_new (w : World) (l : List Value) (t : TypeId) : ∀ (j : Nat) (u : Value), l[j]? = some u → (w.alloc (.cells l.toArray t)).cell? ((⟨w.heap.size, 0, none⟩ : Addr).add j) = some u := by
  intro j u h
  rw [add0, cell_of_row _ w.heap.size j l.toArray t (0, 0) (heap_alloc_new w _)]
  simpa using h
/-- The cells of a slice at address A, n of them, one cell each, are xs, and lie below block B. -/
def Rd (w : World) (B : Nat) (A : Option Addr) (n : Nat) (xs : List Value) : Prop :=
  xs.length = n ∧ (0 < n → ∃ ad, A = some ad ∧ ad.block < B ∧ ∀ j u, xs[j]? = some u → w.cell? (ad.add j) = some u)
section
variable {w w' : World} {B B' n : Nat} {A : Option Addr} {xs : List Value}
theorem addBlock (a : Addr) (n : Nat) : (a.add n).block = a.block := by unfold Addr.add; split <;> rfl
theorem Rd.nil : Rd w B A 0 [] := ⟨rfl, fun h => absurd h (by omega)⟩
theorem Rd.keep (h : Rd w B A n xs) (hk : ∀ p : Addr, p.block < B → w'.cell? p = w.cell? p) : Rd w' B A n xs :=
  ⟨h.1, fun hn => by
    obtain ⟨ad, e, hb, hc⟩ := h.2 hn
    exact ⟨ad, e, hb, fun j u hu => (hk _ (by rw [addBlock]; exact hb)).trans (hc j u hu)⟩⟩
theorem Rd.more (h : Rd w B A n xs) (hB : B ≤ B') : Rd w B' A n xs :=
  ⟨h.1, fun hn => by
    obtain ⟨ad, e, hb, hc⟩ := h.2 hn
    exact ⟨ad, e, by omega, hc⟩⟩
theorem Rd.below (h : Rd w B A n xs) (hb : Below B w w') : Rd w' B A n xs := h.keep fun _ hp => hb.cell hp
theorem Rd.at_ {k : Nat} (h : Rd w B A n xs) (hk : k < n) : ∃ ad u, A = some ad ∧ ad.block < B ∧ xs[k]? = some u ∧ w.cell? (ad.add k) = some u := by
  obtain ⟨ad, e, hb, hc⟩ := h.2 (by omega)
  have hl : k < xs.length := by have := h.1; omega
  exact ⟨ad, xs[k], e, hb, List.getElem?_eq_getElem hl, hc k _ (List.getElem?_eq_getElem hl)⟩
theorem Rd.of_own {base : Nat} {e : TypeId} {c : Nat} (h : w.ownsRow base e 1 (.slice A n c) n xs) : Rd w w.heap.size A n xs := by
  refine ⟨by have := h.1; omega, fun hn => ?_⟩
  obtain ⟨g, cap, hv, _, hlt⟩ := h.form hn
  have hA : A = some ⟨g, 0, none⟩ := by injection hv
  subst hA
  exact ⟨_, rfl, hlt, h.cells (g := g) rfl⟩
end
/-- An owned row is a slice value. -/
theorem own_slice {w : World} {base : Nat} {e : TypeId} {v : Value} {n : Nat} {xs : List Value} (h : w.ownsRow base e 1 v n xs) : ∃ A c, v = .slice A n c ∧ n ≤ c := by
  rcases h.2 with ⟨rfl, rfl⟩ | ⟨g, cap, cur, rfl, _, _, hc, _⟩
  · exact ⟨none, 0, rfl, Nat.le_refl _⟩
  · exact ⟨_, cap, rfl, hc⟩
/-- What was there is as it was, but for one block of one's own. -/
theorem below_of_grown {w w' : World} {B : Nat} {row : Option Nat} (h : w.grownBy w' row) (hB : B ≤ w.heap.size) (hr : ∀ k, row = some k → B ≤ k) : Below B w w' :=
  (Below.refl B w).grown h hB hr
/-- Two results, of which the first lies in a block of its own, the second in a slot. -/
theorem results_row_tmp {P : Program} {fn : Func} {p u : Tmp} {ty : TypeId} (h : fn.results = #[.cell p ty, .tmp u]) (tmps : Array Value) (w : World) (g : Nat) (t : TypeId) (cs : Array Value) (fr : Nat × Nat) (d : TypeDesc)
    (hp : tmps.getD p undef = .pointer (some ⟨g, 0, none⟩)) (hg : w.heap[g]? = some (.cells cs t fr))
    (hu : P.underlying ty = some d) (hd : (match d with | .struct _ | .array _ _ => true | _ => false) = true) (hi : (P.info? ty).map (·.size) = some cs.size) :
    (results fn tmps).run P w = .ok (.tuple #[.agg cs, tmps.getD u undef]) w := by
  rw [results_cell_tmp h, hp]
  simp only [asAddr, Sem.run_pure, Result.andThen_ok, run_loadVar_row w g t ty cs fr d hg hu hd hi]
end Go.Proofs.YtlhekeokognhmaaDoor
namespace Go.Proofs.YtlhekeokognhmaaDoor
open Go.RowKit Mt

theorem info5 : (Tryd.prog.info? 5).map (fun i => (i.zero, i.size, i.bytes)) = some (some (.int .u8 0), 1, 1) := by kernel_rfl

/-- The form of x has come behind the n bytes xs. -/
def AppOk (base : Nat) (x : Int) (v0 : Value) (n : Nat) (xs : List Int) (w : World) (e : Ending) (w' : World) : Prop :=
  ∃ v, e = .returned (.tuple #[v, .int .i64 0]) ∧ w'.ownsRow base 5 1 v (n + (form x).length) (u8s (xs ++ form x)) ∧ w.grownBy w' v0.ownBlock

theorem appOk_mk {base : Nat} {x : Int} {v0 : Value} {n : Nat} {xs l : List Int} {w w1 w' : World} {v : Value} (k : Nat) (hl : form x = l) (hk : l.length = k) (hown : w'.ownsRow base 5 1 v (n + k) (u8s xs ++ u8s l)) (h1 : w.grownBy w1 v0.ownBlock) (h2 : w1.grownBy w' v0.ownBlock) :
    AppOk base x v0 n xs w (.returned (.tuple #[v, .int .i64 0])) w' := by
  subst hl hk
  rw [← u8s_append] at hown
  exact ⟨v, rfl, hown, h1.trans h2⟩

end Go.Proofs.YtlhekeokognhmaaDoor
