/-
  The last step of every law's row: the call has answered true, and nothing that was there has turned. An input that fits, at a world whose shape is known. Words on memory that the walks share: what a slice reads as, a block that is known whole, bytes as values. Rows of one's own: append onto them, strings of what they hold. Regions that draw their order and make memory: what each step keeps, and facts that later worlds hold. Words that walks of a range over a function share: what a round keeps, boxes, labels. Package class: code points, digits.
-/
import Derived.Test.YtmgkdmbifecekaaGreatDoorCards
import Derived.Test.YtmgkdmbifecekaaGreatDoorTie
import Derived.WalkKit
import Derived.ProofKit
import Derived.OpenShut
import Derived.Deep.DeepHandedRow
import Derived.Lay
import Derived.Below
import Derived.ChangeSame
import Derived.Carry
import Derived.Laws.OwnMore
import Derived.Deep.AppendLies
import Derived.Deep.Draws
import Derived.Laws.Rows
import Derived.Maps.AppendAt
import Derived.Lib.Hide
import Derived.Lib.Strings
import Derived.Lib.ConvBytes
import Derived.Laws.ResultCell
import Derived.Laws.CopyOwn
import Derived.Tactics
import Derived.Test.YtmgkdmbifecekaaGreatDoorProg
import Derived.Deep.RegionLaw
import Derived.RegionTactic
import Derived.OwnWalk
import Derived.Laws.Append
import Derived.RangeFuncNested
import Derived.RangeFuncBound
import Derived.RangeFuncCalls
import Derived.RangeFuncLeaves
import Derived.RangeFuncFrom
import Derived.Shelf.Abstract
import Derived.Shelf.RegionOpen
import Derived.OwnWalkIn
import Derived.TacticsInMore
import Derived.LoopNIn
import Derived.LoopIn
set_option linter.all false
set_option linter.unusedSimpArgs false
set_option linter.unusedVariables false
set_option linter.unusedSectionVars false
namespace Go.Proofs.YtmgkdmbifecekaaGreatDoor
open Go.RowKit Go.WideShapes Go.ChangeShapes

theorem gOwn : ownKnob Tryz.prog.godebug = none := by kernel_rfl
theorem bounds_u8 {x : Int} (h : (Lit.int .u8 x).wf = true) : 0 ≤ x ∧ x ≤ 255 := by simpa [Lit.wf, IntKind.min, IntKind.max, IntKind.signed, IntKind.bits] using h
theorem laidOut : laidOutB Tryz.prog = true := by kernel_rfl
section
variable {H : Type} {enc : TypeId × Value → H}
/-- What was read reads as it did. -/
theorem trodAll_stays {P : Program} {W W' : World} (hl : laidOutB P = true) (hb : Below W.heap.size W W') (sp : Nat → Bool) : ∀ {ts : List TypeId} {vs : List Value} {ds : List (DataW H)} {ps : List MemPlace},
    (∀ t ∈ ts, P.readableRec t = true ∧ t < P.types.size) → DataW.TrodAll enc P W 0 (fun _ => true) true ts vs ds ps → (∀ x ∈ ps, x.block < W.heap.size) → (∀ x ∈ ps, sp x.block = true) → DataW.TrodAll enc P W' 0 sp true ts vs ds ps
  | [], [], [], _, _, h, _, _ => h
  | t :: ts, v :: vs, d :: ds, ps, hts, h, hlt, hsp => by
    obtain ⟨p, q, h1, h2, rfl⟩ := h
    have ht := hts t (by simp)
    exact ⟨p, q, WideElems.Trod_stays hl ht.1 ht.2 h1 (fun x hx => hb.same (hlt x (by simp [hx]))) (fun x hx => hsp x (by simp [hx])),
      trodAll_stays hl hb sp (fun t ht => hts t (by simp [ht])) h2 (fun x hx => hlt x (by simp [hx])) (fun x hx => hsp x (by simp [hx])), rfl⟩
  | [], _ :: _, _, _, _, h, _, _ => h.elim
  | [], [], _ :: _, _, _, h, _, _ => h.elim
  | _ :: _, [], _, _, _, h, _, _ => h.elim
  | _ :: _, _ :: _, [], _, _, h, _, _ => h.elim

/-- THE LAST STEP. -/
theorem law_post {f : Func} {s : ChangeSpec} {W W' : World} {args : Array Value} {ds : List (DataW H)} {before : List MemPlace} (hrt : f.resultTypes = #[4]) (hsv : s.vars = [])
    (hts : ∀ t ∈ f.params.toList, Tryz.prog.readableRec t = true ∧ t < Tryz.prog.types.size)
    (hW : DataW.Whole enc Tryz.prog f.params.toList s.vars false W args.toList ds [] before) (hfn : s.fn H (ds ++ []) = { results := [.lit (.bool true)], args := ds })
    (hb : Below W.heap.size W W') : s.post enc Tryz.prog f false true false false W args (.bool true) W' := by
  have hlt : ∀ p ∈ before, p.block < W.heap.size := fun p hp => hW.lt p hp
  obtain ⟨p, q, hA, hV, rfl, hfz, hnd⟩ := hW
  have hW : DataW.Whole enc Tryz.prog f.params.toList s.vars false W args.toList ds [] (p ++ q) := ⟨p, q, hA, hV, rfl, hfz, hnd⟩
  rw [hsv] at hV
  obtain rfl : q = [] := hV
  refine ⟨ds, [], p ++ [], [], p, [], hW, ?_, ?_, ?_, World.keptBut_mono (fun x hx => ⟨hx, Or.inr (by simpa using hx)⟩) (hb.frame (· ∈ p ++ [])), fun h => by cases h⟩
  · rw [hfn, hrt]
    exact trodAll_cons_mk (shut_bool Tryz.underlying4 _) trodAll_mk0
  · rw [hfn]
    exact trodAll_stays laidOut hb _ hts hA (fun x hx => hlt x (by simp [hx])) (fun x hx => by simpa using hlt x (by simp [hx]))
  · rw [hfn, hsv]
    rfl
end
end Go.Proofs.YtmgkdmbifecekaaGreatDoor
namespace Go.Proofs.YtmgkdmbifecekaaGreatDoor
section
variable {H : Type} {enc : TypeId × Value → H}
theorem witness_row_shaped {C : Checked} {os : Os} {f : FuncId} {fn : Func} {s : OpenSpec} {conds : List PathCond} {apart : Bool} {laid : List (String × DataW Unit)} (modest : Bool) (w0 : World) (args : Array Value) (hos : w0.os = os)
    (hsh : (w0.forCall (fun _ _ => 0) ⟨#[], args, []⟩).Shaped C.prog)
    (hok : Input.okWideB C.prog (w0.forCall (fun _ _ => 0) ⟨#[], args, []⟩) f ⟨#[], args, []⟩ = true)
    (hrow : s.preRow enc C.prog fn conds apart laid (w0.forCall (fun _ _ => 0) ⟨#[], args, []⟩).memory args) :
    ∃ (w : World) (tape : Tape) (i : Input), w.os = os ∧ (w.forCall tape i).Shaped C.prog ∧ i.vars = [] ∧ Input.okWide C.prog (w.forCall tape i) .any w.heap.size f i ∧
      s.preRow enc C.prog fn conds apart laid (w.forCall tape i).memory i.args ∧ ({ modest := modest } : Assume).holds C.prog (lone (Frame.enter C.prog f i.args .normal) [] (w.forCall tape i)) :=
  ⟨w0, fun _ _ => 0, ⟨#[], args, []⟩, hos, hsh, (Input.okWide_of_okWideB (base := 0) hok).1, (Input.okWide_of_okWideB hok).2, hrow, by
    simp only [Assume.holds]
    exact ⟨by simp, by simp, fun _ => Modest.zero, by simp, by simp⟩⟩
end
end Go.Proofs.YtmgkdmbifecekaaGreatDoor
namespace Go.Proofs.YtmgkdmbifecekaaGreatDoor
open Go.RowKit

/-- A string's bytes as numbers. -/
def bys (s : ByteArray) : List Int := s.data.toList.map fun b => (b.toNat : Int)
theorem bys_length (s : ByteArray) : (bys s).length = s.size := by simp [bys]
theorem bys_get (s : ByteArray) (k : Nat) (h : k < s.size) : (bys s)[k]? = some (s[k].toNat : Int) := by
  have : (bys s)[k]'(by rw [bys_length]; exact h) = (s[k].toNat : Int) := by simp [bys]; rfl
  rw [List.getElem?_eq_getElem (by rw [bys_length]; exact h), this]
theorem add0 (g j : Nat) : (⟨g, 0, none⟩ : Addr).add j = ⟨g, j, none⟩ := by
  unfold Addr.add
  split
  · next h => rw [h]
  · simp
/-- A new block holds what it was made of. -/
theorem cells_new (w : World) (l : List Value) (t : TypeId) : ∀ (j : Nat) (u : Value), l[j]? = some u → (w.alloc (.cells l.toArray t)).cell? ((⟨w.heap.size, 0, none⟩ : Addr).add j) = some u := by
  intro j u h
  rw [add0, cell_of_row _ w.heap.size j l.toArray t (0, 0) (heap_alloc_new w _)]
  simpa using h
/-- The cells of a slice at address A, n of them, one cell each, are xs, and lie below block B. -/
def Rd (w : World) (B : Nat) (A : Option Addr) (n : Nat) (xs : List Value) : Prop :=
  xs.length = n ∧ (0 < n → ∃ ad, A = some ad ∧ ad.block < B ∧ ∀ j u, xs[j]? = some u → w.cell? (ad.add j) = some u)
section
variable {w w' : World} {B B' n : Nat} {A : Option Addr} {xs : List Value}
theorem addBlock (a : Addr) (n : Nat) : (a.add n).block = a.block := by unfold Addr.add; split <;> rfl
theorem Rd.nil : Rd w B A 0 [] := ⟨rfl, fun h => absurd h (by omega)⟩
theorem Rd.keep (h : Rd w B A n xs) (hk : ∀ p : Addr, p.block < B → w'.cell? p = w.cell? p) : Rd w' B A n xs :=
  ⟨h.1, fun hn => by
    obtain ⟨ad, e, hb, hc⟩ := h.2 hn
    exact ⟨ad, e, hb, fun j u hu => (hk _ (by rw [addBlock]; exact hb)).trans (hc j u hu)⟩⟩
theorem Rd.more (h : Rd w B A n xs) (hB : B ≤ B') : Rd w B' A n xs :=
  ⟨h.1, fun hn => by
    obtain ⟨ad, e, hb, hc⟩ := h.2 hn
    exact ⟨ad, e, by omega, hc⟩⟩
theorem Rd.below (h : Rd w B A n xs) (hb : Below B w w') : Rd w' B A n xs := h.keep fun _ hp => hb.cell hp
theorem Rd.at_ {k : Nat} (h : Rd w B A n xs) (hk : k < n) : ∃ ad u, A = some ad ∧ ad.block < B ∧ xs[k]? = some u ∧ w.cell? (ad.add k) = some u := by
  obtain ⟨ad, e, hb, hc⟩ := h.2 (by omega)
  have hl : k < xs.length := by have := h.1; omega
  exact ⟨ad, xs[k], e, hb, List.getElem?_eq_getElem hl, hc k _ (List.getElem?_eq_getElem hl)⟩
end
end Go.Proofs.YtmgkdmbifecekaaGreatDoor
namespace Go.Proofs.YtmgkdmbifecekaaGreatDoor
open Go.RowKit
section
variable {P : Program} (w : World)
end
theorem Rd.holds {w : World} {B n : Nat} {A : Option Addr} {xs : List Value} (h : Rd w B A n xs) (hB : B ≤ w.heap.size) (o : Obj) : ∀ b, A = some b → ∀ j u, xs[j]? = some u → (w.alloc o).cell? (b.add j) = some u := by
  intro b hb j u hu
  have hj := (List.getElem?_eq_some_iff.1 hu).1
  obtain ⟨ad, e, hlt, hc⟩ := h.2 (by have := h.1; omega)
  rw [e] at hb
  obtain rfl := Option.some.inj hb
  rw [World.cell?_alloc_lt _ _ _ (by rw [addBlock]; omega)]
  exact hc j u hu
theorem own_below {w w' : World} {base : Nat} {e : TypeId} {size : Nat} {v : Value} {n : Nat} {xs : List Value} (h : w.ownsRow base e size v n xs) (hb : Below w.heap.size w w') : w'.ownsRow base e size v n xs :=
  h.kept (row := none) ⟨hb.os, hb.tape, hb.output, hb.size, fun k hk _ => hb.block k hk⟩ (by cases v.ownBlock <;> simp)
theorem rdNew (w : World) (l : List Value) (t : TypeId) : Rd (w.alloc (.cells l.toArray t)) (w.alloc (.cells l.toArray t)).heap.size (some ⟨w.heap.size, 0, none⟩) l.length l :=
  ⟨rfl, fun _ => ⟨_, rfl, by simp, cells_new w l t⟩⟩
end Go.Proofs.YtmgkdmbifecekaaGreatDoor
namespace Go.Proofs.YtmgkdmbifecekaaGreatDoor
open Go.RowKit
/-- What was there is as it was. -/
def Kept (w w' : World) : Prop := Below w.heap.size w w'
section
variable {W0 w w' : World}
theorem below_alloc0 (h : Below W0.heap.size W0 w) (o : Obj) : Below W0.heap.size W0 (w.alloc o) := h.alloc h.size o
theorem below_drew0 (h : Below W0.heap.size W0 w) : Below W0.heap.size W0 w.drew := h.drew
theorem heap_drew0 {g : Nat} {x : Obj} (h : w.heap[g]? = some x) : w.drew.heap[g]? = some x := h
theorem below_kept (h : Below W0.heap.size W0 w) (k : Kept w w') : Below W0.heap.size W0 w' := h.trans (k.mono h.size)
theorem heap_lt {g : Nat} {x : Obj} (h : w.heap[g]? = some x) : g < w.heap.size := (Array.getElem?_eq_some_iff.1 h).1
theorem heap_kept {g : Nat} {x : Obj} (k : Kept w w') (h : w.heap[g]? = some x) : w'.heap[g]? = some x := (Below.block k g (heap_lt h)).trans h
theorem rd_kept {A : Option Addr} {n : Nat} {xs : List Value} (k : Kept w w') (h : Rd w w.heap.size A n xs) : Rd w' w'.heap.size A n xs := (Rd.below h k).more (Below.size k)
end
end Go.Proofs.YtmgkdmbifecekaaGreatDoor
namespace Go.Proofs.YtmgkdmbifecekaaGreatDoor
open Go.RowKit Go.Shelf
/-- What a round that goes on keeps: what was below n₀, and block b. -/
def KpB (n₀ b : Nat) (A B : World) : Prop := Below n₀ A B ∧ B.heap[b]? = A.heap[b]?
theorem kpB_t {n₀ b : Nat} {A B C : World} (h : KpB n₀ b A B) (k : KpB n₀ b B C) : KpB n₀ b A C := ⟨h.1.trans k.1, k.2.trans h.2⟩
theorem kpB_b {n₀ b : Nat} {w : World} (hn : n₀ ≤ w.heap.size) (hb : b < w.heap.size) (W : World) (l : Nat) (o o' : Obj) (hl : w.heap.size ≤ l) (h : W.heap[l]? = some o) (h1 : o.isCells = false) (h2 : o.isWalk = false) : KpB n₀ b W (W.putObj l o') :=
  ⟨belowK_b hn W l o o' hl h h1 h2, World.putObj_heap_other (by omega)⟩
end Go.Proofs.YtmgkdmbifecekaaGreatDoor
namespace Go.Proofs.YtmgkdmbifecekaaGreatDoor
open Go.RowKit Go.Shelf
def visB (c : Int) : Bool := decide (33 ≤ c) && decide (c ≤ 126)
def pntB (c : Int) : Bool := decide (0 ≤ c) && decide (c ≤ 1114111) && (decide (c < 55296) || decide (57343 < c))
def dgtB (c : Int) : Bool := decide (48 ≤ c) && decide (c ≤ 57)
def lttB (c : Int) : Bool := (decide (97 ≤ c) && decide (c ≤ 122)) || (decide (65 ≤ c) && decide (c ≤ 90))
def mrkB (c : Int) : Bool := visB c && !lttB c && !dgtB c
theorem visible_any (c : Int) (w : World) : Calls Tryz.prog 133 #[.int .i64 c] w fun e w' => e = .returned (.bool (visB c)) ∧ w = w' := by
  unfold visB
  by_cases h1 : (33 : Int) ≤ c
  all_goals
    go_enter Tryz.func133, Tryz.ntmps133
    go_wp2_with fail
    go_ret
    exact ⟨by (try simp); (try (intros; omega)), rfl⟩
theorem point_any (c : Int) (w : World) : Calls Tryz.prog 120 #[.int .i64 c] w fun e w' => e = .returned (.bool (pntB c)) ∧ w = w' := by
  unfold pntB
  by_cases h1 : (0 : Int) ≤ c <;> by_cases h2 : c ≤ 1114111 <;> by_cases h3 : c < 55296
  all_goals
    go_enter Tryz.func120, Tryz.ntmps120
    go_wp2_with fail
    go_ret
    exact ⟨by (try simp); (try (intros; omega)), rfl⟩
theorem mark_any (c : Int) (hc : 0 ≤ c ∧ c ≤ 255) (w : World) : Calls Tryz.prog 190 #[.int .u8 c] w fun e w' => e = .returned (.bool (mrkB c)) ∧ w = w' := by
  have CV := fun w => visible_any c w
  unfold mrkB lttB dgtB
  generalize visB c = v at CV ⊢
  replace CV := Lib.hid CV
  cases v <;> by_cases h1 : (97 : Int) ≤ c <;> by_cases h2 : c ≤ 122 <;> by_cases h3 : (65 : Int) ≤ c <;> by_cases h4 : c ≤ 90 <;> by_cases h5 : (48 : Int) ≤ c <;> by_cases h6 : c ≤ 57
  all_goals try (exfalso; omega)
  all_goals
    go_enter Tryz.func190, Tryz.ntmps190
    go_wp2_with (go_at_call 133; refine (CV.out _).mono ?_; rintro e w1 ⟨rfl, rfl⟩)
    go_ret
    exact ⟨by first | rfl | (simp [*]; done) | (simp [*]; omega), rfl⟩
/-- What a hexadecimal digit stands for. -/
def hexD (c : Int) : Option Int := if 48 ≤ c ∧ c ≤ 57 then some (c - 48) else if 97 ≤ c ∧ c ≤ 102 then some (c - 97 + 10) else if 65 ≤ c ∧ c ≤ 70 then some (c - 65 + 10) else none
theorem cdigit_any (c : Int) (hc : 0 ≤ c ∧ c ≤ 255) (w : World) : Calls Tryz.prog 221 #[.int .u8 c] w fun e w' => e = .returned (.tuple #[.int .i64 ((hexD c).getD 0), .bool (hexD c).isSome]) ∧ w = w' := by
  unfold hexD
  by_cases h1 : (48 : Int) ≤ c <;> by_cases h2 : c ≤ 57 <;> by_cases h3 : (97 : Int) ≤ c <;> by_cases h4 : c ≤ 102 <;> by_cases h5 : (65 : Int) ≤ c <;> by_cases h6 : c ≤ 70
  all_goals try (exfalso; omega)
  all_goals
    go_enter Tryz.func221, Tryz.ntmps221
    go_wp2_with fail
    go_ret2
    exact ⟨by first | rfl | (simp [*]; done) | (simp [*]; omega), rfl⟩
theorem hexD_bd (c d : Int) (h : hexD c = some d) : 0 ≤ d ∧ d ≤ 15 := by
  unfold hexD at h
  split at h
  · cases h; omega
  · split at h
    · cases h; omega
    · split at h
      · cases h; omega
      · cases h
/-- The number of the hexadecimal digits with which bytes begin, and how many they are. -/
def hexG : List Int → Int → Nat → Int × Nat
  | [], x, n => (x, n)
  | c :: cs, x, n => match hexD c with
    | none => (x, n)
    | some d => hexG cs (16 * x + d) (n + 1)
def hexN (xs : List Int) : Int × Nat := hexG xs 0 0
theorem hexG_len : ∀ (xs : List Int) (x : Int) (n : Nat), n ≤ (hexG xs x n).2 ∧ (hexG xs x n).2 ≤ n + xs.length
  | [], x, n => by simp [hexG]
  | c :: cs, x, n => by
    unfold hexG
    cases h : hexD c with
    | none => simp
    | some d =>
      have := hexG_len cs (16 * x + d) (n + 1)
      simp only [List.length_cons]
      omega
theorem pow16 (n : Nat) (h : n ≤ 6) : 16 ^ n ≤ 16777216 := by
  have := Nat.pow_le_pow_right (n := 16) (by decide) h
  simpa using this
set_option maxHeartbeats 1000000 in
theorem digits_any (s : ByteArray) (m : Nat) (hm : m ≤ 6) (w : World) : Calls Tryz.prog 211 #[.string s, .int .i64 m] w fun e w' => e = .returned (.tuple #[.int .i64 (hexN ((bys s).take m)).1, .int .i64 ((hexN ((bys s).take m)).2 : Nat)]) ∧ w = w' := by
  have CD := Lib.hid cdigit_any
  obtain ⟨L, hL⟩ : ∃ L, L = (bys s).take m := ⟨_, rfl⟩
  have hl : L.length = min m s.size := by rw [hL, List.length_take, bys_length]
  have hLg : Hid (∀ j (h : j < s.size), j < m → L.drop j = (s[j].toNat : Int) :: L.drop (j + 1)) := by
    intro j h hj
    have h2 : j < L.length := by rw [hl]; omega
    rw [List.drop_eq_getElem_cons h2]
    congr 1
    have h3 : L[j]? = some (s[j].toNat : Int) := by rw [hL, List.getElem?_take_of_lt hj]; exact bys_get s j h
    rw [List.getElem?_eq_getElem h2] at h3
    exact Option.some.inj h3
  have hl2 : L.length ≤ 6 := by omega
  rw [← hL]
  clear hL
  go_enter Tryz.func211, Tryz.ntmps211
  go_wp2_with fail
  go_loopw [6, 7] (fun v6 v7 wr => ∃ (x : Int) (n : Nat), v6 = .int .i64 x ∧ v7 = .int .i64 n ∧ n ≤ L.length ∧ Hid (hexN L = hexG (L.drop n) x n) ∧ 0 ≤ x ∧ Hid (x < ((16 ^ n : Nat) : Int)) ∧ wr = w) (fun _ v7 _ => L.length - (intOf v7).toNat)
  case atStart => exact ⟨0, 0, rfl, rfl, by omega, rfl, by omega, (by decide : (0 : Int) < ((16 ^ 0 : Nat) : Int)), rfl⟩
  case round =>
    obtain ⟨x, n, rfl, rfl, hn, hH, hx0, hx1, rfl⟩ := hrel
    obtain ⟨wa, rfl⟩ : ∃ x, x = wr := ⟨_, rfl⟩
    have hp : x < 16777216 := by have := pow16 n (by omega); have := hx1.out; omega
    have last : L.length ≤ n → hexN L = (x, n) := fun h => by rw [hH.out, List.drop_of_length_le h]; rfl
    by_cases hms : (m : Int) ≤ (s.size : Int)
    · by_cases hnm : n < m
      · have h1 : (n : Int) < (m : Int) := by omega
        have h2 : n < s.size := by omega
        have hdr := hLg.out n h2 hnm
        have HD := Lib.hid hdr
        clear last hdr
        go_wp2_with fail
        refine (CD.out _ (by have := s[n].toNat_lt; omega) _).mono ?_
        rintro e w1 ⟨rfl, rfl⟩
        cases hd : hexD (s[n].toNat : Int) with
        | none =>
          have hl3 : hexN L = (x, n) := by rw [hH.out, HD.out]; unfold hexG; rw [hd]
          go_wp2_with fail
          go_ret2
          exact ⟨by first | rfl | (rw [hl3]; rfl), rfl⟩
        | some d =>
          obtain ⟨hd0, hd1⟩ := hexD_bd _ d hd
          have hl3 : Hid (hexN L = hexG (L.drop (n + 1)) (16 * x + d) (n + 1)) := by
            show _ = _
            rw [hH.out, HD.out, hexG, hd]
          have hl4 : Hid (16 * x + d < ((16 ^ (n + 1) : Nat) : Int)) := by
            show _ < _
            have := hx1.out
            rw [Nat.pow_succ]
            omega
          go_wp2_with fail
          go_roundw
          case rel => exact ⟨16 * x + d, n + 1, by go_num, by go_num, by omega, hl3, by omega, hl4, trivial⟩
          case measure => simp [intOf]; omega
      · have h1 : ¬ (n : Int) < (m : Int) := by omega
        have hl3 := last (by omega)
        clear last
        go_wp2_with fail
        go_ret2
        exact ⟨by first | rfl | (rw [hl3]; rfl), rfl⟩
    · by_cases hnm : n < s.size
      · have h1 : (n : Int) < (s.size : Int) := by omega
        have h2 : n < s.size := by omega
        have hdr := hLg.out n h2 (by omega)
        have HD := Lib.hid hdr
        clear last hdr
        go_wp2_with fail
        refine (CD.out _ (by have := s[n].toNat_lt; omega) _).mono ?_
        rintro e w1 ⟨rfl, rfl⟩
        cases hd : hexD (s[n].toNat : Int) with
        | none =>
          have hl3 : hexN L = (x, n) := by rw [hH.out, HD.out]; unfold hexG; rw [hd]
          go_wp2_with fail
          go_ret2
          exact ⟨by first | rfl | (rw [hl3]; rfl), rfl⟩
        | some d =>
          obtain ⟨hd0, hd1⟩ := hexD_bd _ d hd
          have hl3 : Hid (hexN L = hexG (L.drop (n + 1)) (16 * x + d) (n + 1)) := by
            show _ = _
            rw [hH.out, HD.out, hexG, hd]
          have hl4 : Hid (16 * x + d < ((16 ^ (n + 1) : Nat) : Int)) := by
            show _ < _
            have := hx1.out
            rw [Nat.pow_succ]
            omega
          go_wp2_with fail
          go_roundw
          case rel => exact ⟨16 * x + d, n + 1, by go_num, by go_num, by omega, hl3, by omega, hl4, trivial⟩
          case measure => simp [intOf]; omega
      · have h1 : ¬ (n : Int) < (s.size : Int) := by omega
        have hl3 := last (by omega)
        clear last
        go_wp2_with fail
        go_ret2
        exact ⟨by first | rfl | (rw [hl3]; rfl), rfl⟩
end Go.Proofs.YtmgkdmbifecekaaGreatDoor
