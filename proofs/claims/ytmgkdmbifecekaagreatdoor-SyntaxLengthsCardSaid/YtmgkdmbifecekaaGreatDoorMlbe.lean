/-
  How an argument that is a slice of steps is opened. Package syntax: small ones. Package syntax: texts of trees: the mathematics. Package class: the text of a point that is written as it is. Package syntax: the builder within a writer.
-/
import Derived.Test.YtmgkdmbifecekaaGreatDoorMlaa
import Derived.Test.YtmgkdmbifecekaaGreatDoorSrh
import Derived.Deep.Slices
import Derived.ChangeSame
import Derived.Test.YtmgkdmbifecekaaGreatDoorMlak
import Derived.Test.YtmgkdmbifecekaaGreatDoorMlar
import Derived.Test.YtmgkdmbifecekaaGreatDoorMlal
import Derived.Lib.OthersKept
import Derived.Lib.Builder
import Derived.Lib.UnsafeStr
set_option linter.all false
set_option linter.unusedSimpArgs false
set_option linter.unusedVariables false
set_option linter.unusedSectionVars false
namespace Go.Proofs.YtmgkdmbifecekaaGreatDoor
open Go.ChangeShapes Go.WideShapes Go.ChangeAt Go.RowKit Go.WideMaps Go.WideElems
theorem smalls_cells : ∀ (L : List (Int × Int × Int)) (j : Nat) (u : Value), (smalls L)[j]? = some u → ∃ i x k, L[i]? = some x ∧ j = i * 3 + k ∧ (smV x)[k]? = some u
  | [], j, u, h => by simp [smalls] at h
  | x :: L, j, u, h => by
    unfold smalls at h
    rw [List.flatMap_cons] at h
    by_cases hj : j < 3
    · rw [List.getElem?_append_left (by simp [smV]; omega)] at h
      exact ⟨0, x, j, rfl, by omega, h⟩
    · rw [List.getElem?_append_right (by simp [smV]; omega)] at h
      obtain ⟨i, y, k, h1, h2, h3⟩ := smalls_cells L (j - 3) u h
      exact ⟨i + 1, y, k, h1, by omega, h3⟩
theorem cellsU8 : Tryz.prog.cellsOf 5 = 1 := by kernel_rfl
theorem cellsSm : Tryz.prog.cellsOf 83 = 3 := by kernel_rfl
section
variable {H : Type} {enc : TypeId × Value → H} {W : World} {base : Nat}
set_option maxRecDepth 100000 in
theorem open_sm3 {v : Value} {d : DataW H} {p : List MemPlace}
    (hval : Value.okWide Tryz.prog W .any base 30 v) (hd : DataW.Trod enc Tryz.prog W 0 (fun _ => true) true 30 v d p) :
    ∃ (A : Option Addr) (c : Nat) (L : List (Int × Int × Int)), v = .slice A L.length c ∧ L.length ≤ c ∧ c ≤ maxLen ∧ (∀ x ∈ L, SmOk x) ∧ Rd W W.heap.size A (L.length * 3) (smalls L) := by
  obtain ⟨a0, len, cap, rfl⟩ := okWide_slice Tryz.underlying30 hval
  obtain ⟨fuel, hf⟩ := hd
  rcases Go.Deep.open_slice Tryz.underlying30 hf with ⟨hcs, hx⟩ | ⟨a, len', cap', m, n, D, Pl, hcs, _, hl, hm, hmm, hx, hcell⟩
  · have e : Value.slice a0 len cap = .slice none 0 0 := List.head_eq_of_cons_eq (show [Value.slice a0 len cap] = [Value.slice none 0 0] from hcs)
    injection e with e1 e2 e3
    subst e1 e2 e3
    exact ⟨none, 0, [], rfl, Nat.le_refl _, by simp [maxLen], (fun _ h => by cases h), Rd.nil⟩
  · have e : Value.slice a0 len cap = .slice (some a) len' cap' := List.head_eq_of_cons_eq (show [Value.slice a0 len cap] = [Value.slice (some a) len' cap'] from hcs)
    injection e with e1 e2 e3
    subst e1 e2 e3
    simp only [if_true] at hmm
    have each : ∀ i, i < len → ∃ x : Int × Int × Int, SmOk x ∧ ∀ j u, (smV x)[j]? = some u → W.cell? ((a.add (i * 3)).add j) = some u := by
      intro i hi
      obtain ⟨cs', h1, h2⟩ := hcell i (by omega)
      rw [cellsSm] at h1
      obtain ⟨_, hlen, hcl⟩ := World.cells?_some h1
      obtain ⟨xs, k, hk, hxy, _, hxl, hfl⟩ := DataW.trod_struct Tryz.underlying83 h2
      match xs, hxl, cs', hlen with
      | [y0, y1, y2], _, [v0, v1, v2], _ =>
        have g0 := hfl 0 _ rfl
        have g1 := hfl 1 _ rfl
        have g2 := hfl 2 _ rfl
        simp [cellsU8] at g0 g1 g2
        obtain ⟨x0, e0, _, b0⟩ := DataW.trod_int Tryz.underlying5 g0
        obtain ⟨x1, e1, _, b1⟩ := DataW.trod_int Tryz.underlying5 g1
        obtain ⟨x2, e2, _, b2⟩ := DataW.trod_int Tryz.underlying5 g2
        have b0 := bounds_u8 b0
        have b1 := bounds_u8 b1
        have b2 := bounds_u8 b2
        have f0 := hcl 0 (by omega)
        have f1 := hcl 1 (by omega)
        have f2 := hcl 2 (by omega)
        have q0 : v0 = .int .u8 x0 := List.head_eq_of_cons_eq e0
        have q1 : v1 = .int .u8 x1 := List.head_eq_of_cons_eq e1
        have q2 : v2 = .int .u8 x2 := List.head_eq_of_cons_eq e2
        subst q0 q1 q2
        refine ⟨(x0, x1, x2), ⟨b0, b1, b2⟩, ?_⟩
        intro j u hu
        rcases j with _ | _ | _ | j
        · cases hu; simpa using f0
        · cases hu; simpa using f1
        · cases hu; simpa using f2
        · simp [smV] at hu
    obtain ⟨f, hfx⟩ := Go.Deep.choose_lt each
    refine ⟨some a, cap, (List.range len).map f, by simp, by simpa using hl, hm, ?_, ?_⟩
    · intro x hx
      obtain ⟨i, hi, rfl⟩ := List.mem_map.1 hx
      exact (hfx i (List.mem_range.1 hi)).1
    · have hln : ((List.range len).map f).length = len := by simp
      rw [hln]
      have hsl : ∀ L : List (Int × Int × Int), (smalls L).length = L.length * 3 := by
        intro L
        induction L with
        | nil => rfl
        | cons x L ih => unfold smalls at ih ⊢; rw [List.flatMap_cons, List.length_append, ih, List.length_cons]; simp [smV]; omega
      have hc : ∀ j u, (smalls ((List.range len).map f))[j]? = some u → W.cell? (a.add j) = some u := by
        intro j u hu
        obtain ⟨i, x, k, h1, rfl, h3⟩ := smalls_cells _ j u hu
        rw [List.getElem?_map] at h1
        obtain ⟨i', hi', rfl⟩ := Option.map_eq_some_iff.1 h1
        obtain ⟨hi1, rfl⟩ := List.getElem?_eq_some_iff.1 hi'
        simp only [List.length_range] at hi1
        simp only [List.getElem_range] at h3
        rw [← Addr.add_add]
        exact (hfx i hi1).2 k u h3
      refine ⟨by rw [hsl, hln], fun h0 => ⟨a, rfl, ?_, hc⟩⟩
      have hp : 0 < (smalls ((List.range len).map f)).length := by rw [hsl, hln]; exact h0
      have := World.block_lt_of_cell? _ _ (hc 0 _ (List.getElem?_eq_getElem hp))
      rwa [addBlock] at this
end
end Go.Proofs.YtmgkdmbifecekaaGreatDoor
namespace Go.Proofs.YtmgkdmbifecekaaGreatDoor
open Go.RowKit Go.Shelf
/-- Whether a part has to be enclosed. -/
def aprF (k o : Int) : Bool := if o = 3 then (decide (k = 3) || decide (k = 4) || decide (k = 1)) else if o = 4 then decide (k = 4) else if o = 5 then (decide (k ≠ 2) && decide (k ≠ 6)) else false
theorem apart_any (k o : Int) (w : World) : Calls Tryz.prog 93 #[.int .u8 k, .int .u8 o] w fun e w' => e = .returned (.bool (aprF k o)) ∧ w = w' := by
  have E : ∀ n : Int, k ≠ n → (k == n) = false := fun n h => by rw [beq_eq_false_iff_ne]; exact h
  have N : ∀ n : Int, k ≠ n → (k != n) = true := fun n h => by rw [bne_iff_ne]; exact h
  have EO : ∀ n : Int, o ≠ n → (o == n) = false := fun n h => by rw [beq_eq_false_iff_ne]; exact h
  unfold aprF
  by_cases o3 : o = 3
  · subst o3
    rw [if_pos rfl]
    clear EO N
    by_cases k3 : k = 3
    · subst k3; clear E
      go_enter Tryz.func93, Tryz.ntmps93
      go_wp2_with fail
      go_ret
      exact ⟨by first | rfl | simp, rfl⟩
    · by_cases k4 : k = 4
      · subst k4; clear E
        go_enter Tryz.func93, Tryz.ntmps93
        go_wp2_with fail
        go_ret
        exact ⟨by first | rfl | simp, rfl⟩
      · by_cases k1 : k = 1
        · subst k1; clear E
          go_enter Tryz.func93, Tryz.ntmps93
          go_wp2_with fail
          go_ret
          exact ⟨by first | rfl | simp, rfl⟩
        · have a3 := E 3 k3; have a4 := E 4 k4; have a1 := E 1 k1
          clear E
          go_enter Tryz.func93, Tryz.ntmps93
          go_wp2_with fail
          go_ret
          exact ⟨by first | rfl | (simp [*]; done), rfl⟩
  · rw [if_neg o3]
    by_cases o4 : o = 4
    · subst o4
      rw [if_pos rfl]
      clear EO N
      by_cases k4 : k = 4
      · subst k4; clear E
        go_enter Tryz.func93, Tryz.ntmps93
        go_wp2_with fail
        go_ret
        exact ⟨by first | rfl | simp, rfl⟩
      · have a4 := E 4 k4
        clear E
        go_enter Tryz.func93, Tryz.ntmps93
        go_wp2_with fail
        go_ret
        exact ⟨by first | rfl | (simp [*]; done), rfl⟩
    · rw [if_neg o4]
      by_cases o5 : o = 5
      · subst o5
        rw [if_pos rfl]
        clear EO
        by_cases k2 : k = 2
        · subst k2; clear E N
          go_enter Tryz.func93, Tryz.ntmps93
          go_wp2_with fail
          go_ret
          exact ⟨by first | rfl | simp, rfl⟩
        · by_cases k6 : k = 6
          · subst k6; clear E N
            go_enter Tryz.func93, Tryz.ntmps93
            go_wp2_with fail
            go_ret
            exact ⟨by first | rfl | simp, rfl⟩
          · have a2 := N 2 k2; have a6 := N 6 k6
            clear E N
            go_enter Tryz.func93, Tryz.ntmps93
            go_wp2_with fail
            go_ret
            exact ⟨by first | rfl | (simp [*]; done), rfl⟩
      · have b3 := EO 3 o3; have b4 := EO 4 o4; have b5 := EO 5 o5
        rw [if_neg o5]
        clear E N EO
        go_enter Tryz.func93, Tryz.ntmps93
        go_wp2_with fail
        go_ret
        exact ⟨by first | rfl | (simp [*]; done), rfl⟩
end Go.Proofs.YtmgkdmbifecekaaGreatDoor
namespace Go.Proofs.YtmgkdmbifecekaaGreatDoor
open Go.RowKit Go.Shelf
/-- A number below 100 in decimal. -/
def decT (n : Nat) : Bs := if n < 10 then [UInt8.ofNat (48 + n)] else if n < 100 then [UInt8.ofNat (48 + n / 10), UInt8.ofNat (48 + n % 10)] else Lib.decDigits n
theorem decT_eq (n : Nat) : Lib.decDigits n = decT n := by
  unfold decT
  split
  · rename_i h
    rw [Lib.decDigits, dif_pos h]
  · rename_i h
    split
    · rename_i h2
      rw [Lib.decDigits, dif_neg h, Lib.decDigits, dif_pos (by omega)]
      rfl
    · rfl
/-- The first quantifier that says how many times. -/
def tmsS (a b : Int) : Bs :=
  if a = 0 ∧ b = -1 then [42] else if a = 1 ∧ b = -1 then [43] else if a = 0 ∧ b = 1 then [63]
  else if a = b then [123] ++ (decT a.toNat ++ [125])
  else if b = -1 then [123] ++ (decT a.toNat ++ [44, 125])
  else [123] ++ (decT a.toNat ++ ([44] ++ (decT b.toNat ++ [125])))
def quaS (a b : Int) (z : Bool) : Bs := tmsS a b ++ if z = true then [63] else []
/-- Points that are written as they are. -/
def plainP (c : Int) : Bool := decide (33 ≤ c) && (decide (c ≤ 126) && (!decide (c = 94) && !([92, 91, 93, 45] : Bs).contains (UInt8.ofNat c.toNat)))
def hexU (n : Nat) : UInt8 := if n < 10 then UInt8.ofNat (48 + n) else UInt8.ofNat (55 + n)
def hexT : Nat → Nat → Bs
  | 0, _ => []
  | k + 1, n => if n < 16 then [hexU n] else hexT k (n / 16) ++ [hexU (n % 16)]
def ptS (c : Int) : Bs := if plainP c = true then [UInt8.ofNat c.toNat] else [92, 120, 123] ++ (hexT 6 c.toNat ++ [125])
def rgS (r : Rng) : Bs := ptS r.1 ++ if r.1 < r.2 then [45] ++ ptS r.2 else []
def rgsS (L : List Rng) : Bs := L.flatMap rgS
/-- The text of a set, as a class. -/
def clsS (L : List Rng) : Bs := if L = [] then [91, 94, 92, 120, 123, 48, 125, 45, 92, 120, 123, 49, 48, 70, 70, 70, 70, 125, 93] else [91] ++ (rgsS L ++ [93])
/-- The text of a set, as a pattern. -/
def setS (L : List Rng) : Bs :=
  if L = allR then [46] else match L with
    | [(c, d)] => if c ≠ d then clsS L else if c < 33 ∨ 126 < c then (clsS L).dropLast.drop 1 else if noAt.contains (UInt8.ofNat c.toNat) = true then [92, UInt8.ofNat c.toNat] else [UInt8.ofNat c.toNat]
    | _ => clsS L
def kindT : Tree → Int
  | .mk k _ _ _ _ _ => k
def befS (k : Int) (set : List Rng) : Bs := if k = 2 then setS set else if k = 6 then [40] else []
def btwS (k : Int) : Bs := if k = 4 then [124] else []
def behS (k mn mx : Int) (z : Bool) : Bs := if k = 5 then quaS mn mx z else if k = 6 then [41] else []
mutual
/-- The text of a tree. -/
def textT : Tree → Bs
  | .mk k set mn mx lz subs => befS k set ++ (textL k true subs ++ behS k mn mx lz)
def textL (of : Int) (first : Bool) : List Tree → Bs
  | [] => []
  | t :: ts => (if first = true then [] else btwS of) ++ ((if aprF (kindT t) of = true then [40, 63, 58] ++ (textT t ++ [41]) else textT t) ++ textL of false ts)
end
/-- The text of a part. -/
def partS (of : Int) (t : Tree) : Bs := if aprF (kindT t) of = true then [40, 63, 58] ++ (textT t ++ [41]) else textT t
end Go.Proofs.YtmgkdmbifecekaaGreatDoor
namespace Go.Proofs.YtmgkdmbifecekaaGreatDoor
open Go.RowKit Go.Shelf
theorem enc_ascii (c : Int) (hc : 0 ≤ c ∧ c < 128) : Utf8.encode c = b8 [UInt8.ofNat c.toNat] := by
  have h1 : Utf8.valid c = true := by unfold Utf8.valid; simp; omega
  have h2 : c.toNat < 128 := by omega
  unfold Utf8.encode
  simp only [h1, if_true]
  rw [if_pos h2]
theorem contains_l (l : Bs) (c : Int) (hc : 0 ≤ c ∧ c < 128) (w : World) : Calls Tryz.prog 91 #[.string (b8 l), .int .i32 c] w fun e w' => e = .returned (.bool (l.contains (UInt8.ofNat c.toNat))) ∧ w = w' := by
  refine (sh_strings_ContainsRune_ascii (b8 l) c w (by omega) (by omega)).mono ?_
  rintro e w' ⟨rfl, rfl⟩
  rw [b8_list, show c.toNat.toUInt8 = UInt8.ofNat c.toNat from rfl, idx_mem]
  exact ⟨rfl, rfl⟩
set_option maxRecDepth 10000 in
set_option maxHeartbeats 2000000 in
theorem pt_plain (c : Int) (h : plainP c = true) (w : World) : Calls Tryz.prog 115 #[.int .i64 c] w fun e w' => e = .returned (.string (b8 (ptS c))) ∧ w = w' := by
  have CV := Lib.hid (fun w => visible_any c w)
  have hp : Hid (ptS c = [UInt8.ofNat c.toNat]) := by show _ = _; unfold ptS; rw [if_pos h]
  unfold plainP at h
  rw [Bool.and_eq_true, Bool.and_eq_true, Bool.and_eq_true, decide_eq_true_eq, decide_eq_true_eq, Bool.not_eq_true', Bool.not_eq_true', decide_eq_false_iff_not] at h
  obtain ⟨h1, h2, h3, h4⟩ := h
  have CC := Lib.hid (fun w => contains_l [92, 91, 93, 45] c (by omega) w)
  rw [h4] at CC
  have hv : visB c = true := by unfold visB; simp; omega
  rw [hv] at CV
  have hn : (c == 94) = false := by rw [beq_eq_false_iff_ne]; exact h3
  have hw : IntKind.i32.wrap c = c := by rw [IntKind.wrap_i32]; omega
  clear h4 hv
  go_enter Tryz.func115, Tryz.ntmps115
  go_wp2_with (first | (go_at_call 133; refine (CV.out _).mono ?_; rintro e w1 ⟨rfl, rfl⟩) | (go_at_call 91; refine (CC.out _).mono ?_; rintro e w1 ⟨rfl, rfl⟩))
  go_ret
  rw [hp.out, enc_ascii c (by omega)]
  exact ⟨rfl, rfl⟩
end Go.Proofs.YtmgkdmbifecekaaGreatDoor
namespace Go.Proofs.YtmgkdmbifecekaaGreatDoor
open Go.RowKit Go.Shelf
/-- A writer that holds bytes. -/
abbrev WrAt (T : TypeId) (B b : Nat) (p : Value) (l : Bs) (w : World) : Prop := Lib.BuilderAtF T 5 B b p (Lib.byteCells l) w
abbrev IsWr (T : TypeId) (B b : Nat) (l : Bs) (w : World) : Prop := Lib.IsBuilderF T 5 B b (Lib.byteCells l) w
abbrev OtK (b : Nat) (w w' : World) : Prop := Lib.OthersKept 5 (some b) w w'
theorem sizeBld : (Tryz.prog.info? 88).map (·.size) = some 2 := by kernel_rfl
/-- A builder may lie there. -/
structure BldT (T : TypeId) : Prop where
  lies : liesAt Tryz.prog Tryz.prog.depth T (2 / Tryz.prog.cellsOf T) 0 88 1 = true
  ne : T ≠ 5
theorem bldWr : BldT 90 := ⟨by kernel_rfl, by decide⟩
theorem bldSb : BldT 88 := ⟨by kernel_rfl, by decide⟩
theorem cells_app (l m : Bs) : Lib.byteCells (l ++ m) = Lib.byteCells l ++ Lib.byteCells m := by simp [Lib.byteCells]
theorem strCells_b8 (l : Bs) : Lib.strCells (b8 l) = Lib.byteCells l := rfl
set_option maxHeartbeats 1000000 in
set_option maxRecDepth 100000 in
theorem wcc_used (b : Nat) (w : World) (h0 : w.cell? ⟨b, 0, none⟩ = some (.pointer (some ⟨b, 0, none⟩))) : Calls Tryz.prog 78 #[.pointer (some ⟨b, 0, none⟩)] w fun e w' => e = .returned (.tuple #[]) ∧ w' = w := by
  obtain ⟨j, hj, hjs⟩ := Option.map_eq_some_iff.1 sizeBld
  go_enter Tryz.func78, Tryz.ntmps78
  go_wp2
  rw [Lib.run_neq_ptr_same w _ Tryz.underlying85 hj]
  go_wp2
  go_end0
  exact ⟨rfl, rfl⟩
set_option maxHeartbeats 1000000 in
set_option maxRecDepth 100000 in
theorem wcc_fresh (T : TypeId) (hT : BldT T) (b : Nat) (w : World) (h0 : w.cell? ⟨b, 0, none⟩ = some (.pointer none)) (hsh : w.shape? b = some (T, 2)) (hfz : w.frozen? ⟨b, 0, none⟩ = false) :
    Calls Tryz.prog 78 #[.pointer (some ⟨b, 0, none⟩)] w fun e w' => e = .returned (.tuple #[]) ∧ w' = w.setCell ⟨b, 0, none⟩ (.pointer (some ⟨b, 0, none⟩)) := by
  obtain ⟨j, hj, hjs⟩ := Option.map_eq_some_iff.1 sizeBld
  go_enter Tryz.func78, Tryz.ntmps78
  go_wp2
  rw [Lib.run_to_unsafe w ⟨b, 0, none⟩ Tryz.underlying85 Tryz.underlying171 hj (by rw [hjs]; decide) hsh (Nat.zero_lt_succ 1)]
  simp only [Result.andThen]
  rw [Oper.upon_value]
  go_wp2
  rw [run_callFunc_extern Tryz.func103 (by kernel_rfl) (by kernel_rfl) (by kernel_rfl) (e := Extern.AbiNoEscape.same) (by kernel_rfl)]
  rw [Lib.run_noEscape]
  simp only [Result.andThen]
  rw [Oper.upon_value]
  go_wp2
  rw [Lib.run_from_unsafe w ⟨b, 0, none⟩ Tryz.underlying171 Tryz.underlying85 hj hsh hT.lies]
  simp only [Result.andThen]
  rw [Oper.upon_value]
  go_wp2
  go_end0
  exact ⟨rfl, rfl⟩
theorem wcc_any (T : TypeId) (hT : BldT T) (B b : Nat) (l : Bs) (w : World) (h : IsWr T B b l w) : Calls Tryz.prog 78 #[.pointer (some ⟨b, 0, none⟩)] w fun e w' => e = .returned (.tuple #[]) ∧ WrAt T B b (.pointer (some ⟨b, 0, none⟩)) l w' ∧ Below B w w' ∧ OtK b w w' := by
  rcases h with h | h
  · refine (wcc_fresh T hT b w h.cell0 h.shape h.frozen0).mono ?_
    rintro e w' ⟨rfl, rfl⟩
    exact ⟨rfl, h.used _, (Below.refl B w).setCell (p := ⟨b, 0, none⟩) h.1 _, (Lib.OthersKept.refl _ _ w).setCell ⟨b, 0, none⟩ rfl _⟩
  · refine (wcc_used b w h.cell0).mono ?_
    rintro e w' ⟨rfl, rfl⟩
    exact ⟨rfl, h, Below.refl B _, Lib.OthersKept.refl _ _ _⟩
theorem infoU8 : ∃ i, Tryz.prog.info? 5 = some i ∧ i.zero = some (.int .u8 0) ∧ i.size = 1 ∧ i.bytes = 1 := info_parts (by kernel_rfl)
set_option maxHeartbeats 2000000 in
set_option maxRecDepth 100000 in
/-- WriteString. -/
theorem wws_any (T : TypeId) (hT : BldT T) (B b : Nat) (l m : Bs) (w : World) (h : IsWr T B b l w) (hl : l.length + m.length ≤ 1000000) (hB : B ≤ w.heap.size) : Calls Tryz.prog 52 #[.pointer (some ⟨b, 0, none⟩), .string (b8 m)] w fun e w' => e = .returned (.tuple #[.int .i64 m.length, .nilIface]) ∧ IsWr T B b (l ++ m) w' ∧ Below B w w' ∧ OtK b w w' := by
  obtain ⟨i0, hi, hz0, hz1, hz2⟩ := infoU8
  have CC := Lib.hid (wcc_any T hT B b l w h)
  have hlb : (Lib.byteCells l).length = l.length := Lib.byteCells_length l
  have hmb : (b8 m).size = m.length := rfl
  obtain ⟨n, hn⟩ : ∃ n, n = m.length := ⟨_, rfl⟩
  have HN := Lib.hid hn
  clear h hn
  go_enter Tryz.func52, Tryz.ntmps52
  go_wp2_with (go_at_call 78; refine CC.out.mono ?_)
  rintro e w1 ⟨rfl, h1, hb1, hk1⟩
  obtain ⟨hB1, v, hbk, hown, hne⟩ := h1
  have c0 : w1.cell? ⟨b, 0, none⟩ = some (.pointer (some ⟨b, 0, none⟩)) := by rw [Lib.cell_of_heap hbk]; rfl
  have c1 : w1.cell? ⟨b, 1, none⟩ = some v := by rw [Lib.cell_of_heap hbk]; rfl
  go_wp2_with (at_builtin; refine Lib.wpList_append_own_stringF _ rfl _ _ 86 9 rfl B 5 i0 Tryz.underlying86 Tryz.underlying9 hi hz0 hz1 hz2 _ _ _ rfl hown (b8 m) rfl ?c3 ?c4 ?c5 ?_)
  case c3 => unfold maxLen; omega
  case c4 => omega
  case c5 => have := hb1.size; omega
  intro v' w2 hown' hgrow _
  have hlt : b < w1.heap.size := by
    rcases Nat.lt_or_ge b w1.heap.size with h' | h'
    · exact h'
    · simp [Array.getElem?_eq_none h'] at hbk
  have hb2 : w2.heap[b]? = some (.cells #[.pointer (some ⟨b, 0, none⟩), v] T (0, 0)) := by
    rw [hgrow.block b hlt (fun e => hne e.symm)]
    exact hbk
  have d0 : w2.cell? ⟨b, 0, none⟩ = some (.pointer (some ⟨b, 0, none⟩)) := by rw [Lib.cell_of_heap hb2]; rfl
  have d1 : w2.cell? ⟨b, 1, none⟩ = some v := by rw [Lib.cell_of_heap hb2]; rfl
  have f1 : w2.frozen? ⟨b, 1, none⟩ = false := Lib.frozen_of_heap hb2 1
  obtain ⟨ao, n', cap, rfl⟩ : ∃ ao n' cap, v' = .slice ao n' cap := by
    rcases hown'.2 with ⟨hv, _⟩ | ⟨g, cap, cur, fz, hv, _⟩
    · exact ⟨_, _, _, hv⟩
    · exact ⟨_, _, _, hv⟩
  go_wp2
  go_ret2
  refine ⟨rfl, .inr ?_, ?_, (hk1.grown hgrow (Lib.ownsRowF_kind hown)).setCell ⟨b, 1, none⟩ rfl _⟩
  · exact Lib.BuilderAtF.put (T := T) (e := 5) hB1 hb2 (bs' := Lib.byteCells (l ++ m)) (by rw [Lib.byteCells_length, List.length_append, cells_app, ← strCells_b8]; exact hown') hT.ne
  · exact (hb1.grown hgrow (by have := hb1.size; omega) (fun k hk => (hown.lt k hk).1)).setCell (p := ⟨b, 1, none⟩) hB1 _
/-- Len. -/
theorem wln_any (T : TypeId) (B b : Nat) (l : Bs) (w : World) (h : IsWr T B b l w) : Calls Tryz.prog 42 #[.pointer (some ⟨b, 0, none⟩)] w fun e w' => e = .returned (.int .i64 l.length) ∧ w' = w := by
  obtain ⟨p, hB, v, hbk, hown, hne⟩ : ∃ p, WrAt T B b p l w := by
    rcases h with h | h
    · exact ⟨_, h⟩
    · exact ⟨_, h⟩
  rw [Lib.byteCells_length] at hown
  obtain ⟨ao, cap, rfl⟩ : ∃ ao cap, v = .slice ao l.length cap := by
    rcases hown.2 with ⟨hv, h0⟩ | ⟨g, cap, cur, fz, hv, _⟩
    · exact ⟨none, 0, by rw [hv, h0]⟩
    · exact ⟨_, _, hv⟩
  have c1 : w.cell? ⟨b, 1, none⟩ = some (.slice ao l.length cap) := by rw [Lib.cell_of_heap hbk]; rfl
  clear hown hbk hne
  go_enter Tryz.func42, Tryz.ntmps42
  go_wp2
  go_ret
  exact ⟨rfl, rfl⟩
set_option maxHeartbeats 2000000 in
set_option maxRecDepth 100000 in
/-- String. -/
theorem wst_any (T : TypeId) (B b : Nat) (l : Bs) (w : World) (h : IsWr T B b l w) (h0 : l ≠ []) : Calls Tryz.prog 43 #[.pointer (some ⟨b, 0, none⟩)] w fun e w' => e = .returned (.string (b8 l)) ∧ Below B w w' := by
  obtain ⟨p, hB, v, hbk, hown, hne⟩ : ∃ p, WrAt T B b p l w := by
    rcases h with h | h
    · exact ⟨_, h⟩
    · exact ⟨_, h⟩
  have hl0 : l.length ≠ 0 := by simpa using h0
  rw [Lib.byteCells_length] at hown
  obtain ⟨g, cap, cur, fz, rfl, hbg, hg, hfz, hnc, hcm, hcs, htake⟩ : ∃ g cap cur fz, v = .slice (some ⟨g, 0, none⟩) l.length cap ∧ B ≤ g ∧ w.heap[g]? = some (.cells cur 5 fz) ∧ fz.2 ≤ l.length * 1 ∧ l.length ≤ cap ∧ cap ≤ maxLen ∧ cur.size = cap * 1 ∧ cur.toList.take (l.length * 1) = Lib.byteCells l := by
    rcases hown.2 with ⟨_, hz⟩ | ⟨g, cap, cur, fz, hv, r⟩
    · exact absurd hz hl0
    · exact ⟨g, cap, cur, fz, hv, r⟩
  have c1 : w.drew.cell? ⟨b, 1, none⟩ = some (.slice (some ⟨g, 0, none⟩) l.length cap) := by
    have : w.drew.heap[b]? = some (.cells #[p, .slice (some ⟨g, 0, none⟩) l.length cap] T (0, 0)) := hbk
    rw [Lib.cell_of_heap this]; rfl
  have hSD : (Builtin.unsafeSliceData_ #[86] 128 #[.slice (some ⟨g, 0, none⟩) l.length cap]).run Tryz.prog w.drew = .ok (.pointer (some ⟨g, 0, none⟩)) w.drew :=
    Lib.run_unsafeSliceData_row _ _ _ _ _ _ (by omega)
  have hUS : (Builtin.unsafeString_ #[128, 3] 9 #[.pointer (some ⟨g, 0, none⟩), .int .i64 l.length]).run Tryz.prog w.drew = .ok (.string ⟨l.toArray⟩) (w.drew.freeze ⟨g, 0, none⟩ l.length) := by
    refine Lib.run_unsafeString_row w.drew 128 3 9 5 Tryz.underlying128 (by kernel_rfl) g cur.size (by have hg' : w.drew.heap[g]? = some (.cells cur 5 fz) := hg; simp [World.shape?, hg']) l h0 (by omega) (by unfold maxLen at hcm; omega) ?_
    intro j x hx
    have := hown.cells (g := g) rfl j (.int .u8 x.toNat) (by simp [Lib.byteCells, hx])
    exact this
  go_enter Tryz.func43, Tryz.ntmps43
  go_wp2
  go_region
  all_goals (go_wp2; go_ret; exact ⟨rfl, Lib.below_freeze (Below.drew (Below.refl B w)) (p := ⟨g, 0, none⟩) hbg _⟩)
end Go.Proofs.YtmgkdmbifecekaaGreatDoor
