/-
  Package syntax: parts joined. Package syntax: told, of what said answers. Package syntax: Right, Nullable, Groups, Lengths, of what told answers. Package syntax: what trees say: the mathematics. Package class: the named sets. Package syntax: a reader's named sets.
-/
import Derived.Test.YtmgkdmbifecekaaGreatDoorSyU
import Derived.Test.YtmgkdmbifecekaaGreatDoorMmaf
set_option linter.all false
set_option linter.unusedSimpArgs false
set_option linter.unusedVariables false
set_option linter.unusedSectionVars false
namespace Go.Proofs.YtmgkdmbifecekaaGreatDoor
open Go.RowKit Go.Shelf
theorem sizeNd : (Tryz.prog.info? 25).map (·.size) = some 6 := by kernel_rfl
theorem joined_0 (k : Int) (A : Option Addr) (c : Nat) (w : World) : Calls Tryz.prog 68 #[.int .u8 k, .slice A 0 c] w fun e w' => e = .returned (ndV 1 none 0 0 0 0 false none 0 0) ∧ Kept w w' := by
  go_enter Tryz.func68, Tryz.ntmps68
  go_wp2_with fail
  exact bodyPost_ret (results_cell_row Tryz.results68 _ _ w.heap.size _ #[.int .u8 1, .slice none 0 0, .int .i64 0, .int .i64 0, .bool false, .slice none 0 0] (0, 0) _ rfl (heap_alloc_new _ _) Tryz.underlying25 rfl sizeNd) rfl ⟨rfl, (Below.refl _ w).alloc (Nat.le_refl _) _⟩
theorem joined_2 (k : Int) (A : Option Addr) (n c : Nat) (hn : 2 ≤ n) (w : World) : Calls Tryz.prog 68 #[.int .u8 k, .slice A n c] w fun e w' => e = .returned (ndV k none 0 0 0 0 false A n c) ∧ Kept w w' := by
  have h0 : ((n : Int) == 0) = false := by rw [beq_eq_false_iff_ne]; omega
  have h1 : ((n : Int) == 1) = false := by rw [beq_eq_false_iff_ne]; omega
  go_enter Tryz.func68, Tryz.ntmps68
  go_wp2_with fail
  exact bodyPost_ret (results_cell_row Tryz.results68 _ _ w.heap.size _ #[.int .u8 k, .slice none 0 0, .int .i64 0, .int .i64 0, .bool false, .slice A n c] (0, 0) _ rfl (heap_alloc_new _ _) Tryz.underlying25 rfl sizeNd) rfl ⟨rfl, (Below.refl _ w).alloc (Nat.le_refl _) _⟩
theorem joined_1 (k : Int) (ad : Addr) (c : Nat) (kd : Int) (A1 : Option Addr) (sn c1 : Nat) (mn mx : Int) (lz : Bool) (A2 : Option Addr) (un c2 : Nat) (w : World) (hb : ad.block < w.heap.size)
    (h : ∀ j v, (#[.int .u8 kd, .slice A1 sn c1, .int .i64 mn, .int .i64 mx, .bool lz, .slice A2 un c2] : Array Value)[j]? = some v → w.cell? (ad.add j) = some v) :
    Calls Tryz.prog 68 #[.int .u8 k, .slice (some ad) 1 c] w fun e w' => e = .returned (ndV kd A1 sn c1 mn mx lz A2 un c2) ∧ Kept w w' := by
  have Hc : Hid (∀ W, Kept w W → ∀ j v, (#[.int .u8 kd, .slice A1 sn c1, .int .i64 mn, .int .i64 mx, .bool lz, .slice A2 un c2] : Array Value)[j]? = some v → W.cell? (ad.add j) = some v) := fun W hW j v hv => (Below.cell hW (by rw [addBlock]; exact hb)).trans (h j v hv)
  have hK : Kept w (w.alloc (.cells #[.int .u8 0, .slice none 0 0, .int .i64 0, .int .i64 0, .bool false, .slice none 0 0] 25)) := (Below.refl _ w).alloc (Nat.le_refl _) _
  have Hcl := Lib.hid (Hc.out _ hK)
  clear h Hc hK
  go_enter Tryz.func68, Tryz.ntmps68
  go_wp2_with (refine wpList_load_at rfl 25 (.tmp 13) rfl ad rfl #[.int .u8 kd, .slice A1 sn c1, .int .i64 mn, .int .i64 mx, .bool lz, .slice A2 un c2] _ Hcl.out Tryz.underlying25 rfl sizeNd ?_)
  exact bodyPost_ret (results_cell_row Tryz.results68 _ _ w.heap.size _ #[.int .u8 kd, .slice A1 sn c1, .int .i64 mn, .int .i64 mx, .bool lz, .slice A2 un c2] (0, 0) _ rfl (heap_alloc_new _ _) Tryz.underlying25 rfl sizeNd) rfl ⟨rfl, (Below.refl _ w).alloc (Nat.le_refl _) _⟩
end Go.Proofs.YtmgkdmbifecekaaGreatDoor
namespace Go.Proofs.YtmgkdmbifecekaaGreatDoor
open Go.RowKit Go.Shelf
def okT (f : Fct) (ok : Bool) : Bool := ok && !f.loops && decide (f.groups ≤ 30) && decide (f.depth ≤ 40)
def zeroT : Fct := ⟨0, 0, 0, 0, false, false⟩
theorem sizeFc : (Tryz.prog.info? 98).map (·.size) = some 6 := by kernel_rfl
/-- Facts in a cell, and a bool: what a function hands back. -/
theorem res_facts {fn : Func} {p u : Tmp} (h : fn.results = #[.cell p 98, .tmp u]) (tmps : Array Value) (w : World) (g : Nat) (cs : Array Value) (hs : cs.size = 6) (hp : tmps.getD p undef = .pointer (some ⟨g, 0, none⟩)) (hg : w.heap[g]? = some (.cells cs 98 (0, 0))) :
    (results fn tmps).run Tryz.prog w = .ok (.tuple #[.agg cs, tmps.getD u undef]) w := by
  rw [results_cell_tmp h, hp]
  have hl := run_loadVar_at (P := Tryz.prog) w ⟨g, 0, none⟩ 98 cs _ (fun j v hv => by rw [add0, cell_of_row _ _ _ _ _ _ hg]; exact hv) Tryz.underlying98 rfl (by rw [sizeFc, hs])
  simp [asAddr, hl, Result.andThen]
section
variable (k : Int) (A1 : Option Addr) (sn c1 : Nat) (mn mx : Int) (lz : Bool) (A2 : Option Addr) (un c2 : Nat) (w : World)
end
end Go.Proofs.YtmgkdmbifecekaaGreatDoor
namespace Go.Proofs.YtmgkdmbifecekaaGreatDoor
open Go.RowKit Go.Shelf
section
variable (k : Int) (A1 : Option Addr) (sn c1 : Nat) (mn mx : Int) (lz : Bool) (A2 : Option Addr) (un c2 : Nat) (w : World) (F : Fct) (b : Bool) (CT : Hid (∀ W, Kept w W → Calls Tryz.prog 46 #[ndV k A1 sn c1 mn mx lz A2 un c2] W fun e w' => e = .returned (.tuple #[fctV F, .bool b]) ∧ Kept W w'))
include CT
theorem right_of : Calls Tryz.prog 20 #[ndV k A1 sn c1 mn mx lz A2 un c2] w fun e w' => e = .returned (.bool b) ∧ Kept w w' := by
  have HK0 : Hid (Kept w (w.alloc (.cells #[.int .u8 k, .slice A1 sn c1, .int .i64 mn, .int .i64 mx, .bool lz, .slice A2 un c2] 25))) := (Below.refl _ w).alloc (Nat.le_refl _) _
  have C1 := Lib.hid (CT.out _ HK0.out)
  clear CT
  go_enter Tryz.func20, Tryz.ntmps20
  go_wp2_with fail
  refine C1.out.mono ?_
  rintro e w1 ⟨rfl, hk⟩
  have HK := Lib.hid (below_kept HK0.out hk)
  clear hk C1
  obtain ⟨d, g, l, m, en, lo⟩ := F
  unfold fctV
  dsimp only
  go_wp2_with fail
  go_ret
  exact ⟨rfl, below_alloc0 HK.out _⟩
set_option maxHeartbeats 1000000 in
theorem lengths_of : Calls Tryz.prog 23 #[ndV k A1 sn c1 mn mx lz A2 un c2] w fun e w' => e = .returned (.tuple #[.int .i64 (if b = true then F.least else 0), .int .i64 (if b = true then (if F.endless = true then (-1) else F.most) else 0), .int .i64 (if b = true then 0 else 73)]) ∧ Kept w w' := by
  have HK0 : Hid (Kept w (w.alloc (.cells #[.int .u8 k, .slice A1 sn c1, .int .i64 mn, .int .i64 mx, .bool lz, .slice A2 un c2] 25))) := (Below.refl _ w).alloc (Nat.le_refl _) _
  have C1 := Lib.hid (CT.out _ HK0.out)
  clear CT
  obtain ⟨d, g, l, m, en, lo⟩ := F
  cases b
  all_goals cases en
  · go_enter Tryz.func23, Tryz.ntmps23
    go_wp2_with fail
    refine C1.out.mono ?_
    rintro e w1 ⟨rfl, hk⟩
    have HK := Lib.hid (below_alloc0 (below_kept HK0.out hk) (.cells #[.int .i64 d, .int .i64 g, .int .i64 l, .int .i64 m, .bool false, .bool lo] 98))
    clear hk C1
    unfold fctV
    dsimp only
    go_wp2_with fail
    go_ret3
    exact ⟨by first | rfl | simp, HK.out⟩
  · go_enter Tryz.func23, Tryz.ntmps23
    go_wp2_with fail
    refine C1.out.mono ?_
    rintro e w1 ⟨rfl, hk⟩
    have HK := Lib.hid (below_alloc0 (below_kept HK0.out hk) (.cells #[.int .i64 d, .int .i64 g, .int .i64 l, .int .i64 m, .bool true, .bool lo] 98))
    clear hk C1
    unfold fctV
    dsimp only
    go_wp2_with fail
    go_ret3
    exact ⟨by first | rfl | simp, HK.out⟩
  · go_enter Tryz.func23, Tryz.ntmps23
    go_wp2_with fail
    refine C1.out.mono ?_
    rintro e w1 ⟨rfl, hk⟩
    have HK := Lib.hid (below_alloc0 (below_kept HK0.out hk) (.cells #[.int .i64 d, .int .i64 g, .int .i64 l, .int .i64 m, .bool false, .bool lo] 98))
    clear hk C1
    unfold fctV
    dsimp only
    go_wp2_with fail
    go_region
    all_goals try go_wp2
    all_goals go_ret3
    all_goals exact ⟨by first | rfl | simp, below_drew0 HK.out⟩
  · go_enter Tryz.func23, Tryz.ntmps23
    go_wp2_with fail
    refine C1.out.mono ?_
    rintro e w1 ⟨rfl, hk⟩
    have HK := Lib.hid (below_alloc0 (below_kept HK0.out hk) (.cells #[.int .i64 d, .int .i64 g, .int .i64 l, .int .i64 m, .bool true, .bool lo] 98))
    clear hk C1
    unfold fctV
    dsimp only
    go_wp2_with fail
    go_ret3
    exact ⟨by first | rfl | simp, HK.out⟩
end
end Go.Proofs.YtmgkdmbifecekaaGreatDoor
namespace Go.Proofs.YtmgkdmbifecekaaGreatDoor
open Go.RowKit Go.Shelf
/-- What a node says, of whose parts it is known what they say. -/
def ofF (f : Fct) (k mn mx : Int) : Fct :=
  if k = 2 then { f with depth := f.depth + 1, least := 1, most := 1 }
  else if k = 6 then { f with depth := f.depth + 1, groups := capI (f.groups + 1) }
  else if k = 5 then { depth := f.depth + 1, groups := f.groups, least := capI (mn * f.least), most := capI (wrap64 (mx * f.most)), endless := decide (mx = -1) || (decide (0 < mx) && f.endless), loops := f.loops || (decide (f.least = 0) && (decide (mx = -1) || decide (1 < mx))) }
  else { f with depth := f.depth + 1 }
mutual
/-- What a tree says. -/
def factsT : Tree → Fct
  | .mk k _ mn mx _ subs => ofF (factsL k subs) k mn mx
def factsL (kind : Int) : List Tree → Fct
  | [] => zeroT
  | t :: ts => factsA kind (factsT t) ts
def factsA (kind : Int) (acc : Fct) : List Tree → Fct
  | [] => acc
  | t :: ts => factsA kind (andF acc (factsT t) kind) ts
end
mutual
/-- All its nodes are right alone. -/
def okTr : Tree → Bool
  | .mk k set mn mx lz subs => aloneF k set.length (rgtR 0 set) mn mx lz subs.length && okTs subs
def okTs : List Tree → Bool
  | [] => true
  | t :: ts => okTr t && okTs ts
end
/-- Right trees. -/
def rgtT (t : Tree) : Bool := okTr t && (!(factsT t).loops && decide ((factsT t).groups ≤ 30) && decide ((factsT t).depth ≤ 40))
theorem capI_bd {n : Int} (h : 0 ≤ n) : 0 ≤ capI n ∧ capI n ≤ 1073741824 := by unfold capI; split <;> omega
/-- Bounds without the depth's. -/
structure FctIn (f : Fct) : Prop where
  d : 0 ≤ f.depth
  g : 0 ≤ f.groups ∧ f.groups ≤ 1073741824
  l : 0 ≤ f.least ∧ f.least ≤ 1073741824
theorem FctIn.ok {f : Fct} (h : FctIn f) (hd : f.depth ≤ 1000000) : FctOk f := ⟨⟨h.d, hd⟩, h.g, h.l⟩
theorem zeroT_in : FctIn zeroT := ⟨by decide, by decide, by decide⟩
theorem andF_in {f g : Fct} (hf : FctIn f) (hg : FctIn g) (k : Int) : FctIn (andF f g k) := by
  have h1 := hf.d; have h2 := hg.d; have h3 := hf.l; have h4 := hg.l; have h5 := hf.g; have h6 := hg.g
  refine ⟨?_, capI_bd (by omega), ?_⟩
  · show 0 ≤ (if f.depth ≤ g.depth then g.depth else f.depth)
    split <;> omega
  · show 0 ≤ (if k = 4 then (if f.least ≤ g.least then f.least else g.least) else capI (f.least + g.least)) ∧ (if k = 4 then (if f.least ≤ g.least then f.least else g.least) else capI (f.least + g.least)) ≤ 1073741824
    split
    · split <;> omega
    · exact capI_bd (by omega)
theorem andF_d1 (f g : Fct) (k : Int) : f.depth ≤ (andF f g k).depth := by
  show f.depth ≤ (if f.depth ≤ g.depth then g.depth else f.depth)
  split <;> omega
theorem andF_d2 (f g : Fct) (k : Int) : g.depth ≤ (andF f g k).depth := by
  show g.depth ≤ (if f.depth ≤ g.depth then g.depth else f.depth)
  split <;> omega
theorem ofF_in {f : Fct} (hf : FctIn f) (k mn mx : Int) (hm : k = 5 → 0 ≤ mn) : FctIn (ofF f k mn mx) := by
  have h1 := hf.d; have h3 := hf.l; have h5 := hf.g
  unfold ofF
  split
  · exact ⟨by show 0 ≤ f.depth + 1; omega, h5, by show (0:Int) ≤ 1 ∧ (1:Int) ≤ 1073741824; decide⟩
  · split
    · exact ⟨by show 0 ≤ f.depth + 1; omega, capI_bd (by omega), h3⟩
    · split
      · rename_i h
        exact ⟨by show 0 ≤ f.depth + 1; omega, h5, capI_bd (Int.mul_nonneg (hm h) h3.1)⟩
      · exact ⟨by show 0 ≤ f.depth + 1; omega, h5, h3⟩
theorem ofF_d (f : Fct) (k mn mx : Int) : (ofF f k mn mx).depth = f.depth + 1 := by
  unfold ofF
  split
  · rfl
  · split
    · rfl
    · split <;> rfl
theorem aloneF_mn {k : Int} {sn : Nat} {rt : Bool} {mn mx : Int} {lz : Bool} {un : Nat} (h : aloneF k sn rt mn mx lz un = true) (hk : k = 5) : tmsB mn mx = true := by
  subst hk
  unfold aloneF at h
  split at h
  · cases h
  · simp at h
    exact h.2
theorem tmsB_bd {a b : Int} (h : tmsB a b = true) : 0 ≤ a ∧ a ≤ 1000 ∧ (b = -1 ∨ (a ≤ b ∧ b ≤ 1000)) := by
  unfold tmsB at h
  simp at h
  omega
mutual
theorem factsT_in : ∀ t : Tree, okTr t = true → FctIn (factsT t)
  | .mk k set mn mx lz subs, h => by
    unfold okTr at h
    rw [Bool.and_eq_true] at h
    unfold factsT
    exact ofF_in (factsL_in k subs h.2) _ _ _ (fun hk => (tmsB_bd (aloneF_mn h.1 hk)).1)
theorem factsL_in (kind : Int) : ∀ ts : List Tree, okTs ts = true → FctIn (factsL kind ts)
  | [], _ => by unfold factsL; exact zeroT_in
  | t :: ts, h => by
    unfold okTs at h
    rw [Bool.and_eq_true] at h
    unfold factsL
    exact factsA_in kind (factsT t) ts (factsT_in t h.1) h.2
theorem factsA_in (kind : Int) (acc : Fct) : ∀ ts : List Tree, FctIn acc → okTs ts = true → FctIn (factsA kind acc ts)
  | [], ha, _ => by unfold factsA; exact ha
  | t :: ts, ha, h => by
    unfold okTs at h
    rw [Bool.and_eq_true] at h
    unfold factsA
    exact factsA_in kind _ ts (andF_in ha (factsT_in t h.1) kind) h.2
end
theorem factsA_d (kind : Int) : ∀ (ts : List Tree) (acc : Fct), acc.depth ≤ (factsA kind acc ts).depth ∧ ∀ t ∈ ts, (factsT t).depth ≤ (factsA kind acc ts).depth
  | [], acc => by unfold factsA; exact ⟨Int.le_refl _, fun t h => absurd h (by simp)⟩
  | t :: ts, acc => by
    unfold factsA
    have h := factsA_d kind ts (andF acc (factsT t) kind)
    refine ⟨Int.le_trans (andF_d1 _ _ _) h.1, fun u hu => ?_⟩
    rcases List.mem_cons.1 hu with rfl | hu
    · exact Int.le_trans (andF_d2 _ _ _) h.1
    · exact h.2 u hu
/-- A part is less deep. -/
theorem factsL_d (kind : Int) (ts : List Tree) (t : Tree) (h : t ∈ ts) : (factsT t).depth ≤ (factsL kind ts).depth := by
  cases ts with
  | nil => cases h
  | cons u us =>
    unfold factsL
    have h2 := factsA_d kind us (factsT u)
    rcases List.mem_cons.1 h with rfl | h
    · exact h2.1
    · exact h2.2 t h
theorem factsA_app (kind : Int) : ∀ (xs : List Tree) (acc : Fct) (t : Tree), factsA kind acc (xs ++ [t]) = andF (factsA kind acc xs) (factsT t) kind
  | [], acc, t => by simp [factsA]
  | x :: xs, acc, t => by
    rw [List.cons_append, factsA, factsA]
    exact factsA_app kind xs _ t
theorem factsL_one (kind : Int) (t : Tree) : factsL kind [t] = factsT t := by simp [factsL, factsA]
theorem factsL_app (kind : Int) (xs : List Tree) (t : Tree) (h : xs ≠ []) : factsL kind (xs ++ [t]) = andF (factsL kind xs) (factsT t) kind := by
  cases xs with
  | nil => exact absurd rfl h
  | cons x xs =>
    rw [List.cons_append, factsL, factsL]
    exact factsA_app kind xs _ t
theorem okTs_iff : ∀ (ts : List Tree), okTs ts = true ↔ ∀ t ∈ ts, okTr t = true
  | [] => by simp [okTs]
  | t :: ts => by
    unfold okTs
    rw [Bool.and_eq_true, okTs_iff ts]
    simp
theorem okTr_mk {k : Int} {set : List Rng} {mn mx : Int} {lz : Bool} {subs : List Tree} : okTr (.mk k set mn mx lz subs) = true ↔ aloneF k set.length (rgtR 0 set) mn mx lz subs.length = true ∧ okTs subs = true := by
  unfold okTr
  rw [Bool.and_eq_true]
theorem factsT_mk (k : Int) (set : List Rng) (mn mx : Int) (lz : Bool) (subs : List Tree) : factsT (.mk k set mn mx lz subs) = ofF (factsL k subs) k mn mx := by
  unfold factsT
  rfl
theorem wrap64_id {n : Int} (h1 : -9223372036854775808 ≤ n) (h2 : n < 9223372036854775808) : wrap64 n = n := by
  unfold wrap64
  omega
abbrev eT : Tree := .mk 1 [] 0 0 false []
def lastT (p : List Tree) : Tree := p.getLastD eT
end Go.Proofs.YtmgkdmbifecekaaGreatDoor
namespace Go.Proofs.YtmgkdmbifecekaaGreatDoor
open Go.RowKit Go.Shelf
def nmdD : List Rng := [(48, 57)]
def nmdS : List Rng := [(9, 10), (12, 13), (32, 32)]
def nmdW : List Rng := [(48, 57), (65, 90), (95, 95), (97, 122)]
/-- The named set of a letter. -/
def nmdF (c : Int) : Option (List Rng) :=
  if c = 100 then some nmdD else if c = 115 then some nmdS else if c = 119 then some nmdW
  else if c = 68 then some (othF nmdD) else if c = 83 then some (othF nmdS) else if c = 87 then some (othF nmdW) else none
theorem own_rdR {w : World} {base n size : Nat} {e : TypeId} {v : Value} {xs : List Value} (h : w.ownsRow base e size v n xs) : ∃ A c, v = .slice A n c ∧ Rd w w.heap.size A (n * size) xs := by
  rcases h.2 with ⟨rfl, rfl⟩ | ⟨g, cap, cur, rfl, _, hg, hc, _, hs, ht⟩
  · have := h.1
    exact ⟨none, 0, rfl, ⟨h.1, fun h0 => by omega⟩⟩
  · refine ⟨_, _, rfl, ⟨h.1, fun _ => ⟨_, rfl, heap_lt hg, fun j u hu => ?_⟩⟩⟩
    have hj : j < n * size := by have := (List.getElem?_eq_some_iff.1 hu).1; rw [h.1] at this; exact this
    rw [add0, h.cellAt j hj]
    exact hu
/-- What Named answers. -/
abbrev NmdIs (c : Int) (o : Option (List Rng)) (W : World) (e : Ending) (w' : World) : Prop :=
  ∃ v, e = .returned (.tuple #[v, .bool o.isSome]) ∧ w'.ownsRow W.heap.size 73 2 v (o.getD []).length (rngs (o.getD [])) ∧ Kept W w'
theorem named_d (W : World) : Calls Tryz.prog 173 #[.int .u8 100] W fun e w' => NmdIs 100 (some nmdD) W e w' := by
  go_enter Tryz.func173, Tryz.ntmps173
  go_wp2_with fail
  go_ret2
  exact ⟨_, rfl, World.ownsRow_lit W #[.int .i64 48, .int .i64 57] 1 (Nat.le_refl _) (by unfold maxLen; omega) rfl, (Below.refl _ W).alloc (Nat.le_refl _) _⟩
theorem named_s (W : World) : Calls Tryz.prog 173 #[.int .u8 115] W fun e w' => NmdIs 115 (some nmdS) W e w' := by
  go_enter Tryz.func173, Tryz.ntmps173
  go_wp2_with fail
  go_ret2
  exact ⟨_, rfl, World.ownsRow_lit W #[.int .i64 9, .int .i64 10, .int .i64 12, .int .i64 13, .int .i64 32, .int .i64 32] 3 (Nat.le_refl _) (by unfold maxLen; omega) rfl, (Below.refl _ W).alloc (Nat.le_refl _) _⟩
theorem named_w (W : World) : Calls Tryz.prog 173 #[.int .u8 119] W fun e w' => NmdIs 119 (some nmdW) W e w' := by
  go_enter Tryz.func173, Tryz.ntmps173
  go_wp2_with fail
  go_ret2
  exact ⟨_, rfl, World.ownsRow_lit W #[.int .i64 48, .int .i64 57, .int .i64 65, .int .i64 90, .int .i64 95, .int .i64 95, .int .i64 97, .int .i64 122] 4 (Nat.le_refl _) (by unfold maxLen; omega) rfl, (Below.refl _ W).alloc (Nat.le_refl _) _⟩
theorem named_up (c : Int) (k : Nat) (L : List Rng) (hL : L.length = k) (hk : k ≤ 10) (hb : BdR L) (hc : c = 68 ∨ c = 83 ∨ c = 87) (C : ∀ W, Calls Tryz.prog 173 #[.int .u8 (c + 32)] W fun e w' => NmdIs (c + 32) (some L) W e w') (W : World) :
    Calls Tryz.prog 173 #[.int .u8 c] W fun e w' => NmdIs c (some (othF L)) W e w' := by
  have HC := Lib.hid C
  have CO : Hid (∀ A c W, RdR W W.heap.size A L → Calls Tryz.prog 132 #[.slice A k c] W fun e w' => ∃ v, e = .returned v ∧ w'.ownsRow W.heap.size 73 2 v (othF L).length (rngs (othF L)) ∧ Kept W w') := fun A c W h => by
    have := others_any A c L (by omega) hb W h
    rw [hL] at this
    exact this
  have HL := Lib.hid hL
  clear C hb hL
  rcases hc with rfl | rfl | rfl
  all_goals
    go_enter Tryz.func173, Tryz.ntmps173
    go_wp2_with fail
    refine (HC.out W).mono ?_
    rintro e w1 ⟨v, rfl, hown, hk⟩
    have hown2 : w1.ownsRow W.heap.size 73 2 v k (rngs L) := by rw [← HL.out]; exact hown
    obtain ⟨A, c, rfl, hrd⟩ := own_rdR hown2
    have Hrd : Hid (RdR w1 w1.heap.size A L) := by show Rd _ _ _ _ _; rw [HL.out]; exact hrd
    have Hk := Lib.hid hk
    clear hown hown2 hrd hk
    go_wp2_with fail
    refine (CO.out _ _ _ Hrd.out).mono ?_
    rintro e w2 ⟨v2, rfl, hown, hk⟩
    have Ho := Lib.hid (own_monoG hown Hk.out.size)
    have Hk2 := Lib.hid (below_kept Hk.out hk)
    clear hown hk Hrd
    go_wp2_with fail
    go_ret2
    exact ⟨_, rfl, Ho.out, Hk2.out⟩
theorem named_none (c : Int) (h : nmdF c = none) (W : World) : Calls Tryz.prog 173 #[.int .u8 c] W fun e w' => NmdIs c none W e w' := by
  have hs : (c == 100) = false ∧ (c == 115) = false ∧ (c == 119) = false ∧ (c == 68) = false ∧ (c == 83) = false ∧ (c == 87) = false := by
    unfold nmdF at h
    refine ⟨?_, ?_, ?_, ?_, ?_, ?_⟩ <;> (rw [beq_eq_false_iff_ne]; rintro rfl; simp at h)
  obtain ⟨h1, h2, h3, h4, h5, h6⟩ := hs
  clear h
  go_enter Tryz.func173, Tryz.ntmps173
  go_wp2_with fail
  go_ret2
  exact ⟨_, rfl, ⟨rfl, .inl ⟨rfl, rfl⟩⟩, Below.refl _ _⟩
theorem named_any (c : Int) (W : World) : Calls Tryz.prog 173 #[.int .u8 c] W fun e w' => NmdIs c (nmdF c) W e w' := by
  by_cases h0 : nmdF c = none
  · rw [h0]; exact named_none c h0 W
  · unfold nmdF at h0 ⊢
    by_cases h1 : c = 100
    · subst h1; exact named_d W
    · by_cases h2 : c = 115
      · subst h2; exact named_s W
      · by_cases h3 : c = 119
        · subst h3; exact named_w W
        · by_cases h4 : c = 68
          · subst h4; exact named_up 68 1 nmdD rfl (by decide) (by unfold BdR; decide) (by simp) named_d W
          · by_cases h5 : c = 83
            · subst h5; exact named_up 83 3 nmdS rfl (by decide) (by unfold BdR; decide) (by simp) named_s W
            · by_cases h6 : c = 87
              · subst h6; exact named_up 87 4 nmdW rfl (by decide) (by unfold BdR; decide) (by simp) named_w W
              · simp [h1, h2, h3, h4, h5, h6] at h0
end Go.Proofs.YtmgkdmbifecekaaGreatDoor
namespace Go.Proofs.YtmgkdmbifecekaaGreatDoor
open Go.RowKit Go.Shelf
def rdrN : List UInt8 → Option (List Rng)
  | a :: b :: _ => if a = 92 then nmdF (b.toNat : Int) else none
  | _ => none
theorem rdrN_cons (a b : UInt8) (r : List UInt8) : rdrN (a :: b :: r) = if a = 92 then nmdF (b.toNat : Int) else none := rfl
theorem rdrN_short (l : List UInt8) (h : l.length < 2) : rdrN l = none := by
  rcases l with _ | ⟨a, _ | ⟨b, r⟩⟩
  · rfl
  · rfl
  · simp at h; omega
theorem grown_of_kept {w w' : World} {r : Option Nat} (h : Kept w w') : w.grownBy w' r := ⟨h.os, h.tape, h.output, h.size, fun k hk _ => h.block k hk⟩
theorem grown_two {w w1 w2 : World} {r : Option Nat} (h : Kept w w1) (hg : w1.grownBy w2 r) : w.grownBy w2 r :=
  ⟨hg.os.trans h.os, hg.tape.trans h.tape, hg.output.trans h.output, Nat.le_trans h.size hg.size, fun k hk hne => (hg.block k (Nat.lt_of_lt_of_le hk h.size) hne).trans (h.block k hk)⟩
theorem grown_trans {w w1 w2 : World} {r : Option Nat} (h : w.grownBy w1 r) (hg : w1.grownBy w2 r) : w.grownBy w2 r :=
  ⟨hg.os.trans h.os, hg.tape.trans h.tape, hg.output.trans h.output, Nat.le_trans h.size hg.size, fun k hk hne => (hg.block k (Nat.lt_of_lt_of_le hk h.size) hne).trans (h.block k hk hne)⟩
set_option maxHeartbeats 1000000 in
theorem rnamed_any (g : Nat) (t : ByteArray) (W : World) (h : RdrAt W g t) : Calls Tryz.prog 156 #[.pointer (some ⟨g, 0, none⟩)] W fun e w' =>
    ∃ v, e = .returned (.tuple #[v, .bool (rdrN t.data.toList).isSome]) ∧ w'.ownsRow W.heap.size 73 2 v ((rdrN t.data.toList).getD []).length (rngs ((rdrN t.data.toList).getD [])) ∧
      RdrAt w' g (if (rdrN t.data.toList).isSome = true then t.extract 2 t.size else t) ∧ W.grownBy w' (some g) := by
  have hc : W.cell? ⟨g, 0, none⟩ = some (.string t) := by rw [cell_of_row _ _ _ _ _ _ h]; rfl
  have Hh := Lib.hid h
  have hg := heap_lt h
  clear h
  by_cases h2 : 2 ≤ t.size
  · have h2i : (2 : Int) ≤ t.size := by omega
    have h01 : 0 < t.size := by omega
    have h11 : 1 < t.size := by omega
    rw [two_of t h2, rdrN_cons]
    by_cases h92 : t[0] = 92
    · have k92 : (t[0].toNat : Int) = 92 := by rw [h92]; rfl
      rw [if_pos h92]
      have CN := Lib.hid (fun W => named_any (t[1].toNat : Int) W)
      obtain ⟨o, ho⟩ : ∃ o, o = nmdF (t[1].toNat : Int) := ⟨_, rfl⟩
      rw [← ho] at CN ⊢
      clear ho
      cases o with
      | none =>
        go_enter Tryz.func156, Tryz.ntmps156
        go_wp2_with fail
        refine (CN.out _).mono ?_
        rintro e w1 ⟨v, rfl, hown, hk⟩
        have Ho := Lib.hid hown
        have Hk := Lib.hid hk
        clear hown hk CN
        go_wp2_with fail
        go_ret2
        exact ⟨_, rfl, Ho.out, heap_kept Hk.out Hh.out, grown_of_kept Hk.out⟩
      | some L =>
        go_enter Tryz.func156, Tryz.ntmps156
        go_wp2_with fail
        refine (CN.out _).mono ?_
        rintro e w1 ⟨v, rfl, hown, hk⟩
        have Ho := Lib.hid hown
        have Hk := Lib.hid hk
        have H1 := heap_kept hk Hh.out
        have hc1 : w1.cell? ⟨g, 0, none⟩ = some (.string t) := by rw [cell_of_row _ _ _ _ _ _ H1]; rfl
        have hf1 : w1.frozen? ⟨g, 0, none⟩ = false := by simp [World.frozen?, show w1.heap[g]? = _ from H1]
        have Hs := Lib.hid (rdr_set H1 (t.extract 2 t.size))
        have Ho2 : Hid ((w1.setCell ⟨g, 0, none⟩ (.string (t.extract 2 t.size))).ownsRow W.heap.size 73 2 v (((some L : Option (List Rng))).getD []).length (rngs ((some L : Option (List Rng)).getD []))) := hown.kept (grownBy_setCell' w1 g _) (by
          rcases hv : v.ownBlock with _ | b
          · exact .inl rfl
          · refine .inr fun e => ?_
            cases e
            have := (hown.lt g hv).1
            omega)
        clear hown hk CN H1 Ho
        go_wp2_with fail
        go_ret2
        exact ⟨_, rfl, Ho2.out, Hs.out, grown_two Hk.out (grownBy_setCell' _ _ _)⟩
    · have k92 : ¬ (t[0].toNat : Int) = 92 := by
        intro e
        exact h92 (UInt8.toNat_inj.1 (by show _ = 92; omega))
      have k92b : ((t[0].toNat : Int) != 92) = true := by rw [bne_iff_ne]; exact k92
      rw [if_neg h92]
      go_enter Tryz.func156, Tryz.ntmps156
      go_wp2_with fail
      go_ret2
      exact ⟨_, rfl, ⟨rfl, .inl ⟨rfl, rfl⟩⟩, Hh.out, grown_of_kept (Below.refl _ _)⟩
  · have h2i : (t.size : Int) < 2 := by omega
    rw [rdrN_short _ (by rw [data_len]; omega)]
    go_enter Tryz.func156, Tryz.ntmps156
    go_wp2_with fail
    go_ret2
    exact ⟨_, rfl, ⟨rfl, .inl ⟨rfl, rfl⟩⟩, Hh.out, grown_of_kept (Below.refl _ _)⟩
end Go.Proofs.YtmgkdmbifecekaaGreatDoor
