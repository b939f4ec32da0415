/-
  Package syntax: what trees say: the mathematics.
-/
import Derived.Test.YtmgkdmbifecekaaGreatDoorMlai
set_option linter.all false
set_option linter.unusedSimpArgs false
set_option linter.unusedVariables false
set_option linter.unusedSectionVars false
namespace Go.Proofs.YtmgkdmbifecekaaGreatDoor
open Go.RowKit Go.Shelf
/-- What a node says, of whose parts it is known what they say. -/
def ofF (f : Fct) (k mn mx : Int) : Fct :=
  if k = 2 then { f with depth := f.depth + 1, least := 1, most := 1 }
  else if k = 6 then { f with depth := f.depth + 1, groups := capI (f.groups + 1) }
  else if k = 5 then { depth := f.depth + 1, groups := f.groups, least := capI (mn * f.least), most := capI (wrap64 (mx * f.most)), endless := decide (mx = -1) || (decide (0 < mx) && f.endless), loops := f.loops || (decide (f.least = 0) && (decide (mx = -1) || decide (1 < mx))) }
  else { f with depth := f.depth + 1 }
mutual
/-- What a tree says. -/
def factsT : Tree → Fct
  | .mk k _ mn mx _ subs => ofF (factsL k subs) k mn mx
def factsL (kind : Int) : List Tree → Fct
  | [] => zeroT
  | t :: ts => factsA kind (factsT t) ts
def factsA (kind : Int) (acc : Fct) : List Tree → Fct
  | [] => acc
  | t :: ts => factsA kind (andF acc (factsT t) kind) ts
end
mutual
/-- All its nodes are right alone. -/
def okTr : Tree → Bool
  | .mk k set mn mx lz subs => aloneF k set.length (rgtR 0 set) mn mx lz subs.length && okTs subs
def okTs : List Tree → Bool
  | [] => true
  | t :: ts => okTr t && okTs ts
end
/-- Right trees. -/
def rgtT (t : Tree) : Bool := okTr t && (!(factsT t).loops && decide ((factsT t).groups ≤ 30) && decide ((factsT t).depth ≤ 40))
theorem capI_bd {n : Int} (h : 0 ≤ n) : 0 ≤ capI n ∧ capI n ≤ 1073741824 := by unfold capI; split <;> omega
/-- Bounds without the depth's. -/
structure FctIn (f : Fct) : Prop where
  d : 0 ≤ f.depth
  g : 0 ≤ f.groups ∧ f.groups ≤ 1073741824
  l : 0 ≤ f.least ∧ f.least ≤ 1073741824
theorem FctIn.ok {f : Fct} (h : FctIn f) (hd : f.depth ≤ 1000000) : FctOk f := ⟨⟨h.d, hd⟩, h.g, h.l⟩
theorem zeroT_in : FctIn zeroT := ⟨by decide, by decide, by decide⟩
theorem andF_in {f g : Fct} (hf : FctIn f) (hg : FctIn g) (k : Int) : FctIn (andF f g k) := by
  have h1 := hf.d; have h2 := hg.d; have h3 := hf.l; have h4 := hg.l; have h5 := hf.g; have h6 := hg.g
  refine ⟨?_, capI_bd (by omega), ?_⟩
  · show 0 ≤ (if f.depth ≤ g.depth then g.depth else f.depth)
    split <;> omega
  · show 0 ≤ (if k = 4 then (if f.least ≤ g.least then f.least else g.least) else capI (f.least + g.least)) ∧ (if k = 4 then (if f.least ≤ g.least then f.least else g.least) else capI (f.least + g.least)) ≤ 1073741824
    split
    · split <;> omega
    · exact capI_bd (by omega)
theorem andF_d1 (f g : Fct) (k : Int) : f.depth ≤ (andF f g k).depth := by
  show f.depth ≤ (if f.depth ≤ g.depth then g.depth else f.depth)
  split <;> omega
theorem andF_d2 (f g : Fct) (k : Int) : g.depth ≤ (andF f g k).depth := by
  show g.depth ≤ (if f.depth ≤ g.depth then g.depth else f.depth)
  split <;> omega
theorem ofF_in {f : Fct} (hf : FctIn f) (k mn mx : Int) (hm : k = 5 → 0 ≤ mn) : FctIn (ofF f k mn mx) := by
  have h1 := hf.d; have h3 := hf.l; have h5 := hf.g
  unfold ofF
  split
  · exact ⟨by show 0 ≤ f.depth + 1; omega, h5, by show (0:Int) ≤ 1 ∧ (1:Int) ≤ 1073741824; decide⟩
  · split
    · exact ⟨by show 0 ≤ f.depth + 1; omega, capI_bd (by omega), h3⟩
    · split
      · rename_i h
        exact ⟨by show 0 ≤ f.depth + 1; omega, h5, capI_bd (Int.mul_nonneg (hm h) h3.1)⟩
      · exact ⟨by show 0 ≤ f.depth + 1; omega, h5, h3⟩
theorem ofF_d (f : Fct) (k mn mx : Int) : (ofF f k mn mx).depth = f.depth + 1 := by
  unfold ofF
  split
  · rfl
  · split
    · rfl
    · split <;> rfl
theorem aloneF_mn {k : Int} {sn : Nat} {rt : Bool} {mn mx : Int} {lz : Bool} {un : Nat} (h : aloneF k sn rt mn mx lz un = true) (hk : k = 5) : tmsB mn mx = true := by
  subst hk
  unfold aloneF at h
  split at h
  · cases h
  · simp at h
    exact h.2
theorem tmsB_bd {a b : Int} (h : tmsB a b = true) : 0 ≤ a ∧ a ≤ 1000 ∧ (b = -1 ∨ (a ≤ b ∧ b ≤ 1000)) := by
  unfold tmsB at h
  simp at h
  omega
mutual
theorem factsT_in : ∀ t : Tree, okTr t = true → FctIn (factsT t)
  | .mk k set mn mx lz subs, h => by
    unfold okTr at h
    rw [Bool.and_eq_true] at h
    unfold factsT
    exact ofF_in (factsL_in k subs h.2) _ _ _ (fun hk => (tmsB_bd (aloneF_mn h.1 hk)).1)
theorem factsL_in (kind : Int) : ∀ ts : List Tree, okTs ts = true → FctIn (factsL kind ts)
  | [], _ => by unfold factsL; exact zeroT_in
  | t :: ts, h => by
    unfold okTs at h
    rw [Bool.and_eq_true] at h
    unfold factsL
    exact factsA_in kind (factsT t) ts (factsT_in t h.1) h.2
theorem factsA_in (kind : Int) (acc : Fct) : ∀ ts : List Tree, FctIn acc → okTs ts = true → FctIn (factsA kind acc ts)
  | [], ha, _ => by unfold factsA; exact ha
  | t :: ts, ha, h => by
    unfold okTs at h
    rw [Bool.and_eq_true] at h
    unfold factsA
    exact factsA_in kind _ ts (andF_in ha (factsT_in t h.1) kind) h.2
end
theorem factsA_d (kind : Int) : ∀ (ts : List Tree) (acc : Fct), acc.depth ≤ (factsA kind acc ts).depth ∧ ∀ t ∈ ts, (factsT t).depth ≤ (factsA kind acc ts).depth
  | [], acc => by unfold factsA; exact ⟨Int.le_refl _, fun t h => absurd h (by simp)⟩
  | t :: ts, acc => by
    unfold factsA
    have h := factsA_d kind ts (andF acc (factsT t) kind)
    refine ⟨Int.le_trans (andF_d1 _ _ _) h.1, fun u hu => ?_⟩
    rcases List.mem_cons.1 hu with rfl | hu
    · exact Int.le_trans (andF_d2 _ _ _) h.1
    · exact h.2 u hu
/-- A part is less deep. -/
theorem factsL_d (kind : Int) (ts : List Tree) (t : Tree) (h : t ∈ ts) : (factsT t).depth ≤ (factsL kind ts).depth := by
  cases ts with
  | nil => cases h
  | cons u us =>
    unfold factsL
    have h2 := factsA_d kind us (factsT u)
    rcases List.mem_cons.1 h with rfl | h
    · exact h2.1
    · exact h2.2 t h
theorem factsA_app (kind : Int) : ∀ (xs : List Tree) (acc : Fct) (t : Tree), factsA kind acc (xs ++ [t]) = andF (factsA kind acc xs) (factsT t) kind
  | [], acc, t => by simp [factsA]
  | x :: xs, acc, t => by
    rw [List.cons_append, factsA, factsA]
    exact factsA_app kind xs _ t
theorem factsL_one (kind : Int) (t : Tree) : factsL kind [t] = factsT t := by simp [factsL, factsA]
theorem factsL_app (kind : Int) (xs : List Tree) (t : Tree) (h : xs ≠ []) : factsL kind (xs ++ [t]) = andF (factsL kind xs) (factsT t) kind := by
  cases xs with
  | nil => exact absurd rfl h
  | cons x xs =>
    rw [List.cons_append, factsL, factsL]
    exact factsA_app kind xs _ t
theorem okTs_iff : ∀ (ts : List Tree), okTs ts = true ↔ ∀ t ∈ ts, okTr t = true
  | [] => by simp [okTs]
  | t :: ts => by
    unfold okTs
    rw [Bool.and_eq_true, okTs_iff ts]
    simp
theorem okTr_mk {k : Int} {set : List Rng} {mn mx : Int} {lz : Bool} {subs : List Tree} : okTr (.mk k set mn mx lz subs) = true ↔ aloneF k set.length (rgtR 0 set) mn mx lz subs.length = true ∧ okTs subs = true := by
  unfold okTr
  rw [Bool.and_eq_true]
theorem factsT_mk (k : Int) (set : List Rng) (mn mx : Int) (lz : Bool) (subs : List Tree) : factsT (.mk k set mn mx lz subs) = ofF (factsL k subs) k mn mx := by
  unfold factsT
  rfl
/-- What a tree's least and greatest length say of one another. -/
structure FctG (f : Fct) : Prop where
  i : FctIn f
  lo : f.loops = false
  m : f.endless = false → f.least ≤ f.most ∧ f.most ≤ 1073741824
theorem zeroT_g : FctG zeroT := ⟨zeroT_in, rfl, fun _ => by decide⟩
theorem wrap64_id {n : Int} (h1 : -9223372036854775808 ≤ n) (h2 : n < 9223372036854775808) : wrap64 n = n := by
  unfold wrap64
  omega
theorem capI_mono {a b : Int} (h : a ≤ b) : capI a ≤ capI b := by unfold capI; split <;> split <;> omega
theorem capI_le (a : Int) : capI a ≤ 1073741824 := by unfold capI; split <;> omega
theorem andF_g {f g : Fct} (hf : FctG f) (hg : FctG g) (k : Int) : FctG (andF f g k) := by
  refine ⟨andF_in hf.i hg.i k, ?_, ?_⟩
  · show (f.loops || g.loops) = false
    rw [hf.lo, hg.lo]; rfl
  · intro he
    replace he : (f.endless || g.endless) = false := he
    rw [Bool.or_eq_false_iff] at he
    have h1 := hf.m he.1
    have h2 := hg.m he.2
    have h3 := hf.i.l; have h4 := hg.i.l
    show (if k = 4 then (if f.least ≤ g.least then f.least else g.least) else capI (f.least + g.least)) ≤ (if k = 4 then (if f.most ≤ g.most then g.most else f.most) else capI (wrap64 (f.most + g.most))) ∧ (if k = 4 then (if f.most ≤ g.most then g.most else f.most) else capI (wrap64 (f.most + g.most))) ≤ 1073741824
    rw [wrap64_id (by omega) (by omega)]
    split
    · split <;> split <;> omega
    · exact ⟨capI_mono (by omega), capI_le _⟩
mutual
/-- Whether a tree can be nothing, node by node. -/
def nullT : Tree → Bool
  | .mk k _ mn _ _ subs => if k = 1 then true else if k = 3 then allN subs else if k = 5 then someN subs || decide (mn = 0) else someN subs
def allN : List Tree → Bool
  | [] => true
  | t :: ts => nullT t && allN ts
def someN : List Tree → Bool
  | [] => false
  | t :: ts => nullT t || someN ts
end
theorem factsA_g (kind : Int) : ∀ (ts : List Tree) (acc : Fct), FctG acc → (∀ t ∈ ts, FctG (factsT t)) → FctG (factsA kind acc ts)
  | [], acc, h, _ => by unfold factsA; exact h
  | t :: ts, acc, h, hts => by
    unfold factsA
    exact factsA_g kind ts _ (andF_g h (hts t (by simp)) kind) (fun u hu => hts u (by simp [hu]))
theorem factsL_g (kind : Int) (ts : List Tree) (h : ∀ t ∈ ts, FctG (factsT t)) : FctG (factsL kind ts) := by
  cases ts with
  | nil => unfold factsL; exact zeroT_g
  | cons t ts => unfold factsL; exact factsA_g kind ts _ (h t (by simp)) (fun u hu => h u (by simp [hu]))
theorem capI_zero {n : Int} (h : 0 ≤ n) : (capI n = 0) ↔ n = 0 := by unfold capI; split <;> omega
theorem factsA_cat : ∀ (ts : List Tree) (acc : Fct), FctIn acc → (∀ t ∈ ts, FctIn (factsT t)) → (∀ t ∈ ts, nullT t = decide ((factsT t).least = 0)) → decide ((factsA 3 acc ts).least = 0) = (decide (acc.least = 0) && allN ts)
  | [], acc, _, _, _ => by unfold factsA allN; simp
  | t :: ts, acc, h, hi, hn => by
    unfold factsA allN
    rw [factsA_cat ts _ (andF_in h (hi t (by simp)) 3) (fun u hu => hi u (by simp [hu])) (fun u hu => hn u (by simp [hu])), hn t (by simp), ← Bool.and_assoc]
    congr 1
    have h1 := h.l; have h2 := (hi t (by simp)).l
    show decide ((if (3:Int) = 4 then (if acc.least ≤ (factsT t).least then acc.least else (factsT t).least) else capI (acc.least + (factsT t).least)) = 0) = _
    rw [if_neg (by decide)]
    have := capI_zero (n := acc.least + (factsT t).least) (by omega)
    rw [Bool.eq_iff_iff]
    simp only [decide_eq_true_eq, Bool.and_eq_true, this]
    omega
theorem factsA_alt : ∀ (ts : List Tree) (acc : Fct), FctIn acc → (∀ t ∈ ts, FctIn (factsT t)) → (∀ t ∈ ts, nullT t = decide ((factsT t).least = 0)) → decide ((factsA 4 acc ts).least = 0) = (decide (acc.least = 0) || someN ts)
  | [], acc, _, _, _ => by unfold factsA someN; simp
  | t :: ts, acc, h, hi, hn => by
    unfold factsA someN
    rw [factsA_alt ts _ (andF_in h (hi t (by simp)) 4) (fun u hu => hi u (by simp [hu])) (fun u hu => hn u (by simp [hu])), hn t (by simp), ← Bool.or_assoc]
    congr 1
    have h1 := h.l; have h2 := (hi t (by simp)).l
    show decide ((if (4:Int) = 4 then (if acc.least ≤ (factsT t).least then acc.least else (factsT t).least) else capI (acc.least + (factsT t).least)) = 0) = _
    rw [if_pos rfl, Bool.eq_iff_iff]
    simp only [decide_eq_true_eq, Bool.or_eq_true]
    split <;> omega
/-- What Made keeps of each tree. -/
structure TrG (t : Tree) : Prop where
  ok : okTr t = true
  g : FctG (factsT t)
  n : nullT t = decide ((factsT t).least = 0)
theorem emptyT_g : TrG (.mk 1 [] 0 0 false []) := ⟨by decide, ⟨⟨by decide, by decide, by decide⟩, by decide, by decide⟩, by decide⟩
theorem setT_g {s : List Rng} (h : rgtR 0 s = true) : TrG (.mk 2 s 0 0 false []) := by
  have hf : factsT (.mk 2 s 0 0 false []) = ⟨1, 0, 1, 1, false, false⟩ := by simp [factsT, factsL, ofF, zeroT]
  refine ⟨?_, ?_, ?_⟩
  · simp [okTr, aloneF, okTs, h]
  · rw [hf]; exact ⟨⟨by decide, by decide, by decide⟩, by decide, by decide⟩
  · rw [hf]; simp [nullT, someN]
theorem groupT_g {t : Tree} (h : TrG t) : TrG (.mk 6 [] 0 0 false [t]) := by
  have hf : factsT (.mk 6 [] 0 0 false [t]) = { factsT t with depth := (factsT t).depth + 1, groups := capI ((factsT t).groups + 1) } := by
    rw [factsT_mk, factsL_one]; simp [ofF]
  have hi := ofF_in h.g.i 6 0 0 (by decide)
  refine ⟨?_, ?_, ?_⟩
  · rw [okTr_mk]
    exact ⟨by simp [aloneF, rgtR], by simp [okTs, h.ok]⟩
  · rw [hf]
    have : ofF (factsT t) 6 0 0 = { factsT t with depth := (factsT t).depth + 1, groups := capI ((factsT t).groups + 1) } := by simp [ofF]
    rw [this] at hi
    exact ⟨hi, h.g.lo, h.g.m⟩
  · rw [hf]
    simp [nullT, someN, h.n]
theorem repeatT_g {t : Tree} (h : TrG t) {mn mx : Int} (lz : Bool) (hm : tmsB mn mx = true) (hl : (factsT t).least = 0 → ¬ (mx = -1 ∨ 1 < mx)) : TrG (.mk 5 [] mn mx lz [t]) := by
  have hb := tmsB_bd hm
  have hf : factsT (.mk 5 [] mn mx lz [t]) = { depth := (factsT t).depth + 1, groups := (factsT t).groups, least := capI (mn * (factsT t).least), most := capI (wrap64 (mx * (factsT t).most)), endless := decide (mx = -1) || (decide (0 < mx) && (factsT t).endless), loops := (factsT t).loops || (decide ((factsT t).least = 0) && (decide (mx = -1) || decide (1 < mx))) } := by
    rw [factsT_mk, factsL_one]; simp [ofF]
  have hi := ofF_in h.g.i 5 mn mx (fun _ => hb.1)
  have hof : factsT (.mk 5 [] mn mx lz [t]) = ofF (factsT t) 5 mn mx := by rw [factsT_mk, factsL_one]
  have h3 := h.g.i.l
  have hnn : (0:Int) ≤ mn * (factsT t).least := Int.mul_nonneg hb.1 h3.1
  refine ⟨?_, ⟨by rw [hof]; exact hi, ?_, ?_⟩, ?_⟩
  · rw [okTr_mk]
    exact ⟨by simp [aloneF, rgtR, hm], by simp [okTs, h.ok]⟩
  · rw [hf]
    show ((factsT t).loops || _) = false
    rw [h.g.lo]
    by_cases h0 : (factsT t).least = 0
    · have := hl h0
      simp [h0]
      omega
    · simp [h0]
  · rw [hf]
    intro he
    dsimp only at he ⊢
    refine ⟨?_, capI_le _⟩
    simp at he
    by_cases hz : mx ≤ 0
    · have h1 : mx = 0 := by omega
      have h2 : mn = 0 := by omega
      rw [h1, h2, Int.zero_mul, Int.zero_mul, wrap64_id (by omega) (by omega)]
      exact Int.le_refl _
    · have hm2 := h.g.m (he.2 (by omega))
      have hmm : mn * (factsT t).least ≤ mx * (factsT t).most := Int.mul_le_mul (by omega) hm2.1 h3.1 (by omega)
      have hmu : mx * (factsT t).most ≤ 1000 * 1073741824 := Int.mul_le_mul (by omega) hm2.2 (by omega) (by omega)
      rw [wrap64_id (by omega) (by omega)]
      exact capI_mono hmm
  · rw [hf]
    show nullT (.mk 5 [] mn mx lz [t]) = decide (capI (mn * (factsT t).least) = 0)
    have hc := capI_zero hnn
    have hz : (mn * (factsT t).least = 0) ↔ (mn = 0 ∨ (factsT t).least = 0) := Int.mul_eq_zero
    simp [nullT, someN, h.n, hc, hz]
    by_cases h1 : mn = 0 <;> simp [h1]
theorem listT_g {ts : List Tree} (h : ∀ t ∈ ts, TrG t) (hn : 2 ≤ ts.length) {k : Int} (hk : k = 3 ∨ k = 4) : TrG (.mk k [] 0 0 false ts) := by
  have hg := factsL_g k ts (fun t ht => (h t ht).g)
  have hf : factsT (.mk k [] 0 0 false ts) = { factsL k ts with depth := (factsL k ts).depth + 1 } := by
    rw [factsT_mk]
    rcases hk with rfl | rfl <;> simp [ofF]
  refine ⟨?_, ?_, ?_⟩
  · rw [okTr_mk]
    refine ⟨?_, (okTs_iff ts).2 fun t ht => (h t ht).ok⟩
    rcases hk with rfl | rfl <;> simp [aloneF, rgtR, hn]
  · rw [hf]
    exact ⟨⟨by have := hg.i.d; show 0 ≤ (factsL k ts).depth + 1; omega, hg.i.g, hg.i.l⟩, hg.lo, hg.m⟩
  · rw [hf]
    show nullT (.mk k [] 0 0 false ts) = decide ((factsL k ts).least = 0)
    cases ts with
    | nil => simp at hn
    | cons t us =>
      unfold factsL
      rcases hk with rfl | rfl
      · rw [factsA_cat us _ (h t (by simp)).g.i (fun u hu => (h u (by simp [hu])).g.i) (fun u hu => (h u (by simp [hu])).n)]
        simp [nullT, allN, (h t (by simp)).n]
      · rw [factsA_alt us _ (h t (by simp)).g.i (fun u hu => (h u (by simp [hu])).g.i) (fun u hu => (h u (by simp [hu])).n)]
        simp [nullT, someN, (h t (by simp)).n]
/-- How many groups, at most. -/
def grpS : List Tree → Int
  | [] => 0
  | t :: ts => (factsT t).groups + grpS ts
theorem factsA_grp (kind : Int) : ∀ (ts : List Tree) (acc : Fct), (factsA kind acc ts).groups ≤ acc.groups + grpS ts
  | [], acc => by unfold factsA grpS; omega
  | t :: ts, acc => by
    unfold factsA grpS
    have h := factsA_grp kind ts (andF acc (factsT t) kind)
    have h2 : (andF acc (factsT t) kind).groups ≤ acc.groups + (factsT t).groups := by
      show capI (acc.groups + (factsT t).groups) ≤ _
      unfold capI
      split <;> omega
    omega
theorem factsL_grp (kind : Int) (ts : List Tree) : (factsL kind ts).groups ≤ grpS ts := by
  cases ts with
  | nil => unfold factsL grpS zeroT; exact Int.le_refl _
  | cons t ts => unfold factsL grpS; exact factsA_grp kind ts _
theorem grpS_app : ∀ (xs ys : List Tree), grpS (xs ++ ys) = grpS xs + grpS ys
  | [], ys => by simp [grpS]
  | x :: xs, ys => by rw [List.cons_append, grpS, grpS, grpS_app xs ys]; omega
theorem factsA_dep (kind : Int) (d : Int) : ∀ (ts : List Tree) (acc : Fct), acc.depth ≤ d → (∀ t ∈ ts, (factsT t).depth ≤ d) → (factsA kind acc ts).depth ≤ d
  | [], acc, h, _ => by unfold factsA; exact h
  | t :: ts, acc, h, ht => by
    unfold factsA
    refine factsA_dep kind d ts _ ?_ (fun u hu => ht u (by simp [hu]))
    have := ht t (by simp)
    show (if acc.depth ≤ (factsT t).depth then (factsT t).depth else acc.depth) ≤ d
    split <;> omega
theorem factsL_dep (kind : Int) (d : Int) (hd : 0 ≤ d) (ts : List Tree) (h : ∀ t ∈ ts, (factsT t).depth ≤ d) : (factsL kind ts).depth ≤ d := by
  cases ts with
  | nil => unfold factsL zeroT; exact hd
  | cons t ts => unfold factsL; exact factsA_dep kind d ts _ (h t (by simp)) (fun u hu => h u (by simp [hu]))
def sixC (i : Int) : Int := if i = 0 then 42 else if i = 1 then 46 else if i = 2 then 124 else if i = 3 then 92 else if i = 4 then 45 else 93
/-- A set of small numbers. -/
def leafT (a b : Int) : List Rng :=
  if a % 8 = 0 then allR else if a % 8 = 1 then [(97, 99)] else if a % 8 = 2 then [(48, 57), (97, 98)] else if a % 8 = 3 then [(8364, 8364)]
  else if a % 8 = 4 then [(sixC (b % 6), sixC (b % 6))] else [(97 + b % 4, 97 + b % 4)]
abbrev eT : Tree := .mk 1 [] 0 0 false []
def repN (t : Tree) (a b : Int) : Tree :=
  .mk 5 [] (if nullT t then a % 4 % 2 else a % 4) (if nullT t then 1 else if b % 5 = 0 then -1 else a % 4 + b / 2 % 3) (decide (b % 2 = 1)) [t]
def lastT (p : List Tree) : Tree := p.getLastD eT
/-- A step by which a tree is made. -/
def stepM (p : List Tree) (x : Int × Int × Int) : List Tree :=
  if x.1 % 10 = 0 then p ++ [eT]
  else if x.1 % 10 < 5 ∨ p.length = 0 then p ++ [.mk 2 (leafT x.2.1 x.2.2) 0 0 false []]
  else if x.1 % 10 = 5 then p.dropLast ++ [.mk 6 [] 0 0 false [lastT p]]
  else if x.1 % 10 < 8 ∨ p.length < 2 then p.dropLast ++ [repN (lastT p) x.2.1 x.2.2]
  else p.take (p.length - 2 - (x.2.1 % 2).toNat) ++ [.mk (3 + x.1 % 10 % 2) [] 0 0 false (p.drop (p.length - 2 - (x.2.1 % 2).toNat))]
def madeP (L : List (Int × Int × Int)) : List Tree := L.foldl stepM []
def madeE (p : List Tree) : Tree := if p.length = 0 then eT else if p.length = 1 then lastT p else .mk 3 [] 0 0 false p
def madeT (L : List (Int × Int × Int)) : Tree := madeE (madeP (L.take 20))
theorem leafT_r {a b : Int} : rgtR 0 (leafT a b) = true := by
  have hb : 0 ≤ b % 6 ∧ b % 6 < 6 := ⟨Int.emod_nonneg _ (by decide), Int.emod_lt_of_pos _ (by decide)⟩
  have hb4 : 0 ≤ b % 4 ∧ b % 4 < 4 := ⟨Int.emod_nonneg _ (by decide), Int.emod_lt_of_pos _ (by decide)⟩
  unfold leafT
  split
  · decide
  · split
    · decide
    · split
      · decide
      · split
        · decide
        · split
          · rcases (by omega : b % 6 = 0 ∨ b % 6 = 1 ∨ b % 6 = 2 ∨ b % 6 = 3 ∨ b % 6 = 4 ∨ b % 6 = 5) with h | h | h | h | h | h <;> rw [h] <;> decide
          · rcases (by omega : b % 4 = 0 ∨ b % 4 = 1 ∨ b % 4 = 2 ∨ b % 4 = 3) with h | h | h | h <;> rw [h] <;> decide
/-- A pile of trees, after some steps. -/
structure PileG (p : List Tree) (s : Nat) : Prop where
  g : ∀ t ∈ p, TrG t ∧ (factsT t).depth ≤ s
  n : grpS p ≤ s
  l : p.length ≤ s
theorem grpS_nonneg : ∀ (p : List Tree), (∀ t ∈ p, TrG t) → 0 ≤ grpS p
  | [], _ => by unfold grpS; exact Int.le_refl _
  | t :: p, h => by
    unfold grpS
    have h1 := (h t (by simp)).g.i.g
    have h2 := grpS_nonneg p (fun u hu => h u (by simp [hu]))
    omega
theorem last_split {p : List Tree} (h : p.length ≠ 0) : p.dropLast ++ [lastT p] = p := by
  have hn : p ≠ [] := fun e => h (by rw [e]; rfl)
  have : lastT p = p.getLast hn := by
    unfold lastT
    rw [List.getLastD_eq_getLast?, List.getLast?_eq_some_getLast hn]
    rfl
  rw [this]
  exact List.dropLast_concat_getLast hn
theorem factsT_group (t : Tree) : factsT (.mk 6 [] 0 0 false [t]) = { factsT t with depth := (factsT t).depth + 1, groups := capI ((factsT t).groups + 1) } := by
  rw [factsT_mk, factsL_one]; simp [ofF]
theorem factsT_rep (t : Tree) (mn mx : Int) (lz : Bool) : (factsT (.mk 5 [] mn mx lz [t])).depth = (factsT t).depth + 1 ∧ (factsT (.mk 5 [] mn mx lz [t])).groups = (factsT t).groups := by
  rw [factsT_mk, factsL_one]; simp [ofF]
theorem factsT_list {k : Int} (hk : k = 3 ∨ k = 4) (ts : List Tree) : factsT (.mk k [] 0 0 false ts) = { factsL k ts with depth := (factsL k ts).depth + 1 } := by
  rw [factsT_mk]
  rcases hk with rfl | rfl <;> simp [ofF]
theorem repN_g {t : Tree} (h : TrG t) {a b : Int} : TrG (repN t a b) := by
  have ha : 0 ≤ a % 4 ∧ a % 4 < 4 := ⟨Int.emod_nonneg _ (by decide), Int.emod_lt_of_pos _ (by decide)⟩
  have hb : 0 ≤ b / 2 % 3 ∧ b / 2 % 3 < 3 := ⟨Int.emod_nonneg _ (by decide), Int.emod_lt_of_pos _ (by decide)⟩
  unfold repN
  by_cases hn : nullT t = true
  · rw [if_pos hn, if_pos hn]
    refine repeatT_g h _ ?_ (fun _ => by omega)
    unfold tmsB
    simp
    omega
  · rw [if_neg hn, if_neg hn]
    refine repeatT_g h _ ?_ (fun h0 => ?_)
    · unfold tmsB
      simp
      split <;> omega
    · rw [h.n] at hn
      exact absurd (decide_eq_true h0) hn
theorem stepM_g {p : List Tree} {s : Nat} (h : PileG p s) (x : Int × Int × Int) : PileG (stepM p x) (s + 1) := by
  have hl := h.l
  have hn := h.n
  unfold stepM
  split
  · refine ⟨fun t ht => ?_, ?_, by simp; omega⟩
    · rcases List.mem_append.1 ht with ht | ht
      · exact ⟨(h.g t ht).1, by have := (h.g t ht).2; omega⟩
      · rw [List.mem_singleton.1 ht]
        refine ⟨emptyT_g, ?_⟩
        show (1 : Int) ≤ _
        omega
    · rw [grpS_app]
      show grpS p + (0 + 0) ≤ _
      omega
  · split
    · refine ⟨fun t ht => ?_, ?_, by simp; omega⟩
      · rcases List.mem_append.1 ht with ht | ht
        · exact ⟨(h.g t ht).1, by have := (h.g t ht).2; omega⟩
        · rw [List.mem_singleton.1 ht]
          refine ⟨setT_g leafT_r, ?_⟩
          rw [factsT_mk, ofF_d]
          unfold factsL zeroT
          show (0 : Int) + 1 ≤ _
          omega
      · rw [grpS_app]
        have : grpS [Tree.mk 2 (leafT x.2.1 x.2.2) 0 0 false []] = 0 := by
          simp [grpS, factsT, factsL, ofF, zeroT]
        omega
    · rename_i hp
      have hp0 : p.length ≠ 0 := fun e => hp (.inr e)
      have hsp := last_split hp0
      have hmem : ∀ t ∈ p.dropLast, t ∈ p := fun t ht => by rw [← hsp]; exact List.mem_append.2 (.inl ht)
      have hlast : lastT p ∈ p := by
        have : lastT p ∈ p.dropLast ++ [lastT p] := by simp
        rw [hsp] at this
        exact this
      have hlg := (h.g _ hlast).1
      have hld := (h.g _ hlast).2
      have hgs : grpS p = grpS p.dropLast + (factsT (lastT p)).groups := by
        have h2 : grpS (p.dropLast ++ [lastT p]) = grpS p.dropLast + (factsT (lastT p)).groups := by
          rw [grpS_app]
          simp [grpS]
        rw [hsp] at h2
        exact h2
      have hlen : p.dropLast.length + 1 = p.length := by rw [List.length_dropLast]; omega
      split
      · refine ⟨fun t ht => ?_, ?_, by rw [List.length_append, List.length_singleton]; omega⟩
        · rcases List.mem_append.1 ht with ht | ht
          · exact ⟨(h.g t (hmem t ht)).1, by have := (h.g t (hmem t ht)).2; omega⟩
          · rw [List.mem_singleton.1 ht]
            refine ⟨groupT_g hlg, ?_⟩
            rw [factsT_group]
            show (factsT (lastT p)).depth + 1 ≤ _
            omega
        · rw [grpS_app]
          have : grpS [Tree.mk 6 [] 0 0 false [lastT p]] ≤ (factsT (lastT p)).groups + 1 := by
            simp only [grpS, factsT_group]
            unfold capI
            split <;> omega
          omega
      · split
        · refine ⟨fun t ht => ?_, ?_, by rw [List.length_append, List.length_singleton]; omega⟩
          · rcases List.mem_append.1 ht with ht | ht
            · exact ⟨(h.g t (hmem t ht)).1, by have := (h.g t (hmem t ht)).2; omega⟩
            · rw [List.mem_singleton.1 ht]
              refine ⟨repN_g hlg, ?_⟩
              unfold repN
              rw [(factsT_rep _ _ _ _).1]
              omega
          · rw [grpS_app]
            have : grpS [repN (lastT p) x.2.1 x.2.2] = (factsT (lastT p)).groups := by
              unfold repN
              simp only [grpS, (factsT_rep _ _ _ _).2]
              omega
            omega
        · rename_i h8 h9
          have hkd : (3 + x.1 % 10 % 2 = 3) ∨ (3 + x.1 % 10 % 2 = 4) := by omega
          obtain ⟨q, hq⟩ : ∃ q, q = p.length - 2 - (x.2.1 % 2).toNat := ⟨_, rfl⟩
          rw [← hq]
          have hq2 : q + 2 ≤ p.length := by omega
          have hmt : ∀ t ∈ p.take q, t ∈ p := fun t ht => List.mem_of_mem_take ht
          have hmd : ∀ t ∈ p.drop q, t ∈ p := fun t ht => List.mem_of_mem_drop ht
          have hg2 : grpS p = grpS (p.take q) + grpS (p.drop q) := by rw [← grpS_app, List.take_append_drop]
          refine ⟨fun t ht => ?_, ?_, by rw [List.length_append, List.length_singleton, List.length_take]; omega⟩
          · rcases List.mem_append.1 ht with ht | ht
            · exact ⟨(h.g t (hmt t ht)).1, by have := (h.g t (hmt t ht)).2; omega⟩
            · rw [List.mem_singleton.1 ht]
              refine ⟨listT_g (fun t ht => (h.g t (hmd t ht)).1) (by rw [List.length_drop]; omega) hkd, ?_⟩
              rw [factsT_list hkd]
              have := factsL_dep (3 + x.1 % 10 % 2) s (by omega) (p.drop q) (fun t ht => (h.g t (hmd t ht)).2)
              show (factsL (3 + x.1 % 10 % 2) (p.drop q)).depth + 1 ≤ _
              omega
          · rw [grpS_app]
            have : grpS [Tree.mk (3 + x.1 % 10 % 2) [] 0 0 false (p.drop q)] ≤ grpS (p.drop q) := by
              simp only [grpS, factsT_list hkd]
              have := factsL_grp (3 + x.1 % 10 % 2) (p.drop q)
              omega
            omega
theorem madeP_g : ∀ (L : List (Int × Int × Int)) (p : List Tree) (s : Nat), PileG p s → PileG (L.foldl stepM p) (s + L.length)
  | [], p, s, h => by simpa using h
  | x :: L, p, s, h => by
    have := madeP_g L (stepM p x) (s + 1) (stepM_g h x)
    rw [List.foldl_cons, List.length_cons, show s + (L.length + 1) = s + 1 + L.length from by omega]
    exact this
/-- What Made makes. -/
theorem madeT_g (L : List (Int × Int × Int)) (n : Nat) (hn : L.length ≤ n) : TrG (madeT L) ∧ (factsT (madeT L)).depth ≤ n + 1 ∧ (factsT (madeT L)).groups ≤ n := by
  have h : PileG (madeP (L.take 20)) (L.take 20).length := by
    have := madeP_g (L.take 20) [] 0 ⟨by simp, by decide, by simp⟩
    rw [Nat.zero_add] at this
    exact this
  have hl : (L.take 20).length ≤ n := by rw [List.length_take]; omega
  have hl2 := h.n
  unfold madeT madeE
  generalize madeP (L.take 20) = p at h hl2 ⊢
  split
  · exact ⟨emptyT_g, by show (1 : Int) ≤ _; omega, by show (0 : Int) ≤ _; omega⟩
  · rename_i h0
    split
    · have hsp := last_split h0
      have hlast : lastT p ∈ p := by
        have : lastT p ∈ p.dropLast ++ [lastT p] := by simp
        rw [hsp] at this
        exact this
      have := h.g _ hlast
      have h1 := grpS_nonneg p.dropLast (fun t ht => (h.g t (by rw [← hsp]; exact List.mem_append.2 (.inl ht))).1)
      have h2 : grpS (p.dropLast ++ [lastT p]) = grpS p.dropLast + (factsT (lastT p)).groups := by
        rw [grpS_app]
        simp [grpS]
      rw [hsp] at h2
      exact ⟨this.1, by have := this.2; omega, by omega⟩
    · refine ⟨listT_g (fun t ht => (h.g t ht).1) (by omega) (.inl rfl), ?_, ?_⟩
      · rw [factsT_list (.inl rfl)]
        have := factsL_dep 3 (L.take 20).length (by omega) p (fun t ht => (h.g t ht).2)
        show (factsL 3 p).depth + 1 ≤ _
        omega
      · rw [factsT_list (.inl rfl)]
        have := factsL_grp 3 p
        show (factsL 3 p).groups ≤ _
        omega
end Go.Proofs.YtmgkdmbifecekaaGreatDoor
