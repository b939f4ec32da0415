/-
  What Export makes of right labels: names, values, and how many there are.
-/
import Derived.Test.YtnnnpnmiepbbeaaDoorLbFn
namespace Go.Proofs.YtnnnpnmiepbbeaaDoor
open Go.RowKit Go.Shelf Go.Maps Go.Sort
theorem expN_inj {a b : ByteArray} (h : expN a = expN b) : a = b := by
  have h2 : (expN a).data.toList = (expN b).data.toList := by rw [h]
  unfold expN at h2
  rw [ByteArray.data_append, ByteArray.data_append, Array.toList_append, Array.toList_append] at h2
  exact data_inj (List.append_cancel_left h2)
theorem expN_ok : ∀ s ∈ nms, nmB namB (expN s) = true := by
  have h : nms.all (fun s => nmB namB (expN s)) = true := by kernel_rfl
  exact fun s hs => List.all_eq_true.1 h s hs
theorem get_idx (s : ByteArray) {T : List Lab} (hT : rgtB T = true) : 0 ≤ idxFrom s 0 T ↔ getL s T ≠ ⟨#[]⟩ := by
  rcases idx_get s 0 T with ⟨h1, h2, _⟩ | ⟨j, x, _, h1, h2, h3, _⟩
  · rw [h1, h2]
    simp
  · rw [h1, h3]
    have hx := (right_all hT x (List.mem_of_getElem? h2)).2
    constructor
    · intro _; exact hx
    · intro _; omega
/-- A label of the sample that the target has, too, and whose exported name is free. -/
def expQ (T E : List Lab) (x : Lab) : Bool := decide (getL x.1 T ≠ ⟨#[]⟩) && decide (getL (expN x.1) T = ⟨#[]⟩) && decide (getL (expN x.1) E = ⟨#[]⟩)
theorem expQ_iff {T E : List Lab} {x : Lab} : expQ T E x = true ↔ getL x.1 T ≠ ⟨#[]⟩ ∧ getL (expN x.1) T = ⟨#[]⟩ ∧ getL (expN x.1) E = ⟨#[]⟩ := by
  unfold expQ
  rw [Bool.and_eq_true, Bool.and_eq_true, decide_eq_true_eq, decide_eq_true_eq, decide_eq_true_eq, and_assoc]
def expX (T E F : List Lab) : List Lab := (F.filter (expQ T E)).map fun x => (expN x.1, x.2)
theorem expX_snoc (T E F : List Lab) (x : Lab) : expX T E (F ++ [x]) = expX T E F ++ (if expQ T E x = true then [(expN x.1, x.2)] else []) := by
  unfold expX
  rw [List.filter_append, List.map_append]
  congr 1
  split
  · rename_i h; rw [List.filter_cons_of_pos h]; rfl
  · rename_i h; rw [List.filter_cons_of_neg h]; rfl
theorem expX_mem {T E F : List Lab} {y : Lab} (h : y ∈ expX T E F) : ∃ x ∈ F, expQ T E x = true ∧ y = (expN x.1, x.2) := by
  obtain ⟨x, hx, rfl⟩ := List.mem_map.1 h
  exact ⟨x, (List.mem_filter.1 hx).1, (List.mem_filter.1 hx).2, rfl⟩
theorem find_get {m : List Lb} (hf : Full m) (s : ByteArray) : (find m s.data.toList).isSome = false ↔ getL s (m.map bl) = ⟨#[]⟩ := by
  rw [getL_find]
  cases e : find m s.data.toList with
  | none => exact ⟨fun _ => rfl, fun _ => rfl⟩
  | some v =>
    have := hf _ (find_mem e)
    constructor
    · intro h; cases h
    · intro h
      exact absurd (str_nil.2 h) this
section
variable {T E : List Lab} (hT : RN T) (hE : RN E)
include hT hE
theorem exp_chain : ∀ (F G : List Lab), G ++ F = E → expF T F (puts [] ((E ++ T ++ expX T E G).map lb)) = puts [] ((E ++ T ++ expX T E (G ++ F)).map lb)
  | [], G, _ => by rw [List.append_nil]; rfl
  | x :: F, G, hG => by
    have hx : x ∈ E := by rw [← hG]; simp
    have ih := exp_chain F (G ++ [x]) (by rw [← hG, List.append_assoc]; rfl)
    rw [List.append_assoc G [x] F] at ih
    refine Eq.trans ?_ ih
    show expF T F (exp1 T _ x) = _
    congr 1
    rw [expX_snoc]
    have hful := puts_full (m := []) (fun _ h => by cases h) ((E ++ T ++ expX T E G).map lb)
    have hno : ∀ y ∈ (expX T E G).map lb, y.1 ≠ (expN x.1).data.toList := by
      intro y hy e
      obtain ⟨z, hz, rfl⟩ := List.mem_map.1 hy
      obtain ⟨u, hu, _, rfl⟩ := expX_mem hz
      have e2 : u.1 = x.1 := expN_inj (data_inj e)
      have hp := right_srt hE.1
      rw [← hG] at hp
      have := (List.pairwise_append.1 hp).2.2 u hu x (List.mem_cons_self ..)
      exact this e2
    have hiff : expOk T (puts [] ((E ++ T ++ expX T E G).map lb)) x ↔ expQ T E x = true := by
      unfold expOk
      rw [expQ_iff, get_idx x.1 hT.1, find_get hful]
      have h1 : getL (expN x.1) ((puts [] ((E ++ T ++ expX T E G).map lb)).map bl) = getL (expN x.1) (putR (E ++ T)) := by
        show getL _ (putR _) = _
        rw [get_putR, get_putR, List.map_append, upds_app, upds_no _ _ _ hno]
      rw [h1, get_merge hT.1 hE.1]
      have h2 : nmB namB (expN x.1) = true := expN_ok _ (hE.2 x hx)
      constructor
      · rintro ⟨a, b, _⟩
        refine ⟨a, ?_⟩
        by_cases h3 : getL (expN x.1) T = ⟨#[]⟩
        · rw [if_pos h3] at b; exact ⟨h3, b⟩
        · rw [if_neg h3] at b; exact absurd b h3
      · rintro ⟨a, b, c⟩
        exact ⟨a, by rw [if_pos b, c], h2⟩
    unfold exp1
    by_cases hq : expQ T E x = true
    · rw [if_pos (hiff.2 hq), if_pos hq, ← List.append_assoc, List.map_append (l₂ := [_]), puts_app]
      rfl
    · rw [if_neg (fun h => hq (hiff.1 h)), if_neg hq, List.append_nil]
/-- What Export makes. -/
def expR (T E : List Lab) : List Lab := putR (E ++ T ++ expX T E E)
omit hT hE in
theorem expX_once (hE : rgtB E = true) : OnceB ((expX T E E).map lb) := by
  unfold OnceB expX
  rw [List.pairwise_map, List.pairwise_map]
  refine List.Pairwise.filter _ ?_
  exact (right_srt hE).imp fun hne e => hne (expN_inj (data_inj e))
theorem exp_is : (expF T E (puts [] ((E ++ T).map lb))).map bl = expR T E := by
  have h := exp_chain hT hE E [] rfl
  rw [show expX T E [] = [] from rfl, List.append_nil, List.nil_append] at h
  rw [h]
  rfl
omit hT hE in
theorem get_exp_no {s : ByteArray} (h : ∀ y ∈ expX T E E, y.1 ≠ s) : getL s (expR T E) = getL s (putR (E ++ T)) := by
  unfold expR
  rw [get_putR, get_putR, List.map_append (l₁ := E ++ T), upds_app, upds_no]
  intro y hy e
  obtain ⟨z, hz, rfl⟩ := List.mem_map.1 hy
  exact h z hz (data_inj e)
omit hT in
theorem get_exp_yes {x : Lab} (hx : x ∈ E) (hq : expQ T E x = true) : getL (expN x.1) (expR T E) = x.2 := by
  unfold expR
  rw [get_putR, List.map_append (l₁ := E ++ T), upds_app]
  have hm : (expN x.1, x.2) ∈ expX T E E := List.mem_map.2 ⟨x, List.mem_filter.2 ⟨hx, hq⟩, rfl⟩
  have := upds_once _ (upds (fun _ => none) ((E ++ T).map lb)) (expX_once (T := T) hE.1) _ (List.mem_map_of_mem hm)
  have e : upds (upds (fun _ => none) ((E ++ T).map lb)) ((expX T E E).map lb) (expN x.1).data.toList = _ := this
  rw [e, if_neg]
  · rfl
  · exact fun e2 => (right_all hE.1 x hx).2 (str_nil.1 e2)
theorem get_exp_target {x : Lab} (hx : x ∈ T) : getL x.1 (expR T E) = x.2 := by
  have hv := get_of_mem (right_srt hT.1) hx
  have hn := (right_all hT.1 x hx).2
  rw [get_exp_no, get_merge hT.1 hE.1, if_neg (by rw [hv]; exact hn), hv]
  intro y hy e
  obtain ⟨z, hz, hq, rfl⟩ := expX_mem hy
  have := (expQ_iff.1 hq).2.1
  have e2 : expN z.1 = x.1 := e
  rw [e2, hv] at this
  exact hn this
theorem get_exp_other {x : Lab} (hx : x ∈ E) (hn : getL x.1 T = ⟨#[]⟩) : getL x.1 (expR T E) = x.2 := by
  have hv := get_of_mem (right_srt hE.1) hx
  have hne := (right_all hE.1 x hx).2
  rw [get_exp_no, get_merge hT.1 hE.1, if_pos hn, hv]
  intro y hy e
  obtain ⟨z, hz, hq, rfl⟩ := expX_mem hy
  have := (expQ_iff.1 hq).2.2
  have e2 : expN z.1 = x.1 := e
  rw [e2, hv] at this
  exact hne this
theorem expR_right : rgtB (expR T E) = true ∧ (expR T E).length ≤ 64 := by
  have hl : (expR T E).length ≤ 64 := by
    unfold expR putR
    rw [List.length_map]
    have h1 := puts_len [] ((E ++ T ++ expX T E E).map lb)
    have h2 : (expX T E E).length ≤ E.length := by unfold expX; rw [List.length_map]; exact List.length_filter_le _ _
    have h3 := hT.len
    have h4 := hE.len
    rw [List.length_map, List.length_append, List.length_append, List.length_nil] at h1
    omega
  refine ⟨made_right (fwE_ok fun x hx => ?_) (by unfold expR putR at hl; rwa [List.length_map] at hl), hl⟩
  rcases List.mem_append.1 hx with h | h
  · rcases List.mem_append.1 h with h | h
    · exact (right_all hE.1 x h).1
    · exact (right_all hT.1 x h).1
  · obtain ⟨z, hz, _, rfl⟩ := expX_mem h
    have h1 := (right_all hE.1 z hz).1
    have h2 := expN_ok _ (hE.2 z hz)
    unfold wrE at h1 ⊢
    split at h1
    · rw [if_pos h2]; exact h1
    · cases h1
/-- A label of the sample that stays, under whatever name. -/
def expK (T E : List Lab) (x : Lab) : Bool := decide (getL x.1 T = ⟨#[]⟩) || expQ T E x
def expNm (T : List Lab) (x : Lab) : ByteArray := if getL x.1 T = ⟨#[]⟩ then x.1 else expN x.1
theorem exp_keeps {x : Lab} (hx : x ∈ E) (hk : expK T E x = true) : getL (expNm T x) (expR T E) = x.2 := by
  unfold expNm
  split
  · rename_i h; exact get_exp_other hT hE hx h
  · rename_i h
    unfold expK at hk
    rw [decide_eq_false h, Bool.false_or] at hk
    exact get_exp_yes hE hx hk
theorem exp_count : T.length + (E.filter (expK T E)).length = (expR T E).length := by
  have hR := (expR_right hT hE).1
  have hsR := right_srt hR
  have hsT := right_srt hT.1
  have hsE := right_srt hE.1
  have hmem : ∀ s : ByteArray, s ∈ T.map (·.1) ++ (E.filter (expK T E)).map (expNm T) ↔ s ∈ (expR T E).map (·.1) := by
    intro s
    constructor
    · intro h
      refine get_mem (s := s) ?_
      rcases List.mem_append.1 h with h | h
      · obtain ⟨x, hx, rfl⟩ := List.mem_map.1 h
        rw [get_exp_target hT hE hx]
        exact (right_all hT.1 x hx).2
      · obtain ⟨x, hx, rfl⟩ := List.mem_map.1 h
        obtain ⟨h1, h2⟩ := List.mem_filter.1 hx
        rw [exp_keeps hT hE h1 h2]
        exact (right_all hE.1 x h1).2
    · intro h
      obtain ⟨r, hr, rfl⟩ := List.mem_map.1 h
      have hg : getL r.1 (expR T E) ≠ ⟨#[]⟩ := by
        rw [get_of_mem hsR hr]
        exact (right_all hR r hr).2
      by_cases hX : ∃ y ∈ expX T E E, y.1 = r.1
      · obtain ⟨y, hy, e⟩ := hX
        obtain ⟨z, hz, hq, rfl⟩ := expX_mem hy
        refine List.mem_append.2 (.inr (List.mem_map.2 ⟨z, List.mem_filter.2 ⟨hz, ?_⟩, ?_⟩))
        · unfold expK; rw [hq, Bool.or_true]
        · unfold expNm
          rw [if_neg (expQ_iff.1 hq).1]
          exact e
      · rw [get_exp_no (fun y hy e => hX ⟨y, hy, e⟩), get_merge hT.1 hE.1] at hg
        by_cases hn : getL r.1 T = ⟨#[]⟩
        · rw [if_pos hn] at hg
          obtain ⟨x, hx, e⟩ := List.mem_map.1 (get_mem hg)
          refine List.mem_append.2 (.inr (List.mem_map.2 ⟨x, List.mem_filter.2 ⟨hx, ?_⟩, ?_⟩))
          · unfold expK; rw [e, decide_eq_true hn, Bool.true_or]
          · unfold expNm; rw [if_pos (by rw [e]; exact hn)]; exact e
        · exact List.mem_append.2 (.inl (get_mem hn))
  have hnd : (T.map (·.1) ++ (E.filter (expK T E)).map (expNm T)).Pairwise (· ≠ ·) := by
    refine List.pairwise_append.2 ⟨by rw [List.pairwise_map]; exact hsT, ?_, ?_⟩
    · rw [List.pairwise_map]
      refine List.Pairwise.imp_of_mem (fun {x y} hx hy hne e => ?_) (hsE.filter _)
      obtain ⟨hx1, hx2⟩ := List.mem_filter.1 hx
      obtain ⟨hy1, hy2⟩ := List.mem_filter.1 hy
      unfold expK at hx2 hy2
      unfold expNm at e
      by_cases h1 : getL x.1 T = ⟨#[]⟩
      · rw [if_pos h1] at e
        by_cases h2 : getL y.1 T = ⟨#[]⟩
        · rw [if_pos h2] at e
          exact hne e
        · rw [if_neg h2] at e
          rw [decide_eq_false h2, Bool.false_or] at hy2
          have := (expQ_iff.1 hy2).2.2
          rw [← e, get_of_mem hsE hx1] at this
          exact (right_all hE.1 x hx1).2 this
      · rw [if_neg h1] at e
        rw [decide_eq_false h1, Bool.false_or] at hx2
        by_cases h2 : getL y.1 T = ⟨#[]⟩
        · rw [if_pos h2] at e
          have := (expQ_iff.1 hx2).2.2
          rw [e, get_of_mem hsE hy1] at this
          exact (right_all hE.1 y hy1).2 this
        · rw [if_neg h2] at e
          exact hne (expN_inj e)
    · intro a ha b hb e
      obtain ⟨t, ht, rfl⟩ := List.mem_map.1 ha
      obtain ⟨x, hx, rfl⟩ := List.mem_map.1 hb
      obtain ⟨hx1, hx2⟩ := List.mem_filter.1 hx
      have hv : getL t.1 T ≠ ⟨#[]⟩ := by
        rw [get_of_mem hsT ht]
        exact (right_all hT.1 t ht).2
      unfold expK at hx2
      unfold expNm at e
      by_cases h1 : getL x.1 T = ⟨#[]⟩
      · rw [if_pos h1] at e
        rw [e] at hv
        exact hv h1
      · rw [if_neg h1] at e
        rw [decide_eq_false h1, Bool.false_or] at hx2
        rw [e] at hv
        exact hv (expQ_iff.1 hx2).2.1
  have hnR : ((expR T E).map (·.1)).Pairwise (· ≠ ·) := by rw [List.pairwise_map]; exact hsR
  have e1 := nodup_sub _ _ hnd fun s hs => (hmem s).1 hs
  have e2 := nodup_sub _ _ hnR fun s hs => (hmem s).2 hs
  simp only [List.length_append, List.length_map] at e1 e2
  omega
end
end Go.Proofs.YtnnnpnmiepbbeaaDoor
