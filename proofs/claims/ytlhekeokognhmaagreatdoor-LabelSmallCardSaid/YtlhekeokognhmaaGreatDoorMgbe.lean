/-
  What the reference's Merge and Export make is what the program's make: mathematics. The statements' kit: marks. append onto one's own row of labels, whatever the source is.
-/
import Derived.Test.YtlhekeokognhmaaGreatDoorMgbd
import Derived.Test.YtlhekeokognhmaaGreatDoorLbL
import Derived.Test.YtlhekeokognhmaaGreatDoorMgah
namespace Go.Proofs.YtlhekeokognhmaaGreatDoor
open Go.RowKit Go.Shelf Go.Maps Go.Sort
theorem U1 {L : List Lab} (h : Once L) {x : Lab} (hx : x ∈ L) (f : Str → Option Str) : upds f (L.map lb) x.1.data.toList = if x.2.data.toList = [] then none else some x.2.data.toList :=
  upds_once (L.map lb) f (once_lb h) (lb x) (List.mem_map_of_mem hx)
theorem U2 {L : List Lab} {k : Str} (h : ∀ x ∈ L, x.1.data.toList ≠ k) (f : Str → Option Str) : upds f (L.map lb) k = f k :=
  upds_no k _ f fun y hy => by
    obtain ⟨x, hx, rfl⟩ := List.mem_map.1 hy
    exact h x hx
theorem putsL_ext {L M : List Lab} (h : ∀ k, upds (fun _ => none) (L.map lb) k = upds (fun _ => none) (M.map lb) k) : putsL L = putsL M := by
  unfold putsL
  congr 1
  refine srt_ext (puts_srt srt_nil _) (puts_srt srt_nil _) fun k => ?_
  rw [find_puts srt_nil, find_puts srt_nil, find_nil]
  exact h k
theorem upds_two (f : Str → Option Str) (a b : List Lab) : upds f ((a ++ b).map lb) = upds (upds f (a.map lb)) (b.map lb) := by rw [List.map_append, upds_app]
theorem idx_neg {s : ByteArray} {L : List Lab} : idxFrom s 0 L < 0 ↔ ∀ x ∈ L, x.1 ≠ s := by
  rcases idx_get s 0 L with ⟨h1, _, h3⟩ | ⟨j, x, _, h1, h2, _, h5⟩
  · rw [h1]; exact ⟨fun _ => h3, fun _ => by decide⟩
  · rw [h1]
    constructor
    · intro h; omega
    · intro h; exact absurd h5 (h x (List.mem_of_getElem? h2))
theorem ne_k {L : List Lab} {s : ByteArray} (h : ∀ x ∈ L, x.1 ≠ s) : ∀ x ∈ L, x.1.data.toList ≠ s.data.toList := fun x hx e => h x hx (data_inj e)
theorem once_filter {L : List Lab} (h : Once L) (p : Lab → Bool) : Once (L.filter p) := h.filter p
theorem once_of_right {L : List Lab} (h : rgtB L = true) : Once L := right_srt h
/-- Those of the second ones that the first ones have not. -/
def freshL (a b : List Lab) : List Lab := b.filter fun x => decide (idxFrom x.1 0 a < 0)
theorem merge_same {a b : List Lab} (ha : Once a) (hb : Once b) : putsL (a ++ freshL a b) = putsL (b ++ a) := by
  refine putsL_ext fun k => ?_
  rw [upds_two, upds_two]
  have hf : Once (freshL a b) := once_filter hb _
  by_cases h1 : ∃ x ∈ a, x.1.data.toList = k
  · obtain ⟨x, hx, rfl⟩ := h1
    rw [U1 ha hx, U2 (L := freshL a b), U1 ha hx]
    intro y hy e
    have h2 := (List.mem_filter.1 hy).2
    rw [decide_eq_true_eq, idx_neg] at h2
    exact h2 x hx (data_inj e.symm)
  · rw [U2 (L := a) (fun x hx e => h1 ⟨x, hx, e⟩)]
    by_cases h2 : ∃ x ∈ b, x.1.data.toList = k
    · obtain ⟨x, hx, rfl⟩ := h2
      rw [U1 hb hx, U1 hf]
      refine List.mem_filter.2 ⟨hx, ?_⟩
      rw [decide_eq_true_eq, idx_neg]
      exact fun y hy e => h1 ⟨y, hy, by rw [e]⟩
    · rw [U2 (L := b) (fun x hx e => h2 ⟨x, hx, e⟩), U2 (L := freshL a b) (fun x hx e => h2 ⟨x, (List.mem_filter.1 hx).1, e⟩), U2 (L := a) (fun x hx e => h1 ⟨x, hx, e⟩)]
/-- The exported name of a right name is right if it is not too long. -/
theorem expN_name {s : ByteArray} (h : nmB namB s = true) : nmB namB (expN s) = decide ((expN s).size ≤ 128) := by
  have h1 : bys (expN s) = [101, 120, 112, 111, 114, 116, 101, 100, 95] ++ bys s := by unfold expN; rw [bys_app]; rfl
  have h2 : (bys s).all namB = true := by
    unfold nmB at h
    rw [Bool.and_eq_true] at h
    exact h.2
  unfold nmB
  rw [h1, List.all_append, h2, expN_size]
  have h3 : (([101, 120, 112, 111, 114, 116, 101, 100, 95] : List Int).all namB) = true := by decide
  have h4 : digB ((([101, 120, 112, 111, 114, 116, 101, 100, 95] : List Int) ++ bys s).getD 0 0) = false := by show digB 101 = false; decide
  rw [h3, h4]
  simp
/-- What becomes of a label of the sample. -/
def expG (T E : List Lab) (x : Lab) : Option Lab :=
  if idxFrom x.1 0 T < 0 then some x
  else if (expN x.1).size ≤ 128 ∧ idxFrom (expN x.1) 0 T < 0 ∧ idxFrom (expN x.1) 0 E < 0 then some (expN x.1, x.2) else none
def expY (T E F : List Lab) : List Lab := F.filterMap (expG T E)
def expC (T E : List Lab) (x : Lab) : Prop := ¬ idxFrom x.1 0 T < 0 ∧ (expN x.1).size ≤ 128 ∧ idxFrom (expN x.1) 0 T < 0 ∧ idxFrom (expN x.1) 0 E < 0
instance (T E : List Lab) (x : Lab) : Decidable (expC T E x) := by unfold expC; infer_instance
def expXG (T E F : List Lab) : List Lab := (F.filter fun x => decide (expC T E x)).map fun x => (expN x.1, x.2)
theorem expNinj {a b : ByteArray} (h : expN a = expN b) : a = b := by
  have h2 : (expN a).data.toList = (expN b).data.toList := by rw [h]
  unfold expN at h2
  rw [ByteArray.data_append, ByteArray.data_append, Array.toList_append, Array.toList_append] at h2
  exact data_inj (List.append_cancel_left h2)
theorem expXG_mem {T E F : List Lab} {y : Lab} (h : y ∈ expXG T E F) : ∃ x ∈ F, expC T E x ∧ y = (expN x.1, x.2) := by
  obtain ⟨x, hx, rfl⟩ := List.mem_map.1 h
  exact ⟨x, (List.mem_filter.1 hx).1, by simpa using (List.mem_filter.1 hx).2, rfl⟩
theorem expXG_snoc (T E F : List Lab) (x : Lab) : expXG T E (F ++ [x]) = expXG T E F ++ (if expC T E x then [(expN x.1, x.2)] else []) := by
  unfold expXG
  rw [List.filter_append, List.map_append]
  congr 1
  split
  · rename_i h; rw [List.filter_cons_of_pos (by simpa using h)]; rfl
  · rename_i h; rw [List.filter_cons_of_neg (by simpa using h)]; rfl
theorem expXG_once {T E F : List Lab} (h : Once F) : Once (expXG T E F) := by
  unfold Once expXG
  rw [List.pairwise_map]
  exact (List.Pairwise.filter _ h).imp fun hne e => hne (expNinj e)
section
variable {T E : List Lab} (hT : rgtB T = true) (hE : rgtB E = true)
include hT hE
omit hT hE in
theorem find_et (k : Str) (hk : ∀ x ∈ T, x.1.data.toList ≠ k) (hk2 : ∀ x ∈ E, x.1.data.toList ≠ k) : upds (fun _ => none) ((E ++ T).map lb) k = none := by
  rw [upds_two, U2 hk, U2 hk2]
theorem expC_chain : ∀ (F G : List Lab), G ++ F = E → expF T F (puts [] ((E ++ T ++ expXG T E G).map lb)) = puts [] ((E ++ T ++ expXG T E (G ++ F)).map lb)
  | [], G, _ => by rw [List.append_nil]; rfl
  | x :: F, G, hG => by
    have hx : x ∈ E := by rw [← hG]; simp
    have ih := expC_chain F (G ++ [x]) (by rw [← hG, List.append_assoc]; rfl)
    rw [List.append_assoc G [x] F] at ih
    refine Eq.trans ?_ ih
    show expF T F (exp1 T _ x) = _
    congr 1
    rw [expXG_snoc]
    have hno : ∀ y ∈ expXG T E G, y.1.data.toList ≠ (expN x.1).data.toList := by
      intro y hy e
      obtain ⟨u, hu, _, rfl⟩ := expXG_mem hy
      have e2 : u.1 = x.1 := expNinj (data_inj e)
      have hp := right_srt hE
      rw [← hG] at hp
      exact (List.pairwise_append.1 hp).2.2 u hu x (List.mem_cons_self ..) e2
    have hnm : nmB namB x.1 = true := by
      have := (right_all hE x hx).1
      unfold wrE at this
      by_cases h : nmB namB x.1 = true
      · exact h
      · rw [if_neg h] at this; cases this
    have hiff : expOk T (puts [] ((E ++ T ++ expXG T E G).map lb)) x ↔ expC T E x := by
      unfold expOk expC
      rw [expN_name hnm, find_puts srt_nil, find_nil, upds_two, U2 hno, decide_eq_true_eq]
      constructor
      · rintro ⟨a, b, c⟩
        have hb : upds (fun _ => none) ((E ++ T).map lb) (expN x.1).data.toList = none := by
          rcases h : upds (fun _ => none) ((E ++ T).map lb) (expN x.1).data.toList with _ | v
          · rfl
          · rw [h] at b; cases b
        refine ⟨by omega, c, ?_, ?_⟩
        · rw [idx_neg]
          intro y hy e
          rw [upds_two, ← e, U1 (once_of_right hT) hy] at hb
          split at hb
          · rename_i h; exact (right_all hT y hy).2 (str_nil.1 h)
          · cases hb
        · rw [idx_neg]
          intro y hy e
          rw [upds_two] at hb
          by_cases h3 : ∃ z ∈ T, z.1 = expN x.1
          · obtain ⟨z, hz, e3⟩ := h3
            rw [← e3, U1 (once_of_right hT) hz] at hb
            split at hb
            · rename_i h; exact (right_all hT z hz).2 (str_nil.1 h)
            · cases hb
          · rw [U2 (L := T) (fun z hz e4 => h3 ⟨z, hz, data_inj e4⟩), ← e, U1 (once_of_right hE) hy] at hb
            split at hb
            · rename_i h; exact (right_all hE y hy).2 (str_nil.1 h)
            · cases hb
      · rintro ⟨a, b, c, d⟩
        rw [idx_neg] at c d
        exact ⟨by omega, by rw [find_et _ (ne_k c) (ne_k d)]; rfl, b⟩
    unfold exp1
    by_cases hq : expC T E x
    · rw [if_pos (hiff.2 hq), if_pos hq, ← List.append_assoc, List.map_append (l₂ := [_]), puts_app]
      rfl
    · rw [if_neg (fun h => hq (hiff.1 h)), if_neg hq, List.append_nil]
omit hT hE in
theorem expY_mem {y : Lab} (h : y ∈ expY T E E) : ∃ x ∈ E, (idxFrom x.1 0 T < 0 ∧ y = x) ∨ (expC T E x ∧ y = (expN x.1, x.2)) := by
  obtain ⟨x, hx, he⟩ := List.mem_filterMap.1 h
  refine ⟨x, hx, ?_⟩
  unfold expG at he
  split at he
  · rename_i h1; exact .inl ⟨h1, (Option.some.inj he).symm⟩
  · rename_i h1
    split at he
    · rename_i h2; exact .inr ⟨⟨h1, h2.1, h2.2.1, h2.2.2⟩, (Option.some.inj he).symm⟩
    · cases he
omit hT hE in
theorem expY_fresh {y : Lab} (h : y ∈ expY T E E) : ∀ x ∈ T, x.1 ≠ y.1 := by
  obtain ⟨x, hx, h1 | ⟨h1, rfl⟩⟩ := expY_mem h
  · obtain ⟨h1, rfl⟩ := h1; exact idx_neg.1 h1
  · exact idx_neg.1 h1.2.2.1
omit hT in
theorem expY_once : Once (expY T E E) := by
  unfold Once expY
  rw [List.pairwise_filterMap]
  have hp : E.Pairwise fun a b => a.1 ≠ b.1 := right_srt hE
  refine List.Pairwise.imp_of_mem ?_ hp
  intro a b ha hb hne u hu v hv e
  unfold expG at hu hv
  have hE' : ∀ {x y : Lab}, x ∈ E → idxFrom (expN y.1) 0 E < 0 → x.1 ≠ expN y.1 := fun hx h => idx_neg.1 h _ hx
  split at hu
  · cases hu
    split at hv
    · cases hv; exact hne e
    · split at hv
      · rename_i h; cases hv; exact hE' ha h.2.2 e
      · cases hv
  · split at hu
    · rename_i h0 h1
      cases hu
      split at hv
      · cases hv; exact hE' hb h1.2.2 e.symm
      · split at hv
        · cases hv; exact hne (expNinj e)
        · cases hv
    · cases hu
/-- Export, both ways. -/
theorem export_same : putsL (T ++ expY T E E) = (expF T E (puts [] ((E ++ T).map lb))).map bl := by
  have h := expC_chain hT hE E [] rfl
  rw [show expXG T E [] = [] from rfl, List.append_nil, List.nil_append] at h
  rw [h]
  refine putsL_ext fun k => ?_
  rw [upds_two, upds_two, upds_two]
  have oT := once_of_right hT
  have oE := once_of_right hE
  have oX := expXG_once (T := T) (E := E) oE
  have oY := expY_once (T := T) hE
  by_cases h1 : ∃ z ∈ expXG T E E, z.1.data.toList = k
  · obtain ⟨z, hz, rfl⟩ := h1
    obtain ⟨x, hx, hc, rfl⟩ := expXG_mem hz
    have hy : (expN x.1, x.2) ∈ expY T E E := List.mem_filterMap.2 ⟨x, hx, by
      unfold expG
      rw [if_neg hc.1, if_pos ⟨hc.2.1, hc.2.2.1, hc.2.2.2⟩]⟩
    rw [U1 oX hz, U1 oY hy]
  · rw [U2 (L := expXG T E E) (fun x hx e => h1 ⟨x, hx, e⟩)]
    by_cases h2 : ∃ t ∈ T, t.1.data.toList = k
    · obtain ⟨t, ht, rfl⟩ := h2
      rw [U1 oT ht, U2 (L := expY T E E) (fun y hy e => expY_fresh hy t ht (data_inj e.symm)), U1 oT ht]
    · rw [U2 (L := T) (fun x hx e => h2 ⟨x, hx, e⟩)]
      by_cases h3 : ∃ x ∈ E, x.1.data.toList = k
      · obtain ⟨x, hx, rfl⟩ := h3
        have hy : x ∈ expY T E E := List.mem_filterMap.2 ⟨x, hx, by
          unfold expG
          rw [if_pos (idx_neg.2 fun t ht e => h2 ⟨t, ht, by rw [e]⟩)]⟩
        rw [U1 oE hx, U1 oY hy]
      · rw [U2 (L := E) (fun x hx e => h3 ⟨x, hx, e⟩), U2 (L := expY T E E), U2 (L := T) (fun x hx e => h2 ⟨x, hx, e⟩)]
        intro y hy e
        obtain ⟨x, hx, ⟨_, rfl⟩ | ⟨hc, rfl⟩⟩ := expY_mem hy
        · exact h3 ⟨y, hx, e⟩
        · exact h1 ⟨_, List.mem_map.2 ⟨x, List.mem_filter.2 ⟨hx, by simpa using hc⟩, rfl⟩, e⟩
end
end Go.Proofs.YtlhekeokognhmaaGreatDoor
namespace Go.Proofs.YtlhekeokognhmaaGreatDoor
open Go.RowKit Go.Shelf Go.Maps Go.Sort
/-- The text of a mark. -/
def mT (k i : Int) : ByteArray := strOfNums [35, k % 256, k / 256 % 256, k / 65536 % 256, 47, i % 256, i / 256 % 256, i / 65536 % 256]
theorem mT_conv (k i : Int) (w : World) : (convert 26 9 (.slice (some ⟨w.heap.size, 0, none⟩) 8 8)).run Tryz.prog (w.alloc (.cells #[.int .u8 35, .int .u8 (k % 256), .int .u8 (k / 256 % 256), .int .u8 (k / 65536 % 256), .int .u8 47, .int .u8 (i % 256), .int .u8 (i / 256 % 256), .int .u8 (i / 65536 % 256)] 5)) = .ok (.string (mT k i)) (w.alloc (.cells #[.int .u8 35, .int .u8 (k % 256), .int .u8 (k / 256 % 256), .int .u8 (k / 65536 % 256), .int .u8 47, .int .u8 (i % 256), .int .u8 (i / 256 % 256), .int .u8 (i / 65536 % 256)] 5)) :=
  conv_rd (w.alloc (.cells #[.int .u8 35, .int .u8 (k % 256), .int .u8 (k / 256 % 256), .int .u8 (k / 65536 % 256), .int .u8 47, .int .u8 (i % 256), .int .u8 (i / 256 % 256), .int .u8 (i / 65536 % 256)] 5)) _ w.heap.size 8 8 [35, k % 256, k / 256 % 256, k / 65536 % 256, 47, i % 256, i / 256 % 256, i / 65536 % 256] (rdNew w (u8s [35, k % 256, k / 256 % 256, k / 65536 % 256, 47, i % 256, i / 256 % 256, i / 65536 % 256]) 5)
set_option maxRecDepth 100000 in
theorem markText_any (k i : Int) (w : World) : Calls Tryz.prog 72 #[.int .i64 k, .int .i64 i] w fun e w' => e = .returned (.string (mT k i)) ∧ Kept w w' := by
  have hcv := mT_conv k i w
  go_enter Tryz.func72, Tryz.ntmps72
  go_wp2_with fail
  go_ret
  exact ⟨rfl, (Below.refl _ _).alloc (Nat.le_refl _) _⟩
/-- A mark among labels. -/
def mkLab (k i : Int) : Lab := (mT k i, mT k (IntKind.i64.wrap (i + 1)))
set_option maxRecDepth 100000 in
set_option maxHeartbeats 2000000 in
theorem markLabel_any (k i : Int) (w : World) : Calls Tryz.prog 71 #[.int .i64 k, .int .i64 i] w fun e w' => e = .returned (.agg #[.string (mkLab k i).1, .string (mkLab k i).2]) ∧ Kept w w' := by
  have CA := Lib.hid (fun W => markText_any k i W)
  obtain ⟨j, hj⟩ : ∃ j, j = IntKind.i64.wrap (i + 1) := ⟨_, rfl⟩
  have CB := Lib.hid (fun W => markText_any k j W)
  have K0 : Hid (Kept w (w.alloc (.cells #[.string ⟨#[]⟩, .string ⟨#[]⟩] 33))) := (Below.refl _ w).alloc (Nat.le_refl _) _
  have M0 : Hid ((w.alloc (.cells #[.string ⟨#[]⟩, .string ⟨#[]⟩] 33)).heap[w.heap.size]? = some (.cells #[.string ⟨#[]⟩, .string ⟨#[]⟩] 33 (0, 0))) := heap_alloc_new w _
  unfold mkLab
  rw [← hj]
  dsimp only
  replace hj := hj.symm
  generalize mT k i = a at *
  generalize mT k j = b at *
  go_enter Tryz.func71, Tryz.ntmps71
  go_upto_region 1 with fail
  generalize w.alloc (.cells #[.string ⟨#[]⟩, .string ⟨#[]⟩] 33) = w1 at *
  obtain ⟨g, hg⟩ : ∃ g, g = w.heap.size := ⟨_, rfl⟩
  rw [← hg] at M0 ⊢
  have HG := Lib.hid hg
  clear hg
  go_wp2_with (first
    | (go_at_call 72; (with_reducible refine (CA.out _).mono ?_); rintro e w2 ⟨rfl, hk2⟩; have HK2 := Lib.hid hk2; clear hk2)
    | (go_at_call 72; (with_reducible refine (CB.out _).mono ?_); rintro e w3 ⟨rfl, hk3⟩; have HK3 := Lib.hid hk3; clear hk3)
    | ((refine wpList_store_row ?c0 33 (.tmp 4) (.tmp 12) ?c1 g #[.string a, .string b] ?c2 ?c3 _ _ (heap_kept HK3.out (heap_kept HK2.out M0.out)) ?c4 ?c5 ?c6 ?_); (case c0 => with_reducible rfl); (case c1 => with_reducible rfl); (case c2 => rfl); (case c3 => rfl); (case c4 => exact sizeL); (case c5 => rfl); (case c6 => simp [Value.oneCell'])))
  refine bodyPost_ret (results_cell_row Tryz.results71 _ _ g _ #[.string a, .string b] (0, 0) _ rfl (setRow_heap _ _ _ _ _ _ (heap_kept HK3.out (heap_kept HK2.out M0.out))) Tryz.underlying33 rfl sizeL) rfl ⟨rfl, ?_⟩
  exact below_setRow (Below.trans K0.out ((below_kept HK2.out HK3.out).mono (Below.size K0.out))) (by rw [HG.out]; exact Nat.le_refl _) _
end Go.Proofs.YtlhekeokognhmaaGreatDoor
namespace Go.Proofs.YtlhekeokognhmaaGreatDoor
open Go.RowKit Go.Shelf Go.Maps Go.Sort
section
variable {P : Program}
theorem run_appG (w : World) (base : Nat) (t ty : TypeId) (i : TypeInfo) (z : Value) (bytes : Nat) (ht : P.underlying t = some (.slice 33)) (hi : P.info? 33 = some i) (hz : i.zero = some z)
    (hsize : i.size = 2) (hby : i.bytes = bytes) (hzs : z.cells.size = 2)
    (v : Value) (n : Nat) (xs : List Value) (hown : w.ownsRow base 33 2 v n xs)
    (A : Option Addr) (m c : Nat) (news : List Value) (hr : Rd w w.heap.size A (m * 2) news) (h1 : ∀ u ∈ news, u.oneCell' = true)
    (h63 : n + m ≤ maxLen) (hbytes : (n + m) * bytes ≤ 140737488355328) (hbase : base ≤ w.heap.size) :
    ∃ v' w', (Builtin.append_ #[t, t] ty #[v, .slice A m c]).run P w = .ok v' w' ∧ w'.ownsRow base 33 2 v' (n + m) (xs ++ news) ∧ w.grownBy w' v.ownBlock := by
  rcases A with _ | a
  · have hm : m = 0 := by
      rcases Nat.eq_zero_or_pos m with h | h
      · exact h
      · obtain ⟨_, e, _⟩ := hr.2 (by omega)
        cases e
    subst hm
    obtain rfl := List.eq_nil_of_length_eq_zero (by have := hr.1; omega : news.length = 0)
    refine ⟨v, w, ?_, by simpa using hown, ⟨rfl, rfl, rfl, Nat.le_refl _, fun _ _ _ => rfl⟩⟩
    rcases hown.2 with ⟨rfl, rfl⟩ | ⟨g, cap, cur, rfl, _, _, hnc, _⟩
    · simp [Builtin.append_, run_underlying ht, sizeOf, typeInfo, hi, Builtin.lenOf, Builtin.firstCells]
    · simp [Builtin.append_, run_underlying ht, sizeOf, typeInfo, hi, Builtin.lenOf, Builtin.firstCells, hnc, storeCells]
  · have hc : ∀ j u, news[j]? = some u → w.cell? (a.add j) = some u := by
      intro j u hu
      have hj := (List.getElem?_eq_some_iff.1 hu).1
      obtain ⟨_, e, _, hc⟩ := hr.2 (by have := hr.1; omega)
      cases e
      exact hc j u hu
    obtain ⟨v', w', hrun, h2, h3, _, _⟩ := run_append_own_at (P := P) w base t ty 33 i z 2 bytes ht hi hz hsize hby hzs (by decide) v n xs hown a m c news hr.1 hc h1 h63 hbytes hbase
    exact ⟨v', w', hrun, h2, h3⟩
theorem append_type (w : World) (t t2 ty e : TypeId) (b : Option Addr) (n cap : Nat) (x : Value) (ht : P.underlying t = some (.slice e)) (ht2 : P.underlying t2 = some (.slice e)) : (Builtin.append_ #[t, t2] ty #[.slice b n cap, x]).run P w = (Builtin.append_ #[t, t] ty #[.slice b n cap, x]).run P w := by
  have e1 : (#[t, t2] : Array TypeId)[0]? = some t := rfl
  have e2 : (#[t, t2] : Array TypeId)[1]? = some t2 := rfl
  have e3 : (#[t, t] : Array TypeId)[0]? = some t := rfl
  have e4 : (#[t, t] : Array TypeId)[1]? = some t := rfl
  unfold Builtin.append_
  simp only [e1, e2, e3, e4, Sem.run_bind, run_underlying ht, run_underlying ht2, Result.andThen_ok, List.getElem?_toArray, List.getElem?_cons_zero, List.getElem?_cons_succ]
/-- The same at a plain region's list of operations. -/
theorem wpList_appG {w : World} {ops : Array Oper} {rest : List Oper} {o : Oper} {a : Act} {Q : Exit → Act → World → Prop} (hgd : o.guard = none) (s x : Operand) (t : TypeId)
    (t2 : TypeId) (ho : o.op = .call { callee := .builtin .append, args := #[s, x], argTypes := #[t, t2] }) (ht2 : P.underlying t2 = some (.slice 33))
    (base : Nat) (i : TypeInfo) (z : Value) (bytes : Nat) (ht : P.underlying t = some (.slice 33)) (hi : P.info? 33 = some i) (hz : i.zero = some z)
    (hsize : i.size = 2) (hby : i.bytes = bytes) (hzs : z.cells.size = 2)
    (v : Value) (n : Nat) (xs : List Value) (hs : a.eval s = v) (hown : w.ownsRow base 33 2 v n xs)
    (A : Option Addr) (m c : Nat) (news : List Value) (hx : a.eval x = .slice A m c) (hr : Rd w w.heap.size A (m * 2) news) (h1 : ∀ u ∈ news, u.oneCell' = true)
    (h63 : n + m ≤ maxLen) (hbytes : (n + m) * bytes ≤ 140737488355328) (hbase : base ≤ w.heap.size)
    (h : ∀ v' w', w'.ownsRow base 33 2 v' (n + m) (xs ++ news) → w.grownBy w' v.ownBlock → wpList P ops Q rest (a.put o.dst v') w') : wpList P ops Q (o :: rest) a w := by
  refine wpList_plain hgd fun K hK => ?_
  obtain ⟨v', w', hrun, h2, h3⟩ := run_appG (P := P) w base t o.type i z bytes ht hi hz hsize hby hzs v n xs hown A m c news hr h1 h63 hbytes hbase
  obtain ⟨b0, n0, cap0, rfl⟩ : ∃ b n c, v = .slice b n c := by
    rcases hown.2 with ⟨rfl, _⟩ | ⟨g, cap, cur, rfl, _⟩
    · exact ⟨_, _, _, rfl⟩
    · exact ⟨_, _, _, rfl⟩
  have hr2 := (append_type (P := P) w t t2 o.type 33 b0 n0 cap0 (.slice A m c) ht ht2).trans hrun
  unfold Oper.wp execOp
  simp only [ho, resolve, invoke, builtin, Sem.run_bind, Sem.run_pure, Result.andThen_ok, List.map_toArray, List.map_cons, List.map_nil, hs, hx, hr2]
  exact hK _ _ (h v' w' h2 h3)
end
end Go.Proofs.YtlhekeokognhmaaGreatDoor
