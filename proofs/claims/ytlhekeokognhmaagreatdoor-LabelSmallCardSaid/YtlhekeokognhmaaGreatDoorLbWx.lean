/-
  Right labels with one behind them that is not right there, and more than there may be: what is told of them; calls on labels that are not right; appends inside a region that draws its order.
-/
import Derived.Test.YtlhekeokognhmaaGreatDoorMgbd
import Derived.Test.YtlhekeokognhmaaGreatDoorMgaq
namespace Go.Proofs.YtlhekeokognhmaaGreatDoor
open Go.RowKit Go.Shelf Go.Maps Go.Sort
def lastN : Option ByteArray → List Lab → Option ByteArray
  | p, [] => p
  | _, y :: L => lastN (some y.1) L
theorem chkFrom_app : ∀ (i : Nat) (p : Option ByteArray) (L : List Lab) (x : Lab), (chkFrom i p L).2 = 0 → chkFrom i p (L ++ [x]) = if ordE (lastN p L) x = 0 then (-1, 0) else (((i + L.length : Nat) : Int), ordE (lastN p L) x)
  | i, p, [], x, _ => by
    show chkFrom i p [x] = _
    unfold chkFrom lastN
    split
    · rfl
    · rfl
  | i, p, y :: L, x, h => by
    unfold chkFrom at h
    show chkFrom i p (y :: (L ++ [x])) = _
    unfold chkFrom
    split at h
    · rename_i h0
      rw [if_pos h0, chkFrom_app (i + 1) (some y.1) L x h, List.length_cons]
      show (if ordE (lastN (some y.1) L) x = 0 then _ else _) = if ordE (lastN (some y.1) L) x = 0 then _ else _
      rw [show i + 1 + L.length = i + (L.length + 1) by omega]
      rfl
    · rename_i h0
      exact absurd h h0
theorem chk_right {a : List Lab} (h : rgtB a = true) : (chkFrom 0 none a).2 = 0 := by
  have hl := right_len h
  unfold rgtB chk at h
  rw [if_neg (by omega)] at h
  simpa using h
theorem chk_bad {a : List Lab} (h : rgtB a = true) (hl : a.length ≤ 16) (x : Lab) {q : Int} (hq : ordE (lastN none a) x = q) (h0 : q ≠ 0) : chk (a ++ [x]) = ((a.length : Int), q) := by
  unfold chk
  rw [if_neg (by rw [List.length_append, List.length_singleton]; omega), chkFrom_app 0 none a x (chk_right h), hq, if_neg h0, Nat.zero_add]
theorem rgt_bad {L : List Lab} {n q : Int} (h : chk L = (n, q)) (h0 : q ≠ 0) : rgtB L = false := by
  unfold rgtB
  rw [h]
  simpa using h0
theorem fwE_app : ∀ {a : List Lab} (x : Lab), (∀ y ∈ a, wrE y = 0) → fwE (a ++ [x]) = wrE x
  | [], x, _ => by
    show (if wrE x = 0 then fwE [] else wrE x) = _
    split
    · rename_i h; rw [h]; rfl
    · rfl
  | y :: a, x, h => by
    show (if wrE y = 0 then fwE (a ++ [x]) else wrE y) = _
    rw [if_pos (h y (List.mem_cons_self ..))]
    exact fwE_app x fun z hz => h z (List.mem_cons_of_mem _ hz)
/-- A label whose name, or value, is not right. -/
theorem ord_wrong {p : Option ByteArray} {x : Lab} {q : Int} (h : wrE x = q) (h0 : q ≠ 0) : ordE p x = q := by
  unfold ordE
  rw [if_neg (by rw [h]; exact h0), h]
theorem ord_empty {p : Option ByteArray} {x : Lab} (h : wrE x = 0) (h2 : x.2 = ⟨#[]⟩) : ordE p x = 42 := by
  unfold ordE
  rw [if_pos h, if_pos (.inl h2)]
theorem lastN_snoc : ∀ (p : Option ByteArray) (L : List Lab) (y : Lab), lastN p (L ++ [y]) = some y.1
  | _, [], _ => rfl
  | _, z :: L, y => lastN_snoc (some z.1) L y
theorem lastN_last {a : List Lab} {y : Lab} (h : a[a.length - 1]? = some y) : lastN none a = some y.1 := by
  have hpos : 0 < a.length := by
    have := (List.getElem?_eq_some_iff.1 h).1
    omega
  have : a = a.take (a.length - 1) ++ [y] := by
    conv => lhs; rw [← List.take_append_drop (a.length - 1) a]
    congr 1
    have hd : a.drop (a.length - 1) = y :: a.drop (a.length - 1 + 1) := by
      obtain ⟨h1, h2⟩ := List.getElem?_eq_some_iff.1 h
      rw [List.drop_eq_getElem_cons h1, h2]
    rw [hd, List.drop_of_length_le (by omega)]
  rw [this]
  exact lastN_snoc _ _ _
theorem ord_twice {a : List Lab} {y : Lab} (h : a[a.length - 1]? = some y) {x : Lab} (hx : wrE x = 0) (hn : x.1 = y.1) : ordE (lastN none a) x = 42 := by
  unfold ordE
  rw [if_pos hx, if_pos (.inr ⟨y.1, lastN_last h, (leS_is _ _).2 (.inr hn)⟩)]
theorem tw_twice {a : List Lab} (h : Once a) {x y : Lab} (hy : y ∈ a) (hn : x.1 = y.1) : twB (a ++ [x]) = true := by
  unfold twB
  have h1 := fold_once a [] h
  rw [List.map_nil] at h1
  have hk : addKey (a.map keyL) (keyL x) = a.map keyL := by
    unfold addKey
    rw [if_pos]
    refine List.any_eq_true.2 ⟨keyL y, List.mem_map_of_mem hy, ?_⟩
    unfold keyL
    rw [hn]
    simp [Lit.sameKey]
  rw [List.map_append, List.foldl_append, h1]
  show decide ((addKey (a.map keyL) (keyL x)).length < (a ++ [x]).length) = true
  rw [hk]
  simp
theorem once_right {a : List Lab} (h : rgtB a = true) : Once a := right_srt h
theorem once_snoc {a : List Lab} (h : Once a) {x : Lab} (hn : ∀ y ∈ a, y.1 ≠ x.1) : Once (a ++ [x]) :=
  List.pairwise_append.2 ⟨h, List.pairwise_singleton _ _, fun y hy z hz => by rw [List.mem_singleton.1 hz]; exact hn y hy⟩
theorem puts_once_len {l : List Lb} (h : OnceB l) (hf : Full l) : (puts [] l).length = l.length := by
  have hs := puts_srt srt_nil l
  have hm : ∀ k, k ∈ (puts [] l).map (·.1) ↔ k ∈ l.map (·.1) := by
    intro k
    rw [← find_isSome, find_puts srt_nil, find_nil]
    by_cases hk : ∃ x ∈ l, x.1 = k
    · obtain ⟨x, hx, rfl⟩ := hk
      rw [upds_once l _ h x hx, if_neg (hf x hx)]
      exact ⟨fun _ => List.mem_map_of_mem hx, fun _ => rfl⟩
    · rw [upds_no k l _ fun x hx e => hk ⟨x, hx, e⟩]
      refine ⟨fun e => (by cases e), fun e => ?_⟩
      obtain ⟨x, hx, e⟩ := List.mem_map.1 e
      exact absurd ⟨x, hx, e⟩ hk
  have n1 : ((puts [] l).map (·.1)).Pairwise (· ≠ ·) := by
    rw [List.pairwise_map]
    have hs' : (puts [] l).Pairwise fun a b => a.1 < b.1 := hs
    exact hs'.imp fun {a b} hlt e => by rw [e] at hlt; exact str_lt_irrefl _ hlt
  have n2 : (l.map (·.1)).Pairwise (· ≠ ·) := by rw [List.pairwise_map]; exact h
  have e1 := nodup_sub _ _ n1 fun k hk => (hm k).1 hk
  have e2 := nodup_sub _ _ n2 fun k hk => (hm k).2 hk
  simp only [List.length_map] at e1 e2
  omega
/-- zz, and so many more. -/
def zN (k : Nat) : ByteArray := ⟨#[122, 122]⟩ ++ ⟨(List.replicate k (122 : UInt8)).toArray⟩
theorem zN_size (k : Nat) : (zN k).size = 2 + k := by
  unfold zN
  rw [ByteArray.size_append]
  show 2 + (List.replicate k (122 : UInt8)).toArray.size = _
  simp
def zL (k : Nat) : Lab := (zN k, ⟨#[49]⟩)
theorem zL_ok : ∀ k, k < 65 → wrE (zL k) = 0 := by
  have h : (List.range 65).all (fun k => wrE (zL k) == 0) = true := by kernel_rfl
  exact fun k hk => by simpa using List.all_eq_true.1 h k (List.mem_range.2 hk)
/-- Many labels: those of a list, and others up to so many. -/
def manyL (a : List Lab) : Nat → List Lab
  | 0 => a
  | n + 1 => manyL a n ++ [zL (a.length + n)]
theorem manyL_len (a : List Lab) : ∀ n, (manyL a n).length = a.length + n
  | 0 => rfl
  | n + 1 => by
    show (manyL a n ++ [_]).length = _
    rw [List.length_append, manyL_len a n, List.length_singleton]
    omega
theorem manyL_mem (a : List Lab) : ∀ n x, x ∈ manyL a n → x ∈ a ∨ ∃ k, k < n ∧ x = zL (a.length + k)
  | 0, x, h => .inl h
  | n + 1, x, h => by
    rcases List.mem_append.1 h with h | h
    · rcases manyL_mem a n x h with h | ⟨k, hk, e⟩
      · exact .inl h
      · exact .inr ⟨k, by omega, e⟩
    · exact .inr ⟨n, by omega, List.mem_singleton.1 h⟩
theorem zN_nms : ∀ k, k < 65 → zN k ∉ nms := by
  have h : (List.range 65).all (fun k => !nms.any fun s => s.data.toList == (zN k).data.toList) = true := by kernel_rfl
  intro k hk e
  have h2 := List.all_eq_true.1 h k (List.mem_range.2 hk)
  simp only [Bool.not_eq_true', List.any_eq_false] at h2
  exact h2 _ e (by simp)
theorem manyL_once {a : List Lab} (h : RN a) : ∀ n, a.length + n ≤ 65 → Once (manyL a n)
  | 0, _ => once_right h.1
  | n + 1, hn => by
    refine once_snoc (manyL_once h n (by omega)) fun y hy e => ?_
    rcases manyL_mem a n y hy with hy | ⟨k, hk, rfl⟩
    · have := h.2 y hy
      rw [e] at this
      exact zN_nms _ (by omega) this
    · have e2 : zN (a.length + k) = zN (a.length + n) := e
      have := congrArg ByteArray.size e2
      rw [zN_size, zN_size] at this
      omega
theorem manyL_ok {a : List Lab} (h : RN a) (n : Nat) (hn : a.length + n ≤ 65) : ∀ x ∈ manyL a n, wrE x = 0 ∧ x.2 ≠ ⟨#[]⟩ := fun x hx => by
  rcases manyL_mem a n x hx with hx | ⟨k, hk, rfl⟩
  · exact right_all h.1 x hx
  · refine ⟨zL_ok _ (by omega), fun e => ?_⟩
    have := congrArg ByteArray.size e
    cases this
theorem manyL_puts {a : List Lab} (h : RN a) (n : Nat) (hn : a.length + n = 65) : (puts [] ((manyL a n).map lb)).length = 65 := by
  rw [puts_once_len (once_lb (manyL_once h n (by omega))) (fun x hx => by
    obtain ⟨y, hy, rfl⟩ := List.mem_map.1 hx
    exact fun e => (manyL_ok h n (by omega) y hy).2 (str_nil.1 e)), List.length_map, manyL_len]
  exact hn
theorem manyL_take (a : List Lab) : ∀ n, (manyL a n).take a.length = a
  | 0 => List.take_length
  | n + 1 => by
    show (manyL a n ++ [_]).take a.length = a
    rw [List.take_append_of_le_length (by rw [manyL_len]; omega), manyL_take a n]
theorem chk_many {L : List Lab} (h : 64 < L.length) : chk L = (-1, 5) := by
  unfold chk
  rw [if_pos h]
section
variable {A A1 : Option Addr} {c c1 n n1 : Nat} {L R : List Lab} {w : World} (hL : L.length ≤ 400000) (hn : n = L.length) (hbad : rgtB L = false) (hr : RdL w w.heap.size A L) (hT : Tab w)
include hL hn hbad hr hT
theorem set_44 : Calls Tryz.prog 15 #[.slice A n c, .slice none 0 0] w fun e w' => e = .returned (.tuple #[.slice none 0 0, .int .i64 44]) ∧ Kept w w' := by
  rw [hn]
  refine (set_any A none c 0 L [] hL (by simp) w hr (Rd.nil (w := w)) hT).mono fun e w' ⟨v, x, he, h, hk⟩ => ?_
  rw [show setBad L [] = some 44 by unfold setBad; rw [if_neg (by rw [hbad]; decide)]] at h
  obtain ⟨rfl, rfl⟩ := h
  exact ⟨he, hk⟩
theorem keep_44 : (Calls Tryz.prog 23 #[.slice A n c, .slice none 0 0] w fun e w' => e = .returned (.tuple #[.slice none 0 0, .int .i64 44]) ∧ Kept w w') ∧ (Calls Tryz.prog 25 #[.slice A n c, .slice none 0 0] w fun e w' => e = .returned (.tuple #[.slice none 0 0, .int .i64 44]) ∧ Kept w w') := by
  rw [hn]
  have h := keep_any A c L hL none 0 [] (by simp) w hr (Rd.nil (w := w)) hT
  constructor
  · refine h.1.mono fun e w' ⟨v, x, he, h, hk⟩ => ?_
    unfold FltV at h
    rw [if_neg (by rw [hbad]; decide)] at h
    obtain ⟨rfl, rfl⟩ := h
    exact ⟨he, hk⟩
  · refine h.2.mono fun e w' ⟨v, x, he, h, hk⟩ => ?_
    unfold FltV at h
    rw [if_neg (by rw [hbad]; decide)] at h
    obtain ⟨rfl, rfl⟩ := h
    exact ⟨he, hk⟩
theorem without_44 (p : ByteArray) : Calls Tryz.prog 27 #[.slice A n c, .string p] w fun e w' => e = .returned (.tuple #[.slice none 0 0, .int .i64 44]) ∧ Kept w w' := by
  rw [hn]
  refine (without_any A c L hL p w hr hT).mono fun e w' ⟨v, x, he, h, hk⟩ => ?_
  unfold FltV at h
  rw [if_neg (by rw [hbad]; decide)] at h
  obtain ⟨rfl, rfl⟩ := h
  exact ⟨he, hk⟩
variable (hR : R.length ≤ 400000) (hn1 : n1 = R.length) (hr1 : RdL w w.heap.size A1 R)
include hR hn1 hr1
theorem merge_44 : (Calls Tryz.prog 14 #[.slice A n c, .slice A1 n1 c1] w fun e w' => e = .returned (.tuple #[.slice none 0 0, .int .i64 44]) ∧ Kept w w') ∧ (Calls Tryz.prog 14 #[.slice A1 n1 c1, .slice A n c] w fun e w' => e = .returned (.tuple #[.slice none 0 0, .int .i64 44]) ∧ Kept w w') := by
  rw [hn, hn1]
  constructor
  · refine (merge_any A A1 c c1 L R hL hR w hr hr1 hT).mono fun e w' ⟨v, x, he, h, hk⟩ => ?_
    rw [show mergeBad L R = some 44 by unfold mergeBad; rw [if_neg (by rintro ⟨h, _⟩; rw [hbad] at h; cases h)]] at h
    obtain ⟨rfl, rfl⟩ := h
    exact ⟨he, hk⟩
  · refine (merge_any A1 A c1 c R L hR hL w hr1 hr hT).mono fun e w' ⟨v, x, he, h, hk⟩ => ?_
    rw [show mergeBad R L = some 44 by unfold mergeBad; rw [if_neg (by rintro ⟨_, h⟩; rw [hbad] at h; cases h)]] at h
    obtain ⟨rfl, rfl⟩ := h
    exact ⟨he, hk⟩
theorem export_44 : (Calls Tryz.prog 20 #[.slice A n c, .slice A1 n1 c1] w fun e w' => e = .returned (.tuple #[.slice none 0 0, .int .i64 44]) ∧ Kept w w') ∧ (Calls Tryz.prog 20 #[.slice A1 n1 c1, .slice A n c] w fun e w' => e = .returned (.tuple #[.slice none 0 0, .int .i64 44]) ∧ Kept w w') := by
  rw [hn, hn1]
  constructor
  · refine (export_any A A1 c c1 L R hL hR w hr hr1 hT).mono fun e w' ⟨v, x, he, h, hk⟩ => ?_
    rw [show mergeBad L R = some 44 by unfold mergeBad; rw [if_neg (by rintro ⟨h, _⟩; rw [hbad] at h; cases h)]] at h
    obtain ⟨rfl, rfl⟩ := h
    exact ⟨he, hk⟩
  · refine (export_any A1 A c1 c R L hR hL w hr1 hr hT).mono fun e w' ⟨v, x, he, h, hk⟩ => ?_
    rw [show mergeBad R L = some 44 by unfold mergeBad; rw [if_neg (by rintro ⟨_, h⟩; rw [hbad] at h; cases h)]] at h
    obtain ⟨rfl, rfl⟩ := h
    exact ⟨he, hk⟩
end
section
variable {A A1 : Option Addr} {c c1 n n1 : Nat} {L R : List Lab} {w : World} (g g1 : Nat) (hL : L.length ≤ 400000) (hn : n = L.length) (hbad : rgtB L = false) (hr : RdL w w.heap.size A L) (hT : Tab w) (hg : w.cell? ⟨g, 0, none⟩ = some (.slice A n c))
include hL hn hbad hr hT hg
set_option maxRecDepth 100000 in
theorem wr1_any : Calls Tryz.prog 17 #[.pointer (some ⟨g, 0, none⟩)] w fun e w' => e = .returned (.tuple #[.slice none 0 0, .int .i64 44]) ∧ Kept w w' := by
  have CS := Lib.hid (set_44 (c := c) hL hn hbad hr hT)
  clear hL hn hbad hr hT
  go_enter Tryz.func17, Tryz.ntmps17
  go_wp2_with (go_at_call 15; refine CS.out.mono ?_; rintro e w1 ⟨rfl, hk⟩; have K := Lib.hid hk; clear hk)
  go_ret2
  exact ⟨rfl, K.out⟩
set_option maxRecDepth 100000 in
theorem wr5_any : Calls Tryz.prog 22 #[.pointer (some ⟨g, 0, none⟩)] w fun e w' => e = .returned (.tuple #[.slice none 0 0, .int .i64 44]) ∧ Kept w w' := by
  have CS := Lib.hid ((keep_44 (c := c) hL hn hbad hr hT).1)
  clear hL hn hbad hr hT
  go_enter Tryz.func22, Tryz.ntmps22
  go_wp2_with (go_at_call 23; refine CS.out.mono ?_; rintro e w1 ⟨rfl, hk⟩; have K := Lib.hid hk; clear hk)
  go_ret2
  exact ⟨rfl, K.out⟩
set_option maxRecDepth 100000 in
theorem wr6_any : Calls Tryz.prog 24 #[.pointer (some ⟨g, 0, none⟩)] w fun e w' => e = .returned (.tuple #[.slice none 0 0, .int .i64 44]) ∧ Kept w w' := by
  have CS := Lib.hid ((keep_44 (c := c) hL hn hbad hr hT).2)
  clear hL hn hbad hr hT
  go_enter Tryz.func24, Tryz.ntmps24
  go_wp2_with (go_at_call 25; refine CS.out.mono ?_; rintro e w1 ⟨rfl, hk⟩; have K := Lib.hid hk; clear hk)
  go_ret2
  exact ⟨rfl, K.out⟩
set_option maxRecDepth 100000 in
theorem wr7_any : Calls Tryz.prog 26 #[.pointer (some ⟨g, 0, none⟩)] w fun e w' => e = .returned (.tuple #[.slice none 0 0, .int .i64 44]) ∧ Kept w w' := by
  have CS := Lib.hid (without_44 (c := c) hL hn hbad hr hT ⟨#[120]⟩)
  clear hL hn hbad hr hT
  go_enter Tryz.func26, Tryz.ntmps26
  go_wp2_with (go_at_call 27; refine CS.out.mono ?_; rintro e w1 ⟨rfl, hk⟩; have K := Lib.hid hk; clear hk)
  go_ret2
  exact ⟨rfl, K.out⟩
variable (hR : R.length ≤ 400000) (hn1 : n1 = R.length) (hr1 : RdL w w.heap.size A1 R) (hg1 : w.cell? ⟨g1, 0, none⟩ = some (.slice A1 n1 c1))
include hR hn1 hr1 hg1
set_option maxRecDepth 100000 in
theorem wr2_any : Calls Tryz.prog 18 #[.pointer (some ⟨g1, 0, none⟩), .pointer (some ⟨g, 0, none⟩)] w fun e w' => e = .returned (.tuple #[.slice none 0 0, .int .i64 44]) ∧ Kept w w' := by
  have CS := Lib.hid ((merge_44 (c := c) (c1 := c1) hL hn hbad hr hT hR hn1 hr1).2)
  clear hL hn hbad hr hT hR hn1 hr1
  go_enter Tryz.func18, Tryz.ntmps18
  go_wp2_with (go_at_call 14; refine CS.out.mono ?_; rintro e w1 ⟨rfl, hk⟩; have K := Lib.hid hk; clear hk)
  go_ret2
  exact ⟨rfl, K.out⟩
set_option maxRecDepth 100000 in
theorem wr3_any : Calls Tryz.prog 19 #[.pointer (some ⟨g, 0, none⟩), .pointer (some ⟨g1, 0, none⟩)] w fun e w' => e = .returned (.tuple #[.slice none 0 0, .int .i64 44]) ∧ Kept w w' := by
  have CS := Lib.hid ((export_44 (c := c) (c1 := c1) hL hn hbad hr hT hR hn1 hr1).1)
  clear hL hn hbad hr hT hR hn1 hr1
  go_enter Tryz.func19, Tryz.ntmps19
  go_wp2_with (go_at_call 20; refine CS.out.mono ?_; rintro e w1 ⟨rfl, hk⟩; have K := Lib.hid hk; clear hk)
  go_ret2
  exact ⟨rfl, K.out⟩
set_option maxRecDepth 100000 in
theorem wr4_any : Calls Tryz.prog 21 #[.pointer (some ⟨g1, 0, none⟩), .pointer (some ⟨g, 0, none⟩)] w fun e w' => e = .returned (.tuple #[.slice none 0 0, .int .i64 44]) ∧ Kept w w' := by
  have CS := Lib.hid ((export_44 (c := c) (c1 := c1) hL hn hbad hr hT hR hn1 hr1).2)
  clear hL hn hbad hr hT hR hn1 hr1
  go_enter Tryz.func21, Tryz.ntmps21
  go_wp2_with (go_at_call 20; refine CS.out.mono ?_; rintro e w1 ⟨rfl, hk⟩; have K := Lib.hid hk; clear hk)
  go_ret2
  exact ⟨rfl, K.out⟩
end
theorem grown_new {w0 w w' : World} {r : Option Nat} (h : w0.grownBy w none) (hg : w.grownBy w' r) (hr : ∀ k, r = some k → w0.heap.size ≤ k) : w0.grownBy w' none :=
  ⟨hg.os.trans h.os, hg.tape.trans h.tape, hg.output.trans h.output, Nat.le_trans h.size hg.size, fun k hk hne => (hg.block k (Nat.lt_of_lt_of_le hk h.size) (fun e => by have := hr k e.symm; omega)).trans (h.block k hk hne)⟩
theorem grown_keptN {w0 w : World} (h : w0.grownBy w none) : Kept w0 w := ⟨h.os, h.tape, h.output, h.size, fun k hk => h.block k hk (by simp)⟩
theorem own_ne {w : World} {base n size g : Nat} {e t : TypeId} {v : Value} {xs : List Value} {cs : Array Value} {fr : Nat × Nat} (h : w.ownsRow base e size v n xs) (hg : w.heap[g]? = some (.cells cs t fr)) (hne : e ≠ t) : some g ≠ v.ownBlock := by
  intro e2
  rcases h.2 with ⟨rfl, _⟩ | ⟨g', cap, cur, rfl, _, hb, _⟩
  · simp [Value.ownBlock] at e2
  · have : g = g' := by simpa [Value.ownBlock] using e2
    rw [this, hb] at hg
    cases hg
    exact hne rfl
section
variable {P : Program}
theorem run_appG (w : World) (base : Nat) (t ty : TypeId) (i : TypeInfo) (z : Value) (bytes : Nat) (ht : P.underlying t = some (.slice 33)) (hi : P.info? 33 = some i) (hz : i.zero = some z)
    (hsize : i.size = 2) (hby : i.bytes = bytes) (hzs : z.cells.size = 2)
    (v : Value) (n : Nat) (xs : List Value) (hown : w.ownsRow base 33 2 v n xs)
    (A : Option Addr) (m c : Nat) (news : List Value) (hr : Rd w w.heap.size A (m * 2) news) (h1 : ∀ u ∈ news, u.oneCell' = true)
    (h63 : n + m ≤ maxLen) (hbytes : (n + m) * bytes ≤ 140737488355328) (hbase : base ≤ w.heap.size) :
    ∃ v' w', (Builtin.append_ #[t, t] ty #[v, .slice A m c]).run P w = .ok v' w' ∧ w'.ownsRow base 33 2 v' (n + m) (xs ++ news) ∧ w.grownBy w' v.ownBlock := by
  rcases A with _ | a
  · have hm : m = 0 := by
      rcases Nat.eq_zero_or_pos m with h | h
      · exact h
      · obtain ⟨_, e, _⟩ := hr.2 (by omega)
        cases e
    subst hm
    obtain rfl := List.eq_nil_of_length_eq_zero (by have := hr.1; omega : news.length = 0)
    refine ⟨v, w, ?_, by simpa using hown, ⟨rfl, rfl, rfl, Nat.le_refl _, fun _ _ _ => rfl⟩⟩
    rcases hown.2 with ⟨rfl, rfl⟩ | ⟨g, cap, cur, rfl, _, _, hnc, _⟩
    · simp [Builtin.append_, run_underlying ht, sizeOf, typeInfo, hi, Builtin.lenOf, Builtin.firstCells]
    · simp [Builtin.append_, run_underlying ht, sizeOf, typeInfo, hi, Builtin.lenOf, Builtin.firstCells, hnc, storeCells]
  · have hc : ∀ j u, news[j]? = some u → w.cell? (a.add j) = some u := by
      intro j u hu
      have hj := (List.getElem?_eq_some_iff.1 hu).1
      obtain ⟨_, e, _, hc⟩ := hr.2 (by have := hr.1; omega)
      cases e
      exact hc j u hu
    obtain ⟨v', w', hrun, h2, h3, _, _⟩ := run_append_own_at (P := P) w base t ty 33 i z 2 bytes ht hi hz hsize hby hzs (by decide) v n xs hown a m c news hr.1 hc h1 h63 hbytes hbase
    exact ⟨v', w', hrun, h2, h3⟩
theorem step_appG {ops : Array Oper} {o : Oper} {a : Act} {w : World} {K : Act → World → Prop} {Q : Exit → Act → World → Prop} {E : Prop} (hgd : o.guard = none) (s x : Operand) (t : TypeId)
    (ho : o.op = .call { callee := .builtin .append, args := #[s, x], argTypes := #[t, t] })
    (base : Nat) (i : TypeInfo) (z : Value) (bytes : Nat) (ht : P.underlying t = some (.slice 33)) (hi : P.info? 33 = some i) (hz : i.zero = some z)
    (hsize : i.size = 2) (hby : i.bytes = bytes) (hzs : z.cells.size = 2)
    (v : Value) (n : Nat) (xs : List Value) (hs : a.eval s = v) (hown : w.ownsRow base 33 2 v n xs)
    (A : Option Addr) (m c : Nat) (news : List Value) (hx : a.eval x = .slice A m c) (hr : Rd w w.heap.size A (m * 2) news) (h1 : ∀ u ∈ news, u.oneCell' = true)
    (h63 : n + m ≤ maxLen) (hbytes : (n + m) * bytes ≤ 140737488355328) (hbase : base ≤ w.heap.size)
    (h : ∀ v' w', w'.ownsRow base 33 2 v' (n + m) (xs ++ news) → w.grownBy w' v.ownBlock → K (a.put o.dst v') w') :
    if Region.wanted o (yielded ops a.tmps) = true then Oper.wp P o a w K Q else E := by
  have hw : Region.wanted o (yielded ops a.tmps) = true := by simp [Region.wanted, hgd]
  rw [if_pos hw]
  obtain ⟨v', w', hrun, h2, h3⟩ := run_appG (P := P) w base t o.type i z bytes ht hi hz hsize hby hzs v n xs hown A m c news hr h1 h63 hbytes hbase
  unfold Oper.wp execOp
  simp only [ho, resolve, invoke, builtin, Sem.run_bind, Sem.run_pure, Result.andThen_ok, List.map_toArray, List.map_cons, List.map_nil, hs, hx, hrun]
  exact h v' w' h2 h3
theorem append_type (w : World) (t t2 ty e : TypeId) (b : Option Addr) (n cap : Nat) (x : Value) (ht : P.underlying t = some (.slice e)) (ht2 : P.underlying t2 = some (.slice e)) : (Builtin.append_ #[t, t2] ty #[.slice b n cap, x]).run P w = (Builtin.append_ #[t, t] ty #[.slice b n cap, x]).run P w := by
  have e1 : (#[t, t2] : Array TypeId)[0]? = some t := rfl
  have e2 : (#[t, t2] : Array TypeId)[1]? = some t2 := rfl
  have e3 : (#[t, t] : Array TypeId)[0]? = some t := rfl
  have e4 : (#[t, t] : Array TypeId)[1]? = some t := rfl
  unfold Builtin.append_
  simp only [e1, e2, e3, e4, Sem.run_bind, run_underlying ht, run_underlying ht2, Result.andThen_ok, List.getElem?_toArray, List.getElem?_cons_zero, List.getElem?_cons_succ]
/-- The same at a plain region's list of operations. -/
theorem wpList_appG {w : World} {ops : Array Oper} {rest : List Oper} {o : Oper} {a : Act} {Q : Exit → Act → World → Prop} (hgd : o.guard = none) (s x : Operand) (t : TypeId)
    (t2 : TypeId) (ho : o.op = .call { callee := .builtin .append, args := #[s, x], argTypes := #[t, t2] }) (ht2 : P.underlying t2 = some (.slice 33))
    (base : Nat) (i : TypeInfo) (z : Value) (bytes : Nat) (ht : P.underlying t = some (.slice 33)) (hi : P.info? 33 = some i) (hz : i.zero = some z)
    (hsize : i.size = 2) (hby : i.bytes = bytes) (hzs : z.cells.size = 2)
    (v : Value) (n : Nat) (xs : List Value) (hs : a.eval s = v) (hown : w.ownsRow base 33 2 v n xs)
    (A : Option Addr) (m c : Nat) (news : List Value) (hx : a.eval x = .slice A m c) (hr : Rd w w.heap.size A (m * 2) news) (h1 : ∀ u ∈ news, u.oneCell' = true)
    (h63 : n + m ≤ maxLen) (hbytes : (n + m) * bytes ≤ 140737488355328) (hbase : base ≤ w.heap.size)
    (h : ∀ v' w', w'.ownsRow base 33 2 v' (n + m) (xs ++ news) → w.grownBy w' v.ownBlock → wpList P ops Q rest (a.put o.dst v') w') : wpList P ops Q (o :: rest) a w := by
  refine wpList_plain hgd fun K hK => ?_
  obtain ⟨v', w', hrun, h2, h3⟩ := run_appG (P := P) w base t o.type i z bytes ht hi hz hsize hby hzs v n xs hown A m c news hr h1 h63 hbytes hbase
  obtain ⟨b0, n0, cap0, rfl⟩ : ∃ b n c, v = .slice b n c := by
    rcases hown.2 with ⟨rfl, _⟩ | ⟨g, cap, cur, rfl, _⟩
    · exact ⟨_, _, _, rfl⟩
    · exact ⟨_, _, _, rfl⟩
  have hr2 := (append_type (P := P) w t t2 o.type 33 b0 n0 cap0 (.slice A m c) ht ht2).trans hrun
  unfold Oper.wp execOp
  simp only [ho, resolve, invoke, builtin, Sem.run_bind, Sem.run_pure, Result.andThen_ok, List.map_toArray, List.map_cons, List.map_nil, hs, hx, hr2]
  exact hK _ _ (h v' w' h2 h3)
end
theorem load_lab (w : World) (g : Nat) (x y : Value) (h0 : w.cell? ⟨g, 0, none⟩ = some x) (h1 : w.cell? ⟨g, 1, none⟩ = some y) : (loadVar 33 ⟨g, 0, none⟩).run Tryz.prog w = .ok (.agg #[x, y]) w := by
  go_simp
theorem load_labs (w : World) (ad : Addr) (v : Value) (hc : w.cell? ad = some v) : (loadVar 28 ad).run Tryz.prog w = .ok v w := by go_simp
theorem yields_lab {ops : Array Oper} {w0 : World} {op : Oper} {a : Act} (hw : Region.wanted op (yielded ops a.tmps) = true) (x : Operand) (ho : op.op = .load 33 x) (g : Nat) (hx : a.eval x = .pointer (some ⟨g, 0, none⟩))
    (u v : Value) {r : Option Nat} (hlt : g < w0.heap.size) (hne : some g ≠ r) (h0 : w0.cell? ⟨g, 0, none⟩ = some u) (h1 : w0.cell? ⟨g, 1, none⟩ = some v) : YieldsIf Tryz.prog ops (fun W => w0.grownBy W r) op (.agg #[u, v]) a :=
  .inl ⟨hw, fun w hw' => by
    unfold execOp
    simp only [ho, hx, Instr.loadAt, Instr.sureAddr, Sem.run_bind, Sem.run_pure, Result.andThen_ok, load_lab w g u v ((hw'.cell_far ⟨g, 0, none⟩ hlt hne).trans h0) ((hw'.cell_far ⟨g, 1, none⟩ hlt hne).trans h1)]⟩
/-- What lies behind a place of labels, and ahead of it. -/
theorem rdl_drop {w : World} {B : Nat} {A : Option Addr} {L : List Lab} (h : RdL w B A L) (k c : Nat) (hk : k ≤ L.length) (hc : L.length ≤ c) : Rd w B (if c = k then A else A.map (·.add (k * 2))) ((L.length - k) * 2) (labs (L.drop k)) := by
  refine ⟨by rw [labs_length, List.length_drop], fun h0 => ?_⟩
  obtain ⟨ad, rfl, hb, hcc⟩ := h.2 (by omega)
  rw [if_neg (by omega)]
  refine ⟨ad.add (k * 2), rfl, by rw [addBlock]; exact hb, fun i u hu => ?_⟩
  rw [addr_add_add]
  refine hcc _ u ?_
  have h2 : labs L = labs (L.take k) ++ labs (L.drop k) := by rw [← labs_app, List.take_append_drop]
  have h3 : (labs (L.take k)).length = k * 2 := by rw [labs_length, List.length_take, Nat.min_eq_left hk]
  rw [h2, List.getElem?_append_right (by omega), h3, Nat.add_sub_cancel_left]
  exact hu
end Go.Proofs.YtlhekeokognhmaaGreatDoor
