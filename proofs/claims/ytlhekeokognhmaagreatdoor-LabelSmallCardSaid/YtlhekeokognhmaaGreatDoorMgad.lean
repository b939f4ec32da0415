/-
  What Read of package utf computes. Plain mathematics on the code points of a string, one after the other.
-/
import Derived.Test.YtlhekeokognhmaaGreatDoorMgaa
import Derived.Lib.ConvBytes
import Derived.Lib.Strings
import Derived.WalkSmall
import Derived.BigQuiet
import Derived.Deep.QuietTactic
namespace Go.Proofs.YtlhekeokognhmaaGreatDoor
open Go.RowKit Mt

/-- Read's three answers, and what is below is as it was. -/
def ReadOk (r : Int × Int × Int) (w : World) (e : Ending) (w' : World) : Prop :=
  e = .returned (.tuple #[.int .i64 r.1, .int .i64 r.2.1, .int .i64 r.2.2]) ∧ Below w.heap.size w w'
theorem readOk_mk {r : Int × Int × Int} {x n e : Int} {w w' : World} (h : r = (x, n, e)) (hb : Below w.heap.size w w') : ReadOk r w (.returned (.tuple #[.int .i64 x, .int .i64 n, .int .i64 e])) w' := by
  subst h
  exact ⟨rfl, hb⟩
/-- The bytes in the row of a conversion. -/
theorem conv_cell (W : World) (t : ByteArray) (j : Nat) (hj : j < t.size) : (Lib.bytesWorld W 5 t).cell? ⟨W.heap.size, j, none⟩ = some (.int .u8 ((bys t).getD j 0)) := by
  rw [Lib.bytesWorld_cell W _ t j hj]
  simp [bys, List.getD, hj]
theorem conv_below (B : Nat) (W : World) (t : ByteArray) (hB : B ≤ W.heap.size) : Below B W (Lib.bytesWorld W 5 t) :=
  ⟨rfl, rfl, rfl, by rw [Lib.bytesWorld_size]; omega, fun k hk => Lib.bytesWorld_at_old W _ t k (by omega)⟩

theorem conv_world (w w1 : World) (hb : Below w.heap.size w w1) (cs : List Value) (ty : TypeId) (q : Nat) (T : ByteArray) (WB : World) (hWB : Lib.bytesWorld ((w1.alloc (.cells cs.toArray ty)).drewN q) 5 T = WB) :
    Below w.heap.size w WB ∧ (∀ j, j < T.size → WB.cell? ⟨w1.heap.size + 1, j, none⟩ = some (.int .u8 ((bys T).getD j 0))) ∧ (∀ j v, cs[j]? = some v → WB.cell? ⟨w1.heap.size, j, none⟩ = some v) := by
  subst hWB
  have hz : ((w1.alloc (.cells cs.toArray ty)).drewN q).heap.size = w1.heap.size + 1 := by simp
  have h1 : Below w.heap.size w ((w1.alloc (.cells cs.toArray ty)).drewN q) := (hb.alloc hb.size _).trans ⟨rfl, rfl, rfl, Nat.le_refl _, fun _ _ => rfl⟩
  refine ⟨h1.trans (conv_below _ _ _ (by have := hb.size; omega)), fun j hj => ?_, fun j v hv => ?_⟩
  · have := conv_cell ((w1.alloc (.cells cs.toArray ty)).drewN q) T j hj
    rwa [hz] at this
  · rw [Lib.bytesWorld_old _ _ _ _ (by show w1.heap.size < _; omega), ← cells_new w1 cs ty j v hv, add0]
    rfl

set_option maxHeartbeats 1000000 in
theorem read_in (s : ByteArray) (k : Nat) (hk : k < s.size) (hs : s.size ≤ 140737488351232) (m lo hi : Int) (n : Nat) (t : List Int) (hm1 : m ≤ (s[k].toNat : Int)) (hb0 : (s[k].toNat : Int) - m ≤ 127) (hlo : 0 ≤ lo) (hhi : hi ≤ 191) (hn1 : 1 ≤ n) (hn4 : n ≤ 4)
    (T : ByteArray) (E : Int) (hE : E = k + n ∧ k + n ≤ s.size ∨ E = s.size ∧ s.size < k + n) (hTe : Hid (T = s.extract ((k : Int) + 1).toNat E.toNat)) (hTs : T.size + k + 1 = E) (hTt : Hid (bys T = t.take ((n : Int) - 1).toNat)) (htl : t.length + 1 + k = s.size) (hlo2 : 128 ≤ lo ∨ T.size = 0)
    (hl : Hid (lead (s[k].toNat : Int) = some (m, lo, hi, (n : Int)))) (w : World) (hT : Tab w) :
    Calls Tryz.prog 115 #[.string s, .int .i64 (k : Int)] w (ReadOk (rd ((s[k].toNat : Int) :: t)) w) := by
  have hcv := fun (W : World) (t : ByteArray) => Lib.run_convert_string_bytes (P := Tryz.prog) W 9 26 5 t Tryz.underlying9 Tryz.underlying26 Tryz.underlying5
  have hbeg := begin_yes (s[k].toNat : Int) m lo hi n (by omega) hl.out w hT
  have Hbeg := Lib.hid hbeg
  clear hbeg
  have hTE : T.size ≤ 3 := by omega
  have b3 : (k : Int) < s.size := by omega
  have b4 : (0 : Int) ≤ k := by omega
  have b5 : ((k : Int) + 1) ≤ E := by omega
  have hsl : ∀ W, (Instr.slice 9 (.string s) (some (.int .i64 ((k : Int) + 1))) (some (.int .i64 E)) none).run Tryz.prog W = .ok (.string T) W := by
    intro W
    have := run_slice_string (P := Tryz.prog) W 9 s .i64 .i64 ((k : Int) + 1) E Tryz.underlying9 (by omega) (by omega) (by omega)
    rw [this, hTe.out]
  rcases hE with ⟨rfl, hE⟩ | ⟨rfl, hE⟩
  all_goals
    go_enter Tryz.func115, Tryz.ntmps115
    go_wp2_with (go_at_call 122; refine Hbeg.out.mono ?_; rintro e w1 ⟨a, b, rfl, hb⟩; unfold agg6)
    go_quiet (fail)
    go_wp2
    go_quiet (fail)
    go_wp2
    generalize hWB : Lib.bytesWorld _ 5 T = WB
    obtain ⟨hbB, hcT, hf⟩ := conv_world w w1 hb _ _ _ T WB hWB
    have hf5 : WB.cell? ⟨w1.heap.size, 5, none⟩ = some (.int .i64 (n : Int)) := hf 5 _ rfl
    clear hf hWB hcv hsl Hbeg
    have HcT := Lib.hid hcT
    clear hcT
    go_loop [9, 10, 11, 61] (fun x l h i => ∃ (j : Nat) (xv lv hv : Int), j ≤ T.size ∧ i = .int .i64 j ∧ x = .int .i64 xv ∧ l = .int .u8 lv ∧ h = .int .u8 hv ∧ 0 ≤ xv ∧ (j = 0 ∧ xv ≤ 255 ∨ j = 1 ∧ xv ≤ 16383 ∨ j = 2 ∧ xv ≤ 1048575 ∨ j = 3 ∧ xv ≤ 67108863) ∧ (j < T.size → 128 ≤ lv) ∧ hv ≤ 191 ∧
      Hid (cont xv lv hv ((bys T).drop j) = cont ((s[k].toNat : Int) - m) lo hi (bys T))) (fun _ _ _ i => T.size - (intOf i).toNat)
    case atStart => exact ⟨0, _, lo, hi, by omega, rfl, rfl, rfl, rfl, by omega, by omega, by omega, hhi, rfl⟩
    case round =>
      obtain ⟨j, xv, lv, hv, hj, rfl, rfl, rfl, rfl, hx0, hxj, hlv, hhv, hco⟩ := hrel
      by_cases hjT : j < T.size
      · have h128 := hlv hjT
        obtain ⟨c, hc, hc0, hc255, hcc⟩ : ∃ c : Int, Hid ((bys T).drop j = c :: (bys T).drop (j + 1)) ∧ 0 ≤ c ∧ c ≤ 255 ∧ WB.cell? ⟨w1.heap.size + 1, j, none⟩ = some (.int .u8 c) := by
          have h1 := bys_drop T j hjT
          have h2 := bys_get T j hjT
          have h3 := HcT.out j hjT
          rw [List.getD, h2] at h3
          exact ⟨_, h1, by omega, by have := T[j].toNat_lt; omega, h3⟩
        clear hlv
        by_cases h1 : lv ≤ c
        · by_cases h2 : c ≤ hv
          · go_wp2
            go_round
            case rel => exact ⟨j + 1, xv * 64 + (c - 128), 128, 191, by omega, by go_num, rfl, rfl, rfl, by omega, by omega, by omega, by omega, by
              have := hco.out
              rw [hc.out, cont_in h1 h2] at this
              exact this⟩
            case measure => simp [intOf]; omega
          · go_wp2
            go_ret3
            refine readOk_mk (rd_bad hl.out ?_) hbB
            rw [← hTt.out, ← hco.out, hc.out, cont_out (by omega)]
        · go_wp2
          go_ret3
          refine readOk_mk (rd_bad hl.out ?_) hbB
          rw [← hTt.out, ← hco.out, hc.out, cont_out (by omega)]
      · have hco' : cont ((s[k].toNat : Int) - m) lo hi (t.take ((n : Int) - 1).toNat) = some xv := by
          rw [← hTt.out, ← hco.out, List.drop_of_length_le (by rw [bys_length]; omega)]
          rfl
        have Hco := Lib.hid hco'
        clear hco' hlv
        by_cases hsh : (s.size : Int) - k < n
        · first
          | (exfalso; omega)
          | (go_wp2
             go_ret3
             exact readOk_mk (rd_short hl.out Hco.out (by omega)) hbB)
        · first
          | (exfalso; omega)
          | (go_wp2
             go_quiet (fail)
             go_wp2
             go_ret3
             exact readOk_mk (rd_ok hl.out Hco.out (by omega)) (below_drewN hbB _))

theorem read_bad (s : ByteArray) (at_ : Int) (h : at_ < 0 ∨ (s.size : Int) < at_) (w : World) : Calls Tryz.prog 115 #[.string s, .int .i64 at_] w (ReadOk (0, 0, 2) w) := by
  by_cases h0 : at_ < 0
  · clear h
    go_enter Tryz.func115, Tryz.ntmps115
    go_wp2
    go_ret3
    exact readOk_mk rfl (Below.refl _ _)
  · have h1 : (s.size : Int) < at_ := by omega
    clear h
    go_enter Tryz.func115, Tryz.ntmps115
    go_wp2
    go_ret3
    exact readOk_mk rfl (Below.refl _ _)
theorem read_end (s : ByteArray) (at_ : Int) (h : at_ = s.size) (w : World) : Calls Tryz.prog 115 #[.string s, .int .i64 at_] w (ReadOk (0, 0, 6) w) := by
  subst h
  have h0 : (0 : Int) ≤ s.size := by omega
  go_enter Tryz.func115, Tryz.ntmps115
  go_wp2
  go_ret3
  exact readOk_mk rfl (Below.refl _ _)
theorem read_none (s : ByteArray) (k : Nat) (hk : k < s.size) (hl : Hid (lead (s[k].toNat : Int) = none)) (w : World) (hT : Tab w) : Calls Tryz.prog 115 #[.string s, .int .i64 (k : Int)] w (ReadOk (0, 0, 11) w) := by
  have hbeg := begin_no (s[k].toNat : Int) hl.out w hT
  have Hbeg := Lib.hid hbeg
  clear hbeg
  have b3 : (k : Int) < s.size := by omega
  have b4 : (0 : Int) ≤ k := by omega
  go_enter Tryz.func115, Tryz.ntmps115
  go_wp2_with (go_at_call 122; refine Hbeg.out.mono ?_; rintro e w1 ⟨rfl, hb⟩; unfold agg6)
  go_ret3
  exact readOk_mk rfl (hb.alloc hb.size _)
/-- WHAT READ ANSWERS, whatever the string and the offset are. -/
theorem read_any (s : ByteArray) (at_ : Int) (hs : s.size ≤ 140737488351232) (w : World) (hT : Tab w) : Calls Tryz.prog 115 #[.string s, .int .i64 at_] w (ReadOk (rdAt (bys s) at_) w) := by
  by_cases h : at_ < 0 ∨ (s.size : Int) < at_
  · rw [show rdAt (bys s) at_ = (0, 0, 2) from by unfold rdAt; rw [bys_length, if_pos h]]
    exact read_bad s at_ h w
  · obtain ⟨k, rfl⟩ := Int.eq_ofNat_of_zero_le (show 0 ≤ at_ by omega)
    rw [show rdAt (bys s) (k : Int) = rd ((bys s).drop k) from by unfold rdAt; rw [bys_length, if_neg h, Int.toNat_natCast]]
    by_cases he : k = s.size
    · rw [he, List.drop_of_length_le (by rw [bys_length]; exact Nat.le_refl _)]
      exact read_end s _ rfl w
    · have hk : k < s.size := by omega
      rw [bys_drop s k hk]
      cases hl : lead (s[k].toNat : Int) with
      | none =>
        rw [rd_none hl]
        exact read_none s k hk hl w hT
      | some r =>
        obtain ⟨m, lo, hi, n'⟩ := r
        obtain ⟨h1, h2, h3, h4, h5, h6, h7, _, _, _⟩ := lead_bd (by omega) hl
        obtain ⟨n, rfl⟩ := Int.eq_ofNat_of_zero_le (show 0 ≤ n' by omega)
        have hlen : ((bys s).drop (k + 1)).length = s.size - (k + 1) := by rw [List.length_drop, bys_length]
        by_cases hE : k + n ≤ s.size
        · have hx : (s.extract ((k : Int) + 1).toNat ((k : Int) + n).toNat).size = n - 1 := by rw [ByteArray.size_extract]; omega
          refine read_in s k hk hs m lo hi n _ h1 h2 h3 h4 (by omega) (by omega) (s.extract ((k : Int) + 1).toNat ((k : Int) + n).toNat) ((k : Int) + n) (.inl ⟨rfl, hE⟩) rfl (by rw [hx]; omega) ?_ (by rw [hlen]; omega) (by rw [hx]; omega) hl w hT
          show bys _ = _
          rw [bys_extract]
          rw [show ((k : Int) + 1).toNat = k + 1 from by omega, show ((k : Int) + (n : Int)).toNat - (k + 1) = ((n : Int) - 1).toNat from by omega]
        · have hx : (s.extract ((k : Int) + 1).toNat ((s.size : Int)).toNat).size = s.size - (k + 1) := by rw [ByteArray.size_extract]; omega
          refine read_in s k hk hs m lo hi n _ h1 h2 h3 h4 (by omega) (by omega) (s.extract ((k : Int) + 1).toNat ((s.size : Int)).toNat) (s.size : Int) (.inr ⟨rfl, by omega⟩) rfl (by rw [hx]; omega) ?_ (by rw [hlen]; omega) (by rw [hx]; omega) hl w hT
          show bys _ = _
          rw [bys_extract]
          rw [show ((k : Int) + 1).toNat = k + 1 from by omega, List.take_of_length_le (by rw [hlen]; omega), List.take_of_length_le (by rw [hlen]; omega)]
end Go.Proofs.YtlhekeokognhmaaGreatDoor
namespace Go.Proofs.YtlhekeokognhmaaGreatDoor.Mt
theorem cont_bd {x lo hi y : Int} {t : List Int} (h : cont x lo hi t = some y) (hx : 0 ≤ x) (hlo : 128 ≤ lo ∨ t = []) : 0 ≤ y := by
  induction t generalizing x lo hi with
  | nil => simp only [cont, Option.some.injEq] at h; omega
  | cons c t ih =>
    by_cases hc : lo ≤ c ∧ c ≤ hi
    · rw [cont_in hc.1 hc.2] at h
      have : 128 ≤ lo := by rcases hlo with h | h; exact h; cases h
      exact ih h (by omega) (.inl (by omega))
    · rw [cont_out hc] at h; cases h
/-- A code point that was read has some bytes, and they are there. -/
theorem rd_ok_bd {l : List Int} (h0 : ∀ c ∈ l, 0 ≤ c ∧ c ≤ 255) (h : (rd l).2.2 = 0) : 1 ≤ (rd l).2.1 ∧ (rd l).2.1 ≤ 4 ∧ (rd l).2.1 ≤ l.length := by
  cases l with
  | nil => simp [rd] at h
  | cons c t =>
    have hc := h0 c (by simp)
    cases hl : lead c with
    | none => rw [rd_none hl] at h; cases h
    | some r =>
      obtain ⟨m, lo, hi, n⟩ := r
      obtain ⟨_, _, _, _, h5, h6, _⟩ := lead_bd hc.1 hl
      cases hk : cont (c - m) lo hi (t.take (n - 1).toNat) with
      | none => rw [rd_bad hl hk] at h; cases h
      | some x =>
        by_cases hn : (t.length : Int) + 1 < n
        · rw [rd_short hl hk hn] at h; cases h
        · rw [rd_ok hl hk hn]
          simp only [List.length_cons]
          omega
/-- The code points from an offset on, each with the offset behind it. -/
def steps (l : List Int) : Nat → Nat → List (Int × Int)
  | 0, _ => []
  | f + 1, a => if (rd (l.drop a)).2.2 = 0 then ((a : Int) + (rd (l.drop a)).2.1, (rd (l.drop a)).1) :: steps l f (a + (rd (l.drop a)).2.1.toNat) else []
def allSteps (l : List Int) : List (Int × Int) := steps l (l.length + 1) 0
theorem steps_go {l : List Int} {f a : Nat} (h : (rd (l.drop a)).2.2 = 0) : steps l (f + 1) a = ((a : Int) + (rd (l.drop a)).2.1, (rd (l.drop a)).1) :: steps l f (a + (rd (l.drop a)).2.1.toNat) := if_pos h
theorem steps_stop {l : List Int} {f a : Nat} (h : ¬ (rd (l.drop a)).2.2 = 0) : steps l (f + 1) a = [] := if_neg h
/-- The first offset at which bytes are not good. -/
def finF (l : List Int) : Nat → Nat → Nat
  | 0, a => a
  | f + 1, a => if (rd (l.drop a)).2.2 = 0 then finF l f (a + (rd (l.drop a)).2.1.toNat) else a
def fin (l : List Int) : Nat := finF l (l.length + 1) 0
/-- The last of some offsets; the first one if there are none. -/
def lastOf (a : Int) : List (Int × Int) → Int
  | [] => a
  | p :: t => lastOf p.1 t
theorem lastOf_snoc (a : Int) (l : List (Int × Int)) (p : Int × Int) : lastOf a (l ++ [p]) = p.1 := by
  induction l generalizing a with
  | nil => rfl
  | cons q t ih => exact ih q.1
theorem lastOf_steps (l : List Int) (h0 : ∀ c ∈ l, 0 ≤ c ∧ c ≤ 255) (f a : Nat) : lastOf (a : Int) (steps l f a) = (finF l f a : Int) := by
  induction f generalizing a with
  | zero => rfl
  | succ f ih =>
    by_cases h : (rd (l.drop a)).2.2 = 0
    · have := rd_ok_bd (fun c hc => h0 c (List.mem_of_mem_drop hc)) h
      rw [steps_go h]
      show lastOf ((a : Int) + (rd (l.drop a)).2.1) _ = _
      rw [show (a : Int) + (rd (l.drop a)).2.1 = ((a + (rd (l.drop a)).2.1.toNat : Nat) : Int) from by omega, ih]
      show _ = ((if (rd (l.drop a)).2.2 = 0 then finF l f (a + (rd (l.drop a)).2.1.toNat) else a : Nat) : Int)
      rw [if_pos h]
    · rw [steps_stop h]
      show (a : Int) = ((if (rd (l.drop a)).2.2 = 0 then finF l f (a + (rd (l.drop a)).2.1.toNat) else a : Nat) : Int)
      rw [if_neg h]
theorem lastOf_all (l : List Int) (h0 : ∀ c ∈ l, 0 ≤ c ∧ c ≤ 255) : lastOf 0 (allSteps l) = (fin l : Int) := lastOf_steps l h0 _ 0
theorem finF_le (l : List Int) (h0 : ∀ c ∈ l, 0 ≤ c ∧ c ≤ 255) (f a : Nat) (ha : a ≤ l.length) : finF l f a ≤ l.length := by
  induction f generalizing a with
  | zero => exact ha
  | succ f ih =>
    show (if (rd (l.drop a)).2.2 = 0 then finF l f (a + (rd (l.drop a)).2.1.toNat) else a) ≤ l.length
    split
    · next h =>
      have := rd_ok_bd (fun c hc => h0 c (List.mem_of_mem_drop hc)) h
      rw [List.length_drop] at this
      exact ih _ (by omega)
    · exact ha
theorem fin_le (l : List Int) (h0 : ∀ c ∈ l, 0 ≤ c ∧ c ≤ 255) : fin l ≤ l.length := finF_le l h0 _ 0 (Nat.zero_le _)
/-- What Check answers. -/
def chkE (l : List Int) : Int := if fin l = l.length then 0 else (rd (l.drop (fin l))).2.2
/-- The end of the longest beginning of at most n bytes. -/
def cutEnd (l : List Int) (n : Int) : Int := lastOf 0 ((allSteps l).takeWhile fun p => decide (p.1 ≤ n))
theorem takeWhile_of_prefix {α : Type} {q : α → Bool} {xs pre : List α} {x : α} (h : (pre ++ [x]) <+: xs) (h1 : ∀ y ∈ pre, q y = true) (h2 : q x = false) : xs.takeWhile q = pre := by
  obtain ⟨r, rfl⟩ := h
  rw [List.append_assoc, List.takeWhile_append_of_pos h1]
  simp [h2]
theorem takeWhile_of_all {α : Type} {q : α → Bool} {xs : List α} (h : ∀ y ∈ xs, q y = true) : xs.takeWhile q = xs := by
  have := List.takeWhile_append_of_pos (l₂ := []) h
  simpa using this
theorem steps_le (l : List Int) (h0 : ∀ c ∈ l, 0 ≤ c ∧ c ≤ 255) (f a : Nat) (ha : a ≤ l.length) : ∀ p ∈ steps l f a, (a : Int) < p.1 ∧ p.1 ≤ l.length := by
  induction f generalizing a with
  | zero => intro p hp; cases hp
  | succ f ih =>
    intro p hp
    by_cases h : (rd (l.drop a)).2.2 = 0
    · have hb := rd_ok_bd (fun c hc => h0 c (List.mem_of_mem_drop hc)) h
      rw [List.length_drop] at hb
      rw [steps_go h] at hp
      rcases List.mem_cons.1 hp with rfl | hp
      · dsimp only; omega
      · have := ih (a + (rd (l.drop a)).2.1.toNat) (by omega) p hp
        omega
    · rw [steps_stop h] at hp; cases hp
theorem lastOf_mem (a : Int) (xs : List (Int × Int)) : lastOf a xs = a ∨ ∃ p ∈ xs, lastOf a xs = p.1 := by
  induction xs generalizing a with
  | nil => exact .inl rfl
  | cons p t ih =>
    right
    rcases ih p.1 with h | ⟨q, hq, h⟩
    · exact ⟨p, by simp, h⟩
    · exact ⟨q, by simp [hq], h⟩
theorem cutEnd_bd (l : List Int) (h0 : ∀ c ∈ l, 0 ≤ c ∧ c ≤ 255) (n : Int) : 0 ≤ cutEnd l n ∧ cutEnd l n ≤ l.length := by
  unfold cutEnd
  rcases lastOf_mem 0 ((allSteps l).takeWhile fun p => decide (p.1 ≤ n)) with h | ⟨p, hp, h⟩
  · rw [h]; omega
  · rw [h]
    have := steps_le l h0 (l.length + 1) 0 (Nat.zero_le _) p ((List.takeWhile_sublist _).subset hp)
    omega
end Go.Proofs.YtlhekeokognhmaaGreatDoor.Mt
