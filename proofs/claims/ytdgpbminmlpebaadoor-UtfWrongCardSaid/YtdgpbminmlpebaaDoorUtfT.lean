/-
  What Text of package utf computes; what the statements' helpers made and SameInts compute.
-/
import Derived.Test.YtdgpbminmlpebaaDoorUtfB
import Derived.Test.YtdgpbminmlpebaaDoorKitA
import Derived.Test.YtdgpbminmlpebaaDoorMath4
import Derived.Laws.BytesArg
namespace Go.Proofs.YtdgpbminmlpebaaDoor
open Go.RowKit Mt

set_option maxHeartbeats 1000000 in
theorem same_ints_eq (w : World) (B : Nat) (A A' : Option Addr) (n c c' : Nat) (xs ys : List Int) (hx : Rd w B A n (i64s xs)) (hy : Rd w B A' n (i64s ys)) (hn : n ≤ 140737488355328) :
    Calls Tryd.prog 24 #[.slice A n c, .slice A' n c'] w (SameOk (i64s xs) (i64s ys) w) := by
  have Hx := Lib.hid hx
  have Hy := Lib.hid hy
  clear hx hy
  go_enter Tryd.func24, Tryd.ntmps24
  go_wp2
  go_loopw [5] (fun i wr => ∃ k q : Nat, k ≤ n ∧ i = .int .i64 k ∧ wr = w.drewN q ∧ Hid ((i64s xs).take k = (i64s ys).take k)) (fun i _ => n - (intOf i).toNat)
  case atStart => exact ⟨0, 0, by omega, rfl, rfl, rfl⟩
  case round =>
    obtain ⟨k, q, hk, rfl, rfl, ht⟩ := hrel
    by_cases hkn : k < n
    · obtain ⟨ad, u, rfl, _, hu, hcu⟩ := Hx.out.at_ hkn
      obtain ⟨bd, v, rfl, _, hv, hcv⟩ := Hy.out.at_ hkn
      have hl1 : k < xs.length := by have := Hx.out.1; rw [i64s_length] at this; omega
      have hl2 : k < ys.length := by have := Hy.out.1; rw [i64s_length] at this; omega
      rw [i64s_get xs k hl1] at hu
      rw [i64s_get ys k hl2] at hv
      obtain rfl := Option.some.inj hu
      obtain rfl := Option.some.inj hv
      have Hu := Lib.hid (i64s_get xs k hl1)
      have Hv := Lib.hid (i64s_get ys k hl2)
      clear hu hv
      generalize xs.getD k 0 = x at *
      generalize ys.getD k 0 = y at *
      by_cases he : x = y
      · subst he
        go_wp2
        go_quiet (fail)
        go_wp2
        go_roundw
        case rel => exact ⟨k + 1, _, by omega, by go_num, rfl, take_eq_snoc ht.out Hu.out Hv.out⟩
        case measure => simp [intOf]; omega
      · have Hne := Lib.hid he
        have h1 : (x == y) = false := by simpa using he
        have h2 : (x != y) = true := by simpa using he
        clear he
        go_wp2
        go_quiet (fail)
        go_wp2
        go_ret
        rw [World.drewN_drewN]
        exact sameOk_no (ne_of_get Hu.out Hv.out (fun e => Hne.out (by injection e))) _ _
    · obtain rfl : k = n := by omega
      go_wp2
      go_ret
      refine sameOk_yes ?_ _ _
      have := ht.out
      rw [List.take_of_length_le (by rw [Hx.out.1]; exact Nat.le_refl _), List.take_of_length_le (by rw [Hy.out.1]; exact Nat.le_refl _)] at this
      exact this
theorem same_ints (w : World) (B : Nat) (A A' : Option Addr) (n n' c c' : Nat) (xs ys : List Int) (hx : Rd w B A n (i64s xs)) (hy : Rd w B A' n' (i64s ys)) (hn : n ≤ 140737488355328) :
    Calls Tryd.prog 24 #[.slice A n c, .slice A' n' c'] w (SameOk (i64s xs) (i64s ys) w) := by
  by_cases h : n = n'
  · subst h
    exact same_ints_eq w B A A' n c c' xs ys hx hy hn
  · have hne : i64s xs ≠ i64s ys := fun e => h (by rw [← hx.1, ← hy.1, e])
    have Hne := Lib.hid hne
    have h1 : ((n : Int) == (n' : Int)) = false := by rw [beq_eq_false_iff_ne]; omega
    have h2 : ((n : Int) != (n' : Int)) = true := by rw [bne_iff_ne]; omega
    clear hne h hx hy
    go_enter Tryd.func24, Tryd.ntmps24
    go_wp2
    go_ret
    exact sameOk_no Hne.out w 0

theorem info3 : (Tryd.prog.info? 3).map (fun i => (i.zero, i.size, i.bytes)) = some (some (.int .i64 0), 1, 8) := by kernel_rfl
/-- A string of the bytes that an owned row holds. -/
theorem conv_own {base : Nat} {v : Value} {n : Nat} {xs : List Int} (w : World) (h : w.ownsRow base 5 1 v n (u8s xs)) : (convert 22 9 v).run Tryd.prog w = .ok (.string (strOfNums xs)) w := by
  have hl := h.1
  rw [u8s_length, Nat.mul_one] at hl
  rcases h.2 with ⟨rfl, rfl⟩ | ⟨g, cap, cur, rfl, _, hg, hc, _, hs, ht⟩
  · obtain rfl := List.eq_nil_of_length_eq_zero hl
    exact run_convert_bytes_nil w 22 5 Tryd.underlying22 Tryd.underlying5 0 0 9 Tryd.underlying9
  · refine run_convert_bytes_arg w 22 5 Tryd.underlying22 Tryd.underlying5 g 0 n cap xs hl (fun i hi => ?_) 9 Tryd.underlying9
    have := h.cells (g := g) rfl i _ (u8s_get xs i (by omega))
    rw [add0] at this
    rw [Nat.zero_add]
    exact this
/-- What Text answers. -/
def textR (l : List Int) : ByteArray × Int := if l.all isPt then (strOfNums (forms l), 0) else (⟨#[]⟩, 2)
def TextOk (r : ByteArray × Int) (w : World) (e : Ending) (w' : World) : Prop := e = .returned (.tuple #[.string r.1, .int .i64 r.2]) ∧ Below w.heap.size w w'
set_option maxHeartbeats 1000000 in
theorem text_in (l : List Int) (A : Option Addr) (n c : Nat) (w : World) (hr : Rd w w.heap.size A n (i64s l)) (hn : n ≤ 1048576) :
    Calls Tryd.prog 21 #[.slice A n c] w (TextOk (textR l) w) := by
  have Hr := Lib.hid hr
  have hl : l.length = n := by have := hr.1; rwa [i64s_length] at this
  have Hl := Lib.hid hl
  clear hr hl
  go_enter Tryd.func21, Tryd.ntmps21
  go_wp2
  go_loopw [4, 13] (fun v i wr => ∃ k m : Nat, k ≤ n ∧ i = .int .i64 k ∧ m ≤ 4 * k ∧ Hid (wr.ownsRow w.heap.size 5 1 v m (u8s (forms (l.take k)))) ∧ Below w.heap.size w wr ∧ Hid ((l.take k).all isPt = true)) (fun _ i _ => n - (intOf i).toNat)
  case atStart => exact ⟨0, 0, by omega, rfl, by omega, World.ownsRow_nil _ _ _ _, Below.refl _ _, rfl⟩
  case round =>
    obtain ⟨k, m, hk, rfl, hm, hown, hb, hall⟩ := hrel
    by_cases hkn : k < n
    · obtain ⟨ad, u, rfl, hadb, hu, hcu⟩ := Hr.out.at_ hkn
      rw [i64s_get l k (by rw [Hl.out]; exact hkn)] at hu
      obtain rfl := Option.some.inj hu
      have hcu' : wr.cell? (ad.add k) = some (.int .i64 (l.getD k 0)) := (hb.cell (p := ad.add k) (by rw [addBlock]; exact hadb)).trans hcu
      have htk : Hid (l.take (k + 1) = l.take k ++ [l.getD k 0]) := by
        show _ = _
        have hlt : k < l.length := by rw [Hl.out]; exact hkn
        rw [List.take_succ_eq_append_getElem hlt]
        simp [List.getD, hlt]
      clear hu hcu
      generalize l.getD k 0 = x at *
      have hbs := hb.size
      by_cases hx : isPt x = true
      · have Hx := Lib.hid hx
        clear hx
        go_wp2_with (go_at_call 32; refine (append_own w.heap.size x Hx.out _ m _ wr hown.out (by omega) hbs).mono ?_; rintro e w1 ⟨v', rfl, hown', hg⟩)
        have hfl := form_pos x
        have hB : Below w.heap.size w w1 := hb.grown hg hbs (fun j e => (hown.out.lt j e).1)
        go_roundw
        case rel => exact ⟨k + 1, m + (form x).length, by omega, by go_num, by omega, by show World.ownsRow _ _ _ _ _ _ _; rw [htk.out, forms_append, show forms [x] = form x from by simp [forms]]; exact hown', hB, by show _ = _; rw [htk.out, List.all_append, hall.out]; simp [Hx.out]⟩
        case measure => simp [intOf]; omega
      · have Hx := Lib.hid (show isPt x = false from by simpa using hx)
        clear hx
        go_wp2_with (go_at_call 32; refine (append_no x Hx.out _ wr).mono ?_; rintro e w1 ⟨rfl, rfl⟩)
        go_ret2
        refine ⟨?_, hb⟩
        have : l.all isPt = false := by
          rw [← List.take_append_drop (k + 1) l, htk.out]
          simp [Hx.out]
        rw [show textR l = (⟨#[]⟩, 2) from by unfold textR; rw [this]; rfl]
        rfl
    · obtain rfl : k = n := by omega
      have e : l.take k = l := List.take_of_length_le (by rw [Hl.out]; exact Nat.le_refl _)
      rw [e] at hown hall
      have hcv := conv_own wr hown.out
      clear e
      go_wp2
      go_ret2
      refine ⟨?_, hb⟩
      rw [show textR l = (strOfNums (forms l), 0) from by unfold textR; rw [if_pos hall.out]]
      rfl
/-- Text of code points. -/
theorem text_pts (l : List Int) (hp : AllPt l) (A : Option Addr) (n c : Nat) (w : World) (hr : Rd w w.heap.size A n (i64s l)) (hn : n ≤ 1048576) :
    Calls Tryd.prog 21 #[.slice A n c] w fun e w' => e = .returned (.tuple #[.string (strOfNums (forms l)), .int .i64 0]) ∧ Below w.heap.size w w' := by
  have := text_in l A n c w hr hn
  rw [show textR l = (strOfNums (forms l), 0) from if_pos (List.all_eq_true.2 hp)] at this
  exact this
theorem text_long (A : Option Addr) (n c : Nat) (w : World) (hn : 1048576 < n) :
    Calls Tryd.prog 21 #[.slice A n c] w fun e w' => e = .returned (.tuple #[.string ⟨#[]⟩, .int .i64 3]) ∧ Below w.heap.size w w' := by
  have h1 : (1048576 : Int) < n := by omega
  go_enter Tryd.func21, Tryd.ntmps21
  go_wp2
  go_ret2
  exact ⟨rfl, Below.refl _ _⟩
theorem bys_strOfNums {l : List Int} (h : ∀ c ∈ l, 0 ≤ c ∧ c ≤ 255) : bys (strOfNums l) = l := by
  unfold bys strOfNums
  simp only [List.map_map]
  conv => rhs; rw [← List.map_id l]
  refine List.map_congr_left fun c hc => ?_
  have := h c hc
  simp only [Function.comp, id]
  rw [UInt8.toNat_ofNat', Nat.mod_eq_of_lt (by omega)]
  omega

/-- The code point that is made of a number. -/
def ptOf (z : Int) : Int := if 55296 ≤ z % 1114112 ∧ z % 1114112 ≤ 57343 then z % 1114112 - 55296 else z % 1114112
theorem ptOf_pt (z : Int) : isPt (ptOf z) = true := by
  unfold ptOf
  split
  · exact isPt_mk (by omega)
  · exact isPt_mk (by omega)
theorem ptmade (z : Int) (h0 : 0 ≤ z) (h1 : z ≤ 4294967295) (w : World) : Calls Tryd.prog 48 #[.int .u32 z] w fun e w' => e = .returned (.int .i64 (ptOf z)) ∧ w = w' := by
  have a0 : 0 ≤ z % 1114112 := by omega
  have a1 : z % 1114112 < 1114112 := by omega
  by_cases h2 : 55296 ≤ z % 1114112
  · by_cases h3 : z % 1114112 ≤ 57343
    · have hp : Hid (ptOf z = z % 1114112 - 55296) := if_pos ⟨h2, h3⟩
      go_enter Tryd.func48, Tryd.ntmps48
      go_wp2
      go_ret
      exact ⟨by rw [hp.out]; rfl, rfl⟩
    · have hp : Hid (ptOf z = z % 1114112) := if_neg (by omega)
      go_enter Tryd.func48, Tryd.ntmps48
      go_wp2
      go_ret
      exact ⟨by rw [hp.out]; rfl, rfl⟩
  · have hp : Hid (ptOf z = z % 1114112) := if_neg (by omega)
    go_enter Tryd.func48, Tryd.ntmps48
    go_wp2
    go_ret
    exact ⟨by rw [hp.out]; rfl, rfl⟩
end Go.Proofs.YtdgpbminmlpebaaDoor
