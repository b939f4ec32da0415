/-
  Names and values of labels. Arrays in memory at any address: loads and stores of all their cells, as steps of a walk and of a region that draws its order.
-/
import Derived.Test.YtlhekeokognhmaaGreatDoorMgab
import Derived.Test.YtlhekeokognhmaaGreatDoorMgac
import Derived.Test.YtlhekeokognhmaaGreatDoorMgae
import Derived.Test.YtlhekeokognhmaaGreatDoorMgaa
import Derived.Laws.CopyRow
import Derived.Laws.Tables
import Derived.Deep.RegionLaw
namespace Go.Proofs.YtlhekeokognhmaaGreatDoor
open Go.RowKit Go.Shelf
def digB (c : Int) : Bool := decide (48 ≤ c) && decide (c ≤ 57)
def letB (c : Int) : Bool := (decide (97 ≤ c) && decide (c ≤ 122)) || (decide (65 ≤ c) && decide (c ≤ 90))
def namB (c : Int) : Bool := letB c || digB c || decide (c = 95)
def metB (c : Int) : Bool := namB c || decide (c = 58)
theorem digit_any (c : Int) (w : World) : Calls Tryz.prog 104 #[.int .u8 c] w fun e w' => e = .returned (.bool (digB c)) ∧ w = w' := by
  unfold digB
  by_cases h1 : (48 : Int) ≤ c
  · go_enter Tryz.func104, Tryz.ntmps104
    go_wp2_with fail
    go_ret
    exact ⟨by (try simp); (try (intros; omega)), rfl⟩
  · go_enter Tryz.func104, Tryz.ntmps104
    go_wp2_with fail
    go_ret
    exact ⟨by (try simp); (try (intros; omega)), rfl⟩
theorem letter_any (c : Int) (w : World) : Calls Tryz.prog 105 #[.int .u8 c] w fun e w' => e = .returned (.bool (letB c)) ∧ w = w' := by
  unfold letB
  by_cases h1 : (97 : Int) ≤ c <;> by_cases h2 : c ≤ 122 <;> by_cases h3 : (65 : Int) ≤ c
  all_goals
    go_enter Tryz.func105, Tryz.ntmps105
    go_wp2_with fail
    go_ret
    exact ⟨by (try simp); (try (intros; omega)), rfl⟩
theorem inName_any (c : Int) (w : World) : Calls Tryz.prog 86 #[.int .u8 c] w fun e w' => e = .returned (.bool (namB c)) ∧ w = w' := by
  have CL := fun w => letter_any c w
  have CD := fun w => digit_any c w
  unfold namB
  generalize letB c = a at CL ⊢
  generalize digB c = b at CD ⊢
  replace CL := Lib.hid CL
  replace CD := Lib.hid CD
  cases a <;> cases b
  all_goals
    go_enter Tryz.func86, Tryz.ntmps86
    go_wp2_with (first
      | (go_at_call 105; refine (CL.out _).mono ?_; rintro e w1 ⟨rfl, rfl⟩)
      | (go_at_call 104; refine (CD.out _).mono ?_; rintro e w1 ⟨rfl, rfl⟩))
    go_ret
    exact ⟨by first | rfl | (simp; done), rfl⟩
theorem inMetric_any (c : Int) (w : World) : Calls Tryz.prog 87 #[.int .u8 c] w fun e w' => e = .returned (.bool (metB c)) ∧ w = w' := by
  have CN := fun w => inName_any c w
  unfold metB
  generalize namB c = a at CN ⊢
  replace CN := Lib.hid CN
  cases a
  all_goals
    go_enter Tryz.func87, Tryz.ntmps87
    go_wp2_with (go_at_call 86; refine (CN.out _).mono ?_; rintro e w1 ⟨rfl, rfl⟩)
    go_ret
    exact ⟨by first | rfl | (simp; done), rfl⟩
theorem bw_kept (w : World) (e : TypeId) (s : ByteArray) : Kept w (Lib.bytesWorld w e s) :=
  ⟨rfl, rfl, rfl, by rw [Lib.bytesWorld_size]; omega, fun k hk => Lib.bytesWorld_at_old w e s k hk⟩
theorem bw_rd (w : World) (e : TypeId) (s : ByteArray) : Rd (Lib.bytesWorld w e s) (Lib.bytesWorld w e s).heap.size (some ⟨w.heap.size, 0, none⟩) s.size (u8s (bys s)) := by
  refine ⟨by rw [u8s_length, bys_length], fun _ => ⟨_, rfl, by rw [Lib.bytesWorld_size]; exact Nat.lt_succ_self _, fun j u hu => ?_⟩⟩
  have hj : j < s.size := by
    have := (List.getElem?_eq_some_iff.1 hu).1
    rwa [u8s_length, bys_length] at this
  rw [u8s_get _ _ (by rw [bys_length]; exact hj)] at hu
  cases hu
  rw [add0, Lib.bytesWorld_cell w e s j hj]
  have e1 : s.data.toList[j]? = some s[j] := by rw [List.getElem?_eq_getElem (by simpa using hj)]; rfl
  simp [List.getD_eq_getElem?_getD, e1, bys_get s j hj]
/-- A name of bytes that p allows. -/
def nmB (p : Int → Bool) (s : ByteArray) : Bool := decide (s.size ≠ 0) && decide (s.size ≤ 128) && !digB ((bys s).getD 0 0) && (bys s).all p
theorem named_any (f : Nat) (p : Int → Bool) (hf : f = 86 ∨ f = 87) (C : ∀ c w, Calls Tryz.prog f #[.int .u8 c] w fun e w' => e = .returned (.bool (p c)) ∧ w = w') (s : ByteArray) (w : World) :
    Calls Tryz.prog 85 #[.string s, .func (.func f) #[] #[]] w fun e w' => e = .returned (.bool (nmB p s)) ∧ Kept w w' := by
  have hcv : (convert 9 26 (.string s)).run Tryz.prog w = .ok (.slice (some ⟨w.heap.size, 0, none⟩) s.size (grownCap w s.size 0 5)) (Lib.bytesWorld w 5 s) := Lib.run_convert_string_bytes w 9 26 5 s Tryz.underlying9 Tryz.underlying26 Tryz.underlying5
  have HC := Lib.hid C
  have HB := Lib.hid (bw_kept w 5 s)
  have HR := Lib.hid (bw_rd w 5 s)
  have CD := Lib.hid digit_any
  have hdef : ∀ b, (b = nmB p s) → b = nmB p s := fun _ h => h
  clear C hdef
  by_cases h0 : s.size = 0
  · have hn : nmB p s = false := by unfold nmB; simp [h0]
    rw [hn]
    have h0' : ((s.size : Int) == 0) = true := by simp [h0]
    clear h0 hf
    go_enter Tryz.func85, Tryz.ntmps85
    go_wp2_with fail
    go_ret
    exact ⟨rfl, Below.refl _ _⟩
  · have h0' : ((s.size : Int) == 0) = false := beq_eq_false_iff_ne.2 (by omega)
    by_cases h1 : s.size ≤ 128
    · have h1' : ¬ (128 : Int) < (s.size : Int) := by omega
      have hpos : (0 : Int) < (s.size : Int) := by omega
      obtain ⟨c0, hc0⟩ : ∃ c, c = (bys s).getD 0 0 := ⟨_, rfl⟩
      have hidx : ∀ W, (Instr.index 9 (.string s) (.int .i64 0)).run Tryz.prog W = .ok (.int .u8 c0) W := idx_at s (bys s) rfl 0 0 rfl c0 (by rw [hc0, List.getD_eq_getElem?_getD, List.getElem?_eq_getElem (by rw [bys_length]; omega)]; rfl)
      rcases hd : digB c0 with _ | _
      · have hn : nmB p s = (bys s).all p := by unfold nmB; rw [← hc0, hd]; simp [h0, h1]
        rw [hn]
        have CD0 := Lib.hid (CD.out c0)
        rw [hd] at CD0
        have Hbl := Lib.hid (bys_length s)
        obtain ⟨w1, hw1⟩ : ∃ x, x = Lib.bytesWorld w 5 s := ⟨_, rfl⟩
        rw [← hw1] at hcv HB HR
        obtain ⟨cap, hcap⟩ : ∃ x, x = grownCap w s.size 0 5 := ⟨_, rfl⟩
        rw [← hcap] at hcv
        have Hc := Lib.hid (HC.out)
        obtain ⟨gb, hgb⟩ : ∃ x, x = w.heap.size := ⟨_, rfl⟩
        rw [← hgb] at hcv HR
        clear hn hc0 hd hw1 hcap HC hgb
        rcases hf with rfl | rfl
        all_goals
          go_enter Tryz.func85, Tryz.ntmps85
          go_wp2_with (go_at_call 104; refine (CD0.out _).mono ?_; rintro e w1 ⟨rfl, rfl⟩)
          go_loopw [23] (fun v23 wr => ∃ k : Nat, k ≤ s.size ∧ v23 = .int .i64 k ∧ wr = w1 ∧ Hid (((bys s).take k).all p = true)) (fun v23 _ => s.size - (intOf v23).toNat)
          case atStart => exact ⟨0, by omega, rfl, rfl, rfl⟩
          case round =>
            obtain ⟨k, hk, rfl, hw, ha⟩ := hrel
            obtain rfl : w1 = wr := hw.symm
            by_cases hkn : k < s.size
            · obtain ⟨ad, u, hA, _, hu, hcu⟩ := HR.out.at_ hkn
              obtain rfl : ⟨gb, 0, none⟩ = ad := Option.some.inj hA
              rw [add0] at hcu
              rw [u8s_get _ _ (by rw [Hbl.out]; exact hkn)] at hu
              cases hu
              obtain ⟨ck, hck⟩ : ∃ c, c = (bys s).getD k 0 := ⟨_, rfl⟩
              have Hck : Hid ((bys s).take (k + 1) = (bys s).take k ++ [ck]) := by
                show _ = _
                rw [List.take_add_one, hck, List.getD_eq_getElem?_getD, List.getElem?_eq_getElem (by rw [Hbl.out]; exact hkn)]
                rfl
              have Hmem : Hid (ck ∈ bys s) := by
                show _ ∈ _
                rw [hck, List.getD_eq_getElem?_getD, List.getElem?_eq_getElem (by rw [Hbl.out]; exact hkn)]
                exact List.getElem_mem _
              rw [← hck] at hcu
              have hadd : (⟨gb, 0, none⟩ : Addr).add k = ⟨gb, k, none⟩ := add0 gb k
              have Cp := Lib.hid (Hc.out ck)
              clear hck hA
              rcases hp : p ck with _ | _
              · rw [hp] at Cp
                go_wp2_with (first
                  | (go_at_call 86; refine (Cp.out _).mono ?_; rintro e w2 ⟨rfl, rfl⟩)
                  | (go_at_call 87; refine (Cp.out _).mono ?_; rintro e w2 ⟨rfl, rfl⟩))
                go_ret
                refine ⟨?_, HB.out⟩
                rw [show (bys s).all p = false from by
                  rw [List.all_eq_false]
                  exact ⟨ck, Hmem.out, by rw [hp]; simp⟩]
                rfl
              · rw [hp] at Cp
                go_wp2_with (first
                  | (go_at_call 86; refine (Cp.out _).mono ?_; rintro e w2 ⟨rfl, rfl⟩)
                  | (go_at_call 87; refine (Cp.out _).mono ?_; rintro e w2 ⟨rfl, rfl⟩))
                go_roundw
                case rel => exact ⟨k + 1, by omega, by go_num, trivial, by show _ = _; rw [Hck.out, List.all_append, ha.out]; simp [hp]⟩
                case measure => simp [intOf]; omega
            · obtain rfl : k = s.size := by omega
              go_wp2_with fail
              go_ret
              refine ⟨?_, HB.out⟩
              have h2 := ha.out
              rw [List.take_of_length_le (by rw [Hbl.out]; exact Nat.le_refl _)] at h2
              rw [h2]
              rfl
      · have hn : nmB p s = false := by unfold nmB; rw [← hc0, hd]; simp
        rw [hn]
        have CD0 := Lib.hid (CD.out c0)
        rw [hd] at CD0
        clear hn hc0 hd h0
        go_enter Tryz.func85, Tryz.ntmps85
        go_wp2_with (go_at_call 104; refine (CD0.out _).mono ?_; rintro e w1 ⟨rfl, rfl⟩)
        go_ret
        exact ⟨rfl, Below.refl _ _⟩
    · have hn : nmB p s = false := by unfold nmB; simp [h1]
      rw [hn]
      have h1' : (128 : Int) < (s.size : Int) := by omega
      clear h0 h1 hf
      go_enter Tryz.func85, Tryz.ntmps85
      go_wp2_with fail
      go_ret
      exact ⟨rfl, Below.refl _ _⟩
theorem name_any (s : ByteArray) (w : World) : Calls Tryz.prog 42 #[.string s] w fun e w' => e = .returned (.bool (nmB namB s)) ∧ Kept w w' := by
  have C := Lib.hid (named_any 86 namB (.inl rfl) inName_any s w)
  generalize nmB namB s = b at *
  go_enter Tryz.func42, Tryz.ntmps42
  go_wp2_with (go_at_call 85; refine C.out.mono ?_; rintro e w1 ⟨rfl, hk⟩)
  go_ret
  exact ⟨rfl, hk⟩
theorem metric_any (s : ByteArray) (w : World) : Calls Tryz.prog 43 #[.string s] w fun e w' => e = .returned (.bool (nmB metB s)) ∧ Kept w w' := by
  have C := Lib.hid (named_any 87 metB (.inr rfl) inMetric_any s w)
  generalize nmB metB s = b at *
  go_enter Tryz.func43, Tryz.ntmps43
  go_wp2_with (go_at_call 85; refine C.out.mono ?_; rintro e w1 ⟨rfl, hk⟩)
  go_ret
  exact ⟨rfl, hk⟩
/-- A right value. -/
def valB (s : ByteArray) : Bool := decide (s.size ≤ 1024) && vldB s
theorem value_any (s : ByteArray) (w : World) (hT : Tab w) : Calls Tryz.prog 48 #[.string s] w fun e w' => e = .returned (.bool (valB s)) ∧ Kept w w' := by
  unfold valB
  by_cases h : s.size ≤ 1024
  · have C := Lib.hid (valid_any s (by omega) w hT)
    have h1 : (s.size : Int) ≤ 1024 := by omega
    rw [decide_eq_true h, Bool.true_and]
    generalize vldB s = b at *
    clear h hT
    go_enter Tryz.func48, Tryz.ntmps48
    go_wp2_with (go_at_call 88; refine C.out.mono ?_; rintro e w1 ⟨rfl, hk⟩)
    go_ret
    exact ⟨rfl, hk⟩
  · have h1 : ¬ (s.size : Int) ≤ 1024 := by omega
    rw [decide_eq_false h, Bool.false_and]
    clear h hT
    go_enter Tryz.func48, Tryz.ntmps48
    go_wp2_with fail
    go_ret
    exact ⟨rfl, Below.refl _ _⟩
/-- A label: its name and its value, as strings. -/
abbrev Lab := ByteArray × ByteArray
/-- What is wrong with a label by itself. -/
def wrE (x : Lab) : Int := if nmB namB x.1 then (if valB x.2 then 0 else 41) else 40
theorem wrong_any (x : Lab) (w : World) (hT : Tab w) : Calls Tryz.prog 60 #[.agg #[.string x.1, .string x.2]] w fun e w' => e = .returned (.int .i64 (wrE x)) ∧ Kept w w' := by
  obtain ⟨a, b⟩ := x
  have CN := Lib.hid (fun W => name_any a W)
  have CV := Lib.hid (fun W hT => value_any b W hT)
  have HT := Lib.hid hT
  unfold wrE
  dsimp only
  have fin : ∀ w1, Kept (w.alloc (.cells #[.string a, .string b] 33)) w1 → Kept w w1 := fun w1 hk => Below.trans ((Below.refl _ w).alloc (Nat.le_refl _) _) (Below.mono hk (by simp))
  have Fin := Lib.hid fin
  have keep : ∀ w1, Kept (w.alloc (.cells #[.string a, .string b] 33)) w1 → w1.heap[w.heap.size]? = some (.cells #[.string a, .string b] 33 (0, 0)) := fun w1 hk => heap_kept hk (heap_alloc_new w _)
  have Keep := Lib.hid keep
  clear fin keep hT
  generalize nmB namB a = p at *
  generalize valB b = q at *
  cases p
  · go_enter Tryz.func60, Tryz.ntmps60
    go_wp2_with (go_at_call 42; refine (CN.out _).mono ?_; rintro e w1 ⟨rfl, hk⟩; have HK := Lib.hid hk; clear hk)
    go_ret
    exact ⟨rfl, Fin.out _ HK.out⟩
  · cases q
    all_goals
      go_enter Tryz.func60, Tryz.ntmps60
      go_wp2_with (first
        | (go_at_call 42; refine (CN.out _).mono ?_; rintro e w1 ⟨rfl, hk⟩; have HK := Lib.hid hk; clear hk; have hc1 : w1.cell? ⟨w.heap.size, 1, none⟩ = some (.string b) := by (rw [cell_of_row _ _ _ _ _ _ (Keep.out _ HK.out)]; rfl))
        | (go_at_call 48; refine (CV.out _ (HT.out.below (Fin.out _ HK.out))).mono ?_; rintro e w2 ⟨rfl, hk2⟩; have HK2 := Lib.hid (below_kept HK.out hk2); clear hk2))
      go_ret
      exact ⟨rfl, Fin.out _ HK2.out⟩
end Go.Proofs.YtlhekeokognhmaaGreatDoor
namespace Go.Proofs.YtlhekeokognhmaaGreatDoor
open Go.RowKit
section
variable {P : Program} {ops : Array Oper} {rest : List Oper} {o : Oper} {a : Act} {w : World} {K : Act → World → Prop} {Q : Exit → Act → World → Prop} {E : Prop}
theorem run_loadVar_at (w : World) (ad : Addr) (ty : TypeId) (cs : Array Value) (d : TypeDesc) (hc : ∀ j v, cs[j]? = some v → w.cell? (ad.add j) = some v)
    (hu : P.underlying ty = some d) (hd : (match d with | .struct _ | .array _ _ => true | _ => false) = true) (hi : (P.info? ty).map (·.size) = some cs.size) :
    (loadVar ty ad).run P w = .ok (.agg cs) w := by
  have hl : (loadCells ad cs.toList.length).run P w = .ok cs.toList.toArray w := run_loadCells_list (P := P) w ad cs.toList (fun j v hv => hc j v (by simpa using hv))
  cases hq : P.info? ty with
  | none => simp [hq] at hi
  | some i =>
    have hs : i.size = cs.size := by simpa [hq] using hi
    have hagg : (isAgg ty).run P w = .ok true w := by
      unfold isAgg
      rw [Sem.run_bind, run_underlying hu w]
      cases d <;> simp_all
    simp only [Array.length_toList, Array.toArray_toList] at hl
    simp [loadVar, Sem.run_bind, hagg, sizeOf, typeInfo, hq, hs, hl]
theorem wp_load_at (ty : TypeId) (x : Operand) (ho : o.op = .load ty x) (ad : Addr) (hx : a.eval x = .pointer (some ad)) (cs : Array Value) (d : TypeDesc) (hc : ∀ j v, cs[j]? = some v → w.cell? (ad.add j) = some v)
    (hu : P.underlying ty = some d) (hd : (match d with | .struct _ | .array _ _ => true | _ => false) = true) (hi : (P.info? ty).map (·.size) = some cs.size)
    (h : K (a.put o.dst (.agg cs)) w) : o.wp P a w K Q := by
  unfold Oper.wp execOp
  simp only [ho, hx, Instr.loadAt, Instr.sureAddr, Sem.run_bind, Sem.run_pure, Result.andThen_ok, run_loadVar_at w ad ty cs d hc hu hd hi]
  exact h
theorem wpList_load_at (hgd : o.guard = none) (ty : TypeId) (x : Operand) (ho : o.op = .load ty x) (ad : Addr) (hx : a.eval x = .pointer (some ad)) (cs : Array Value) (d : TypeDesc)
    (hc : ∀ j v, cs[j]? = some v → w.cell? (ad.add j) = some v)
    (hu : P.underlying ty = some d) (hd : (match d with | .struct _ | .array _ _ => true | _ => false) = true) (hi : (P.info? ty).map (·.size) = some cs.size)
    (h : wpList P ops Q rest (a.put o.dst (.agg cs)) w) : wpList P ops Q (o :: rest) a w :=
  wpList_plain hgd fun _ hK => wp_load_at ty x ho ad hx cs d hc hu hd hi (hK _ _ h)
theorem step_load_at (hgd : o.guard = none) (ty : TypeId) (x : Operand) (ho : o.op = .load ty x) (ad : Addr) (hx : a.eval x = .pointer (some ad)) (cs : Array Value) (d : TypeDesc)
    (hc : ∀ j v, cs[j]? = some v → w.cell? (ad.add j) = some v)
    (hu : P.underlying ty = some d) (hd : (match d with | .struct _ | .array _ _ => true | _ => false) = true) (hi : (P.info? ty).map (·.size) = some cs.size)
    (h : K (a.put o.dst (.agg cs)) w) : if Region.wanted o (yielded ops a.tmps) = true then Oper.wp P o a w K Q else E := by
  have hw : Region.wanted o (yielded ops a.tmps) = true := by simp [Region.wanted, hgd]
  rw [if_pos hw]
  exact wp_load_at ty x ho ad hx cs d hc hu hd hi h
/-- A store of an array into cells of a block. -/
theorem run_storeVar_at (w : World) (g off : Nat) (t ty : TypeId) (old : List Value) (cells : List Value) (hg : w.heap[g]? = some (.cells old.toArray t (0, 0))) (hi : (P.info? ty).map (·.size) = some cells.length)
    (ho : off + cells.length ≤ old.length) (h1 : ∀ v ∈ cells, v.oneCell' = true) :
    (storeVar ty ⟨g, off, none⟩ (.agg cells.toArray)).run P w = .ok () (w.setRow g (splice old off cells).toArray) := by
  have := run_storeCells_at P g off t cells 0 old.toArray w hg (by simpa using ho) h1
  cases hq : P.info? ty with
  | none => simp [hq] at hi
  | some i =>
    have hs : cells.length = i.size := by simp [hq] at hi; omega
    simp [storeVar, sizeOf, typeInfo, hq, Value.cells, hs, this, splice]
theorem wp_store_at (ty : TypeId) (x y : Operand) (ho : o.op = .store ty x y) (g off : Nat) (cells : List Value) (hx : a.eval x = .pointer (some ⟨g, off, none⟩)) (hy : a.eval y = .agg cells.toArray)
    (t : TypeId) (old : List Value) (hg : w.heap[g]? = some (.cells old.toArray t (0, 0))) (hi : (P.info? ty).map (·.size) = some cells.length)
    (hold : off + cells.length ≤ old.length) (h1 : ∀ v ∈ cells, v.oneCell' = true)
    (h : K (a.put o.dst undef) (w.setRow g (splice old off cells).toArray)) : o.wp P a w K Q := by
  unfold Oper.wp execOp
  simp only [ho, hx, hy, Instr.storeAt, Instr.sureAddr, Sem.run_bind, Sem.run_pure, Result.andThen_ok, run_storeVar_at w g off t ty old cells hg hi hold h1]
  exact h
theorem wpList_store_at (hgd : o.guard = none) (ty : TypeId) (x y : Operand) (ho : o.op = .store ty x y) (g off : Nat) (cells : List Value) (hx : a.eval x = .pointer (some ⟨g, off, none⟩)) (hy : a.eval y = .agg cells.toArray)
    (t : TypeId) (old : List Value) (hg : w.heap[g]? = some (.cells old.toArray t (0, 0))) (hi : (P.info? ty).map (·.size) = some cells.length)
    (hold : off + cells.length ≤ old.length) (h1 : ∀ v ∈ cells, v.oneCell' = true)
    (h : wpList P ops Q rest (a.put o.dst undef) (w.setRow g (splice old off cells).toArray)) : wpList P ops Q (o :: rest) a w :=
  wpList_plain hgd fun _ hK => wp_store_at ty x y ho g off cells hx hy t old hg hi hold h1 (hK _ _ h)
theorem step_store_at (hgd : o.guard = none) (ty : TypeId) (x y : Operand) (ho : o.op = .store ty x y) (g off : Nat) (cells : List Value) (hx : a.eval x = .pointer (some ⟨g, off, none⟩)) (hy : a.eval y = .agg cells.toArray)
    (t : TypeId) (old : List Value) (hg : w.heap[g]? = some (.cells old.toArray t (0, 0))) (hi : (P.info? ty).map (·.size) = some cells.length)
    (hold : off + cells.length ≤ old.length) (h1 : ∀ v ∈ cells, v.oneCell' = true)
    (h : K (a.put o.dst undef) (w.setRow g (splice old off cells).toArray)) : if Region.wanted o (yielded ops a.tmps) = true then Oper.wp P o a w K Q else E := by
  have hw : Region.wanted o (yielded ops a.tmps) = true := by simp [Region.wanted, hgd]
  rw [if_pos hw]
  exact wp_store_at ty x y ho g off cells hx hy t old hg hi hold h1 h
end
theorem cell_at (w : World) (g off : Nat) (old : List Value) (t : TypeId) (fr : Nat × Nat) (hg : w.heap[g]? = some (.cells old.toArray t fr)) (cs : Array Value) (h : ∀ j v, cs[j]? = some v → old[off + j]? = some v) :
    ∀ j v, cs[j]? = some v → w.cell? ((⟨g, off, none⟩ : Addr).add j) = some v := by
  intro j v hv
  have hadd : (⟨g, off, none⟩ : Addr).add j = ⟨g, off + j, none⟩ := by unfold Addr.add; split <;> simp_all
  rw [hadd, cell_of_row w g _ _ t fr hg]
  simpa using h j v hv
theorem rd_cells {w : World} {B n : Nat} {ad : Addr} {xs : List Value} (h : Rd w B (some ad) n xs) (hn : 0 < n) : ∀ j v, xs.toArray[j]? = some v → w.cell? (ad.add j) = some v := by
  obtain ⟨ad', e, _, hc⟩ := h.2 hn
  injection e with e
  subst e
  intro j v hv
  exact hc j v (by simpa using hv)
end Go.Proofs.YtlhekeokognhmaaGreatDoor
