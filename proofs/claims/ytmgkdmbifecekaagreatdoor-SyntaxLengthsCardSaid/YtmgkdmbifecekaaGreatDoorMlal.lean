/-
  Regions that draw their order: an operation that is a call which changes nothing may be taken first, too. Package syntax: a reader's numbers. Package syntax: what a node says, of whose parts it is known what they say.
-/
import Derived.Test.YtmgkdmbifecekaaGreatDoorMlaa
import Derived.Test.YtmgkdmbifecekaaGreatDoorMlab
import Derived.OrdersHeld
import Derived.Test.YtmgkdmbifecekaaGreatDoorMlak
import Derived.Lib.SmallJoins
import Derived.Deep.RegionHeld3
import Derived.Test.YtmgkdmbifecekaaGreatDoorMlai
set_option linter.all false
set_option linter.unusedSimpArgs false
set_option linter.unusedVariables false
set_option linter.unusedSectionVars false
namespace Go.Proofs.YtmgkdmbifecekaaGreatDoor
open Go.RowKit
section
variable {P : Program} {ops : Array Oper} {Q : Exit → Act → World → Prop} {md : Region.Mode} {S : World → Prop}
/-- In state a, in every world that meets S, operation o leaves v in its temporary, by itself or by a call, and does nothing else. -/
def YieldsC (P : Program) (ops : Array Oper) (S : World → Prop) (o : Oper) (v : Value) (a : Act) : Prop :=
  (Region.wanted o (yielded ops a.tmps) = true ∧ ∀ w, S w → (execOp a.eval o).run P w = .ok (.value v) w ∨ ∃ f args, (execOp a.eval o).run P w = .ok (.enter f args) w ∧ Calls P f args w (fun e w'' => e = .returned v ∧ w = w'')) ∨
  (Region.wanted o (yielded ops a.tmps) = false ∧ v = undef)
theorem yieldsC_of_if {o : Oper} {v : Value} {a : Act} (h : YieldsIf P ops S o v a) : YieldsC P ops S o v a :=
  h.imp (fun ⟨hw, hv⟩ => ⟨hw, fun w hS => .inl (hv w hS)⟩) id
theorem YieldsC.wpOp {i : Nat} {o : Oper} {v : Value} {a : Act} (hi : ops[i]? = some o) (hy : YieldsC P ops S o v a)
    {K : Act → World → Prop} {w : World} (hS : S w) (h : K (a.put o.dst v) w) : wpOp P ops Q i K a w := by
  unfold Go.wpOp
  simp only [hi]
  rcases hy with ⟨hw, hv⟩ | ⟨hw, rfl⟩
  · simp only [hw, if_true, Oper.wp]
    refine .inl ?_
    rcases hv w hS with hv | ⟨f, args, hv, hc⟩
    · rw [hv]
      simp only [Oper.upon]
      exact h
    · rw [hv]
      simp only [Oper.upon]
      exact hc.mono fun e w'' ⟨he, hw'⟩ => by subst he; subst hw'; exact h
  · simp only [hw, Bool.false_eq_true, if_false]; exact h
theorem YieldsC.of_same {o : Oper} {v : Value} {a a' : Act} (hy : YieldsC P ops S o v a) (he : execOp a'.eval o = execOp a.eval o)
    (hw : Region.wanted o (yielded ops a'.tmps) = Region.wanted o (yielded ops a.tmps)) : YieldsC P ops S o v a' := by
  unfold YieldsC at *
  rw [he, hw]
  exact hy
theorem wpOp_putC {j : Nat} {oi oj : Oper} {v : Value} (hj : ops[j]? = some oj) (hap : oi.apart ops oj = true)
    (hsi : ∀ cs b, oi.op ≠ .select cs b) (hsj : ∀ cs b, oj.op ≠ .select cs b)
    (hQ : ∀ c a w, Q (.panic c) (a.put oi.dst v) w → Q (.panic c) a w) {K : Act → World → Prop} {a : Act} {w : World}
    (hy : YieldsC P ops S oi v a) (h : wpOp P ops Q j K (a.put oi.dst v) w) :
    wpOp P ops Q j (fun a' w' => YieldsC P ops S oi v a' ∧ K (a'.put oi.dst v) w') a w := by
  obtain ⟨h1, h2, h3⟩ := Oper.apart_spec hap
  have keep : ∀ (a : Act), YieldsC P ops S oi v a → ∀ u, YieldsC P ops S oi v (a.put oj.dst u) := fun a hy u =>
    hy.of_same (execOp_put oi hsi a oj.dst u h3) (wanted_put oi a oj.dst u h3)
  have keepD : ∀ d, YieldsC P ops S oi v { a with defers := d :: a.defers } := fun d => hy.of_same rfl rfl
  unfold wpOp at *
  simp only [hj] at *
  rw [wanted_put oj a oi.dst v h1] at h
  split
  · rename_i hw
    simp only [hw, if_true] at h
    rcases h with h | ⟨hasks, hlets⟩
    case inr => exact .inr ⟨by unfold Oper.asks at *; rw [execOp_put oj hsj a oi.dst v h1] at hasks; exact hasks, hlets⟩
    refine .inl ?_
    unfold Oper.wp at *
    rw [execOp_put oj hsj a oi.dst v h1] at h
    generalize (execOp a.eval oj).run P w = r at *
    cases r with
    | ok n w' =>
      cases n <;> simp only [Oper.upon] at h ⊢
      case value u => exact ⟨keep a hy u, by rw [← Act.put_comm a v u h2]; exact h⟩
      case skip => exact ⟨keep a hy _, by rw [← Act.put_comm a v undef h2]; exact h⟩
      case defer d =>
        refine ⟨keep _ (keepD d) _, ?_⟩
        rw [← Act.put_comm _ v undef h2, ← Act.put_defers]
        exact h
      case enter f args =>
        refine Calls.mono h fun e w'' he => ?_
        cases e with
        | returned u => exact ⟨keep a hy u, by rw [← Act.put_comm a v u h2]; exact he⟩
        | panicked c => exact hQ _ _ _ he
        | outgrown => exact he
      case row row args => exact Rows.mono h fun u w'' he => ⟨keep a hy u, by rw [← Act.put_comm a v u h2]; exact he⟩
    | halt x w' =>
      cases x <;> simp only [Oper.upon] at h ⊢
      case panic u => exact hQ _ _ _ h
  · rename_i hw
    simp only [hw] at h
    exact ⟨keep a hy _, by rw [← Act.put_comm a v undef h2]; exact h⟩
theorem wpAnyH_firstC {i : Nat} {oi : Oper} {v : Value} (hi : ops[i]? = some oi) (hsel : ∀ (j : Nat) (o : Oper) cs b, ops[j]? = some o → o.op ≠ .select cs b)
    (hQ : ∀ c a w, Q (.panic c) (a.put oi.dst v) w → Q (.panic c) a w) :
    ∀ (fuel : Nat) (listed : Array Bool) (a : Act) (w : World),
      (∀ j oj, ops[j]? = some oj → j ≠ i → listed.getD j true = false → (∀ e ∈ oj.after, Region.binds md e = true → e.on ≠ i) → oi.apart ops oj = true) →
      i ∈ Region.ready md ops listed → YieldsC P ops S oi v a → S w →
      wpAnyH P md ops Q S fuel (listed.setIfInBounds i true) (a.put oi.dst v) w → wpAnyH P md ops Q S (fuel + 1) listed a w := by
  intro fuel
  induction fuel with
  | zero =>
    intro listed a w _ hr hy hS H
    refine ⟨fun h => (by rw [h] at hr; cases hr), fun j hj => ?_⟩
    by_cases hji : j = i
    · subst hji; exact hy.wpOp hi hS ⟨hS, H⟩
    · have := ready_mono hj hji
      rw [H.1] at this
      cases this
  | succ fuel ih =>
    intro listed a w hfree hr hy hS H
    refine ⟨fun h => (by rw [h] at hr; cases hr), fun j hj => ?_⟩
    by_cases hji : j = i
    · subst hji; exact hy.wpOp hi hS ⟨hS, H⟩
    · have h1 := H.2 j (ready_mono hj hji)
      obtain ⟨hjun, oj, hoj, hall⟩ := mem_ready.1 hj
      have hnot : ∀ e ∈ oj.after, Region.binds md e = true → e.on ≠ i := fun e he hb heq => by
        have h1 := hall e he hb
        have h0 := (mem_ready.1 hr).1
        rw [heq] at h1
        rcases Nat.lt_or_ge i listed.size with h' | h'
        · simp [h'] at h0 h1; rw [h0] at h1; cases h1
        · simp [Array.getElem?_eq_none h'] at h1
      have h2 := wpOp_putC hoj (hfree j oj hoj hji hjun hnot) (fun cs b => hsel i oi cs b hi) (fun cs b => hsel j oj cs b hoj) hQ hy h1
      have hfree' : ∀ k ok, ops[k]? = some ok → k ≠ i → (listed.setIfInBounds j true).getD k true = false →
          (∀ e ∈ ok.after, Region.binds md e = true → e.on ≠ i) → oi.apart ops ok = true := fun k ok hk hki hun hno => by
        refine hfree k ok hk hki ?_ hno
        by_cases hjk : j = k
        · subst hjk; exact hjun
        · rw [getD_set_ne true hjk] at hun; exact hun
      refine wpOp_mono (fun a' w' h3 => ⟨h3.2.1, ih (listed.setIfInBounds j true) a' w' hfree' (ready_mono hr (Ne.symm hji)) h3.1 h3.2.1 ?_⟩) h2
      rw [Array.setIfInBounds_comm _ _ hji]
      exact h3.2.2
/-- A call that changes nothing is taken first. -/
theorem wpAnyH_takeC {i : Nat} {oi : Oper} {v : Value} {fuel : Nat} {listed : Array Bool} {a : Act} {w : World} (hi : ops[i]? = some oi)
    (hs : Region.noSelect ops = true) (hf : Region.free md ops listed i = true) (hr : (Region.ready md ops listed).contains i = true)
    (hQ : ∀ c a w, Q (.panic c) (a.put oi.dst v) w → Q (.panic c) a w) (hy : YieldsC P ops S oi v a) (hS : S w)
    (h : wpAnyH P md ops Q S fuel (listed.setIfInBounds i true) (a.put oi.dst v) w) : wpAnyH P md ops Q S (fuel + 1) listed a w :=
  wpAnyH_firstC hi (Region.noSelect_spec hs) hQ fuel listed a w (Region.free_spec hi hf) (by simpa using hr) hy hS h
/-- A row is loaded. -/
theorem yieldsC_row {o : Oper} {a : Act} (hgd : o.guard = none) (ty : TypeId) (x : Operand) (ho : o.op = .load ty x) (ad : Addr) (hx : a.eval x = .pointer (some ad)) (cs : Array Value) (d : TypeDesc)
    (hc : ∀ w, S w → ∀ j v, cs[j]? = some v → w.cell? (ad.add j) = some v) (hu : P.underlying ty = some d) (hd : (match d with | .struct _ | .array _ _ => true | _ => false) = true) (hi : (P.info? ty).map (·.size) = some cs.size) : YieldsC P ops S o (.agg cs) a := by
  refine .inl ⟨by simp [Region.wanted, hgd], fun w hw => .inl ?_⟩
  unfold execOp
  simp only [ho, hx, Instr.loadAt, Instr.sureAddr, Sem.run_bind, Sem.run_pure, Result.andThen_ok, run_loadVar_at w ad ty cs d (hc w hw) hu hd hi]
/-- A call is entered, and changes nothing. -/
theorem enters {o : Oper} {a : Act} {w : World} {v : Value} {f : FuncId} {args : Array Value} (h1 : (execOp a.eval o).run P w = .ok (.enter f args) w) (h2 : Calls P f args w (fun e w'' => e = .returned v ∧ w = w'')) :
    (execOp a.eval o).run P w = .ok (.value v) w ∨ ∃ f args, (execOp a.eval o).run P w = .ok (.enter f args) w ∧ Calls P f args w (fun e w'' => e = .returned v ∧ w = w'') := .inr ⟨f, args, h1, h2⟩
theorem tkC (i : Nat) {oi : Oper} {v : Value} {fuel : Nat} {listed : Array Bool} {a : Act} {w : World} (hi : ops[i]? = some oi)
 (hb : (Region.noSelect ops && Region.free md ops listed i && (Region.ready md ops listed).contains i) = true)
 (hQ : ∀ c a w, Q (.panic c) (a.put oi.dst v) w → Q (.panic c) a w) (hw : Region.wanted oi (yielded ops a.tmps) = true) (hy : ∀ w, S w → (execOp a.eval oi).run P w = .ok (.value v) w ∨ ∃ f args, (execOp a.eval oi).run P w = .ok (.enter f args) w ∧ Calls P f args w (fun e w'' => e = .returned v ∧ w = w'')) (hS : S w)
 (h : wpAnyH P md ops Q S fuel (listed.setIfInBounds i true) (a.put oi.dst v) w) : wpAnyH P md ops Q S (fuel + 1) listed a w := by
 simp only [Bool.and_eq_true] at hb
 exact wpAnyH_takeC hi hb.1.1 hb.1.2 hb.2 hQ (Or.inl ⟨hw, hy⟩) hS h
theorem pU1 (a : Act) (d : Tmp) (v : Value) : a.put (some d) v = { a with tmps := a.tmps.setIfInBounds d v } := rfl
theorem pU2 {α : Type} (l : List α) (i : Nat) (a : α) : l.toArray.setIfInBounds i a = (l.set i a).toArray := List.setIfInBounds_toArray ..
theorem pU3 {α : Type} (x : α) (l : List α) (a : α) : (x :: l).set 0 a = a :: l := List.set_cons_zero
theorem pU4 {α : Type} (x : α) (l : List α) (n : Nat) (a : α) : (x :: l).set (n + 1) a = x :: l.set n a := List.set_cons_succ
end
end Go.Proofs.YtmgkdmbifecekaaGreatDoor
namespace Go.Proofs.YtmgkdmbifecekaaGreatDoor
open Go.RowKit Go.Shelf
abbrev b8 (l : Bs) : ByteArray := ⟨l.toArray⟩
theorem b8_list (l : Bs) : (b8 l).data.toList = l := rfl
theorem b8_size (l : Bs) : (b8 l).size = l.length := rfl
theorem dig_mem (b : UInt8) : ([48, 49, 50, 51, 52, 53, 54, 55, 56, 57] : Bs).contains b = digP b := by
  have e : ∀ n : UInt8, (b == n) = decide (b.toNat = n.toNat) := fun n => by
    by_cases h : b = n
    · subst h; simp
    · have h2 : b.toNat ≠ n.toNat := fun h3 => h (UInt8.toNat_inj.1 h3)
      simp [h, h2]
  unfold digP
  rw [Bool.eq_iff_iff]
  simp only [List.contains_cons, List.contains_nil, e, Bool.or_false, Bool.or_eq_true, decide_eq_true_eq, Bool.and_eq_true]
  show b.toNat = 48 ∨ b.toNat = 49 ∨ b.toNat = 50 ∨ b.toNat = 51 ∨ b.toNat = 52 ∨ b.toNat = 53 ∨ b.toNat = 54 ∨ b.toNat = 55 ∨ b.toNat = 56 ∨ b.toNat = 57 ↔ 48 ≤ b.toNat ∧ b.toNat ≤ 57
  omega
theorem trim_dig (l : Bs) : Lib.trimLeftS l [48, 49, 50, 51, 52, 53, 54, 55, 56, 57] = numR l := by
  unfold Lib.trimLeftS numR
  congr 1
  funext b
  exact dig_mem b
theorem take_num (l : Bs) : l.take (l.length - (numR l).length) = l.takeWhile digP := by
  have h : l.takeWhile digP ++ numR l = l := List.takeWhile_append_dropWhile
  have hl : (l.takeWhile digP).length + (numR l).length = l.length := by
    have := congrArg List.length h
    rw [List.length_append] at this
    exact this
  rw [show l.length - (numR l).length = (l.takeWhile digP).length from by omega]
  have h2 := List.take_left (l₁ := l.takeWhile digP) (l₂ := numR l)
  rw [h] at h2
  exact h2
theorem dig_all (l : Bs) : ∀ b ∈ l.takeWhile digP, digP b = true := fun b hb => by
  have := List.all_takeWhile (p := digP) (l := l)
  exact List.all_eq_true.1 this b hb
theorem digP_val {b : UInt8} (h : digP b = true) : Lib.digitVal b = some (b.toNat - 48) := by
  unfold digP at h
  simp at h
  unfold Lib.digitVal
  rw [if_pos h]
theorem dig_of {b : UInt8} (h : digP b = true) : ∃ i : Nat, i < 10 ∧ b = UInt8.ofNat (48 + i) := by
  unfold digP at h
  simp at h
  refine ⟨b.toNat - 48, by omega, ?_⟩
  apply UInt8.toNat_inj.1
  simp
  omega
/-- Of one or two digits. -/
theorem two_digits (ds : Bs) (h1 : 0 < ds.length) (h2 : ds.length ≤ 2) (hd : ∀ b ∈ ds, digP b = true) : Lib.atoi ds = some (decN ds : Nat) ∧ decN ds < 100 ∧ (Lib.decDigits (decN ds) = ds ↔ ¬ (ds.headD 0 = 48 ∧ ds.length ≠ 1)) := by
  rcases ds with _ | ⟨a, _ | ⟨b, _ | ⟨c, r⟩⟩⟩
  · simp at h1
  · obtain ⟨i, hi, rfl⟩ := dig_of (hd a (by simp))
    rcases (by omega : i = 0 ∨ i = 1 ∨ i = 2 ∨ i = 3 ∨ i = 4 ∨ i = 5 ∨ i = 6 ∨ i = 7 ∨ i = 8 ∨ i = 9) with rfl | rfl | rfl | rfl | rfl | rfl | rfl | rfl | rfl | rfl <;> refine ⟨by rfl, by decide, ?_⟩ <;> (rw [Lib.decDigits]; simp [decN])
  · obtain ⟨i, hi, rfl⟩ := dig_of (hd a (by simp))
    obtain ⟨j, hj, rfl⟩ := dig_of (hd b (by simp))
    have hv : decN [UInt8.ofNat (48 + i), UInt8.ofNat (48 + j)] = i * 10 + j := by
      unfold decN
      simp
      omega
    refine ⟨?_, by rw [hv]; omega, ?_⟩
    · rw [hv]
      have ha := digP_val (hd (UInt8.ofNat (48 + i)) (by simp))
      have hb := digP_val (hd (UInt8.ofNat (48 + j)) (by simp))
      have ht1 : (UInt8.ofNat (48 + i)).toNat = 48 + i := by simp; omega
      have ht2 : (UInt8.ofNat (48 + j)).toNat = 48 + j := by simp; omega
      rw [ht1] at ha
      rw [ht2] at hb
      have n45 : (UInt8.ofNat (48 + i) == 45) = false := by
        rw [beq_eq_false_iff_ne]
        intro e
        have := congrArg UInt8.toNat e
        rw [ht1] at this
        have h45 : (45 : UInt8).toNat = 45 := rfl
        omega
      have n43 : (UInt8.ofNat (48 + i) == 43) = false := by
        rw [beq_eq_false_iff_ne]
        intro e
        have := congrArg UInt8.toNat e
        rw [ht1] at this
        have h43 : (43 : UInt8).toNat = 43 := rfl
        omega
      simp only [Lib.atoi, n45, n43, Bool.false_eq_true, if_false, Lib.decNat, List.isEmpty_cons, Lib.decFrom, ha, hb]
      simp
    · rw [hv]
      have ht1 : (UInt8.ofNat (48 + i)).toNat = 48 + i := by simp; omega
      by_cases h0 : i = 0
      · subst h0
        rw [Lib.decDigits, dif_pos (by omega)]
        simp
      · rw [Lib.decDigits, dif_neg (by omega), show (i * 10 + j) / 10 = i from by omega, show (i * 10 + j) % 10 = j from by omega, Lib.decDigits, dif_pos hi]
        simp
        intro e
        have := congrArg UInt8.toNat e
        simp at this
        omega
  · simp at h2
theorem trimLeft_dig (l : Bs) (w : World) : Calls Tryz.prog 158 #[.string (b8 l), .string ⟨#[48, 49, 50, 51, 52, 53, 54, 55, 56, 57]⟩] w fun e w' => e = .returned (.string (b8 (numR l))) ∧ Kept w w' := by
  have h := Any.strings_TrimLeft_laid sh_lays161 (by kernel_rfl) (b8 l) ⟨#[48, 49, 50, 51, 52, 53, 54, 55, 56, 57]⟩ w (by decide) (fun j b hb => by
    have hm : b ∈ ([48, 49, 50, 51, 52, 53, 54, 55, 56, 57] : Bs) := List.mem_of_getElem? hb
    have := dig_mem b
    rw [List.contains_iff_mem.2 hm] at this
    have h2 := this.symm
    unfold digP at h2
    simp at h2
    omega)
  rw [b8_list, show (⟨#[48, 49, 50, 51, 52, 53, 54, 55, 56, 57]⟩ : ByteArray).data.toList = [48, 49, 50, 51, 52, 53, 54, 55, 56, 57] from rfl, trim_dig] at h
  exact h
end Go.Proofs.YtmgkdmbifecekaaGreatDoor
namespace Go.Proofs.YtmgkdmbifecekaaGreatDoor
open Go.RowKit Go.Shelf
theorem alloc_new2 (w : World) (a b c : Obj) : (((w.alloc a).alloc b).alloc c).heap[w.heap.size + 1 + 1]? = some c := by
  have := heap_alloc_new ((w.alloc a).alloc b) c
  rw [World.size_alloc, World.size_alloc] at this
  exact this
section
variable (d g l m : Int) (en lo : Bool) (k : Int) (A1 : Option Addr) (sn c1 : Nat) (mn mx : Int) (lz : Bool) (A2 : Option Addr) (un c2 : Nat) (w : World)
set_option maxHeartbeats 1000000 in
theorem of_plain (hd : 0 ≤ d ∧ d ≤ 1000000) (h2 : k ≠ 2) (h5 : k ≠ 5) (h6 : k ≠ 6) : Calls Tryz.prog 71 #[fctV ⟨d, g, l, m, en, lo⟩, ndV k A1 sn c1 mn mx lz A2 un c2] w fun e w' => e = .returned (fctV ⟨d + 1, g, l, m, en, lo⟩) ∧ Kept w w' := by
  obtain ⟨hd1, hd2⟩ := hd
  have e2 : (k == 2) = false := by simp [h2]
  have e5 : (k == 5) = false := by simp [h5]
  have e6 : (k == 6) = false := by simp [h6]
  clear h2 h5 h6
  unfold fctV
  dsimp only
  go_enter Tryz.func71, Tryz.ntmps71
  go_wp2_with fail
  exact bodyPost_ret (results_cell_row Tryz.results71 _ _ (w.heap.size + 1 + 1) _ #[.int .i64 (d + 1), .int .i64 g, .int .i64 l, .int .i64 m, .bool en, .bool lo] (0, 0) _ rfl (alloc_new2 _ _ _ _) Tryz.underlying98 rfl sizeFc) rfl ⟨rfl, (((Below.refl _ w).alloc (Nat.le_refl _) _).alloc (by simp) _).alloc (by simp; omega) _⟩
set_option maxHeartbeats 1000000 in
theorem of_set (hd : 0 ≤ d ∧ d ≤ 1000000) : Calls Tryz.prog 71 #[fctV ⟨d, g, l, m, en, lo⟩, ndV 2 A1 sn c1 mn mx lz A2 un c2] w fun e w' => e = .returned (fctV ⟨d + 1, g, 1, 1, en, lo⟩) ∧ Kept w w' := by
  obtain ⟨hd1, hd2⟩ := hd
  unfold fctV
  dsimp only
  go_enter Tryz.func71, Tryz.ntmps71
  go_wp2_with fail
  exact bodyPost_ret (results_cell_row Tryz.results71 _ _ (w.heap.size + 1 + 1) _ #[.int .i64 (d + 1), .int .i64 g, .int .i64 1, .int .i64 1, .bool en, .bool lo] (0, 0) _ rfl (alloc_new2 _ _ _ _) Tryz.underlying98 rfl sizeFc) rfl ⟨rfl, (((Below.refl _ w).alloc (Nat.le_refl _) _).alloc (by simp) _).alloc (by simp; omega) _⟩
set_option maxHeartbeats 1000000 in
theorem of_group (hd : 0 ≤ d ∧ d ≤ 1000000) (hg : 0 ≤ g ∧ g ≤ 1073741824) : Calls Tryz.prog 71 #[fctV ⟨d, g, l, m, en, lo⟩, ndV 6 A1 sn c1 mn mx lz A2 un c2] w fun e w' => e = .returned (fctV ⟨d + 1, capI (g + 1), l, m, en, lo⟩) ∧ Kept w w' := by
  obtain ⟨hd1, hd2⟩ := hd
  obtain ⟨hg1, hg2⟩ := hg
  have CC := Lib.hid capped_any
  unfold fctV
  dsimp only
  go_enter Tryz.func71, Tryz.ntmps71
  go_wp2_with fail
  refine (CC.out _ _).mono ?_
  rintro e w1 ⟨rfl, rfl⟩
  clear CC
  go_wp2_with fail
  exact bodyPost_ret (results_cell_row Tryz.results71 _ _ (w.heap.size + 1 + 1) _ #[.int .i64 (d + 1), .int .i64 (capI (g + 1)), .int .i64 l, .int .i64 m, .bool en, .bool lo] (0, 0) _ rfl (alloc_new2 _ _ _ _) Tryz.underlying98 rfl sizeFc) rfl ⟨rfl, (((Below.refl _ w).alloc (Nat.le_refl _) _).alloc (by simp) _).alloc (by simp; omega) _⟩
end
end Go.Proofs.YtmgkdmbifecekaaGreatDoor
