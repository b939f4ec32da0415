/-
  append onto one's own row: where the row lies behind it.
-/
import Derived.Test.YtlgdbhebcglkoaaDoorOwn
import Derived.Laws.OwnMore
namespace Go.Proofs.YtlgdbhebcglkoaaDoor
open Go.RowKit
section
variable {P : Program}
/-- The row that an append leaves is the old one, or a new block. -/
theorem run_app_near (w : World) (base : Nat) (t ty e : TypeId) (i : TypeInfo) (z : Value) (bytes : Nat) (ht : P.underlying t = some (.slice e)) (hi : P.info? e = some i) (hz : i.zero = some z)
    (hsize : i.size = 1) (hby : i.bytes = bytes) (hzs : z.cells.size = 1)
    (v : Value) (n : Nat) (xs : List Value) (hown : w.ownsRow base e 1 v n xs)
    (B : Nat) (A : Option Addr) (m c : Nat) (news : List Value) (hr : Rd w B A m news) (h1 : ∀ u ∈ news, u.oneCell' = true)
    (h63 : n + m ≤ maxLen) (hbytes : (n + m) * bytes ≤ 140737488355328) (hbase : base ≤ w.heap.size) :
    ∃ v' w', (Builtin.append_ #[t, t] ty #[v, .slice A m c]).run P w = .ok v' w' ∧ w'.ownsRow base e 1 v' (n + m) (xs ++ news) ∧ w.grownBy w' v.ownBlock ∧ (∀ G, G < w.heap.size → v.ownBlock ≠ some G → v'.ownBlock ≠ some G) := by
  obtain ⟨v', w', hrun, h2, h3⟩ := run_app_any (P := P) w base t ty e i z bytes ht hi hz hsize hby hzs v n xs hown B A m c news hr h1 h63 hbytes hbase
  refine ⟨v', w', hrun, h2, h3, ?_⟩
  rcases hown.2 with ⟨rfl, rfl⟩ | ⟨g, cap, cur, rfl, hbg, hg, hnc, hcm, hcs, htake⟩
  · obtain ⟨v2, w2, hrun2, g2, _⟩ := run_app_any (P := P) w w.heap.size t ty e i z bytes ht hi hz hsize hby hzs _ 0 xs ⟨hown.1, .inl ⟨rfl, rfl⟩⟩ B A m c news hr h1 h63 hbytes (Nat.le_refl _)
    rw [hrun] at hrun2
    cases hrun2
    intro G hG _ hv
    rcases g2.2 with ⟨rfl, _⟩ | ⟨g, _, _, rfl, hle, _⟩
    · cases hv
    · have h3 : g = G := Option.some.inj hv
      omega
  · intro G hG hne hv
    have hlen := hr.1
    rcases A with _ | ad
    · have hm : m = 0 := by
        rcases Nat.eq_zero_or_pos m with h0 | h0
        · exact h0
        · obtain ⟨ad, h, _⟩ := hr.2 h0
          cases h
      subst hm
      rw [run_app_nil w base t ty e i ht hi _ n xs hown c] at hrun
      cases hrun
      exact hne hv
    · have hcells : ∀ j u, news[j]? = some u → w.cell? (ad.add j) = some u := by
        intro j u hu
        rcases Nat.eq_zero_or_pos m with h0 | h0
        · subst h0
          obtain rfl := List.eq_nil_of_length_eq_zero hlen
          simp at hu
        · obtain ⟨ad', h, _, hc⟩ := hr.2 h0
          injection h with h
          subst h
          exact hc j u hu
      by_cases hroom : n + m ≤ cap
      · obtain ⟨w2, hrun2, _⟩ := run_append_fits (P := P) w base t ty e i 1 ht hi hsize g n cap xs hown ad m c news (by omega) hcells h1 hroom
        rw [hrun] at hrun2
        cases hrun2
        exact hne hv
      · have hg2 := run_append_grow (P := P) w t ty e i z ht hi hz ⟨g, 0, none⟩ n cap xs (by rw [hsize]; exact hown.1) (fun j u hu => by
          rw [add0, cell_of_row _ _ _ _ _ _ hg]
          rw [← htake, Nat.mul_one, List.getElem?_take] at hu
          split at hu
          · simpa using hu
          · cases hu) ad m c news (by rw [hsize, Nat.mul_one]; exact hlen) hcells (by omega) (by unfold maxLen at h63; omega) (growslice_fits (by omega) (by rw [hby]; exact hbytes))
        rw [hrun] at hg2
        cases hg2
        have : w.heap.size = G := by
          have := Option.some.inj hv
          exact this
        omega
theorem wpList_app_near {ops : Array Oper} {rest : List Oper} {o : Oper} {a : Act} {w : World} {Q : Exit → Act → World → Prop} (hgd : Region.wanted o (yielded ops a.tmps) = true) (s x : Operand) (t : TypeId)
    (ho : o.op = .call { callee := .builtin .append, args := #[s, x], argTypes := #[t, t] })
    (base : Nat) (e : TypeId) (i : TypeInfo) (z : Value) (bytes : Nat) (ht : P.underlying t = some (.slice e)) (hi : P.info? e = some i) (hz : i.zero = some z)
    (hsize : i.size = 1) (hby : i.bytes = bytes) (hzs : z.cells.size = 1)
    (v : Value) (n : Nat) (xs : List Value) (hs : a.eval s = v) (hown : w.ownsRow base e 1 v n xs)
    (B : Nat) (A : Option Addr) (m c : Nat) (news : List Value) (hx : a.eval x = .slice A m c) (hr : Rd w B A m news) (h1 : ∀ u ∈ news, u.oneCell' = true)
    (h63 : n + m ≤ maxLen) (hbytes : (n + m) * bytes ≤ 140737488355328) (hbase : base ≤ w.heap.size)
    (h : ∀ v' w', w'.ownsRow base e 1 v' (n + m) (xs ++ news) → w.grownBy w' v.ownBlock → (∀ G, G < w.heap.size → v.ownBlock ≠ some G → v'.ownBlock ≠ some G) → wpList P ops Q rest (a.put o.dst v') w') : wpList P ops Q (o :: rest) a w := by
  refine wpList_if w hgd fun K hK => ?_
  obtain ⟨v', w', hrun, h2, h3, h4⟩ := run_app_near (P := P) w base t o.type e i z bytes ht hi hz hsize hby hzs v n xs hown B A m c news hr h1 h63 hbytes hbase
  unfold Oper.wp execOp
  simp only [ho, resolve, invoke, builtin, Sem.run_bind, Sem.run_pure, Result.andThen_ok, List.map_toArray, List.map_cons, List.map_nil, hs, hx, hrun]
  exact hK _ _ (h v' w' h2 h3 h4)
end
theorem own_ne_new {w : World} {base : Nat} {e : TypeId} {size : Nat} {v : Value} {n : Nat} {xs : List Value} (h : w.ownsRow base e size v n xs) : v.ownBlock ≠ some w.heap.size := by
  intro hv
  rcases h.2 with ⟨rfl, _⟩ | ⟨g, _, _, rfl, _, hg, _⟩
  · cases hv
  · have h1 := Option.some.inj hv
    have h2 := (Array.getElem?_eq_some_iff.1 hg).1
    have h3 : g = w.heap.size := h1
    omega
theorem grown_other {w w' : World} {row : Option Nat} (h : w.grownBy w' row) {G : Nat} {x : Obj} (hG : w.heap[G]? = some x) (hne : row ≠ some G) : w'.heap[G]? = some x :=
  (h.block G (Array.getElem?_eq_some_iff.1 hG).1 (fun e => hne e.symm)).trans hG
end Go.Proofs.YtlgdbhebcglkoaaDoor
