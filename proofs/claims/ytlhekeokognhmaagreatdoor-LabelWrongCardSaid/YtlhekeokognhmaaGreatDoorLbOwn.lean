/-
  Answers that are one's own: where they lie; what an append leaves of them.
-/
import Derived.Test.YtlhekeokognhmaaGreatDoorLbMerges
import Derived.Test.YtlhekeokognhmaaGreatDoorLbZ
namespace Go.Proofs.YtlhekeokognhmaaGreatDoor
open Go.RowKit Go.Shelf Go.Maps Go.Sort
theorem own_rdG {w : World} {base n size : Nat} {e : TypeId} {v : Value} {xs : List Value} (h : w.ownsRow base e size v n xs) : ∃ A c, v = .slice A n c ∧ n ≤ c ∧ Rd w w.heap.size A (n * size) xs ∧ ∀ ad, A = some ad → base ≤ ad.block := by
  obtain ⟨A, c, rfl, hc, hr⟩ := own_rd h
  refine ⟨A, c, rfl, hc, hr, fun ad e => ?_⟩
  subst e
  rcases h.2 with ⟨e1, _⟩ | ⟨g, cap, cur, e1, hb, _⟩
  · cases e1
  · cases e1
    exact hb
theorem rd_grown {w w' : World} {B n : Nat} {A : Option Addr} {xs : List Value} {r : Option Nat} (h : Rd w w.heap.size A n xs) (hg : w.grownBy w' r) (hne : ∀ ad, A = some ad → some ad.block ≠ r) (hB : w.heap.size ≤ B) : Rd w' B A n xs :=
  ⟨h.1, fun h0 => by
    obtain ⟨ad, rfl, hb, hc⟩ := h.2 h0
    refine ⟨ad, rfl, Nat.lt_of_lt_of_le hb hB, fun j u hu => ?_⟩
    exact (hg.cell_far (ad.add j) (by rw [addBlock]; exact hb) (by rw [addBlock]; exact hne ad rfl)).trans (hc j u hu)⟩
theorem sortedV_own {B : Nat} {m : List Lb} {v : Value} {x : Int} {w' : World} {M : List Lab} (h : SortedV B m v x w') (hM : m.map bl = M) (hl : M.length ≤ 64) : x = 0 ∧ w'.ownsRow B 33 2 v M.length (labs M) := by
  have hlen : m.length = M.length := by rw [← hM, List.length_map]
  rcases h with ⟨h, _⟩ | ⟨_, rfl, ho⟩
  · omega
  · rw [hM, hlen] at ho
    exact ⟨rfl, ho⟩
theorem set_own (A A1 : Option Addr) (c c1 : Nat) (L E M : List Lab) (w : World) (hL : L.length ≤ 400000) (hE : E.length ≤ 400000) (hr : RdL w w.heap.size A L) (hr1 : RdL w w.heap.size A1 E) (hT : Tab w) (hb : setBad L E = none) (hM : (puts [] ((L ++ E).map lb)).map bl = M) (hl : M.length ≤ 64) :
    Calls Tryz.prog 15 #[.slice A L.length c, .slice A1 E.length c1] w fun e w' => ∃ A c, e = .returned (.tuple #[.slice A M.length c, .int .i64 0]) ∧ RdL w' w'.heap.size A M ∧ Kept w w' ∧ ∀ ad, A = some ad → w.heap.size ≤ ad.block :=
  (set_any A A1 c c1 L E hL hE w hr hr1 hT).mono fun e w' ⟨v, x, he, h, hk⟩ => by
    subst he
    rw [hb] at h
    obtain ⟨rfl, ho⟩ := sortedV_own h hM hl
    obtain ⟨A, c, rfl, _, hr, hg⟩ := own_rdG ho
    exact ⟨A, c, rfl, hr, hk, hg⟩
section
variable {P : Program}
/-- A label put behind a list of one's own, at a plain region's list of operations: only that list's block is turned. -/
theorem wpList_ownG {w : World} {ops : Array Oper} {rest : List Oper} {o : Oper} {a : Act} {Q : Exit → Act → World → Prop} (hgd : o.guard = none) (s x : Operand) (t : TypeId)
    (ho : o.op = .call { callee := .builtin .append, args := #[s, x], argTypes := #[t, t] })
    (base : Nat) (i : TypeInfo) (z : Value) (bytes : Nat) (ht : P.underlying t = some (.slice 33)) (hi : P.info? 33 = some i) (hz : i.zero = some z)
    (hsize : i.size = 2) (hby : i.bytes = bytes) (hzs : z.cells.size = 2)
    (v : Value) (n : Nat) (xs : List Value) (hs : a.eval s = v) (hown : w.ownsRow base 33 2 v n xs)
    (ad : Addr) (m c : Nat) (news : List Value) (hx : a.eval x = .slice (some ad) m c) (hl : news.length = m * 2) (hnews : ∀ j u, news[j]? = some u → w.cell? (ad.add j) = some u) (h1 : ∀ u ∈ news, u.oneCell' = true)
    (h63 : n + m ≤ maxLen) (hbytes : (n + m) * bytes ≤ 140737488355328) (hbase : base ≤ w.heap.size)
    (h : ∀ v' w', w'.ownsRow base 33 2 v' (n + m) (xs ++ news) → w.grownBy w' v.ownBlock → wpList P ops Q rest (a.put o.dst v') w') : wpList P ops Q (o :: rest) a w := by
  refine wpList_plain hgd fun K hK => ?_
  obtain ⟨v', w', hr, h2, h3, _, _⟩ := run_append_own_at (P := P) w base t o.type 33 i z 2 bytes ht hi hz hsize hby hzs (by decide) v n xs hown ad m c news hl hnews h1 h63 hbytes hbase
  unfold Oper.wp execOp
  simp only [ho, resolve, invoke, builtin, Sem.run_bind, Sem.run_pure, Result.andThen_ok, List.map_toArray, List.map_cons, List.map_nil, hs, hx, hr]
  exact hK _ _ (h v' w' h2 h3)
end
end Go.Proofs.YtlhekeokognhmaaGreatDoor
