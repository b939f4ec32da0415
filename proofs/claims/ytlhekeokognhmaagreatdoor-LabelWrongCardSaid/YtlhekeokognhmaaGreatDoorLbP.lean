/-
  of: labels from strings in turn.
-/
import Derived.Test.YtlhekeokognhmaaGreatDoorLbO
import Derived.Deep.RegionHeld3
import Derived.Maps.AppendAt
namespace Go.Proofs.YtlhekeokognhmaaGreatDoor
open Go.RowKit Go.Shelf Go.Maps Go.Sort
theorem step_append_at {P : Program} {ops : Array Oper} {o : Oper} {a : Act} {w : World} {K : Act → World → Prop} {Q : Exit → Act → World → Prop} {E : Prop} (hgd : o.guard = none) (s x : Operand) (t : TypeId)
    (ho : o.op = .call { callee := .builtin .append, args := #[s, x], argTypes := #[t, t] })
    (base : Nat) (e : TypeId) (i : TypeInfo) (z : Value) (size bytes : Nat) (ht : P.underlying t = some (.slice e)) (hi : P.info? e = some i) (hz : i.zero = some z)
    (hsize : i.size = size) (hby : i.bytes = bytes) (hzs : z.cells.size = size) (hsz : 0 < size)
    (v : Value) (n : Nat) (xs : List Value) (hs : a.eval s = v) (hown : w.ownsRow base e size v n xs)
    (ad : Addr) (m c : Nat) (news : List Value) (hx : a.eval x = .slice (some ad) m c) (hl : news.length = m * size) (hnews : ∀ j u, news[j]? = some u → w.cell? (ad.add j) = some u) (h1 : ∀ u ∈ news, u.oneCell' = true)
    (h63 : n + m ≤ maxLen) (hbytes : (n + m) * bytes ≤ 140737488355328) (hbase : base ≤ w.heap.size)
    (h : ∀ v' w', w'.ownsRow base e size v' (n + m) (xs ++ news) → w.grownBy w' v.ownBlock → K (a.put o.dst v') w') :
    if Region.wanted o (yielded ops a.tmps) = true then Oper.wp P o a w K Q else E := by
  have hw : Region.wanted o (yielded ops a.tmps) = true := by simp [Region.wanted, hgd]
  rw [if_pos hw]
  obtain ⟨v', w', hr, h2, h3, _, _⟩ := run_append_own_at (P := P) w base t o.type e i z size bytes ht hi hz hsize hby hzs hsz v n xs hown ad m c news hl hnews h1 h63 hbytes hbase
  unfold Oper.wp execOp
  simp only [ho, resolve, invoke, builtin, Sem.run_bind, Sem.run_pure, Result.andThen_ok, List.map_toArray, List.map_cons, List.map_nil, hs, hx, hr]
  exact h v' w' h2 h3
def pairs : List ByteArray → List Lab
  | a :: b :: L => (a, b) :: pairs L
  | _ => []
theorem pairs_length : ∀ L : List ByteArray, (pairs L).length = L.length / 2
  | [] => rfl
  | [_] => by simp [pairs]
  | _ :: _ :: L => by
    show (pairs L).length + 1 = (L.length + 1 + 1) / 2
    rw [pairs_length L]
    omega
theorem pairs_get : ∀ (L : List ByteArray) (k : Nat), 2 * k + 1 < L.length → ∃ a b, L[2 * k]? = some a ∧ L[2 * k + 1]? = some b ∧ (pairs L)[k]? = some (a, b)
  | [], k, h => by simp at h
  | [_], k, h => by simp at h
  | a :: b :: L, 0, _ => ⟨a, b, rfl, rfl, rfl⟩
  | a :: b :: L, k + 1, h => by
    obtain ⟨x, y, h1, h2, h3⟩ := pairs_get L k (by simp only [List.length_cons] at h; omega)
    exact ⟨x, y, h1, h2, h3⟩
set_option maxRecDepth 100000 in
set_option maxHeartbeats 2000000 in
theorem ofS_any (A : Option Addr) (c : Nat) (ns : List ByteArray) (hL : ns.length ≤ 1000000) (w : World) (hr : Rd w w.heap.size A ns.length (strs ns)) :
    Calls Tryz.prog 9 #[.slice A ns.length c] w fun e w' => ∃ v, e = .returned v ∧ w'.ownsRow w.heap.size 33 2 v (ns.length / 2) (labs (pairs ns)) ∧ Kept w w' := by
  have HR := Lib.hid hr
  obtain ⟨i0, hi0, hz0, hz1, hz2⟩ := info_parts infoLab
  obtain ⟨n, hn⟩ : ∃ n, n = ns.length := ⟨_, rfl⟩
  have Hn := Lib.hid hn
  have Hpl : Hid ((pairs ns).length = n / 2) := by show _ = _; rw [pairs_length, ← hn]
  rw [← hn] at hL ⊢
  clear hr hn
  go_enter Tryz.func9, Tryz.ntmps9
  go_wp2_with fail
  go_loopw [3, 4] (fun v3 v4 wr => ∃ k j : Nat, k ≤ n / 2 ∧ v4 = .int .i64 j ∧ Hid (j = 2 * k) ∧ j ≤ n ∧ Hid (Kept w wr) ∧ Hid (wr.ownsRow w.heap.size 33 2 v3 k (labs ((pairs ns).take k)))) (fun _ v4 _ => n - (intOf v4).toNat)
  case atStart => exact ⟨0, 0, by omega, rfl, rfl, by omega, Below.refl _ _, ⟨rfl, .inl ⟨rfl, rfl⟩⟩⟩
  case round =>
    obtain ⟨k, j, hk, rfl, hj, hjn, hkr, hown⟩ := hrel
    obtain ⟨j1, hj1⟩ : ∃ j1, j1 = j + 1 := ⟨_, rfl⟩
    have hwj : IntKind.i64.wrap ((j : Int) + 1) = (j1 : Int) := by rw [IntKind.wrap_i64]; omega
    have hwj2 : IntKind.i64.wrap ((j : Int) + 2) = ((j1 + 1 : Nat) : Int) := by rw [IntKind.wrap_i64]; omega
    have HJ1 := Lib.hid hj1
    by_cases hkn : j1 < n
    · obtain ⟨a, b, ha, hb, hp⟩ := pairs_get ns k (by rw [← Hn.out, ← hj.out, ← hj1]; exact hkn)
      rw [← hj.out] at ha hb
      rw [← hj1] at hb
      obtain ⟨ad, u, hA, hadb, hu, hcu⟩ := HR.out.at_ (k := j) (by rw [← Hn.out]; omega)
      obtain ⟨ad', u', hA', _, hu', hcu'⟩ := HR.out.at_ (k := j1) (by rw [← Hn.out]; exact hkn)
      subst hA
      cases hA'
      have e1 : u = .string a := by
        rw [List.getElem?_eq_some_iff] at ha
        obtain ⟨h1, h2⟩ := ha
        rw [strs_get _ _ h1, h2] at hu
        exact (Option.some.inj hu).symm
      have e2 : u' = .string b := by
        rw [List.getElem?_eq_some_iff] at hb
        obtain ⟨h1, h2⟩ := hb
        rw [strs_get _ _ h1, h2] at hu'
        exact (Option.some.inj hu').symm
      subst e1 e2
      have K1 : Hid (Kept w wr.drew) := hkr.out.drew
      have c0 : wr.drew.cell? (ad.add j) = some (.string a) := (Below.cell K1.out (by rw [addBlock]; exact hadb)).trans hcu
      have c1 : wr.drew.cell? (ad.add j1) = some (.string b) := (Below.cell K1.out (by rw [addBlock]; exact hadb)).trans hcu'
      have Htk : Hid ((pairs ns).take (k + 1) = (pairs ns).take k ++ [(a, b)]) := by show _ = _; rw [List.take_add_one, hp]; rfl
      have hown1 : Hid (wr.drew.ownsRow w.heap.size 33 2 u3 k (labs ((pairs ns).take k))) := hown.out
      have hlt1 : (j : Int) < n := by omega
      have hlt2 : (j1 : Int) < n := by omega
      have Hk : Hid (∀ W, Below w.heap.size wr W → (W.cell? (ad.add j) = some (.string a) ∧ W.cell? (ad.add j1) = some (.string b)) ∧ Below w.heap.size wr W) := fun W h => ⟨⟨(Below.cell (Below.trans hkr.out h) (by rw [addBlock]; exact hadb)).trans hcu, (Below.cell (Below.trans hkr.out h) (by rw [addBlock]; exact hadb)).trans hcu'⟩, h⟩
      clear ha hb hp hu hcu hu' hcu' hj1 c0 c1
      go_upto_region 5 with fail
      have hkk : k < n / 2 := by have := hj.out; have := HJ1.out; omega
      have hb00 := Below.refl w.heap.size wr
      have hwz : w.heap.size ≤ wr.heap.size := Below.size hkr.out
      go_region_held3 (fun W => (W.cell? (ad.add j) = some (.string a) ∧ W.cell? (ad.add j1) = some (.string b)) ∧ Below w.heap.size wr W)
        ((refine Hk.out _ ?_; (repeat (first | with_reducible assumption | with_reducible refine Below.drew ?_ | with_reducible refine Below.alloc ?_ hwz _)); done))
        (first
          | (refine step_append_at rfl _ _ 28 rfl w.heap.size 33 i0 (.agg #[.string ⟨#[]⟩, .string ⟨#[]⟩]) 2 32 Tryz.underlying28 hi0 hz0 hz1 hz2 rfl (by decide) u3 k (labs ((pairs ns).take k)) rfl (hown1.out.alloc _) ⟨wr.heap.size, 0, none⟩ 1 1 [.string a, .string b] rfl rfl (cells_new wr.drew [.string a, .string b] 33) (by intro u hu; simp at hu; rcases hu with rfl | rfl <;> rfl) (by unfold maxLen; omega) (by omega) (Nat.le_trans hwz (by simp)) ?_; intro v5 w5 hown5 hg5; have hb3 := Below.grown (Below.alloc (Below.drew (Below.refl w.heap.size wr)) hwz (.cells #[.string a, .string b] 33)) hg5 (Nat.le_trans hwz (by simp)) (fun j e => (hown.out.lt j e).1); have Hown5 := Lib.hid hown5; clear hown5 hg5))

      go_wp2_with fail
      go_roundw
      case rel =>
        refine ⟨k + 1, j1 + 1, by omega, by go_num, by show _ = _; have := hj.out; have := HJ1.out; omega, by omega, Below.trans hkr.out hb3, ?_⟩
        show World.ownsRow _ _ _ _ _ _ _
        rw [Htk.out, labs_snoc]
        exact Hown5.out
      case measure => have := HJ1.out; simp [intOf]; omega
    · have hkk : k = n / 2 := by have := hj.out; have := HJ1.out; omega
      have Hall : Hid ((pairs ns).take k = pairs ns) := List.take_of_length_le (by rw [Hpl.out]; omega)
      have hge : ¬ (j1 : Int) < n := by omega
      rw [Hall.out] at hown
      have Hkk := Lib.hid hkk
      clear hkk hj1
      go_wp2_with fail
      go_ret
      exact ⟨_, rfl, by rw [← Hkk.out]; exact hown.out, hkr.out⟩
end Go.Proofs.YtlhekeokognhmaaGreatDoor
