/-
  What the laws of package md5 share: states and digests as values.
-/
import Derived.Test.YtlgdbhebcglkoaaDoorMdL
import Derived.Test.YtlgdbhebcglkoaaDoorOpenA
import Derived.Test.YtlgdbhebcglkoaaDoorEqArr
namespace Go.Proofs.YtlgdbhebcglkoaaDoor
open Go.RowKit
theorem u32_bv {z : Int} (h : (Lit.int .u32 z).wf = true) : ∃ b : BitVec 32, Value.int .u32 z = V b := by
  have hb : 0 ≤ z ∧ z ≤ 4294967295 := by
    simp [Lit.wf, IntKind.min, IntKind.max, IntKind.signed, IntKind.bits] at h
    omega
  refine ⟨BitVec.ofNat 32 z.toNat, ?_⟩
  show _ = Value.int .u32 _
  rw [BitVec.toNat_ofNat, Nat.mod_eq_of_lt (by omega)]
  congr 1
  omega
theorem st_of (zs : List Int) (hn : zs.length = 4) (hz : ∀ z ∈ zs, (Lit.int .u32 z).wf = true) : ∃ st : St, (zs.map (Value.int .u32)).toArray = vals st := by
  obtain ⟨a, b, c, d, rfl⟩ : ∃ a b c d, zs = [a, b, c, d] := by
    match zs, hn with
    | [a, b, c, d], _ => exact ⟨a, b, c, d, rfl⟩
  obtain ⟨a', ha⟩ := u32_bv (hz a (by simp))
  obtain ⟨b', hb⟩ := u32_bv (hz b (by simp))
  obtain ⟨c', hc⟩ := u32_bv (hz c (by simp))
  obtain ⟨d', hd⟩ := u32_bv (hz d (by simp))
  refine ⟨(a', b', c', d'), ?_⟩
  show #[Value.int .u32 a, .int .u32 b, .int .u32 c, .int .u32 d] = _
  rw [ha, hb, hc, hd]
  rfl
theorem bts_of {zs : List Int} (hz : ∀ z ∈ zs, (Lit.int .u8 z).wf = true) : Bts zs := fun z h => bounds_u8 (hz z h)
theorem info_u32 : ∃ i, Tryd.prog.info? 22 = some i ∧ i.size = 1 := by
  have h : (Tryd.prog.info? 22).map (·.size) = some 1 := by kernel_rfl
  rcases hi : Tryd.prog.info? 22 with _ | i
  · rw [hi] at h; cases h
  · rw [hi] at h; exact ⟨i, rfl, Option.some.inj h⟩
/-- States are compared; digests are compared. -/
theorem eq_state (s t : St) (W : World) : (Op.equalIn 10000 24 (.agg (vals s)) (.agg (vals t))).run Tryd.prog W = .ok (decide (s = t)) W := by
  obtain ⟨i0, h0, h1⟩ := info_u32
  have h := run_eq_ints (k := .u32) W 9998 Tryd.underlying24 Tryd.underlying22 h0 h1 (by kernel_rfl) [(s.1.toNat : Int), s.2.1.toNat, s.2.2.1.toNat, s.2.2.2.toNat] [(t.1.toNat : Int), t.2.1.toNat, t.2.2.1.toNat, t.2.2.2.toNat] rfl rfl
  refine h.trans ?_
  congr 1
  rw [Bool.eq_iff_iff, decide_eq_true_iff, decide_eq_true_iff]
  constructor
  · intro h
    simp only [List.cons.injEq, and_true] at h
    obtain ⟨a, b, c, d⟩ := h
    exact Prod.ext (v_inj a) (Prod.ext (v_inj b) (Prod.ext (v_inj c) (v_inj d)))
  · rintro rfl; rfl
theorem eq_dig (l m : List Int) (hl : l.length = 16) (hm : m.length = 16) (W : World) : (Op.equalIn 10000 30 (.agg (u8s l).toArray) (.agg (u8s m).toArray)).run Tryd.prog W = .ok (decide (l = m)) W := by
  obtain ⟨i0, h0, h1⟩ := info_u8
  exact run_eq_ints (k := .u8) W 9998 Tryd.underlying30 Tryd.underlying5 h0 h1 (by kernel_rfl) l m hl hm
abbrev z4 : Array Value := #[.int .u32 0, .int .u32 0, .int .u32 0, .int .u32 0]
def stZ : St := (0#32, 0#32, 0#32, 0#32)
theorem vals_z : vals stZ = z4 := rfl
theorem eq_zero (W : World) : (Op.equalIn 10000 24 (.agg z4) (.agg z4)).run Tryd.prog W = .ok true W := by
  have := eq_state stZ stZ W
  rw [vals_z] at this
  rw [this]
  simp
end Go.Proofs.YtlgdbhebcglkoaaDoor
