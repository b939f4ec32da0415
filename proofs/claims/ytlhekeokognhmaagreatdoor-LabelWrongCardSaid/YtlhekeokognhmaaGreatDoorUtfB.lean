/-
  What Append of package utf computes, onto a slice of one's own.
-/
import Derived.Test.YtlhekeokognhmaaGreatDoorUtfA
import Derived.Test.YtlhekeokognhmaaGreatDoorWords
namespace Go.Proofs.YtlhekeokognhmaaGreatDoor
open Go.RowKit Mt

theorem info5 : (Tryz.prog.info? 5).map (fun i => (i.zero, i.size, i.bytes)) = some (some (.int .u8 0), 1, 1) := by kernel_rfl

/-- The form of x has come behind the n bytes xs. -/
def AppOk (base : Nat) (x : Int) (v0 : Value) (n : Nat) (xs : List Int) (w : World) (e : Ending) (w' : World) : Prop :=
  ∃ v, e = .returned (.tuple #[v, .int .i64 0]) ∧ w'.ownsRow base 5 1 v (n + (form x).length) (u8s (xs ++ form x)) ∧ w.grownBy w' v0.ownBlock

theorem appOk_mk {base : Nat} {x : Int} {v0 : Value} {n : Nat} {xs l : List Int} {w w1 w' : World} {v : Value} (k : Nat) (hl : form x = l) (hk : l.length = k) (hown : w'.ownsRow base 5 1 v (n + k) (u8s xs ++ u8s l)) (h1 : w.grownBy w1 v0.ownBlock) (h2 : w1.grownBy w' v0.ownBlock) :
    AppOk base x v0 n xs w (.returned (.tuple #[v, .int .i64 0])) w' := by
  subst hl hk
  rw [← u8s_append] at hown
  exact ⟨v, rfl, hown, h1.trans h2⟩

end Go.Proofs.YtlhekeokognhmaaGreatDoor
