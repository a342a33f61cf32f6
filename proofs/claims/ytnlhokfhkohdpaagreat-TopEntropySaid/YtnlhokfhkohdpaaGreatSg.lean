/-
  What the reference's Backward, Last and Decode do: the symbols that fdR says, or the error. Conditions: at most 300 norms and 500 bytes.
-/
import Derived.Deep.CutRange
import Derived.Deep.DeepCutAuto
import Derived.Test.YtnlhokfhkohdpaaGreatSf
namespace Go.Proofs.YtnlhokfhkohdpaaGreat
open Go.RowKit Go.Shelf
open Bt (unp unp_len val endOf)

/-- Bits have been read, or there were too few. -/
def LsR (L : List Bool) (n : Nat) (V : Nat) (L' : List Bool) (er : Int) : Prop := (lst L n = some (V, L') ∧ er = 0) ∨ (lst L n = none ∧ V = 0 ∧ er = 14)
theorem LsR.lt {L L' : List Bool} {n V : Nat} {er : Int} (h : LsR L n V L' er) : V < 2 ^ n := by
  rcases h with ⟨h, _⟩ | ⟨_, rfl, _⟩
  · exact (lst_inv h).2
  · exact Nat.two_pow_pos n

/-- What a function returns that returns symbols and an error. -/
def Fres (w : World) (R : Nat × List Nat) (e : Ending) (w' : World) : Prop :=
  ∃ (A1 : Option Addr) (n1 c1 : Nat), e = .returned (.tuple #[.slice A1 n1 c1, .int .i64 (R.1 : Int)]) ∧ Below w.heap.size w w' ∧ w'.ownsRow w.heap.size 3 1 (.slice A1 n1 c1) n1 (R.2.map nv)
theorem Fres.none {w w' : World} {k : Nat} {z : Int} (hz : z = (k : Int)) (hb : Below w.heap.size w w') : Fres w (k, []) (.returned (.tuple #[.slice none 0 0, .int .i64 z])) w' := by
  subst hz
  exact ⟨_, _, _, rfl, hb, World.ownsRow_nil _ _ _ _⟩

end Go.Proofs.YtnlhokfhkohdpaaGreat
