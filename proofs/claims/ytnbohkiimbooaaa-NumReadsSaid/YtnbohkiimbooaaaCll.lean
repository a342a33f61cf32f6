/-
  Rows of calls (pairs of ints) in memory, and a cursor that stays as it is while another one moves. No condition.
-/
import Derived.Test.YtnbohkiimbooaaaRfB
import Derived.Test.YtnbohkiimbooaaaMSub
namespace Go.Proofs.Ytnbohkiimbooaaa
open Go.RowKit Go.Shelf

/-- The calls ls lie at A. -/
def RdC (w : World) (A : Option Addr) (ls : List (Int × Int)) : Prop :=
  ∀ (j : Nat) (q z : Int), ls[j]? = some (q, z) → ∃ ad, A = some ad ∧ w.cell? (ad.add (j * 2)) = some (.int .i64 q) ∧ w.cell? (ad.add (j * 2 + 1)) = some (.int .i64 z)

theorem RdC.below {w w' : World} {A : Option Addr} {ls : List (Int × Int)} (h : RdC w A ls) (hb : Below w.heap.size w w') : RdC w' A ls := by
  intro j q z hj
  obtain ⟨ad, hA, h1, h2⟩ := h j q z hj
  exact ⟨ad, hA, (hb.cell (cell_lt h1)).trans h1, (hb.cell (cell_lt h2)).trans h2⟩

theorem Cur.grown_other {w w' : World} {c d : Nat} {A B : Option Addr} {cap cap' : Nat} {l m : List UInt8} {k k' : Nat} (h : Cur w c A cap l k) (hd : Cur w d B cap' m k') (hne : c ≠ d) (hg : w.grownBy w' (some d)) : Cur w' c A cap l k :=
  ⟨h.blk.grown hg (by simpa using hne), h.rd.grown_cur hd.blk hg, h.le, h.cap, h.small⟩

end Go.Proofs.Ytnbohkiimbooaaa
