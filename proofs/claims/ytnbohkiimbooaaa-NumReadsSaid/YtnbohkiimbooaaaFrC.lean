/-
  An argument of the type []Call, opened: a list of pairs of ints in memory. No condition.
-/
import Derived.Test.YtnbohkiimbooaaaCll
import Derived.Test.YtnbohkiimbooaaaFrm
import Derived.Deep.SlicePairs
namespace Go.Proofs.Ytnbohkiimbooaaa
open Go.ChangeShapes Go.WideShapes Go.ChangeAt Go.RowKit Go.Deep

theorem cells_int : Try.prog.cellsOf 3 = 1 := by kernel_rfl
theorem cells_pair : Try.prog.cellsOf 51 = 2 := by kernel_rfl

theorem open_calls {H : Type} {enc : TypeId × Value → H} {W : World} {A : Option Addr} {len cap : Nat} {d : DataW H} {p : List MemPlace}
    (h : DataW.Trod enc Try.prog W 0 (fun _ => true) true 47 (.slice A len cap) d p) :
    ∃ ls : List (Int × Int), ls.length = len ∧ RdC W A ls ∧ ∀ (j : Nat) (q z : Int), ls[j]? = some (q, z) → z ≤ 9223372036854775807 := by
  obtain ⟨fuel, hf⟩ := h
  rcases open_slice_pairs Try.underlying47 Try.underlying51 cells_pair rfl rfl cells_int cells_int hf with ⟨hcs, _⟩ | ⟨a, l, c, m, n, V0, V1, D0, D1, P0, P1, hcs, _, hl, hm, hmm, hx, hall⟩
  · simp [Value.cells] at hcs
    obtain ⟨rfl, rfl, rfl⟩ := hcs
    exact ⟨[], rfl, fun j q z hj => by simp at hj, fun j q z hj => by simp at hj⟩
  · simp [Value.cells] at hcs
    obtain ⟨rfl, rfl, rfl⟩ := hcs
    simp only [if_true] at hmm
    have each : ∀ i, i < len → ∃ y : Int × Int, W.cell? (a.add (i * 2)) = some (.int .i64 y.1) ∧ W.cell? (a.add (i * 2 + 1)) = some (.int .i64 y.2) ∧ y.2 ≤ 9223372036854775807 := by
      intro i hi
      obtain ⟨h0, h1, t0, t1⟩ := hall i (by omega)
      obtain ⟨a0, e0, _, _⟩ := DataW.trod_int Try.underlying3 t0
      obtain ⟨a1, e1, _, w1⟩ := DataW.trod_int Try.underlying3 t1
      simp at e0 e1
      rw [e0] at h0
      rw [e1] at h1
      exact ⟨(a0, a1), h0, h1, (bounds_i64 w1).2⟩
    obtain ⟨f, hfn⟩ := choose_lt each
    have key : ∀ (j : Nat) (q z : Int), ((List.range len).map f)[j]? = some (q, z) → j < len ∧ f j = (q, z) := by
      intro j q z hj
      by_cases hjl : j < len
      · rw [List.getElem?_map, List.getElem?_range hjl] at hj
        exact ⟨hjl, by simpa using hj⟩
      · rw [List.getElem?_eq_none (by simp; omega)] at hj; cases hj
    refine ⟨(List.range len).map f, by simp, fun j q z hj => ?_, fun j q z hj => ?_⟩
    · obtain ⟨hjl, e⟩ := key j q z hj
      have := hfn j hjl
      rw [e] at this
      exact ⟨a, rfl, this.1, this.2.1⟩
    · obtain ⟨hjl, e⟩ := key j q z hj
      have := hfn j hjl
      rw [e] at this
      exact this.2.2

end Go.Proofs.Ytnbohkiimbooaaa
