/-
  A Step as a value and as a block; a Cell or a Step that is stored into a new variable. No condition.
-/
import Derived.Test.YtonapehlhkoplaaCod
namespace Go.Proofs.Ytonapehlhkoplaa
open Go.RowKit Go.Shelf

abbrev stv (i v n : Int) : Value := .agg #[.int .i64 i, .int .u64 v, .int .i64 n]
def Sb (W : World) (b : Nat) (i v n : Int) : Prop := W.heap[b]? = some (.cells #[.int .i64 i, .int .u64 v, .int .i64 n] 44 (0, 0))
section
variable {W W' : World} {b : Nat} {p q r : Int}
theorem Sb.lt (h : Sb W b p q r) : b < W.heap.size := (Array.getElem?_eq_some_iff.1 h).1
theorem Sb.c0 (h : Sb W b p q r) : W.cell? ⟨b, 0, none⟩ = some (.int .i64 p) := by rw [cell_of_row W b 0 _ _ _ h]; rfl
theorem Sb.c1 (h : Sb W b p q r) : W.cell? ⟨b, 1, none⟩ = some (.int .u64 q) := by rw [cell_of_row W b 1 _ _ _ h]; rfl
theorem Sb.c2 (h : Sb W b p q r) : W.cell? ⟨b, 2, none⟩ = some (.int .i64 r) := by rw [cell_of_row W b 2 _ _ _ h]; rfl
theorem Sb.free (h : Sb W b p q r) (i : Nat) : W.frozen? ⟨b, i, none⟩ = false := by
  have : W.heap[b]? = _ := h
  simp [World.frozen?, this]
theorem Sb.same (h : Sb W b p q r) (hb : W'.heap[b]? = W.heap[b]?) : Sb W' b p q r := hb.trans h
theorem Sb.below (h : Sb W b p q r) (hb : Below W.heap.size W W') : Sb W' b p q r := hb.block b h.lt |>.trans h
theorem Sb.set0 (h : Sb W b p q r) (z : Int) : Sb (W.setCell ⟨b, 0, none⟩ (.int .i64 z)) b z q r := by
  have hb : W.heap[b]? = _ := h
  unfold Sb
  simp [World.setCell, Array.getElem?_modify, hb]
theorem Sb.set1 (h : Sb W b p q r) (z : Int) : Sb (W.setCell ⟨b, 1, none⟩ (.int .u64 z)) b p z r := by
  have hb : W.heap[b]? = _ := h
  unfold Sb
  simp [World.setCell, Array.getElem?_modify, hb]
theorem Sb.set2 (h : Sb W b p q r) (z : Int) : Sb (W.setCell ⟨b, 2, none⟩ (.int .i64 z)) b p q z := by
  have hb : W.heap[b]? = _ := h
  unfold Sb
  simp [World.setCell, Array.getElem?_modify, hb]
theorem Sb.new (W : World) (p q r : Int) : Sb (W.alloc (.cells #[.int .i64 p, .int .u64 q, .int .i64 r] 44)) W.heap.size p q r := World.alloc_heap_new W _
theorem Sb.load (h : Sb W b p q r) : (loadVar 44 ⟨b, 0, none⟩).run Try.prog W = .ok (stv p q r) W := by
  have c0 := h.c0
  have c1 := h.c1
  have c2 := h.c2
  simp [loadVar, go_sem, c0, c1, c2]
end

/-- A cell, a step that is stored over another one. -/
theorem set_cell {W : World} {b : Nat} {x0 p0 q0 : Int} (h : Ce W b x0 p0 q0) (x p q : Int) {B : Nat} {w : World} (hB : Below B w W) (hb : B ≤ b) : ∃ Wa Wb Wc,
    W.cell? ⟨b, 0, none⟩ = some (.int .i64 x0) ∧ W.frozen? ⟨b, 0, none⟩ = false ∧ W.setCell ⟨b, 0, none⟩ (.int .i64 x) = Wa ∧
    Wa.cell? ⟨b, 1, none⟩ = some (.int .i64 p0) ∧ Wa.frozen? ⟨b, 1, none⟩ = false ∧ Wa.setCell ⟨b, 1, none⟩ (.int .i64 p) = Wb ∧
    Wb.cell? ⟨b, 2, none⟩ = some (.int .i64 q0) ∧ Wb.frozen? ⟨b, 2, none⟩ = false ∧ Wb.setCell ⟨b, 2, none⟩ (.int .i64 q) = Wc ∧
    Ce Wc b x p q ∧ Below B w Wc ∧ ∀ k, k ≠ b → Wc.heap[k]? = W.heap[k]? := by
  have ta := h.set0 x
  have tb := ta.set1 p
  exact ⟨_, _, _, h.c0, h.free 0, rfl, ta.c1, ta.free 1, rfl, tb.c2, tb.free 2, rfl, tb.set2 q, ((hB.setCell (p := ⟨b, 0, none⟩) hb _).setCell (p := ⟨b, 1, none⟩) hb _).setCell (p := ⟨b, 2, none⟩) hb _, fun k hk => by
    rw [Below.heap_setCell _ _ _ _ hk, Below.heap_setCell _ _ _ _ hk, Below.heap_setCell _ _ _ _ hk]⟩
theorem set_step {W : World} {b : Nat} {x0 p0 q0 : Int} (h : Sb W b x0 p0 q0) (x p q : Int) {B : Nat} {w : World} (hB : Below B w W) (hb : B ≤ b) : ∃ Wa Wb Wc,
    W.cell? ⟨b, 0, none⟩ = some (.int .i64 x0) ∧ W.frozen? ⟨b, 0, none⟩ = false ∧ W.setCell ⟨b, 0, none⟩ (.int .i64 x) = Wa ∧
    Wa.cell? ⟨b, 1, none⟩ = some (.int .u64 p0) ∧ Wa.frozen? ⟨b, 1, none⟩ = false ∧ Wa.setCell ⟨b, 1, none⟩ (.int .u64 p) = Wb ∧
    Wb.cell? ⟨b, 2, none⟩ = some (.int .i64 q0) ∧ Wb.frozen? ⟨b, 2, none⟩ = false ∧ Wb.setCell ⟨b, 2, none⟩ (.int .i64 q) = Wc ∧
    Sb Wc b x p q ∧ Below B w Wc ∧ ∀ k, k ≠ b → Wc.heap[k]? = W.heap[k]? := by
  have ta := h.set0 x
  have tb := ta.set1 p
  exact ⟨_, _, _, h.c0, h.free 0, rfl, ta.c1, ta.free 1, rfl, tb.c2, tb.free 2, rfl, tb.set2 q, ((hB.setCell (p := ⟨b, 0, none⟩) hb _).setCell (p := ⟨b, 1, none⟩) hb _).setCell (p := ⟨b, 2, none⟩) hb _, fun k hk => by
    rw [Below.heap_setCell _ _ _ _ hk, Below.heap_setCell _ _ _ _ hk, Below.heap_setCell _ _ _ _ hk]⟩
theorem below_new (W : World) (o : Obj) : Below W.heap.size W (W.alloc o) := (Below.refl _ W).alloc (Nat.le_refl _) _

end Go.Proofs.Ytonapehlhkoplaa
