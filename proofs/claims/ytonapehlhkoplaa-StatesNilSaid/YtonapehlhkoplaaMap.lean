/-
  A map from ints to ints that the call has made: which index has which symbol. Conditions: those that each theorem states.
-/
import Derived.Maps.OwnSet
import Derived.Test.YtonapehlhkoplaaRow
namespace Go.Proofs.Ytonapehlhkoplaa
open Go.RowKit Go.Shelf Go.Maps

abbrev T : TypeId := 80
theorem keyed : Keyed Try.prog 3 := int_keyed Try.underlying3
theorem zero_int (w : World) : (zeroValue 3).run Try.prog w = .ok (.int .i64 0) w := by kernel_rfl
theorem wf_nat {n : Nat} (h : n ≤ 1000000) : (Lit.int .i64 (n : Int)).wf = true := WalkArith.wf_i64 (by omega)

/-- Block b is a map of at most n entries: index i has the symbol m i, or none. -/
def Mp (w : World) (b n : Nat) (m : Nat → Option Nat) : Prop :=
  ∃ D : DataW Unit, w.ownsMap Try.prog 3 (plainElem Try.prog 3) b n D ∧ ∀ i : Nat, Maps.has D (.int .i64 (i : Int)) = (m i).isSome ∧ D.atKey (.int .i64 (i : Int)) (.lit (.int .i64 0)) = .lit (.int .i64 (((m i).getD 0 : Nat) : Int))
theorem Mp.lt {w : World} {b n : Nat} {m : Nat → Option Nat} (h : Mp w b n m) : b < w.heap.size := let ⟨_, h1, _⟩ := h; h1.lt
theorem Mp.same {w w' : World} {b n : Nat} {m : Nat → Option Nat} (h : Mp w b n m) (hb : w'.heap[b]? = w.heap[b]?) : Mp w' b n m := by
  obtain ⟨D, ⟨es, cl, h1, h2⟩, h3⟩ := h
  exact ⟨D, ⟨es, cl, hb.trans h1, h2⟩, h3⟩
theorem Mp.below {w w' : World} {b n : Nat} {m : Nat → Option Nat} (h : Mp w b n m) (hb : Below w.heap.size w w') : Mp w' b n m := h.same (hb.block b h.lt)
theorem Mp.made (w : World) : Mp (w.alloc (.map #[] 0)) w.heap.size 0 (fun _ => none) :=
  ⟨.map [], World.ownsMap_made _ _ _ _, fun _ => ⟨rfl, rfl⟩⟩
theorem Mp.look {w : World} {b n : Nat} {m : Nat → Option Nat} (h : Mp w b n m) {i : Nat} (hi : i ≤ 1000000) : (Instr.lookup T (.map (some b)) (.int .i64 (i : Int)) false).run Try.prog w = .ok (.int .i64 (((m i).getD 0 : Nat) : Int)) w := by
  obtain ⟨D, h1, h2⟩ := h
  obtain ⟨c, hrun, hat, _⟩ := h1.lookup_int keyed Try.underlying80 Try.underlying3 (zero_int _) (keyOf_int_mk Try.underlying3 (wf_nat hi))
  rw [(h2 i).2] at hat
  injection hat with hat
  injection hat with _ hat
  rw [hrun, ← hat]
theorem Mp.look_ok {w : World} {b n : Nat} {m : Nat → Option Nat} (h : Mp w b n m) {i : Nat} (hi : i ≤ 1000000) : (Instr.lookup T (.map (some b)) (.int .i64 (i : Int)) true).run Try.prog w = .ok (.tuple #[.int .i64 (((m i).getD 0 : Nat) : Int), .bool (m i).isSome]) w := by
  obtain ⟨D, h1, h2⟩ := h
  obtain ⟨v, ps, hrun, hR⟩ := h1.look_ok keyed Try.underlying80 (zero_int _) (plainElem_int Try.underlying3 (by decide)) (keyOf_int_mk Try.underlying3 (wf_nat hi))
  obtain ⟨c, rfl, hc, _⟩ := plainElem_int_inv Try.underlying3 hR
  simp only [Prod.mk.injEq] at hc
  have hat := hc.1
  rw [(h2 i).2] at hat
  injection hat with hat
  injection hat with _ hat
  rw [hrun, ← hat, (h2 i).1]
theorem Mp.store {w : World} {b n : Nat} {m : Nat → Option Nat} (h : Mp w b n m) (hn : n ≤ 1000000) {i x : Nat} (hi : i ≤ 1000000) (hx : x ≤ 1000000) :
    ∃ w', (Instr.mapUpdate T (.map (some b)) (.int .i64 (i : Int)) (.int .i64 (x : Int))).run Try.prog w = .ok () w' ∧ Mp w' b (n + 1) (upd m i x) ∧ w.grownBy w' (some b) := by
  obtain ⟨D, h1, h2⟩ := h
  obtain ⟨w', hrun, ho, hg⟩ := h1.update keyed Try.underlying80 (by unfold maxLen; omega) (keyOf_int_mk Try.underlying3 (wf_nat hi)) (plainElem_int Try.underlying3 (wf_nat hx))
  refine ⟨w', hrun, ⟨_, ho, fun j => ?_⟩, hg⟩
  by_cases hj : j = i
  · subst hj
    rw [upd_same]
    exact ⟨has_put_same h1.isMap (by exact trivial) _, atKey_put_same h1.isMap (by exact trivial) _ _⟩
  · have hne : Lit.int .i64 (j : Int) ≠ Lit.int .i64 (i : Int) := fun e => by
      injection e with _ e
      exact hj (by omega)
    rw [upd_other m x hj, has_put_other hne, atKey_put_other hne]
    exact h2 j

end Go.Proofs.Ytonapehlhkoplaa
