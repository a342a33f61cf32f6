/-
  What cells.builder and the function that it returns do: that function makes the cell of the next state of a symbol and counts it in the map. Only the map and new memory change. Conditions: the table is valid, the symbol has a state left.
-/
import Derived.BigQuiet
import Derived.Deep.QuietTactic
import Derived.Test.YtonapehlhkoplaaSmc
import Derived.Test.YtonapehlhkoplaaMap
namespace Go.Proofs.Ytonapehlhkoplaa
open Go.RowKit Go.Shelf Go.Maps

abbrev TM : TypeId := 79
theorem Mp.look2 {w : World} {b n : Nat} {m : Nat → Option Nat} (h : Mp w b n m) {i : Nat} (hi : i ≤ 1000000) : (Instr.lookup TM (.map (some b)) (.int .i64 (i : Int)) false).run Try.prog w = .ok (.int .i64 (((m i).getD 0 : Nat) : Int)) w := by
  obtain ⟨D, h1, h2⟩ := h
  obtain ⟨c, hrun, hat, _⟩ := h1.lookup_int keyed Try.underlying79 Try.underlying3 (zero_int _) (keyOf_int_mk Try.underlying3 (wf_nat hi))
  rw [(h2 i).2] at hat
  injection hat with hat
  injection hat with _ hat
  rw [hrun, ← hat]
theorem Mp.store2 {w : World} {b n : Nat} {m : Nat → Option Nat} (h : Mp w b n m) (hn : n ≤ 1000000) {i x : Nat} (hi : i ≤ 1000000) (hx : x ≤ 1000000) :
    ∃ w', (Instr.mapUpdate TM (.map (some b)) (.int .i64 (i : Int)) (.int .i64 (x : Int))).run Try.prog w = .ok () w' ∧ Mp w' b (n + 1) (upd m i x) ∧ w.grownBy w' (some b) := by
  obtain ⟨D, h1, h2⟩ := h
  obtain ⟨w', hrun, ho, hg⟩ := h1.update keyed Try.underlying79 (by unfold maxLen; omega) (keyOf_int_mk Try.underlying3 (wf_nat hi)) (plainElem_int Try.underlying3 (wf_nat hx))
  refine ⟨w', hrun, ⟨_, ho, fun j => ?_⟩, hg⟩
  by_cases hj : j = i
  · subst hj
    rw [upd_same]
    exact ⟨has_put_same h1.isMap (by exact trivial) _, atKey_put_same h1.isMap (by exact trivial) _ _⟩
  · have hne : Lit.int .i64 (j : Int) ≠ Lit.int .i64 (i : Int) := fun e => by
      injection e with _ e
      exact hj (by omega)
    rw [upd_other m x hj, has_put_other hne, atKey_put_other hne]
    exact h2 j

/-- What a builder captures: the table's variable, the map's variable, the map. -/
structure Bld (W : World) (bt bm b nn : Nat) (y : Int) (A : Option Addr) (N c : Nat) (m : Nat → Option Nat) : Prop where
  tab : Tb W bt y A N c
  box : Boxed W bm TM (.map (some b))
  mp : Mp W b nn m
  apart : bt ≠ b ∧ bm ≠ b
theorem Bld.same {W W' : World} {bt bm b nn : Nat} {y : Int} {A : Option Addr} {N c : Nat} {m : Nat → Option Nat} (h : Bld W bt bm b nn y A N c m) (hb : ∀ q, q = bt ∨ q = bm ∨ q = b → W'.heap[q]? = W.heap[q]?) : Bld W' bt bm b nn y A N c m :=
  ⟨h.tab.same (hb _ (.inl rfl)), (hb _ (.inr (.inl rfl))).trans h.box, h.mp.same (hb _ (.inr (.inr rfl))), h.apart⟩
theorem Bld.below {W W' : World} {bt bm b nn : Nat} {y : Int} {A : Option Addr} {N c : Nat} {m : Nat → Option Nat} (h : Bld W bt bm b nn y A N c m) (hb : Below W.heap.size W W') : Bld W' bt bm b nn y A N c m :=
  h.same fun q e => hb.block q (by rcases e with rfl | rfl | rfl; exact h.tab.lt; exact h.box.lt; exact h.mp.lt)

set_option maxRecDepth 100000 in
set_option maxHeartbeats 1000000 in
theorem builder_any (w : World) (y : Int) (A : Option Addr) (N c : Nat) :
    Calls Try.prog 44 #[tb y A N c] w fun e w' => ∃ bt bm b, e = .returned (.func (.func 49) #[] #[.pointer (some ⟨bt, 0, none⟩), .pointer (some ⟨bm, 0, none⟩)]) ∧ w.heap.size ≤ b ∧ Bld w' bt bm b 0 y A N c (fun _ => none) ∧ Below w.heap.size w w' := by
  have t1 := Tb.new w y A N c
  have b1 : Below w.heap.size w (w.alloc (.cells #[.int .i64 y, .slice A N c] 24)) := (Below.refl _ w).alloc (Nat.le_refl _) _
  obtain ⟨w1, hw1⟩ : ∃ w1, w.alloc (.cells #[.int .i64 y, .slice A N c] 24) = w1 := ⟨_, rfl⟩
  have z1 : w1.heap.size = w.heap.size + 1 := by rw [← hw1]; simp
  rw [hw1] at t1 b1
  have m1 := Mp.made w1
  have b2 : Below w1.heap.size w1 (w1.alloc (.map #[] 0)) := (Below.refl _ w1).alloc (Nat.le_refl _) _
  obtain ⟨w2, hw2⟩ : ∃ w2, w1.alloc (.map #[] 0) = w2 := ⟨_, rfl⟩
  have z2 : w2.heap.size = w1.heap.size + 1 := by rw [← hw2]; simp
  rw [hw2] at m1 b2
  have x3 : Boxed (w2.alloc (.cells #[.map none] TM)) w2.heap.size TM (.map none) := Boxed.new w2 TM _
  have b3 : Below w2.heap.size w2 (w2.alloc (.cells #[.map none] TM)) := (Below.refl _ w2).alloc (Nat.le_refl _) _
  obtain ⟨w3, hw3⟩ : ∃ w3, w2.alloc (.cells #[.map none] TM) = w3 := ⟨_, rfl⟩
  rw [hw3] at x3 b3
  have c3 := x3.cell
  have f3 := x3.frozen
  have b4 : Below w2.heap.size w3 (w3.setCell ⟨w2.heap.size, 0, none⟩ (.map (some w1.heap.size))) := (Below.refl _ w3).setCell (p := ⟨w2.heap.size, 0, none⟩) (Nat.le_refl _) _
  have FN : Hid (Bld (w3.setCell ⟨w2.heap.size, 0, none⟩ (.map (some w1.heap.size))) w.heap.size w2.heap.size w1.heap.size 0 y A N c (fun _ => none) ∧ Below w.heap.size w (w3.setCell ⟨w2.heap.size, 0, none⟩ (.map (some w1.heap.size)))) := Lib.hid ⟨⟨((t1.below b2).below b3).same (b4.block _ (by omega)), x3.set _, (m1.below b3).same (b4.block _ (by omega)), by omega, by omega⟩, ⟨b4.os.trans (b3.os.trans (b2.os.trans b1.os)), b4.tape.trans (b3.tape.trans (b2.tape.trans b1.tape)), b4.output.trans (b3.output.trans (b2.output.trans b1.output)), by have := b4.size; have := b3.size; omega, fun q hq => (b4.block q (by omega)).trans ((b3.block q (by omega)).trans ((b2.block q (by omega)).trans (b1.block q hq)))⟩⟩
  have HZ : Hid (w.heap.size ≤ w1.heap.size) := Lib.hid (by omega)
  have hmm := @run_makeMap Try.prog
  clear t1 b1 m1 b2 x3 b3 b4 z1 z2
  go_enter Try.func44, Try.ntmps44
  go_wp2
  go_ret
  exact ⟨_, _, _, rfl, HZ.out, FN.out.1, FN.out.2⟩

end Go.Proofs.Ytonapehlhkoplaa
