/-
  What the laws' step and known do: known returns true. Only new memory. Conditions of step: the Coder has a valid table, and its predecessor is the one that is asked for.
-/
import Derived.Test.YtonapehlhkoplaaRfs
namespace Go.Proofs.Ytonapehlhkoplaa
open Go.RowKit Go.Shelf

theorem below_zero {w W W' : World} (h : Below w.heap.size w W) (k : Below W.heap.size W W') : Below w.heap.size w W' := below_on h (Nat.le_refl _) k
/-- A Step that is stored into a new variable. -/
theorem new_step {w W : World} (hb : Below w.heap.size w W) (x p q : Int) : ∃ W1 Wa Wb Wc, W.alloc (.cells #[.int .i64 0, .int .u64 0, .int .i64 0] 44) = W1 ∧
    W1.cell? ⟨W.heap.size, 0, none⟩ = some (.int .i64 0) ∧ W1.frozen? ⟨W.heap.size, 0, none⟩ = false ∧ W1.setCell ⟨W.heap.size, 0, none⟩ (.int .i64 x) = Wa ∧
    Wa.cell? ⟨W.heap.size, 1, none⟩ = some (.int .u64 0) ∧ Wa.frozen? ⟨W.heap.size, 1, none⟩ = false ∧ Wa.setCell ⟨W.heap.size, 1, none⟩ (.int .u64 p) = Wb ∧
    Wb.cell? ⟨W.heap.size, 2, none⟩ = some (.int .i64 0) ∧ Wb.frozen? ⟨W.heap.size, 2, none⟩ = false ∧ Wb.setCell ⟨W.heap.size, 2, none⟩ (.int .i64 q) = Wc ∧
    Sb Wc W.heap.size x p q ∧ Below W.heap.size W Wc ∧ Below w.heap.size w Wc := by
  have t1 := Sb.new W 0 0 0
  have b1 := below_new W (.cells #[.int .i64 0, .int .u64 0, .int .i64 0] 44)
  obtain ⟨Wa, Wb, Wc, c0, f0, hWa, c1, f1, hWb, c2, f2, hWc, hT, hB, _⟩ := set_step t1 x p q b1 (Nat.le_refl _)
  exact ⟨_, Wa, Wb, Wc, rfl, c0, f0, hWa, c1, f1, hWb, c2, f2, hWc, hT, hB, below_on hb (Nat.le_refl _) hB⟩
/-- A Cell that is stored into a new variable. -/
theorem new_cell {w W : World} (hb : Below w.heap.size w W) (x p q : Int) : ∃ W1 Wa Wb Wc, W.alloc (.cells #[.int .i64 0, .int .i64 0, .int .i64 0] 35) = W1 ∧
    W1.cell? ⟨W.heap.size, 0, none⟩ = some (.int .i64 0) ∧ W1.frozen? ⟨W.heap.size, 0, none⟩ = false ∧ W1.setCell ⟨W.heap.size, 0, none⟩ (.int .i64 x) = Wa ∧
    Wa.cell? ⟨W.heap.size, 1, none⟩ = some (.int .i64 0) ∧ Wa.frozen? ⟨W.heap.size, 1, none⟩ = false ∧ Wa.setCell ⟨W.heap.size, 1, none⟩ (.int .i64 p) = Wb ∧
    Wb.cell? ⟨W.heap.size, 2, none⟩ = some (.int .i64 0) ∧ Wb.frozen? ⟨W.heap.size, 2, none⟩ = false ∧ Wb.setCell ⟨W.heap.size, 2, none⟩ (.int .i64 q) = Wc ∧
    Ce Wc W.heap.size x p q ∧ Below W.heap.size W Wc ∧ Below w.heap.size w Wc := by
  have t1 := Ce.new W 0 0 0
  have b1 := below_new W (.cells #[.int .i64 0, .int .i64 0, .int .i64 0] 35)
  obtain ⟨Wa, Wb, Wc, c0, f0, hWa, c1, f1, hWb, c2, f2, hWc, hT, hB, _⟩ := set_cell t1 x p q b1 (Nat.le_refl _)
  exact ⟨_, Wa, Wb, Wc, rfl, c0, f0, hWa, c1, f1, hWb, c2, f2, hWc, hT, hB, below_on hb (Nat.le_refl _) hB⟩

set_option maxRecDepth 100000 in
set_option maxHeartbeats 2000000 in
theorem step_ok (w : World) {B b y s N : Nat} {l : List Int} (h : Cdr w B b y s N l) (hN : l.length = N) (hv : Vt y l) (hse : 2 ^ y = s) (t z a v n : Int) (hT : Tp (cls y l (spl s l)) t z = .tuple #[stv a v n, .int .i64 0]) :
    Calls Try.prog 28 #[.pointer (some ⟨b, 0, none⟩), .int .i64 t, .int .i64 z, stv a v n] w fun e w' => e = .returned (.bool true) ∧ Below w.heap.size w w' := by
  have b1 := below_new w (.cells #[.int .i64 a, .int .u64 v, .int .i64 n] 44)
  have t1 := Sb.new w a v n
  obtain ⟨w1, hw1⟩ : ∃ w1, w.alloc (.cells #[.int .i64 a, .int .u64 v, .int .i64 n] 44) = w1 := ⟨_, rfl⟩
  rw [hw1] at b1 t1
  obtain ⟨gc, go, V, h1⟩ := h.below b1
  have PR := predecessor_any w1 h1 hN hv hse t z
  rw [hT] at PR
  have PR := Lib.hid PR
  have B1 := Lib.hid b1
  have T1 := Lib.hid t1
  clear h h1 b1 t1 hN hv hse hT
  go_enter Try.func28, Try.ntmps28
  go_wp2_with (go_at_call 19; refine PR.out.mono ?_; rintro e w2 ⟨rfl, hb2⟩; obtain ⟨W1, Wa, Wb, Wc, hW1, c0, f0, hWa, c1, f1, hWb, c2, f2, hWc, hS, hBS, hB⟩ := new_step (below_on B1.out (Nat.le_refl _) hb2) a v n; have e0 := hS.c0; have e1 := hS.c1; have e2 := hS.c2; have q1 := (T1.out.below hb2).below hBS; have d0 := q1.c0; have d1 := q1.c1; have d2 := q1.c2; have HB := Lib.hid hB; clear hS hBS hB q1 hb2)
  go_ret
  exact ⟨rfl, HB.out⟩

theorem vt_lit {y : Nat} {l : List Int} (h : decide (y ≤ 9) && decide (1 ≤ l.length) && decide (l.length ≤ 256) && decide (l.getLast? ≠ some 0) && okn l && decide (ssum l = ((2 ^ y : Nat) : Int)) = true) : Vt y l := by
  simp only [Bool.and_eq_true, decide_eq_true_iff] at h
  obtain ⟨⟨⟨⟨⟨h1, h2⟩, h3⟩, h4⟩, h5⟩, h6⟩ := h
  exact ⟨h1, h2, h3, h4, h5, h6⟩
/-- The table of the examples, and its cells. -/
theorem ex_vt : Vt 2 [3, 1] := vt_lit (by decide +kernel)
theorem ex_cls : cls 2 [3, 1] (spl 4 [3, 1]) = [(0, 1, 2), (0, 0, 0), (0, 0, 1), (1, 2, 0)] := by decide +kernel

set_option maxRecDepth 100000 in
set_option maxHeartbeats 2000000 in
theorem known_any (w : World) : Calls Try.prog 11 #[] w fun e w' => e = .returned (.bool true) ∧ Below w.heap.size w w' := by
  have hl : ([3, 1] : List Int).length = 2 := rfl
  have h4 : 2 ^ 2 = 4 := rfl
  have BG : Hid (∀ W H, W.heap.size = H → Calls Try.prog 17 #[.agg #[.int .i64 2, .slice (some ⟨H, 0, none⟩) 2 2]] (W.alloc (.cells #[.int .i64 3, .int .i64 1] 3)) fun e w' => ∃ b, e = .returned (.pointer (some ⟨b, 0, none⟩)) ∧ Cdr w' 0 b 2 4 2 [3, 1] ∧ Below W.heap.size W w') := Lib.hid (fun W H hH => by
    refine (begin_ok (W.alloc (.cells #[.int .i64 3, .int .i64 1] 3)) 2 4 (some ⟨H, 0, none⟩) [3, 1] 2 2 rfl ex_vt rfl (lit_rv W [.int .i64 3, .int .i64 1] H hH)).mono ?_
    rintro e w' ⟨b, rfl, hC, hb⟩
    exact ⟨b, rfl, hC.base (Nat.zero_le _), below_on (below_new W _) (Nat.le_refl _) hb⟩)
  have CE : Hid (∀ W b, Cdr W 0 b 2 4 2 [3, 1] → Calls Try.prog 15 #[.pointer (some ⟨b, 0, none⟩), .int .i64 3] W fun e w' => e = .returned (.tuple #[cev 1 2 0, .int .i64 0]) ∧ Below W.heap.size W w') := Lib.hid (fun W b hC => by
    obtain ⟨gc, go, V, hC⟩ := hC
    have := cell_any W hC ex_vt h4 3
    rw [ex_cls] at this
    exact this)
  have LO : Hid (∀ W b, Cdr W 0 b 2 4 2 [3, 1] → ∀ z : Int, Calls Try.prog 21 #[.pointer (some ⟨b, 0, none⟩), .int .i64 z] W fun e w' => e = .returned (Tl [(0, 1, 2), (0, 0, 0), (0, 0, 1), (1, 2, 0)] z) ∧ w' = W) := Lib.hid (fun W b hC z => by
    obtain ⟨gc, go, V, hC⟩ := hC
    have := lowest_any W hC hl ex_vt h4 z
    rw [ex_cls] at this
    exact this)
  have L0 : Hid (∀ W b, Cdr W 0 b 2 4 2 [3, 1] → Calls Try.prog 21 #[.pointer (some ⟨b, 0, none⟩), .int .i64 0] W fun e w' => e = .returned (.tuple #[.int .i64 0, .int .i64 0]) ∧ w' = W) := Lib.hid (fun W b hC => LO.out W b hC 0)
  have L1 : Hid (∀ W b, Cdr W 0 b 2 4 2 [3, 1] → Calls Try.prog 21 #[.pointer (some ⟨b, 0, none⟩), .int .i64 1] W fun e w' => e = .returned (.tuple #[.int .i64 3, .int .i64 0]) ∧ w' = W) := Lib.hid (fun W b hC => LO.out W b hC 1)
  have L2 : Hid (∀ W b, Cdr W 0 b 2 4 2 [3, 1] → Calls Try.prog 21 #[.pointer (some ⟨b, 0, none⟩), .int .i64 2] W fun e w' => e = .returned (.tuple #[.int .i64 0, .int .i64 2]) ∧ w' = W) := Lib.hid (fun W b hC => LO.out W b hC 2)
  have S0 : Hid (∀ W b, Cdr W 0 b 2 4 2 [3, 1] → Calls Try.prog 28 #[.pointer (some ⟨b, 0, none⟩), .int .i64 3, .int .i64 0, stv 0 1 1] W fun e w' => e = .returned (.bool true) ∧ Below W.heap.size W w') := Lib.hid (fun W b hC => step_ok W hC hl ex_vt h4 3 0 0 1 1 (by rw [ex_cls]; rfl))
  have S1 : Hid (∀ W b, Cdr W 0 b 2 4 2 [3, 1] → Calls Try.prog 28 #[.pointer (some ⟨b, 0, none⟩), .int .i64 0, .int .i64 0, stv 1 0 0] W fun e w' => e = .returned (.bool true) ∧ Below W.heap.size W w') := Lib.hid (fun W b hC => step_ok W hC hl ex_vt h4 0 0 1 0 0 (by rw [ex_cls]; rfl))
  have S2 : Hid (∀ W b, Cdr W 0 b 2 4 2 [3, 1] → Calls Try.prog 28 #[.pointer (some ⟨b, 0, none⟩), .int .i64 2, .int .i64 1, stv 3 2 2] W fun e w' => e = .returned (.bool true) ∧ Below W.heap.size W w') := Lib.hid (fun W b hC => step_ok W hC hl ex_vt h4 2 1 3 2 2 (by rw [ex_cls]; rfl))
  clear LO hl h4
  go_enter Try.func11, Try.ntmps11
  go_wp2_with (first
    | (go_at_call 17; refine (BG.out _ _ (by simp)).mono ?_; rintro e w1 ⟨b, rfl, hC, hb1⟩; have C1 := Lib.hid hC; have B1 := Lib.hid hb1; clear hC hb1)
    | (go_at_call 15; refine (CE.out _ _ C1.out).mono ?_; rintro e w2 ⟨rfl, hb2⟩; obtain ⟨W1, Wa, Wb, Wc, hW1, c0, f0, hWa, c1, f1, hWb, c2, f2, hWc, hS, hBS, hB⟩ := new_cell (below_on B1.out (Nat.le_refl _) hb2) 1 2 0; have C2 := Lib.hid ((C1.out.below hb2).below hBS); have Q2 := Lib.hid hS; have e0 := hS.c0; have e1 := hS.c1; have e2 := hS.c2; have B2 := Lib.hid hB; clear hS hBS hB hb2)
    | (go_at_call 21; (with_reducible refine (L0.out _ _ C2.out).mono ?_); rintro e Wc ⟨rfl, rfl⟩)
    | (go_at_call 21; (with_reducible refine (L1.out _ _ C2.out).mono ?_); rintro e Wc ⟨rfl, rfl⟩)
    | (go_at_call 21; (with_reducible refine (L2.out _ _ C2.out).mono ?_); rintro e Wc ⟨rfl, rfl⟩)
    | (go_at_call 28; (with_reducible refine (S0.out _ _ C2.out).mono ?_); rintro e w3 ⟨rfl, hb3⟩; have C3 := Lib.hid (C2.out.below hb3); have Q3 := Lib.hid (Q2.out.below hb3); have B3 := Lib.hid (below_on B2.out (Nat.le_refl _) hb3); clear hb3)
    | (go_at_call 28; (with_reducible refine (S1.out _ _ C3.out).mono ?_); rintro e w4 ⟨rfl, hb4⟩; have C4 := Lib.hid (C3.out.below hb4); have Q4 := Lib.hid (Q3.out.below hb4); have B4 := Lib.hid (below_on B3.out (Nat.le_refl _) hb4); clear hb4)
    | (go_at_call 28; (with_reducible refine (S2.out _ _ C4.out).mono ?_); rintro e w5 ⟨rfl, hb5⟩; have q5 := Q4.out.below hb5; have d0 := q5.c0; have d1 := q5.c1; have d2 := q5.c2; have B5 := Lib.hid (below_on B4.out (Nat.le_refl _) hb5); clear hb5 q5))
  go_ret
  exact ⟨rfl, B5.out⟩

end Go.Proofs.Ytonapehlhkoplaa
