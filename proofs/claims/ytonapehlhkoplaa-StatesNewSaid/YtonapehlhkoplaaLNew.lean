/-
  Proved: the law StatesNew returns true for all tables and states: a Coder is had of the valid tables alone, and tells the Log and the reference's cells. No condition.
-/
import Derived.BigQuiet
import Derived.Deep.QuietTactic
import Derived.Deep.RegionHeld3
import Derived.Test.YtonapehlhkoplaaFrm
namespace Go.Proofs.Ytonapehlhkoplaa.statesNew
open Go.ChangeShapes Go.WideShapes Go.ChangeAt Go.RowKit

set_option maxRecDepth 100000 in
set_option maxHeartbeats 4000000 in
theorem walk_long (y : Int) (A : Option Addr) (N cap : Nat) (t : Int) (w : World) (h : 300 < N) :
    Calls Try.prog 3 #[tb y A N cap, .int .i64 t] w fun e w' => e = .returned (.bool true) ∧ Below w.heap.size w w' := by
  have hd : decide ((300 : Int) < (N : Int)) = true := decide_eq_true (by omega)
  have b1 := below_new w (.cells #[.int .i64 y, .slice A N cap] 24)
  have t1 := Tb.new w y A N cap
  obtain ⟨w1, hw1⟩ : ∃ w1, w.alloc (.cells #[.int .i64 y, .slice A N cap] 24) = w1 := ⟨_, rfl⟩
  rw [hw1] at b1 t1
  have c0 := t1.c0
  have c1 := t1.c1
  have KN := Lib.hid (known_any w1)
  have B0 := Lib.hid b1
  clear b1 t1
  go_enter Try.func3, Try.ntmps3
  go_wp2_with (go_at_call 11; refine KN.out.mono ?_; rintro e w2 ⟨rfl, hb2⟩; have B1 := Lib.hid (below_on B0.out (Nat.le_refl _) hb2); clear hb2)
  go_ret
  exact ⟨rfl, B1.out⟩

set_option maxRecDepth 100000 in
set_option maxHeartbeats 4000000 in
theorem walk_bad (y : Int) (A : Option Addr) (l : List Int) (N cap : Nat) (t : Int) (w : World) (hN : l.length = N) (h : N ≤ 300) (hv : vt y l 256 9 = false) (hR : Ri w A l) :
    Calls Try.prog 3 #[tb y A N cap, .int .i64 t] w fun e w' => e = .returned (.bool true) ∧ Below w.heap.size w w' := by
  have hd : decide ((300 : Int) < (N : Int)) = false := decide_eq_false (by omega)
  have b1 := below_new w (.cells #[.int .i64 y, .slice A N cap] 24)
  have t1 := Tb.new w y A N cap
  obtain ⟨w1, hw1⟩ : ∃ w1, w.alloc (.cells #[.int .i64 y, .slice A N cap] 24) = w1 := ⟨_, rfl⟩
  rw [hw1] at b1 t1
  have c0 := t1.c0
  have c1 := t1.c1
  have NW := Lib.hid (new_bad w1 y A l N cap hN (by omega) hv (hR.below b1))
  have OF : Hid (∀ W, Below w1.heap.size w1 W → Calls Try.prog 13 #[tb y A N cap] W fun e w' => e = .returned (.tuple #[.slice none 0 0, .int .i64 13]) ∧ Below W.heap.size W w') := Lib.hid (fun W hb => ofc_bad W y A l N cap hN (by omega) hv ((hR.below b1).below hb))
  have B0 := Lib.hid b1
  have T1 := Lib.hid t1
  clear b1 t1 hR hN hv
  go_enter Try.func3, Try.ntmps3
  go_wp2_with (first
    | (go_at_call 12; refine NW.out.mono ?_; rintro e w2 ⟨rfl, hb2⟩; have B2 := Lib.hid hb2; have q2 := T1.out.below hb2; have d0 := q2.c0; have d1 := q2.c1; clear hb2 q2)
    | (go_at_call 13; refine (OF.out w2 B2.out).mono ?_; rintro e w3 ⟨rfl, hb3⟩; have B3 := Lib.hid (below_on B2.out (Nat.le_refl _) hb3); clear hb3)
    | (go_at_call 11; refine (known_any w3).mono ?_; rintro e w4 ⟨rfl, hb4⟩; have B4 := Lib.hid (below_on B0.out (Nat.le_refl _) (below_on B3.out (Nat.le_refl _) hb4)); clear hb4))
  go_ret
  exact ⟨rfl, B4.out⟩

set_option maxRecDepth 100000 in
set_option maxHeartbeats 4000000 in
theorem walk_far (y s : Nat) (A : Option Addr) (l : List Int) (N cap : Nat) (t : Int) (w : World) (hN : l.length = N) (hv : Vt y l) (hse : 2 ^ y = s) (hR : Ri w A l) (ht : t < 0 ∨ (s : Int) ≤ t) :
    Calls Try.prog 3 #[tb y A N cap, .int .i64 t] w fun e w' => e = .returned (.bool true) ∧ Below w.heap.size w w' := by
  have hN2 : N ≤ 256 := by rw [← hN]; exact hv.len
  have hy9 := hv.log
  have hs5 : s ≤ 512 := by rw [← hse]; exact hv.size
  have hs1 : 1 ≤ s := by rw [← hse]; exact Nat.one_le_two_pow
  have hd : decide ((300 : Int) < (N : Int)) = false := decide_eq_false (by omega)
  have b1 := below_new w (.cells #[.int .i64 (y : Int), .slice A N cap] 24)
  have t1 := Tb.new w (y : Int) A N cap
  obtain ⟨w1, hw1⟩ : ∃ w1, w.alloc (.cells #[.int .i64 (y : Int), .slice A N cap] 24) = w1 := ⟨_, rfl⟩
  rw [hw1] at b1 t1
  have c0 := t1.c0
  have c1 := t1.c1
  have hR1 := hR.below b1
  have B0 := Lib.hid b1
  have T1 := Lib.hid t1
  obtain ⟨C, hC⟩ : ∃ C, cls y l (spl s l) = C := ⟨_, rfl⟩
  have NW : Hid (Calls Try.prog 12 #[tb y A N cap] w1 fun e w' => ∃ b, e = .returned (.tuple #[.pointer (some ⟨b, 0, none⟩), .int .i64 0]) ∧ Cdr w' w1.heap.size b y s N l ∧ Below w1.heap.size w1 w') := Lib.hid (new_ok w1 y s A l N cap hN hv hse hR1)
  have OF : Hid (∀ W, Below w1.heap.size w1 W → Calls Try.prog 13 #[tb y A N cap] W fun e w' => ∃ g cp, e = .returned (.tuple #[.slice (some ⟨g, 0, none⟩) s cp, .int .i64 0]) ∧ Rc w' g s cp C ∧ Below W.heap.size W w') := Lib.hid (fun W hb => by rw [← hC]; exact of_rc W y s A l N cap hN hv hse (hR1.below hb))
  have LG : Hid (∀ W B b, Cdr W B b y s N l → Calls Try.prog 14 #[.pointer (some ⟨b, 0, none⟩)] W fun e w' => e = .returned (.int .i64 (y : Int)) ∧ w' = W) := Lib.hid (fun W B b h => by
    obtain ⟨gc, go, V, h⟩ := h
    exact log_any W h.blk)
  have CD : Hid (∀ W B b d, Cdr W B b y s N l → Cdr (W.drewN d) B b y s N l) := Lib.hid (fun W B b d h => h.same (fun _ _ _ => rfl))
  have CE : Hid (∀ W B b, Cdr W B b y s N l → Calls Try.prog 15 #[.pointer (some ⟨b, 0, none⟩), .int .i64 t] W fun e w' => e = .returned (.tuple #[cev 0 0 0, .int .i64 21]) ∧ Below W.heap.size W w') := Lib.hid (fun W B b h => by
    obtain ⟨gc, go, V, h⟩ := h
    have h1 := cell_any W h hv hse t
    obtain ⟨e1, e2⟩ := cle_bad (C := cls y l (spl s l)) (z := t) (by rw [cls_s hv hse]; exact ht)
    unfold Tc at h1
    rw [e1, e2] at h1
    exact h1)
  clear b1 t1 hR hR1 hN hv hse hC
  by_cases h0 : t < 0
  · have k0' : decide (t < 0) = true := decide_eq_true h0
    clear ht
    go_enter Try.func3, Try.ntmps3
    go_wp2_with (first
      | (go_at_call 12; refine NW.out.mono ?_; rintro e w2 ⟨b, rfl, hC2, hb2⟩; have C2 := Lib.hid hC2; have B2 := Lib.hid hb2; have q2 := T1.out.below hb2; have d0 := q2.c0; have d1 := q2.c1; clear hb2 q2 hC2)
      | (go_at_call 13; refine (OF.out w2 B2.out).mono ?_; rintro e w3 ⟨g, cp, rfl, hr3, hb3⟩; have R3 := Lib.hid hr3; have C3 := Lib.hid (C2.out.below hb3); have B3 := Lib.hid (below_on B2.out (Nat.le_refl _) hb3); have q3 := T1.out.below B3.out; have e0 := q3.c0; have e1 := q3.c1; clear hb3 q3 hr3))
    go_quiet ((go_at_call 14; exact Calls.quiet_of_same (LG.out _ _ b (CD.out _ _ _ _ C3.out))))
    have C4 := Lib.hid (CD.out _ _ _ nq C3.out)
    have B4 := Lib.hid (below_drewN' B3.out nq)
    have R4 : Hid (Rc (w3.drewN nq) g s cp C) := Lib.hid ⟨R3.out.own, R3.out.len, R3.out.le, R3.out.small⟩
    obtain ⟨w4, hw4⟩ : ∃ w4, w3.drewN nq = w4 := ⟨_, rfl⟩
    rw [hw4] at C4 B4 R4
    simp only [hw4]
    clear hw4 c0 c1 d0 d1 e0 e1
    go_wp2_with (first
      | (go_at_call 15; refine (CE.out w4 _ b C4.out).mono ?_; rintro e w5 ⟨rfl, hb5⟩; obtain ⟨W1, Wa, Wb, Wc, hW1, k0, f0, hWa, k1, f1, hWb, k2, f2, hWc, hS, hBS, hB⟩ := new_cell (below_on B4.out (Nat.le_refl _) hb5) 0 0 0; have S5 := Lib.hid hS; have m0 := hS.c0; have m1 := hS.c1; have m2 := hS.c2; have R5 := Lib.hid ((R4.out.below hb5).below hBS); have B5 := Lib.hid hB; clear hS hBS hB hb5)
      | (go_at_call 11; refine (known_any _).mono ?_; rintro e w9 ⟨rfl, hb9⟩; have B9 := Lib.hid (below_on B0.out (Nat.le_refl _) (below_on B5.out (Nat.le_refl _) hb9)); clear hb9))
    go_ret
    exact ⟨rfl, B9.out⟩

  · have k0' : decide (t < 0) = false := decide_eq_false h0
    have k1' : decide ((s : Int) ≤ t) = true := decide_eq_true (by omega)
    clear ht
    go_enter Try.func3, Try.ntmps3
    go_wp2_with (first
      | (go_at_call 12; refine NW.out.mono ?_; rintro e w2 ⟨b, rfl, hC2, hb2⟩; have C2 := Lib.hid hC2; have B2 := Lib.hid hb2; have q2 := T1.out.below hb2; have d0 := q2.c0; have d1 := q2.c1; clear hb2 q2 hC2)
      | (go_at_call 13; refine (OF.out w2 B2.out).mono ?_; rintro e w3 ⟨g, cp, rfl, hr3, hb3⟩; have R3 := Lib.hid hr3; have C3 := Lib.hid (C2.out.below hb3); have B3 := Lib.hid (below_on B2.out (Nat.le_refl _) hb3); have q3 := T1.out.below B3.out; have e0 := q3.c0; have e1 := q3.c1; clear hb3 q3 hr3))
    go_quiet ((go_at_call 14; exact Calls.quiet_of_same (LG.out _ _ b (CD.out _ _ _ _ C3.out))))
    have C4 := Lib.hid (CD.out _ _ _ nq C3.out)
    have B4 := Lib.hid (below_drewN' B3.out nq)
    have R4 : Hid (Rc (w3.drewN nq) g s cp C) := Lib.hid ⟨R3.out.own, R3.out.len, R3.out.le, R3.out.small⟩
    obtain ⟨w4, hw4⟩ : ∃ w4, w3.drewN nq = w4 := ⟨_, rfl⟩
    rw [hw4] at C4 B4 R4
    simp only [hw4]
    clear hw4 c0 c1 d0 d1 e0 e1
    go_wp2_with (first
      | (go_at_call 15; refine (CE.out w4 _ b C4.out).mono ?_; rintro e w5 ⟨rfl, hb5⟩; obtain ⟨W1, Wa, Wb, Wc, hW1, k0, f0, hWa, k1, f1, hWb, k2, f2, hWc, hS, hBS, hB⟩ := new_cell (below_on B4.out (Nat.le_refl _) hb5) 0 0 0; have S5 := Lib.hid hS; have m0 := hS.c0; have m1 := hS.c1; have m2 := hS.c2; have R5 := Lib.hid ((R4.out.below hb5).below hBS); have B5 := Lib.hid hB; clear hS hBS hB hb5)
      | (go_at_call 11; refine (known_any _).mono ?_; rintro e w9 ⟨rfl, hb9⟩; have B9 := Lib.hid (below_on B0.out (Nat.le_refl _) (below_on B5.out (Nat.le_refl _) hb9)); clear hb9))
    go_ret
    exact ⟨rfl, B9.out⟩

set_option maxRecDepth 100000 in
set_option maxHeartbeats 4000000 in
theorem walk_mid (y s : Nat) (A : Option Addr) (l : List Int) (N cap : Nat) (t : Nat) (w : World) (hN : l.length = N) (hv : Vt y l) (hse : 2 ^ y = s) (hR : Ri w A l) (ht : t < s) :
    Calls Try.prog 3 #[tb y A N cap, .int .i64 (t : Int)] w fun e w' => e = .returned (.bool true) ∧ Below w.heap.size w w' := by
  have hN2 : N ≤ 256 := by rw [← hN]; exact hv.len
  have hy9 := hv.log
  have hs5 : s ≤ 512 := by rw [← hse]; exact hv.size
  have hs1 : 1 ≤ s := by rw [← hse]; exact Nat.one_le_two_pow
  have hd : decide ((300 : Int) < (N : Int)) = false := decide_eq_false (by omega)
  have b1 := below_new w (.cells #[.int .i64 (y : Int), .slice A N cap] 24)
  have t1 := Tb.new w (y : Int) A N cap
  obtain ⟨w1, hw1⟩ : ∃ w1, w.alloc (.cells #[.int .i64 (y : Int), .slice A N cap] 24) = w1 := ⟨_, rfl⟩
  rw [hw1] at b1 t1
  have c0 := t1.c0
  have c1 := t1.c1
  have hR1 := hR.below b1
  have B0 := Lib.hid b1
  have T1 := Lib.hid t1
  obtain ⟨C, hC⟩ : ∃ C, cls y l (spl s l) = C := ⟨_, rfl⟩
  have NW : Hid (Calls Try.prog 12 #[tb y A N cap] w1 fun e w' => ∃ b, e = .returned (.tuple #[.pointer (some ⟨b, 0, none⟩), .int .i64 0]) ∧ Cdr w' w1.heap.size b y s N l ∧ Below w1.heap.size w1 w') := Lib.hid (new_ok w1 y s A l N cap hN hv hse hR1)
  have OF : Hid (∀ W, Below w1.heap.size w1 W → Calls Try.prog 13 #[tb y A N cap] W fun e w' => ∃ g cp, e = .returned (.tuple #[.slice (some ⟨g, 0, none⟩) s cp, .int .i64 0]) ∧ Rc w' g s cp C ∧ Below W.heap.size W w') := Lib.hid (fun W hb => by rw [← hC]; exact of_rc W y s A l N cap hN hv hse (hR1.below hb))
  have LG : Hid (∀ W B b, Cdr W B b y s N l → Calls Try.prog 14 #[.pointer (some ⟨b, 0, none⟩)] W fun e w' => e = .returned (.int .i64 (y : Int)) ∧ w' = W) := Lib.hid (fun W B b h => by
    obtain ⟨gc, go, V, h⟩ := h
    exact log_any W h.blk)
  have CD : Hid (∀ W B b d, Cdr W B b y s N l → Cdr (W.drewN d) B b y s N l) := Lib.hid (fun W B b d h => h.same (fun _ _ _ => rfl))
  have hCl : C.length = s := by rw [← hC]; exact cls_s hv hse
  obtain ⟨⟨x, p, q⟩, hc⟩ : ∃ c, C[t]? = some c := ⟨_, List.getElem?_eq_getElem (by rw [hCl]; exact ht)⟩
  have CE : Hid (∀ W B b, Cdr W B b y s N l → Calls Try.prog 15 #[.pointer (some ⟨b, 0, none⟩), .int .i64 (t : Int)] W fun e w' => e = .returned (.tuple #[cev (x : Int) (p : Int) (q : Int), .int .i64 0]) ∧ Below W.heap.size W w') := Lib.hid (fun W B b h => by
    obtain ⟨gc, go, V, h⟩ := h
    have h1 := cell_any W h hv hse (t : Int)
    obtain ⟨e1, e2⟩ := cle_ok hc
    unfold Tc at h1
    rw [hC, e1, e2] at h1
    exact h1)
  have HC := Lib.hid hc
  have k0' : decide ((t : Int) < 0) = false := decide_eq_false (by omega)
  have k1' : decide ((s : Int) ≤ (t : Int)) = false := decide_eq_false (by omega)
  have k2' : ¬ s ≤ t := by omega
  have wt : IntKind.i64.wrap (t : Int) = (t : Int) := IntWalk.i64_in _ (by omega)
  clear b1 t1 hR hR1 hN hv hse hC hc hCl
  go_enter Try.func3, Try.ntmps3
  go_wp2_with (first
    | (go_at_call 12; refine NW.out.mono ?_; rintro e w2 ⟨b, rfl, hC2, hb2⟩; have C2 := Lib.hid hC2; have B2 := Lib.hid hb2; have q2 := T1.out.below hb2; have d0 := q2.c0; have d1 := q2.c1; clear hb2 q2 hC2)
    | (go_at_call 13; refine (OF.out w2 B2.out).mono ?_; rintro e w3 ⟨g, cp, rfl, hr3, hb3⟩; have R3 := Lib.hid hr3; have C3 := Lib.hid (C2.out.below hb3); have B3 := Lib.hid (below_on B2.out (Nat.le_refl _) hb3); have q3 := T1.out.below B3.out; have e0 := q3.c0; have e1 := q3.c1; clear hb3 q3 hr3))
  go_quiet ((go_at_call 14; exact Calls.quiet_of_same (LG.out _ _ b (CD.out _ _ _ _ C3.out))))
  have C4 := Lib.hid (CD.out _ _ _ nq C3.out)
  have B4 := Lib.hid (below_drewN' B3.out nq)
  have R4 : Hid (Rc (w3.drewN nq) g s cp C) := Lib.hid ⟨R3.out.own, R3.out.len, R3.out.le, R3.out.small⟩
  obtain ⟨w4, hw4⟩ : ∃ w4, w3.drewN nq = w4 := ⟨_, rfl⟩
  rw [hw4] at C4 B4 R4
  simp only [hw4]
  clear hw4 c0 c1 d0 d1 e0 e1
  go_wp2_with (first
    | (go_at_call 15; refine (CE.out w4 _ b C4.out).mono ?_; rintro e w5 ⟨rfl, hb5⟩; obtain ⟨W1, Wa, Wb, Wc, hW1, k0, f0, hWa, k1, f1, hWb, k2, f2, hWc, hS, hBS, hB⟩ := new_cell (below_on B4.out (Nat.le_refl _) hb5) (x : Int) (p : Int) (q : Int); have S5 := Lib.hid hS; have m0 := hS.c0; have m1 := hS.c1; have m2 := hS.c2; have R5 := Lib.hid ((R4.out.below hb5).below hBS); have B5 := Lib.hid hB; clear hS hBS hB hb5)
    | (go_at_call 11; refine (known_any _).mono ?_; rintro e w9 ⟨rfl, hb9⟩; have B9 := Lib.hid (below_on B0.out (Nat.le_refl _) (below_on B5.out (Nat.le_refl _) hb9)); clear hb9))
  obtain ⟨a0, a1, a2⟩ := row_at R5.out.own HC.out
  simp only [nw] at a0 a1 a2
  obtain ⟨kk, hkk⟩ : ∃ kk, w5.heap.size = kk := ⟨_, rfl⟩
  rw [hkk] at m0 m1 m2
  have A0 : Wc.drew.cell? ⟨g, t * 3, none⟩ = some (.int .i64 (x : Int)) := a0
  have A1 : Wc.drew.cell? ⟨g, t * 3 + 1, none⟩ = some (.int .i64 (p : Int)) := a1
  have A2 : Wc.drew.cell? ⟨g, t * 3 + 2, none⟩ = some (.int .i64 (q : Int)) := a2
  have M0 : Wc.drew.cell? ⟨kk, 0, none⟩ = some (.int .i64 (x : Int)) := m0
  have M1 : Wc.drew.cell? ⟨kk, 1, none⟩ = some (.int .i64 (p : Int)) := m1
  have M2 : Wc.drew.cell? ⟨kk, 2, none⟩ = some (.int .i64 (q : Int)) := m2
  have B6 := Lib.hid B5.out.drew
  simp only [hkk]
  clear a0 a1 a2 m0 m1 m2 hkk
  go_region_held3 (fun W => W.cell? ⟨g, t * 3, none⟩ = some (.int .i64 (x : Int)) ∧ W.cell? ⟨g, t * 3 + 1, none⟩ = some (.int .i64 (p : Int)) ∧ W.cell? ⟨g, t * 3 + 2, none⟩ = some (.int .i64 (q : Int)) ∧ W.cell? ⟨kk, 0, none⟩ = some (.int .i64 (x : Int)) ∧ W.cell? ⟨kk, 1, none⟩ = some (.int .i64 (p : Int)) ∧ W.cell? ⟨kk, 2, none⟩ = some (.int .i64 (q : Int))) (first | exact ⟨A0, A1, A2, M0, M1, M2⟩ | exact ⟨P0, P1, P2, Q0, Q1, Q2⟩) (first
    | (go_at_call 11; refine (known_any _).mono ?_; rintro e w9 ⟨rfl, hb9⟩; have P0 := (hb9.cell (cell_lt A0)).trans A0; have P1 := (hb9.cell (cell_lt A1)).trans A1; have P2 := (hb9.cell (cell_lt A2)).trans A2; have Q0 := (hb9.cell (cell_lt M0)).trans M0; have Q1 := (hb9.cell (cell_lt M1)).trans M1; have Q2 := (hb9.cell (cell_lt M2)).trans M2; have B9 := Lib.hid (below_on B0.out (Nat.le_refl _) (below_on B6.out (Nat.le_refl _) hb9)); clear hb9))
  all_goals
    go_wp2
    go_ret
    exact ⟨rfl, B9.out⟩

theorem walk (y : Int) (A : Option Addr) (l : List Int) (cap : Nat) (t : Int) (w : World) (hR : Ri w A l) (_ : ∀ z ∈ l, -9223372036854775808 ≤ z ∧ z ≤ 9223372036854775807) (_ : l.length ≤ cap) (_ : (Lit.int .i64 t).wf = true) :
    Calls Try.prog 3 #[tb y A l.length cap, .int .i64 t] w fun e w' => e = .returned (.bool true) ∧ Below w.heap.size w w' := by
  by_cases h : 300 < l.length
  · exact walk_long y A _ cap t w h
  · cases hv : vt y l 256 9 with
    | false => exact walk_bad y A l _ cap t w rfl (by omega) hv hR
    | true =>
      obtain ⟨n, rfl, hv2⟩ := vt_iff.1 hv
      by_cases ht : t < 0 ∨ ((2 ^ n : Nat) : Int) ≤ t
      · exact walk_far n _ A l _ cap t w rfl hv2 rfl hR ht
      · obtain ⟨t', rfl⟩ : ∃ t' : Nat, t = (t' : Int) := ⟨t.toNat, by omega⟩
        exact walk_mid n _ A l _ cap t' w rfl hv2 rfl hR (by omega)

set_option maxRecDepth 100000 in
theorem lifted (os : Os) (started : os.Started) (H : Type) (enc : TypeId × Value → H) :
    ReturnsInHanded {} Try.checked os 3 .any (Rows.statesNewSpec.pre6 enc Try.prog Try.f3 Rows.statesNewRow.domain false) (Rows.statesNewSpec.post enc Try.prog Try.f3 false true false false) := by
  refine returnsInHanded_of_change_sized (C := Try.checked) ownB started (by kernel_rfl) Try.func3
    (ChangeSpec.witness6 (enc := enc) (C := Try.checked) false ⟨#[], #[.agg #[.int .i64 0, .slice none 0 0], .int .i64 0], []⟩ 8 (by kernel_rfl) (by kernel_rfl) (by kernel_rfl) (by kernel_rfl)) ?_
  intro W base args ds gs before hval0 hW _ hsz0 _
  have hsz : (DataW.weightsEach Try.prog (Try.f3.params.toList ++ Rows.statesNewSpec.plain.varTypes Try.prog) (ds ++ gs)).all (· ≤ reachBytes) = true := hsz0
  clear hsz0
  have hval : ∀ (j : Nat) t v, Try.f3.params[j]? = some t → args[j]? = some v → Value.okWide Try.prog W .any base t v := hval0
  have hW' := hW
  obtain ⟨p, q, hA0, hV, rfl, hfz, hnd⟩ := hW
  have hA : DataW.TrodAll enc Try.prog W 0 (fun _ => true) true Try.f3.params.toList args.toList ds p := hA0
  rw [Try.params3] at hA hval hsz
  obtain ⟨v0, vs0, d0, ds0, p0, q0, hargs, rfl, rfl, h0, r0⟩ := trodAll_cons hA
  obtain ⟨v1, vs1, d1, ds1, p1, q1, rfl, rfl, rfl, h1, r1⟩ := trodAll_cons r0
  obtain ⟨rfl, rfl, rfl⟩ := trodAll_nil r1
  obtain rfl : args = #[v0, v1] := by cases args; simp_all
  obtain ⟨rfl, rfl⟩ := trodVars_none hV
  obtain ⟨cs0, rfl, hcs0⟩ := okWide_struct Try.underlying24 (hval 0 24 v0 rfl rfl)
  have k0 := h0
  have lt0 : ∀ x ∈ p0, x.block < W.heap.size := by obtain ⟨m, hm⟩ := k0; exact DataW.trod_lt m _ _ _ hm
  obtain ⟨y0, a0, len0, cap0, l0, rfl, rfl, hc0, ri0, wi0⟩ := open_tab hcs0 h0
  obtain ⟨a1, rfl, rfl, rfl, w1⟩ := open_int Try.underlying3 (hval 1 3 v1 rfl rfl) h1
  clear hA0 hval0
  refine (walk y0 a0 l0 cap0 a1 W ri0 wi0 hc0 w1).mono fun e W' ⟨he, bel⟩ => ?_
  subst he
  exact ⟨_, rfl, _, _, _, [], _, [], hW', trodAll_mk1 (shut_bool Try.underlying4 _), (trodAll_cons_mk (Below.trod laidOut (by kernel_rfl) (of_decide_eq_true (by kernel_rfl)) k0 bel lt0) (trodAll_cons_mk (shut_int Try.underlying3 w1) trodAll_mk0)), rfl, bel.frame _, fun h => by cases h⟩

theorem proved : Rows.StatesNewSaid :=
  OpenClaim.holds_of_wide 3 Try.f3 rfl rfl rfl rfl rfl rfl rfl ⟨rfl, rfl, rfl, rfl, rfl⟩ rfl rfl rfl rfl rfl (by kernel_rfl) Try.func3 (by kernel_rfl)
    (of_decide_eq_true (by kernel_rfl)) (by unfold Func.isWrapper; rw [if_neg (by decide +kernel)]; exact ⟨rfl, rfl⟩)
    (fun os started H enc _ => lifted os started H enc)

#print axioms proved

end Go.Proofs.Ytonapehlhkoplaa.statesNew
