/-
  Proved: the law FlowLength returns true for all tables and symbols: a flow is a closed stream of at most Log bits a symbol, and the byte 1 for a table with Log 0. No condition.
-/
import Derived.BigQuiet
import Derived.Deep.QuietTactic
import Derived.Test.YtgokbpnikgbfgaaSi
namespace Go.Proofs.Ytgokbpnikgbfgaa.flowLength
open Go.ChangeShapes Go.WideShapes Go.ChangeAt Go.RowKit

set_option maxRecDepth 100000 in
set_option maxHeartbeats 1000000 in
theorem walk_a (y : Int) (A : Option Addr) (N cap : Nat) (M : Option Addr) (nm cm : Nat) (w : World) (h : 300 < N) :
    Calls Try.prog 6 #[tb y A N cap, .slice M nm cm] w fun e w' => e = .returned (.bool true) ∧ Below w.heap.size w w' := by
  have k1 : decide ((300 : Int) < (N : Int)) = true := decide_eq_true (by omega)
  obtain ⟨w1, hw1⟩ : ∃ w1, w.alloc (.cells #[.int .i64 y, .slice A N cap] 24) = w1 := ⟨_, rfl⟩
  obtain ⟨b1, t1⟩ := box_of hw1
  have c0 := t1.c0
  have c1 := t1.c1
  have B1 := Lib.hid b1
  have T1 := Lib.hid t1
  clear b1 t1
  go_enter Try.func6, Try.ntmps6
  go_wp2_with (first
    | (go_at_call 12; refine (known_any _).mono ?_; rintro e w9 ⟨rfl, hb9⟩; have B9 := Lib.hid (below_on B1.out (Nat.le_refl _) hb9); clear hb9))
  go_ret
  exact ⟨rfl, B9.out⟩

set_option maxRecDepth 100000 in
set_option maxHeartbeats 1000000 in
theorem walk_b (y : Int) (A : Option Addr) (N cap : Nat) (M : Option Addr) (nm cm : Nat) (w : World) (h : N ≤ 300) (h2 : 300 < nm) :
    Calls Try.prog 6 #[tb y A N cap, .slice M nm cm] w fun e w' => e = .returned (.bool true) ∧ Below w.heap.size w w' := by
  have k1 : decide ((300 : Int) < (N : Int)) = false := decide_eq_false (by omega)
  have k2 : decide ((300 : Int) < (nm : Int)) = true := decide_eq_true (by omega)
  obtain ⟨w1, hw1⟩ : ∃ w1, w.alloc (.cells #[.int .i64 y, .slice A N cap] 24) = w1 := ⟨_, rfl⟩
  obtain ⟨b1, t1⟩ := box_of hw1
  have c0 := t1.c0
  have c1 := t1.c1
  have B1 := Lib.hid b1
  have T1 := Lib.hid t1
  clear b1 t1
  go_enter Try.func6, Try.ntmps6
  go_wp2_with (first
    | (go_at_call 12; refine (known_any _).mono ?_; rintro e w9 ⟨rfl, hb9⟩; have B9 := Lib.hid (below_on B1.out (Nat.le_refl _) hb9); clear hb9))
  go_ret
  exact ⟨rfl, B9.out⟩

set_option maxRecDepth 100000 in
set_option maxHeartbeats 1000000 in
theorem walk_c (y : Int) (A : Option Addr) (l : List Int) (N cap : Nat) (M : Option Addr) (m : List Int) (nm cm : Nat) (w : World) (hN : l.length = N) (_ : N ≤ cap) (hR : Ri w A l) (_ : m.length = nm) (_ : nm ≤ cm) (_ : Ri w M m) (h : N ≤ 300) (h2 : nm ≤ 300) (hv : vt y l 256 9 = false) :
    Calls Try.prog 6 #[tb y A N cap, .slice M nm cm] w fun e w' => e = .returned (.bool true) ∧ Below w.heap.size w w' := by
  have k1 : decide ((300 : Int) < (N : Int)) = false := decide_eq_false (by omega)
  have k2 : decide ((300 : Int) < (nm : Int)) = false := decide_eq_false (by omega)
  obtain ⟨w1, hw1⟩ : ∃ w1, w.alloc (.cells #[.int .i64 y, .slice A N cap] 24) = w1 := ⟨_, rfl⟩
  obtain ⟨b1, t1⟩ := box_of hw1
  have c0 := t1.c0
  have c1 := t1.c1
  have B1 := Lib.hid b1
  have T1 := Lib.hid t1
  have MY : Hid (∀ W, Below w.heap.size w W → Calls Try.prog 17 #[tb y A N cap, .int .i64 256, .int .i64 9] W fun e w' => e = .returned (.int .i64 13) ∧ Below W.heap.size W w') := Lib.hid (fun W hb => by
    have := may_any W y 256 9 A l N cap hN (by omega) (hR.below hb)
    rw [hv, show err false = 13 from rfl] at this
    exact this)
  clear b1 t1 hR hN hv
  go_enter Try.func6, Try.ntmps6
  go_wp2_with (first
    | (go_at_call 17; refine (MY.out _ B1.out).mono ?_; rintro e w2 ⟨rfl, hb⟩; have B2 := Lib.hid (below_on B1.out (Nat.le_refl _) hb); have T2 := Lib.hid (T1.out.below hb); have d20 := T2.out.c0; have d21 := T2.out.c1; clear hb )
    | (go_at_call 12; refine (known_any _).mono ?_; rintro e w9 ⟨rfl, hb9⟩; have B9 := Lib.hid (below_on B2.out (Nat.le_refl _) hb9); clear hb9))
  go_ret
  exact ⟨rfl, B9.out⟩

set_option maxRecDepth 100000 in
set_option maxHeartbeats 1000000 in
theorem walk_d (y : Nat) (A : Option Addr) (l : List Int) (N cap : Nat) (M : Option Addr) (m : List Int) (nm cm : Nat) (w : World) (hN : l.length = N) (_ : N ≤ cap) (hR : Ri w A l) (hM : m.length = nm) (_ : nm ≤ cm) (hRM : Ri w M m) (h : N ≤ 300) (h2 : nm ≤ 300) (hv : Vt y l) (hh : hasA l m = false) :
    Calls Try.prog 6 #[tb (y : Int) A N cap, .slice M nm cm] w fun e w' => e = .returned (.bool true) ∧ Below w.heap.size w w' := by
  have k1 : decide ((300 : Int) < (N : Int)) = false := decide_eq_false (by omega)
  have k2 : decide ((300 : Int) < (nm : Int)) = false := decide_eq_false (by omega)
  obtain ⟨w1, hw1⟩ : ∃ w1, w.alloc (.cells #[.int .i64 (y : Int), .slice A N cap] 24) = w1 := ⟨_, rfl⟩
  obtain ⟨b1, t1⟩ := box_of hw1
  have c0 := t1.c0
  have c1 := t1.c1
  have B1 := Lib.hid b1
  have T1 := Lib.hid t1
  have MY : Hid (∀ W, Below w.heap.size w W → Calls Try.prog 17 #[tb (y : Int) A N cap, .int .i64 256, .int .i64 9] W fun e w' => e = .returned (.int .i64 0) ∧ Below W.heap.size W w') := Lib.hid (fun W hb => by
    have := may_any W (y : Int) 256 9 A l N cap hN (by omega) (hR.below hb)
    rw [vt_true hv, show err true = 0 from rfl] at this
    exact this)
  have HS : Hid (∀ W, Below w.heap.size w W → Calls Try.prog 18 #[tb (y : Int) A N cap, .slice M nm cm] W fun e w' => e = .returned (.bool false) ∧ Below W.heap.size W w') := Lib.hid (fun W hb => by
    have := hasl_any W (y : Int) A l N cap hN (by omega) (hR.below hb) M m nm cm hM (by omega) (hRM.below hb)
    rw [hh] at this
    exact this)
  clear b1 t1 hR hRM hN hM hv hh
  go_enter Try.func6, Try.ntmps6
  go_wp2_with (first
    | (go_at_call 17; refine (MY.out _ B1.out).mono ?_; rintro e w2 ⟨rfl, hb⟩; have B2 := Lib.hid (below_on B1.out (Nat.le_refl _) hb); have T2 := Lib.hid (T1.out.below hb); have d20 := T2.out.c0; have d21 := T2.out.c1; clear hb )
    | (go_at_call 18; refine (HS.out _ B2.out).mono ?_; rintro e w3 ⟨rfl, hb⟩; have B3 := Lib.hid (below_on B2.out (Nat.le_refl _) hb); have T3 := Lib.hid (T2.out.below hb); have d30 := T3.out.c0; have d31 := T3.out.c1; clear hb )
    | (go_at_call 12; refine (known_any _).mono ?_; rintro e w9 ⟨rfl, hb9⟩; have B9 := Lib.hid (below_on B3.out (Nat.le_refl _) hb9); clear hb9))
  go_ret
  exact ⟨rfl, B9.out⟩

set_option maxRecDepth 100000 in
set_option maxHeartbeats 1000000 in
theorem walk_pos (y : Nat) (A : Option Addr) (l : List Int) (N cap : Nat) (M : Option Addr) (m : List Int) (nm cm : Nat) (w : World) (hN : l.length = N) (hc : N ≤ cap) (hR : Ri w A l) (hM : m.length = nm) (hcm : nm ≤ cm) (hRM : Ri w M m) (h : N ≤ 300) (h2 : nm ≤ 300) (hv : Vt y l) (hh : hasA l m = true) (hy1 : 1 ≤ y) :
    Calls Try.prog 6 #[tb (y : Int) A N cap, .slice M nm cm] w fun e w' => e = .returned (.bool true) ∧ Below w.heap.size w w' := by
  have k1 : decide ((300 : Int) < (N : Int)) = false := decide_eq_false (by omega)
  have k2 : decide ((300 : Int) < (nm : Int)) = false := decide_eq_false (by omega)
  have k5 : decide ((0 : Int) < (y : Int)) = true := decide_eq_true (by omega)
  have k5n : decide (0 < y) = true := decide_eq_true (by omega)
  have k5p : 0 < y := by omega
  obtain ⟨w1, hw1⟩ : ∃ w1, w.alloc (.cells #[.int .i64 (y : Int), .slice A N cap] 24) = w1 := ⟨_, rfl⟩
  obtain ⟨b1, t1⟩ := box_of hw1
  have c0 := t1.c0
  have c1 := t1.c1
  have B1 := Lib.hid b1
  have T1 := Lib.hid t1
  obtain ⟨ss, hss, hst, hsl⟩ := hasA_nat hv hh
  have hsn : ss.length = nm := by rw [← hM, hss, List.length_map]
  obtain ⟨F0, hF0⟩ : ∃ F0, fbs (CC y l) y ss = F0 := ⟨_, rfl⟩
  obtain ⟨X0, hX0⟩ : ∃ X0, fby y l ss = X0 := ⟨_, rfl⟩
  have hFX : X0 = Bt.closed F0 := by rw [← hX0, ← hF0]; rfl
  have hFl : F0.length ≤ y * nm := by rw [← hF0, ← hsn]; exact fbs_le hv hst
  have hy9 := hv.log
  have hq : y * nm ≤ 9 * nm := Nat.mul_le_mul_right _ hy9
  have hEO : Bt.endOf X0 = some F0.length := by rw [hFX]; exact Bt.endOf_closed F0
  have hUC : (Bt.unp X0).take F0.length = F0 := by rw [hFX]; exact unp_closed F0
  have MY : Hid (∀ W, Below w.heap.size w W → Calls Try.prog 17 #[tb (y : Int) A N cap, .int .i64 256, .int .i64 9] W fun e w' => e = .returned (.int .i64 0) ∧ Below W.heap.size W w') := Lib.hid (fun W hb => by
    have := may_any W (y : Int) 256 9 A l N cap hN (by omega) (hR.below hb)
    rw [vt_true hv, show err true = 0 from rfl] at this
    exact this)
  have HS : Hid (∀ W, Below w.heap.size w W → Calls Try.prog 18 #[tb (y : Int) A N cap, .slice M nm cm] W fun e w' => e = .returned (.bool true) ∧ Below W.heap.size W w') := Lib.hid (fun W hb => by
    have := hasl_any W (y : Int) A l N cap hN (by omega) (hR.below hb) M m nm cm hM (by omega) (hRM.below hb)
    rw [hh] at this
    exact this)
  have EN : Hid (∀ W, Below w.heap.size w W → Calls Try.prog 16 #[tb (y : Int) A N cap, .slice M nm cm] W (Eres W (0, X0))) := Lib.hid (fun W hb => by
    have := fenc_any W (y : Int) A l N cap hN (by omega) hc (hR.below hb) M m nm cm hM (by omega) hcm (hRM.below hb)
    rw [hss, feR_ok hv hst (by omega), hX0] at this
    exact this)
  have hXl : X0.length ≤ 500 := by have := fby_len hv hst; rw [hX0] at this; omega
  have BK : Hid (∀ W B nb cb, Below w.heap.size w W → (X0).length = nb → Bt.Rd W B (X0) → Calls Try.prog 19 #[.slice B nb cb] W fun r w' => ∃ yy, r = .returned (.tuple #[.pointer (some ⟨yy, 0, none⟩), .int .i64 0]) ∧ Bt.RMade W (F0) yy w') := Lib.hid (fun W B nb cb _ hl hr => by
    have := Bt.rback_ok W B (X0) nb cb hl (by omega) hr _ hEO
    rw [hUC] at this
    exact this)
  have hF4 : F0.length ≤ 4000 := by omega
  obtain ⟨q, hqe⟩ : ∃ q, y * nm = q := ⟨_, rfl⟩
  rw [hqe] at hFl hq
  have hmul : (y : Int) * (nm : Int) = (q : Int) := by rw [← hqe]; exact (Int.natCast_mul y nm).symm
  obtain ⟨FL, hFLe⟩ : ∃ FL, F0.length = FL := ⟨_, rfl⟩
  have HFL := Lib.hid hFLe
  have HF4 := Lib.hid hF4
  have k6 : decide ((q : Int) < (FL : Int)) = false := decide_eq_false (by omega)
  have k6n : decide (q < FL) = false := decide_eq_false (by omega)
  have k6p : ¬ q < FL := by omega
  have hq3 : q ≤ 2700 := by omega
  clear b1 t1 hR hRM hN hM hv hh hc hcm hss hst hsl hsn hX0 hF0 hFX hEO hUC hFl hq hXl hF4 hFLe hqe
  go_enter Try.func6, Try.ntmps6
  go_upto_region 5 with (first
    | (go_at_call 17; refine (MY.out _ B1.out).mono ?_; rintro e w2 ⟨rfl, hb⟩; have B2 := Lib.hid (below_on B1.out (Nat.le_refl _) hb); have T2 := Lib.hid (T1.out.below hb); have d20 := T2.out.c0; have d21 := T2.out.c1; clear hb )
    | (go_at_call 18; refine (HS.out _ B2.out).mono ?_; rintro e w3 ⟨rfl, hb⟩; have B3 := Lib.hid (below_on B2.out (Nat.le_refl _) hb); have T3 := Lib.hid (T2.out.below hb); have d30 := T3.out.c0; have d31 := T3.out.c1; clear hb )
    | (go_at_call 16; refine (EN.out _ B3.out).mono ?_; intro e w4 hf; obtain ⟨AX, nX, cX, rfl, hb, hr, hl, hc, ho⟩ := hf.out; have LX := Lib.hid hl; have CX := Lib.hid hc; have OX := Lib.hid ho; have B4 := Lib.hid (below_on B3.out (Nat.le_refl _) hb); have T4 := Lib.hid (T3.out.below hb); have d40 := T4.out.c0; have d41 := T4.out.c1; have X_4 := Lib.hid hr; clear hb hf hr hl hc ho)
    | (go_at_call 19; refine (BK.out _ _ _ _ B4.out LX.out X_4.out).mono ?_; rintro e w5 ⟨yy, rfl, hm⟩; obtain ⟨g, hrl, hyy, hgg, hb⟩ := rl_made hm HF4.out; obtain ⟨Ar, cr, hcell⟩ := hrl.cell; rw [HFL.out] at hcell; have B5 := Lib.hid (below_on B4.out (Nat.le_refl _) hb); have T5 := Lib.hid (T4.out.below hb); have d50 := T5.out.c0; have d51 := T5.out.c1; have X_5 := Lib.hid (Bt.Rv.below X_4.out hb); clear hb hm hrl hyy hgg))
  go_quiet (fail)
  have T6 : Hid (Tb (w5.drewN nq) w.heap.size (y : Int) A N cap) := Lib.hid (T5.out.same rfl)
  have B6 := Lib.hid (below_drewN' B5.out nq)
  have X_6 : Hid (Bt.Rd (w5.drewN nq) AX X0) := Lib.hid (Bt.Rv.same X_5.out (fun _ _ => rfl))
  obtain ⟨w6, hw6⟩ : ∃ w6, w5.drewN nq = w6 := ⟨_, rfl⟩
  rw [hw6] at T6 B6 X_6
  simp only [hw6]
  have d60 := T6.out.c0
  have d61 := T6.out.c1
  clear hw6 d50 d51 hcell
  go_wp2_with (first
    | (go_at_call 12; refine (known_any _).mono ?_; rintro e w9 ⟨rfl, hb9⟩; have B9 := Lib.hid (below_on B6.out (Nat.le_refl _) hb9); clear hb9))
  go_ret
  exact ⟨rfl, B9.out⟩

set_option maxRecDepth 100000 in
set_option maxHeartbeats 1000000 in
theorem walk_nil (A : Option Addr) (l : List Int) (N cap : Nat) (M : Option Addr) (m : List Int) (nm cm : Nat) (w : World) (hN : l.length = N) (hc : N ≤ cap) (hR : Ri w A l) (hM : m.length = nm) (hcm : nm ≤ cm) (hRM : Ri w M m) (h : N ≤ 300) (h2 : nm ≤ 300) (hv : Vt 0 l) (hh : hasA l m = true) :
    Calls Try.prog 6 #[tb 0 A N cap, .slice M nm cm] w fun e w' => e = .returned (.bool true) ∧ Below w.heap.size w w' := by
  have k1 : decide ((300 : Int) < (N : Int)) = false := decide_eq_false (by omega)
  have k2 : decide ((300 : Int) < (nm : Int)) = false := decide_eq_false (by omega)
  obtain ⟨w1, hw1⟩ : ∃ w1, w.alloc (.cells #[.int .i64 0, .slice A N cap] 24) = w1 := ⟨_, rfl⟩
  obtain ⟨b1, t1⟩ := box_of hw1
  have c0 := t1.c0
  have c1 := t1.c1
  have B1 := Lib.hid b1
  have T1 := Lib.hid t1
  obtain ⟨ss, hss, hst, hsl⟩ := hasA_nat hv hh
  have hsn : ss.length = nm := by rw [← hM, hss, List.length_map]
  obtain ⟨F0, hF0⟩ : ∃ F0, fbs (CC 0 l) 0 ss = F0 := ⟨_, rfl⟩
  obtain ⟨X0, hX0⟩ : ∃ X0, fby 0 l ss = X0 := ⟨_, rfl⟩
  have hFX : X0 = Bt.closed F0 := by rw [← hX0, ← hF0]; rfl
  have hFl : F0.length ≤ 0 * nm := by rw [← hF0, ← hsn]; exact fbs_le hv hst
  have hy9 := hv.log
  have hq : 0 * nm ≤ 9 * nm := Nat.mul_le_mul_right _ hy9
  have hEO : Bt.endOf X0 = some F0.length := by rw [hFX]; exact Bt.endOf_closed F0
  have hUC : (Bt.unp X0).take F0.length = F0 := by rw [hFX]; exact unp_closed F0
  have MY : Hid (∀ W, Below w.heap.size w W → Calls Try.prog 17 #[tb 0 A N cap, .int .i64 256, .int .i64 9] W fun e w' => e = .returned (.int .i64 0) ∧ Below W.heap.size W w') := Lib.hid (fun W hb => by
    have := may_any W 0 256 9 A l N cap hN (by omega) (hR.below hb)
    rw [show vt 0 l 256 9 = true from vt_true hv, show err true = 0 from rfl] at this
    exact this)
  have HS : Hid (∀ W, Below w.heap.size w W → Calls Try.prog 18 #[tb 0 A N cap, .slice M nm cm] W fun e w' => e = .returned (.bool true) ∧ Below W.heap.size W w') := Lib.hid (fun W hb => by
    have := hasl_any W 0 A l N cap hN (by omega) (hR.below hb) M m nm cm hM (by omega) (hRM.below hb)
    rw [hh] at this
    exact this)
  have EN : Hid (∀ W, Below w.heap.size w W → Calls Try.prog 16 #[tb 0 A N cap, .slice M nm cm] W (Eres W (0, X0))) := Lib.hid (fun W hb => by
    have := fenc_any W 0 A l N cap hN (by omega) hc (hR.below hb) M m nm cm hM (by omega) hcm (hRM.below hb)
    rw [hss, show feR 0 l (ss.map (fun n : Nat => (n : Int))) = (0, fby 0 l ss) from feR_ok (y := 0) hv hst (by omega), hX0] at this
    exact this)
  have hXl : X0.length ≤ 500 := by have := fby_len hv hst; rw [hX0] at this; omega
  have BK : Hid (∀ W B nb cb, Below w.heap.size w W → (X0).length = nb → Bt.Rd W B (X0) → Calls Try.prog 19 #[.slice B nb cb] W fun r w' => ∃ yy, r = .returned (.tuple #[.pointer (some ⟨yy, 0, none⟩), .int .i64 0]) ∧ Bt.RMade W (F0) yy w') := Lib.hid (fun W B nb cb _ hl hr => by
    have := Bt.rback_ok W B (X0) nb cb hl (by omega) hr _ hEO
    rw [hUC] at this
    exact this)
  have hF4 : F0.length ≤ 4000 := by omega
  obtain ⟨q, hqe⟩ : ∃ q, 0 * nm = q := ⟨_, rfl⟩
  rw [hqe] at hFl hq
  have hq0 : q = 0 := by omega
  subst hq0
  obtain ⟨FL, hFLe⟩ : ∃ FL, F0.length = FL := ⟨_, rfl⟩
  have HFL := Lib.hid hFLe
  have HF4 := Lib.hid hF4
  obtain rfl : FL = 0 := by omega
  have hX1 : X0 = [1] := by
    rw [hFX, List.eq_nil_of_length_eq_zero (show F0.length = 0 by omega)]
    decide +kernel
  have HX1 := Lib.hid hX1
  clear b1 t1 hR hRM hN hM hv hh hc hcm hss hst hsl hsn hX0 hF0 hFX hEO hUC hFl hq hXl hF4 hFLe hqe hX1
  go_enter Try.func6, Try.ntmps6
  go_upto_region 5 with (first
    | (go_at_call 17; refine (MY.out _ B1.out).mono ?_; rintro e w2 ⟨rfl, hb⟩; have B2 := Lib.hid (below_on B1.out (Nat.le_refl _) hb); have T2 := Lib.hid (T1.out.below hb); have d20 := T2.out.c0; have d21 := T2.out.c1; clear hb )
    | (go_at_call 18; refine (HS.out _ B2.out).mono ?_; rintro e w3 ⟨rfl, hb⟩; have B3 := Lib.hid (below_on B2.out (Nat.le_refl _) hb); have T3 := Lib.hid (T2.out.below hb); have d30 := T3.out.c0; have d31 := T3.out.c1; clear hb )
    | (go_at_call 16; refine (EN.out _ B3.out).mono ?_; intro e w4 hf; obtain ⟨AX, nX, cX, rfl, hb, hr, hl, hc, ho⟩ := hf.out; have LX := Lib.hid hl; have CX := Lib.hid hc; have OX := Lib.hid ho; have B4 := Lib.hid (below_on B3.out (Nat.le_refl _) hb); have T4 := Lib.hid (T3.out.below hb); have d40 := T4.out.c0; have d41 := T4.out.c1; have X_4 := Lib.hid hr; clear hb hf hr hl hc ho)
    | (go_at_call 19; refine (BK.out _ _ _ _ B4.out LX.out X_4.out).mono ?_; rintro e w5 ⟨yy, rfl, hm⟩; obtain ⟨g, hrl, hyy, hgg, hb⟩ := rl_made hm HF4.out; obtain ⟨Ar, cr, hcell⟩ := hrl.cell; rw [HFL.out] at hcell; have B5 := Lib.hid (below_on B4.out (Nat.le_refl _) hb); have T5 := Lib.hid (T4.out.below hb); have d50 := T5.out.c0; have d51 := T5.out.c1; have X_5 := Lib.hid (Bt.Rv.below X_4.out hb); clear hb hm hrl hyy hgg))
  go_quiet (fail)
  have T6 : Hid (Tb (w5.drewN nq) w.heap.size 0 A N cap) := Lib.hid (T5.out.same rfl)
  have B6 := Lib.hid (below_drewN' B5.out nq)
  have X_6 : Hid (Bt.Rd (w5.drewN nq) AX X0) := Lib.hid (Bt.Rv.same X_5.out (fun _ _ => rfl))
  obtain ⟨w6, hw6⟩ : ∃ w6, w5.drewN nq = w6 := ⟨_, rfl⟩
  rw [hw6] at T6 B6 X_6
  simp only [hw6]
  have d60 := T6.out.c0
  have d61 := T6.out.c1
  clear hw6 d50 d51 hcell
  have X_7 := Lib.hid (Bt.Rv.below X_6.out (below_new w6 (.cells #[.int .u8 1] 5)))
  have Q_7 := Lib.hid (rd_one8 w6 1 1 (by decide))
  have B7 := Lib.hid (below_on B6.out (Nat.le_refl _) (below_new w6 (.cells #[.int .u8 1] 5)))
  go_wp2_with (first
    | (go_at_call 20; refine (Bt.same_n _ _ _ X0 [1] _ _ LX.out rfl _ _ X_7.out Q_7.out HX1.out).mono ?_; rintro e w8 ⟨rfl, rfl⟩)
    | (go_at_call 12; refine (known_any _).mono ?_; rintro e w9 ⟨rfl, hb9⟩; have B9 := Lib.hid (below_on B7.out (Nat.le_refl _) hb9); clear hb9))
  go_ret
  exact ⟨rfl, B9.out⟩

theorem walk_ok (y : Nat) (A : Option Addr) (l : List Int) (N cap : Nat) (M : Option Addr) (m : List Int) (nm cm : Nat) (w : World) (hN : l.length = N) (hc : N ≤ cap) (hR : Ri w A l) (hM : m.length = nm) (hcm : nm ≤ cm) (hRM : Ri w M m) (h : N ≤ 300) (h2 : nm ≤ 300) (hv : Vt y l) (hh : hasA l m = true) :
    Calls Try.prog 6 #[tb (y : Int) A N cap, .slice M nm cm] w fun e w' => e = .returned (.bool true) ∧ Below w.heap.size w w' := by
  by_cases h0 : y = 0
  · subst h0
    exact walk_nil A l N cap M m nm cm w hN hc hR hM hcm hRM h h2 hv hh
  · exact walk_pos y A l N cap M m nm cm w hN hc hR hM hcm hRM h h2 hv hh (by omega)

theorem walk (y : Int) (A : Option Addr) (l : List Int) (cap : Nat) (M : Option Addr) (m : List Int) (cm : Nat) (w : World) (hR : Ri w A l) (_ : ∀ z ∈ l, -9223372036854775808 ≤ z ∧ z ≤ 9223372036854775807) (hc : l.length ≤ cap) (hRM : Ri w M m) (_ : ∀ z ∈ m, -9223372036854775808 ≤ z ∧ z ≤ 9223372036854775807) (hcm : m.length ≤ cm) :
    Calls Try.prog 6 #[tb y A l.length cap, .slice M m.length cm] w fun e w' => e = .returned (.bool true) ∧ Below w.heap.size w w' := by
  by_cases h : 300 < l.length
  · exact walk_a y A _ cap M _ cm w h
  · by_cases h2 : 300 < m.length
    · exact walk_b y A _ cap M _ cm w (by omega) h2
    · cases hv : vt y l 256 9 with
      | false => exact walk_c y A l _ cap M m _ cm w rfl hc hR rfl hcm hRM (by omega) (by omega) hv
      | true =>
        obtain ⟨k, rfl, hvt⟩ := vt_iff.1 hv
        cases hh : hasA l m with
        | false => exact walk_d k A l _ cap M m _ cm w rfl hc hR rfl hcm hRM (by omega) (by omega) hvt hh
        | true => exact walk_ok k A l _ cap M m _ cm w rfl hc hR rfl hcm hRM (by omega) (by omega) hvt hh
set_option maxRecDepth 100000 in
theorem lifted (os : Os) (started : os.Started) (H : Type) (enc : TypeId × Value → H) :
    ReturnsInHanded {} Try.checked os 6 .any (Rows.flowLengthSpec.pre6 enc Try.prog Try.f6 Rows.flowLengthRow.domain false) (Rows.flowLengthSpec.post enc Try.prog Try.f6 false true false false) := by
  refine returnsInHanded_of_change_sized (C := Try.checked) ownB started (by kernel_rfl) Try.func6
    (ChangeSpec.witness6 (enc := enc) (C := Try.checked) false ⟨#[], #[.agg #[.int .i64 0, .slice none 0 0], .slice none 0 0], []⟩ 8 (by kernel_rfl) (by kernel_rfl) (by kernel_rfl) (by kernel_rfl)) ?_
  intro W base args ds gs before hval0 hW _ hsz0 _
  have hsz : (DataW.weightsEach Try.prog (Try.f6.params.toList ++ Rows.flowLengthSpec.plain.varTypes Try.prog) (ds ++ gs)).all (· ≤ reachBytes) = true := hsz0
  clear hsz0
  have hval : ∀ (j : Nat) t v, Try.f6.params[j]? = some t → args[j]? = some v → Value.okWide Try.prog W .any base t v := hval0
  have hW' := hW
  obtain ⟨p, q, hA0, hV, rfl, hfz, hnd⟩ := hW
  have hA : DataW.TrodAll enc Try.prog W 0 (fun _ => true) true Try.f6.params.toList args.toList ds p := hA0
  rw [Try.params6] at hA hval hsz
  obtain ⟨v0, vs0, d0, ds0, p0, q0, hargs, rfl, rfl, h0, r0⟩ := trodAll_cons hA
  obtain ⟨v1, vs1, d1, ds1, p1, q1, rfl, rfl, rfl, h1, r1⟩ := trodAll_cons r0
  obtain ⟨rfl, rfl, rfl⟩ := trodAll_nil r1
  obtain rfl : args = #[v0, v1] := by cases args; simp_all
  obtain ⟨rfl, rfl⟩ := trodVars_none hV
  obtain ⟨cs0, rfl, hcs0⟩ := okWide_struct Try.underlying24 (hval 0 24 v0 rfl rfl)
  have k0 := h0
  have lt0 : ∀ x ∈ p0, x.block < W.heap.size := by obtain ⟨m, hm⟩ := k0; exact DataW.trod_lt m _ _ _ hm
  obtain ⟨y0, a0, len0, cap0, l0, rfl, rfl, hc0, ri0, wi0⟩ := open_tab hcs0 h0
  obtain ⟨a1, len1, cap1, rfl⟩ := okWide_slice Try.underlying22 (hval 1 22 v1 rfl rfl)
  have k1 := h1
  have lt1 : ∀ x ∈ p1, x.block < W.heap.size := by obtain ⟨m, hm⟩ := k1; exact DataW.trod_lt m _ _ _ hm
  obtain ⟨l1, rfl, hc1, ri1, wi1⟩ := open_intl h1
  clear hA0 hval0
  refine (walk y0 a0 l0 cap0 a1 l1 cap1 W ri0 wi0 hc0 ri1 wi1 hc1).mono fun e W' ⟨he, bel⟩ => ?_
  subst he
  exact ⟨_, rfl, _, _, _, [], _, [], hW', trodAll_mk1 (shut_bool Try.underlying4 _), (trodAll_cons_mk (Below.trod laidOut (by kernel_rfl) (of_decide_eq_true (by kernel_rfl)) k0 bel lt0) (trodAll_cons_mk (Below.trod laidOut (by kernel_rfl) (of_decide_eq_true (by kernel_rfl)) k1 bel lt1) trodAll_mk0)), rfl, bel.frame _, fun h => by cases h⟩

theorem proved : Rows.FlowLengthSaid :=
  OpenClaim.holds_of_wide 6 Try.f6 rfl rfl rfl rfl rfl rfl rfl ⟨rfl, rfl, rfl, rfl, rfl⟩ rfl rfl rfl rfl rfl (by kernel_rfl) Try.func6 (by kernel_rfl)
    (of_decide_eq_true (by kernel_rfl)) (by unfold Func.isWrapper; rw [if_neg (by decide +kernel)]; exact ⟨rfl, rfl⟩)
    (fun os started H enc _ => lifted os started H enc)

#print axioms proved

end Go.Proofs.Ytgokbpnikgbfgaa.flowLength
