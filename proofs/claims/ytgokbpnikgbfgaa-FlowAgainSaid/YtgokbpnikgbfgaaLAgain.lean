/-
  Proved: the law FlowAgain returns true for all tables, bytes, numbers and symbols: what has been decoded can be encoded and decoded again, and other symbols have another flow. No condition.
-/
import Derived.BigQuiet
import Derived.Deep.QuietTactic
import Derived.Test.YtgokbpnikgbfgaaSi
namespace Go.Proofs.Ytgokbpnikgbfgaa.flowAgain
open Go.ChangeShapes Go.WideShapes Go.ChangeAt Go.RowKit

set_option maxRecDepth 100000 in
set_option maxHeartbeats 1000000 in
theorem walk_a (y : Int) (A : Option Addr) (N cap : Nat) (B : Option Addr) (nb cb : Nat) (n : Int) (M : Option Addr) (nm cm : Nat) (w : World) (h : 300 < N) :
    Calls Try.prog 9 #[tb y A N cap, .slice B nb cb, .int .i64 n, .slice M nm cm] w fun e w' => e = .returned (.bool true) ∧ Below w.heap.size w w' := by
  have k1 : decide ((300 : Int) < (N : Int)) = true := decide_eq_true (by omega)
  obtain ⟨w1, hw1⟩ : ∃ w1, w.alloc (.cells #[.int .i64 y, .slice A N cap] 24) = w1 := ⟨_, rfl⟩
  obtain ⟨b1, t1⟩ := box_of hw1
  have c0 := t1.c0
  have c1 := t1.c1
  have B1 := Lib.hid b1
  have T1 := Lib.hid t1
  clear b1 t1
  go_enter Try.func9, Try.ntmps9
  go_wp2_with (first
    | (go_at_call 12; refine (known_any _).mono ?_; rintro e w9 ⟨rfl, hb9⟩; have B9 := Lib.hid (below_on B1.out (Nat.le_refl _) hb9); clear hb9))
  go_ret
  exact ⟨rfl, B9.out⟩

set_option maxRecDepth 100000 in
set_option maxHeartbeats 1000000 in
theorem walk_b (y : Int) (A : Option Addr) (N cap : Nat) (B : Option Addr) (nb cb : Nat) (n : Int) (M : Option Addr) (nm cm : Nat) (w : World) (h : N ≤ 300) (h2 : 400 < nb) :
    Calls Try.prog 9 #[tb y A N cap, .slice B nb cb, .int .i64 n, .slice M nm cm] w fun e w' => e = .returned (.bool true) ∧ Below w.heap.size w w' := by
  have k1 : decide ((300 : Int) < (N : Int)) = false := decide_eq_false (by omega)
  have k2 : decide ((400 : Int) < (nb : Int)) = true := decide_eq_true (by omega)
  obtain ⟨w1, hw1⟩ : ∃ w1, w.alloc (.cells #[.int .i64 y, .slice A N cap] 24) = w1 := ⟨_, rfl⟩
  obtain ⟨b1, t1⟩ := box_of hw1
  have c0 := t1.c0
  have c1 := t1.c1
  have B1 := Lib.hid b1
  have T1 := Lib.hid t1
  clear b1 t1
  go_enter Try.func9, Try.ntmps9
  go_wp2_with (first
    | (go_at_call 12; refine (known_any _).mono ?_; rintro e w9 ⟨rfl, hb9⟩; have B9 := Lib.hid (below_on B1.out (Nat.le_refl _) hb9); clear hb9))
  go_ret
  exact ⟨rfl, B9.out⟩

set_option maxRecDepth 100000 in
set_option maxHeartbeats 1000000 in
theorem walk_c (y : Int) (A : Option Addr) (N cap : Nat) (B : Option Addr) (nb cb : Nat) (n : Int) (M : Option Addr) (nm cm : Nat) (w : World) (h : N ≤ 300) (h2 : nb ≤ 400) (h3 : 300 < n) :
    Calls Try.prog 9 #[tb y A N cap, .slice B nb cb, .int .i64 n, .slice M nm cm] w fun e w' => e = .returned (.bool true) ∧ Below w.heap.size w w' := by
  have k1 : decide ((300 : Int) < (N : Int)) = false := decide_eq_false (by omega)
  have k2 : decide ((400 : Int) < (nb : Int)) = false := decide_eq_false (by omega)
  have k3 : decide ((300 : Int) < n) = true := decide_eq_true (by omega)
  obtain ⟨w1, hw1⟩ : ∃ w1, w.alloc (.cells #[.int .i64 y, .slice A N cap] 24) = w1 := ⟨_, rfl⟩
  obtain ⟨b1, t1⟩ := box_of hw1
  have c0 := t1.c0
  have c1 := t1.c1
  have B1 := Lib.hid b1
  have T1 := Lib.hid t1
  clear b1 t1
  go_enter Try.func9, Try.ntmps9
  go_wp2_with (first
    | (go_at_call 12; refine (known_any _).mono ?_; rintro e w9 ⟨rfl, hb9⟩; have B9 := Lib.hid (below_on B1.out (Nat.le_refl _) hb9); clear hb9))
  go_ret
  exact ⟨rfl, B9.out⟩

set_option maxRecDepth 100000 in
set_option maxHeartbeats 1000000 in
theorem walk_d (y : Int) (A : Option Addr) (N cap : Nat) (B : Option Addr) (nb cb : Nat) (n : Int) (M : Option Addr) (nm cm : Nat) (w : World) (h : N ≤ 300) (h2 : nb ≤ 400) (h3 : n ≤ 300) (h4 : 300 < nm) :
    Calls Try.prog 9 #[tb y A N cap, .slice B nb cb, .int .i64 n, .slice M nm cm] w fun e w' => e = .returned (.bool true) ∧ Below w.heap.size w w' := by
  have k1 : decide ((300 : Int) < (N : Int)) = false := decide_eq_false (by omega)
  have k2 : decide ((400 : Int) < (nb : Int)) = false := decide_eq_false (by omega)
  have k3 : decide ((300 : Int) < n) = false := decide_eq_false (by omega)
  have k4 : decide ((300 : Int) < (nm : Int)) = true := decide_eq_true (by omega)
  obtain ⟨w1, hw1⟩ : ∃ w1, w.alloc (.cells #[.int .i64 y, .slice A N cap] 24) = w1 := ⟨_, rfl⟩
  obtain ⟨b1, t1⟩ := box_of hw1
  have c0 := t1.c0
  have c1 := t1.c1
  have B1 := Lib.hid b1
  have T1 := Lib.hid t1
  clear b1 t1
  go_enter Try.func9, Try.ntmps9
  go_wp2_with (first
    | (go_at_call 12; refine (known_any _).mono ?_; rintro e w9 ⟨rfl, hb9⟩; have B9 := Lib.hid (below_on B1.out (Nat.le_refl _) hb9); clear hb9))
  go_ret
  exact ⟨rfl, B9.out⟩

set_option maxRecDepth 100000 in
set_option maxHeartbeats 1000000 in
theorem walk_e (y : Int) (A : Option Addr) (l : List Int) (N cap : Nat) (B : Option Addr) (D : List UInt8) (nb cb : Nat) (n : Int) (M : Option Addr) (nm cm : Nat) (q : Nat) (w : World) (hN : l.length = N) (hR : Ri w A l) (hD : D.length = nb) (hRB : Bt.Rd w B D) (h : N ≤ 300) (h2 : nb ≤ 400) (h3 : n ≤ 300) (h4 : nm ≤ 300) (hRR : fdR y l D n = (q, [])) (hq : q ≠ 0) :
    Calls Try.prog 9 #[tb y A N cap, .slice B nb cb, .int .i64 n, .slice M nm cm] w fun e w' => e = .returned (.bool true) ∧ Below w.heap.size w w' := by
  have k1 : decide ((300 : Int) < (N : Int)) = false := decide_eq_false (by omega)
  have k2 : decide ((400 : Int) < (nb : Int)) = false := decide_eq_false (by omega)
  have k3 : decide ((300 : Int) < n) = false := decide_eq_false (by omega)
  have k4 : decide ((300 : Int) < (nm : Int)) = false := decide_eq_false (by omega)
  have hqn : ((q : Int) != 0) = true := by simpa using hq
  obtain ⟨w1, hw1⟩ : ∃ w1, w.alloc (.cells #[.int .i64 y, .slice A N cap] 24) = w1 := ⟨_, rfl⟩
  obtain ⟨b1, t1⟩ := box_of hw1
  have c0 := t1.c0
  have c1 := t1.c1
  have B1 := Lib.hid b1
  have T1 := Lib.hid t1
  have DE : Hid (∀ W, Below w.heap.size w W → Calls Try.prog 13 #[tb y A N cap, .slice B nb cb, .int .i64 n] W (Fres W (q, []))) := Lib.hid (fun W hb => by
    rw [← hRR]
    exact fdec_any W y A l N cap hN (by omega) (hR.below hb) B D nb cb hD (by omega) (Bt.Rv.below hRB hb) n)
  clear b1 t1 hR hRB hN hD hRR hq
  go_enter Try.func9, Try.ntmps9
  go_wp2_with (first
    | (go_at_call 13; refine (DE.out _ B1.out).mono ?_; intro e w2 hf; obtain ⟨AS, nS, cS, rfl, hb, hr, hl, hc, ho⟩ := hf.out; have LS := Lib.hid hl; have CS := Lib.hid hc; have OS := Lib.hid ho; have B2 := Lib.hid (below_on B1.out (Nat.le_refl _) hb); have T2 := Lib.hid (T1.out.below hb); have d20 := T2.out.c0; have d21 := T2.out.c1; have S_2 := Lib.hid hr; clear hb hf hr hl hc ho)
    | (go_at_call 12; refine (known_any _).mono ?_; rintro e w9 ⟨rfl, hb9⟩; have B9 := Lib.hid (below_on B2.out (Nat.le_refl _) hb9); clear hb9))
  go_ret
  exact ⟨rfl, B9.out⟩

set_option maxRecDepth 100000 in
set_option maxHeartbeats 1000000 in
theorem walk_len (y : Nat) (A : Option Addr) (l : List Int) (N cap : Nat) (B : Option Addr) (D : List UInt8) (nb cb n : Nat) (M : Option Addr) (m : List Int) (nm cm : Nat) (w : World) (hN : l.length = N) (hc : N ≤ cap) (hR : Ri w A l) (hD : D.length = nb) (hRB : Bt.Rd w B D) (_ : m.length = nm) (_ : Ri w M m) (h : N ≤ 300) (h2 : nb ≤ 400) (h3 : n ≤ 300) (h4 : nm ≤ 300) (hv : Vt y l) (o : List Nat) (hRR : fdR (y : Int) l D (n : Int) = (0, o)) (ho : o.length = n) (hos : ∀ x ∈ o, 1 ≤ nos l x) (hne : nm ≠ n) :
    Calls Try.prog 9 #[tb (y : Int) A N cap, .slice B nb cb, .int .i64 (n : Int), .slice M nm cm] w fun e w' => e = .returned (.bool true) ∧ Below w.heap.size w w' := by
  have k1 : decide ((300 : Int) < (N : Int)) = false := decide_eq_false (by omega)
  have k2 : decide ((400 : Int) < (nb : Int)) = false := decide_eq_false (by omega)
  have k3 : decide ((300 : Int) < (n : Int)) = false := decide_eq_false (by omega)
  have k3n : decide (300 < n) = false := decide_eq_false (by omega)
  have k4 : decide ((300 : Int) < (nm : Int)) = false := decide_eq_false (by omega)
  have k5 : ((nm : Int) != (n : Int)) = true := by simp only [bne_iff_ne, ne_eq]; omega
  have k5n : (nm != n) = true := by simpa using hne
  obtain ⟨w1, hw1⟩ : ∃ w1, w.alloc (.cells #[.int .i64 (y : Int), .slice A N cap] 24) = w1 := ⟨_, rfl⟩
  obtain ⟨b1, t1⟩ := box_of hw1
  have c0 := t1.c0
  have c1 := t1.c1
  have B1 := Lib.hid b1
  have T1 := Lib.hid t1
  obtain ⟨X0, hX0⟩ : ∃ X0, fby y l o = X0 := ⟨_, rfl⟩
  have hXl : X0.length ≤ 500 := by have := fby_len hv hos; rw [hX0] at this; omega
  have hol : (ns o).length = n := by rw [ns_len]; exact ho
  have DE : Hid (∀ W, Below w.heap.size w W → Calls Try.prog 13 #[tb (y : Int) A N cap, .slice B nb cb, .int .i64 (n : Int)] W (Fres W (0, o))) := Lib.hid (fun W hb => by
    rw [← hRR]
    exact fdec_any W y A l N cap hN (by omega) (hR.below hb) B D nb cb hD (by omega) (Bt.Rv.below hRB hb) n)
  have D2 : Hid (∀ W B nb cb, Below w.heap.size w W → X0.length = nb → Bt.Rd W B X0 → Calls Try.prog 13 #[tb (y : Int) A N cap, .slice B nb cb, .int .i64 (n : Int)] W (Fres W (0, o))) := Lib.hid (fun W B nb cb hb hl hr => by
    have := fdec_any W (y : Int) A l N cap hN (by omega) (hR.below hb) B X0 nb cb hl (by omega) hr (n : Int)
    rw [← hX0, ← ho, fdR_back hv hos (by omega)] at this
    rw [← ho]
    exact this)
  have EN : Hid (∀ W G c, Below w.heap.size w W → n ≤ c → Ri W G (ns o) → Calls Try.prog 16 #[tb (y : Int) A N cap, .slice G n c] W (Eres W (0, X0))) := Lib.hid (fun W G c hb hgc hr => by
    have := fenc_any W (y : Int) A l N cap hN (by omega) hc (hR.below hb) G (ns o) n c hol (by omega) hgc hr
    rw [ns, feR_ok hv hos (by omega), hX0] at this
    exact this)
  have hon : (ns o).length ≤ 1000 := by omega
  have SM : Hid (∀ W A1 n1 c1 A2 n2 c2, (ns o).length = n1 → (ns o).length = n2 → Ri W A1 (ns o) → Ri W A2 (ns o) → Calls Try.prog 15 #[.slice A1 n1 c1, .slice A2 n2 c2] W fun e w' => e = .returned (.bool true) ∧ Below W.heap.size W w') := Lib.hid (fun W A1 n1 c1 A2 n2 c2 h1 h2 h3 h4 => by
    have := sameI_any W A1 A2 (ns o) (ns o) n1 c1 n2 c2 h1 h2 (by omega) h3 h4
    rwa [decide_eq_true rfl] at this)
  have HOL := Lib.hid hol
  clear b1 t1 hR hRB hN hD hRR hv hos hc hX0 hXl hol hon ho
  clear hne
  go_enter Try.func9, Try.ntmps9
  go_wp2_with (first
    | (go_at_call 13; refine (D2.out _ _ _ _ B3.out LX.out X_3.out).mono ?_; intro e w4 hf; obtain ⟨AR, nR, cR, rfl, hb, hr, hl, hc, ho⟩ := hf.out; have LR := Lib.hid hl; have CR := Lib.hid hc; have OR := Lib.hid ho; obtain rfl : n = nR := HOL.out.symm.trans hl; have B4 := Lib.hid (below_on B3.out (Nat.le_refl _) hb); have T4 := Lib.hid (T3.out.below hb); have d40 := T4.out.c0; have d41 := T4.out.c1; have S_4 := Lib.hid (S_3.out.below hb); have X_4 := Lib.hid (Bt.Rv.below X_3.out hb); have R_4 := Lib.hid hr; clear hb hf hr hl hc ho)
    | (go_at_call 16; refine (EN.out _ _ _ B2.out CS.out S_2.out).mono ?_; intro e w3 hf; obtain ⟨AX, nX, cX, rfl, hb, hr, hl, hc, ho⟩ := hf.out; have LX := Lib.hid hl; have CX := Lib.hid hc; have OX := Lib.hid ho; have B3 := Lib.hid (below_on B2.out (Nat.le_refl _) hb); have T3 := Lib.hid (T2.out.below hb); have d30 := T3.out.c0; have d31 := T3.out.c1; have S_3 := Lib.hid (S_2.out.below hb); have X_3 := Lib.hid hr; clear hb hf hr hl hc ho)
    | (go_at_call 13; refine (DE.out _ B1.out).mono ?_; intro e w2 hf; obtain ⟨AS, nS, cS, rfl, hb, hr, hl, hc, ho⟩ := hf.out; have LS := Lib.hid hl; have CS := Lib.hid hc; have OS := Lib.hid ho; obtain rfl : n = nS := HOL.out.symm.trans hl; have B2 := Lib.hid (below_on B1.out (Nat.le_refl _) hb); have T2 := Lib.hid (T1.out.below hb); have d20 := T2.out.c0; have d21 := T2.out.c1; have S_2 := Lib.hid hr; clear hb hf hr hl hc ho)
    | (go_at_call 15; refine (SM.out _ _ _ _ _ _ _ HOL.out HOL.out S_4.out R_4.out).mono ?_; rintro e w5 ⟨rfl, hb⟩; have B5 := Lib.hid (below_on B4.out (Nat.le_refl _) hb); have T5 := Lib.hid (T4.out.below hb); have d50 := T5.out.c0; have d51 := T5.out.c1; have S_5 := Lib.hid (S_4.out.below hb); have X_5 := Lib.hid (Bt.Rv.below X_4.out hb); have R_5 := Lib.hid (R_4.out.below hb); clear hb )
    | (go_at_call 12; refine (known_any _).mono ?_; rintro e w9 ⟨rfl, hb9⟩; have B9 := Lib.hid (below_on B5.out (Nat.le_refl _) hb9); clear hb9))
  go_ret
  exact ⟨rfl, B9.out⟩

set_option maxRecDepth 100000 in
set_option maxHeartbeats 1000000 in
theorem walk_has (y : Nat) (A : Option Addr) (l : List Int) (N cap : Nat) (B : Option Addr) (D : List UInt8) (nb cb n : Nat) (M : Option Addr) (m : List Int) (nm cm : Nat) (w : World) (hN : l.length = N) (hc : N ≤ cap) (hR : Ri w A l) (hD : D.length = nb) (hRB : Bt.Rd w B D) (hM : m.length = nm) (hRM : Ri w M m) (h : N ≤ 300) (h2 : nb ≤ 400) (_ : n ≤ 300) (h4 : nm ≤ 300) (hv : Vt y l) (o : List Nat) (hRR : fdR (y : Int) l D (n : Int) = (0, o)) (ho : o.length = n) (hos : ∀ x ∈ o, 1 ≤ nos l x) (hne : nm = n) (hh : hasA l m = false) :
    Calls Try.prog 9 #[tb (y : Int) A N cap, .slice B nb cb, .int .i64 (n : Int), .slice M nm cm] w fun e w' => e = .returned (.bool true) ∧ Below w.heap.size w w' := by
  have k1 : decide ((300 : Int) < (N : Int)) = false := decide_eq_false (by omega)
  have k2 : decide ((400 : Int) < (nb : Int)) = false := decide_eq_false (by omega)
  have k3 : decide ((300 : Int) < (n : Int)) = false := decide_eq_false (by omega)
  have k3n : decide (300 < n) = false := decide_eq_false (by omega)
  have k4 : decide ((300 : Int) < (nm : Int)) = false := decide_eq_false (by omega)
  have k5 : ((nm : Int) != (n : Int)) = false := by simp only [bne_eq_false_iff_eq]; omega
  have k5n : (nm != n) = false := by simpa using hne
  obtain ⟨w1, hw1⟩ : ∃ w1, w.alloc (.cells #[.int .i64 (y : Int), .slice A N cap] 24) = w1 := ⟨_, rfl⟩
  obtain ⟨b1, t1⟩ := box_of hw1
  have c0 := t1.c0
  have c1 := t1.c1
  have B1 := Lib.hid b1
  have T1 := Lib.hid t1
  obtain ⟨X0, hX0⟩ : ∃ X0, fby y l o = X0 := ⟨_, rfl⟩
  have hXl : X0.length ≤ 500 := by have := fby_len hv hos; rw [hX0] at this; omega
  have hol : (ns o).length = n := by rw [ns_len]; exact ho
  have DE : Hid (∀ W, Below w.heap.size w W → Calls Try.prog 13 #[tb (y : Int) A N cap, .slice B nb cb, .int .i64 (n : Int)] W (Fres W (0, o))) := Lib.hid (fun W hb => by
    rw [← hRR]
    exact fdec_any W y A l N cap hN (by omega) (hR.below hb) B D nb cb hD (by omega) (Bt.Rv.below hRB hb) n)
  have D2 : Hid (∀ W B nb cb, Below w.heap.size w W → X0.length = nb → Bt.Rd W B X0 → Calls Try.prog 13 #[tb (y : Int) A N cap, .slice B nb cb, .int .i64 (n : Int)] W (Fres W (0, o))) := Lib.hid (fun W B nb cb hb hl hr => by
    have := fdec_any W (y : Int) A l N cap hN (by omega) (hR.below hb) B X0 nb cb hl (by omega) hr (n : Int)
    rw [← hX0, ← ho, fdR_back hv hos (by omega)] at this
    rw [← ho]
    exact this)
  have EN : Hid (∀ W G c, Below w.heap.size w W → n ≤ c → Ri W G (ns o) → Calls Try.prog 16 #[tb (y : Int) A N cap, .slice G n c] W (Eres W (0, X0))) := Lib.hid (fun W G c hb hgc hr => by
    have := fenc_any W (y : Int) A l N cap hN (by omega) hc (hR.below hb) G (ns o) n c hol (by omega) hgc hr
    rw [ns, feR_ok hv hos (by omega), hX0] at this
    exact this)
  have hon : (ns o).length ≤ 1000 := by omega
  have SM : Hid (∀ W A1 n1 c1 A2 n2 c2, (ns o).length = n1 → (ns o).length = n2 → Ri W A1 (ns o) → Ri W A2 (ns o) → Calls Try.prog 15 #[.slice A1 n1 c1, .slice A2 n2 c2] W fun e w' => e = .returned (.bool true) ∧ Below W.heap.size W w') := Lib.hid (fun W A1 n1 c1 A2 n2 c2 h1 h2 h3 h4 => by
    have := sameI_any W A1 A2 (ns o) (ns o) n1 c1 n2 c2 h1 h2 (by omega) h3 h4
    rwa [decide_eq_true rfl] at this)
  have HS : Hid (∀ W, Below w.heap.size w W → Calls Try.prog 18 #[tb (y : Int) A N cap, .slice M nm cm] W fun e w' => e = .returned (.bool false) ∧ Below W.heap.size W w') := Lib.hid (fun W hb => by
    have := hasl_any W (y : Int) A l N cap hN (by omega) (hR.below hb) M m nm cm hM (by omega) (hRM.below hb)
    rw [hh] at this
    exact this)
  have HOL := Lib.hid hol
  clear b1 t1 hR hRB hN hD hRR hv hos hc hX0 hXl hol hon ho hM hRM hh
  clear hne
  go_enter Try.func9, Try.ntmps9
  go_wp2_with (first
    | (go_at_call 13; refine (D2.out _ _ _ _ B3.out LX.out X_3.out).mono ?_; intro e w4 hf; obtain ⟨AR, nR, cR, rfl, hb, hr, hl, hc, ho⟩ := hf.out; have LR := Lib.hid hl; have CR := Lib.hid hc; have OR := Lib.hid ho; obtain rfl : n = nR := HOL.out.symm.trans hl; have B4 := Lib.hid (below_on B3.out (Nat.le_refl _) hb); have T4 := Lib.hid (T3.out.below hb); have d40 := T4.out.c0; have d41 := T4.out.c1; have S_4 := Lib.hid (S_3.out.below hb); have X_4 := Lib.hid (Bt.Rv.below X_3.out hb); have R_4 := Lib.hid hr; clear hb hf hr hl hc ho)
    | (go_at_call 16; refine (EN.out _ _ _ B2.out CS.out S_2.out).mono ?_; intro e w3 hf; obtain ⟨AX, nX, cX, rfl, hb, hr, hl, hc, ho⟩ := hf.out; have LX := Lib.hid hl; have CX := Lib.hid hc; have OX := Lib.hid ho; have B3 := Lib.hid (below_on B2.out (Nat.le_refl _) hb); have T3 := Lib.hid (T2.out.below hb); have d30 := T3.out.c0; have d31 := T3.out.c1; have S_3 := Lib.hid (S_2.out.below hb); have X_3 := Lib.hid hr; clear hb hf hr hl hc ho)
    | (go_at_call 13; refine (DE.out _ B1.out).mono ?_; intro e w2 hf; obtain ⟨AS, nS, cS, rfl, hb, hr, hl, hc, ho⟩ := hf.out; have LS := Lib.hid hl; have CS := Lib.hid hc; have OS := Lib.hid ho; obtain rfl : n = nS := HOL.out.symm.trans hl; have B2 := Lib.hid (below_on B1.out (Nat.le_refl _) hb); have T2 := Lib.hid (T1.out.below hb); have d20 := T2.out.c0; have d21 := T2.out.c1; have S_2 := Lib.hid hr; clear hb hf hr hl hc ho)
    | (go_at_call 15; refine (SM.out _ _ _ _ _ _ _ HOL.out HOL.out S_4.out R_4.out).mono ?_; rintro e w5 ⟨rfl, hb⟩; have B5 := Lib.hid (below_on B4.out (Nat.le_refl _) hb); have T5 := Lib.hid (T4.out.below hb); have d50 := T5.out.c0; have d51 := T5.out.c1; have S_5 := Lib.hid (S_4.out.below hb); have X_5 := Lib.hid (Bt.Rv.below X_4.out hb); have R_5 := Lib.hid (R_4.out.below hb); clear hb )
    | (go_at_call 18; refine (HS.out _ B5.out).mono ?_; rintro e w6 ⟨rfl, hb⟩; have B6 := Lib.hid (below_on B5.out (Nat.le_refl _) hb); have T6 := Lib.hid (T5.out.below hb); have d60 := T6.out.c0; have d61 := T6.out.c1; have S_6 := Lib.hid (S_5.out.below hb); have X_6 := Lib.hid (Bt.Rv.below X_5.out hb); have R_6 := Lib.hid (R_5.out.below hb); clear hb )
    | (go_at_call 12; refine (known_any _).mono ?_; rintro e w9 ⟨rfl, hb9⟩; have B9 := Lib.hid (below_on B6.out (Nat.le_refl _) hb9); clear hb9))
  go_ret
  exact ⟨rfl, B9.out⟩

set_option maxRecDepth 100000 in
set_option maxHeartbeats 1000000 in
theorem walk_eq (y : Nat) (A : Option Addr) (l : List Int) (N cap : Nat) (B : Option Addr) (D : List UInt8) (nb cb n : Nat) (M : Option Addr) (m : List Int) (nm cm : Nat) (w : World) (hN : l.length = N) (hc : N ≤ cap) (hR : Ri w A l) (hD : D.length = nb) (hRB : Bt.Rd w B D) (hM : m.length = nm) (hRM : Ri w M m) (h : N ≤ 300) (h2 : nb ≤ 400) (_ : n ≤ 300) (h4 : nm ≤ 300) (hv : Vt y l) (o : List Nat) (hRR : fdR (y : Int) l D (n : Int) = (0, o)) (ho : o.length = n) (hos : ∀ x ∈ o, 1 ≤ nos l x) (hne : nm = n) (hh : hasA l m = true) (hmo : m = ns o) :
    Calls Try.prog 9 #[tb (y : Int) A N cap, .slice B nb cb, .int .i64 (n : Int), .slice M nm cm] w fun e w' => e = .returned (.bool true) ∧ Below w.heap.size w w' := by
  have k1 : decide ((300 : Int) < (N : Int)) = false := decide_eq_false (by omega)
  have k2 : decide ((400 : Int) < (nb : Int)) = false := decide_eq_false (by omega)
  have k3 : decide ((300 : Int) < (n : Int)) = false := decide_eq_false (by omega)
  have k3n : decide (300 < n) = false := decide_eq_false (by omega)
  have k4 : decide ((300 : Int) < (nm : Int)) = false := decide_eq_false (by omega)
  have k5 : ((nm : Int) != (n : Int)) = false := by simp only [bne_eq_false_iff_eq]; omega
  have k5n : (nm != n) = false := by simpa using hne
  obtain ⟨w1, hw1⟩ : ∃ w1, w.alloc (.cells #[.int .i64 (y : Int), .slice A N cap] 24) = w1 := ⟨_, rfl⟩
  obtain ⟨b1, t1⟩ := box_of hw1
  have c0 := t1.c0
  have c1 := t1.c1
  have B1 := Lib.hid b1
  have T1 := Lib.hid t1
  obtain ⟨X0, hX0⟩ : ∃ X0, fby y l o = X0 := ⟨_, rfl⟩
  have hXl : X0.length ≤ 500 := by have := fby_len hv hos; rw [hX0] at this; omega
  have hol : (ns o).length = n := by rw [ns_len]; exact ho
  have DE : Hid (∀ W, Below w.heap.size w W → Calls Try.prog 13 #[tb (y : Int) A N cap, .slice B nb cb, .int .i64 (n : Int)] W (Fres W (0, o))) := Lib.hid (fun W hb => by
    rw [← hRR]
    exact fdec_any W y A l N cap hN (by omega) (hR.below hb) B D nb cb hD (by omega) (Bt.Rv.below hRB hb) n)
  have D2 : Hid (∀ W B nb cb, Below w.heap.size w W → X0.length = nb → Bt.Rd W B X0 → Calls Try.prog 13 #[tb (y : Int) A N cap, .slice B nb cb, .int .i64 (n : Int)] W (Fres W (0, o))) := Lib.hid (fun W B nb cb hb hl hr => by
    have := fdec_any W (y : Int) A l N cap hN (by omega) (hR.below hb) B X0 nb cb hl (by omega) hr (n : Int)
    rw [← hX0, ← ho, fdR_back hv hos (by omega)] at this
    rw [← ho]
    exact this)
  have EN : Hid (∀ W G c, Below w.heap.size w W → n ≤ c → Ri W G (ns o) → Calls Try.prog 16 #[tb (y : Int) A N cap, .slice G n c] W (Eres W (0, X0))) := Lib.hid (fun W G c hb hgc hr => by
    have := fenc_any W (y : Int) A l N cap hN (by omega) hc (hR.below hb) G (ns o) n c hol (by omega) hgc hr
    rw [ns, feR_ok hv hos (by omega), hX0] at this
    exact this)
  have hon : (ns o).length ≤ 1000 := by omega
  have SM : Hid (∀ W A1 n1 c1 A2 n2 c2, (ns o).length = n1 → (ns o).length = n2 → Ri W A1 (ns o) → Ri W A2 (ns o) → Calls Try.prog 15 #[.slice A1 n1 c1, .slice A2 n2 c2] W fun e w' => e = .returned (.bool true) ∧ Below W.heap.size W w') := Lib.hid (fun W A1 n1 c1 A2 n2 c2 h1 h2 h3 h4 => by
    have := sameI_any W A1 A2 (ns o) (ns o) n1 c1 n2 c2 h1 h2 (by omega) h3 h4
    rwa [decide_eq_true rfl] at this)
  have HS : Hid (∀ W, Below w.heap.size w W → Calls Try.prog 18 #[tb (y : Int) A N cap, .slice M nm cm] W fun e w' => e = .returned (.bool true) ∧ Below W.heap.size W w') := Lib.hid (fun W hb => by
    have := hasl_any W (y : Int) A l N cap hN (by omega) (hR.below hb) M m nm cm hM (by omega) (hRM.below hb)
    rw [hh] at this
    exact this)
  have S2 : Hid (∀ W A2 n2 c2, Below w.heap.size w W → (ns o).length = n2 → Ri W A2 (ns o) → Calls Try.prog 15 #[.slice M nm cm, .slice A2 n2 c2] W fun e w' => e = .returned (.bool true) ∧ Below W.heap.size W w') := Lib.hid (fun W A2 n2 c2 hb h5 h6 => by
    have := sameI_any W M A2 m (ns o) nm cm n2 c2 hM h5 (by omega) (hRM.below hb) h6
    rwa [decide_eq_true hmo] at this)
  have HOL := Lib.hid hol
  clear b1 t1 hR hRB hN hD hRR hv hos hc hX0 hXl hol hon ho hM hRM hh hmo
  clear hne
  go_enter Try.func9, Try.ntmps9
  go_wp2_with (first
    | (go_at_call 15; refine (S2.out _ _ _ _ B6.out HOL.out S_6.out).mono ?_; rintro e w7 ⟨rfl, hb⟩; have B7 := Lib.hid (below_on B6.out (Nat.le_refl _) hb); have T7 := Lib.hid (T6.out.below hb); have d70 := T7.out.c0; have d71 := T7.out.c1; have S_7 := Lib.hid (S_6.out.below hb); have X_7 := Lib.hid (Bt.Rv.below X_6.out hb); have R_7 := Lib.hid (R_6.out.below hb); clear hb )
    | (go_at_call 13; refine (D2.out _ _ _ _ B3.out LX.out X_3.out).mono ?_; intro e w4 hf; obtain ⟨AR, nR, cR, rfl, hb, hr, hl, hc, ho⟩ := hf.out; have LR := Lib.hid hl; have CR := Lib.hid hc; have OR := Lib.hid ho; obtain rfl : n = nR := HOL.out.symm.trans hl; have B4 := Lib.hid (below_on B3.out (Nat.le_refl _) hb); have T4 := Lib.hid (T3.out.below hb); have d40 := T4.out.c0; have d41 := T4.out.c1; have S_4 := Lib.hid (S_3.out.below hb); have X_4 := Lib.hid (Bt.Rv.below X_3.out hb); have R_4 := Lib.hid hr; clear hb hf hr hl hc ho)
    | (go_at_call 16; refine (EN.out _ _ _ B2.out CS.out S_2.out).mono ?_; intro e w3 hf; obtain ⟨AX, nX, cX, rfl, hb, hr, hl, hc, ho⟩ := hf.out; have LX := Lib.hid hl; have CX := Lib.hid hc; have OX := Lib.hid ho; have B3 := Lib.hid (below_on B2.out (Nat.le_refl _) hb); have T3 := Lib.hid (T2.out.below hb); have d30 := T3.out.c0; have d31 := T3.out.c1; have S_3 := Lib.hid (S_2.out.below hb); have X_3 := Lib.hid hr; clear hb hf hr hl hc ho)
    | (go_at_call 13; refine (DE.out _ B1.out).mono ?_; intro e w2 hf; obtain ⟨AS, nS, cS, rfl, hb, hr, hl, hc, ho⟩ := hf.out; have LS := Lib.hid hl; have CS := Lib.hid hc; have OS := Lib.hid ho; obtain rfl : n = nS := HOL.out.symm.trans hl; have B2 := Lib.hid (below_on B1.out (Nat.le_refl _) hb); have T2 := Lib.hid (T1.out.below hb); have d20 := T2.out.c0; have d21 := T2.out.c1; have S_2 := Lib.hid hr; clear hb hf hr hl hc ho)
    | (go_at_call 15; refine (SM.out _ _ _ _ _ _ _ HOL.out HOL.out S_4.out R_4.out).mono ?_; rintro e w5 ⟨rfl, hb⟩; have B5 := Lib.hid (below_on B4.out (Nat.le_refl _) hb); have T5 := Lib.hid (T4.out.below hb); have d50 := T5.out.c0; have d51 := T5.out.c1; have S_5 := Lib.hid (S_4.out.below hb); have X_5 := Lib.hid (Bt.Rv.below X_4.out hb); have R_5 := Lib.hid (R_4.out.below hb); clear hb )
    | (go_at_call 18; refine (HS.out _ B5.out).mono ?_; rintro e w6 ⟨rfl, hb⟩; have B6 := Lib.hid (below_on B5.out (Nat.le_refl _) hb); have T6 := Lib.hid (T5.out.below hb); have d60 := T6.out.c0; have d61 := T6.out.c1; have S_6 := Lib.hid (S_5.out.below hb); have X_6 := Lib.hid (Bt.Rv.below X_5.out hb); have R_6 := Lib.hid (R_5.out.below hb); clear hb )
    | (go_at_call 12; refine (known_any _).mono ?_; rintro e w9 ⟨rfl, hb9⟩; have B9 := Lib.hid (below_on B7.out (Nat.le_refl _) hb9); clear hb9))
  go_ret
  exact ⟨rfl, B9.out⟩

set_option maxRecDepth 100000 in
set_option maxHeartbeats 1000000 in
theorem walk_ne (y : Nat) (A : Option Addr) (l : List Int) (N cap : Nat) (B : Option Addr) (D : List UInt8) (nb cb n : Nat) (M : Option Addr) (m : List Int) (nm cm : Nat) (w : World) (hN : l.length = N) (hc : N ≤ cap) (hR : Ri w A l) (hD : D.length = nb) (hRB : Bt.Rd w B D) (hM : m.length = nm) (hcm : nm ≤ cm) (hRM : Ri w M m) (h : N ≤ 300) (h2 : nb ≤ 400) (h3 : n ≤ 300) (_ : nm ≤ 300) (hv : Vt y l) (o : List Nat) (hRR : fdR (y : Int) l D (n : Int) = (0, o)) (ho : o.length = n) (hos : ∀ x ∈ o, 1 ≤ nos l x) (hne : nm = n) (hh : hasA l m = true) (hmo : m ≠ ns o) :
    Calls Try.prog 9 #[tb (y : Int) A N cap, .slice B nb cb, .int .i64 (n : Int), .slice M nm cm] w fun e w' => e = .returned (.bool true) ∧ Below w.heap.size w w' := by
  have k1 : decide ((300 : Int) < (N : Int)) = false := decide_eq_false (by omega)
  have k2 : decide ((400 : Int) < (nb : Int)) = false := decide_eq_false (by omega)
  have k3 : decide ((300 : Int) < (n : Int)) = false := decide_eq_false (by omega)
  have k3n : decide (300 < n) = false := decide_eq_false (by omega)
  have k4 : decide ((300 : Int) < (nm : Int)) = false := decide_eq_false (by omega)
  have k5 : ((nm : Int) != (n : Int)) = false := by simp only [bne_eq_false_iff_eq]; omega
  have k5n : (nm != n) = false := by simpa using hne
  obtain ⟨w1, hw1⟩ : ∃ w1, w.alloc (.cells #[.int .i64 (y : Int), .slice A N cap] 24) = w1 := ⟨_, rfl⟩
  obtain ⟨b1, t1⟩ := box_of hw1
  have c0 := t1.c0
  have c1 := t1.c1
  have B1 := Lib.hid b1
  have T1 := Lib.hid t1
  obtain ⟨X0, hX0⟩ : ∃ X0, fby y l o = X0 := ⟨_, rfl⟩
  have hXl : X0.length ≤ 500 := by have := fby_len hv hos; rw [hX0] at this; omega
  have hol : (ns o).length = n := by rw [ns_len]; exact ho
  have DE : Hid (∀ W, Below w.heap.size w W → Calls Try.prog 13 #[tb (y : Int) A N cap, .slice B nb cb, .int .i64 (n : Int)] W (Fres W (0, o))) := Lib.hid (fun W hb => by
    rw [← hRR]
    exact fdec_any W y A l N cap hN (by omega) (hR.below hb) B D nb cb hD (by omega) (Bt.Rv.below hRB hb) n)
  have D2 : Hid (∀ W B nb cb, Below w.heap.size w W → X0.length = nb → Bt.Rd W B X0 → Calls Try.prog 13 #[tb (y : Int) A N cap, .slice B nb cb, .int .i64 (n : Int)] W (Fres W (0, o))) := Lib.hid (fun W B nb cb hb hl hr => by
    have := fdec_any W (y : Int) A l N cap hN (by omega) (hR.below hb) B X0 nb cb hl (by omega) hr (n : Int)
    rw [← hX0, ← ho, fdR_back hv hos (by omega)] at this
    rw [← ho]
    exact this)
  have EN : Hid (∀ W G c, Below w.heap.size w W → n ≤ c → Ri W G (ns o) → Calls Try.prog 16 #[tb (y : Int) A N cap, .slice G n c] W (Eres W (0, X0))) := Lib.hid (fun W G c hb hgc hr => by
    have := fenc_any W (y : Int) A l N cap hN (by omega) hc (hR.below hb) G (ns o) n c hol (by omega) hgc hr
    rw [ns, feR_ok hv hos (by omega), hX0] at this
    exact this)
  have hon : (ns o).length ≤ 1000 := by omega
  have SM : Hid (∀ W A1 n1 c1 A2 n2 c2, (ns o).length = n1 → (ns o).length = n2 → Ri W A1 (ns o) → Ri W A2 (ns o) → Calls Try.prog 15 #[.slice A1 n1 c1, .slice A2 n2 c2] W fun e w' => e = .returned (.bool true) ∧ Below W.heap.size W w') := Lib.hid (fun W A1 n1 c1 A2 n2 c2 h1 h2 h3 h4 => by
    have := sameI_any W A1 A2 (ns o) (ns o) n1 c1 n2 c2 h1 h2 (by omega) h3 h4
    rwa [decide_eq_true rfl] at this)
  have HS : Hid (∀ W, Below w.heap.size w W → Calls Try.prog 18 #[tb (y : Int) A N cap, .slice M nm cm] W fun e w' => e = .returned (.bool true) ∧ Below W.heap.size W w') := Lib.hid (fun W hb => by
    have := hasl_any W (y : Int) A l N cap hN (by omega) (hR.below hb) M m nm cm hM (by omega) (hRM.below hb)
    rw [hh] at this
    exact this)
  have S2 : Hid (∀ W A2 n2 c2, Below w.heap.size w W → (ns o).length = n2 → Ri W A2 (ns o) → Calls Try.prog 15 #[.slice M nm cm, .slice A2 n2 c2] W fun e w' => e = .returned (.bool false) ∧ Below W.heap.size W w') := Lib.hid (fun W A2 n2 c2 hb h5 h6 => by
    have := sameI_any W M A2 m (ns o) nm cm n2 c2 hM h5 (by omega) (hRM.below hb) h6
    rwa [decide_eq_false hmo] at this)
  obtain ⟨tt, htt, hts, _⟩ := hasA_nat hv hh
  have htl : tt.length = n := by rw [← hne, ← hM, htt, List.length_map]
  obtain ⟨X1, hX1⟩ : ∃ X1, fby y l tt = X1 := ⟨_, rfl⟩
  have E2 : Hid (∀ W, Below w.heap.size w W → Calls Try.prog 16 #[tb (y : Int) A N cap, .slice M nm cm] W (Eres W (0, X1))) := Lib.hid (fun W hb => by
    have := fenc_any W (y : Int) A l N cap hN (by omega) hc (hR.below hb) M m nm cm hM (by omega) hcm (hRM.below hb)
    rw [htt, feR_ok hv hts (by omega), hX1] at this
    exact this)
  have HXX : Hid (Bt.sameB X0 X1 = false) := Lib.hid (by
    unfold Bt.sameB
    refine decide_eq_false (fun e => hmo ?_)
    rw [← hX0, ← hX1] at e
    rw [htt, fby_inj hv hos hts (by omega) (by omega) e]
    rfl)
  have HOL := Lib.hid hol
  clear b1 t1 hR hRB hN hD hRR hv hos hc hX0 hXl hol hon ho hM hRM hh hmo htt hts htl hX1 hcm
  clear hne
  go_enter Try.func9, Try.ntmps9
  go_wp2_with (first
    | (go_at_call 16; refine (E2.out _ B7.out).mono ?_; intro e w8 hf; obtain ⟨AY, nY, cY, rfl, hb, hr, hl, hc, ho⟩ := hf.out; have LY := Lib.hid hl; have CY := Lib.hid hc; have OY := Lib.hid ho; have B8 := Lib.hid (below_on B7.out (Nat.le_refl _) hb); have T8 := Lib.hid (T7.out.below hb); have d80 := T8.out.c0; have d81 := T8.out.c1; have S_8 := Lib.hid (S_7.out.below hb); have X_8 := Lib.hid (Bt.Rv.below X_7.out hb); have R_8 := Lib.hid (R_7.out.below hb); have Y_8 := Lib.hid hr; clear hb hf hr hl hc ho)
    | (go_at_call 15; refine (S2.out _ _ _ _ B6.out HOL.out S_6.out).mono ?_; rintro e w7 ⟨rfl, hb⟩; have B7 := Lib.hid (below_on B6.out (Nat.le_refl _) hb); have T7 := Lib.hid (T6.out.below hb); have d70 := T7.out.c0; have d71 := T7.out.c1; have S_7 := Lib.hid (S_6.out.below hb); have X_7 := Lib.hid (Bt.Rv.below X_6.out hb); have R_7 := Lib.hid (R_6.out.below hb); clear hb )
    | (go_at_call 13; refine (D2.out _ _ _ _ B3.out LX.out X_3.out).mono ?_; intro e w4 hf; obtain ⟨AR, nR, cR, rfl, hb, hr, hl, hc, ho⟩ := hf.out; have LR := Lib.hid hl; have CR := Lib.hid hc; have OR := Lib.hid ho; obtain rfl : n = nR := HOL.out.symm.trans hl; have B4 := Lib.hid (below_on B3.out (Nat.le_refl _) hb); have T4 := Lib.hid (T3.out.below hb); have d40 := T4.out.c0; have d41 := T4.out.c1; have S_4 := Lib.hid (S_3.out.below hb); have X_4 := Lib.hid (Bt.Rv.below X_3.out hb); have R_4 := Lib.hid hr; clear hb hf hr hl hc ho)
    | (go_at_call 16; refine (EN.out _ _ _ B2.out CS.out S_2.out).mono ?_; intro e w3 hf; obtain ⟨AX, nX, cX, rfl, hb, hr, hl, hc, ho⟩ := hf.out; have LX := Lib.hid hl; have CX := Lib.hid hc; have OX := Lib.hid ho; have B3 := Lib.hid (below_on B2.out (Nat.le_refl _) hb); have T3 := Lib.hid (T2.out.below hb); have d30 := T3.out.c0; have d31 := T3.out.c1; have S_3 := Lib.hid (S_2.out.below hb); have X_3 := Lib.hid hr; clear hb hf hr hl hc ho)
    | (go_at_call 13; refine (DE.out _ B1.out).mono ?_; intro e w2 hf; obtain ⟨AS, nS, cS, rfl, hb, hr, hl, hc, ho⟩ := hf.out; have LS := Lib.hid hl; have CS := Lib.hid hc; have OS := Lib.hid ho; obtain rfl : n = nS := HOL.out.symm.trans hl; have B2 := Lib.hid (below_on B1.out (Nat.le_refl _) hb); have T2 := Lib.hid (T1.out.below hb); have d20 := T2.out.c0; have d21 := T2.out.c1; have S_2 := Lib.hid hr; clear hb hf hr hl hc ho)
    | (go_at_call 15; refine (SM.out _ _ _ _ _ _ _ HOL.out HOL.out S_4.out R_4.out).mono ?_; rintro e w5 ⟨rfl, hb⟩; have B5 := Lib.hid (below_on B4.out (Nat.le_refl _) hb); have T5 := Lib.hid (T4.out.below hb); have d50 := T5.out.c0; have d51 := T5.out.c1; have S_5 := Lib.hid (S_4.out.below hb); have X_5 := Lib.hid (Bt.Rv.below X_4.out hb); have R_5 := Lib.hid (R_4.out.below hb); clear hb )
    | (go_at_call 18; refine (HS.out _ B5.out).mono ?_; rintro e w6 ⟨rfl, hb⟩; have B6 := Lib.hid (below_on B5.out (Nat.le_refl _) hb); have T6 := Lib.hid (T5.out.below hb); have d60 := T6.out.c0; have d61 := T6.out.c1; have S_6 := Lib.hid (S_5.out.below hb); have X_6 := Lib.hid (Bt.Rv.below X_5.out hb); have R_6 := Lib.hid (R_5.out.below hb); clear hb )
    | (go_at_call 20; refine (Bt.same_b _ _ _ X0 X1 _ _ LX.out LY.out _ _ X_8.out Y_8.out _ HXX.out).mono ?_; rintro e wz ⟨rfl, rfl⟩)
    | (go_at_call 12; refine (known_any _).mono ?_; rintro e w9 ⟨rfl, hb9⟩; have B9 := Lib.hid (below_on B8.out (Nat.le_refl _) hb9); clear hb9))
  go_ret
  exact ⟨rfl, B9.out⟩

theorem walk (y : Int) (A : Option Addr) (l : List Int) (cap : Nat) (B : Option Addr) (D : List UInt8) (cb : Nat) (n : Int) (M : Option Addr) (m : List Int) (cm : Nat) (w : World) (hR : Ri w A l) (_ : ∀ z ∈ l, -9223372036854775808 ≤ z ∧ z ≤ 9223372036854775807) (hc : l.length ≤ cap) (hRB : Bt.Rd w B D) (_ : D.length ≤ 140737488351232) (_ : D.length ≤ cb) (_ : (Lit.int IntKind.i64 n).wf = true) (hRM : Ri w M m) (_ : ∀ z ∈ m, -9223372036854775808 ≤ z ∧ z ≤ 9223372036854775807) (hcm : m.length ≤ cm) :
    Calls Try.prog 9 #[tb y A l.length cap, .slice B D.length cb, .int .i64 n, .slice M m.length cm] w fun e w' => e = .returned (.bool true) ∧ Below w.heap.size w w' := by
  by_cases h : 300 < l.length
  · exact walk_a y A _ cap B _ cb n M _ cm w h
  · by_cases h2 : 400 < D.length
    · exact walk_b y A _ cap B _ cb n M _ cm w (by omega) h2
    · by_cases h3 : 300 < n
      · exact walk_c y A _ cap B _ cb n M _ cm w (by omega) (by omega) h3
      · by_cases h4 : 300 < m.length
        · exact walk_d y A _ cap B _ cb n M _ cm w (by omega) (by omega) (by omega) h4
        · obtain ⟨⟨q, o⟩, hq⟩ : ∃ R, fdR y l D n = R := ⟨_, rfl⟩
          by_cases h0 : q = 0
          · subst h0
            obtain ⟨k, rfl, hv, hl, _, hs, _⟩ := fdR_syms hq
            have hqn := hq
            rw [← hl] at hqn
            rw [← hl]
            by_cases h5 : m.length = o.length
            · cases hh : hasA l m with
              | false => exact walk_has k A l _ cap B D _ cb o.length M m _ cm w rfl hc hR rfl hRB rfl hRM (by omega) (by omega) (by omega) (by omega) hv o hqn rfl hs h5 hh
              | true =>
                by_cases h6 : m = ns o
                · exact walk_eq k A l _ cap B D _ cb o.length M m _ cm w rfl hc hR rfl hRB rfl hRM (by omega) (by omega) (by omega) (by omega) hv o hqn rfl hs h5 hh h6
                · exact walk_ne k A l _ cap B D _ cb o.length M m _ cm w rfl hc hR rfl hRB rfl hcm hRM (by omega) (by omega) (by omega) (by omega) hv o hqn rfl hs h5 hh h6
            · exact walk_len k A l _ cap B D _ cb o.length M m _ cm w rfl hc hR rfl hRB rfl hRM (by omega) (by omega) (by omega) (by omega) hv o hqn rfl hs h5
          · obtain ⟨rfl, _⟩ := fdR_err hq h0
            exact walk_e y A l _ cap B D _ cb n M _ cm q w rfl hR rfl hRB (by omega) (by omega) (by omega) (by omega) hq h0
set_option maxRecDepth 100000 in
theorem lifted (os : Os) (started : os.Started) (H : Type) (enc : TypeId × Value → H) :
    ReturnsInHanded {} Try.checked os 9 .any (Rows.flowAgainSpec.pre6 enc Try.prog Try.f9 Rows.flowAgainRow.domain false) (Rows.flowAgainSpec.post enc Try.prog Try.f9 false true false false) := by
  refine returnsInHanded_of_change_sized (C := Try.checked) ownB started (by kernel_rfl) Try.func9
    (ChangeSpec.witness6 (enc := enc) (C := Try.checked) false ⟨#[], #[.agg #[.int .i64 0, .slice none 0 0], .slice none 0 0, .int .i64 0, .slice none 0 0], []⟩ 8 (by kernel_rfl) (by kernel_rfl) (by kernel_rfl) (by kernel_rfl)) ?_
  intro W base args ds gs before hval0 hW _ hsz0 _
  have hsz : (DataW.weightsEach Try.prog (Try.f9.params.toList ++ Rows.flowAgainSpec.plain.varTypes Try.prog) (ds ++ gs)).all (· ≤ reachBytes) = true := hsz0
  clear hsz0
  have hval : ∀ (j : Nat) t v, Try.f9.params[j]? = some t → args[j]? = some v → Value.okWide Try.prog W .any base t v := hval0
  have hW' := hW
  obtain ⟨p, q, hA0, hV, rfl, hfz, hnd⟩ := hW
  have hA : DataW.TrodAll enc Try.prog W 0 (fun _ => true) true Try.f9.params.toList args.toList ds p := hA0
  rw [Try.params9] at hA hval hsz
  obtain ⟨v0, vs0, d0, ds0, p0, q0, hargs, rfl, rfl, h0, r0⟩ := trodAll_cons hA
  obtain ⟨v1, vs1, d1, ds1, p1, q1, rfl, rfl, rfl, h1, r1⟩ := trodAll_cons r0
  obtain ⟨v2, vs2, d2, ds2, p2, q2, rfl, rfl, rfl, h2, r2⟩ := trodAll_cons r1
  obtain ⟨v3, vs3, d3, ds3, p3, q3, rfl, rfl, rfl, h3, r3⟩ := trodAll_cons r2
  obtain ⟨rfl, rfl, rfl⟩ := trodAll_nil r3
  obtain rfl : args = #[v0, v1, v2, v3] := by cases args; simp_all
  obtain ⟨rfl, rfl⟩ := trodVars_none hV
  obtain ⟨cs0, rfl, hcs0⟩ := okWide_struct Try.underlying24 (hval 0 24 v0 rfl rfl)
  have k0 := h0
  have lt0 : ∀ x ∈ p0, x.block < W.heap.size := by obtain ⟨m, hm⟩ := k0; exact DataW.trod_lt m _ _ _ hm
  obtain ⟨y0, a0, len0, cap0, l0, rfl, rfl, hc0, ri0, wi0⟩ := open_tab hcs0 h0
  obtain ⟨a1, len1, cap1, rfl⟩ := okWide_slice Try.underlying25 (hval 1 25 v1 rfl rfl)
  have k1 := h1
  have lt1 : ∀ x ∈ p1, x.block < W.heap.size := by obtain ⟨m, hm⟩ := k1; exact DataW.trod_lt m _ _ _ hm
  obtain ⟨l1, rfl, hc1, rd1, hd1⟩ := open_bytes h1
  have hs1 : l1.length ≤ 140737488351232 := by
    rcases hd1 with ⟨h, _⟩ | ⟨es, sp, rfl, h⟩
    · omega
    · have := sized_slice hsz (j := 1) (t := 25) (e := 5) rfl rfl Try.underlying25
      rw [bytes_byte] at this
      simp only [reachBytes] at this
      omega
  obtain ⟨a2, rfl, rfl, rfl, w2⟩ := open_int Try.underlying3 (hval 2 3 v2 rfl rfl) h2
  obtain ⟨a3, len3, cap3, rfl⟩ := okWide_slice Try.underlying22 (hval 3 22 v3 rfl rfl)
  have k3 := h3
  have lt3 : ∀ x ∈ p3, x.block < W.heap.size := by obtain ⟨m, hm⟩ := k3; exact DataW.trod_lt m _ _ _ hm
  obtain ⟨l3, rfl, hc3, ri3, wi3⟩ := open_intl h3
  clear hA0 hval0
  refine (walk y0 a0 l0 cap0 a1 l1 cap1 a2 a3 l3 cap3 W ri0 wi0 hc0 rd1 hs1 hc1 w2 ri3 wi3 hc3).mono fun e W' ⟨he, bel⟩ => ?_
  subst he
  exact ⟨_, rfl, _, _, _, [], _, [], hW', trodAll_mk1 (shut_bool Try.underlying4 _), (trodAll_cons_mk (Below.trod laidOut (by kernel_rfl) (of_decide_eq_true (by kernel_rfl)) k0 bel lt0) (trodAll_cons_mk (Below.trod laidOut (by kernel_rfl) (of_decide_eq_true (by kernel_rfl)) k1 bel lt1) (trodAll_cons_mk (shut_int Try.underlying3 w2) (trodAll_cons_mk (Below.trod laidOut (by kernel_rfl) (of_decide_eq_true (by kernel_rfl)) k3 bel lt3) trodAll_mk0)))), rfl, bel.frame _, fun h => by cases h⟩

theorem proved : Rows.FlowAgainSaid :=
  OpenClaim.holds_of_wide 9 Try.f9 rfl rfl rfl rfl rfl rfl rfl ⟨rfl, rfl, rfl, rfl, rfl⟩ rfl rfl rfl rfl rfl (by kernel_rfl) Try.func9 (by kernel_rfl)
    (of_decide_eq_true (by kernel_rfl)) (by unfold Func.isWrapper; rw [if_neg (by decide +kernel)]; exact ⟨rfl, rfl⟩)
    (fun os started H enc _ => lifted os started H enc)

#print axioms proved

end Go.Proofs.Ytgokbpnikgbfgaa.flowAgain
