/-
  Proved: the law StatesUnlike returns true for all tables, states and symbols: two states have the same predecessor with the same bits only if they are equal. No condition.
-/
import Derived.BigQuiet
import Derived.Deep.QuietTactic
import Derived.Test.YtonapehlhkoplaaBak
namespace Go.Proofs.Ytonapehlhkoplaa.statesUnlike
open Go.ChangeShapes Go.WideShapes Go.ChangeAt Go.RowKit

set_option maxRecDepth 100000 in
set_option maxHeartbeats 4000000 in
theorem walk_long (y : Int) (A : Option Addr) (N cap : Nat) (a : Int) (b2 : Int) (z : Int) (w : World) (h : 300 < N) :
    Calls Try.prog 7 #[tb y A N cap, .int .i64 a, .int .i64 b2, .int .i64 z] w fun e w' => e = .returned (.bool true) ∧ Below w.heap.size w w' := by
  have hd : decide ((300 : Int) < (N : Int)) = true := decide_eq_true (by omega)
  have b1 := below_new w (.cells #[.int .i64 y, .slice A N cap] 24)
  have t1 := Tb.new w y A N cap
  obtain ⟨w1, hw1⟩ : ∃ w1, w.alloc (.cells #[.int .i64 y, .slice A N cap] 24) = w1 := ⟨_, rfl⟩
  rw [hw1] at b1 t1
  have c0 := t1.c0
  have c1 := t1.c1
  have KN := Lib.hid (known_any w1)
  have B0 := Lib.hid b1
  clear b1 t1
  go_enter Try.func7, Try.ntmps7
  go_wp2_with (go_at_call 11; refine KN.out.mono ?_; rintro e w2 ⟨rfl, hb2⟩; have B1 := Lib.hid (below_on B0.out (Nat.le_refl _) hb2); clear hb2)
  go_ret
  exact ⟨rfl, B1.out⟩

set_option maxRecDepth 100000 in
set_option maxHeartbeats 4000000 in
theorem walk_bad (y : Int) (A : Option Addr) (l : List Int) (N cap : Nat) (a : Int) (b2 : Int) (z : Int) (w : World) (hN : l.length = N) (h : N ≤ 300) (hv : vt y l 256 9 = false) (hR : Ri w A l) :
    Calls Try.prog 7 #[tb y A N cap, .int .i64 a, .int .i64 b2, .int .i64 z] w fun e w' => e = .returned (.bool true) ∧ Below w.heap.size w w' := by
  have hd : decide ((300 : Int) < (N : Int)) = false := decide_eq_false (by omega)
  have b1 := below_new w (.cells #[.int .i64 y, .slice A N cap] 24)
  have t1 := Tb.new w y A N cap
  obtain ⟨w1, hw1⟩ : ∃ w1, w.alloc (.cells #[.int .i64 y, .slice A N cap] 24) = w1 := ⟨_, rfl⟩
  rw [hw1] at b1 t1
  have c0 := t1.c0
  have c1 := t1.c1
  have MY : Hid (Calls Try.prog 16 #[tb y A N cap, .int .i64 256, .int .i64 9] w1 fun e w' => e = .returned (.int .i64 13) ∧ Below w1.heap.size w1 w') := Lib.hid (by
    have := may_any w1 y 256 9 A l N cap hN (by omega) (hR.below b1)
    rw [hv] at this
    exact this)
  have B0 := Lib.hid b1
  clear b1 t1 hR hN hv
  go_enter Try.func7, Try.ntmps7
  go_wp2_with (first
    | (go_at_call 16; refine MY.out.mono ?_; rintro e w2 ⟨rfl, hb2⟩; have B2 := Lib.hid (below_on B0.out (Nat.le_refl _) hb2); clear hb2)
    | (go_at_call 11; refine (known_any w2).mono ?_; rintro e w3 ⟨rfl, hb3⟩; have B3 := Lib.hid (below_on B2.out (Nat.le_refl _) hb3); clear hb3))
  go_ret
  exact ⟨rfl, B3.out⟩

set_option maxRecDepth 100000 in
set_option maxHeartbeats 4000000 in
theorem walk_none (y s : Nat) (A : Option Addr) (l : List Int) (N cap : Nat) (a : Int) (b2 : Int) (z : Int) (w : World) (hN : l.length = N) (hv : Vt y l) (hse : 2 ^ y = s) (hR : Ri w A l) (hH : hsb l z = false) :
    Calls Try.prog 7 #[tb y A N cap, .int .i64 a, .int .i64 b2, .int .i64 z] w fun e w' => e = .returned (.bool true) ∧ Below w.heap.size w w' := by
  have hN2 : N ≤ 256 := by rw [← hN]; exact hv.len
  have hy9 := hv.log
  have hs5 : s ≤ 512 := by rw [← hse]; exact hv.size
  have hs1 : 1 ≤ s := by rw [← hse]; exact Nat.one_le_two_pow
  have hd : decide ((300 : Int) < (N : Int)) = false := decide_eq_false (by omega)
  have b1 := below_new w (.cells #[.int .i64 (y : Int), .slice A N cap] 24)
  have t1 := Tb.new w (y : Int) A N cap
  obtain ⟨w1, hw1⟩ : ∃ w1, w.alloc (.cells #[.int .i64 (y : Int), .slice A N cap] 24) = w1 := ⟨_, rfl⟩
  rw [hw1] at b1 t1
  have c0 := t1.c0
  have c1 := t1.c1
  have hR1 := hR.below b1
  have MY : Hid (Calls Try.prog 16 #[tb y A N cap, .int .i64 256, .int .i64 9] w1 fun e w' => e = .returned (.int .i64 0) ∧ Below w1.heap.size w1 w') := Lib.hid (by
    have := may_any w1 (y : Int) 256 9 A l N cap hN (by omega) hR1
    rw [vt_iff.2 ⟨y, rfl, hv⟩] at this
    exact this)
  have BG : Hid (∀ W, Below w1.heap.size w1 W → Calls Try.prog 17 #[tb y A N cap] W fun e w' => ∃ b, e = .returned (.pointer (some ⟨b, 0, none⟩)) ∧ Cdr w' W.heap.size b y s N l ∧ Below W.heap.size W w') := Lib.hid (fun W hb => begin_ok W y s A l N cap hN hv hse (hR1.below hb))
  have B0 := Lib.hid b1
  have T1 := Lib.hid t1
  have HS : Hid (∀ W, Below w1.heap.size w1 W → Calls Try.prog 23 #[tb y A N cap, .int .i64 z] W fun e w' => e = .returned (.bool false) ∧ Below W.heap.size W w') := Lib.hid (fun W hb => by
    have := has_any W (y : Int) A l N cap z hN (by omega) (hR1.below hb)
    rwa [hH] at this)
  clear b1 t1 hR hR1 hN hv hse BG hH
  go_enter Try.func7, Try.ntmps7
  go_wp2_with (first
    | (go_at_call 16; refine MY.out.mono ?_; rintro e w2 ⟨rfl, hb2⟩; have B2 := Lib.hid hb2; have q2 := T1.out.below hb2; have d0 := q2.c0; have d1 := q2.c1; clear hb2 q2)
    | (go_at_call 23; refine (HS.out w2 B2.out).mono ?_; rintro e w2 ⟨rfl, hbh⟩; have B2 := Lib.hid (below_on B2.out (Nat.le_refl _) hbh); have qh := T1.out.below B2.out; have d0 := qh.c0; have d1 := qh.c1; clear hbh qh)
    | (go_at_call 11; refine (known_any w2).mono ?_; rintro e w9 ⟨rfl, hb9⟩; have B9 := Lib.hid (below_on B0.out (Nat.le_refl _) (below_on B2.out (Nat.le_refl _) hb9)); clear hb9))
  go_ret
  exact ⟨rfl, B9.out⟩

set_option maxRecDepth 100000 in
set_option maxHeartbeats 4000000 in
theorem walk_a0 (y s : Nat) (A : Option Addr) (l : List Int) (N cap : Nat) (a : Int) (b2 : Int) (z : Int) (w : World) (hN : l.length = N) (hv : Vt y l) (hse : 2 ^ y = s) (hR : Ri w A l) (hH : hsb l z = true) (h0 : a < 0) :
    Calls Try.prog 7 #[tb y A N cap, .int .i64 a, .int .i64 b2, .int .i64 z] w fun e w' => e = .returned (.bool true) ∧ Below w.heap.size w w' := by
  have hN2 : N ≤ 256 := by rw [← hN]; exact hv.len
  have hy9 := hv.log
  have hs5 : s ≤ 512 := by rw [← hse]; exact hv.size
  have hs1 : 1 ≤ s := by rw [← hse]; exact Nat.one_le_two_pow
  have hd : decide ((300 : Int) < (N : Int)) = false := decide_eq_false (by omega)
  have b1 := below_new w (.cells #[.int .i64 (y : Int), .slice A N cap] 24)
  have t1 := Tb.new w (y : Int) A N cap
  obtain ⟨w1, hw1⟩ : ∃ w1, w.alloc (.cells #[.int .i64 (y : Int), .slice A N cap] 24) = w1 := ⟨_, rfl⟩
  rw [hw1] at b1 t1
  have c0 := t1.c0
  have c1 := t1.c1
  have hR1 := hR.below b1
  have MY : Hid (Calls Try.prog 16 #[tb y A N cap, .int .i64 256, .int .i64 9] w1 fun e w' => e = .returned (.int .i64 0) ∧ Below w1.heap.size w1 w') := Lib.hid (by
    have := may_any w1 (y : Int) 256 9 A l N cap hN (by omega) hR1
    rw [vt_iff.2 ⟨y, rfl, hv⟩] at this
    exact this)
  have BG : Hid (∀ W, Below w1.heap.size w1 W → Calls Try.prog 17 #[tb y A N cap] W fun e w' => ∃ b, e = .returned (.pointer (some ⟨b, 0, none⟩)) ∧ Cdr w' W.heap.size b y s N l ∧ Below W.heap.size W w') := Lib.hid (fun W hb => begin_ok W y s A l N cap hN hv hse (hR1.below hb))
  have B0 := Lib.hid b1
  have T1 := Lib.hid t1
  have HS : Hid (∀ W, Below w1.heap.size w1 W → Calls Try.prog 23 #[tb y A N cap, .int .i64 z] W fun e w' => e = .returned (.bool true) ∧ Below W.heap.size W w') := Lib.hid (fun W hb => by
    have := has_any W (y : Int) A l N cap z hN (by omega) (hR1.below hb)
    rwa [hH] at this)
  have k0 : decide (a < 0) = true := decide_eq_true h0
  clear b1 t1 hR hR1 hN hv hse BG hH
  go_enter Try.func7, Try.ntmps7
  go_wp2_with (first
    | (go_at_call 16; refine MY.out.mono ?_; rintro e w2 ⟨rfl, hb2⟩; have B2 := Lib.hid hb2; have q2 := T1.out.below hb2; have d0 := q2.c0; have d1 := q2.c1; clear hb2 q2)
    | (go_at_call 23; refine (HS.out w2 B2.out).mono ?_; rintro e w2 ⟨rfl, hbh⟩; have B2 := Lib.hid (below_on B2.out (Nat.le_refl _) hbh); have qh := T1.out.below B2.out; have d0 := qh.c0; have d1 := qh.c1; clear hbh qh)
    | (go_at_call 11; refine (known_any w2).mono ?_; rintro e w9 ⟨rfl, hb9⟩; have B9 := Lib.hid (below_on B0.out (Nat.le_refl _) (below_on B2.out (Nat.le_refl _) hb9)); clear hb9))
  go_ret
  exact ⟨rfl, B9.out⟩

set_option maxRecDepth 100000 in
set_option maxHeartbeats 4000000 in
theorem walk_b0 (y s : Nat) (A : Option Addr) (l : List Int) (N cap : Nat) (a : Int) (b2 : Int) (z : Int) (w : World) (hN : l.length = N) (hv : Vt y l) (hse : 2 ^ y = s) (hR : Ri w A l) (hH : hsb l z = true) (h0 : 0 ≤ a) (h1 : b2 < 0) :
    Calls Try.prog 7 #[tb y A N cap, .int .i64 a, .int .i64 b2, .int .i64 z] w fun e w' => e = .returned (.bool true) ∧ Below w.heap.size w w' := by
  have hN2 : N ≤ 256 := by rw [← hN]; exact hv.len
  have hy9 := hv.log
  have hs5 : s ≤ 512 := by rw [← hse]; exact hv.size
  have hs1 : 1 ≤ s := by rw [← hse]; exact Nat.one_le_two_pow
  have hd : decide ((300 : Int) < (N : Int)) = false := decide_eq_false (by omega)
  have b1 := below_new w (.cells #[.int .i64 (y : Int), .slice A N cap] 24)
  have t1 := Tb.new w (y : Int) A N cap
  obtain ⟨w1, hw1⟩ : ∃ w1, w.alloc (.cells #[.int .i64 (y : Int), .slice A N cap] 24) = w1 := ⟨_, rfl⟩
  rw [hw1] at b1 t1
  have c0 := t1.c0
  have c1 := t1.c1
  have hR1 := hR.below b1
  have MY : Hid (Calls Try.prog 16 #[tb y A N cap, .int .i64 256, .int .i64 9] w1 fun e w' => e = .returned (.int .i64 0) ∧ Below w1.heap.size w1 w') := Lib.hid (by
    have := may_any w1 (y : Int) 256 9 A l N cap hN (by omega) hR1
    rw [vt_iff.2 ⟨y, rfl, hv⟩] at this
    exact this)
  have BG : Hid (∀ W, Below w1.heap.size w1 W → Calls Try.prog 17 #[tb y A N cap] W fun e w' => ∃ b, e = .returned (.pointer (some ⟨b, 0, none⟩)) ∧ Cdr w' W.heap.size b y s N l ∧ Below W.heap.size W w') := Lib.hid (fun W hb => begin_ok W y s A l N cap hN hv hse (hR1.below hb))
  have B0 := Lib.hid b1
  have T1 := Lib.hid t1
  have HS : Hid (∀ W, Below w1.heap.size w1 W → Calls Try.prog 23 #[tb y A N cap, .int .i64 z] W fun e w' => e = .returned (.bool true) ∧ Below W.heap.size W w') := Lib.hid (fun W hb => by
    have := has_any W (y : Int) A l N cap z hN (by omega) (hR1.below hb)
    rwa [hH] at this)
  have k0 : decide (a < 0) = false := decide_eq_false (by omega)
  have k1 : decide (b2 < 0) = true := decide_eq_true h1
  clear b1 t1 hR hR1 hN hv hse BG hH
  go_enter Try.func7, Try.ntmps7
  go_wp2_with (first
    | (go_at_call 16; refine MY.out.mono ?_; rintro e w2 ⟨rfl, hb2⟩; have B2 := Lib.hid hb2; have q2 := T1.out.below hb2; have d0 := q2.c0; have d1 := q2.c1; clear hb2 q2)
    | (go_at_call 23; refine (HS.out w2 B2.out).mono ?_; rintro e w2 ⟨rfl, hbh⟩; have B2 := Lib.hid (below_on B2.out (Nat.le_refl _) hbh); have qh := T1.out.below B2.out; have d0 := qh.c0; have d1 := qh.c1; clear hbh qh)
    | (go_at_call 11; refine (known_any w2).mono ?_; rintro e w9 ⟨rfl, hb9⟩; have B9 := Lib.hid (below_on B0.out (Nat.le_refl _) (below_on B2.out (Nat.le_refl _) hb9)); clear hb9))
  go_ret
  exact ⟨rfl, B9.out⟩

set_option maxRecDepth 100000 in
set_option maxHeartbeats 4000000 in
theorem walk_a1 (y s : Nat) (A : Option Addr) (l : List Int) (N cap : Nat) (a : Int) (b2 : Int) (z : Int) (w : World) (hN : l.length = N) (hv : Vt y l) (hse : 2 ^ y = s) (hR : Ri w A l) (hH : hsb l z = true) (h0 : (s : Int) ≤ a) (h1 : 0 ≤ b2) :
    Calls Try.prog 7 #[tb y A N cap, .int .i64 a, .int .i64 b2, .int .i64 z] w fun e w' => e = .returned (.bool true) ∧ Below w.heap.size w w' := by
  have hN2 : N ≤ 256 := by rw [← hN]; exact hv.len
  have hy9 := hv.log
  have hs5 : s ≤ 512 := by rw [← hse]; exact hv.size
  have hs1 : 1 ≤ s := by rw [← hse]; exact Nat.one_le_two_pow
  have hd : decide ((300 : Int) < (N : Int)) = false := decide_eq_false (by omega)
  have b1 := below_new w (.cells #[.int .i64 (y : Int), .slice A N cap] 24)
  have t1 := Tb.new w (y : Int) A N cap
  obtain ⟨w1, hw1⟩ : ∃ w1, w.alloc (.cells #[.int .i64 (y : Int), .slice A N cap] 24) = w1 := ⟨_, rfl⟩
  rw [hw1] at b1 t1
  have c0 := t1.c0
  have c1 := t1.c1
  have hR1 := hR.below b1
  have MY : Hid (Calls Try.prog 16 #[tb y A N cap, .int .i64 256, .int .i64 9] w1 fun e w' => e = .returned (.int .i64 0) ∧ Below w1.heap.size w1 w') := Lib.hid (by
    have := may_any w1 (y : Int) 256 9 A l N cap hN (by omega) hR1
    rw [vt_iff.2 ⟨y, rfl, hv⟩] at this
    exact this)
  have BG : Hid (∀ W, Below w1.heap.size w1 W → Calls Try.prog 17 #[tb y A N cap] W fun e w' => ∃ b, e = .returned (.pointer (some ⟨b, 0, none⟩)) ∧ Cdr w' W.heap.size b y s N l ∧ Below W.heap.size W w') := Lib.hid (fun W hb => begin_ok W y s A l N cap hN hv hse (hR1.below hb))
  have B0 := Lib.hid b1
  have T1 := Lib.hid t1
  have HS : Hid (∀ W, Below w1.heap.size w1 W → Calls Try.prog 23 #[tb y A N cap, .int .i64 z] W fun e w' => e = .returned (.bool true) ∧ Below W.heap.size W w') := Lib.hid (fun W hb => by
    have := has_any W (y : Int) A l N cap z hN (by omega) (hR1.below hb)
    rwa [hH] at this)
  have SZ : Hid (∀ W', Calls Try.prog 24 #[.int .i64 (y : Int)] W' fun e w' => e = .returned (.int .i64 (s : Int)) ∧ w' = W') := Lib.hid (fun W' => by
    have := size_any W' (y : Int)
    rwa [siz_pow hy9 hse] at this)
  have k0 : decide (a < 0) = false := decide_eq_false (by omega)
  have k1 : decide (b2 < 0) = false := decide_eq_false (by omega)
  have k2 : decide ((s : Int) ≤ a) = true := decide_eq_true h0
  clear b1 t1 hR hR1 hN hv hse BG hH
  go_enter Try.func7, Try.ntmps7
  go_wp2_with (first
    | (go_at_call 16; refine MY.out.mono ?_; rintro e w2 ⟨rfl, hb2⟩; have B2 := Lib.hid hb2; have q2 := T1.out.below hb2; have d0 := q2.c0; have d1 := q2.c1; clear hb2 q2)
    | (go_at_call 23; refine (HS.out w2 B2.out).mono ?_; rintro e w2 ⟨rfl, hbh⟩; have B2 := Lib.hid (below_on B2.out (Nat.le_refl _) hbh); have qh := T1.out.below B2.out; have d0 := qh.c0; have d1 := qh.c1; clear hbh qh)
    | (go_at_call 24; refine (SZ.out _).mono ?_; rintro e w2 ⟨rfl, rfl⟩)
    | (go_at_call 11; refine (known_any w2).mono ?_; rintro e w9 ⟨rfl, hb9⟩; have B9 := Lib.hid (below_on B0.out (Nat.le_refl _) (below_on B2.out (Nat.le_refl _) hb9)); clear hb9))
  go_ret
  exact ⟨rfl, B9.out⟩

set_option maxRecDepth 100000 in
set_option maxHeartbeats 4000000 in
theorem walk_b1 (y s : Nat) (A : Option Addr) (l : List Int) (N cap : Nat) (a : Int) (b2 : Int) (z : Int) (w : World) (hN : l.length = N) (hv : Vt y l) (hse : 2 ^ y = s) (hR : Ri w A l) (hH : hsb l z = true) (h0 : 0 ≤ a) (h2 : a < (s : Int)) (h1 : (s : Int) ≤ b2) :
    Calls Try.prog 7 #[tb y A N cap, .int .i64 a, .int .i64 b2, .int .i64 z] w fun e w' => e = .returned (.bool true) ∧ Below w.heap.size w w' := by
  have hN2 : N ≤ 256 := by rw [← hN]; exact hv.len
  have hy9 := hv.log
  have hs5 : s ≤ 512 := by rw [← hse]; exact hv.size
  have hs1 : 1 ≤ s := by rw [← hse]; exact Nat.one_le_two_pow
  have hd : decide ((300 : Int) < (N : Int)) = false := decide_eq_false (by omega)
  have b1 := below_new w (.cells #[.int .i64 (y : Int), .slice A N cap] 24)
  have t1 := Tb.new w (y : Int) A N cap
  obtain ⟨w1, hw1⟩ : ∃ w1, w.alloc (.cells #[.int .i64 (y : Int), .slice A N cap] 24) = w1 := ⟨_, rfl⟩
  rw [hw1] at b1 t1
  have c0 := t1.c0
  have c1 := t1.c1
  have hR1 := hR.below b1
  have MY : Hid (Calls Try.prog 16 #[tb y A N cap, .int .i64 256, .int .i64 9] w1 fun e w' => e = .returned (.int .i64 0) ∧ Below w1.heap.size w1 w') := Lib.hid (by
    have := may_any w1 (y : Int) 256 9 A l N cap hN (by omega) hR1
    rw [vt_iff.2 ⟨y, rfl, hv⟩] at this
    exact this)
  have BG : Hid (∀ W, Below w1.heap.size w1 W → Calls Try.prog 17 #[tb y A N cap] W fun e w' => ∃ b, e = .returned (.pointer (some ⟨b, 0, none⟩)) ∧ Cdr w' W.heap.size b y s N l ∧ Below W.heap.size W w') := Lib.hid (fun W hb => begin_ok W y s A l N cap hN hv hse (hR1.below hb))
  have B0 := Lib.hid b1
  have T1 := Lib.hid t1
  have HS : Hid (∀ W, Below w1.heap.size w1 W → Calls Try.prog 23 #[tb y A N cap, .int .i64 z] W fun e w' => e = .returned (.bool true) ∧ Below W.heap.size W w') := Lib.hid (fun W hb => by
    have := has_any W (y : Int) A l N cap z hN (by omega) (hR1.below hb)
    rwa [hH] at this)
  have SZ : Hid (∀ W', Calls Try.prog 24 #[.int .i64 (y : Int)] W' fun e w' => e = .returned (.int .i64 (s : Int)) ∧ w' = W') := Lib.hid (fun W' => by
    have := size_any W' (y : Int)
    rwa [siz_pow hy9 hse] at this)
  have k0 : decide (a < 0) = false := decide_eq_false (by omega)
  have k1 : decide (b2 < 0) = false := decide_eq_false (by omega)
  have k2 : decide ((s : Int) ≤ a) = false := decide_eq_false (by omega)
  have k3 : decide ((s : Int) ≤ b2) = true := decide_eq_true h1
  clear b1 t1 hR hR1 hN hv hse BG hH
  go_enter Try.func7, Try.ntmps7
  go_wp2_with (first
    | (go_at_call 16; refine MY.out.mono ?_; rintro e w2 ⟨rfl, hb2⟩; have B2 := Lib.hid hb2; have q2 := T1.out.below hb2; have d0 := q2.c0; have d1 := q2.c1; clear hb2 q2)
    | (go_at_call 23; refine (HS.out w2 B2.out).mono ?_; rintro e w2 ⟨rfl, hbh⟩; have B2 := Lib.hid (below_on B2.out (Nat.le_refl _) hbh); have qh := T1.out.below B2.out; have d0 := qh.c0; have d1 := qh.c1; clear hbh qh)
    | (go_at_call 24; refine (SZ.out _).mono ?_; rintro e w2 ⟨rfl, rfl⟩)
    | (go_at_call 11; refine (known_any w2).mono ?_; rintro e w9 ⟨rfl, hb9⟩; have B9 := Lib.hid (below_on B0.out (Nat.le_refl _) (below_on B2.out (Nat.le_refl _) hb9)); clear hb9))
  go_ret
  exact ⟨rfl, B9.out⟩

set_option maxRecDepth 100000 in
set_option maxHeartbeats 4000000 in
theorem walk_same (y s : Nat) (A : Option Addr) (l : List Int) (N cap : Nat) (a : Nat) (x : Nat) (w : World) (hN : l.length = N) (hv : Vt y l) (hse : 2 ^ y = s) (hR : Ri w A l) (hH : hsb l (x : Int) = true) (ha : a < s) :
    Calls Try.prog 7 #[tb y A N cap, .int .i64 (a : Int), .int .i64 (a : Int), .int .i64 (x : Int)] w fun e w' => e = .returned (.bool true) ∧ Below w.heap.size w w' := by
  have hN2 : N ≤ 256 := by rw [← hN]; exact hv.len
  have hy9 := hv.log
  have hs5 : s ≤ 512 := by rw [← hse]; exact hv.size
  have hs1 : 1 ≤ s := by rw [← hse]; exact Nat.one_le_two_pow
  have hd : decide ((300 : Int) < (N : Int)) = false := decide_eq_false (by omega)
  have b1 := below_new w (.cells #[.int .i64 (y : Int), .slice A N cap] 24)
  have t1 := Tb.new w (y : Int) A N cap
  obtain ⟨w1, hw1⟩ : ∃ w1, w.alloc (.cells #[.int .i64 (y : Int), .slice A N cap] 24) = w1 := ⟨_, rfl⟩
  rw [hw1] at b1 t1
  have c0 := t1.c0
  have c1 := t1.c1
  have hR1 := hR.below b1
  have MY : Hid (Calls Try.prog 16 #[tb y A N cap, .int .i64 256, .int .i64 9] w1 fun e w' => e = .returned (.int .i64 0) ∧ Below w1.heap.size w1 w') := Lib.hid (by
    have := may_any w1 (y : Int) 256 9 A l N cap hN (by omega) hR1
    rw [vt_iff.2 ⟨y, rfl, hv⟩] at this
    exact this)
  have BG : Hid (∀ W, Below w1.heap.size w1 W → Calls Try.prog 17 #[tb y A N cap] W fun e w' => ∃ b, e = .returned (.pointer (some ⟨b, 0, none⟩)) ∧ Cdr w' W.heap.size b y s N l ∧ Below W.heap.size W w') := Lib.hid (fun W hb => begin_ok W y s A l N cap hN hv hse (hR1.below hb))
  have B0 := Lib.hid b1
  have T1 := Lib.hid t1
  have HS : Hid (∀ W, Below w1.heap.size w1 W → Calls Try.prog 23 #[tb y A N cap, .int .i64 (x : Int)] W fun e w' => e = .returned (.bool true) ∧ Below W.heap.size W w') := Lib.hid (fun W hb => by
    have := has_any W (y : Int) A l N cap (x : Int) hN (by omega) (hR1.below hb)
    rwa [hH] at this)
  have SZ : Hid (∀ W', Calls Try.prog 24 #[.int .i64 (y : Int)] W' fun e w' => e = .returned (.int .i64 (s : Int)) ∧ w' = W') := Lib.hid (fun W' => by
    have := size_any W' (y : Int)
    rwa [siz_pow hy9 hse] at this)
  obtain ⟨x', hx', hn, _⟩ := hsb_pos hv hH
  obtain rfl : x = x' := by omega
  obtain ⟨i, p, q, r1, r2, r3, r4, r5, ePA⟩ := back_at hv hse hn ha
  obtain ⟨v, hvv⟩ : ∃ v, a - q = v := ⟨_, rfl⟩
  rw [hvv] at ePA
  have PA : Hid (∀ W B b, Cdr W B b y s N l → Calls Try.prog 19 #[.pointer (some ⟨b, 0, none⟩), .int .i64 (a : Int), .int .i64 (x : Int)] W fun e w' => e = .returned (.tuple #[stv (i : Int) (v : Int) (p : Int), .int .i64 0]) ∧ Below W.heap.size W w') := Lib.hid (fun W B b h => by
    obtain ⟨gc, go, V, h⟩ := h
    rw [← ePA]
    exact predecessor_any W h hN hv hse (a : Int) (x : Int))
  have k0 : decide ((a : Int) < 0) = false := decide_eq_false (by omega)
  have k2 : decide ((s : Int) ≤ (a : Int)) = false := decide_eq_false (by omega)
  have k4 : ¬ s ≤ a := by omega
  clear b1 t1 hR hR1 hN hv hse hH hx' hn r1 r2 r3 r4 r5 ePA hvv
  go_enter Try.func7, Try.ntmps7
  go_wp2_with (first
    | (go_at_call 16; refine MY.out.mono ?_; rintro e w2 ⟨rfl, hb2⟩; have B2 := Lib.hid hb2; have q2 := T1.out.below hb2; have d0 := q2.c0; have d1 := q2.c1; clear hb2 q2)
    | (go_at_call 23; refine (HS.out w2 B2.out).mono ?_; rintro e w2 ⟨rfl, hbh⟩; have B2 := Lib.hid (below_on B2.out (Nat.le_refl _) hbh); have qh := T1.out.below B2.out; have d0 := qh.c0; have d1 := qh.c1; clear hbh qh)
    | (go_at_call 24; refine (SZ.out _).mono ?_; rintro e w2 ⟨rfl, rfl⟩)
    | (go_at_call 17; refine (BG.out w2 B2.out).mono ?_; rintro e w3 ⟨b, rfl, hC3, hb3⟩; have C3 := Lib.hid hC3; have B3 := Lib.hid (below_on B2.out (Nat.le_refl _) hb3); have q3 := T1.out.below B3.out; have e0 := q3.c0; have e1 := q3.c1; clear hb3 q3 hC3)
    | (go_at_call 19; (with_reducible refine (PA.out w3 _ b C3.out).mono ?_); rintro e w4 ⟨rfl, hb4⟩; obtain ⟨W1, Wa, Wb, Wc, hW1, k0', f0, hWa, k1', f1, hWb, k2', f2, hWc, hS, hBS, hB⟩ := new_step (below_on B3.out (Nat.le_refl _) hb4) (i : Int) (v : Int) (p : Int); have S4 := Lib.hid hS; have C4 := Lib.hid ((C3.out.below hb4).below hBS); have B4 := Lib.hid hB; clear hS hBS hB hb4)
    | (go_at_call 19; (with_reducible refine (PA.out Wc _ b C4.out).mono ?_); rintro e w5 ⟨rfl, hb5⟩; obtain ⟨W1', Wa', Wb', Wc', hW1', j0', f0', hWa', j1', f1', hWb', j2', f2', hWc', hS, hBS, hB⟩ := new_step (below_on B4.out (Nat.le_refl _) hb5) (i : Int) (v : Int) (p : Int); have n0 := hS.c0; have n1 := hS.c1; have n2 := hS.c2; have q5 := (S4.out.below hb5).below hBS; have m0 := q5.c0; have m1 := q5.c1; have m2 := q5.c2; have B5 := Lib.hid hB; clear hS hBS hB hb5 q5)
    | (go_at_call 11; refine (known_any _).mono ?_; rintro e w9 ⟨rfl, hb9⟩; have B9 := Lib.hid (below_on B0.out (Nat.le_refl _) (below_on B5.out (Nat.le_refl _) hb9)); clear hb9))
  go_ret
  exact ⟨rfl, B9.out⟩

set_option maxRecDepth 100000 in
set_option maxHeartbeats 4000000 in
theorem walk_diff (y s : Nat) (A : Option Addr) (l : List Int) (N cap : Nat) (a : Nat) (b2 : Nat) (x : Nat) (w : World) (hN : l.length = N) (hv : Vt y l) (hse : 2 ^ y = s) (hR : Ri w A l) (hH : hsb l (x : Int) = true) (ha : a < s) (hb : b2 < s) (hab : a ≠ b2) :
    Calls Try.prog 7 #[tb y A N cap, .int .i64 (a : Int), .int .i64 (b2 : Int), .int .i64 (x : Int)] w fun e w' => e = .returned (.bool true) ∧ Below w.heap.size w w' := by
  have hN2 : N ≤ 256 := by rw [← hN]; exact hv.len
  have hy9 := hv.log
  have hs5 : s ≤ 512 := by rw [← hse]; exact hv.size
  have hs1 : 1 ≤ s := by rw [← hse]; exact Nat.one_le_two_pow
  have hd : decide ((300 : Int) < (N : Int)) = false := decide_eq_false (by omega)
  have b1 := below_new w (.cells #[.int .i64 (y : Int), .slice A N cap] 24)
  have t1 := Tb.new w (y : Int) A N cap
  obtain ⟨w1, hw1⟩ : ∃ w1, w.alloc (.cells #[.int .i64 (y : Int), .slice A N cap] 24) = w1 := ⟨_, rfl⟩
  rw [hw1] at b1 t1
  have c0 := t1.c0
  have c1 := t1.c1
  have hR1 := hR.below b1
  have MY : Hid (Calls Try.prog 16 #[tb y A N cap, .int .i64 256, .int .i64 9] w1 fun e w' => e = .returned (.int .i64 0) ∧ Below w1.heap.size w1 w') := Lib.hid (by
    have := may_any w1 (y : Int) 256 9 A l N cap hN (by omega) hR1
    rw [vt_iff.2 ⟨y, rfl, hv⟩] at this
    exact this)
  have BG : Hid (∀ W, Below w1.heap.size w1 W → Calls Try.prog 17 #[tb y A N cap] W fun e w' => ∃ b, e = .returned (.pointer (some ⟨b, 0, none⟩)) ∧ Cdr w' W.heap.size b y s N l ∧ Below W.heap.size W w') := Lib.hid (fun W hb => begin_ok W y s A l N cap hN hv hse (hR1.below hb))
  have B0 := Lib.hid b1
  have T1 := Lib.hid t1
  have HS : Hid (∀ W, Below w1.heap.size w1 W → Calls Try.prog 23 #[tb y A N cap, .int .i64 (x : Int)] W fun e w' => e = .returned (.bool true) ∧ Below W.heap.size W w') := Lib.hid (fun W hb => by
    have := has_any W (y : Int) A l N cap (x : Int) hN (by omega) (hR1.below hb)
    rwa [hH] at this)
  have SZ : Hid (∀ W', Calls Try.prog 24 #[.int .i64 (y : Int)] W' fun e w' => e = .returned (.int .i64 (s : Int)) ∧ w' = W') := Lib.hid (fun W' => by
    have := size_any W' (y : Int)
    rwa [siz_pow hy9 hse] at this)
  obtain ⟨x', hx', hn, _⟩ := hsb_pos hv hH
  obtain rfl : x = x' := by omega
  obtain ⟨i, p, q, r1, r2, r3, r4, r5, ePA⟩ := back_at hv hse hn ha
  obtain ⟨i2, p2, q2, s1, s2, s3, s4, s5, ePB⟩ := back_at hv hse hn hb
  obtain ⟨v, hvv⟩ : ∃ v, a - q = v := ⟨_, rfl⟩
  obtain ⟨v2, hvv2⟩ : ∃ v2, b2 - q2 = v2 := ⟨_, rfl⟩
  rw [hvv] at ePA
  rw [hvv2] at ePB
  have hne : i ≠ i2 ∨ v ≠ v2 := by
    by_cases e : i = i2
    · subst e
      rw [r2] at s2
      injection s2 with s2
      injection s2 with _ s2
      injection s2 with e1 e2
      subst e1 e2
      exact .inr (by omega)
    · exact .inl e
  have PA : Hid (∀ W B b, Cdr W B b y s N l → Calls Try.prog 19 #[.pointer (some ⟨b, 0, none⟩), .int .i64 (a : Int), .int .i64 (x : Int)] W fun e w' => e = .returned (.tuple #[stv (i : Int) (v : Int) (p : Int), .int .i64 0]) ∧ Below W.heap.size W w') := Lib.hid (fun W B b h => by
    obtain ⟨gc, go, V, h⟩ := h
    rw [← ePA]
    exact predecessor_any W h hN hv hse (a : Int) (x : Int))
  have PB : Hid (∀ W B b, Cdr W B b y s N l → Calls Try.prog 19 #[.pointer (some ⟨b, 0, none⟩), .int .i64 (b2 : Int), .int .i64 (x : Int)] W fun e w' => e = .returned (.tuple #[stv (i2 : Int) (v2 : Int) (p2 : Int), .int .i64 0]) ∧ Below W.heap.size W w') := Lib.hid (fun W B b h => by
    obtain ⟨gc, go, V, h⟩ := h
    rw [← ePB]
    exact predecessor_any W h hN hv hse (b2 : Int) (x : Int))
  have k0 : decide ((a : Int) < 0) = false := decide_eq_false (by omega)
  have k1 : decide ((b2 : Int) < 0) = false := decide_eq_false (by omega)
  have k2 : decide ((s : Int) ≤ (a : Int)) = false := decide_eq_false (by omega)
  have k3 : decide ((s : Int) ≤ (b2 : Int)) = false := decide_eq_false (by omega)
  have k4 : ¬ s ≤ a := by omega
  have k5 : ¬ s ≤ b2 := by omega
  have k6 : ((a : Int) == (b2 : Int)) = false := by simp; omega
  clear b1 t1 hR hR1 hN hv hse hH hx' hn r1 r2 r3 r4 r5 ePA s1 s2 s3 s4 s5 ePB hvv hvv2
  rcases Decidable.em (i = i2) with e | e
  · subst e
    have k7 : ((v : Int) == (v2 : Int)) = false := by simp; omega
    clear hne
    go_enter Try.func7, Try.ntmps7
    go_wp2_with (first
      | (go_at_call 16; refine MY.out.mono ?_; rintro e w2 ⟨rfl, hb2⟩; have B2 := Lib.hid hb2; have q2 := T1.out.below hb2; have d0 := q2.c0; have d1 := q2.c1; clear hb2 q2)
      | (go_at_call 23; refine (HS.out w2 B2.out).mono ?_; rintro e w2 ⟨rfl, hbh⟩; have B2 := Lib.hid (below_on B2.out (Nat.le_refl _) hbh); have qh := T1.out.below B2.out; have d0 := qh.c0; have d1 := qh.c1; clear hbh qh)
      | (go_at_call 24; refine (SZ.out _).mono ?_; rintro e w2 ⟨rfl, rfl⟩)
      | (go_at_call 17; refine (BG.out w2 B2.out).mono ?_; rintro e w3 ⟨b, rfl, hC3, hb3⟩; have C3 := Lib.hid hC3; have B3 := Lib.hid (below_on B2.out (Nat.le_refl _) hb3); have q3 := T1.out.below B3.out; have e0 := q3.c0; have e1 := q3.c1; clear hb3 q3 hC3)
      | (go_at_call 19; (with_reducible refine (PA.out w3 _ b C3.out).mono ?_); rintro e w4 ⟨rfl, hb4⟩; obtain ⟨W1, Wa, Wb, Wc, hW1, k0', f0, hWa, k1', f1, hWb, k2', f2, hWc, hS, hBS, hB⟩ := new_step (below_on B3.out (Nat.le_refl _) hb4) (i : Int) (v : Int) (p : Int); have S4 := Lib.hid hS; have C4 := Lib.hid ((C3.out.below hb4).below hBS); have B4 := Lib.hid hB; clear hS hBS hB hb4)
      | (go_at_call 19; (with_reducible refine (PB.out Wc _ b C4.out).mono ?_); rintro e w5 ⟨rfl, hb5⟩; obtain ⟨W1', Wa', Wb', Wc', hW1', j0', f0', hWa', j1', f1', hWb', j2', f2', hWc', hS, hBS, hB⟩ := new_step (below_on B4.out (Nat.le_refl _) hb5) (i : Int) (v2 : Int) (p2 : Int); have n0 := hS.c0; have n1 := hS.c1; have n2 := hS.c2; have q5 := (S4.out.below hb5).below hBS; have m0 := q5.c0; have m1 := q5.c1; have m2 := q5.c2; have B5 := Lib.hid hB; clear hS hBS hB hb5 q5)
      | (go_at_call 11; refine (known_any _).mono ?_; rintro e w9 ⟨rfl, hb9⟩; have B9 := Lib.hid (below_on B0.out (Nat.le_refl _) (below_on B5.out (Nat.le_refl _) hb9)); clear hb9))
    go_ret
    exact ⟨rfl, B9.out⟩

  · have k7 : ((i : Int) == (i2 : Int)) = false := by simp; omega
    clear hne e
    go_enter Try.func7, Try.ntmps7
    go_wp2_with (first
      | (go_at_call 16; refine MY.out.mono ?_; rintro e w2 ⟨rfl, hb2⟩; have B2 := Lib.hid hb2; have q2 := T1.out.below hb2; have d0 := q2.c0; have d1 := q2.c1; clear hb2 q2)
      | (go_at_call 23; refine (HS.out w2 B2.out).mono ?_; rintro e w2 ⟨rfl, hbh⟩; have B2 := Lib.hid (below_on B2.out (Nat.le_refl _) hbh); have qh := T1.out.below B2.out; have d0 := qh.c0; have d1 := qh.c1; clear hbh qh)
      | (go_at_call 24; refine (SZ.out _).mono ?_; rintro e w2 ⟨rfl, rfl⟩)
      | (go_at_call 17; refine (BG.out w2 B2.out).mono ?_; rintro e w3 ⟨b, rfl, hC3, hb3⟩; have C3 := Lib.hid hC3; have B3 := Lib.hid (below_on B2.out (Nat.le_refl _) hb3); have q3 := T1.out.below B3.out; have e0 := q3.c0; have e1 := q3.c1; clear hb3 q3 hC3)
      | (go_at_call 19; (with_reducible refine (PA.out w3 _ b C3.out).mono ?_); rintro e w4 ⟨rfl, hb4⟩; obtain ⟨W1, Wa, Wb, Wc, hW1, k0', f0, hWa, k1', f1, hWb, k2', f2, hWc, hS, hBS, hB⟩ := new_step (below_on B3.out (Nat.le_refl _) hb4) (i : Int) (v : Int) (p : Int); have S4 := Lib.hid hS; have C4 := Lib.hid ((C3.out.below hb4).below hBS); have B4 := Lib.hid hB; clear hS hBS hB hb4)
      | (go_at_call 19; (with_reducible refine (PB.out Wc _ b C4.out).mono ?_); rintro e w5 ⟨rfl, hb5⟩; obtain ⟨W1', Wa', Wb', Wc', hW1', j0', f0', hWa', j1', f1', hWb', j2', f2', hWc', hS, hBS, hB⟩ := new_step (below_on B4.out (Nat.le_refl _) hb5) (i2 : Int) (v2 : Int) (p2 : Int); have n0 := hS.c0; have n1 := hS.c1; have n2 := hS.c2; have q5 := (S4.out.below hb5).below hBS; have m0 := q5.c0; have m1 := q5.c1; have m2 := q5.c2; have B5 := Lib.hid hB; clear hS hBS hB hb5 q5)
      | (go_at_call 11; refine (known_any _).mono ?_; rintro e w9 ⟨rfl, hb9⟩; have B9 := Lib.hid (below_on B0.out (Nat.le_refl _) (below_on B5.out (Nat.le_refl _) hb9)); clear hb9))
    go_ret
    exact ⟨rfl, B9.out⟩

theorem walk (y : Int) (A : Option Addr) (l : List Int) (cap : Nat) (a : Int) (b2 : Int) (z : Int) (w : World) (hR : Ri w A l) (_ : ∀ z ∈ l, -9223372036854775808 ≤ z ∧ z ≤ 9223372036854775807) (_ : l.length ≤ cap) (_ : (Lit.int .i64 a).wf = true) (_ : (Lit.int .i64 b2).wf = true) (_ : (Lit.int .i64 z).wf = true) :
    Calls Try.prog 7 #[tb y A l.length cap, .int .i64 a, .int .i64 b2, .int .i64 z] w fun e w' => e = .returned (.bool true) ∧ Below w.heap.size w w' := by
  by_cases h : 300 < l.length
  · exact walk_long y A _ cap a b2 z w h
  · cases hv : vt y l 256 9 with
    | false => exact walk_bad y A l _ cap a b2 z w rfl (by omega) hv hR
    | true =>
      obtain ⟨n, rfl, hv2⟩ := vt_iff.1 hv
      cases hH : hsb l z with
      | false => exact walk_none n _ A l _ cap a b2 z w rfl hv2 rfl hR hH
      | true =>
        by_cases h0 : a < 0
        · exact walk_a0 n _ A l _ cap a b2 z w rfl hv2 rfl hR hH h0
        · by_cases h1 : b2 < 0
          · exact walk_b0 n _ A l _ cap a b2 z w rfl hv2 rfl hR hH (by omega) h1
          · by_cases h2 : ((2 ^ n : Nat) : Int) ≤ a
            · exact walk_a1 n _ A l _ cap a b2 z w rfl hv2 rfl hR hH h2 (by omega)
            · by_cases h3 : ((2 ^ n : Nat) : Int) ≤ b2
              · exact walk_b1 n _ A l _ cap a b2 z w rfl hv2 rfl hR hH (by omega) (by omega) h3
              · obtain ⟨x, rfl, _, _⟩ := hsb_pos hv2 hH
                obtain ⟨a', rfl⟩ : ∃ a' : Nat, a = (a' : Int) := ⟨a.toNat, by omega⟩
                obtain ⟨b', rfl⟩ : ∃ b' : Nat, b2 = (b' : Int) := ⟨b2.toNat, by omega⟩
                by_cases e : a' = b'
                · subst e
                  exact walk_same n _ A l _ cap a' x w rfl hv2 rfl hR hH (by omega)
                · exact walk_diff n _ A l _ cap a' b' x w rfl hv2 rfl hR hH (by omega) (by omega) e

set_option maxRecDepth 100000 in
theorem lifted (os : Os) (started : os.Started) (H : Type) (enc : TypeId × Value → H) :
    ReturnsInHanded {} Try.checked os 7 .any (Rows.statesUnlikeSpec.pre6 enc Try.prog Try.f7 Rows.statesUnlikeRow.domain false) (Rows.statesUnlikeSpec.post enc Try.prog Try.f7 false true false false) := by
  refine returnsInHanded_of_change_sized (C := Try.checked) ownB started (by kernel_rfl) Try.func7
    (ChangeSpec.witness6 (enc := enc) (C := Try.checked) false ⟨#[], #[.agg #[.int .i64 0, .slice none 0 0], .int .i64 0, .int .i64 0, .int .i64 0], []⟩ 8 (by kernel_rfl) (by kernel_rfl) (by kernel_rfl) (by kernel_rfl)) ?_
  intro W base args ds gs before hval0 hW _ hsz0 _
  have hsz : (DataW.weightsEach Try.prog (Try.f7.params.toList ++ Rows.statesUnlikeSpec.plain.varTypes Try.prog) (ds ++ gs)).all (· ≤ reachBytes) = true := hsz0
  clear hsz0
  have hval : ∀ (j : Nat) t v, Try.f7.params[j]? = some t → args[j]? = some v → Value.okWide Try.prog W .any base t v := hval0
  have hW' := hW
  obtain ⟨p, q, hA0, hV, rfl, hfz, hnd⟩ := hW
  have hA : DataW.TrodAll enc Try.prog W 0 (fun _ => true) true Try.f7.params.toList args.toList ds p := hA0
  rw [Try.params7] at hA hval hsz
  obtain ⟨v0, vs0, d0, ds0, p0, q0, hargs, rfl, rfl, h0, r0⟩ := trodAll_cons hA
  obtain ⟨v1, vs1, d1, ds1, p1, q1, rfl, rfl, rfl, h1, r1⟩ := trodAll_cons r0
  obtain ⟨v2, vs2, d2, ds2, p2, q2, rfl, rfl, rfl, h2, r2⟩ := trodAll_cons r1
  obtain ⟨v3, vs3, d3, ds3, p3, q3, rfl, rfl, rfl, h3, r3⟩ := trodAll_cons r2
  obtain ⟨rfl, rfl, rfl⟩ := trodAll_nil r3
  obtain rfl : args = #[v0, v1, v2, v3] := by cases args; simp_all
  obtain ⟨rfl, rfl⟩ := trodVars_none hV
  obtain ⟨cs0, rfl, hcs0⟩ := okWide_struct Try.underlying24 (hval 0 24 v0 rfl rfl)
  have k0 := h0
  have lt0 : ∀ x ∈ p0, x.block < W.heap.size := by obtain ⟨m, hm⟩ := k0; exact DataW.trod_lt m _ _ _ hm
  obtain ⟨y0, a0, len0, cap0, l0, rfl, rfl, hc0, ri0, wi0⟩ := open_tab hcs0 h0
  obtain ⟨a1, rfl, rfl, rfl, w1⟩ := open_int Try.underlying3 (hval 1 3 v1 rfl rfl) h1
  obtain ⟨a2, rfl, rfl, rfl, w2⟩ := open_int Try.underlying3 (hval 2 3 v2 rfl rfl) h2
  obtain ⟨a3, rfl, rfl, rfl, w3⟩ := open_int Try.underlying3 (hval 3 3 v3 rfl rfl) h3
  clear hA0 hval0
  refine (walk y0 a0 l0 cap0 a1 a2 a3 W ri0 wi0 hc0 w1 w2 w3).mono fun e W' ⟨he, bel⟩ => ?_
  subst he
  exact ⟨_, rfl, _, _, _, [], _, [], hW', trodAll_mk1 (shut_bool Try.underlying4 _), (trodAll_cons_mk (Below.trod laidOut (by kernel_rfl) (of_decide_eq_true (by kernel_rfl)) k0 bel lt0) (trodAll_cons_mk (shut_int Try.underlying3 w1) (trodAll_cons_mk (shut_int Try.underlying3 w2) (trodAll_cons_mk (shut_int Try.underlying3 w3) trodAll_mk0)))), rfl, bel.frame _, fun h => by cases h⟩

theorem proved : Rows.StatesUnlikeSaid :=
  OpenClaim.holds_of_wide 7 Try.f7 rfl rfl rfl rfl rfl rfl rfl ⟨rfl, rfl, rfl, rfl, rfl⟩ rfl rfl rfl rfl rfl (by kernel_rfl) Try.func7 (by kernel_rfl)
    (of_decide_eq_true (by kernel_rfl)) (by unfold Func.isWrapper; rw [if_neg (by decide +kernel)]; exact ⟨rfl, rfl⟩)
    (fun os started H enc _ => lifted os started H enc)

#print axioms proved

end Go.Proofs.Ytonapehlhkoplaa.statesUnlike
