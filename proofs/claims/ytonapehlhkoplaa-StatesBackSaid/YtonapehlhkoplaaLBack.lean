/-
  Proved: the law StatesBack returns true for all tables, states, symbols and higher bits: the next state of a predecessor by its bits is the given state, and the predecessor decodes to the symbol. No condition.
-/
import Derived.BigQuiet
import Derived.Deep.QuietTactic
import Derived.Deep.RegionHeld3
import Derived.Test.YtonapehlhkoplaaBak
namespace Go.Proofs.Ytonapehlhkoplaa.statesBack
open Go.ChangeShapes Go.WideShapes Go.ChangeAt Go.RowKit

set_option maxRecDepth 100000 in
set_option maxHeartbeats 4000000 in
theorem walk_long (y : Int) (A : Option Addr) (N cap : Nat) (t : Int) (z : Int) (u : Int) (w : World) (h : 300 < N) :
    Calls Try.prog 5 #[tb y A N cap, .int .i64 t, .int .i64 z, .int .u64 u] w fun e w' => e = .returned (.bool true) ∧ Below w.heap.size w w' := by
  have hd : decide ((300 : Int) < (N : Int)) = true := decide_eq_true (by omega)
  have b1 := below_new w (.cells #[.int .i64 y, .slice A N cap] 24)
  have t1 := Tb.new w y A N cap
  obtain ⟨w1, hw1⟩ : ∃ w1, w.alloc (.cells #[.int .i64 y, .slice A N cap] 24) = w1 := ⟨_, rfl⟩
  rw [hw1] at b1 t1
  have c0 := t1.c0
  have c1 := t1.c1
  have KN := Lib.hid (known_any w1)
  have B0 := Lib.hid b1
  clear b1 t1
  go_enter Try.func5, Try.ntmps5
  go_wp2_with (go_at_call 11; refine KN.out.mono ?_; rintro e w2 ⟨rfl, hb2⟩; have B1 := Lib.hid (below_on B0.out (Nat.le_refl _) hb2); clear hb2)
  go_ret
  exact ⟨rfl, B1.out⟩

set_option maxRecDepth 100000 in
set_option maxHeartbeats 4000000 in
theorem walk_bad (y : Int) (A : Option Addr) (l : List Int) (N cap : Nat) (t : Int) (z : Int) (u : Int) (w : World) (hN : l.length = N) (h : N ≤ 300) (hv : vt y l 256 9 = false) (hR : Ri w A l) :
    Calls Try.prog 5 #[tb y A N cap, .int .i64 t, .int .i64 z, .int .u64 u] w fun e w' => e = .returned (.bool true) ∧ Below w.heap.size w w' := by
  have hd : decide ((300 : Int) < (N : Int)) = false := decide_eq_false (by omega)
  have b1 := below_new w (.cells #[.int .i64 y, .slice A N cap] 24)
  have t1 := Tb.new w y A N cap
  obtain ⟨w1, hw1⟩ : ∃ w1, w.alloc (.cells #[.int .i64 y, .slice A N cap] 24) = w1 := ⟨_, rfl⟩
  rw [hw1] at b1 t1
  have c0 := t1.c0
  have c1 := t1.c1
  have MY : Hid (Calls Try.prog 16 #[tb y A N cap, .int .i64 256, .int .i64 9] w1 fun e w' => e = .returned (.int .i64 13) ∧ Below w1.heap.size w1 w') := Lib.hid (by
    have := may_any w1 y 256 9 A l N cap hN (by omega) (hR.below b1)
    rw [hv] at this
    exact this)
  have B0 := Lib.hid b1
  clear b1 t1 hR hN hv
  go_enter Try.func5, Try.ntmps5
  go_wp2_with (first
    | (go_at_call 16; refine MY.out.mono ?_; rintro e w2 ⟨rfl, hb2⟩; have B2 := Lib.hid (below_on B0.out (Nat.le_refl _) hb2); clear hb2)
    | (go_at_call 11; refine (known_any w2).mono ?_; rintro e w3 ⟨rfl, hb3⟩; have B3 := Lib.hid (below_on B2.out (Nat.le_refl _) hb3); clear hb3))
  go_ret
  exact ⟨rfl, B3.out⟩

set_option maxRecDepth 100000 in
set_option maxHeartbeats 4000000 in
theorem walk_none (y s : Nat) (A : Option Addr) (l : List Int) (N cap : Nat) (t : Int) (z : Int) (u : Int) (w : World) (hN : l.length = N) (hv : Vt y l) (hse : 2 ^ y = s) (hR : Ri w A l) (hH : hsb l z = false) :
    Calls Try.prog 5 #[tb y A N cap, .int .i64 t, .int .i64 z, .int .u64 u] w fun e w' => e = .returned (.bool true) ∧ Below w.heap.size w w' := by
  have hN2 : N ≤ 256 := by rw [← hN]; exact hv.len
  have hy9 := hv.log
  have hs5 : s ≤ 512 := by rw [← hse]; exact hv.size
  have hs1 : 1 ≤ s := by rw [← hse]; exact Nat.one_le_two_pow
  have hd : decide ((300 : Int) < (N : Int)) = false := decide_eq_false (by omega)
  have b1 := below_new w (.cells #[.int .i64 (y : Int), .slice A N cap] 24)
  have t1 := Tb.new w (y : Int) A N cap
  obtain ⟨w1, hw1⟩ : ∃ w1, w.alloc (.cells #[.int .i64 (y : Int), .slice A N cap] 24) = w1 := ⟨_, rfl⟩
  rw [hw1] at b1 t1
  have c0 := t1.c0
  have c1 := t1.c1
  have hR1 := hR.below b1
  have MY : Hid (Calls Try.prog 16 #[tb y A N cap, .int .i64 256, .int .i64 9] w1 fun e w' => e = .returned (.int .i64 0) ∧ Below w1.heap.size w1 w') := Lib.hid (by
    have := may_any w1 (y : Int) 256 9 A l N cap hN (by omega) hR1
    rw [vt_iff.2 ⟨y, rfl, hv⟩] at this
    exact this)
  have BG : Hid (∀ W, Below w1.heap.size w1 W → Calls Try.prog 17 #[tb y A N cap] W fun e w' => ∃ b, e = .returned (.pointer (some ⟨b, 0, none⟩)) ∧ Cdr w' W.heap.size b y s N l ∧ Below W.heap.size W w') := Lib.hid (fun W hb => begin_ok W y s A l N cap hN hv hse (hR1.below hb))
  have B0 := Lib.hid b1
  have T1 := Lib.hid t1
  have HS : Hid (∀ W, Below w1.heap.size w1 W → Calls Try.prog 23 #[tb y A N cap, .int .i64 z] W fun e w' => e = .returned (.bool false) ∧ Below W.heap.size W w') := Lib.hid (fun W hb => by
    have := has_any W (y : Int) A l N cap z hN (by omega) (hR1.below hb)
    rwa [hH] at this)
  clear b1 t1 hR hR1 hN hv hse BG hH
  go_enter Try.func5, Try.ntmps5
  go_wp2_with (first
    | (go_at_call 16; refine MY.out.mono ?_; rintro e w2 ⟨rfl, hb2⟩; have B2 := Lib.hid hb2; have q2 := T1.out.below hb2; have d0 := q2.c0; have d1 := q2.c1; clear hb2 q2)
    | (go_at_call 23; refine (HS.out w2 B2.out).mono ?_; rintro e w2 ⟨rfl, hbh⟩; have B2 := Lib.hid (below_on B2.out (Nat.le_refl _) hbh); have qh := T1.out.below B2.out; have d0 := qh.c0; have d1 := qh.c1; clear hbh qh)
    | (go_at_call 11; refine (known_any w2).mono ?_; rintro e w9 ⟨rfl, hb9⟩; have B9 := Lib.hid (below_on B0.out (Nat.le_refl _) (below_on B2.out (Nat.le_refl _) hb9)); clear hb9))
  go_ret
  exact ⟨rfl, B9.out⟩

set_option maxRecDepth 100000 in
set_option maxHeartbeats 4000000 in
theorem walk_low (y s : Nat) (A : Option Addr) (l : List Int) (N cap : Nat) (t : Int) (z : Int) (u : Int) (w : World) (hN : l.length = N) (hv : Vt y l) (hse : 2 ^ y = s) (hR : Ri w A l) (hH : hsb l z = true) (h0 : t < 0) :
    Calls Try.prog 5 #[tb y A N cap, .int .i64 t, .int .i64 z, .int .u64 u] w fun e w' => e = .returned (.bool true) ∧ Below w.heap.size w w' := by
  have hN2 : N ≤ 256 := by rw [← hN]; exact hv.len
  have hy9 := hv.log
  have hs5 : s ≤ 512 := by rw [← hse]; exact hv.size
  have hs1 : 1 ≤ s := by rw [← hse]; exact Nat.one_le_two_pow
  have hd : decide ((300 : Int) < (N : Int)) = false := decide_eq_false (by omega)
  have b1 := below_new w (.cells #[.int .i64 (y : Int), .slice A N cap] 24)
  have t1 := Tb.new w (y : Int) A N cap
  obtain ⟨w1, hw1⟩ : ∃ w1, w.alloc (.cells #[.int .i64 (y : Int), .slice A N cap] 24) = w1 := ⟨_, rfl⟩
  rw [hw1] at b1 t1
  have c0 := t1.c0
  have c1 := t1.c1
  have hR1 := hR.below b1
  have MY : Hid (Calls Try.prog 16 #[tb y A N cap, .int .i64 256, .int .i64 9] w1 fun e w' => e = .returned (.int .i64 0) ∧ Below w1.heap.size w1 w') := Lib.hid (by
    have := may_any w1 (y : Int) 256 9 A l N cap hN (by omega) hR1
    rw [vt_iff.2 ⟨y, rfl, hv⟩] at this
    exact this)
  have BG : Hid (∀ W, Below w1.heap.size w1 W → Calls Try.prog 17 #[tb y A N cap] W fun e w' => ∃ b, e = .returned (.pointer (some ⟨b, 0, none⟩)) ∧ Cdr w' W.heap.size b y s N l ∧ Below W.heap.size W w') := Lib.hid (fun W hb => begin_ok W y s A l N cap hN hv hse (hR1.below hb))
  have B0 := Lib.hid b1
  have T1 := Lib.hid t1
  have HS : Hid (∀ W, Below w1.heap.size w1 W → Calls Try.prog 23 #[tb y A N cap, .int .i64 z] W fun e w' => e = .returned (.bool true) ∧ Below W.heap.size W w') := Lib.hid (fun W hb => by
    have := has_any W (y : Int) A l N cap z hN (by omega) (hR1.below hb)
    rwa [hH] at this)
  have k0 : decide (t < 0) = true := decide_eq_true h0
  clear b1 t1 hR hR1 hN hv hse BG hH
  go_enter Try.func5, Try.ntmps5
  go_wp2_with (first
    | (go_at_call 16; refine MY.out.mono ?_; rintro e w2 ⟨rfl, hb2⟩; have B2 := Lib.hid hb2; have q2 := T1.out.below hb2; have d0 := q2.c0; have d1 := q2.c1; clear hb2 q2)
    | (go_at_call 23; refine (HS.out w2 B2.out).mono ?_; rintro e w2 ⟨rfl, hbh⟩; have B2 := Lib.hid (below_on B2.out (Nat.le_refl _) hbh); have qh := T1.out.below B2.out; have d0 := qh.c0; have d1 := qh.c1; clear hbh qh)
    | (go_at_call 11; refine (known_any w2).mono ?_; rintro e w9 ⟨rfl, hb9⟩; have B9 := Lib.hid (below_on B0.out (Nat.le_refl _) (below_on B2.out (Nat.le_refl _) hb9)); clear hb9))
  go_ret
  exact ⟨rfl, B9.out⟩

set_option maxRecDepth 100000 in
set_option maxHeartbeats 4000000 in
theorem walk_high (y s : Nat) (A : Option Addr) (l : List Int) (N cap : Nat) (t : Int) (z : Int) (u : Int) (w : World) (hN : l.length = N) (hv : Vt y l) (hse : 2 ^ y = s) (hR : Ri w A l) (hH : hsb l z = true) (h0 : (s : Int) ≤ t) :
    Calls Try.prog 5 #[tb y A N cap, .int .i64 t, .int .i64 z, .int .u64 u] w fun e w' => e = .returned (.bool true) ∧ Below w.heap.size w w' := by
  have hN2 : N ≤ 256 := by rw [← hN]; exact hv.len
  have hy9 := hv.log
  have hs5 : s ≤ 512 := by rw [← hse]; exact hv.size
  have hs1 : 1 ≤ s := by rw [← hse]; exact Nat.one_le_two_pow
  have hd : decide ((300 : Int) < (N : Int)) = false := decide_eq_false (by omega)
  have b1 := below_new w (.cells #[.int .i64 (y : Int), .slice A N cap] 24)
  have t1 := Tb.new w (y : Int) A N cap
  obtain ⟨w1, hw1⟩ : ∃ w1, w.alloc (.cells #[.int .i64 (y : Int), .slice A N cap] 24) = w1 := ⟨_, rfl⟩
  rw [hw1] at b1 t1
  have c0 := t1.c0
  have c1 := t1.c1
  have hR1 := hR.below b1
  have MY : Hid (Calls Try.prog 16 #[tb y A N cap, .int .i64 256, .int .i64 9] w1 fun e w' => e = .returned (.int .i64 0) ∧ Below w1.heap.size w1 w') := Lib.hid (by
    have := may_any w1 (y : Int) 256 9 A l N cap hN (by omega) hR1
    rw [vt_iff.2 ⟨y, rfl, hv⟩] at this
    exact this)
  have BG : Hid (∀ W, Below w1.heap.size w1 W → Calls Try.prog 17 #[tb y A N cap] W fun e w' => ∃ b, e = .returned (.pointer (some ⟨b, 0, none⟩)) ∧ Cdr w' W.heap.size b y s N l ∧ Below W.heap.size W w') := Lib.hid (fun W hb => begin_ok W y s A l N cap hN hv hse (hR1.below hb))
  have B0 := Lib.hid b1
  have T1 := Lib.hid t1
  have HS : Hid (∀ W, Below w1.heap.size w1 W → Calls Try.prog 23 #[tb y A N cap, .int .i64 z] W fun e w' => e = .returned (.bool true) ∧ Below W.heap.size W w') := Lib.hid (fun W hb => by
    have := has_any W (y : Int) A l N cap z hN (by omega) (hR1.below hb)
    rwa [hH] at this)
  have SZ : Hid (∀ W', Calls Try.prog 24 #[.int .i64 (y : Int)] W' fun e w' => e = .returned (.int .i64 (s : Int)) ∧ w' = W') := Lib.hid (fun W' => by
    have := size_any W' (y : Int)
    rwa [siz_pow hy9 hse] at this)
  have k0 : decide (t < 0) = false := decide_eq_false (by omega)
  have k1 : decide ((s : Int) ≤ t) = true := decide_eq_true h0
  clear b1 t1 hR hR1 hN hv hse BG hH
  go_enter Try.func5, Try.ntmps5
  go_wp2_with (first
    | (go_at_call 16; refine MY.out.mono ?_; rintro e w2 ⟨rfl, hb2⟩; have B2 := Lib.hid hb2; have q2 := T1.out.below hb2; have d0 := q2.c0; have d1 := q2.c1; clear hb2 q2)
    | (go_at_call 23; refine (HS.out w2 B2.out).mono ?_; rintro e w2 ⟨rfl, hbh⟩; have B2 := Lib.hid (below_on B2.out (Nat.le_refl _) hbh); have qh := T1.out.below B2.out; have d0 := qh.c0; have d1 := qh.c1; clear hbh qh)
    | (go_at_call 24; refine (SZ.out _).mono ?_; rintro e w2 ⟨rfl, rfl⟩)
    | (go_at_call 11; refine (known_any w2).mono ?_; rintro e w9 ⟨rfl, hb9⟩; have B9 := Lib.hid (below_on B0.out (Nat.le_refl _) (below_on B2.out (Nat.le_refl _) hb9)); clear hb9))
  go_ret
  exact ⟨rfl, B9.out⟩

theorem mod_high {v u D : Nat} (p : Nat) (hp : p ≤ 9) (hD : 2 ^ p = D) (hv : v < D) : (v + u * D % 18446744073709551616) % 18446744073709551616 % D = v := by
  have hd : D ∣ 18446744073709551616 := by
    rw [← hD, show (18446744073709551616 : Nat) = 2 ^ 64 by decide]
    exact Nat.pow_dvd_pow 2 (by omega)
  rw [Nat.mod_mod_of_dvd _ hd, Nat.add_mod, Nat.mod_mod_of_dvd _ hd, Nat.mul_mod_left, Nat.add_zero, Nat.mod_mod, Nat.mod_eq_of_lt hv]
theorem u64_wrap_nat (n : Nat) : IntKind.u64.wrap (n : Int) = ((n % 18446744073709551616 : Nat) : Int) := by
  rw [Int.natCast_emod]
  rfl

set_option maxRecDepth 100000 in
set_option maxHeartbeats 4000000 in
theorem walk_ok (y s : Nat) (A : Option Addr) (l : List Int) (N cap : Nat) (t : Nat) (x : Nat) (u : Nat) (w : World) (hN : l.length = N) (hv : Vt y l) (hse : 2 ^ y = s) (hR : Ri w A l) (hH : hsb l (x : Int) = true) (ht : t < s) :
    Calls Try.prog 5 #[tb y A N cap, .int .i64 (t : Int), .int .i64 (x : Int), .int .u64 (u : Int)] w fun e w' => e = .returned (.bool true) ∧ Below w.heap.size w w' := by
  have hN2 : N ≤ 256 := by rw [← hN]; exact hv.len
  have hy9 := hv.log
  have hs5 : s ≤ 512 := by rw [← hse]; exact hv.size
  have hs1 : 1 ≤ s := by rw [← hse]; exact Nat.one_le_two_pow
  have hd : decide ((300 : Int) < (N : Int)) = false := decide_eq_false (by omega)
  have b1 := below_new w (.cells #[.int .i64 (y : Int), .slice A N cap] 24)
  have t1 := Tb.new w (y : Int) A N cap
  obtain ⟨w1, hw1⟩ : ∃ w1, w.alloc (.cells #[.int .i64 (y : Int), .slice A N cap] 24) = w1 := ⟨_, rfl⟩
  rw [hw1] at b1 t1
  have c0 := t1.c0
  have c1 := t1.c1
  have hR1 := hR.below b1
  have MY : Hid (Calls Try.prog 16 #[tb y A N cap, .int .i64 256, .int .i64 9] w1 fun e w' => e = .returned (.int .i64 0) ∧ Below w1.heap.size w1 w') := Lib.hid (by
    have := may_any w1 (y : Int) 256 9 A l N cap hN (by omega) hR1
    rw [vt_iff.2 ⟨y, rfl, hv⟩] at this
    exact this)
  have BG : Hid (∀ W, Below w1.heap.size w1 W → Calls Try.prog 17 #[tb y A N cap] W fun e w' => ∃ b, e = .returned (.pointer (some ⟨b, 0, none⟩)) ∧ Cdr w' W.heap.size b y s N l ∧ Below W.heap.size W w') := Lib.hid (fun W hb => begin_ok W y s A l N cap hN hv hse (hR1.below hb))
  have B0 := Lib.hid b1
  have T1 := Lib.hid t1
  have HS : Hid (∀ W, Below w1.heap.size w1 W → Calls Try.prog 23 #[tb y A N cap, .int .i64 (x : Int)] W fun e w' => e = .returned (.bool true) ∧ Below W.heap.size W w') := Lib.hid (fun W hb => by
    have := has_any W (y : Int) A l N cap (x : Int) hN (by omega) (hR1.below hb)
    rwa [hH] at this)
  have SZ : Hid (∀ W', Calls Try.prog 24 #[.int .i64 (y : Int)] W' fun e w' => e = .returned (.int .i64 (s : Int)) ∧ w' = W') := Lib.hid (fun W' => by
    have := size_any W' (y : Int)
    rwa [siz_pow hy9 hse] at this)
  obtain ⟨x', hx', hn, _⟩ := hsb_pos hv hH
  obtain rfl : x = x' := by omega
  obtain ⟨i, p, q, r1, r2, r3, r4, r5, ePA⟩ := back_at hv hse hn ht
  obtain ⟨v, hvv⟩ : ∃ v, t - q = v := ⟨_, rfl⟩
  rw [hvv] at ePA
  obtain ⟨D, hD⟩ : ∃ D, 2 ^ p = D := ⟨_, rfl⟩
  have hD5 : D ≤ 512 := by rw [← hD]; exact pow_le r3
  rw [hD] at r5
  have hvD : v < D := by omega
  obtain ⟨E, hE⟩ : ∃ E, u * D % 18446744073709551616 = E := ⟨_, rfl⟩
  obtain ⟨G, hG⟩ : ∃ G, (v + E) % 18446744073709551616 = G := ⟨_, rfl⟩
  have hGD : G % D = v := by rw [← hG, ← hE]; exact mod_high p r3 hD hvD
  have hEb : E < 18446744073709551616 := by rw [← hE]; exact Nat.mod_lt _ (by decide)
  have hGb : G < 18446744073709551616 := by rw [← hG]; exact Nat.mod_lt _ (by decide)
  have eE : IntKind.u64.wrap ((u : Int) * 2 ^ p) = (E : Int) := by
    have e1 : (u : Int) * 2 ^ p = ((u * D : Nat) : Int) := by rw [← hD, Int.natCast_mul, Int.natCast_pow]; rfl
    rw [e1, u64_wrap_nat, hE]
  have eG : IntKind.u64.wrap ((v : Int) + (E : Int)) = (G : Int) := by
    rw [← Int.natCast_add, u64_wrap_nat, hG]
  have PR : Hid (∀ W B b, Cdr W B b y s N l → Calls Try.prog 19 #[.pointer (some ⟨b, 0, none⟩), .int .i64 (t : Int), .int .i64 (x : Int)] W fun e w' => e = .returned (.tuple #[stv (i : Int) (v : Int) (p : Int), .int .i64 0]) ∧ Below W.heap.size W w') := Lib.hid (fun W B b h => by
    obtain ⟨gc, go, V, h⟩ := h
    rw [← ePA]
    exact predecessor_any W h hN hv hse (t : Int) (x : Int))
  have CE : Hid (∀ W B b, Cdr W B b y s N l → Calls Try.prog 15 #[.pointer (some ⟨b, 0, none⟩), .int .i64 (i : Int)] W fun e w' => e = .returned (.tuple #[cev (x : Int) (p : Int) (q : Int), .int .i64 0]) ∧ Below W.heap.size W w') := Lib.hid (fun W B b h => by
    obtain ⟨gc, go, V, h⟩ := h
    rw [← tc_at r2]
    exact cell_any W h hv hse (i : Int))
  have NX : Hid (∀ W B b, Cdr W B b y s N l → Calls Try.prog 25 #[.pointer (some ⟨b, 0, none⟩), .int .i64 (i : Int), .int .u64 (v : Int)] W fun e w' => e = .returned (.tuple #[.int .i64 (t : Int), .int .i64 0]) ∧ Below W.heap.size W w') := Lib.hid (fun W B b h => by
    obtain ⟨gc, go, V, h⟩ := h
    have h1 := nexts_any W h hv hse (i : Int) v (by omega)
    rw [tn_at r2, hD, Nat.mod_eq_of_lt hvD, show q + v = t by omega] at h1
    exact h1)
  have NY : Hid (∀ W B b, Cdr W B b y s N l → Calls Try.prog 25 #[.pointer (some ⟨b, 0, none⟩), .int .i64 (i : Int), .int .u64 (G : Int)] W fun e w' => e = .returned (.tuple #[.int .i64 (t : Int), .int .i64 0]) ∧ Below W.heap.size W w') := Lib.hid (fun W B b h => by
    obtain ⟨gc, go, V, h⟩ := h
    have h1 := nexts_any W h hv hse (i : Int) G hGb
    rw [tn_at r2, hD, hGD, show q + v = t by omega] at h1
    exact h1)
  have k0 : decide ((t : Int) < 0) = false := decide_eq_false (by omega)
  have k1 : decide ((s : Int) ≤ (t : Int)) = false := decide_eq_false (by omega)
  have k2 : ¬ s ≤ t := by omega
  have k3 : decide ((p : Int) < 0) = false := decide_eq_false (by omega)
  have k4 : decide (9 < (p : Int)) = false := decide_eq_false (by omega)
  have k5 : ¬ 9 < p := by omega
  have k6 : decide ((D : Int) ≤ (v : Int)) = false := decide_eq_false (by omega)
  have k7 : ¬ D ≤ v := by omega
  have eD : (2 : Int) ^ p = (D : Int) := by rw [← hD]; exact (Int.natCast_pow 2 p).symm
  have wD : IntKind.u64.wrap (D : Int) = (D : Int) := IntWalk.u64_in _ (by omega)
  have eDw : IntKind.u64.wrap (2 ^ p) = (D : Int) := by rw [eD]; exact wD
  have EE := Lib.hid (And.intro eE eG)
  have CD : Hid (∀ W B b d, Cdr W B b y s N l → Cdr (W.drewN d) B b y s N l) := Lib.hid (fun W B b d h => h.same (fun _ _ _ => rfl))
  clear b1 t1 hR hR1 hN hv hse hH hx' hn r1 r2 r4 r5 ePA hvv hD hE hG hGD eE eG eD
  go_enter Try.func5, Try.ntmps5
  go_wp2_with (first
    | (go_at_call 16; refine MY.out.mono ?_; rintro e w2 ⟨rfl, hb2⟩; have B2 := Lib.hid hb2; have q2 := T1.out.below hb2; have d0 := q2.c0; have d1 := q2.c1; clear hb2 q2)
    | (go_at_call 23; refine (HS.out w2 B2.out).mono ?_; rintro e w2 ⟨rfl, hbh⟩; have B2 := Lib.hid (below_on B2.out (Nat.le_refl _) hbh); have qh := T1.out.below B2.out; have d0 := qh.c0; have d1 := qh.c1; clear hbh qh)
    | (go_at_call 24; refine (SZ.out _).mono ?_; rintro e w2 ⟨rfl, rfl⟩)
    | (go_at_call 17; refine (BG.out w2 B2.out).mono ?_; rintro e w3 ⟨b, rfl, hC3, hb3⟩; have C3 := Lib.hid hC3; have B3 := Lib.hid (below_on B2.out (Nat.le_refl _) hb3); have q3 := T1.out.below B3.out; have e0 := q3.c0; have e1 := q3.c1; clear hb3 q3 hC3)
    | (go_at_call 19; refine (PR.out w3 _ b C3.out).mono ?_; rintro e w4 ⟨rfl, hb4⟩; obtain ⟨W1, Wa, Wb, Wc, hW1, k0', f0, hWa, k1', f1, hWb, k2', f2, hWc, hS, hBS, hB⟩ := new_step (below_on B3.out (Nat.le_refl _) hb4) (i : Int) (v : Int) (p : Int); have S4 := Lib.hid hS; have o0 := hS.c0; have C4 := Lib.hid ((C3.out.below hb4).below hBS); have B4 := Lib.hid hB; clear hS hBS hB hb4)
    | (go_at_call 15; refine (CE.out Wc _ b C4.out).mono ?_; rintro e w5 ⟨rfl, hb5⟩; obtain ⟨W1', Wa', Wb', Wc', hW1', j0', f0', hWa', j1', f1', hWb', j2', f2', hWc', hS, hBS, hB⟩ := new_cell (below_on B4.out (Nat.le_refl _) hb5) (x : Int) (p : Int) (q : Int); have n0 := hS.c0; have n1 := hS.c1; have n2 := hS.c2; have q5 := (S4.out.below hb5).below hBS; have m0 := q5.c0; have m1 := q5.c1; have m2 := q5.c2; have S5 := Lib.hid q5; have C5 := Lib.hid ((C4.out.below hb5).below hBS); have B5 := Lib.hid hB; clear hS hBS hB hb5 q5))
  go_quiet (fail)
  have C6 := Lib.hid (CD.out _ _ _ nq C5.out)
  have B6 := Lib.hid (below_drewN' B5.out nq)
  have S6 : Hid (Sb (Wc'.drewN nq) w4.heap.size (i : Int) (v : Int) (p : Int)) := Lib.hid (S5.out.same rfl)
  obtain ⟨w6, hw6⟩ : ∃ w6, Wc'.drewN nq = w6 := ⟨_, rfl⟩
  obtain ⟨kk, hkk⟩ : ∃ kk, w4.heap.size = kk := ⟨_, rfl⟩
  rw [hw6, hkk] at S6
  rw [hw6] at C6 B6
  simp only [hw6, hkk]
  have l0 := S6.out.c0
  have l1 := S6.out.c1
  clear hw6 hkk m0 m1 m2 n0 n1 n2 c0 c1 d0 d1 e0 e1
  go_wp2_with (go_at_call 25; refine (NX.out w6 _ b C6.out).mono ?_; rintro e w7 ⟨rfl, hb7⟩; have q7 := S6.out.below hb7; have S7 := Lib.hid q7; have C7 := Lib.hid (C6.out.below hb7); have B7 := Lib.hid (below_on B6.out (Nat.le_refl _) hb7); clear hb7 q7)
  have C8 : Hid (Cdr w7.drew w2.heap.size b y s N l) := Lib.hid (C7.out.same (fun _ _ _ => rfl))
  have S8 : Hid (Sb w7.drew kk (i : Int) (v : Int) (p : Int)) := Lib.hid (S7.out.same rfl)
  have B8 := Lib.hid B7.out.drew
  have h0 := S8.out.c0
  have h1 := S8.out.c1
  have h2 := S8.out.c2
  obtain ⟨eE, eG⟩ := EE.out
  clear l0 l1
  go_region_held3 (fun W => W.cell? ⟨kk, 0, none⟩ = some (.int .i64 (i : Int)) ∧ W.cell? ⟨kk, 1, none⟩ = some (.int .u64 (v : Int)) ∧ W.cell? ⟨kk, 2, none⟩ = some (.int .i64 (p : Int))) (first | exact ⟨h0, h1, h2⟩ | exact ⟨r0, r1, r2⟩) (first
    | (go_at_call 25; refine (NY.out _ _ b C8.out).mono ?_; rintro e w8 ⟨rfl, hb8⟩; have q8 := S8.out.below hb8; have r0 := q8.c0; have r1 := q8.c1; have r2 := q8.c2; have B9 := Lib.hid (below_on B8.out (Nat.le_refl _) hb8); clear hb8 q8))
  all_goals
    go_wp2_with (go_at_call 11; refine (known_any _).mono ?_; rintro e w9 ⟨rfl, hb9⟩; have BZ := Lib.hid (below_on B0.out (Nat.le_refl _) (below_on B9.out (Nat.le_refl _) hb9)); clear hb9)
    go_ret
    exact ⟨rfl, BZ.out⟩

theorem walk (y : Int) (A : Option Addr) (l : List Int) (cap : Nat) (t : Int) (z : Int) (u : Int) (w : World) (hR : Ri w A l) (_ : ∀ z ∈ l, -9223372036854775808 ≤ z ∧ z ≤ 9223372036854775807) (_ : l.length ≤ cap) (_ : (Lit.int .i64 t).wf = true) (_ : (Lit.int .i64 z).wf = true) (hu : (Lit.int .u64 u).wf = true) :
    Calls Try.prog 5 #[tb y A l.length cap, .int .i64 t, .int .i64 z, .int .u64 u] w fun e w' => e = .returned (.bool true) ∧ Below w.heap.size w w' := by
  by_cases h : 300 < l.length
  · exact walk_long y A _ cap t z u w h
  · cases hv : vt y l 256 9 with
    | false => exact walk_bad y A l _ cap t z u w rfl (by omega) hv hR
    | true =>
      obtain ⟨n, rfl, hv2⟩ := vt_iff.1 hv
      have h1 := bounds_u64 hu
      obtain ⟨u, rfl⟩ : ∃ v : Nat, u = (v : Int) := ⟨u.toNat, by omega⟩
      cases hH : hsb l z with
      | false => exact walk_none n _ A l _ cap t z (u : Int) w rfl hv2 rfl hR hH
      | true =>
        by_cases h0 : t < 0
        · exact walk_low n _ A l _ cap t z (u : Int) w rfl hv2 rfl hR hH h0
        · by_cases h2 : ((2 ^ n : Nat) : Int) ≤ t
          · exact walk_high n _ A l _ cap t z (u : Int) w rfl hv2 rfl hR hH h2
          · obtain ⟨x, rfl, _, _⟩ := hsb_pos hv2 hH
            obtain ⟨t', rfl⟩ : ∃ t' : Nat, t = (t' : Int) := ⟨t.toNat, by omega⟩
            exact walk_ok n _ A l _ cap t' x u w rfl hv2 rfl hR hH (by omega)

set_option maxRecDepth 100000 in
theorem lifted (os : Os) (started : os.Started) (H : Type) (enc : TypeId × Value → H) :
    ReturnsInHanded {} Try.checked os 5 .any (Rows.statesBackSpec.pre6 enc Try.prog Try.f5 Rows.statesBackRow.domain false) (Rows.statesBackSpec.post enc Try.prog Try.f5 false true false false) := by
  refine returnsInHanded_of_change_sized (C := Try.checked) ownB started (by kernel_rfl) Try.func5
    (ChangeSpec.witness6 (enc := enc) (C := Try.checked) false ⟨#[], #[.agg #[.int .i64 0, .slice none 0 0], .int .i64 0, .int .i64 0, .int .u64 0], []⟩ 8 (by kernel_rfl) (by kernel_rfl) (by kernel_rfl) (by kernel_rfl)) ?_
  intro W base args ds gs before hval0 hW _ hsz0 _
  have hsz : (DataW.weightsEach Try.prog (Try.f5.params.toList ++ Rows.statesBackSpec.plain.varTypes Try.prog) (ds ++ gs)).all (· ≤ reachBytes) = true := hsz0
  clear hsz0
  have hval : ∀ (j : Nat) t v, Try.f5.params[j]? = some t → args[j]? = some v → Value.okWide Try.prog W .any base t v := hval0
  have hW' := hW
  obtain ⟨p, q, hA0, hV, rfl, hfz, hnd⟩ := hW
  have hA : DataW.TrodAll enc Try.prog W 0 (fun _ => true) true Try.f5.params.toList args.toList ds p := hA0
  rw [Try.params5] at hA hval hsz
  obtain ⟨v0, vs0, d0, ds0, p0, q0, hargs, rfl, rfl, h0, r0⟩ := trodAll_cons hA
  obtain ⟨v1, vs1, d1, ds1, p1, q1, rfl, rfl, rfl, h1, r1⟩ := trodAll_cons r0
  obtain ⟨v2, vs2, d2, ds2, p2, q2, rfl, rfl, rfl, h2, r2⟩ := trodAll_cons r1
  obtain ⟨v3, vs3, d3, ds3, p3, q3, rfl, rfl, rfl, h3, r3⟩ := trodAll_cons r2
  obtain ⟨rfl, rfl, rfl⟩ := trodAll_nil r3
  obtain rfl : args = #[v0, v1, v2, v3] := by cases args; simp_all
  obtain ⟨rfl, rfl⟩ := trodVars_none hV
  obtain ⟨cs0, rfl, hcs0⟩ := okWide_struct Try.underlying24 (hval 0 24 v0 rfl rfl)
  have k0 := h0
  have lt0 : ∀ x ∈ p0, x.block < W.heap.size := by obtain ⟨m, hm⟩ := k0; exact DataW.trod_lt m _ _ _ hm
  obtain ⟨y0, a0, len0, cap0, l0, rfl, rfl, hc0, ri0, wi0⟩ := open_tab hcs0 h0
  obtain ⟨a1, rfl, rfl, rfl, w1⟩ := open_int Try.underlying3 (hval 1 3 v1 rfl rfl) h1
  obtain ⟨a2, rfl, rfl, rfl, w2⟩ := open_int Try.underlying3 (hval 2 3 v2 rfl rfl) h2
  obtain ⟨a3, rfl, rfl, rfl, w3⟩ := open_int Try.underlying42 (hval 3 42 v3 rfl rfl) h3
  clear hA0 hval0
  refine (walk y0 a0 l0 cap0 a1 a2 a3 W ri0 wi0 hc0 w1 w2 w3).mono fun e W' ⟨he, bel⟩ => ?_
  subst he
  exact ⟨_, rfl, _, _, _, [], _, [], hW', trodAll_mk1 (shut_bool Try.underlying4 _), (trodAll_cons_mk (Below.trod laidOut (by kernel_rfl) (of_decide_eq_true (by kernel_rfl)) k0 bel lt0) (trodAll_cons_mk (shut_int Try.underlying3 w1) (trodAll_cons_mk (shut_int Try.underlying3 w2) (trodAll_cons_mk (shut_int Try.underlying42 w3) trodAll_mk0)))), rfl, bel.frame _, fun h => by cases h⟩

theorem proved : Rows.StatesBackSaid :=
  OpenClaim.holds_of_wide 5 Try.f5 rfl rfl rfl rfl rfl rfl rfl ⟨rfl, rfl, rfl, rfl, rfl⟩ rfl rfl rfl rfl rfl (by kernel_rfl) Try.func5 (by kernel_rfl)
    (of_decide_eq_true (by kernel_rfl)) (by unfold Func.isWrapper; rw [if_neg (by decide +kernel)]; exact ⟨rfl, rfl⟩)
    (fun os started H enc _ => lifted os started H enc)

#print axioms proved

end Go.Proofs.Ytonapehlhkoplaa.statesBack
