/-
  Proved: the law StatesOnto returns true for all tables, states and bits: every state is the predecessor of each of its next states, by these bits. No condition.
-/
import Derived.BigQuiet
import Derived.Deep.QuietTactic
import Derived.Test.YtonapehlhkoplaaBak
namespace Go.Proofs.Ytonapehlhkoplaa.statesOnto
open Go.ChangeShapes Go.WideShapes Go.ChangeAt Go.RowKit

set_option maxRecDepth 100000 in
set_option maxHeartbeats 4000000 in
theorem walk_long (y : Int) (A : Option Addr) (N cap : Nat) (t : Int) (u : Int) (w : World) (h : 300 < N) :
    Calls Try.prog 6 #[tb y A N cap, .int .i64 t, .int .u64 u] w fun e w' => e = .returned (.bool true) ∧ Below w.heap.size w w' := by
  have hd : decide ((300 : Int) < (N : Int)) = true := decide_eq_true (by omega)
  have b1 := below_new w (.cells #[.int .i64 y, .slice A N cap] 24)
  have t1 := Tb.new w y A N cap
  obtain ⟨w1, hw1⟩ : ∃ w1, w.alloc (.cells #[.int .i64 y, .slice A N cap] 24) = w1 := ⟨_, rfl⟩
  rw [hw1] at b1 t1
  have c0 := t1.c0
  have c1 := t1.c1
  have KN := Lib.hid (known_any w1)
  have B0 := Lib.hid b1
  clear b1 t1
  go_enter Try.func6, Try.ntmps6
  go_wp2_with (go_at_call 11; refine KN.out.mono ?_; rintro e w2 ⟨rfl, hb2⟩; have B1 := Lib.hid (below_on B0.out (Nat.le_refl _) hb2); clear hb2)
  go_ret
  exact ⟨rfl, B1.out⟩

set_option maxRecDepth 100000 in
set_option maxHeartbeats 4000000 in
theorem walk_bad (y : Int) (A : Option Addr) (l : List Int) (N cap : Nat) (t : Int) (u : Int) (w : World) (hN : l.length = N) (h : N ≤ 300) (hv : vt y l 256 9 = false) (hR : Ri w A l) :
    Calls Try.prog 6 #[tb y A N cap, .int .i64 t, .int .u64 u] w fun e w' => e = .returned (.bool true) ∧ Below w.heap.size w w' := by
  have hd : decide ((300 : Int) < (N : Int)) = false := decide_eq_false (by omega)
  have b1 := below_new w (.cells #[.int .i64 y, .slice A N cap] 24)
  have t1 := Tb.new w y A N cap
  obtain ⟨w1, hw1⟩ : ∃ w1, w.alloc (.cells #[.int .i64 y, .slice A N cap] 24) = w1 := ⟨_, rfl⟩
  rw [hw1] at b1 t1
  have c0 := t1.c0
  have c1 := t1.c1
  have MY : Hid (Calls Try.prog 16 #[tb y A N cap, .int .i64 256, .int .i64 9] w1 fun e w' => e = .returned (.int .i64 13) ∧ Below w1.heap.size w1 w') := Lib.hid (by
    have := may_any w1 y 256 9 A l N cap hN (by omega) (hR.below b1)
    rw [hv] at this
    exact this)
  have B0 := Lib.hid b1
  clear b1 t1 hR hN hv
  go_enter Try.func6, Try.ntmps6
  go_wp2_with (first
    | (go_at_call 16; refine MY.out.mono ?_; rintro e w2 ⟨rfl, hb2⟩; have B2 := Lib.hid (below_on B0.out (Nat.le_refl _) hb2); clear hb2)
    | (go_at_call 11; refine (known_any w2).mono ?_; rintro e w3 ⟨rfl, hb3⟩; have B3 := Lib.hid (below_on B2.out (Nat.le_refl _) hb3); clear hb3))
  go_ret
  exact ⟨rfl, B3.out⟩

set_option maxRecDepth 100000 in
set_option maxHeartbeats 4000000 in
theorem walk_low (y s : Nat) (A : Option Addr) (l : List Int) (N cap : Nat) (t : Int) (u : Int) (w : World) (hN : l.length = N) (hv : Vt y l) (hse : 2 ^ y = s) (hR : Ri w A l) (h0 : t < 0) :
    Calls Try.prog 6 #[tb y A N cap, .int .i64 t, .int .u64 u] w fun e w' => e = .returned (.bool true) ∧ Below w.heap.size w w' := by
  have hN2 : N ≤ 256 := by rw [← hN]; exact hv.len
  have hy9 := hv.log
  have hs5 : s ≤ 512 := by rw [← hse]; exact hv.size
  have hs1 : 1 ≤ s := by rw [← hse]; exact Nat.one_le_two_pow
  have hd : decide ((300 : Int) < (N : Int)) = false := decide_eq_false (by omega)
  have b1 := below_new w (.cells #[.int .i64 (y : Int), .slice A N cap] 24)
  have t1 := Tb.new w (y : Int) A N cap
  obtain ⟨w1, hw1⟩ : ∃ w1, w.alloc (.cells #[.int .i64 (y : Int), .slice A N cap] 24) = w1 := ⟨_, rfl⟩
  rw [hw1] at b1 t1
  have c0 := t1.c0
  have c1 := t1.c1
  have hR1 := hR.below b1
  have MY : Hid (Calls Try.prog 16 #[tb y A N cap, .int .i64 256, .int .i64 9] w1 fun e w' => e = .returned (.int .i64 0) ∧ Below w1.heap.size w1 w') := Lib.hid (by
    have := may_any w1 (y : Int) 256 9 A l N cap hN (by omega) hR1
    rw [vt_iff.2 ⟨y, rfl, hv⟩] at this
    exact this)
  have BG : Hid (∀ W, Below w1.heap.size w1 W → Calls Try.prog 17 #[tb y A N cap] W fun e w' => ∃ b, e = .returned (.pointer (some ⟨b, 0, none⟩)) ∧ Cdr w' W.heap.size b y s N l ∧ Below W.heap.size W w') := Lib.hid (fun W hb => begin_ok W y s A l N cap hN hv hse (hR1.below hb))
  have B0 := Lib.hid b1
  have T1 := Lib.hid t1
  have k0 : decide (t < 0) = true := decide_eq_true h0
  clear b1 t1 hR hR1 hN hv hse BG 
  go_enter Try.func6, Try.ntmps6
  go_wp2_with (first
    | (go_at_call 16; refine MY.out.mono ?_; rintro e w2 ⟨rfl, hb2⟩; have B2 := Lib.hid hb2; have q2 := T1.out.below hb2; have d0 := q2.c0; have d1 := q2.c1; clear hb2 q2)
    | (go_at_call 11; refine (known_any w2).mono ?_; rintro e w9 ⟨rfl, hb9⟩; have B9 := Lib.hid (below_on B0.out (Nat.le_refl _) (below_on B2.out (Nat.le_refl _) hb9)); clear hb9))
  go_ret
  exact ⟨rfl, B9.out⟩

set_option maxRecDepth 100000 in
set_option maxHeartbeats 4000000 in
theorem walk_high (y s : Nat) (A : Option Addr) (l : List Int) (N cap : Nat) (t : Int) (u : Int) (w : World) (hN : l.length = N) (hv : Vt y l) (hse : 2 ^ y = s) (hR : Ri w A l) (h0 : (s : Int) ≤ t) :
    Calls Try.prog 6 #[tb y A N cap, .int .i64 t, .int .u64 u] w fun e w' => e = .returned (.bool true) ∧ Below w.heap.size w w' := by
  have hN2 : N ≤ 256 := by rw [← hN]; exact hv.len
  have hy9 := hv.log
  have hs5 : s ≤ 512 := by rw [← hse]; exact hv.size
  have hs1 : 1 ≤ s := by rw [← hse]; exact Nat.one_le_two_pow
  have hd : decide ((300 : Int) < (N : Int)) = false := decide_eq_false (by omega)
  have b1 := below_new w (.cells #[.int .i64 (y : Int), .slice A N cap] 24)
  have t1 := Tb.new w (y : Int) A N cap
  obtain ⟨w1, hw1⟩ : ∃ w1, w.alloc (.cells #[.int .i64 (y : Int), .slice A N cap] 24) = w1 := ⟨_, rfl⟩
  rw [hw1] at b1 t1
  have c0 := t1.c0
  have c1 := t1.c1
  have hR1 := hR.below b1
  have MY : Hid (Calls Try.prog 16 #[tb y A N cap, .int .i64 256, .int .i64 9] w1 fun e w' => e = .returned (.int .i64 0) ∧ Below w1.heap.size w1 w') := Lib.hid (by
    have := may_any w1 (y : Int) 256 9 A l N cap hN (by omega) hR1
    rw [vt_iff.2 ⟨y, rfl, hv⟩] at this
    exact this)
  have BG : Hid (∀ W, Below w1.heap.size w1 W → Calls Try.prog 17 #[tb y A N cap] W fun e w' => ∃ b, e = .returned (.pointer (some ⟨b, 0, none⟩)) ∧ Cdr w' W.heap.size b y s N l ∧ Below W.heap.size W w') := Lib.hid (fun W hb => begin_ok W y s A l N cap hN hv hse (hR1.below hb))
  have B0 := Lib.hid b1
  have T1 := Lib.hid t1
  have SZ : Hid (∀ W', Calls Try.prog 24 #[.int .i64 (y : Int)] W' fun e w' => e = .returned (.int .i64 (s : Int)) ∧ w' = W') := Lib.hid (fun W' => by
    have := size_any W' (y : Int)
    rwa [siz_pow hy9 hse] at this)
  have k0 : decide (t < 0) = false := decide_eq_false (by omega)
  have k1 : decide ((s : Int) ≤ t) = true := decide_eq_true h0
  clear b1 t1 hR hR1 hN hv hse BG 
  go_enter Try.func6, Try.ntmps6
  go_wp2_with (first
    | (go_at_call 16; refine MY.out.mono ?_; rintro e w2 ⟨rfl, hb2⟩; have B2 := Lib.hid hb2; have q2 := T1.out.below hb2; have d0 := q2.c0; have d1 := q2.c1; clear hb2 q2)
    | (go_at_call 24; refine (SZ.out _).mono ?_; rintro e w2 ⟨rfl, rfl⟩)
    | (go_at_call 11; refine (known_any w2).mono ?_; rintro e w9 ⟨rfl, hb9⟩; have B9 := Lib.hid (below_on B0.out (Nat.le_refl _) (below_on B2.out (Nat.le_refl _) hb9)); clear hb9))
  go_ret
  exact ⟨rfl, B9.out⟩

set_option maxRecDepth 100000 in
set_option maxHeartbeats 4000000 in
theorem walk_ok (y s : Nat) (A : Option Addr) (l : List Int) (N cap : Nat) (t : Nat) (v : Nat) (w : World) (hN : l.length = N) (hv : Vt y l) (hse : 2 ^ y = s) (hR : Ri w A l) (ht : t < s) :
    Calls Try.prog 6 #[tb y A N cap, .int .i64 (t : Int), .int .u64 (v : Int)] w fun e w' => e = .returned (.bool true) ∧ Below w.heap.size w w' := by
  have hN2 : N ≤ 256 := by rw [← hN]; exact hv.len
  have hy9 := hv.log
  have hs5 : s ≤ 512 := by rw [← hse]; exact hv.size
  have hs1 : 1 ≤ s := by rw [← hse]; exact Nat.one_le_two_pow
  have hd : decide ((300 : Int) < (N : Int)) = false := decide_eq_false (by omega)
  have b1 := below_new w (.cells #[.int .i64 (y : Int), .slice A N cap] 24)
  have t1 := Tb.new w (y : Int) A N cap
  obtain ⟨w1, hw1⟩ : ∃ w1, w.alloc (.cells #[.int .i64 (y : Int), .slice A N cap] 24) = w1 := ⟨_, rfl⟩
  rw [hw1] at b1 t1
  have c0 := t1.c0
  have c1 := t1.c1
  have hR1 := hR.below b1
  have MY : Hid (Calls Try.prog 16 #[tb y A N cap, .int .i64 256, .int .i64 9] w1 fun e w' => e = .returned (.int .i64 0) ∧ Below w1.heap.size w1 w') := Lib.hid (by
    have := may_any w1 (y : Int) 256 9 A l N cap hN (by omega) hR1
    rw [vt_iff.2 ⟨y, rfl, hv⟩] at this
    exact this)
  have BG : Hid (∀ W, Below w1.heap.size w1 W → Calls Try.prog 17 #[tb y A N cap] W fun e w' => ∃ b, e = .returned (.pointer (some ⟨b, 0, none⟩)) ∧ Cdr w' W.heap.size b y s N l ∧ Below W.heap.size W w') := Lib.hid (fun W hb => begin_ok W y s A l N cap hN hv hse (hR1.below hb))
  have B0 := Lib.hid b1
  have T1 := Lib.hid t1
  have SZ : Hid (∀ W', Calls Try.prog 24 #[.int .i64 (y : Int)] W' fun e w' => e = .returned (.int .i64 (s : Int)) ∧ w' = W') := Lib.hid (fun W' => by
    have := size_any W' (y : Int)
    rwa [siz_pow hy9 hse] at this)
  obtain ⟨C, hC⟩ : ∃ C, cls y l (spl s l) = C := ⟨_, rfl⟩
  have hCl : C.length = s := by rw [← hC]; exact cls_s hv hse
  obtain ⟨⟨x, p, q⟩, hc⟩ : ∃ c, C[t]? = some c := ⟨_, List.getElem?_eq_getElem (by rw [hCl]; exact ht)⟩
  obtain ⟨g1, g2, g3, g4, g5⟩ := span_of hv hse (i := t) (x := x) (p := p) (q := q) (by rw [hC]; exact hc)
  obtain ⟨D, hD⟩ : ∃ D, 2 ^ p = D := ⟨_, rfl⟩
  have hD1 : 1 ≤ D := by rw [← hD]; exact Nat.one_le_two_pow
  have hr : v % D < D := Nat.mod_lt _ (by omega)
  obtain ⟨r, hrr⟩ : ∃ r, v % D = r := ⟨_, rfl⟩
  rw [hrr] at hr
  rw [hD] at g1
  obtain ⟨R, hR0⟩ : ∃ R, q + r = R := ⟨_, rfl⟩
  have eP : Tp C (R : Int) (x : Int) = .tuple #[stv (t : Int) (r : Int) (p : Int), .int .i64 0] := by
    rw [← hC]
    have h1 := onto_at hv hse (i := t) (t := R) (x := x) (p := p) (q := q) (by rw [hC]; exact hc) (by omega) (by rw [hD]; omega) (by omega)
    have e : R - q = r := by omega
    rwa [e] at h1
  have CE : Hid (∀ W B b, Cdr W B b y s N l → Calls Try.prog 15 #[.pointer (some ⟨b, 0, none⟩), .int .i64 (t : Int)] W fun e w' => e = .returned (.tuple #[cev (x : Int) (p : Int) (q : Int), .int .i64 0]) ∧ Below W.heap.size W w') := Lib.hid (fun W B b h => by
    obtain ⟨gc, go, V, h⟩ := h
    rw [← tc_at hc, ← hC]
    exact cell_any W h hv hse (t : Int))
  have NX : Hid (∀ W B b, Cdr W B b y s N l → Calls Try.prog 25 #[.pointer (some ⟨b, 0, none⟩), .int .i64 (t : Int), .int .u64 (r : Int)] W fun e w' => e = .returned (.tuple #[.int .i64 (R : Int), .int .i64 0]) ∧ Below W.heap.size W w') := Lib.hid (fun W B b h => by
    obtain ⟨gc, go, V, h⟩ := h
    have h1 := nexts_any W h hv hse (t : Int) r (by omega)
    rw [hC, tn_at hc, hD, Nat.mod_eq_of_lt hr, hR0] at h1
    exact h1)
  have PR : Hid (∀ W B b, Cdr W B b y s N l → Calls Try.prog 19 #[.pointer (some ⟨b, 0, none⟩), .int .i64 (R : Int), .int .i64 (x : Int)] W fun e w' => e = .returned (.tuple #[stv (t : Int) (r : Int) (p : Int), .int .i64 0]) ∧ Below W.heap.size W w') := Lib.hid (fun W B b h => by
    obtain ⟨gc, go, V, h⟩ := h
    rw [← eP, ← hC]
    exact predecessor_any W h hN hv hse (R : Int) (x : Int))
  have k0 : decide ((t : Int) < 0) = false := decide_eq_false (by omega)
  have k1 : decide ((s : Int) ≤ (t : Int)) = false := decide_eq_false (by omega)
  have k2 : ¬ s ≤ t := by omega
  have k3 : decide ((p : Int) < 0) = false := decide_eq_false (by omega)
  have k4 : decide (9 < (p : Int)) = false := decide_eq_false (by omega)
  have k5 : ¬ 9 < p := by omega
  have eD : (2 : Int) ^ p = (D : Int) := by rw [← hD]; exact (Int.natCast_pow 2 p).symm
  have hD5 : D ≤ 1000 := by omega
  have wD : IntKind.u64.wrap (D : Int) = (D : Int) := IntWalk.u64_in _ (by omega)
  have er : (v : Int) % (D : Int) = (r : Int) := by rw [← hrr]; exact (Int.natCast_emod v D).symm
  have er2 : Int.tmod (v : Int) (D : Int) = (r : Int) := by rw [← hrr]; exact (Int.ofNat_tmod v D).symm
  have eD0 : ((D : Int) == 0) = false := by simp; omega
  have eD1 : ¬ D = 0 := by omega
  clear b1 t1 hR hR1 hN hv hse hC hc hCl eP hR0 hD hrr g1
  go_enter Try.func6, Try.ntmps6
  go_wp2_with (first
    | (go_at_call 16; refine MY.out.mono ?_; rintro e w2 ⟨rfl, hb2⟩; have B2 := Lib.hid hb2; have q2 := T1.out.below hb2; have d0 := q2.c0; have d1 := q2.c1; clear hb2 q2)
    | (go_at_call 24; refine (SZ.out _).mono ?_; rintro e w2 ⟨rfl, rfl⟩)
    | (go_at_call 17; refine (BG.out w2 B2.out).mono ?_; rintro e w3 ⟨b, rfl, hC3, hb3⟩; have C3 := Lib.hid hC3; have B3 := Lib.hid (below_on B2.out (Nat.le_refl _) hb3); have q3 := T1.out.below B3.out; have e0 := q3.c0; have e1 := q3.c1; clear hb3 q3 hC3)
    | (go_at_call 15; refine (CE.out w3 _ b C3.out).mono ?_; rintro e w4 ⟨rfl, hb4⟩; obtain ⟨W1, Wa, Wb, Wc, hW1, k0', f0, hWa, k1', f1, hWb, k2', f2, hWc, hS, hBS, hB⟩ := new_cell (below_on B3.out (Nat.le_refl _) hb4) (x : Int) (p : Int) (q : Int); have S4 := Lib.hid hS; have m0 := hS.c0; have m1 := hS.c1; have m2 := hS.c2; have C4 := Lib.hid ((C3.out.below hb4).below hBS); have B4 := Lib.hid hB; clear hS hBS hB hb4)
    | (go_at_call 25; refine (NX.out Wc _ b C4.out).mono ?_; rintro e w5 ⟨rfl, hb5⟩; have q5 := S4.out.below hb5; have n0 := q5.c0; have n1 := q5.c1; have n2 := q5.c2; have S5 := Lib.hid q5; have C5 := Lib.hid (C4.out.below hb5); have B5 := Lib.hid (below_on B4.out (Nat.le_refl _) hb5); clear hb5 q5)
    | (go_at_call 19; refine (PR.out w5 _ b C5.out).mono ?_; rintro e w6 ⟨rfl, hb6⟩; obtain ⟨W1', Wa', Wb', Wc', hW1', k0', f0', hWa', k1', f1', hWb', k2', f2', hWc', hS, hBS, hB⟩ := new_step (below_on B5.out (Nat.le_refl _) hb6) (t : Int) (r : Int) (p : Int); have o0 := hS.c0; have o1 := hS.c1; have o2 := hS.c2; have q6 := (S5.out.below hb6).below hBS; have l0 := q6.c0; have l1 := q6.c1; have l2 := q6.c2; have B6 := Lib.hid hB; clear hS hBS hB hb6 q6)
    | (go_at_call 11; refine (known_any _).mono ?_; rintro e w9 ⟨rfl, hb9⟩; have B9 := Lib.hid (below_on B0.out (Nat.le_refl _) (below_on B6.out (Nat.le_refl _) hb9)); clear hb9))
  go_ret
  exact ⟨rfl, B9.out⟩

theorem walk (y : Int) (A : Option Addr) (l : List Int) (cap : Nat) (t : Int) (u : Int) (w : World) (hR : Ri w A l) (_ : ∀ z ∈ l, -9223372036854775808 ≤ z ∧ z ≤ 9223372036854775807) (_ : l.length ≤ cap) (_ : (Lit.int .i64 t).wf = true) (hu : (Lit.int .u64 u).wf = true) :
    Calls Try.prog 6 #[tb y A l.length cap, .int .i64 t, .int .u64 u] w fun e w' => e = .returned (.bool true) ∧ Below w.heap.size w w' := by
  by_cases h : 300 < l.length
  · exact walk_long y A _ cap t u w h
  · cases hv : vt y l 256 9 with
    | false => exact walk_bad y A l _ cap t u w rfl (by omega) hv hR
    | true =>
      obtain ⟨n, rfl, hv2⟩ := vt_iff.1 hv
      have h1 := bounds_u64 hu
      obtain ⟨v, rfl⟩ : ∃ v : Nat, u = (v : Int) := ⟨u.toNat, by omega⟩
      by_cases h0 : t < 0
      · exact walk_low n _ A l _ cap t (v : Int) w rfl hv2 rfl hR h0
      · by_cases h2 : ((2 ^ n : Nat) : Int) ≤ t
        · exact walk_high n _ A l _ cap t (v : Int) w rfl hv2 rfl hR h2
        · obtain ⟨t', rfl⟩ : ∃ t' : Nat, t = (t' : Int) := ⟨t.toNat, by omega⟩
          exact walk_ok n _ A l _ cap t' v w rfl hv2 rfl hR (by omega)

set_option maxRecDepth 100000 in
theorem lifted (os : Os) (started : os.Started) (H : Type) (enc : TypeId × Value → H) :
    ReturnsInHanded {} Try.checked os 6 .any (Rows.statesOntoSpec.pre6 enc Try.prog Try.f6 Rows.statesOntoRow.domain false) (Rows.statesOntoSpec.post enc Try.prog Try.f6 false true false false) := by
  refine returnsInHanded_of_change_sized (C := Try.checked) ownB started (by kernel_rfl) Try.func6
    (ChangeSpec.witness6 (enc := enc) (C := Try.checked) false ⟨#[], #[.agg #[.int .i64 0, .slice none 0 0], .int .i64 0, .int .u64 0], []⟩ 8 (by kernel_rfl) (by kernel_rfl) (by kernel_rfl) (by kernel_rfl)) ?_
  intro W base args ds gs before hval0 hW _ hsz0 _
  have hsz : (DataW.weightsEach Try.prog (Try.f6.params.toList ++ Rows.statesOntoSpec.plain.varTypes Try.prog) (ds ++ gs)).all (· ≤ reachBytes) = true := hsz0
  clear hsz0
  have hval : ∀ (j : Nat) t v, Try.f6.params[j]? = some t → args[j]? = some v → Value.okWide Try.prog W .any base t v := hval0
  have hW' := hW
  obtain ⟨p, q, hA0, hV, rfl, hfz, hnd⟩ := hW
  have hA : DataW.TrodAll enc Try.prog W 0 (fun _ => true) true Try.f6.params.toList args.toList ds p := hA0
  rw [Try.params6] at hA hval hsz
  obtain ⟨v0, vs0, d0, ds0, p0, q0, hargs, rfl, rfl, h0, r0⟩ := trodAll_cons hA
  obtain ⟨v1, vs1, d1, ds1, p1, q1, rfl, rfl, rfl, h1, r1⟩ := trodAll_cons r0
  obtain ⟨v2, vs2, d2, ds2, p2, q2, rfl, rfl, rfl, h2, r2⟩ := trodAll_cons r1
  obtain ⟨rfl, rfl, rfl⟩ := trodAll_nil r2
  obtain rfl : args = #[v0, v1, v2] := by cases args; simp_all
  obtain ⟨rfl, rfl⟩ := trodVars_none hV
  obtain ⟨cs0, rfl, hcs0⟩ := okWide_struct Try.underlying24 (hval 0 24 v0 rfl rfl)
  have k0 := h0
  have lt0 : ∀ x ∈ p0, x.block < W.heap.size := by obtain ⟨m, hm⟩ := k0; exact DataW.trod_lt m _ _ _ hm
  obtain ⟨y0, a0, len0, cap0, l0, rfl, rfl, hc0, ri0, wi0⟩ := open_tab hcs0 h0
  obtain ⟨a1, rfl, rfl, rfl, w1⟩ := open_int Try.underlying3 (hval 1 3 v1 rfl rfl) h1
  obtain ⟨a2, rfl, rfl, rfl, w2⟩ := open_int Try.underlying42 (hval 2 42 v2 rfl rfl) h2
  clear hA0 hval0
  refine (walk y0 a0 l0 cap0 a1 a2 W ri0 wi0 hc0 w1 w2).mono fun e W' ⟨he, bel⟩ => ?_
  subst he
  exact ⟨_, rfl, _, _, _, [], _, [], hW', trodAll_mk1 (shut_bool Try.underlying4 _), (trodAll_cons_mk (Below.trod laidOut (by kernel_rfl) (of_decide_eq_true (by kernel_rfl)) k0 bel lt0) (trodAll_cons_mk (shut_int Try.underlying3 w1) (trodAll_cons_mk (shut_int Try.underlying42 w2) trodAll_mk0))), rfl, bel.frame _, fun h => by cases h⟩

theorem proved : Rows.StatesOntoSaid :=
  OpenClaim.holds_of_wide 6 Try.f6 rfl rfl rfl rfl rfl rfl rfl ⟨rfl, rfl, rfl, rfl, rfl⟩ rfl rfl rfl rfl rfl (by kernel_rfl) Try.func6 (by kernel_rfl)
    (of_decide_eq_true (by kernel_rfl)) (by unfold Func.isWrapper; rw [if_neg (by decide +kernel)]; exact ⟨rfl, rfl⟩)
    (fun os started H enc _ => lifted os started H enc)

#print axioms proved

end Go.Proofs.Ytonapehlhkoplaa.statesOnto
