/-
  Proved: the law SpreadUnlike returns true for all pairs of tables: two valid tables with the same spread have the same Log, as many norms and the same numbers of states. No condition.
-/
import Derived.Test.YtpiebkkaileocaaFrm
import Derived.Test.YtpiebkkaileocaaUnl
namespace Go.Proofs.Ytpiebkkaileocaa.spreadUnlike
open Go.ChangeShapes Go.WideShapes Go.ChangeAt Go.RowKit

set_option maxRecDepth 100000 in
set_option maxHeartbeats 4000000 in
theorem walk_la (y z : Int) (A A2 : Option Addr) (N cap M cap2 : Nat) (w : World) (h : 300 < N) :
    Calls Try.prog 9 #[tb y A N cap, tb z A2 M cap2] w fun e w' => e = .returned (.bool true) ∧ Below w.heap.size w w' := by
  have hd : decide ((300 : Int) < (N : Int)) = true := decide_eq_true (by omega)
  have t0 : Tb ((w.alloc (.cells #[.int .i64 y, .slice A N cap] 24)).alloc (.cells #[.int .i64 z, .slice A2 M cap2] 24)) w.heap.size y A N cap := (Tb.new w y A N cap).same (Below.heap_alloc _ _ _ (by simp))
  have t1 : Tb ((w.alloc (.cells #[.int .i64 y, .slice A N cap] 24)).alloc (.cells #[.int .i64 z, .slice A2 M cap2] 24)) (w.heap.size + 1) z A2 M cap2 := by
    have := Tb.new (w.alloc (.cells #[.int .i64 y, .slice A N cap] 24)) z A2 M cap2
    rwa [World.size_alloc] at this
  have b1 : Below w.heap.size w ((w.alloc (.cells #[.int .i64 y, .slice A N cap] 24)).alloc (.cells #[.int .i64 z, .slice A2 M cap2] 24)) := ((Below.refl _ w).alloc (Nat.le_refl _) _).alloc (by simp) _
  obtain ⟨w1, hw1⟩ : ∃ w1, ((w.alloc (.cells #[.int .i64 y, .slice A N cap] 24)).alloc (.cells #[.int .i64 z, .slice A2 M cap2] 24)) = w1 := ⟨_, rfl⟩
  rw [hw1] at t0 t1 b1
  have a0 := t0.c0
  have a1 := t0.c1
  have c0 := t1.c0
  have c1 := t1.c1
  have B0 := Lib.hid b1
  clear b1 t0 t1
  go_enter Try.func9, Try.ntmps9
  go_wp2_with (go_at_call 11; refine (known_any w1).mono ?_; rintro e w9 ⟨rfl, hb9⟩; have B9 := Lib.hid (below_on B0.out (Nat.le_refl _) hb9); clear hb9)
  go_ret
  exact ⟨rfl, B9.out⟩

set_option maxRecDepth 100000 in
set_option maxHeartbeats 4000000 in
theorem walk_lb (y z : Int) (A A2 : Option Addr) (N cap M cap2 : Nat) (w : World) (h : N ≤ 300) (h2 : 300 < M) :
    Calls Try.prog 9 #[tb y A N cap, tb z A2 M cap2] w fun e w' => e = .returned (.bool true) ∧ Below w.heap.size w w' := by
  have hd : decide ((300 : Int) < (N : Int)) = false := decide_eq_false (by omega)
  have hd2 : decide ((300 : Int) < (M : Int)) = true := decide_eq_true (by omega)
  have t0 : Tb ((w.alloc (.cells #[.int .i64 y, .slice A N cap] 24)).alloc (.cells #[.int .i64 z, .slice A2 M cap2] 24)) w.heap.size y A N cap := (Tb.new w y A N cap).same (Below.heap_alloc _ _ _ (by simp))
  have t1 : Tb ((w.alloc (.cells #[.int .i64 y, .slice A N cap] 24)).alloc (.cells #[.int .i64 z, .slice A2 M cap2] 24)) (w.heap.size + 1) z A2 M cap2 := by
    have := Tb.new (w.alloc (.cells #[.int .i64 y, .slice A N cap] 24)) z A2 M cap2
    rwa [World.size_alloc] at this
  have b1 : Below w.heap.size w ((w.alloc (.cells #[.int .i64 y, .slice A N cap] 24)).alloc (.cells #[.int .i64 z, .slice A2 M cap2] 24)) := ((Below.refl _ w).alloc (Nat.le_refl _) _).alloc (by simp) _
  obtain ⟨w1, hw1⟩ : ∃ w1, ((w.alloc (.cells #[.int .i64 y, .slice A N cap] 24)).alloc (.cells #[.int .i64 z, .slice A2 M cap2] 24)) = w1 := ⟨_, rfl⟩
  rw [hw1] at t0 t1 b1
  have a0 := t0.c0
  have a1 := t0.c1
  have c0 := t1.c0
  have c1 := t1.c1
  have B0 := Lib.hid b1
  clear b1 t0 t1
  go_enter Try.func9, Try.ntmps9
  go_wp2_with (go_at_call 11; refine (known_any w1).mono ?_; rintro e w9 ⟨rfl, hb9⟩; have B9 := Lib.hid (below_on B0.out (Nat.le_refl _) hb9); clear hb9)
  go_ret
  exact ⟨rfl, B9.out⟩

set_option maxRecDepth 100000 in
set_option maxHeartbeats 4000000 in
theorem walk_ba (y z : Int) (A A2 : Option Addr) (l m : List Int) (N cap M cap2 : Nat) (w : World) (hN : l.length = N) (hM : m.length = M) (hR : Ri w A l) (h : N ≤ 300) (h2 : M ≤ 300) (hv : vt y l 256 9 = false) :
    Calls Try.prog 9 #[tb y A N cap, tb z A2 M cap2] w fun e w' => e = .returned (.bool true) ∧ Below w.heap.size w w' := by
  have hd : decide ((300 : Int) < (N : Int)) = false := decide_eq_false (by omega)
  have hd2 : decide ((300 : Int) < (M : Int)) = false := decide_eq_false (by omega)
  have t0 : Tb ((w.alloc (.cells #[.int .i64 y, .slice A N cap] 24)).alloc (.cells #[.int .i64 z, .slice A2 M cap2] 24)) w.heap.size y A N cap := (Tb.new w y A N cap).same (Below.heap_alloc _ _ _ (by simp))
  have t1 : Tb ((w.alloc (.cells #[.int .i64 y, .slice A N cap] 24)).alloc (.cells #[.int .i64 z, .slice A2 M cap2] 24)) (w.heap.size + 1) z A2 M cap2 := by
    have := Tb.new (w.alloc (.cells #[.int .i64 y, .slice A N cap] 24)) z A2 M cap2
    rwa [World.size_alloc] at this
  have b1 : Below w.heap.size w ((w.alloc (.cells #[.int .i64 y, .slice A N cap] 24)).alloc (.cells #[.int .i64 z, .slice A2 M cap2] 24)) := ((Below.refl _ w).alloc (Nat.le_refl _) _).alloc (by simp) _
  obtain ⟨w1, hw1⟩ : ∃ w1, ((w.alloc (.cells #[.int .i64 y, .slice A N cap] 24)).alloc (.cells #[.int .i64 z, .slice A2 M cap2] 24)) = w1 := ⟨_, rfl⟩
  rw [hw1] at t0 t1 b1
  have a0 := t0.c0
  have a1 := t0.c1
  have c0 := t1.c0
  have c1 := t1.c1
  have MY : Hid (Calls Try.prog 17 #[tb y A N cap, .int .i64 256, .int .i64 9] w1 fun e w' => e = .returned (.int .i64 13) ∧ Below w1.heap.size w1 w') := Lib.hid (by
    have := may_any w1 y 256 9 A l N cap hN (by omega) (hR.below b1)
    rw [hv] at this
    exact this)
  have B0 := Lib.hid b1
  clear b1 t0 t1 hR hN hM hv
  go_enter Try.func9, Try.ntmps9
  go_wp2_with (first
    | (go_at_call 17; refine MY.out.mono ?_; rintro e w2 ⟨rfl, hb2⟩; have B2 := Lib.hid (below_on B0.out (Nat.le_refl _) hb2); clear hb2)
    | (go_at_call 11; refine (known_any w2).mono ?_; rintro e w9 ⟨rfl, hb9⟩; have B9 := Lib.hid (below_on B2.out (Nat.le_refl _) hb9); clear hb9))
  go_ret
  exact ⟨rfl, B9.out⟩

set_option maxRecDepth 100000 in
set_option maxHeartbeats 4000000 in
theorem walk_bb (y : Nat) (z : Int) (A A2 : Option Addr) (l m : List Int) (N cap M cap2 : Nat) (w : World) (hN : l.length = N) (hM : m.length = M) (hR : Ri w A l) (hR2 : Ri w A2 m) (h : N ≤ 300) (h2 : M ≤ 300) (hv : Vt y l) (hvm : vt z m 256 9 = false) :
    Calls Try.prog 9 #[tb (y : Int) A N cap, tb z A2 M cap2] w fun e w' => e = .returned (.bool true) ∧ Below w.heap.size w w' := by
  have hd : decide ((300 : Int) < (N : Int)) = false := decide_eq_false (by omega)
  have hd2 : decide ((300 : Int) < (M : Int)) = false := decide_eq_false (by omega)
  have t0 : Tb ((w.alloc (.cells #[.int .i64 (y : Int), .slice A N cap] 24)).alloc (.cells #[.int .i64 z, .slice A2 M cap2] 24)) w.heap.size (y : Int) A N cap := (Tb.new w (y : Int) A N cap).same (Below.heap_alloc _ _ _ (by simp))
  have t1 : Tb ((w.alloc (.cells #[.int .i64 (y : Int), .slice A N cap] 24)).alloc (.cells #[.int .i64 z, .slice A2 M cap2] 24)) (w.heap.size + 1) z A2 M cap2 := by
    have := Tb.new (w.alloc (.cells #[.int .i64 (y : Int), .slice A N cap] 24)) z A2 M cap2
    rwa [World.size_alloc] at this
  have b1 : Below w.heap.size w ((w.alloc (.cells #[.int .i64 (y : Int), .slice A N cap] 24)).alloc (.cells #[.int .i64 z, .slice A2 M cap2] 24)) := ((Below.refl _ w).alloc (Nat.le_refl _) _).alloc (by simp) _
  obtain ⟨w1, hw1⟩ : ∃ w1, ((w.alloc (.cells #[.int .i64 (y : Int), .slice A N cap] 24)).alloc (.cells #[.int .i64 z, .slice A2 M cap2] 24)) = w1 := ⟨_, rfl⟩
  rw [hw1] at t0 t1 b1
  have a0 := t0.c0
  have a1 := t0.c1
  have c0 := t1.c0
  have c1 := t1.c1
  have MY : Hid (Calls Try.prog 17 #[tb y A N cap, .int .i64 256, .int .i64 9] w1 fun e w' => e = .returned (.int .i64 0) ∧ Below w1.heap.size w1 w') := Lib.hid (by
    have := may_any w1 (y : Int) 256 9 A l N cap hN (by omega) (hR.below b1)
    rw [vt_iff.2 ⟨y, rfl, hv⟩] at this
    exact this)
  have MZ : Hid (∀ W, Below w1.heap.size w1 W → Calls Try.prog 17 #[tb z A2 M cap2, .int .i64 256, .int .i64 9] W fun e w' => e = .returned (.int .i64 13) ∧ Below W.heap.size W w') := Lib.hid (fun W hb => by
    have := may_any W z 256 9 A2 m M cap2 hM (by omega) ((hR2.below b1).below hb)
    rw [hvm] at this
    exact this)
  have B0 := Lib.hid b1
  have T0 := Lib.hid t0
  have T1 := Lib.hid t1
  clear b1 t0 t1 hR hR2 hN hM hv hvm
  go_enter Try.func9, Try.ntmps9
  go_wp2_with (first
    | (go_at_call 17; with_reducible refine MY.out.mono ?_; rintro e w2 ⟨rfl, hb2⟩; have p2 := T0.out.below hb2; have q2 := T1.out.below hb2; have x0 := p2.c0; have x1 := p2.c1; have x2 := q2.c0; have x3 := q2.c1; have B2 := Lib.hid hb2; clear hb2 p2 q2)
    | (go_at_call 17; refine (MZ.out w2 B2.out).mono ?_; rintro e w3 ⟨rfl, hb3⟩; have B3 := Lib.hid (below_on B2.out (Nat.le_refl _) hb3); have p3 := T0.out.below B3.out; have q3 := T1.out.below B3.out; have y0 := p3.c0; have y1 := p3.c1; have y2 := q3.c0; have y3 := q3.c1; clear hb3 p3 q3)
    | (go_at_call 11; refine (known_any w3).mono ?_; rintro e w9 ⟨rfl, hb9⟩; have B9 := Lib.hid (below_on B0.out (Nat.le_refl _) (below_on B3.out (Nat.le_refl _) hb9)); clear hb9))
  go_ret
  exact ⟨rfl, B9.out⟩

set_option maxRecDepth 100000 in
set_option maxHeartbeats 4000000 in
theorem walk_ne (y z s t : Nat) (A A2 : Option Addr) (l m : List Int) (N cap M cap2 : Nat) (w : World) (hN : l.length = N) (hM : m.length = M) (hR : Ri w A l) (hR2 : Ri w A2 m) (h : N ≤ 300) (h2 : M ≤ 300) (hv : Vt y l) (hvm : Vt z m) (hse : 2 ^ y = s) (hte : 2 ^ z = t) (hne : spl s l ≠ spl t m) :
    Calls Try.prog 9 #[tb (y : Int) A N cap, tb (z : Int) A2 M cap2] w fun e w' => e = .returned (.bool true) ∧ Below w.heap.size w w' := by
  have hd : decide ((300 : Int) < (N : Int)) = false := decide_eq_false (by omega)
  have hd2 : decide ((300 : Int) < (M : Int)) = false := decide_eq_false (by omega)
  have t0 : Tb ((w.alloc (.cells #[.int .i64 (y : Int), .slice A N cap] 24)).alloc (.cells #[.int .i64 (z : Int), .slice A2 M cap2] 24)) w.heap.size (y : Int) A N cap := (Tb.new w (y : Int) A N cap).same (Below.heap_alloc _ _ _ (by simp))
  have t1 : Tb ((w.alloc (.cells #[.int .i64 (y : Int), .slice A N cap] 24)).alloc (.cells #[.int .i64 (z : Int), .slice A2 M cap2] 24)) (w.heap.size + 1) (z : Int) A2 M cap2 := by
    have := Tb.new (w.alloc (.cells #[.int .i64 (y : Int), .slice A N cap] 24)) (z : Int) A2 M cap2
    rwa [World.size_alloc] at this
  have b1 : Below w.heap.size w ((w.alloc (.cells #[.int .i64 (y : Int), .slice A N cap] 24)).alloc (.cells #[.int .i64 (z : Int), .slice A2 M cap2] 24)) := ((Below.refl _ w).alloc (Nat.le_refl _) _).alloc (by simp) _
  obtain ⟨w1, hw1⟩ : ∃ w1, ((w.alloc (.cells #[.int .i64 (y : Int), .slice A N cap] 24)).alloc (.cells #[.int .i64 (z : Int), .slice A2 M cap2] 24)) = w1 := ⟨_, rfl⟩
  rw [hw1] at t0 t1 b1
  have a0 := t0.c0
  have a1 := t0.c1
  have c0 := t1.c0
  have c1 := t1.c1
  have MY : Hid (Calls Try.prog 17 #[tb y A N cap, .int .i64 256, .int .i64 9] w1 fun e w' => e = .returned (.int .i64 0) ∧ Below w1.heap.size w1 w') := Lib.hid (by
    have := may_any w1 (y : Int) 256 9 A l N cap hN (by omega) (hR.below b1)
    rw [vt_iff.2 ⟨y, rfl, hv⟩] at this
    exact this)
  have MZ : Hid (∀ W, Below w1.heap.size w1 W → Calls Try.prog 17 #[tb (z : Int) A2 M cap2, .int .i64 256, .int .i64 9] W fun e w' => e = .returned (.int .i64 0) ∧ Below W.heap.size W w') := Lib.hid (fun W hb => by
    have := may_any W (z : Int) 256 9 A2 m M cap2 hM (by omega) ((hR2.below b1).below hb)
    rw [vt_iff.2 ⟨z, rfl, hvm⟩] at this
    exact this)
  have SP : Hid (∀ W, Below w1.heap.size w1 W → Calls Try.prog 12 #[tb y A N cap] W fun e w' => ∃ g, e = .returned (.tuple #[.slice (some ⟨g, 0, none⟩) s s, .int .i64 0]) ∧ w'.ownsRow W.heap.size 3 1 (.slice (some ⟨g, 0, none⟩) s s) s ((spl s l).map nv) ∧ Below W.heap.size W w') := Lib.hid (fun W hb => spread_ok W y s A l N cap hN hv hse ((hR.below b1).below hb))
  have SQ : Hid (∀ W, Below w1.heap.size w1 W → Calls Try.prog 12 #[tb z A2 M cap2] W fun e w' => ∃ g, e = .returned (.tuple #[.slice (some ⟨g, 0, none⟩) t t, .int .i64 0]) ∧ w'.ownsRow W.heap.size 3 1 (.slice (some ⟨g, 0, none⟩) t t) t ((spl t m).map nv) ∧ Below W.heap.size W w') := Lib.hid (fun W hb => spread_ok W z t A2 m M cap2 hM hvm hte ((hR2.below b1).below hb))
  have hs5 : s ≤ 512 := by rw [← hse]; exact hv.size
  have SA : Hid (∀ W B B' g g', W.ownsRow B 3 1 (.slice (some ⟨g, 0, none⟩) s s) s ((spl s l).map nv) → W.ownsRow B' 3 1 (.slice (some ⟨g', 0, none⟩) t t) t ((spl t m).map nv) → Calls Try.prog 14 #[.slice (some ⟨g, 0, none⟩) s s, .slice (some ⟨g', 0, none⟩) t t] W fun e w' => e = .returned (.bool false) ∧ Below W.heap.size W w') := Lib.hid (fun W B B' g g' h1 h2 => by
    have := same_any W (some ⟨g, 0, none⟩) (some ⟨g', 0, none⟩) _ _ s s t t (spl_len s l) (spl_len t m) (by omega) (rn_own h1) (rn_own h2)
    rwa [decide_eq_false hne] at this)
  have hsm : sam (y : Int) (z : Int) l m = false := by
    cases hc : sam (y : Int) (z : Int) l m with
    | false => rfl
    | true =>
      unfold sam at hc
      rw [Bool.and_eq_true, decide_eq_true_iff, decide_eq_true_iff] at hc
      obtain ⟨h3, rfl⟩ := hc
      have h4 : y = z := by omega
      exact absurd (by rw [← hse, ← hte, h4]) hne
  have NS : Hid (∀ W, Below w1.heap.size w1 W → Calls Try.prog 22 #[tb y A N cap, tb z A2 M cap2] W fun e w' => e = .returned (.bool false) ∧ Below W.heap.size W w') := Lib.hid (fun W hb => by
    have := rsame_any W (y : Int) (z : Int) A A2 l m N cap M cap2 hN hM (by omega) ((hR.below b1).below hb) ((hR2.below b1).below hb)
    rwa [hsm] at this)
  have B0 := Lib.hid b1
  have T0 := Lib.hid t0
  have T1 := Lib.hid t1
  clear b1 t0 t1 hR hR2 hN hM hv hvm hse hte hne hsm
  go_enter Try.func9, Try.ntmps9
  go_wp2_with (first
    | (go_at_call 17; with_reducible refine MY.out.mono ?_; rintro e w2 ⟨rfl, hb2⟩; have p2 := T0.out.below hb2; have q2 := T1.out.below hb2; have x0 := p2.c0; have x1 := p2.c1; have x2 := q2.c0; have x3 := q2.c1; have B2 := Lib.hid hb2; clear hb2 p2 q2)
    | (go_at_call 17; refine (MZ.out w2 B2.out).mono ?_; rintro e w3 ⟨rfl, hb3⟩; have B3 := Lib.hid (below_on B2.out (Nat.le_refl _) hb3); have p3 := T0.out.below B3.out; have q3 := T1.out.below B3.out; have y0 := p3.c0; have y1 := p3.c1; have y2 := q3.c0; have y3 := q3.c1; clear hb3 p3 q3)
    | (go_at_call 12; with_reducible refine (SP.out w3 B3.out).mono ?_; rintro e w4 ⟨g, rfl, ho4, hb4⟩; have O4 := Lib.hid ho4; have B4 := Lib.hid (below_on B3.out (Nat.le_refl _) hb4); have p4 := T0.out.below B4.out; have q4 := T1.out.below B4.out; have z0 := p4.c0; have z1 := p4.c1; have z2 := q4.c0; have z3 := q4.c1; clear hb4 ho4 p4 q4)
    | (go_at_call 12; refine (SQ.out w4 B4.out).mono ?_; rintro e w5 ⟨g', rfl, ho5, hb5⟩; have O5 := Lib.hid ho5; have Q4 := Lib.hid (own_below O4.out hb5); have B5 := Lib.hid (below_on B4.out (Nat.le_refl _) hb5); clear hb5 ho5)
    | (go_at_call 14; refine (SA.out w5 _ _ g g' Q4.out O5.out).mono ?_; rintro e w6 ⟨rfl, hb6⟩; have B6 := Lib.hid (below_on B5.out (Nat.le_refl _) hb6); have p6 := T0.out.below B6.out; have q6 := T1.out.below B6.out; have v0 := p6.c0; have v1 := p6.c1; have v2 := q6.c0; have v3 := q6.c1; clear hb6 p6 q6)
    | (go_at_call 22; refine (NS.out w6 B6.out).mono ?_; rintro e w7 ⟨rfl, hb7⟩; have B7 := Lib.hid (below_on B6.out (Nat.le_refl _) hb7); clear hb7)
    | (go_at_call 11; refine (known_any w7).mono ?_; rintro e w9 ⟨rfl, hb9⟩; have B9 := Lib.hid (below_on B0.out (Nat.le_refl _) (below_on B7.out (Nat.le_refl _) hb9)); clear hb9))
  go_ret
  exact ⟨rfl, B9.out⟩

set_option maxRecDepth 100000 in
set_option maxHeartbeats 4000000 in
theorem walk_eq (y s : Nat) (A A2 : Option Addr) (l m : List Int) (N cap cap2 : Nat) (w : World) (hN : l.length = N) (hM : m.length = N) (hR : Ri w A l) (hR2 : Ri w A2 m) (h : N ≤ 300) (hv : Vt y l) (hvm : Vt y m) (hse : 2 ^ y = s) (he : spl s l = spl s m) :
    Calls Try.prog 9 #[tb (y : Int) A N cap, tb (y : Int) A2 N cap2] w fun e w' => e = .returned (.bool true) ∧ Below w.heap.size w w' := by
  have hd : decide ((300 : Int) < (N : Int)) = false := decide_eq_false (by omega)
  have t0 : Tb ((w.alloc (.cells #[.int .i64 (y : Int), .slice A N cap] 24)).alloc (.cells #[.int .i64 (y : Int), .slice A2 N cap2] 24)) w.heap.size (y : Int) A N cap := (Tb.new w (y : Int) A N cap).same (Below.heap_alloc _ _ _ (by simp))
  have t1 : Tb ((w.alloc (.cells #[.int .i64 (y : Int), .slice A N cap] 24)).alloc (.cells #[.int .i64 (y : Int), .slice A2 N cap2] 24)) (w.heap.size + 1) (y : Int) A2 N cap2 := by
    have := Tb.new (w.alloc (.cells #[.int .i64 (y : Int), .slice A N cap] 24)) (y : Int) A2 N cap2
    rwa [World.size_alloc] at this
  have b1 : Below w.heap.size w ((w.alloc (.cells #[.int .i64 (y : Int), .slice A N cap] 24)).alloc (.cells #[.int .i64 (y : Int), .slice A2 N cap2] 24)) := ((Below.refl _ w).alloc (Nat.le_refl _) _).alloc (by simp) _
  obtain ⟨w1, hw1⟩ : ∃ w1, ((w.alloc (.cells #[.int .i64 (y : Int), .slice A N cap] 24)).alloc (.cells #[.int .i64 (y : Int), .slice A2 N cap2] 24)) = w1 := ⟨_, rfl⟩
  rw [hw1] at t0 t1 b1
  have a0 := t0.c0
  have a1 := t0.c1
  have c0 := t1.c0
  have c1 := t1.c1
  have MY : Hid (Calls Try.prog 17 #[tb y A N cap, .int .i64 256, .int .i64 9] w1 fun e w' => e = .returned (.int .i64 0) ∧ Below w1.heap.size w1 w') := Lib.hid (by
    have := may_any w1 (y : Int) 256 9 A l N cap hN (by omega) (hR.below b1)
    rw [vt_iff.2 ⟨y, rfl, hv⟩] at this
    exact this)
  have MZ : Hid (∀ W, Below w1.heap.size w1 W → Calls Try.prog 17 #[tb (y : Int) A2 N cap2, .int .i64 256, .int .i64 9] W fun e w' => e = .returned (.int .i64 0) ∧ Below W.heap.size W w') := Lib.hid (fun W hb => by
    have := may_any W (y : Int) 256 9 A2 m N cap2 hM (by omega) ((hR2.below b1).below hb)
    rw [vt_iff.2 ⟨y, rfl, hvm⟩] at this
    exact this)
  have SP : Hid (∀ W, Below w1.heap.size w1 W → Calls Try.prog 12 #[tb y A N cap] W fun e w' => ∃ g, e = .returned (.tuple #[.slice (some ⟨g, 0, none⟩) s s, .int .i64 0]) ∧ w'.ownsRow W.heap.size 3 1 (.slice (some ⟨g, 0, none⟩) s s) s ((spl s l).map nv) ∧ Below W.heap.size W w') := Lib.hid (fun W hb => spread_ok W y s A l N cap hN hv hse ((hR.below b1).below hb))
  have SQ : Hid (∀ W, Below w1.heap.size w1 W → Calls Try.prog 12 #[tb y A2 N cap2] W fun e w' => ∃ g, e = .returned (.tuple #[.slice (some ⟨g, 0, none⟩) s s, .int .i64 0]) ∧ w'.ownsRow W.heap.size 3 1 (.slice (some ⟨g, 0, none⟩) s s) s ((spl s m).map nv) ∧ Below W.heap.size W w') := Lib.hid (fun W hb => spread_ok W y s A2 m N cap2 hM hvm hse ((hR2.below b1).below hb))
  have hs5 : s ≤ 512 := by rw [← hse]; exact hv.size
  have SA : Hid (∀ W B B' g g', W.ownsRow B 3 1 (.slice (some ⟨g, 0, none⟩) s s) s ((spl s l).map nv) → W.ownsRow B' 3 1 (.slice (some ⟨g', 0, none⟩) s s) s ((spl s m).map nv) → Calls Try.prog 14 #[.slice (some ⟨g, 0, none⟩) s s, .slice (some ⟨g', 0, none⟩) s s] W fun e w' => e = .returned (.bool true) ∧ Below W.heap.size W w') := Lib.hid (fun W B B' g g' h1 h2 => by
    have := same_any W (some ⟨g, 0, none⟩) (some ⟨g', 0, none⟩) _ _ s s s s (spl_len s l) (spl_len s m) (by omega) (rn_own h1) (rn_own h2)
    rwa [decide_eq_true he] at this)
  have HST : Hid (∀ k a b, l[k]? = some a → m[k]? = some b → sts a = sts b) := Lib.hid (fun k a b ha hb => unl_sts hv hvm (by rw [hse]; exact he) ha hb)
  have STS : Hid (∀ W (x : Int), Calls Try.prog 19 #[.int .i64 x] W fun e w' => e = .returned (.int .i64 (sts x)) ∧ w' = W) := Lib.hid (fun W x => rstates_any W x)
  have B0 := Lib.hid b1
  have T0 := Lib.hid t0
  have T1 := Lib.hid t1
  have HN := Lib.hid hN
  have HM := Lib.hid hM
  have R1 := Lib.hid (hR.below b1)
  have R2 := Lib.hid (hR2.below b1)
  clear b1 t0 t1 hR hR2 hN hM hv hvm hse he
  go_enter Try.func9, Try.ntmps9
  go_wp2_with (first
    | (go_at_call 17; with_reducible refine MY.out.mono ?_; rintro e w2 ⟨rfl, hb2⟩; have p2 := T0.out.below hb2; have q2 := T1.out.below hb2; have x0 := p2.c0; have x1 := p2.c1; have x2 := q2.c0; have x3 := q2.c1; have B2 := Lib.hid hb2; clear hb2 p2 q2)
    | (go_at_call 17; refine (MZ.out w2 B2.out).mono ?_; rintro e w3 ⟨rfl, hb3⟩; have B3 := Lib.hid (below_on B2.out (Nat.le_refl _) hb3); have p3 := T0.out.below B3.out; have q3 := T1.out.below B3.out; have y0 := p3.c0; have y1 := p3.c1; have y2 := q3.c0; have y3 := q3.c1; clear hb3 p3 q3)
    | (go_at_call 12; with_reducible refine (SP.out w3 B3.out).mono ?_; rintro e w4 ⟨g, rfl, ho4, hb4⟩; have O4 := Lib.hid ho4; have B4 := Lib.hid (below_on B3.out (Nat.le_refl _) hb4); have p4 := T0.out.below B4.out; have q4 := T1.out.below B4.out; have z0 := p4.c0; have z1 := p4.c1; have z2 := q4.c0; have z3 := q4.c1; clear hb4 ho4 p4 q4)
    | (go_at_call 12; refine (SQ.out w4 B4.out).mono ?_; rintro e w5 ⟨g', rfl, ho5, hb5⟩; have O5 := Lib.hid ho5; have Q4 := Lib.hid (own_below O4.out hb5); have B5 := Lib.hid (below_on B4.out (Nat.le_refl _) hb5); clear hb5 ho5)
    | (go_at_call 14; refine (SA.out w5 _ _ g g' Q4.out O5.out).mono ?_; rintro e w6 ⟨rfl, hb6⟩; have B6 := Lib.hid (below_on B5.out (Nat.le_refl _) hb6); have p6 := T0.out.below B6.out; have q6 := T1.out.below B6.out; have v0 := p6.c0; have v1 := p6.c1; have v2 := q6.c0; have v3 := q6.c1; clear hb6 p6 q6))
  go_loopw [9] (fun u wr => ∃ i : Nat, i ≤ N ∧ u = .int .i64 (i : Int) ∧ Hid (Below w1.heap.size w1 wr)) (fun u _ => N - (intOf u).toNat)
  case atStart => exact ⟨0, Nat.zero_le _, rfl, B6⟩
  case round =>
    obtain ⟨i, hi, rfl, HB⟩ := hrel
    have u0 := (T0.out.below HB.out).c1
    have u1 := (T1.out.below HB.out).c1
    by_cases hlt : i < N
    · obtain ⟨a, ha⟩ : ∃ a, l[i]? = some a := ⟨_, List.getElem?_eq_getElem (by rw [HN.out]; exact hlt)⟩
      obtain ⟨b, hb⟩ : ∃ b, m[i]? = some b := ⟨_, List.getElem?_eq_getElem (by rw [HM.out]; exact hlt)⟩
      obtain ⟨ad, hA, hca⟩ := (R1.out.below HB.out) i (iv a) (by rw [List.getElem?_map, ha]; rfl)
      obtain ⟨ad2, hA2, hcb⟩ := (R2.out.below HB.out) i (iv b) (by rw [List.getElem?_map, hb]; rfl)
      subst hA hA2
      simp only [iv] at hca hcb
      obtain ⟨q, hq⟩ : ∃ q, sts a = q := ⟨_, rfl⟩
      have SX : Hid (∀ W, Calls Try.prog 19 #[.int .i64 a] W fun e w' => e = .returned (.int .i64 q) ∧ w' = W) := Lib.hid (fun W => by rw [← hq]; exact STS.out W a)
      have SY : Hid (∀ W, Calls Try.prog 19 #[.int .i64 b] W fun e w' => e = .returned (.int .i64 q) ∧ w' = W) := Lib.hid (fun W => by rw [← hq, HST.out i a b ha hb]; exact STS.out W b)
      have wi : IntKind.i64.wrap (i : Int) = (i : Int) := IntWalk.i64_in _ (by omega)
      clear ha hb hq
      go_wp2
      go_quiet ((go_at_call 19; first | with_reducible exact Calls.quiet_of_same (SX.out _) | with_reducible exact Calls.quiet_of_same (SY.out _)))
      go_wp2
      exact ⟨⟨i + 1, by omega, by simp, Lib.hid (below_drewN' HB.out _)⟩, by simp [intOf]; omega⟩
    · go_wp2_with (go_at_call 11; refine (known_any _).mono ?_; rintro e w9 ⟨rfl, hb9⟩; have B9 := Lib.hid (below_on B0.out (Nat.le_refl _) (below_on HB.out (Nat.le_refl _) hb9)); clear hb9)
      go_ret
      exact ⟨rfl, B9.out⟩

theorem walk (y : Int) (A : Option Addr) (l : List Int) (cap : Nat) (z : Int) (A2 : Option Addr) (m : List Int) (cap2 : Nat) (w : World) (hR : Ri w A l) (_ : ∀ z ∈ l, -9223372036854775808 ≤ z ∧ z ≤ 9223372036854775807) (_ : l.length ≤ cap) (hR2 : Ri w A2 m) (_ : ∀ z ∈ m, -9223372036854775808 ≤ z ∧ z ≤ 9223372036854775807) (_ : m.length ≤ cap2) :
    Calls Try.prog 9 #[tb y A l.length cap, tb z A2 m.length cap2] w fun e w' => e = .returned (.bool true) ∧ Below w.heap.size w w' := by
  by_cases h : 300 < l.length
  · exact walk_la y z A A2 _ cap _ cap2 w h
  · by_cases h2 : 300 < m.length
    · exact walk_lb y z A A2 _ cap _ cap2 w (by omega) h2
    · cases hv : vt y l 256 9 with
      | false => exact walk_ba y z A A2 l m _ cap _ cap2 w rfl rfl hR (by omega) (by omega) hv
      | true =>
        obtain ⟨y, rfl, hv2⟩ := vt_iff.1 hv
        cases hm : vt z m 256 9 with
        | false => exact walk_bb y z A A2 l m _ cap _ cap2 w rfl rfl hR hR2 (by omega) (by omega) hv2 hm
        | true =>
          obtain ⟨z, rfl, hm2⟩ := vt_iff.1 hm
          by_cases he : spl (2 ^ y) l = spl (2 ^ z) m
          · obtain rfl := unl_log he
            have e1 := unl_len hv2 hm2 he
            have e2 := unl_len hm2 hv2 he.symm
            have e3 : m.length = l.length := by omega
            rw [e3]
            exact walk_eq y _ A A2 l m _ cap cap2 w rfl e3 hR hR2 (by omega) hv2 hm2 rfl he
          · exact walk_ne y z _ _ A A2 l m _ cap _ cap2 w rfl rfl hR hR2 (by omega) (by omega) hv2 hm2 rfl rfl he
set_option maxRecDepth 100000 in
theorem lifted (os : Os) (started : os.Started) (H : Type) (enc : TypeId × Value → H) :
    ReturnsInHanded {} Try.checked os 9 .any (Rows.spreadUnlikeSpec.pre6 enc Try.prog Try.f9 Rows.spreadUnlikeRow.domain false) (Rows.spreadUnlikeSpec.post enc Try.prog Try.f9 false true false false) := by
  refine returnsInHanded_of_change_sized (C := Try.checked) ownB started (by kernel_rfl) Try.func9
    (ChangeSpec.witness6 (enc := enc) (C := Try.checked) false ⟨#[], #[.agg #[.int .i64 0, .slice none 0 0], .agg #[.int .i64 0, .slice none 0 0]], []⟩ 8 (by kernel_rfl) (by kernel_rfl) (by kernel_rfl) (by kernel_rfl)) ?_
  intro W base args ds gs before hval0 hW _ hsz0 _
  have hsz : (DataW.weightsEach Try.prog (Try.f9.params.toList ++ Rows.spreadUnlikeSpec.plain.varTypes Try.prog) (ds ++ gs)).all (· ≤ reachBytes) = true := hsz0
  clear hsz0
  have hval : ∀ (j : Nat) t v, Try.f9.params[j]? = some t → args[j]? = some v → Value.okWide Try.prog W .any base t v := hval0
  have hW' := hW
  obtain ⟨p, q, hA0, hV, rfl, hfz, hnd⟩ := hW
  have hA : DataW.TrodAll enc Try.prog W 0 (fun _ => true) true Try.f9.params.toList args.toList ds p := hA0
  rw [Try.params9] at hA hval hsz
  obtain ⟨v0, vs0, d0, ds0, p0, q0, hargs, rfl, rfl, h0, r0⟩ := trodAll_cons hA
  obtain ⟨v1, vs1, d1, ds1, p1, q1, rfl, rfl, rfl, h1, r1⟩ := trodAll_cons r0
  obtain ⟨rfl, rfl, rfl⟩ := trodAll_nil r1
  obtain rfl : args = #[v0, v1] := by cases args; simp_all
  obtain ⟨rfl, rfl⟩ := trodVars_none hV
  obtain ⟨cs0, rfl, hcs0⟩ := okWide_struct Try.underlying24 (hval 0 24 v0 rfl rfl)
  have k0 := h0
  have lt0 : ∀ x ∈ p0, x.block < W.heap.size := by obtain ⟨m, hm⟩ := k0; exact DataW.trod_lt m _ _ _ hm
  obtain ⟨y0, a0, len0, cap0, l0, rfl, rfl, hc0, ri0, wi0⟩ := open_tab hcs0 h0
  obtain ⟨cs1, rfl, hcs1⟩ := okWide_struct Try.underlying24 (hval 1 24 v1 rfl rfl)
  have k1 := h1
  have lt1 : ∀ x ∈ p1, x.block < W.heap.size := by obtain ⟨m, hm⟩ := k1; exact DataW.trod_lt m _ _ _ hm
  obtain ⟨y1, a1, len1, cap1, l1, rfl, rfl, hc1, ri1, wi1⟩ := open_tab hcs1 h1
  clear hA0 hval0
  refine (walk y0 a0 l0 cap0 y1 a1 l1 cap1 W ri0 wi0 hc0 ri1 wi1 hc1).mono fun e W' ⟨he, bel⟩ => ?_
  subst he
  exact ⟨_, rfl, _, _, _, [], _, [], hW', trodAll_mk1 (shut_bool Try.underlying4 _), (trodAll_cons_mk (Below.trod laidOut (by kernel_rfl) (of_decide_eq_true (by kernel_rfl)) k0 bel lt0) (trodAll_cons_mk (Below.trod laidOut (by kernel_rfl) (of_decide_eq_true (by kernel_rfl)) k1 bel lt1) trodAll_mk0)), rfl, bel.frame _, fun h => by cases h⟩

theorem proved : Rows.SpreadUnlikeSaid :=
  OpenClaim.holds_of_wide 9 Try.f9 rfl rfl rfl rfl rfl rfl rfl ⟨rfl, rfl, rfl, rfl, rfl⟩ rfl rfl rfl rfl rfl (by kernel_rfl) Try.func9 (by kernel_rfl)
    (of_decide_eq_true (by kernel_rfl)) (by unfold Func.isWrapper; rw [if_neg (by decide +kernel)]; exact ⟨rfl, rfl⟩)
    (fun os started H enc _ => lifted os started H enc)

#print axioms proved

end Go.Proofs.Ytpiebkkaileocaa.spreadUnlike
