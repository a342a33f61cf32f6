/-
  Proved: the law DescUnlike returns true for all two tables: they have the same description if and only if they are equal. No condition.
-/
import Derived.BigQuiet
import Derived.Deep.QuietTactic
import Derived.Deep.RegionHeld3
import Derived.Test.YtpjbjbohbdlciaaFrm
namespace Go.Proofs.Ytpjbjbohbdlciaa.descUnlike
open Go.ChangeShapes Go.WideShapes Go.ChangeAt Go.RowKit

set_option maxRecDepth 100000 in
set_option maxHeartbeats 1000000 in
theorem walk_a (y z : Int) (A B : Option Addr) (N cap M dap : Nat) (w : World) (h : 300 < N) :
    Calls Try.prog 9 #[tb y A N cap, tb z B M dap] w fun e w' => e = .returned (.bool true) ∧ Below w.heap.size w w' := by
  have hd : decide ((300 : Int) < (N : Int)) = true := decide_eq_true (by omega)
  have b1 := below_new w (.cells #[.int .i64 y, .slice A N cap] 24)
  have t1 := Tb.new w y A N cap
  obtain ⟨w1, hw1⟩ : ∃ w1, w.alloc (.cells #[.int .i64 y, .slice A N cap] 24) = w1 := ⟨_, rfl⟩
  rw [hw1] at b1 t1
  have b2 := below_new w1 (.cells #[.int .i64 z, .slice B M dap] 24)
  have s1 := Tb.new w1 z B M dap
  obtain ⟨v1, hv1⟩ : ∃ v1, w1.alloc (.cells #[.int .i64 z, .slice B M dap] 24) = v1 := ⟨_, rfl⟩
  obtain ⟨x1, hx1⟩ : ∃ x1, w1.heap.size = x1 := ⟨_, rfl⟩
  rw [hv1] at b2 s1
  rw [hx1] at s1
  have t2 := t1.below b2
  have c0 := t2.c0
  have c1 := t2.c1
  have e0 := s1.c0
  have e1 := s1.c1
  have B0 := Lib.hid (below_on b1 (Nat.le_refl _) b2)
  clear b1 b2 t1 t2 s1
  go_enter Try.func9, Try.ntmps9
  go_wp2_with (first
    | (go_at_call 12; refine (known_any _).mono ?_; rintro e w9 ⟨rfl, hb9⟩; have B9 := Lib.hid (below_on B0.out (Nat.le_refl _) hb9); clear hb9))
  go_ret
  exact ⟨rfl, B9.out⟩

set_option maxRecDepth 100000 in
set_option maxHeartbeats 1000000 in
theorem walk_b (y z : Int) (A B : Option Addr) (N cap M dap : Nat) (w : World) (h : N ≤ 300 ∧ 300 < M) :
    Calls Try.prog 9 #[tb y A N cap, tb z B M dap] w fun e w' => e = .returned (.bool true) ∧ Below w.heap.size w w' := by
  have hd : decide ((300 : Int) < (N : Int)) = false := decide_eq_false (by omega)
  have hd2 : decide ((300 : Int) < (M : Int)) = true := decide_eq_true (by omega)
  have b1 := below_new w (.cells #[.int .i64 y, .slice A N cap] 24)
  have t1 := Tb.new w y A N cap
  obtain ⟨w1, hw1⟩ : ∃ w1, w.alloc (.cells #[.int .i64 y, .slice A N cap] 24) = w1 := ⟨_, rfl⟩
  rw [hw1] at b1 t1
  have b2 := below_new w1 (.cells #[.int .i64 z, .slice B M dap] 24)
  have s1 := Tb.new w1 z B M dap
  obtain ⟨v1, hv1⟩ : ∃ v1, w1.alloc (.cells #[.int .i64 z, .slice B M dap] 24) = v1 := ⟨_, rfl⟩
  obtain ⟨x1, hx1⟩ : ∃ x1, w1.heap.size = x1 := ⟨_, rfl⟩
  rw [hv1] at b2 s1
  rw [hx1] at s1
  have t2 := t1.below b2
  have c0 := t2.c0
  have c1 := t2.c1
  have e0 := s1.c0
  have e1 := s1.c1
  have B0 := Lib.hid (below_on b1 (Nat.le_refl _) b2)
  clear b1 b2 t1 t2 s1
  go_enter Try.func9, Try.ntmps9
  go_wp2_with (first
    | (go_at_call 12; refine (known_any _).mono ?_; rintro e w9 ⟨rfl, hb9⟩; have B9 := Lib.hid (below_on B0.out (Nat.le_refl _) hb9); clear hb9))
  go_ret
  exact ⟨rfl, B9.out⟩

set_option maxRecDepth 100000 in
set_option maxHeartbeats 1000000 in
theorem walk_c (y z : Int) (l m : List Int) (A B : Option Addr) (N cap M dap : Nat) (w : World) (hN : l.length = N) (_ : m.length = M) (h : N ≤ 300) (h2 : M ≤ 300) (hR : Ri w A l) (_ : Ri w B m) (hv : may y l = false) :
    Calls Try.prog 9 #[tb y A N cap, tb z B M dap] w fun e w' => e = .returned (.bool true) ∧ Below w.heap.size w w' := by
  have hd : decide ((300 : Int) < (N : Int)) = false := decide_eq_false (by omega)
  have hd2 : decide ((300 : Int) < (M : Int)) = false := decide_eq_false (by omega)
  have b1 := below_new w (.cells #[.int .i64 y, .slice A N cap] 24)
  have t1 := Tb.new w y A N cap
  obtain ⟨w1, hw1⟩ : ∃ w1, w.alloc (.cells #[.int .i64 y, .slice A N cap] 24) = w1 := ⟨_, rfl⟩
  rw [hw1] at b1 t1
  have b2 := below_new w1 (.cells #[.int .i64 z, .slice B M dap] 24)
  have s1 := Tb.new w1 z B M dap
  obtain ⟨v1, hv1⟩ : ∃ v1, w1.alloc (.cells #[.int .i64 z, .slice B M dap] 24) = v1 := ⟨_, rfl⟩
  obtain ⟨x1, hx1⟩ : ∃ x1, w1.heap.size = x1 := ⟨_, rfl⟩
  rw [hv1] at b2 s1
  rw [hx1] at s1
  have t2 := t1.below b2
  have c0 := t2.c0
  have c1 := t2.c1
  have e0 := s1.c0
  have e1 := s1.c1
  have B0 := Lib.hid (below_on b1 (Nat.le_refl _) b2)
  have T2 := Lib.hid t2
  have S1 := Lib.hid s1
  have MA := Lib.hid (rmay_any v1 y A l N cap hN (by omega) ((hR.below b1).below b2) false hv)
  clear b1 b2 t1 t2 s1 hR hN
  go_enter Try.func9, Try.ntmps9
  go_wp2_with (first
    | (go_at_call 14; refine MA.out.mono ?_; rintro e w2 ⟨rfl, hb2⟩; have B2 := Lib.hid hb2; have ta := T2.out.below hb2; have sa := S1.out.below hb2; have d0 := ta.c0; have d1 := ta.c1; have f0 := sa.c0; have f1 := sa.c1; clear hb2 ta sa)
    | (go_at_call 12; refine (known_any _).mono ?_; rintro e w9 ⟨rfl, hb9⟩; have B9 := Lib.hid (below_on (below_on B0.out (Nat.le_refl _) B2.out) (Nat.le_refl _) hb9); clear hb9))
  go_ret
  exact ⟨rfl, B9.out⟩

set_option maxRecDepth 100000 in
set_option maxHeartbeats 1000000 in
theorem walk_d (y z : Int) (l m : List Int) (A B : Option Addr) (N cap M dap : Nat) (w : World) (hN : l.length = N) (hM : m.length = M) (h : N ≤ 300) (h2 : M ≤ 300) (hR : Ri w A l) (hR2 : Ri w B m) (hv : may y l = true) (hv2 : may z m = false) :
    Calls Try.prog 9 #[tb y A N cap, tb z B M dap] w fun e w' => e = .returned (.bool true) ∧ Below w.heap.size w w' := by
  have hd : decide ((300 : Int) < (N : Int)) = false := decide_eq_false (by omega)
  have hd2 : decide ((300 : Int) < (M : Int)) = false := decide_eq_false (by omega)
  have b1 := below_new w (.cells #[.int .i64 y, .slice A N cap] 24)
  have t1 := Tb.new w y A N cap
  obtain ⟨w1, hw1⟩ : ∃ w1, w.alloc (.cells #[.int .i64 y, .slice A N cap] 24) = w1 := ⟨_, rfl⟩
  rw [hw1] at b1 t1
  have b2 := below_new w1 (.cells #[.int .i64 z, .slice B M dap] 24)
  have s1 := Tb.new w1 z B M dap
  obtain ⟨v1, hv1⟩ : ∃ v1, w1.alloc (.cells #[.int .i64 z, .slice B M dap] 24) = v1 := ⟨_, rfl⟩
  obtain ⟨x1, hx1⟩ : ∃ x1, w1.heap.size = x1 := ⟨_, rfl⟩
  rw [hv1] at b2 s1
  rw [hx1] at s1
  have t2 := t1.below b2
  have c0 := t2.c0
  have c1 := t2.c1
  have e0 := s1.c0
  have e1 := s1.c1
  have B0 := Lib.hid (below_on b1 (Nat.le_refl _) b2)
  have T2 := Lib.hid t2
  have S1 := Lib.hid s1
  have MA := Lib.hid (rmay_any v1 y A l N cap hN (by omega) ((hR.below b1).below b2) true hv)
  have MB : Hid (∀ W, Below v1.heap.size v1 W → Calls Try.prog 14 #[tb z B M dap] W fun e w' => e = .returned (.bool false) ∧ Below W.heap.size W w') := Lib.hid (fun W hb => rmay_any W z B m M dap hM (by omega) (((hR2.below b1).below b2).below hb) false hv2)
  clear b1 b2 t1 t2 s1 hR hR2 hN hM
  go_enter Try.func9, Try.ntmps9
  go_wp2_with (first
    | (go_at_call 14; refine (MB.out _ B2.out).mono ?_; rintro e w3 ⟨rfl, hb3⟩; have B3 := Lib.hid (below_on B2.out (Nat.le_refl _) hb3); clear hb3)
    | (go_at_call 14; refine MA.out.mono ?_; rintro e w2 ⟨rfl, hb2⟩; have B2 := Lib.hid hb2; have ta := T2.out.below hb2; have sa := S1.out.below hb2; have d0 := ta.c0; have d1 := ta.c1; have f0 := sa.c0; have f1 := sa.c1; clear hb2 ta sa)
    | (go_at_call 12; refine (known_any _).mono ?_; rintro e w9 ⟨rfl, hb9⟩; have B9 := Lib.hid (below_on (below_on B0.out (Nat.le_refl _) B3.out) (Nat.le_refl _) hb9); clear hb9))
  go_ret
  exact ⟨rfl, B9.out⟩

set_option maxRecDepth 100000 in
set_option maxHeartbeats 1000000 in
theorem walk_ok (y z : Nat) (l m : List Int) (A B : Option Addr) (N cap M dap : Nat) (w : World) (hN : l.length = N) (hM : m.length = M) (h : N ≤ 300) (h2 : M ≤ 300) (hR : Ri w A l) (hR2 : Ri w B m) (hc : N ≤ cap) (hc2 : M ≤ dap) (hv : Vt y l) (hy : 1 ≤ y) (hv2 : Vt z m) (hz : 1 ≤ z) :
    Calls Try.prog 9 #[tb (y : Int) A N cap, tb (z : Int) B M dap] w fun e w' => e = .returned (.bool true) ∧ Below w.heap.size w w' := by
  have hd : decide ((300 : Int) < (N : Int)) = false := decide_eq_false (by omega)
  have hd2 : decide ((300 : Int) < (M : Int)) = false := decide_eq_false (by omega)
  have b1 := below_new w (.cells #[.int .i64 (y : Int), .slice A N cap] 24)
  have t1 := Tb.new w (y : Int) A N cap
  obtain ⟨w1, hw1⟩ : ∃ w1, w.alloc (.cells #[.int .i64 (y : Int), .slice A N cap] 24) = w1 := ⟨_, rfl⟩
  rw [hw1] at b1 t1
  have b2 := below_new w1 (.cells #[.int .i64 (z : Int), .slice B M dap] 24)
  have s1 := Tb.new w1 (z : Int) B M dap
  obtain ⟨v1, hv1⟩ : ∃ v1, w1.alloc (.cells #[.int .i64 (z : Int), .slice B M dap] 24) = v1 := ⟨_, rfl⟩
  obtain ⟨x1, hx1⟩ : ∃ x1, w1.heap.size = x1 := ⟨_, rfl⟩
  rw [hv1] at b2 s1
  rw [hx1] at s1
  have t2 := t1.below b2
  have c0 := t2.c0
  have c1 := t2.c1
  have e0 := s1.c0
  have e1 := s1.c1
  have B0 := Lib.hid (below_on b1 (Nat.le_refl _) b2)
  have T2 := Lib.hid t2
  have S1 := Lib.hid s1
  have MA := Lib.hid (rmay_any v1 (y : Int) A l N cap hN (by omega) ((hR.below b1).below b2) true (may_iff.2 ⟨y, rfl, hy, hv⟩))
  have MB : Hid (∀ W, Below v1.heap.size v1 W → Calls Try.prog 14 #[tb (z : Int) B M dap] W fun e w' => e = .returned (.bool true) ∧ Below W.heap.size W w') := Lib.hid (fun W hb => rmay_any W (z : Int) B m M dap hM (by omega) (((hR2.below b1).below b2).below hb) true (may_iff.2 ⟨z, rfl, hz, hv2⟩))
  have r1 := (hR.below b1).below b2
  have r2 := (hR2.below b1).below b2
  have EA : Hid (∀ W, Below v1.heap.size v1 W → Calls Try.prog 13 #[tb (y : Int) A N cap] W (EncP W (Bt.pack (descr y l)) 0)) := Lib.hid (fun W hb => encode_ok W y A l N cap hN hc (r1.below hb) hv hy)
  have EB : Hid (∀ W, Below v1.heap.size v1 W → Calls Try.prog 13 #[tb (z : Int) B M dap] W (EncP W (Bt.pack (descr z m)) 0)) := Lib.hid (fun W hb => encode_ok W z B m M dap hM hc2 (r2.below hb) hv2 hz)
  obtain ⟨X, hX⟩ : ∃ X, Bt.pack (descr y l) = X := ⟨_, rfl⟩
  obtain ⟨Z, hZ⟩ : ∃ Z, Bt.pack (descr z m) = Z := ⟨_, rfl⟩
  obtain ⟨s, hs⟩ : ∃ s, Bt.sameB X Z = s := ⟨_, rfl⟩
  have hs2 : sam (y : Int) (z : Int) l m = s := by
    rw [← hs, ← hX, ← hZ]
    unfold sam Bt.sameB
    by_cases he : Bt.pack (descr y l) = Bt.pack (descr z m)
    · obtain ⟨rfl, rfl⟩ := pack_inj hy hz hv hv2 he
      simp
    · rw [decide_eq_false he]
      by_cases h1 : (y : Int) = (z : Int)
      · by_cases h2 : l = m
        · exfalso
          apply he
          rw [h2, show y = z by omega]
        · simp [h2]
      · simp [h1]
  have SN : Hid (∀ W, Below v1.heap.size v1 W → Calls Try.prog 22 #[tb (y : Int) A N cap, tb (z : Int) B M dap] W fun e w' => e = .returned (.bool s) ∧ Below W.heap.size W w') := Lib.hid (fun W hb => by
    have := rsame_any W (y : Int) (z : Int) A B l m N cap M dap hN hM (by omega) (r1.below hb) (r2.below hb)
    rw [hs2] at this
    exact this)
  rw [hX] at EA
  rw [hZ] at EB
  have SB : Hid (∀ W A3 B3 n3 m3 c3 d3, X.length = n3 → Z.length = m3 → Bt.Rd W A3 X → Bt.Rd W B3 Z → Calls Try.prog 17 #[.slice A3 n3 c3, .slice B3 m3 d3] W fun e w' => e = .returned (.bool s) ∧ W = w') := Lib.hid (fun W A3 B3 n3 m3 c3 d3 h3 h4 h5 h6 => Bt.same_b W A3 B3 X Z n3 m3 h3 h4 c3 d3 h5 h6 s hs)
  have hss : (s == s) = true := by simp
  clear b1 b2 t1 t2 s1 hR hR2 hN hM r1 r2 hX hZ hs hs2 hv hv2
  go_enter Try.func9, Try.ntmps9
  go_upto_region 5 with (first
    | (go_at_call 14; refine (MB.out _ B2.out).mono ?_; rintro e w3 ⟨rfl, hb3⟩; have B3 := Lib.hid (below_on B2.out (Nat.le_refl _) hb3); have ta := T2.out.below B3.out; have sa := S1.out.below B3.out; have g0 := ta.c0; have g1 := ta.c1; have h0 := sa.c0; have h1 := sa.c1; clear hb3 ta sa)
    | (go_at_call 14; refine MA.out.mono ?_; rintro e w2 ⟨rfl, hb2⟩; have B2 := Lib.hid hb2; have ta := T2.out.below hb2; have sa := S1.out.below hb2; have d0 := ta.c0; have d1 := ta.c1; have f0 := sa.c0; have f1 := sa.c1; clear hb2 ta sa)
    | (go_at_call 13; refine (EB.out _ B4.out).mono ?_; rintro e w5 ⟨B5, n5, c5, rfl, hb5⟩; have Y5 := Lib.hid hb5; have B5' := Lib.hid (below_on B4.out (Nat.le_refl _) hb5.2.2); have ta := T2.out.below B5'.out; have sa := S1.out.below B5'.out; have p0 := ta.c0; have p1 := ta.c1; have q0 := sa.c0; have q1 := sa.c1; clear hb5 ta sa)
    | (go_at_call 13; refine (EA.out _ B3.out).mono ?_; rintro e w4 ⟨A4, n4, c4, rfl, hb4⟩; have Y4 := Lib.hid hb4; have B4 := Lib.hid (below_on B3.out (Nat.le_refl _) hb4.2.2); have ta := T2.out.below B4.out; have sa := S1.out.below B4.out; have i0 := ta.c0; have i1 := ta.c1; have j0 := sa.c0; have j1 := sa.c1; clear hb4 ta sa))
  have R4 : Hid (Bt.Rd w5 A4 X) := Lib.hid (Bt.Rv.below (bys_rd Y4.out) Y5.out.2.2)
  have SB2 : Hid (∀ W, Below w5.heap.size w5 W → Calls Try.prog 17 #[.slice A4 n4 c4, .slice B5 n5 c5] W fun e w' => e = .returned (.bool s) ∧ w' = W) := Lib.hid (fun W hb => (SB.out W A4 B5 n4 n5 c4 c5 Y4.out.1.symm Y5.out.1.symm (Bt.Rv.below R4.out hb) (Bt.Rv.below (bys_rd Y5.out) hb)).mono (by rintro e w' ⟨rfl, rfl⟩; exact ⟨rfl, rfl⟩))
  have SN2 : Hid (∀ W, Below w5.heap.size w5 W → Calls Try.prog 22 #[tb (y : Int) A N cap, tb (z : Int) B M dap] W fun e w' => e = .returned (.bool s) ∧ Below W.heap.size W w') := Lib.hid (fun W hb => SN.out W (below_on B5'.out (Nat.le_refl _) hb))
  have B5h := Lib.hid (below_on B0.out (Nat.le_refl _) B5'.out)
  clear SB SN EA EB MA MB R4 Y4 Y5
  go_region_held3 (fun W => W.cell? ⟨w.heap.size, 0, none⟩ = some (.int .i64 (y : Int)) ∧ W.cell? ⟨w.heap.size, 1, none⟩ = some (.slice A N cap) ∧ W.cell? ⟨x1, 0, none⟩ = some (.int .i64 (z : Int)) ∧ W.cell? ⟨x1, 1, none⟩ = some (.slice B M dap)) (first | exact ⟨p0, p1, q0, q1⟩ | exact ⟨r0, r1, r2, r3⟩ | exact ⟨z0, z1, z2, z3⟩) (first
    | (go_at_call 17; refine (SB2.out _ K6.out).mono ?_; rintro e wq ⟨rfl, rfl⟩)
    | (go_at_call 17; refine (SB2.out _ (below_drewN' (Below.refl _ _) _)).mono ?_; rintro e wq ⟨rfl, rfl⟩)
    | (go_at_call 22; refine (SN2.out _ (below_drewN' (Below.refl _ _) _)).mono ?_; rintro e w6 ⟨rfl, hb6⟩; have K6 : Hid (Below w5.heap.size w5 w6) := Lib.hid ⟨hb6.os, hb6.tape, hb6.output, hb6.size, hb6.block⟩; have ta := T2.out.below (below_on B5'.out (Nat.le_refl _) K6.out); have sa := S1.out.below (below_on B5'.out (Nat.le_refl _) K6.out); have r0 := ta.c0; have r1 := ta.c1; have r2 := sa.c0; have r3 := sa.c1; clear hb6 ta sa)
    | (go_at_call 12; refine (known_any _).mono ?_; rintro e w9 ⟨rfl, hb9⟩; have BK : Hid (Below w5.heap.size w5 w9) := Lib.hid (by first | exact below_on K6.out (Nat.le_refl _) hb9 | exact below_on (below_drewN' K6.out _) (Nat.le_refl _) hb9); have BZ := Lib.hid (below_on B5h.out (Nat.le_refl _) BK.out); have ta := T2.out.below (below_on B5'.out (Nat.le_refl _) BK.out); have sa := S1.out.below (below_on B5'.out (Nat.le_refl _) BK.out); have z0 := ta.c0; have z1 := ta.c1; have z2 := sa.c0; have z3 := sa.c1; clear hb9 ta sa))
  all_goals go_wp2
  all_goals go_ret
  all_goals exact ⟨rfl, BZ.out⟩

theorem walk (y : Int) (A : Option Addr) (l : List Int) (cap : Nat) (z : Int) (B : Option Addr) (m : List Int) (dap : Nat) (w : World) (hR : Ri w A l) (_ : ∀ z ∈ l, -9223372036854775808 ≤ z ∧ z ≤ 9223372036854775807) (hc : l.length ≤ cap) (hR2 : Ri w B m) (_ : ∀ z ∈ m, -9223372036854775808 ≤ z ∧ z ≤ 9223372036854775807) (hc2 : m.length ≤ dap) :
    Calls Try.prog 9 #[tb y A l.length cap, tb z B m.length dap] w fun e w' => e = .returned (.bool true) ∧ Below w.heap.size w w' := by
  by_cases h : 300 < l.length
  · exact walk_a y z A B _ cap _ dap w h
  · by_cases h2 : 300 < m.length
    · exact walk_b y z A B _ cap _ dap w ⟨by omega, h2⟩
    · cases hv : may y l with
      | false => exact walk_c y z l m A B _ cap _ dap w rfl rfl (by omega) (by omega) hR hR2 hv
      | true =>
        cases hv2 : may z m with
        | false => exact walk_d y z l m A B _ cap _ dap w rfl rfl (by omega) (by omega) hR hR2 hv hv2
        | true =>
          obtain ⟨n, rfl, h1, hv⟩ := may_iff.1 hv
          obtain ⟨k, rfl, h3, hv2⟩ := may_iff.1 hv2
          exact walk_ok n k l m A B _ cap _ dap w rfl rfl (by omega) (by omega) hR hR2 hc hc2 hv h1 hv2 h3
set_option maxRecDepth 100000 in
theorem lifted (os : Os) (started : os.Started) (H : Type) (enc : TypeId × Value → H) :
    ReturnsInHanded {} Try.checked os 9 .any (Rows.descUnlikeSpec.pre6 enc Try.prog Try.f9 Rows.descUnlikeRow.domain false) (Rows.descUnlikeSpec.post enc Try.prog Try.f9 false true false false) := by
  refine returnsInHanded_of_change_sized (C := Try.checked) ownB started (by kernel_rfl) Try.func9
    (ChangeSpec.witness6 (enc := enc) (C := Try.checked) false ⟨#[], #[.agg #[.int .i64 0, .slice none 0 0], .agg #[.int .i64 0, .slice none 0 0]], []⟩ 8 (by kernel_rfl) (by kernel_rfl) (by kernel_rfl) (by kernel_rfl)) ?_
  intro W base args ds gs before hval0 hW _ hsz0 _
  have hsz : (DataW.weightsEach Try.prog (Try.f9.params.toList ++ Rows.descUnlikeSpec.plain.varTypes Try.prog) (ds ++ gs)).all (· ≤ reachBytes) = true := hsz0
  clear hsz0
  have hval : ∀ (j : Nat) t v, Try.f9.params[j]? = some t → args[j]? = some v → Value.okWide Try.prog W .any base t v := hval0
  have hW' := hW
  obtain ⟨p, q, hA0, hV, rfl, hfz, hnd⟩ := hW
  have hA : DataW.TrodAll enc Try.prog W 0 (fun _ => true) true Try.f9.params.toList args.toList ds p := hA0
  rw [Try.params9] at hA hval hsz
  obtain ⟨v0, vs0, d0, ds0, p0, q0, hargs, rfl, rfl, h0, r0⟩ := trodAll_cons hA
  obtain ⟨v1, vs1, d1, ds1, p1, q1, rfl, rfl, rfl, h1, r1⟩ := trodAll_cons r0
  obtain ⟨rfl, rfl, rfl⟩ := trodAll_nil r1
  obtain rfl : args = #[v0, v1] := by cases args; simp_all
  obtain ⟨rfl, rfl⟩ := trodVars_none hV
  obtain ⟨cs0, rfl, hcs0⟩ := okWide_struct Try.underlying24 (hval 0 24 v0 rfl rfl)
  have k0 := h0
  have lt0 : ∀ x ∈ p0, x.block < W.heap.size := by obtain ⟨m, hm⟩ := k0; exact DataW.trod_lt m _ _ _ hm
  obtain ⟨y0, a0, len0, cap0, l0, rfl, rfl, hc0, ri0, wi0⟩ := open_tab hcs0 h0
  obtain ⟨cs1, rfl, hcs1⟩ := okWide_struct Try.underlying24 (hval 1 24 v1 rfl rfl)
  have k1 := h1
  have lt1 : ∀ x ∈ p1, x.block < W.heap.size := by obtain ⟨m, hm⟩ := k1; exact DataW.trod_lt m _ _ _ hm
  obtain ⟨y1, a1, len1, cap1, l1, rfl, rfl, hc1, ri1, wi1⟩ := open_tab hcs1 h1
  clear hA0 hval0
  refine (walk y0 a0 l0 cap0 y1 a1 l1 cap1 W ri0 wi0 hc0 ri1 wi1 hc1).mono fun e W' ⟨he, bel⟩ => ?_
  subst he
  exact ⟨_, rfl, _, _, _, [], _, [], hW', trodAll_mk1 (shut_bool Try.underlying4 _), (trodAll_cons_mk (Below.trod laidOut (by kernel_rfl) (of_decide_eq_true (by kernel_rfl)) k0 bel lt0) (trodAll_cons_mk (Below.trod laidOut (by kernel_rfl) (of_decide_eq_true (by kernel_rfl)) k1 bel lt1) trodAll_mk0)), rfl, bel.frame _, fun h => by cases h⟩

theorem proved : Rows.DescUnlikeSaid :=
  OpenClaim.holds_of_wide 9 Try.f9 rfl rfl rfl rfl rfl rfl rfl ⟨rfl, rfl, rfl, rfl, rfl⟩ rfl rfl rfl rfl rfl (by kernel_rfl) Try.func9 (by kernel_rfl)
    (of_decide_eq_true (by kernel_rfl)) (by unfold Func.isWrapper; rw [if_neg (by decide +kernel)]; exact ⟨rfl, rfl⟩)
    (fun os started H enc _ => lifted os started H enc)

#print axioms proved

end Go.Proofs.Ytpjbjbohbdlciaa.descUnlike
