/-
  Proved: the law DescBack returns true for all tables, bytes and bounds: a description, followed by any bytes, is read as the table, exactly up to its end, if the bounds admit it, and is an error otherwise. No condition.
-/
import Derived.BigQuiet
import Derived.Deep.QuietTactic
import Derived.Test.YtpjbjbohbdlciaaFrm
namespace Go.Proofs.Ytpjbjbohbdlciaa.descBack
open Go.ChangeShapes Go.WideShapes Go.ChangeAt Go.RowKit

set_option maxRecDepth 100000 in
set_option maxHeartbeats 1000000 in
theorem walk_long (y : Int) (A : Option Addr) (N cap : Nat) (B : Option Addr) (nb cb : Nat) (sy lg : Int) (w : World) (h : 300 < N) :
    Calls Try.prog 5 #[tb y A N cap, .slice B nb cb, .int .i64 sy, .int .i64 lg] w fun e w' => e = .returned (.bool true) ∧ Below w.heap.size w w' := by
  have hd : decide ((300 : Int) < (N : Int)) = true := decide_eq_true (by omega)
  have b1 := below_new w (.cells #[.int .i64 y, .slice A N cap] 24)
  have t1 := Tb.new w y A N cap
  obtain ⟨w1, hw1⟩ : ∃ w1, w.alloc (.cells #[.int .i64 y, .slice A N cap] 24) = w1 := ⟨_, rfl⟩
  rw [hw1] at b1 t1
  have c0 := t1.c0
  have c1 := t1.c1
  have B0 := Lib.hid b1
  clear b1 t1
  go_enter Try.func5, Try.ntmps5
  go_wp2_with (go_at_call 12; refine (known_any _).mono ?_; rintro e w9 ⟨rfl, hb9⟩; have B9 := Lib.hid (below_on B0.out (Nat.le_refl _) hb9); clear hb9)
  go_ret
  exact ⟨rfl, B9.out⟩

set_option maxRecDepth 100000 in
set_option maxHeartbeats 1000000 in
theorem walk_long2 (y : Int) (A : Option Addr) (N cap : Nat) (B : Option Addr) (nb cb : Nat) (sy lg : Int) (w : World) (h : N ≤ 300) (h2 : 300 < nb) :
    Calls Try.prog 5 #[tb y A N cap, .slice B nb cb, .int .i64 sy, .int .i64 lg] w fun e w' => e = .returned (.bool true) ∧ Below w.heap.size w w' := by
  have hd : decide ((300 : Int) < (N : Int)) = false := decide_eq_false (by omega)
  have hd2 : decide ((300 : Int) < (nb : Int)) = true := decide_eq_true (by omega)
  have b1 := below_new w (.cells #[.int .i64 y, .slice A N cap] 24)
  have t1 := Tb.new w y A N cap
  obtain ⟨w1, hw1⟩ : ∃ w1, w.alloc (.cells #[.int .i64 y, .slice A N cap] 24) = w1 := ⟨_, rfl⟩
  rw [hw1] at b1 t1
  have c0 := t1.c0
  have c1 := t1.c1
  have B0 := Lib.hid b1
  clear b1 t1
  go_enter Try.func5, Try.ntmps5
  go_wp2_with (go_at_call 12; refine (known_any _).mono ?_; rintro e w9 ⟨rfl, hb9⟩; have B9 := Lib.hid (below_on B0.out (Nat.le_refl _) hb9); clear hb9)
  go_ret
  exact ⟨rfl, B9.out⟩

set_option maxRecDepth 100000 in
set_option maxHeartbeats 1000000 in
theorem walk_bad (y : Int) (A : Option Addr) (l : List Int) (N cap : Nat) (B : Option Addr) (nb cb : Nat) (sy lg : Int) (w : World) (hN : l.length = N) (h : N ≤ 300) (hv : may y l = false) (hR : Ri w A l) (h2 : nb ≤ 300) :
    Calls Try.prog 5 #[tb y A N cap, .slice B nb cb, .int .i64 sy, .int .i64 lg] w fun e w' => e = .returned (.bool true) ∧ Below w.heap.size w w' := by
  have hd : decide ((300 : Int) < (N : Int)) = false := decide_eq_false (by omega)
  have hd2 : decide ((300 : Int) < (nb : Int)) = false := decide_eq_false (by omega)
  have b1 := below_new w (.cells #[.int .i64 y, .slice A N cap] 24)
  have t1 := Tb.new w y A N cap
  obtain ⟨w1, hw1⟩ : ∃ w1, w.alloc (.cells #[.int .i64 y, .slice A N cap] 24) = w1 := ⟨_, rfl⟩
  rw [hw1] at b1 t1
  have c0 := t1.c0
  have c1 := t1.c1
  have MY := Lib.hid (rmay_any w1 y A l N cap hN (by omega) (hR.below b1) false hv)
  have B0 := Lib.hid b1
  have T1 := Lib.hid t1
  clear b1 t1 hR hN hv
  go_enter Try.func5, Try.ntmps5
  go_wp2_with (first
    | (go_at_call 14; refine MY.out.mono ?_; rintro e w2 ⟨rfl, hb2⟩; have B2 := Lib.hid (below_on B0.out (Nat.le_refl _) hb2); have B12 := Lib.hid hb2; have t2 := T1.out.below hb2; have d0 := t2.c0; have d1 := t2.c1; clear hb2 t2)
    | (go_at_call 12; refine (known_any _).mono ?_; rintro e w9 ⟨rfl, hb9⟩; have B9 := Lib.hid (below_on B2.out (Nat.le_refl _) hb9); clear hb9))
  go_ret
  exact ⟨rfl, B9.out⟩

set_option maxRecDepth 100000 in
set_option maxHeartbeats 1000000 in
theorem walk_err1 (y : Nat) (A : Option Addr) (l : List Int) (N cap : Nat) (B : Option Addr) (b : List UInt8) (nb cb : Nat) (sy lg : Int) (w : World) (hN : l.length = N) (hc : N ≤ cap) (hv : Vt y l) (h1 : 1 ≤ y) (h : N ≤ 300) (hR : Ri w A l) (h2 : nb ≤ 300) (hnb : b.length = nb) (hRB : Bt.Rd w B b) (hbad : sy < N) :
    Calls Try.prog 5 #[tb (y : Int) A N cap, .slice B nb cb, .int .i64 sy, .int .i64 lg] w fun e w' => e = .returned (.bool true) ∧ Below w.heap.size w w' := by
  have hN2 : N ≤ 256 := by rw [← hN]; exact hv.len
  have hy9 := hv.log
  have hd : decide ((300 : Int) < (N : Int)) = false := decide_eq_false (by omega)
  have b1 := below_new w (.cells #[.int .i64 (y : Int), .slice A N cap] 24)
  have t1 := Tb.new w (y : Int) A N cap
  obtain ⟨w1, hw1⟩ : ∃ w1, w.alloc (.cells #[.int .i64 (y : Int), .slice A N cap] 24) = w1 := ⟨_, rfl⟩
  rw [hw1] at b1 t1
  have c0 := t1.c0
  have c1 := t1.c1
  have hR1 := hR.below b1
  have MY := Lib.hid (rmay_any w1 (y : Int) A l N cap hN (by omega) hR1 true (may_iff.2 ⟨y, rfl, h1, hv⟩))
  have EN : Hid (∀ W, Below w1.heap.size w1 W → Calls Try.prog 13 #[tb (y : Int) A N cap] W (EncP W (Bt.pack (descr y l)) 0)) := Lib.hid (fun W hb => encode_ok W y A l N cap hN hc (hR1.below hb) hv h1)
  have hdl := descr_len hv
  have hpl := Bt.pack_len (descr y l)
  have hd4 : 4 ≤ (descr y l).length := by rw [descr, List.length_append, Bt.bitsOf_len]; omega
  obtain ⟨X0, hX0⟩ : ∃ X0, Bt.pack (descr y l) = X0 := ⟨_, rfl⟩
  rw [hX0] at EN hpl
  obtain ⟨n0, hn0⟩ : ∃ n0, X0.length = n0 := ⟨_, rfl⟩
  rw [hn0] at hpl
  have hn1 : 1 ≤ n0 := by omega
  have hn3 : n0 ≤ 400 := by omega
  have HNX := Lib.hid hn0
  have B0 := Lib.hid b1
  have T1 := Lib.hid t1
  have hd2 : decide ((300 : Int) < (nb : Int)) = false := decide_eq_false (by omega)
  have HNB := Lib.hid hnb
  have HRB : Hid (Bt.Rd w1 B b) := Lib.hid (Bt.Rv.below hRB b1)
  have hk := dcd_back h1 hv b sy lg
  have k0 : decide (sy < (N : Int)) = true := decide_eq_true hbad
  rw [hX0, hN, if_neg (by omega)] at hk
  have DC : Hid (∀ W c A6 cap6, Nm.Cur W c A6 cap6 (X0 ++ b) 0 → Calls Try.prog 20 #[.pointer (some ⟨c, 0, none⟩), .int .i64 sy, .int .i64 lg] W fun q w' => ∃ A7 n7 c7, q = .returned (.tuple #[tb 0 A7 n7 c7, .int .i64 13]) ∧ Nm.Cur w' c A6 cap6 (X0 ++ b) 0 ∧ W.grownBy w' (some c) ∧ w'.ownsRow W.heap.size 3 1 (.slice A7 n7 c7) n7 (([] : List Int).map iv)) := Lib.hid (fun W c A6 cap6 hcu => by
    have hd7 := decode_any hcu (by rw [List.length_append]; omega) sy lg
    rw [List.drop_zero, dcd_take, hk] at hd7
    refine hd7.mono ?_
    rintro q w' ⟨A7, n7, c7, rfl, hcur7, hg7, ho7⟩
    exact ⟨A7, n7, c7, rfl, by simpa using hcur7, hg7, ho7⟩)
  have SM : Hid (∀ W A7 n7 c7, (([] : List Int).length = n7) → Ri W A7 [] → Calls Try.prog 22 #[tb 0 A7 n7 c7, tb 0 none 0 0] W fun e w' => e = .returned (.bool true) ∧ Below W.heap.size W w') := Lib.hid (fun W A7 n7 c7 hl hr => rsame_any W 0 0 A7 none [] [] n7 c7 0 0 hl rfl (by rw [← hl]; decide) hr (Rv.nil _ _))
  clear b1 t1 hR hR1 hN hv hX0 hn0 hpl hdl hd4 hRB hnb hk h1
  go_enter Try.func5, Try.ntmps5
  go_wp2_with (first
    | (go_at_call 14; refine MY.out.mono ?_; rintro e w2 ⟨rfl, hb2⟩; have B2 := Lib.hid (below_on B0.out (Nat.le_refl _) hb2); have B12 := Lib.hid hb2; have t2 := T1.out.below hb2; have d0 := t2.c0; have d1 := t2.c1; clear hb2 t2)
    | (go_at_call 13; refine (EN.out w2 B12.out).mono ?_; rintro e w3 ⟨A3, n3, c3, rfl, hb3⟩; obtain rfl : n0 = n3 := (hb3.1.trans HNX.out).symm; have Y3 := Lib.hid hb3; have B13 := Lib.hid (below_on B12.out (Nat.le_refl _) hb3.2.2); have B3 := Lib.hid (below_on B2.out (Nat.le_refl _) hb3.2.2); have t3 := T1.out.below B13.out; have e0 := t3.c0; have e1 := t3.c1; clear hb3 t3)
    | (at_builtin; refine wpList_append_vals Try.underlying26 byte_info rfl rfl _ _ rfl w3.heap.size (.slice none 0 0) 0 [] rfl (World.ownsRow_nil _ _ _ _) A3 (X0.map Bt.byt) (Bt.byt_one X0) n0 c3 (by rw [List.length_map]; exact HNX.out) rfl (bys_rd Y3.out) (by omega) (by omega) (Nat.le_refl _) ?_; intro v4 w4 ho4 hg4 _; rw [Nat.zero_add, List.nil_append] at ho4; obtain ⟨A4, c4, rfl, _⟩ := own_form ho4; have O4 := Lib.hid ho4; have B34 := Lib.hid ((Below.refl _ w3).grown hg4 (Nat.le_refl _) (fun j ej => by cases ej)); clear ho4 hg4)
    | (at_builtin; refine wpList_append_vals Try.underlying26 byte_info rfl rfl _ _ rfl w3.heap.size (.slice A4 n0 c4) n0 (X0.map Bt.byt) rfl O4.out B (b.map Bt.byt) (Bt.byt_one b) nb cb (by rw [List.length_map]; exact HNB.out) rfl (Rv.below HRB.out (below_on B13.out (Nat.le_refl _) B34.out)) (by omega) (by omega) B34.out.size ?_; intro v5 w5 ho5 hg5 _; obtain ⟨A5, c5, rfl, _⟩ := own_form ho5; have O5 := Lib.hid ho5; have B35 := Lib.hid (B34.out.grown hg5 B34.out.size (fun j ej => (O4.out.lt j ej).1)); have B15 := Lib.hid (below_on B13.out (Nat.le_refl _) B35.out); have R5 : Hid (Bt.Rd w5 A5 (X0 ++ b)) := Lib.hid (by (have h5 := Bt.Rv.of_own O5.out; rw [← List.map_append] at h5; exact h5)); clear ho5 hg5)
    | (go_at_call 19; refine (Nm.new_n w5 A5 (X0 ++ b) (n0 + nb) c5 (by (have h1 := HNX.out; have h2 := HNB.out; rw [List.length_append]; omega)) (by omega) (bt_nm R5.out)).mono ?_; rintro q w6 ⟨c, A6, cap6, rfl, hcw, hcur, hb6⟩; have CU := Lib.hid hcur; have HC := Lib.hid hcw; have B16 := Lib.hid (below_on B15.out (Nat.le_refl _) hb6); have B56 := Lib.hid hb6; clear hcur hcw hb6)
    | (go_at_call 20; refine (DC.out _ _ _ _ CU.out).mono ?_; rintro q w7 ⟨A7, n7, c7, rfl, hcur7, hg7, ho7⟩; have O7 := Lib.hid ho7; have CU7 := Lib.hid hcur7; have B17 : Hid (Below w1.heap.size w1 w7) := Lib.hid (B16.out.grown hg7 B16.out.size (fun j ej => by (cases ej; have h1 := HC.out; have h2 := B15.out.size; omega))); have T8 := Lib.hid ((T1.out.below B17.out).below (below_new w7 (.cells #[.int .i64 0, .slice A7 n7 c7] 24))); have S8 := Lib.hid (Tb.new w7 0 A7 n7 c7); have R7 : Hid (Ri (w7.alloc (.cells #[.int .i64 0, .slice A7 n7 c7] 24)) A7 []) := Lib.hid (Rv.below (Rv.of_own ho7) (below_new _ _)); have hl7 : Hid (([] : List Int).length = n7) := Lib.hid (by (have := ho7.1; simp only [List.length_map, Nat.mul_one] at this; exact this)); have B18 := Lib.hid (below_on B17.out (Nat.le_refl _) (below_new w7 (.cells #[.int .i64 0, .slice A7 n7 c7] 24))); have CU8 := Lib.hid (CU7.out.below (below_new w7 (.cells #[.int .i64 0, .slice A7 n7 c7] 24))); obtain ⟨b8, hb8⟩ : ∃ b8, w7.heap.size = b8 := ⟨_, rfl⟩; obtain ⟨w8, hw8⟩ : ∃ w8, w7.alloc (.cells #[.int .i64 0, .slice A7 n7 c7] 24) = w8 := ⟨_, rfl⟩; rw [hw8] at T8 S8 R7 B18 CU8; rw [hb8] at S8; have g0 := T8.out.c0; have g1 := T8.out.c1; have u0 := S8.out.c0; have u1 := S8.out.c1; clear hcur7 hg7 ho7)
    | (go_at_call 22; refine (SM.out _ _ _ _ hl7.out R7.out).mono ?_; rintro e wa ⟨rfl, hba⟩; have BA := Lib.hid (below_on B18.out (Nat.le_refl _) hba); have HBA := Lib.hid hba; clear hba)
    | (go_at_call 12; refine (known_any _).mono ?_; rintro e w9 ⟨rfl, hb9⟩; have B9 := Lib.hid (below_on BA.out (Nat.le_refl _) hb9); clear hb9))
  go_ret
  exact ⟨rfl, below_on B0.out (Nat.le_refl _) B9.out⟩

set_option maxRecDepth 100000 in
set_option maxHeartbeats 1000000 in
theorem walk_err2 (y : Nat) (A : Option Addr) (l : List Int) (N cap : Nat) (B : Option Addr) (b : List UInt8) (nb cb : Nat) (sy lg : Int) (w : World) (hN : l.length = N) (hc : N ≤ cap) (hv : Vt y l) (h1 : 1 ≤ y) (h : N ≤ 300) (hR : Ri w A l) (h2 : nb ≤ 300) (hnb : b.length = nb) (hRB : Bt.Rd w B b) (hbad : (N : Int) ≤ sy ∧ lg < y) :
    Calls Try.prog 5 #[tb (y : Int) A N cap, .slice B nb cb, .int .i64 sy, .int .i64 lg] w fun e w' => e = .returned (.bool true) ∧ Below w.heap.size w w' := by
  have hN2 : N ≤ 256 := by rw [← hN]; exact hv.len
  have hy9 := hv.log
  have hd : decide ((300 : Int) < (N : Int)) = false := decide_eq_false (by omega)
  have b1 := below_new w (.cells #[.int .i64 (y : Int), .slice A N cap] 24)
  have t1 := Tb.new w (y : Int) A N cap
  obtain ⟨w1, hw1⟩ : ∃ w1, w.alloc (.cells #[.int .i64 (y : Int), .slice A N cap] 24) = w1 := ⟨_, rfl⟩
  rw [hw1] at b1 t1
  have c0 := t1.c0
  have c1 := t1.c1
  have hR1 := hR.below b1
  have MY := Lib.hid (rmay_any w1 (y : Int) A l N cap hN (by omega) hR1 true (may_iff.2 ⟨y, rfl, h1, hv⟩))
  have EN : Hid (∀ W, Below w1.heap.size w1 W → Calls Try.prog 13 #[tb (y : Int) A N cap] W (EncP W (Bt.pack (descr y l)) 0)) := Lib.hid (fun W hb => encode_ok W y A l N cap hN hc (hR1.below hb) hv h1)
  have hdl := descr_len hv
  have hpl := Bt.pack_len (descr y l)
  have hd4 : 4 ≤ (descr y l).length := by rw [descr, List.length_append, Bt.bitsOf_len]; omega
  obtain ⟨X0, hX0⟩ : ∃ X0, Bt.pack (descr y l) = X0 := ⟨_, rfl⟩
  rw [hX0] at EN hpl
  obtain ⟨n0, hn0⟩ : ∃ n0, X0.length = n0 := ⟨_, rfl⟩
  rw [hn0] at hpl
  have hn1 : 1 ≤ n0 := by omega
  have hn3 : n0 ≤ 400 := by omega
  have HNX := Lib.hid hn0
  have B0 := Lib.hid b1
  have T1 := Lib.hid t1
  have hd2 : decide ((300 : Int) < (nb : Int)) = false := decide_eq_false (by omega)
  have HNB := Lib.hid hnb
  have HRB : Hid (Bt.Rd w1 B b) := Lib.hid (Bt.Rv.below hRB b1)
  have hk := dcd_back h1 hv b sy lg
  have k0 : decide (sy < (N : Int)) = false := decide_eq_false (by omega)
  have k1 : decide (lg < (y : Int)) = true := decide_eq_true hbad.2
  rw [hX0, hN, if_neg (by omega)] at hk
  have DC : Hid (∀ W c A6 cap6, Nm.Cur W c A6 cap6 (X0 ++ b) 0 → Calls Try.prog 20 #[.pointer (some ⟨c, 0, none⟩), .int .i64 sy, .int .i64 lg] W fun q w' => ∃ A7 n7 c7, q = .returned (.tuple #[tb 0 A7 n7 c7, .int .i64 13]) ∧ Nm.Cur w' c A6 cap6 (X0 ++ b) 0 ∧ W.grownBy w' (some c) ∧ w'.ownsRow W.heap.size 3 1 (.slice A7 n7 c7) n7 (([] : List Int).map iv)) := Lib.hid (fun W c A6 cap6 hcu => by
    have hd7 := decode_any hcu (by rw [List.length_append]; omega) sy lg
    rw [List.drop_zero, dcd_take, hk] at hd7
    refine hd7.mono ?_
    rintro q w' ⟨A7, n7, c7, rfl, hcur7, hg7, ho7⟩
    exact ⟨A7, n7, c7, rfl, by simpa using hcur7, hg7, ho7⟩)
  have SM : Hid (∀ W A7 n7 c7, (([] : List Int).length = n7) → Ri W A7 [] → Calls Try.prog 22 #[tb 0 A7 n7 c7, tb 0 none 0 0] W fun e w' => e = .returned (.bool true) ∧ Below W.heap.size W w') := Lib.hid (fun W A7 n7 c7 hl hr => rsame_any W 0 0 A7 none [] [] n7 c7 0 0 hl rfl (by rw [← hl]; decide) hr (Rv.nil _ _))
  clear b1 t1 hR hR1 hN hv hX0 hn0 hpl hdl hd4 hRB hnb hk h1
  go_enter Try.func5, Try.ntmps5
  go_wp2_with (first
    | (go_at_call 14; refine MY.out.mono ?_; rintro e w2 ⟨rfl, hb2⟩; have B2 := Lib.hid (below_on B0.out (Nat.le_refl _) hb2); have B12 := Lib.hid hb2; have t2 := T1.out.below hb2; have d0 := t2.c0; have d1 := t2.c1; clear hb2 t2)
    | (go_at_call 13; refine (EN.out w2 B12.out).mono ?_; rintro e w3 ⟨A3, n3, c3, rfl, hb3⟩; obtain rfl : n0 = n3 := (hb3.1.trans HNX.out).symm; have Y3 := Lib.hid hb3; have B13 := Lib.hid (below_on B12.out (Nat.le_refl _) hb3.2.2); have B3 := Lib.hid (below_on B2.out (Nat.le_refl _) hb3.2.2); have t3 := T1.out.below B13.out; have e0 := t3.c0; have e1 := t3.c1; clear hb3 t3)
    | (at_builtin; refine wpList_append_vals Try.underlying26 byte_info rfl rfl _ _ rfl w3.heap.size (.slice none 0 0) 0 [] rfl (World.ownsRow_nil _ _ _ _) A3 (X0.map Bt.byt) (Bt.byt_one X0) n0 c3 (by rw [List.length_map]; exact HNX.out) rfl (bys_rd Y3.out) (by omega) (by omega) (Nat.le_refl _) ?_; intro v4 w4 ho4 hg4 _; rw [Nat.zero_add, List.nil_append] at ho4; obtain ⟨A4, c4, rfl, _⟩ := own_form ho4; have O4 := Lib.hid ho4; have B34 := Lib.hid ((Below.refl _ w3).grown hg4 (Nat.le_refl _) (fun j ej => by cases ej)); clear ho4 hg4)
    | (at_builtin; refine wpList_append_vals Try.underlying26 byte_info rfl rfl _ _ rfl w3.heap.size (.slice A4 n0 c4) n0 (X0.map Bt.byt) rfl O4.out B (b.map Bt.byt) (Bt.byt_one b) nb cb (by rw [List.length_map]; exact HNB.out) rfl (Rv.below HRB.out (below_on B13.out (Nat.le_refl _) B34.out)) (by omega) (by omega) B34.out.size ?_; intro v5 w5 ho5 hg5 _; obtain ⟨A5, c5, rfl, _⟩ := own_form ho5; have O5 := Lib.hid ho5; have B35 := Lib.hid (B34.out.grown hg5 B34.out.size (fun j ej => (O4.out.lt j ej).1)); have B15 := Lib.hid (below_on B13.out (Nat.le_refl _) B35.out); have R5 : Hid (Bt.Rd w5 A5 (X0 ++ b)) := Lib.hid (by (have h5 := Bt.Rv.of_own O5.out; rw [← List.map_append] at h5; exact h5)); clear ho5 hg5)
    | (go_at_call 19; refine (Nm.new_n w5 A5 (X0 ++ b) (n0 + nb) c5 (by (have h1 := HNX.out; have h2 := HNB.out; rw [List.length_append]; omega)) (by omega) (bt_nm R5.out)).mono ?_; rintro q w6 ⟨c, A6, cap6, rfl, hcw, hcur, hb6⟩; have CU := Lib.hid hcur; have HC := Lib.hid hcw; have B16 := Lib.hid (below_on B15.out (Nat.le_refl _) hb6); have B56 := Lib.hid hb6; clear hcur hcw hb6)
    | (go_at_call 20; refine (DC.out _ _ _ _ CU.out).mono ?_; rintro q w7 ⟨A7, n7, c7, rfl, hcur7, hg7, ho7⟩; have O7 := Lib.hid ho7; have CU7 := Lib.hid hcur7; have B17 : Hid (Below w1.heap.size w1 w7) := Lib.hid (B16.out.grown hg7 B16.out.size (fun j ej => by (cases ej; have h1 := HC.out; have h2 := B15.out.size; omega))); have T8 := Lib.hid ((T1.out.below B17.out).below (below_new w7 (.cells #[.int .i64 0, .slice A7 n7 c7] 24))); have S8 := Lib.hid (Tb.new w7 0 A7 n7 c7); have R7 : Hid (Ri (w7.alloc (.cells #[.int .i64 0, .slice A7 n7 c7] 24)) A7 []) := Lib.hid (Rv.below (Rv.of_own ho7) (below_new _ _)); have hl7 : Hid (([] : List Int).length = n7) := Lib.hid (by (have := ho7.1; simp only [List.length_map, Nat.mul_one] at this; exact this)); have B18 := Lib.hid (below_on B17.out (Nat.le_refl _) (below_new w7 (.cells #[.int .i64 0, .slice A7 n7 c7] 24))); have CU8 := Lib.hid (CU7.out.below (below_new w7 (.cells #[.int .i64 0, .slice A7 n7 c7] 24))); obtain ⟨b8, hb8⟩ : ∃ b8, w7.heap.size = b8 := ⟨_, rfl⟩; obtain ⟨w8, hw8⟩ : ∃ w8, w7.alloc (.cells #[.int .i64 0, .slice A7 n7 c7] 24) = w8 := ⟨_, rfl⟩; rw [hw8] at T8 S8 R7 B18 CU8; rw [hb8] at S8; have g0 := T8.out.c0; have g1 := T8.out.c1; have u0 := S8.out.c0; have u1 := S8.out.c1; clear hcur7 hg7 ho7)
    | (go_at_call 22; refine (SM.out _ _ _ _ hl7.out R7.out).mono ?_; rintro e wa ⟨rfl, hba⟩; have BA := Lib.hid (below_on B18.out (Nat.le_refl _) hba); have HBA := Lib.hid hba; clear hba)
    | (go_at_call 12; refine (known_any _).mono ?_; rintro e w9 ⟨rfl, hb9⟩; have B9 := Lib.hid (below_on BA.out (Nat.le_refl _) hb9); clear hb9))
  go_ret
  exact ⟨rfl, below_on B0.out (Nat.le_refl _) B9.out⟩

set_option maxRecDepth 100000 in
set_option maxHeartbeats 1000000 in
theorem walk_good (y : Nat) (A : Option Addr) (l : List Int) (N cap : Nat) (B : Option Addr) (b : List UInt8) (nb cb : Nat) (sy lg : Int) (w : World) (hN : l.length = N) (hc : N ≤ cap) (hv : Vt y l) (h1 : 1 ≤ y) (h : N ≤ 300) (hR : Ri w A l) (h2 : nb ≤ 300) (hnb : b.length = nb) (hRB : Bt.Rd w B b) (hg1 : (N : Int) ≤ sy) (hg2 : (y : Int) ≤ lg) :
    Calls Try.prog 5 #[tb (y : Int) A N cap, .slice B nb cb, .int .i64 sy, .int .i64 lg] w fun e w' => e = .returned (.bool true) ∧ Below w.heap.size w w' := by
  have hN2 : N ≤ 256 := by rw [← hN]; exact hv.len
  have hy9 := hv.log
  have hd : decide ((300 : Int) < (N : Int)) = false := decide_eq_false (by omega)
  have b1 := below_new w (.cells #[.int .i64 (y : Int), .slice A N cap] 24)
  have t1 := Tb.new w (y : Int) A N cap
  obtain ⟨w1, hw1⟩ : ∃ w1, w.alloc (.cells #[.int .i64 (y : Int), .slice A N cap] 24) = w1 := ⟨_, rfl⟩
  rw [hw1] at b1 t1
  have c0 := t1.c0
  have c1 := t1.c1
  have hR1 := hR.below b1
  have MY := Lib.hid (rmay_any w1 (y : Int) A l N cap hN (by omega) hR1 true (may_iff.2 ⟨y, rfl, h1, hv⟩))
  have EN : Hid (∀ W, Below w1.heap.size w1 W → Calls Try.prog 13 #[tb (y : Int) A N cap] W (EncP W (Bt.pack (descr y l)) 0)) := Lib.hid (fun W hb => encode_ok W y A l N cap hN hc (hR1.below hb) hv h1)
  have hdl := descr_len hv
  have hpl := Bt.pack_len (descr y l)
  have hd4 : 4 ≤ (descr y l).length := by rw [descr, List.length_append, Bt.bitsOf_len]; omega
  obtain ⟨X0, hX0⟩ : ∃ X0, Bt.pack (descr y l) = X0 := ⟨_, rfl⟩
  rw [hX0] at EN hpl
  obtain ⟨n0, hn0⟩ : ∃ n0, X0.length = n0 := ⟨_, rfl⟩
  rw [hn0] at hpl
  have hn1 : 1 ≤ n0 := by omega
  have hn3 : n0 ≤ 400 := by omega
  have HNX := Lib.hid hn0
  have B0 := Lib.hid b1
  have T1 := Lib.hid t1
  have hd2 : decide ((300 : Int) < (nb : Int)) = false := decide_eq_false (by omega)
  have HNB := Lib.hid hnb
  have HRB : Hid (Bt.Rd w1 B b) := Lib.hid (Bt.Rv.below hRB b1)
  have hk := dcd_back h1 hv b sy lg
  have k0 : decide (sy < (N : Int)) = false := decide_eq_false (by omega)
  have k1 : decide (lg < (y : Int)) = false := decide_eq_false (by omega)
  rw [hX0, hN, if_pos ⟨hg1, hg2⟩, hn0] at hk
  have DC : Hid (∀ W c A6 cap6, Nm.Cur W c A6 cap6 (X0 ++ b) 0 → Calls Try.prog 20 #[.pointer (some ⟨c, 0, none⟩), .int .i64 sy, .int .i64 lg] W fun q w' => ∃ A7 n7 c7, q = .returned (.tuple #[tb (y : Int) A7 n7 c7, .int .i64 0]) ∧ Nm.Cur w' c A6 cap6 (X0 ++ b) n0 ∧ W.grownBy w' (some c) ∧ w'.ownsRow W.heap.size 3 1 (.slice A7 n7 c7) n7 ((l : List Int).map iv)) := Lib.hid (fun W c A6 cap6 hcu => by
    have hd7 := decode_any hcu (by rw [List.length_append]; omega) sy lg
    rw [List.drop_zero, dcd_take, hk] at hd7
    refine hd7.mono ?_
    rintro q w' ⟨A7, n7, c7, rfl, hcur7, hg7, ho7⟩
    exact ⟨A7, n7, c7, rfl, by simpa using hcur7, hg7, ho7⟩)
  have SM : Hid (∀ W A7 n7 c7, l.length = n7 → Ri W A l → Ri W A7 l → Calls Try.prog 22 #[tb (y : Int) A N cap, tb (y : Int) A7 n7 c7] W fun e w' => e = .returned (.bool true) ∧ Below W.heap.size W w') := Lib.hid (fun W A7 n7 c7 hl hr hr2 => by
    have h7 := rsame_any W (y : Int) (y : Int) A A7 l l N cap n7 c7 hN hl (by omega) hr hr2
    rw [show sam (y : Int) (y : Int) l l = true by simp [sam]] at h7
    exact h7)
  have HR1 := Lib.hid hR1
  have LF : Hid (∀ W c A6 cap6, Nm.Cur W c A6 cap6 (X0 ++ b) n0 → Calls Try.prog 24 #[.pointer (some ⟨c, 0, none⟩)] W fun e w' => e = .returned (.int .i64 (nb : Int)) ∧ ∃ d, w' = W.drewN d) := Lib.hid (fun W c A6 cap6 hcu => by
    have h7 := Nm.left_any hcu.blk hcu.le hcu.small
    rw [show (((X0 ++ b).length : Nat) : Int) - (n0 : Int) = (nb : Int) by rw [List.length_append]; omega] at h7
    exact h7)
  clear b1 t1 hR hR1 hN hv hX0 hn0 hpl hdl hd4 hRB hnb hk h1
  go_enter Try.func5, Try.ntmps5
  go_wp2_with (first
    | (go_at_call 14; refine MY.out.mono ?_; rintro e w2 ⟨rfl, hb2⟩; have B2 := Lib.hid (below_on B0.out (Nat.le_refl _) hb2); have B12 := Lib.hid hb2; have t2 := T1.out.below hb2; have d0 := t2.c0; have d1 := t2.c1; clear hb2 t2)
    | (go_at_call 13; refine (EN.out w2 B12.out).mono ?_; rintro e w3 ⟨A3, n3, c3, rfl, hb3⟩; obtain rfl : n0 = n3 := (hb3.1.trans HNX.out).symm; have Y3 := Lib.hid hb3; have B13 := Lib.hid (below_on B12.out (Nat.le_refl _) hb3.2.2); have B3 := Lib.hid (below_on B2.out (Nat.le_refl _) hb3.2.2); have t3 := T1.out.below B13.out; have e0 := t3.c0; have e1 := t3.c1; clear hb3 t3)
    | (at_builtin; refine wpList_append_vals Try.underlying26 byte_info rfl rfl _ _ rfl w3.heap.size (.slice none 0 0) 0 [] rfl (World.ownsRow_nil _ _ _ _) A3 (X0.map Bt.byt) (Bt.byt_one X0) n0 c3 (by rw [List.length_map]; exact HNX.out) rfl (bys_rd Y3.out) (by omega) (by omega) (Nat.le_refl _) ?_; intro v4 w4 ho4 hg4 _; rw [Nat.zero_add, List.nil_append] at ho4; obtain ⟨A4, c4, rfl, _⟩ := own_form ho4; have O4 := Lib.hid ho4; have B34 := Lib.hid ((Below.refl _ w3).grown hg4 (Nat.le_refl _) (fun j ej => by cases ej)); clear ho4 hg4)
    | (at_builtin; refine wpList_append_vals Try.underlying26 byte_info rfl rfl _ _ rfl w3.heap.size (.slice A4 n0 c4) n0 (X0.map Bt.byt) rfl O4.out B (b.map Bt.byt) (Bt.byt_one b) nb cb (by rw [List.length_map]; exact HNB.out) rfl (Rv.below HRB.out (below_on B13.out (Nat.le_refl _) B34.out)) (by omega) (by omega) B34.out.size ?_; intro v5 w5 ho5 hg5 _; obtain ⟨A5, c5, rfl, _⟩ := own_form ho5; have O5 := Lib.hid ho5; have B35 := Lib.hid (B34.out.grown hg5 B34.out.size (fun j ej => (O4.out.lt j ej).1)); have B15 := Lib.hid (below_on B13.out (Nat.le_refl _) B35.out); have R5 : Hid (Bt.Rd w5 A5 (X0 ++ b)) := Lib.hid (by (have h5 := Bt.Rv.of_own O5.out; rw [← List.map_append] at h5; exact h5)); clear ho5 hg5)
    | (go_at_call 19; refine (Nm.new_n w5 A5 (X0 ++ b) (n0 + nb) c5 (by (have h1 := HNX.out; have h2 := HNB.out; rw [List.length_append]; omega)) (by omega) (bt_nm R5.out)).mono ?_; rintro q w6 ⟨c, A6, cap6, rfl, hcw, hcur, hb6⟩; have CU := Lib.hid hcur; have HC := Lib.hid hcw; have B16 := Lib.hid (below_on B15.out (Nat.le_refl _) hb6); have B56 := Lib.hid hb6; clear hcur hcw hb6)
    | (go_at_call 20; refine (DC.out _ _ _ _ CU.out).mono ?_; rintro q w7 ⟨A7, n7, c7, rfl, hcur7, hg7, ho7⟩; have O7 := Lib.hid ho7; have CU7 := Lib.hid hcur7; have B17 : Hid (Below w1.heap.size w1 w7) := Lib.hid (B16.out.grown hg7 B16.out.size (fun j ej => by (cases ej; have h1 := HC.out; have h2 := B15.out.size; omega))); have T8 := Lib.hid ((T1.out.below B17.out).below (below_new w7 (.cells #[.int .i64 (y : Int), .slice A7 n7 c7] 24))); have S8 := Lib.hid (Tb.new w7 (y : Int) A7 n7 c7); have R7 : Hid (Ri (w7.alloc (.cells #[.int .i64 (y : Int), .slice A7 n7 c7] 24)) A7 l) := Lib.hid (Rv.below (Rv.of_own ho7) (below_new _ _)); have hl7 : Hid ((l : List Int).length = n7) := Lib.hid (by (have := ho7.1; simp only [List.length_map, Nat.mul_one] at this; exact this)); have B18 := Lib.hid (below_on B17.out (Nat.le_refl _) (below_new w7 (.cells #[.int .i64 (y : Int), .slice A7 n7 c7] 24))); have CU8 := Lib.hid (CU7.out.below (below_new w7 (.cells #[.int .i64 (y : Int), .slice A7 n7 c7] 24))); obtain ⟨b8, hb8⟩ : ∃ b8, w7.heap.size = b8 := ⟨_, rfl⟩; obtain ⟨w8, hw8⟩ : ∃ w8, w7.alloc (.cells #[.int .i64 (y : Int), .slice A7 n7 c7] 24) = w8 := ⟨_, rfl⟩; rw [hw8] at T8 S8 R7 B18 CU8; rw [hb8] at S8; have g0 := T8.out.c0; have g1 := T8.out.c1; have u0 := S8.out.c0; have u1 := S8.out.c1; clear hcur7 hg7 ho7)
    | (go_at_call 22; refine (SM.out _ _ _ _ hl7.out (HR1.out.below B18.out) R7.out).mono ?_; rintro e wa ⟨rfl, hba⟩; have BA := Lib.hid (below_on B18.out (Nat.le_refl _) hba); have HBA := Lib.hid hba; clear hba)
    | (go_at_call 23; refine (Nm.at_any (CU8.out.below HBA.out).blk).mono ?_; rintro e wb ⟨rfl, rfl⟩)
    | (go_at_call 24; refine (LF.out _ _ _ _ (CU8.out.below HBA.out)).mono ?_; rintro e wb ⟨rfl, d, rfl⟩)
    | (go_at_call 12; refine (known_any _).mono ?_; rintro e w9 ⟨rfl, hb9⟩; have B9 := Lib.hid (below_on (below_drewN' BA.out d) (Nat.le_refl _) hb9); clear hb9))
  go_ret
  exact ⟨rfl, below_on B0.out (Nat.le_refl _) B9.out⟩

theorem walk (y : Int) (A : Option Addr) (l : List Int) (cap : Nat) (B : Option Addr) (b : List UInt8) (cb : Nat) (sy lg : Int) (w : World) (hR : Ri w A l) (_ : ∀ z ∈ l, -9223372036854775808 ≤ z ∧ z ≤ 9223372036854775807) (hc : l.length ≤ cap) (hRB : Bt.Rd w B b) (_ : b.length ≤ 140737488351232) (_ : b.length ≤ cb) (_ : (Lit.int IntKind.i64 sy).wf = true) (_ : (Lit.int IntKind.i64 lg).wf = true) :
    Calls Try.prog 5 #[tb y A l.length cap, .slice B b.length cb, .int .i64 sy, .int .i64 lg] w fun e w' => e = .returned (.bool true) ∧ Below w.heap.size w w' := by
  by_cases h : 300 < l.length
  · exact walk_long y A _ cap B _ cb sy lg w h
  · by_cases h2 : 300 < b.length
    · exact walk_long2 y A _ cap B _ cb sy lg w (by omega) h2
    · cases hv : may y l with
      | false => exact walk_bad y A l _ cap B _ cb sy lg w rfl (by omega) hv hR (by omega)
      | true =>
        obtain ⟨n, rfl, h1, hv2⟩ := may_iff.1 hv
        by_cases h3 : sy < l.length
        · exact walk_err1 n A l _ cap B b _ cb sy lg w rfl hc hv2 h1 (by omega) hR (by omega) rfl hRB h3
        · by_cases h4 : lg < n
          · exact walk_err2 n A l _ cap B b _ cb sy lg w rfl hc hv2 h1 (by omega) hR (by omega) rfl hRB ⟨by omega, h4⟩
          · exact walk_good n A l _ cap B b _ cb sy lg w rfl hc hv2 h1 (by omega) hR (by omega) rfl hRB (by omega) (by omega)
set_option maxRecDepth 100000 in
theorem lifted (os : Os) (started : os.Started) (H : Type) (enc : TypeId × Value → H) :
    ReturnsInHanded {} Try.checked os 5 .any (Rows.descBackSpec.pre6 enc Try.prog Try.f5 Rows.descBackRow.domain false) (Rows.descBackSpec.post enc Try.prog Try.f5 false true false false) := by
  refine returnsInHanded_of_change_sized (C := Try.checked) ownB started (by kernel_rfl) Try.func5
    (ChangeSpec.witness6 (enc := enc) (C := Try.checked) false ⟨#[], #[.agg #[.int .i64 0, .slice none 0 0], .slice none 0 0, .int .i64 0, .int .i64 0], []⟩ 8 (by kernel_rfl) (by kernel_rfl) (by kernel_rfl) (by kernel_rfl)) ?_
  intro W base args ds gs before hval0 hW _ hsz0 _
  have hsz : (DataW.weightsEach Try.prog (Try.f5.params.toList ++ Rows.descBackSpec.plain.varTypes Try.prog) (ds ++ gs)).all (· ≤ reachBytes) = true := hsz0
  clear hsz0
  have hval : ∀ (j : Nat) t v, Try.f5.params[j]? = some t → args[j]? = some v → Value.okWide Try.prog W .any base t v := hval0
  have hW' := hW
  obtain ⟨p, q, hA0, hV, rfl, hfz, hnd⟩ := hW
  have hA : DataW.TrodAll enc Try.prog W 0 (fun _ => true) true Try.f5.params.toList args.toList ds p := hA0
  rw [Try.params5] at hA hval hsz
  obtain ⟨v0, vs0, d0, ds0, p0, q0, hargs, rfl, rfl, h0, r0⟩ := trodAll_cons hA
  obtain ⟨v1, vs1, d1, ds1, p1, q1, rfl, rfl, rfl, h1, r1⟩ := trodAll_cons r0
  obtain ⟨v2, vs2, d2, ds2, p2, q2, rfl, rfl, rfl, h2, r2⟩ := trodAll_cons r1
  obtain ⟨v3, vs3, d3, ds3, p3, q3, rfl, rfl, rfl, h3, r3⟩ := trodAll_cons r2
  obtain ⟨rfl, rfl, rfl⟩ := trodAll_nil r3
  obtain rfl : args = #[v0, v1, v2, v3] := by cases args; simp_all
  obtain ⟨rfl, rfl⟩ := trodVars_none hV
  obtain ⟨cs0, rfl, hcs0⟩ := okWide_struct Try.underlying24 (hval 0 24 v0 rfl rfl)
  have k0 := h0
  have lt0 : ∀ x ∈ p0, x.block < W.heap.size := by obtain ⟨m, hm⟩ := k0; exact DataW.trod_lt m _ _ _ hm
  obtain ⟨y0, a0, len0, cap0, l0, rfl, rfl, hc0, ri0, wi0⟩ := open_tab hcs0 h0
  obtain ⟨a1, len1, cap1, rfl⟩ := okWide_slice Try.underlying26 (hval 1 26 v1 rfl rfl)
  have k1 := h1
  have lt1 : ∀ x ∈ p1, x.block < W.heap.size := by obtain ⟨m, hm⟩ := k1; exact DataW.trod_lt m _ _ _ hm
  obtain ⟨l1, rfl, hc1, rd1, hd1⟩ := open_bytes h1
  have hs1 : l1.length ≤ 140737488351232 := by
    rcases hd1 with ⟨h, _⟩ | ⟨es, sp, rfl, h⟩
    · omega
    · have := sized_slice hsz (j := 1) (t := 26) (e := 5) rfl rfl Try.underlying26
      rw [bytes_byte] at this
      simp only [reachBytes] at this
      omega
  obtain ⟨a2, rfl, rfl, rfl, w2⟩ := open_int Try.underlying3 (hval 2 3 v2 rfl rfl) h2
  obtain ⟨a3, rfl, rfl, rfl, w3⟩ := open_int Try.underlying3 (hval 3 3 v3 rfl rfl) h3
  clear hA0 hval0
  refine (walk y0 a0 l0 cap0 a1 l1 cap1 a2 a3 W ri0 wi0 hc0 rd1 hs1 hc1 w2 w3).mono fun e W' ⟨he, bel⟩ => ?_
  subst he
  exact ⟨_, rfl, _, _, _, [], _, [], hW', trodAll_mk1 (shut_bool Try.underlying4 _), (trodAll_cons_mk (Below.trod laidOut (by kernel_rfl) (of_decide_eq_true (by kernel_rfl)) k0 bel lt0) (trodAll_cons_mk (Below.trod laidOut (by kernel_rfl) (of_decide_eq_true (by kernel_rfl)) k1 bel lt1) (trodAll_cons_mk (shut_int Try.underlying3 w2) (trodAll_cons_mk (shut_int Try.underlying3 w3) trodAll_mk0)))), rfl, bel.frame _, fun h => by cases h⟩

theorem proved : Rows.DescBackSaid :=
  OpenClaim.holds_of_wide 5 Try.f5 rfl rfl rfl rfl rfl rfl rfl ⟨rfl, rfl, rfl, rfl, rfl⟩ rfl rfl rfl rfl rfl (by kernel_rfl) Try.func5 (by kernel_rfl)
    (of_decide_eq_true (by kernel_rfl)) (by unfold Func.isWrapper; rw [if_neg (by decide +kernel)]; exact ⟨rfl, rfl⟩)
    (fun os started H enc _ => lifted os started H enc)

#print axioms proved

end Go.Proofs.Ytpjbjbohbdlciaa.descBack
