/-
  Proved: the law FlowMore returns true for all tables, symbols and bits: a bit more at the beginning of a flow, or one less, gives ErrBits. No condition.
-/
import Derived.BigQuiet
import Derived.Deep.QuietTactic
import Derived.Deep.RegionHeld3
import Derived.Test.YtgokbpnikgbfgaaSi
import Derived.Test.YtgokbpnikgbfgaaQc
namespace Go.Proofs.Ytgokbpnikgbfgaa.flowMore
open Go.ChangeShapes Go.WideShapes Go.ChangeAt Go.RowKit

set_option maxRecDepth 100000 in
set_option maxHeartbeats 1000000 in
theorem walk_a (y : Int) (A : Option Addr) (N cap : Nat) (M : Option Addr) (nm cm : Nat) (b : Bool) (w : World) (h : 300 < N) :
    Calls Try.prog 7 #[tb y A N cap, .slice M nm cm, .bool b] w fun e w' => e = .returned (.bool true) ∧ Below w.heap.size w w' := by
  have k1 : decide ((300 : Int) < (N : Int)) = true := decide_eq_true (by omega)
  obtain ⟨w1, hw1⟩ : ∃ w1, w.alloc (.cells #[.int .i64 y, .slice A N cap] 24) = w1 := ⟨_, rfl⟩
  obtain ⟨b1, t1⟩ := box_of hw1
  have c0 := t1.c0
  have c1 := t1.c1
  have B1 := Lib.hid b1
  have T1 := Lib.hid t1
  clear b1 t1
  go_enter Try.func7, Try.ntmps7
  go_wp2_with (first
    | (go_at_call 12; refine (known_any _).mono ?_; rintro e w9 ⟨rfl, hb9⟩; have B9 := Lib.hid (below_on B1.out (Nat.le_refl _) hb9); clear hb9))
  go_ret
  exact ⟨rfl, B9.out⟩

set_option maxRecDepth 100000 in
set_option maxHeartbeats 1000000 in
theorem walk_b (y : Int) (A : Option Addr) (N cap : Nat) (M : Option Addr) (nm cm : Nat) (b : Bool) (w : World) (h : N ≤ 300) (h2 : 300 < nm) :
    Calls Try.prog 7 #[tb y A N cap, .slice M nm cm, .bool b] w fun e w' => e = .returned (.bool true) ∧ Below w.heap.size w w' := by
  have k1 : decide ((300 : Int) < (N : Int)) = false := decide_eq_false (by omega)
  have k2 : decide ((300 : Int) < (nm : Int)) = true := decide_eq_true (by omega)
  obtain ⟨w1, hw1⟩ : ∃ w1, w.alloc (.cells #[.int .i64 y, .slice A N cap] 24) = w1 := ⟨_, rfl⟩
  obtain ⟨b1, t1⟩ := box_of hw1
  have c0 := t1.c0
  have c1 := t1.c1
  have B1 := Lib.hid b1
  have T1 := Lib.hid t1
  clear b1 t1
  go_enter Try.func7, Try.ntmps7
  go_wp2_with (first
    | (go_at_call 12; refine (known_any _).mono ?_; rintro e w9 ⟨rfl, hb9⟩; have B9 := Lib.hid (below_on B1.out (Nat.le_refl _) hb9); clear hb9))
  go_ret
  exact ⟨rfl, B9.out⟩

set_option maxRecDepth 100000 in
set_option maxHeartbeats 1000000 in
theorem walk_c (y : Int) (A : Option Addr) (l : List Int) (N cap : Nat) (M : Option Addr) (m : List Int) (nm cm : Nat) (b : Bool) (w : World) (hN : l.length = N) (_ : N ≤ cap) (hR : Ri w A l) (_ : m.length = nm) (_ : nm ≤ cm) (_ : Ri w M m) (h : N ≤ 300) (h2 : nm ≤ 300) (hv : vt y l 256 9 = false) :
    Calls Try.prog 7 #[tb y A N cap, .slice M nm cm, .bool b] w fun e w' => e = .returned (.bool true) ∧ Below w.heap.size w w' := by
  have k1 : decide ((300 : Int) < (N : Int)) = false := decide_eq_false (by omega)
  have k2 : decide ((300 : Int) < (nm : Int)) = false := decide_eq_false (by omega)
  obtain ⟨w1, hw1⟩ : ∃ w1, w.alloc (.cells #[.int .i64 y, .slice A N cap] 24) = w1 := ⟨_, rfl⟩
  obtain ⟨b1, t1⟩ := box_of hw1
  have c0 := t1.c0
  have c1 := t1.c1
  have B1 := Lib.hid b1
  have T1 := Lib.hid t1
  have MY : Hid (∀ W, Below w.heap.size w W → Calls Try.prog 17 #[tb y A N cap, .int .i64 256, .int .i64 9] W fun e w' => e = .returned (.int .i64 13) ∧ Below W.heap.size W w') := Lib.hid (fun W hb => by
    have := may_any W y 256 9 A l N cap hN (by omega) (hR.below hb)
    rw [hv, show err false = 13 from rfl] at this
    exact this)
  clear b1 t1 hR hN hv
  go_enter Try.func7, Try.ntmps7
  go_wp2_with (first
    | (go_at_call 17; refine (MY.out _ B1.out).mono ?_; rintro e w2 ⟨rfl, hb⟩; have B2 := Lib.hid (below_on B1.out (Nat.le_refl _) hb); have T2 := Lib.hid (T1.out.below hb); have d20 := T2.out.c0; have d21 := T2.out.c1; clear hb )
    | (go_at_call 12; refine (known_any _).mono ?_; rintro e w9 ⟨rfl, hb9⟩; have B9 := Lib.hid (below_on B2.out (Nat.le_refl _) hb9); clear hb9))
  go_ret
  exact ⟨rfl, B9.out⟩

set_option maxRecDepth 100000 in
set_option maxHeartbeats 1000000 in
theorem walk_d (y : Nat) (A : Option Addr) (l : List Int) (N cap : Nat) (M : Option Addr) (m : List Int) (nm cm : Nat) (b : Bool) (w : World) (hN : l.length = N) (_ : N ≤ cap) (hR : Ri w A l) (hM : m.length = nm) (_ : nm ≤ cm) (hRM : Ri w M m) (h : N ≤ 300) (h2 : nm ≤ 300) (hv : Vt y l) (hh : hasA l m = false) :
    Calls Try.prog 7 #[tb (y : Int) A N cap, .slice M nm cm, .bool b] w fun e w' => e = .returned (.bool true) ∧ Below w.heap.size w w' := by
  have k1 : decide ((300 : Int) < (N : Int)) = false := decide_eq_false (by omega)
  have k2 : decide ((300 : Int) < (nm : Int)) = false := decide_eq_false (by omega)
  obtain ⟨w1, hw1⟩ : ∃ w1, w.alloc (.cells #[.int .i64 (y : Int), .slice A N cap] 24) = w1 := ⟨_, rfl⟩
  obtain ⟨b1, t1⟩ := box_of hw1
  have c0 := t1.c0
  have c1 := t1.c1
  have B1 := Lib.hid b1
  have T1 := Lib.hid t1
  have MY : Hid (∀ W, Below w.heap.size w W → Calls Try.prog 17 #[tb (y : Int) A N cap, .int .i64 256, .int .i64 9] W fun e w' => e = .returned (.int .i64 0) ∧ Below W.heap.size W w') := Lib.hid (fun W hb => by
    have := may_any W (y : Int) 256 9 A l N cap hN (by omega) (hR.below hb)
    rw [vt_true hv, show err true = 0 from rfl] at this
    exact this)
  have HS : Hid (∀ W, Below w.heap.size w W → Calls Try.prog 18 #[tb (y : Int) A N cap, .slice M nm cm] W fun e w' => e = .returned (.bool false) ∧ Below W.heap.size W w') := Lib.hid (fun W hb => by
    have := hasl_any W (y : Int) A l N cap hN (by omega) (hR.below hb) M m nm cm hM (by omega) (hRM.below hb)
    rw [hh] at this
    exact this)
  clear b1 t1 hR hRM hN hM hv hh
  go_enter Try.func7, Try.ntmps7
  go_wp2_with (first
    | (go_at_call 17; refine (MY.out _ B1.out).mono ?_; rintro e w2 ⟨rfl, hb⟩; have B2 := Lib.hid (below_on B1.out (Nat.le_refl _) hb); have T2 := Lib.hid (T1.out.below hb); have d20 := T2.out.c0; have d21 := T2.out.c1; clear hb )
    | (go_at_call 18; refine (HS.out _ B2.out).mono ?_; rintro e w3 ⟨rfl, hb⟩; have B3 := Lib.hid (below_on B2.out (Nat.le_refl _) hb); have T3 := Lib.hid (T2.out.below hb); have d30 := T3.out.c0; have d31 := T3.out.c1; clear hb )
    | (go_at_call 12; refine (known_any _).mono ?_; rintro e w9 ⟨rfl, hb9⟩; have B9 := Lib.hid (below_on B3.out (Nat.le_refl _) hb9); clear hb9))
  go_ret
  exact ⟨rfl, B9.out⟩

set_option maxRecDepth 100000 in
set_option maxHeartbeats 2000000 in
theorem walk_ok (y : Nat) (A : Option Addr) (l : List Int) (N cap : Nat) (M : Option Addr) (m : List Int) (nm cm : Nat) (b : Bool) (w : World) (hN : l.length = N) (hc : N ≤ cap) (hR : Ri w A l) (hM : m.length = nm) (hcm : nm ≤ cm) (hRM : Ri w M m) (h : N ≤ 300) (h2 : nm ≤ 300) (hv : Vt y l) (hh : hasA l m = true) :
    Calls Try.prog 7 #[tb (y : Int) A N cap, .slice M nm cm, .bool b] w fun e w' => e = .returned (.bool true) ∧ Below w.heap.size w w' := by
  have k1 : decide ((300 : Int) < (N : Int)) = false := decide_eq_false (by omega)
  have k2 : decide ((300 : Int) < (nm : Int)) = false := decide_eq_false (by omega)
  obtain ⟨w1, hw1⟩ : ∃ w1, w.alloc (.cells #[.int .i64 (y : Int), .slice A N cap] 24) = w1 := ⟨_, rfl⟩
  obtain ⟨b1, t1⟩ := box_of hw1
  have c0 := t1.c0
  have c1 := t1.c1
  have B1 := Lib.hid b1
  have T1 := Lib.hid t1
  obtain ⟨ss, hss, hst, hsl⟩ := hasA_nat hv hh
  have hsn : ss.length = nm := by rw [← hM, hss, List.length_map]
  obtain ⟨F0, hF0⟩ : ∃ F0, fbs (CC y l) y ss = F0 := ⟨_, rfl⟩
  obtain ⟨X0, hX0⟩ : ∃ X0, fby y l ss = X0 := ⟨_, rfl⟩
  have hFX : X0 = Bt.closed F0 := by rw [← hX0, ← hF0]; rfl
  have hFl : F0.length ≤ y * nm := by rw [← hF0, ← hsn]; exact fbs_le hv hst
  have hy9 := hv.log
  have hq : y * nm ≤ 9 * nm := Nat.mul_le_mul_right _ hy9
  have hEO : Bt.endOf X0 = some F0.length := by rw [hFX]; exact Bt.endOf_closed F0
  have hUC : (Bt.unp X0).take F0.length = F0 := by rw [hFX]; exact unp_closed F0
  have MY : Hid (∀ W, Below w.heap.size w W → Calls Try.prog 17 #[tb (y : Int) A N cap, .int .i64 256, .int .i64 9] W fun e w' => e = .returned (.int .i64 0) ∧ Below W.heap.size W w') := Lib.hid (fun W hb => by
    have := may_any W (y : Int) 256 9 A l N cap hN (by omega) (hR.below hb)
    rw [vt_true hv, show err true = 0 from rfl] at this
    exact this)
  have HS : Hid (∀ W, Below w.heap.size w W → Calls Try.prog 18 #[tb (y : Int) A N cap, .slice M nm cm] W fun e w' => e = .returned (.bool true) ∧ Below W.heap.size W w') := Lib.hid (fun W hb => by
    have := hasl_any W (y : Int) A l N cap hN (by omega) (hR.below hb) M m nm cm hM (by omega) (hRM.below hb)
    rw [hh] at this
    exact this)
  have EN : Hid (∀ W, Below w.heap.size w W → Calls Try.prog 16 #[tb (y : Int) A N cap, .slice M nm cm] W (Eres W (0, X0))) := Lib.hid (fun W hb => by
    have := fenc_any W (y : Int) A l N cap hN (by omega) hc (hR.below hb) M m nm cm hM (by omega) hcm (hRM.below hb)
    rw [hss, feR_ok hv hst (by omega), hX0] at this
    exact this)
  have hXl : X0.length ≤ 500 := by have := fby_len hv hst; rw [hX0] at this; omega
  have BK : Hid (∀ W B nb cb, Below w.heap.size w W → (X0).length = nb → Bt.Rd W B (X0) → Calls Try.prog 19 #[.slice B nb cb] W fun r w' => ∃ yy, r = .returned (.tuple #[.pointer (some ⟨yy, 0, none⟩), .int .i64 0]) ∧ Bt.RMade W (F0) yy w') := Lib.hid (fun W B nb cb _ hl hr => by
    have := Bt.rback_ok W B (X0) nb cb hl (by omega) hr _ hEO
    rw [hUC] at this
    exact this)
  have hF4 : F0.length ≤ 4000 := by omega
  obtain ⟨XP, hXP⟩ : ∃ XP, Bt.closed (b :: F0) = XP := ⟨_, rfl⟩
  obtain ⟨XM, hXM⟩ : ∃ XM, Bt.closed (F0.drop 1) = XM := ⟨_, rfl⟩
  have hXPl : XP.length ≤ 1000 := by have := closed_len (b :: F0); rw [hXP] at this; simp at this; omega
  have hXMl : XM.length ≤ 1000 := by have := closed_len (F0.drop 1); rw [hXM] at this; rw [List.length_drop] at this; omega
  have DP : Hid (∀ W B nb cb, Below w.heap.size w W → XP.length = nb → Bt.Rd W B XP → Calls Try.prog 13 #[tb (y : Int) A N cap, .slice B nb cb, .int .i64 (nm : Int)] W (Fres W (14, []))) := Lib.hid (fun W B nb cb hb hl hr => by
    have := fdec_any W (y : Int) A l N cap hN (by omega) (hR.below hb) B XP nb cb hl (by omega) hr (nm : Int)
    rw [← hXP, ← hF0, ← hsn, fdR_more hv hst (by omega)] at this
    rw [← hsn]
    exact this)
  have DM : Hid (0 < F0.length → ∀ W B nb cb, Below w.heap.size w W → XM.length = nb → Bt.Rd W B XM → Calls Try.prog 13 #[tb (y : Int) A N cap, .slice B nb cb, .int .i64 (nm : Int)] W (Fres W (14, []))) := Lib.hid (fun hp W B nb cb hb hl hr => by
    have := fdec_any W (y : Int) A l N cap hN (by omega) (hR.below hb) B XM nb cb hl (by omega) hr (nm : Int)
    have hfb : fbs (CC y l) y ss = F0.headD false :: F0.drop 1 := by
      rw [hF0]
      cases F0 with
      | nil => simp at hp
      | cons a t => rfl
    rw [← hXM, ← hsn, fdR_less hv hst (by omega) hfb] at this
    rw [← hsn]
    exact this)
  have CL : Hid (∀ W G n c, (b :: F0).length = n → Bt.Rb W G (b :: F0) → Calls Try.prog 21 #[.slice G n c] W (Bt.Got W XP)) := Lib.hid (fun W G n c hl hr => by
    rw [← hXP]
    exact Bt.refClose_any W G (b :: F0) n c hl (by rw [← hl]; simp; omega) hr)
  have CM : Hid (∀ W G n c, (F0.drop 1).length = n → Bt.Rb W G (F0.drop 1) → Calls Try.prog 21 #[.slice G n c] W (Bt.Got W XM)) := Lib.hid (fun W G n c hl hr => by
    rw [← hXM]
    exact Bt.refClose_any W G (F0.drop 1) n c hl (by rw [← hl, List.length_drop]; omega) hr)
  obtain ⟨FL, hFLe⟩ : ∃ FL, F0.length = FL := ⟨_, rfl⟩
  have HFL := Lib.hid hFLe
  have HF4 := Lib.hid hF4
  have hFL4 : FL ≤ 4000 := by omega
  clear b1 t1 hR hRM hN hM hv hh hc hcm hss hst hsl hsn hX0 hF0 hFX hEO hUC hFl hq hXl hF4 hFLe hXP hXM hXPl hXMl
  go_enter Try.func7, Try.ntmps7
  go_upto_region 7 with (first
    | (go_at_call 17; refine (MY.out _ B1.out).mono ?_; rintro e w2 ⟨rfl, hb⟩; have B2 := Lib.hid (below_on B1.out (Nat.le_refl _) hb); have T2 := Lib.hid (T1.out.below hb); have d20 := T2.out.c0; have d21 := T2.out.c1; clear hb )
    | (go_at_call 18; refine (HS.out _ B2.out).mono ?_; rintro e w3 ⟨rfl, hb⟩; have B3 := Lib.hid (below_on B2.out (Nat.le_refl _) hb); have T3 := Lib.hid (T2.out.below hb); have d30 := T3.out.c0; have d31 := T3.out.c1; clear hb )
    | (go_at_call 16; refine (EN.out _ B3.out).mono ?_; intro e w4 hf; obtain ⟨AX, nX, cX, rfl, hb, hr, hl, hc, ho⟩ := hf.out; have LX := Lib.hid hl; have CX := Lib.hid hc; have OX := Lib.hid ho; have B4 := Lib.hid (below_on B3.out (Nat.le_refl _) hb); have T4 := Lib.hid (T3.out.below hb); have d40 := T4.out.c0; have d41 := T4.out.c1; have X_4 := Lib.hid hr; clear hb hf hr hl hc ho)
    | (go_at_call 19; refine (BK.out _ _ _ _ B4.out LX.out X_4.out).mono ?_; rintro e w5 ⟨yy, rfl, hm⟩; obtain ⟨g, hrl, hyy, hgg, hb⟩ := rl_made hm HF4.out; obtain ⟨Ar, cr, hcell, hrow, hcap⟩ := hrl.row; rw [HFL.out] at hcell hcap; have RW := Lib.hid hrow; have HCP := Lib.hid hcap; have HCL := Lib.hid hcell; have B5 := Lib.hid (below_on B4.out (Nat.le_refl _) hb); have T5 := Lib.hid (T4.out.below hb); have d50 := T5.out.c0; have d51 := T5.out.c1; have X_5 := Lib.hid (Bt.Rv.below X_4.out hb); clear hb hm hrl hyy hgg hrow hcap))
  have KP : Hid (∀ W, Below w5.heap.size w5 W → W.cell? ⟨w.heap.size, 0, none⟩ = some (.int .i64 (y : Int)) ∧ W.cell? ⟨w.heap.size, 1, none⟩ = some (.slice A N cap) ∧ W.cell? ⟨yy, 0, none⟩ = some (.slice Ar FL cr)) := Lib.hid (fun W hb => ⟨(T5.out.below hb).c0, (T5.out.below hb).c1, (hb.cell (cell_lt HCL.out)).trans HCL.out⟩)
  have ZD0 : Hid (Below w5.heap.size w5 w5.drew) := Lib.hid (Below.refl _ _).drew
  have ZL : Hid (Below w5.heap.size w5 ((w5.alloc (.cells #[.bool b] 4)).drew)) := Lib.hid ((Below.refl _ w5).alloc (Nat.le_refl _) _).drew
  have OL : Hid (((w5.alloc (.cells #[.bool b] 4)).drew).ownsRow w5.heap.size 4 1 (.slice (some ⟨w5.heap.size, 0, none⟩) 1 1) 1 [.bool b]) := Lib.hid (lit_bool w5 b)
  have RL : Hid (Rv ((w5.alloc (.cells #[.bool b] 4)).drew) Ar (F0.map Value.bool)) := Lib.hid (Bt.Rv.below RW.out ZL.out)
  obtain ⟨p0, p1, p2⟩ := KP.out _ ZD0.out
  obtain ⟨q0, q1, q2⟩ := KP.out _ ZL.out
  clear hcell d50 d51
  go_region_held3 (fun W => W.cell? ⟨w.heap.size, 0, none⟩ = some (.int .i64 (y : Int)) ∧ W.cell? ⟨w.heap.size, 1, none⟩ = some (.slice A N cap) ∧ W.cell? ⟨yy, 0, none⟩ = some (.slice Ar FL cr)) (first | exact ⟨p0, p1, p2⟩ | exact ⟨q0, q1, q2⟩ | exact ⟨r0, r1, r2⟩ | exact ⟨s0, s1, s2⟩ | exact ⟨z0, z1, z2⟩) (first
    | (refine step_append_vals Try.underlying41 Bt.bool_info rfl rfl (.tmp 56) (.tmp 60) rfl w5.heap.size (.slice (some ⟨w5.heap.size, 0, none⟩) 1 1) 1 [.bool b] (by simp [Act.eval]) OL.out Ar (F0.map Value.bool) (Bt.bool_one F0) FL cr (by rw [List.length_map]; exact HFL.out) (by simp [Act.eval]) RL.out (by omega) (by omega) ZL.out.size ?_; intro v7 w7 ho7 hg7 _; obtain ⟨A7, c7, rfl, _⟩ := own_form ho7; have Z7 := Lib.hid (ZL.out.grown hg7 ZL.out.size (fun j ej => (OL.out.lt j ej).1)); have R7 : Hid (Bt.Rb w7 A7 (b :: F0)) := Lib.hid (Bt.Rv.of_own ho7); have L7 : Hid ((b :: F0).length = 1 + FL) := Lib.hid (by rw [List.length_cons, HFL.out]; omega); obtain ⟨r0, r1, r2⟩ := KP.out _ Z7.out; clear ho7 hg7)
    | (go_at_call 21; refine (CL.out _ _ _ _ L7.out R7.out).mono ?_; intro e wk hf; obtain ⟨AC, nC, cC, rfl, hl, hr, hb⟩ := Got.out hf; have ZK := Lib.hid (below_on Z7.out (Nat.le_refl _) hb); have LC := Lib.hid hl; have RC := Lib.hid hr; have ZB := Lib.hid (below_on B5.out (Nat.le_refl _) ZK.out); obtain ⟨s0, s1, s2⟩ := KP.out _ ZK.out; clear hf hl hr hb)
    | (go_at_call 13; refine (DP.out _ _ _ _ ZB.out LC.out RC.out).mono ?_; intro e wd hf; obtain ⟨AD, nD, cD, rfl, hb, _, _, _, _⟩ := hf.out; have ZD := Lib.hid (below_on ZK.out (Nat.le_refl _) hb); have BD := Lib.hid (below_on B5.out (Nat.le_refl _) ZD.out); obtain ⟨z0, z1, z2⟩ := KP.out _ ZD.out; clear hf hb))
  clear p0 p1 p2 q0 q1 q2 r0 r1 r2 s0 s1 s2
  by_cases hF : FL = 0
  · have kF : ((FL : Int) == 0) = true := by rw [hF]; rfl
    have kFn : (FL == 0) = true := by rw [hF]; rfl
    subst hF
    go_wp2_with (go_at_call 12; refine (known_any _).mono ?_; rintro e w9 ⟨rfl, hb9⟩; have B9 := Lib.hid (below_on BD.out (Nat.le_refl _) hb9); clear hb9)
    go_ret
    exact ⟨rfl, B9.out⟩
  · have kF : ((FL : Int) == 0) = false := by simpa using hF
    have kFn : (FL == 0) = false := by simpa using hF
    obtain ⟨G1, hG1⟩ : ∃ G1, Bt.off Ar cr 1 = G1 := ⟨_, rfl⟩
    obtain ⟨F1, hF1⟩ : ∃ F1, FL - 1 = F1 := ⟨_, rfl⟩
    obtain ⟨cr1, hcr1⟩ : ∃ cr1, cr - 1 = cr1 := ⟨_, rfl⟩
    have s1 : ∀ W, (Instr.slice 41 (.slice Ar FL cr) (some (.int .i64 1)) none none).run Try.prog W = .ok (.slice G1 F1 cr1) W := fun W => by
      have := Bt.slice_lo Ar FL cr 1 (by omega) W
      rw [hG1, hF1, hcr1] at this
      exact this
    have RG : Hid (∀ W, Below w5.heap.size w5 W → Bt.Rb W G1 (F0.drop 1)) := Lib.hid (fun W hb => by
      rw [← hG1]
      exact Bt.off_rb (Bt.Rv.below RW.out hb) (by rw [HFL.out]; exact HCP.out))
    have LG : Hid ((F0.drop 1).length = F1) := Lib.hid (by rw [List.length_drop, HFL.out]; exact hF1)
    have HP : Hid (0 < F0.length) := Lib.hid (by rw [HFL.out]; omega)
    have ZE : Hid (Below w5.heap.size w5 wd.drew) := Lib.hid ZD.out.drew
    clear hG1 hF1 hcr1 hF
    go_upto_region 12 with fail
    obtain ⟨p0, p1, p2⟩ := KP.out _ ZE.out
    clear z0 z1 z2
    go_region_held3 (fun W => W.cell? ⟨w.heap.size, 0, none⟩ = some (.int .i64 (y : Int)) ∧ W.cell? ⟨w.heap.size, 1, none⟩ = some (.slice A N cap) ∧ W.cell? ⟨yy, 0, none⟩ = some (.slice Ar FL cr)) (first | exact ⟨p0, p1, p2⟩ | exact ⟨s0, s1', s2⟩ | exact ⟨y0, y1, y2⟩) (first
      | (go_at_call 21; refine (CM.out _ _ _ _ LG.out (RG.out _ ZE.out)).mono ?_; intro e wk2 hf; obtain ⟨AC2, nC2, cC2, rfl, hl, hr, hb⟩ := Got.out hf; have ZK2 := Lib.hid (below_on ZE.out (Nat.le_refl _) hb); have LC2 := Lib.hid hl; have RC2 := Lib.hid hr; have ZB2 := Lib.hid (below_on B5.out (Nat.le_refl _) ZK2.out); obtain ⟨s0, s1', s2⟩ := KP.out _ ZK2.out; clear hf hl hr hb)
      | (go_at_call 13; refine (DM.out HP.out _ _ _ _ ZB2.out LC2.out RC2.out).mono ?_; intro e we hf; obtain ⟨AE, nE, cE, rfl, hb, _, _, _, _⟩ := hf.out; have ZE2 := Lib.hid (below_on ZK2.out (Nat.le_refl _) hb); have BE := Lib.hid (below_on B5.out (Nat.le_refl _) ZE2.out); obtain ⟨y0, y1, y2⟩ := KP.out _ ZE2.out; clear hf hb))
    all_goals
      go_wp2_with (go_at_call 12; refine (known_any _).mono ?_; rintro e w9 ⟨rfl, hb9⟩; have B9 := Lib.hid (below_on BE.out (Nat.le_refl _) hb9); clear hb9)
      go_ret
      exact ⟨rfl, B9.out⟩

theorem walk (y : Int) (A : Option Addr) (l : List Int) (cap : Nat) (M : Option Addr) (m : List Int) (cm : Nat) (b : Bool) (w : World) (hR : Ri w A l) (_ : ∀ z ∈ l, -9223372036854775808 ≤ z ∧ z ≤ 9223372036854775807) (hc : l.length ≤ cap) (hRM : Ri w M m) (_ : ∀ z ∈ m, -9223372036854775808 ≤ z ∧ z ≤ 9223372036854775807) (hcm : m.length ≤ cm) :
    Calls Try.prog 7 #[tb y A l.length cap, .slice M m.length cm, .bool b] w fun e w' => e = .returned (.bool true) ∧ Below w.heap.size w w' := by
  by_cases h : 300 < l.length
  · exact walk_a y A _ cap M _ cm b w h
  · by_cases h2 : 300 < m.length
    · exact walk_b y A _ cap M _ cm b w (by omega) h2
    · cases hv : vt y l 256 9 with
      | false => exact walk_c y A l _ cap M m _ cm b w rfl hc hR rfl hcm hRM (by omega) (by omega) hv
      | true =>
        obtain ⟨k, rfl, hvt⟩ := vt_iff.1 hv
        cases hh : hasA l m with
        | false => exact walk_d k A l _ cap M m _ cm b w rfl hc hR rfl hcm hRM (by omega) (by omega) hvt hh
        | true => exact walk_ok k A l _ cap M m _ cm b w rfl hc hR rfl hcm hRM (by omega) (by omega) hvt hh
set_option maxRecDepth 100000 in
theorem lifted (os : Os) (started : os.Started) (H : Type) (enc : TypeId × Value → H) :
    ReturnsInHanded {} Try.checked os 7 .any (Rows.flowMoreSpec.pre6 enc Try.prog Try.f7 Rows.flowMoreRow.domain false) (Rows.flowMoreSpec.post enc Try.prog Try.f7 false true false false) := by
  refine returnsInHanded_of_change_sized (C := Try.checked) ownB started (by kernel_rfl) Try.func7
    (ChangeSpec.witness6 (enc := enc) (C := Try.checked) false ⟨#[], #[.agg #[.int .i64 0, .slice none 0 0], .slice none 0 0, .bool false], []⟩ 8 (by kernel_rfl) (by kernel_rfl) (by kernel_rfl) (by kernel_rfl)) ?_
  intro W base args ds gs before hval0 hW _ hsz0 _
  have hsz : (DataW.weightsEach Try.prog (Try.f7.params.toList ++ Rows.flowMoreSpec.plain.varTypes Try.prog) (ds ++ gs)).all (· ≤ reachBytes) = true := hsz0
  clear hsz0
  have hval : ∀ (j : Nat) t v, Try.f7.params[j]? = some t → args[j]? = some v → Value.okWide Try.prog W .any base t v := hval0
  have hW' := hW
  obtain ⟨p, q, hA0, hV, rfl, hfz, hnd⟩ := hW
  have hA : DataW.TrodAll enc Try.prog W 0 (fun _ => true) true Try.f7.params.toList args.toList ds p := hA0
  rw [Try.params7] at hA hval hsz
  obtain ⟨v0, vs0, d0, ds0, p0, q0, hargs, rfl, rfl, h0, r0⟩ := trodAll_cons hA
  obtain ⟨v1, vs1, d1, ds1, p1, q1, rfl, rfl, rfl, h1, r1⟩ := trodAll_cons r0
  obtain ⟨v2, vs2, d2, ds2, p2, q2, rfl, rfl, rfl, h2, r2⟩ := trodAll_cons r1
  obtain ⟨rfl, rfl, rfl⟩ := trodAll_nil r2
  obtain rfl : args = #[v0, v1, v2] := by cases args; simp_all
  obtain ⟨rfl, rfl⟩ := trodVars_none hV
  obtain ⟨cs0, rfl, hcs0⟩ := okWide_struct Try.underlying24 (hval 0 24 v0 rfl rfl)
  have k0 := h0
  have lt0 : ∀ x ∈ p0, x.block < W.heap.size := by obtain ⟨m, hm⟩ := k0; exact DataW.trod_lt m _ _ _ hm
  obtain ⟨y0, a0, len0, cap0, l0, rfl, rfl, hc0, ri0, wi0⟩ := open_tab hcs0 h0
  obtain ⟨a1, len1, cap1, rfl⟩ := okWide_slice Try.underlying22 (hval 1 22 v1 rfl rfl)
  have k1 := h1
  have lt1 : ∀ x ∈ p1, x.block < W.heap.size := by obtain ⟨m, hm⟩ := k1; exact DataW.trod_lt m _ _ _ hm
  obtain ⟨l1, rfl, hc1, ri1, wi1⟩ := open_intl h1
  obtain ⟨a2, rfl, rfl, rfl⟩ := open_bool Try.underlying4 (hval 2 4 v2 rfl rfl) h2
  clear hA0 hval0
  refine (walk y0 a0 l0 cap0 a1 l1 cap1 a2 W ri0 wi0 hc0 ri1 wi1 hc1 ).mono fun e W' ⟨he, bel⟩ => ?_
  subst he
  exact ⟨_, rfl, _, _, _, [], _, [], hW', trodAll_mk1 (shut_bool Try.underlying4 _), (trodAll_cons_mk (Below.trod laidOut (by kernel_rfl) (of_decide_eq_true (by kernel_rfl)) k0 bel lt0) (trodAll_cons_mk (Below.trod laidOut (by kernel_rfl) (of_decide_eq_true (by kernel_rfl)) k1 bel lt1) (trodAll_cons_mk (shut_bool Try.underlying4 _) trodAll_mk0))), rfl, bel.frame _, fun h => by cases h⟩

theorem proved : Rows.FlowMoreSaid :=
  OpenClaim.holds_of_wide 7 Try.f7 rfl rfl rfl rfl rfl rfl rfl ⟨rfl, rfl, rfl, rfl, rfl⟩ rfl rfl rfl rfl rfl (by kernel_rfl) Try.func7 (by kernel_rfl)
    (of_decide_eq_true (by kernel_rfl)) (by unfold Func.isWrapper; rw [if_neg (by decide +kernel)]; exact ⟨rfl, rfl⟩)
    (fun os started H enc _ => lifted os started H enc)

#print axioms proved

end Go.Proofs.Ytgokbpnikgbfgaa.flowMore
