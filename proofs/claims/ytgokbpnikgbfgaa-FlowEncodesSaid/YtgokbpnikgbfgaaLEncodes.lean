/-
  Proved: the law FlowEncodes returns true for all tables and symbols: the reference decodes what Encode returns to the symbols, and the errors are those of the chapter. No condition.
-/
import Derived.BigQuiet
import Derived.Deep.QuietTactic
import Derived.Test.YtgokbpnikgbfgaaSi
namespace Go.Proofs.Ytgokbpnikgbfgaa.flowEncodes
open Go.ChangeShapes Go.WideShapes Go.ChangeAt Go.RowKit

set_option maxRecDepth 100000 in
set_option maxHeartbeats 1000000 in
theorem walk_a (y : Int) (A : Option Addr) (N cap : Nat) (M : Option Addr) (nm cm : Nat) (w : World) (h : 300 < N) :
    Calls Try.prog 4 #[tb y A N cap, .slice M nm cm] w fun e w' => e = .returned (.bool true) ∧ Below w.heap.size w w' := by
  have k1 : decide ((300 : Int) < (N : Int)) = true := decide_eq_true (by omega)
  obtain ⟨w1, hw1⟩ : ∃ w1, w.alloc (.cells #[.int .i64 y, .slice A N cap] 24) = w1 := ⟨_, rfl⟩
  obtain ⟨b1, t1⟩ := box_of hw1
  have c0 := t1.c0
  have c1 := t1.c1
  have B1 := Lib.hid b1
  have T1 := Lib.hid t1
  clear b1 t1
  go_enter Try.func4, Try.ntmps4
  go_wp2_with (first
    | (go_at_call 12; refine (known_any _).mono ?_; rintro e w9 ⟨rfl, hb9⟩; have B9 := Lib.hid (below_on B1.out (Nat.le_refl _) hb9); clear hb9))
  go_ret
  exact ⟨rfl, B9.out⟩

set_option maxRecDepth 100000 in
set_option maxHeartbeats 1000000 in
theorem walk_b (y : Int) (A : Option Addr) (N cap : Nat) (M : Option Addr) (nm cm : Nat) (w : World) (h : N ≤ 300) (h2 : 300 < nm) :
    Calls Try.prog 4 #[tb y A N cap, .slice M nm cm] w fun e w' => e = .returned (.bool true) ∧ Below w.heap.size w w' := by
  have k1 : decide ((300 : Int) < (N : Int)) = false := decide_eq_false (by omega)
  have k2 : decide ((300 : Int) < (nm : Int)) = true := decide_eq_true (by omega)
  obtain ⟨w1, hw1⟩ : ∃ w1, w.alloc (.cells #[.int .i64 y, .slice A N cap] 24) = w1 := ⟨_, rfl⟩
  obtain ⟨b1, t1⟩ := box_of hw1
  have c0 := t1.c0
  have c1 := t1.c1
  have B1 := Lib.hid b1
  have T1 := Lib.hid t1
  clear b1 t1
  go_enter Try.func4, Try.ntmps4
  go_wp2_with (first
    | (go_at_call 12; refine (known_any _).mono ?_; rintro e w9 ⟨rfl, hb9⟩; have B9 := Lib.hid (below_on B1.out (Nat.le_refl _) hb9); clear hb9))
  go_ret
  exact ⟨rfl, B9.out⟩

set_option maxRecDepth 100000 in
set_option maxHeartbeats 1000000 in
theorem walk_c (y : Int) (A : Option Addr) (l : List Int) (N cap : Nat) (M : Option Addr) (m : List Int) (nm cm : Nat) (w : World) (hN : l.length = N) (hc : N ≤ cap) (hR : Ri w A l) (hM : m.length = nm) (hcm : nm ≤ cm) (hRM : Ri w M m) (h : N ≤ 300) (h2 : nm ≤ 300) (hv : vt y l 256 9 = false) :
    Calls Try.prog 4 #[tb y A N cap, .slice M nm cm] w fun e w' => e = .returned (.bool true) ∧ Below w.heap.size w w' := by
  have k1 : decide ((300 : Int) < (N : Int)) = false := decide_eq_false (by omega)
  have k2 : decide ((300 : Int) < (nm : Int)) = false := decide_eq_false (by omega)
  obtain ⟨w1, hw1⟩ : ∃ w1, w.alloc (.cells #[.int .i64 y, .slice A N cap] 24) = w1 := ⟨_, rfl⟩
  obtain ⟨b1, t1⟩ := box_of hw1
  have c0 := t1.c0
  have c1 := t1.c1
  have B1 := Lib.hid b1
  have T1 := Lib.hid t1
  have MY : Hid (∀ W, Below w.heap.size w W → Calls Try.prog 17 #[tb y A N cap, .int .i64 256, .int .i64 9] W fun e w' => e = .returned (.int .i64 13) ∧ Below W.heap.size W w') := Lib.hid (fun W hb => by
    have := may_any W y 256 9 A l N cap hN (by omega) (hR.below hb)
    rw [hv, show err false = 13 from rfl] at this
    exact this)
  have EN : Hid (∀ W, Below w.heap.size w W → Calls Try.prog 16 #[tb y A N cap, .slice M nm cm] W (Eres W (13, ([] : List UInt8)))) := Lib.hid (fun W hb => by
    have := fenc_any W y A l N cap hN (by omega) hc (hR.below hb) M m nm cm hM (by omega) hcm (hRM.below hb)
    rw [feR_bad m hv] at this
    exact this)
  clear b1 t1 hR hRM hN hM hv hc hcm
  go_enter Try.func4, Try.ntmps4
  go_wp2_with (first
    | (go_at_call 16; refine (EN.out _ B1.out).mono ?_; intro e w2 hf; obtain ⟨AX, nX, cX, rfl, hb, hr, hl, hc, ho⟩ := hf.out; have LX := Lib.hid hl; have CX := Lib.hid hc; have OX := Lib.hid ho; obtain rfl : nX = 0 := hl.symm; have B2 := Lib.hid (below_on B1.out (Nat.le_refl _) hb); have T2 := Lib.hid (T1.out.below hb); have d20 := T2.out.c0; have d21 := T2.out.c1; have X_2 := Lib.hid hr; clear hb hf hr hl hc ho)
    | (go_at_call 17; refine (MY.out _ B2.out).mono ?_; rintro e w3 ⟨rfl, hb⟩; have B3 := Lib.hid (below_on B2.out (Nat.le_refl _) hb); have T3 := Lib.hid (T2.out.below hb); have d30 := T3.out.c0; have d31 := T3.out.c1; have X_3 := Lib.hid (Bt.Rv.below X_2.out hb); clear hb )
    | (go_at_call 12; refine (known_any _).mono ?_; rintro e w9 ⟨rfl, hb9⟩; have B9 := Lib.hid (below_on B3.out (Nat.le_refl _) hb9); clear hb9))
  go_ret
  exact ⟨rfl, B9.out⟩

set_option maxRecDepth 100000 in
set_option maxHeartbeats 1000000 in
theorem walk_d (y : Nat) (A : Option Addr) (l : List Int) (N cap : Nat) (M : Option Addr) (m : List Int) (nm cm : Nat) (w : World) (hN : l.length = N) (hc : N ≤ cap) (hR : Ri w A l) (hM : m.length = nm) (hcm : nm ≤ cm) (hRM : Ri w M m) (h : N ≤ 300) (h2 : nm ≤ 300) (hv : Vt y l) (hh : hasA l m = false) :
    Calls Try.prog 4 #[tb (y : Int) A N cap, .slice M nm cm] w fun e w' => e = .returned (.bool true) ∧ Below w.heap.size w w' := by
  have k1 : decide ((300 : Int) < (N : Int)) = false := decide_eq_false (by omega)
  have k2 : decide ((300 : Int) < (nm : Int)) = false := decide_eq_false (by omega)
  obtain ⟨w1, hw1⟩ : ∃ w1, w.alloc (.cells #[.int .i64 (y : Int), .slice A N cap] 24) = w1 := ⟨_, rfl⟩
  obtain ⟨b1, t1⟩ := box_of hw1
  have c0 := t1.c0
  have c1 := t1.c1
  have B1 := Lib.hid b1
  have T1 := Lib.hid t1
  have MY : Hid (∀ W, Below w.heap.size w W → Calls Try.prog 17 #[tb (y : Int) A N cap, .int .i64 256, .int .i64 9] W fun e w' => e = .returned (.int .i64 0) ∧ Below W.heap.size W w') := Lib.hid (fun W hb => by
    have := may_any W (y : Int) 256 9 A l N cap hN (by omega) (hR.below hb)
    rw [vt_true hv, show err true = 0 from rfl] at this
    exact this)
  have HS : Hid (∀ W, Below w.heap.size w W → Calls Try.prog 18 #[tb (y : Int) A N cap, .slice M nm cm] W fun e w' => e = .returned (.bool false) ∧ Below W.heap.size W w') := Lib.hid (fun W hb => by
    have := hasl_any W (y : Int) A l N cap hN (by omega) (hR.below hb) M m nm cm hM (by omega) (hRM.below hb)
    rw [hh] at this
    exact this)
  have EN : Hid (∀ W, Below w.heap.size w W → Calls Try.prog 16 #[tb (y : Int) A N cap, .slice M nm cm] W (Eres W (2, ([] : List UInt8)))) := Lib.hid (fun W hb => by
    have := fenc_any W (y : Int) A l N cap hN (by omega) hc (hR.below hb) M m nm cm hM (by omega) hcm (hRM.below hb)
    rw [feR_arg (vt_true hv) (.inr hh)] at this
    exact this)
  clear b1 t1 hR hRM hN hM hv hh hc hcm
  go_enter Try.func4, Try.ntmps4
  go_wp2_with (first
    | (go_at_call 16; refine (EN.out _ B1.out).mono ?_; intro e w2 hf; obtain ⟨AX, nX, cX, rfl, hb, hr, hl, hc, ho⟩ := hf.out; have LX := Lib.hid hl; have CX := Lib.hid hc; have OX := Lib.hid ho; obtain rfl : nX = 0 := hl.symm; have B2 := Lib.hid (below_on B1.out (Nat.le_refl _) hb); have T2 := Lib.hid (T1.out.below hb); have d20 := T2.out.c0; have d21 := T2.out.c1; have X_2 := Lib.hid hr; clear hb hf hr hl hc ho)
    | (go_at_call 17; refine (MY.out _ B2.out).mono ?_; rintro e w3 ⟨rfl, hb⟩; have B3 := Lib.hid (below_on B2.out (Nat.le_refl _) hb); have T3 := Lib.hid (T2.out.below hb); have d30 := T3.out.c0; have d31 := T3.out.c1; have X_3 := Lib.hid (Bt.Rv.below X_2.out hb); clear hb )
    | (go_at_call 18; refine (HS.out _ B3.out).mono ?_; rintro e w4 ⟨rfl, hb⟩; have B4 := Lib.hid (below_on B3.out (Nat.le_refl _) hb); have T4 := Lib.hid (T3.out.below hb); have d40 := T4.out.c0; have d41 := T4.out.c1; have X_4 := Lib.hid (Bt.Rv.below X_3.out hb); clear hb )
    | (go_at_call 12; refine (known_any _).mono ?_; rintro e w9 ⟨rfl, hb9⟩; have B9 := Lib.hid (below_on B4.out (Nat.le_refl _) hb9); clear hb9))
  go_ret
  exact ⟨rfl, B9.out⟩

set_option maxRecDepth 100000 in
set_option maxHeartbeats 1000000 in
theorem walk_ok (y : Nat) (A : Option Addr) (l : List Int) (N cap : Nat) (M : Option Addr) (m : List Int) (nm cm : Nat) (w : World) (hN : l.length = N) (hc : N ≤ cap) (hR : Ri w A l) (hM : m.length = nm) (hcm : nm ≤ cm) (hRM : Ri w M m) (h : N ≤ 300) (h2 : nm ≤ 300) (hv : Vt y l) (hh : hasA l m = true) :
    Calls Try.prog 4 #[tb (y : Int) A N cap, .slice M nm cm] w fun e w' => e = .returned (.bool true) ∧ Below w.heap.size w w' := by
  have k1 : decide ((300 : Int) < (N : Int)) = false := decide_eq_false (by omega)
  have k2 : decide ((300 : Int) < (nm : Int)) = false := decide_eq_false (by omega)
  obtain ⟨w1, hw1⟩ : ∃ w1, w.alloc (.cells #[.int .i64 (y : Int), .slice A N cap] 24) = w1 := ⟨_, rfl⟩
  obtain ⟨b1, t1⟩ := box_of hw1
  have c0 := t1.c0
  have c1 := t1.c1
  have B1 := Lib.hid b1
  have T1 := Lib.hid t1
  obtain ⟨ss, hss, hst, hsl⟩ := hasA_nat hv hh
  have hsn : ss.length = nm := by rw [← hM, hss, List.length_map]
  obtain ⟨X0, hX0⟩ : ∃ X0, fby y l ss = X0 := ⟨_, rfl⟩
  have MY : Hid (∀ W, Below w.heap.size w W → Calls Try.prog 17 #[tb (y : Int) A N cap, .int .i64 256, .int .i64 9] W fun e w' => e = .returned (.int .i64 0) ∧ Below W.heap.size W w') := Lib.hid (fun W hb => by
    have := may_any W (y : Int) 256 9 A l N cap hN (by omega) (hR.below hb)
    rw [vt_true hv, show err true = 0 from rfl] at this
    exact this)
  have HS : Hid (∀ W, Below w.heap.size w W → Calls Try.prog 18 #[tb (y : Int) A N cap, .slice M nm cm] W fun e w' => e = .returned (.bool true) ∧ Below W.heap.size W w') := Lib.hid (fun W hb => by
    have := hasl_any W (y : Int) A l N cap hN (by omega) (hR.below hb) M m nm cm hM (by omega) (hRM.below hb)
    rw [hh] at this
    exact this)
  have EN : Hid (∀ W, Below w.heap.size w W → Calls Try.prog 16 #[tb (y : Int) A N cap, .slice M nm cm] W (Eres W (0, X0))) := Lib.hid (fun W hb => by
    have := fenc_any W (y : Int) A l N cap hN (by omega) hc (hR.below hb) M m nm cm hM (by omega) hcm (hRM.below hb)
    rw [hss, feR_ok hv hst (by omega), hX0] at this
    exact this)
  have hXl : X0.length ≤ 500 := by have := fby_len hv hst; rw [hX0] at this; omega
  have RE : Hid (∀ W B nb cb, Below w.heap.size w W → X0.length = nb → Bt.Rd W B X0 → Calls Try.prog 14 #[tb (y : Int) A N cap, .slice B nb cb, .int .i64 (nm : Int)] W (Fres W (0, ss))) := Lib.hid (fun W B nb cb hb hl hr => by
    have := rdecode_any W (y : Int) A l N cap hN h (hR.below hb) B X0 nb cb hl (by omega) hr (nm : Int)
    rw [← hX0, ← hsn, fdR_back hv hst (by omega)] at this
    rw [← hsn]
    exact this)
  have hsi : ns ss = m := hss.symm
  have hml : m.length ≤ 1000 := by omega
  have SM : Hid (∀ W A1 n1 c1 A2 n2 c2, (m).length = n1 → (m).length = n2 → Ri W A1 (m) → Ri W A2 (m) → Calls Try.prog 15 #[.slice A1 n1 c1, .slice A2 n2 c2] W fun e w' => e = .returned (.bool true) ∧ Below W.heap.size W w') := Lib.hid (fun W A1 n1 c1 A2 n2 c2 h1 h2 h3 h4 => by
    have := sameI_any W A1 A2 (m) (m) n1 c1 n2 c2 h1 h2 (by omega) h3 h4
    rwa [decide_eq_true rfl] at this)
  have HM1 := Lib.hid hM
  have HSI := Lib.hid hsi
  have M_1 := Lib.hid (hRM.below b1)
  clear b1 t1 hR hRM hN hM hv hh hc hcm hss hst hsl hsn hX0 hsi hXl hml
  go_enter Try.func4, Try.ntmps4
  go_wp2_with (first
    | (go_at_call 16; refine (EN.out _ B1.out).mono ?_; intro e w2 hf; obtain ⟨AX, nX, cX, rfl, hb, hr, hl, hc, ho⟩ := hf.out; have LX := Lib.hid hl; have CX := Lib.hid hc; have OX := Lib.hid ho; have B2 := Lib.hid (below_on B1.out (Nat.le_refl _) hb); have T2 := Lib.hid (T1.out.below hb); have d20 := T2.out.c0; have d21 := T2.out.c1; have M_2 := Lib.hid (M_1.out.below hb); have X_2 := Lib.hid hr; clear hb hf hr hl hc ho)
    | (go_at_call 17; refine (MY.out _ B2.out).mono ?_; rintro e w3 ⟨rfl, hb⟩; have B3 := Lib.hid (below_on B2.out (Nat.le_refl _) hb); have T3 := Lib.hid (T2.out.below hb); have d30 := T3.out.c0; have d31 := T3.out.c1; have M_3 := Lib.hid (M_2.out.below hb); have X_3 := Lib.hid (Bt.Rv.below X_2.out hb); clear hb )
    | (go_at_call 18; refine (HS.out _ B3.out).mono ?_; rintro e w4 ⟨rfl, hb⟩; have B4 := Lib.hid (below_on B3.out (Nat.le_refl _) hb); have T4 := Lib.hid (T3.out.below hb); have d40 := T4.out.c0; have d41 := T4.out.c1; have M_4 := Lib.hid (M_3.out.below hb); have X_4 := Lib.hid (Bt.Rv.below X_3.out hb); clear hb )
    | (go_at_call 14; refine (RE.out _ _ _ _ B4.out LX.out X_4.out).mono ?_; intro e w5 hf; obtain ⟨AS, nS, cS, rfl, hb, hr, hl, hc, ho⟩ := hf.out; have LS := Lib.hid hl; have CS := Lib.hid hc; have OS := Lib.hid ho; have hS2 : Hid (Ri w5 AS m) := Lib.hid (by (rw [← HSI.out]; exact hr)); have hS3 : Hid (m.length = nS) := Lib.hid (by (rw [← HSI.out]; exact hl)); have B5 := Lib.hid (below_on B4.out (Nat.le_refl _) hb); have T5 := Lib.hid (T4.out.below hb); have d50 := T5.out.c0; have d51 := T5.out.c1; have M_5 := Lib.hid (M_4.out.below hb); have X_5 := Lib.hid (Bt.Rv.below X_4.out hb); have S_5 := Lib.hid hr; clear hb hf hr hl hc ho)
    | (go_at_call 15; refine (SM.out _ _ _ _ _ _ _ hS3.out HM1.out hS2.out M_5.out).mono ?_; rintro e w6 ⟨rfl, hb⟩; have B6 := Lib.hid (below_on B5.out (Nat.le_refl _) hb); have T6 := Lib.hid (T5.out.below hb); have d60 := T6.out.c0; have d61 := T6.out.c1; have M_6 := Lib.hid (M_5.out.below hb); have X_6 := Lib.hid (Bt.Rv.below X_5.out hb); have S_6 := Lib.hid (S_5.out.below hb); clear hb )
    | (go_at_call 12; refine (known_any _).mono ?_; rintro e w9 ⟨rfl, hb9⟩; have B9 := Lib.hid (below_on B6.out (Nat.le_refl _) hb9); clear hb9))
  go_ret
  exact ⟨rfl, B9.out⟩

theorem walk (y : Int) (A : Option Addr) (l : List Int) (cap : Nat) (M : Option Addr) (m : List Int) (cm : Nat) (w : World) (hR : Ri w A l) (_ : ∀ z ∈ l, -9223372036854775808 ≤ z ∧ z ≤ 9223372036854775807) (hc : l.length ≤ cap) (hRM : Ri w M m) (_ : ∀ z ∈ m, -9223372036854775808 ≤ z ∧ z ≤ 9223372036854775807) (hcm : m.length ≤ cm) :
    Calls Try.prog 4 #[tb y A l.length cap, .slice M m.length cm] w fun e w' => e = .returned (.bool true) ∧ Below w.heap.size w w' := by
  by_cases h : 300 < l.length
  · exact walk_a y A _ cap M _ cm w h
  · by_cases h2 : 300 < m.length
    · exact walk_b y A _ cap M _ cm w (by omega) h2
    · cases hv : vt y l 256 9 with
      | false => exact walk_c y A l _ cap M m _ cm w rfl hc hR rfl hcm hRM (by omega) (by omega) hv
      | true =>
        obtain ⟨k, rfl, hvt⟩ := vt_iff.1 hv
        cases hh : hasA l m with
        | false => exact walk_d k A l _ cap M m _ cm w rfl hc hR rfl hcm hRM (by omega) (by omega) hvt hh
        | true => exact walk_ok k A l _ cap M m _ cm w rfl hc hR rfl hcm hRM (by omega) (by omega) hvt hh
set_option maxRecDepth 100000 in
theorem lifted (os : Os) (started : os.Started) (H : Type) (enc : TypeId × Value → H) :
    ReturnsInHanded {} Try.checked os 4 .any (Rows.flowEncodesSpec.pre6 enc Try.prog Try.f4 Rows.flowEncodesRow.domain false) (Rows.flowEncodesSpec.post enc Try.prog Try.f4 false true false false) := by
  refine returnsInHanded_of_change_sized (C := Try.checked) ownB started (by kernel_rfl) Try.func4
    (ChangeSpec.witness6 (enc := enc) (C := Try.checked) false ⟨#[], #[.agg #[.int .i64 0, .slice none 0 0], .slice none 0 0], []⟩ 8 (by kernel_rfl) (by kernel_rfl) (by kernel_rfl) (by kernel_rfl)) ?_
  intro W base args ds gs before hval0 hW _ hsz0 _
  have hsz : (DataW.weightsEach Try.prog (Try.f4.params.toList ++ Rows.flowEncodesSpec.plain.varTypes Try.prog) (ds ++ gs)).all (· ≤ reachBytes) = true := hsz0
  clear hsz0
  have hval : ∀ (j : Nat) t v, Try.f4.params[j]? = some t → args[j]? = some v → Value.okWide Try.prog W .any base t v := hval0
  have hW' := hW
  obtain ⟨p, q, hA0, hV, rfl, hfz, hnd⟩ := hW
  have hA : DataW.TrodAll enc Try.prog W 0 (fun _ => true) true Try.f4.params.toList args.toList ds p := hA0
  rw [Try.params4] at hA hval hsz
  obtain ⟨v0, vs0, d0, ds0, p0, q0, hargs, rfl, rfl, h0, r0⟩ := trodAll_cons hA
  obtain ⟨v1, vs1, d1, ds1, p1, q1, rfl, rfl, rfl, h1, r1⟩ := trodAll_cons r0
  obtain ⟨rfl, rfl, rfl⟩ := trodAll_nil r1
  obtain rfl : args = #[v0, v1] := by cases args; simp_all
  obtain ⟨rfl, rfl⟩ := trodVars_none hV
  obtain ⟨cs0, rfl, hcs0⟩ := okWide_struct Try.underlying24 (hval 0 24 v0 rfl rfl)
  have k0 := h0
  have lt0 : ∀ x ∈ p0, x.block < W.heap.size := by obtain ⟨m, hm⟩ := k0; exact DataW.trod_lt m _ _ _ hm
  obtain ⟨y0, a0, len0, cap0, l0, rfl, rfl, hc0, ri0, wi0⟩ := open_tab hcs0 h0
  obtain ⟨a1, len1, cap1, rfl⟩ := okWide_slice Try.underlying22 (hval 1 22 v1 rfl rfl)
  have k1 := h1
  have lt1 : ∀ x ∈ p1, x.block < W.heap.size := by obtain ⟨m, hm⟩ := k1; exact DataW.trod_lt m _ _ _ hm
  obtain ⟨l1, rfl, hc1, ri1, wi1⟩ := open_intl h1
  clear hA0 hval0
  refine (walk y0 a0 l0 cap0 a1 l1 cap1 W ri0 wi0 hc0 ri1 wi1 hc1).mono fun e W' ⟨he, bel⟩ => ?_
  subst he
  exact ⟨_, rfl, _, _, _, [], _, [], hW', trodAll_mk1 (shut_bool Try.underlying4 _), (trodAll_cons_mk (Below.trod laidOut (by kernel_rfl) (of_decide_eq_true (by kernel_rfl)) k0 bel lt0) (trodAll_cons_mk (Below.trod laidOut (by kernel_rfl) (of_decide_eq_true (by kernel_rfl)) k1 bel lt1) trodAll_mk0)), rfl, bel.frame _, fun h => by cases h⟩

theorem proved : Rows.FlowEncodesSaid :=
  OpenClaim.holds_of_wide 4 Try.f4 rfl rfl rfl rfl rfl rfl rfl ⟨rfl, rfl, rfl, rfl, rfl⟩ rfl rfl rfl rfl rfl (by kernel_rfl) Try.func4 (by kernel_rfl)
    (of_decide_eq_true (by kernel_rfl)) (by unfold Func.isWrapper; rw [if_neg (by decide +kernel)]; exact ⟨rfl, rfl⟩)
    (fun os started H enc _ => lifted os started H enc)

#print axioms proved

end Go.Proofs.Ytgokbpnikgbfgaa.flowEncodes
