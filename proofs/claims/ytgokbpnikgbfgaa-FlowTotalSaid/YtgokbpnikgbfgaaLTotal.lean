/-
  Proved: the law FlowTotal returns true for all tables, bytes and numbers: Decode returns just so many symbols with states, or an error. No condition.
-/
import Derived.BigQuiet
import Derived.Deep.QuietTactic
import Derived.Test.YtgokbpnikgbfgaaSi
namespace Go.Proofs.Ytgokbpnikgbfgaa.flowTotal
open Go.ChangeShapes Go.WideShapes Go.ChangeAt Go.RowKit

set_option maxRecDepth 100000 in
set_option maxHeartbeats 1000000 in
theorem walk_a (y : Int) (A : Option Addr) (N cap : Nat) (B : Option Addr) (nb cb : Nat) (n : Int) (w : World) (h : 300 < N) :
    Calls Try.prog 8 #[tb y A N cap, .slice B nb cb, .int .i64 n] w fun e w' => e = .returned (.bool true) ∧ Below w.heap.size w w' := by
  have k1 : decide ((300 : Int) < (N : Int)) = true := decide_eq_true (by omega)
  obtain ⟨w1, hw1⟩ : ∃ w1, w.alloc (.cells #[.int .i64 y, .slice A N cap] 24) = w1 := ⟨_, rfl⟩
  obtain ⟨b1, t1⟩ := box_of hw1
  have c0 := t1.c0
  have c1 := t1.c1
  have B1 := Lib.hid b1
  have T1 := Lib.hid t1
  clear b1 t1
  go_enter Try.func8, Try.ntmps8
  go_wp2_with (first
    | (go_at_call 12; refine (known_any _).mono ?_; rintro e w9 ⟨rfl, hb9⟩; have B9 := Lib.hid (below_on B1.out (Nat.le_refl _) hb9); clear hb9))
  go_ret
  exact ⟨rfl, B9.out⟩

set_option maxRecDepth 100000 in
set_option maxHeartbeats 1000000 in
theorem walk_b (y : Int) (A : Option Addr) (N cap : Nat) (B : Option Addr) (nb cb : Nat) (n : Int) (w : World) (h : N ≤ 300) (h2 : 400 < nb) :
    Calls Try.prog 8 #[tb y A N cap, .slice B nb cb, .int .i64 n] w fun e w' => e = .returned (.bool true) ∧ Below w.heap.size w w' := by
  have k1 : decide ((300 : Int) < (N : Int)) = false := decide_eq_false (by omega)
  have k2 : decide ((400 : Int) < (nb : Int)) = true := decide_eq_true (by omega)
  obtain ⟨w1, hw1⟩ : ∃ w1, w.alloc (.cells #[.int .i64 y, .slice A N cap] 24) = w1 := ⟨_, rfl⟩
  obtain ⟨b1, t1⟩ := box_of hw1
  have c0 := t1.c0
  have c1 := t1.c1
  have B1 := Lib.hid b1
  have T1 := Lib.hid t1
  clear b1 t1
  go_enter Try.func8, Try.ntmps8
  go_wp2_with (first
    | (go_at_call 12; refine (known_any _).mono ?_; rintro e w9 ⟨rfl, hb9⟩; have B9 := Lib.hid (below_on B1.out (Nat.le_refl _) hb9); clear hb9))
  go_ret
  exact ⟨rfl, B9.out⟩

set_option maxRecDepth 100000 in
set_option maxHeartbeats 1000000 in
theorem walk_c (y : Int) (A : Option Addr) (N cap : Nat) (B : Option Addr) (nb cb : Nat) (n : Int) (w : World) (h : N ≤ 300) (h2 : nb ≤ 400) (h3 : 1000 < n) :
    Calls Try.prog 8 #[tb y A N cap, .slice B nb cb, .int .i64 n] w fun e w' => e = .returned (.bool true) ∧ Below w.heap.size w w' := by
  have k1 : decide ((300 : Int) < (N : Int)) = false := decide_eq_false (by omega)
  have k2 : decide ((400 : Int) < (nb : Int)) = false := decide_eq_false (by omega)
  have k3 : decide ((1000 : Int) < n) = true := decide_eq_true (by omega)
  obtain ⟨w1, hw1⟩ : ∃ w1, w.alloc (.cells #[.int .i64 y, .slice A N cap] 24) = w1 := ⟨_, rfl⟩
  obtain ⟨b1, t1⟩ := box_of hw1
  have c0 := t1.c0
  have c1 := t1.c1
  have B1 := Lib.hid b1
  have T1 := Lib.hid t1
  clear b1 t1
  go_enter Try.func8, Try.ntmps8
  go_wp2_with (first
    | (go_at_call 12; refine (known_any _).mono ?_; rintro e w9 ⟨rfl, hb9⟩; have B9 := Lib.hid (below_on B1.out (Nat.le_refl _) hb9); clear hb9))
  go_ret
  exact ⟨rfl, B9.out⟩

set_option maxRecDepth 100000 in
set_option maxHeartbeats 1000000 in
theorem walk_e13 (y : Int) (A : Option Addr) (l : List Int) (N cap : Nat) (B : Option Addr) (D : List UInt8) (nb cb : Nat) (n : Int) (w : World) (hN : l.length = N) (hR : Ri w A l) (hD : D.length = nb) (hRB : Bt.Rd w B D) (h : N ≤ 300) (h2 : nb ≤ 400) (h3 : n ≤ 1000) (hRR : fdR y l D n = (13, [])) :
    Calls Try.prog 8 #[tb y A N cap, .slice B nb cb, .int .i64 n] w fun e w' => e = .returned (.bool true) ∧ Below w.heap.size w w' := by
  have k1 : decide ((300 : Int) < (N : Int)) = false := decide_eq_false (by omega)
  have k2 : decide ((400 : Int) < (nb : Int)) = false := decide_eq_false (by omega)
  have k3 : decide ((1000 : Int) < n) = false := decide_eq_false (by omega)
  obtain ⟨w1, hw1⟩ : ∃ w1, w.alloc (.cells #[.int .i64 y, .slice A N cap] 24) = w1 := ⟨_, rfl⟩
  obtain ⟨b1, t1⟩ := box_of hw1
  have c0 := t1.c0
  have c1 := t1.c1
  have B1 := Lib.hid b1
  have T1 := Lib.hid t1
  have DE : Hid (∀ W, Below w.heap.size w W → Calls Try.prog 13 #[tb y A N cap, .slice B nb cb, .int .i64 n] W (Fres W (13, []))) := Lib.hid (fun W hb => by
    rw [← hRR]
    exact fdec_any W y A l N cap hN (by omega) (hR.below hb) B D nb cb hD (by omega) (Bt.Rv.below hRB hb) n)
  clear b1 t1 hR hRB hN hD hRR
  go_enter Try.func8, Try.ntmps8
  go_wp2_with (first
    | (go_at_call 13; refine (DE.out _ B1.out).mono ?_; intro e w2 hf; obtain ⟨AS, nS, cS, rfl, hb, hr, hl, hc, ho⟩ := hf.out; have LS := Lib.hid hl; have CS := Lib.hid hc; have OS := Lib.hid ho; obtain rfl : nS = 0 := hl.symm; have B2 := Lib.hid (below_on B1.out (Nat.le_refl _) hb); have T2 := Lib.hid (T1.out.below hb); have d20 := T2.out.c0; have d21 := T2.out.c1; have S_2 := Lib.hid hr; clear hb hf hr hl hc ho)
    | (go_at_call 12; refine (known_any _).mono ?_; rintro e w9 ⟨rfl, hb9⟩; have B9 := Lib.hid (below_on B2.out (Nat.le_refl _) hb9); clear hb9))
  go_ret
  exact ⟨rfl, B9.out⟩

set_option maxRecDepth 100000 in
set_option maxHeartbeats 1000000 in
theorem walk_e2 (y : Int) (A : Option Addr) (l : List Int) (N cap : Nat) (B : Option Addr) (D : List UInt8) (nb cb : Nat) (n : Int) (w : World) (hN : l.length = N) (hR : Ri w A l) (hD : D.length = nb) (hRB : Bt.Rd w B D) (h : N ≤ 300) (h2 : nb ≤ 400) (h3 : n ≤ 1000) (hRR : fdR y l D n = (2, [])) :
    Calls Try.prog 8 #[tb y A N cap, .slice B nb cb, .int .i64 n] w fun e w' => e = .returned (.bool true) ∧ Below w.heap.size w w' := by
  have k1 : decide ((300 : Int) < (N : Int)) = false := decide_eq_false (by omega)
  have k2 : decide ((400 : Int) < (nb : Int)) = false := decide_eq_false (by omega)
  have k3 : decide ((1000 : Int) < n) = false := decide_eq_false (by omega)
  obtain ⟨w1, hw1⟩ : ∃ w1, w.alloc (.cells #[.int .i64 y, .slice A N cap] 24) = w1 := ⟨_, rfl⟩
  obtain ⟨b1, t1⟩ := box_of hw1
  have c0 := t1.c0
  have c1 := t1.c1
  have B1 := Lib.hid b1
  have T1 := Lib.hid t1
  have DE : Hid (∀ W, Below w.heap.size w W → Calls Try.prog 13 #[tb y A N cap, .slice B nb cb, .int .i64 n] W (Fres W (2, []))) := Lib.hid (fun W hb => by
    rw [← hRR]
    exact fdec_any W y A l N cap hN (by omega) (hR.below hb) B D nb cb hD (by omega) (Bt.Rv.below hRB hb) n)
  clear b1 t1 hR hRB hN hD hRR
  go_enter Try.func8, Try.ntmps8
  go_wp2_with (first
    | (go_at_call 13; refine (DE.out _ B1.out).mono ?_; intro e w2 hf; obtain ⟨AS, nS, cS, rfl, hb, hr, hl, hc, ho⟩ := hf.out; have LS := Lib.hid hl; have CS := Lib.hid hc; have OS := Lib.hid ho; obtain rfl : nS = 0 := hl.symm; have B2 := Lib.hid (below_on B1.out (Nat.le_refl _) hb); have T2 := Lib.hid (T1.out.below hb); have d20 := T2.out.c0; have d21 := T2.out.c1; have S_2 := Lib.hid hr; clear hb hf hr hl hc ho)
    | (go_at_call 12; refine (known_any _).mono ?_; rintro e w9 ⟨rfl, hb9⟩; have B9 := Lib.hid (below_on B2.out (Nat.le_refl _) hb9); clear hb9))
  go_ret
  exact ⟨rfl, B9.out⟩

set_option maxRecDepth 100000 in
set_option maxHeartbeats 1000000 in
theorem walk_e14 (y : Int) (A : Option Addr) (l : List Int) (N cap : Nat) (B : Option Addr) (D : List UInt8) (nb cb : Nat) (n : Int) (w : World) (hN : l.length = N) (hR : Ri w A l) (hD : D.length = nb) (hRB : Bt.Rd w B D) (h : N ≤ 300) (h2 : nb ≤ 400) (h3 : n ≤ 1000) (hRR : fdR y l D n = (14, [])) :
    Calls Try.prog 8 #[tb y A N cap, .slice B nb cb, .int .i64 n] w fun e w' => e = .returned (.bool true) ∧ Below w.heap.size w w' := by
  have k1 : decide ((300 : Int) < (N : Int)) = false := decide_eq_false (by omega)
  have k2 : decide ((400 : Int) < (nb : Int)) = false := decide_eq_false (by omega)
  have k3 : decide ((1000 : Int) < n) = false := decide_eq_false (by omega)
  obtain ⟨w1, hw1⟩ : ∃ w1, w.alloc (.cells #[.int .i64 y, .slice A N cap] 24) = w1 := ⟨_, rfl⟩
  obtain ⟨b1, t1⟩ := box_of hw1
  have c0 := t1.c0
  have c1 := t1.c1
  have B1 := Lib.hid b1
  have T1 := Lib.hid t1
  have DE : Hid (∀ W, Below w.heap.size w W → Calls Try.prog 13 #[tb y A N cap, .slice B nb cb, .int .i64 n] W (Fres W (14, []))) := Lib.hid (fun W hb => by
    rw [← hRR]
    exact fdec_any W y A l N cap hN (by omega) (hR.below hb) B D nb cb hD (by omega) (Bt.Rv.below hRB hb) n)
  clear b1 t1 hR hRB hN hD hRR
  go_enter Try.func8, Try.ntmps8
  go_wp2_with (first
    | (go_at_call 13; refine (DE.out _ B1.out).mono ?_; intro e w2 hf; obtain ⟨AS, nS, cS, rfl, hb, hr, hl, hc, ho⟩ := hf.out; have LS := Lib.hid hl; have CS := Lib.hid hc; have OS := Lib.hid ho; obtain rfl : nS = 0 := hl.symm; have B2 := Lib.hid (below_on B1.out (Nat.le_refl _) hb); have T2 := Lib.hid (T1.out.below hb); have d20 := T2.out.c0; have d21 := T2.out.c1; have S_2 := Lib.hid hr; clear hb hf hr hl hc ho)
    | (go_at_call 12; refine (known_any _).mono ?_; rintro e w9 ⟨rfl, hb9⟩; have B9 := Lib.hid (below_on B2.out (Nat.le_refl _) hb9); clear hb9))
  go_ret
  exact ⟨rfl, B9.out⟩

set_option maxRecDepth 100000 in
set_option maxHeartbeats 1000000 in
theorem walk_ok (y : Int) (A : Option Addr) (l : List Int) (N cap : Nat) (B : Option Addr) (D : List UInt8) (nb cb : Nat) (n : Nat) (w : World) (hN : l.length = N) (hR : Ri w A l) (hD : D.length = nb) (hRB : Bt.Rd w B D) (h : N ≤ 300) (h2 : nb ≤ 400) (h3 : n ≤ 1000) (o : List Nat) (hRR : fdR y l D (n : Int) = (0, o)) (ho : o.length = n) (hh : hasA l (ns o) = true) :
    Calls Try.prog 8 #[tb y A N cap, .slice B nb cb, .int .i64 (n : Int)] w fun e w' => e = .returned (.bool true) ∧ Below w.heap.size w w' := by
  have k1 : decide ((300 : Int) < (N : Int)) = false := decide_eq_false (by omega)
  have k2 : decide ((400 : Int) < (nb : Int)) = false := decide_eq_false (by omega)
  have k3 : decide ((1000 : Int) < (n : Int)) = false := decide_eq_false (by omega)
  obtain ⟨w1, hw1⟩ : ∃ w1, w.alloc (.cells #[.int .i64 y, .slice A N cap] 24) = w1 := ⟨_, rfl⟩
  obtain ⟨b1, t1⟩ := box_of hw1
  have c0 := t1.c0
  have c1 := t1.c1
  have B1 := Lib.hid b1
  have T1 := Lib.hid t1
  have DE : Hid (∀ W, Below w.heap.size w W → Calls Try.prog 13 #[tb y A N cap, .slice B nb cb, .int .i64 (n : Int)] W (Fres W (0, o))) := Lib.hid (fun W hb => by
    rw [← hRR]
    exact fdec_any W y A l N cap hN (by omega) (hR.below hb) B D nb cb hD (by omega) (Bt.Rv.below hRB hb) (n : Int))
  have hol : (ns o).length = n := by rw [ns_len]; exact ho
  have HS : Hid (∀ W A2 n2 c2, Below w.heap.size w W → (ns o).length = n2 → Ri W A2 (ns o) → Calls Try.prog 18 #[tb y A N cap, .slice A2 n2 c2] W fun e w' => e = .returned (.bool true) ∧ Below W.heap.size W w') := Lib.hid (fun W A2 n2 c2 hb h1 h2 => by
    have := hasl_any W y A l N cap hN (by omega) (hR.below hb) A2 (ns o) n2 c2 h1 (by omega) h2
    rw [hh] at this
    exact this)
  have HOL := Lib.hid hol
  clear b1 t1 hR hRB hN hD hRR hol hh ho
  go_enter Try.func8, Try.ntmps8
  go_wp2_with (first
    | (go_at_call 13; refine (DE.out _ B1.out).mono ?_; intro e w2 hf; obtain ⟨AS, nS, cS, rfl, hb, hr, hl, hc, ho⟩ := hf.out; have LS := Lib.hid hl; have CS := Lib.hid hc; have OS := Lib.hid ho; obtain rfl : n = nS := HOL.out.symm.trans hl; have B2 := Lib.hid (below_on B1.out (Nat.le_refl _) hb); have T2 := Lib.hid (T1.out.below hb); have d20 := T2.out.c0; have d21 := T2.out.c1; have S_2 := Lib.hid hr; clear hb hf hr hl hc ho)
    | (go_at_call 18; refine (HS.out _ _ _ _ B2.out LS.out S_2.out).mono ?_; rintro e w3 ⟨rfl, hb⟩; have B3 := Lib.hid (below_on B2.out (Nat.le_refl _) hb); have T3 := Lib.hid (T2.out.below hb); have d30 := T3.out.c0; have d31 := T3.out.c1; have S_3 := Lib.hid (S_2.out.below hb); clear hb )
    | (go_at_call 12; refine (known_any _).mono ?_; rintro e w9 ⟨rfl, hb9⟩; have B9 := Lib.hid (below_on B3.out (Nat.le_refl _) hb9); clear hb9))
  go_ret
  exact ⟨rfl, B9.out⟩

theorem walk (y : Int) (A : Option Addr) (l : List Int) (cap : Nat) (B : Option Addr) (D : List UInt8) (cb : Nat) (n : Int) (w : World) (hR : Ri w A l) (_ : ∀ z ∈ l, -9223372036854775808 ≤ z ∧ z ≤ 9223372036854775807) (_ : l.length ≤ cap) (hRB : Bt.Rd w B D) (_ : D.length ≤ 140737488351232) (_ : D.length ≤ cb) (_ : (Lit.int IntKind.i64 n).wf = true) :
    Calls Try.prog 8 #[tb y A l.length cap, .slice B D.length cb, .int .i64 n] w fun e w' => e = .returned (.bool true) ∧ Below w.heap.size w w' := by
  by_cases h : 300 < l.length
  · exact walk_a y A _ cap B _ cb n w h
  · by_cases h2 : 400 < D.length
    · exact walk_b y A _ cap B _ cb n w (by omega) h2
    · by_cases h3 : 1000 < n
      · exact walk_c y A _ cap B _ cb n w (by omega) (by omega) h3
      · obtain ⟨⟨q, o⟩, hq⟩ : ∃ R, fdR y l D n = R := ⟨_, rfl⟩
        by_cases h0 : q = 0
        · subst h0
          obtain ⟨k, rfl, hv, hl, _, hs, _⟩ := fdR_syms hq
          have hqn := hq
          rw [← hl] at hqn
          rw [← hl]
          exact walk_ok (k : Int) A l _ cap B D _ cb o.length w rfl hR rfl hRB (by omega) (by omega) (by omega) o hqn rfl (hasA_of hs)
        · obtain ⟨rfl, h4 | h4 | h4⟩ := fdR_err hq h0
          · exact walk_e13 y A l _ cap B D _ cb n w rfl hR rfl hRB (by omega) (by omega) (by omega) (h4 ▸ hq)
          · exact walk_e2 y A l _ cap B D _ cb n w rfl hR rfl hRB (by omega) (by omega) (by omega) (h4 ▸ hq)
          · exact walk_e14 y A l _ cap B D _ cb n w rfl hR rfl hRB (by omega) (by omega) (by omega) (h4 ▸ hq)
set_option maxRecDepth 100000 in
theorem lifted (os : Os) (started : os.Started) (H : Type) (enc : TypeId × Value → H) :
    ReturnsInHanded {} Try.checked os 8 .any (Rows.flowTotalSpec.pre6 enc Try.prog Try.f8 Rows.flowTotalRow.domain false) (Rows.flowTotalSpec.post enc Try.prog Try.f8 false true false false) := by
  refine returnsInHanded_of_change_sized (C := Try.checked) ownB started (by kernel_rfl) Try.func8
    (ChangeSpec.witness6 (enc := enc) (C := Try.checked) false ⟨#[], #[.agg #[.int .i64 0, .slice none 0 0], .slice none 0 0, .int .i64 0], []⟩ 8 (by kernel_rfl) (by kernel_rfl) (by kernel_rfl) (by kernel_rfl)) ?_
  intro W base args ds gs before hval0 hW _ hsz0 _
  have hsz : (DataW.weightsEach Try.prog (Try.f8.params.toList ++ Rows.flowTotalSpec.plain.varTypes Try.prog) (ds ++ gs)).all (· ≤ reachBytes) = true := hsz0
  clear hsz0
  have hval : ∀ (j : Nat) t v, Try.f8.params[j]? = some t → args[j]? = some v → Value.okWide Try.prog W .any base t v := hval0
  have hW' := hW
  obtain ⟨p, q, hA0, hV, rfl, hfz, hnd⟩ := hW
  have hA : DataW.TrodAll enc Try.prog W 0 (fun _ => true) true Try.f8.params.toList args.toList ds p := hA0
  rw [Try.params8] at hA hval hsz
  obtain ⟨v0, vs0, d0, ds0, p0, q0, hargs, rfl, rfl, h0, r0⟩ := trodAll_cons hA
  obtain ⟨v1, vs1, d1, ds1, p1, q1, rfl, rfl, rfl, h1, r1⟩ := trodAll_cons r0
  obtain ⟨v2, vs2, d2, ds2, p2, q2, rfl, rfl, rfl, h2, r2⟩ := trodAll_cons r1
  obtain ⟨rfl, rfl, rfl⟩ := trodAll_nil r2
  obtain rfl : args = #[v0, v1, v2] := by cases args; simp_all
  obtain ⟨rfl, rfl⟩ := trodVars_none hV
  obtain ⟨cs0, rfl, hcs0⟩ := okWide_struct Try.underlying24 (hval 0 24 v0 rfl rfl)
  have k0 := h0
  have lt0 : ∀ x ∈ p0, x.block < W.heap.size := by obtain ⟨m, hm⟩ := k0; exact DataW.trod_lt m _ _ _ hm
  obtain ⟨y0, a0, len0, cap0, l0, rfl, rfl, hc0, ri0, wi0⟩ := open_tab hcs0 h0
  obtain ⟨a1, len1, cap1, rfl⟩ := okWide_slice Try.underlying25 (hval 1 25 v1 rfl rfl)
  have k1 := h1
  have lt1 : ∀ x ∈ p1, x.block < W.heap.size := by obtain ⟨m, hm⟩ := k1; exact DataW.trod_lt m _ _ _ hm
  obtain ⟨l1, rfl, hc1, rd1, hd1⟩ := open_bytes h1
  have hs1 : l1.length ≤ 140737488351232 := by
    rcases hd1 with ⟨h, _⟩ | ⟨es, sp, rfl, h⟩
    · omega
    · have := sized_slice hsz (j := 1) (t := 25) (e := 5) rfl rfl Try.underlying25
      rw [bytes_byte] at this
      simp only [reachBytes] at this
      omega
  obtain ⟨a2, rfl, rfl, rfl, w2⟩ := open_int Try.underlying3 (hval 2 3 v2 rfl rfl) h2
  clear hA0 hval0
  refine (walk y0 a0 l0 cap0 a1 l1 cap1 a2 W ri0 wi0 hc0 rd1 hs1 hc1 w2).mono fun e W' ⟨he, bel⟩ => ?_
  subst he
  exact ⟨_, rfl, _, _, _, [], _, [], hW', trodAll_mk1 (shut_bool Try.underlying4 _), (trodAll_cons_mk (Below.trod laidOut (by kernel_rfl) (of_decide_eq_true (by kernel_rfl)) k0 bel lt0) (trodAll_cons_mk (Below.trod laidOut (by kernel_rfl) (of_decide_eq_true (by kernel_rfl)) k1 bel lt1) (trodAll_cons_mk (shut_int Try.underlying3 w2) trodAll_mk0))), rfl, bel.frame _, fun h => by cases h⟩

theorem proved : Rows.FlowTotalSaid :=
  OpenClaim.holds_of_wide 8 Try.f8 rfl rfl rfl rfl rfl rfl rfl ⟨rfl, rfl, rfl, rfl, rfl⟩ rfl rfl rfl rfl rfl (by kernel_rfl) Try.func8 (by kernel_rfl)
    (of_decide_eq_true (by kernel_rfl)) (by unfold Func.isWrapper; rw [if_neg (by decide +kernel)]; exact ⟨rfl, rfl⟩)
    (fun os started H enc _ => lifted os started H enc)

#print axioms proved

end Go.Proofs.Ytgokbpnikgbfgaa.flowTotal
