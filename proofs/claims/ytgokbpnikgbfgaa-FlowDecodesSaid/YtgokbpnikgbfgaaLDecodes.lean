/-
  Proved: the law FlowDecodes returns true for all tables, bytes and numbers: the symbols and the error of Decode are those of the reference. No condition.
-/
import Derived.BigQuiet
import Derived.Deep.QuietTactic
import Derived.Test.YtgokbpnikgbfgaaSi
namespace Go.Proofs.Ytgokbpnikgbfgaa.flowDecodes
open Go.ChangeShapes Go.WideShapes Go.ChangeAt Go.RowKit

set_option maxRecDepth 100000 in
set_option maxHeartbeats 1000000 in
theorem walk_a (y : Int) (A : Option Addr) (N cap : Nat) (B : Option Addr) (nb cb : Nat) (n : Int) (w : World) (h : 300 < N) :
    Calls Try.prog 3 #[tb y A N cap, .slice B nb cb, .int .i64 n] w fun e w' => e = .returned (.bool true) ∧ Below w.heap.size w w' := by
  have k1 : decide ((300 : Int) < (N : Int)) = true := decide_eq_true (by omega)
  obtain ⟨w1, hw1⟩ : ∃ w1, w.alloc (.cells #[.int .i64 y, .slice A N cap] 24) = w1 := ⟨_, rfl⟩
  obtain ⟨b1, t1⟩ := box_of hw1
  have c0 := t1.c0
  have c1 := t1.c1
  have B1 := Lib.hid b1
  have T1 := Lib.hid t1
  clear b1 t1
  go_enter Try.func3, Try.ntmps3
  go_wp2_with (first
    | (go_at_call 12; refine (known_any _).mono ?_; rintro e w9 ⟨rfl, hb9⟩; have B9 := Lib.hid (below_on B1.out (Nat.le_refl _) hb9); clear hb9))
  go_ret
  exact ⟨rfl, B9.out⟩

set_option maxRecDepth 100000 in
set_option maxHeartbeats 1000000 in
theorem walk_b (y : Int) (A : Option Addr) (N cap : Nat) (B : Option Addr) (nb cb : Nat) (n : Int) (w : World) (h : N ≤ 300) (h2 : 400 < nb) :
    Calls Try.prog 3 #[tb y A N cap, .slice B nb cb, .int .i64 n] w fun e w' => e = .returned (.bool true) ∧ Below w.heap.size w w' := by
  have k1 : decide ((300 : Int) < (N : Int)) = false := decide_eq_false (by omega)
  have k2 : decide ((400 : Int) < (nb : Int)) = true := decide_eq_true (by omega)
  obtain ⟨w1, hw1⟩ : ∃ w1, w.alloc (.cells #[.int .i64 y, .slice A N cap] 24) = w1 := ⟨_, rfl⟩
  obtain ⟨b1, t1⟩ := box_of hw1
  have c0 := t1.c0
  have c1 := t1.c1
  have B1 := Lib.hid b1
  have T1 := Lib.hid t1
  clear b1 t1
  go_enter Try.func3, Try.ntmps3
  go_wp2_with (first
    | (go_at_call 12; refine (known_any _).mono ?_; rintro e w9 ⟨rfl, hb9⟩; have B9 := Lib.hid (below_on B1.out (Nat.le_refl _) hb9); clear hb9))
  go_ret
  exact ⟨rfl, B9.out⟩

set_option maxRecDepth 100000 in
set_option maxHeartbeats 1000000 in
theorem walk_c (y : Int) (A : Option Addr) (N cap : Nat) (B : Option Addr) (nb cb : Nat) (n : Int) (w : World) (h : N ≤ 300) (h2 : nb ≤ 400) (h3 : 600 < n) :
    Calls Try.prog 3 #[tb y A N cap, .slice B nb cb, .int .i64 n] w fun e w' => e = .returned (.bool true) ∧ Below w.heap.size w w' := by
  have k1 : decide ((300 : Int) < (N : Int)) = false := decide_eq_false (by omega)
  have k2 : decide ((400 : Int) < (nb : Int)) = false := decide_eq_false (by omega)
  have k3 : decide ((600 : Int) < n) = true := decide_eq_true (by omega)
  obtain ⟨w1, hw1⟩ : ∃ w1, w.alloc (.cells #[.int .i64 y, .slice A N cap] 24) = w1 := ⟨_, rfl⟩
  obtain ⟨b1, t1⟩ := box_of hw1
  have c0 := t1.c0
  have c1 := t1.c1
  have B1 := Lib.hid b1
  have T1 := Lib.hid t1
  clear b1 t1
  go_enter Try.func3, Try.ntmps3
  go_wp2_with (first
    | (go_at_call 12; refine (known_any _).mono ?_; rintro e w9 ⟨rfl, hb9⟩; have B9 := Lib.hid (below_on B1.out (Nat.le_refl _) hb9); clear hb9))
  go_ret
  exact ⟨rfl, B9.out⟩

set_option maxRecDepth 100000 in
set_option maxHeartbeats 1000000 in
theorem walk_ok (y : Int) (A : Option Addr) (l : List Int) (N cap : Nat) (B : Option Addr) (D : List UInt8) (nb cb : Nat) (n : Int) (w : World) (hN : l.length = N) (hR : Ri w A l) (hD : D.length = nb) (hRB : Bt.Rd w B D) (h : N ≤ 300) (h2 : nb ≤ 400) (h3 : n ≤ 600) :
    Calls Try.prog 3 #[tb y A N cap, .slice B nb cb, .int .i64 n] w fun e w' => e = .returned (.bool true) ∧ Below w.heap.size w w' := by
  have k1 : decide ((300 : Int) < (N : Int)) = false := decide_eq_false (by omega)
  have k2 : decide ((400 : Int) < (nb : Int)) = false := decide_eq_false (by omega)
  have k3 : decide ((600 : Int) < n) = false := decide_eq_false (by omega)
  obtain ⟨w1, hw1⟩ : ∃ w1, w.alloc (.cells #[.int .i64 y, .slice A N cap] 24) = w1 := ⟨_, rfl⟩
  obtain ⟨b1, t1⟩ := box_of hw1
  have c0 := t1.c0
  have c1 := t1.c1
  have B1 := Lib.hid b1
  have T1 := Lib.hid t1
  obtain ⟨R, hRR⟩ : ∃ R, fdR y l D n = R := ⟨_, rfl⟩
  have DE : Hid (∀ W, Below w.heap.size w W → Calls Try.prog 13 #[tb y A N cap, .slice B nb cb, .int .i64 n] W (Fres W R)) := Lib.hid (fun W hb => by
    rw [← hRR]
    exact fdec_any W y A l N cap hN (by omega) (hR.below hb) B D nb cb hD (by omega) (Bt.Rv.below hRB hb) n)
  have RE : Hid (∀ W, Below w.heap.size w W → Calls Try.prog 14 #[tb y A N cap, .slice B nb cb, .int .i64 n] W (Fres W R)) := Lib.hid (fun W hb => by
    rw [← hRR]
    exact rdecode_any W y A l N cap hN h (hR.below hb) B D nb cb hD (by omega) (Bt.Rv.below hRB hb) n)
  have hR1k : (ns R.2).length ≤ 1000000 := by
    cases hq : R.1 with
    | zero =>
      have h5 := (fdR_syms (show fdR y l D n = (0, R.2) by rw [hRR, ← hq])).choose_spec.2.2.2.1
      rw [ns_len]; omega
    | succ q =>
      have h5 := (fdR_err (show fdR y l D n = (R.1, R.2) from hRR) (by omega)).1
      rw [h5]; decide
  have SM : Hid (∀ W A1 n1 c1 A2 n2 c2, (ns R.2).length = n1 → (ns R.2).length = n2 → Ri W A1 (ns R.2) → Ri W A2 (ns R.2) → Calls Try.prog 15 #[.slice A1 n1 c1, .slice A2 n2 c2] W fun e w' => e = .returned (.bool true) ∧ Below W.heap.size W w') := Lib.hid (fun W A1 n1 c1 A2 n2 c2 h1 h2 h3 h4 => by
    have := sameI_any W A1 A2 (ns R.2) (ns R.2) n1 c1 n2 c2 h1 h2 (by omega) h3 h4
    rwa [decide_eq_true rfl] at this)
  clear b1 t1 hR hRB hN hD hRR hR1k
  go_enter Try.func3, Try.ntmps3
  go_wp2_with (first
    | (go_at_call 13; refine (DE.out _ B1.out).mono ?_; intro e w2 hf; obtain ⟨A2, n2, c2, rfl, hb2, hr2, hl2, _, _⟩ := hf.out; have B2 := Lib.hid (below_on B1.out (Nat.le_refl _) hb2); have R2 := Lib.hid hr2; have L2 := Lib.hid hl2; have d0 := (T1.out.below hb2).c0; have d1 := (T1.out.below hb2).c1; clear hf hb2 hr2 hl2)
    | (go_at_call 14; refine (RE.out _ B2.out).mono ?_; intro e w3 hf; obtain ⟨A3, n3, c3, rfl, hb3, hr3, hl3, _, _⟩ := hf.out; have B3 := Lib.hid (below_on B2.out (Nat.le_refl _) hb3); have R3 := Lib.hid hr3; have L3 := Lib.hid hl3; have R23 := Lib.hid (R2.out.below hb3); clear hf hb3 hr3 hl3)
    | (go_at_call 15; refine (SM.out _ _ _ _ _ _ _ L2.out L3.out R23.out R3.out).mono ?_; rintro e w4 ⟨rfl, hb4⟩; have B4 := Lib.hid (below_on B3.out (Nat.le_refl _) hb4); clear hb4)
    | (go_at_call 12; refine (known_any _).mono ?_; rintro e w9 ⟨rfl, hb9⟩; have B9 := Lib.hid (below_on B4.out (Nat.le_refl _) hb9); clear hb9))
  go_ret
  exact ⟨rfl, B9.out⟩

theorem walk (y : Int) (A : Option Addr) (l : List Int) (cap : Nat) (B : Option Addr) (D : List UInt8) (cb : Nat) (n : Int) (w : World) (hR : Ri w A l) (_ : ∀ z ∈ l, -9223372036854775808 ≤ z ∧ z ≤ 9223372036854775807) (_ : l.length ≤ cap) (hRB : Bt.Rd w B D) (_ : D.length ≤ 140737488351232) (_ : D.length ≤ cb) (_ : (Lit.int IntKind.i64 n).wf = true) :
    Calls Try.prog 3 #[tb y A l.length cap, .slice B D.length cb, .int .i64 n] w fun e w' => e = .returned (.bool true) ∧ Below w.heap.size w w' := by
  by_cases h : 300 < l.length
  · exact walk_a y A _ cap B _ cb n w h
  · by_cases h2 : 400 < D.length
    · exact walk_b y A _ cap B _ cb n w (by omega) h2
    · by_cases h3 : 600 < n
      · exact walk_c y A _ cap B _ cb n w (by omega) (by omega) h3
      · exact walk_ok y A l _ cap B D _ cb n w rfl hR rfl hRB (by omega) (by omega) (by omega)
set_option maxRecDepth 100000 in
theorem lifted (os : Os) (started : os.Started) (H : Type) (enc : TypeId × Value → H) :
    ReturnsInHanded {} Try.checked os 3 .any (Rows.flowDecodesSpec.pre6 enc Try.prog Try.f3 Rows.flowDecodesRow.domain false) (Rows.flowDecodesSpec.post enc Try.prog Try.f3 false true false false) := by
  refine returnsInHanded_of_change_sized (C := Try.checked) ownB started (by kernel_rfl) Try.func3
    (ChangeSpec.witness6 (enc := enc) (C := Try.checked) false ⟨#[], #[.agg #[.int .i64 0, .slice none 0 0], .slice none 0 0, .int .i64 0], []⟩ 8 (by kernel_rfl) (by kernel_rfl) (by kernel_rfl) (by kernel_rfl)) ?_
  intro W base args ds gs before hval0 hW _ hsz0 _
  have hsz : (DataW.weightsEach Try.prog (Try.f3.params.toList ++ Rows.flowDecodesSpec.plain.varTypes Try.prog) (ds ++ gs)).all (· ≤ reachBytes) = true := hsz0
  clear hsz0
  have hval : ∀ (j : Nat) t v, Try.f3.params[j]? = some t → args[j]? = some v → Value.okWide Try.prog W .any base t v := hval0
  have hW' := hW
  obtain ⟨p, q, hA0, hV, rfl, hfz, hnd⟩ := hW
  have hA : DataW.TrodAll enc Try.prog W 0 (fun _ => true) true Try.f3.params.toList args.toList ds p := hA0
  rw [Try.params3] at hA hval hsz
  obtain ⟨v0, vs0, d0, ds0, p0, q0, hargs, rfl, rfl, h0, r0⟩ := trodAll_cons hA
  obtain ⟨v1, vs1, d1, ds1, p1, q1, rfl, rfl, rfl, h1, r1⟩ := trodAll_cons r0
  obtain ⟨v2, vs2, d2, ds2, p2, q2, rfl, rfl, rfl, h2, r2⟩ := trodAll_cons r1
  obtain ⟨rfl, rfl, rfl⟩ := trodAll_nil r2
  obtain rfl : args = #[v0, v1, v2] := by cases args; simp_all
  obtain ⟨rfl, rfl⟩ := trodVars_none hV
  obtain ⟨cs0, rfl, hcs0⟩ := okWide_struct Try.underlying24 (hval 0 24 v0 rfl rfl)
  have k0 := h0
  have lt0 : ∀ x ∈ p0, x.block < W.heap.size := by obtain ⟨m, hm⟩ := k0; exact DataW.trod_lt m _ _ _ hm
  obtain ⟨y0, a0, len0, cap0, l0, rfl, rfl, hc0, ri0, wi0⟩ := open_tab hcs0 h0
  obtain ⟨a1, len1, cap1, rfl⟩ := okWide_slice Try.underlying25 (hval 1 25 v1 rfl rfl)
  have k1 := h1
  have lt1 : ∀ x ∈ p1, x.block < W.heap.size := by obtain ⟨m, hm⟩ := k1; exact DataW.trod_lt m _ _ _ hm
  obtain ⟨l1, rfl, hc1, rd1, hd1⟩ := open_bytes h1
  have hs1 : l1.length ≤ 140737488351232 := by
    rcases hd1 with ⟨h, _⟩ | ⟨es, sp, rfl, h⟩
    · omega
    · have := sized_slice hsz (j := 1) (t := 25) (e := 5) rfl rfl Try.underlying25
      rw [bytes_byte] at this
      simp only [reachBytes] at this
      omega
  obtain ⟨a2, rfl, rfl, rfl, w2⟩ := open_int Try.underlying3 (hval 2 3 v2 rfl rfl) h2
  clear hA0 hval0
  refine (walk y0 a0 l0 cap0 a1 l1 cap1 a2 W ri0 wi0 hc0 rd1 hs1 hc1 w2).mono fun e W' ⟨he, bel⟩ => ?_
  subst he
  exact ⟨_, rfl, _, _, _, [], _, [], hW', trodAll_mk1 (shut_bool Try.underlying4 _), (trodAll_cons_mk (Below.trod laidOut (by kernel_rfl) (of_decide_eq_true (by kernel_rfl)) k0 bel lt0) (trodAll_cons_mk (Below.trod laidOut (by kernel_rfl) (of_decide_eq_true (by kernel_rfl)) k1 bel lt1) (trodAll_cons_mk (shut_int Try.underlying3 w2) trodAll_mk0))), rfl, bel.frame _, fun h => by cases h⟩

theorem proved : Rows.FlowDecodesSaid :=
  OpenClaim.holds_of_wide 3 Try.f3 rfl rfl rfl rfl rfl rfl rfl ⟨rfl, rfl, rfl, rfl, rfl⟩ rfl rfl rfl rfl rfl (by kernel_rfl) Try.func3 (by kernel_rfl)
    (of_decide_eq_true (by kernel_rfl)) (by unfold Func.isWrapper; rw [if_neg (by decide +kernel)]; exact ⟨rfl, rfl⟩)
    (fun os started H enc _ => lifted os started H enc)

#print axioms proved

end Go.Proofs.Ytgokbpnikgbfgaa.flowDecodes
