/-
  Proved: the law DescForms returns true for all tables: the description is the bits that the document lays down, and of its length. No condition.
-/
import Derived.BigQuiet
import Derived.Deep.QuietTactic
import Derived.Test.YtpjbjbohbdlciaaFrm
import Derived.Test.YtpjbjbohbdlciaaRfe
import Derived.Test.YtpjbjbohbdlciaaQRfB
namespace Go.Proofs.Ytpjbjbohbdlciaa.descForms
open Go.ChangeShapes Go.WideShapes Go.ChangeAt Go.RowKit

set_option maxRecDepth 100000 in
set_option maxHeartbeats 1000000 in
theorem walk_long (y : Int) (A : Option Addr) (N cap : Nat) (w : World) (h : 600 < N) :
    Calls Try.prog 3 #[tb y A N cap] w fun e w' => e = .returned (.bool true) ∧ Below w.heap.size w w' := by
  have hd : decide ((600 : Int) < (N : Int)) = true := decide_eq_true (by omega)
  have b1 := below_new w (.cells #[.int .i64 y, .slice A N cap] 24)
  have t1 := Tb.new w y A N cap
  obtain ⟨w1, hw1⟩ : ∃ w1, w.alloc (.cells #[.int .i64 y, .slice A N cap] 24) = w1 := ⟨_, rfl⟩
  rw [hw1] at b1 t1
  have c0 := t1.c0
  have c1 := t1.c1
  have B0 := Lib.hid b1
  clear b1 t1
  go_enter Try.func3, Try.ntmps3
  go_wp2_with (go_at_call 12; refine (known_any _).mono ?_; rintro e w9 ⟨rfl, hb9⟩; have B9 := Lib.hid (below_on B0.out (Nat.le_refl _) hb9); clear hb9)
  go_ret
  exact ⟨rfl, B9.out⟩

set_option maxRecDepth 100000 in
set_option maxHeartbeats 1000000 in
theorem walk_bad (y : Int) (A : Option Addr) (l : List Int) (N cap : Nat) (w : World) (hN : l.length = N) (h : N ≤ 600) (hv : may y l = false) (hR : Ri w A l) :
    Calls Try.prog 3 #[tb y A N cap] w fun e w' => e = .returned (.bool true) ∧ Below w.heap.size w w' := by
  have hd : decide ((600 : Int) < (N : Int)) = false := decide_eq_false (by omega)
  have b1 := below_new w (.cells #[.int .i64 y, .slice A N cap] 24)
  have t1 := Tb.new w y A N cap
  obtain ⟨w1, hw1⟩ : ∃ w1, w.alloc (.cells #[.int .i64 y, .slice A N cap] 24) = w1 := ⟨_, rfl⟩
  rw [hw1] at b1 t1
  have c0 := t1.c0
  have c1 := t1.c1
  have hR1 := hR.below b1
  have EN := Lib.hid (encode_no w1 y A l N cap hN (by omega) hR1 hv)
  have MY : Hid (∀ W, Below w1.heap.size w1 W → Calls Try.prog 14 #[tb y A N cap] W fun e w' => e = .returned (.bool false) ∧ Below W.heap.size W w') := Lib.hid (fun W hb => rmay_any W y A l N cap hN (by omega) (hR1.below hb) false hv)
  have BL : Hid (∀ W, Below w1.heap.size w1 W → Calls Try.prog 15 #[tb y A N cap] W fun e w' => e = .returned (.int .i64 0) ∧ Below W.heap.size W w') := Lib.hid (fun W hb => bitlen_no W y A l N cap hN (by omega) (hR1.below hb) hv)
  have B0 := Lib.hid b1
  have T1 := Lib.hid t1
  clear b1 t1 hR hR1 hN hv
  go_enter Try.func3, Try.ntmps3
  go_wp2_with (first
    | (go_at_call 13; refine EN.out.mono ?_; rintro e w3 ⟨A3, n3, c3, rfl, hb3⟩; obtain rfl : n3 = 0 := hb3.1; have B3 := Lib.hid hb3.2.2; have t3 := T1.out.below hb3.2.2; have e0 := t3.c0; have e1 := t3.c1; clear hb3 t3)
    | (go_at_call 14; refine (MY.out _ B3.out).mono ?_; rintro e w4 ⟨rfl, hb4⟩; have B4 := Lib.hid (below_on B3.out (Nat.le_refl _) hb4); have t4 := T1.out.below B4.out; have f0 := t4.c0; have f1 := t4.c1; clear hb4 t4)
    | (go_at_call 15; refine (BL.out _ B4.out).mono ?_; rintro e w5 ⟨rfl, hb5⟩; have B5 := Lib.hid (below_on (below_on B0.out (Nat.le_refl _) B4.out) (Nat.le_refl _) hb5); clear hb5)
    | (go_at_call 12; refine (known_any _).mono ?_; rintro e w9 ⟨rfl, hb9⟩; have B9 := Lib.hid (below_on B5.out (Nat.le_refl _) hb9); clear hb9))
  go_ret
  exact ⟨rfl, B9.out⟩

set_option maxRecDepth 100000 in
set_option maxHeartbeats 1000000 in
theorem walk_ok (y : Nat) (A : Option Addr) (l : List Int) (N cap : Nat) (w : World) (hN : l.length = N) (hc : N ≤ cap) (hv : Vt y l) (h1 : 1 ≤ y) (h : N ≤ 600) (hR : Ri w A l) :
    Calls Try.prog 3 #[tb (y : Int) A N cap] w fun e w' => e = .returned (.bool true) ∧ Below w.heap.size w w' := by
  have hN2 : N ≤ 256 := by rw [← hN]; exact hv.len
  have hy9 := hv.log
  have hd : decide ((600 : Int) < (N : Int)) = false := decide_eq_false (by omega)
  have b1 := below_new w (.cells #[.int .i64 (y : Int), .slice A N cap] 24)
  have t1 := Tb.new w (y : Int) A N cap
  obtain ⟨w1, hw1⟩ : ∃ w1, w.alloc (.cells #[.int .i64 (y : Int), .slice A N cap] 24) = w1 := ⟨_, rfl⟩
  rw [hw1] at b1 t1
  have c0 := t1.c0
  have c1 := t1.c1
  have hR1 := hR.below b1
  have MY : Hid (∀ W, Below w1.heap.size w1 W → Calls Try.prog 14 #[tb (y : Int) A N cap] W fun e w' => e = .returned (.bool true) ∧ Below W.heap.size W w') := Lib.hid (fun W hb => rmay_any W (y : Int) A l N cap hN (by omega) (hR1.below hb) true (may_iff.2 ⟨y, rfl, h1, hv⟩))
  obtain ⟨nn, hnn⟩ : ∃ nn, (descr y l).length = nn := ⟨_, rfl⟩
  have BT : Hid (∀ W, Below w1.heap.size w1 W → Calls Try.prog 16 #[tb (y : Int) A N cap] W fun e w' => ∃ A1 c1, e = .returned (.slice A1 nn c1) ∧ w'.ownsRow W.heap.size 4 1 (.slice A1 nn c1) nn ((descr y l).map Value.bool) ∧ Below W.heap.size W w') := Lib.hid (fun W hb => rbits_any W y A l N cap hN hv h1 (hR1.below hb) nn hnn)
  have BL : Hid (∀ W, Below w1.heap.size w1 W → Calls Try.prog 15 #[tb (y : Int) A N cap] W fun e w' => e = .returned (.int .i64 (nn : Int)) ∧ Below W.heap.size W w') := Lib.hid (fun W hb => bitlen_ok W y A l N cap hN hc (hR1.below hb) hv h1 nn hnn)
  have EN : Hid (∀ W, Below w1.heap.size w1 W → Calls Try.prog 13 #[tb (y : Int) A N cap] W (EncP W (Bt.pack (descr y l)) 0)) := Lib.hid (fun W hb => encode_ok W y A l N cap hN hc (hR1.below hb) hv h1)
  have hdl := descr_len hv
  have hpl := Bt.pack_len (descr y l)
  have hd4 : 4 ≤ (descr y l).length := by rw [descr, List.length_append, Bt.bitsOf_len]; omega
  obtain ⟨X0, hX0⟩ : ∃ X0, Bt.pack (descr y l) = X0 := ⟨_, rfl⟩
  rw [hX0] at EN hpl
  obtain ⟨n0, hn0⟩ : ∃ n0, X0.length = n0 := ⟨_, rfl⟩
  rw [hn0] at hpl
  have hn1 : 1 ≤ n0 := by omega
  have hn3 : n0 ≤ 400 := by omega
  have HNX := Lib.hid hn0
  have B0 := Lib.hid b1
  have T1 := Lib.hid t1
  have hnn5 : nn ≤ 3076 := by omega
  have RB : Hid (∀ W A4 c4, Rv W A4 ((descr y l).map Value.bool) → Calls Try.prog 18 #[.slice A4 nn c4] W fun e w' => ∃ A c, e = .returned (.slice A n0 c) ∧ Bt.Rd w' A X0 ∧ Below W.heap.size W w') := Lib.hid (fun W A4 c4 hr => (Bt.refBytes_any W A4 (descr y l) nn c4 hnn (by omega) hr).mono (by
    rintro e w' ⟨A, c, rfl, ho, hb⟩
    rw [hX0, hn0] at ho
    rw [hX0, hn0]
    exact ⟨A, c, rfl, Bt.Rv.of_own ho, hb⟩))
  clear b1 t1 hR hR1 hN hv hX0 hn0 hpl hdl hd4 hnn
  go_enter Try.func3, Try.ntmps3
  go_wp2_with (first
    | (go_at_call 13; refine (EN.out w1 (Below.refl _ _)).mono ?_; rintro e w3 ⟨A3, n3, c3, rfl, hb3⟩; obtain rfl : n0 = n3 := (hb3.1.trans HNX.out).symm; have Y3 := Lib.hid (bys_rd hb3); have B3 := Lib.hid hb3.2.2; have t3 := T1.out.below hb3.2.2; have e0 := t3.c0; have e1 := t3.c1; clear hb3 t3)
    | (go_at_call 14; refine (MY.out _ B3.out).mono ?_; rintro e w4 ⟨rfl, hb4⟩; have B4 := Lib.hid (below_on B3.out (Nat.le_refl _) hb4); have Y4 := Lib.hid (Bt.Rv.below Y3.out hb4); have t4 := T1.out.below B4.out; have f0 := t4.c0; have f1 := t4.c1; clear hb4 t4)
    | (go_at_call 16; refine (BT.out _ B4.out).mono ?_; rintro e w5 ⟨A5, c5, rfl, ho5, hb5⟩; have R5 := Lib.hid (Rv.of_own ho5); have B5 := Lib.hid (below_on B4.out (Nat.le_refl _) hb5); have Y5 := Lib.hid (Bt.Rv.below Y4.out hb5); have t5 := T1.out.below B5.out; have g0 := t5.c0; have g1 := t5.c1; clear ho5 hb5 t5)
    | (go_at_call 18; refine (RB.out _ _ _ R5.out).mono ?_; rintro e w6 ⟨A6, c6, rfl, hr6, hb6⟩; have R6 := Lib.hid hr6; have B6 := Lib.hid (below_on B5.out (Nat.le_refl _) hb6); have Y6 := Lib.hid (Bt.Rv.below Y5.out hb6); have t6 := T1.out.below B6.out; have i0 := t6.c0; have i1 := t6.c1; clear hr6 hb6 t6)
    | (go_at_call 17; refine (Bt.same_n w6 A3 A6 X0 X0 n0 n0 HNX.out HNX.out c3 c6 Y6.out R6.out rfl).mono ?_; rintro e wq ⟨rfl, rfl⟩)
    | (go_at_call 15; refine (BL.out _ B6.out).mono ?_; rintro e w7 ⟨rfl, hb7⟩; have B7 := Lib.hid (below_on (below_on B0.out (Nat.le_refl _) B6.out) (Nat.le_refl _) hb7); clear hb7)
    | (go_at_call 12; refine (known_any _).mono ?_; rintro e w9 ⟨rfl, hb9⟩; have B9 := Lib.hid (below_on B7.out (Nat.le_refl _) hb9); clear hb9))
  go_ret
  exact ⟨rfl, B9.out⟩

theorem walk (y : Int) (A : Option Addr) (l : List Int) (cap : Nat) (w : World) (hR : Ri w A l) (_ : ∀ z ∈ l, -9223372036854775808 ≤ z ∧ z ≤ 9223372036854775807) (hc : l.length ≤ cap) :
    Calls Try.prog 3 #[tb y A l.length cap] w fun e w' => e = .returned (.bool true) ∧ Below w.heap.size w w' := by
  by_cases h : 600 < l.length
  · exact walk_long y A _ cap w h
  · cases hv : may y l with
    | false => exact walk_bad y A l _ cap w rfl (by omega) hv hR
    | true =>
      obtain ⟨n, rfl, h1, hv2⟩ := may_iff.1 hv
      exact walk_ok n A l _ cap w rfl hc hv2 h1 (by omega) hR
set_option maxRecDepth 100000 in
theorem lifted (os : Os) (started : os.Started) (H : Type) (enc : TypeId × Value → H) :
    ReturnsInHanded {} Try.checked os 3 .any (Rows.descFormsSpec.pre6 enc Try.prog Try.f3 Rows.descFormsRow.domain false) (Rows.descFormsSpec.post enc Try.prog Try.f3 false true false false) := by
  refine returnsInHanded_of_change_sized (C := Try.checked) ownB started (by kernel_rfl) Try.func3
    (ChangeSpec.witness6 (enc := enc) (C := Try.checked) false ⟨#[], #[.agg #[.int .i64 0, .slice none 0 0]], []⟩ 8 (by kernel_rfl) (by kernel_rfl) (by kernel_rfl) (by kernel_rfl)) ?_
  intro W base args ds gs before hval0 hW _ hsz0 _
  have hsz : (DataW.weightsEach Try.prog (Try.f3.params.toList ++ Rows.descFormsSpec.plain.varTypes Try.prog) (ds ++ gs)).all (· ≤ reachBytes) = true := hsz0
  clear hsz0
  have hval : ∀ (j : Nat) t v, Try.f3.params[j]? = some t → args[j]? = some v → Value.okWide Try.prog W .any base t v := hval0
  have hW' := hW
  obtain ⟨p, q, hA0, hV, rfl, hfz, hnd⟩ := hW
  have hA : DataW.TrodAll enc Try.prog W 0 (fun _ => true) true Try.f3.params.toList args.toList ds p := hA0
  rw [Try.params3] at hA hval hsz
  obtain ⟨v0, vs0, d0, ds0, p0, q0, hargs, rfl, rfl, h0, r0⟩ := trodAll_cons hA
  obtain ⟨rfl, rfl, rfl⟩ := trodAll_nil r0
  obtain rfl : args = #[v0] := by cases args; simp_all
  obtain ⟨rfl, rfl⟩ := trodVars_none hV
  obtain ⟨cs0, rfl, hcs0⟩ := okWide_struct Try.underlying24 (hval 0 24 v0 rfl rfl)
  have k0 := h0
  have lt0 : ∀ x ∈ p0, x.block < W.heap.size := by obtain ⟨m, hm⟩ := k0; exact DataW.trod_lt m _ _ _ hm
  obtain ⟨y0, a0, len0, cap0, l0, rfl, rfl, hc0, ri0, wi0⟩ := open_tab hcs0 h0
  clear hA0 hval0
  refine (walk y0 a0 l0 cap0 W ri0 wi0 hc0).mono fun e W' ⟨he, bel⟩ => ?_
  subst he
  exact ⟨_, rfl, _, _, _, [], _, [], hW', trodAll_mk1 (shut_bool Try.underlying4 _), (trodAll_cons_mk (Below.trod laidOut (by kernel_rfl) (of_decide_eq_true (by kernel_rfl)) k0 bel lt0) trodAll_mk0), rfl, bel.frame _, fun h => by cases h⟩

theorem proved : Rows.DescFormsSaid :=
  OpenClaim.holds_of_wide 3 Try.f3 rfl rfl rfl rfl rfl rfl rfl ⟨rfl, rfl, rfl, rfl, rfl⟩ rfl rfl rfl rfl rfl (by kernel_rfl) Try.func3 (by kernel_rfl)
    (of_decide_eq_true (by kernel_rfl)) (by unfold Func.isWrapper; rw [if_neg (by decide +kernel)]; exact ⟨rfl, rfl⟩)
    (fun os started H enc _ => lifted os started H enc)

#print axioms proved

end Go.Proofs.Ytpjbjbohbdlciaa.descForms
