/-
  Proved: the law SpreadPlaces returns true for all tables and symbols: Positions returns the places of the symbol in what the reference's Of returns. No condition.
-/
import Derived.Test.YtpiebkkaileocaaFrm
namespace Go.Proofs.Ytpiebkkaileocaa.spreadPlaces
open Go.ChangeShapes Go.WideShapes Go.ChangeAt Go.RowKit

set_option maxRecDepth 100000 in
set_option maxHeartbeats 4000000 in
theorem walk_long (y : Int) (A : Option Addr) (N cap : Nat) (z : Int) (w : World) (h : 600 < N) :
    Calls Try.prog 4 #[tb y A N cap, .int .i64 z] w fun e w' => e = .returned (.bool true) ∧ Below w.heap.size w w' := by
  have hd : decide ((600 : Int) < (N : Int)) = true := decide_eq_true (by omega)
  have b1 : Below w.heap.size w (w.alloc (.cells #[.int .i64 y, .slice A N cap] 24)) := (Below.refl _ w).alloc (Nat.le_refl _) _
  have t1 := Tb.new w y A N cap
  obtain ⟨w1, hw1⟩ : ∃ w1, w.alloc (.cells #[.int .i64 y, .slice A N cap] 24) = w1 := ⟨_, rfl⟩
  rw [hw1] at b1 t1
  have c0 := t1.c0
  have c1 := t1.c1
  have KN := Lib.hid (known_any w1)
  have B0 := Lib.hid b1
  clear b1 t1
  go_enter Try.func4, Try.ntmps4
  go_wp2_with (go_at_call 11; refine KN.out.mono ?_; rintro e w2 ⟨rfl, hb2⟩; have B1 := Lib.hid (below_on B0.out (Nat.le_refl _) hb2); clear hb2)
  go_ret
  exact ⟨rfl, B1.out⟩

set_option maxRecDepth 100000 in
set_option maxHeartbeats 4000000 in
theorem walk_ok (y s : Nat) (A : Option Addr) (l : List Int) (N cap : Nat) (z : Int) (w : World) (hN : l.length = N) (hv : Vt y l) (hse : 2 ^ y = s) (hR : Ri w A l) :
    Calls Try.prog 4 #[tb y A N cap, .int .i64 z] w fun e w' => e = .returned (.bool true) ∧ Below w.heap.size w w' := by
  have hN2 : N ≤ 256 := by rw [← hN]; exact hv.len
  have hd : decide ((600 : Int) < (N : Int)) = false := decide_eq_false (by omega)
  have b1 : Below w.heap.size w (w.alloc (.cells #[.int .i64 (y : Int), .slice A N cap] 24)) := (Below.refl _ w).alloc (Nat.le_refl _) _
  have t1 := Tb.new w (y : Int) A N cap
  obtain ⟨w1, hw1⟩ : ∃ w1, w.alloc (.cells #[.int .i64 (y : Int), .slice A N cap] 24) = w1 := ⟨_, rfl⟩
  rw [hw1] at b1 t1
  have c0 := t1.c0
  have c1 := t1.c1
  have hR1 := hR.below b1
  have hs5 : s ≤ 512 := by rw [← hse]; exact hv.size
  have SP := Lib.hid (pos_ok w1 y s A l N cap z hN hv hse hR1)
  have OF : Hid (∀ W, Below w1.heap.size w1 W → Calls Try.prog 13 #[tb y A N cap] W fun e w' => ∃ g, e = .returned (.tuple #[.slice (some ⟨g, 0, none⟩) s s, .int .i64 0]) ∧ w'.ownsRow W.heap.size 3 1 (.slice (some ⟨g, 0, none⟩) s s) s ((spl s l).map nv) ∧ Below W.heap.size W w') := Lib.hid (fun W hb => of_ok W y s A l N cap hN hv hse (hR1.below hb))
  obtain ⟨K, hK⟩ : ∃ K, spl s l = K := ⟨_, rfl⟩
  have hKL : K.length = s := by rw [← hK]; exact spl_len s l
  rw [hK] at SP OF
  obtain ⟨Q, hQ⟩ : ∃ Q, pls 0 K z = Q := ⟨_, rfl⟩
  have hQL : Q.length ≤ 512 := by rw [← hQ]; have := pls_len z K 0; omega
  have PL : Hid (∀ W g, Rn W (some ⟨g, 0, none⟩) K → Calls Try.prog 16 #[.slice (some ⟨g, 0, none⟩) s s, .int .i64 z] W fun e w' => ∃ A' r c', e = .returned (.slice A' r c') ∧ w'.ownsRow W.heap.size 3 1 (.slice A' r c') r (Q.map nv) ∧ Below W.heap.size W w') := Lib.hid (fun W g h => by rw [← hQ]; exact places_any W (some ⟨g, 0, none⟩) K s s z hKL hs5 h)
  rw [hQ] at SP
  have SA : Hid (∀ W B B' A2 r c A3 r3 c3, W.ownsRow B 3 1 (.slice A2 r c) r (Q.map nv) → W.ownsRow B' 3 1 (.slice A3 r3 c3) r3 (Q.map nv) → Calls Try.prog 14 #[.slice A2 r c, .slice A3 r3 c3] W fun e w' => e = .returned (.bool true) ∧ Below W.heap.size W w') := Lib.hid (fun W B B' A2 r c A3 r3 c3 h1 h2 => by
    have e1 : Q.length = r := by have := h1.1; simpa using this
    have e2 : Q.length = r3 := by have := h2.1; simpa using this
    have := same_any W A2 A3 Q Q r c r3 c3 e1 e2 (by omega) (rn_own h1) (rn_own h2)
    rwa [decide_eq_true rfl] at this)
  have B0 := Lib.hid b1
  have T1 := Lib.hid t1
  clear b1 t1 hR hR1 hN hv hse hK hQ hQL hKL
  go_enter Try.func4, Try.ntmps4
  go_wp2_with (first
    | (go_at_call 15; refine SP.out.mono ?_; rintro e w2 ⟨A2, r2, c2, rfl, ho2, hb2⟩; have O2 := Lib.hid ho2; have q2 := T1.out.below hb2; have d0 := q2.c0; have d1 := q2.c1; have B2 := Lib.hid hb2; clear hb2 ho2 q2)
    | (go_at_call 13; refine (OF.out w2 B2.out).mono ?_; rintro e w3 ⟨g, rfl, ho3, hb3⟩; have O3 := Lib.hid ho3; have B3 := Lib.hid hb3; clear hb3 ho3)
    | (go_at_call 16; refine (PL.out w3 g (rn_own O3.out)).mono ?_; rintro e w4 ⟨A4, r4, c4, rfl, ho4, hb4⟩; have O4 := Lib.hid ho4; have B4 := Lib.hid hb4; clear hb4 ho4)
    | (go_at_call 14; refine (SA.out w4 _ _ A2 r2 c2 A4 r4 c4 (own_below (own_below O2.out B3.out) B4.out) O4.out).mono ?_; rintro e w5 ⟨rfl, hb5⟩; have B5 := Lib.hid (below_on B0.out (Nat.le_refl _) (below_on (below_on (below_on B2.out (Nat.le_refl _) B3.out) (Nat.le_refl _) B4.out) (Nat.le_refl _) hb5)); clear hb5)
    | (go_at_call 11; refine (known_any w5).mono ?_; rintro e w6 ⟨rfl, hb6⟩; have B6 := Lib.hid (below_on B5.out (Nat.le_refl _) hb6); clear hb6))
  go_ret
  exact ⟨rfl, B6.out⟩

set_option maxRecDepth 100000 in
set_option maxHeartbeats 4000000 in
theorem walk_bad (y : Int) (A : Option Addr) (l : List Int) (N cap : Nat) (z : Int) (w : World) (hN : l.length = N) (h : N ≤ 600) (hv : vt y l 256 9 = false) (hR : Ri w A l) :
    Calls Try.prog 4 #[tb y A N cap, .int .i64 z] w fun e w' => e = .returned (.bool true) ∧ Below w.heap.size w w' := by
  have hd : decide ((600 : Int) < (N : Int)) = false := decide_eq_false (by omega)
  have b1 : Below w.heap.size w (w.alloc (.cells #[.int .i64 y, .slice A N cap] 24)) := (Below.refl _ w).alloc (Nat.le_refl _) _
  have t1 := Tb.new w y A N cap
  obtain ⟨w1, hw1⟩ : ∃ w1, w.alloc (.cells #[.int .i64 y, .slice A N cap] 24) = w1 := ⟨_, rfl⟩
  rw [hw1] at b1 t1
  have c0 := t1.c0
  have c1 := t1.c1
  have hR1 := hR.below b1
  have SP := Lib.hid (pos_bad w1 y A l N cap z hN (by omega) hv hR1)
  have OF : Hid (∀ W, Below w1.heap.size w1 W → Calls Try.prog 13 #[tb y A N cap] W fun e w' => e = .returned (.tuple #[.slice none 0 0, .int .i64 13]) ∧ Below W.heap.size W w') := Lib.hid (fun W hb => of_bad W y A l N cap hN (by omega) hv (hR1.below hb))
  have B0 := Lib.hid b1
  have T1 := Lib.hid t1
  clear b1 t1 hR hR1 hN hv
  go_enter Try.func4, Try.ntmps4
  go_wp2_with (first
    | (go_at_call 15; refine SP.out.mono ?_; rintro e w2 ⟨rfl, hb2⟩; have q2 := T1.out.below hb2; have d0 := q2.c0; have d1 := q2.c1; have B2 := Lib.hid hb2; clear hb2 q2)
    | (go_at_call 13; refine (OF.out w2 B2.out).mono ?_; rintro e w3 ⟨rfl, hb3⟩; have B3 := Lib.hid (below_on B0.out (Nat.le_refl _) (below_on B2.out (Nat.le_refl _) hb3)); clear hb3)
    | (go_at_call 11; refine (known_any w3).mono ?_; rintro e w5 ⟨rfl, hb5⟩; have B5 := Lib.hid (below_on B3.out (Nat.le_refl _) hb5); clear hb5))
  go_ret
  exact ⟨rfl, B5.out⟩

theorem walk (y : Int) (A : Option Addr) (l : List Int) (cap : Nat) (z : Int) (w : World) (hR : Ri w A l) (_ : ∀ z ∈ l, -9223372036854775808 ≤ z ∧ z ≤ 9223372036854775807) (_ : l.length ≤ cap) (_ : (Lit.int .i64 z).wf = true) :
    Calls Try.prog 4 #[tb y A l.length cap, .int .i64 z] w fun e w' => e = .returned (.bool true) ∧ Below w.heap.size w w' := by
  by_cases h : 600 < l.length
  · exact walk_long y A _ cap z w h
  · cases hv : vt y l 256 9 with
    | false => exact walk_bad y A l _ cap z w rfl (by omega) hv hR
    | true =>
      obtain ⟨n, rfl, hv2⟩ := vt_iff.1 hv
      exact walk_ok n _ A l _ cap z w rfl hv2 rfl hR

set_option maxRecDepth 100000 in
theorem lifted (os : Os) (started : os.Started) (H : Type) (enc : TypeId × Value → H) :
    ReturnsInHanded {} Try.checked os 4 .any (Rows.spreadPlacesSpec.pre6 enc Try.prog Try.f4 Rows.spreadPlacesRow.domain false) (Rows.spreadPlacesSpec.post enc Try.prog Try.f4 false true false false) := by
  refine returnsInHanded_of_change_sized (C := Try.checked) ownB started (by kernel_rfl) Try.func4
    (ChangeSpec.witness6 (enc := enc) (C := Try.checked) false ⟨#[], #[.agg #[.int .i64 0, .slice none 0 0], .int .i64 0], []⟩ 8 (by kernel_rfl) (by kernel_rfl) (by kernel_rfl) (by kernel_rfl)) ?_
  intro W base args ds gs before hval0 hW _ hsz0 _
  have hsz : (DataW.weightsEach Try.prog (Try.f4.params.toList ++ Rows.spreadPlacesSpec.plain.varTypes Try.prog) (ds ++ gs)).all (· ≤ reachBytes) = true := hsz0
  clear hsz0
  have hval : ∀ (j : Nat) t v, Try.f4.params[j]? = some t → args[j]? = some v → Value.okWide Try.prog W .any base t v := hval0
  have hW' := hW
  obtain ⟨p, q, hA0, hV, rfl, hfz, hnd⟩ := hW
  have hA : DataW.TrodAll enc Try.prog W 0 (fun _ => true) true Try.f4.params.toList args.toList ds p := hA0
  rw [Try.params4] at hA hval hsz
  obtain ⟨v0, vs0, d0, ds0, p0, q0, hargs, rfl, rfl, h0, r0⟩ := trodAll_cons hA
  obtain ⟨v1, vs1, d1, ds1, p1, q1, rfl, rfl, rfl, h1, r1⟩ := trodAll_cons r0
  obtain ⟨rfl, rfl, rfl⟩ := trodAll_nil r1
  obtain rfl : args = #[v0, v1] := by cases args; simp_all
  obtain ⟨rfl, rfl⟩ := trodVars_none hV
  obtain ⟨cs0, rfl, hcs0⟩ := okWide_struct Try.underlying24 (hval 0 24 v0 rfl rfl)
  have k0 := h0
  have lt0 : ∀ x ∈ p0, x.block < W.heap.size := by obtain ⟨m, hm⟩ := k0; exact DataW.trod_lt m _ _ _ hm
  obtain ⟨y0, a0, len0, cap0, l0, rfl, rfl, hc0, ri0, wi0⟩ := open_tab hcs0 h0
  obtain ⟨a1, rfl, rfl, rfl, w1⟩ := open_int Try.underlying3 (hval 1 3 v1 rfl rfl) h1
  clear hA0 hval0
  refine (walk y0 a0 l0 cap0 a1 W ri0 wi0 hc0 w1).mono fun e W' ⟨he, bel⟩ => ?_
  subst he
  exact ⟨_, rfl, _, _, _, [], _, [], hW', trodAll_mk1 (shut_bool Try.underlying4 _), (trodAll_cons_mk (Below.trod laidOut (by kernel_rfl) (of_decide_eq_true (by kernel_rfl)) k0 bel lt0) (trodAll_cons_mk (shut_int Try.underlying3 w1) trodAll_mk0)), rfl, bel.frame _, fun h => by cases h⟩

theorem proved : Rows.SpreadPlacesSaid :=
  OpenClaim.holds_of_wide 4 Try.f4 rfl rfl rfl rfl rfl rfl rfl ⟨rfl, rfl, rfl, rfl, rfl⟩ rfl rfl rfl rfl rfl (by kernel_rfl) Try.func4 (by kernel_rfl)
    (of_decide_eq_true (by kernel_rfl)) (by unfold Func.isWrapper; rw [if_neg (by decide +kernel)]; exact ⟨rfl, rfl⟩)
    (fun os started H enc _ => lifted os started H enc)

#print axioms proved

end Go.Proofs.Ytpiebkkaileocaa.spreadPlaces
