/-
  Proved: the law CellsTell returns true for all tables: Build returns the cells, or the error, that the reference's Of returns. No condition.
-/
import Derived.Test.YtfgjeiheekohdaaFrm
namespace Go.Proofs.Ytfgjeiheekohdaa.cellsTell
open Go.ChangeShapes Go.WideShapes Go.ChangeAt Go.RowKit

set_option maxRecDepth 100000 in
set_option maxHeartbeats 4000000 in
theorem walk_long (y : Int) (A : Option Addr) (N cap : Nat) (w : World) (h : 600 < N) :
    Calls Try.prog 3 #[tb y A N cap] w fun e w' => e = .returned (.bool true) ∧ Below w.heap.size w w' := by
  have hd : decide ((600 : Int) < (N : Int)) = true := decide_eq_true (by omega)
  have b1 : Below w.heap.size w (w.alloc (.cells #[.int .i64 y, .slice A N cap] 24)) := (Below.refl _ w).alloc (Nat.le_refl _) _
  have t1 := Tb.new w y A N cap
  obtain ⟨w1, hw1⟩ : ∃ w1, w.alloc (.cells #[.int .i64 y, .slice A N cap] 24) = w1 := ⟨_, rfl⟩
  rw [hw1] at b1 t1
  have c0 := t1.c0
  have c1 := t1.c1
  have KN := Lib.hid (known_any w1)
  have B0 := Lib.hid b1
  clear b1 t1
  go_enter Try.func3, Try.ntmps3
  go_wp2_with (go_at_call 11; refine KN.out.mono ?_; rintro e w2 ⟨rfl, hb2⟩; have B1 := Lib.hid (below_on B0.out (Nat.le_refl _) hb2); clear hb2)
  go_ret
  exact ⟨rfl, B1.out⟩

set_option maxRecDepth 100000 in
set_option maxHeartbeats 4000000 in
theorem walk_short (y : Int) (A : Option Addr) (l : List Int) (N cap : Nat) (w : World) (hN : l.length = N) (h : N ≤ 600) (hR : Ri w A l) :
    Calls Try.prog 3 #[tb y A N cap] w fun e w' => e = .returned (.bool true) ∧ Below w.heap.size w w' := by
  have hd : decide ((600 : Int) < (N : Int)) = false := decide_eq_false (by omega)
  have b1 : Below w.heap.size w (w.alloc (.cells #[.int .i64 y, .slice A N cap] 24)) := (Below.refl _ w).alloc (Nat.le_refl _) _
  have t1 := Tb.new w y A N cap
  obtain ⟨w1, hw1⟩ : ∃ w1, w.alloc (.cells #[.int .i64 y, .slice A N cap] 24) = w1 := ⟨_, rfl⟩
  rw [hw1] at b1 t1
  have c0 := t1.c0
  have c1 := t1.c1
  have hR1 := hR.below b1
  obtain ⟨C, hC⟩ : ∃ C, cex y l = C := ⟨_, rfl⟩
  obtain ⟨e0, he0⟩ : ∃ e0, err (vt y l 256 9) = e0 := ⟨_, rfl⟩
  have BU := Lib.hid (build_u w1 y A l N cap hN (by omega) hR1)
  have OF : Hid (∀ W, Below w1.heap.size w1 W → Calls Try.prog 13 #[tb y A N cap] W (OutC W.heap.size W C e0)) := Lib.hid (fun W hb => by rw [← hC, ← he0]; exact ofc_u W y A l N cap hN (by omega) (hR1.below hb))
  have SA : Hid (∀ W B B' A2 r c A3 r3 c3, r ≤ 512 → W.ownsRow B 45 3 (.slice A2 r c) r (flat3 C) → W.ownsRow B' 45 3 (.slice A3 r3 c3) r3 (flat3 C) → Calls Try.prog 14 #[.slice A2 r c, .slice A3 r3 c3] W fun e w' => e = .returned (.bool true) ∧ Below W.heap.size W w') := Lib.hid (fun W B B' A2 r c A3 r3 c3 hr h1 h2 => by
    have := csame_any W A2 A3 C C r c r3 c3 B B' (by omega) h1 h2
    rwa [decide_eq_true rfl] at this)
  rw [hC, he0] at BU
  have B0 := Lib.hid b1
  have T1 := Lib.hid t1
  clear b1 t1 hR hR1 hN hC he0
  go_enter Try.func3, Try.ntmps3
  go_wp2_with (first
    | (go_at_call 12; refine BU.out.mono ?_; rintro e w2 ⟨A2, r2, c2, rfl, hq2, hr2, ho2, hb2⟩; clear hq2; have O2 := Lib.hid ho2; have q2 := T1.out.below hb2; have d0 := q2.c0; have d1 := q2.c1; have B2 := Lib.hid hb2; clear hb2 ho2 q2)
    | (go_at_call 13; refine (OF.out w2 B2.out).mono ?_; rintro e w3 ⟨A3, r3, c3, rfl, hq3, hr3, ho3, hb3⟩; clear hq3; have O3 := Lib.hid ho3; have P2 := Lib.hid (ro_below O2.out hb3); have B3 := Lib.hid hb3; clear hb3 ho3)
    | (go_at_call 14; refine (SA.out w3 _ _ A2 r2 c2 A3 r3 c3 hr2 P2.out O3.out).mono ?_; rintro e w4 ⟨rfl, hb4⟩; have B4 := Lib.hid (below_on B0.out (Nat.le_refl _) (below_on (below_on B2.out (Nat.le_refl _) B3.out) (Nat.le_refl _) hb4)); clear hb4)
    | (go_at_call 11; refine (known_any w4).mono ?_; rintro e w5 ⟨rfl, hb5⟩; have B5 := Lib.hid (below_on B4.out (Nat.le_refl _) hb5); clear hb5))
  go_ret
  exact ⟨rfl, B5.out⟩

theorem walk (y : Int) (A : Option Addr) (l : List Int) (cap : Nat) (w : World) (hR : Ri w A l) (_ : ∀ z ∈ l, -9223372036854775808 ≤ z ∧ z ≤ 9223372036854775807) (_ : l.length ≤ cap) :
    Calls Try.prog 3 #[tb y A l.length cap] w fun e w' => e = .returned (.bool true) ∧ Below w.heap.size w w' := by
  by_cases h : 600 < l.length
  · exact walk_long y A _ cap w h
  · exact walk_short y A l _ cap w rfl (by omega) hR

set_option maxRecDepth 100000 in
theorem lifted (os : Os) (started : os.Started) (H : Type) (enc : TypeId × Value → H) :
    ReturnsInHanded {} Try.checked os 3 .any (Rows.cellsTellSpec.pre6 enc Try.prog Try.f3 Rows.cellsTellRow.domain false) (Rows.cellsTellSpec.post enc Try.prog Try.f3 false true false false) := by
  refine returnsInHanded_of_change_sized (C := Try.checked) ownB started (by kernel_rfl) Try.func3
    (ChangeSpec.witness6 (enc := enc) (C := Try.checked) false ⟨#[], #[.agg #[.int .i64 0, .slice none 0 0]], []⟩ 8 (by kernel_rfl) (by kernel_rfl) (by kernel_rfl) (by kernel_rfl)) ?_
  intro W base args ds gs before hval0 hW _ hsz0 _
  have hsz : (DataW.weightsEach Try.prog (Try.f3.params.toList ++ Rows.cellsTellSpec.plain.varTypes Try.prog) (ds ++ gs)).all (· ≤ reachBytes) = true := hsz0
  clear hsz0
  have hval : ∀ (j : Nat) t v, Try.f3.params[j]? = some t → args[j]? = some v → Value.okWide Try.prog W .any base t v := hval0
  have hW' := hW
  obtain ⟨p, q, hA0, hV, rfl, hfz, hnd⟩ := hW
  have hA : DataW.TrodAll enc Try.prog W 0 (fun _ => true) true Try.f3.params.toList args.toList ds p := hA0
  rw [Try.params3] at hA hval hsz
  obtain ⟨v0, vs0, d0, ds0, p0, q0, hargs, rfl, rfl, h0, r0⟩ := trodAll_cons hA
  obtain ⟨rfl, rfl, rfl⟩ := trodAll_nil r0
  obtain rfl : args = #[v0] := by cases args; simp_all
  obtain ⟨rfl, rfl⟩ := trodVars_none hV
  obtain ⟨cs0, rfl, hcs0⟩ := okWide_struct Try.underlying24 (hval 0 24 v0 rfl rfl)
  have k0 := h0
  have lt0 : ∀ x ∈ p0, x.block < W.heap.size := by obtain ⟨m, hm⟩ := k0; exact DataW.trod_lt m _ _ _ hm
  obtain ⟨y0, a0, len0, cap0, l0, rfl, rfl, hc0, ri0, wi0⟩ := open_tab hcs0 h0
  clear hA0 hval0
  refine (walk y0 a0 l0 cap0 W ri0 wi0 hc0).mono fun e W' ⟨he, bel⟩ => ?_
  subst he
  exact ⟨_, rfl, _, _, _, [], _, [], hW', trodAll_mk1 (shut_bool Try.underlying4 _), (trodAll_cons_mk (Below.trod laidOut (by kernel_rfl) (of_decide_eq_true (by kernel_rfl)) k0 bel lt0) trodAll_mk0), rfl, bel.frame _, fun h => by cases h⟩

theorem proved : Rows.CellsTellSaid :=
  OpenClaim.holds_of_wide 3 Try.f3 rfl rfl rfl rfl rfl rfl rfl ⟨rfl, rfl, rfl, rfl, rfl⟩ rfl rfl rfl rfl rfl (by kernel_rfl) Try.func3 (by kernel_rfl)
    (of_decide_eq_true (by kernel_rfl)) (by unfold Func.isWrapper; rw [if_neg (by decide +kernel)]; exact ⟨rfl, rfl⟩)
    (fun os started H enc _ => lifted os started H enc)

#print axioms proved

end Go.Proofs.Ytfgjeiheekohdaa.cellsTell
