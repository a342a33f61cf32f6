/-
  Proved: the law CellsSpans returns true for all tables and symbols: Spans returns the spans of the symbol's cells as the reference's Of has them, or the error. No condition.
-/
import Derived.Test.YtfgjeiheekohdaaFrm
import Derived.BigQuiet
import Derived.Deep.QuietTactic
namespace Go.Proofs.Ytfgjeiheekohdaa.cellsSpans
open Go.ChangeShapes Go.WideShapes Go.ChangeAt Go.RowKit

set_option maxRecDepth 100000 in
set_option maxHeartbeats 4000000 in
theorem walk_long (y : Int) (A : Option Addr) (N cap : Nat) (z : Int) (w : World) (h : 600 < N) :
    Calls Try.prog 9 #[tb y A N cap, .int .i64 z] w fun e w' => e = .returned (.bool true) ∧ Below w.heap.size w w' := by
  have hd : decide ((600 : Int) < (N : Int)) = true := decide_eq_true (by omega)
  have b1 : Below w.heap.size w (w.alloc (.cells #[.int .i64 y, .slice A N cap] 24)) := (Below.refl _ w).alloc (Nat.le_refl _) _
  have t1 := Tb.new w y A N cap
  obtain ⟨w1, hw1⟩ : ∃ w1, w.alloc (.cells #[.int .i64 y, .slice A N cap] 24) = w1 := ⟨_, rfl⟩
  rw [hw1] at b1 t1
  have c0 := t1.c0
  have c1 := t1.c1
  have KN := Lib.hid (known_any w1)
  have B0 := Lib.hid b1
  clear b1 t1
  go_enter Try.func9, Try.ntmps9
  go_wp2_with (go_at_call 11; refine KN.out.mono ?_; rintro e w2 ⟨rfl, hb2⟩; have B1 := Lib.hid (below_on B0.out (Nat.le_refl _) hb2); clear hb2)
  go_ret
  exact ⟨rfl, B1.out⟩

theorem row2_at {W : World} {B g n c : Nat} {e : TypeId} {C : List (Nat × Nat)} (h : W.ownsRow B e 2 (.slice (some ⟨g, 0, none⟩) n c) n (flat2 C)) {j : Nat} {p : Nat × Nat} (hj : C[j]? = some p) :
    W.cell? ⟨g, j * 2, none⟩ = some (nw p.1) ∧ W.cell? ⟨g, j * 2 + 1, none⟩ = some (nw p.2) := by
  have hl := (List.getElem?_eq_some_iff.1 hj).1
  have hn : n = C.length := by have := h.1; rw [flat2_len] at this; omega
  obtain ⟨h1, h2⟩ := flat2_get hj
  exact ⟨(h.cellAt _ (by omega)).trans h1, (h.cellAt _ (by omega)).trans h2⟩

set_option maxRecDepth 100000 in
set_option maxHeartbeats 4000000 in
theorem walk_short (y : Int) (A : Option Addr) (l : List Int) (N cap : Nat) (z : Int) (w : World) (hN : l.length = N) (h : N ≤ 600) (hR : Ri w A l) :
    Calls Try.prog 9 #[tb y A N cap, .int .i64 z] w fun e w' => e = .returned (.bool true) ∧ Below w.heap.size w w' := by
  have hd : decide ((600 : Int) < (N : Int)) = false := decide_eq_false (by omega)
  have b1 : Below w.heap.size w (w.alloc (.cells #[.int .i64 y, .slice A N cap] 24)) := (Below.refl _ w).alloc (Nat.le_refl _) _
  have t1 := Tb.new w y A N cap
  obtain ⟨w1, hw1⟩ : ∃ w1, w.alloc (.cells #[.int .i64 y, .slice A N cap] 24) = w1 := ⟨_, rfl⟩
  rw [hw1] at b1 t1
  have c0 := t1.c0
  have c1 := t1.c1
  have hR1 := hR.below b1
  obtain ⟨C, hC⟩ : ∃ C, cex y l = C := ⟨_, rfl⟩
  obtain ⟨e0, he0⟩ : ∃ e0, err (vt y l 256 9) = e0 := ⟨_, rfl⟩
  have BU := Lib.hid (spans_u w1 y A l N cap z hN (by omega) hR1)
  have OF : Hid (∀ W, Below w1.heap.size w1 W → Calls Try.prog 13 #[tb y A N cap] W (OutC W.heap.size W C e0)) := Lib.hid (fun W hb => by rw [← hC, ← he0]; exact ofc_u W y A l N cap hN (by omega) (hR1.below hb))
  have HSM : Hid (∀ (i : Nat) (c : Nat × Nat × Nat), C[i]? = some c → c.2.1 ≤ 9) := Lib.hid (fun i c h => cex_small (y := y) (l := l) (by rw [hC]; exact h))
  rw [hC, he0] at BU
  have B0 := Lib.hid b1
  have T1 := Lib.hid t1
  clear b1 t1 hR hR1 hN hC he0
  go_enter Try.func9, Try.ntmps9
  go_wp2_with (first
    | (go_at_call 16; refine BU.out.mono ?_; rintro e w2 ⟨A2, r2, c2, rfl, hq2, hr2, ho2, hb2⟩; have Q2 := Lib.hid hq2; clear hq2; have O2 := Lib.hid ho2; have q2 := T1.out.below hb2; have d0 := q2.c0; have d1 := q2.c1; have B2 := Lib.hid hb2; clear hb2 ho2 q2)
    | (go_at_call 13; refine (OF.out w2 B2.out).mono ?_; rintro e w3 ⟨A3, r3, c3, rfl, hq3, hr3, ho3, hb3⟩; have Q3 := Lib.hid hq3; clear hq3; have O3 := Lib.hid ho3; have P2 := Lib.hid (ro_below O2.out hb3); have B3 := Lib.hid (below_on B0.out (Nat.le_refl _) (below_on B2.out (Nat.le_refl _) hb3)); clear hb3 ho3))
  clear BU OF c0 c1 d0 d1
  go_loopw [9, 10] (fun kk p wr => ∃ i k : Nat, i ≤ r3 ∧ k ≤ i ∧ p = .int .i64 (i : Int) ∧ kk = .int .i64 (k : Int) ∧ Hid ((spn z (C.take i)).length = k) ∧ Hid (Below w3.heap.size w3 wr)) (fun _ p _ => r3 - (intOf p).toNat)
  case atStart => exact ⟨0, 0, Nat.zero_le _, Nat.le_refl _, rfl, rfl, Lib.hid rfl, Lib.hid (Below.refl _ _)⟩
  case round =>
    obtain ⟨i, k, hi, hk, rfl, rfl, HK, HB⟩ := hrel
    by_cases hlt : i < r3
    · obtain ⟨⟨x, p, q⟩, hx⟩ : ∃ x, C[i]? = some x := ⟨_, List.getElem?_eq_getElem (by rw [← Q3.out]; exact hlt)⟩
      obtain ⟨g3, rfl⟩ := ro_some (by omega) O3.out
      obtain ⟨a0, a1, a2⟩ := row_at (ro_below O3.out HB.out) hx
      simp only [nw] at a0 a1 a2
      have HS := Lib.hid (spn_step (z := z) hx)
      have wi : IntKind.i64.wrap (i : Int) = (i : Int) := IntWalk.i64_in _ (by omega)
      have wk : IntKind.i64.wrap (k : Int) = (k : Int) := IntWalk.i64_in _ (by omega)
      by_cases hz : (x : Int) = z
      · have hz1 : ((x : Int) != z) = false := by simp [hz]
        have hat := spn_at hx hz
        rw [HK.out] at hat
        have hkl : k < r2 := by rw [Q2.out]; exact (List.getElem?_eq_some_iff.1 hat).1
        obtain ⟨g2, rfl⟩ := ro_some (by omega) P2.out
        obtain ⟨b0, b1⟩ := row2_at (ro_below P2.out HB.out) hat
        simp only [nw] at b0 b1
        have hp9 : p ≤ 9 := HSM.out i _ hx
        obtain ⟨D, hD⟩ : ∃ D, 2 ^ p = D := ⟨_, rfl⟩
        rw [hD] at b1
        have HL1 : Hid ((spn z (C.take (i + 1))).length = k + 1) := Lib.hid (by rw [HS.out, if_pos hz, List.length_append, HK.out]; rfl)
        have SZ : Hid (∀ W', Calls Try.prog 17 #[.int .i64 (p : Int)] W' fun e w' => e = .returned (.int .i64 (D : Int)) ∧ w' = W') := Lib.hid (fun W' => by
          have := size_any W' (p : Int)
          rwa [siz_pow hp9 hD] at this)
        have hg1 : decide ((r2 : Int) ≤ (k : Int)) = false := decide_eq_false (by omega)
        have hg2 : ¬ r2 ≤ k := by omega
        clear hx hz HS HK hat hD
        go_wp2
        go_quiet ((go_at_call 17; exact Calls.quiet_of_same (SZ.out _)))
        go_wp2
        exact ⟨⟨i + 1, k + 1, by omega, by omega, by simp, by simp, HL1, Lib.hid (below_drewN' HB.out nq)⟩, by simp [intOf]; omega⟩
      · have hz1 : ((x : Int) != z) = true := by simp [hz]
        have HL1 : Hid ((spn z (C.take (i + 1))).length = k) := Lib.hid (by rw [HS.out, if_neg hz, List.append_nil, HK.out])
        clear hx hz HS HK
        go_wp2
        exact ⟨⟨i + 1, k, by omega, by omega, by simp, rfl, HL1, HB⟩, by simp [intOf]; omega⟩
    · have HE : Hid (k = r2) := Lib.hid (by have h1 := HK.out; rw [List.take_of_length_le (by rw [← Q3.out]; omega)] at h1; rw [Q2.out, h1])
      have hkr := HE.out
      subst hkr
      clear HK
      go_wp2_with (go_at_call 11; refine (known_any wr).mono ?_; rintro e w5 ⟨rfl, hb5⟩; have B5 := Lib.hid (below_on (below_on B3.out (Nat.le_refl _) HB.out) (Nat.le_refl _) hb5); clear hb5)
      go_ret
      exact ⟨rfl, B5.out⟩

theorem walk (y : Int) (A : Option Addr) (l : List Int) (cap : Nat) (z : Int) (w : World) (hR : Ri w A l) (_ : ∀ z ∈ l, -9223372036854775808 ≤ z ∧ z ≤ 9223372036854775807) (_ : l.length ≤ cap) (_ : (Lit.int .i64 z).wf = true) :
    Calls Try.prog 9 #[tb y A l.length cap, .int .i64 z] w fun e w' => e = .returned (.bool true) ∧ Below w.heap.size w w' := by
  by_cases h : 600 < l.length
  · exact walk_long y A _ cap z w h
  · exact walk_short y A l _ cap z w rfl (by omega) hR

set_option maxRecDepth 100000 in
theorem lifted (os : Os) (started : os.Started) (H : Type) (enc : TypeId × Value → H) :
    ReturnsInHanded {} Try.checked os 9 .any (Rows.cellsSpansSpec.pre6 enc Try.prog Try.f9 Rows.cellsSpansRow.domain false) (Rows.cellsSpansSpec.post enc Try.prog Try.f9 false true false false) := by
  refine returnsInHanded_of_change_sized (C := Try.checked) ownB started (by kernel_rfl) Try.func9
    (ChangeSpec.witness6 (enc := enc) (C := Try.checked) false ⟨#[], #[.agg #[.int .i64 0, .slice none 0 0], .int .i64 0], []⟩ 8 (by kernel_rfl) (by kernel_rfl) (by kernel_rfl) (by kernel_rfl)) ?_
  intro W base args ds gs before hval0 hW _ hsz0 _
  have hsz : (DataW.weightsEach Try.prog (Try.f9.params.toList ++ Rows.cellsSpansSpec.plain.varTypes Try.prog) (ds ++ gs)).all (· ≤ reachBytes) = true := hsz0
  clear hsz0
  have hval : ∀ (j : Nat) t v, Try.f9.params[j]? = some t → args[j]? = some v → Value.okWide Try.prog W .any base t v := hval0
  have hW' := hW
  obtain ⟨p, q, hA0, hV, rfl, hfz, hnd⟩ := hW
  have hA : DataW.TrodAll enc Try.prog W 0 (fun _ => true) true Try.f9.params.toList args.toList ds p := hA0
  rw [Try.params9] at hA hval hsz
  obtain ⟨v0, vs0, d0, ds0, p0, q0, hargs, rfl, rfl, h0, r0⟩ := trodAll_cons hA
  obtain ⟨v1, vs1, d1, ds1, p1, q1, rfl, rfl, rfl, h1, r1⟩ := trodAll_cons r0
  obtain ⟨rfl, rfl, rfl⟩ := trodAll_nil r1
  obtain rfl : args = #[v0, v1] := by cases args; simp_all
  obtain ⟨rfl, rfl⟩ := trodVars_none hV
  obtain ⟨cs0, rfl, hcs0⟩ := okWide_struct Try.underlying24 (hval 0 24 v0 rfl rfl)
  have k0 := h0
  have lt0 : ∀ x ∈ p0, x.block < W.heap.size := by obtain ⟨m, hm⟩ := k0; exact DataW.trod_lt m _ _ _ hm
  obtain ⟨y0, a0, len0, cap0, l0, rfl, rfl, hc0, ri0, wi0⟩ := open_tab hcs0 h0
  obtain ⟨a1, rfl, rfl, rfl, w1⟩ := open_int Try.underlying3 (hval 1 3 v1 rfl rfl) h1
  clear hA0 hval0
  refine (walk y0 a0 l0 cap0 a1 W ri0 wi0 hc0 w1).mono fun e W' ⟨he, bel⟩ => ?_
  subst he
  exact ⟨_, rfl, _, _, _, [], _, [], hW', trodAll_mk1 (shut_bool Try.underlying4 _), (trodAll_cons_mk (Below.trod laidOut (by kernel_rfl) (of_decide_eq_true (by kernel_rfl)) k0 bel lt0) (trodAll_cons_mk (shut_int Try.underlying3 w1) trodAll_mk0)), rfl, bel.frame _, fun h => by cases h⟩

theorem proved : Rows.CellsSpansSaid :=
  OpenClaim.holds_of_wide 9 Try.f9 rfl rfl rfl rfl rfl rfl rfl ⟨rfl, rfl, rfl, rfl, rfl⟩ rfl rfl rfl rfl rfl (by kernel_rfl) Try.func9 (by kernel_rfl)
    (of_decide_eq_true (by kernel_rfl)) (by unfold Func.isWrapper; rw [if_neg (by decide +kernel)]; exact ⟨rfl, rfl⟩)
    (fun os started H enc _ => lifted os started H enc)

#print axioms proved

end Go.Proofs.Ytfgjeiheekohdaa.cellsSpans
