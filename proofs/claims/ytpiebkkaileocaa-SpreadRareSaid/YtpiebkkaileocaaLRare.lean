/-
  Proved: the law SpreadRare returns true for all tables: the rare symbols have the highest indices, the lowest rare symbol the highest one. No condition.
-/
import Derived.Test.YtpiebkkaileocaaFrm
import Derived.Test.YtpiebkkaileocaaRaq
namespace Go.Proofs.Ytpiebkkaileocaa.spreadRare
open Go.ChangeShapes Go.WideShapes Go.ChangeAt Go.RowKit

set_option maxRecDepth 100000 in
set_option maxHeartbeats 4000000 in
theorem walk_long (y : Int) (A : Option Addr) (N cap : Nat) (w : World) (h : 600 < N) :
    Calls Try.prog 7 #[tb y A N cap] w fun e w' => e = .returned (.bool true) ∧ Below w.heap.size w w' := by
  have hd : decide ((600 : Int) < (N : Int)) = true := decide_eq_true (by omega)
  have b1 : Below w.heap.size w (w.alloc (.cells #[.int .i64 y, .slice A N cap] 24)) := (Below.refl _ w).alloc (Nat.le_refl _) _
  have t1 := Tb.new w y A N cap
  obtain ⟨w1, hw1⟩ : ∃ w1, w.alloc (.cells #[.int .i64 y, .slice A N cap] 24) = w1 := ⟨_, rfl⟩
  rw [hw1] at b1 t1
  have c0 := t1.c0
  have c1 := t1.c1
  have KN := Lib.hid (known_any w1)
  have B0 := Lib.hid b1
  clear b1 t1
  go_enter Try.func7, Try.ntmps7
  go_wp2_with (go_at_call 11; refine KN.out.mono ?_; rintro e w2 ⟨rfl, hb2⟩; have B1 := Lib.hid (below_on B0.out (Nat.le_refl _) hb2); clear hb2)
  go_ret
  exact ⟨rfl, B1.out⟩

set_option maxRecDepth 100000 in
set_option maxHeartbeats 4000000 in
theorem walk_bad (y : Int) (A : Option Addr) (l : List Int) (N cap : Nat) (w : World) (hN : l.length = N) (h : N ≤ 600) (hv : vt y l 256 9 = false) (hR : Ri w A l) :
    Calls Try.prog 7 #[tb y A N cap] w fun e w' => e = .returned (.bool true) ∧ Below w.heap.size w w' := by
  have hd : decide ((600 : Int) < (N : Int)) = false := decide_eq_false (by omega)
  have b1 : Below w.heap.size w (w.alloc (.cells #[.int .i64 y, .slice A N cap] 24)) := (Below.refl _ w).alloc (Nat.le_refl _) _
  have t1 := Tb.new w y A N cap
  obtain ⟨w1, hw1⟩ : ∃ w1, w.alloc (.cells #[.int .i64 y, .slice A N cap] 24) = w1 := ⟨_, rfl⟩
  rw [hw1] at b1 t1
  have c0 := t1.c0
  have c1 := t1.c1
  have MY : Hid (Calls Try.prog 17 #[tb y A N cap, .int .i64 256, .int .i64 9] w1 fun e w' => e = .returned (.int .i64 13) ∧ Below w1.heap.size w1 w') := Lib.hid (by
    have := may_any w1 y 256 9 A l N cap hN (by omega) (hR.below b1)
    rw [hv] at this
    exact this)
  have B0 := Lib.hid b1
  clear b1 t1 hR hN hv
  go_enter Try.func7, Try.ntmps7
  go_wp2_with (first
    | (go_at_call 17; refine MY.out.mono ?_; rintro e w2 ⟨rfl, hb2⟩; have B2 := Lib.hid (below_on B0.out (Nat.le_refl _) hb2); clear hb2)
    | (go_at_call 11; refine (known_any w2).mono ?_; rintro e w3 ⟨rfl, hb3⟩; have B3 := Lib.hid (below_on B2.out (Nat.le_refl _) hb3); clear hb3))
  go_ret
  exact ⟨rfl, B3.out⟩

set_option maxRecDepth 100000 in
set_option maxHeartbeats 4000000 in
theorem walk_ok (y s : Nat) (A : Option Addr) (l : List Int) (N cap : Nat) (w : World) (hN : l.length = N) (hv : Vt y l) (hse : 2 ^ y = s) (hR : Ri w A l) :
    Calls Try.prog 7 #[tb y A N cap] w fun e w' => e = .returned (.bool true) ∧ Below w.heap.size w w' := by
  have hN2 : N ≤ 256 := by rw [← hN]; exact hv.len
  have hy9 := hv.log
  have hd : decide ((600 : Int) < (N : Int)) = false := decide_eq_false (by omega)
  have b1 : Below w.heap.size w (w.alloc (.cells #[.int .i64 (y : Int), .slice A N cap] 24)) := (Below.refl _ w).alloc (Nat.le_refl _) _
  have t1 := Tb.new w (y : Int) A N cap
  obtain ⟨w1, hw1⟩ : ∃ w1, w.alloc (.cells #[.int .i64 (y : Int), .slice A N cap] 24) = w1 := ⟨_, rfl⟩
  rw [hw1] at b1 t1
  have c0 := t1.c0
  have c1 := t1.c1
  have hR1 := hR.below b1
  have hs5 : s ≤ 512 := by rw [← hse]; exact hv.size
  have hs1 : 1 ≤ s := by rw [← hse]; exact Nat.one_le_two_pow
  have MY : Hid (Calls Try.prog 17 #[tb y A N cap, .int .i64 256, .int .i64 9] w1 fun e w' => e = .returned (.int .i64 0) ∧ Below w1.heap.size w1 w') := Lib.hid (by
    have := may_any w1 (y : Int) 256 9 A l N cap hN (by omega) hR1
    rw [vt_iff.2 ⟨y, rfl, hv⟩] at this
    exact this)
  have SP : Hid (∀ W, Below w1.heap.size w1 W → Calls Try.prog 12 #[tb y A N cap] W fun e w' => ∃ g, e = .returned (.tuple #[.slice (some ⟨g, 0, none⟩) s s, .int .i64 0]) ∧ w'.ownsRow W.heap.size 3 1 (.slice (some ⟨g, 0, none⟩) s s) s ((spl s l).map nv) ∧ Below W.heap.size W w') := Lib.hid (fun W hb => spread_ok W y s A l N cap hN hv hse (hR1.below hb))
  have SZ : Hid (∀ W, Calls Try.prog 18 #[.int .i64 (y : Int)] W fun e w' => e = .returned (.int .i64 (s : Int)) ∧ w' = W) := Lib.hid (fun W => by
    have := size_any W (y : Int)
    have e : siz (y : Int) = s := by unfold siz; rw [if_neg (by omega)]; simpa using hse
    rw [e] at this
    exact this)
  have HL : Hid ((spl s l).length = s) := Lib.hid (spl_len s l)
  obtain ⟨K, hK⟩ : ∃ K, spl s l = K := ⟨_, rfl⟩
  have HRA : Hid (∀ i, l[i]? = some (-1) → K[s - 1 - (rs 0 (l.take i)).length]? = some i) := Lib.hid (fun i hi => by rw [← hK]; exact spl_rare hv hse (rs_at hi))
  have HOT : Hid (∀ k, k < s - (rs 0 l).length → ∃ x z, K[k]? = some x ∧ l[x]? = some z ∧ 1 ≤ z) := Lib.hid (fun k hk => by rw [← hK]; exact spl_other hv hse hk)
  have htot := hv.total
  rw [hse] at htot
  have HTR : Hid (∀ i, (rs 0 (l.take i)).length ≤ s) := Lib.hid (fun i => by have := rs_take_le l i; omega)
  rw [hK] at SP HL
  have B0 := Lib.hid b1
  have T1 := Lib.hid t1
  have R1 := Lib.hid hR1
  have HN := Lib.hid hN
  clear b1 t1 hR hR1 hN hv hse hK htot
  go_enter Try.func7, Try.ntmps7
  go_wp2_with (first
    | (go_at_call 17; refine MY.out.mono ?_; rintro e w2 ⟨rfl, hb2⟩; have q2 := T1.out.below hb2; have d0 := q2.c0; have d1 := q2.c1; have T2 := Lib.hid q2; have B2 := Lib.hid hb2; clear hb2 q2)
    | (go_at_call 12; refine (SP.out w2 B2.out).mono ?_; rintro e w3 ⟨g, rfl, ho3, hb3⟩; have O3 := Lib.hid ho3; have B3 := Lib.hid (below_on B2.out (Nat.le_refl _) hb3); have q3 := T2.out.below hb3; have e0 := q3.c0; have e1 := q3.c1; clear hb3 ho3 q3)
    | (go_at_call 18; refine (SZ.out _).mono ?_; rintro e w3 ⟨rfl, rfl⟩))
  have R3 := Lib.hid (R1.out.below B3.out)
  clear d0 d1 c0 c1
  go_loopw [5, 6] (fun v u wr => ∃ i r t : Nat, i ≤ N ∧ t + r = s ∧ u = .int .i64 (i : Int) ∧ v = .int .i64 (t : Int) ∧ Hid (r = (rs 0 (l.take i)).length) ∧ wr = w3) (fun _ u _ => N - (intOf u).toNat)
  case atStart => exact ⟨0, 0, s, Nat.zero_le _, rfl, rfl, rfl, Lib.hid rfl, rfl⟩
  case round =>
    obtain ⟨i, r, t, hi, htr, rfl, rfl, HE, hwe⟩ := hrel
    rw [hwe]
    clear hwe
    by_cases hlt : i < N
    · obtain ⟨x, hx⟩ : ∃ x, l[i]? = some x := ⟨_, List.getElem?_eq_getElem (by rw [HN.out]; exact hlt)⟩
      obtain ⟨ad, hA, hcx⟩ := R3.out i (iv x) (by rw [List.getElem?_map, hx]; rfl)
      subst hA
      simp only [iv] at hcx
      have HS := Lib.hid (rs_step hx)
      by_cases h1 : x = -1
      · subst h1
        have hr1 : r + 1 ≤ s := by
          have h1 := HTR.out (i + 1)
          rw [HS.out] at h1
          simp at h1
          have h2 := HE.out
          omega
        obtain ⟨t', rfl⟩ : ∃ t', t = t' + 1 := ⟨t - 1, by omega⟩
        have hce : w3.cell? ⟨g, t', none⟩ = some (.int .i64 (i : Int)) := by
          rw [O3.out.cellAt t' (by omega), List.getElem?_map]
          have h3 := HRA.out i hx
          rw [← HE.out, show s - 1 - r = t' by omega] at h3
          rw [h3]
          rfl
        have hte : ((t' + 1 : Nat) : Int) - 1 = (t' : Int) := by omega
        have HE2 : Hid (r + 1 = (rs 0 (l.take (i + 1))).length) := Lib.hid (by rw [HS.out, HE.out]; simp)
        have hts : t' < s := by omega
        clear hx HS HE
        go_wp2
        exact ⟨⟨i + 1, r + 1, t', by omega, by omega, by simp, by simp, HE2, trivial⟩, by simp [intOf]; omega⟩
      · have e5 : (x == -1) = false := by simp [h1]
        have HQ : Hid (r = (rs 0 (l.take (i + 1))).length) := Lib.hid (by rw [HS.out, if_neg h1, List.append_nil]; exact HE.out)
        clear hx HS HE h1
        go_wp2
        exact ⟨⟨i + 1, r, t, by omega, htr, by simp, rfl, HQ, trivial⟩, by simp [intOf]; omega⟩
    · have HE2 : Hid (t = s - (rs 0 l).length) := Lib.hid (by
        have := HE.out
        rw [List.take_of_length_le (by rw [HN.out]; omega)] at this
        omega)
      have hts : t ≤ s := by omega
      clear HE htr
      go_wp2
      go_loopw [7] (fun u wr => ∃ k d : Nat, k ≤ t ∧ u = .int .i64 (k : Int) ∧ wr = w3.drewN d) (fun u _ => t - (intOf u).toNat)
      case atStart => exact ⟨0, 0, Nat.zero_le _, rfl, rfl⟩
      case round =>
        obtain ⟨k, d, hk, rfl, rfl⟩ := hrel
        by_cases hlt2 : k < t
        · obtain ⟨x, z, h1, h2, h3⟩ := HOT.out k (by rw [← HE2.out]; exact hlt2)
          have hxN : x < N := by rw [← HN.out]; exact (List.getElem?_eq_some_iff.1 h2).1
          obtain ⟨ad, hA, hcx⟩ := R3.out x (iv z) (by rw [List.getElem?_map, h2]; rfl)
          subst hA
          simp only [iv] at hcx
          have hce : w3.cell? ⟨g, k, none⟩ = some (.int .i64 (x : Int)) := by
            rw [O3.out.cellAt k (by omega), List.getElem?_map, h1]
            rfl
          have g1 : decide ((x : Int) < 0) = false := decide_eq_false (by omega)
          have g2 : decide ((N : Int) ≤ (x : Int)) = false := decide_eq_false (by omega)
          have g3 : decide (z < 1) = false := decide_eq_false (by omega)
          have g4 : decide (N ≤ x) = false := decide_eq_false (by omega)
          have wi : IntKind.i64.wrap (k : Int) = (k : Int) := IntWalk.i64_in _ (by omega)
          have wx : IntKind.i64.wrap (x : Int) = (x : Int) := IntWalk.i64_in _ (by omega)
          clear h1 h2
          go_wp2
          go_quiet (fail)
          go_wp2
          exact ⟨⟨k + 1, _, by omega, by simp, rfl⟩, by simp [intOf]; omega⟩
        · go_wp2_with (go_at_call 11; refine (known_any _).mono ?_; rintro e w9 ⟨rfl, hb9⟩; have B9 := Lib.hid (below_on B0.out (Nat.le_refl _) (below_on (below_drewN' B3.out d) (Nat.le_refl _) hb9)); clear hb9)
          go_ret
          exact ⟨rfl, B9.out⟩

theorem walk (y : Int) (A : Option Addr) (l : List Int) (cap : Nat) (w : World) (hR : Ri w A l) (_ : ∀ z ∈ l, -9223372036854775808 ≤ z ∧ z ≤ 9223372036854775807) (_ : l.length ≤ cap) :
    Calls Try.prog 7 #[tb y A l.length cap] w fun e w' => e = .returned (.bool true) ∧ Below w.heap.size w w' := by
  by_cases h : 600 < l.length
  · exact walk_long y A _ cap w h
  · cases hv : vt y l 256 9 with
    | false => exact walk_bad y A l _ cap w rfl (by omega) hv hR
    | true =>
      obtain ⟨n, rfl, hv2⟩ := vt_iff.1 hv
      exact walk_ok n _ A l _ cap w rfl hv2 rfl hR
set_option maxRecDepth 100000 in
theorem lifted (os : Os) (started : os.Started) (H : Type) (enc : TypeId × Value → H) :
    ReturnsInHanded {} Try.checked os 7 .any (Rows.spreadRareSpec.pre6 enc Try.prog Try.f7 Rows.spreadRareRow.domain false) (Rows.spreadRareSpec.post enc Try.prog Try.f7 false true false false) := by
  refine returnsInHanded_of_change_sized (C := Try.checked) ownB started (by kernel_rfl) Try.func7
    (ChangeSpec.witness6 (enc := enc) (C := Try.checked) false ⟨#[], #[.agg #[.int .i64 0, .slice none 0 0]], []⟩ 8 (by kernel_rfl) (by kernel_rfl) (by kernel_rfl) (by kernel_rfl)) ?_
  intro W base args ds gs before hval0 hW _ hsz0 _
  have hsz : (DataW.weightsEach Try.prog (Try.f7.params.toList ++ Rows.spreadRareSpec.plain.varTypes Try.prog) (ds ++ gs)).all (· ≤ reachBytes) = true := hsz0
  clear hsz0
  have hval : ∀ (j : Nat) t v, Try.f7.params[j]? = some t → args[j]? = some v → Value.okWide Try.prog W .any base t v := hval0
  have hW' := hW
  obtain ⟨p, q, hA0, hV, rfl, hfz, hnd⟩ := hW
  have hA : DataW.TrodAll enc Try.prog W 0 (fun _ => true) true Try.f7.params.toList args.toList ds p := hA0
  rw [Try.params7] at hA hval hsz
  obtain ⟨v0, vs0, d0, ds0, p0, q0, hargs, rfl, rfl, h0, r0⟩ := trodAll_cons hA
  obtain ⟨rfl, rfl, rfl⟩ := trodAll_nil r0
  obtain rfl : args = #[v0] := by cases args; simp_all
  obtain ⟨rfl, rfl⟩ := trodVars_none hV
  obtain ⟨cs0, rfl, hcs0⟩ := okWide_struct Try.underlying24 (hval 0 24 v0 rfl rfl)
  have k0 := h0
  have lt0 : ∀ x ∈ p0, x.block < W.heap.size := by obtain ⟨m, hm⟩ := k0; exact DataW.trod_lt m _ _ _ hm
  obtain ⟨y0, a0, len0, cap0, l0, rfl, rfl, hc0, ri0, wi0⟩ := open_tab hcs0 h0
  clear hA0 hval0
  refine (walk y0 a0 l0 cap0 W ri0 wi0 hc0).mono fun e W' ⟨he, bel⟩ => ?_
  subst he
  exact ⟨_, rfl, _, _, _, [], _, [], hW', trodAll_mk1 (shut_bool Try.underlying4 _), (trodAll_cons_mk (Below.trod laidOut (by kernel_rfl) (of_decide_eq_true (by kernel_rfl)) k0 bel lt0) trodAll_mk0), rfl, bel.frame _, fun h => by cases h⟩

theorem proved : Rows.SpreadRareSaid :=
  OpenClaim.holds_of_wide 7 Try.f7 rfl rfl rfl rfl rfl rfl rfl ⟨rfl, rfl, rfl, rfl, rfl⟩ rfl rfl rfl rfl rfl (by kernel_rfl) Try.func7 (by kernel_rfl)
    (of_decide_eq_true (by kernel_rfl)) (by unfold Func.isWrapper; rw [if_neg (by decide +kernel)]; exact ⟨rfl, rfl⟩)
    (fun os started H enc _ => lifted os started H enc)

#print axioms proved

end Go.Proofs.Ytpiebkkaileocaa.spreadRare
