/-
  Proved: the law SpreadOrder returns true for all tables: without rare symbols the symbols do not decrease in visiting order. No condition.
-/
import Derived.Test.YtpiebkkaileocaaFrm
import Derived.Test.YtpiebkkaileocaaRaq
namespace Go.Proofs.Ytpiebkkaileocaa.spreadOrder
open Go.ChangeShapes Go.WideShapes Go.ChangeAt Go.RowKit

set_option maxRecDepth 100000 in
set_option maxHeartbeats 4000000 in
theorem walk_long (y : Int) (A : Option Addr) (N cap : Nat) (w : World) (h : 600 < N) :
    Calls Try.prog 8 #[tb y A N cap] w fun e w' => e = .returned (.bool true) ∧ Below w.heap.size w w' := by
  have hd : decide ((600 : Int) < (N : Int)) = true := decide_eq_true (by omega)
  have b1 : Below w.heap.size w (w.alloc (.cells #[.int .i64 y, .slice A N cap] 24)) := (Below.refl _ w).alloc (Nat.le_refl _) _
  have t1 := Tb.new w y A N cap
  obtain ⟨w1, hw1⟩ : ∃ w1, w.alloc (.cells #[.int .i64 y, .slice A N cap] 24) = w1 := ⟨_, rfl⟩
  rw [hw1] at b1 t1
  have c0 := t1.c0
  have c1 := t1.c1
  have KN := Lib.hid (known_any w1)
  have B0 := Lib.hid b1
  clear b1 t1
  go_enter Try.func8, Try.ntmps8
  go_wp2_with (go_at_call 11; refine KN.out.mono ?_; rintro e w2 ⟨rfl, hb2⟩; have B1 := Lib.hid (below_on B0.out (Nat.le_refl _) hb2); clear hb2)
  go_ret
  exact ⟨rfl, B1.out⟩

set_option maxRecDepth 100000 in
set_option maxHeartbeats 4000000 in
theorem walk_bad (y : Int) (A : Option Addr) (l : List Int) (N cap : Nat) (w : World) (hN : l.length = N) (h : N ≤ 600) (hv : vt y l 256 9 = false) (hR : Ri w A l) :
    Calls Try.prog 8 #[tb y A N cap] w fun e w' => e = .returned (.bool true) ∧ Below w.heap.size w w' := by
  have hd : decide ((600 : Int) < (N : Int)) = false := decide_eq_false (by omega)
  have b1 : Below w.heap.size w (w.alloc (.cells #[.int .i64 y, .slice A N cap] 24)) := (Below.refl _ w).alloc (Nat.le_refl _) _
  have t1 := Tb.new w y A N cap
  obtain ⟨w1, hw1⟩ : ∃ w1, w.alloc (.cells #[.int .i64 y, .slice A N cap] 24) = w1 := ⟨_, rfl⟩
  rw [hw1] at b1 t1
  have c0 := t1.c0
  have c1 := t1.c1
  have MY : Hid (Calls Try.prog 17 #[tb y A N cap, .int .i64 256, .int .i64 9] w1 fun e w' => e = .returned (.int .i64 13) ∧ Below w1.heap.size w1 w') := Lib.hid (by
    have := may_any w1 y 256 9 A l N cap hN (by omega) (hR.below b1)
    rw [hv] at this
    exact this)
  have B0 := Lib.hid b1
  clear b1 t1 hR hN hv
  go_enter Try.func8, Try.ntmps8
  go_wp2_with (first
    | (go_at_call 17; refine MY.out.mono ?_; rintro e w2 ⟨rfl, hb2⟩; have B2 := Lib.hid (below_on B0.out (Nat.le_refl _) hb2); clear hb2)
    | (go_at_call 11; refine (known_any w2).mono ?_; rintro e w3 ⟨rfl, hb3⟩; have B3 := Lib.hid (below_on B2.out (Nat.le_refl _) hb3); clear hb3))
  go_ret
  exact ⟨rfl, B3.out⟩

set_option maxRecDepth 100000 in
set_option maxHeartbeats 4000000 in
theorem walk_ok (y s : Nat) (A : Option Addr) (l : List Int) (N cap : Nat) (w : World) (hN : l.length = N) (hv : Vt y l) (hse : 2 ^ y = s) (hR : Ri w A l) :
    Calls Try.prog 8 #[tb y A N cap] w fun e w' => e = .returned (.bool true) ∧ Below w.heap.size w w' := by
  have hN2 : N ≤ 256 := by rw [← hN]; exact hv.len
  have hy9 := hv.log
  have hd : decide ((600 : Int) < (N : Int)) = false := decide_eq_false (by omega)
  have b1 : Below w.heap.size w (w.alloc (.cells #[.int .i64 (y : Int), .slice A N cap] 24)) := (Below.refl _ w).alloc (Nat.le_refl _) _
  have t1 := Tb.new w (y : Int) A N cap
  obtain ⟨w1, hw1⟩ : ∃ w1, w.alloc (.cells #[.int .i64 (y : Int), .slice A N cap] 24) = w1 := ⟨_, rfl⟩
  rw [hw1] at b1 t1
  have c0 := t1.c0
  have c1 := t1.c1
  have hR1 := hR.below b1
  have hs5 : s ≤ 512 := by rw [← hse]; exact hv.size
  have hs1 : 1 ≤ s := by rw [← hse]; exact Nat.one_le_two_pow
  have MY : Hid (Calls Try.prog 17 #[tb y A N cap, .int .i64 256, .int .i64 9] w1 fun e w' => e = .returned (.int .i64 0) ∧ Below w1.heap.size w1 w') := Lib.hid (by
    have := may_any w1 (y : Int) 256 9 A l N cap hN (by omega) hR1
    rw [vt_iff.2 ⟨y, rfl, hv⟩] at this
    exact this)
  have SP : Hid (∀ W, Below w1.heap.size w1 W → Calls Try.prog 12 #[tb y A N cap] W fun e w' => ∃ g, e = .returned (.tuple #[.slice (some ⟨g, 0, none⟩) s s, .int .i64 0]) ∧ w'.ownsRow W.heap.size 3 1 (.slice (some ⟨g, 0, none⟩) s s) s ((spl s l).map nv) ∧ Below W.heap.size W w') := Lib.hid (fun W hb => spread_ok W y s A l N cap hN hv hse (hR1.below hb))
  have SZ : Hid (∀ W, Calls Try.prog 18 #[.int .i64 (y : Int)] W fun e w' => e = .returned (.int .i64 (s : Int)) ∧ w' = W) := Lib.hid (fun W => by
    have := size_any W (y : Int)
    have e : siz (y : Int) = s := by unfold siz; rw [if_neg (by omega)]; simpa using hse
    rw [e] at this
    exact this)
  have HL : Hid ((spl s l).length = s) := Lib.hid (spl_len s l)
  obtain ⟨K, hK⟩ : ∃ K, spl s l = K := ⟨_, rfl⟩
  have HOR : Hid ((∀ x ∈ l, 0 ≤ x) → ∀ j, j < s → ∃ x, (ors 0 l)[j]? = some x ∧ K[vi s j]? = some x) := Lib.hid (fun h => by rw [← hK]; exact (spl_order hv hse h).2)
  have HSM : Hid (∀ x ∈ ors 0 l, x ≤ 1000) := Lib.hid (ors_small hv)
  have HSO : Hid ((ors 0 l).Pairwise (· ≤ ·)) := Lib.hid (ors_sorted l 0)
  rw [hK] at SP HL
  obtain ⟨p, hp⟩ : ∃ p, stp s = p := ⟨_, rfl⟩
  have hpb : p ≤ 1000 := by rw [← hp]; exact stp_le hs5
  have SS : Hid (∀ W, Calls Try.prog 21 #[.int .i64 (s : Int)] W fun e w' => e = .returned (.int .i64 (p : Int)) ∧ w' = W) := Lib.hid (fun W => by
    have := rstep_any W (s : Int)
    rw [stz_nat hs5, hp] at this
    exact this)
  have HP := Lib.hid hp
  have B0 := Lib.hid b1
  have T1 := Lib.hid t1
  have R1 := Lib.hid hR1
  have HN := Lib.hid hN
  clear b1 t1 hR hR1 hN hv hse hK hp
  go_enter Try.func8, Try.ntmps8
  go_wp2_with (go_at_call 17; refine MY.out.mono ?_; rintro e w2 ⟨rfl, hb2⟩; have q2 := T1.out.below hb2; have d0 := q2.c0; have d1 := q2.c1; have T2 := Lib.hid q2; have B2 := Lib.hid hb2; clear hb2 q2)
  have R2 := Lib.hid (R1.out.below B2.out)
  clear c0 c1
  go_loopw [3] (fun u wr => ∃ i : Nat, i ≤ N ∧ u = .int .i64 (i : Int) ∧ Hid (∀ x ∈ l.take i, 0 ≤ x) ∧ wr = w2) (fun u _ => N - (intOf u).toNat)
  case atStart => exact ⟨0, Nat.zero_le _, rfl, Lib.hid (by simp), rfl⟩
  case round =>
    obtain ⟨i, hi, rfl, HX, hwe⟩ := hrel
    rw [hwe]
    clear hwe
    by_cases hlt : i < N
    · obtain ⟨x, hx⟩ : ∃ x, l[i]? = some x := ⟨_, List.getElem?_eq_getElem (by rw [HN.out]; exact hlt)⟩
      obtain ⟨ad, hA, hcx⟩ := R2.out i (iv x) (by rw [List.getElem?_map, hx]; rfl)
      subst hA
      simp only [iv] at hcx
      by_cases h1 : x < 0
      · have g1 : decide (x < 0) = true := decide_eq_true h1
        clear hx
        go_wp2_with (go_at_call 11; refine (known_any _).mono ?_; rintro e w9 ⟨rfl, hb9⟩; have B9 := Lib.hid (below_on B0.out (Nat.le_refl _) (below_on B2.out (Nat.le_refl _) hb9)); clear hb9)
        go_ret
        exact ⟨rfl, B9.out⟩
      · have g1 : decide (x < 0) = false := decide_eq_false h1
        have HX2 : Hid (∀ x ∈ l.take (i + 1), 0 ≤ x) := Lib.hid (fun u hu => by
          rw [take_succ_get hx] at hu
          rcases List.mem_append.1 hu with h2 | h2
          · exact HX.out u h2
          · rw [List.mem_singleton] at h2; omega)
        clear hx h1
        go_wp2
        exact ⟨⟨i + 1, by omega, by simp, HX2, trivial⟩, by simp [intOf]; omega⟩
    · have HV := Lib.hid (HOR.out (by have := HX.out; rwa [List.take_of_length_le (by rw [HN.out]; omega)] at this))
      clear HX HOR
      go_wp2_with (first
        | (go_at_call 12; refine (SP.out w2 B2.out).mono ?_; rintro e w3 ⟨g, rfl, ho3, hb3⟩; have O3 := Lib.hid ho3; have B3 := Lib.hid (below_on B2.out (Nat.le_refl _) hb3); have q3 := T2.out.below hb3; have e0 := q3.c0; have e1 := q3.c1; clear hb3 ho3 q3)
        | (go_at_call 18; refine (SZ.out _).mono ?_; rintro e w3 ⟨rfl, rfl⟩))
      go_loopw [6, 7] (fun v u wr => ∃ i t : Nat, i ≤ s ∧ t ≤ 1000000 ∧ u = .int .i64 (i : Int) ∧ v = .int .i64 (t : Int) ∧ Hid (∀ j x, i ≤ j → (ors 0 l)[j]? = some x → t ≤ x) ∧ wr = w3) (fun _ u _ => s - (intOf u).toNat)
      case atStart => exact ⟨0, 0, Nat.zero_le _, Nat.zero_le _, rfl, rfl, Lib.hid (fun _ _ _ _ => Nat.zero_le _), rfl⟩
      case round =>
        obtain ⟨i, t, hi, ht, rfl, rfl, HT, hwe⟩ := hrel
        rw [hwe]
        clear hwe
        by_cases hlt2 : i < s
        · obtain ⟨x, h1, h2⟩ := HV.out i hlt2
          obtain ⟨v, hv⟩ : ∃ v, vi s i = v := ⟨_, rfl⟩
          have hvs : v < s := by rw [← hv]; exact vi_lt (by omega) _
          rw [hv] at h2
          have hce : w3.cell? ⟨g, v, none⟩ = some (.int .i64 (x : Int)) := by
            rw [O3.out.cellAt v (by omega), List.getElem?_map, h2]
            rfl
          have hxb : x ≤ 1000000 := by
            have := HSM.out x (List.mem_of_getElem? h1)
            omega
          obtain ⟨P, hPe⟩ : ∃ P, i * p = P := ⟨_, rfl⟩
          have hPb : P ≤ 1000000 := by rw [← hPe]; have := Nat.mul_le_mul hi (show p ≤ 1000 from hpb); have h9 := Nat.mul_le_mul_right 1000 hs5; omega
          have hPi : (i : Int) * (p : Int) = (P : Int) := by rw [← hPe]; exact (Int.natCast_mul i p).symm
          have hmod2 : Int.tmod (P : Int) (s : Int) = (v : Int) := by
            rw [Int.tmod_eq_emod_of_nonneg (by omega), ← hv, ← hPe, ← HP.out]
            unfold vi
            rw [Int.natCast_emod]
          have hs0 : ¬ (s : Int) = 0 := by omega
          have g1 : ¬ x < t := by have := HT.out i x (Nat.le_refl _) h1; omega
          have HT2 : Hid (∀ j u, i + 1 ≤ j → (ors 0 l)[j]? = some u → x ≤ u) := Lib.hid (fun j u hj hu => by
            obtain ⟨hi1, he1⟩ := List.getElem?_eq_some_iff.1 h1
            obtain ⟨hj1, he2⟩ := List.getElem?_eq_some_iff.1 hu
            have := List.pairwise_iff_getElem.1 HSO.out i j hi1 hj1 (by omega)
            rw [he1, he2] at this
            exact this)
          clear h1 h2 hv hPe HT
          go_wp2_with (go_at_call 21; refine (SS.out _).mono ?_; rintro e w3 ⟨rfl, rfl⟩)
          exact ⟨⟨i + 1, x, by omega, hxb, by simp, rfl, HT2, trivial⟩, by simp [intOf]; omega⟩
        · go_wp2_with (go_at_call 11; refine (known_any _).mono ?_; rintro e w9 ⟨rfl, hb9⟩; have B9 := Lib.hid (below_on B0.out (Nat.le_refl _) (below_on B3.out (Nat.le_refl _) hb9)); clear hb9)
          go_ret
          exact ⟨rfl, B9.out⟩

theorem walk (y : Int) (A : Option Addr) (l : List Int) (cap : Nat) (w : World) (hR : Ri w A l) (_ : ∀ z ∈ l, -9223372036854775808 ≤ z ∧ z ≤ 9223372036854775807) (_ : l.length ≤ cap) :
    Calls Try.prog 8 #[tb y A l.length cap] w fun e w' => e = .returned (.bool true) ∧ Below w.heap.size w w' := by
  by_cases h : 600 < l.length
  · exact walk_long y A _ cap w h
  · cases hv : vt y l 256 9 with
    | false => exact walk_bad y A l _ cap w rfl (by omega) hv hR
    | true =>
      obtain ⟨n, rfl, hv2⟩ := vt_iff.1 hv
      exact walk_ok n _ A l _ cap w rfl hv2 rfl hR
set_option maxRecDepth 100000 in
theorem lifted (os : Os) (started : os.Started) (H : Type) (enc : TypeId × Value → H) :
    ReturnsInHanded {} Try.checked os 8 .any (Rows.spreadOrderSpec.pre6 enc Try.prog Try.f8 Rows.spreadOrderRow.domain false) (Rows.spreadOrderSpec.post enc Try.prog Try.f8 false true false false) := by
  refine returnsInHanded_of_change_sized (C := Try.checked) ownB started (by kernel_rfl) Try.func8
    (ChangeSpec.witness6 (enc := enc) (C := Try.checked) false ⟨#[], #[.agg #[.int .i64 0, .slice none 0 0]], []⟩ 8 (by kernel_rfl) (by kernel_rfl) (by kernel_rfl) (by kernel_rfl)) ?_
  intro W base args ds gs before hval0 hW _ hsz0 _
  have hsz : (DataW.weightsEach Try.prog (Try.f8.params.toList ++ Rows.spreadOrderSpec.plain.varTypes Try.prog) (ds ++ gs)).all (· ≤ reachBytes) = true := hsz0
  clear hsz0
  have hval : ∀ (j : Nat) t v, Try.f8.params[j]? = some t → args[j]? = some v → Value.okWide Try.prog W .any base t v := hval0
  have hW' := hW
  obtain ⟨p, q, hA0, hV, rfl, hfz, hnd⟩ := hW
  have hA : DataW.TrodAll enc Try.prog W 0 (fun _ => true) true Try.f8.params.toList args.toList ds p := hA0
  rw [Try.params8] at hA hval hsz
  obtain ⟨v0, vs0, d0, ds0, p0, q0, hargs, rfl, rfl, h0, r0⟩ := trodAll_cons hA
  obtain ⟨rfl, rfl, rfl⟩ := trodAll_nil r0
  obtain rfl : args = #[v0] := by cases args; simp_all
  obtain ⟨rfl, rfl⟩ := trodVars_none hV
  obtain ⟨cs0, rfl, hcs0⟩ := okWide_struct Try.underlying24 (hval 0 24 v0 rfl rfl)
  have k0 := h0
  have lt0 : ∀ x ∈ p0, x.block < W.heap.size := by obtain ⟨m, hm⟩ := k0; exact DataW.trod_lt m _ _ _ hm
  obtain ⟨y0, a0, len0, cap0, l0, rfl, rfl, hc0, ri0, wi0⟩ := open_tab hcs0 h0
  clear hA0 hval0
  refine (walk y0 a0 l0 cap0 W ri0 wi0 hc0).mono fun e W' ⟨he, bel⟩ => ?_
  subst he
  exact ⟨_, rfl, _, _, _, [], _, [], hW', trodAll_mk1 (shut_bool Try.underlying4 _), (trodAll_cons_mk (Below.trod laidOut (by kernel_rfl) (of_decide_eq_true (by kernel_rfl)) k0 bel lt0) trodAll_mk0), rfl, bel.frame _, fun h => by cases h⟩

theorem proved : Rows.SpreadOrderSaid :=
  OpenClaim.holds_of_wide 8 Try.f8 rfl rfl rfl rfl rfl rfl rfl ⟨rfl, rfl, rfl, rfl, rfl⟩ rfl rfl rfl rfl rfl (by kernel_rfl) Try.func8 (by kernel_rfl)
    (of_decide_eq_true (by kernel_rfl)) (by unfold Func.isWrapper; rw [if_neg (by decide +kernel)]; exact ⟨rfl, rfl⟩)
    (fun os started H enc _ => lifted os started H enc)

#print axioms proved

end Go.Proofs.Ytpiebkkaileocaa.spreadOrder
