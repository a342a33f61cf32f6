/-
  Proved: the law SpreadCounts returns true for all tables: every index has a symbol, and every symbol as many indices as states. No condition.
-/
import Derived.Test.YtpiebkkaileocaaFrm
import Derived.Test.YtpiebkkaileocaaCnt
namespace Go.Proofs.Ytpiebkkaileocaa.spreadCounts
open Go.ChangeShapes Go.WideShapes Go.ChangeAt Go.RowKit

set_option maxRecDepth 100000 in
set_option maxHeartbeats 4000000 in
theorem walk_long (y : Int) (A : Option Addr) (N cap : Nat) (w : World) (h : 600 < N) :
    Calls Try.prog 5 #[tb y A N cap] w fun e w' => e = .returned (.bool true) ∧ Below w.heap.size w w' := by
  have hd : decide ((600 : Int) < (N : Int)) = true := decide_eq_true (by omega)
  have b1 : Below w.heap.size w (w.alloc (.cells #[.int .i64 y, .slice A N cap] 24)) := (Below.refl _ w).alloc (Nat.le_refl _) _
  have t1 := Tb.new w y A N cap
  obtain ⟨w1, hw1⟩ : ∃ w1, w.alloc (.cells #[.int .i64 y, .slice A N cap] 24) = w1 := ⟨_, rfl⟩
  rw [hw1] at b1 t1
  have c0 := t1.c0
  have c1 := t1.c1
  have KN := Lib.hid (known_any w1)
  have B0 := Lib.hid b1
  clear b1 t1
  go_enter Try.func5, Try.ntmps5
  go_wp2_with (go_at_call 11; refine KN.out.mono ?_; rintro e w2 ⟨rfl, hb2⟩; have B1 := Lib.hid (below_on B0.out (Nat.le_refl _) hb2); clear hb2)
  go_ret
  exact ⟨rfl, B1.out⟩

set_option maxRecDepth 100000 in
set_option maxHeartbeats 4000000 in
theorem walk_bad (y : Int) (A : Option Addr) (l : List Int) (N cap : Nat) (w : World) (hN : l.length = N) (h : N ≤ 600) (hv : vt y l 256 9 = false) (hR : Ri w A l) :
    Calls Try.prog 5 #[tb y A N cap] w fun e w' => e = .returned (.bool true) ∧ Below w.heap.size w w' := by
  have hd : decide ((600 : Int) < (N : Int)) = false := decide_eq_false (by omega)
  have b1 : Below w.heap.size w (w.alloc (.cells #[.int .i64 y, .slice A N cap] 24)) := (Below.refl _ w).alloc (Nat.le_refl _) _
  have t1 := Tb.new w y A N cap
  obtain ⟨w1, hw1⟩ : ∃ w1, w.alloc (.cells #[.int .i64 y, .slice A N cap] 24) = w1 := ⟨_, rfl⟩
  rw [hw1] at b1 t1
  have c0 := t1.c0
  have c1 := t1.c1
  have MY : Hid (Calls Try.prog 17 #[tb y A N cap, .int .i64 256, .int .i64 9] w1 fun e w' => e = .returned (.int .i64 13) ∧ Below w1.heap.size w1 w') := Lib.hid (by
    have := may_any w1 y 256 9 A l N cap hN (by omega) (hR.below b1)
    rw [hv] at this
    exact this)
  have B0 := Lib.hid b1
  clear b1 t1 hR hN hv
  go_enter Try.func5, Try.ntmps5
  go_wp2_with (first
    | (go_at_call 17; refine MY.out.mono ?_; rintro e w2 ⟨rfl, hb2⟩; have B2 := Lib.hid (below_on B0.out (Nat.le_refl _) hb2); clear hb2)
    | (go_at_call 11; refine (known_any w2).mono ?_; rintro e w3 ⟨rfl, hb3⟩; have B3 := Lib.hid (below_on B2.out (Nat.le_refl _) hb3); clear hb3))
  go_ret
  exact ⟨rfl, B3.out⟩

set_option maxRecDepth 100000 in
set_option maxHeartbeats 4000000 in
theorem walk_ok (y s : Nat) (A : Option Addr) (l : List Int) (N cap : Nat) (w : World) (hN : l.length = N) (hv : Vt y l) (hse : 2 ^ y = s) (hR : Ri w A l) :
    Calls Try.prog 5 #[tb y A N cap] w fun e w' => e = .returned (.bool true) ∧ Below w.heap.size w w' := by
  have hN2 : N ≤ 256 := by rw [← hN]; exact hv.len
  have hy9 := hv.log
  have hd : decide ((600 : Int) < (N : Int)) = false := decide_eq_false (by omega)
  have b1 : Below w.heap.size w (w.alloc (.cells #[.int .i64 (y : Int), .slice A N cap] 24)) := (Below.refl _ w).alloc (Nat.le_refl _) _
  have t1 := Tb.new w (y : Int) A N cap
  obtain ⟨w1, hw1⟩ : ∃ w1, w.alloc (.cells #[.int .i64 (y : Int), .slice A N cap] 24) = w1 := ⟨_, rfl⟩
  rw [hw1] at b1 t1
  have c0 := t1.c0
  have c1 := t1.c1
  have hR1 := hR.below b1
  have hs5 : s ≤ 512 := by rw [← hse]; exact hv.size
  have hs1 : 1 ≤ s := by rw [← hse]; exact Nat.one_le_two_pow
  have MY : Hid (Calls Try.prog 17 #[tb y A N cap, .int .i64 256, .int .i64 9] w1 fun e w' => e = .returned (.int .i64 0) ∧ Below w1.heap.size w1 w') := Lib.hid (by
    have := may_any w1 (y : Int) 256 9 A l N cap hN (by omega) hR1
    rw [vt_iff.2 ⟨y, rfl, hv⟩] at this
    exact this)
  have SP : Hid (∀ W, Below w1.heap.size w1 W → Calls Try.prog 12 #[tb y A N cap] W fun e w' => ∃ g, e = .returned (.tuple #[.slice (some ⟨g, 0, none⟩) s s, .int .i64 0]) ∧ w'.ownsRow W.heap.size 3 1 (.slice (some ⟨g, 0, none⟩) s s) s ((spl s l).map nv) ∧ Below W.heap.size W w') := Lib.hid (fun W hb => spread_ok W y s A l N cap hN hv hse (hR1.below hb))
  have SZ : Hid (∀ W, Calls Try.prog 18 #[.int .i64 (y : Int)] W fun e w' => e = .returned (.int .i64 (s : Int)) ∧ w' = W) := Lib.hid (fun W => by
    have := size_any W (y : Int)
    have e : siz (y : Int) = s := by unfold siz; rw [if_neg (by omega)]; simpa using hse
    rw [e] at this
    exact this)
  have HL : Hid ((spl s l).length = s) := Lib.hid (spl_len s l)
  have PO : Hid (∀ W (z : Nat), Below w1.heap.size w1 W → Calls Try.prog 15 #[tb y A N cap, .int .i64 (z : Int)] W fun e w' => ∃ A' r c', e = .returned (.tuple #[.slice A' r c', .int .i64 0]) ∧ r = (spl s l).count z ∧ Below W.heap.size W w') := Lib.hid (fun W z hb => by
    refine (pos_ok W y s A l N cap (z : Int) hN hv hse (hR1.below hb)).mono ?_
    rintro e w' ⟨A', r, c', rfl, ho, hb'⟩
    refine ⟨A', r, c', rfl, ?_, hb'⟩
    have := ho.1
    rw [← pls_count z (spl s l) 0]
    simpa using this.symm)
  have HC : Hid (∀ k x, l[k]? = some x → (((spl s l).count k : Nat) : Int) = sts x) := Lib.hid (fun k x hx => by
    have := hv.count k
    rw [hse, hx] at this
    exact this)
  have HLT : Hid (∀ x ∈ spl s l, x < N) := Lib.hid (fun x hx => by rw [← hN]; rw [← hse] at hx; exact spl_lt hv hx)
  have HCL : Hid (∀ k, (spl s l).count k ≤ 512) := Lib.hid (fun k => Nat.le_trans List.count_le_length (by rw [spl_len]; exact hs5))
  obtain ⟨K, hK⟩ : ∃ K, spl s l = K := ⟨_, rfl⟩
  rw [hK] at SP HL PO HC HLT HCL
  have MK : Hid (∀ W : World, ∃ w', (Instr.makeSlice 22 (.int .i64 (N : Int)) (.int .i64 (N : Int))).run Try.prog W = .ok (.slice (some ⟨W.heap.size, 0, none⟩) N N) w' ∧ w'.ownsRow W.heap.size 3 1 (.slice (some ⟨W.heap.size, 0, none⟩) N N) N ((cn N K 0).map nv) ∧ Below W.heap.size W w') := Lib.hid (fun W => by
    have := make_ints N (by omega) W
    have e : (List.replicate N (0 : Int)).map iv = (cn N K 0).map nv := by rw [cn_zero]; simp
    rw [e] at this
    exact this)
  have STS : Hid (∀ W (x : Int), Calls Try.prog 19 #[.int .i64 x] W fun e w' => e = .returned (.int .i64 (sts x)) ∧ w' = W) := Lib.hid (fun W x => rstates_any W x)
  have B0 := Lib.hid b1
  have T1 := Lib.hid t1
  have R1 := Lib.hid hR1
  have HN := Lib.hid hN
  clear b1 t1 hR hR1 hN hv hse hK
  go_enter Try.func5, Try.ntmps5
  go_wp2_with (first
    | (go_at_call 17; refine MY.out.mono ?_; rintro e w2 ⟨rfl, hb2⟩; have q2 := T1.out.below hb2; have d0 := q2.c0; have d1 := q2.c1; have T2 := Lib.hid q2; have B2 := Lib.hid hb2; clear hb2 q2)
    | (go_at_call 12; refine (SP.out w2 B2.out).mono ?_; rintro e w3 ⟨g, rfl, ho3, hb3⟩; have O3 := Lib.hid ho3; have B3 := Lib.hid (below_on B2.out (Nat.le_refl _) hb3); have q3 := T2.out.below hb3; have e0 := q3.c0; have e1 := q3.c1; obtain ⟨w4, mk, ho4, hb4⟩ := MK.out w3; have O4 := Lib.hid ho4; have B4 := Lib.hid hb4; clear hb3 ho3 q3 ho4 hb4)
    | (go_at_call 18; refine (SZ.out _).mono ?_; rintro e w3 ⟨rfl, rfl⟩))
  obtain ⟨h, hh⟩ : ∃ h, w3.heap.size = h := ⟨_, rfl⟩
  have HH : Hid (w3.heap.size = h) := Lib.hid hh
  simp only [hh] at mk O4 ⊢
  clear hh mk d0 d1 e0 e1 c0 c1
  go_loopw [6] (fun u wr => ∃ i : Nat, i ≤ s ∧ u = .int .i64 (i : Int) ∧ Hid (wr.ownsRow h 3 1 (.slice (some ⟨h, 0, none⟩) N N) N ((cn N K i).map nv)) ∧ Hid (Below w3.heap.size w3 wr)) (fun u _ => s - (intOf u).toNat)
  case atStart => exact ⟨0, Nat.zero_le _, rfl, O4, B4⟩
  case round =>
    obtain ⟨i, hi, rfl, HO, HB⟩ := hrel
    by_cases hlt : i < s
    · obtain ⟨x, hx⟩ : ∃ x, K[i]? = some x := ⟨_, List.getElem?_eq_getElem (by rw [HL.out]; exact hlt)⟩
      have hxN := HLT.out x (List.mem_of_getElem? hx)
      have hce : wr.cell? ⟨g, i, none⟩ = some (.int .i64 (x : Int)) := by
        have h5 := O3.out.cellAt i (by omega)
        rw [List.getElem?_map, hx] at h5
        exact (HB.out.cell (cell_lt h5)).trans h5
      obtain ⟨q, hq⟩ : ∃ q, (K.take i).count x = q := ⟨_, rfl⟩
      have hcn : wr.cell? ⟨h, x, none⟩ = some (.int .i64 (q : Int)) := by
        rw [HO.out.cellAt x (by omega), List.getElem?_map, cn_get K i hxN, hq]
        rfl
      have hq5 : q ≤ 512 := by rw [← hq]; have := List.count_le_length (a := x) (l := K.take i); rw [List.length_take] at this; omega
      have hfr := HO.out.frozenAt x
      obtain ⟨w5, hw5⟩ : ∃ w5, wr.setCell ⟨h, x, none⟩ (.int .i64 ((q : Int) + 1)) = w5 := ⟨_, rfl⟩
      have O5 : Hid (w5.ownsRow h 3 1 (.slice (some ⟨h, 0, none⟩) N N) N ((cn N K (i + 1)).map nv)) := Lib.hid (by
        rw [← cn_set hx, hq, List.map_set, ← hw5]
        have := (HO.out.stored x (.int .i64 ((q : Int) + 1))).1
        exact this)
      have B5 : Hid (Below w3.heap.size w3 w5) := Lib.hid (by
        rw [← hw5]
        exact HB.out.setCell (p := ⟨h, x, none⟩) (by rw [HH.out]; exact Nat.le_refl _) _)
      have g1 : decide ((x : Int) < 0) = false := decide_eq_false (by omega)
      have g2 : decide ((N : Int) ≤ (x : Int)) = false := decide_eq_false (by omega)
      clear hx hq HO HB
      go_wp2
      exact ⟨⟨i + 1, by omega, by simp, O5, B5⟩, by simp [intOf]; omega⟩
    · have HE : Hid (K.take i = K) := Lib.hid (List.take_of_length_le (by rw [HL.out]; omega))
      obtain ⟨W5, hW5⟩ : ∃ W5, wr = W5 := ⟨_, rfl⟩
      rw [hW5] at HO HB ⊢
      clear hW5
      have O5 : Hid (W5.ownsRow h 3 1 (.slice (some ⟨h, 0, none⟩) N N) N ((cn N K s).map nv)) := Lib.hid (by
        have := HO.out
        rwa [show i = s by omega] at this)
      have B5 := Lib.hid (below_on B3.out (Nat.le_refl _) HB.out)
      have HES : Hid (K.take s = K) := Lib.hid (List.take_of_length_le (by rw [HL.out]; exact Nat.le_refl _))
      clear HO HB HE
      go_wp2
      go_loopw [7] (fun u wr => ∃ i : Nat, i ≤ N ∧ u = .int .i64 (i : Int) ∧ Hid (Below W5.heap.size W5 wr)) (fun u _ => N - (intOf u).toNat)
      case atStart => exact ⟨0, Nat.zero_le _, rfl, Lib.hid (Below.refl _ _)⟩
      case round =>
        obtain ⟨i, hi, rfl, HB6⟩ := hrel
        have B6 := Lib.hid (below_on B5.out (Nat.le_refl _) HB6.out)
        have q6 := T1.out.below B6.out
        have d0 := q6.c0
        have d1 := q6.c1
        have T6 := Lib.hid q6
        clear q6
        by_cases hlt : i < N
        · obtain ⟨x, hx⟩ : ∃ x, l[i]? = some x := ⟨_, List.getElem?_eq_getElem (by rw [HN.out]; exact hlt)⟩
          obtain ⟨q, hq⟩ : ∃ q, K.count i = q := ⟨_, rfl⟩
          have hsx : sts x = (q : Int) := by rw [← hq, HC.out i x hx]
          have hq5 : q ≤ 512 := by rw [← hq]; exact HCL.out i
          have P6 : Hid (Calls Try.prog 15 #[tb y A N cap, .int .i64 (i : Int)] wr fun e w' => ∃ A' c', e = .returned (.tuple #[.slice A' q c', .int .i64 0]) ∧ Below wr.heap.size wr w') := Lib.hid ((PO.out wr i B6.out).mono (by
            rintro e w' ⟨A', r, c', rfl, hr, hb⟩
            rw [hr, hq]
            exact ⟨A', c', rfl, hb⟩))
          have S6 : Hid (∀ W, Calls Try.prog 19 #[.int .i64 x] W fun e w' => e = .returned (.int .i64 (q : Int)) ∧ w' = W) := Lib.hid (fun W => by rw [← hsx]; exact STS.out W x)
          have CN : Hid (∀ W, Below W5.heap.size W5 W → W.cell? ⟨h, i, none⟩ = some (.int .i64 (q : Int))) := Lib.hid (fun W hb => by
            have h7 := O5.out.cellAt i (by omega)
            rw [List.getElem?_map, cn_get K s hlt, HES.out, hq] at h7
            exact (hb.cell (cell_lt h7)).trans h7)
          obtain ⟨ad, hA, hcx⟩ := R1.out i (iv x) (by rw [List.getElem?_map, hx]; rfl)
          have CX : Hid (∀ W, Below w1.heap.size w1 W → W.cell? (ad.add i) = some (.int .i64 x)) := Lib.hid (fun W hb => (hb.cell (cell_lt hcx)).trans hcx)
          have HA := Lib.hid hA
          have wi : IntKind.i64.wrap (i : Int) = (i : Int) := IntWalk.i64_in _ (by omega)
          subst hA
          clear hx hq hsx hcx
          go_wp2_with (go_at_call 15; refine P6.out.mono ?_; rintro e w7 ⟨A7, c7, rfl, hb7⟩; have B7 := Lib.hid (below_on HB6.out (Nat.le_refl _) hb7); have B8 := Lib.hid (below_on B6.out (Nat.le_refl _) hb7); have q7 := T6.out.below hb7; have f0 := q7.c0; have f1 := q7.c1; have k1 := CN.out w7 B7.out; have k2 := CX.out w7 B8.out; clear hb7 q7)
          go_quiet ((go_at_call 19; exact Calls.quiet_of_same (S6.out _)))
          go_wp2
          exact ⟨⟨i + 1, by omega, by simp, Lib.hid (below_drewN' B7.out _)⟩, by simp [intOf]; omega⟩
        · go_wp2_with (go_at_call 11; refine (known_any wr).mono ?_; rintro e w9 ⟨rfl, hb9⟩; have B9 := Lib.hid (below_on B0.out (Nat.le_refl _) (below_on B6.out (Nat.le_refl _) hb9)); clear hb9)
          go_ret
          exact ⟨rfl, B9.out⟩

theorem walk (y : Int) (A : Option Addr) (l : List Int) (cap : Nat) (w : World) (hR : Ri w A l) (_ : ∀ z ∈ l, -9223372036854775808 ≤ z ∧ z ≤ 9223372036854775807) (_ : l.length ≤ cap) :
    Calls Try.prog 5 #[tb y A l.length cap] w fun e w' => e = .returned (.bool true) ∧ Below w.heap.size w w' := by
  by_cases h : 600 < l.length
  · exact walk_long y A _ cap w h
  · cases hv : vt y l 256 9 with
    | false => exact walk_bad y A l _ cap w rfl (by omega) hv hR
    | true =>
      obtain ⟨n, rfl, hv2⟩ := vt_iff.1 hv
      exact walk_ok n _ A l _ cap w rfl hv2 rfl hR
set_option maxRecDepth 100000 in
theorem lifted (os : Os) (started : os.Started) (H : Type) (enc : TypeId × Value → H) :
    ReturnsInHanded {} Try.checked os 5 .any (Rows.spreadCountsSpec.pre6 enc Try.prog Try.f5 Rows.spreadCountsRow.domain false) (Rows.spreadCountsSpec.post enc Try.prog Try.f5 false true false false) := by
  refine returnsInHanded_of_change_sized (C := Try.checked) ownB started (by kernel_rfl) Try.func5
    (ChangeSpec.witness6 (enc := enc) (C := Try.checked) false ⟨#[], #[.agg #[.int .i64 0, .slice none 0 0]], []⟩ 8 (by kernel_rfl) (by kernel_rfl) (by kernel_rfl) (by kernel_rfl)) ?_
  intro W base args ds gs before hval0 hW _ hsz0 _
  have hsz : (DataW.weightsEach Try.prog (Try.f5.params.toList ++ Rows.spreadCountsSpec.plain.varTypes Try.prog) (ds ++ gs)).all (· ≤ reachBytes) = true := hsz0
  clear hsz0
  have hval : ∀ (j : Nat) t v, Try.f5.params[j]? = some t → args[j]? = some v → Value.okWide Try.prog W .any base t v := hval0
  have hW' := hW
  obtain ⟨p, q, hA0, hV, rfl, hfz, hnd⟩ := hW
  have hA : DataW.TrodAll enc Try.prog W 0 (fun _ => true) true Try.f5.params.toList args.toList ds p := hA0
  rw [Try.params5] at hA hval hsz
  obtain ⟨v0, vs0, d0, ds0, p0, q0, hargs, rfl, rfl, h0, r0⟩ := trodAll_cons hA
  obtain ⟨rfl, rfl, rfl⟩ := trodAll_nil r0
  obtain rfl : args = #[v0] := by cases args; simp_all
  obtain ⟨rfl, rfl⟩ := trodVars_none hV
  obtain ⟨cs0, rfl, hcs0⟩ := okWide_struct Try.underlying24 (hval 0 24 v0 rfl rfl)
  have k0 := h0
  have lt0 : ∀ x ∈ p0, x.block < W.heap.size := by obtain ⟨m, hm⟩ := k0; exact DataW.trod_lt m _ _ _ hm
  obtain ⟨y0, a0, len0, cap0, l0, rfl, rfl, hc0, ri0, wi0⟩ := open_tab hcs0 h0
  clear hA0 hval0
  refine (walk y0 a0 l0 cap0 W ri0 wi0 hc0).mono fun e W' ⟨he, bel⟩ => ?_
  subst he
  exact ⟨_, rfl, _, _, _, [], _, [], hW', trodAll_mk1 (shut_bool Try.underlying4 _), (trodAll_cons_mk (Below.trod laidOut (by kernel_rfl) (of_decide_eq_true (by kernel_rfl)) k0 bel lt0) trodAll_mk0), rfl, bel.frame _, fun h => by cases h⟩

theorem proved : Rows.SpreadCountsSaid :=
  OpenClaim.holds_of_wide 5 Try.f5 rfl rfl rfl rfl rfl rfl rfl ⟨rfl, rfl, rfl, rfl, rfl⟩ rfl rfl rfl rfl rfl (by kernel_rfl) Try.func5 (by kernel_rfl)
    (of_decide_eq_true (by kernel_rfl)) (by unfold Func.isWrapper; rw [if_neg (by decide +kernel)]; exact ⟨rfl, rfl⟩)
    (fun os started H enc _ => lifted os started H enc)

#print axioms proved

end Go.Proofs.Ytpiebkkaileocaa.spreadCounts
