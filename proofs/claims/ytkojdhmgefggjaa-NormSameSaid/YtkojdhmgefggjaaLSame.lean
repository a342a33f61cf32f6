/-
  Proved: the law NormSame returns true for all tables, counts and Logs: Equal reports exactly the tables that the reference calls equal; Normalize neither changes the counts nor returns memory shared with them. No condition.
-/
import Derived.Test.YtkojdhmgefggjaaFrm
import Derived.Test.YtkojdhmgefggjaaRfo
namespace Go.Proofs.Ytkojdhmgefggjaa.normSame
open Go.ChangeShapes Go.WideShapes Go.ChangeAt Go.RowKit

theorem iv_one (l : List Int) : ∀ u ∈ l.map iv, u.oneCell' = true := by
  intro v hv
  obtain ⟨b, _, rfl⟩ := List.mem_map.1 hv
  rfl

/-- Both tables boxed. -/
theorem boxes (w : World) (y y2 : Int) (A A2 : Option Addr) (n c n2 c2 : Nat) : ∃ w1, (w.alloc (.cells #[.int .i64 y, .slice A n c] 24)).alloc (.cells #[.int .i64 y2, .slice A2 n2 c2] 24) = w1 ∧ Tb w1 w.heap.size y A n c ∧ Tb w1 (w.heap.size + 1) y2 A2 n2 c2 ∧ Below w.heap.size w w1 := by
  refine ⟨_, rfl, (Tb.new w y A n c).same (Below.heap_alloc _ _ _ (by simp)), ?_, ((Below.refl _ w).alloc (Nat.le_refl _) _).alloc (by simp) _⟩
  have := Tb.new (w.alloc (.cells #[.int .i64 y, .slice A n c] 24)) y2 A2 n2 c2
  rwa [World.size_alloc] at this

set_option maxRecDepth 100000 in
set_option maxHeartbeats 4000000 in
theorem walk_long (y y2 z : Int) (A A2 A3 : Option Addr) (n c n2 c2 N cap : Nat) (w : World) (h : 600 < n ∨ 600 < n2 ∨ 300 < N) :
    Calls Try.prog 11 #[tb y A n c, tb y2 A2 n2 c2, .slice A3 N cap, .int .i64 z] w fun e w' => e = .returned (.bool true) ∧ Below w.heap.size w w' := by
  obtain ⟨w1, hw1, t1, t2, b1⟩ := boxes w y y2 A A2 n c n2 c2
  have c1 := t1.c1
  have e1 := t2.c1
  have KN := Lib.hid (known_any w1)
  have B0 := Lib.hid b1
  clear t1 t2 b1
  by_cases h1 : 600 < n
  · have d1 : decide ((600 : Int) < (n : Int)) = true := decide_eq_true (by omega)
    go_enter Try.func11, Try.ntmps11
    go_wp2_with (go_at_call 12; refine KN.out.mono ?_; rintro e w2 ⟨rfl, hb2⟩; have B1 := Lib.hid (below_on B0.out (Nat.le_refl _) hb2); clear hb2)
    go_ret
    exact ⟨rfl, B1.out⟩
  · have d1 : decide ((600 : Int) < (n : Int)) = false := decide_eq_false (by omega)
    by_cases h2 : 600 < n2
    · have d2 : decide ((600 : Int) < (n2 : Int)) = true := decide_eq_true (by omega)
      go_enter Try.func11, Try.ntmps11
      go_wp2_with (go_at_call 12; refine KN.out.mono ?_; rintro e w2 ⟨rfl, hb2⟩; have B1 := Lib.hid (below_on B0.out (Nat.le_refl _) hb2); clear hb2)
      go_ret
      exact ⟨rfl, B1.out⟩
    · have d2 : decide ((600 : Int) < (n2 : Int)) = false := decide_eq_false (by omega)
      have d3 : decide ((300 : Int) < (N : Int)) = true := decide_eq_true (by omega)
      go_enter Try.func11, Try.ntmps11
      go_wp2_with (go_at_call 12; refine KN.out.mono ?_; rintro e w2 ⟨rfl, hb2⟩; have B1 := Lib.hid (below_on B0.out (Nat.le_refl _) hb2); clear hb2)
      go_ret
      exact ⟨rfl, B1.out⟩

set_option maxRecDepth 100000 in
set_option maxHeartbeats 8000000 in
theorem walk_main (y y2 z : Int) (A A2 A3 : Option Addr) (l l2 l3 : List Int) (n c n2 c2 N cap : Nat) (w : World) (h1 : n ≤ 600) (h2 : n2 ≤ 600) (h3 : N ≤ 300) (hn : l.length = n) (hn2 : l2.length = n2) (hN : l3.length = N) (hR : Ri w A l) (hR2 : Ri w A2 l2) (hR3 : Ri w A3 l3) (y5 e5 : Int) (L : Nat) (hL : L ≤ 300) (xs : List Value)
    (NA : ∀ W B c', Ri W B l3 → Calls Try.prog 15 #[.slice B N c', .int .i64 z] W fun e w' => ∃ A1 c1, e = .returned (.tuple #[tb y5 A1 L c1, .int .i64 e5]) ∧ w'.ownsRow W.heap.size 3 1 (.slice A1 L c1) L xs ∧ Below W.heap.size W w') :
    Calls Try.prog 11 #[tb y A n c, tb y2 A2 n2 c2, .slice A3 N cap, .int .i64 z] w fun e w' => e = .returned (.bool true) ∧ Below w.heap.size w w' := by
  obtain ⟨w1, hw1, t1, t2, b1⟩ := boxes w y y2 A A2 n c n2 c2
  have c0 := t1.c0
  have c1 := t1.c1
  have e0 := t2.c0
  have e1 := t2.c1
  have d1 : decide ((600 : Int) < (n : Int)) = false := decide_eq_false (by omega)
  have d2 : decide ((600 : Int) < (n2 : Int)) = false := decide_eq_false (by omega)
  have d3 : decide ((300 : Int) < (N : Int)) = false := decide_eq_false (by omega)
  obtain ⟨R, hRR⟩ : ∃ R, sam y y2 l l2 = R := ⟨_, rfl⟩
  have EQ : Hid (Calls Try.prog 23 #[tb y A n c, tb y2 A2 n2 c2] w1.drew fun e w' => e = .returned (.bool R) ∧ Below w1.heap.size w1 w') := Lib.hid (by
    rw [← hRR]
    refine (equal_any w1.drew y y2 A A2 l l2 n c n2 c2 hn hn2 (by omega) (Rv.same (hR.below b1) (fun _ _ => rfl)) (Rv.same (hR2.below b1) (fun _ _ => rfl))).mono ?_
    rintro e w' ⟨rfl, hb⟩
    exact ⟨rfl, ⟨hb.os, hb.tape, hb.output, hb.size, hb.block⟩⟩)
  have SM : Hid (∀ w2, Below w1.heap.size w1 w2 → Calls Try.prog 17 #[tb y A n c, tb y2 A2 n2 c2] w2 fun e w' => e = .returned (.bool R) ∧ Below w2.heap.size w2 w') := Lib.hid (fun w2 hb => by
    rw [← hRR]
    exact rsame_any w2 y y2 A A2 l l2 n c n2 c2 hn hn2 (by omega) ((hR.below b1).below hb) ((hR2.below b1).below hb))
  have EA : Hid (∀ w2, Below w1.heap.size w1 w2 → Calls Try.prog 23 #[tb y A n c, tb y A n c] w2 fun e w' => e = .returned (.bool true) ∧ Below w2.heap.size w2 w') := Lib.hid (fun w2 hb => by
    have := equal_any w2 y y A A l l n c n c hn hn (by omega) ((hR.below b1).below hb) ((hR.below b1).below hb)
    rw [show sam y y l l = true by simp [sam]] at this
    exact this)
  have hRx : (R != R) = false := by cases R <;> rfl
  have R3 := Lib.hid hR3
  have HN := Lib.hid hN
  have HNA := Lib.hid NA
  have B0 := Lib.hid b1
  have T1 := Lib.hid (And.intro t1 t2)
  clear t1 t2 b1 hR hR2 hR3 hn hn2 hN hRR NA
  go_enter Try.func11, Try.ntmps11
  go_wp2
  go_region_held3 (fun W => W.cell? ⟨w.heap.size, 0, none⟩ = some (.int .i64 y) ∧ W.cell? ⟨w.heap.size, 1, none⟩ = some (.slice A n c) ∧ W.cell? ⟨w.heap.size + 1, 0, none⟩ = some (.int .i64 y2) ∧ W.cell? ⟨w.heap.size + 1, 1, none⟩ = some (.slice A2 n2 c2)) (first | exact ⟨c0, c1, e0, e1⟩ | exact ⟨f0, f1, f2, f3⟩ | exact ⟨g0, g1, g2, g3⟩ | exact ⟨k0, k1, k2, k3⟩) (first
    | (go_at_call 23; refine (EA.out w3 B3.out).mono ?_; rintro e w4 ⟨rfl, hb4⟩; have q := T3.out.1.below hb4; have q2 := T3.out.2.below hb4; have k0 := q.c0; have k1 := q.c1; have k2 := q2.c0; have k3 := q2.c1; have B4 := Lib.hid (below_on B0.out (Nat.le_refl _) (below_on B3.out (Nat.le_refl _) hb4)); clear hb4 q q2)
    | (go_at_call 23; refine EQ.out.mono ?_; rintro e w2 ⟨rfl, hb2⟩; have q := T1.out.1.below hb2; have q2 := T1.out.2.below hb2; have f0 := q.c0; have f1 := q.c1; have f2 := q2.c0; have f3 := q2.c1; have B2 := Lib.hid hb2; have T2 := Lib.hid (And.intro q q2); clear hb2 q q2)
    | (go_at_call 17; refine (SM.out w2 B2.out).mono ?_; rintro e w3 ⟨rfl, hb3⟩; have q := T2.out.1.below hb3; have q2 := T2.out.2.below hb3; have g0 := q.c0; have g1 := q.c1; have g2 := q2.c0; have g3 := q2.c1; have B3 := Lib.hid (below_on B2.out (Nat.le_refl _) hb3); have T3 := Lib.hid (And.intro q q2); clear hb3 q q2))
  have R4 := Lib.hid (R3.out.below B4.out)
  have O4 : Hid (w4.ownsRow w4.heap.size 3 1 (.slice none 0 0) 0 []) := Lib.hid (World.ownsRow_nil _ _ _ _)
  have SZ5 : Hid (w4.heap.size ≤ w4.heap.size) := Lib.hid (Nat.le_refl _)
  clear EQ SM EA T1 T2 T3 c0 c1 e0 e1 f0 f1 f2 f3 g0 g1 g2 g3 k0 k1 k2 k3
  go_wp2_with (first
    | (at_builtin; refine wpList_append_vals Try.underlying22 int_info rfl rfl _ _ rfl w4.heap.size (.slice none 0 0) 0 [] rfl O4.out A3 (l3.map iv) (iv_one l3) N cap (by rw [List.length_map]; exact HN.out) rfl R4.out (by omega) (by omega) SZ5.out ?_; intro v5 w5 ho5 hg5 he5; rw [Nat.zero_add, List.nil_append] at ho5; obtain ⟨A5, c5, rfl, hc5⟩ := own_form ho5; have O5 := Lib.hid ho5; have B5 := Lib.hid (B4.out.grown hg5 B4.out.size (fun j ej => by cases ej)); clear ho5 hg5 he5)
    | (go_at_call 15; refine (HNA.out w5 A5 c5 (Rv.of_own O5.out)).mono ?_; rintro e w6 ⟨A6, c6, rfl, ho6, hb6⟩; have O6 := Lib.hid ho6; have B6 := Lib.hid hb6; clear ho6 hb6))
  have b7 : Below w6.heap.size w6 (w6.alloc (.cells #[.int .i64 y5, .slice A6 L c6] 24)) := (Below.refl _ w6).alloc (Nat.le_refl _) _
  have T7 := Lib.hid (Tb.new w6 y5 A6 L c6)
  have O7 := Lib.hid (own_below O6.out b7)
  have B7 := Lib.hid (below_on B6.out (Nat.le_refl _) b7)
  have HT : Hid (∀ g, A6 = some ⟨g, 0, none⟩ → g ≠ w6.heap.size ∧ w5.heap.size ≤ g) := Lib.hid (fun g e => by
    subst e
    have q1 : g < w6.heap.size := own_lt O6.out rfl
    have q2 : w5.heap.size ≤ g := own_ge3 O6.out rfl
    omega)
  generalize w6.alloc (.cells #[.int .i64 y5, .slice A6 L c6] 24) = w7 at T7 O7 B7 ⊢
  obtain ⟨tk, htk⟩ : ∃ tk, w6.heap.size = tk := ⟨_, rfl⟩
  rw [htk] at T7 HT
  simp only [htk]
  clear b7 htk O6 B6 HNA
  go_loopw [12] (fun p wr => ∃ i : Nat, i ≤ L ∧ p = .int .i64 (i : Int) ∧ Hid (Tb wr tk y5 A6 L c6) ∧ Hid (∃ xs, wr.ownsRow w5.heap.size 3 1 (.slice A6 L c6) L xs) ∧ Hid (Below w5.heap.size w5 wr)) (fun p _ => L - (intOf p).toNat)
  case atStart => exact ⟨0, Nat.zero_le _, rfl, T7, Lib.hid ⟨_, O7.out⟩, B7⟩
  case round =>
    obtain ⟨i, hi, rfl, HTB, HO, HB⟩ := hrel
    clear T7 O7 B7
    have t1 := HTB.out.c1
    by_cases hlt : i < L
    · obtain ⟨us, ho⟩ := HO.out
      obtain ⟨g, rfl⟩ := own_some3 (by omega) ho
      obtain ⟨hg1, hg2⟩ := HT.out g rfl
      have hul : us.length = L := by have := ho.1; omega
      obtain ⟨u, hu⟩ : ∃ u, us[i]? = some u := ⟨_, List.getElem?_eq_getElem (by omega)⟩
      have cu : wr.cell? ⟨g, i, none⟩ = some u := by rw [ho.cellAt i (by omega)]; exact hu
      have fu := ho.frozenAt i
      have HO2 : Hid (∃ xs, (wr.setCell ⟨g, i, none⟩ (.int .i64 77)).ownsRow w5.heap.size 3 1 (.slice (some ⟨g, 0, none⟩) L c6) L xs) := Lib.hid ⟨_, (ho.stored i _).1⟩
      have HT2 : Hid (Tb (wr.setCell ⟨g, i, none⟩ (.int .i64 77)) tk y5 (some ⟨g, 0, none⟩) L c6) := Lib.hid (HTB.out.same (Below.heap_setCell _ ⟨g, i, none⟩ _ _ (by show tk ≠ g; omega)))
      have HB2 : Hid (Below w5.heap.size w5 (wr.setCell ⟨g, i, none⟩ (.int .i64 77))) := Lib.hid (HB.out.setCell (p := ⟨g, i, none⟩) hg2 _)
      clear ho hu HO HTB HB
      go_wp2
      exact ⟨⟨i + 1, by omega, by simp, HT2, HO2, HB2⟩, by simp [intOf]; omega⟩
    · have R8 := Lib.hid (Rv.below (Rv.of_own O5.out) HB.out)
      have BW := Lib.hid (below_on B5.out (Nat.le_refl _) HB.out)
      have R9 := Lib.hid (R3.out.below BW.out)
      clear HO HTB HB
      go_wp2
      go_loopw [13] (fun p wi => ∃ j : Nat, j ≤ N ∧ p = .int .i64 (j : Int) ∧ ∃ d, wi = wr.drewN d) (fun p _ => N - (intOf p).toNat)
      case atStart => exact ⟨0, Nat.zero_le _, rfl, 0, rfl⟩
      case round =>
        obtain ⟨j, hj, rfl, d, rfl⟩ := hrel
        by_cases hjl : j < N
        · obtain ⟨x, hx⟩ : ∃ x, l3[j]? = some x := ⟨_, List.getElem?_eq_getElem (by rw [HN.out]; exact hjl)⟩
          obtain ⟨ad, hA5, hc⟩ := R8.out j (iv x) (by rw [List.getElem?_map, hx]; rfl)
          obtain ⟨ad2, hA3, hc2⟩ := R9.out j (iv x) (by rw [List.getElem?_map, hx]; rfl)
          subst hA5
          subst hA3
          simp only [iv] at hc hc2
          have wj : IntKind.i64.wrap (j : Int) = (j : Int) := IntWalk.i64_in _ (by omega)
          clear hx
          go_wp2
          go_region
          all_goals
            go_wp2
            exact ⟨⟨j + 1, by omega, by simp, _, rfl⟩, by simp [intOf]; omega⟩
        · go_wp2_with (go_at_call 12; refine (known_any _).mono ?_; rintro e w9 ⟨rfl, hb9⟩; have B9 := Lib.hid (below_on (below_drewN' BW.out d) (Nat.le_refl _) hb9); clear hb9)
          go_ret
          exact ⟨rfl, B9.out⟩

theorem walk (y : Int) (A : Option Addr) (l : List Int) (c : Nat) (y2 : Int) (A2 : Option Addr) (l2 : List Int) (c2 : Nat) (A3 : Option Addr) (l3 : List Int) (cap : Nat) (z : Int) (w : World) (hR : Ri w A l) (_ : ∀ z ∈ l, -9223372036854775808 ≤ z ∧ z ≤ 9223372036854775807) (_ : l.length ≤ c) (hR2 : Ri w A2 l2) (_ : ∀ z ∈ l2, -9223372036854775808 ≤ z ∧ z ≤ 9223372036854775807) (_ : l2.length ≤ c2) (hR3 : Ri w A3 l3) (_ : ∀ z ∈ l3, -9223372036854775808 ≤ z ∧ z ≤ 9223372036854775807) (_ : l3.length ≤ cap) (_ : (Lit.int .i64 z).wf = true) :
    Calls Try.prog 11 #[tb y A l.length c, tb y2 A2 l2.length c2, .slice A3 l3.length cap, .int .i64 z] w fun e w' => e = .returned (.bool true) ∧ Below w.heap.size w w' := by
  by_cases h : 600 < l.length ∨ 600 < l2.length ∨ 300 < l3.length
  · exact walk_long y y2 z A A2 A3 _ c _ c2 _ cap w h
  · by_cases hg : good l3 z
    · obtain ⟨k, lg, hlk, hk, rfl, hgd⟩ := gd_of hg (by omega)
      have hlt := lst_lt hgd.pos
      refine walk_main y y2 lg A A2 A3 l l2 l3 _ c _ c2 _ cap w (by omega) (by omega) (by omega) rfl rfl rfl hR hR2 hR3 lg 0 (lst k + 1) (by omega) ((nrm k (2 ^ lg)).map iv) (fun W B c' hB => ?_)
      have hRn : Rn W B k := by
        have h1 := hB
        rw [hlk] at h1
        unfold Ri at h1
        rw [ri_nats] at h1
        exact h1
      refine (normalize_ok W B k l3.length c' lg (2 ^ lg) hk (by omega) hRn hgd.tot hgd.pos hgd.log rfl hgd.use).mono ?_
      rintro e w' ⟨g, rfl, ho, hb'⟩
      exact ⟨_, _, rfl, ho, hb'⟩
    · refine walk_main y y2 z A A2 A3 l l2 l3 _ c _ c2 _ cap w (by omega) (by omega) (by omega) rfl rfl rfl hR hR2 hR3 0 2 0 (by omega) [] (fun W B c' hB => ?_)
      refine (normalize_bad W B l3 l3.length c' z rfl (by omega) hB hg).mono ?_
      rintro e w' ⟨rfl, hb'⟩
      exact ⟨none, 0, rfl, World.ownsRow_nil _ _ _ _, hb'⟩

set_option maxRecDepth 100000 in
theorem lifted (os : Os) (started : os.Started) (H : Type) (enc : TypeId × Value → H) :
    ReturnsInHanded {} Try.checked os 11 .any (Rows.normSameSpec.pre6 enc Try.prog Try.f11 Rows.normSameRow.domain false) (Rows.normSameSpec.post enc Try.prog Try.f11 false true false false) := by
  refine returnsInHanded_of_change_sized (C := Try.checked) ownB started (by kernel_rfl) Try.func11
    (ChangeSpec.witness6 (enc := enc) (C := Try.checked) false ⟨#[], #[.agg #[.int .i64 0, .slice none 0 0], .agg #[.int .i64 0, .slice none 0 0], .slice none 0 0, .int .i64 0], []⟩ 8 (by kernel_rfl) (by kernel_rfl) (by kernel_rfl) (by kernel_rfl)) ?_
  intro W base args ds gs before hval0 hW _ hsz0 _
  have hsz : (DataW.weightsEach Try.prog (Try.f11.params.toList ++ Rows.normSameSpec.plain.varTypes Try.prog) (ds ++ gs)).all (· ≤ reachBytes) = true := hsz0
  clear hsz0
  have hval : ∀ (j : Nat) t v, Try.f11.params[j]? = some t → args[j]? = some v → Value.okWide Try.prog W .any base t v := hval0
  have hW' := hW
  obtain ⟨p, q, hA0, hV, rfl, hfz, hnd⟩ := hW
  have hA : DataW.TrodAll enc Try.prog W 0 (fun _ => true) true Try.f11.params.toList args.toList ds p := hA0
  rw [Try.params11] at hA hval hsz
  obtain ⟨v0, vs0, d0, ds0, p0, q0, hargs, rfl, rfl, h0, r0⟩ := trodAll_cons hA
  obtain ⟨v1, vs1, d1, ds1, p1, q1, rfl, rfl, rfl, h1, r1⟩ := trodAll_cons r0
  obtain ⟨v2, vs2, d2, ds2, p2, q2, rfl, rfl, rfl, h2, r2⟩ := trodAll_cons r1
  obtain ⟨v3, vs3, d3, ds3, p3, q3, rfl, rfl, rfl, h3, r3⟩ := trodAll_cons r2
  obtain ⟨rfl, rfl, rfl⟩ := trodAll_nil r3
  obtain rfl : args = #[v0, v1, v2, v3] := by cases args; simp_all
  obtain ⟨rfl, rfl⟩ := trodVars_none hV
  obtain ⟨cs0, rfl, hcs0⟩ := okWide_struct Try.underlying24 (hval 0 24 v0 rfl rfl)
  have k0 := h0
  have lt0 : ∀ x ∈ p0, x.block < W.heap.size := by obtain ⟨m, hm⟩ := k0; exact DataW.trod_lt m _ _ _ hm
  obtain ⟨y0, a0, len0, cap0, l0, rfl, rfl, hc0, ri0, wi0⟩ := open_tab hcs0 h0
  obtain ⟨cs1, rfl, hcs1⟩ := okWide_struct Try.underlying24 (hval 1 24 v1 rfl rfl)
  have k1 := h1
  have lt1 : ∀ x ∈ p1, x.block < W.heap.size := by obtain ⟨m, hm⟩ := k1; exact DataW.trod_lt m _ _ _ hm
  obtain ⟨y1, a1, len1, cap1, l1, rfl, rfl, hc1, ri1, wi1⟩ := open_tab hcs1 h1
  obtain ⟨a2, len2, cap2, rfl⟩ := okWide_slice Try.underlying22 (hval 2 22 v2 rfl rfl)
  have k2 := h2
  have lt2 : ∀ x ∈ p2, x.block < W.heap.size := by obtain ⟨m, hm⟩ := k2; exact DataW.trod_lt m _ _ _ hm
  obtain ⟨l2, rfl, hc2, ri2, wi2⟩ := open_intl h2
  obtain ⟨a3, rfl, rfl, rfl, w3⟩ := open_int Try.underlying3 (hval 3 3 v3 rfl rfl) h3
  clear hA0 hval0
  refine (walk y0 a0 l0 cap0 y1 a1 l1 cap1 a2 l2 cap2 a3 W ri0 wi0 hc0 ri1 wi1 hc1 ri2 wi2 hc2 w3).mono fun e W' ⟨he, bel⟩ => ?_
  subst he
  exact ⟨_, rfl, _, _, _, [], _, [], hW', trodAll_mk1 (shut_bool Try.underlying4 _), (trodAll_cons_mk (Below.trod laidOut (by kernel_rfl) (of_decide_eq_true (by kernel_rfl)) k0 bel lt0) (trodAll_cons_mk (Below.trod laidOut (by kernel_rfl) (of_decide_eq_true (by kernel_rfl)) k1 bel lt1) (trodAll_cons_mk (Below.trod laidOut (by kernel_rfl) (of_decide_eq_true (by kernel_rfl)) k2 bel lt2) (trodAll_cons_mk (shut_int Try.underlying3 w3) trodAll_mk0)))), rfl, bel.frame _, fun h => by cases h⟩

theorem proved : Rows.NormSameSaid :=
  OpenClaim.holds_of_wide 11 Try.f11 rfl rfl rfl rfl rfl rfl rfl ⟨rfl, rfl, rfl, rfl, rfl⟩ rfl rfl rfl rfl rfl (by kernel_rfl) Try.func11 (by kernel_rfl)
    (of_decide_eq_true (by kernel_rfl)) (by unfold Func.isWrapper; rw [if_neg (by decide +kernel)]; exact ⟨rfl, rfl⟩)
    (fun os started H enc _ => lifted os started H enc)

#print axioms proved

end Go.Proofs.Ytkojdhmgefggjaa.normSame
