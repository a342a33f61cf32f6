/-
  Proved: the law StatesNext returns true for all tables, states and bits: the next state is the one that the reference computes bit by bit, or the error. No condition.
-/
import Derived.BigQuiet
import Derived.Deep.QuietTactic
import Derived.Test.YtonapehlhkoplaaFrm
namespace Go.Proofs.Ytonapehlhkoplaa.statesNext
open Go.ChangeShapes Go.WideShapes Go.ChangeAt Go.RowKit

set_option maxRecDepth 100000 in
set_option maxHeartbeats 4000000 in
theorem walk_long (y : Int) (A : Option Addr) (N cap : Nat) (t : Int) (u : Int) (w : World) (h : 300 < N) :
    Calls Try.prog 9 #[tb y A N cap, .int .i64 t, .int .u64 u] w fun e w' => e = .returned (.bool true) ∧ Below w.heap.size w w' := by
  have hd : decide ((300 : Int) < (N : Int)) = true := decide_eq_true (by omega)
  have b1 := below_new w (.cells #[.int .i64 y, .slice A N cap] 24)
  have t1 := Tb.new w y A N cap
  obtain ⟨w1, hw1⟩ : ∃ w1, w.alloc (.cells #[.int .i64 y, .slice A N cap] 24) = w1 := ⟨_, rfl⟩
  rw [hw1] at b1 t1
  have c0 := t1.c0
  have c1 := t1.c1
  have KN := Lib.hid (known_any w1)
  have B0 := Lib.hid b1
  clear b1 t1
  go_enter Try.func9, Try.ntmps9
  go_wp2_with (go_at_call 11; refine KN.out.mono ?_; rintro e w2 ⟨rfl, hb2⟩; have B1 := Lib.hid (below_on B0.out (Nat.le_refl _) hb2); clear hb2)
  go_ret
  exact ⟨rfl, B1.out⟩

set_option maxRecDepth 100000 in
set_option maxHeartbeats 4000000 in
theorem walk_bad (y : Int) (A : Option Addr) (l : List Int) (N cap : Nat) (t : Int) (u : Int) (w : World) (hN : l.length = N) (h : N ≤ 300) (hv : vt y l 256 9 = false) (hR : Ri w A l) :
    Calls Try.prog 9 #[tb y A N cap, .int .i64 t, .int .u64 u] w fun e w' => e = .returned (.bool true) ∧ Below w.heap.size w w' := by
  have hd : decide ((300 : Int) < (N : Int)) = false := decide_eq_false (by omega)
  have b1 := below_new w (.cells #[.int .i64 y, .slice A N cap] 24)
  have t1 := Tb.new w y A N cap
  obtain ⟨w1, hw1⟩ : ∃ w1, w.alloc (.cells #[.int .i64 y, .slice A N cap] 24) = w1 := ⟨_, rfl⟩
  rw [hw1] at b1 t1
  have c0 := t1.c0
  have c1 := t1.c1
  have MY : Hid (Calls Try.prog 16 #[tb y A N cap, .int .i64 256, .int .i64 9] w1 fun e w' => e = .returned (.int .i64 13) ∧ Below w1.heap.size w1 w') := Lib.hid (by
    have := may_any w1 y 256 9 A l N cap hN (by omega) (hR.below b1)
    rw [hv] at this
    exact this)
  have B0 := Lib.hid b1
  clear b1 t1 hR hN hv
  go_enter Try.func9, Try.ntmps9
  go_wp2_with (first
    | (go_at_call 16; refine MY.out.mono ?_; rintro e w2 ⟨rfl, hb2⟩; have B2 := Lib.hid (below_on B0.out (Nat.le_refl _) hb2); clear hb2)
    | (go_at_call 11; refine (known_any w2).mono ?_; rintro e w3 ⟨rfl, hb3⟩; have B3 := Lib.hid (below_on B2.out (Nat.le_refl _) hb3); clear hb3))
  go_ret
  exact ⟨rfl, B3.out⟩

set_option maxRecDepth 100000 in
set_option maxHeartbeats 4000000 in
theorem walk_far (y s : Nat) (A : Option Addr) (l : List Int) (N cap : Nat) (t : Int) (v : Nat) (w : World) (hN : l.length = N) (hv : Vt y l) (hse : 2 ^ y = s) (hR : Ri w A l) (hvv : v < 18446744073709551616) (ht : t < 0 ∨ (s : Int) ≤ t) :
    Calls Try.prog 9 #[tb y A N cap, .int .i64 t, .int .u64 (v : Int)] w fun e w' => e = .returned (.bool true) ∧ Below w.heap.size w w' := by
  have hN2 : N ≤ 256 := by rw [← hN]; exact hv.len
  have hy9 := hv.log
  have hs5 : s ≤ 512 := by rw [← hse]; exact hv.size
  have hs1 : 1 ≤ s := by rw [← hse]; exact Nat.one_le_two_pow
  have hd : decide ((300 : Int) < (N : Int)) = false := decide_eq_false (by omega)
  have b1 := below_new w (.cells #[.int .i64 (y : Int), .slice A N cap] 24)
  have t1 := Tb.new w (y : Int) A N cap
  obtain ⟨w1, hw1⟩ : ∃ w1, w.alloc (.cells #[.int .i64 (y : Int), .slice A N cap] 24) = w1 := ⟨_, rfl⟩
  rw [hw1] at b1 t1
  have c0 := t1.c0
  have c1 := t1.c1
  have hR1 := hR.below b1
  have MY : Hid (Calls Try.prog 16 #[tb y A N cap, .int .i64 256, .int .i64 9] w1 fun e w' => e = .returned (.int .i64 0) ∧ Below w1.heap.size w1 w') := Lib.hid (by
    have := may_any w1 (y : Int) 256 9 A l N cap hN (by omega) hR1
    rw [vt_iff.2 ⟨y, rfl, hv⟩] at this
    exact this)
  have BG : Hid (∀ W, Below w1.heap.size w1 W → Calls Try.prog 17 #[tb y A N cap] W fun e w' => ∃ b, e = .returned (.pointer (some ⟨b, 0, none⟩)) ∧ Cdr w' W.heap.size b y s N l ∧ Below W.heap.size W w') := Lib.hid (fun W hb => begin_ok W y s A l N cap hN hv hse (hR1.below hb))
  have B0 := Lib.hid b1
  have T1 := Lib.hid t1
  obtain ⟨C, hC⟩ : ∃ C, cls y l (spl s l) = C := ⟨_, rfl⟩
  have CS : Hid (∀ W, Below w1.heap.size w1 W → Calls Try.prog 18 #[tb y A N cap] W fun e w' => ∃ g cp, e = .returned (.slice (some ⟨g, 0, none⟩) s cp) ∧ Rc w' g s cp C ∧ Below W.heap.size W w') := Lib.hid (fun W hb => by rw [← hC]; exact cells_any W y s A l N cap hN hv hse (hR1.below hb))
  have NX : Hid (∀ W B b, Cdr W B b y s N l → Calls Try.prog 25 #[.pointer (some ⟨b, 0, none⟩), .int .i64 t, .int .u64 (v : Int)] W fun e w' => e = .returned (.tuple #[.int .i64 0, .int .i64 21]) ∧ Below W.heap.size W w') := Lib.hid (fun W B b h => by
    obtain ⟨gc, go, V, h⟩ := h
    have h1 := nexts_any W h hv hse t v hvv
    have e1 := (cle_bad (C := cls y l (spl s l)) (z := t) (by rw [cls_s hv hse]; exact ht)).1
    unfold Tn nxa at h1
    rw [e1, if_neg (by decide)] at h1
    exact h1)
  clear b1 t1 hR hR1 hN hv hse hC
  by_cases h0 : t < 0
  · have k0 : decide (t < 0) = true := decide_eq_true h0
    clear ht
    go_enter Try.func9, Try.ntmps9
    go_wp2_with (first
      | (go_at_call 16; refine MY.out.mono ?_; rintro e w2 ⟨rfl, hb2⟩; have B2 := Lib.hid hb2; have q2 := T1.out.below hb2; have d0 := q2.c0; have d1 := q2.c1; clear hb2 q2)
      | (go_at_call 17; refine (BG.out w2 B2.out).mono ?_; rintro e w3 ⟨b, rfl, hC3, hb3⟩; have C3 := Lib.hid hC3; have B3 := Lib.hid (below_on B2.out (Nat.le_refl _) hb3); have q3 := T1.out.below B3.out; have e0 := q3.c0; have e1 := q3.c1; clear hb3 q3 hC3)
      | (go_at_call 25; refine (NX.out w3 _ b C3.out).mono ?_; rintro e w4 ⟨rfl, hb4⟩; have B4 := Lib.hid (below_on B3.out (Nat.le_refl _) hb4); have q4 := T1.out.below B4.out; have p0 := q4.c0; have p1 := q4.c1; clear hb4 q4)
      | (go_at_call 18; refine (CS.out w4 B4.out).mono ?_; rintro e w5 ⟨g, cp, rfl, hr5, hb5⟩; clear hr5; have B5 := Lib.hid (below_on B4.out (Nat.le_refl _) hb5); clear hb5)
      | (go_at_call 11; refine (known_any _).mono ?_; rintro e w9 ⟨rfl, hb9⟩; have B9 := Lib.hid (below_on B0.out (Nat.le_refl _) (below_on B5.out (Nat.le_refl _) hb9)); clear hb9))
    go_ret
    exact ⟨rfl, B9.out⟩

  · have k0 : decide (t < 0) = false := decide_eq_false h0
    have k1 : decide ((s : Int) ≤ t) = true := decide_eq_true (by omega)
    clear ht
    go_enter Try.func9, Try.ntmps9
    go_wp2_with (first
      | (go_at_call 16; refine MY.out.mono ?_; rintro e w2 ⟨rfl, hb2⟩; have B2 := Lib.hid hb2; have q2 := T1.out.below hb2; have d0 := q2.c0; have d1 := q2.c1; clear hb2 q2)
      | (go_at_call 17; refine (BG.out w2 B2.out).mono ?_; rintro e w3 ⟨b, rfl, hC3, hb3⟩; have C3 := Lib.hid hC3; have B3 := Lib.hid (below_on B2.out (Nat.le_refl _) hb3); have q3 := T1.out.below B3.out; have e0 := q3.c0; have e1 := q3.c1; clear hb3 q3 hC3)
      | (go_at_call 25; refine (NX.out w3 _ b C3.out).mono ?_; rintro e w4 ⟨rfl, hb4⟩; have B4 := Lib.hid (below_on B3.out (Nat.le_refl _) hb4); have q4 := T1.out.below B4.out; have p0 := q4.c0; have p1 := q4.c1; clear hb4 q4)
      | (go_at_call 18; refine (CS.out w4 B4.out).mono ?_; rintro e w5 ⟨g, cp, rfl, hr5, hb5⟩; clear hr5; have B5 := Lib.hid (below_on B4.out (Nat.le_refl _) hb5); clear hb5)
      | (go_at_call 11; refine (known_any _).mono ?_; rintro e w9 ⟨rfl, hb9⟩; have B9 := Lib.hid (below_on B0.out (Nat.le_refl _) (below_on B5.out (Nat.le_refl _) hb9)); clear hb9))
    go_ret
    exact ⟨rfl, B9.out⟩

set_option maxRecDepth 100000 in
set_option maxHeartbeats 4000000 in
theorem walk_mid (y s : Nat) (A : Option Addr) (l : List Int) (N cap : Nat) (t : Nat) (v : Nat) (w : World) (hN : l.length = N) (hv : Vt y l) (hse : 2 ^ y = s) (hR : Ri w A l) (hvv : v < 18446744073709551616) (ht : t < s) :
    Calls Try.prog 9 #[tb y A N cap, .int .i64 (t : Int), .int .u64 (v : Int)] w fun e w' => e = .returned (.bool true) ∧ Below w.heap.size w w' := by
  have hN2 : N ≤ 256 := by rw [← hN]; exact hv.len
  have hy9 := hv.log
  have hs5 : s ≤ 512 := by rw [← hse]; exact hv.size
  have hs1 : 1 ≤ s := by rw [← hse]; exact Nat.one_le_two_pow
  have hd : decide ((300 : Int) < (N : Int)) = false := decide_eq_false (by omega)
  have b1 := below_new w (.cells #[.int .i64 (y : Int), .slice A N cap] 24)
  have t1 := Tb.new w (y : Int) A N cap
  obtain ⟨w1, hw1⟩ : ∃ w1, w.alloc (.cells #[.int .i64 (y : Int), .slice A N cap] 24) = w1 := ⟨_, rfl⟩
  rw [hw1] at b1 t1
  have c0 := t1.c0
  have c1 := t1.c1
  have hR1 := hR.below b1
  have MY : Hid (Calls Try.prog 16 #[tb y A N cap, .int .i64 256, .int .i64 9] w1 fun e w' => e = .returned (.int .i64 0) ∧ Below w1.heap.size w1 w') := Lib.hid (by
    have := may_any w1 (y : Int) 256 9 A l N cap hN (by omega) hR1
    rw [vt_iff.2 ⟨y, rfl, hv⟩] at this
    exact this)
  have BG : Hid (∀ W, Below w1.heap.size w1 W → Calls Try.prog 17 #[tb y A N cap] W fun e w' => ∃ b, e = .returned (.pointer (some ⟨b, 0, none⟩)) ∧ Cdr w' W.heap.size b y s N l ∧ Below W.heap.size W w') := Lib.hid (fun W hb => begin_ok W y s A l N cap hN hv hse (hR1.below hb))
  have B0 := Lib.hid b1
  have T1 := Lib.hid t1
  obtain ⟨C, hC⟩ : ∃ C, cls y l (spl s l) = C := ⟨_, rfl⟩
  have hCl : C.length = s := by rw [← hC]; exact cls_s hv hse
  obtain ⟨⟨x, p, q⟩, hc⟩ : ∃ c, C[t]? = some c := ⟨_, List.getElem?_eq_getElem (by rw [hCl]; exact ht)⟩
  have hsm := cls_small hv hse t (x, p, q) (by rw [hC]; exact hc)
  simp only at hsm
  obtain ⟨R, hR0⟩ : ∃ R, q + v % 2 ^ p = R := ⟨_, rfl⟩
  have CS : Hid (∀ W, Below w1.heap.size w1 W → Calls Try.prog 18 #[tb y A N cap] W fun e w' => ∃ g cp, e = .returned (.slice (some ⟨g, 0, none⟩) s cp) ∧ Rc w' g s cp C ∧ Below W.heap.size W w') := Lib.hid (fun W hb => by rw [← hC]; exact cells_any W y s A l N cap hN hv hse (hR1.below hb))
  have NX : Hid (∀ W B b, Cdr W B b y s N l → Calls Try.prog 25 #[.pointer (some ⟨b, 0, none⟩), .int .i64 (t : Int), .int .u64 (v : Int)] W fun e w' => e = .returned (.tuple #[.int .i64 (R : Int), .int .i64 0]) ∧ Below W.heap.size W w') := Lib.hid (fun W B b h => by
    obtain ⟨gc, go, V, h⟩ := h
    have h1 := nexts_any W h hv hse (t : Int) v hvv
    rw [hC] at h1
    obtain ⟨e1, e2⟩ := cle_ok hc
    unfold Tn nxa at h1
    rw [e1, e2, if_pos rfl] at h1
    simp only at h1
    rw [hR0] at h1
    exact h1)
  have RX : Hid (∀ W, Calls Try.prog 26 #[cev (x : Int) (p : Int) (q : Int), .int .u64 (v : Int)] W fun e w' => e = .returned (.int .i64 (R : Int)) ∧ Below W.heap.size W w') := Lib.hid (fun W => by
    have h1 := rnext_any W (x : Int) (p : Int) (q : Int) v hvv (by omega) (by omega)
    have hw : wid (p : Int) = p := by unfold wid; omega
    rw [hw] at h1
    rw [← hR0, Int.natCast_add]
    exact h1)
  have HC := Lib.hid hc
  have k0 : decide ((t : Int) < 0) = false := decide_eq_false (by omega)
  have k1 : decide ((s : Int) ≤ (t : Int)) = false := decide_eq_false (by omega)
  have k2 : ¬ s ≤ t := by omega
  have wt : IntKind.i64.wrap (t : Int) = (t : Int) := IntWalk.i64_in _ (by omega)
  clear b1 t1 hR hR1 hN hv hse hC hc hR0 hCl
  go_enter Try.func9, Try.ntmps9
  go_wp2_with (first
    | (go_at_call 16; refine MY.out.mono ?_; rintro e w2 ⟨rfl, hb2⟩; have B2 := Lib.hid hb2; have q2 := T1.out.below hb2; have d0 := q2.c0; have d1 := q2.c1; clear hb2 q2)
    | (go_at_call 17; refine (BG.out w2 B2.out).mono ?_; rintro e w3 ⟨b, rfl, hC3, hb3⟩; have C3 := Lib.hid hC3; have B3 := Lib.hid (below_on B2.out (Nat.le_refl _) hb3); have q3 := T1.out.below B3.out; have e0 := q3.c0; have e1 := q3.c1; clear hb3 q3 hC3)
    | (go_at_call 25; refine (NX.out w3 _ b C3.out).mono ?_; rintro e w4 ⟨rfl, hb4⟩; have B4 := Lib.hid (below_on B3.out (Nat.le_refl _) hb4); have q4 := T1.out.below B4.out; have p0 := q4.c0; have p1 := q4.c1; clear hb4 q4)
    | (go_at_call 18; refine (CS.out w4 B4.out).mono ?_; rintro e w5 ⟨g, cp, rfl, hr5, hb5⟩; obtain ⟨a0, a1, a2⟩ := row_at hr5.own HC.out; simp only [nw] at a0 a1 a2; clear hr5; have B5 := Lib.hid (below_on B4.out (Nat.le_refl _) hb5); clear hb5)
    | (go_at_call 26; refine (RX.out _).mono ?_; rintro e w6 ⟨rfl, hb6⟩; have B6 := Lib.hid (below_on B5.out (Nat.le_refl _) hb6); clear hb6)
    | (go_at_call 11; refine (known_any _).mono ?_; rintro e w9 ⟨rfl, hb9⟩; have B9 := Lib.hid (below_on B0.out (Nat.le_refl _) (below_on B6.out (Nat.le_refl _) hb9)); clear hb9))
  go_ret
  exact ⟨rfl, B9.out⟩

theorem walk (y : Int) (A : Option Addr) (l : List Int) (cap : Nat) (t : Int) (u : Int) (w : World) (hR : Ri w A l) (_ : ∀ z ∈ l, -9223372036854775808 ≤ z ∧ z ≤ 9223372036854775807) (_ : l.length ≤ cap) (_ : (Lit.int .i64 t).wf = true) (hu : (Lit.int .u64 u).wf = true) :
    Calls Try.prog 9 #[tb y A l.length cap, .int .i64 t, .int .u64 u] w fun e w' => e = .returned (.bool true) ∧ Below w.heap.size w w' := by
  by_cases h : 300 < l.length
  · exact walk_long y A _ cap t u w h
  · cases hv : vt y l 256 9 with
    | false => exact walk_bad y A l _ cap t u w rfl (by omega) hv hR
    | true =>
      obtain ⟨n, rfl, hv2⟩ := vt_iff.1 hv
      have h1 := bounds_u64 hu
      obtain ⟨v, rfl⟩ : ∃ v : Nat, u = (v : Int) := ⟨u.toNat, by omega⟩
      by_cases ht : t < 0 ∨ ((2 ^ n : Nat) : Int) ≤ t
      · exact walk_far n _ A l _ cap t v w rfl hv2 rfl hR (by omega) ht
      · obtain ⟨t', rfl⟩ : ∃ t' : Nat, t = (t' : Int) := ⟨t.toNat, by omega⟩
        exact walk_mid n _ A l _ cap t' v w rfl hv2 rfl hR (by omega) (by omega)

set_option maxRecDepth 100000 in
theorem lifted (os : Os) (started : os.Started) (H : Type) (enc : TypeId × Value → H) :
    ReturnsInHanded {} Try.checked os 9 .any (Rows.statesNextSpec.pre6 enc Try.prog Try.f9 Rows.statesNextRow.domain false) (Rows.statesNextSpec.post enc Try.prog Try.f9 false true false false) := by
  refine returnsInHanded_of_change_sized (C := Try.checked) ownB started (by kernel_rfl) Try.func9
    (ChangeSpec.witness6 (enc := enc) (C := Try.checked) false ⟨#[], #[.agg #[.int .i64 0, .slice none 0 0], .int .i64 0, .int .u64 0], []⟩ 8 (by kernel_rfl) (by kernel_rfl) (by kernel_rfl) (by kernel_rfl)) ?_
  intro W base args ds gs before hval0 hW _ hsz0 _
  have hsz : (DataW.weightsEach Try.prog (Try.f9.params.toList ++ Rows.statesNextSpec.plain.varTypes Try.prog) (ds ++ gs)).all (· ≤ reachBytes) = true := hsz0
  clear hsz0
  have hval : ∀ (j : Nat) t v, Try.f9.params[j]? = some t → args[j]? = some v → Value.okWide Try.prog W .any base t v := hval0
  have hW' := hW
  obtain ⟨p, q, hA0, hV, rfl, hfz, hnd⟩ := hW
  have hA : DataW.TrodAll enc Try.prog W 0 (fun _ => true) true Try.f9.params.toList args.toList ds p := hA0
  rw [Try.params9] at hA hval hsz
  obtain ⟨v0, vs0, d0, ds0, p0, q0, hargs, rfl, rfl, h0, r0⟩ := trodAll_cons hA
  obtain ⟨v1, vs1, d1, ds1, p1, q1, rfl, rfl, rfl, h1, r1⟩ := trodAll_cons r0
  obtain ⟨v2, vs2, d2, ds2, p2, q2, rfl, rfl, rfl, h2, r2⟩ := trodAll_cons r1
  obtain ⟨rfl, rfl, rfl⟩ := trodAll_nil r2
  obtain rfl : args = #[v0, v1, v2] := by cases args; simp_all
  obtain ⟨rfl, rfl⟩ := trodVars_none hV
  obtain ⟨cs0, rfl, hcs0⟩ := okWide_struct Try.underlying24 (hval 0 24 v0 rfl rfl)
  have k0 := h0
  have lt0 : ∀ x ∈ p0, x.block < W.heap.size := by obtain ⟨m, hm⟩ := k0; exact DataW.trod_lt m _ _ _ hm
  obtain ⟨y0, a0, len0, cap0, l0, rfl, rfl, hc0, ri0, wi0⟩ := open_tab hcs0 h0
  obtain ⟨a1, rfl, rfl, rfl, w1⟩ := open_int Try.underlying3 (hval 1 3 v1 rfl rfl) h1
  obtain ⟨a2, rfl, rfl, rfl, w2⟩ := open_int Try.underlying42 (hval 2 42 v2 rfl rfl) h2
  clear hA0 hval0
  refine (walk y0 a0 l0 cap0 a1 a2 W ri0 wi0 hc0 w1 w2).mono fun e W' ⟨he, bel⟩ => ?_
  subst he
  exact ⟨_, rfl, _, _, _, [], _, [], hW', trodAll_mk1 (shut_bool Try.underlying4 _), (trodAll_cons_mk (Below.trod laidOut (by kernel_rfl) (of_decide_eq_true (by kernel_rfl)) k0 bel lt0) (trodAll_cons_mk (shut_int Try.underlying3 w1) (trodAll_cons_mk (shut_int Try.underlying42 w2) trodAll_mk0))), rfl, bel.frame _, fun h => by cases h⟩

theorem proved : Rows.StatesNextSaid :=
  OpenClaim.holds_of_wide 9 Try.f9 rfl rfl rfl rfl rfl rfl rfl ⟨rfl, rfl, rfl, rfl, rfl⟩ rfl rfl rfl rfl rfl (by kernel_rfl) Try.func9 (by kernel_rfl)
    (of_decide_eq_true (by kernel_rfl)) (by unfold Func.isWrapper; rw [if_neg (by decide +kernel)]; exact ⟨rfl, rfl⟩)
    (fun os started H enc _ => lifted os started H enc)

#print axioms proved

end Go.Proofs.Ytonapehlhkoplaa.statesNext
