/-
  Proved: the law FlowMost returns true for all tables and numbers: too many symbols, and a number of symbols that is none, give ErrArg. No condition.
-/
import Derived.BigQuiet
import Derived.Deep.QuietTactic
import Derived.Deep.RegionHeld3
import Derived.Deep.RegionLaw
import Derived.Test.YtgokbpnikgbfgaaSi
import Derived.Test.YtgokbpnikgbfgaaSj
namespace Go.Proofs.Ytgokbpnikgbfgaa.flowMost
open Go.ChangeShapes Go.WideShapes Go.ChangeAt Go.RowKit

set_option maxRecDepth 100000 in
set_option maxHeartbeats 1000000 in
theorem walk_a (y : Int) (A : Option Addr) (N cap : Nat) (k : Int) (w : World) (h : 300 < N) :
    Calls Try.prog 10 #[tb y A N cap, .int .i64 k] w fun e w' => e = .returned (.bool true) ∧ Below w.heap.size w w' := by
  have k1 : decide ((300 : Int) < (N : Int)) = true := decide_eq_true (by omega)
  obtain ⟨w1, hw1⟩ : ∃ w1, w.alloc (.cells #[.int .i64 y, .slice A N cap] 24) = w1 := ⟨_, rfl⟩
  obtain ⟨b1, t1⟩ := box_of hw1
  have c0 := t1.c0
  have c1 := t1.c1
  have B1 := Lib.hid b1
  have T1 := Lib.hid t1
  clear b1 t1
  go_enter Try.func10, Try.ntmps10
  go_wp2_with (first
    | (go_at_call 12; refine (known_any _).mono ?_; rintro e w9 ⟨rfl, hb9⟩; have B9 := Lib.hid (below_on B1.out (Nat.le_refl _) hb9); clear hb9))
  go_ret
  exact ⟨rfl, B9.out⟩

set_option maxRecDepth 100000 in
set_option maxHeartbeats 1000000 in
theorem walk_b (y : Int) (A : Option Addr) (l : List Int) (N cap : Nat) (k : Int) (w : World) (hN : l.length = N) (hR : Ri w A l) (h : N ≤ 300) (hv : vt y l 256 9 = false) :
    Calls Try.prog 10 #[tb y A N cap, .int .i64 k] w fun e w' => e = .returned (.bool true) ∧ Below w.heap.size w w' := by
  have k1 : decide ((300 : Int) < (N : Int)) = false := decide_eq_false (by omega)
  obtain ⟨w1, hw1⟩ : ∃ w1, w.alloc (.cells #[.int .i64 y, .slice A N cap] 24) = w1 := ⟨_, rfl⟩
  obtain ⟨b1, t1⟩ := box_of hw1
  have c0 := t1.c0
  have c1 := t1.c1
  have B1 := Lib.hid b1
  have T1 := Lib.hid t1
  have MY : Hid (∀ W, Below w.heap.size w W → Calls Try.prog 17 #[tb y A N cap, .int .i64 256, .int .i64 9] W fun e w' => e = .returned (.int .i64 13) ∧ Below W.heap.size W w') := Lib.hid (fun W hb => by
    have := may_any W y 256 9 A l N cap hN (by omega) (hR.below hb)
    rw [hv, show err false = 13 from rfl] at this
    exact this)
  clear b1 t1 hR hN hv
  go_enter Try.func10, Try.ntmps10
  go_wp2_with (first
    | (go_at_call 17; refine (MY.out _ B1.out).mono ?_; rintro e w2 ⟨rfl, hb⟩; have B2 := Lib.hid (below_on B1.out (Nat.le_refl _) hb); have T2 := Lib.hid (T1.out.below hb); have d20 := T2.out.c0; have d21 := T2.out.c1; clear hb )
    | (go_at_call 12; refine (known_any _).mono ?_; rintro e w9 ⟨rfl, hb9⟩; have B9 := Lib.hid (below_on B2.out (Nat.le_refl _) hb9); clear hb9))
  go_ret
  exact ⟨rfl, B9.out⟩

set_option maxRecDepth 100000 in
set_option maxHeartbeats 1000000 in
theorem walk_c (y : Nat) (A : Option Addr) (l : List Int) (N cap : Nat) (k : Int) (w : World) (hN : l.length = N) (hR : Ri w A l) (h : N ≤ 300) (hv : Vt y l) (hk : k < 1) :
    Calls Try.prog 10 #[tb (y : Int) A N cap, .int .i64 k] w fun e w' => e = .returned (.bool true) ∧ Below w.heap.size w w' := by
  have k1 : decide ((300 : Int) < (N : Int)) = false := decide_eq_false (by omega)
  have k3 : decide (k < 1) = true := decide_eq_true hk
  obtain ⟨w1, hw1⟩ : ∃ w1, w.alloc (.cells #[.int .i64 (y : Int), .slice A N cap] 24) = w1 := ⟨_, rfl⟩
  obtain ⟨b1, t1⟩ := box_of hw1
  have c0 := t1.c0
  have c1 := t1.c1
  have B1 := Lib.hid b1
  have T1 := Lib.hid t1
  have MY : Hid (∀ W, Below w.heap.size w W → Calls Try.prog 17 #[tb (y : Int) A N cap, .int .i64 256, .int .i64 9] W fun e w' => e = .returned (.int .i64 0) ∧ Below W.heap.size W w') := Lib.hid (fun W hb => by
    have := may_any W (y : Int) 256 9 A l N cap hN (by omega) (hR.below hb)
    rw [vt_true hv, show err true = 0 from rfl] at this
    exact this)
  clear b1 t1 hR hN hv
  go_enter Try.func10, Try.ntmps10
  go_wp2_with (first
    | (go_at_call 17; refine (MY.out _ B1.out).mono ?_; rintro e w2 ⟨rfl, hb⟩; have B2 := Lib.hid (below_on B1.out (Nat.le_refl _) hb); have T2 := Lib.hid (T1.out.below hb); have d20 := T2.out.c0; have d21 := T2.out.c1; clear hb )
    | (go_at_call 12; refine (known_any _).mono ?_; rintro e w9 ⟨rfl, hb9⟩; have B9 := Lib.hid (below_on B2.out (Nat.le_refl _) hb9); clear hb9))
  go_ret
  exact ⟨rfl, B9.out⟩

set_option maxRecDepth 100000 in
set_option maxHeartbeats 1000000 in
theorem walk_d (y : Nat) (A : Option Addr) (l : List Int) (N cap : Nat) (k : Int) (w : World) (hN : l.length = N) (hR : Ri w A l) (h : N ≤ 300) (hv : Vt y l) (hk : ¬ k < 1) (hk2 : 100 < k) :
    Calls Try.prog 10 #[tb (y : Int) A N cap, .int .i64 k] w fun e w' => e = .returned (.bool true) ∧ Below w.heap.size w w' := by
  have k1 : decide ((300 : Int) < (N : Int)) = false := decide_eq_false (by omega)
  have k3 : decide (k < 1) = false := decide_eq_false hk
  have k4 : decide (100 < k) = true := decide_eq_true hk2
  obtain ⟨w1, hw1⟩ : ∃ w1, w.alloc (.cells #[.int .i64 (y : Int), .slice A N cap] 24) = w1 := ⟨_, rfl⟩
  obtain ⟨b1, t1⟩ := box_of hw1
  have c0 := t1.c0
  have c1 := t1.c1
  have B1 := Lib.hid b1
  have T1 := Lib.hid t1
  have MY : Hid (∀ W, Below w.heap.size w W → Calls Try.prog 17 #[tb (y : Int) A N cap, .int .i64 256, .int .i64 9] W fun e w' => e = .returned (.int .i64 0) ∧ Below W.heap.size W w') := Lib.hid (fun W hb => by
    have := may_any W (y : Int) 256 9 A l N cap hN (by omega) (hR.below hb)
    rw [vt_true hv, show err true = 0 from rfl] at this
    exact this)
  clear b1 t1 hR hN hv
  go_enter Try.func10, Try.ntmps10
  go_wp2_with (first
    | (go_at_call 17; refine (MY.out _ B1.out).mono ?_; rintro e w2 ⟨rfl, hb⟩; have B2 := Lib.hid (below_on B1.out (Nat.le_refl _) hb); have T2 := Lib.hid (T1.out.below hb); have d20 := T2.out.c0; have d21 := T2.out.c1; clear hb )
    | (go_at_call 12; refine (known_any _).mono ?_; rintro e w9 ⟨rfl, hb9⟩; have B9 := Lib.hid (below_on B2.out (Nat.le_refl _) hb9); clear hb9))
  go_ret
  exact ⟨rfl, B9.out⟩

set_option maxRecDepth 100000 in
set_option maxHeartbeats 1000000 in
theorem walk_ok (y : Nat) (A : Option Addr) (l : List Int) (N cap : Nat) (k : Nat) (w : World) (hN : l.length = N) (hc : N ≤ cap) (hR : Ri w A l) (h : N ≤ 300) (hv : Vt y l) (hk1 : 1 ≤ k) (hk2 : k ≤ 100) :
    Calls Try.prog 10 #[tb (y : Int) A N cap, .int .i64 (k : Int)] w fun e w' => e = .returned (.bool true) ∧ Below w.heap.size w w' := by
  have k1 : decide ((300 : Int) < (N : Int)) = false := decide_eq_false (by omega)
  have k3 : decide ((k : Int) < 1) = false := decide_eq_false (by omega)
  have k3n : decide (k < 1) = false := decide_eq_false (by omega)
  have k3p : ¬ k = 0 := by omega
  have k3q : decide (k = 0) = false := decide_eq_false (by omega)
  have k4 : decide ((100 : Int) < (k : Int)) = false := decide_eq_false (by omega)
  have k4n : decide (100 < k) = false := decide_eq_false (by omega)
  obtain ⟨w1, hw1⟩ : ∃ w1, w.alloc (.cells #[.int .i64 (y : Int), .slice A N cap] 24) = w1 := ⟨_, rfl⟩
  obtain ⟨b1, t1⟩ := box_of hw1
  have c0 := t1.c0
  have c1 := t1.c1
  have B1 := Lib.hid b1
  have T1 := Lib.hid t1
  have MY : Hid (∀ W, Below w.heap.size w W → Calls Try.prog 17 #[tb (y : Int) A N cap, .int .i64 256, .int .i64 9] W fun e w' => e = .returned (.int .i64 0) ∧ Below W.heap.size W w') := Lib.hid (fun W hb => by
    have := may_any W (y : Int) 256 9 A l N cap hN (by omega) (hR.below hb)
    rw [vt_true hv, show err true = 0 from rfl] at this
    exact this)
  obtain ⟨nn, hnn⟩ : ∃ nn, 131072 + k = nn := ⟨_, rfl⟩
  obtain ⟨z, hz⟩ : ∃ z : Int, -(k : Int) = z := ⟨_, rfl⟩
  have hadd : (131072 : Int) + (k : Int) = (nn : Int) := by omega
  have hz0 : z < 0 := by omega
  have hz1 : -100 ≤ z := by omega
  have wz : IntKind.i64.wrap z = z := IntWalk.i64_in _ (by omega)
  have hnl : nn ≤ 131172 := by omega
  have wnn : IntKind.i64.wrap (nn : Int) = (nn : Int) := IntWalk.i64_in _ (by omega)
  have EN : Hid (∀ W G, Below w.heap.size w W → Ri W G (List.replicate nn 0) → Calls Try.prog 16 #[tb (y : Int) A N cap, .slice G nn nn] W (Eres W (2, []))) := Lib.hid (fun W G hb hr => by
    have := fenc_any W (y : Int) A l N cap hN (by omega) hc (hR.below hb) G (List.replicate nn 0) nn nn (by simp) (by omega) (Nat.le_refl _) hr
    rw [feR_arg (vt_true hv) (.inl (by simp; omega))] at this
    exact this)
  have DE : Hid (∀ W G (n : Int), Below w.heap.size w W → Bt.Rd W G [1] → (n < 0 ∨ 131072 < n) → Calls Try.prog 13 #[tb (y : Int) A N cap, .slice G 1 1, .int .i64 n] W (Fres W (2, []))) := Lib.hid (fun W G n hb hr hn => by
    have := fdec_any W (y : Int) A l N cap hN (by omega) (hR.below hb) G [1] 1 1 rfl (by decide) hr n
    rw [fdR_arg _ (vt_true hv) hn] at this
    exact this)
  have HNN : Hid (131072 < (nn : Int)) := Lib.hid (by omega)
  clear b1 t1 hR hN hv hc hnn hk1 hk2
  go_enter Try.func10, Try.ntmps10
  go_upto_region 3 with (first
    | (go_at_call 17; refine (MY.out _ B1.out).mono ?_; rintro e w2 ⟨rfl, hb⟩; have B2 := Lib.hid (below_on B1.out (Nat.le_refl _) hb); have T2 := Lib.hid (T1.out.below hb); have d20 := T2.out.c0; have d21 := T2.out.c1; clear hb ))
  obtain ⟨wm, hmk, hom, hbm⟩ := make_ints nn (by omega) w2.drew
  have BD : Hid (Below w.heap.size w w2.drew) := Lib.hid B2.out.drew
  have BM := Lib.hid (below_on BD.out (Nat.le_refl _) hbm)
  have TM := Lib.hid ((show Tb w2.drew w.heap.size (y : Int) A N cap from T2.out.same rfl).below hbm)
  have RM : Hid (Ri wm (some ⟨w2.drew.heap.size, 0, none⟩) (List.replicate nn 0)) := Lib.hid (Rv.of_own hom)
  have m0 := TM.out.c0
  have m1 := TM.out.c1
  have p0 : w2.drew.cell? ⟨w.heap.size, 0, none⟩ = some (.int .i64 (y : Int)) := d20
  have p1 : w2.drew.cell? ⟨w.heap.size, 1, none⟩ = some (.slice A N cap) := d21
  clear hom hbm
  go_region_with (go_at_call 16; refine (EN.out _ _ BM.out RM.out).mono ?_; intro e w3 hf; obtain ⟨A3, n3, c3, rfl, hb, _, _, _, _⟩ := hf.out; have B3 := Lib.hid (below_on (below_on BM.out (Nat.le_refl _) hb) (Nat.le_refl _) (below_new w3 (.cells #[.int .u8 1] 5))); have T3 := Lib.hid ((TM.out.below hb).below (below_new w3 (.cells #[.int .u8 1] 5))); have Y3 := Lib.hid (rd_one8 w3 1 1 (by decide)); have e30 := (TM.out.below hb).c0; have e31 := (TM.out.below hb).c1; have d30 := T3.out.c0; have d31 := T3.out.c1; clear hf hb)
  all_goals
    go_upto_region 5 with (go_at_call 13; refine (DE.out _ _ _ B3.out Y3.out (Or.inr HNN.out)).mono ?_; intro e w4 hf; obtain ⟨A4, n4, c4, rfl, hb, _, _, _, _⟩ := hf.out; have B4 := Lib.hid (below_on (below_on B3.out (Nat.le_refl _) hb) (Nat.le_refl _) (below_new w4 (.cells #[.int .u8 1] 5))); have T4 := Lib.hid ((T3.out.below hb).below (below_new w4 (.cells #[.int .u8 1] 5))); have Y4 := Lib.hid (rd_one8 w4 1 1 (by decide)); have f30 := (T3.out.below hb).c0; have f31 := (T3.out.below hb).c1; have d40 := T4.out.c0; have d41 := T4.out.c1; clear hf hb)
    go_wp2_with (first
      | (go_at_call 13; refine (DE.out _ _ _ B4.out Y4.out (Or.inl hz0)).mono ?_; intro e w5 hf; obtain ⟨A5, n5, c5, rfl, hb, _, _, _, _⟩ := hf.out; have B5 := Lib.hid (below_on B4.out (Nat.le_refl _) hb); clear hf hb)
      | (go_at_call 12; refine (known_any _).mono ?_; rintro e w9 ⟨rfl, hb9⟩; have B9 := Lib.hid (below_on B5.out (Nat.le_refl _) hb9); clear hb9))
    go_ret
    exact ⟨rfl, B9.out⟩

theorem walk (y : Int) (A : Option Addr) (l : List Int) (cap : Nat) (k : Int) (w : World) (hR : Ri w A l) (_ : ∀ z ∈ l, -9223372036854775808 ≤ z ∧ z ≤ 9223372036854775807) (hc : l.length ≤ cap) (_ : (Lit.int IntKind.i64 k).wf = true) :
    Calls Try.prog 10 #[tb y A l.length cap, .int .i64 k] w fun e w' => e = .returned (.bool true) ∧ Below w.heap.size w w' := by
  by_cases h : 300 < l.length
  · exact walk_a y A _ cap k w h
  · cases hv : vt y l 256 9 with
    | false => exact walk_b y A l _ cap k w rfl hR (by omega) hv
    | true =>
      obtain ⟨n, rfl, hvt⟩ := vt_iff.1 hv
      by_cases hk : k < 1
      · exact walk_c n A l _ cap k w rfl hR (by omega) hvt hk
      · by_cases hk2 : 100 < k
        · exact walk_d n A l _ cap k w rfl hR (by omega) hvt hk hk2
        · obtain ⟨q, rfl⟩ : ∃ q : Nat, k = (q : Int) := ⟨k.toNat, by omega⟩
          exact walk_ok n A l _ cap q w rfl hc hR (by omega) hvt (by omega) (by omega)
set_option maxRecDepth 100000 in
theorem lifted (os : Os) (started : os.Started) (H : Type) (enc : TypeId × Value → H) :
    ReturnsInHanded {} Try.checked os 10 .any (Rows.flowMostSpec.pre6 enc Try.prog Try.f10 Rows.flowMostRow.domain false) (Rows.flowMostSpec.post enc Try.prog Try.f10 false true false false) := by
  refine returnsInHanded_of_change_sized (C := Try.checked) ownB started (by kernel_rfl) Try.func10
    (ChangeSpec.witness6 (enc := enc) (C := Try.checked) false ⟨#[], #[.agg #[.int .i64 0, .slice none 0 0], .int .i64 0], []⟩ 8 (by kernel_rfl) (by kernel_rfl) (by kernel_rfl) (by kernel_rfl)) ?_
  intro W base args ds gs before hval0 hW _ hsz0 _
  have hsz : (DataW.weightsEach Try.prog (Try.f10.params.toList ++ Rows.flowMostSpec.plain.varTypes Try.prog) (ds ++ gs)).all (· ≤ reachBytes) = true := hsz0
  clear hsz0
  have hval : ∀ (j : Nat) t v, Try.f10.params[j]? = some t → args[j]? = some v → Value.okWide Try.prog W .any base t v := hval0
  have hW' := hW
  obtain ⟨p, q, hA0, hV, rfl, hfz, hnd⟩ := hW
  have hA : DataW.TrodAll enc Try.prog W 0 (fun _ => true) true Try.f10.params.toList args.toList ds p := hA0
  rw [Try.params10] at hA hval hsz
  obtain ⟨v0, vs0, d0, ds0, p0, q0, hargs, rfl, rfl, h0, r0⟩ := trodAll_cons hA
  obtain ⟨v1, vs1, d1, ds1, p1, q1, rfl, rfl, rfl, h1, r1⟩ := trodAll_cons r0
  obtain ⟨rfl, rfl, rfl⟩ := trodAll_nil r1
  obtain rfl : args = #[v0, v1] := by cases args; simp_all
  obtain ⟨rfl, rfl⟩ := trodVars_none hV
  obtain ⟨cs0, rfl, hcs0⟩ := okWide_struct Try.underlying24 (hval 0 24 v0 rfl rfl)
  have k0 := h0
  have lt0 : ∀ x ∈ p0, x.block < W.heap.size := by obtain ⟨m, hm⟩ := k0; exact DataW.trod_lt m _ _ _ hm
  obtain ⟨y0, a0, len0, cap0, l0, rfl, rfl, hc0, ri0, wi0⟩ := open_tab hcs0 h0
  obtain ⟨a1, rfl, rfl, rfl, w1⟩ := open_int Try.underlying3 (hval 1 3 v1 rfl rfl) h1
  clear hA0 hval0
  refine (walk y0 a0 l0 cap0 a1 W ri0 wi0 hc0 w1).mono fun e W' ⟨he, bel⟩ => ?_
  subst he
  exact ⟨_, rfl, _, _, _, [], _, [], hW', trodAll_mk1 (shut_bool Try.underlying4 _), (trodAll_cons_mk (Below.trod laidOut (by kernel_rfl) (of_decide_eq_true (by kernel_rfl)) k0 bel lt0) (trodAll_cons_mk (shut_int Try.underlying3 w1) trodAll_mk0)), rfl, bel.frame _, fun h => by cases h⟩

theorem proved : Rows.FlowMostSaid :=
  OpenClaim.holds_of_wide 10 Try.f10 rfl rfl rfl rfl rfl rfl rfl ⟨rfl, rfl, rfl, rfl, rfl⟩ rfl rfl rfl rfl rfl (by kernel_rfl) Try.func10 (by kernel_rfl)
    (of_decide_eq_true (by kernel_rfl)) (by unfold Func.isWrapper; rw [if_neg (by decide +kernel)]; exact ⟨rfl, rfl⟩)
    (fun os started H enc _ => lifted os started H enc)

#print axioms proved

end Go.Proofs.Ytgokbpnikgbfgaa.flowMost
