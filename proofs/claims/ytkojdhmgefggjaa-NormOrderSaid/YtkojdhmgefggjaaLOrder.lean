/-
  Proved: the law NormOrder returns true for all counts and Logs: a symbol with a lower count never has more states than one with a greater count. No condition.
-/
import Derived.Test.YtkojdhmgefggjaaFrm
import Derived.Test.YtkojdhmgefggjaaRfo
import Derived.Test.YtkojdhmgefggjaaOrd
namespace Go.Proofs.Ytkojdhmgefggjaa.normOrder
open Go.ChangeShapes Go.WideShapes Go.ChangeAt Go.RowKit

set_option maxRecDepth 100000 in
set_option maxHeartbeats 2000000 in
theorem states_any (w : World) (n : Int) : Calls Try.prog 20 #[.int .i64 n] w fun e w' => e = .returned (.int .i64 (sts n)) ∧ w' = w := by
  by_cases h : n = -1
  · subst h
    go_enter Try.func20, Try.ntmps20
    go_wp2
    go_ret
    exact ⟨rfl, rfl⟩
  · have e1 : (n == -1) = false := by simp [h]
    have e2 : sts n = n := by unfold sts; rw [if_neg h]
    rw [e2]
    go_enter Try.func20, Try.ntmps20
    go_wp2
    go_ret
    exact ⟨rfl, rfl⟩

set_option maxRecDepth 100000 in
set_option maxHeartbeats 2000000 in
theorem walk_long (A : Option Addr) (N cap : Nat) (z : Int) (w : World) (h : 100 < N) :
    Calls Try.prog 7 #[.slice A N cap, .int .i64 z] w fun e w' => e = .returned (.bool true) ∧ Below w.heap.size w w' := by
  have hd : decide ((100 : Int) < (N : Int)) = true := decide_eq_true (by omega)
  have KN := Lib.hid (known_any w)
  go_enter Try.func7, Try.ntmps7
  go_wp2_with (go_at_call 12; refine KN.out.mono ?_; rintro e w1 ⟨rfl, hb1⟩; have B1 := Lib.hid hb1; clear hb1)
  go_ret
  exact ⟨rfl, B1.out⟩

set_option maxRecDepth 100000 in
set_option maxHeartbeats 2000000 in
theorem walk_bad (A : Option Addr) (l : List Int) (N cap : Nat) (z : Int) (w : World) (h : N ≤ 100) (hN : l.length = N) (hR : Ri w A l) (hg : ¬ good l z) :
    Calls Try.prog 7 #[.slice A N cap, .int .i64 z] w fun e w' => e = .returned (.bool true) ∧ Below w.heap.size w w' := by
  have hd : decide ((100 : Int) < (N : Int)) = false := decide_eq_false (by omega)
  have H1 := Lib.hid (normalize_bad w A l N cap z hN (by omega) hR hg)
  clear hN hR hg
  go_enter Try.func7, Try.ntmps7
  go_wp2_with (first
    | (go_at_call 15; refine H1.out.mono ?_; rintro e w1 ⟨rfl, hb1⟩; have B1 := Lib.hid (below_on hb1 (Nat.le_refl _) ((Below.refl _ w1).alloc (Nat.le_refl _) (.cells #[.int .i64 0, .slice none 0 0] 24))); clear hb1)
    | (go_at_call 12; refine (known_any _).mono ?_; rintro e w2 ⟨rfl, hb2⟩; have B2 := Lib.hid (below_on B1.out (Nat.le_refl _) hb2); clear hb2))
  go_ret
  exact ⟨rfl, B2.out⟩

set_option maxRecDepth 100000 in
set_option maxHeartbeats 4000000 in
theorem walk_ok (A : Option Addr) (k : List Nat) (N cap lg s L : Nat) (w : World) (h : N ≤ 100) (hN : k.length = N) (hR : Rn w A k) (hg : Gd k lg s) (hL : lst k + 1 = L) :
    Calls Try.prog 7 #[.slice A N cap, .int .i64 (lg : Int)] w fun e w' => e = .returned (.bool true) ∧ Below w.heap.size w w' := by
  have hd : decide ((100 : Int) < (N : Int)) = false := decide_eq_false (by omega)
  have H1 := Lib.hid (normalize_ok w A k N cap lg s hN (by omega) hR hg.tot hg.pos hg.log hg.pow hg.use)
  have hLN : L ≤ N := by have := lst_lt hg.pos; omega
  rw [hL] at H1
  have HN := Lib.hid hN
  have HG := Lib.hid hg
  have HR := Lib.hid hR
  have HL := Lib.hid hL
  clear hN hR hg hL
  go_enter Try.func7, Try.ntmps7
  go_wp2_with (go_at_call 15; refine H1.out.mono ?_; rintro e w1 ⟨g, rfl, ho1, hb1⟩; have O1 := Lib.hid ho1; have B1 := Lib.hid hb1; clear ho1 hb1)
  have b2 : Below w1.heap.size w1 (w1.alloc (.cells #[.int .i64 (lg : Int), .slice (some ⟨g, 0, none⟩) L L] 24)) := (Below.refl _ w1).alloc (Nat.le_refl _) _
  have t2 := Tb.new w1 lg (some ⟨g, 0, none⟩) L L
  have o2 := own_below O1.out b2
  generalize w1.alloc (.cells #[.int .i64 (lg : Int), .slice (some ⟨g, 0, none⟩) L L] 24) = w2 at b2 t2 o2 ⊢
  have B2 := Lib.hid (below_on B1.out (Nat.le_refl _) b2)
  have t1 := t2.c1
  have O2 := Lib.hid o2
  have HRR := Lib.hid (HR.out.below B2.out)
  obtain ⟨tbk, htbk⟩ : ∃ b, w1.heap.size = b := ⟨_, rfl⟩
  rw [htbk] at t1
  simp only [htbk]
  clear b2 t2 o2 htbk
  have CEL : Hid (∀ i, i < L → w2.cell? ⟨g, i, none⟩ = some (.int .i64 (nm k s i))) := Lib.hid (fun i hi => by
    rw [O2.out.cellAt i (by omega), List.getElem?_map]
    unfold nrm
    rw [List.getElem?_map, HL.out, List.getElem?_range hi]
    rfl)
  have CNT : Hid (∀ i, i < N → ∃ ad, A = some ad ∧ w2.cell? (ad.add i) = some (.int .i64 (cn k i : Int))) := Lib.hid (fun i hi => by
    obtain ⟨x, hx⟩ : ∃ x, k[i]? = some x := ⟨_, List.getElem?_eq_getElem (by rw [HN.out]; exact hi)⟩
    obtain ⟨ad, e, hc⟩ := HRR.out i (nv x) (by rw [List.getElem?_map, hx]; rfl)
    refine ⟨ad, e, ?_⟩
    have : cn k i = x := by unfold cn; rw [hx]; rfl
    rw [this]
    exact hc)
  go_loopw [7] (fun p wr => ∃ i : Nat, i ≤ L ∧ p = .int .i64 (i : Int) ∧ ∃ d, wr = w2.drewN d) (fun p _ => L - (intOf p).toNat)
  case atStart => exact ⟨0, Nat.zero_le _, rfl, 0, rfl⟩
  case round =>
    obtain ⟨i, hi, rfl, d, rfl⟩ := hrel
    by_cases hlt : i < L
    · obtain ⟨ad, rfl, hci⟩ := CNT.out i (by omega)
      have cni := CEL.out i hlt
      have wi : IntKind.i64.wrap (i : Int) = (i : Int) := IntWalk.i64_in _ (by omega)
      go_wp2
      go_loopw [8] (fun p wr => ∃ j : Nat, j ≤ L ∧ p = .int .i64 (j : Int) ∧ ∃ d, wr = w2.drewN d) (fun p _ => L - (intOf p).toNat)
      case atStart => exact ⟨0, Nat.zero_le _, rfl, d, rfl⟩
      case round =>
        obtain ⟨j, hj, rfl, d, rfl⟩ := hrel
        by_cases hlt2 : j < L
        · obtain ⟨ad2, had, hcj⟩ := CNT.out j (by omega)
          obtain rfl := Option.some.inj had
          have cnj := CEL.out j hlt2
          have wj : IntKind.i64.wrap (j : Int) = (j : Int) := IntWalk.i64_in _ (by omega)
          have HO : Hid (cn k i < cn k j → sts (nm k s i) ≤ sts (nm k s j)) := Lib.hid (fun h => sts_order HG.out (by rw [HN.out]; omega) (by rw [HN.out]; omega) h)
          obtain ⟨a, ha⟩ : ∃ a, nm k s i = a := ⟨_, rfl⟩
          obtain ⟨b, hb⟩ : ∃ b, nm k s j = b := ⟨_, rfl⟩
          obtain ⟨x, hx⟩ : ∃ x, cn k i = x := ⟨_, rfl⟩
          obtain ⟨y, hy⟩ : ∃ y, cn k j = y := ⟨_, rfl⟩
          rw [hb] at cnj HO
          rw [hy] at hcj HO
          have cni2 := cni
          have hci2 := hci
          rw [ha] at cni2 HO
          rw [hx] at hci2 HO
          have CI := Lib.hid (And.intro cni hci)
          clear cni hci ha hb hx hy
          have li : decide ((i : Int) < (N : Int)) = true := decide_eq_true (by omega)
          have lj : decide ((j : Int) < (N : Int)) = true := decide_eq_true (by omega)
          have hiN : i < N := by omega
          have hjN : j < N := by omega
          by_cases hxy : x < y
          · have d1 : decide ((x : Int) < (y : Int)) = true := decide_eq_true (by omega)
            have hsab := HO.out hxy
            have d2 : decide (sts b < sts a) = false := decide_eq_false (by omega)
            clear HO
            go_wp2
            go_region_held3 (fun W => W.cell? ⟨tbk, 1, none⟩ = some (.slice (some ⟨g, 0, none⟩) L L) ∧ W.cell? (ad.add i) = some (.int .i64 (x : Int)) ∧ W.cell? (ad.add j) = some (.int .i64 (y : Int)) ∧ W.cell? ⟨g, i, none⟩ = some (.int .i64 a) ∧ W.cell? ⟨g, j, none⟩ = some (.int .i64 b)) (first | exact ⟨t1, hci2, hcj, cni2, cnj⟩) (first
              | (go_at_call 20; refine (states_any _ _).mono ?_; rintro e w' ⟨rfl, rfl⟩))
            all_goals
              go_wp2
              exact ⟨⟨j + 1, by omega, by simp, _, rfl⟩, by simp [intOf]; omega⟩
          · have d1 : decide ((x : Int) < (y : Int)) = false := decide_eq_false (by omega)
            clear HO
            go_wp2
            go_quiet (fail)
            go_wp2
            exact ⟨⟨j + 1, by omega, by simp, _, rfl⟩, by simp [intOf]; omega⟩
        · go_wp2
          exact ⟨⟨i + 1, by omega, by simp, _, rfl⟩, by simp [intOf]; omega⟩
    · go_wp2_with (go_at_call 12; refine (known_any _).mono ?_; rintro e w3 ⟨rfl, hb3⟩; have B3 := Lib.hid (below_on (below_drewN' B2.out d) (Nat.le_refl _) hb3); clear hb3)
      go_ret
      exact ⟨rfl, B3.out⟩

theorem walk (A : Option Addr) (l : List Int) (cap : Nat) (z : Int) (w : World) (hR : Ri w A l) (_ : ∀ z ∈ l, -9223372036854775808 ≤ z ∧ z ≤ 9223372036854775807) (_ : l.length ≤ cap) (_ : (Lit.int .i64 z).wf = true) :
    Calls Try.prog 7 #[.slice A l.length cap, .int .i64 z] w fun e w' => e = .returned (.bool true) ∧ Below w.heap.size w w' := by
  by_cases h : 100 < l.length
  · exact walk_long A _ cap z w h
  · by_cases hg : good l z
    · obtain ⟨k, lg, rfl, hk, rfl, hgd⟩ := gd_of hg (by omega)
      rw [List.length_map] at h ⊢
      unfold Ri at hR
      rw [ri_nats] at hR
      exact walk_ok A k k.length cap lg _ _ w (by omega) rfl hR hgd rfl
    · exact walk_bad A l _ cap z w (by omega) rfl hR hg

set_option maxRecDepth 100000 in
theorem lifted (os : Os) (started : os.Started) (H : Type) (enc : TypeId × Value → H) :
    ReturnsInHanded {} Try.checked os 7 .any (Rows.normOrderSpec.pre6 enc Try.prog Try.f7 Rows.normOrderRow.domain false) (Rows.normOrderSpec.post enc Try.prog Try.f7 false true false false) := by
  refine returnsInHanded_of_change_sized (C := Try.checked) ownB started (by kernel_rfl) Try.func7
    (ChangeSpec.witness6 (enc := enc) (C := Try.checked) false ⟨#[], #[.slice none 0 0, .int .i64 0], []⟩ 8 (by kernel_rfl) (by kernel_rfl) (by kernel_rfl) (by kernel_rfl)) ?_
  intro W base args ds gs before hval0 hW _ hsz0 _
  have hsz : (DataW.weightsEach Try.prog (Try.f7.params.toList ++ Rows.normOrderSpec.plain.varTypes Try.prog) (ds ++ gs)).all (· ≤ reachBytes) = true := hsz0
  clear hsz0
  have hval : ∀ (j : Nat) t v, Try.f7.params[j]? = some t → args[j]? = some v → Value.okWide Try.prog W .any base t v := hval0
  have hW' := hW
  obtain ⟨p, q, hA0, hV, rfl, hfz, hnd⟩ := hW
  have hA : DataW.TrodAll enc Try.prog W 0 (fun _ => true) true Try.f7.params.toList args.toList ds p := hA0
  rw [Try.params7] at hA hval hsz
  obtain ⟨v0, vs0, d0, ds0, p0, q0, hargs, rfl, rfl, h0, r0⟩ := trodAll_cons hA
  obtain ⟨v1, vs1, d1, ds1, p1, q1, rfl, rfl, rfl, h1, r1⟩ := trodAll_cons r0
  obtain ⟨rfl, rfl, rfl⟩ := trodAll_nil r1
  obtain rfl : args = #[v0, v1] := by cases args; simp_all
  obtain ⟨rfl, rfl⟩ := trodVars_none hV
  obtain ⟨a0, len0, cap0, rfl⟩ := okWide_slice Try.underlying22 (hval 0 22 v0 rfl rfl)
  have k0 := h0
  have lt0 : ∀ x ∈ p0, x.block < W.heap.size := by obtain ⟨m, hm⟩ := k0; exact DataW.trod_lt m _ _ _ hm
  obtain ⟨l0, rfl, hc0, ri0, wi0⟩ := open_intl h0
  obtain ⟨a1, rfl, rfl, rfl, w1⟩ := open_int Try.underlying3 (hval 1 3 v1 rfl rfl) h1
  clear hA0 hval0
  refine (walk a0 l0 cap0 a1 W ri0 wi0 hc0 w1).mono fun e W' ⟨he, bel⟩ => ?_
  subst he
  exact ⟨_, rfl, _, _, _, [], _, [], hW', trodAll_mk1 (shut_bool Try.underlying4 _), (trodAll_cons_mk (Below.trod laidOut (by kernel_rfl) (of_decide_eq_true (by kernel_rfl)) k0 bel lt0) (trodAll_cons_mk (shut_int Try.underlying3 w1) trodAll_mk0)), rfl, bel.frame _, fun h => by cases h⟩

theorem proved : Rows.NormOrderSaid :=
  OpenClaim.holds_of_wide 7 Try.f7 rfl rfl rfl rfl rfl rfl rfl ⟨rfl, rfl, rfl, rfl, rfl⟩ rfl rfl rfl rfl rfl (by kernel_rfl) Try.func7 (by kernel_rfl)
    (of_decide_eq_true (by kernel_rfl)) (by unfold Func.isWrapper; rw [if_neg (by decide +kernel)]; exact ⟨rfl, rfl⟩)
    (fun os started H enc _ => lifted os started H enc)

#print axioms proved

end Go.Proofs.Ytkojdhmgefggjaa.normOrder
