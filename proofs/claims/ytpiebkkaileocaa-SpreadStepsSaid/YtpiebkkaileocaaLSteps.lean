/-
  Proved: the law SpreadSteps returns true for all sizes and logarithms: Step is the reference's, and for a power of two up to 512 that many steps visit every index once. No condition.
-/
import Derived.Test.YtpiebkkaileocaaFrm
import Derived.Test.YtpiebkkaileocaaSee
namespace Go.Proofs.Ytpiebkkaileocaa.spreadSteps
open Go.ChangeShapes Go.WideShapes Go.ChangeAt Go.RowKit

set_option maxRecDepth 100000 in
set_option maxHeartbeats 4000000 in
theorem walk_neg (z y : Int) (w : World) (h : y < 0) :
    Calls Try.prog 6 #[.int .i64 z, .int .i64 y] w fun e w' => e = .returned (.bool true) ∧ Below w.heap.size w w' := by
  obtain ⟨q, hq⟩ : ∃ q, stz z = q := ⟨_, rfl⟩
  have ST : Hid (∀ W, Calls Try.prog 20 #[.int .i64 z] W fun e w' => e = .returned (.int .i64 (q : Int)) ∧ w' = W) := Lib.hid (fun W => by
    have := step_any W z
    rwa [hq] at this)
  have RS : Hid (∀ W, Calls Try.prog 21 #[.int .i64 z] W fun e w' => e = .returned (.int .i64 (q : Int)) ∧ w' = W) := Lib.hid (fun W => by
    have := rstep_any W z
    rwa [hq] at this)
  have g1 : decide (y < 0) = true := decide_eq_true h
  clear hq
  go_enter Try.func6, Try.ntmps6
  go_wp2_with (first
    | (go_at_call 20; refine (ST.out _).mono ?_; rintro e w ⟨rfl, rfl⟩)
    | (go_at_call 21; refine (RS.out _).mono ?_; rintro e w ⟨rfl, rfl⟩)
    | (go_at_call 11; refine (known_any _).mono ?_; rintro e w5 ⟨rfl, hb5⟩; have B5 := Lib.hid hb5; clear hb5))
  go_ret
  exact ⟨rfl, B5.out⟩

set_option maxRecDepth 100000 in
set_option maxHeartbeats 4000000 in
theorem walk_far (z y : Int) (w : World) (h : 9 < y) :
    Calls Try.prog 6 #[.int .i64 z, .int .i64 y] w fun e w' => e = .returned (.bool true) ∧ Below w.heap.size w w' := by
  obtain ⟨q, hq⟩ : ∃ q, stz z = q := ⟨_, rfl⟩
  have ST : Hid (∀ W, Calls Try.prog 20 #[.int .i64 z] W fun e w' => e = .returned (.int .i64 (q : Int)) ∧ w' = W) := Lib.hid (fun W => by
    have := step_any W z
    rwa [hq] at this)
  have RS : Hid (∀ W, Calls Try.prog 21 #[.int .i64 z] W fun e w' => e = .returned (.int .i64 (q : Int)) ∧ w' = W) := Lib.hid (fun W => by
    have := rstep_any W z
    rwa [hq] at this)
  have g1 : decide (y < 0) = false := decide_eq_false (by omega)
  have g2 : decide (9 < y) = true := decide_eq_true h
  clear hq
  go_enter Try.func6, Try.ntmps6
  go_wp2_with (first
    | (go_at_call 20; refine (ST.out _).mono ?_; rintro e w ⟨rfl, rfl⟩)
    | (go_at_call 21; refine (RS.out _).mono ?_; rintro e w ⟨rfl, rfl⟩)
    | (go_at_call 11; refine (known_any _).mono ?_; rintro e w5 ⟨rfl, hb5⟩; have B5 := Lib.hid hb5; clear hb5))
  go_ret
  exact ⟨rfl, B5.out⟩

set_option maxRecDepth 100000 in
set_option maxHeartbeats 4000000 in
theorem walk_pow (z : Int) (y s : Nat) (w : World) (hy : y ≤ 9) (hse : 2 ^ y = s) :
    Calls Try.prog 6 #[.int .i64 z, .int .i64 (y : Int)] w fun e w' => e = .returned (.bool true) ∧ Below w.heap.size w w' := by
  obtain ⟨q, hq⟩ : ∃ q, stz z = q := ⟨_, rfl⟩
  have ST : Hid (∀ W, Calls Try.prog 20 #[.int .i64 z] W fun e w' => e = .returned (.int .i64 (q : Int)) ∧ w' = W) := Lib.hid (fun W => by
    have := step_any W z
    rwa [hq] at this)
  have RS : Hid (∀ W, Calls Try.prog 21 #[.int .i64 z] W fun e w' => e = .returned (.int .i64 (q : Int)) ∧ w' = W) := Lib.hid (fun W => by
    have := rstep_any W z
    rwa [hq] at this)
  have hs5 : s ≤ 512 := by rw [← hse]; exact pow_le hy
  have hs1 : 1 ≤ s := by rw [← hse]; exact Nat.one_le_two_pow
  have g1 : decide ((y : Int) < 0) = false := decide_eq_false (by omega)
  have g2 : decide (9 < (y : Int)) = false := decide_eq_false (by omega)
  obtain ⟨p, hp⟩ : ∃ p, stp s = p := ⟨_, rfl⟩
  have hpb : p ≤ 1000 := by rw [← hp]; exact stp_le hs5
  have hp1 : 1 ≤ p := by rw [← hp]; exact stp_pos s
  have g3 : decide ((p : Int) < 1) = false := decide_eq_false (by omega)
  have SS : Hid (∀ W, Calls Try.prog 20 #[.int .i64 (s : Int)] W fun e w' => e = .returned (.int .i64 (p : Int)) ∧ w' = W) := Lib.hid (fun W => by
    have := step_any W (s : Int)
    rw [stz_nat hs5, hp] at this
    exact this)
  have SZ : Hid (∀ W, Calls Try.prog 18 #[.int .i64 (y : Int)] W fun e w' => e = .returned (.int .i64 (s : Int)) ∧ w' = W) := Lib.hid (fun W => by
    have := size_any W (y : Int)
    have e : siz (y : Int) = s := by unfold siz; rw [if_neg (by omega)]; simpa using hse
    rw [e] at this
    exact this)
  have HNW : Hid (∀ i, i < s → vi s i ∉ (vis s).take i) := Lib.hid (fun i hi => sn_new hy hse hi)
  obtain ⟨w1, mk, ho1, hb1⟩ := make_bools s (by omega) w
  rw [← sn_zero] at ho1
  obtain ⟨g, hg⟩ : ∃ g, w.heap.size = g := ⟨_, rfl⟩
  have HG : Hid (w.heap.size = g) := Lib.hid hg
  rw [hg] at mk ho1
  have O1 := Lib.hid ho1
  have B1 := Lib.hid hb1
  have HP := Lib.hid hp
  clear hq hg ho1 hb1 hse hp
  go_enter Try.func6, Try.ntmps6
  go_wp2_with (first
    | (go_at_call 20; with_reducible refine (ST.out _).mono ?_; rintro e w ⟨rfl, rfl⟩)
    | (go_at_call 20; with_reducible refine (SS.out _).mono ?_; rintro e w ⟨rfl, rfl⟩)
    | (go_at_call 21; refine (RS.out _).mono ?_; rintro e w ⟨rfl, rfl⟩)
    | (go_at_call 18; refine (SZ.out _).mono ?_; rintro e w ⟨rfl, rfl⟩))
  clear mk
  go_loopw [8, 9] (fun v u wr => ∃ i t : Nat, i ≤ s ∧ t < s ∧ u = .int .i64 (i : Int) ∧ v = .int .i64 (t : Int) ∧ Hid (t = vi s i) ∧ Hid (wr.ownsRow g 4 1 (.slice (some ⟨g, 0, none⟩) s s) s ((sn s i).map Value.bool)) ∧ Hid (Below w.heap.size w wr)) (fun _ u _ => s - (intOf u).toNat)
  case atStart => exact ⟨0, 0, Nat.zero_le _, hs1, rfl, rfl, Lib.hid (vi_zero s).symm, O1, B1⟩
  case round =>
    obtain ⟨i, t, hi, ht, rfl, rfl, HT, HO, HB⟩ := hrel
    by_cases hlt : i < s
    · have hce : wr.cell? ⟨g, t, none⟩ = some (.bool false) := by
        rw [HO.out.cellAt t (by omega), List.getElem?_map, sn_get i ht, HT.out, decide_eq_false (HNW.out i hlt)]
        rfl
      have hfr := HO.out.frozenAt t
      obtain ⟨w5, hw5⟩ : ∃ w5, wr.setCell ⟨g, t, none⟩ (.bool true) = w5 := ⟨_, rfl⟩
      have O5 : Hid (w5.ownsRow g 4 1 (.slice (some ⟨g, 0, none⟩) s s) s ((sn s (i + 1)).map Value.bool)) := Lib.hid (by
        rw [← sn_set hlt, ← HT.out, List.map_set, ← hw5]
        exact (HO.out.stored t _).1)
      have B5 : Hid (Below w.heap.size w w5) := Lib.hid (by
        rw [← hw5]
        exact HB.out.setCell (p := ⟨g, t, none⟩) (by rw [HG.out]; exact Nat.le_refl _) _)
      obtain ⟨t2, ht2⟩ : ∃ t2, vi s (i + 1) = t2 := ⟨_, rfl⟩
      have ht2s : t2 < s := by rw [← ht2]; exact vi_lt (by omega) _
      have hmod2 : Int.tmod ((t : Int) + (p : Int)) (s : Int) = (t2 : Int) := by
        rw [Int.tmod_eq_emod_of_nonneg (by omega), ← ht2, ← vi_next, ← HT.out, HP.out, Int.natCast_emod, Int.natCast_add]
      have hs0 : ¬ (s : Int) = 0 := by omega
      have HT2 : Hid (t2 = vi s (i + 1)) := Lib.hid ht2.symm
      clear HO HB HT ht2
      go_wp2
      exact ⟨⟨i + 1, t2, by omega, ht2s, by simp, rfl, HT2, O5, B5⟩, by simp [intOf]; omega⟩
    · have ht0 : t = 0 := by rw [HT.out, show i = s by omega]; exact vi_all s
      subst ht0
      go_wp2_with (go_at_call 11; refine (known_any wr).mono ?_; rintro e w9 ⟨rfl, hb9⟩; have B9 := Lib.hid (below_on HB.out (Nat.le_refl _) hb9); clear hb9)
      go_ret
      exact ⟨rfl, B9.out⟩

theorem walk (z y : Int) (w : World) (_ : (Lit.int .i64 z).wf = true) (_ : (Lit.int .i64 y).wf = true) :
    Calls Try.prog 6 #[.int .i64 z, .int .i64 y] w fun e w' => e = .returned (.bool true) ∧ Below w.heap.size w w' := by
  by_cases h1 : y < 0
  · exact walk_neg z y w h1
  · by_cases h2 : 9 < y
    · exact walk_far z y w h2
    · obtain ⟨n, rfl⟩ : ∃ n : Nat, y = (n : Int) := ⟨y.toNat, by omega⟩
      exact walk_pow z n _ w (by omega) rfl
set_option maxRecDepth 100000 in
theorem lifted (os : Os) (started : os.Started) (H : Type) (enc : TypeId × Value → H) :
    ReturnsInHanded {} Try.checked os 6 .any (Rows.spreadStepsSpec.pre6 enc Try.prog Try.f6 Rows.spreadStepsRow.domain false) (Rows.spreadStepsSpec.post enc Try.prog Try.f6 false true false false) := by
  refine returnsInHanded_of_change_sized (C := Try.checked) ownB started (by kernel_rfl) Try.func6
    (ChangeSpec.witness6 (enc := enc) (C := Try.checked) false ⟨#[], #[.int .i64 0, .int .i64 0], []⟩ 8 (by kernel_rfl) (by kernel_rfl) (by kernel_rfl) (by kernel_rfl)) ?_
  intro W base args ds gs before hval0 hW _ hsz0 _
  have hsz : (DataW.weightsEach Try.prog (Try.f6.params.toList ++ Rows.spreadStepsSpec.plain.varTypes Try.prog) (ds ++ gs)).all (· ≤ reachBytes) = true := hsz0
  clear hsz0
  have hval : ∀ (j : Nat) t v, Try.f6.params[j]? = some t → args[j]? = some v → Value.okWide Try.prog W .any base t v := hval0
  have hW' := hW
  obtain ⟨p, q, hA0, hV, rfl, hfz, hnd⟩ := hW
  have hA : DataW.TrodAll enc Try.prog W 0 (fun _ => true) true Try.f6.params.toList args.toList ds p := hA0
  rw [Try.params6] at hA hval hsz
  obtain ⟨v0, vs0, d0, ds0, p0, q0, hargs, rfl, rfl, h0, r0⟩ := trodAll_cons hA
  obtain ⟨v1, vs1, d1, ds1, p1, q1, rfl, rfl, rfl, h1, r1⟩ := trodAll_cons r0
  obtain ⟨rfl, rfl, rfl⟩ := trodAll_nil r1
  obtain rfl : args = #[v0, v1] := by cases args; simp_all
  obtain ⟨rfl, rfl⟩ := trodVars_none hV
  obtain ⟨a0, rfl, rfl, rfl, w0⟩ := open_int Try.underlying3 (hval 0 3 v0 rfl rfl) h0
  obtain ⟨a1, rfl, rfl, rfl, w1⟩ := open_int Try.underlying3 (hval 1 3 v1 rfl rfl) h1
  clear hA0 hval0
  refine (walk a0 a1 W w0 w1).mono fun e W' ⟨he, bel⟩ => ?_
  subst he
  exact ⟨_, rfl, _, _, _, [], _, [], hW', trodAll_mk1 (shut_bool Try.underlying4 _), (trodAll_cons_mk (shut_int Try.underlying3 w0) (trodAll_cons_mk (shut_int Try.underlying3 w1) trodAll_mk0)), rfl, bel.frame _, fun h => by cases h⟩

theorem proved : Rows.SpreadStepsSaid :=
  OpenClaim.holds_of_wide 6 Try.f6 rfl rfl rfl rfl rfl rfl rfl ⟨rfl, rfl, rfl, rfl, rfl⟩ rfl rfl rfl rfl rfl (by kernel_rfl) Try.func6 (by kernel_rfl)
    (of_decide_eq_true (by kernel_rfl)) (by unfold Func.isWrapper; rw [if_neg (by decide +kernel)]; exact ⟨rfl, rfl⟩)
    (fun os started H enc _ => lifted os started H enc)

#print axioms proved

end Go.Proofs.Ytpiebkkaileocaa.spreadSteps
