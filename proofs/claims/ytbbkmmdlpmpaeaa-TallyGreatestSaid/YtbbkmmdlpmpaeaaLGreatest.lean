/-
  Proved: the law TallyGreatest returns true for all integers: MostFrequent returns the most frequent symbol, or the error. No condition.
-/
import Derived.Test.YtbbkmmdlpmpaeaaFrm
import Derived.Test.YtbbkmmdlpmpaeaaRfB
namespace Go.Proofs.Ytbbkmmdlpmpaeaa.tallyGreatest
open Go.ChangeShapes Go.WideShapes Go.ChangeAt Go.RowKit


set_option maxHeartbeats 1000000 in
theorem walk_a (A : Option Addr) (N cap : Nat) (w : World) (h : 400 < N) :
    Calls Try.prog 7 #[.slice A N cap] w fun e w' => e = .returned (.bool true) ∧ Below w.heap.size w w' := by
  have hd : decide ((400 : Int) < (N : Int)) = true := decide_eq_true (by omega)
  go_enter Try.func7, Try.ntmps7
  go_wp2_with fail
  refine (works_any _).mono ?_
  rintro e wk ⟨rfl, hbk⟩
  have BK := Lib.hid hbk
  clear hbk
  go_wp2
  go_ret
  exact ⟨rfl, BK.out⟩


set_option maxRecDepth 100000 in
set_option maxHeartbeats 1000000 in
theorem walk_no (A : Option Addr) (l : List Int) (N cap : Nat) (w : World) (h : N ≤ 400) (hN : l.length = N) (hR : Ri w A l) (hok : ok l = false) :
    Calls Try.prog 7 #[.slice A N cap] w fun e w' => e = .returned (.bool true) ∧ Below w.heap.size w w' := by
  have hd : decide ((400 : Int) < (N : Int)) = false := decide_eq_false (by omega)
  have HT := Lib.hid (most_no w A l N cap hN hR hok)
  have HD := Lib.hid (rgreat_no w A l N cap hN hR hok)
  clear hN hR
  go_enter Try.func7, Try.ntmps7
  go_wp2_with (first
    | (go_at_call 26; refine HT.out.mono ?_; rintro e w ⟨rfl, rfl⟩)
    | (go_at_call 27; refine HD.out.mono ?_; rintro e w2 ⟨rfl, hw2⟩; obtain ⟨d, hw2⟩ := hw2; have B0 : Hid (Below w.heap.size w w2) := Lib.hid (by rw [hw2]; exact below_drewN' (Below.refl _ _) d); clear hw2)
    | (go_at_call 19; refine (num_any _ _).mono ?_; rintro e w' ⟨rfl, rfl⟩)
    | (go_at_call 23; refine (is_any _ _ _ _).mono ?_; rintro e w' ⟨rfl, rfl⟩)
    | (go_at_call 13; refine (works_any _).mono ?_; rintro e wk ⟨rfl, hbk⟩; have BK := Lib.hid (below_on B0.out (Nat.le_refl _) hbk); clear hbk))
  go_ret
  exact ⟨rfl, BK.out⟩


set_option maxRecDepth 100000 in
set_option maxHeartbeats 1000000 in
theorem walk_yes (A : Option Addr) (k : List Nat) (N cap : Nat) (w : World) (h : N ≤ 400) (hk : k.length = N) (hNc : N ≤ cap) (hv : Vld k) (hR : Rn w A k) :
    Calls Try.prog 7 #[.slice A N cap] w fun e w' => e = .returned (.bool true) ∧ Below w.heap.size w w' := by
  have hd : decide ((400 : Int) < (N : Int)) = false := decide_eq_false (by omega)
  have HT := Lib.hid (most_yes w A k N cap hk hNc hv hR)
  have HD : Hid (∀ w1, Below w.heap.size w w1 → _) := Lib.hid (fun w1 hb => rgreat_yes w1 A k N cap hk hv (hR.below hb))
  obtain ⟨t, ht⟩ : ∃ t, mfv k (gre k) = t := ⟨_, rfl⟩
  obtain ⟨u, hu⟩ : ∃ u, mfe k (gre k) = u := ⟨_, rfl⟩
  rw [ht, hu] at HT
  simp only [nv] at HT HD
  simp only [ht, hu] at HD
  clear ht hu hk hv hR
  go_enter Try.func7, Try.ntmps7
  go_wp2_with (first
    | (go_at_call 26; refine HT.out.mono ?_; rintro e w1 ⟨rfl, hb1⟩; have B1 := Lib.hid hb1; clear hb1)
    | (go_at_call 27; refine (HD.out _ B1.out).mono ?_; rintro e w2 ⟨rfl, hw2⟩; obtain ⟨d, hw2⟩ := hw2; have B0 : Hid (Below w.heap.size w w2) := Lib.hid (by rw [hw2]; exact below_drewN' B1.out d); clear hw2)
    | (go_at_call 19; refine (num_any _ _).mono ?_; rintro e w' ⟨rfl, rfl⟩)
    | (go_at_call 23; refine (is_any _ _ _ _).mono ?_; rintro e w' ⟨rfl, rfl⟩)
    | (go_at_call 13; refine (works_any _).mono ?_; rintro e wk ⟨rfl, hbk⟩; have BK := Lib.hid (below_on B0.out (Nat.le_refl _) hbk); clear hbk))
  go_ret
  exact ⟨by simp, BK.out⟩


theorem walk (A : Option Addr) (l : List Int) (cap : Nat) (w : World) (hR : Ri w A l) (_ : ∀ z ∈ l, -9223372036854775808 ≤ z ∧ z ≤ 9223372036854775807) (hc : l.length ≤ cap) :
    Calls Try.prog 7 #[.slice A l.length cap] w fun e w' => e = .returned (.bool true) ∧ Below w.heap.size w w' := by
  by_cases h : 400 < l.length
  · exact walk_a A _ cap w h
  · cases hok : ok l with
    | true =>
      obtain ⟨k, rfl, hv⟩ := ok_nats hok
      rw [List.length_map] at h hc ⊢
      exact walk_yes A k _ cap w (by omega) rfl hc hv (by show Rv _ _ _; rw [← ri_nats]; exact hR)
    | false => exact walk_no A l _ cap w (by omega) rfl hR hok

set_option maxRecDepth 100000 in
theorem lifted (os : Os) (started : os.Started) (H : Type) (enc : TypeId × Value → H) :
    ReturnsInHanded {} Try.checked os 7 .any (Rows.tallyGreatestSpec.pre6 enc Try.prog Try.f7 Rows.tallyGreatestRow.domain false) (Rows.tallyGreatestSpec.post enc Try.prog Try.f7 false true false false) := by
  refine returnsInHanded_of_change_sized (C := Try.checked) ownB started (by kernel_rfl) Try.func7
    (ChangeSpec.witness6 (enc := enc) (C := Try.checked) false ⟨#[], #[.slice none 0 0], []⟩ 8 (by kernel_rfl) (by kernel_rfl) (by kernel_rfl) (by kernel_rfl)) ?_
  intro W base args ds gs before hval0 hW _ hsz0 _
  have hsz : (DataW.weightsEach Try.prog (Try.f7.params.toList ++ Rows.tallyGreatestSpec.plain.varTypes Try.prog) (ds ++ gs)).all (· ≤ reachBytes) = true := hsz0
  clear hsz0
  have hval : ∀ (j : Nat) t v, Try.f7.params[j]? = some t → args[j]? = some v → Value.okWide Try.prog W .any base t v := hval0
  have hW' := hW
  obtain ⟨p, q, hA0, hV, rfl, hfz, hnd⟩ := hW
  have hA : DataW.TrodAll enc Try.prog W 0 (fun _ => true) true Try.f7.params.toList args.toList ds p := hA0
  rw [Try.params7] at hA hval hsz
  obtain ⟨v0, vs0, d0, ds0, p0, q0, hargs, rfl, rfl, h0, r0⟩ := trodAll_cons hA
  obtain ⟨rfl, rfl, rfl⟩ := trodAll_nil r0
  obtain rfl : args = #[v0] := by cases args; simp_all
  obtain ⟨rfl, rfl⟩ := trodVars_none hV
  obtain ⟨a0, len0, cap0, rfl⟩ := okWide_slice Try.underlying26 (hval 0 26 v0 rfl rfl)
  have k0 := h0
  have lt0 : ∀ x ∈ p0, x.block < W.heap.size := by obtain ⟨m, hm⟩ := k0; exact DataW.trod_lt m _ _ _ hm
  obtain ⟨l0, rfl, hc0, ri0, wi0⟩ := open_intl h0
  clear hA0 hval0
  refine (walk a0 l0 cap0 W ri0 wi0 hc0).mono fun e W' ⟨he, bel⟩ => ?_
  subst he
  exact ⟨_, rfl, _, _, _, [], _, [], hW', trodAll_mk1 (shut_bool Try.underlying4 _), (trodAll_cons_mk (Below.trod laidOut (by kernel_rfl) (of_decide_eq_true (by kernel_rfl)) k0 bel lt0) trodAll_mk0), rfl, bel.frame _, fun h => by cases h⟩

theorem proved : Rows.TallyGreatestSaid :=
  OpenClaim.holds_of_wide 7 Try.f7 rfl rfl rfl rfl rfl rfl rfl ⟨rfl, rfl, rfl, rfl, rfl⟩ rfl rfl rfl rfl rfl (by kernel_rfl) Try.func7 (by kernel_rfl)
    (of_decide_eq_true (by kernel_rfl)) (by unfold Func.isWrapper; rw [if_neg (by decide +kernel)]; exact ⟨rfl, rfl⟩)
    (fun os started H enc _ => lifted os started H enc)

#print axioms proved

end Go.Proofs.Ytbbkmmdlpmpaeaa.tallyGreatest
