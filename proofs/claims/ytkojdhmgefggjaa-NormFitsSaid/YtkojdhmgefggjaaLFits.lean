/-
  Proved: the law NormFits returns true for all counts and bounds: counts with a recommended Log have a valid normalized table, with a norm other than 0 exactly for the symbols with a positive count; otherwise Normalize returns ErrArg. No condition.
-/
import Derived.Test.YtkojdhmgefggjaaFrm
import Derived.Test.YtkojdhmgefggjaaRfo
import Derived.Test.YtkojdhmgefggjaaShr
namespace Go.Proofs.Ytkojdhmgefggjaa.normFits
open Go.ChangeShapes Go.WideShapes Go.ChangeAt Go.RowKit

set_option maxRecDepth 100000 in
set_option maxHeartbeats 2000000 in
theorem walk_long (A : Option Addr) (N cap : Nat) (z : Int) (w : World) (h : 300 < N) :
    Calls Try.prog 6 #[.slice A N cap, .int .i64 z] w fun e w' => e = .returned (.bool true) ∧ Below w.heap.size w w' := by
  have hd : decide ((300 : Int) < (N : Int)) = true := decide_eq_true (by omega)
  have KN := Lib.hid (known_any w)
  go_enter Try.func6, Try.ntmps6
  go_wp2_with (go_at_call 12; refine KN.out.mono ?_; rintro e w1 ⟨rfl, hb1⟩; have B1 := Lib.hid hb1; clear hb1)
  go_ret
  exact ⟨rfl, B1.out⟩

set_option maxRecDepth 100000 in
set_option maxHeartbeats 2000000 in
theorem walk_none (A : Option Addr) (l : List Int) (N cap : Nat) (z : Int) (w : World) (h : N ≤ 300) (hN : l.length = N) (hR : Ri w A l) (hr : rcl l z = -1) (hg : ¬ good l z) :
    Calls Try.prog 6 #[.slice A N cap, .int .i64 z] w fun e w' => e = .returned (.bool true) ∧ Below w.heap.size w w' := by
  have hd : decide ((300 : Int) < (N : Int)) = false := decide_eq_false (by omega)
  have H0 := Lib.hid (recommend_any w A l N cap z hN (by omega) hR)
  rw [hr] at H0
  have H1 := Lib.hid (normalize_bad w A l N cap z hN (by omega) hR hg)
  clear hN hR hr hg
  go_enter Try.func6, Try.ntmps6
  go_wp2_with (first
    | (go_at_call 18; refine H0.out.mono ?_; rintro e w' ⟨rfl, rfl⟩)
    | (go_at_call 15; refine H1.out.mono ?_; rintro e w1 ⟨rfl, hb1⟩; have B1 := Lib.hid (below_on hb1 (Nat.le_refl _) ((Below.refl _ w1).alloc (Nat.le_refl _) (.cells #[.int .i64 0, .slice none 0 0] 24))); clear hb1)
    | (go_at_call 12; refine (known_any _).mono ?_; rintro e w2 ⟨rfl, hb2⟩; have B2 := Lib.hid (below_on B1.out (Nat.le_refl _) hb2); clear hb2))
  go_ret
  exact ⟨rfl, B2.out⟩

theorem nm_zero {k : List Nat} {lg s : Nat} (hg : Gd k lg s) {i : Nat} (hi : i < k.length) : (0 < cn k i) ↔ (i < lst k + 1 ∧ nm k s i ≠ 0) := by
  constructor
  · intro h
    have hu : i ∈ usy k := usy_mem.2 ⟨hi, h⟩
    refine ⟨by have := usy_le i hu; omega, fun e => ?_⟩
    have h1 := sts_nm hg hu
    rw [e] at h1
    exact absurd h1 (by decide)
  · rintro ⟨_, h⟩
    rcases Nat.eq_zero_or_pos (cn k i) with h0 | h0
    · exact absurd (by unfold nm; rw [if_pos h0]) h
    · exact h0

set_option maxRecDepth 100000 in
set_option maxHeartbeats 8000000 in
theorem walk_ok (A : Option Addr) (k : List Nat) (N cap lg s L : Nat) (z : Int) (w : World) (h : N ≤ 300) (hN : k.length = N) (hR : Rn w A k) (hr : rcl (k.map (fun n : Nat => (n : Int))) z = (lg : Int)) (hg : Gd k lg s) (hz : (lg : Int) ≤ z) (hL : lst k + 1 = L) :
    Calls Try.prog 6 #[.slice A N cap, .int .i64 z] w fun e w' => e = .returned (.bool true) ∧ Below w.heap.size w w' := by
  have hd : decide ((300 : Int) < (N : Int)) = false := decide_eq_false (by omega)
  have H0 := Lib.hid (recommend_any w A (k.map (fun n : Nat => (n : Int))) N cap z (by rw [List.length_map]; exact hN) (by omega) (by show Rv _ _ _; rw [ri_nats]; exact hR))
  rw [hr] at H0
  have H1 := Lib.hid (normalize_ok w A k N cap lg s hN (by omega) hR hg.tot hg.pos hg.log hg.pow hg.use)
  have hLN : L ≤ N := by have := lst_lt hg.pos; omega
  rw [hL] at H1
  have hlg0 : decide ((lg : Int) < 0) = false := decide_eq_false (by omega)
  have CK : Hid (∀ w1 g, Below w.heap.size w w1 → w1.ownsRow w.heap.size 3 1 (.slice (some ⟨g, 0, none⟩) L L) L ((nrm k s).map iv) → Calls Try.prog 13 #[tb lg (some ⟨g, 0, none⟩) L L, .int .i64 (N : Int), .int .i64 z] (w1.alloc (.cells #[.int .i64 (lg : Int), .slice (some ⟨g, 0, none⟩) L L] 24)) fun e w' => e = .returned (.int .i64 0) ∧ Below (w1.alloc (.cells #[.int .i64 (lg : Int), .slice (some ⟨g, 0, none⟩) L L] 24)).heap.size (w1.alloc (.cells #[.int .i64 (lg : Int), .slice (some ⟨g, 0, none⟩) L L] 24)) w') := Lib.hid (fun w1 g hb ho => by
    have ba : Below w1.heap.size w1 (w1.alloc (.cells #[.int .i64 (lg : Int), .slice (some ⟨g, 0, none⟩) L L] 24)) := (Below.refl _ _).alloc (Nat.le_refl _) _
    have := check_any (w1.alloc (.cells #[.int .i64 (lg : Int), .slice (some ⟨g, 0, none⟩) L L] 24)) lg N z (some ⟨g, 0, none⟩) (nrm k s) L L (by rw [← hL]; simp [nrm]) (by omega) ((Rv.of_own ho).below ba)
    rw [nrm_valid hg hN hz] at this
    exact this)
  have HN := Lib.hid hN
  have HG := Lib.hid hg
  have HR := Lib.hid hR
  have HL := Lib.hid hL
  clear hN hR hg hL hr
  go_enter Try.func6, Try.ntmps6
  go_wp2_with (first
    | (go_at_call 18; refine H0.out.mono ?_; rintro e w' ⟨rfl, rfl⟩)
    | (go_at_call 15; refine H1.out.mono ?_; rintro e w1 ⟨g, rfl, ho1, hb1⟩; have O1 := Lib.hid ho1; have B1 := Lib.hid hb1; clear ho1 hb1)
    | (go_at_call 13; refine (CK.out w1 g B1.out O1.out).mono ?_; rintro e w2 ⟨rfl, hb2⟩; have B2 := Lib.hid hb2; clear hb2))
  have ba : Below w1.heap.size w1 (w1.alloc (.cells #[.int .i64 (lg : Int), .slice (some ⟨g, 0, none⟩) L L] 24)) := (Below.refl _ w1).alloc (Nat.le_refl _) _
  have t2 := (Tb.new w1 lg (some ⟨g, 0, none⟩) L L).below B2.out
  have b12 := below_on ba (Nat.le_refl _) B2.out
  have o2 := own_below O1.out b12
  have B3 := Lib.hid (below_on B1.out (Nat.le_refl _) b12)
  have t1 := t2.c1
  have O2 := Lib.hid o2
  have HRR := Lib.hid (HR.out.below B3.out)
  obtain ⟨tbk, htbk⟩ : ∃ b, w1.heap.size = b := ⟨_, rfl⟩
  rw [htbk] at t1
  simp only [htbk]
  clear ba b12 t2 o2 htbk B2 CK H0 H1
  have CEL : Hid (∀ i, i < L → w2.cell? ⟨g, i, none⟩ = some (.int .i64 (nm k s i))) := Lib.hid (fun i hi => by
    rw [O2.out.cellAt i (by omega), List.getElem?_map]
    unfold nrm
    rw [List.getElem?_map, HL.out, List.getElem?_range hi]
    rfl)
  have CNT : Hid (∀ i, i < N → ∃ ad, A = some ad ∧ w2.cell? (ad.add i) = some (.int .i64 (cn k i : Int))) := Lib.hid (fun i hi => by
    obtain ⟨x, hx⟩ : ∃ x, k[i]? = some x := ⟨_, List.getElem?_eq_getElem (by rw [HN.out]; exact hi)⟩
    obtain ⟨ad, e, hc⟩ := HRR.out i (nv x) (by rw [List.getElem?_map, hx]; rfl)
    refine ⟨ad, e, ?_⟩
    have : cn k i = x := by unfold cn; rw [hx]; rfl
    rw [this]
    exact hc)
  go_loopw [10] (fun p wr => ∃ i : Nat, i ≤ N ∧ p = .int .i64 (i : Int) ∧ ∃ d, wr = w2.drewN d) (fun p _ => N - (intOf p).toNat)
  case atStart => exact ⟨0, Nat.zero_le _, rfl, 0, rfl⟩
  case round =>
    obtain ⟨i, hi, rfl, d, rfl⟩ := hrel
    by_cases hlt : i < N
    · obtain ⟨ad, rfl, hci⟩ := CNT.out i hlt
      have wi : IntKind.i64.wrap (i : Int) = (i : Int) := IntWalk.i64_in _ (by omega)
      have HZ := Lib.hid (nm_zero HG.out (i := i) (by rw [HN.out]; exact hlt))
      rw [HL.out] at HZ
      obtain ⟨x, hx⟩ : ∃ x, cn k i = x := ⟨_, rfl⟩
      rw [hx] at hci HZ
      by_cases hil : i < L
      · have cni := CEL.out i hil
        obtain ⟨a, ha⟩ : ∃ a, nm k s i = a := ⟨_, rfl⟩
        rw [ha] at cni HZ
        have li : decide ((i : Int) < (L : Int)) = true := decide_eq_true (by omega)
        clear hx ha
        by_cases hx0 : x = 0
        · subst hx0
          have ha0 : a = 0 := by
            by_cases h1 : a = 0
            · exact h1
            · have := HZ.out.2 ⟨hil, h1⟩; omega
          subst ha0
          simp only [Int.natCast_zero] at hci
          clear HZ
          go_wp2
          go_quiet (fail)
          go_wp2
          exact ⟨⟨i + 1, by omega, by simp, _, rfl⟩, by simp [intOf]; omega⟩
        · have hx1 : 0 < x := by omega
          have dx : decide ((0 : Int) < (x : Int)) = true := decide_eq_true (by omega)
          have ha1 := (HZ.out.1 hx1).2
          have hna : (a != 0) = true := by simp [ha1]
          clear HZ ha1
          go_wp2
          go_quiet (fail)
          go_wp2
          exact ⟨⟨i + 1, by omega, by simp, _, rfl⟩, by simp [intOf]; omega⟩
      · have li : decide ((i : Int) < (L : Int)) = false := decide_eq_false (by omega)
        have hx0 : x = 0 := by
          rcases Nat.eq_zero_or_pos x with h1 | h1
          · exact h1
          · exact absurd (HZ.out.1 h1).1 hil
        clear hx
        subst hx0
        simp only [Int.natCast_zero] at hci
        clear HZ
        go_wp2
        go_quiet (fail)
        go_wp2
        exact ⟨⟨i + 1, by omega, by simp, _, rfl⟩, by simp [intOf]; omega⟩
    · go_wp2_with (go_at_call 12; refine (known_any _).mono ?_; rintro e w3 ⟨rfl, hb3⟩; have B4 := Lib.hid (below_on (below_drewN' B3.out d) (Nat.le_refl _) hb3); clear hb3)
      go_ret
      exact ⟨rfl, B4.out⟩

/-- A recommended Log is one that the counts may have; where there is none, the counts have no table. -/
theorem rcl_cases (l : List Int) (z : Int) : (rcl l z = -1 ∧ ¬ good l z) ∨ (good l (rcl l z) ∧ rcl l z ≤ z) := by
  unfold rcl
  split
  · next h =>
    left
    refine ⟨rfl, fun hg => ?_⟩
    obtain ⟨h1, h2, h3, h4⟩ := hg
    have hm : min z 9 = z := by omega
    rw [hm] at h
    rcases h with h | h | h
    · omega
    · rw [h1] at h; cases h
    · omega
  · next h =>
    right
    have hm : may l = true := by
      cases hh : may l with
      | true => rfl
      | false => exact absurd (.inr (.inl hh)) h
    have h0 : 0 ≤ min z 9 := by
      rcases Int.lt_or_le (min z 9) 0 with h1 | h1
      · exact absurd (.inl h1) h
      · exact h1
    have hu : us l ≤ 2 ^ (min z 9).toNat := by
      rcases Nat.lt_or_ge (2 ^ (min z 9).toNat) (us l) with h1 | h1
      · exact absurd (.inr (.inr h1)) h
      · exact h1
    split
    · next h1 => exact ⟨⟨hm, by omega, by omega, by rw [h1]; exact Nat.one_le_two_pow⟩, by omega⟩
    · next h1 =>
      have hus : 0 < us l := by unfold may at hm; simpa using hm
      have hb : us l ≤ 2 ^ blen (us l - 1) := by
        have h2 : us l - 1 ≠ 0 := by omega
        have := Nat.lt_log2_self (n := us l - 1)
        unfold blen
        rw [if_neg h2]
        omega
      obtain ⟨M, hM⟩ : ∃ M, (min z 9).toNat = M := ⟨_, rfl⟩
      obtain ⟨ba, hba⟩ : ∃ ba, blen (us l - 1) = ba := ⟨_, rfl⟩
      rw [hM] at hu
      rw [hba] at hb
      refine ⟨⟨hm, by omega, by omega, ?_⟩, by omega⟩
      rw [hba]
      rcases Nat.lt_or_ge M (min (min z 9) (max (ba : Int) ((blen (tl l) : Int) - 2))).toNat with h3 | h3
      · omega
      · by_cases h4 : ba ≤ (min (min z 9) (max (ba : Int) ((blen (tl l) : Int) - 2))).toNat
        · exact Nat.le_trans hb (Nat.pow_le_pow_right (by decide) h4)
        · have h5 : (min (min z 9) (max (ba : Int) ((blen (tl l) : Int) - 2))).toNat = M := by omega
          rw [h5]
          exact hu

theorem walk (A : Option Addr) (l : List Int) (cap : Nat) (z : Int) (w : World) (hR : Ri w A l) (_ : ∀ z ∈ l, -9223372036854775808 ≤ z ∧ z ≤ 9223372036854775807) (_ : l.length ≤ cap) (_ : (Lit.int .i64 z).wf = true) :
    Calls Try.prog 6 #[.slice A l.length cap, .int .i64 z] w fun e w' => e = .returned (.bool true) ∧ Below w.heap.size w w' := by
  by_cases h : 300 < l.length
  · exact walk_long A _ cap z w h
  · rcases rcl_cases l z with ⟨hr, hg⟩ | ⟨hg, hz⟩
    · exact walk_none A l _ cap z w (by omega) rfl hR hr hg
    · obtain ⟨k, lg, rfl, hk, hlg, hgd⟩ := gd_of hg (by omega)
      rw [List.length_map] at h ⊢
      unfold Ri at hR
      rw [ri_nats] at hR
      exact walk_ok A k k.length cap lg _ _ z w (by omega) rfl hR hlg hgd (by omega) rfl

set_option maxRecDepth 100000 in
theorem lifted (os : Os) (started : os.Started) (H : Type) (enc : TypeId × Value → H) :
    ReturnsInHanded {} Try.checked os 6 .any (Rows.normFitsSpec.pre6 enc Try.prog Try.f6 Rows.normFitsRow.domain false) (Rows.normFitsSpec.post enc Try.prog Try.f6 false true false false) := by
  refine returnsInHanded_of_change_sized (C := Try.checked) ownB started (by kernel_rfl) Try.func6
    (ChangeSpec.witness6 (enc := enc) (C := Try.checked) false ⟨#[], #[.slice none 0 0, .int .i64 0], []⟩ 8 (by kernel_rfl) (by kernel_rfl) (by kernel_rfl) (by kernel_rfl)) ?_
  intro W base args ds gs before hval0 hW _ hsz0 _
  have hsz : (DataW.weightsEach Try.prog (Try.f6.params.toList ++ Rows.normFitsSpec.plain.varTypes Try.prog) (ds ++ gs)).all (· ≤ reachBytes) = true := hsz0
  clear hsz0
  have hval : ∀ (j : Nat) t v, Try.f6.params[j]? = some t → args[j]? = some v → Value.okWide Try.prog W .any base t v := hval0
  have hW' := hW
  obtain ⟨p, q, hA0, hV, rfl, hfz, hnd⟩ := hW
  have hA : DataW.TrodAll enc Try.prog W 0 (fun _ => true) true Try.f6.params.toList args.toList ds p := hA0
  rw [Try.params6] at hA hval hsz
  obtain ⟨v0, vs0, d0, ds0, p0, q0, hargs, rfl, rfl, h0, r0⟩ := trodAll_cons hA
  obtain ⟨v1, vs1, d1, ds1, p1, q1, rfl, rfl, rfl, h1, r1⟩ := trodAll_cons r0
  obtain ⟨rfl, rfl, rfl⟩ := trodAll_nil r1
  obtain rfl : args = #[v0, v1] := by cases args; simp_all
  obtain ⟨rfl, rfl⟩ := trodVars_none hV
  obtain ⟨a0, len0, cap0, rfl⟩ := okWide_slice Try.underlying22 (hval 0 22 v0 rfl rfl)
  have k0 := h0
  have lt0 : ∀ x ∈ p0, x.block < W.heap.size := by obtain ⟨m, hm⟩ := k0; exact DataW.trod_lt m _ _ _ hm
  obtain ⟨l0, rfl, hc0, ri0, wi0⟩ := open_intl h0
  obtain ⟨a1, rfl, rfl, rfl, w1⟩ := open_int Try.underlying3 (hval 1 3 v1 rfl rfl) h1
  clear hA0 hval0
  refine (walk a0 l0 cap0 a1 W ri0 wi0 hc0 w1).mono fun e W' ⟨he, bel⟩ => ?_
  subst he
  exact ⟨_, rfl, _, _, _, [], _, [], hW', trodAll_mk1 (shut_bool Try.underlying4 _), (trodAll_cons_mk (Below.trod laidOut (by kernel_rfl) (of_decide_eq_true (by kernel_rfl)) k0 bel lt0) (trodAll_cons_mk (shut_int Try.underlying3 w1) trodAll_mk0)), rfl, bel.frame _, fun h => by cases h⟩

theorem proved : Rows.NormFitsSaid :=
  OpenClaim.holds_of_wide 6 Try.f6 rfl rfl rfl rfl rfl rfl rfl ⟨rfl, rfl, rfl, rfl, rfl⟩ rfl rfl rfl rfl rfl (by kernel_rfl) Try.func6 (by kernel_rfl)
    (of_decide_eq_true (by kernel_rfl)) (by unfold Func.isWrapper; rw [if_neg (by decide +kernel)]; exact ⟨rfl, rfl⟩)
    (fun os started H enc _ => lifted os started H enc)

#print axioms proved

end Go.Proofs.Ytkojdhmgefggjaa.normFits
