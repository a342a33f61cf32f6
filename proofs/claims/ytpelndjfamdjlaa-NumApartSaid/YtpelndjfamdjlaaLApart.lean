/-
  Proved: the law NumApart returns true for all numbers a and b: different numbers have different encodings, a greater number has no shorter one, and no encoding is the beginning of another one. No condition.
-/
import Derived.Test.YtpelndjfamdjlaaAid
import Derived.Test.YtpelndjfamdjlaaVi2
import Derived.Test.YtpelndjfamdjlaaRows
import Derived.ProofKit
import Derived.OpenShut
namespace Go.Proofs.Ytpelndjfamdjlaa.numApart
open Go.ChangeShapes Go.WideShapes Go.ChangeAt Go.RowKit

set_option maxRecDepth 100000 in
set_option maxHeartbeats 2000000 in
theorem walk_no (a b : Int) (w : World) (ha : 0 ≤ a) (hb : 0 ≤ b) (h : 4611686018427387903 < a ∨ 4611686018427387903 < b) :
    Calls Try.prog 9 #[.int .u64 a, .int .u64 b] w fun e w' => e = .returned (.bool true) ∧ Below w.heap.size w w' := by
  have put : ∀ (q : Int) (W : World), 0 ≤ q → Calls Try.prog 17 #[.slice none 0 0, .int .u64 q] W fun e w' => ∃ A n c, e = .returned (.tuple #[.slice A n c, .int .i64 (if 4611686018427387903 < q then 2 else 0)]) ∧ Below W.heap.size W w' := by
    intro q W hq
    by_cases h : 4611686018427387903 < q
    · rw [if_pos h]
      exact (putVarint_no W none 0 0 q h).mono fun e w' ⟨h1, h2⟩ => ⟨_, _, _, h1, h2 ▸ Below.refl _ _⟩
    · rw [if_neg h]
      exact (putVarint_any W none [] 0 q hq (by omega) (by simp) (Rd.nil _ _)).mono fun e w' ⟨v, h1, A, c, h2, _, h4⟩ => ⟨A, ([] ++ vi q.toNat).length, c, by rw [h1, h2], h4⟩
  have PUT := Lib.hid put
  clear put
  have H := Lib.hid h
  by_cases hA : 4611686018427387903 < a
  · have dA : decide ((4611686018427387903 : Int) < a) = true := by simp; omega
    by_cases hB : 4611686018427387903 < b
    · have dB : decide ((4611686018427387903 : Int) < b) = true := by simp; omega
      go_enter Try.func9, Try.ntmps9
      go_wp2_with fail
      refine (PUT.out a _ ha).mono ?_
      rintro e w1 ⟨A1, n1, c1, rfl, hb1⟩
      rw [if_pos (by omega)]
      go_wp2_with fail
      refine (PUT.out b _ hb).mono ?_
      rintro e w2 ⟨A2, n2, c2, rfl, hb2⟩
      rw [if_pos (by omega)]
      have HB := Lib.hid (below_on hb1 (Nat.le_refl _) hb2)
      clear hb1 hb2
      go_wp2_with fail
      refine (known_any _).mono ?_
      rintro e w3 ⟨rfl, hb3⟩
      have HB3 := Lib.hid (below_on HB.out (Nat.le_refl _) hb3)
      clear hb3 HB
      go_wp2
      go_ret
      exact ⟨rfl, HB3.out⟩
    · have dB : decide ((4611686018427387903 : Int) < b) = false := by simp; omega
      go_enter Try.func9, Try.ntmps9
      go_wp2_with fail
      refine (PUT.out a _ ha).mono ?_
      rintro e w1 ⟨A1, n1, c1, rfl, hb1⟩
      rw [if_pos (by omega)]
      go_wp2_with fail
      refine (PUT.out b _ hb).mono ?_
      rintro e w2 ⟨A2, n2, c2, rfl, hb2⟩
      rw [if_neg (by omega)]
      have HB := Lib.hid (below_on hb1 (Nat.le_refl _) hb2)
      clear hb1 hb2
      go_wp2_with fail
      refine (known_any _).mono ?_
      rintro e w3 ⟨rfl, hb3⟩
      have HB3 := Lib.hid (below_on HB.out (Nat.le_refl _) hb3)
      clear hb3 HB
      go_wp2
      go_ret
      exact ⟨rfl, HB3.out⟩
  · have dA : decide ((4611686018427387903 : Int) < a) = false := by simp; omega
    by_cases hB : 4611686018427387903 < b
    · have dB : decide ((4611686018427387903 : Int) < b) = true := by simp; omega
      go_enter Try.func9, Try.ntmps9
      go_wp2_with fail
      refine (PUT.out a _ ha).mono ?_
      rintro e w1 ⟨A1, n1, c1, rfl, hb1⟩
      rw [if_neg (by omega)]
      go_wp2_with fail
      refine (PUT.out b _ hb).mono ?_
      rintro e w2 ⟨A2, n2, c2, rfl, hb2⟩
      rw [if_pos (by omega)]
      have HB := Lib.hid (below_on hb1 (Nat.le_refl _) hb2)
      clear hb1 hb2
      go_wp2_with fail
      refine (known_any _).mono ?_
      rintro e w3 ⟨rfl, hb3⟩
      have HB3 := Lib.hid (below_on HB.out (Nat.le_refl _) hb3)
      clear hb3 HB
      go_wp2
      go_ret
      exact ⟨rfl, HB3.out⟩
    · exact absurd H.out (by omega)

set_option maxRecDepth 100000 in
set_option maxHeartbeats 4000000 in
theorem walk_yes (a b : Int) (w : World) (ha : 0 ≤ a) (hb : 0 ≤ b) (hA : a ≤ 4611686018427387903) (hB : b ≤ 4611686018427387903) :
    Calls Try.prog 9 #[.int .u64 a, .int .u64 b] w fun e w' => e = .returned (.bool true) ∧ Below w.heap.size w w' := by
  have PA := Lib.hid (putVarint_any w none [] 0 a ha hA (by simp) (Rd.nil _ _))
  have PB := Lib.hid (fun W => putVarint_any W none [] 0 b hb hB (by simp) (Rd.nil _ _))
  have hinj : vi a.toNat = vi b.toNat → a = b := fun h => by have := vi_inj (by omega) (by omega) h; omega
  have hfree : vi a.toNat <+: vi b.toNat → a = b := fun h => by have := vi_free (by omega) (by omega) h; omega
  have hmono : a < b → (vi a.toNat).length ≤ (vi b.toNat).length := fun h => vi_mono (by omega)
  have hmono' : b < a → (vi b.toNat).length ≤ (vi a.toNat).length := fun h => vi_mono (by omega)
  have heq : a = b → vi a.toNat = vi b.toNat := fun h => by rw [h]
  have lx := vi_len a.toNat
  have ly := vi_len b.toNat
  rw [List.nil_append] at PA PB
  generalize vi a.toNat = X at *
  generalize vi b.toNat = Y at *
  have HI := Lib.hid hinj
  have HF := Lib.hid hfree
  have HM := Lib.hid hmono
  have HM' := Lib.hid hmono'
  have HE := Lib.hid heq
  clear hinj hfree hmono hmono' heq hA hB
  by_cases hab : a = b
  · have e1 : (a == b) = true := by rw [beq_iff_eq]; exact hab
    have e2 : decide (a < b) = false := by simp; omega
    have HAB := Lib.hid hab
    clear hab
    go_enter Try.func9, Try.ntmps9
    go_wp2_with fail
    refine PA.out.mono ?_
    rintro e w1 ⟨v1, rfl, A1, c1, rfl, ho1, hb1⟩
    have HO1 := Lib.hid ho1
    clear ho1
    go_wp2_with fail
    refine (PB.out _).mono ?_
    rintro e w2 ⟨v2, rfl, A2, c2, rfl, ho2, hb2⟩
    have HB := Lib.hid (below_on hb1 (Nat.le_refl _) hb2)
    have HR1 := Lib.hid ((Rd.of_own HO1.out).below hb2)
    have HR2 := Lib.hid (Rd.of_own ho2)
    have hcap := own_cap ho2
    clear hb1 hb2 ho2
    go_wp2_with fail
    refine (same_eq _ _ _ X Y _ _ HR1.out HR2.out (HE.out HAB.out)).mono ?_
    rintro e w3 ⟨rfl, rfl⟩
    go_wp2_with fail
    refine (known_any _).mono ?_
    rintro e w4 ⟨rfl, hb3⟩
    have HB3 := Lib.hid (below_on HB.out (Nat.le_refl _) hb3)
    clear hb3 HB
    go_wp2
    go_ret
    exact ⟨rfl, HB3.out⟩
  by_cases hlt : a < b
  · have e1 : (a == b) = false := by rw [beq_eq_false_iff_ne]; exact hab
    have e2 : decide (a < b) = true := by simp; omega
    have hm := HM.out hlt
    have e3 : decide (Y.length < X.length) = false := by simp; omega
    have HAB := Lib.hid hab
    clear hab
    go_enter Try.func9, Try.ntmps9
    go_wp2_with fail
    refine PA.out.mono ?_
    rintro e w1 ⟨v1, rfl, A1, c1, rfl, ho1, hb1⟩
    have HO1 := Lib.hid ho1
    clear ho1
    go_wp2_with fail
    refine (PB.out _).mono ?_
    rintro e w2 ⟨v2, rfl, A2, c2, rfl, ho2, hb2⟩
    have HB := Lib.hid (below_on hb1 (Nat.le_refl _) hb2)
    have HR1 := Lib.hid ((Rd.of_own HO1.out).below hb2)
    have HR2 := Lib.hid (Rd.of_own ho2)
    have hcap := own_cap ho2
    clear hb1 hb2 ho2
    go_wp2_with fail
    refine (same_no _ _ _ X Y _ _ HR1.out HR2.out (fun h => HAB.out (HI.out h))).mono ?_
    rintro e w3 ⟨rfl, rfl⟩
    go_wp2_with fail
    refine (same_non _ _ _ X (Y.take X.length) _ (by rw [List.length_take, Nat.min_eq_left (by omega)]) _ _ HR1.out (HR2.out.take _) (fun h => HAB.out (HF.out (by rw [h]; exact List.take_prefix _ _)))).mono ?_
    rintro e w3 ⟨rfl, rfl⟩
    go_wp2_with fail
    refine (known_any _).mono ?_
    rintro e w4 ⟨rfl, hb3⟩
    have HB3 := Lib.hid (below_on HB.out (Nat.le_refl _) hb3)
    clear hb3 HB
    go_wp2
    go_ret
    exact ⟨rfl, HB3.out⟩
  by_cases hln : Y.length < X.length
  · have e1 : (a == b) = false := by rw [beq_eq_false_iff_ne]; exact hab
    have e2 : decide (a < b) = false := by simp; omega
    have e3 : decide (Y.length < X.length) = true := by simp; omega
    have HAB := Lib.hid hab
    clear hab
    go_enter Try.func9, Try.ntmps9
    go_wp2_with fail
    refine PA.out.mono ?_
    rintro e w1 ⟨v1, rfl, A1, c1, rfl, ho1, hb1⟩
    have HO1 := Lib.hid ho1
    clear ho1
    go_wp2_with fail
    refine (PB.out _).mono ?_
    rintro e w2 ⟨v2, rfl, A2, c2, rfl, ho2, hb2⟩
    have HB := Lib.hid (below_on hb1 (Nat.le_refl _) hb2)
    have HR1 := Lib.hid ((Rd.of_own HO1.out).below hb2)
    have HR2 := Lib.hid (Rd.of_own ho2)
    have hcap := own_cap ho2
    clear hb1 hb2 ho2
    go_wp2_with fail
    refine (same_no _ _ _ X Y _ _ HR1.out HR2.out (fun h => HAB.out (HI.out h))).mono ?_
    rintro e w3 ⟨rfl, rfl⟩
    go_wp2_with fail
    refine (known_any _).mono ?_
    rintro e w4 ⟨rfl, hb3⟩
    have HB3 := Lib.hid (below_on HB.out (Nat.le_refl _) hb3)
    clear hb3 HB
    go_wp2
    go_ret
    exact ⟨rfl, HB3.out⟩
  · have e1 : (a == b) = false := by rw [beq_eq_false_iff_ne]; exact hab
    have e2 : decide (a < b) = false := by simp; omega
    have e3 : decide (Y.length < X.length) = false := by simp; omega
    have HAB := Lib.hid hab
    clear hab
    go_enter Try.func9, Try.ntmps9
    go_wp2_with fail
    refine PA.out.mono ?_
    rintro e w1 ⟨v1, rfl, A1, c1, rfl, ho1, hb1⟩
    have HO1 := Lib.hid ho1
    clear ho1
    go_wp2_with fail
    refine (PB.out _).mono ?_
    rintro e w2 ⟨v2, rfl, A2, c2, rfl, ho2, hb2⟩
    have HB := Lib.hid (below_on hb1 (Nat.le_refl _) hb2)
    have HR1 := Lib.hid ((Rd.of_own HO1.out).below hb2)
    have HR2 := Lib.hid (Rd.of_own ho2)
    have hcap := own_cap ho2
    clear hb1 hb2 ho2
    go_wp2_with fail
    refine (same_no _ _ _ X Y _ _ HR1.out HR2.out (fun h => HAB.out (HI.out h))).mono ?_
    rintro e w3 ⟨rfl, rfl⟩
    go_wp2_with fail
    refine (same_non _ _ _ X (Y.take X.length) _ (by rw [List.length_take, Nat.min_eq_left (by omega)]) _ _ HR1.out (HR2.out.take _) (fun h => HAB.out (HF.out (by rw [h]; exact List.take_prefix _ _)))).mono ?_
    rintro e w3 ⟨rfl, rfl⟩
    go_wp2_with fail
    refine (known_any _).mono ?_
    rintro e w4 ⟨rfl, hb3⟩
    have HB3 := Lib.hid (below_on HB.out (Nat.le_refl _) hb3)
    clear hb3 HB
    go_wp2
    go_ret
    exact ⟨rfl, HB3.out⟩

theorem walk (a b : Int) (w : World) (ha : (Lit.int .u64 a).wf = true) (hb : (Lit.int .u64 b).wf = true) :
    Calls Try.prog 9 #[.int .u64 a, .int .u64 b] w fun e w' => e = .returned (.bool true) ∧ Below w.heap.size w w' := by
  have h1 := bounds_u64 ha
  have h2 := bounds_u64 hb
  by_cases h : 4611686018427387903 < a ∨ 4611686018427387903 < b
  · exact walk_no a b w h1.1 h2.1 h
  · exact walk_yes a b w h1.1 h2.1 (by omega) (by omega)

theorem own : ownKnob Try.prog.godebug = none := by kernel_rfl

set_option maxRecDepth 100000 in
theorem lifted (os : Os) (started : os.Started) (H : Type) (enc : TypeId × Value → H) :
    ReturnsInHanded {} Try.checked os 9 .any (Rows.numApartSpec.pre6 enc Try.prog Try.f9 Rows.numApartRow.domain false) (Rows.numApartSpec.post enc Try.prog Try.f9 false true false false) := by
  refine returnsInHanded_of_change (C := Try.checked) own started (by kernel_rfl) Try.func9
    (ChangeSpec.witness6 (enc := enc) (C := Try.checked) false ⟨#[], #[.int .u64 0, .int .u64 0], []⟩ 8 (by kernel_rfl) (by kernel_rfl) (by kernel_rfl) (by kernel_rfl)) ?_
  intro W base args ds gs before hval0 hW hcnd _
  have hval : ∀ (j : Nat) t v, Try.f9.params[j]? = some t → args[j]? = some v → Value.okWide Try.prog W .any base t v := hval0
  have hW' := hW
  obtain ⟨p, q, hA0, hV, rfl, hfz, hnd⟩ := hW
  have hA : DataW.TrodAll enc Try.prog W 0 (fun _ => true) true Try.f9.params.toList args.toList ds p := hA0
  rw [Try.params9] at hA hval
  obtain ⟨v0, vs0, d0, ds0, p0, q0, hargs, rfl, rfl, h0, r0⟩ := trodAll_cons hA
  obtain ⟨v1, vs1, d1, ds1, p1, q1, rfl, rfl, rfl, h1, r1⟩ := trodAll_cons r0
  obtain ⟨rfl, rfl, rfl⟩ := trodAll_nil r1
  obtain rfl : args = #[v0, v1] := by cases args; simp_all
  obtain ⟨rfl, rfl⟩ := trodVars_none hV
  obtain ⟨a0, rfl, rfl, rfl, w0⟩ := open_int Try.underlying24 (hval 0 24 v0 rfl rfl) h0
  obtain ⟨a1, rfl, rfl, rfl, w1⟩ := open_int Try.underlying24 (hval 1 24 v1 rfl rfl) h1
  clear hA0 hval0
  refine (walk a0 a1 W w0 w1).mono fun e W' ⟨he, bel⟩ => ?_
  subst he
  exact ⟨_, rfl, _, _, _, [], _, [], hW', trodAll_mk1 (shut_bool Try.underlying4 _), (trodAll_cons_mk (shut_int Try.underlying24 w0) (trodAll_cons_mk (shut_int Try.underlying24 w1) trodAll_mk0)), rfl, bel.frame _, fun h => by cases h⟩

theorem proved : Rows.NumApartSaid :=
  OpenClaim.holds_of_wide 9 Try.f9 rfl rfl rfl rfl rfl rfl rfl ⟨rfl, rfl, rfl, rfl, rfl⟩ rfl rfl rfl rfl rfl (by kernel_rfl) Try.func9 (by kernel_rfl)
    (of_decide_eq_true (by kernel_rfl)) (by unfold Func.isWrapper; rw [if_neg (by decide +kernel)]; exact ⟨rfl, rfl⟩)
    (fun os started H enc _ => lifted os started H enc)

#print axioms proved
end Go.Proofs.Ytpelndjfamdjlaa.numApart
