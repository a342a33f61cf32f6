/-
  Proved: the law NumMost returns true (the encoding of MaxNumber has nine bytes and is read back, the next number is rejected, and encodings of greater numbers are rejected). No condition.
-/
import Derived.Test.YtpelndjfamdjlaaKnown
import Derived.Test.YtpelndjfamdjlaaRows
import Derived.ProofKit
import Derived.OpenShut
namespace Go.Proofs.Ytpelndjfamdjlaa.numMost
open Go.ChangeShapes Go.WideShapes Go.ChangeAt Go.RowKit

theorem gv_max : gv [255, 255, 255, 255, 255, 255, 255, 255, 63] = ⟨4611686018427387903, 0, 9⟩ := by
  have h1 : (gv [255, 255, 255, 255, 255, 255, 255, 255, 63]).val = 4611686018427387903 := by decide +kernel
  have h2 : (gv [255, 255, 255, 255, 255, 255, 255, 255, 63]).err = 0 := by decide +kernel
  have h3 : (gv [255, 255, 255, 255, 255, 255, 255, 255, 63]).len = 9 := by decide +kernel
  rw [← h1, ← h2, ← h3]

set_option maxRecDepth 100000 in
set_option maxHeartbeats 2000000 in
theorem walk (w : World) : Calls Try.prog 10 #[] w fun e w' => e = .returned (.bool true) ∧ Below w.heap.size w w' := by
  go_enter Try.func10, Try.ntmps10
  go_wp2_with fail
  refine (putVarint_any w none [] 0 4611686018427387903 (by omega) (by omega) (by simp) (Rd.nil _ _)).mono ?_
  rintro e w1 ⟨v, rfl, hv⟩
  obtain ⟨A1, c1, rfl, hR1, hb1⟩ := hv.rd
  have e1 : vi (Int.toNat 4611686018427387903) = [255, 255, 255, 255, 255, 255, 255, 255, 63] := by decide +kernel
  rw [List.nil_append, e1] at hR1 hv
  simp only [List.nil_append, e1, List.length_cons, List.length_nil]
  have HR1 := Lib.hid hR1
  have HB1 := Lib.hid hb1
  clear hR1 hb1 hv e1
  go_wp2_with fail
  refine (new_n _ _ [255, 255, 255, 255, 255, 255, 255, 255, 63] _ _ rfl (by simp) HR1.out).mono ?_
  rintro e w2 ⟨c, A2, cap2, rfl, hcw, hcur, hb⟩
  have HN := Lib.hid (varint_any hcur)
  rw [List.drop_zero, gv_max] at HN
  have HB2 := Lib.hid (below_on HB1.out (Nat.le_refl _) hb)
  have hcw1 : w.heap.size ≤ c := Nat.le_trans HB1.out.size hcw
  have HC := Lib.hid hcw1
  clear hb hcw hcur hcw1 HB1 HR1
  go_wp2_with fail
  refine HN.out.mono ?_
  rintro e w3 ⟨rfl, _, hg⟩
  have HB3 := Lib.hid (HB2.out.grown hg HB2.out.size (fun j ej => by cases ej; exact HC.out))
  clear hg HN HB2 HC
  go_wp2_with fail
  refine (putVarint_no _ _ _ _ _ (by omega)).mono ?_
  rintro e w4 ⟨rfl, rfl⟩
  go_wp2_with fail
  refine (reads_n _ _ [255, 255, 255, 255, 255, 255, 255, 255, 127] _ _ rfl (by simp) (lit_rd _ [255, 255, 255, 255, 255, 255, 255, 255, 127] _ rfl (by simp))).mono ?_
  rintro e w5 ⟨rfl, hb⟩
  have he : (gv [255, 255, 255, 255, 255, 255, 255, 255, 127]).err = 18 := by decide +kernel
  rw [he]
  have HB5 := Lib.hid (below_on (HB3.out.alloc HB3.out.size _) (Nat.le_refl _) hb)
  clear hb he HB3
  go_wp2_with fail
  refine (reads_n _ _ [128, 128, 128, 128, 128, 128, 128, 128, 64] _ _ rfl (by simp) (lit_rd _ [128, 128, 128, 128, 128, 128, 128, 128, 64] _ rfl (by simp))).mono ?_
  rintro e w6 ⟨rfl, hb⟩
  have he : (gv [128, 128, 128, 128, 128, 128, 128, 128, 64]).err = 18 := by decide +kernel
  rw [he]
  have HB6 := Lib.hid (below_on (HB5.out.alloc HB5.out.size _) (Nat.le_refl _) hb)
  clear hb he HB5
  go_wp2_with fail
  refine (reads_n _ _ [255, 255, 255, 255, 255, 255, 255, 255, 63] _ _ rfl (by simp) (lit_rd _ [255, 255, 255, 255, 255, 255, 255, 255, 63] _ rfl (by simp))).mono ?_
  rintro e w7 ⟨rfl, hb⟩
  rw [gv_max]
  have HB7 := Lib.hid (below_on (HB6.out.alloc HB6.out.size _) (Nat.le_refl _) hb)
  clear hb HB6
  go_wp2_with fail
  refine (known_any _).mono ?_
  rintro e w8 ⟨rfl, hb⟩
  have HB8 := Lib.hid (below_on HB7.out (Nat.le_refl _) hb)
  clear hb HB7
  go_wp2
  go_ret
  exact ⟨rfl, HB8.out⟩

theorem own : ownKnob Try.prog.godebug = none := by kernel_rfl

set_option maxRecDepth 100000 in
theorem lifted (os : Os) (started : os.Started) (H : Type) (enc : TypeId × Value → H) :
    ReturnsInHanded {} Try.checked os 10 .any (Rows.numMostSpec.pre6 enc Try.prog Try.f10 Rows.numMostRow.domain false) (Rows.numMostSpec.post enc Try.prog Try.f10 false true false false) := by
  refine returnsInHanded_of_change (C := Try.checked) own started (by kernel_rfl) Try.func10
    (ChangeSpec.witness6 (enc := enc) (C := Try.checked) false ⟨#[], #[], []⟩ 8 (by kernel_rfl) (by kernel_rfl) (by kernel_rfl) (by kernel_rfl)) ?_
  intro W base args ds gs before hval0 hW hcnd _
  have hW' := hW
  obtain ⟨p, q, hA0, hV, rfl, hfz, hnd⟩ := hW
  have hA : DataW.TrodAll enc Try.prog W 0 (fun _ => true) true Try.f10.params.toList args.toList ds p := hA0
  rw [Try.params10] at hA
  obtain ⟨rfl, rfl, rfl⟩ := trodAll_none hA
  obtain ⟨rfl, rfl⟩ := trodVars_none hV
  clear hA0 hval0
  simp only [List.append_nil] at hW'
  refine (walk W).mono fun e W' ⟨he, bel⟩ => ?_
  subst he
  exact ⟨_, rfl, _, _, _, [], [], [], hW', trodAll_mk1 (shut_bool Try.underlying4 _), trodAll_mk0, rfl, bel.frame _, fun h => by cases h⟩

theorem proved : Rows.NumMostSaid :=
  OpenClaim.holds_of_wide 10 Try.f10 rfl rfl rfl rfl rfl rfl rfl ⟨rfl, rfl, rfl, rfl, rfl⟩ rfl rfl rfl rfl rfl (by kernel_rfl) Try.func10 (by kernel_rfl)
    (of_decide_eq_true (by kernel_rfl)) (by unfold Func.isWrapper; rw [if_neg (by decide +kernel)]; exact ⟨rfl, rfl⟩)
    (fun os started H enc _ => lifted os started H enc)

#print axioms proved
end Go.Proofs.Ytpelndjfamdjlaa.numMost
