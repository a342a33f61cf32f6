/-
  Proved: the law NumPuts returns true for all bytes, words and numbers: PutWord, PutVarint and Size answer as the reference does. No condition.
-/
import Derived.Test.YtpelndjfamdjlaaAid
import Derived.Test.YtpelndjfamdjlaaFrm
namespace Go.Proofs.Ytpelndjfamdjlaa.numPuts
open Go.ChangeShapes Go.WideShapes Go.ChangeAt Go.RowKit

set_option maxRecDepth 100000 in
set_option maxHeartbeats 4000000 in
theorem walk (A : Option Addr) (l : List UInt8) (cap : Nat) (q n : Int) (w : World) (hR : Rd w A l) (hs : l.length ≤ 140737488351232) (_hc : l.length ≤ cap) (wq : (Lit.int .u32 q).wf = true) (wn : (Lit.int .u64 n).wf = true) :
    Calls Try.prog 3 #[.slice A l.length cap, .int .u32 q, .int .u64 n] w fun e w' => e = .returned (.bool true) ∧ Below w.heap.size w w' := by
  have hq := bounds_u32 wq
  have hn := bounds_u64 wn
  have OW := Lib.hid (fun W (h : Below w.heap.size w W) => own_any W A l cap (by omega) (hR.below h))
  have PW := Lib.hid (fun W A c (h : Rd W A l) => putWord_any W A l c q hq.1 (by omega) (by omega) h)
  have RW := Lib.hid (fun W => refWord_any W q hq.1 (by omega))
  have HQ := Lib.hid (And.intro hq hn)
  have hl4 : (l ++ wd q.toNat).length ≤ 140737488355000 := by simp [wd_len]; omega
  clear hq wq wn hR hn
  generalize wd q.toNat = X at *
  go_enter Try.func3, Try.ntmps3
  go_wp2_with fail
  refine (OW.out _ (Below.refl _ _)).mono ?_
  rintro e w1 ⟨v1, rfl, A1, c1, rfl, ho1, hb1⟩
  have HB1 := Lib.hid hb1
  have HR1 := Lib.hid (Rd.of_own ho1)
  clear hb1 ho1
  go_wp2_with fail
  refine (PW.out _ _ _ HR1.out).mono ?_
  rintro e w2 ⟨v2, rfl, A2, c2, rfl, ho2, hb2⟩
  have HB2 := Lib.hid (below_on HB1.out (Nat.le_refl _) hb2)
  have HR2 := Lib.hid (Rd.of_own ho2)
  clear hb2 ho2 HB1 HR1
  go_wp2_with fail
  refine (OW.out _ HB2.out).mono ?_
  rintro e w3 ⟨v3, rfl, A3, c3, rfl, ho3, hb3⟩
  have H3 := Lib.hid (And.intro ho3 hb3)
  clear hb3 ho3
  go_wp2_with fail
  refine (RW.out _).mono ?_
  rintro e w4 ⟨v4, rfl, A4, c4, rfl, ho4, hb4⟩
  have b24 : Below w2.heap.size w2 w4 := below_on H3.out.2 (Nat.le_refl _) hb4
  have ho3 := own_below H3.out.1 hb4
  have B24 := Lib.hid b24
  have HR4 := Lib.hid (Rd.of_own ho4)
  have hx4 : l.length + X.length ≤ 140737488355328 := by simp at hl4; omega
  clear hb4 ho4 b24
  go_wp2_with (at_builtin; refine wpList_append_bytesW rfl _ _ rfl _ _ _ _ rfl ho3 A4 X _ c4 rfl rfl HR4.out hx4 B24.out.size ?_; intro v5 w5 ho5 hg5; obtain ⟨A5, c5, rfl⟩ := own_form ho5)
  have b25 : Below w2.heap.size w2 w5 := B24.out.grown hg5 B24.out.size (fun j ej => (ho3.lt j ej).1)
  have HB5 := Lib.hid (below_on HB2.out (Nat.le_refl _) b25)
  refine (same_n _ _ _ (l ++ X) (l ++ X) _ _ (by simp) (by simp) _ _ (HR2.out.below b25) (rd_app ho5) rfl).mono ?_
  rintro e w6 ⟨rfl, rfl⟩
  clear b25 ho5 hg5 ho3 HR4 B24 H3 HR2 HB2 RW PW
  go_wp2_with fail
  refine (OW.out _ HB5.out).mono ?_
  rintro e w6 ⟨v6, rfl, A6, c6, rfl, ho6, hb6⟩
  have HB6 := Lib.hid (below_on HB5.out (Nat.le_refl _) hb6)
  have HR6 := Lib.hid (Rd.of_own ho6)
  clear hb6 ho6 HB5 hx4
  by_cases hm : 4611686018427387903 < n
  · have hd : decide ((4611686018427387903 : Int) < n) = true := by simp; omega
    go_wp2_with fail
    refine (putVarint_no _ _ _ _ n hm).mono ?_
    rintro e w7 ⟨rfl, rfl⟩
    go_wp2_with fail
    refine (size_no _ n hm).mono ?_
    rintro e w8 ⟨rfl, rfl⟩
    go_wp2_with fail
    refine (known_any _).mono ?_
    rintro e w9 ⟨rfl, hb9⟩
    have HB9 := Lib.hid (below_on HB6.out (Nat.le_refl _) hb9)
    clear hb9 HB6
    go_wp2
    go_ret
    exact ⟨rfl, HB9.out⟩
  · have hd : decide ((4611686018427387903 : Int) < n) = false := by simp; omega
    have hn0 : 0 ≤ n := HQ.out.2.1
    have PV := Lib.hid (fun W A c (h : Rd W A l) => putVarint_any W A l c n hn0 (by omega) (by omega) h)
    have RV := Lib.hid (fun W => refVarint_any W n hn0 (by omega))
    have SV := Lib.hid (fun W => size_any W n hn0 (by omega))
    have hlv := vi_len n.toNat
    clear hm
    generalize vi n.toNat = V at *
    go_wp2_with fail
    refine (PV.out _ _ _ HR6.out).mono ?_
    rintro e w7 ⟨v7, rfl, A7, c7, rfl, ho7, hb7⟩
    have HB7 := Lib.hid (below_on HB6.out (Nat.le_refl _) hb7)
    have HR7 := Lib.hid (Rd.of_own ho7)
    clear hb7 ho7 HB6 HR6
    go_wp2_with fail
    refine (OW.out _ HB7.out).mono ?_
    rintro e w8 ⟨v8, rfl, A8, c8, rfl, ho8, hb8⟩
    have H8 := Lib.hid (And.intro ho8 hb8)
    clear hb8 ho8
    go_wp2_with fail
    refine (RV.out _).mono ?_
    rintro e w9 ⟨v9, rfl, A9, c9, rfl, ho9, hb9⟩
    have b79 : Below w7.heap.size w7 w9 := below_on H8.out.2 (Nat.le_refl _) hb9
    have ho8 := own_below H8.out.1 hb9
    have B79 := Lib.hid b79
    have HR9 := Lib.hid (Rd.of_own ho9)
    have hx9 : l.length + V.length ≤ 140737488355328 := by omega
    clear hb9 ho9 b79
    go_wp2_with (at_builtin; refine wpList_append_bytesW rfl _ _ rfl _ _ _ _ rfl ho8 A9 V _ c9 rfl rfl HR9.out hx9 B79.out.size ?_; intro v10 w10 ho10 hg10; obtain ⟨A10, c10, rfl⟩ := own_form ho10)
    have b7 : Below w7.heap.size w7 w10 := B79.out.grown hg10 B79.out.size (fun j ej => (ho8.lt j ej).1)
    have HB10 := Lib.hid (below_on HB7.out (Nat.le_refl _) b7)
    refine (same_n _ _ _ (l ++ V) (l ++ V) _ _ (by simp) (by simp) _ _ (HR7.out.below b7) (rd_app ho10) rfl).mono ?_
    rintro e w11 ⟨rfl, rfl⟩
    clear b7 ho10 hg10 ho8 HR9 B79 H8 HR7 HB7 hx9
    go_wp2_with fail
    refine (SV.out _).mono ?_
    rintro e w12 ⟨rfl, hb12⟩
    have HB12 := Lib.hid (below_on HB10.out (Nat.le_refl _) hb12)
    clear hb12 HB10
    go_wp2_with fail
    refine (RV.out _).mono ?_
    rintro e w13 ⟨v13, rfl, A13, c13, rfl, ho13, hb13⟩
    have HB13 := Lib.hid (below_on HB12.out (Nat.le_refl _) hb13)
    clear hb13 ho13 HB12
    go_wp2_with fail
    refine (known_any _).mono ?_
    rintro e w14 ⟨rfl, hb14⟩
    have HB14 := Lib.hid (below_on HB13.out (Nat.le_refl _) hb14)
    clear hb14 HB13
    go_wp2
    go_ret
    exact ⟨rfl, HB14.out⟩

set_option maxRecDepth 100000 in
theorem lifted (os : Os) (started : os.Started) (H : Type) (enc : TypeId × Value → H) :
    ReturnsInHanded {} Try.checked os 3 .any (Rows.numPutsSpec.pre6 enc Try.prog Try.f3 Rows.numPutsRow.domain false) (Rows.numPutsSpec.post enc Try.prog Try.f3 false true false false) := by
  refine returnsInHanded_of_change_sized (C := Try.checked) ownB started (by kernel_rfl) Try.func3
    (ChangeSpec.witness6 (enc := enc) (C := Try.checked) false ⟨#[], #[.slice none 0 0, .int .u32 0, .int .u64 0], []⟩ 8 (by kernel_rfl) (by kernel_rfl) (by kernel_rfl) (by kernel_rfl)) ?_
  intro W base args ds gs before hval0 hW _ hsz0 _
  have hsz : (DataW.weightsEach Try.prog (Try.f3.params.toList ++ Rows.numPutsSpec.plain.varTypes Try.prog) (ds ++ gs)).all (· ≤ reachBytes) = true := hsz0
  clear hsz0
  have hval : ∀ (j : Nat) t v, Try.f3.params[j]? = some t → args[j]? = some v → Value.okWide Try.prog W .any base t v := hval0
  have hW' := hW
  obtain ⟨p, q, hA0, hV, rfl, hfz, hnd⟩ := hW
  have hA : DataW.TrodAll enc Try.prog W 0 (fun _ => true) true Try.f3.params.toList args.toList ds p := hA0
  rw [Try.params3] at hA hval hsz
  obtain ⟨v0, vs0, d0, ds0, p0, q0, hargs, rfl, rfl, h0, r0⟩ := trodAll_cons hA
  obtain ⟨v1, vs1, d1, ds1, p1, q1, rfl, rfl, rfl, h1, r1⟩ := trodAll_cons r0
  obtain ⟨v2, vs2, d2, ds2, p2, q2, rfl, rfl, rfl, h2, r2⟩ := trodAll_cons r1
  obtain ⟨rfl, rfl, rfl⟩ := trodAll_nil r2
  obtain rfl : args = #[v0, v1, v2] := by cases args; simp_all
  obtain ⟨rfl, rfl⟩ := trodVars_none hV
  obtain ⟨a0, len0, cap0, rfl⟩ := okWide_slice Try.underlying22 (hval 0 22 v0 rfl rfl)
  have k0 := h0
  have lt0 : ∀ x ∈ p0, x.block < W.heap.size := by obtain ⟨m, hm⟩ := k0; exact DataW.trod_lt m _ _ _ hm
  obtain ⟨l0, rfl, hc0, rd0, hd0⟩ := open_bytes h0
  have hs0 : l0.length ≤ 140737488351232 := by
    rcases hd0 with ⟨h, _⟩ | ⟨es, sp, rfl, h⟩
    · omega
    · have := sized_slice hsz (j := 0) (t := 22) (e := 5) rfl rfl Try.underlying22
      rw [bytes_byte] at this
      simp only [reachBytes] at this
      omega
  obtain ⟨a1, rfl, rfl, rfl, w1⟩ := open_int Try.underlying23 (hval 1 23 v1 rfl rfl) h1
  obtain ⟨a2, rfl, rfl, rfl, w2⟩ := open_int Try.underlying24 (hval 2 24 v2 rfl rfl) h2
  clear hA0 hval0
  refine (walk a0 l0 cap0 a1 a2 W rd0 hs0 hc0 w1 w2).mono fun e W' ⟨he, bel⟩ => ?_
  subst he
  exact ⟨_, rfl, _, _, _, [], _, [], hW', trodAll_mk1 (shut_bool Try.underlying4 _), (trodAll_cons_mk (Below.trod laidOut (by kernel_rfl) (of_decide_eq_true (by kernel_rfl)) k0 bel lt0) (trodAll_cons_mk (shut_int Try.underlying23 w1) (trodAll_cons_mk (shut_int Try.underlying24 w2) trodAll_mk0))), rfl, bel.frame _, fun h => by cases h⟩

theorem proved : Rows.NumPutsSaid :=
  OpenClaim.holds_of_wide 3 Try.f3 rfl rfl rfl rfl rfl rfl rfl ⟨rfl, rfl, rfl, rfl, rfl⟩ rfl rfl rfl rfl rfl (by kernel_rfl) Try.func3 (by kernel_rfl)
    (of_decide_eq_true (by kernel_rfl)) (by unfold Func.isWrapper; rw [if_neg (by decide +kernel)]; exact ⟨rfl, rfl⟩)
    (fun os started H enc _ => lifted os started H enc)

#print axioms proved
end Go.Proofs.Ytpelndjfamdjlaa.numPuts
