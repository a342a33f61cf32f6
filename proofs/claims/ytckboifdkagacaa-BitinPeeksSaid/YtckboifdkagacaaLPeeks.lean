/-
  Proved: the law BitinPeeks returns true for all bytes and all numbers: Peek does not read and returns what Take returns next, and Skip consumes what Take consumes. No condition.
-/
import Derived.Test.YtckboifdkagacaaUni
namespace Go.Proofs.Ytckboifdkagacaa.bitinPeeks
open Go.ChangeShapes Go.WideShapes Go.ChangeAt Go.RowKit


set_option maxHeartbeats 1000000 in
theorem walk_big (A : Option Addr) (N cap : Nat) (m n : Int) (w : World) (hN : 200 < N) :
    Calls Try.prog 7 #[.slice A N cap, .int .i64 m, .int .i64 n] w fun e w' => e = .returned (.bool true) ∧ Below w.heap.size w w' := by
  have hd : decide ((200 : Int) < (N : Int)) = true := decide_eq_true (by omega)
  go_enter Try.func7, Try.ntmps7
  go_wp2_with fail
  refine (known_any _).mono ?_
  rintro e w1 ⟨rfl, hb1⟩
  have HB1 := Lib.hid hb1
  clear hb1
  go_wp2
  go_ret
  exact ⟨rfl, HB1.out⟩

set_option maxHeartbeats 1000000 in
theorem walk_m (A : Option Addr) (N cap : Nat) (m n : Int) (w : World) (hN : N ≤ 200) (hn : n < 0) :
    Calls Try.prog 7 #[.slice A N cap, .int .i64 m, .int .i64 n] w fun e w' => e = .returned (.bool true) ∧ Below w.heap.size w w' := by
  have hd : decide ((200 : Int) < (N : Int)) = false := decide_eq_false (by omega)
  have hd1 : decide (n < 0) = true := decide_eq_true hn
  go_enter Try.func7, Try.ntmps7
  go_wp2_with fail
  refine (known_any _).mono ?_
  rintro e w1 ⟨rfl, hb1⟩
  have HB1 := Lib.hid hb1
  clear hb1
  go_wp2
  go_ret
  exact ⟨rfl, HB1.out⟩

set_option maxHeartbeats 1000000 in
theorem walk_s (A : Option Addr) (N cap : Nat) (m n : Int) (w : World) (hN : N ≤ 200) (hn : 64 < n) :
    Calls Try.prog 7 #[.slice A N cap, .int .i64 m, .int .i64 n] w fun e w' => e = .returned (.bool true) ∧ Below w.heap.size w w' := by
  have hd : decide ((200 : Int) < (N : Int)) = false := decide_eq_false (by omega)
  have hd1 : decide (n < 0) = false := decide_eq_false (by omega)
  have hd2 : decide (64 < n) = true := decide_eq_true hn
  go_enter Try.func7, Try.ntmps7
  go_wp2_with fail
  refine (known_any _).mono ?_
  rintro e w1 ⟨rfl, hb1⟩
  have HB1 := Lib.hid hb1
  clear hb1
  go_wp2
  go_ret
  exact ⟨rfl, HB1.out⟩

set_option maxRecDepth 100000 in
set_option maxHeartbeats 4000000 in
theorem walk_ok (A : Option Addr) (D : List UInt8) (N cap : Nat) (m : Int) (b : Nat) (w : World) (hN : D.length = N) (hN2 : N ≤ 200) (hR : Rd w A D) (hb : b ≤ 64) :
    Calls Try.prog 7 #[.slice A N cap, .int .i64 m, .int .i64 (b : Int)] w fun e w' => e = .returned (.bool true) ∧ Below w.heap.size w w' := by
  have HN := Lib.hid hN
  have HR := Lib.hid hR
  have hd : decide ((200 : Int) < (N : Int)) = false := decide_eq_false (by omega)
  have hd1 : decide ((b : Int) < 0) = false := decide_eq_false (by omega)
  have hd2 : decide ((64 : Int) < (b : Int)) = false := decide_eq_false (by omega)
  clear hN hR
  rcases he : endOf D with _ | e
  · have HE := Lib.hid he
    clear he
    go_enter Try.func7, Try.ntmps7
    go_wp2_with fail
    refine (newb_n _ _ D N cap HN.out (by omega) HR.out HE.out).mono ?_
    rintro q w6 ⟨rfl, rfl⟩
    go_wp2_with fail
    refine (newb_n _ _ D N cap HN.out (by omega) HR.out HE.out).mono ?_
    rintro q w6 ⟨rfl, rfl⟩
    go_wp2_with fail
    refine (known_any _).mono ?_
    rintro q wk ⟨rfl, hb⟩
    have HB := Lib.hid hb
    clear hb
    go_wp2
    go_ret
    exact ⟨rfl, HB.out⟩
  · have HE := Lib.hid he
    have LE : Hid (e ≤ 8 * D.length) := Lib.hid (by obtain ⟨_, _, _, _, _, h⟩ := endOf_some he; omega)
    clear he
    obtain ⟨rg, hrg⟩ : ∃ r, chk m e 14 = r := ⟨_, rfl⟩
    obtain ⟨Vg, hVg⟩ : ∃ V, bval D m e = V := ⟨_, rfl⟩
    obtain ⟨e1, he1⟩ : ∃ s, bpos m e = s := ⟨_, rfl⟩
    have E1 := Lib.hid (And.intro hrg (And.intro hVg he1))
    have L1 : Hid (e1 ≤ 8 * D.length) := Lib.hid (by have := bpos_le m e; have := LE.out; rw [he1] at *; omega)
    have L2 : Hid (e1 ≤ 8796093022208) := Lib.hid (by have := L1.out; rw [HN.out] at this; omega)
    obtain ⟨P, hP⟩ : ∃ P, pk D e1 b = P := ⟨_, rfl⟩
    have HP := Lib.hid hP
    have hm : min (b : Int).toNat 64 = b := by simp; omega
    have HM := Lib.hid hm
    clear hrg hVg he1 hP hm
    go_enter Try.func7, Try.ntmps7
    go_wp2_with fail
    refine (newb_s _ _ D N cap HN.out (by omega) HR.out e HE.out).mono ?_
    rintro q w1 ⟨x, rfl, A1, c1, h1⟩
    have K1 := Lib.hid h1
    have R1 := Lib.hid (HR.out.below h1.bel)
    clear h1
    go_wp2_with fail
    refine (newb_s _ _ D N cap HN.out (by omega) R1.out e HE.out).mono ?_
    rintro q w2 ⟨y, rfl, A2, c2, h2⟩
    have K2 := Lib.hid (K1.out.on h2.bel)
    have SP := Lib.hid (Sep.new K1.out.sp h2)
    have Z2 := Lib.hid (Rr.from K1.out.bel h2)
    clear h2 K1 R1
    go_wp2_with fail
    refine (btake_u K2.out LE.out (by rw [HN.out]; omega) m rg E1.out.1 Vg E1.out.2.1 e1 E1.out.2.2).mono ?_
    rintro q w3 ⟨rfl, hr, hg⟩
    have K3 := Lib.hid hr
    have Z3 := Lib.hid (Z2.out.other SP.out.symm K2.out.ge hg)
    clear K2 Z2 hr hg
    go_wp2_with fail
    refine (skip_u Z3.out LE.out (by rw [HN.out]; omega) m rg E1.out.1 e1 E1.out.2.2).mono ?_
    rintro q w4 ⟨rfl, hr, hg⟩
    have K4 := Lib.hid (K3.out.other SP.out Z3.out.ge hg)
    have Z4 := Lib.hid hr
    clear K3 Z3 hr hg
    go_wp2_with fail
    refine (bleft_any K4.out.sp L2.out).mono ?_
    rintro q w5 ⟨rfl, d5, hw⟩
    have K5 := Lib.hid (K4.out.eqd hw)
    have Z5 := Lib.hid (Z4.out.eqd hw)
    clear K4 Z4 hw
    go_wp2_with fail
    refine (bleft_any Z5.out.sp L2.out).mono ?_
    rintro q w6 ⟨rfl, d6, hw⟩
    have K6 := Lib.hid (K5.out.eqd hw)
    have Z6 := Lib.hid (Z5.out.eqd hw)
    clear K5 Z5 hw
    go_wp2_with fail
    refine (bleft_any K6.out.sp L2.out).mono ?_
    rintro q w7 ⟨rfl, d7, hw⟩
    have K7 := Lib.hid (K6.out.eqd hw)
    have Z7 := Lib.hid (Z6.out.eqd hw)
    clear K6 Z6 hw
    go_wp2_with fail
    refine (peek_r K7.out.sp L1.out (by rw [HN.out]; omega) b b HM.out P HP.out).mono ?_
    rintro q w8 ⟨rfl, hb⟩
    have K8 := Lib.hid (K7.out.on hb)
    have Z8 := Lib.hid (Z7.out.on hb)
    clear K7 Z7 hb
    go_wp2_with fail
    refine (peek_r K8.out.sp L1.out (by rw [HN.out]; omega) b b HM.out P HP.out).mono ?_
    rintro q w9 ⟨rfl, hb⟩
    have K9 := Lib.hid (K8.out.on hb)
    have Z9 := Lib.hid (Z8.out.on hb)
    clear K8 Z8 hb
    go_wp2_with fail
    refine (bleft_any K9.out.sp L2.out).mono ?_
    rintro q w10 ⟨rfl, d10, hw⟩
    have K10 := Lib.hid (K9.out.eqd hw)
    have Z10 := Lib.hid (Z9.out.eqd hw)
    clear K9 Z9 hw
    go_wp2_with fail
    refine (peek_r Z10.out.sp L1.out (by rw [HN.out]; omega) b b HM.out P HP.out).mono ?_
    rintro q w11 ⟨rfl, hb⟩
    have K11 := Lib.hid (K10.out.on hb)
    have Z11 := Lib.hid (Z10.out.on hb)
    clear K10 Z10 hb
    go_wp2_with fail
    by_cases hbe : b ≤ e1
    · have hr0 : chk (b : Int) e1 14 = 0 := by simp [chk]; omega
      have hv0 : bval D (b : Int) e1 = P := by
        rw [← HP.out, bval, if_pos hr0, pk, Nat.min_eq_left hbe, Nat.sub_self, Nat.pow_zero, Nat.mul_one]; rfl
      obtain ⟨f, hf⟩ : ∃ f, bpos (b : Int) e1 = f := ⟨_, rfl⟩
      have hf2 : e1 - b = f := by rw [← hf, bpos, if_pos hr0]; rfl
      have HT := Lib.hid (And.intro hr0 (And.intro hv0 hf))
      have hsub : (e1 : Int) - (b : Int) = (f : Int) := by omega
      have L3 : Hid (f ≤ 8796093022208) := Lib.hid (by have := L2.out; omega)
      have hl2 := L2.out
      clear hr0 hv0 hf hf2
      refine (btake_u K11.out L1.out (by rw [HN.out]; omega) b 0 HT.out.1 P HT.out.2.1 f HT.out.2.2).mono ?_
      rintro q w12 ⟨rfl, hr, hg⟩
      have K12 := Lib.hid hr
      clear K11 Z11 hr hg
      go_wp2_with fail
      refine (bleft_any K12.out.sp L3.out).mono ?_
      rintro q w13 ⟨rfl, d13, hw⟩
      have B := Lib.hid (K12.out.eqd hw).bel
      clear K12 hw
      go_wp2_with fail
      refine (known_any _).mono ?_
      rintro q wk ⟨rfl, hb⟩
      have HB := Lib.hid (below_on B.out (Nat.le_refl _) hb)
      clear hb
      go_wp2
      go_ret
      exact ⟨rfl, HB.out⟩
    · have hr0 : chk (b : Int) e1 14 = 14 := by rw [chk, if_neg (by omega), if_pos (by omega)]
      have hv0 : bval D (b : Int) e1 = 0 := by rw [bval, if_neg (by rw [hr0]; decide)]
      have hf : bpos (b : Int) e1 = e1 := by rw [bpos, if_neg (by rw [hr0]; decide)]
      have HT := Lib.hid (And.intro hr0 (And.intro hv0 hf))
      have hlt : decide ((e1 : Int) < (b : Int)) = true := decide_eq_true (by omega)
      clear hr0 hv0 hf
      refine (btake_u K11.out L1.out (by rw [HN.out]; omega) b 14 HT.out.1 0 HT.out.2.1 e1 HT.out.2.2).mono ?_
      rintro q w12 ⟨rfl, hr, hg⟩
      have K12 := Lib.hid hr
      clear K11 Z11 hr hg
      go_wp2_with fail
      refine (bleft_any K12.out.sp L2.out).mono ?_
      rintro q w13 ⟨rfl, d13, hw⟩
      have B := Lib.hid (K12.out.eqd hw).bel
      clear K12 hw
      go_wp2_with fail
      refine (known_any _).mono ?_
      rintro q wk ⟨rfl, hb⟩
      have HB := Lib.hid (below_on B.out (Nat.le_refl _) hb)
      clear hb
      go_wp2
      go_ret
      exact ⟨rfl, HB.out⟩


theorem walk (A : Option Addr) (D : List UInt8) (cap : Nat) (m n : Int) (w : World) (hR : Rd w A D) (_hs : D.length ≤ 140737488351232) (_hc : D.length ≤ cap) (_wm : (Lit.int .i64 m).wf = true) (_wn : (Lit.int .i64 n).wf = true) :
    Calls Try.prog 7 #[.slice A D.length cap, .int .i64 m, .int .i64 n] w fun e w' => e = .returned (.bool true) ∧ Below w.heap.size w w' := by
  by_cases h0 : 200 < D.length
  · exact walk_big A _ cap m n w h0
  by_cases h1 : n < 0
  · exact walk_m A _ cap m n w (by omega) h1
  by_cases h2 : 64 < n
  · exact walk_s A _ cap m n w (by omega) h2
  obtain ⟨b, rfl⟩ := Int.eq_ofNat_of_zero_le (show 0 ≤ n by omega)
  exact walk_ok A D _ cap m b w rfl (by omega) hR (by omega)

set_option maxRecDepth 100000 in
theorem lifted (os : Os) (started : os.Started) (H : Type) (enc : TypeId × Value → H) :
    ReturnsInHanded {} Try.checked os 7 .any (Rows.bitinPeeksSpec.pre6 enc Try.prog Try.f7 Rows.bitinPeeksRow.domain false) (Rows.bitinPeeksSpec.post enc Try.prog Try.f7 false true false false) := by
  refine returnsInHanded_of_change_sized (C := Try.checked) ownB started (by kernel_rfl) Try.func7
    (ChangeSpec.witness6 (enc := enc) (C := Try.checked) false ⟨#[], #[.slice none 0 0, .int .i64 0, .int .i64 0], []⟩ 8 (by kernel_rfl) (by kernel_rfl) (by kernel_rfl) (by kernel_rfl)) ?_
  intro W base args ds gs before hval0 hW _ hsz0 _
  have hsz : (DataW.weightsEach Try.prog (Try.f7.params.toList ++ Rows.bitinPeeksSpec.plain.varTypes Try.prog) (ds ++ gs)).all (· ≤ reachBytes) = true := hsz0
  clear hsz0
  have hval : ∀ (j : Nat) t v, Try.f7.params[j]? = some t → args[j]? = some v → Value.okWide Try.prog W .any base t v := hval0
  have hW' := hW
  obtain ⟨p, q, hA0, hV, rfl, hfz, hnd⟩ := hW
  have hA : DataW.TrodAll enc Try.prog W 0 (fun _ => true) true Try.f7.params.toList args.toList ds p := hA0
  rw [Try.params7] at hA hval hsz
  obtain ⟨v0, vs0, d0, ds0, p0, q0, hargs, rfl, rfl, h0, r0⟩ := trodAll_cons hA
  obtain ⟨v1, vs1, d1, ds1, p1, q1, rfl, rfl, rfl, h1, r1⟩ := trodAll_cons r0
  obtain ⟨v2, vs2, d2, ds2, p2, q2, rfl, rfl, rfl, h2, r2⟩ := trodAll_cons r1
  obtain ⟨rfl, rfl, rfl⟩ := trodAll_nil r2
  obtain rfl : args = #[v0, v1, v2] := by cases args; simp_all
  obtain ⟨rfl, rfl⟩ := trodVars_none hV
  obtain ⟨a0, len0, cap0, rfl⟩ := okWide_slice Try.underlying22 (hval 0 22 v0 rfl rfl)
  have k0 := h0
  have lt0 : ∀ x ∈ p0, x.block < W.heap.size := by obtain ⟨m, hm⟩ := k0; exact DataW.trod_lt m _ _ _ hm
  obtain ⟨l0, rfl, hc0, rd0, hd0⟩ := open_bytes h0
  have hs0 : l0.length ≤ 140737488351232 := by
    rcases hd0 with ⟨h, _⟩ | ⟨es, sp, rfl, h⟩
    · omega
    · have := sized_slice hsz (j := 0) (t := 22) (e := 5) rfl rfl Try.underlying22
      rw [bytes_byte] at this
      simp only [reachBytes] at this
      omega
  obtain ⟨a1, rfl, rfl, rfl, w1⟩ := open_int Try.underlying3 (hval 1 3 v1 rfl rfl) h1
  obtain ⟨a2, rfl, rfl, rfl, w2⟩ := open_int Try.underlying3 (hval 2 3 v2 rfl rfl) h2
  clear hA0 hval0
  refine (walk a0 l0 cap0 a1 a2 W rd0 hs0 hc0 w1 w2).mono fun e W' ⟨he, bel⟩ => ?_
  subst he
  exact ⟨_, rfl, _, _, _, [], _, [], hW', trodAll_mk1 (shut_bool Try.underlying4 _), (trodAll_cons_mk (Below.trod laidOut (by kernel_rfl) (of_decide_eq_true (by kernel_rfl)) k0 bel lt0) (trodAll_cons_mk (shut_int Try.underlying3 w1) (trodAll_cons_mk (shut_int Try.underlying3 w2) trodAll_mk0))), rfl, bel.frame _, fun h => by cases h⟩

theorem proved : Rows.BitinPeeksSaid :=
  OpenClaim.holds_of_wide 7 Try.f7 rfl rfl rfl rfl rfl rfl rfl ⟨rfl, rfl, rfl, rfl, rfl⟩ rfl rfl rfl rfl rfl (by kernel_rfl) Try.func7 (by kernel_rfl)
    (of_decide_eq_true (by kernel_rfl)) (by unfold Func.isWrapper; rw [if_neg (by decide +kernel)]; exact ⟨rfl, rfl⟩)
    (fun os started H enc _ => lifted os started H enc)

#print axioms proved

end Go.Proofs.Ytckboifdkagacaa.bitinPeeks
