/-
  Proved: the law BitoutUnlike returns true for all pairs of sequences of calls: two closed streams are equal if and only if the bits written are equal. No condition.
-/
import Derived.Test.YtaedfbceaolbcaaTwo
namespace Go.Proofs.Ytaedfbceaolbcaa.bitoutUnlike
open Go.ChangeShapes Go.WideShapes Go.ChangeAt Go.RowKit

set_option maxHeartbeats 1000000 in
theorem walk_big (A : Option Addr) (N cap : Nat) (B : Option Addr) (M cb : Nat) (w : World) (hN : 60 < N ∨ 60 < M) :
    Calls Try.prog 5 #[.slice A N cap, .slice B M cb] w fun e w' => e = .returned (.bool true) ∧ Below w.heap.size w w' := by
  by_cases h : 60 < N
  · have hd : decide ((60 : Int) < (N : Int)) = true := decide_eq_true (by omega)
    go_enter Try.func5, Try.ntmps5
    go_wp2_with fail
    refine (known_any _).mono ?_
    rintro e w1 ⟨rfl, hb1⟩
    have HB1 := Lib.hid hb1
    clear hb1
    go_wp2
    go_ret
    exact ⟨rfl, HB1.out⟩
  · have hd : decide ((60 : Int) < (N : Int)) = false := decide_eq_false (by omega)
    have hd2 : decide ((60 : Int) < (M : Int)) = true := decide_eq_true (by omega)
    go_enter Try.func5, Try.ntmps5
    go_wp2_with fail
    refine (known_any _).mono ?_
    rintro e w1 ⟨rfl, hb1⟩
    have HB1 := Lib.hid hb1
    clear hb1
    go_wp2
    go_ret
    exact ⟨rfl, HB1.out⟩

set_option maxRecDepth 100000 in
set_option maxHeartbeats 4000000 in
theorem walk_small (A : Option Addr) (ls : List (Nat × Int)) (N cap : Nat) (B : Option Addr) (ms : List (Nat × Int)) (M cb : Nat) (w : World) (hN : ls.length = N) (hN2 : N ≤ 60) (hR : RdP w A ls) (hW : WfP ls) (hM : ms.length = M) (hM2 : M ≤ 60) (hS : RdP w B ms) (hV : WfP ms) :
    Calls Try.prog 5 #[.slice A N cap, .slice B M cb] w fun e w' => e = .returned (.bool true) ∧ Below w.heap.size w w' := by
  have A0 := Lib.hid (At2.new w)
  have PX := Lib.hid (puts_any A0.out.a.wr (by simp) A ls N cap hN (by omega) w.heap.size A0.out.a.ge A0.out.a.row (fun W hb => hR.below (A0.out.a.bel.trans hb)) hW)
  have PY := Lib.hid (fun (W : World) (v : Value) (l : List Bool) (u : Value) (h : At2 w W w.heap.size v l (w.heap.size + 1) u []) => puts_any h.b.wr (by simp) B ms M cb hM (by omega) w.heap.size h.b.ge h.b.row (fun W' hb => hS.below (h.b.bel.trans hb)) hV)
  have AL := Lib.hid (fun (W : World) (hb : Below w.heap.size w W) => all_any W A ls N cap hN (by omega) (hR.below hb) hW)
  have AM := Lib.hid (fun (W : World) (hb : Below w.heap.size w W) => all_any W B ms M cb hM (by omega) (hS.below hb) hV)
  have hl1 : (allB ls).length ≤ 3840 := by have := allB_len ls; omega
  have hl2 : (allB ms).length ≤ 3840 := by have := allB_len ms; omega
  obtain ⟨L, hL⟩ : ∃ L, allB ls = L := ⟨_, rfl⟩
  obtain ⟨K, hK⟩ : ∃ K, allB ms = K := ⟨_, rfl⟩
  rw [List.nil_append, hL] at PX
  simp only [List.nil_append, hK] at PY
  simp only [hL] at AL
  simp only [hK] at AM
  rw [hL] at hl1
  rw [hK] at hl2
  obtain ⟨r, hr⟩ : ∃ r, decide (L = K) = r := ⟨_, rfl⟩
  have hr2 : sameB (closed L) (closed K) = r := by
    rw [← hr, sameB]
    by_cases e : L = K
    · simp [e]
    · rw [decide_eq_false e]
      exact decide_eq_false fun e2 => e (closed_inj e2)
  have HL1 := Lib.hid hl1
  have HL2 := Lib.hid hl2
  have HR := Lib.hid hr
  have HR2 := Lib.hid hr2
  have hd : decide ((60 : Int) < (N : Int)) = false := decide_eq_false (by omega)
  have hd2 : decide ((60 : Int) < (M : Int)) = false := decide_eq_false (by omega)
  clear hN hR hW hM hS hV hL hK hl1 hl2 hr hr2
  go_enter Try.func5, Try.ntmps5
  go_wp2_with fail
  refine PX.out.mono ?_
  rintro e w1 ⟨rfl, v1, hw1, hc1, hn1⟩
  have A1 := Lib.hid (A0.out.stepX hw1 hc1 hn1)
  clear hw1 hc1 hn1 A0 PX hd hd2
  go_wp2_with fail
  refine (PY.out _ _ _ _ A1.out).mono ?_
  rintro e w2 ⟨rfl, v2, hw2, hc2, hn2⟩
  have A2 := Lib.hid (A1.out.stepY hw2 hc2 hn2)
  clear hw2 hc2 hn2 A1 PY
  obtain ⟨X, hX⟩ : ∃ X, closed L = X := ⟨_, rfl⟩
  obtain ⟨Y, hY⟩ : ∃ Y, closed K = Y := ⟨_, rfl⟩
  have HX := Lib.hid hX
  have HY := Lib.hid hY
  rw [hX, hY] at HR2
  clear hX hY
  go_wp2_with fail
  refine (close_r A2.out.a.wr (by have := HL1.out; omega) X X.length HX.out rfl).mono ?_
  rintro e w3 ⟨A3, c3, rfl, hr3, _, hb3⟩
  have A3' := Lib.hid (A2.out.on hb3)
  have R3 := Lib.hid hr3
  clear hr3 hb3 A2
  go_wp2_with fail
  refine (close_r A3'.out.b.wr (by have := HL2.out; omega) Y Y.length HY.out rfl).mono ?_
  rintro e w4 ⟨A4, c4, rfl, hr4, _, hb4⟩
  have A4' := Lib.hid (A3'.out.on hb4)
  have R4 := Lib.hid hr4
  have R34 := Lib.hid (R3.out.below hb4)
  clear hr4 hb4 A3' R3
  go_wp2_with fail
  refine (same_b _ _ _ X Y _ _ rfl rfl _ _ R34.out R4.out r HR2.out).mono ?_
  rintro e w5 ⟨rfl, rfl⟩
  clear R34 R4 HR2 HX HY
  go_wp2_with fail
  refine (AL.out _ A4'.out.a.bel).mono ?_
  rintro e w6 ⟨A6, c6, rfl, ho6, hb6⟩
  have A6' := Lib.hid (A4'.out.on hb6)
  have R6 : Hid (Rb w6 A6 L) := Lib.hid (Rv.of_own ho6)
  clear ho6 hb6 A4' AL
  go_wp2_with fail
  refine (AM.out _ A6'.out.a.bel).mono ?_
  rintro e w7 ⟨A7, c7, rfl, ho7, hb7⟩
  have A7' := Lib.hid (A6'.out.on hb7)
  have R7 : Hid (Rb w7 A7 K) := Lib.hid (Rv.of_own ho7)
  have R67 := Lib.hid (R6.out.below hb7)
  clear ho7 hb7 A6' AM R6
  go_wp2_with fail
  refine (sameBits_any _ _ _ L K _ _ _ _ rfl rfl (by have := HL1.out; omega) R67.out R7.out).mono ?_
  rintro e w8 ⟨rfl, d8, rfl⟩
  rw [HR.out]
  have A8' := Lib.hid (A7'.out.dr d8)
  clear A7' R67 R7
  cases r
  all_goals
    go_wp2_with fail
    refine (known_any _).mono ?_
    rintro e w9 ⟨rfl, hb9⟩
    have HB9 := Lib.hid (below_on A8'.out.a.bel (Nat.le_refl _) hb9)
    clear hb9 A8'
    go_wp2
    go_ret
    exact ⟨rfl, HB9.out⟩

theorem walk (A : Option Addr) (ls : List (Nat × Int)) (cap : Nat) (B : Option Addr) (ms : List (Nat × Int)) (cb : Nat) (w : World) (hR : RdP w A ls) (hW : WfP ls) (_hc : ls.length ≤ cap) (hS : RdP w B ms) (hV : WfP ms) (_hd : ms.length ≤ cb) :
    Calls Try.prog 5 #[.slice A ls.length cap, .slice B ms.length cb] w fun e w' => e = .returned (.bool true) ∧ Below w.heap.size w w' := by
  by_cases h : 60 < ls.length ∨ 60 < ms.length
  · exact walk_big A _ cap B _ cb w h
  · exact walk_small A ls _ cap B ms _ cb w rfl (by omega) hR hW rfl (by omega) hS hV

set_option maxRecDepth 100000 in
theorem lifted (os : Os) (started : os.Started) (H : Type) (enc : TypeId × Value → H) :
    ReturnsInHanded {} Try.checked os 5 .any (Rows.bitoutUnlikeSpec.pre6 enc Try.prog Try.f5 Rows.bitoutUnlikeRow.domain false) (Rows.bitoutUnlikeSpec.post enc Try.prog Try.f5 false true false false) := by
  refine returnsInHanded_of_change_sized (C := Try.checked) ownB started (by kernel_rfl) Try.func5
    (ChangeSpec.witness6 (enc := enc) (C := Try.checked) false ⟨#[], #[.slice none 0 0, .slice none 0 0], []⟩ 8 (by kernel_rfl) (by kernel_rfl) (by kernel_rfl) (by kernel_rfl)) ?_
  intro W base args ds gs before hval0 hW _ hsz0 _
  have hsz : (DataW.weightsEach Try.prog (Try.f5.params.toList ++ Rows.bitoutUnlikeSpec.plain.varTypes Try.prog) (ds ++ gs)).all (· ≤ reachBytes) = true := hsz0
  clear hsz0
  have hval : ∀ (j : Nat) t v, Try.f5.params[j]? = some t → args[j]? = some v → Value.okWide Try.prog W .any base t v := hval0
  have hW' := hW
  obtain ⟨p, q, hA0, hV, rfl, hfz, hnd⟩ := hW
  have hA : DataW.TrodAll enc Try.prog W 0 (fun _ => true) true Try.f5.params.toList args.toList ds p := hA0
  rw [Try.params5] at hA hval hsz
  obtain ⟨v0, vs0, d0, ds0, p0, q0, hargs, rfl, rfl, h0, r0⟩ := trodAll_cons hA
  obtain ⟨v1, vs1, d1, ds1, p1, q1, rfl, rfl, rfl, h1, r1⟩ := trodAll_cons r0
  obtain ⟨rfl, rfl, rfl⟩ := trodAll_nil r1
  obtain rfl : args = #[v0, v1] := by cases args; simp_all
  obtain ⟨rfl, rfl⟩ := trodVars_none hV
  obtain ⟨a0, len0, cap0, rfl⟩ := okWide_slice Try.underlying22 (hval 0 22 v0 rfl rfl)
  have k0 := h0
  have lt0 : ∀ x ∈ p0, x.block < W.heap.size := by obtain ⟨m, hm⟩ := k0; exact DataW.trod_lt m _ _ _ hm
  obtain ⟨l0, rfl, hc0, rc0, wf0⟩ := open_puts h0
  obtain ⟨a1, len1, cap1, rfl⟩ := okWide_slice Try.underlying22 (hval 1 22 v1 rfl rfl)
  have k1 := h1
  have lt1 : ∀ x ∈ p1, x.block < W.heap.size := by obtain ⟨m, hm⟩ := k1; exact DataW.trod_lt m _ _ _ hm
  obtain ⟨l1, rfl, hc1, rc1, wf1⟩ := open_puts h1
  clear hA0 hval0
  refine (walk a0 l0 cap0 a1 l1 cap1 W rc0 wf0 hc0 rc1 wf1 hc1).mono fun e W' ⟨he, bel⟩ => ?_
  subst he
  exact ⟨_, rfl, _, _, _, [], _, [], hW', trodAll_mk1 (shut_bool Try.underlying4 _), (trodAll_cons_mk (Below.trod laidOut (by kernel_rfl) (of_decide_eq_true (by kernel_rfl)) k0 bel lt0) (trodAll_cons_mk (Below.trod laidOut (by kernel_rfl) (of_decide_eq_true (by kernel_rfl)) k1 bel lt1) trodAll_mk0)), rfl, bel.frame _, fun h => by cases h⟩

theorem proved : Rows.BitoutUnlikeSaid :=
  OpenClaim.holds_of_wide 5 Try.f5 rfl rfl rfl rfl rfl rfl rfl ⟨rfl, rfl, rfl, rfl, rfl⟩ rfl rfl rfl rfl rfl (by kernel_rfl) Try.func5 (by kernel_rfl)
    (of_decide_eq_true (by kernel_rfl)) (by unfold Func.isWrapper; rw [if_neg (by decide +kernel)]; exact ⟨rfl, rfl⟩)
    (fun os started H enc _ => lifted os started H enc)

#print axioms proved

end Go.Proofs.Ytaedfbceaolbcaa.bitoutUnlike
