/-
  Proved: the law SumApart returns true for all bytes: a copy of a Sum and the Sum itself go on apart. No condition.
-/
import Derived.Test.YtcmfejehlkbmoaaStr
namespace Go.Proofs.Ytcmfejehlkbmoaa.sumApart
open Go.ChangeShapes Go.WideShapes Go.ChangeAt Go.RowKit


set_option maxHeartbeats 1000000 in
theorem walk_a (A : Option Addr) (NA ca : Nat) (B : Option Addr) (NB cb : Nat) (C : Option Addr) (NC cc : Nat) (w : World) (h : 4000 < NA) :
    Calls Try.prog 7 #[.slice A NA ca, .slice B NB cb, .slice C NC cc] w fun e w' => e = .returned (.bool true) ∧ Below w.heap.size w w' := by
  have hdNA : decide ((4000 : Int) < (NA : Int)) = true := decide_eq_true (by omega)
  go_enter Try.func7, Try.ntmps7
  go_wp2_with fail
  refine (known_any _).mono ?_
  rintro e w1 ⟨rfl, hb1⟩
  have HB1 := Lib.hid hb1
  clear hb1
  go_wp2
  go_ret
  exact ⟨rfl, HB1.out⟩


set_option maxHeartbeats 1000000 in
theorem walk_b (A : Option Addr) (NA ca : Nat) (B : Option Addr) (NB cb : Nat) (C : Option Addr) (NC cc : Nat) (w : World) (h0 : NA ≤ 4000) (h : 4000 < NB) :
    Calls Try.prog 7 #[.slice A NA ca, .slice B NB cb, .slice C NC cc] w fun e w' => e = .returned (.bool true) ∧ Below w.heap.size w w' := by
  have hdNA : decide ((4000 : Int) < (NA : Int)) = false := decide_eq_false (by omega)
  have hdNB : decide ((4000 : Int) < (NB : Int)) = true := decide_eq_true (by omega)
  go_enter Try.func7, Try.ntmps7
  go_wp2_with fail
  refine (known_any _).mono ?_
  rintro e w1 ⟨rfl, hb1⟩
  have HB1 := Lib.hid hb1
  clear hb1
  go_wp2
  go_ret
  exact ⟨rfl, HB1.out⟩


set_option maxHeartbeats 1000000 in
theorem walk_c (A : Option Addr) (NA ca : Nat) (B : Option Addr) (NB cb : Nat) (C : Option Addr) (NC cc : Nat) (w : World) (h0 : NA ≤ 4000) (h1 : NB ≤ 4000) (h : 4000 < NC) :
    Calls Try.prog 7 #[.slice A NA ca, .slice B NB cb, .slice C NC cc] w fun e w' => e = .returned (.bool true) ∧ Below w.heap.size w w' := by
  have hdNA : decide ((4000 : Int) < (NA : Int)) = false := decide_eq_false (by omega)
  have hdNB : decide ((4000 : Int) < (NB : Int)) = false := decide_eq_false (by omega)
  have hdNC : decide ((4000 : Int) < (NC : Int)) = true := decide_eq_true (by omega)
  go_enter Try.func7, Try.ntmps7
  go_wp2_with fail
  refine (known_any _).mono ?_
  rintro e w1 ⟨rfl, hb1⟩
  have HB1 := Lib.hid hb1
  clear hb1
  go_wp2
  go_ret
  exact ⟨rfl, HB1.out⟩


set_option maxRecDepth 100000 in
set_option maxHeartbeats 8000000 in
theorem walk_d (A : Option Addr) (a : List UInt8) (NA ca : Nat) (B : Option Addr) (b : List UInt8) (NB cb : Nat) (C : Option Addr) (c : List UInt8) (NC cc : Nat) (w : World) (hNA : a.length = NA) (hNB : b.length = NB) (hNC : c.length = NC) (h0 : NA ≤ 4000) (h1 : NB ≤ 4000) (h2 : NC ≤ 4000) (hca : NA ≤ ca) (hcb : NB ≤ cb) (hcc : NC ≤ cc) (hRA : Rd w A a) (hRB : Rd w B b) (hRC : Rd w C c) :
    Calls Try.prog 7 #[.slice A NA ca, .slice B NB cb, .slice C NC cc] w fun e w' => e = .returned (.bool true) ∧ Below w.heap.size w w' := by
  have hdNA : decide ((4000 : Int) < (NA : Int)) = false := decide_eq_false (by omega)
  have hdNB : decide ((4000 : Int) < (NB : Int)) = false := decide_eq_false (by omega)
  have hdNC : decide ((4000 : Int) < (NC : Int)) = false := decide_eq_false (by omega)
  have HA := Lib.hid hNA
  have HB := Lib.hid hNB
  have HC := Lib.hid hNC
  have RA := Lib.hid hRA
  have RB := Lib.hid hRB
  have RC := Lib.hid hRC
  have LAB : Hid ((a ++ b).length = NA + NB) := Lib.hid (by rw [List.length_append]; omega)
  have LAC : Hid ((a ++ c).length = NA + NC) := Lib.hid (by rw [List.length_append]; omega)
  obtain ⟨u, hu⟩ : ∃ u, chk (a ++ b) = u := ⟨_, rfl⟩
  obtain ⟨v, hv⟩ : ∃ v, chk (a ++ c) = v := ⟨_, rfl⟩
  have HU := Lib.hid hu
  have HV := Lib.hid hv
  clear hNA hNB hNC hRA hRB hRC hu hv
  go_enter Try.func7, Try.ntmps7
  go_wp2_with fail
  refine (new_any w).mono ?_
  rintro e w1 ⟨rfl, hf⟩
  have S1 : Hid (Al w w1 w.heap.size []) := Lib.hid (Al.new (Below.refl _ _) hf)
  clear hf
  obtain ⟨x, hx⟩ : ∃ x, w.heap.size = x := ⟨_, rfl⟩
  rw [hx] at S1
  simp only [hx]
  have HX := Lib.hid hx
  clear hx
  go_wp2_with fail
  refine (S1.out.write A NA ca HA.out hca (by simp; omega) RA.out).mono ?_
  rintro e w2 ⟨rfl, -, hs⟩
  rw [List.nil_append] at hs
  have S2 := Lib.hid hs
  clear hs
  go_wp2_with fail
  refine (copy_any S2.out.su).mono ?_
  rintro e w3 ⟨rfl, hb, -, hs⟩
  have S3 := Lib.hid (S2.out.on hb)
  have T3 : Hid (Al w w3 w2.heap.size a) := Lib.hid ⟨below_on S2.out.bel (Nat.le_refl _) hb, S2.out.bel.size, hs⟩
  have NE : Hid (x ≠ w2.heap.size) := Lib.hid (by have := S2.out.su.lt; omega)
  obtain ⟨y, hy⟩ : ∃ y, w2.heap.size = y := ⟨_, rfl⟩
  rw [hy] at T3 NE
  simp only [hy]
  clear hb hs hy
  go_wp2_with fail
  refine (S3.out.write B NB cb HB.out hcb (by rw [HA.out]; omega) RB.out).mono ?_
  rintro e w4 ⟨rfl, hg, hs⟩
  have S4 := Lib.hid hs
  have T4 := Lib.hid (T3.out.grow hg S3.out.ge (fun e => NE.out e.symm))
  clear hg hs
  go_wp2_with fail
  refine (T4.out.write C NC cc HC.out hcc (by rw [HA.out]; omega) RC.out).mono ?_
  rintro e w5 ⟨rfl, hg, hs⟩
  have T5 := Lib.hid hs
  have S5 := Lib.hid (S4.out.grow hg T4.out.ge NE.out)
  clear hg hs
  go_wp2_with (first | (at_builtin; refine wpList_append_vals Try.underlying22 byte_info rfl rfl _ _ rfl w5.heap.size (.slice none 0 0) 0 [] rfl (World.ownsRow_nil w5 w5.heap.size 5 1) A (a.map byt) (byt_one a) NA ca (by rw [List.length_map]; exact HA.out) rfl (RA.out.below S5.out.bel) (by omega) (Nat.le_refl _) ?_; intro v6 w6 ho hg he; rw [Nat.zero_add, List.nil_append] at ho; obtain ⟨A6, c6, rfl, hc6⟩ := own_form ho; have B6 := Lib.hid ((Below.refl w5.heap.size w5).grown hg (Nat.le_refl _) (fun j ej => by cases ej)); have E6 := Lib.hid he; have O6 := Lib.hid ho; clear ho hg he) | (at_builtin; refine wpList_append_vals Try.underlying22 byte_info rfl rfl _ _ rfl w5.heap.size (.slice A6 NA c6) NA (a.map byt) rfl O6.out B (b.map byt) (byt_one b) NB cb (by rw [List.length_map]; exact HB.out) rfl (RB.out.below (below_on S5.out.bel (Nat.le_refl _) B6.out)) (by omega) B6.out.size ?_; intro v7 w7 ho hg _; rw [← List.map_append] at ho; obtain ⟨A7, c7, rfl, hc7⟩ := own_form ho; have B7 := Lib.hid (B6.out.grown hg B6.out.size (fun k ek => row_new E6.out ek)); have O7 := Lib.hid ho; clear ho hg) | (at_builtin; refine wpList_append_vals Try.underlying22 byte_info rfl rfl _ _ rfl w7.heap.size (.slice none 0 0) 0 [] rfl (World.ownsRow_nil w7 w7.heap.size 5 1) A (a.map byt) (byt_one a) NA ca (by rw [List.length_map]; exact HA.out) rfl (RA.out.below (below_on S5.out.bel (Nat.le_refl _) B7.out)) (by omega) (Nat.le_refl _) ?_; intro v8 w8 ho hg he; rw [Nat.zero_add, List.nil_append] at ho; obtain ⟨A8, c8, rfl, hc8⟩ := own_form ho; have B8 := Lib.hid ((Below.refl w7.heap.size w7).grown hg (Nat.le_refl _) (fun j ej => by cases ej)); have E8 := Lib.hid he; have O8 := Lib.hid ho; clear ho hg he) | (at_builtin; refine wpList_append_vals Try.underlying22 byte_info rfl rfl _ _ rfl w7.heap.size (.slice A8 NA c8) NA (a.map byt) rfl O8.out C (c.map byt) (byt_one c) NC cc (by rw [List.length_map]; exact HC.out) rfl (RC.out.below (below_on (below_on S5.out.bel (Nat.le_refl _) B7.out) (Nat.le_refl _) B8.out)) (by omega) B8.out.size ?_; intro v9 w9 ho hg _; rw [← List.map_append] at ho; obtain ⟨A9, c9, rfl, hc9⟩ := own_form ho; have B9 := Lib.hid (B8.out.grown hg B8.out.size (fun k ek => row_new E8.out ek)); have O9 := Lib.hid ho; clear ho hg))
  have S9 := Lib.hid ((S5.out.on B7.out).on B9.out)
  have T9 := Lib.hid ((T5.out.on B7.out).on B9.out)
  have R7 : Hid (Rd w9 A7 (a ++ b)) := Lib.hid ((Rv.of_own O7.out).below B9.out)
  have R9 : Hid (Rd w9 A9 (a ++ c)) := Lib.hid (Rv.of_own O9.out)
  clear S1 S2 S3 S4 S5 T3 T4 T5 B6 B7 B8 B9 O6 O7 O8 O9 E6 E8
  refine (S9.out.sum (by rw [LAB.out]; omega)).mono ?_
  rw [HU.out]
  rintro e w10 ⟨rfl, hb⟩
  have S10 := Lib.hid (S9.out.on hb)
  have T10 := Lib.hid (T9.out.on hb)
  have R7b := Lib.hid (R7.out.below hb)
  have R9b := Lib.hid (R9.out.below hb)
  clear hb
  go_wp2_with fail
  refine (rof_any w10 A7 (a ++ b) (NA + NB) c7 LAB.out (by omega) R7b.out).mono ?_
  rw [HU.out]
  rintro e w10' ⟨rfl, rfl⟩
  go_wp2_with fail
  refine (T10.out.sum (by rw [LAC.out]; omega)).mono ?_
  rw [HV.out]
  rintro e w11 ⟨rfl, hb⟩
  have S11 := Lib.hid (S10.out.on hb)
  have T11 := Lib.hid (T10.out.on hb)
  have R9c := Lib.hid (R9b.out.below hb)
  clear hb
  go_wp2_with fail
  refine (rof_any w11 A9 (a ++ c) (NA + NC) c9 LAC.out (by omega) R9c.out).mono ?_
  rw [HV.out]
  rintro e w11' ⟨rfl, rfl⟩
  go_wp2_with fail
  refine (len_any S11.out.su).mono ?_
  rw [LAB.out]
  rintro e w11' ⟨rfl, rfl⟩
  go_wp2_with fail
  refine (len_any T11.out.su).mono ?_
  rw [LAC.out]
  rintro e w11' ⟨rfl, rfl⟩
  go_wp2_with fail
  refine (known_any _).mono ?_
  rintro e w12 ⟨rfl, hbk⟩
  have BK := Lib.hid (below_on S11.out.bel (Nat.le_refl _) hbk)
  clear hbk
  go_wp2
  go_ret
  exact ⟨rfl, BK.out⟩

theorem walk (A : Option Addr) (a : List UInt8) (ca : Nat) (B : Option Addr) (b : List UInt8) (cb : Nat) (C : Option Addr) (c : List UInt8) (cc : Nat) (w : World) (hRA : Rd w A a) (_ : a.length ≤ 140737488351232) (hca : a.length ≤ ca) (hRB : Rd w B b) (_ : b.length ≤ 140737488351232) (hcb : b.length ≤ cb) (hRC : Rd w C c) (_ : c.length ≤ 140737488351232) (hcc : c.length ≤ cc) :
    Calls Try.prog 7 #[.slice A a.length ca, .slice B b.length cb, .slice C c.length cc] w fun e w' => e = .returned (.bool true) ∧ Below w.heap.size w w' := by
  by_cases h0 : 4000 < a.length
  · exact walk_a A _ ca B _ cb C _ cc w h0
  · by_cases h1 : 4000 < b.length
    · exact walk_b A _ ca B _ cb C _ cc w (by omega) h1
    · by_cases h2 : 4000 < c.length
      · exact walk_c A _ ca B _ cb C _ cc w (by omega) (by omega) h2
      · exact walk_d A a _ ca B b _ cb C c _ cc w rfl rfl rfl (by omega) (by omega) (by omega) hca hcb hcc hRA hRB hRC

set_option maxRecDepth 100000 in
theorem lifted (os : Os) (started : os.Started) (H : Type) (enc : TypeId × Value → H) :
    ReturnsInHanded {} Try.checked os 7 .any (Rows.sumApartSpec.pre6 enc Try.prog Try.f7 Rows.sumApartRow.domain false) (Rows.sumApartSpec.post enc Try.prog Try.f7 false true false false) := by
  refine returnsInHanded_of_change_sized (C := Try.checked) ownB started (by kernel_rfl) Try.func7
    (ChangeSpec.witness6 (enc := enc) (C := Try.checked) false ⟨#[], #[.slice none 0 0, .slice none 0 0, .slice none 0 0], []⟩ 8 (by kernel_rfl) (by kernel_rfl) (by kernel_rfl) (by kernel_rfl)) ?_
  intro W base args ds gs before hval0 hW _ hsz0 _
  have hsz : (DataW.weightsEach Try.prog (Try.f7.params.toList ++ Rows.sumApartSpec.plain.varTypes Try.prog) (ds ++ gs)).all (· ≤ reachBytes) = true := hsz0
  clear hsz0
  have hval : ∀ (j : Nat) t v, Try.f7.params[j]? = some t → args[j]? = some v → Value.okWide Try.prog W .any base t v := hval0
  have hW' := hW
  obtain ⟨p, q, hA0, hV, rfl, hfz, hnd⟩ := hW
  have hA : DataW.TrodAll enc Try.prog W 0 (fun _ => true) true Try.f7.params.toList args.toList ds p := hA0
  rw [Try.params7] at hA hval hsz
  obtain ⟨v0, vs0, d0, ds0, p0, q0, hargs, rfl, rfl, h0, r0⟩ := trodAll_cons hA
  obtain ⟨v1, vs1, d1, ds1, p1, q1, rfl, rfl, rfl, h1, r1⟩ := trodAll_cons r0
  obtain ⟨v2, vs2, d2, ds2, p2, q2, rfl, rfl, rfl, h2, r2⟩ := trodAll_cons r1
  obtain ⟨rfl, rfl, rfl⟩ := trodAll_nil r2
  obtain rfl : args = #[v0, v1, v2] := by cases args; simp_all
  obtain ⟨rfl, rfl⟩ := trodVars_none hV
  obtain ⟨a0, len0, cap0, rfl⟩ := okWide_slice Try.underlying22 (hval 0 22 v0 rfl rfl)
  have k0 := h0
  have lt0 : ∀ x ∈ p0, x.block < W.heap.size := by obtain ⟨m, hm⟩ := k0; exact DataW.trod_lt m _ _ _ hm
  obtain ⟨l0, rfl, hc0, rd0, hd0⟩ := open_bytes h0
  have hs0 : l0.length ≤ 140737488351232 := by
    rcases hd0 with ⟨h, _⟩ | ⟨es, sp, rfl, h⟩
    · omega
    · have := sized_slice hsz (j := 0) (t := 22) (e := 5) rfl rfl Try.underlying22
      rw [bytes_byte] at this
      simp only [reachBytes] at this
      omega
  obtain ⟨a1, len1, cap1, rfl⟩ := okWide_slice Try.underlying22 (hval 1 22 v1 rfl rfl)
  have k1 := h1
  have lt1 : ∀ x ∈ p1, x.block < W.heap.size := by obtain ⟨m, hm⟩ := k1; exact DataW.trod_lt m _ _ _ hm
  obtain ⟨l1, rfl, hc1, rd1, hd1⟩ := open_bytes h1
  have hs1 : l1.length ≤ 140737488351232 := by
    rcases hd1 with ⟨h, _⟩ | ⟨es, sp, rfl, h⟩
    · omega
    · have := sized_slice hsz (j := 1) (t := 22) (e := 5) rfl rfl Try.underlying22
      rw [bytes_byte] at this
      simp only [reachBytes] at this
      omega
  obtain ⟨a2, len2, cap2, rfl⟩ := okWide_slice Try.underlying22 (hval 2 22 v2 rfl rfl)
  have k2 := h2
  have lt2 : ∀ x ∈ p2, x.block < W.heap.size := by obtain ⟨m, hm⟩ := k2; exact DataW.trod_lt m _ _ _ hm
  obtain ⟨l2, rfl, hc2, rd2, hd2⟩ := open_bytes h2
  have hs2 : l2.length ≤ 140737488351232 := by
    rcases hd2 with ⟨h, _⟩ | ⟨es, sp, rfl, h⟩
    · omega
    · have := sized_slice hsz (j := 2) (t := 22) (e := 5) rfl rfl Try.underlying22
      rw [bytes_byte] at this
      simp only [reachBytes] at this
      omega
  clear hA0 hval0
  refine (walk a0 l0 cap0 a1 l1 cap1 a2 l2 cap2 W rd0 hs0 hc0 rd1 hs1 hc1 rd2 hs2 hc2).mono fun e W' ⟨he, bel⟩ => ?_
  subst he
  exact ⟨_, rfl, _, _, _, [], _, [], hW', trodAll_mk1 (shut_bool Try.underlying4 _), (trodAll_cons_mk (Below.trod laidOut (by kernel_rfl) (of_decide_eq_true (by kernel_rfl)) k0 bel lt0) (trodAll_cons_mk (Below.trod laidOut (by kernel_rfl) (of_decide_eq_true (by kernel_rfl)) k1 bel lt1) (trodAll_cons_mk (Below.trod laidOut (by kernel_rfl) (of_decide_eq_true (by kernel_rfl)) k2 bel lt2) trodAll_mk0))), rfl, bel.frame _, fun h => by cases h⟩

theorem proved : Rows.SumApartSaid :=
  OpenClaim.holds_of_wide 7 Try.f7 rfl rfl rfl rfl rfl rfl rfl ⟨rfl, rfl, rfl, rfl, rfl⟩ rfl rfl rfl rfl rfl (by kernel_rfl) Try.func7 (by kernel_rfl)
    (of_decide_eq_true (by kernel_rfl)) (by unfold Func.isWrapper; rw [if_neg (by decide +kernel)]; exact ⟨rfl, rfl⟩)
    (fun os started H enc _ => lifted os started H enc)

#print axioms proved

end Go.Proofs.Ytcmfejehlkbmoaa.sumApart
