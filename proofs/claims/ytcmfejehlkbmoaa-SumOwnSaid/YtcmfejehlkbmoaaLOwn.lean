/-
  Proved: the law SumOwn returns true for all bytes: Write does not modify its argument, which may be changed after the call. No condition.
-/
import Derived.Test.YtcmfejehlkbmoaaStr
namespace Go.Proofs.Ytcmfejehlkbmoaa.sumOwn
open Go.ChangeShapes Go.WideShapes Go.ChangeAt Go.RowKit

theorem add_byte (y : Nat) : ∃ b : UInt8, IntKind.u8.wrap ((y : Int) + 1) = (b.toNat : Int) := by
  refine ⟨UInt8.ofNat (y + 1), ?_⟩
  rw [UInt8.toNat_ofNat']
  simp [IntKind.wrap, IntKind.bits, IntKind.signed]


set_option maxHeartbeats 1000000 in
theorem walk_a (A : Option Addr) (NA ca : Nat) (B : Option Addr) (NB cb : Nat) (w : World) (h : 4000 < NA) :
    Calls Try.prog 8 #[.slice A NA ca, .slice B NB cb] w fun e w' => e = .returned (.bool true) ∧ Below w.heap.size w w' := by
  have hdNA : decide ((4000 : Int) < (NA : Int)) = true := decide_eq_true (by omega)
  go_enter Try.func8, Try.ntmps8
  go_wp2_with fail
  refine (known_any _).mono ?_
  rintro e w1 ⟨rfl, hb1⟩
  have HB1 := Lib.hid hb1
  clear hb1
  go_wp2
  go_ret
  exact ⟨rfl, HB1.out⟩


set_option maxHeartbeats 1000000 in
theorem walk_b (A : Option Addr) (NA ca : Nat) (B : Option Addr) (NB cb : Nat) (w : World) (h0 : NA ≤ 4000) (h : 4000 < NB) :
    Calls Try.prog 8 #[.slice A NA ca, .slice B NB cb] w fun e w' => e = .returned (.bool true) ∧ Below w.heap.size w w' := by
  have hdNA : decide ((4000 : Int) < (NA : Int)) = false := decide_eq_false (by omega)
  have hdNB : decide ((4000 : Int) < (NB : Int)) = true := decide_eq_true (by omega)
  go_enter Try.func8, Try.ntmps8
  go_wp2_with fail
  refine (known_any _).mono ?_
  rintro e w1 ⟨rfl, hb1⟩
  have HB1 := Lib.hid hb1
  clear hb1
  go_wp2
  go_ret
  exact ⟨rfl, HB1.out⟩


set_option maxRecDepth 100000 in
set_option maxHeartbeats 8000000 in
theorem walk_c (A : Option Addr) (a : List UInt8) (NA ca : Nat) (B : Option Addr) (b : List UInt8) (NB cb : Nat) (w : World) (hNA : a.length = NA) (hNB : b.length = NB) (h0 : NA ≤ 4000) (h1 : NB ≤ 4000) (hcb : NB ≤ cb) (hRA : Rd w A a) (hRB : Rd w B b) :
    Calls Try.prog 8 #[.slice A NA ca, .slice B NB cb] w fun e w' => e = .returned (.bool true) ∧ Below w.heap.size w w' := by
  have hdNA : decide ((4000 : Int) < (NA : Int)) = false := decide_eq_false (by omega)
  have hdNB : decide ((4000 : Int) < (NB : Int)) = false := decide_eq_false (by omega)
  have HA := Lib.hid hNA
  have HB := Lib.hid hNB
  have RA := Lib.hid hRA
  have RB := Lib.hid hRB
  have LAB : Hid ((a ++ b).length = NA + NB) := Lib.hid (by rw [List.length_append]; omega)
  obtain ⟨u, hu⟩ : ∃ u, chk (a ++ b) = u := ⟨_, rfl⟩
  have HU := Lib.hid hu
  have CVA : Hid (∀ W, Below w.heap.size w W → (convert 22 9 (.slice A NA ca)).run Try.prog W = .ok (.string ⟨a.toArray⟩) W) := Lib.hid (fun W hb => by rw [← hNA]; exact conv_bytes W A a ca (hRA.below hb))
  clear hNA hNB hRA hRB hu
  go_enter Try.func8, Try.ntmps8
  go_wp2_with fail
  refine (new_any w).mono ?_
  rintro e w1 ⟨rfl, hf⟩
  have S1 : Hid (Al w w1 w.heap.size []) := Lib.hid (Al.new (Below.refl _ _) hf)
  clear hf
  obtain ⟨x, hx⟩ : ∃ x, w.heap.size = x := ⟨_, rfl⟩
  rw [hx] at S1
  simp only [hx]
  have HX := Lib.hid hx
  clear hx
  go_wp2_with (first | (at_builtin; refine wpList_append_vals Try.underlying22 byte_info rfl rfl _ _ rfl w1.heap.size (.slice none 0 0) 0 [] rfl (World.ownsRow_nil w1 w1.heap.size 5 1) A (a.map byt) (byt_one a) NA ca (by rw [List.length_map]; exact HA.out) rfl (RA.out.below S1.out.bel) (by omega) (Nat.le_refl _) ?_; intro v2 w2 ho hg he; rw [Nat.zero_add, List.nil_append] at ho; obtain ⟨A2, c2, rfl, hc2⟩ := own_form ho; have B2 := Lib.hid ((Below.refl w1.heap.size w1).grown hg (Nat.le_refl _) (fun j ej => by cases ej)); have E2 := Lib.hid he; have O2 := Lib.hid ho; clear ho hg he))
  have S2 := Lib.hid (S1.out.on B2.out)
  have GX : Hid (∀ g, A2 = some ⟨g, 0, none⟩ → w.heap.size ≤ g ∧ x ≠ g ∧ (0 < NA → g < w2.heap.size)) := Lib.hid (fun g e => by
    have e2 : (Value.slice A2 NA c2).ownBlock = some g := by rw [e]; rfl
    have := row_new E2.out e2
    have := S1.out.su.lt
    have := S1.out.bel.size
    have := own_lt O2.out e2
    exact ⟨by omega, by omega, fun _ => by omega⟩)
  refine (write_any S2.out.su A2 a NA c2 HA.out hc2 (by simp; omega) (Rv.of_own O2.out) (fun hm ad e => by
    have hN0 : 0 < NA := by
      have := HA.out
      rcases a with _ | ⟨b0, a⟩
      · exact absurd rfl hm
      · simp at this; omega
    obtain ⟨g, hg⟩ := own_some hN0 O2.out
    rw [hg] at e
    cases e
    exact fun e => (GX.out g hg).2.1 e.symm)).mono ?_
  rintro e w3 ⟨rfl, hg, hs⟩
  rw [List.nil_append] at hs
  have S3 : Hid (Al w w3 x a) := Lib.hid ⟨S2.out.bel.grown hg S2.out.bel.size (fun k e => by cases e; exact S2.out.ge), S2.out.ge, hs⟩
  have O3 := Lib.hid (own_same O2.out (fun g e => hg.block g (own_lt O2.out e) (by
    simp
    have hA2 : A2 = some ⟨g, 0, none⟩ := by
      rcases O2.out.2 with ⟨h, _⟩ | ⟨g', _, _, h, _⟩
      · rw [h] at e; cases e
      · rw [h] at e
        cases e
        injection h
    exact fun e => (GX.out g hA2).2.1 e.symm)))
  have CV1 := CVA.out w3 S3.out.bel
  have CV2 : (convert 22 9 (.slice A2 NA c2)).run Try.prog w3 = .ok (.string ⟨a.toArray⟩) w3 := by
    have := conv_bytes w3 A2 a c2 (Rv.of_own O3.out)
    rw [HA.out] at this
    exact this
  obtain ⟨s, hse⟩ : ∃ s : ByteArray, ⟨a.toArray⟩ = s := ⟨_, rfl⟩
  rw [hse] at CV1 CV2
  have O3' : Hid (w3.ownsRow w1.heap.size 5 1 (.slice A2 NA c2) NA (a.map byt)) := O3
  clear hg hs hse O2 O3
  go_wp2_with fail
  go_loopw [8] (fun p wr => ∃ k : Nat, k ≤ NA ∧ p = .int .i64 (k : Int) ∧ (∃ D : List UInt8, Hid (wr.ownsRow w1.heap.size 5 1 (.slice A2 NA c2) NA (D.map byt))) ∧ Hid (Al w wr x a))
    (fun p _ => NA - (intOf p).toNat)
  case atStart => exact ⟨0, Nat.zero_le _, rfl, ⟨a, O3'⟩, S3⟩
  case round =>
    obtain ⟨k, hk, rfl, ⟨D, HO⟩, SR⟩ := hrel
    by_cases hlt : k < NA
    · obtain ⟨g, rfl⟩ := own_some (by omega) HO.out
      have hDl : D.length = NA := by have := HO.out.1; simpa using this
      have hc : wr.cell? ⟨g, k, none⟩ = some (byt (D[k]'(by omega))) := by
        rw [HO.out.cellAt k (by omega), List.getElem?_map, List.getElem?_eq_getElem (by omega)]
        rfl
      have hf : wr.frozen? ⟨g, k, none⟩ = false := HO.out.frozenAt k
      obtain ⟨nb, hnb⟩ := add_byte (D[k]'(by omega)).toNat
      have hyl := (D[k]'(by omega)).toNat_lt
      obtain ⟨y, hy⟩ : ∃ y, (D[k]'(by omega)).toNat = y := ⟨_, rfl⟩
      simp only [byt] at hc
      rw [hy] at hc hnb hyl
      have hst := HO.out.stored k (byt nb)
      rw [← List.map_set] at hst
      have ST := Lib.hid hst
      obtain ⟨z, hz⟩ : ∃ z, nb.toNat = z := ⟨_, rfl⟩
      simp only [byt] at ST
      rw [hz] at hnb ST
      clear hst hz hy hDl
      go_wp2_with fail
      refine ⟨⟨k + 1, by omega, by simp, ⟨D.set k nb, Lib.hid ST.out.1⟩, Lib.hid (SR.out.grow ST.out.2 (GX.out g rfl).1 (GX.out g rfl).2.1)⟩, by simp [intOf]; omega⟩
    · go_wp2_with fail
      refine (SR.out.write B NB cb HB.out hcb (by rw [HA.out]; omega) RB.out).mono ?_
      rintro e w4 ⟨rfl, -, hs⟩
      have S4 := Lib.hid hs
      clear hs
      go_wp2_with fail
      refine (S4.out.sum (by rw [LAB.out]; omega)).mono ?_
      rw [HU.out]
      rintro e w5 ⟨rfl, hb⟩
      have S5 := Lib.hid (S4.out.on hb)
      clear hb
      go_wp2_with (first | (at_builtin; refine wpList_append_vals Try.underlying22 byte_info rfl rfl _ _ rfl w5.heap.size (.slice none 0 0) 0 [] rfl (World.ownsRow_nil w5 w5.heap.size 5 1) A (a.map byt) (byt_one a) NA ca (by rw [List.length_map]; exact HA.out) rfl (RA.out.below S5.out.bel) (by omega) (Nat.le_refl _) ?_; intro v6 w6 ho hg he; rw [Nat.zero_add, List.nil_append] at ho; obtain ⟨A6, c6, rfl, hc6⟩ := own_form ho; have B6 := Lib.hid ((Below.refl w5.heap.size w5).grown hg (Nat.le_refl _) (fun j ej => by cases ej)); have E6 := Lib.hid he; have O6 := Lib.hid ho; clear ho hg he) | (at_builtin; refine wpList_append_vals Try.underlying22 byte_info rfl rfl _ _ rfl w5.heap.size (.slice A6 NA c6) NA (a.map byt) rfl O6.out B (b.map byt) (byt_one b) NB cb (by rw [List.length_map]; exact HB.out) rfl (RB.out.below (below_on S5.out.bel (Nat.le_refl _) B6.out)) (by omega) B6.out.size ?_; intro v7 w7 ho hg _; rw [← List.map_append] at ho; obtain ⟨A7, c7, rfl, hc7⟩ := own_form ho; have B7 := Lib.hid (B6.out.grown hg B6.out.size (fun k ek => row_new E6.out ek)); have O7 := Lib.hid ho; clear ho hg))
      have R7 : Hid (Rd w7 A7 (a ++ b)) := Lib.hid (Rv.of_own O7.out)
      have S7 := Lib.hid (S5.out.on B7.out)
      refine (rof_any w7 A7 (a ++ b) (NA + NB) c7 LAB.out (by omega) R7.out).mono ?_
      rw [HU.out]
      rintro e w7' ⟨rfl, rfl⟩
      go_wp2_with fail
      refine (known_any _).mono ?_
      rintro e w8 ⟨rfl, hbk⟩
      have BK := Lib.hid (S7.out.on hbk).bel
      clear hbk
      go_wp2
      go_ret
      exact ⟨rfl, BK.out⟩

theorem walk (A : Option Addr) (a : List UInt8) (ca : Nat) (B : Option Addr) (b : List UInt8) (cb : Nat) (w : World) (hRA : Rd w A a) (_ : a.length ≤ 140737488351232) (_ : a.length ≤ ca) (hRB : Rd w B b) (_ : b.length ≤ 140737488351232) (hcb : b.length ≤ cb) :
    Calls Try.prog 8 #[.slice A a.length ca, .slice B b.length cb] w fun e w' => e = .returned (.bool true) ∧ Below w.heap.size w w' := by
  by_cases h0 : 4000 < a.length
  · exact walk_a A _ ca B _ cb w h0
  · by_cases h1 : 4000 < b.length
    · exact walk_b A _ ca B _ cb w (by omega) h1
    · exact walk_c A a _ ca B b _ cb w rfl rfl (by omega) (by omega) hcb hRA hRB

set_option maxRecDepth 100000 in
theorem lifted (os : Os) (started : os.Started) (H : Type) (enc : TypeId × Value → H) :
    ReturnsInHanded {} Try.checked os 8 .any (Rows.sumOwnSpec.pre6 enc Try.prog Try.f8 Rows.sumOwnRow.domain false) (Rows.sumOwnSpec.post enc Try.prog Try.f8 false true false false) := by
  refine returnsInHanded_of_change_sized (C := Try.checked) ownB started (by kernel_rfl) Try.func8
    (ChangeSpec.witness6 (enc := enc) (C := Try.checked) false ⟨#[], #[.slice none 0 0, .slice none 0 0], []⟩ 8 (by kernel_rfl) (by kernel_rfl) (by kernel_rfl) (by kernel_rfl)) ?_
  intro W base args ds gs before hval0 hW _ hsz0 _
  have hsz : (DataW.weightsEach Try.prog (Try.f8.params.toList ++ Rows.sumOwnSpec.plain.varTypes Try.prog) (ds ++ gs)).all (· ≤ reachBytes) = true := hsz0
  clear hsz0
  have hval : ∀ (j : Nat) t v, Try.f8.params[j]? = some t → args[j]? = some v → Value.okWide Try.prog W .any base t v := hval0
  have hW' := hW
  obtain ⟨p, q, hA0, hV, rfl, hfz, hnd⟩ := hW
  have hA : DataW.TrodAll enc Try.prog W 0 (fun _ => true) true Try.f8.params.toList args.toList ds p := hA0
  rw [Try.params8] at hA hval hsz
  obtain ⟨v0, vs0, d0, ds0, p0, q0, hargs, rfl, rfl, h0, r0⟩ := trodAll_cons hA
  obtain ⟨v1, vs1, d1, ds1, p1, q1, rfl, rfl, rfl, h1, r1⟩ := trodAll_cons r0
  obtain ⟨rfl, rfl, rfl⟩ := trodAll_nil r1
  obtain rfl : args = #[v0, v1] := by cases args; simp_all
  obtain ⟨rfl, rfl⟩ := trodVars_none hV
  obtain ⟨a0, len0, cap0, rfl⟩ := okWide_slice Try.underlying22 (hval 0 22 v0 rfl rfl)
  have k0 := h0
  have lt0 : ∀ x ∈ p0, x.block < W.heap.size := by obtain ⟨m, hm⟩ := k0; exact DataW.trod_lt m _ _ _ hm
  obtain ⟨l0, rfl, hc0, rd0, hd0⟩ := open_bytes h0
  have hs0 : l0.length ≤ 140737488351232 := by
    rcases hd0 with ⟨h, _⟩ | ⟨es, sp, rfl, h⟩
    · omega
    · have := sized_slice hsz (j := 0) (t := 22) (e := 5) rfl rfl Try.underlying22
      rw [bytes_byte] at this
      simp only [reachBytes] at this
      omega
  obtain ⟨a1, len1, cap1, rfl⟩ := okWide_slice Try.underlying22 (hval 1 22 v1 rfl rfl)
  have k1 := h1
  have lt1 : ∀ x ∈ p1, x.block < W.heap.size := by obtain ⟨m, hm⟩ := k1; exact DataW.trod_lt m _ _ _ hm
  obtain ⟨l1, rfl, hc1, rd1, hd1⟩ := open_bytes h1
  have hs1 : l1.length ≤ 140737488351232 := by
    rcases hd1 with ⟨h, _⟩ | ⟨es, sp, rfl, h⟩
    · omega
    · have := sized_slice hsz (j := 1) (t := 22) (e := 5) rfl rfl Try.underlying22
      rw [bytes_byte] at this
      simp only [reachBytes] at this
      omega
  clear hA0 hval0
  refine (walk a0 l0 cap0 a1 l1 cap1 W rd0 hs0 hc0 rd1 hs1 hc1).mono fun e W' ⟨he, bel⟩ => ?_
  subst he
  exact ⟨_, rfl, _, _, _, [], _, [], hW', trodAll_mk1 (shut_bool Try.underlying4 _), (trodAll_cons_mk (Below.trod laidOut (by kernel_rfl) (of_decide_eq_true (by kernel_rfl)) k0 bel lt0) (trodAll_cons_mk (Below.trod laidOut (by kernel_rfl) (of_decide_eq_true (by kernel_rfl)) k1 bel lt1) trodAll_mk0)), rfl, bel.frame _, fun h => by cases h⟩

theorem proved : Rows.SumOwnSaid :=
  OpenClaim.holds_of_wide 8 Try.f8 rfl rfl rfl rfl rfl rfl rfl ⟨rfl, rfl, rfl, rfl, rfl⟩ rfl rfl rfl rfl rfl (by kernel_rfl) Try.func8 (by kernel_rfl)
    (of_decide_eq_true (by kernel_rfl)) (by unfold Func.isWrapper; rw [if_neg (by decide +kernel)]; exact ⟨rfl, rfl⟩)
    (fun os started H enc _ => lifted os started H enc)

#print axioms proved

end Go.Proofs.Ytcmfejehlkbmoaa.sumOwn
