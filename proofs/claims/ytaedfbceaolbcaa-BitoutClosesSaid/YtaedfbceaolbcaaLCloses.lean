/-
  Proved: the law BitoutCloses returns true for all sequences of calls: Close returns the bits with an end mark. No condition.
-/
import Derived.Test.YtaedfbceaolbcaaFrm
namespace Go.Proofs.Ytaedfbceaolbcaa.bitoutCloses
open Go.ChangeShapes Go.WideShapes Go.ChangeAt Go.RowKit

set_option maxHeartbeats 1000000 in
theorem walk_big (A : Option Addr) (N cap : Nat) (w : World) (hN : 100 < N) :
    Calls Try.prog 4 #[.slice A N cap] w fun e w' => e = .returned (.bool true) ∧ Below w.heap.size w w' := by
  have hd : decide ((100 : Int) < (N : Int)) = true := decide_eq_true (by omega)
  go_enter Try.func4, Try.ntmps4
  go_wp2_with fail
  refine (known_any _).mono ?_
  rintro e w1 ⟨rfl, hb1⟩
  have HB1 := Lib.hid hb1
  clear hb1
  go_wp2
  go_ret
  exact ⟨rfl, HB1.out⟩

theorem str_ex (l : List Bool) : ∀ i, i ≤ l.length → ∃ F p c, Str F p c (l.take i) ∧ c < 8 := by
  intro i
  induction i with
  | zero => intro _; exact ⟨[], 0, 0, by rw [List.take_zero]; exact Str.nil, by decide⟩
  | succ i ih =>
    intro hi
    obtain ⟨F, p, c, h, hc⟩ := ih (by omega)
    obtain ⟨F', p', c', h1, h2, _⟩ := str_step h hc (l[i]'(by omega)) (List.getElem?_eq_getElem (by omega))
    exact ⟨F', p', c', h1, h2⟩

theorem closed_last (l : List Bool) : ∃ (F : List UInt8) (b : UInt8), closed l = F ++ [b] ∧ ¬ b.toNat = 0 ∧ F.length = l.length / 8 := by
  obtain ⟨F, p, c, h, hc⟩ := str_ex l l.length (Nat.le_refl _)
  rw [List.take_length] at h
  refine ⟨F, _, h.closed hc, ?_, by have := h.len; omega⟩
  have h1 := h.lt
  have h2 : 2 ^ (c + 1) ≤ 2 ^ 8 := Nat.pow_le_pow_right (by decide) (by omega)
  rw [Nat.pow_succ] at h2
  rw [UInt8.toNat_ofNat', Nat.mod_eq_of_lt (by omega)]
  omega

set_option maxRecDepth 100000 in
set_option maxHeartbeats 4000000 in
theorem walk_small (A : Option Addr) (ls : List (Nat × Int)) (N cap : Nat) (w : World) (hN : ls.length = N) (hN2 : N ≤ 100) (hR : RdP w A ls) (hW : WfP ls) :
    Calls Try.prog 4 #[.slice A N cap] w fun e w' => e = .returned (.bool true) ∧ Below w.heap.size w w' := by
  have A0 := Lib.hid (At.new w w (Below.refl _ _))
  have PP := Lib.hid (puts_any A0.out.wr (by simp) A ls N cap hN (by omega) w.heap.size A0.out.ge A0.out.row (fun W hb => hR.below (A0.out.bel.trans hb)) hW)
  have AL := Lib.hid (fun (W : World) (hb : Below w.heap.size w W) => all_any W A ls N cap hN (by omega) (hR.below hb) hW)
  have HL : Hid ((allB ls).length ≤ 6400) := Lib.hid (by have := allB_len ls; omega)
  rw [List.nil_append] at PP
  obtain ⟨L, hL⟩ : ∃ L, allB ls = L := ⟨_, rfl⟩
  rw [hL] at PP HL
  simp only [hL] at AL
  obtain ⟨F, b, hF, hb, hFl⟩ := closed_last L
  obtain ⟨M, hM⟩ : ∃ M, L.length = M := ⟨_, rfl⟩
  rw [hM] at HL hFl
  have hMs : M ≤ 6400 := HL.out
  have HM := Lib.hid hM
  have HF := Lib.hid hF
  have HFL := Lib.hid hFl
  have HB := Lib.hid hb
  have hd : decide ((100 : Int) < (N : Int)) = false := decide_eq_false (by omega)
  clear hN hR hW hL hM hF hFl hb
  go_enter Try.func4, Try.ntmps4
  go_wp2_with fail
  refine PP.out.mono ?_
  rintro e w1 ⟨rfl, v1, hw1, hc1, hn1⟩
  have A1 := Lib.hid (A0.out.chg hw1 hc1 hn1)
  clear hw1 hc1 hn1 A0 PP hd
  go_wp2_with fail
  refine (close_r A1.out.wr (by rw [HM.out]; omega) (F ++ [b]) (M / 8 + 1) HF.out (by rw [List.length_append, HFL.out]; rfl)).mono ?_
  rintro e w2 ⟨A2, c2, rfl, hr2, hf2, hb2⟩
  have A2' := Lib.hid (A1.out.on hb2)
  have R2 := Lib.hid hr2
  clear hr2 hf2 hb2 A1
  go_wp2_with fail
  refine (AL.out _ A2'.out.bel).mono ?_
  rintro e w3 ⟨A3, c3, rfl, ho3, hb3⟩
  have A3' := Lib.hid (A2'.out.on hb3)
  have R3 := Lib.hid (R2.out.below hb3)
  have Q3 : Hid (Rb w3 A3 L) := Lib.hid (Rv.of_own ho3)
  rw [HM.out]
  clear ho3 hb3 A2' R2
  go_wp2_with fail
  refine (refClose_any _ _ L M _ HM.out (by omega) Q3.out).mono ?_
  rintro e w4 ⟨A4, c4, rfl, ho4, hb4⟩
  have A4' := Lib.hid (A3'.out.on hb4)
  have R4 := Lib.hid (R3.out.below hb4)
  rw [HF.out] at ho4 ⊢
  have hl4 : (F ++ [b]).length = M / 8 + 1 := by rw [List.length_append, HFL.out]; rfl
  rw [hl4] at ho4 ⊢
  have Q4 : Hid (Rd w4 A4 (F ++ [b])) := Lib.hid (Rv.of_own ho4)
  have HL4 := Lib.hid hl4
  clear ho4 hb4 A3' R3 Q3 hl4
  go_wp2_with fail
  refine (same_n _ _ _ (F ++ [b]) (F ++ [b]) _ _ HL4.out HL4.out _ _ R4.out Q4.out rfl).mono ?_
  rintro e w5 ⟨rfl, rfl⟩
  clear Q4
  go_wp2_with fail
  refine (len_r A4'.out.wr (by rw [HM.out]; omega) M (by rw [HM.out])).mono ?_
  rintro e w6 ⟨rfl, d6, rfl⟩
  have A6' := Lib.hid (A4'.out.dr d6)
  clear A4'
  obtain ⟨ad, rfl⟩ := Rv.some_of R4.out (by simp)
  have hcell : w4.cell? (ad.add (M / 8)) = some (byt b) := by
    obtain ⟨ad', e, hc⟩ := R4.out (M / 8) (byt b) (by rw [List.getElem?_map, List.getElem?_append_right (by rw [HFL.out]; exact Nat.le_refl _), HFL.out, Nat.sub_self]; rfl)
    cases e
    exact hc
  clear R4
  have hbn := HB.out
  go_wp2_with fail
  refine (known_any _).mono ?_
  rintro e w7 ⟨rfl, hb7⟩
  have HB7 := Lib.hid (below_on A6'.out.bel (Nat.le_refl _) hb7)
  clear hb7 A6' hcell hbn
  go_wp2
  go_ret
  have e : ((b.toNat : Int) != 0) = true := by have := HB.out; simp; omega
  exact ⟨congrArg (fun r => Ending.returned (Value.bool r)) e, HB7.out⟩

theorem walk (A : Option Addr) (ls : List (Nat × Int)) (cap : Nat) (w : World) (hR : RdP w A ls) (hW : WfP ls) (_hc : ls.length ≤ cap) :
    Calls Try.prog 4 #[.slice A ls.length cap] w fun e w' => e = .returned (.bool true) ∧ Below w.heap.size w w' := by
  by_cases h : 100 < ls.length
  · exact walk_big A _ cap w h
  · exact walk_small A ls _ cap w rfl (by omega) hR hW

set_option maxRecDepth 100000 in
theorem lifted (os : Os) (started : os.Started) (H : Type) (enc : TypeId × Value → H) :
    ReturnsInHanded {} Try.checked os 4 .any (Rows.bitoutClosesSpec.pre6 enc Try.prog Try.f4 Rows.bitoutClosesRow.domain false) (Rows.bitoutClosesSpec.post enc Try.prog Try.f4 false true false false) := by
  refine returnsInHanded_of_change_sized (C := Try.checked) ownB started (by kernel_rfl) Try.func4
    (ChangeSpec.witness6 (enc := enc) (C := Try.checked) false ⟨#[], #[.slice none 0 0], []⟩ 8 (by kernel_rfl) (by kernel_rfl) (by kernel_rfl) (by kernel_rfl)) ?_
  intro W base args ds gs before hval0 hW _ hsz0 _
  have hsz : (DataW.weightsEach Try.prog (Try.f4.params.toList ++ Rows.bitoutClosesSpec.plain.varTypes Try.prog) (ds ++ gs)).all (· ≤ reachBytes) = true := hsz0
  clear hsz0
  have hval : ∀ (j : Nat) t v, Try.f4.params[j]? = some t → args[j]? = some v → Value.okWide Try.prog W .any base t v := hval0
  have hW' := hW
  obtain ⟨p, q, hA0, hV, rfl, hfz, hnd⟩ := hW
  have hA : DataW.TrodAll enc Try.prog W 0 (fun _ => true) true Try.f4.params.toList args.toList ds p := hA0
  rw [Try.params4] at hA hval hsz
  obtain ⟨v0, vs0, d0, ds0, p0, q0, hargs, rfl, rfl, h0, r0⟩ := trodAll_cons hA
  obtain ⟨rfl, rfl, rfl⟩ := trodAll_nil r0
  obtain rfl : args = #[v0] := by cases args; simp_all
  obtain ⟨rfl, rfl⟩ := trodVars_none hV
  obtain ⟨a0, len0, cap0, rfl⟩ := okWide_slice Try.underlying22 (hval 0 22 v0 rfl rfl)
  have k0 := h0
  have lt0 : ∀ x ∈ p0, x.block < W.heap.size := by obtain ⟨m, hm⟩ := k0; exact DataW.trod_lt m _ _ _ hm
  obtain ⟨l0, rfl, hc0, rc0, wf0⟩ := open_puts h0
  clear hA0 hval0
  refine (walk a0 l0 cap0 W rc0 wf0 hc0).mono fun e W' ⟨he, bel⟩ => ?_
  subst he
  exact ⟨_, rfl, _, _, _, [], _, [], hW', trodAll_mk1 (shut_bool Try.underlying4 _), (trodAll_cons_mk (Below.trod laidOut (by kernel_rfl) (of_decide_eq_true (by kernel_rfl)) k0 bel lt0) trodAll_mk0), rfl, bel.frame _, fun h => by cases h⟩

theorem proved : Rows.BitoutClosesSaid :=
  OpenClaim.holds_of_wide 4 Try.f4 rfl rfl rfl rfl rfl rfl rfl ⟨rfl, rfl, rfl, rfl, rfl⟩ rfl rfl rfl rfl rfl (by kernel_rfl) Try.func4 (by kernel_rfl)
    (of_decide_eq_true (by kernel_rfl)) (by unfold Func.isWrapper; rw [if_neg (by decide +kernel)]; exact ⟨rfl, rfl⟩)
    (fun os started H enc _ => lifted os started H enc)

#print axioms proved

end Go.Proofs.Ytaedfbceaolbcaa.bitoutCloses
