/-
  Proved: the law BitoutRefused returns true for all sequences of calls and all invalid calls: a call that returns ErrArg does not change the stream. No condition.
-/
import Derived.Test.YtaedfbceaolbcaaFrm
namespace Go.Proofs.Ytaedfbceaolbcaa.bitoutRefused
open Go.ChangeShapes Go.WideShapes Go.ChangeAt Go.RowKit

set_option maxHeartbeats 1000000 in
theorem walk_big (A : Option Addr) (N cap : Nat) (q n : Int) (w : World) (hN : 60 < N) :
    Calls Try.prog 7 #[.slice A N cap, .int .u64 q, .int .i64 n] w fun e w' => e = .returned (.bool true) ∧ Below w.heap.size w w' := by
  have hd : decide ((60 : Int) < (N : Int)) = true := decide_eq_true (by omega)
  go_enter Try.func7, Try.ntmps7
  go_wp2_with fail
  refine (known_any _).mono ?_
  rintro e w1 ⟨rfl, hb1⟩
  have HB1 := Lib.hid hb1
  clear hb1
  go_wp2
  go_ret
  exact ⟨rfl, HB1.out⟩

set_option maxHeartbeats 1000000 in
theorem walk_may (A : Option Addr) (N cap : Nat) (q : Nat) (n : Int) (w : World) (hN : N ≤ 60) (hq : q < 18446744073709551616) (hm : may q n = true) :
    Calls Try.prog 7 #[.slice A N cap, .int .u64 (q : Int), .int .i64 n] w fun e w' => e = .returned (.bool true) ∧ Below w.heap.size w w' := by
  have hd : decide ((60 : Int) < (N : Int)) = false := decide_eq_false (by omega)
  have MY := Lib.hid (may_any w q n hq)
  rw [hm] at MY
  clear hm
  go_enter Try.func7, Try.ntmps7
  go_wp2_with fail
  refine MY.out.mono ?_
  rintro e w1 ⟨rfl, rfl⟩
  go_wp2_with fail
  refine (known_any _).mono ?_
  rintro e w1 ⟨rfl, hb1⟩
  have HB1 := Lib.hid hb1
  clear hb1
  go_wp2
  go_ret
  exact ⟨rfl, HB1.out⟩

set_option maxRecDepth 100000 in
set_option maxHeartbeats 4000000 in
theorem walk_small (A : Option Addr) (ls : List (Nat × Int)) (N cap : Nat) (q : Nat) (n : Int) (w : World) (hN : ls.length = N) (hN2 : N ≤ 60) (hR : RdP w A ls) (hW : WfP ls) (hq : q < 18446744073709551616) (hm : may q n = false) :
    Calls Try.prog 7 #[.slice A N cap, .int .u64 (q : Int), .int .i64 n] w fun e w' => e = .returned (.bool true) ∧ Below w.heap.size w w' := by
  have A0 := Lib.hid (At.new w w (Below.refl _ _))
  have PP := Lib.hid (puts_any A0.out.wr (by simp) A ls N cap hN (by omega) w.heap.size A0.out.ge A0.out.row (fun W hb => hR.below (A0.out.bel.trans hb)) hW)
  have PN := Lib.hid (fun W x => putc_no (w := W) (x := x) q n hm)
  have MY := Lib.hid (may_any w q n hq)
  rw [hm] at MY
  have hl1 : (allB ls).length ≤ 3840 := by have := allB_len ls; omega
  obtain ⟨L, hL⟩ : ∃ L, allB ls = L := ⟨_, rfl⟩
  rw [List.nil_append, hL] at PP
  rw [hL] at hl1
  have HL1 := Lib.hid hl1
  obtain ⟨X, hX⟩ : ∃ X, pack L = X := ⟨_, rfl⟩
  have HX := Lib.hid hX
  have hd : decide ((60 : Int) < (N : Int)) = false := decide_eq_false (by omega)
  clear hN hR hW hL hl1 hX hm
  go_enter Try.func7, Try.ntmps7
  go_wp2_with fail
  refine MY.out.mono ?_
  rintro e w1 ⟨rfl, rfl⟩
  clear MY
  go_wp2_with fail
  refine PP.out.mono ?_
  rintro e w1 ⟨rfl, v1, hw1, hc1, hn1⟩
  have A1 := Lib.hid (A0.out.chg hw1 hc1 hn1)
  clear hw1 hc1 hn1 A0 PP hd
  go_wp2_with fail
  refine (bytes_r A1.out.wr (by have := HL1.out; omega) X X.length HX.out rfl).mono ?_
  rintro e w2 ⟨A2, c2, rfl, hr2, _, hb2⟩
  have A2' := Lib.hid (A1.out.on hb2)
  have R2 := Lib.hid hr2
  clear hr2 hb2 A1
  go_wp2_with fail
  refine (len_any A2'.out.wr (by have := HL1.out; omega)).mono ?_
  rintro e w3 ⟨rfl, d3, rfl⟩
  have A3' := Lib.hid (A2'.out.dr d3)
  go_wp2_with fail
  refine (PN.out _ _).mono ?_
  rintro e w4 ⟨rfl, rfl⟩
  go_wp2_with fail
  refine (len_any A3'.out.wr (by have := HL1.out; omega)).mono ?_
  rintro e w5 ⟨rfl, d5, rfl⟩
  have A5' := Lib.hid (A2'.out.dr (d3 + d5))
  clear A3' A2' PN
  go_wp2_with fail
  refine (bytes_r A5'.out.wr (by have := HL1.out; omega) X X.length HX.out rfl).mono ?_
  rintro e w6 ⟨A6, c6, rfl, hr6, _, hb6⟩
  have A6' := Lib.hid (A5'.out.on hb6)
  have R6 := Lib.hid hr6
  have R26 : Hid (Rd w6 A2 X) := Lib.hid (R2.out.below (below_dr (d := d3 + d5) (Below.refl _ _) hb6))
  clear hr6 hb6 A5' R2
  go_wp2_with fail
  refine (same_n _ _ _ X X _ _ rfl rfl _ _ R6.out R26.out rfl).mono ?_
  rintro e w7 ⟨rfl, rfl⟩
  clear R6 R26
  go_wp2_with fail
  refine (known_any _).mono ?_
  rintro e w8 ⟨rfl, hb8⟩
  have HB8 := Lib.hid (below_on A6'.out.bel (Nat.le_refl _) hb8)
  clear hb8 A6'
  go_wp2
  go_ret
  exact ⟨rfl, HB8.out⟩

theorem walk (A : Option Addr) (ls : List (Nat × Int)) (cap : Nat) (q n : Int) (w : World) (hR : RdP w A ls) (hW : WfP ls) (_hc : ls.length ≤ cap) (wq : (Lit.int .u64 q).wf = true) (_wn : (Lit.int .i64 n).wf = true) :
    Calls Try.prog 7 #[.slice A ls.length cap, .int .u64 q, .int .i64 n] w fun e w' => e = .returned (.bool true) ∧ Below w.heap.size w w' := by
  have hq := bounds_u64 wq
  obtain ⟨q, rfl⟩ := Int.eq_ofNat_of_zero_le hq.1
  by_cases h : 60 < ls.length
  · exact walk_big A _ cap q n w h
  · by_cases hm : may q n = true
    · exact walk_may A _ cap q n w (by omega) (by omega) hm
    · exact walk_small A ls _ cap q n w rfl (by omega) hR hW (by omega) (by simpa using hm)

set_option maxRecDepth 100000 in
theorem lifted (os : Os) (started : os.Started) (H : Type) (enc : TypeId × Value → H) :
    ReturnsInHanded {} Try.checked os 7 .any (Rows.bitoutRefusedSpec.pre6 enc Try.prog Try.f7 Rows.bitoutRefusedRow.domain false) (Rows.bitoutRefusedSpec.post enc Try.prog Try.f7 false true false false) := by
  refine returnsInHanded_of_change_sized (C := Try.checked) ownB started (by kernel_rfl) Try.func7
    (ChangeSpec.witness6 (enc := enc) (C := Try.checked) false ⟨#[], #[.slice none 0 0, .int .u64 0, .int .i64 0], []⟩ 8 (by kernel_rfl) (by kernel_rfl) (by kernel_rfl) (by kernel_rfl)) ?_
  intro W base args ds gs before hval0 hW _ hsz0 _
  have hsz : (DataW.weightsEach Try.prog (Try.f7.params.toList ++ Rows.bitoutRefusedSpec.plain.varTypes Try.prog) (ds ++ gs)).all (· ≤ reachBytes) = true := hsz0
  clear hsz0
  have hval : ∀ (j : Nat) t v, Try.f7.params[j]? = some t → args[j]? = some v → Value.okWide Try.prog W .any base t v := hval0
  have hW' := hW
  obtain ⟨p, q, hA0, hV, rfl, hfz, hnd⟩ := hW
  have hA : DataW.TrodAll enc Try.prog W 0 (fun _ => true) true Try.f7.params.toList args.toList ds p := hA0
  rw [Try.params7] at hA hval hsz
  obtain ⟨v0, vs0, d0, ds0, p0, q0, hargs, rfl, rfl, h0, r0⟩ := trodAll_cons hA
  obtain ⟨v1, vs1, d1, ds1, p1, q1, rfl, rfl, rfl, h1, r1⟩ := trodAll_cons r0
  obtain ⟨v2, vs2, d2, ds2, p2, q2, rfl, rfl, rfl, h2, r2⟩ := trodAll_cons r1
  obtain ⟨rfl, rfl, rfl⟩ := trodAll_nil r2
  obtain rfl : args = #[v0, v1, v2] := by cases args; simp_all
  obtain ⟨rfl, rfl⟩ := trodVars_none hV
  obtain ⟨a0, len0, cap0, rfl⟩ := okWide_slice Try.underlying22 (hval 0 22 v0 rfl rfl)
  have k0 := h0
  have lt0 : ∀ x ∈ p0, x.block < W.heap.size := by obtain ⟨m, hm⟩ := k0; exact DataW.trod_lt m _ _ _ hm
  obtain ⟨l0, rfl, hc0, rc0, wf0⟩ := open_puts h0
  obtain ⟨a1, rfl, rfl, rfl, w1⟩ := open_int Try.underlying40 (hval 1 40 v1 rfl rfl) h1
  obtain ⟨a2, rfl, rfl, rfl, w2⟩ := open_int Try.underlying3 (hval 2 3 v2 rfl rfl) h2
  clear hA0 hval0
  refine (walk a0 l0 cap0 a1 a2 W rc0 wf0 hc0 w1 w2).mono fun e W' ⟨he, bel⟩ => ?_
  subst he
  exact ⟨_, rfl, _, _, _, [], _, [], hW', trodAll_mk1 (shut_bool Try.underlying4 _), (trodAll_cons_mk (Below.trod laidOut (by kernel_rfl) (of_decide_eq_true (by kernel_rfl)) k0 bel lt0) (trodAll_cons_mk (shut_int Try.underlying40 w1) (trodAll_cons_mk (shut_int Try.underlying3 w2) trodAll_mk0))), rfl, bel.frame _, fun h => by cases h⟩

theorem proved : Rows.BitoutRefusedSaid :=
  OpenClaim.holds_of_wide 7 Try.f7 rfl rfl rfl rfl rfl rfl rfl ⟨rfl, rfl, rfl, rfl, rfl⟩ rfl rfl rfl rfl rfl (by kernel_rfl) Try.func7 (by kernel_rfl)
    (of_decide_eq_true (by kernel_rfl)) (by unfold Func.isWrapper; rw [if_neg (by decide +kernel)]; exact ⟨rfl, rfl⟩)
    (fun os started H enc _ => lifted os started H enc)

#print axioms proved

end Go.Proofs.Ytaedfbceaolbcaa.bitoutRefused
