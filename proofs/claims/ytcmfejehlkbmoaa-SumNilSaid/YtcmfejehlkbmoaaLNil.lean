/-
  Proved: the law SumNil returns true for all bytes: the results for a nil Sum, and a zero Sum is like a new one. No condition.
-/
import Derived.Test.YtcmfejehlkbmoaaAt
namespace Go.Proofs.Ytcmfejehlkbmoaa.sumNil
open Go.ChangeShapes Go.WideShapes Go.ChangeAt Go.RowKit

set_option maxHeartbeats 1000000 in
theorem walk_a (A : Option Addr) (N cap : Nat) (w : World) (hN : 4000 < N) :
    Calls Try.prog 10 #[.slice A N cap] w fun e w' => e = .returned (.bool true) ∧ Below w.heap.size w w' := by
  have hd : decide ((4000 : Int) < (N : Int)) = true := decide_eq_true (by omega)
  go_enter Try.func10, Try.ntmps10
  go_wp2_with fail
  refine (known_any _).mono ?_
  rintro e w1 ⟨rfl, hb1⟩
  have HB1 := Lib.hid hb1
  clear hb1
  go_wp2
  go_ret
  exact ⟨rfl, HB1.out⟩

set_option maxRecDepth 100000 in
set_option maxHeartbeats 4000000 in
theorem walk_b (A : Option Addr) (l : List UInt8) (N cap : Nat) (w : World) (hN : l.length = N) (hN2 : N ≤ 4000) (hc : N ≤ cap) (hR : Rd w A l) :
    Calls Try.prog 10 #[.slice A N cap] w fun e w' => e = .returned (.bool true) ∧ Below w.heap.size w w' := by
  have hd : decide ((4000 : Int) < (N : Int)) = false := decide_eq_false (by omega)
  have B1 := Lib.hid ((Below.refl w.heap.size w).alloc (Nat.le_refl _) (.cells #[.int .u64 0, .int .u8 0, .int .u8 0, .int .u8 0, .int .u8 0, .int .u8 0, .int .u8 0, .int .u8 0, .int .u8 0, .int .i64 0] 44))
  have Z1 := Lib.hid (su_zero w)
  obtain ⟨w1, hw1⟩ : ∃ w1, w.alloc (.cells #[.int .u64 0, .int .u8 0, .int .u8 0, .int .u8 0, .int .u8 0, .int .u8 0, .int .u8 0, .int .u8 0, .int .u8 0, .int .i64 0] 44) = w1 := ⟨_, rfl⟩
  rw [hw1] at B1 Z1
  have A1 : Hid (Al w w1 w.heap.size []) := Lib.hid ⟨B1.out, Nat.le_refl _, Z1.out⟩
  have WR := Lib.hid (A1.out.write A N cap hN hc (by simp; omega) hR)
  rw [List.nil_append] at WR
  have SM : Hid (∀ w2, Al w w2 w.heap.size l → Calls Try.prog 16 #[.pointer (some ⟨w.heap.size, 0, none⟩)] w2 fun e w' => e = .returned (.int .u64 (chk l : Int)) ∧ Below w2.heap.size w2 w') := Lib.hid (fun w2 h => h.sum (by omega))
  have LN : Hid (∀ w2, Al w w2 w.heap.size l → Calls Try.prog 18 #[.pointer (some ⟨w.heap.size, 0, none⟩)] w2 fun e w' => e = .returned (.int .i64 (N : Int)) ∧ w' = w2) := Lib.hid (fun w2 h => by rw [← hN]; exact len_any h.su)
  have RO : Hid (∀ w1, Below w.heap.size w w1 → Calls Try.prog 13 #[.slice A N cap] w1 fun e w' => e = .returned (.int .u64 (chk l : Int)) ∧ w' = w1) :=
    Lib.hid (fun w1 hb => rof_any w1 A l N cap hN (by omega) (hR.below hb))
  obtain ⟨d, hd2⟩ : ∃ d, chk l = d := ⟨_, rfl⟩
  rw [hd2] at SM RO
  clear hd2 hR hN
  go_enter Try.func10, Try.ntmps10
  go_wp2_with fail
  refine (write_nil w1 _ _ _).mono ?_
  rintro e w1' ⟨rfl, rfl⟩
  go_wp2_with fail
  refine WR.out.mono ?_
  rintro e w2 ⟨rfl, -, ha2⟩
  have A2 := Lib.hid ha2
  clear ha2
  go_wp2_with fail
  refine (sum_nil w2).mono ?_
  rintro e w2' ⟨rfl, rfl⟩
  go_wp2_with fail
  refine (low_nil _).mono ?_
  rintro e w2' ⟨rfl, rfl⟩
  go_wp2_with fail
  refine (len_nil _).mono ?_
  rintro e w2' ⟨rfl, rfl⟩
  go_wp2_with fail
  refine (copy_nil _).mono ?_
  rintro e w2' ⟨rfl, rfl⟩
  go_wp2_with fail
  refine (SM.out _ A2.out).mono ?_
  rintro e w3 ⟨rfl, hb3⟩
  have A3 := Lib.hid (A2.out.on hb3)
  clear hb3
  go_wp2_with fail
  refine (RO.out _ A3.out.bel).mono ?_
  rintro e w3' ⟨rfl, rfl⟩
  go_wp2_with fail
  refine (LN.out _ A3.out).mono ?_
  rintro e w3' ⟨rfl, rfl⟩
  go_wp2_with fail
  refine (known_any _).mono ?_
  rintro e w4 ⟨rfl, hb4⟩
  have B4 := Lib.hid (A3.out.on hb4).bel
  clear hb4
  go_wp2
  go_ret
  exact ⟨rfl, B4.out⟩

theorem walk (A : Option Addr) (l : List UInt8) (cap : Nat) (w : World) (hR : Rd w A l) (_hs : l.length ≤ 140737488351232) (hc : l.length ≤ cap) :
    Calls Try.prog 10 #[.slice A l.length cap] w fun e w' => e = .returned (.bool true) ∧ Below w.heap.size w w' := by
  by_cases h : 4000 < l.length
  · exact walk_a A _ cap w h
  · exact walk_b A l _ cap w rfl (by omega) hc hR

set_option maxRecDepth 100000 in
theorem lifted (os : Os) (started : os.Started) (H : Type) (enc : TypeId × Value → H) :
    ReturnsInHanded {} Try.checked os 10 .any (Rows.sumNilSpec.pre6 enc Try.prog Try.f10 Rows.sumNilRow.domain false) (Rows.sumNilSpec.post enc Try.prog Try.f10 false true false false) := by
  refine returnsInHanded_of_change_sized (C := Try.checked) ownB started (by kernel_rfl) Try.func10
    (ChangeSpec.witness6 (enc := enc) (C := Try.checked) false ⟨#[], #[.slice none 0 0], []⟩ 8 (by kernel_rfl) (by kernel_rfl) (by kernel_rfl) (by kernel_rfl)) ?_
  intro W base args ds gs before hval0 hW _ hsz0 _
  have hsz : (DataW.weightsEach Try.prog (Try.f10.params.toList ++ Rows.sumNilSpec.plain.varTypes Try.prog) (ds ++ gs)).all (· ≤ reachBytes) = true := hsz0
  clear hsz0
  have hval : ∀ (j : Nat) t v, Try.f10.params[j]? = some t → args[j]? = some v → Value.okWide Try.prog W .any base t v := hval0
  have hW' := hW
  obtain ⟨p, q, hA0, hV, rfl, hfz, hnd⟩ := hW
  have hA : DataW.TrodAll enc Try.prog W 0 (fun _ => true) true Try.f10.params.toList args.toList ds p := hA0
  rw [Try.params10] at hA hval hsz
  obtain ⟨v0, vs0, d0, ds0, p0, q0, hargs, rfl, rfl, h0, r0⟩ := trodAll_cons hA
  obtain ⟨rfl, rfl, rfl⟩ := trodAll_nil r0
  obtain rfl : args = #[v0] := by cases args; simp_all
  obtain ⟨rfl, rfl⟩ := trodVars_none hV
  obtain ⟨a0, len0, cap0, rfl⟩ := okWide_slice Try.underlying22 (hval 0 22 v0 rfl rfl)
  have k0 := h0
  have lt0 : ∀ x ∈ p0, x.block < W.heap.size := by obtain ⟨m, hm⟩ := k0; exact DataW.trod_lt m _ _ _ hm
  obtain ⟨l0, rfl, hc0, rd0, hd0⟩ := open_bytes h0
  have hs0 : l0.length ≤ 140737488351232 := by
    rcases hd0 with ⟨h, _⟩ | ⟨es, sp, rfl, h⟩
    · omega
    · have := sized_slice hsz (j := 0) (t := 22) (e := 5) rfl rfl Try.underlying22
      rw [bytes_byte] at this
      simp only [reachBytes] at this
      omega
  clear hA0 hval0
  refine (walk a0 l0 cap0 W rd0 hs0 hc0).mono fun e W' ⟨he, bel⟩ => ?_
  subst he
  exact ⟨_, rfl, _, _, _, [], _, [], hW', trodAll_mk1 (shut_bool Try.underlying4 _), (trodAll_cons_mk (Below.trod laidOut (by kernel_rfl) (of_decide_eq_true (by kernel_rfl)) k0 bel lt0) trodAll_mk0), rfl, bel.frame _, fun h => by cases h⟩

theorem proved : Rows.SumNilSaid :=
  OpenClaim.holds_of_wide 10 Try.f10 rfl rfl rfl rfl rfl rfl rfl ⟨rfl, rfl, rfl, rfl, rfl⟩ rfl rfl rfl rfl rfl (by kernel_rfl) Try.func10 (by kernel_rfl)
    (of_decide_eq_true (by kernel_rfl)) (by unfold Func.isWrapper; rw [if_neg (by decide +kernel)]; exact ⟨rfl, rfl⟩)
    (fun os started H enc _ => lifted os started H enc)

#print axioms proved

end Go.Proofs.Ytcmfejehlkbmoaa.sumNil
