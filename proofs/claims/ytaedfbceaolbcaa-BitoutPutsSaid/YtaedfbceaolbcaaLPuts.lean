/-
  Proved: the law BitoutPuts returns true for all sequences of calls: Bytes returns the packed bits, exactly the invalid calls return ErrArg, and Len counts the bits after every call. No condition.
-/
import Derived.Test.YtaedfbceaolbcaaFrm
import Derived.Deep.RegionHeld3
import Derived.IntWalk
namespace Go.Proofs.Ytaedfbceaolbcaa.bitoutPuts
open Go.ChangeShapes Go.WideShapes Go.ChangeAt Go.RowKit

set_option maxHeartbeats 1000000 in
theorem walk_big (A : Option Addr) (N cap : Nat) (w : World) (hN : 100 < N) :
    Calls Try.prog 3 #[.slice A N cap] w fun e w' => e = .returned (.bool true) ∧ Below w.heap.size w w' := by
  have hd : decide ((100 : Int) < (N : Int)) = true := decide_eq_true (by omega)
  go_enter Try.func3, Try.ntmps3
  go_wp2_with fail
  refine (known_any _).mono ?_
  rintro e w1 ⟨rfl, hb1⟩
  have HB1 := Lib.hid hb1
  clear hb1
  go_wp2
  go_ret
  exact ⟨rfl, HB1.out⟩

set_option maxRecDepth 100000 in
set_option maxHeartbeats 8000000 in
theorem walk_small (A : Option Addr) (ls : List (Nat × Int)) (N cap : Nat) (w : World) (hN : ls.length = N) (hN2 : N ≤ 100) (hR : RdP w A ls) (hW : WfP ls) (hc : N ≤ cap) :
    Calls Try.prog 3 #[.slice A N cap] w fun e w' => e = .returned (.bool true) ∧ Below w.heap.size w w' := by
  have A0 := Lib.hid (At.new w w (Below.refl _ _))
  have HN := Lib.hid hN
  have HR := Lib.hid hR
  have HW := Lib.hid hW
  have hd : decide ((100 : Int) < (N : Int)) = false := decide_eq_false (by omega)
  clear hN hR hW
  go_enter Try.func3, Try.ntmps3
  go_wp2_with fail
  clear hd
  go_loopw [4] (fun b wr => (∃ (i : Nat) (v' : Value), i ≤ N ∧ b = .int .i64 (i : Int) ∧ Hid (At w wr w.heap.size v' (allB (ls.take i))))) (fun b _ => N - (intOf b).toNat)
  case atStart => exact ⟨0, _, by omega, rfl, A0⟩
  case round =>
    obtain ⟨i, v', hi, rfl, HA⟩ := hrel
    by_cases hlt : i < N
    · obtain ⟨⟨q, z⟩, hqz⟩ : ∃ y, ls[i]? = some y := ⟨_, List.getElem?_eq_getElem (by rw [HN.out]; exact hlt)⟩
      obtain ⟨aL, haL, _, _⟩ := HR.out i q z hqz
      subst haL
      have hcut : (ls.drop i).take 1 = [(q, z)] := by
        obtain ⟨h1, e⟩ := List.getElem?_eq_some_iff.1 hqz
        rw [List.drop_eq_getElem_cons h1, e]
        rfl
      have PP := Lib.hid (fun d c => puts_any (HA.out.dr d).wr (by have := allB_len (ls.take i); rw [List.length_take] at this; omega) (some (aL.add (i * 2))) [(q, z)] 1 c rfl (by decide) w.heap.size HA.out.ge HA.out.row
        (fun W hb => by
          have h1 := (HR.out.below ((HA.out.dr d).bel.trans hb)).cut i 1
          rw [hcut] at h1
          exact h1) (by have h1 := (HW.out.drop i).take 1; rw [hcut] at h1; exact h1))
      have AL := Lib.hid (fun (W : World) (hb : Below w.heap.size w W) => all_any W (some aL) (ls.take (i + 1)) (i + 1) cap (by rw [List.length_take, HN.out]; omega) (by omega) ((HR.out.below hb).take _) (HW.out.take _))
      have HT := Lib.hid (allB_take hqz)
      rw [allB_one] at PP
      obtain ⟨L, hL⟩ : ∃ L, allB (ls.take (i + 1)) = L := ⟨_, rfl⟩
      rw [← HT.out, hL] at PP
      rw [hL] at AL
      have hLl : L.length ≤ 6400 := by rw [← hL]; have := allB_len (ls.take (i + 1)); rw [List.length_take] at this; omega
      have HLL := Lib.hid hLl
      have HL := Lib.hid hL
      obtain ⟨M, hM⟩ : ∃ M, L.length = M := ⟨_, rfl⟩
      have HM := Lib.hid hM
      have x0 : IntKind.i64.wrap ((i : Int) + 1) = (i : Int) + 1 := IntWalk.i64_in _ (by omega)
      have x1 : (0 : Int) ≤ (i : Int) := by omega
      have x2 : (i : Int) ≤ (i : Int) + 1 := by omega
      have x3 : (i : Int) + 1 ≤ (cap : Int) := by omega
      have x4 : ¬ cap = i := by omega
      have x5 : (0 : Int) ≤ (i : Int) + 1 := by omega
      clear hqz hcut hL hLl hM HT
      go_wp2_with fail
      go_region_held3 (fun _ => True) (trivial) (first
        | (go_at_call 12; refine (PP.out _ _).mono ?_; rintro e w4 ⟨rfl, v4, hw4, hc4, hn4⟩; have A4 := Lib.hid ((HA.out.dr _).chg hw4 hc4 hn4); clear hw4 hc4 hn4)
        | (go_at_call 13; refine (len_r A4.out.wr (by have := HLL.out; omega) M (by rw [HM.out])).mono ?_; rintro e w5 ⟨rfl, d5, rfl⟩)
        | (go_at_call 14; refine (AL.out _ (A4.out.dr _).bel).mono ?_; rintro e w6 ⟨A6, c6, rfl, ho6, hb6⟩; rw [HM.out]; have A6' := Lib.hid ((A4.out.dr _).on hb6); clear ho6 hb6))
      all_goals (clear x0 x1 x2 x3 x4 x5; go_wp2_with fail; exact ⟨⟨i + 1, v4, by omega, by simp, Lib.hid (by rw [HL.out]; exact A6'.out)⟩, by simp [intOf]; omega⟩)
    · have hie : i = N := by omega
      subst hie
      have e : ls.take i = ls := List.take_of_length_le (by rw [HN.out]; exact Nat.le_refl _)
      rw [e] at HA
      have AL := Lib.hid (fun (W : World) (hb : Below w.heap.size w W) => all_any W A ls i cap HN.out (by omega) (HR.out.below hb) HW.out)
      have hLl : (allB ls).length ≤ 6400 := by have := allB_len ls; rw [HN.out] at this; omega
      obtain ⟨L, hL⟩ : ∃ L, allB ls = L := ⟨_, rfl⟩
      rw [hL] at HA AL hLl
      have HLL := Lib.hid hLl
      obtain ⟨X, hX⟩ : ∃ X, pack L = X := ⟨_, rfl⟩
      have HX := Lib.hid hX
      clear hlt hi e hL hLl hX
      go_wp2_with fail
      refine (bytes_r HA.out.wr (by have := HLL.out; omega) X X.length HX.out rfl).mono ?_
      rintro e w2 ⟨A2, c2, rfl, hr2, _, hb2⟩
      have A2' := Lib.hid (HA.out.on hb2)
      have R2 := Lib.hid hr2
      clear HA hr2 hb2
      go_wp2_with fail
      refine (AL.out _ A2'.out.bel).mono ?_
      rintro e w3 ⟨A3, c3, rfl, ho3, hb3⟩
      have A3' := Lib.hid (A2'.out.on hb3)
      have R3 : Hid (Rb w3 A3 L) := Lib.hid (Rv.of_own ho3)
      have R23 := Lib.hid (R2.out.below hb3)
      clear A2' R2 ho3 hb3 AL
      go_wp2_with fail
      refine (refBytes_any _ _ L _ _ rfl (by have := HLL.out; omega) R3.out).mono ?_
      intro e w4 hg4
      obtain ⟨A4, c4, rfl, hr4, _, hb4⟩ := hg4.rd HX.out rfl A3'.out.wr
      have A4' := Lib.hid (A3'.out.on hb4)
      have R4 := Lib.hid hr4
      have R24 := Lib.hid (R23.out.below hb4)
      clear A3' R23 R3 hr4 hb4 hg4
      go_wp2_with fail
      refine (same_n _ _ _ X X _ _ rfl rfl _ _ R24.out R4.out rfl).mono ?_
      rintro e w5 ⟨rfl, rfl⟩
      clear R24 R4
      go_wp2_with fail
      refine (known_any _).mono ?_
      rintro e w8 ⟨rfl, hb8⟩
      have HB8 := Lib.hid (below_on A4'.out.bel (Nat.le_refl _) hb8)
      clear hb8 A4'
      go_wp2
      go_ret
      exact ⟨rfl, HB8.out⟩

theorem walk (A : Option Addr) (ls : List (Nat × Int)) (cap : Nat) (w : World) (hR : RdP w A ls) (hW : WfP ls) (hc : ls.length ≤ cap) :
    Calls Try.prog 3 #[.slice A ls.length cap] w fun e w' => e = .returned (.bool true) ∧ Below w.heap.size w w' := by
  by_cases h : 100 < ls.length
  · exact walk_big A _ cap w h
  · exact walk_small A ls _ cap w rfl (by omega) hR hW hc

set_option maxRecDepth 100000 in
theorem lifted (os : Os) (started : os.Started) (H : Type) (enc : TypeId × Value → H) :
    ReturnsInHanded {} Try.checked os 3 .any (Rows.bitoutPutsSpec.pre6 enc Try.prog Try.f3 Rows.bitoutPutsRow.domain false) (Rows.bitoutPutsSpec.post enc Try.prog Try.f3 false true false false) := by
  refine returnsInHanded_of_change_sized (C := Try.checked) ownB started (by kernel_rfl) Try.func3
    (ChangeSpec.witness6 (enc := enc) (C := Try.checked) false ⟨#[], #[.slice none 0 0], []⟩ 8 (by kernel_rfl) (by kernel_rfl) (by kernel_rfl) (by kernel_rfl)) ?_
  intro W base args ds gs before hval0 hW _ hsz0 _
  have hsz : (DataW.weightsEach Try.prog (Try.f3.params.toList ++ Rows.bitoutPutsSpec.plain.varTypes Try.prog) (ds ++ gs)).all (· ≤ reachBytes) = true := hsz0
  clear hsz0
  have hval : ∀ (j : Nat) t v, Try.f3.params[j]? = some t → args[j]? = some v → Value.okWide Try.prog W .any base t v := hval0
  have hW' := hW
  obtain ⟨p, q, hA0, hV, rfl, hfz, hnd⟩ := hW
  have hA : DataW.TrodAll enc Try.prog W 0 (fun _ => true) true Try.f3.params.toList args.toList ds p := hA0
  rw [Try.params3] at hA hval hsz
  obtain ⟨v0, vs0, d0, ds0, p0, q0, hargs, rfl, rfl, h0, r0⟩ := trodAll_cons hA
  obtain ⟨rfl, rfl, rfl⟩ := trodAll_nil r0
  obtain rfl : args = #[v0] := by cases args; simp_all
  obtain ⟨rfl, rfl⟩ := trodVars_none hV
  obtain ⟨a0, len0, cap0, rfl⟩ := okWide_slice Try.underlying22 (hval 0 22 v0 rfl rfl)
  have k0 := h0
  have lt0 : ∀ x ∈ p0, x.block < W.heap.size := by obtain ⟨m, hm⟩ := k0; exact DataW.trod_lt m _ _ _ hm
  obtain ⟨l0, rfl, hc0, rc0, wf0⟩ := open_puts h0
  clear hA0 hval0
  refine (walk a0 l0 cap0 W rc0 wf0 hc0).mono fun e W' ⟨he, bel⟩ => ?_
  subst he
  exact ⟨_, rfl, _, _, _, [], _, [], hW', trodAll_mk1 (shut_bool Try.underlying4 _), (trodAll_cons_mk (Below.trod laidOut (by kernel_rfl) (of_decide_eq_true (by kernel_rfl)) k0 bel lt0) trodAll_mk0), rfl, bel.frame _, fun h => by cases h⟩

theorem proved : Rows.BitoutPutsSaid :=
  OpenClaim.holds_of_wide 3 Try.f3 rfl rfl rfl rfl rfl rfl rfl ⟨rfl, rfl, rfl, rfl, rfl⟩ rfl rfl rfl rfl rfl (by kernel_rfl) Try.func3 (by kernel_rfl)
    (of_decide_eq_true (by kernel_rfl)) (by unfold Func.isWrapper; rw [if_neg (by decide +kernel)]; exact ⟨rfl, rfl⟩)
    (fun os started H enc _ => lifted os started H enc)

#print axioms proved

end Go.Proofs.Ytaedfbceaolbcaa.bitoutPuts
