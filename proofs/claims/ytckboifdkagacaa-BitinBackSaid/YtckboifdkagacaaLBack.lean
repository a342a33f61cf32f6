/-
  Proved: the law BitinBack returns true for all sequences of calls: values written by Put are read in the order written from Bytes and in the reverse order from Close, and no unread bits remain. No condition.
-/
import Derived.Test.YtckboifdkagacaaStm
namespace Go.Proofs.Ytckboifdkagacaa.bitinBack
open Go.ChangeShapes Go.WideShapes Go.ChangeAt Go.RowKit

set_option maxHeartbeats 1000000 in
theorem walk_big (A : Option Addr) (N cap : Nat) (w : World) (hN : 60 < N) :
    Calls Try.prog 5 #[.slice A N cap] w fun e w' => e = .returned (.bool true) ∧ Below w.heap.size w w' := by
  have hd : decide ((60 : Int) < (N : Int)) = true := decide_eq_true (by omega)
  go_enter Try.func5, Try.ntmps5
  go_wp2_with fail
  refine (known_any _).mono ?_
  rintro e w1 ⟨rfl, hb1⟩
  have HB1 := Lib.hid hb1
  clear hb1
  go_wp2
  go_ret
  exact ⟨rfl, HB1.out⟩


set_option maxRecDepth 100000 in
set_option maxHeartbeats 8000000 in
theorem walk_small (A : Option Addr) (ls : List (Nat × Int)) (N cap : Nat) (w : World) (hN : ls.length = N) (hN2 : N ≤ 60) (hR : RdP w A ls) (hW : WfP ls) :
    Calls Try.prog 5 #[.slice A N cap] w fun e w' => e = .returned (.bool true) ∧ Below w.heap.size w w' := by
  have A0 := Lib.hid (At.new w w (Below.refl _ _))
  have HN := Lib.hid hN
  have HR := Lib.hid hR
  have HW := Lib.hid hW
  have hd : decide ((60 : Int) < (N : Int)) = false := decide_eq_false (by omega)
  clear hN hR hW
  go_enter Try.func5, Try.ntmps5
  go_wp2_with fail
  go_loopw [4] (fun b wr => ∃ (i : Nat) (v : Value), i ≤ N ∧ b = .int .i64 (i : Int) ∧ Hid (At w wr w.heap.size v (allB (ls.take i))) ∧ Hid (∀ (j q : Nat) (z : Int), j < i → ls[j]? = some (q, z) → may q z = true)) (fun b _ => N - (intOf b).toNat)
  case atStart => exact ⟨0, _, by omega, rfl, A0, Lib.hid (fun j q z h => by omega)⟩
  case round =>
    clear A0
    obtain ⟨i, v, hi, rfl, HA, HV⟩ := hrel
    by_cases hlt : i < N
    · obtain ⟨⟨q, z⟩, hqz⟩ : ∃ y, ls[i]? = some y := ⟨_, List.getElem?_eq_getElem (by rw [HN.out]; exact hlt)⟩
      have hRd : ∀ w', Below w.heap.size w w' → RdP w' A ls := fun w' hb => HR.out.below hb
      obtain ⟨aL, haL, _, _⟩ := HR.out i q z hqz
      subst haL
      have cl0 : ∀ w', Below w.heap.size w w' → w'.cell? (aL.add (i * 2)) = some (.int .u64 (q : Int)) := fun w' hb => by
        obtain ⟨a', e, h0, _⟩ := hRd w' hb i q z hqz
        cases e
        exact h0
      have cl1 : ∀ w', Below w.heap.size w w' → w'.cell? { block := (aL.add (i * 2)).block, off := (aL.add (i * 2)).off + 1 } = some (.int .i64 z) := fun w' hb => by
        obtain ⟨a', e, _, h1⟩ := hRd w' hb i q z hqz
        cases e
        rw [← addr_add_add] at h1
        exact h1
      have HC0 := Lib.hid cl0
      have HC1 := Lib.hid cl1
      clear hRd cl0 cl1
      have HQZ := Lib.hid hqz
      have e0 := HC0.out wr HA.out.bel
      have e2 := HC1.out wr HA.out.bel
      have HL : Hid ((allB (ls.take i)).length ≤ 1099511627776) := Lib.hid (by have h1 := allB_len (ls.take i); rw [List.length_take] at h1; omega)
      clear hqz HC0 HC1
      by_cases hmy : may q z = true
      · have PT := Lib.hid (fun d => putc_yes (HA.out.wr.drewN d) HL.out q z hmy)
        have HMY := Lib.hid hmy
        clear hmy
        go_wp2_with fail
        go_region_law (first
          | (go_simp; go_at_call 28; refine (PT.out _).mono ?_; rintro e w4 ⟨rfl, v4, hw4, hc4, hn4⟩; have W4 := Lib.hid hw4; have C4 := Lib.hid hc4; have N4 := Lib.hid hn4; clear hw4 hc4 hn4))
        all_goals (go_wp2_with fail; exact ⟨⟨i + 1, v4, by omega, by simp, Lib.hid (by rw [allB_take HQZ.out, HMY.out, if_pos rfl]; exact HA.out.chg W4.out C4.out.of_drewN N4.out), Lib.hid (fun j q' z' hj hjq => by
            by_cases hji : j = i
            · subst hji
              rw [HQZ.out] at hjq
              cases hjq
              exact HMY.out
            · exact HV.out j q' z' (by omega) hjq)⟩, by simp [intOf]; omega⟩)
      · have hmy' : may q z = false := by simpa using hmy
        have PT := Lib.hid (fun W => putc_no (w := W) (x := w.heap.size) q z hmy')
        clear hmy hmy'
        go_wp2_with fail
        go_region_law (first
          | (go_simp; go_at_call 28; refine (PT.out _).mono ?_; rintro e w4 ⟨rfl, rfl⟩))
        all_goals
          go_wp2_with fail
          refine (known_any _).mono ?_
          rintro q wk ⟨rfl, hb⟩
          have HB := Lib.hid (below_on (HA.out.dr _).bel (Nat.le_refl _) hb)
          clear hb
          go_wp2
          go_ret
          exact ⟨rfl, HB.out⟩
    · have hie : N = i := by omega
      subst hie
      have et : ls.take N = ls := List.take_of_length_le (by rw [HN.out]; exact Nat.le_refl _)
      rw [et] at HA
      clear hlt hi et
      obtain ⟨L, hL⟩ : ∃ L, allB ls = L := ⟨_, rfl⟩
      rw [hL] at HA
      have hLs : L.length ≤ 3840 := by have := allB_len ls; rw [hL, HN.out] at this; omega
      obtain ⟨zp, hz1, hz2, hz8⟩ := unp_pack L
      obtain ⟨zc, hc1, hc2, hc8⟩ := unp_pack (L ++ [true])
      have hend := endOf_closed L
      have hup : unp (closed L) = L ++ ([true] ++ List.replicate zc false) := by rw [closed, hc1, List.append_assoc]
      have hcl : (closed L).length ≤ 1000 := by
        rw [List.length_append] at hc2
        simp at hc2
        show (pack (L ++ [true])).length ≤ 1000
        omega
      obtain ⟨P, hP⟩ : ∃ P, pack L = P := ⟨_, rfl⟩
      obtain ⟨C, hC⟩ : ∃ C, closed L = C := ⟨_, rfl⟩
      rw [hP] at hz1 hz2
      rw [hC] at hend hup hcl
      obtain ⟨NP, hNP⟩ : ∃ n, P.length = n := ⟨_, rfl⟩
      obtain ⟨NC, hNC⟩ : ∃ n, C.length = n := ⟨_, rfl⟩
      obtain ⟨ML, hML⟩ : ∃ n, L.length = n := ⟨_, rfl⟩
      rw [hNP, hML] at hz2
      rw [hNC] at hcl
      rw [hML] at hLs hend
      have HLs := Lib.hid hLs
      have HP := Lib.hid hP
      have HC := Lib.hid hC
      have HNP := Lib.hid hNP
      have HNC := Lib.hid hNC
      have HML := Lib.hid hML
      have HZ1 := Lib.hid hz1
      have HZ2 := Lib.hid (And.intro hz2 hz8)
      have HUP := Lib.hid hup
      have HEND := Lib.hid hend
      have HLL := Lib.hid hL
      have hNP2 : NP ≤ 1000 := by omega
      obtain ⟨M, hM⟩ : ∃ M, 8 * NP = M := ⟨_, rfl⟩
      have HM := Lib.hid hM
      have hMs : M ≤ 8000 := by omega
      clear hL hP hC hNP hNC hML hz1 hz2 hup hend hc1 hc2 hz8 hc8 hM
      go_wp2_with fail
      refine (bytes_any HA.out.wr (by rw [HML.out]; omega)).mono ?_
      rintro q w1 ⟨A1, c1, rfl, ho1, hb1⟩
      rw [HP.out] at ho1 ⊢
      rw [HNP.out] at ho1 ⊢
      have R1 : Hid (Rd w1 A1 P) := Lib.hid (Rv.of_own ho1)
      have T1 := Lib.hid (HA.out.on hb1)
      clear ho1 hb1 HA
      go_wp2_with fail
      refine (newf_r _ _ P NP c1 HNP.out (by omega) R1.out M HM.out).mono ?_
      rintro q w2 ⟨x, rfl, Af, cf, h2⟩
      have F2 := Lib.hid (Rr.from T1.out.bel h2)
      have T2 := Lib.hid (T1.out.on h2.bel)
      have AX := Lib.hid (T1.out.apart h2.ge)
      clear h2 T1 R1
      go_wp2_with fail
      refine (close_any T2.out.wr (by rw [HML.out]; omega)).mono ?_
      rintro q w3 ⟨A3, c3, rfl, ho3, hb3⟩
      rw [HC.out] at ho3 ⊢
      rw [HNC.out] at ho3 ⊢
      have R3 : Hid (Rd w3 A3 C) := Lib.hid (Rv.of_own ho3)
      have T3 := Lib.hid (T2.out.on hb3)
      have F3 := Lib.hid (F2.out.on hb3)
      clear ho3 hb3 T2 F2
      go_wp2_with fail
      refine (newb_s _ _ C NC c3 HNC.out (by omega) R3.out ML HEND.out).mono ?_
      rintro q w4 ⟨y, rfl, Ak, ck, h4⟩
      have K4 := Lib.hid (Rr.from T3.out.bel h4)
      have T4 := Lib.hid (T3.out.on h4.bel)
      have F4 := Lib.hid (F3.out.on h4.bel)
      have AY := Lib.hid (T3.out.apart h4.ge)
      have SP := Lib.hid (Sep.new F3.out.sp h4)
      clear h4 T3 F3 R3
      have LC : Hid (ML ≤ 8 * C.length) := Lib.hid (by have := congrArg List.length HUP.out; rw [unp_len, List.length_append, HML.out] at this; omega)
      go_wp2_with fail
      go_loopw [8] (fun b wr => ∃ i : Nat, i ≤ N ∧ b = .int .i64 (i : Int) ∧ Hid (Rr w wr x 68 Af cf P (allB (ls.take i)).length M) ∧ Hid (Rr w wr y 69 Ak ck C 0 ML) ∧ Hid (At w wr w.heap.size v L)) (fun b _ => N - (intOf b).toNat)
      case atStart => exact ⟨0, by omega, rfl, F4, K4, T4⟩
      case round =>
        clear F4 K4 T4
        obtain ⟨i, hi, rfl, HF, HK, HT⟩ := hrel
        by_cases hlt : i < N
        · obtain ⟨⟨q, z⟩, hqz⟩ : ∃ y, ls[i]? = some y := ⟨_, List.getElem?_eq_getElem (by rw [HN.out]; exact hlt)⟩
          have hRd : ∀ w', Below w.heap.size w w' → RdP w' A ls := fun w' hb => HR.out.below hb
          obtain ⟨aL, haL, _, _⟩ := HR.out i q z hqz
          subst haL
          have cl0 : ∀ w', Below w.heap.size w w' → w'.cell? (aL.add (i * 2)) = some (.int .u64 (q : Int)) := fun w' hb => by
            obtain ⟨a', e, h0, _⟩ := hRd w' hb i q z hqz
            cases e
            exact h0
          have cl1 : ∀ w', Below w.heap.size w w' → w'.cell? { block := (aL.add (i * 2)).block, off := (aL.add (i * 2)).off + 1 } = some (.int .i64 z) := fun w' hb => by
            obtain ⟨a', e, _, h1⟩ := hRd w' hb i q z hqz
            cases e
            rw [← addr_add_add] at h1
            exact h1
          have HC0 := Lib.hid cl0
          have HC1 := Lib.hid cl1
          clear hRd cl0 cl1
          have hmy := HV.out i q z hlt hqz
          obtain ⟨hz0, hz64, hq⟩ := may_parts hmy
          have hcut : cut P (allB (ls.take i)).length z.toNat = q := cut_at (by rw [HZ1.out, ← HLL.out, allB_parts hqz hmy, List.append_assoc, List.append_assoc]) hq
          have hnx := allB_next hqz hmy
          have hle : (allB (ls.take i)).length + z.toNat ≤ M := by
            have h1 := congrArg List.length (allB_parts hqz hmy)
            rw [HLL.out, HML.out, List.length_append, List.length_append, bitsOf_len] at h1
            have := HZ2.out
            have := HM.out
            omega
          have TK := Lib.hid (ftake_r HF.out.sp (by rw [HNP.out, HM.out]; exact Nat.le_refl _) (by rw [HNP.out]; omega) z.toNat hz64 hle z hz0.symm q _ hcut hnx.symm)
          have e2 := HC1.out wr HF.out.bel
          clear hqz hmy hz0 hz64 hq hcut hnx hle
          go_wp2_with fail
          refine TK.out.mono ?_
          rintro q' w5 ⟨rfl, hs, hg⟩
          have F5 := Lib.hid (HF.out.step hs hg)
          have K5 := Lib.hid (HK.out.other SP.out.symm HF.out.ge hg)
          have T5 := Lib.hid (HT.out.other AX.out.1 AX.out.2 HF.out.ge hg)
          have e0 := HC0.out w5 F5.out.bel
          clear hs hg TK
          go_wp2_with fail
          refine (took_yes _ (q : Int) 0).mono ?_
          rintro q' w6 ⟨rfl, rfl⟩
          clear e0
          go_wp2_with fail
          exact ⟨⟨i + 1, by omega, by simp, F5, K5, T5⟩, by simp [intOf]; omega⟩
        · have hie : N = i := by omega
          subst hie
          have et : ls.take N = ls := List.take_of_length_le (by rw [HN.out]; exact Nat.le_refl _)
          rw [et, HLL.out, HML.out] at HF
          clear hlt hi et
          go_wp2_with fail
          go_loopw [11] (fun b wr => ∃ j : Nat, j ≤ N ∧ b = .int .i64 ((j : Int) - 1) ∧ Hid (Rr w wr x 68 Af cf P ML M) ∧ Hid (Rr w wr y 69 Ak ck C 0 (allB (ls.take j)).length) ∧ Hid (At w wr w.heap.size v L)) (fun b _ => (intOf b + 1).toNat)
          case atStart =>
            have et : ls.take N = ls := List.take_of_length_le (by rw [HN.out]; exact Nat.le_refl _)
            exact ⟨N, by omega, rfl, HF, Lib.hid (by rw [et, HLL.out, HML.out]; exact HK.out), HT⟩
          case round =>
            clear HF HK HT
            obtain ⟨j, hj, rfl, HF, HK, HT⟩ := hrel
            by_cases h0 : j = 0
            · subst h0
              have AG := Lib.hid (fun (W : World) (h : Rr w W x 68 Af cf P ML M) => align_good h.sp (by rw [HNP.out]; omega) NP (by have := HZ2.out; omega) (by rw [HNP.out]; exact Nat.le_refl _) (by rw [← HML.out]; exact cut_pad HZ1.out (by have := HZ2.out; rw [HML.out]; omega)))
              go_wp2_with fail
              refine (AG.out _ HF.out).mono ?_
              rintro q w5 ⟨rfl, hs, hg⟩
              have F5 := Lib.hid (HF.out.step hs hg)
              have K5 := Lib.hid (HK.out.other SP.out.symm HF.out.ge hg)
              have T5 := Lib.hid (HT.out.other AX.out.1 AX.out.2 HF.out.ge hg)
              clear hs hg HF HK HT AG
              go_wp2_with fail
              refine (bytes_any T5.out.wr (by rw [HML.out]; omega)).mono ?_
              rintro q w6 ⟨A6, c6, rfl, _, hb6⟩
              rw [HP.out, HNP.out]
              have F6 := Lib.hid (F5.out.on hb6)
              have K6 := Lib.hid (K5.out.on hb6)
              clear hb6 F5 K5 T5
              go_wp2_with fail
              refine (fleft_any F6.out.sp 0 (by have := HM.out; omega) (by omega)).mono ?_
              rintro q w7 ⟨rfl, d7, hw⟩
              have K7 := Lib.hid (K6.out.eqd hw)
              clear hw F6 K6
              go_wp2_with fail
              refine (bleft_r K7.out.sp (by simp [allB]) 0 (by simp [allB])).mono ?_
              rintro q w8 ⟨rfl, d8, hw⟩
              have K8 := Lib.hid (K7.out.eqd hw)
              clear hw K7
              go_wp2_with fail
              refine (known_any _).mono ?_
              rintro q wk ⟨rfl, hb⟩
              have HB := Lib.hid (below_on K8.out.bel (Nat.le_refl _) hb)
              clear hb
              go_wp2
              go_ret
              exact ⟨rfl, HB.out⟩
            · obtain ⟨i, hij⟩ : ∃ i, j = i + 1 := ⟨j - 1, by omega⟩
              have hji : (j : Int) - 1 = (i : Int) := by omega
              have hlt : i < N := by omega
              obtain ⟨⟨q, z⟩, hqz⟩ : ∃ y, ls[i]? = some y := ⟨_, List.getElem?_eq_getElem (by rw [HN.out]; exact hlt)⟩
              have hRd : ∀ w', Below w.heap.size w w' → RdP w' A ls := fun w' hb => HR.out.below hb
              obtain ⟨aL, haL, _, _⟩ := HR.out i q z hqz
              subst haL
              have cl0 : ∀ w', Below w.heap.size w w' → w'.cell? (aL.add (i * 2)) = some (.int .u64 (q : Int)) := fun w' hb => by
                obtain ⟨a', e, h0, _⟩ := hRd w' hb i q z hqz
                cases e
                exact h0
              have cl1 : ∀ w', Below w.heap.size w w' → w'.cell? { block := (aL.add (i * 2)).block, off := (aL.add (i * 2)).off + 1 } = some (.int .i64 z) := fun w' hb => by
                obtain ⟨a', e, _, h1⟩ := hRd w' hb i q z hqz
                cases e
                rw [← addr_add_add] at h1
                exact h1
              have HC0 := Lib.hid cl0
              have HC1 := Lib.hid cl1
              clear hRd cl0 cl1
              have hmy := HV.out i q z hlt hqz
              obtain ⟨hz0, hz64, hq⟩ := may_parts hmy
              have hcut : cut C (allB (ls.take i)).length z.toNat = q := cut_at (by rw [HUP.out, ← HLL.out, allB_parts hqz hmy, List.append_assoc, List.append_assoc]) hq
              have hnx := allB_next hqz hmy
              rw [← hij] at hnx
              have hle : (allB (ls.take j)).length ≤ 8 * C.length := by
                have h1 := congrArg List.length (allB_parts hqz hmy)
                rw [HLL.out, HML.out, List.length_append, List.length_append, bitsOf_len] at h1
                have := LC.out
                omega
              have hpk : pk C (allB (ls.take j)).length z.toNat = q := by
                rw [pk, Nat.min_eq_left (by omega), show (allB (ls.take j)).length - z.toNat = (allB (ls.take i)).length by omega, hcut, Nat.sub_self, Nat.pow_zero, Nat.mul_one]
              have PK := Lib.hid (fun d => peek_r (HK.out.sp.drewN d) hle (by rw [HNC.out]; omega) z z.toNat (by omega) q hpk)
              have TK := Lib.hid (fun (W : World) (h : Rr w W y 69 Ak ck C 0 (allB (ls.take j)).length) => btake_r h.sp hle (by rw [HNC.out]; omega) z.toNat hz64 (by omega) z hz0.symm q (allB (ls.take i)).length (by rw [show (allB (ls.take j)).length - z.toNat = (allB (ls.take i)).length by omega]; exact hcut) (by omega))
              have e0 := HC0.out wr HF.out.bel
              have e2 := HC1.out wr HF.out.bel
              clear hqz hmy hz0 hz64 hq hcut hnx hle hpk
              rw [hji]
              go_wp2_with fail
              go_region_law (first
                | (go_simp; go_at_call 22; refine (PK.out _).mono ?_; rintro q' w6 ⟨rfl, hb6⟩; have F6 := Lib.hid (HF.out.on (below_of_dr hb6)); have K6 := Lib.hid (HK.out.on (below_of_dr hb6)); have T6 := Lib.hid (HT.out.on (below_of_dr hb6)); have e06 := HC0.out w6 F6.out.bel; have e26 := HC1.out w6 F6.out.bel; clear hb6))
              all_goals
                go_wp2_with fail
                refine (TK.out _ K6.out).mono ?_
                rintro q' w7 ⟨rfl, hs, hg⟩
                have K7 := Lib.hid (K6.out.step hs hg)
                have F7 := Lib.hid (F6.out.other SP.out K6.out.ge hg)
                have T7 := Lib.hid (T6.out.other AY.out.1 AY.out.2 K6.out.ge hg)
                have e07 := HC0.out w7 F7.out.bel
                clear hs hg
                go_wp2_with fail
                refine (took_yes _ (q : Int) 0).mono ?_
                rintro q' w8 ⟨rfl, rfl⟩
                clear e07
                go_wp2_with fail
                exact ⟨⟨i, by omega, rfl, F7, K7, T7⟩, by simp [intOf] <;> omega⟩

theorem walk (A : Option Addr) (ls : List (Nat × Int)) (cap : Nat) (w : World) (hR : RdP w A ls) (hW : WfP ls) (_hc : ls.length ≤ cap) :
    Calls Try.prog 5 #[.slice A ls.length cap] w fun e w' => e = .returned (.bool true) ∧ Below w.heap.size w w' := by
  by_cases h : 60 < ls.length
  · exact walk_big A _ cap w h
  · exact walk_small A ls _ cap w rfl (by omega) hR hW

set_option maxRecDepth 100000 in
theorem lifted (os : Os) (started : os.Started) (H : Type) (enc : TypeId × Value → H) :
    ReturnsInHanded {} Try.checked os 5 .any (Rows.bitinBackSpec.pre6 enc Try.prog Try.f5 Rows.bitinBackRow.domain false) (Rows.bitinBackSpec.post enc Try.prog Try.f5 false true false false) := by
  refine returnsInHanded_of_change_sized (C := Try.checked) ownB started (by kernel_rfl) Try.func5
    (ChangeSpec.witness6 (enc := enc) (C := Try.checked) false ⟨#[], #[.slice none 0 0], []⟩ 8 (by kernel_rfl) (by kernel_rfl) (by kernel_rfl) (by kernel_rfl)) ?_
  intro W base args ds gs before hval0 hW _ hsz0 _
  have hsz : (DataW.weightsEach Try.prog (Try.f5.params.toList ++ Rows.bitinBackSpec.plain.varTypes Try.prog) (ds ++ gs)).all (· ≤ reachBytes) = true := hsz0
  clear hsz0
  have hval : ∀ (j : Nat) t v, Try.f5.params[j]? = some t → args[j]? = some v → Value.okWide Try.prog W .any base t v := hval0
  have hW' := hW
  obtain ⟨p, q, hA0, hV, rfl, hfz, hnd⟩ := hW
  have hA : DataW.TrodAll enc Try.prog W 0 (fun _ => true) true Try.f5.params.toList args.toList ds p := hA0
  rw [Try.params5] at hA hval hsz
  obtain ⟨v0, vs0, d0, ds0, p0, q0, hargs, rfl, rfl, h0, r0⟩ := trodAll_cons hA
  obtain ⟨rfl, rfl, rfl⟩ := trodAll_nil r0
  obtain rfl : args = #[v0] := by cases args; simp_all
  obtain ⟨rfl, rfl⟩ := trodVars_none hV
  obtain ⟨a0, len0, cap0, rfl⟩ := okWide_slice Try.underlying51 (hval 0 51 v0 rfl rfl)
  have k0 := h0
  have lt0 : ∀ x ∈ p0, x.block < W.heap.size := by obtain ⟨m, hm⟩ := k0; exact DataW.trod_lt m _ _ _ hm
  obtain ⟨l0, rfl, hc0, rc0, wf0⟩ := open_puts h0
  clear hA0 hval0
  refine (walk a0 l0 cap0 W rc0 wf0 hc0).mono fun e W' ⟨he, bel⟩ => ?_
  subst he
  exact ⟨_, rfl, _, _, _, [], _, [], hW', trodAll_mk1 (shut_bool Try.underlying4 _), (trodAll_cons_mk (Below.trod laidOut (by kernel_rfl) (of_decide_eq_true (by kernel_rfl)) k0 bel lt0) trodAll_mk0), rfl, bel.frame _, fun h => by cases h⟩

theorem proved : Rows.BitinBackSaid :=
  OpenClaim.holds_of_wide 5 Try.f5 rfl rfl rfl rfl rfl rfl rfl ⟨rfl, rfl, rfl, rfl, rfl⟩ rfl rfl rfl rfl rfl (by kernel_rfl) Try.func5 (by kernel_rfl)
    (of_decide_eq_true (by kernel_rfl)) (by unfold Func.isWrapper; rw [if_neg (by decide +kernel)]; exact ⟨rfl, rfl⟩)
    (fun os started H enc _ => lifted os started H enc)

#print axioms proved

end Go.Proofs.Ytckboifdkagacaa.bitinBack
