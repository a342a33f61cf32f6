/-
  The walks of the law NumSubs, where Sub gives a cursor and nothing follows: it returns true. Conditions: those of each theorem, which together cover all inputs of this way.
-/
import Derived.Test.YtpelndjfamdjlaaLSubsA
import Derived.Test.YtpelndjfamdjlaaFrm
import Derived.Deep.RegionWith
namespace Go.Proofs.Ytpelndjfamdjlaa.numSubs
open Go.ChangeShapes Go.WideShapes Go.ChangeAt Go.RowKit
set_option linter.unusedVariables false

set_option maxRecDepth 100000 in
set_option maxHeartbeats 4000000 in
theorem walk_a3x (A : Option Addr) (l : List UInt8) (skip : Int) (m T : Nat) (AL : Option Addr) (ls : List (Int × Int)) (capL : Nat) (w : World) (hR : Rd w A l) (hs : l.length ≤ 140737488351232) (hRC : RdC w AL ls) (hP2 : ls.length ≤ 200) (hwf : ∀ (j : Nat) (q z : Int), ls[j]? = some (q, z) → z ≤ 9223372036854775807) (hz1 : decide (0 < skip) = false) (hT : 0 + m = T) (hTl : l.length = T) :
    Calls Try.prog 7 #[.slice A l.length T, .int .i64 skip, .int .i64 (m : Int), .slice AL ls.length capL] w fun e w' => e = .returned (.bool true) ∧ Below w.heap.size w w' := by
  have OW := Lib.hid (own_any w A l T (by omega) hR)
  have HR := Lib.hid hR
  have HRC := Lib.hid hRC
  have HWF := Lib.hid hwf
  clear hR hRC hwf
  have hN := hTl
  obtain ⟨P, hP⟩ : ∃ P, ls.length = P := ⟨_, rfl⟩
  rw [hP] at hP2 ⊢
  have HP := Lib.hid hP
  rw [hN] at hs OW ⊢
  have HN := Lib.hid hN
  have HS := Lib.hid hs
  have HT := Lib.hid hT
  clear hTl
  clear hT
  clear hN hP
  have hPd : decide ((200 : Int) < (P : Int)) = false := decide_eq_false (by omega)
  go_enter Try.func7, Try.ntmps7
  go_wp2_with fail
  refine OW.out.mono ?_
  rintro e w1 ⟨v1, rfl, A1, c1, rfl, ho1, hb1⟩
  have HB1 := Lib.hid hb1
  have NW := Lib.hid (new_any w1 A1 l c1 (by have := HN.out; have := HS.out; omega) (Rd.of_own ho1))
  rw [HN.out] at NW ⊢
  clear ho1 hb1
  go_wp2_with fail
  refine NW.out.mono ?_
  rintro e w2 ⟨c, A2, cap2, rfl, hcw, hcur, hb2⟩
  have HB2 := Lib.hid (below_on HB1.out (Nat.le_refl _) hb2)
  have HCW := Lib.hid (Nat.le_trans HB1.out.size hcw)
  have HC2 := Lib.hid hcur
  clear hcw hcur hb2 HB1 NW OW
  have SB := Lib.hid (sub_any HC2.out (by have := HN.out; have := HS.out; omega) (m : Int))
  have HCUT : Hid (cutE (m : Int) (l.length - 0) = 0) := Lib.hid (cutE_ok (by omega) (by have := HN.out; have := HT.out; omega))
  obtain ⟨X, hX⟩ : ∃ X, (l.drop 0).take m = X := ⟨_, rfl⟩
  have HXL : Hid (X.length = m) := Lib.hid (by rw [← hX, List.length_take, List.length_drop]; have := HN.out; have := HT.out; omega)
  have HX := Lib.hid hX
  clear hX
  go_wp2_with fail
  refine SB.out.mono ?_
  rintro e w3 ⟨v3, rfl, hc3, hg3, _, hok⟩
  obtain ⟨d, Ad, capd, rfl, hd2, _, hcd⟩ := hok HCUT.out
  rw [HCUT.out] at hc3 ⊢
  rw [if_pos rfl, Int.toNat_natCast, HT.out] at hc3
  rw [Int.toNat_natCast, HX.out] at hcd
  have HCD : Hid (c < d) := Lib.hid (Nat.lt_of_lt_of_le HC2.out.blk.lt hd2)
  have HB3 := Lib.hid (HB2.out.grown hg3 HB2.out.size (fun j ej => by cases ej; exact HCW.out))
  have HC3 := Lib.hid hc3
  have HD3 := Lib.hid hcd
  clear hc3 hg3 hcd hok SB HC2 HB2 HCUT hd2
  have RB := Lib.hid (refBytes_ok (w := w3) (A := A) (cap := T) (l := l) (N := T) (k := 0) m HN.out (HR.out.below HB3.out) (by have := HT.out; omega) HS.out (by exact Nat.le_refl _))
  go_wp2_with fail
  refine RB.out.mono ?_
  rintro e w4 ⟨A4, c4, rfl, rfl, hr4⟩
  rw [HT.out]
  rw [HX.out] at hr4
  have HR4 := Lib.hid hr4
  clear hr4 RB
  go_wp2_with fail
  refine (at_any HC3.out.blk).mono ?_
  rintro e w4 ⟨rfl, rfl⟩
  go_wp2_with fail
  refine (at_any HD3.out.blk).mono ?_
  rintro e w4 ⟨rfl, rfl⟩
  have RSD := Lib.hid (rest_any HD3.out (by have := HXL.out; have := HT.out; have := HS.out; have := HN.out; omega))
  rw [List.drop_zero] at RSD
  go_wp2_with fail
  refine RSD.out.mono ?_
  rintro e w5 ⟨v5, rfl, A5, c5, rfl, ho5, hb5⟩
  rw [HXL.out] at ho5 ⊢
  have HR5 : Hid (Rd w5 A5 X) := Lib.hid (rd_own HXL.out ho5)
  have HC5 := Lib.hid (HC3.out.below hb5)
  have HD5 := Lib.hid (HD3.out.below hb5)
  have HB5 := Lib.hid (below_on HB3.out (Nat.le_refl _) hb5)
  have HR45 := Lib.hid (HR4.out.below hb5)
  clear ho5 hb5 RSD HC3 HD3 HB3 HR4
  go_wp2_with fail
  refine (same_n _ _ _ X X _ _ HXL.out HXL.out _ _ HR5.out HR45.out rfl).mono ?_
  rintro e w6 ⟨rfl, rfl⟩
  have NO := Lib.hid (new_d w5 A4 X m c4 HXL.out (by have := HXL.out; have := HT.out; have := HS.out; have := HN.out; omega) HR45.out)
  go_wp2_with fail
  refine NO.out.mono ?_
  rintro e w6 ⟨q6, Ao, capo, rfl, hcw6, _, hcur6, hb6⟩
  have HDO : Hid (d < q6) := Lib.hid (Nat.lt_of_lt_of_le HD5.out.blk.lt hcw6)
  have HC6 := Lib.hid (HC5.out.below hb6)
  have HD6 := Lib.hid (HD5.out.below hb6)
  have HO6 := Lib.hid hcur6
  have HB6 := Lib.hid (below_on HB5.out (Nat.le_refl _) hb6)
  clear hcw6 hcur6 hb6 NO HC5 HD5 HB5 HR45 HR5
  go_wp2_with fail
  go_loopw [17] (fun i wr => ∃ j off : Nat, j ≤ P ∧ i = .int .i64 (j : Int) ∧ Hid (Cur wr d Ad capd X off) ∧ Hid (Cur wr q6 Ao capo X off) ∧ Hid (Cur wr c A2 cap2 l T) ∧ Hid (Below w.heap.size w wr)) (fun i _ => P - (intOf i).toNat)
  case atStart => exact ⟨0, 0, by omega, rfl, HD6, HO6, HC6, HB6⟩
  case round =>
    obtain ⟨j, off, hj, rfl, hcd, hco, hcc, hbx⟩ := hrel
    by_cases hlt : j < P
    · obtain ⟨⟨q, z⟩, hqz⟩ : ∃ y, ls[j]? = some y := ⟨_, List.getElem?_eq_getElem (by rw [HP.out]; exact hlt)⟩
      obtain ⟨aL, haL, e0, e1⟩ := (HRC.out.below hbx.out) j q z hqz
      subst haL
      have e2 : wr.cell? { block := (aL.add (j * 2)).block, off := (aL.add (j * 2)).off + 1 } = some (.int .i64 z) := by rw [← addr_add_add] at e1; exact e1
      obtain ⟨R, hRE⟩ : ∃ R, askR X off q z = R := ⟨_, rfl⟩
      have HRE := Lib.hid hRE
      have HZ := Lib.hid (HWF.out j q z hqz)
      have HXS : Hid (X.length ≤ 281474976710000) := Lib.hid (by have := HXL.out; have := HT.out; have := HS.out; have := HN.out; omega)
      have AD := Lib.hid (ask_any hcd.out HXS.out q z HZ.out)
      rw [HRE.out] at AD
      have HQZ := Lib.hid hqz
      clear hRE hqz
      go_wp2_with fail
      refine AD.out.mono ?_
      rintro e w7 ⟨A7, c7, rfl, hrd7, hcd7, hg7⟩
      have hb7 := hbx.out.grown hg7 hbx.out.size (fun i ei => by cases ei; have := HCW.out; have := HCD.out; omega)
      obtain ⟨aL', haL', f0, f1⟩ := (HRC.out.below hb7) j q z HQZ.out
      injection haL' with haL'
      subst haL'
      have f2 : w7.cell? { block := (aL.add (j * 2)).block, off := (aL.add (j * 2)).off + 1 } = some (.int .i64 z) := by rw [← addr_add_add] at f1; exact f1
      have HO7 := Lib.hid (hco.out.grown_other hcd.out (by have := HDO.out; omega) hg7)
      have HC7 := Lib.hid (hcc.out.grown_other hcd.out (by have := HCD.out; omega) hg7)
      have HD7 := Lib.hid hcd7
      have HR7 := Lib.hid hrd7
      have HB7 := Lib.hid hb7
      have AO := Lib.hid (ask_any HO7.out HXS.out q z HZ.out)
      rw [HRE.out] at AO
      clear e0 e1 e2 hrd7 hcd7 hg7 hb7 hcd hco hcc hbx AD
      go_wp2_with fail
      refine AO.out.mono ?_
      rintro e w8 ⟨A8, c8, rfl, hrd8, hco8, hg8⟩
      have HB8 := Lib.hid (HB7.out.grown hg8 HB7.out.size (fun i ei => by cases ei; have := HCW.out; have := HCD.out; have := HDO.out; omega))
      have HC8 := Lib.hid (HC7.out.grown_other HO7.out (by have := HCD.out; have := HDO.out; omega) hg8)
      have HD8 := Lib.hid (HD7.out.grown_other HO7.out (by have := HDO.out; omega) hg8)
      have HO8 := Lib.hid hco8
      have HR78 := Lib.hid (HR7.out.grown_cur HO7.out.blk hg8)
      have HR8 := Lib.hid hrd8
      clear hrd8 hco8 hg8 HO7 HC7 HD7 HR7 HB7 AO f0 f1 f2
      go_wp2_with fail
      refine (same_n _ _ _ R.bytes R.bytes _ _ rfl rfl _ _ HR78.out HR8.out rfl).mono ?_
      rintro e w9 ⟨rfl, rfl⟩
      go_wp2_with fail
      refine (at_any HD8.out.blk).mono ?_
      rintro e w9 ⟨rfl, rfl⟩
      go_wp2_with fail
      refine (at_any HO8.out.blk).mono ?_
      rintro e w9 ⟨rfl, rfl⟩
      go_wp2_with fail
      exact ⟨⟨j + 1, R.off, by omega, by simp, HD8, HO8, HC8, HB8⟩, by simp [intOf]; omega⟩
    · have hje : j = P := by omega
      subst hje
      clear hlt hj HD6 HO6 HC6 HB6 hcd hco
      have HDL : Hid ((l.drop T).length = 0) := Lib.hid (by have := HN.out; simp; omega)
      have RST := Lib.hid (rest_any (w := wr.drew) (hcc.out.drewN 1) (by have := HN.out; have := HS.out; omega))
      go_wp2_with fail
      go_region_with (first
        | (go_at_call 25; refine (at_any (w := wr.drew) (hcc.out.drewN 1).blk).mono ?_; rintro e w4 ⟨rfl, rfl⟩)
        | (go_at_call 27; refine RST.out.mono ?_; rintro e w5 ⟨v5, rfl, A5, c5, rfl, ho5, hb5⟩; rw [HDL.out] at ho5 ⊢; have HR5 : Hid (Rd w5 A5 (l.drop T)) := Lib.hid (rd_own HDL.out ho5); have HB5 := Lib.hid (below_on hbx.out.drew (Nat.le_refl _) hb5); clear ho5 hb5)
        | (go_at_call 13; refine (same_n _ _ _ (l.drop T) (l.drop T) _ _ HDL.out (by have := HN.out; simp; omega) _ _ HR5.out (by rw [List.drop_eq_nil_of_le (by have := HN.out; omega)]; exact Rd.nil _ _) rfl).mono ?_; rintro e w6 ⟨rfl, rfl⟩)
        | (go_at_call 19; refine (known_any _).mono ?_; rintro e w7 ⟨rfl, hb7⟩; have HB7 := Lib.hid (below_on HB5.out (Nat.le_refl _) hb7); clear hb7))
      all_goals (go_wp2; go_ret; exact ⟨rfl, Hid.out (by assumption)⟩)

set_option maxRecDepth 100000 in
set_option maxHeartbeats 4000000 in
theorem walk_b3x (A : Option Addr) (l : List UInt8) (skip : Int) (m T : Nat) (AL : Option Addr) (ls : List (Int × Int)) (capL : Nat) (w : World) (hR : Rd w A l) (hs : l.length ≤ 140737488351232) (hRC : RdC w AL ls) (hP2 : ls.length ≤ 200) (hwf : ∀ (j : Nat) (q z : Int), ls[j]? = some (q, z) → z ≤ 9223372036854775807) (hz1 : decide (0 < skip) = true) (hz2 : decide (skip ≤ (l.length : Int)) = false) (hT : 0 + m = T) (hTl : l.length = T) :
    Calls Try.prog 7 #[.slice A l.length T, .int .i64 skip, .int .i64 (m : Int), .slice AL ls.length capL] w fun e w' => e = .returned (.bool true) ∧ Below w.heap.size w w' := by
  have OW := Lib.hid (own_any w A l T (by omega) hR)
  have HR := Lib.hid hR
  have HRC := Lib.hid hRC
  have HWF := Lib.hid hwf
  clear hR hRC hwf
  have hN := hTl
  obtain ⟨P, hP⟩ : ∃ P, ls.length = P := ⟨_, rfl⟩
  rw [hP] at hP2 ⊢
  have HP := Lib.hid hP
  rw [hN] at hs OW ⊢
  rw [hN] at hz2
  have HN := Lib.hid hN
  have HS := Lib.hid hs
  have HT := Lib.hid hT
  clear hTl
  clear hT
  clear hN hP
  have hPd : decide ((200 : Int) < (P : Int)) = false := decide_eq_false (by omega)
  go_enter Try.func7, Try.ntmps7
  go_wp2_with fail
  refine OW.out.mono ?_
  rintro e w1 ⟨v1, rfl, A1, c1, rfl, ho1, hb1⟩
  have HB1 := Lib.hid hb1
  have NW := Lib.hid (new_any w1 A1 l c1 (by have := HN.out; have := HS.out; omega) (Rd.of_own ho1))
  rw [HN.out] at NW ⊢
  clear ho1 hb1
  go_wp2_with fail
  refine NW.out.mono ?_
  rintro e w2 ⟨c, A2, cap2, rfl, hcw, hcur, hb2⟩
  have HB2 := Lib.hid (below_on HB1.out (Nat.le_refl _) hb2)
  have HCW := Lib.hid (Nat.le_trans HB1.out.size hcw)
  have HC2 := Lib.hid hcur
  clear hcw hcur hb2 HB1 NW OW
  have SB := Lib.hid (sub_any HC2.out (by have := HN.out; have := HS.out; omega) (m : Int))
  have HCUT : Hid (cutE (m : Int) (l.length - 0) = 0) := Lib.hid (cutE_ok (by omega) (by have := HN.out; have := HT.out; omega))
  obtain ⟨X, hX⟩ : ∃ X, (l.drop 0).take m = X := ⟨_, rfl⟩
  have HXL : Hid (X.length = m) := Lib.hid (by rw [← hX, List.length_take, List.length_drop]; have := HN.out; have := HT.out; omega)
  have HX := Lib.hid hX
  clear hX
  go_wp2_with fail
  refine SB.out.mono ?_
  rintro e w3 ⟨v3, rfl, hc3, hg3, _, hok⟩
  obtain ⟨d, Ad, capd, rfl, hd2, _, hcd⟩ := hok HCUT.out
  rw [HCUT.out] at hc3 ⊢
  rw [if_pos rfl, Int.toNat_natCast, HT.out] at hc3
  rw [Int.toNat_natCast, HX.out] at hcd
  have HCD : Hid (c < d) := Lib.hid (Nat.lt_of_lt_of_le HC2.out.blk.lt hd2)
  have HB3 := Lib.hid (HB2.out.grown hg3 HB2.out.size (fun j ej => by cases ej; exact HCW.out))
  have HC3 := Lib.hid hc3
  have HD3 := Lib.hid hcd
  clear hc3 hg3 hcd hok SB HC2 HB2 HCUT hd2
  have RB := Lib.hid (refBytes_ok (w := w3) (A := A) (cap := T) (l := l) (N := T) (k := 0) m HN.out (HR.out.below HB3.out) (by have := HT.out; omega) HS.out (by exact Nat.le_refl _))
  go_wp2_with fail
  refine RB.out.mono ?_
  rintro e w4 ⟨A4, c4, rfl, rfl, hr4⟩
  rw [HT.out]
  rw [HX.out] at hr4
  have HR4 := Lib.hid hr4
  clear hr4 RB
  go_wp2_with fail
  refine (at_any HC3.out.blk).mono ?_
  rintro e w4 ⟨rfl, rfl⟩
  go_wp2_with fail
  refine (at_any HD3.out.blk).mono ?_
  rintro e w4 ⟨rfl, rfl⟩
  have RSD := Lib.hid (rest_any HD3.out (by have := HXL.out; have := HT.out; have := HS.out; have := HN.out; omega))
  rw [List.drop_zero] at RSD
  go_wp2_with fail
  refine RSD.out.mono ?_
  rintro e w5 ⟨v5, rfl, A5, c5, rfl, ho5, hb5⟩
  rw [HXL.out] at ho5 ⊢
  have HR5 : Hid (Rd w5 A5 X) := Lib.hid (rd_own HXL.out ho5)
  have HC5 := Lib.hid (HC3.out.below hb5)
  have HD5 := Lib.hid (HD3.out.below hb5)
  have HB5 := Lib.hid (below_on HB3.out (Nat.le_refl _) hb5)
  have HR45 := Lib.hid (HR4.out.below hb5)
  clear ho5 hb5 RSD HC3 HD3 HB3 HR4
  go_wp2_with fail
  refine (same_n _ _ _ X X _ _ HXL.out HXL.out _ _ HR5.out HR45.out rfl).mono ?_
  rintro e w6 ⟨rfl, rfl⟩
  have NO := Lib.hid (new_d w5 A4 X m c4 HXL.out (by have := HXL.out; have := HT.out; have := HS.out; have := HN.out; omega) HR45.out)
  go_wp2_with fail
  refine NO.out.mono ?_
  rintro e w6 ⟨q6, Ao, capo, rfl, hcw6, _, hcur6, hb6⟩
  have HDO : Hid (d < q6) := Lib.hid (Nat.lt_of_lt_of_le HD5.out.blk.lt hcw6)
  have HC6 := Lib.hid (HC5.out.below hb6)
  have HD6 := Lib.hid (HD5.out.below hb6)
  have HO6 := Lib.hid hcur6
  have HB6 := Lib.hid (below_on HB5.out (Nat.le_refl _) hb6)
  clear hcw6 hcur6 hb6 NO HC5 HD5 HB5 HR45 HR5
  go_wp2_with fail
  go_loopw [17] (fun i wr => ∃ j off : Nat, j ≤ P ∧ i = .int .i64 (j : Int) ∧ Hid (Cur wr d Ad capd X off) ∧ Hid (Cur wr q6 Ao capo X off) ∧ Hid (Cur wr c A2 cap2 l T) ∧ Hid (Below w.heap.size w wr)) (fun i _ => P - (intOf i).toNat)
  case atStart => exact ⟨0, 0, by omega, rfl, HD6, HO6, HC6, HB6⟩
  case round =>
    obtain ⟨j, off, hj, rfl, hcd, hco, hcc, hbx⟩ := hrel
    by_cases hlt : j < P
    · obtain ⟨⟨q, z⟩, hqz⟩ : ∃ y, ls[j]? = some y := ⟨_, List.getElem?_eq_getElem (by rw [HP.out]; exact hlt)⟩
      obtain ⟨aL, haL, e0, e1⟩ := (HRC.out.below hbx.out) j q z hqz
      subst haL
      have e2 : wr.cell? { block := (aL.add (j * 2)).block, off := (aL.add (j * 2)).off + 1 } = some (.int .i64 z) := by rw [← addr_add_add] at e1; exact e1
      obtain ⟨R, hRE⟩ : ∃ R, askR X off q z = R := ⟨_, rfl⟩
      have HRE := Lib.hid hRE
      have HZ := Lib.hid (HWF.out j q z hqz)
      have HXS : Hid (X.length ≤ 281474976710000) := Lib.hid (by have := HXL.out; have := HT.out; have := HS.out; have := HN.out; omega)
      have AD := Lib.hid (ask_any hcd.out HXS.out q z HZ.out)
      rw [HRE.out] at AD
      have HQZ := Lib.hid hqz
      clear hRE hqz
      go_wp2_with fail
      refine AD.out.mono ?_
      rintro e w7 ⟨A7, c7, rfl, hrd7, hcd7, hg7⟩
      have hb7 := hbx.out.grown hg7 hbx.out.size (fun i ei => by cases ei; have := HCW.out; have := HCD.out; omega)
      obtain ⟨aL', haL', f0, f1⟩ := (HRC.out.below hb7) j q z HQZ.out
      injection haL' with haL'
      subst haL'
      have f2 : w7.cell? { block := (aL.add (j * 2)).block, off := (aL.add (j * 2)).off + 1 } = some (.int .i64 z) := by rw [← addr_add_add] at f1; exact f1
      have HO7 := Lib.hid (hco.out.grown_other hcd.out (by have := HDO.out; omega) hg7)
      have HC7 := Lib.hid (hcc.out.grown_other hcd.out (by have := HCD.out; omega) hg7)
      have HD7 := Lib.hid hcd7
      have HR7 := Lib.hid hrd7
      have HB7 := Lib.hid hb7
      have AO := Lib.hid (ask_any HO7.out HXS.out q z HZ.out)
      rw [HRE.out] at AO
      clear e0 e1 e2 hrd7 hcd7 hg7 hb7 hcd hco hcc hbx AD
      go_wp2_with fail
      refine AO.out.mono ?_
      rintro e w8 ⟨A8, c8, rfl, hrd8, hco8, hg8⟩
      have HB8 := Lib.hid (HB7.out.grown hg8 HB7.out.size (fun i ei => by cases ei; have := HCW.out; have := HCD.out; have := HDO.out; omega))
      have HC8 := Lib.hid (HC7.out.grown_other HO7.out (by have := HCD.out; have := HDO.out; omega) hg8)
      have HD8 := Lib.hid (HD7.out.grown_other HO7.out (by have := HDO.out; omega) hg8)
      have HO8 := Lib.hid hco8
      have HR78 := Lib.hid (HR7.out.grown_cur HO7.out.blk hg8)
      have HR8 := Lib.hid hrd8
      clear hrd8 hco8 hg8 HO7 HC7 HD7 HR7 HB7 AO f0 f1 f2
      go_wp2_with fail
      refine (same_n _ _ _ R.bytes R.bytes _ _ rfl rfl _ _ HR78.out HR8.out rfl).mono ?_
      rintro e w9 ⟨rfl, rfl⟩
      go_wp2_with fail
      refine (at_any HD8.out.blk).mono ?_
      rintro e w9 ⟨rfl, rfl⟩
      go_wp2_with fail
      refine (at_any HO8.out.blk).mono ?_
      rintro e w9 ⟨rfl, rfl⟩
      go_wp2_with fail
      exact ⟨⟨j + 1, R.off, by omega, by simp, HD8, HO8, HC8, HB8⟩, by simp [intOf]; omega⟩
    · have hje : j = P := by omega
      subst hje
      clear hlt hj HD6 HO6 HC6 HB6 hcd hco
      have HDL : Hid ((l.drop T).length = 0) := Lib.hid (by have := HN.out; simp; omega)
      have RST := Lib.hid (rest_any (w := wr.drew) (hcc.out.drewN 1) (by have := HN.out; have := HS.out; omega))
      go_wp2_with fail
      go_region_with (first
        | (go_at_call 25; refine (at_any (w := wr.drew) (hcc.out.drewN 1).blk).mono ?_; rintro e w4 ⟨rfl, rfl⟩)
        | (go_at_call 27; refine RST.out.mono ?_; rintro e w5 ⟨v5, rfl, A5, c5, rfl, ho5, hb5⟩; rw [HDL.out] at ho5 ⊢; have HR5 : Hid (Rd w5 A5 (l.drop T)) := Lib.hid (rd_own HDL.out ho5); have HB5 := Lib.hid (below_on hbx.out.drew (Nat.le_refl _) hb5); clear ho5 hb5)
        | (go_at_call 13; refine (same_n _ _ _ (l.drop T) (l.drop T) _ _ HDL.out (by have := HN.out; simp; omega) _ _ HR5.out (by rw [List.drop_eq_nil_of_le (by have := HN.out; omega)]; exact Rd.nil _ _) rfl).mono ?_; rintro e w6 ⟨rfl, rfl⟩)
        | (go_at_call 19; refine (known_any _).mono ?_; rintro e w7 ⟨rfl, hb7⟩; have HB7 := Lib.hid (below_on HB5.out (Nat.le_refl _) hb7); clear hb7))
      all_goals (go_wp2; go_ret; exact ⟨rfl, Hid.out (by assumption)⟩)

set_option maxRecDepth 100000 in
set_option maxHeartbeats 4000000 in
theorem walk_c3x (A : Option Addr) (l : List UInt8) (k : Nat) (m T : Nat) (AL : Option Addr) (ls : List (Int × Int)) (capL : Nat) (w : World) (hR : Rd w A l) (hs : l.length ≤ 140737488351232) (hRC : RdC w AL ls) (hP2 : ls.length ≤ 200) (hwf : ∀ (j : Nat) (q z : Int), ls[j]? = some (q, z) → z ≤ 9223372036854775807) (hk0 : 0 < k) (hkl : k ≤ l.length) (hT : k + m = T) (hTl : l.length = T) :
    Calls Try.prog 7 #[.slice A l.length T, .int .i64 (k : Int), .int .i64 (m : Int), .slice AL ls.length capL] w fun e w' => e = .returned (.bool true) ∧ Below w.heap.size w w' := by
  have OW := Lib.hid (own_any w A l T (by omega) hR)
  have HR := Lib.hid hR
  have HRC := Lib.hid hRC
  have HWF := Lib.hid hwf
  clear hR hRC hwf
  have hN := hTl
  obtain ⟨P, hP⟩ : ∃ P, ls.length = P := ⟨_, rfl⟩
  rw [hP] at hP2 ⊢
  have HP := Lib.hid hP
  rw [hN] at hs OW ⊢
  rw [hN] at hkl
  have HN := Lib.hid hN
  have HS := Lib.hid hs
  have HT := Lib.hid hT
  clear hTl
  have hkT : k ≤ T := by omega
  clear hT
  clear hN hP
  have hPd : decide ((200 : Int) < (P : Int)) = false := decide_eq_false (by omega)
  go_enter Try.func7, Try.ntmps7
  go_wp2_with fail
  refine OW.out.mono ?_
  rintro e w1 ⟨v1, rfl, A1, c1, rfl, ho1, hb1⟩
  have HB1 := Lib.hid hb1
  have NW := Lib.hid (new_any w1 A1 l c1 (by have := HN.out; have := HS.out; omega) (Rd.of_own ho1))
  rw [HN.out] at NW ⊢
  clear ho1 hb1
  go_wp2_with fail
  refine NW.out.mono ?_
  rintro e w0 ⟨c, A2, cap2, rfl, hcw, hcur, hb2⟩
  have HB0 := Lib.hid (below_on HB1.out (Nat.le_refl _) hb2)
  have HCW := Lib.hid (Nat.le_trans HB1.out.size hcw)
  have HY := Lib.hid (bytes_any hcur (by have := HN.out; have := HS.out; omega) (k : Int))
  have hcut : cutE (k : Int) (l.length - 0) = 0 := cutE_ok (by omega) (by have := HN.out; omega)
  have HCUT0 := Lib.hid hcut
  have z1 : decide ((0 : Int) < (k : Int)) = true := decide_eq_true (by omega)
  have z2 : decide ((k : Int) ≤ (T : Int)) = true := decide_eq_true (by omega)
  clear hcw hcur hb2 HB1 NW hcut OW
  go_wp2_with fail
  refine HY.out.mono ?_
  rintro e w2 ⟨v2, rfl, hc2, hg2, _, _⟩
  rw [HCUT0.out] at hc2 ⊢
  rw [if_pos rfl, Nat.zero_add, Int.toNat_natCast] at hc2
  have HB2 := Lib.hid (HB0.out.grown hg2 HB0.out.size (fun j ej => by cases ej; exact HCW.out))
  have HC2 := Lib.hid hc2
  clear hc2 hg2 HB0 HY HCUT0 z1 z2
  have SB := Lib.hid (sub_any HC2.out (by have := HN.out; have := HS.out; omega) (m : Int))
  have HCUT : Hid (cutE (m : Int) (l.length - k) = 0) := Lib.hid (cutE_ok (by omega) (by have := HN.out; have := HT.out; omega))
  obtain ⟨X, hX⟩ : ∃ X, (l.drop k).take m = X := ⟨_, rfl⟩
  have HXL : Hid (X.length = m) := Lib.hid (by rw [← hX, List.length_take, List.length_drop]; have := HN.out; have := HT.out; omega)
  have HX := Lib.hid hX
  clear hX
  go_wp2_with fail
  refine SB.out.mono ?_
  rintro e w3 ⟨v3, rfl, hc3, hg3, _, hok⟩
  obtain ⟨d, Ad, capd, rfl, hd2, _, hcd⟩ := hok HCUT.out
  rw [HCUT.out] at hc3 ⊢
  rw [if_pos rfl, Int.toNat_natCast, HT.out] at hc3
  rw [Int.toNat_natCast, HX.out] at hcd
  have HCD : Hid (c < d) := Lib.hid (Nat.lt_of_lt_of_le HC2.out.blk.lt hd2)
  have HB3 := Lib.hid (HB2.out.grown hg3 HB2.out.size (fun j ej => by cases ej; exact HCW.out))
  have HC3 := Lib.hid hc3
  have HD3 := Lib.hid hcd
  clear hc3 hg3 hcd hok SB HC2 HB2 HCUT hd2
  have RB := Lib.hid (refBytes_ok (w := w3) (A := A) (cap := T) (l := l) (N := T) (k := k) m HN.out (HR.out.below HB3.out) (by have := HT.out; omega) HS.out (by exact Nat.le_refl _))
  go_wp2_with fail
  refine RB.out.mono ?_
  rintro e w4 ⟨A4, c4, rfl, rfl, hr4⟩
  rw [HT.out]
  rw [HX.out] at hr4
  have HR4 := Lib.hid hr4
  clear hr4 RB
  go_wp2_with fail
  refine (at_any HC3.out.blk).mono ?_
  rintro e w4 ⟨rfl, rfl⟩
  go_wp2_with fail
  refine (at_any HD3.out.blk).mono ?_
  rintro e w4 ⟨rfl, rfl⟩
  have RSD := Lib.hid (rest_any HD3.out (by have := HXL.out; have := HT.out; have := HS.out; have := HN.out; omega))
  rw [List.drop_zero] at RSD
  go_wp2_with fail
  refine RSD.out.mono ?_
  rintro e w5 ⟨v5, rfl, A5, c5, rfl, ho5, hb5⟩
  rw [HXL.out] at ho5 ⊢
  have HR5 : Hid (Rd w5 A5 X) := Lib.hid (rd_own HXL.out ho5)
  have HC5 := Lib.hid (HC3.out.below hb5)
  have HD5 := Lib.hid (HD3.out.below hb5)
  have HB5 := Lib.hid (below_on HB3.out (Nat.le_refl _) hb5)
  have HR45 := Lib.hid (HR4.out.below hb5)
  clear ho5 hb5 RSD HC3 HD3 HB3 HR4
  go_wp2_with fail
  refine (same_n _ _ _ X X _ _ HXL.out HXL.out _ _ HR5.out HR45.out rfl).mono ?_
  rintro e w6 ⟨rfl, rfl⟩
  have NO := Lib.hid (new_d w5 A4 X m c4 HXL.out (by have := HXL.out; have := HT.out; have := HS.out; have := HN.out; omega) HR45.out)
  go_wp2_with fail
  refine NO.out.mono ?_
  rintro e w6 ⟨q6, Ao, capo, rfl, hcw6, _, hcur6, hb6⟩
  have HDO : Hid (d < q6) := Lib.hid (Nat.lt_of_lt_of_le HD5.out.blk.lt hcw6)
  have HC6 := Lib.hid (HC5.out.below hb6)
  have HD6 := Lib.hid (HD5.out.below hb6)
  have HO6 := Lib.hid hcur6
  have HB6 := Lib.hid (below_on HB5.out (Nat.le_refl _) hb6)
  clear hcw6 hcur6 hb6 NO HC5 HD5 HB5 HR45 HR5
  go_wp2_with fail
  go_loopw [17] (fun i wr => ∃ j off : Nat, j ≤ P ∧ i = .int .i64 (j : Int) ∧ Hid (Cur wr d Ad capd X off) ∧ Hid (Cur wr q6 Ao capo X off) ∧ Hid (Cur wr c A2 cap2 l T) ∧ Hid (Below w.heap.size w wr)) (fun i _ => P - (intOf i).toNat)
  case atStart => exact ⟨0, 0, by omega, rfl, HD6, HO6, HC6, HB6⟩
  case round =>
    obtain ⟨j, off, hj, rfl, hcd, hco, hcc, hbx⟩ := hrel
    by_cases hlt : j < P
    · obtain ⟨⟨q, z⟩, hqz⟩ : ∃ y, ls[j]? = some y := ⟨_, List.getElem?_eq_getElem (by rw [HP.out]; exact hlt)⟩
      obtain ⟨aL, haL, e0, e1⟩ := (HRC.out.below hbx.out) j q z hqz
      subst haL
      have e2 : wr.cell? { block := (aL.add (j * 2)).block, off := (aL.add (j * 2)).off + 1 } = some (.int .i64 z) := by rw [← addr_add_add] at e1; exact e1
      obtain ⟨R, hRE⟩ : ∃ R, askR X off q z = R := ⟨_, rfl⟩
      have HRE := Lib.hid hRE
      have HZ := Lib.hid (HWF.out j q z hqz)
      have HXS : Hid (X.length ≤ 281474976710000) := Lib.hid (by have := HXL.out; have := HT.out; have := HS.out; have := HN.out; omega)
      have AD := Lib.hid (ask_any hcd.out HXS.out q z HZ.out)
      rw [HRE.out] at AD
      have HQZ := Lib.hid hqz
      clear hRE hqz
      go_wp2_with fail
      refine AD.out.mono ?_
      rintro e w7 ⟨A7, c7, rfl, hrd7, hcd7, hg7⟩
      have hb7 := hbx.out.grown hg7 hbx.out.size (fun i ei => by cases ei; have := HCW.out; have := HCD.out; omega)
      obtain ⟨aL', haL', f0, f1⟩ := (HRC.out.below hb7) j q z HQZ.out
      injection haL' with haL'
      subst haL'
      have f2 : w7.cell? { block := (aL.add (j * 2)).block, off := (aL.add (j * 2)).off + 1 } = some (.int .i64 z) := by rw [← addr_add_add] at f1; exact f1
      have HO7 := Lib.hid (hco.out.grown_other hcd.out (by have := HDO.out; omega) hg7)
      have HC7 := Lib.hid (hcc.out.grown_other hcd.out (by have := HCD.out; omega) hg7)
      have HD7 := Lib.hid hcd7
      have HR7 := Lib.hid hrd7
      have HB7 := Lib.hid hb7
      have AO := Lib.hid (ask_any HO7.out HXS.out q z HZ.out)
      rw [HRE.out] at AO
      clear e0 e1 e2 hrd7 hcd7 hg7 hb7 hcd hco hcc hbx AD
      go_wp2_with fail
      refine AO.out.mono ?_
      rintro e w8 ⟨A8, c8, rfl, hrd8, hco8, hg8⟩
      have HB8 := Lib.hid (HB7.out.grown hg8 HB7.out.size (fun i ei => by cases ei; have := HCW.out; have := HCD.out; have := HDO.out; omega))
      have HC8 := Lib.hid (HC7.out.grown_other HO7.out (by have := HCD.out; have := HDO.out; omega) hg8)
      have HD8 := Lib.hid (HD7.out.grown_other HO7.out (by have := HDO.out; omega) hg8)
      have HO8 := Lib.hid hco8
      have HR78 := Lib.hid (HR7.out.grown_cur HO7.out.blk hg8)
      have HR8 := Lib.hid hrd8
      clear hrd8 hco8 hg8 HO7 HC7 HD7 HR7 HB7 AO f0 f1 f2
      go_wp2_with fail
      refine (same_n _ _ _ R.bytes R.bytes _ _ rfl rfl _ _ HR78.out HR8.out rfl).mono ?_
      rintro e w9 ⟨rfl, rfl⟩
      go_wp2_with fail
      refine (at_any HD8.out.blk).mono ?_
      rintro e w9 ⟨rfl, rfl⟩
      go_wp2_with fail
      refine (at_any HO8.out.blk).mono ?_
      rintro e w9 ⟨rfl, rfl⟩
      go_wp2_with fail
      exact ⟨⟨j + 1, R.off, by omega, by simp, HD8, HO8, HC8, HB8⟩, by simp [intOf]; omega⟩
    · have hje : j = P := by omega
      subst hje
      clear hlt hj HD6 HO6 HC6 HB6 hcd hco
      have HDL : Hid ((l.drop T).length = 0) := Lib.hid (by have := HN.out; simp; omega)
      have RST := Lib.hid (rest_any (w := wr.drew) (hcc.out.drewN 1) (by have := HN.out; have := HS.out; omega))
      go_wp2_with fail
      go_region_with (first
        | (go_at_call 25; refine (at_any (w := wr.drew) (hcc.out.drewN 1).blk).mono ?_; rintro e w4 ⟨rfl, rfl⟩)
        | (go_at_call 27; refine RST.out.mono ?_; rintro e w5 ⟨v5, rfl, A5, c5, rfl, ho5, hb5⟩; rw [HDL.out] at ho5 ⊢; have HR5 : Hid (Rd w5 A5 (l.drop T)) := Lib.hid (rd_own HDL.out ho5); have HB5 := Lib.hid (below_on hbx.out.drew (Nat.le_refl _) hb5); clear ho5 hb5)
        | (go_at_call 13; refine (same_n _ _ _ (l.drop T) (l.drop T) _ _ HDL.out (by have := HN.out; simp; omega) _ _ HR5.out (by rw [List.drop_eq_nil_of_le (by have := HN.out; omega)]; exact Rd.nil _ _) rfl).mono ?_; rintro e w6 ⟨rfl, rfl⟩)
        | (go_at_call 19; refine (known_any _).mono ?_; rintro e w7 ⟨rfl, hb7⟩; have HB7 := Lib.hid (below_on HB5.out (Nat.le_refl _) hb7); clear hb7))
      all_goals (go_wp2; go_ret; exact ⟨rfl, Hid.out (by assumption)⟩)

end Go.Proofs.Ytpelndjfamdjlaa.numSubs
