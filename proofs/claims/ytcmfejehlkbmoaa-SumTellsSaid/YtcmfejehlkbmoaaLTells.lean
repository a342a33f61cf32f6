/-
  Proved: the law SumTells returns true for all bytes and every number: replacing one group by different bytes changes the checksum. No condition.
-/
import Derived.Deep.QuietTactic
import Derived.BigQuiet
import Derived.Test.YtcmfejehlkbmoaaStr
import Derived.Test.YtcmfejehlkbmoaaTel
namespace Go.Proofs.Ytcmfejehlkbmoaa.sumTells
open Go.ChangeShapes Go.WideShapes Go.ChangeAt Go.RowKit

theorem below_any {w wr : World} {p : Addr} {v : Value} (h : Below w.heap.size w (wr.setCell p v)) (n : Nat) : Below w.heap.size w ((wr.drewN n).setCell p v) := ⟨h.os, h.tape, h.output, h.size, h.block⟩


set_option maxHeartbeats 1000000 in
theorem walk_a (A : Option Addr) (NA ca : Nat) (which : Int) (B : Option Addr) (NB cb : Nat) (w : World) (h : NA = 0) :
    Calls Try.prog 5 #[.slice A NA ca, .int .i64 which, .slice B NB cb] w fun e w' => e = .returned (.bool true) ∧ Below w.heap.size w w' := by
  subst h
  go_enter Try.func5, Try.ntmps5
  go_wp2_with fail
  refine (known_any _).mono ?_
  rintro e w1 ⟨rfl, hb1⟩
  have HB1 := Lib.hid hb1
  clear hb1
  go_wp2
  go_ret
  exact ⟨rfl, HB1.out⟩


set_option maxHeartbeats 1000000 in
theorem walk_b (A : Option Addr) (NA ca : Nat) (which : Int) (B : Option Addr) (NB cb : Nat) (w : World) (h : 4000 < NA) :
    Calls Try.prog 5 #[.slice A NA ca, .int .i64 which, .slice B NB cb] w fun e w' => e = .returned (.bool true) ∧ Below w.heap.size w w' := by
  have h0 : ((NA : Int) == 0) = false := by simp; omega
  have hd : decide ((4000 : Int) < (NA : Int)) = true := decide_eq_true (by omega)
  go_enter Try.func5, Try.ntmps5
  go_wp2_with fail
  refine (known_any _).mono ?_
  rintro e w1 ⟨rfl, hb1⟩
  have HB1 := Lib.hid hb1
  clear hb1
  go_wp2
  go_ret
  exact ⟨rfl, HB1.out⟩


set_option maxRecDepth 100000 in
set_option maxHeartbeats 16000000 in
theorem walk_c (A : Option Addr) (a : List UInt8) (NA ca : Nat) (which : Int) (B : Option Addr) (m : List UInt8) (NB cb : Nat) (w : World) (hNA : a.length = NA) (hNB : m.length = NB) (hN0 : 0 < NA) (hN : NA ≤ 4000) (hNBs : NB ≤ 140737488351232) (hca : NA ≤ ca) (hRA : Rd w A a) (hRB : Rd w B m) :
    Calls Try.prog 5 #[.slice A NA ca, .int .i64 which, .slice B NB cb] w fun e w' => e = .returned (.bool true) ∧ Below w.heap.size w w' := by
  have h0 : ((NA : Int) == 0) = false := by simp; omega
  have hd : decide ((4000 : Int) < (NA : Int)) = false := decide_eq_false (by omega)
  have HA := Lib.hid hNA
  have HB := Lib.hid hNB
  have RA := Lib.hid hRA
  have RB := Lib.hid hRB
  obtain ⟨U, hU⟩ := Int.eq_ofNat_of_zero_le (show 0 ≤ IntKind.u64.wrap which by rw [wrap_u64_mod]; omega)
  have hUl : U < 18446744073709551616 := by have := wrap_u64_mod which; omega
  obtain ⟨M, hM⟩ : ∃ M, (NA + 7) / 8 = M := ⟨_, rfl⟩
  have hM0 : 0 < M := by omega
  have hMl : M ≤ 32000 := by omega
  obtain ⟨k, hk⟩ : ∃ k, U % M = k := ⟨_, rfl⟩
  have hkM : k < M := by rw [← hk]; exact Nat.mod_lt _ hM0
  have eM : ((NA : Int) + 7) / 8 = (M : Int) := by omega
  have eM2 : IntKind.u64.wrap (M : Int) = (M : Int) := IntWalk.u64_in _ (by omega)
  have ek : (U : Int) % (M : Int) = (k : Int) := by rw [← hk]; rfl
  obtain ⟨q, hq⟩ : ∃ q, 8 * k = q := ⟨_, rfl⟩
  have HQ := Lib.hid hq
  have eq : (8 : Int) * (k : Int) = (q : Int) := by omega
  have hqN : q < NA := by omega
  clear hNA hNB hRA hRB hk hM hq
  go_enter Try.func5, Try.ntmps5
  go_wp2_with (first | (at_builtin; refine wpList_append_vals Try.underlying22 byte_info rfl rfl _ _ rfl w.heap.size (.slice none 0 0) 0 [] rfl (World.ownsRow_nil w w.heap.size 5 1) A (a.map byt) (byt_one a) NA ca (by rw [List.length_map]; exact HA.out) rfl RA.out (by omega) (Nat.le_refl _) ?_; intro v1 w1 ho hg he; rw [Nat.zero_add, List.nil_append] at ho; obtain ⟨A1, c1, rfl, hc1⟩ := own_form ho; have B1 := Lib.hid ((Below.refl w.heap.size w).grown hg (Nat.le_refl _) (fun j ej => by cases ej)); have E1 := Lib.hid he; have O1 := Lib.hid ho; clear ho hg he))
  obtain ⟨g, hA1⟩ := own_some hN0 O1.out
  have GG : Hid (w.heap.size ≤ g) := Lib.hid (row_new E1.out (by rw [hA1]; rfl))
  subst hA1
  go_loopw [9, 10] (fun p o wr => ∃ i : Nat, i ≤ 8 ∧ q + i ≤ NA ∧ i ≤ NB ∧ p = .bool (ot a m k i) ∧ o = .int .i64 (i : Int) ∧ Hid (wr.ownsRow w.heap.size 5 1 (.slice (some ⟨g, 0, none⟩) NA c1) NA ((st a m k i).map byt)) ∧ Hid (Below w.heap.size w wr))
    (fun _ o _ => 8 - (intOf o).toNat)
  case atStart => exact ⟨0, by omega, by omega, by omega, rfl, rfl, O1, B1⟩
  case round =>
    obtain ⟨i, hi8, hiN, hiB, rfl, rfl, HO, HBW⟩ := hrel
    have IFF : Hid ((chk a = chk (st a m k i)) ↔ ot a m k i = false) := Lib.hid (chk_st a m k i hi8 (by rw [HA.out, HQ.out]; exact hiN) (by rw [HA.out]; unfold M64; omega))
    by_cases c8 : i < 8
    · by_cases cN : q + i < NA
      · by_cases cB : i < NB
        · clear IFF
          have k1 : decide ((i : Int) < 8) = true := decide_eq_true (by omega)
          have k2 : decide ((q : Int) + (i : Int) < (NA : Int)) = true := decide_eq_true (by omega)
          have k3 : decide ((i : Int) < (NB : Int)) = true := decide_eq_true (by omega)
          obtain ⟨ab, hab⟩ : ∃ ab, a[q + i]? = some ab := ⟨_, List.getElem?_eq_getElem (by rw [HA.out]; exact cN)⟩
          obtain ⟨mb, hmb⟩ : ∃ mb, m[i]? = some mb := ⟨_, List.getElem?_eq_getElem (by rw [HB.out]; exact cB)⟩
          have hc : wr.cell? ⟨g, q + i, none⟩ = some (byt ab) := by
            rw [HO.out.cellAt (q + i) (by omega), List.getElem?_map, st_get a m k _ i (by rw [HA.out, HQ.out]; exact hiN), if_neg (by have := HQ.out; omega), hab]
            rfl
          have hf : wr.frozen? ⟨g, q + i, none⟩ = false := HO.out.frozenAt (q + i)
          obtain ⟨adB, hBe, hcB⟩ := (RB.out.below HBW.out) i (byt mb) (by rw [List.getElem?_map, hmb]; rfl)
          subst hBe
          have HOT : Hid (ot a m k (i + 1) = (ot a m k i || (ab != mb))) := Lib.hid (by
            rw [ot, HQ.out, List.getD_eq_getElem?_getD, List.getD_eq_getElem?_getD, hab, hmb]
            rfl)
          obtain ⟨z, hz⟩ : ∃ z, mb.toNat = z := ⟨_, rfl⟩
          have HZ : Hid (m.getD i 0 = mb ∧ mb.toNat = z) := Lib.hid ⟨by rw [List.getD_eq_getElem?_getD, hmb]; rfl, hz⟩
          obtain ⟨y, hy⟩ : ∃ y, ab.toNat = y := ⟨_, rfl⟩
          have HNE : Hid ((ab != mb) = (y != z)) := Lib.hid (by
            rw [← hy, ← hz, Bool.eq_iff_iff, bne_iff_ne, bne_iff_ne]
            exact ⟨fun h e => h (UInt8.toNat_inj.1 e), fun h e => h (by rw [e])⟩)
          simp only [byt] at hc hcB
          rw [hy] at hc
          rw [hz] at hcB
          have hst := HO.out.stored (q + i) (byt mb)
          rw [← List.map_set] at hst
          have ST : Hid ((wr.setCell ⟨g, q + i, none⟩ (.int .u8 (z : Int))).ownsRow w.heap.size 5 1 (.slice (some ⟨g, 0, none⟩) NA c1) NA ((st a m k (i + 1)).map byt) ∧ wr.grownBy (wr.setCell ⟨g, q + i, none⟩ (.int .u8 (z : Int))) (some g)) := Lib.hid (by
            rw [st, HQ.out, HZ.out.1, ← HZ.out.2]
            exact hst)
          clear hst
          clear hab hmb hy hz
          rcases Bool.eq_false_or_eq_true (ot a m k i) with ho | ho
          · rw [ho]
            have HOE : Hid (ot a m k (i + 1) = true) := Lib.hid (by rw [HOT.out, ho, Bool.true_or])
            clear ho
            go_wp2_with fail
            go_quiet (fail)
            go_wp2_with fail
            refine ⟨⟨i + 1, by omega, by omega, by omega, by rw [HOE.out], by simp, Lib.hid ST.out.1, Lib.hid (below_any (HBW.out.grown ST.out.2 HBW.out.size (fun j e => by cases e; exact GG.out)) nq)⟩, by simp [intOf]; omega⟩
          · rw [ho]
            by_cases hyz : y = z
            · have HOE : Hid (ot a m k (i + 1) = false) := Lib.hid (by rw [HOT.out, ho, HNE.out, hyz, bne_self_eq_false, Bool.false_or])
              subst hyz
              clear ho
              go_wp2_with fail
              go_quiet (fail)
              go_wp2_with fail
              refine ⟨⟨i + 1, by omega, by omega, by omega, by rw [HOE.out], by simp, Lib.hid ST.out.1, Lib.hid (below_any (HBW.out.grown ST.out.2 HBW.out.size (fun j e => by cases e; exact GG.out)) nq)⟩, by simp [intOf]; omega⟩
            · have HOE : Hid (ot a m k (i + 1) = true) := Lib.hid (by rw [HOT.out, ho, HNE.out, bne_iff_ne.2 hyz, Bool.false_or])
              have k4 : ((y : Int) != (z : Int)) = true := by simp; omega
              have k5 : (y != z) = true := bne_iff_ne.2 hyz
              clear ho hyz
              go_wp2_with fail
              go_quiet (fail)
              go_wp2_with fail
              refine ⟨⟨i + 1, by omega, by omega, by omega, by rw [HOE.out], by simp, Lib.hid ST.out.1, Lib.hid (below_any (HBW.out.grown ST.out.2 HBW.out.size (fun j e => by cases e; exact GG.out)) nq)⟩, by simp [intOf]; omega⟩
        · clear eM eM2 ek hU
          rcases Bool.eq_false_or_eq_true (ot a m k i) with ho | ho
          · have k1 : decide ((i : Int) < 8) = true := decide_eq_true (by omega)
            have k2 : decide ((q : Int) + (i : Int) < (NA : Int)) = true := decide_eq_true (by omega)
            have k3 : decide ((i : Int) < (NB : Int)) = false := decide_eq_false (by omega)
            have RW : Hid (Rd wr (some ⟨g, 0, none⟩) (st a m k i)) := Lib.hid (Rv.of_own HO.out)
            have HLS : Hid ((st a m k i).length = NA) := Lib.hid (by rw [st_len]; exact HA.out)
            have OF1 := Lib.hid (of_any wr A a NA ca HA.out hca (by omega) (RA.out.below HBW.out))
            have OF2 := Lib.hid (fun (W : World) (hb : Below wr.heap.size wr W) => of_any W (some ⟨g, 0, none⟩) (st a m k i) NA c1 HLS.out hc1 (by omega) (RW.out.below hb))
            obtain ⟨d1, hd1⟩ : ∃ d1, chk a = d1 := ⟨_, rfl⟩
            obtain ⟨d2, hd2⟩ : ∃ d2, chk (st a m k i) = d2 := ⟨_, rfl⟩
            rw [hd1] at OF1 IFF
            rw [hd2] at OF2 IFF
            have hq : (d1 != d2) = true := by
              have h := IFF.out
              rw [ho] at h
              simp at h
              simpa using h
            have hq2 : ((d1 : Int) != (d2 : Int)) = true := by
              have h : d1 ≠ d2 := by simpa using hq
              simp
              omega
            rw [ho]
            clear hd1 hd2 ho IFF
            go_wp2_with fail
            refine OF1.out.mono ?_
            rintro e w3 ⟨rfl, hb⟩
            have B3 := Lib.hid hb
            clear hb
            go_wp2_with fail
            refine (OF2.out w3 B3.out).mono ?_
            rintro e w4 ⟨rfl, hb⟩
            have B4 := Lib.hid (below_on B3.out (Nat.le_refl _) hb)
            clear hb
            go_wp2_with fail
            refine (known_any _).mono ?_
            rintro e w5 ⟨rfl, hbk⟩
            have BK := Lib.hid (below_on HBW.out (Nat.le_refl _) (below_on B4.out (Nat.le_refl _) hbk))
            clear hbk
            go_wp2
            go_ret
            exact ⟨rfl, BK.out⟩
          · have k1 : decide ((i : Int) < 8) = true := decide_eq_true (by omega)
            have k2 : decide ((q : Int) + (i : Int) < (NA : Int)) = true := decide_eq_true (by omega)
            have k3 : decide ((i : Int) < (NB : Int)) = false := decide_eq_false (by omega)
            have RW : Hid (Rd wr (some ⟨g, 0, none⟩) (st a m k i)) := Lib.hid (Rv.of_own HO.out)
            have HLS : Hid ((st a m k i).length = NA) := Lib.hid (by rw [st_len]; exact HA.out)
            have OF1 := Lib.hid (of_any wr A a NA ca HA.out hca (by omega) (RA.out.below HBW.out))
            have OF2 := Lib.hid (fun (W : World) (hb : Below wr.heap.size wr W) => of_any W (some ⟨g, 0, none⟩) (st a m k i) NA c1 HLS.out hc1 (by omega) (RW.out.below hb))
            obtain ⟨d1, hd1⟩ : ∃ d1, chk a = d1 := ⟨_, rfl⟩
            obtain ⟨d2, hd2⟩ : ∃ d2, chk (st a m k i) = d2 := ⟨_, rfl⟩
            rw [hd1] at OF1 IFF
            rw [hd2] at OF2 IFF
            obtain rfl : d1 = d2 := IFF.out.2 ho
            rw [ho]
            clear hd1 hd2 ho IFF
            go_wp2_with fail
            refine OF1.out.mono ?_
            rintro e w3 ⟨rfl, hb⟩
            have B3 := Lib.hid hb
            clear hb
            go_wp2_with fail
            refine (OF2.out w3 B3.out).mono ?_
            rintro e w4 ⟨rfl, hb⟩
            have B4 := Lib.hid (below_on B3.out (Nat.le_refl _) hb)
            clear hb
            go_wp2_with fail
            refine (known_any _).mono ?_
            rintro e w5 ⟨rfl, hbk⟩
            have BK := Lib.hid (below_on HBW.out (Nat.le_refl _) (below_on B4.out (Nat.le_refl _) hbk))
            clear hbk
            go_wp2
            go_ret
            exact ⟨rfl, BK.out⟩

      · clear eM eM2 ek hU
        rcases Bool.eq_false_or_eq_true (ot a m k i) with ho | ho
        · have k1 : decide ((i : Int) < 8) = true := decide_eq_true (by omega)
          have k2 : decide ((q : Int) + (i : Int) < (NA : Int)) = false := decide_eq_false (by omega)
          have RW : Hid (Rd wr (some ⟨g, 0, none⟩) (st a m k i)) := Lib.hid (Rv.of_own HO.out)
          have HLS : Hid ((st a m k i).length = NA) := Lib.hid (by rw [st_len]; exact HA.out)
          have OF1 := Lib.hid (of_any wr A a NA ca HA.out hca (by omega) (RA.out.below HBW.out))
          have OF2 := Lib.hid (fun (W : World) (hb : Below wr.heap.size wr W) => of_any W (some ⟨g, 0, none⟩) (st a m k i) NA c1 HLS.out hc1 (by omega) (RW.out.below hb))
          obtain ⟨d1, hd1⟩ : ∃ d1, chk a = d1 := ⟨_, rfl⟩
          obtain ⟨d2, hd2⟩ : ∃ d2, chk (st a m k i) = d2 := ⟨_, rfl⟩
          rw [hd1] at OF1 IFF
          rw [hd2] at OF2 IFF
          have hq : (d1 != d2) = true := by
            have h := IFF.out
            rw [ho] at h
            simp at h
            simpa using h
          have hq2 : ((d1 : Int) != (d2 : Int)) = true := by
            have h : d1 ≠ d2 := by simpa using hq
            simp
            omega
          rw [ho]
          clear hd1 hd2 ho IFF
          go_wp2_with fail
          refine OF1.out.mono ?_
          rintro e w3 ⟨rfl, hb⟩
          have B3 := Lib.hid hb
          clear hb
          go_wp2_with fail
          refine (OF2.out w3 B3.out).mono ?_
          rintro e w4 ⟨rfl, hb⟩
          have B4 := Lib.hid (below_on B3.out (Nat.le_refl _) hb)
          clear hb
          go_wp2_with fail
          refine (known_any _).mono ?_
          rintro e w5 ⟨rfl, hbk⟩
          have BK := Lib.hid (below_on HBW.out (Nat.le_refl _) (below_on B4.out (Nat.le_refl _) hbk))
          clear hbk
          go_wp2
          go_ret
          exact ⟨rfl, BK.out⟩
        · have k1 : decide ((i : Int) < 8) = true := decide_eq_true (by omega)
          have k2 : decide ((q : Int) + (i : Int) < (NA : Int)) = false := decide_eq_false (by omega)
          have RW : Hid (Rd wr (some ⟨g, 0, none⟩) (st a m k i)) := Lib.hid (Rv.of_own HO.out)
          have HLS : Hid ((st a m k i).length = NA) := Lib.hid (by rw [st_len]; exact HA.out)
          have OF1 := Lib.hid (of_any wr A a NA ca HA.out hca (by omega) (RA.out.below HBW.out))
          have OF2 := Lib.hid (fun (W : World) (hb : Below wr.heap.size wr W) => of_any W (some ⟨g, 0, none⟩) (st a m k i) NA c1 HLS.out hc1 (by omega) (RW.out.below hb))
          obtain ⟨d1, hd1⟩ : ∃ d1, chk a = d1 := ⟨_, rfl⟩
          obtain ⟨d2, hd2⟩ : ∃ d2, chk (st a m k i) = d2 := ⟨_, rfl⟩
          rw [hd1] at OF1 IFF
          rw [hd2] at OF2 IFF
          obtain rfl : d1 = d2 := IFF.out.2 ho
          rw [ho]
          clear hd1 hd2 ho IFF
          go_wp2_with fail
          refine OF1.out.mono ?_
          rintro e w3 ⟨rfl, hb⟩
          have B3 := Lib.hid hb
          clear hb
          go_wp2_with fail
          refine (OF2.out w3 B3.out).mono ?_
          rintro e w4 ⟨rfl, hb⟩
          have B4 := Lib.hid (below_on B3.out (Nat.le_refl _) hb)
          clear hb
          go_wp2_with fail
          refine (known_any _).mono ?_
          rintro e w5 ⟨rfl, hbk⟩
          have BK := Lib.hid (below_on HBW.out (Nat.le_refl _) (below_on B4.out (Nat.le_refl _) hbk))
          clear hbk
          go_wp2
          go_ret
          exact ⟨rfl, BK.out⟩

    · clear eM eM2 ek hU
      rcases Bool.eq_false_or_eq_true (ot a m k i) with ho | ho
      · have k1 : decide ((i : Int) < 8) = false := decide_eq_false (by omega)
        have RW : Hid (Rd wr (some ⟨g, 0, none⟩) (st a m k i)) := Lib.hid (Rv.of_own HO.out)
        have HLS : Hid ((st a m k i).length = NA) := Lib.hid (by rw [st_len]; exact HA.out)
        have OF1 := Lib.hid (of_any wr A a NA ca HA.out hca (by omega) (RA.out.below HBW.out))
        have OF2 := Lib.hid (fun (W : World) (hb : Below wr.heap.size wr W) => of_any W (some ⟨g, 0, none⟩) (st a m k i) NA c1 HLS.out hc1 (by omega) (RW.out.below hb))
        obtain ⟨d1, hd1⟩ : ∃ d1, chk a = d1 := ⟨_, rfl⟩
        obtain ⟨d2, hd2⟩ : ∃ d2, chk (st a m k i) = d2 := ⟨_, rfl⟩
        rw [hd1] at OF1 IFF
        rw [hd2] at OF2 IFF
        have hq : (d1 != d2) = true := by
          have h := IFF.out
          rw [ho] at h
          simp at h
          simpa using h
        have hq2 : ((d1 : Int) != (d2 : Int)) = true := by
          have h : d1 ≠ d2 := by simpa using hq
          simp
          omega
        rw [ho]
        clear hd1 hd2 ho IFF
        go_wp2_with fail
        refine OF1.out.mono ?_
        rintro e w3 ⟨rfl, hb⟩
        have B3 := Lib.hid hb
        clear hb
        go_wp2_with fail
        refine (OF2.out w3 B3.out).mono ?_
        rintro e w4 ⟨rfl, hb⟩
        have B4 := Lib.hid (below_on B3.out (Nat.le_refl _) hb)
        clear hb
        go_wp2_with fail
        refine (known_any _).mono ?_
        rintro e w5 ⟨rfl, hbk⟩
        have BK := Lib.hid (below_on HBW.out (Nat.le_refl _) (below_on B4.out (Nat.le_refl _) hbk))
        clear hbk
        go_wp2
        go_ret
        exact ⟨rfl, BK.out⟩
      · have k1 : decide ((i : Int) < 8) = false := decide_eq_false (by omega)
        have RW : Hid (Rd wr (some ⟨g, 0, none⟩) (st a m k i)) := Lib.hid (Rv.of_own HO.out)
        have HLS : Hid ((st a m k i).length = NA) := Lib.hid (by rw [st_len]; exact HA.out)
        have OF1 := Lib.hid (of_any wr A a NA ca HA.out hca (by omega) (RA.out.below HBW.out))
        have OF2 := Lib.hid (fun (W : World) (hb : Below wr.heap.size wr W) => of_any W (some ⟨g, 0, none⟩) (st a m k i) NA c1 HLS.out hc1 (by omega) (RW.out.below hb))
        obtain ⟨d1, hd1⟩ : ∃ d1, chk a = d1 := ⟨_, rfl⟩
        obtain ⟨d2, hd2⟩ : ∃ d2, chk (st a m k i) = d2 := ⟨_, rfl⟩
        rw [hd1] at OF1 IFF
        rw [hd2] at OF2 IFF
        obtain rfl : d1 = d2 := IFF.out.2 ho
        rw [ho]
        clear hd1 hd2 ho IFF
        go_wp2_with fail
        refine OF1.out.mono ?_
        rintro e w3 ⟨rfl, hb⟩
        have B3 := Lib.hid hb
        clear hb
        go_wp2_with fail
        refine (OF2.out w3 B3.out).mono ?_
        rintro e w4 ⟨rfl, hb⟩
        have B4 := Lib.hid (below_on B3.out (Nat.le_refl _) hb)
        clear hb
        go_wp2_with fail
        refine (known_any _).mono ?_
        rintro e w5 ⟨rfl, hbk⟩
        have BK := Lib.hid (below_on HBW.out (Nat.le_refl _) (below_on B4.out (Nat.le_refl _) hbk))
        clear hbk
        go_wp2
        go_ret
        exact ⟨rfl, BK.out⟩


theorem walk (A : Option Addr) (a : List UInt8) (ca : Nat) (which : Int) (B : Option Addr) (m : List UInt8) (cb : Nat) (w : World) (hRA : Rd w A a) (_ : a.length ≤ 140737488351232) (hca : a.length ≤ ca) (_ : (Lit.int .i64 which).wf = true) (hRB : Rd w B m) (hmb : m.length ≤ 140737488351232) (_ : m.length ≤ cb) :
    Calls Try.prog 5 #[.slice A a.length ca, .int .i64 which, .slice B m.length cb] w fun e w' => e = .returned (.bool true) ∧ Below w.heap.size w w' := by
  by_cases h0 : a.length = 0
  · exact walk_a A _ ca which B _ cb w h0
  · by_cases h1 : 4000 < a.length
    · exact walk_b A _ ca which B _ cb w h1
    · exact walk_c A a _ ca which B m _ cb w rfl rfl (by omega) (by omega) hmb hca hRA hRB

set_option maxRecDepth 100000 in
theorem lifted (os : Os) (started : os.Started) (H : Type) (enc : TypeId × Value → H) :
    ReturnsInHanded {} Try.checked os 5 .any (Rows.sumTellsSpec.pre6 enc Try.prog Try.f5 Rows.sumTellsRow.domain false) (Rows.sumTellsSpec.post enc Try.prog Try.f5 false true false false) := by
  refine returnsInHanded_of_change_sized (C := Try.checked) ownB started (by kernel_rfl) Try.func5
    (ChangeSpec.witness6 (enc := enc) (C := Try.checked) false ⟨#[], #[.slice none 0 0, .int .i64 0, .slice none 0 0], []⟩ 8 (by kernel_rfl) (by kernel_rfl) (by kernel_rfl) (by kernel_rfl)) ?_
  intro W base args ds gs before hval0 hW _ hsz0 _
  have hsz : (DataW.weightsEach Try.prog (Try.f5.params.toList ++ Rows.sumTellsSpec.plain.varTypes Try.prog) (ds ++ gs)).all (· ≤ reachBytes) = true := hsz0
  clear hsz0
  have hval : ∀ (j : Nat) t v, Try.f5.params[j]? = some t → args[j]? = some v → Value.okWide Try.prog W .any base t v := hval0
  have hW' := hW
  obtain ⟨p, q, hA0, hV, rfl, hfz, hnd⟩ := hW
  have hA : DataW.TrodAll enc Try.prog W 0 (fun _ => true) true Try.f5.params.toList args.toList ds p := hA0
  rw [Try.params5] at hA hval hsz
  obtain ⟨v0, vs0, d0, ds0, p0, q0, hargs, rfl, rfl, h0, r0⟩ := trodAll_cons hA
  obtain ⟨v1, vs1, d1, ds1, p1, q1, rfl, rfl, rfl, h1, r1⟩ := trodAll_cons r0
  obtain ⟨v2, vs2, d2, ds2, p2, q2, rfl, rfl, rfl, h2, r2⟩ := trodAll_cons r1
  obtain ⟨rfl, rfl, rfl⟩ := trodAll_nil r2
  obtain rfl : args = #[v0, v1, v2] := by cases args; simp_all
  obtain ⟨rfl, rfl⟩ := trodVars_none hV
  obtain ⟨a0, len0, cap0, rfl⟩ := okWide_slice Try.underlying22 (hval 0 22 v0 rfl rfl)
  have k0 := h0
  have lt0 : ∀ x ∈ p0, x.block < W.heap.size := by obtain ⟨m, hm⟩ := k0; exact DataW.trod_lt m _ _ _ hm
  obtain ⟨l0, rfl, hc0, rd0, hd0⟩ := open_bytes h0
  have hs0 : l0.length ≤ 140737488351232 := by
    rcases hd0 with ⟨h, _⟩ | ⟨es, sp, rfl, h⟩
    · omega
    · have := sized_slice hsz (j := 0) (t := 22) (e := 5) rfl rfl Try.underlying22
      rw [bytes_byte] at this
      simp only [reachBytes] at this
      omega
  obtain ⟨a1, rfl, rfl, rfl, w1⟩ := open_int Try.underlying3 (hval 1 3 v1 rfl rfl) h1
  obtain ⟨a2, len2, cap2, rfl⟩ := okWide_slice Try.underlying22 (hval 2 22 v2 rfl rfl)
  have k2 := h2
  have lt2 : ∀ x ∈ p2, x.block < W.heap.size := by obtain ⟨m, hm⟩ := k2; exact DataW.trod_lt m _ _ _ hm
  obtain ⟨l2, rfl, hc2, rd2, hd2⟩ := open_bytes h2
  have hs2 : l2.length ≤ 140737488351232 := by
    rcases hd2 with ⟨h, _⟩ | ⟨es, sp, rfl, h⟩
    · omega
    · have := sized_slice hsz (j := 2) (t := 22) (e := 5) rfl rfl Try.underlying22
      rw [bytes_byte] at this
      simp only [reachBytes] at this
      omega
  clear hA0 hval0
  refine (walk a0 l0 cap0 a1 a2 l2 cap2 W rd0 hs0 hc0 w1 rd2 hs2 hc2).mono fun e W' ⟨he, bel⟩ => ?_
  subst he
  exact ⟨_, rfl, _, _, _, [], _, [], hW', trodAll_mk1 (shut_bool Try.underlying4 _), (trodAll_cons_mk (Below.trod laidOut (by kernel_rfl) (of_decide_eq_true (by kernel_rfl)) k0 bel lt0) (trodAll_cons_mk (shut_int Try.underlying3 w1) (trodAll_cons_mk (Below.trod laidOut (by kernel_rfl) (of_decide_eq_true (by kernel_rfl)) k2 bel lt2) trodAll_mk0))), rfl, bel.frame _, fun h => by cases h⟩

theorem proved : Rows.SumTellsSaid :=
  OpenClaim.holds_of_wide 5 Try.f5 rfl rfl rfl rfl rfl rfl rfl ⟨rfl, rfl, rfl, rfl, rfl⟩ rfl rfl rfl rfl rfl (by kernel_rfl) Try.func5 (by kernel_rfl)
    (of_decide_eq_true (by kernel_rfl)) (by unfold Func.isWrapper; rw [if_neg (by decide +kernel)]; exact ⟨rfl, rfl⟩)
    (fun os started H enc _ => lifted os started H enc)

#print axioms proved

end Go.Proofs.Ytcmfejehlkbmoaa.sumTells
