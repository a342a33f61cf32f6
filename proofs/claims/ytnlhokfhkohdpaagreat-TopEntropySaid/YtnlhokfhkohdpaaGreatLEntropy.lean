/-
  Proved: the law TopEntropy returns true for all bytes and bounds: the bytes of any string are restored by the entropy coder. No condition.
-/
import Derived.BigQuiet
import Derived.Deep.QuietTactic
import Derived.Deep.CutRange
import Derived.Test.YtnlhokfhkohdpaaGreatEn
import Derived.Test.YtnlhokfhkohdpaaGreatSi
namespace Go.Proofs.YtnlhokfhkohdpaaGreat.topEntropy
open Go.ChangeShapes Go.WideShapes Go.ChangeAt Go.RowKit

set_option maxRecDepth 100000 in
set_option maxHeartbeats 4000000 in
theorem walk_none (B : Option Addr) (cb : Nat) (most : Int) (w : World) :
    Calls Tryz.prog 3 #[.slice B 0 cb, .int .i64 most] w fun e w' => e = .returned (.bool true) ∧ Below w.heap.size w w' := by
  go_enter Tryz.func3, Tryz.ntmps3
  go_wp2_with (go_at_call 4; refine (alive_any _).mono ?_; rintro e w9 ⟨rfl, hb9⟩; have B9 := Lib.hid (hb9); clear hb9)
  go_ret
  exact ⟨rfl, B9.out⟩

set_option maxRecDepth 100000 in
set_option maxHeartbeats 4000000 in
theorem walk_long (B : Option Addr) (nb cb : Nat) (most : Int) (w : World) (h : 2000 < nb) :
    Calls Tryz.prog 3 #[.slice B nb cb, .int .i64 most] w fun e w' => e = .returned (.bool true) ∧ Below w.heap.size w w' := by
  have k0 : ((nb : Int) == 0) = false := by simp; omega
  have k1 : decide ((2000 : Int) < (nb : Int)) = true := decide_eq_true (by omega)
  go_enter Tryz.func3, Tryz.ntmps3
  go_wp2_with (go_at_call 4; refine (alive_any _).mono ?_; rintro e w9 ⟨rfl, hb9⟩; have B9 := Lib.hid (hb9); clear hb9)
  go_ret
  exact ⟨rfl, B9.out⟩

set_option maxRecDepth 100000 in
set_option maxHeartbeats 4000000 in
theorem walk_low (B : Option Addr) (D : List UInt8) (nb cb : Nat) (most : Int) (w : World) (hD : D.length = nb) (hcb : nb ≤ cb) (h1 : 1 ≤ nb) (h2 : nb ≤ 2000) (hRB : Rd w B D) (hlo : No.rcl ((Ta.hs D).map (fun n : Nat => (n : Int))) most < 1) :
    Calls Tryz.prog 3 #[.slice B nb cb, .int .i64 most] w fun e w' => e = .returned (.bool true) ∧ Below w.heap.size w w' := by
  have k0 : ((nb : Int) == 0) = false := by simp; omega
  have k1 : decide ((2000 : Int) < (nb : Int)) = false := decide_eq_false (by omega)
  have b1 := below_new w (.cells #[.slice B nb cb] 22)
  have r1 : Ta.RdR (w.alloc (.cells #[.slice B nb cb] 22)) (some ⟨w.heap.size, 0, none⟩) [(B, D, cb)] := one_slice w B D nb cb hD hcb hRB
  obtain ⟨w1, hw1⟩ : ∃ w1, w.alloc (.cells #[.slice B nb cb] 22) = w1 := ⟨_, rfl⟩
  rw [hw1] at b1 r1
  have HG := Ta.histogram_any w1 (some ⟨w.heap.size, 0, none⟩) [(B, D, cb)] 1 1 rfl (by decide) (by rw [flt_one, hD]; omega) r1
  rw [flt_one] at HG
  have HG := Lib.hid HG
  have B1 := Lib.hid b1
  have RB := Lib.hid hRB
  have RC : Hid (∀ W, Ta.Ab W w1.heap.size (Ta.hs D) → Calls Tryz.prog 6 #[.slice (some ⟨w1.heap.size, 0, none⟩) 256 256, .int .i64 most] W fun e w' => e = .returned (.int .i64 (No.rcl ((Ta.hs D).map (fun n : Nat => (n : Int))) most)) ∧ w' = W) := Lib.hid (fun W hA =>
    No.recommend_any W _ _ 256 256 most (by rw [List.length_map, Ta.hs_len]) (by decide) (by show Rv _ _ _; rw [No.ri_nats]; exact hA.rn))
  obtain ⟨R, hR⟩ : ∃ R, No.rcl ((Ta.hs D).map (fun n : Nat => (n : Int))) most = R := ⟨_, rfl⟩
  rw [hR] at RC
  rw [hR] at hlo
  have k2 : decide (R < 1) = true := decide_eq_true hlo
  clear b1 r1 hRB hR hlo hD
  go_enter Tryz.func3, Tryz.ntmps3
  go_wp2_with (first
    | (go_at_call 5; refine HG.out.mono ?_; rintro e w2 ⟨rfl, ha2, hb2⟩; have A2 := Lib.hid ha2; have B2 := Lib.hid (below_on B1.out (Nat.le_refl _) hb2); clear ha2 hb2)
    | (go_at_call 6; refine (RC.out w2 A2.out).mono ?_; rintro e w2 ⟨rfl, rfl⟩)
    | (go_at_call 4; refine (alive_any _).mono ?_; rintro e w9 ⟨rfl, hb9⟩; have B9 := Lib.hid (below_on B2.out (Nat.le_refl _) hb9); clear hb9))
  go_ret
  exact ⟨rfl, B9.out⟩

set_option maxRecDepth 100000 in
set_option maxHeartbeats 4000000 in
theorem walk_ok (B : Option Addr) (D : List UInt8) (nb cb : Nat) (most : Int) (w : World) (hD : D.length = nb) (hcb : nb ≤ cb) (h1 : 1 ≤ nb) (h2 : nb ≤ 2000) (hRB : Rd w B D) (lg : Nat) (hlg : No.rcl ((Ta.hs D).map (fun n : Nat => (n : Int))) most = (lg : Int)) (hl1 : 1 ≤ lg) (hg : No.Gd (Ta.hs D) lg (2 ^ lg)) :
    Calls Tryz.prog 3 #[.slice B nb cb, .int .i64 most] w fun e w' => e = .returned (.bool true) ∧ Below w.heap.size w w' := by
  have k0 : ((nb : Int) == 0) = false := by simp; omega
  have k1 : decide ((2000 : Int) < (nb : Int)) = false := decide_eq_false (by omega)
  have b1 := below_new w (.cells #[.slice B nb cb] 22)
  have r1 : Ta.RdR (w.alloc (.cells #[.slice B nb cb] 22)) (some ⟨w.heap.size, 0, none⟩) [(B, D, cb)] := one_slice w B D nb cb hD hcb hRB
  obtain ⟨w1, hw1⟩ : ∃ w1, w.alloc (.cells #[.slice B nb cb] 22) = w1 := ⟨_, rfl⟩
  rw [hw1] at b1 r1
  have HG := Ta.histogram_any w1 (some ⟨w.heap.size, 0, none⟩) [(B, D, cb)] 1 1 rfl (by decide) (by rw [flt_one, hD]; omega) r1
  rw [flt_one] at HG
  have HG := Lib.hid HG
  have B1 := Lib.hid b1
  have RB := Lib.hid hRB
  have RC : Hid (∀ W, Ta.Ab W w1.heap.size (Ta.hs D) → Calls Tryz.prog 6 #[.slice (some ⟨w1.heap.size, 0, none⟩) 256 256, .int .i64 most] W fun e w' => e = .returned (.int .i64 (No.rcl ((Ta.hs D).map (fun n : Nat => (n : Int))) most)) ∧ w' = W) := Lib.hid (fun W hA =>
    No.recommend_any W _ _ 256 256 most (by rw [List.length_map, Ta.hs_len]) (by decide) (by show Rv _ _ _; rw [No.ri_nats]; exact hA.rn))
  obtain ⟨R, hR⟩ : ∃ R, No.rcl ((Ta.hs D).map (fun n : Nat => (n : Int))) most = R := ⟨_, rfl⟩
  rw [hR] at RC
  obtain rfl : R = (lg : Int) := by rw [← hR, hlg]
  have k2 : decide ((lg : Int) < 1) = false := decide_eq_false (by omega)
  have hl9 : lg ≤ 9 := hg.log
  have hk := Ta.hs_len D
  have hqv := nrm_vt hg hk
  have hqs := sym8_nos hg
  have hql : (No.nrm (Ta.hs D) (2 ^ lg)).length = No.lst (Ta.hs D) + 1 := by simp [No.nrm]
  obtain ⟨q, hq⟩ : ∃ q, No.nrm (Ta.hs D) (2 ^ lg) = q := ⟨_, rfl⟩
  obtain ⟨L, hL⟩ : ∃ L, No.lst (Ta.hs D) + 1 = L := ⟨_, rfl⟩
  rw [hq] at hqv hqs hql
  rw [hL] at hql
  have hL5 : L ≤ 256 := by rw [← hql]; exact hqv.len
  have NZ : Hid (∀ W, Ta.Ab W w1.heap.size (Ta.hs D) → Calls Tryz.prog 7 #[.slice (some ⟨w1.heap.size, 0, none⟩) 256 256, .int .i64 (lg : Int)] W fun e w' => ∃ g, e = .returned (.tuple #[tb lg (some ⟨g, 0, none⟩) L L, .int .i64 0]) ∧ w'.ownsRow W.heap.size 3 1 (.slice (some ⟨g, 0, none⟩) L L) L (q.map iv) ∧ Below W.heap.size W w') := Lib.hid (fun W hA => by
    have := No.normalize_ok W (some ⟨w1.heap.size, 0, none⟩) (Ta.hs D) 256 256 lg (2 ^ lg) hk (by decide) hA.rn hg.tot hg.pos hg.log rfl hg.use
    rw [hL, hq] at this
    exact this)
  have DC := dcd_own hl1 hqv
  obtain ⟨X, hX⟩ : ∃ X, Bt.pack (De.descr lg q) = X := ⟨_, rfl⟩
  have hXl : X.length ≤ 1000 := by
    have h9 := De.descr_len (de_vt hqv)
    rw [← hX, Bt.pack_len]
    omega
  have HEN : Hid (∀ W A, Ri W A q → Calls Tryz.prog 8 #[tb (lg : Int) A L L] W (De.EncP W X 0)) := Lib.hid (fun W A hR => by
    have := De.encode_ok W lg A q L L hql (Nat.le_refl _) hR (de_vt hqv) hl1
    rw [hX] at this
    exact this)
  rw [hX] at DC
  obtain ⟨Xn, hXn⟩ : ∃ n, X.length = n := ⟨_, rfl⟩
  have HDC : Hid (∀ W c A cap, Nm.Cur W c A cap X 0 → Calls Tryz.prog 10 #[.pointer (some ⟨c, 0, none⟩), .int .i64 256, .int .i64 (lg : Int)] W (De.DecP W c A cap X 0 (0, lg, q, Xn))) := Lib.hid (fun W c A cap h => by
    have := De.decode_any h (by omega) 256 (lg : Int)
    rw [List.drop_zero, DC, hXn] at this
    exact this)
  have HSM : Hid (∀ W A A', Ri W A q → Ri W A' q → ∀ c c', Calls Tryz.prog 12 #[tb (lg : Int) A L c, tb (lg : Int) A' L c'] W fun e w' => e = .returned (.bool true) ∧ Below W.heap.size W w') := Lib.hid (fun W A A' h1 h2 c c' => by
    have := rsame_any W (lg : Int) (lg : Int) A A' q q L c L c' hql hql (by omega) h1 h2
    rwa [show sam (lg : Int) (lg : Int) q q = true by simp [sam]] at this)
  have hFb : (fby lg q (sym8 D)).length ≤ 3000 := by
    have := fby_len hqv hqs
    rw [sym8_len, hD] at this
    omega
  obtain ⟨Y, hY⟩ : ∃ Y, fby lg q (sym8 D) = Y := ⟨_, rfl⟩
  have HFE : Hid (∀ W A M cm, Ri W A q → Ri W M ((sym8 D).map (fun n : Nat => (n : Int))) → nb ≤ cm → Calls Tryz.prog 13 #[tb (lg : Int) A L L, .slice M nb cm] W (Eres W (0, Y))) := Lib.hid (fun W A M cm h1 h2 h3 => by
    have := fenc_any W (lg : Int) A q L L hql (by omega) (Nat.le_refl _) h1 M ((sym8 D).map (fun n : Nat => (n : Int))) nb cm (by rw [List.length_map, sym8_len, hD]) (by omega) h3 h2
    rw [feR_ok hqv hqs (by rw [sym8_len]; omega), hY] at this
    exact this)
  rw [hY] at hFb
  have HFD : Hid (∀ W A c Z nz cz, Ri W A q → Bt.Rd W Z Y → Y.length = nz → Calls Tryz.prog 14 #[tb (lg : Int) A L c, .slice Z nz cz, .int .i64 (nb : Int)] W (Fres W (0, sym8 D))) := Lib.hid (fun W A c Z nz cz h1 h2 h3 => by
    have := fdec_any W (lg : Int) A q L c hql (by omega) h1 Z Y nz cz h3 (by omega) h2 (nb : Int)
    have e := fdR_back hqv hqs (by rw [sym8_len]; omega)
    rw [sym8_len, hD, hY] at e
    rw [e] at this
    exact this)
  have HN := Lib.hid (And.intro hD (And.intro hcb (And.intro hXn hql)))
  clear b1 r1 hRB hR hlg hD hg hk hqv hqs hql hq hL DC hX hY
  go_enter Tryz.func3, Tryz.ntmps3
  go_upto_region 11 with (first
    | (go_at_call 5; refine HG.out.mono ?_; rintro e w2 ⟨rfl, ha2, hb2⟩; have A2 := Lib.hid ha2; have B2 := Lib.hid (below_on B1.out (Nat.le_refl _) hb2); clear ha2 hb2)
    | (go_at_call 6; refine (RC.out w2 A2.out).mono ?_; rintro e w2 ⟨rfl, rfl⟩)
    | (go_at_call 7; refine (NZ.out w2 A2.out).mono ?_; rintro e w3 ⟨g, rfl, ho3, hb3⟩; obtain ⟨u1, u2, w5, hu1, k0', f0, hu2, k1', f1, hw5, ht5, hb5, hB5⟩ := new_tab (below_on B2.out (Nat.le_refl _) hb3) (lg : Int) (some ⟨g, 0, none⟩) L L; have c0 := ht5.c0; have c1 := ht5.c1; have T5 := Lib.hid ht5; have Q5 := Lib.hid (Rv.below (Rv.of_own ho3) hb5); have B5 := Lib.hid hB5; clear ho3 hb3 ht5 hb5 hB5)
    | (go_at_call 8; refine (HEN.out w5 _ Q5.out).mono ?_; rintro e w6 ⟨A6, n6, c6, rfl, hn6, ho6, hb6⟩; have T6 := Lib.hid (T5.out.below hb6); have Q6 := Lib.hid (Rv.below Q5.out hb6); have X6 := Lib.hid (And.intro (Bt.Rv.of_own ho6) hn6); have B6 := Lib.hid (below_on B5.out (Nat.le_refl _) hb6); clear ho6 hb6 hn6)
    | (go_at_call 9; refine (Nm.new_n w6 A6 X n6 c6 X6.out.2.symm (by have := X6.out.2; omega) (De.bt_nm X6.out.1)).mono ?_; rintro e w7 ⟨cu, A7, cap7, rfl, hge7, hcu7, hb7⟩; have C7 := Lib.hid hcu7; have T7 := Lib.hid (T6.out.below hb7); have Q7 := Lib.hid (Rv.below Q6.out hb7); have G7 := Lib.hid (And.intro hge7 (And.intro T6.out.lt hb7)); have B7 := Lib.hid (below_on B6.out (Nat.le_refl _) hb7); clear hcu7 hge7 hb7)
    | (go_at_call 10; refine (HDC.out w7 cu A7 cap7 C7.out).mono ?_; rintro e w8 ⟨A8, n8, c8, rfl, hcu8, hg8, ho8⟩; have h68 := G7.out.2.2.grown hg8 G7.out.2.2.size (fun j ej => by cases ej; exact G7.out.1); have hn8 : L = n8 := (by have h9 := ho8.1; rw [List.length_map, HN.out.2.2.2] at h9; omega); obtain rfl := hn8; obtain ⟨u3, u4, w11, hu3, k3', f3, hu4, k4', f4, hw11, ht11, hb11, hB11⟩ := new_tab (below_on B6.out (Nat.le_refl _) h68) (lg : Int) A8 L c8; have d0 := ht11.c0; have d1 := ht11.c1; have t9 := (T6.out.below h68).below hb11; have e0 := t9.c0; have e1 := t9.c1; have TA := Lib.hid t9; have TB := Lib.hid ht11; have QA := Lib.hid (Rv.below (Rv.below Q6.out h68) hb11); have QB := Lib.hid (Rv.below (Rv.of_own ho8) hb11); have CU := Lib.hid (hcu8.below hb11); have B11 := Lib.hid hB11; clear hcu8 hg8 ho8 h68 ht11 hb11 hB11 t9))
  have EN := Nm.end_any CU.out
  rw [if_neg (by have := HN.out.2.2.1; omega)] at EN
  have EN := Lib.hid EN
  go_upto_region 14 with (first
    | (go_at_call 11; refine EN.out.mono ?_; rintro e w12 ⟨rfl, dd, hw12⟩; have TA2 : Hid (Tb w12 w3.heap.size (lg : Int) (some ⟨g, 0, none⟩) L L) := Lib.hid (by rw [hw12]; exact TA.out); have TB2 : Hid (Tb w12 w8.heap.size (lg : Int) A8 L c8) := Lib.hid (by rw [hw12]; exact TB.out); have QA2 : Hid (Ri w12 (some ⟨g, 0, none⟩) q) := Lib.hid (by rw [hw12]; exact QA.out); have QB2 : Hid (Ri w12 A8 q) := Lib.hid (by rw [hw12]; exact QB.out); have B12 : Hid (Below w.heap.size w w12) := Lib.hid (by rw [hw12]; exact below_drewN' B11.out dd); have x0 := TA2.out.c0; have x1 := TA2.out.c1; have y0 := TB2.out.c0; have y1 := TB2.out.c1; clear hw12)
    | (go_at_call 12; refine (HSM.out w12 _ _ QA2.out QB2.out L c8).mono ?_; rintro e w13 ⟨rfl, hb13⟩; have TA3 := Lib.hid (TA2.out.below hb13); have TB3 := Lib.hid (TB2.out.below hb13); have QA3 := Lib.hid (Rv.below QA2.out hb13); have QB3 := Lib.hid (Rv.below QB2.out hb13); have B13 := Lib.hid (below_on B12.out (Nat.le_refl _) hb13); clear hb13))
  have O13 : Hid (w13.ownsRow w13.heap.size 3 1 (.slice none 0 0) 0 (((sym8 D).take 0).map nv)) := Lib.hid (World.ownsRow_nil _ _ _ _)
  have HW : Hid (w.heap.size ≤ w13.heap.size) := Lib.hid B13.out.size
  clear EN HG RC HSM HDC HEN NZ k0 k1 k2
  go_wp2_with fail
  go_loopw [14, 15] (fun o p wr => ∃ (i c' : Nat) (A' : Option Addr), i ≤ nb ∧ o = .slice A' i c' ∧ p = .int .i64 (i : Int) ∧ Hid (wr.ownsRow w13.heap.size 3 1 (.slice A' i c') i (((sym8 D).take i).map nv)) ∧ Hid (Below w13.heap.size w13 wr)) (fun _ p _ => nb - (intOf p).toNat)
  case atStart => exact ⟨0, 0, none, Nat.zero_le _, rfl, rfl, O13, Lib.hid (Below.refl _ _)⟩
  case round =>
    clear O13
    obtain ⟨i, c', A', hi, rfl, rfl, HO, HB⟩ := hrel
    by_cases hlt : i < nb
    · obtain ⟨v, hv⟩ : ∃ v, D[i]? = some v := ⟨_, List.getElem?_eq_getElem (by rw [HN.out.1]; exact hlt)⟩
      obtain ⟨ad, hBa, hcv⟩ := RB.out i (byt v) (by rw [List.getElem?_map, hv]; rfl)
      subst hBa
      have hc1 : wr.cell? (ad.add i) = some (.int .u8 (v.toNat : Int)) := ((below_on B13.out (Nat.le_refl _) HB.out).cell (cell_lt hcv)).trans hcv
      have HXS : Hid (((sym8 D).take (i + 1)).map nv = ((sym8 D).take i).map nv ++ [.int .i64 (v.toNat : Int)]) := Lib.hid (by
        have e : (sym8 D)[i]? = some v.toNat := by unfold sym8; rw [List.getElem?_map, hv]; rfl
        rw [take_succ_get e, List.map_append]
        rfl)
      have hv5 : v.toNat ≤ 255 := by have := v.toNat_lt; omega
      obtain ⟨vn, hvn⟩ : ∃ vn, v.toNat = vn := ⟨_, rfl⟩
      rw [hvn] at hc1 HXS hv5
      have LR : Hid (Rv (wr.alloc (.cells #[.int .i64 (vn : Int)] 3)) (some ⟨wr.heap.size, 0, none⟩) [.int .i64 (vn : Int)]) := Lib.hid (No.lit_rv wr [.int .i64 (vn : Int)] wr.heap.size rfl)
      have bl := below_new wr (.cells #[.int .i64 (vn : Int)] 3)
      obtain ⟨xs, hxs⟩ : ∃ xs, ((sym8 D).take i).map nv = xs := ⟨_, rfl⟩
      rw [hxs] at HO HXS
      have OB := Lib.hid (own_below HO.out bl)
      have BL := Lib.hid (below_on HB.out (Nat.le_refl _) bl)
      have HZ : Hid (w13.heap.size ≤ (wr.alloc (.cells #[.int .i64 (vn : Int)] 3)).heap.size) := Lib.hid BL.out.size
      have wi9 : IntKind.i64.wrap (vn : Int) = (vn : Int) := IntWalk.i64_in _ (by omega)
      clear hcv hv hvn hxs bl HO
      go_wp2_with (at_builtin; refine wpList_append_vals Tryz.underlying24 int_info rfl rfl _ _ rfl w13.heap.size (.slice A' i c') i xs rfl OB.out (some ⟨wr.heap.size, 0, none⟩) [.int .i64 (vn : Int)] (by simp [Value.oneCell']) 1 1 rfl rfl LR.out (by omega) (by omega) HZ.out ?_; intro v6 w6 ho6 hg6 _; obtain ⟨A9, c9, rfl, _⟩ := own_form ho6; have O6 := Lib.hid ho6; have B6' := Lib.hid (BL.out.grown hg6 BL.out.size (fun _ ej => own_ge OB.out ej)); clear ho6 hg6)
      exact ⟨⟨i + 1, c9, A9, by omega, rfl, by simp, Lib.hid (by rw [HXS.out]; exact O6.out), B6'⟩, by simp [intOf]; omega⟩
    · have hin : i = nb := by omega
      subst hin
      have hO := HO.out
      rw [List.take_of_length_le (by rw [sym8_len, HN.out.1]; exact Nat.le_refl _)] at hO
      have hcc : i ≤ c' := by obtain ⟨_, _, e, h9⟩ := own_form hO; cases e; exact h9
      have tA := TA3.out.below HB.out
      have tB := TB3.out.below HB.out
      have x2 := tA.c0
      have x3 := tA.c1
      have EC := Lib.hid (HFE.out wr _ A' c' (QA3.out.below HB.out) (by show Rv _ _ _; rw [ri_nats]; exact Rv.of_own hO) hcc)
      have TB4 := Lib.hid tB
      have QB4 := Lib.hid (QB3.out.below HB.out)
      have B4 := Lib.hid (below_on B13.out (Nat.le_refl _) HB.out)
      have O4 := Lib.hid hO
      clear tA tB hO HO HFE
      go_upto_region 22 with (first
        | (go_at_call 13; refine EC.out.mono ?_; intro e w14 h14; obtain ⟨A14, n14, c14, rfl, hb14, hr14, hl14⟩ := h14.out; have tB2 := TB4.out.below hb14; have x4 := tB2.c0; have x5 := tB2.c1; have R14 := Lib.hid (And.intro hr14 hl14); have QB5 := Lib.hid (QB4.out.below hb14); have B14 := Lib.hid (below_on B4.out (Nat.le_refl _) hb14); have O14 := Lib.hid (own_below O4.out hb14); clear h14 hb14 hr14 hl14 tB2)
        | (go_at_call 14; refine (HFD.out w14 A8 c8 A14 n14 c14 QB5.out R14.out.1 R14.out.2).mono ?_; intro e w15 h15; obtain ⟨A15, n15, c15, rfl, hb15, hl15, ho15⟩ := h15.out; have hn15 : i = n15 := (by rw [← HN.out.1, ← sym8_len]; exact hl15); obtain rfl := hn15; have O15 := Lib.hid (own_below O14.out hb15); have Y15 := Lib.hid ho15; have B15 := Lib.hid (below_on B14.out (Nat.le_refl _) hb15); clear h15 hb15 hl15 ho15))
      obtain ⟨g15, rfl⟩ := own_some (by omega) Y15.out
      obtain ⟨g14, rfl⟩ := own_some (by omega) O15.out
      have HSL : Hid ((sym8 D).length = i) := Lib.hid (by rw [sym8_len]; exact HN.out.1)
      clear EC HFD
      go_wp2_with fail
      go_loopw [20] (fun p wq => ∃ k : Nat, k ≤ i ∧ p = .int .i64 (k : Int) ∧ Hid (Below w15.heap.size w15 wq)) (fun p _ => i - (intOf p).toNat)
      case atStart => exact ⟨0, Nat.zero_le _, rfl, Lib.hid (Below.refl _ _)⟩
      case round =>
        obtain ⟨k, hk, rfl, HB5⟩ := hrel
        by_cases hlt2 : k < i
        · obtain ⟨vk, hvk⟩ : ∃ vk, (sym8 D)[k]? = some vk := ⟨_, List.getElem?_eq_getElem (by rw [HSL.out]; exact hlt2)⟩
          have e0 := (own_below Y15.out HB5.out).cellAt k (by omega)
          have e1 := (own_below O15.out HB5.out).cellAt k (by omega)
          rw [List.getElem?_map, hvk] at e0 e1
          simp only [Option.map_some, nv] at e0 e1
          clear hvk
          go_wp2_with fail
          go_quiet (fail)
          go_wp2
          exact ⟨⟨k + 1, by omega, by simp, Lib.hid (below_drewN' HB5.out nq)⟩, by simp [intOf]; omega⟩
        · have hki : k = i := by omega
          go_wp2_with (go_at_call 4; refine (alive_any _).mono ?_; rintro e w9 ⟨rfl, hb9⟩; have B9 := Lib.hid (below_on (below_on B15.out (Nat.le_refl _) HB5.out) (Nat.le_refl _) hb9); clear hb9)
          go_ret
          exact ⟨rfl, B9.out⟩

theorem walk (B : Option Addr) (D : List UInt8) (cb : Nat) (most : Int) (w : World) (hRB : Rd w B D) (_ : D.length ≤ 140737488351232) (hcb : D.length ≤ cb) (_ : (Lit.int IntKind.i64 most).wf = true) :
    Calls Tryz.prog 3 #[.slice B D.length cb, .int .i64 most] w fun e w' => e = .returned (.bool true) ∧ Below w.heap.size w w' := by
  by_cases h0 : D.length = 0
  · rw [h0]
    exact walk_none B cb most w
  · by_cases h2 : 2000 < D.length
    · exact walk_long B _ cb most w h2
    · by_cases hlo : No.rcl ((Ta.hs D).map (fun n : Nat => (n : Int))) most < 1
      · exact walk_low B D _ cb most w rfl hcb (by omega) (by omega) hRB hlo
      · obtain ⟨lg, h3, h4, h5⟩ := rcl_good (Ta.hs_len D) (by omega : 1 ≤ No.rcl ((Ta.hs D).map (fun n : Nat => (n : Int))) most)
        exact walk_ok B D _ cb most w rfl hcb (by omega) (by omega) hRB lg h3 h4 h5

set_option maxRecDepth 100000 in
theorem lifted (os : Os) (started : os.Started) (H : Type) (enc : TypeId × Value → H) :
    ReturnsInHanded {} Tryz.checked os 3 .any (Rows.topEntropySpec.pre6 enc Tryz.prog Tryz.f3 Rows.topEntropyRow.domain false) (Rows.topEntropySpec.post enc Tryz.prog Tryz.f3 false true false false) := by
  refine returnsInHanded_of_change_sized (C := Tryz.checked) ownB started (by kernel_rfl) Tryz.func3
    (ChangeSpec.witness6 (enc := enc) (C := Tryz.checked) false ⟨#[], #[.slice none 0 0, .int .i64 0], []⟩ 8 (by kernel_rfl) (by kernel_rfl) (by kernel_rfl) (by kernel_rfl)) ?_
  intro W base args ds gs before hval0 hW _ hsz0 _
  have hsz : (DataW.weightsEach Tryz.prog (Tryz.f3.params.toList ++ Rows.topEntropySpec.plain.varTypes Tryz.prog) (ds ++ gs)).all (· ≤ reachBytes) = true := hsz0
  clear hsz0
  have hval : ∀ (j : Nat) t v, Tryz.f3.params[j]? = some t → args[j]? = some v → Value.okWide Tryz.prog W .any base t v := hval0
  have hW' := hW
  obtain ⟨p, q, hA0, hV, rfl, hfz, hnd⟩ := hW
  have hA : DataW.TrodAll enc Tryz.prog W 0 (fun _ => true) true Tryz.f3.params.toList args.toList ds p := hA0
  rw [Tryz.params3] at hA hval hsz
  obtain ⟨v0, vs0, d0, ds0, p0, q0, hargs, rfl, rfl, h0, r0⟩ := trodAll_cons hA
  obtain ⟨v1, vs1, d1, ds1, p1, q1, rfl, rfl, rfl, h1, r1⟩ := trodAll_cons r0
  obtain ⟨rfl, rfl, rfl⟩ := trodAll_nil r1
  obtain rfl : args = #[v0, v1] := by cases args; simp_all
  obtain ⟨rfl, rfl⟩ := trodVars_none hV
  obtain ⟨a0, len0, cap0, rfl⟩ := okWide_slice Tryz.underlying22 (hval 0 22 v0 rfl rfl)
  have k0 := h0
  have lt0 : ∀ x ∈ p0, x.block < W.heap.size := by obtain ⟨m, hm⟩ := k0; exact DataW.trod_lt m _ _ _ hm
  obtain ⟨l0, rfl, hc0, rd0, hd0⟩ := open_bytes h0
  have hs0 : l0.length ≤ 140737488351232 := by
    rcases hd0 with ⟨h, _⟩ | ⟨es, sp, rfl, h⟩
    · omega
    · have := sized_slice hsz (j := 0) (t := 22) (e := 5) rfl rfl Tryz.underlying22
      rw [bytes_byte] at this
      simp only [reachBytes] at this
      omega
  obtain ⟨a1, rfl, rfl, rfl, w1⟩ := open_int Tryz.underlying3 (hval 1 3 v1 rfl rfl) h1
  clear hA0 hval0
  refine (walk a0 l0 cap0 a1 W rd0 hs0 hc0 w1).mono fun e W' ⟨he, bel⟩ => ?_
  subst he
  exact ⟨_, rfl, _, _, _, [], _, [], hW', trodAll_mk1 (shut_bool Tryz.underlying4 _), (trodAll_cons_mk (Below.trod laidOut (by kernel_rfl) (of_decide_eq_true (by kernel_rfl)) k0 bel lt0) (trodAll_cons_mk (shut_int Tryz.underlying3 w1) trodAll_mk0)), rfl, bel.frame _, fun h => by cases h⟩

theorem proved : Rows.TopEntropySaid :=
  OpenClaim.holds_of_wide 3 Tryz.f3 rfl rfl rfl rfl rfl rfl rfl ⟨rfl, rfl, rfl, rfl, rfl⟩ rfl rfl rfl rfl rfl (by kernel_rfl) Tryz.func3 (by kernel_rfl)
    (of_decide_eq_true (by kernel_rfl)) (by unfold Func.isWrapper; rw [if_neg (by decide +kernel)]; exact ⟨rfl, rfl⟩)
    (fun os started H enc _ => lifted os started H enc)

#print axioms proved

end Go.Proofs.YtnlhokfhkohdpaaGreat.topEntropy
