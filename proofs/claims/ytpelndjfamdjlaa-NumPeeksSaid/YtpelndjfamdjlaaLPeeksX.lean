/-
  The walks of the law NumPeeks, where some bytes are skipped: it returns true. Conditions: those of each theorem, which together cover all inputs of this way.
-/
import Derived.Test.YtpelndjfamdjlaaLPeeksA
import Derived.Test.YtpelndjfamdjlaaMRst
import Derived.Test.YtpelndjfamdjlaaFrm
import Derived.Deep.RegionWith
namespace Go.Proofs.Ytpelndjfamdjlaa.numPeeks
open Go.ChangeShapes Go.WideShapes Go.ChangeAt Go.RowKit
set_option linter.unusedVariables false

set_option maxRecDepth 100000 in
set_option maxHeartbeats 4000000 in
theorem walk_c1x (A : Option Addr) (l : List UInt8) (k : Nat) (n : Int) (w : World) (hR : Rd w A l) (hs : l.length ≤ 140737488351232) (hc : l.length ≤ k) (hM : l.length = k + 0) (hk0 : 0 < k) (hn : n < 0) :
    Calls Try.prog 6 #[.slice A l.length k, .int .i64 (k : Int), .int .i64 n] w fun e w' => e = .returned (.bool true) ∧ Below w.heap.size w w' := by
  have hxe : (l.drop k).take (n).toNat = (l.drop k).take 0 := by
    rw [show n.toNat = 0 by omega]
  have hxl : ((l.drop k).take 0).length = 0 := by simp
  have OW := Lib.hid (own_any w A l k (by omega) hR)
  have HR := Lib.hid hR
  have HXE := Lib.hid hxe
  have HXL := Lib.hid hxl
  clear hR hxe hxl
  have hN : l.length = k := by omega
  rw [hN] at hs OW ⊢
  have HN := Lib.hid hN
  clear hN hM hc
  go_enter Try.func6, Try.ntmps6
  go_wp2_with fail
  refine OW.out.mono ?_
  rintro e w1 ⟨v1, rfl, A1, c1, rfl, ho1, hb1⟩
  have HB1 := Lib.hid hb1
  have NW := Lib.hid (new_any w1 A1 l c1 (by have := HN.out; omega) (Rd.of_own ho1))
  rw [HN.out] at NW ⊢
  clear ho1 hb1
  go_wp2_with fail
  refine NW.out.mono ?_
  rintro e w0 ⟨c, A2, cap2, rfl, hcw, hcur, hb2⟩
  have HB0 := Lib.hid (below_on HB1.out (Nat.le_refl _) hb2)
  have HCW := Lib.hid (Nat.le_trans HB1.out.size hcw)
  have HY := Lib.hid (bytes_any hcur (by have := HN.out; omega) (k : Int))
  have hcut : cutE (k : Int) (l.length - 0) = 0 := cutE_ok (by omega) (by have := HN.out; omega)
  have HCUT := Lib.hid hcut
  have z1 : decide ((0 : Int) < (k : Int)) = true := decide_eq_true (by omega)
  have z2 : decide ((k : Int) ≤ (k : Int)) = true := decide_eq_true (by omega)
  clear hcw hcur hb2 HB1 NW hcut
  go_wp2_with fail
  refine HY.out.mono ?_
  rintro e w2 ⟨v2, rfl, hc2, hg2, _, _⟩
  rw [HCUT.out] at hc2 ⊢
  rw [if_pos rfl, Nat.zero_add, Int.toNat_natCast] at hc2
  have HB2 := Lib.hid (HB0.out.grown hg2 HB0.out.size (fun j ej => by cases ej; exact HCW.out))
  have HC2 := Lib.hid hc2
  clear hc2 hg2 HB0 HY HCUT z1 z2
  have RST := Lib.hid (fun W (h : Below w2.heap.size w2 W) => rest_any (HC2.out.below h) (by have := HN.out; omega))
  go_wp2_with fail
  refine (peek_any HC2.out (by have := HN.out; omega) n).mono ?_
  rintro e w3 ⟨v3, rfl, A3, c3, rfl, ho3, hb3⟩
  rw [HXE.out] at ho3 ⊢
  rw [HXL.out] at ho3 ⊢
  have HB3 := Lib.hid (below_on HB2.out (Nat.le_refl _) hb3)
  have HB23 := Lib.hid hb3
  have HC3 := Lib.hid (HC2.out.below hb3)
  have HO3 := Lib.hid ho3
  clear ho3 hb3 HC2 OW
  have hkc : k ≤ k := by omega
  have hkm : k + 0 ≤ k := by omega
  go_wp2_with fail
  have hr3 : Rd w3 A3 ((l.drop k).take 0) := rd_own HXL.out HO3.out
  have hrb : Rd w3 A ((l.drop k).take 0) := by
    rw [List.drop_eq_nil_of_le (by have := HN.out; omega), List.take_nil]; exact Rd.nil _ _
  refine (same_n _ _ _ ((l.drop k).take 0) ((l.drop k).take 0) _ _ HXL.out HXL.out _ _ hr3 hrb rfl).mono ?_
  rintro e w4 ⟨rfl, rfl⟩
  clear hr3 hrb
  go_wp2_with fail
  refine (at_any HC3.out.blk).mono ?_
  rintro e w4 ⟨rfl, rfl⟩
  go_wp2_with fail
  go_loopw [11] (fun i wr => ∃ (j : Nat) (x : List UInt8), j ≤ 0 ∧ i = .int .i64 (j : Int) ∧ Hid (x.length = 0) ∧ Hid (wr.ownsRow w2.heap.size 5 1 (.slice A3 0 c3) 0 (x.map byt)) ∧ Hid (Below w2.heap.size w2 wr)) (fun i _ => 0 - (intOf i).toNat)
  case atStart => exact ⟨0, (l.drop k).take 0, by omega, rfl, HXL, HO3, HB23⟩
  case round =>
    obtain ⟨j, x, hj, rfl, hxn, hox, hbx⟩ := hrel
    obtain rfl : j = 0 := by omega
    have HRB := Lib.hid (fun W (h : Below w2.heap.size w2 W) => HR.out.below (below_on HB2.out (Nat.le_refl _) h))
    have HDL : Hid ((l.drop k).length = 0) := Lib.hid (by have := HN.out; simp; omega)
    go_wp2_with fail
    go_region_with (first
      | (go_at_call 27; refine (RST.out wr.drew hbx.out.drew).mono ?_; rintro e w5 ⟨v5, rfl, A5, c5, rfl, ho5, hb5⟩; rw [HDL.out] at ho5 ⊢; have HR5 : Hid (Rd w5 A5 (l.drop k)) := Lib.hid (rd_own HDL.out ho5); have HB5 := Lib.hid (below_on hbx.out.drew (Nat.le_refl _) hb5); clear ho5 hb5)
      | (go_at_call 13; refine (same_n _ _ _ (l.drop k) (l.drop k) _ _ HDL.out (by have := HN.out; simp; omega) _ _ HR5.out (by rw [List.drop_eq_nil_of_le (by have := HN.out; omega)]; exact Rd.nil _ _) rfl).mono ?_; rintro e w6 ⟨rfl, rfl⟩)
      | (go_at_call 19; refine (known_any _).mono ?_; rintro e w7 ⟨rfl, hb7⟩; have HB7 := Lib.hid (below_on HB2.out (Nat.le_refl _) (below_on HB5.out (Nat.le_refl _) hb7)); clear hb7))
    all_goals (go_wp2; go_ret; exact ⟨rfl, Hid.out (by assumption)⟩)

set_option maxRecDepth 100000 in
set_option maxHeartbeats 4000000 in
theorem walk_c2x (A : Option Addr) (l : List UInt8) (k : Nat)  (w : World) (hR : Rd w A l) (hs : l.length ≤ 140737488351232) (hc : l.length ≤ k) (hM : l.length = k + 0) (hk0 : 0 < k) :
    Calls Try.prog 6 #[.slice A l.length k, .int .i64 (k : Int), .int .i64 0] w fun e w' => e = .returned (.bool true) ∧ Below w.heap.size w w' := by
  have hxe : (l.drop k).take (0 : Int).toNat = (l.drop k).take 0 := by
    rfl
  have hxl : ((l.drop k).take 0).length = 0 := by simp
  have OW := Lib.hid (own_any w A l k (by omega) hR)
  have HR := Lib.hid hR
  have HXE := Lib.hid hxe
  have HXL := Lib.hid hxl
  clear hR hxe hxl
  have hN : l.length = k := by omega
  rw [hN] at hs OW ⊢
  have HN := Lib.hid hN
  clear hN hM hc
  go_enter Try.func6, Try.ntmps6
  go_wp2_with fail
  refine OW.out.mono ?_
  rintro e w1 ⟨v1, rfl, A1, c1, rfl, ho1, hb1⟩
  have HB1 := Lib.hid hb1
  have NW := Lib.hid (new_any w1 A1 l c1 (by have := HN.out; omega) (Rd.of_own ho1))
  rw [HN.out] at NW ⊢
  clear ho1 hb1
  go_wp2_with fail
  refine NW.out.mono ?_
  rintro e w0 ⟨c, A2, cap2, rfl, hcw, hcur, hb2⟩
  have HB0 := Lib.hid (below_on HB1.out (Nat.le_refl _) hb2)
  have HCW := Lib.hid (Nat.le_trans HB1.out.size hcw)
  have HY := Lib.hid (bytes_any hcur (by have := HN.out; omega) (k : Int))
  have hcut : cutE (k : Int) (l.length - 0) = 0 := cutE_ok (by omega) (by have := HN.out; omega)
  have HCUT := Lib.hid hcut
  have z1 : decide ((0 : Int) < (k : Int)) = true := decide_eq_true (by omega)
  have z2 : decide ((k : Int) ≤ (k : Int)) = true := decide_eq_true (by omega)
  clear hcw hcur hb2 HB1 NW hcut
  go_wp2_with fail
  refine HY.out.mono ?_
  rintro e w2 ⟨v2, rfl, hc2, hg2, _, _⟩
  rw [HCUT.out] at hc2 ⊢
  rw [if_pos rfl, Nat.zero_add, Int.toNat_natCast] at hc2
  have HB2 := Lib.hid (HB0.out.grown hg2 HB0.out.size (fun j ej => by cases ej; exact HCW.out))
  have HC2 := Lib.hid hc2
  clear hc2 hg2 HB0 HY HCUT z1 z2
  have RST := Lib.hid (fun W (h : Below w2.heap.size w2 W) => rest_any (HC2.out.below h) (by have := HN.out; omega))
  go_wp2_with fail
  refine (peek_any HC2.out (by have := HN.out; omega) 0).mono ?_
  rintro e w3 ⟨v3, rfl, A3, c3, rfl, ho3, hb3⟩
  rw [HXE.out] at ho3 ⊢
  rw [HXL.out] at ho3 ⊢
  have HB3 := Lib.hid (below_on HB2.out (Nat.le_refl _) hb3)
  have HB23 := Lib.hid hb3
  have HC3 := Lib.hid (HC2.out.below hb3)
  have HO3 := Lib.hid ho3
  clear ho3 hb3 HC2 OW
  have hkc : k ≤ k := by omega
  have hkm : k + 0 ≤ k := by omega
  go_wp2_with fail
  have hr3 : Rd w3 A3 ((l.drop k).take 0) := rd_own HXL.out HO3.out
  have hrb : Rd w3 A ((l.drop k).take 0) := by
    rw [List.drop_eq_nil_of_le (by have := HN.out; omega), List.take_nil]; exact Rd.nil _ _
  refine (same_n _ _ _ ((l.drop k).take 0) ((l.drop k).take 0) _ _ HXL.out HXL.out _ _ hr3 hrb rfl).mono ?_
  rintro e w4 ⟨rfl, rfl⟩
  clear hr3 hrb
  go_wp2_with fail
  refine (at_any HC3.out.blk).mono ?_
  rintro e w4 ⟨rfl, rfl⟩
  go_wp2_with fail
  go_loopw [11] (fun i wr => ∃ (j : Nat) (x : List UInt8), j ≤ 0 ∧ i = .int .i64 (j : Int) ∧ Hid (x.length = 0) ∧ Hid (wr.ownsRow w2.heap.size 5 1 (.slice A3 0 c3) 0 (x.map byt)) ∧ Hid (Below w2.heap.size w2 wr)) (fun i _ => 0 - (intOf i).toNat)
  case atStart => exact ⟨0, (l.drop k).take 0, by omega, rfl, HXL, HO3, HB23⟩
  case round =>
    obtain ⟨j, x, hj, rfl, hxn, hox, hbx⟩ := hrel
    obtain rfl : j = 0 := by omega
    have HRB := Lib.hid (fun W (h : Below w2.heap.size w2 W) => HR.out.below (below_on HB2.out (Nat.le_refl _) h))
    have HDL : Hid ((l.drop k).length = 0) := Lib.hid (by have := HN.out; simp; omega)
    go_wp2_with fail
    go_region_with (first
      | (go_at_call 27; refine (RST.out wr.drew hbx.out.drew).mono ?_; rintro e w5 ⟨v5, rfl, A5, c5, rfl, ho5, hb5⟩; rw [HDL.out] at ho5 ⊢; have HR5 : Hid (Rd w5 A5 (l.drop k)) := Lib.hid (rd_own HDL.out ho5); have HB5 := Lib.hid (below_on hbx.out.drew (Nat.le_refl _) hb5); clear ho5 hb5)
      | (go_at_call 13; refine (same_n _ _ _ (l.drop k) (l.drop k) _ _ HDL.out (by have := HN.out; simp; omega) _ _ HR5.out (by rw [List.drop_eq_nil_of_le (by have := HN.out; omega)]; exact Rd.nil _ _) rfl).mono ?_; rintro e w6 ⟨rfl, rfl⟩)
      | (go_at_call 19; refine (known_any _).mono ?_; rintro e w7 ⟨rfl, hb7⟩; have HB7 := Lib.hid (below_on HB2.out (Nat.le_refl _) (below_on HB5.out (Nat.le_refl _) hb7)); clear hb7))
    all_goals (go_wp2; go_ret; exact ⟨rfl, Hid.out (by assumption)⟩)

set_option maxRecDepth 100000 in
set_option maxHeartbeats 4000000 in
theorem walk_c3x (A : Option Addr) (l : List UInt8) (k : Nat) (n : Int) (w : World) (hR : Rd w A l) (hs : l.length ≤ 140737488351232) (hc : l.length ≤ k) (hM : l.length = k + 0) (hk0 : 0 < k) (hn : 0 < n) :
    Calls Try.prog 6 #[.slice A l.length k, .int .i64 (k : Int), .int .i64 n] w fun e w' => e = .returned (.bool true) ∧ Below w.heap.size w w' := by
  have hxe : (l.drop k).take (n).toNat = (l.drop k).take 0 := by
    rw [List.drop_eq_nil_of_le (by omega), List.take_nil, List.take_nil]
  have hxl : ((l.drop k).take 0).length = 0 := by simp
  have OW := Lib.hid (own_any w A l k (by omega) hR)
  have HR := Lib.hid hR
  have HXE := Lib.hid hxe
  have HXL := Lib.hid hxl
  clear hR hxe hxl
  have hN : l.length = k := by omega
  rw [hN] at hs OW ⊢
  have HN := Lib.hid hN
  clear hN hM hc
  go_enter Try.func6, Try.ntmps6
  go_wp2_with fail
  refine OW.out.mono ?_
  rintro e w1 ⟨v1, rfl, A1, c1, rfl, ho1, hb1⟩
  have HB1 := Lib.hid hb1
  have NW := Lib.hid (new_any w1 A1 l c1 (by have := HN.out; omega) (Rd.of_own ho1))
  rw [HN.out] at NW ⊢
  clear ho1 hb1
  go_wp2_with fail
  refine NW.out.mono ?_
  rintro e w0 ⟨c, A2, cap2, rfl, hcw, hcur, hb2⟩
  have HB0 := Lib.hid (below_on HB1.out (Nat.le_refl _) hb2)
  have HCW := Lib.hid (Nat.le_trans HB1.out.size hcw)
  have HY := Lib.hid (bytes_any hcur (by have := HN.out; omega) (k : Int))
  have hcut : cutE (k : Int) (l.length - 0) = 0 := cutE_ok (by omega) (by have := HN.out; omega)
  have HCUT := Lib.hid hcut
  have z1 : decide ((0 : Int) < (k : Int)) = true := decide_eq_true (by omega)
  have z2 : decide ((k : Int) ≤ (k : Int)) = true := decide_eq_true (by omega)
  clear hcw hcur hb2 HB1 NW hcut
  go_wp2_with fail
  refine HY.out.mono ?_
  rintro e w2 ⟨v2, rfl, hc2, hg2, _, _⟩
  rw [HCUT.out] at hc2 ⊢
  rw [if_pos rfl, Nat.zero_add, Int.toNat_natCast] at hc2
  have HB2 := Lib.hid (HB0.out.grown hg2 HB0.out.size (fun j ej => by cases ej; exact HCW.out))
  have HC2 := Lib.hid hc2
  clear hc2 hg2 HB0 HY HCUT z1 z2
  have RST := Lib.hid (fun W (h : Below w2.heap.size w2 W) => rest_any (HC2.out.below h) (by have := HN.out; omega))
  go_wp2_with fail
  refine (peek_any HC2.out (by have := HN.out; omega) n).mono ?_
  rintro e w3 ⟨v3, rfl, A3, c3, rfl, ho3, hb3⟩
  rw [HXE.out] at ho3 ⊢
  rw [HXL.out] at ho3 ⊢
  have HB3 := Lib.hid (below_on HB2.out (Nat.le_refl _) hb3)
  have HB23 := Lib.hid hb3
  have HC3 := Lib.hid (HC2.out.below hb3)
  have HO3 := Lib.hid ho3
  clear ho3 hb3 HC2 OW
  have hkc : k ≤ k := by omega
  have hkm : k + 0 ≤ k := by omega
  go_wp2_with fail
  have hr3 : Rd w3 A3 ((l.drop k).take 0) := rd_own HXL.out HO3.out
  have hrb : Rd w3 A ((l.drop k).take 0) := by
    rw [List.drop_eq_nil_of_le (by have := HN.out; omega), List.take_nil]; exact Rd.nil _ _
  refine (same_n _ _ _ ((l.drop k).take 0) ((l.drop k).take 0) _ _ HXL.out HXL.out _ _ hr3 hrb rfl).mono ?_
  rintro e w4 ⟨rfl, rfl⟩
  clear hr3 hrb
  go_wp2_with fail
  refine (at_any HC3.out.blk).mono ?_
  rintro e w4 ⟨rfl, rfl⟩
  go_wp2_with fail
  go_loopw [11] (fun i wr => ∃ (j : Nat) (x : List UInt8), j ≤ 0 ∧ i = .int .i64 (j : Int) ∧ Hid (x.length = 0) ∧ Hid (wr.ownsRow w2.heap.size 5 1 (.slice A3 0 c3) 0 (x.map byt)) ∧ Hid (Below w2.heap.size w2 wr)) (fun i _ => 0 - (intOf i).toNat)
  case atStart => exact ⟨0, (l.drop k).take 0, by omega, rfl, HXL, HO3, HB23⟩
  case round =>
    obtain ⟨j, x, hj, rfl, hxn, hox, hbx⟩ := hrel
    obtain rfl : j = 0 := by omega
    have HRB := Lib.hid (fun W (h : Below w2.heap.size w2 W) => HR.out.below (below_on HB2.out (Nat.le_refl _) h))
    have HDL : Hid ((l.drop k).length = 0) := Lib.hid (by have := HN.out; simp; omega)
    go_wp2_with fail
    go_region_with (first
      | (go_at_call 27; refine (RST.out wr.drew hbx.out.drew).mono ?_; rintro e w5 ⟨v5, rfl, A5, c5, rfl, ho5, hb5⟩; rw [HDL.out] at ho5 ⊢; have HR5 : Hid (Rd w5 A5 (l.drop k)) := Lib.hid (rd_own HDL.out ho5); have HB5 := Lib.hid (below_on hbx.out.drew (Nat.le_refl _) hb5); clear ho5 hb5)
      | (go_at_call 13; refine (same_n _ _ _ (l.drop k) (l.drop k) _ _ HDL.out (by have := HN.out; simp; omega) _ _ HR5.out (by rw [List.drop_eq_nil_of_le (by have := HN.out; omega)]; exact Rd.nil _ _) rfl).mono ?_; rintro e w6 ⟨rfl, rfl⟩)
      | (go_at_call 19; refine (known_any _).mono ?_; rintro e w7 ⟨rfl, hb7⟩; have HB7 := Lib.hid (below_on HB2.out (Nat.le_refl _) (below_on HB5.out (Nat.le_refl _) hb7)); clear hb7))
    all_goals (go_wp2; go_ret; exact ⟨rfl, Hid.out (by assumption)⟩)

end Go.Proofs.Ytpelndjfamdjlaa.numPeeks
