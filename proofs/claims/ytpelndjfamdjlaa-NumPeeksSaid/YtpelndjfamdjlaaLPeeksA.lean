/-
  The walks of the law NumPeeks, where no bytes are skipped: it returns true. Conditions: those of each theorem, which together cover all inputs of this way.
-/
import Derived.Test.YtpelndjfamdjlaaAid
import Derived.Test.YtpelndjfamdjlaaMRst
import Derived.Test.YtpelndjfamdjlaaFrm
import Derived.Deep.RegionWith
namespace Go.Proofs.Ytpelndjfamdjlaa.numPeeks
open Go.ChangeShapes Go.WideShapes Go.ChangeAt Go.RowKit
set_option linter.unusedVariables false

theorem rd_own {w : World} {base n c : Nat} {A : Option Addr} {l : List UInt8} (hn : l.length = n) (h : w.ownsRow base 5 1 (.slice A n c) n (l.map byt)) : Rd w A l := by
  subst hn
  exact Rd.of_own h

/-- The next byte, round the end. -/
theorem byt_next (b : UInt8) : ∃ c : UInt8, byt c = .int .u8 (((b.toNat : Int) + 1) % 256) := by
  refine ⟨UInt8.ofNat ((b.toNat + 1) % 256), ?_⟩
  simp only [byt]
  rw [UInt8.toNat_ofNat', Nat.mod_eq_of_lt (by omega)]
  congr 1

set_option maxRecDepth 100000 in
set_option maxHeartbeats 4000000 in
theorem walk_a1 (A : Option Addr) (l : List UInt8) (cap : Nat) (skip : Int) (n : Int) (m M : Nat) (w : World) (hR : Rd w A l) (hs : l.length ≤ 140737488351232) (hc : l.length ≤ cap) (hM : l.length = 0 + M) (hz1 : decide (0 < skip) = false) (hn : n < 0) (hm : m = 0) :
    Calls Try.prog 6 #[.slice A l.length cap, .int .i64 skip, .int .i64 n] w fun e w' => e = .returned (.bool true) ∧ Below w.heap.size w w' := by
  subst hm
  have hxe : (l.drop 0).take (n).toNat = (l.drop 0).take 0 := by
    rw [show n.toNat = 0 by omega]
  have hxl : ((l.drop 0).take 0).length = 0 := by simp
  have OW := Lib.hid (own_any w A l cap (by omega) hR)
  have HR := Lib.hid hR
  have HXE := Lib.hid hxe
  have HXL := Lib.hid hxl
  clear hR hxe hxl
  obtain ⟨N, hN⟩ : ∃ N, l.length = N := ⟨_, rfl⟩
  rw [hN] at hs hc hM OW ⊢
  have HN := Lib.hid hN
  have HM := Lib.hid hM
  have hM1 : N ≤ 0 + M := by omega
  have hM2 : 0 + M ≤ N := by omega
  clear hN hM
  go_enter Try.func6, Try.ntmps6
  go_wp2_with fail
  refine OW.out.mono ?_
  rintro e w1 ⟨v1, rfl, A1, c1, rfl, ho1, hb1⟩
  have HB1 := Lib.hid hb1
  have NW := Lib.hid (new_any w1 A1 l c1 (by have := HN.out; omega) (Rd.of_own ho1))
  rw [HN.out] at NW ⊢
  clear ho1 hb1
  go_wp2_with fail
  refine NW.out.mono ?_
  rintro e w2 ⟨c, A2, cap2, rfl, hcw, hcur, hb2⟩
  have HB2 := Lib.hid (below_on HB1.out (Nat.le_refl _) hb2)
  have HC2 := Lib.hid hcur
  clear hcw hcur hb2 HB1 NW
  have RST := Lib.hid (fun W (h : Below w2.heap.size w2 W) => rest_any (HC2.out.below h) (by have := HN.out; omega))
  go_wp2_with fail
  refine (peek_any HC2.out (by have := HN.out; omega) n).mono ?_
  rintro e w3 ⟨v3, rfl, A3, c3, rfl, ho3, hb3⟩
  rw [HXE.out] at ho3 ⊢
  rw [HXL.out] at ho3 ⊢
  have HB3 := Lib.hid (below_on HB2.out (Nat.le_refl _) hb3)
  have HB23 := Lib.hid hb3
  have HC3 := Lib.hid (HC2.out.below hb3)
  have HO3 := Lib.hid ho3
  clear ho3 hb3 HC2 OW
  go_wp2_with fail
  have hr3 : Rd w3 A3 ((l.drop 0).take 0) := rd_own HXL.out HO3.out
  have hrb : Rd w3 A ((l.drop 0).take 0) := (HR.out.below HB3.out).take _
  refine (same_n _ _ _ ((l.drop 0).take 0) ((l.drop 0).take 0) _ _ HXL.out HXL.out _ _ hr3 hrb rfl).mono ?_
  rintro e w4 ⟨rfl, rfl⟩
  clear hr3 hrb
  go_wp2_with fail
  refine (at_any HC3.out.blk).mono ?_
  rintro e w4 ⟨rfl, rfl⟩
  go_wp2_with fail
  go_loopw [11] (fun i wr => ∃ (j : Nat) (x : List UInt8), j ≤ 0 ∧ i = .int .i64 (j : Int) ∧ Hid (x.length = 0) ∧ Hid (wr.ownsRow w2.heap.size 5 1 (.slice A3 0 c3) 0 (x.map byt)) ∧ Hid (Below w2.heap.size w2 wr)) (fun i _ => 0 - (intOf i).toNat)
  case atStart => exact ⟨0, (l.drop 0).take 0, by omega, rfl, HXL, HO3, HB23⟩
  case round =>
    obtain ⟨j, x, hj, rfl, hxn, hox, hbx⟩ := hrel
    obtain rfl : j = 0 := by omega
    have HRB := Lib.hid (fun W (h : Below w2.heap.size w2 W) => HR.out.below (below_on HB2.out (Nat.le_refl _) h))
    have HDL : Hid ((l.drop 0).length = N) := Lib.hid (by have := HN.out; simp; omega)
    go_wp2_with fail
    go_region_with (first
      | (go_at_call 27; refine (RST.out wr.drew hbx.out.drew).mono ?_; rintro e w5 ⟨v5, rfl, A5, c5, rfl, ho5, hb5⟩; rw [HDL.out] at ho5 ⊢; have HR5 : Hid (Rd w5 A5 (l.drop 0)) := Lib.hid (rd_own HDL.out ho5); have HB5 := Lib.hid (below_on hbx.out.drew (Nat.le_refl _) hb5); clear ho5 hb5)
      | (go_at_call 13; refine (same_n _ _ _ (l.drop 0) (l.drop 0) _ _ HDL.out (by have := HN.out; simp; omega) _ _ HR5.out (by rw [List.drop_zero]; exact HRB.out _ HB5.out) rfl).mono ?_; rintro e w6 ⟨rfl, rfl⟩)
      | (go_at_call 19; refine (known_any _).mono ?_; rintro e w7 ⟨rfl, hb7⟩; have HB7 := Lib.hid (below_on HB2.out (Nat.le_refl _) (below_on HB5.out (Nat.le_refl _) hb7)); clear hb7))
    all_goals (go_wp2; go_ret; exact ⟨rfl, Hid.out (by assumption)⟩)

set_option maxRecDepth 100000 in
set_option maxHeartbeats 4000000 in
theorem walk_a2 (A : Option Addr) (l : List UInt8) (cap : Nat) (skip : Int) (m M : Nat) (w : World) (hR : Rd w A l) (hs : l.length ≤ 140737488351232) (hc : l.length ≤ cap) (hM : l.length = 0 + M) (hz1 : decide (0 < skip) = false) (hm : m ≤ M) :
    Calls Try.prog 6 #[.slice A l.length cap, .int .i64 skip, .int .i64 (m : Int)] w fun e w' => e = .returned (.bool true) ∧ Below w.heap.size w w' := by
  have hxe : (l.drop 0).take ((m : Int)).toNat = (l.drop 0).take m := by
    rw [Int.toNat_natCast]
  have hxl : ((l.drop 0).take m).length = m := by simp; omega
  have OW := Lib.hid (own_any w A l cap (by omega) hR)
  have HR := Lib.hid hR
  have HXE := Lib.hid hxe
  have HXL := Lib.hid hxl
  clear hR hxe hxl
  obtain ⟨N, hN⟩ : ∃ N, l.length = N := ⟨_, rfl⟩
  rw [hN] at hs hc hM OW ⊢
  have HN := Lib.hid hN
  have HM := Lib.hid hM
  have hM1 : N ≤ 0 + M := by omega
  have hM2 : 0 + M ≤ N := by omega
  clear hN hM
  go_enter Try.func6, Try.ntmps6
  go_wp2_with fail
  refine OW.out.mono ?_
  rintro e w1 ⟨v1, rfl, A1, c1, rfl, ho1, hb1⟩
  have HB1 := Lib.hid hb1
  have NW := Lib.hid (new_any w1 A1 l c1 (by have := HN.out; omega) (Rd.of_own ho1))
  rw [HN.out] at NW ⊢
  clear ho1 hb1
  go_wp2_with fail
  refine NW.out.mono ?_
  rintro e w2 ⟨c, A2, cap2, rfl, hcw, hcur, hb2⟩
  have HB2 := Lib.hid (below_on HB1.out (Nat.le_refl _) hb2)
  have HC2 := Lib.hid hcur
  clear hcw hcur hb2 HB1 NW
  have RST := Lib.hid (fun W (h : Below w2.heap.size w2 W) => rest_any (HC2.out.below h) (by have := HN.out; omega))
  go_wp2_with fail
  refine (peek_any HC2.out (by have := HN.out; omega) (m : Int)).mono ?_
  rintro e w3 ⟨v3, rfl, A3, c3, rfl, ho3, hb3⟩
  rw [HXE.out] at ho3 ⊢
  rw [HXL.out] at ho3 ⊢
  have HB3 := Lib.hid (below_on HB2.out (Nat.le_refl _) hb3)
  have HB23 := Lib.hid hb3
  have HC3 := Lib.hid (HC2.out.below hb3)
  have HO3 := Lib.hid ho3
  clear ho3 hb3 HC2 OW
  go_wp2_with fail
  have hr3 : Rd w3 A3 ((l.drop 0).take m) := rd_own HXL.out HO3.out
  have hrb : Rd w3 A ((l.drop 0).take m) := (HR.out.below HB3.out).take _
  refine (same_n _ _ _ ((l.drop 0).take m) ((l.drop 0).take m) _ _ HXL.out HXL.out _ _ hr3 hrb rfl).mono ?_
  rintro e w4 ⟨rfl, rfl⟩
  clear hr3 hrb
  go_wp2_with fail
  refine (at_any HC3.out.blk).mono ?_
  rintro e w4 ⟨rfl, rfl⟩
  go_wp2_with fail
  go_loopw [11] (fun i wr => ∃ (j : Nat) (x : List UInt8), j ≤ m ∧ i = .int .i64 (j : Int) ∧ Hid (x.length = m) ∧ Hid (wr.ownsRow w2.heap.size 5 1 (.slice A3 m c3) m (x.map byt)) ∧ Hid (Below w2.heap.size w2 wr)) (fun i _ => m - (intOf i).toNat)
  case atStart => exact ⟨0, (l.drop 0).take m, by omega, rfl, HXL, HO3, HB23⟩
  case round =>
    obtain ⟨j, x, hj, rfl, hxn, hox, hbx⟩ := hrel
    by_cases hlt : j < m
    · have hg : ∃ g, A3 = some ⟨g, 0, none⟩ := by
        rcases hox.out.2 with ⟨h, hh⟩ | ⟨g, _, _, h, _⟩
        · omega
        · injection h with h; exact ⟨g, h⟩
      obtain ⟨g, rfl⟩ := hg
      obtain ⟨b, hb⟩ : ∃ b, x[j]? = some b := ⟨_, List.getElem?_eq_getElem (by rw [hxn.out]; exact hlt)⟩
      have hcell : wr.cell? ⟨g, j, none⟩ = some (byt b) := by rw [hox.out.cellAt j (by omega), List.getElem?_map, hb]; rfl
      have hfz : wr.frozen? ⟨g, j, none⟩ = false := hox.out.frozenAt j
      obtain ⟨nb, hnb⟩ := byt_next b
      have HNB := Lib.hid hnb
      have hst := hox.out.stored j (byt nb)
      have HST : Hid ((wr.setCell ⟨g, j, none⟩ (byt nb)).ownsRow w2.heap.size 5 1 (.slice (some ⟨g, 0, none⟩) m c3) m ((x.set j nb).map byt)) := by
        refine Lib.hid ?_
        rw [List.map_set]; exact hst.1
      have HGE := Lib.hid (hbx.out.setCell (p := ⟨g, j, none⟩) (hox.out.lt g rfl).1 (byt nb))
      have hbl := b.toNat_lt
      clear hb hnb hst
      go_wp2_with fail
      rw [← HNB.out]
      refine ⟨⟨j + 1, x.set j nb, by omega, by simp, ?_, HST, HGE⟩, by simp [intOf]; omega⟩
      exact Lib.hid (by rw [List.length_set]; exact hxn.out)
    · have hje : j = m := by omega
      subst hje
      have HRB := Lib.hid (fun W (h : Below w2.heap.size w2 W) => HR.out.below (below_on HB2.out (Nat.le_refl _) h))
      have HDL : Hid ((l.drop 0).length = N) := Lib.hid (by have := HN.out; simp; omega)
      go_wp2_with fail
      go_region_with (first
        | (go_at_call 27; refine (RST.out wr.drew hbx.out.drew).mono ?_; rintro e w5 ⟨v5, rfl, A5, c5, rfl, ho5, hb5⟩; rw [HDL.out] at ho5 ⊢; have HR5 : Hid (Rd w5 A5 (l.drop 0)) := Lib.hid (rd_own HDL.out ho5); have HB5 := Lib.hid (below_on hbx.out.drew (Nat.le_refl _) hb5); clear ho5 hb5)
        | (go_at_call 13; refine (same_n _ _ _ (l.drop 0) (l.drop 0) _ _ HDL.out (by have := HN.out; simp; omega) _ _ HR5.out (by rw [List.drop_zero]; exact HRB.out _ HB5.out) rfl).mono ?_; rintro e w6 ⟨rfl, rfl⟩)
        | (go_at_call 19; refine (known_any _).mono ?_; rintro e w7 ⟨rfl, hb7⟩; have HB7 := Lib.hid (below_on HB2.out (Nat.le_refl _) (below_on HB5.out (Nat.le_refl _) hb7)); clear hb7))
      all_goals (go_wp2; go_ret; exact ⟨rfl, Hid.out (by assumption)⟩)

set_option maxRecDepth 100000 in
set_option maxHeartbeats 4000000 in
theorem walk_a3 (A : Option Addr) (l : List UInt8) (cap : Nat) (skip : Int) (n : Int) (m M : Nat) (w : World) (hR : Rd w A l) (hs : l.length ≤ 140737488351232) (hc : l.length ≤ cap) (hM : l.length = 0 + M) (hz1 : decide (0 < skip) = false) (hn : (M : Int) < n) (hm : m = M) :
    Calls Try.prog 6 #[.slice A l.length cap, .int .i64 skip, .int .i64 n] w fun e w' => e = .returned (.bool true) ∧ Below w.heap.size w w' := by
  subst hm
  have hxe : (l.drop 0).take (n).toNat = (l.drop 0).take m := by
    rw [List.take_of_length_le (by simp; omega), List.take_of_length_le (by simp; omega)]
  have hxl : ((l.drop 0).take m).length = m := by simp; omega
  have OW := Lib.hid (own_any w A l cap (by omega) hR)
  have HR := Lib.hid hR
  have HXE := Lib.hid hxe
  have HXL := Lib.hid hxl
  clear hR hxe hxl
  obtain ⟨N, hN⟩ : ∃ N, l.length = N := ⟨_, rfl⟩
  rw [hN] at hs hc hM OW ⊢
  have HN := Lib.hid hN
  have HM := Lib.hid hM
  have hM1 : N ≤ 0 + m := by omega
  have hM2 : 0 + m ≤ N := by omega
  clear hN hM
  go_enter Try.func6, Try.ntmps6
  go_wp2_with fail
  refine OW.out.mono ?_
  rintro e w1 ⟨v1, rfl, A1, c1, rfl, ho1, hb1⟩
  have HB1 := Lib.hid hb1
  have NW := Lib.hid (new_any w1 A1 l c1 (by have := HN.out; omega) (Rd.of_own ho1))
  rw [HN.out] at NW ⊢
  clear ho1 hb1
  go_wp2_with fail
  refine NW.out.mono ?_
  rintro e w2 ⟨c, A2, cap2, rfl, hcw, hcur, hb2⟩
  have HB2 := Lib.hid (below_on HB1.out (Nat.le_refl _) hb2)
  have HC2 := Lib.hid hcur
  clear hcw hcur hb2 HB1 NW
  have RST := Lib.hid (fun W (h : Below w2.heap.size w2 W) => rest_any (HC2.out.below h) (by have := HN.out; omega))
  go_wp2_with fail
  refine (peek_any HC2.out (by have := HN.out; omega) n).mono ?_
  rintro e w3 ⟨v3, rfl, A3, c3, rfl, ho3, hb3⟩
  rw [HXE.out] at ho3 ⊢
  rw [HXL.out] at ho3 ⊢
  have HB3 := Lib.hid (below_on HB2.out (Nat.le_refl _) hb3)
  have HB23 := Lib.hid hb3
  have HC3 := Lib.hid (HC2.out.below hb3)
  have HO3 := Lib.hid ho3
  clear ho3 hb3 HC2 OW
  go_wp2_with fail
  have hr3 : Rd w3 A3 ((l.drop 0).take m) := rd_own HXL.out HO3.out
  have hrb : Rd w3 A ((l.drop 0).take m) := (HR.out.below HB3.out).take _
  refine (same_n _ _ _ ((l.drop 0).take m) ((l.drop 0).take m) _ _ HXL.out (by have := HN.out; simp; omega) _ _ hr3 hrb rfl).mono ?_
  rintro e w4 ⟨rfl, rfl⟩
  clear hr3 hrb
  go_wp2_with fail
  refine (at_any HC3.out.blk).mono ?_
  rintro e w4 ⟨rfl, rfl⟩
  go_wp2_with fail
  go_loopw [11] (fun i wr => ∃ (j : Nat) (x : List UInt8), j ≤ m ∧ i = .int .i64 (j : Int) ∧ Hid (x.length = m) ∧ Hid (wr.ownsRow w2.heap.size 5 1 (.slice A3 m c3) m (x.map byt)) ∧ Hid (Below w2.heap.size w2 wr)) (fun i _ => m - (intOf i).toNat)
  case atStart => exact ⟨0, (l.drop 0).take m, by omega, rfl, HXL, HO3, HB23⟩
  case round =>
    obtain ⟨j, x, hj, rfl, hxn, hox, hbx⟩ := hrel
    by_cases hlt : j < m
    · have hg : ∃ g, A3 = some ⟨g, 0, none⟩ := by
        rcases hox.out.2 with ⟨h, hh⟩ | ⟨g, _, _, h, _⟩
        · omega
        · injection h with h; exact ⟨g, h⟩
      obtain ⟨g, rfl⟩ := hg
      obtain ⟨b, hb⟩ : ∃ b, x[j]? = some b := ⟨_, List.getElem?_eq_getElem (by rw [hxn.out]; exact hlt)⟩
      have hcell : wr.cell? ⟨g, j, none⟩ = some (byt b) := by rw [hox.out.cellAt j (by omega), List.getElem?_map, hb]; rfl
      have hfz : wr.frozen? ⟨g, j, none⟩ = false := hox.out.frozenAt j
      obtain ⟨nb, hnb⟩ := byt_next b
      have HNB := Lib.hid hnb
      have hst := hox.out.stored j (byt nb)
      have HST : Hid ((wr.setCell ⟨g, j, none⟩ (byt nb)).ownsRow w2.heap.size 5 1 (.slice (some ⟨g, 0, none⟩) m c3) m ((x.set j nb).map byt)) := by
        refine Lib.hid ?_
        rw [List.map_set]; exact hst.1
      have HGE := Lib.hid (hbx.out.setCell (p := ⟨g, j, none⟩) (hox.out.lt g rfl).1 (byt nb))
      have hbl := b.toNat_lt
      clear hb hnb hst
      go_wp2_with fail
      rw [← HNB.out]
      refine ⟨⟨j + 1, x.set j nb, by omega, by simp, ?_, HST, HGE⟩, by simp [intOf]; omega⟩
      exact Lib.hid (by rw [List.length_set]; exact hxn.out)
    · have hje : j = m := by omega
      subst hje
      have HRB := Lib.hid (fun W (h : Below w2.heap.size w2 W) => HR.out.below (below_on HB2.out (Nat.le_refl _) h))
      have HDL : Hid ((l.drop 0).length = N) := Lib.hid (by have := HN.out; simp; omega)
      go_wp2_with fail
      go_region_with (first
        | (go_at_call 27; refine (RST.out wr.drew hbx.out.drew).mono ?_; rintro e w5 ⟨v5, rfl, A5, c5, rfl, ho5, hb5⟩; rw [HDL.out] at ho5 ⊢; have HR5 : Hid (Rd w5 A5 (l.drop 0)) := Lib.hid (rd_own HDL.out ho5); have HB5 := Lib.hid (below_on hbx.out.drew (Nat.le_refl _) hb5); clear ho5 hb5)
        | (go_at_call 13; refine (same_n _ _ _ (l.drop 0) (l.drop 0) _ _ HDL.out (by have := HN.out; simp; omega) _ _ HR5.out (by rw [List.drop_zero]; exact HRB.out _ HB5.out) rfl).mono ?_; rintro e w6 ⟨rfl, rfl⟩)
        | (go_at_call 19; refine (known_any _).mono ?_; rintro e w7 ⟨rfl, hb7⟩; have HB7 := Lib.hid (below_on HB2.out (Nat.le_refl _) (below_on HB5.out (Nat.le_refl _) hb7)); clear hb7))
      all_goals (go_wp2; go_ret; exact ⟨rfl, Hid.out (by assumption)⟩)

set_option maxRecDepth 100000 in
set_option maxHeartbeats 4000000 in
theorem walk_b1 (A : Option Addr) (l : List UInt8) (cap : Nat) (skip : Int) (n : Int) (m M : Nat) (w : World) (hR : Rd w A l) (hs : l.length ≤ 140737488351232) (hc : l.length ≤ cap) (hM : l.length = 0 + M) (hz1 : decide (0 < skip) = true) (hz2 : decide (skip ≤ (l.length : Int)) = false) (hn : n < 0) (hm : m = 0) :
    Calls Try.prog 6 #[.slice A l.length cap, .int .i64 skip, .int .i64 n] w fun e w' => e = .returned (.bool true) ∧ Below w.heap.size w w' := by
  subst hm
  have hxe : (l.drop 0).take (n).toNat = (l.drop 0).take 0 := by
    rw [show n.toNat = 0 by omega]
  have hxl : ((l.drop 0).take 0).length = 0 := by simp
  have OW := Lib.hid (own_any w A l cap (by omega) hR)
  have HR := Lib.hid hR
  have HXE := Lib.hid hxe
  have HXL := Lib.hid hxl
  clear hR hxe hxl
  obtain ⟨N, hN⟩ : ∃ N, l.length = N := ⟨_, rfl⟩
  rw [hN] at hs hc hM OW ⊢
  rw [hN] at hz2
  have HN := Lib.hid hN
  have HM := Lib.hid hM
  have hM1 : N ≤ 0 + M := by omega
  have hM2 : 0 + M ≤ N := by omega
  clear hN hM
  go_enter Try.func6, Try.ntmps6
  go_wp2_with fail
  refine OW.out.mono ?_
  rintro e w1 ⟨v1, rfl, A1, c1, rfl, ho1, hb1⟩
  have HB1 := Lib.hid hb1
  have NW := Lib.hid (new_any w1 A1 l c1 (by have := HN.out; omega) (Rd.of_own ho1))
  rw [HN.out] at NW ⊢
  clear ho1 hb1
  go_wp2_with fail
  refine NW.out.mono ?_
  rintro e w2 ⟨c, A2, cap2, rfl, hcw, hcur, hb2⟩
  have HB2 := Lib.hid (below_on HB1.out (Nat.le_refl _) hb2)
  have HC2 := Lib.hid hcur
  clear hcw hcur hb2 HB1 NW
  have RST := Lib.hid (fun W (h : Below w2.heap.size w2 W) => rest_any (HC2.out.below h) (by have := HN.out; omega))
  go_wp2_with fail
  refine (peek_any HC2.out (by have := HN.out; omega) n).mono ?_
  rintro e w3 ⟨v3, rfl, A3, c3, rfl, ho3, hb3⟩
  rw [HXE.out] at ho3 ⊢
  rw [HXL.out] at ho3 ⊢
  have HB3 := Lib.hid (below_on HB2.out (Nat.le_refl _) hb3)
  have HB23 := Lib.hid hb3
  have HC3 := Lib.hid (HC2.out.below hb3)
  have HO3 := Lib.hid ho3
  clear ho3 hb3 HC2 OW
  go_wp2_with fail
  have hr3 : Rd w3 A3 ((l.drop 0).take 0) := rd_own HXL.out HO3.out
  have hrb : Rd w3 A ((l.drop 0).take 0) := (HR.out.below HB3.out).take _
  refine (same_n _ _ _ ((l.drop 0).take 0) ((l.drop 0).take 0) _ _ HXL.out HXL.out _ _ hr3 hrb rfl).mono ?_
  rintro e w4 ⟨rfl, rfl⟩
  clear hr3 hrb
  go_wp2_with fail
  refine (at_any HC3.out.blk).mono ?_
  rintro e w4 ⟨rfl, rfl⟩
  go_wp2_with fail
  go_loopw [11] (fun i wr => ∃ (j : Nat) (x : List UInt8), j ≤ 0 ∧ i = .int .i64 (j : Int) ∧ Hid (x.length = 0) ∧ Hid (wr.ownsRow w2.heap.size 5 1 (.slice A3 0 c3) 0 (x.map byt)) ∧ Hid (Below w2.heap.size w2 wr)) (fun i _ => 0 - (intOf i).toNat)
  case atStart => exact ⟨0, (l.drop 0).take 0, by omega, rfl, HXL, HO3, HB23⟩
  case round =>
    obtain ⟨j, x, hj, rfl, hxn, hox, hbx⟩ := hrel
    obtain rfl : j = 0 := by omega
    have HRB := Lib.hid (fun W (h : Below w2.heap.size w2 W) => HR.out.below (below_on HB2.out (Nat.le_refl _) h))
    have HDL : Hid ((l.drop 0).length = N) := Lib.hid (by have := HN.out; simp; omega)
    go_wp2_with fail
    go_region_with (first
      | (go_at_call 27; refine (RST.out wr.drew hbx.out.drew).mono ?_; rintro e w5 ⟨v5, rfl, A5, c5, rfl, ho5, hb5⟩; rw [HDL.out] at ho5 ⊢; have HR5 : Hid (Rd w5 A5 (l.drop 0)) := Lib.hid (rd_own HDL.out ho5); have HB5 := Lib.hid (below_on hbx.out.drew (Nat.le_refl _) hb5); clear ho5 hb5)
      | (go_at_call 13; refine (same_n _ _ _ (l.drop 0) (l.drop 0) _ _ HDL.out (by have := HN.out; simp; omega) _ _ HR5.out (by rw [List.drop_zero]; exact HRB.out _ HB5.out) rfl).mono ?_; rintro e w6 ⟨rfl, rfl⟩)
      | (go_at_call 19; refine (known_any _).mono ?_; rintro e w7 ⟨rfl, hb7⟩; have HB7 := Lib.hid (below_on HB2.out (Nat.le_refl _) (below_on HB5.out (Nat.le_refl _) hb7)); clear hb7))
    all_goals (go_wp2; go_ret; exact ⟨rfl, Hid.out (by assumption)⟩)

set_option maxRecDepth 100000 in
set_option maxHeartbeats 4000000 in
theorem walk_b2 (A : Option Addr) (l : List UInt8) (cap : Nat) (skip : Int) (m M : Nat) (w : World) (hR : Rd w A l) (hs : l.length ≤ 140737488351232) (hc : l.length ≤ cap) (hM : l.length = 0 + M) (hz1 : decide (0 < skip) = true) (hz2 : decide (skip ≤ (l.length : Int)) = false) (hm : m ≤ M) :
    Calls Try.prog 6 #[.slice A l.length cap, .int .i64 skip, .int .i64 (m : Int)] w fun e w' => e = .returned (.bool true) ∧ Below w.heap.size w w' := by
  have hxe : (l.drop 0).take ((m : Int)).toNat = (l.drop 0).take m := by
    rw [Int.toNat_natCast]
  have hxl : ((l.drop 0).take m).length = m := by simp; omega
  have OW := Lib.hid (own_any w A l cap (by omega) hR)
  have HR := Lib.hid hR
  have HXE := Lib.hid hxe
  have HXL := Lib.hid hxl
  clear hR hxe hxl
  obtain ⟨N, hN⟩ : ∃ N, l.length = N := ⟨_, rfl⟩
  rw [hN] at hs hc hM OW ⊢
  rw [hN] at hz2
  have HN := Lib.hid hN
  have HM := Lib.hid hM
  have hM1 : N ≤ 0 + M := by omega
  have hM2 : 0 + M ≤ N := by omega
  clear hN hM
  go_enter Try.func6, Try.ntmps6
  go_wp2_with fail
  refine OW.out.mono ?_
  rintro e w1 ⟨v1, rfl, A1, c1, rfl, ho1, hb1⟩
  have HB1 := Lib.hid hb1
  have NW := Lib.hid (new_any w1 A1 l c1 (by have := HN.out; omega) (Rd.of_own ho1))
  rw [HN.out] at NW ⊢
  clear ho1 hb1
  go_wp2_with fail
  refine NW.out.mono ?_
  rintro e w2 ⟨c, A2, cap2, rfl, hcw, hcur, hb2⟩
  have HB2 := Lib.hid (below_on HB1.out (Nat.le_refl _) hb2)
  have HC2 := Lib.hid hcur
  clear hcw hcur hb2 HB1 NW
  have RST := Lib.hid (fun W (h : Below w2.heap.size w2 W) => rest_any (HC2.out.below h) (by have := HN.out; omega))
  go_wp2_with fail
  refine (peek_any HC2.out (by have := HN.out; omega) (m : Int)).mono ?_
  rintro e w3 ⟨v3, rfl, A3, c3, rfl, ho3, hb3⟩
  rw [HXE.out] at ho3 ⊢
  rw [HXL.out] at ho3 ⊢
  have HB3 := Lib.hid (below_on HB2.out (Nat.le_refl _) hb3)
  have HB23 := Lib.hid hb3
  have HC3 := Lib.hid (HC2.out.below hb3)
  have HO3 := Lib.hid ho3
  clear ho3 hb3 HC2 OW
  go_wp2_with fail
  have hr3 : Rd w3 A3 ((l.drop 0).take m) := rd_own HXL.out HO3.out
  have hrb : Rd w3 A ((l.drop 0).take m) := (HR.out.below HB3.out).take _
  refine (same_n _ _ _ ((l.drop 0).take m) ((l.drop 0).take m) _ _ HXL.out HXL.out _ _ hr3 hrb rfl).mono ?_
  rintro e w4 ⟨rfl, rfl⟩
  clear hr3 hrb
  go_wp2_with fail
  refine (at_any HC3.out.blk).mono ?_
  rintro e w4 ⟨rfl, rfl⟩
  go_wp2_with fail
  go_loopw [11] (fun i wr => ∃ (j : Nat) (x : List UInt8), j ≤ m ∧ i = .int .i64 (j : Int) ∧ Hid (x.length = m) ∧ Hid (wr.ownsRow w2.heap.size 5 1 (.slice A3 m c3) m (x.map byt)) ∧ Hid (Below w2.heap.size w2 wr)) (fun i _ => m - (intOf i).toNat)
  case atStart => exact ⟨0, (l.drop 0).take m, by omega, rfl, HXL, HO3, HB23⟩
  case round =>
    obtain ⟨j, x, hj, rfl, hxn, hox, hbx⟩ := hrel
    by_cases hlt : j < m
    · have hg : ∃ g, A3 = some ⟨g, 0, none⟩ := by
        rcases hox.out.2 with ⟨h, hh⟩ | ⟨g, _, _, h, _⟩
        · omega
        · injection h with h; exact ⟨g, h⟩
      obtain ⟨g, rfl⟩ := hg
      obtain ⟨b, hb⟩ : ∃ b, x[j]? = some b := ⟨_, List.getElem?_eq_getElem (by rw [hxn.out]; exact hlt)⟩
      have hcell : wr.cell? ⟨g, j, none⟩ = some (byt b) := by rw [hox.out.cellAt j (by omega), List.getElem?_map, hb]; rfl
      have hfz : wr.frozen? ⟨g, j, none⟩ = false := hox.out.frozenAt j
      obtain ⟨nb, hnb⟩ := byt_next b
      have HNB := Lib.hid hnb
      have hst := hox.out.stored j (byt nb)
      have HST : Hid ((wr.setCell ⟨g, j, none⟩ (byt nb)).ownsRow w2.heap.size 5 1 (.slice (some ⟨g, 0, none⟩) m c3) m ((x.set j nb).map byt)) := by
        refine Lib.hid ?_
        rw [List.map_set]; exact hst.1
      have HGE := Lib.hid (hbx.out.setCell (p := ⟨g, j, none⟩) (hox.out.lt g rfl).1 (byt nb))
      have hbl := b.toNat_lt
      clear hb hnb hst
      go_wp2_with fail
      rw [← HNB.out]
      refine ⟨⟨j + 1, x.set j nb, by omega, by simp, ?_, HST, HGE⟩, by simp [intOf]; omega⟩
      exact Lib.hid (by rw [List.length_set]; exact hxn.out)
    · have hje : j = m := by omega
      subst hje
      have HRB := Lib.hid (fun W (h : Below w2.heap.size w2 W) => HR.out.below (below_on HB2.out (Nat.le_refl _) h))
      have HDL : Hid ((l.drop 0).length = N) := Lib.hid (by have := HN.out; simp; omega)
      go_wp2_with fail
      go_region_with (first
        | (go_at_call 27; refine (RST.out wr.drew hbx.out.drew).mono ?_; rintro e w5 ⟨v5, rfl, A5, c5, rfl, ho5, hb5⟩; rw [HDL.out] at ho5 ⊢; have HR5 : Hid (Rd w5 A5 (l.drop 0)) := Lib.hid (rd_own HDL.out ho5); have HB5 := Lib.hid (below_on hbx.out.drew (Nat.le_refl _) hb5); clear ho5 hb5)
        | (go_at_call 13; refine (same_n _ _ _ (l.drop 0) (l.drop 0) _ _ HDL.out (by have := HN.out; simp; omega) _ _ HR5.out (by rw [List.drop_zero]; exact HRB.out _ HB5.out) rfl).mono ?_; rintro e w6 ⟨rfl, rfl⟩)
        | (go_at_call 19; refine (known_any _).mono ?_; rintro e w7 ⟨rfl, hb7⟩; have HB7 := Lib.hid (below_on HB2.out (Nat.le_refl _) (below_on HB5.out (Nat.le_refl _) hb7)); clear hb7))
      all_goals (go_wp2; go_ret; exact ⟨rfl, Hid.out (by assumption)⟩)

set_option maxRecDepth 100000 in
set_option maxHeartbeats 4000000 in
theorem walk_b3 (A : Option Addr) (l : List UInt8) (cap : Nat) (skip : Int) (n : Int) (m M : Nat) (w : World) (hR : Rd w A l) (hs : l.length ≤ 140737488351232) (hc : l.length ≤ cap) (hM : l.length = 0 + M) (hz1 : decide (0 < skip) = true) (hz2 : decide (skip ≤ (l.length : Int)) = false) (hn : (M : Int) < n) (hm : m = M) :
    Calls Try.prog 6 #[.slice A l.length cap, .int .i64 skip, .int .i64 n] w fun e w' => e = .returned (.bool true) ∧ Below w.heap.size w w' := by
  subst hm
  have hxe : (l.drop 0).take (n).toNat = (l.drop 0).take m := by
    rw [List.take_of_length_le (by simp; omega), List.take_of_length_le (by simp; omega)]
  have hxl : ((l.drop 0).take m).length = m := by simp; omega
  have OW := Lib.hid (own_any w A l cap (by omega) hR)
  have HR := Lib.hid hR
  have HXE := Lib.hid hxe
  have HXL := Lib.hid hxl
  clear hR hxe hxl
  obtain ⟨N, hN⟩ : ∃ N, l.length = N := ⟨_, rfl⟩
  rw [hN] at hs hc hM OW ⊢
  rw [hN] at hz2
  have HN := Lib.hid hN
  have HM := Lib.hid hM
  have hM1 : N ≤ 0 + m := by omega
  have hM2 : 0 + m ≤ N := by omega
  clear hN hM
  go_enter Try.func6, Try.ntmps6
  go_wp2_with fail
  refine OW.out.mono ?_
  rintro e w1 ⟨v1, rfl, A1, c1, rfl, ho1, hb1⟩
  have HB1 := Lib.hid hb1
  have NW := Lib.hid (new_any w1 A1 l c1 (by have := HN.out; omega) (Rd.of_own ho1))
  rw [HN.out] at NW ⊢
  clear ho1 hb1
  go_wp2_with fail
  refine NW.out.mono ?_
  rintro e w2 ⟨c, A2, cap2, rfl, hcw, hcur, hb2⟩
  have HB2 := Lib.hid (below_on HB1.out (Nat.le_refl _) hb2)
  have HC2 := Lib.hid hcur
  clear hcw hcur hb2 HB1 NW
  have RST := Lib.hid (fun W (h : Below w2.heap.size w2 W) => rest_any (HC2.out.below h) (by have := HN.out; omega))
  go_wp2_with fail
  refine (peek_any HC2.out (by have := HN.out; omega) n).mono ?_
  rintro e w3 ⟨v3, rfl, A3, c3, rfl, ho3, hb3⟩
  rw [HXE.out] at ho3 ⊢
  rw [HXL.out] at ho3 ⊢
  have HB3 := Lib.hid (below_on HB2.out (Nat.le_refl _) hb3)
  have HB23 := Lib.hid hb3
  have HC3 := Lib.hid (HC2.out.below hb3)
  have HO3 := Lib.hid ho3
  clear ho3 hb3 HC2 OW
  go_wp2_with fail
  have hr3 : Rd w3 A3 ((l.drop 0).take m) := rd_own HXL.out HO3.out
  have hrb : Rd w3 A ((l.drop 0).take m) := (HR.out.below HB3.out).take _
  refine (same_n _ _ _ ((l.drop 0).take m) ((l.drop 0).take m) _ _ HXL.out (by have := HN.out; simp; omega) _ _ hr3 hrb rfl).mono ?_
  rintro e w4 ⟨rfl, rfl⟩
  clear hr3 hrb
  go_wp2_with fail
  refine (at_any HC3.out.blk).mono ?_
  rintro e w4 ⟨rfl, rfl⟩
  go_wp2_with fail
  go_loopw [11] (fun i wr => ∃ (j : Nat) (x : List UInt8), j ≤ m ∧ i = .int .i64 (j : Int) ∧ Hid (x.length = m) ∧ Hid (wr.ownsRow w2.heap.size 5 1 (.slice A3 m c3) m (x.map byt)) ∧ Hid (Below w2.heap.size w2 wr)) (fun i _ => m - (intOf i).toNat)
  case atStart => exact ⟨0, (l.drop 0).take m, by omega, rfl, HXL, HO3, HB23⟩
  case round =>
    obtain ⟨j, x, hj, rfl, hxn, hox, hbx⟩ := hrel
    by_cases hlt : j < m
    · have hg : ∃ g, A3 = some ⟨g, 0, none⟩ := by
        rcases hox.out.2 with ⟨h, hh⟩ | ⟨g, _, _, h, _⟩
        · omega
        · injection h with h; exact ⟨g, h⟩
      obtain ⟨g, rfl⟩ := hg
      obtain ⟨b, hb⟩ : ∃ b, x[j]? = some b := ⟨_, List.getElem?_eq_getElem (by rw [hxn.out]; exact hlt)⟩
      have hcell : wr.cell? ⟨g, j, none⟩ = some (byt b) := by rw [hox.out.cellAt j (by omega), List.getElem?_map, hb]; rfl
      have hfz : wr.frozen? ⟨g, j, none⟩ = false := hox.out.frozenAt j
      obtain ⟨nb, hnb⟩ := byt_next b
      have HNB := Lib.hid hnb
      have hst := hox.out.stored j (byt nb)
      have HST : Hid ((wr.setCell ⟨g, j, none⟩ (byt nb)).ownsRow w2.heap.size 5 1 (.slice (some ⟨g, 0, none⟩) m c3) m ((x.set j nb).map byt)) := by
        refine Lib.hid ?_
        rw [List.map_set]; exact hst.1
      have HGE := Lib.hid (hbx.out.setCell (p := ⟨g, j, none⟩) (hox.out.lt g rfl).1 (byt nb))
      have hbl := b.toNat_lt
      clear hb hnb hst
      go_wp2_with fail
      rw [← HNB.out]
      refine ⟨⟨j + 1, x.set j nb, by omega, by simp, ?_, HST, HGE⟩, by simp [intOf]; omega⟩
      exact Lib.hid (by rw [List.length_set]; exact hxn.out)
    · have hje : j = m := by omega
      subst hje
      have HRB := Lib.hid (fun W (h : Below w2.heap.size w2 W) => HR.out.below (below_on HB2.out (Nat.le_refl _) h))
      have HDL : Hid ((l.drop 0).length = N) := Lib.hid (by have := HN.out; simp; omega)
      go_wp2_with fail
      go_region_with (first
        | (go_at_call 27; refine (RST.out wr.drew hbx.out.drew).mono ?_; rintro e w5 ⟨v5, rfl, A5, c5, rfl, ho5, hb5⟩; rw [HDL.out] at ho5 ⊢; have HR5 : Hid (Rd w5 A5 (l.drop 0)) := Lib.hid (rd_own HDL.out ho5); have HB5 := Lib.hid (below_on hbx.out.drew (Nat.le_refl _) hb5); clear ho5 hb5)
        | (go_at_call 13; refine (same_n _ _ _ (l.drop 0) (l.drop 0) _ _ HDL.out (by have := HN.out; simp; omega) _ _ HR5.out (by rw [List.drop_zero]; exact HRB.out _ HB5.out) rfl).mono ?_; rintro e w6 ⟨rfl, rfl⟩)
        | (go_at_call 19; refine (known_any _).mono ?_; rintro e w7 ⟨rfl, hb7⟩; have HB7 := Lib.hid (below_on HB2.out (Nat.le_refl _) (below_on HB5.out (Nat.le_refl _) hb7)); clear hb7))
      all_goals (go_wp2; go_ret; exact ⟨rfl, Hid.out (by assumption)⟩)

end Go.Proofs.Ytpelndjfamdjlaa.numPeeks
