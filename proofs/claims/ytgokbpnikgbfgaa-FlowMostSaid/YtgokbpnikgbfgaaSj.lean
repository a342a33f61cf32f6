/-
  What flow's Encode and Decode return: fenc_any and fdec_any. Conditions: those that each theorem states.
  The laws' helpers: small, has and known. Nothing that was there has changed. Conditions: those that each theorem states.
-/
import Derived.Test.YtgokbpnikgbfgaaSg
import Derived.Test.YtgokbpnikgbfgaaSh
import Derived.Test.YtgokbpnikgbfgaaSi0
import Derived.Deep.RegionHeld3
namespace Go.Proofs.Ytgokbpnikgbfgaa
end Go.Proofs.Ytgokbpnikgbfgaa

namespace Go.Proofs.Ytgokbpnikgbfgaa
open Go.RowKit Go.Shelf
open Bt (unp endOf)

theorem Rv.lit (w : World) (t : TypeId) (l : List Value) : Rv (w.alloc (.cells l.toArray t)) (some ⟨w.heap.size, 0, none⟩) l := by
  intro j v hj
  refine ⟨_, rfl, ?_⟩
  have e : (Addr.add ⟨w.heap.size, 0, none⟩ j) = ⟨w.heap.size, j, none⟩ := by
    unfold Addr.add
    by_cases h0 : j = 0
    · rw [if_pos h0, h0]
    · rw [if_neg h0]; simp
  rw [e, cell_of_row _ _ j _ _ _ (World.alloc_heap_new w _)]
  simpa using hj

/-- A table is stored over another. -/
theorem tb_put {W : World} {b : Nat} {z : Int} {A : Option Addr} {n c : Nat} (h : Tb W b z A n c) (z' : Int) (A' : Option Addr) (n' c' : Nat) : ∃ w1 w2, W.setCell ⟨b, 0, none⟩ (.int .i64 z') = w1 ∧ w1.setCell ⟨b, 1, none⟩ (.slice A' n' c') = w2 ∧
    (W.cell? ⟨b, 0, none⟩ = some (.int .i64 z) ∧ W.frozen? ⟨b, 0, none⟩ = false ∧ w1.cell? ⟨b, 1, none⟩ = some (.slice A n c) ∧ w1.frozen? ⟨b, 1, none⟩ = false) ∧ Tb w2 b z' A' n' c' ∧ Chg (fun k => k = b) W w2 := by
  have h1 := h.set0 z'
  have h2 := h1.set1 A' n' c'
  exact ⟨_, _, rfl, rfl, ⟨h.c0, h.free 0, h1.c1, h1.free 1⟩, h2, ((Chg.refl (fun k => k = b) W).set ⟨b, 0, none⟩ rfl _).set ⟨b, 1, none⟩ rfl _⟩
theorem rv_apart {W W' : World} {b : Nat} {A : Option Addr} {l : List Value} (h : Rv W A l) (hc : Chg (fun k => k = b) W W') (hA : ∀ ad, A = some ad → ad.block ≠ b ∧ ad.block < W.heap.size) : Rv W' A l :=
  Rv.same h (fun ad e => hc.block _ (hA ad e).2 (hA ad e).1)

set_option maxRecDepth 100000 in
set_option maxHeartbeats 1000000 in
theorem small_any (w : World) : Calls Try.prog 23 #[] w fun e w' => ∃ A c, e = .returned (tb 2 A 2 c) ∧ Ri w' A [3, 1] ∧ Below w.heap.size w w' := by
  have t1 := Tb.new w 0 none 0 0
  have b1 := below_new w (.cells #[.int .i64 0, .slice none 0 0] 24)
  have sz : (w.alloc (.cells #[.int .i64 0, .slice none 0 0] 24)).heap.size = w.heap.size + 1 := World.size_alloc _ _
  obtain ⟨w1, hw1⟩ : ∃ w1, w.alloc (.cells #[.int .i64 0, .slice none 0 0] 24) = w1 := ⟨_, rfl⟩
  rw [hw1] at t1 b1 sz
  have r2 : Ri (w1.alloc (.cells #[.int .i64 3, .int .i64 1] 3)) (some ⟨w1.heap.size, 0, none⟩) [3, 1] := Rv.lit w1 _ [iv 3, iv 1]
  have b2 := below_new w1 (.cells #[.int .i64 3, .int .i64 1] 3)
  have sz2 : (w1.alloc (.cells #[.int .i64 3, .int .i64 1] 3)).heap.size = w1.heap.size + 1 := World.size_alloc _ _
  have t2 := t1.below b2
  obtain ⟨w2, hw2⟩ : ∃ w2, w1.alloc (.cells #[.int .i64 3, .int .i64 1] 3) = w2 := ⟨_, rfl⟩
  rw [hw2] at r2 b2 t2 sz2
  obtain ⟨g, hg⟩ : ∃ g, w1.heap.size = g := ⟨_, rfl⟩
  rw [hg] at r2 sz2
  obtain ⟨wa, wb, ha, hb, ⟨q0, q1, q2, q3⟩, tbb, hcg⟩ := tb_put t2 2 (some ⟨g, 0, none⟩) 2 2
  have TB := Lib.hid tbb
  have RB : Hid (Ri wb (some ⟨g, 0, none⟩) [3, 1]) := Lib.hid (rv_apart r2 hcg (fun ad e => by cases e; show g ≠ w.heap.size ∧ g < w2.heap.size; omega))
  have BB : Hid (Below w.heap.size w wb) := Lib.hid (by
    have h0 := below_on b1 (Nat.le_refl _) b2
    exact h0.trans (hcg.new h0.size (fun k hk => by rw [hk]; exact Nat.le_refl _)))
  clear t1 b1 r2 b2 t2 tbb hcg sz sz2
  go_enter Try.func23, Try.ntmps23
  go_wp2
  refine bodyPost_ret (results_cell rfl rfl TB.out.load) rfl ?_
  exact ⟨_, _, rfl, RB.out, BB.out⟩

set_option maxRecDepth 100000 in
set_option maxHeartbeats 2000000 in
theorem sameI_any (w : World) (A A2 : Option Addr) (l m : List Int) (n c n2 c2 : Nat) (hn : l.length = n) (hn2 : m.length = n2) (hb : n ≤ 1000000000) (hR : Ri w A l) (hR2 : Ri w A2 m) :
    Calls Try.prog 15 #[.slice A n c, .slice A2 n2 c2] w fun e w' => e = .returned (.bool (decide (l = m))) ∧ Below w.heap.size w w' := by
  obtain ⟨R, hRR⟩ : ∃ R, decide (l = m) = R := ⟨_, rfl⟩
  rw [hRR]
  have HR := Lib.hid hRR
  have R1 := Lib.hid hR
  have R2 := Lib.hid hR2
  have HN := Lib.hid hn
  have HN2 := Lib.hid hn2
  clear hRR hR hR2 hn hn2
  by_cases hl : n = n2
  · subst hl
    go_enter Try.func15, Try.ntmps15
    go_wp2
    go_loopw [5] (fun p wr => ∃ i : Nat, i ≤ n ∧ p = .int .i64 (i : Int) ∧ Hid (l.take i = m.take i) ∧ ∃ d, wr = w.drewN d) (fun p _ => n - (intOf p).toNat)
    case atStart => exact ⟨0, Nat.zero_le _, rfl, Lib.hid (by simp), 0, rfl⟩
    case round =>
      obtain ⟨i, hi, rfl, HA, d, rfl⟩ := hrel
      by_cases hlt : i < n
      · obtain ⟨x, hx⟩ : ∃ x, l[i]? = some x := ⟨_, List.getElem?_eq_getElem (by rw [HN.out]; exact hlt)⟩
        obtain ⟨u, hu⟩ : ∃ u, m[i]? = some u := ⟨_, List.getElem?_eq_getElem (by rw [HN2.out]; exact hlt)⟩
        obtain ⟨ad, rfl, hc⟩ := R1.out i (iv x) (by rw [List.getElem?_map, hx]; rfl)
        obtain ⟨ad2, rfl, hc2⟩ := R2.out i (iv u) (by rw [List.getElem?_map, hu]; rfl)
        have wi : IntKind.i64.wrap (i : Int) = (i : Int) := IntWalk.i64_in _ (by omega)
        by_cases hxu : x = u
        · subst hxu
          have HT : Hid (l.take (i + 1) = m.take (i + 1)) := Lib.hid (by rw [take_succ_get hx, take_succ_get hu, HA.out])
          clear hx hu
          go_wp2
          go_region
          all_goals
            go_wp2
            exact ⟨⟨i + 1, by omega, by simp, HT, d + 1, rfl⟩, by simp [intOf]; omega⟩
        · have HE : Hid (R = false) := Lib.hid (by
            rw [← HR.out, decide_eq_false_iff_not]
            rintro rfl
            rw [hx] at hu
            exact hxu (Option.some.inj hu))
          have hne2 : (x != u) = true := by simp [hxu]
          clear hx hu
          go_wp2
          go_region
          all_goals
            go_wp2
            go_ret
            exact ⟨by rw [HE.out]; rfl, below_drewN' (Below.refl _ w) (d + 1)⟩
      · have HE : Hid (R = true) := Lib.hid (by
          rw [← HR.out, decide_eq_true_iff]
          have := HA.out
          rwa [List.take_of_length_le (by rw [HN.out]; omega), List.take_of_length_le (by rw [HN2.out]; omega)] at this)
        go_wp2
        go_ret
        exact ⟨by rw [HE.out]; rfl, below_drewN' (Below.refl _ w) d⟩
  · have HE : Hid (R = false) := Lib.hid (by
      rw [← HR.out, decide_eq_false_iff_not]
      rintro rfl
      exact hl (HN.out.symm.trans HN2.out))
    go_enter Try.func15, Try.ntmps15
    go_wp2
    go_ret
    exact ⟨by rw [HE.out]; rfl, Below.refl _ _⟩

set_option maxRecDepth 100000 in
set_option maxHeartbeats 2000000 in
theorem hasl_any (w : World) (y : Int) (A : Option Addr) (l : List Int) (N cap : Nat) (hN : l.length = N) (hN2 : N ≤ 1000000) (hR : Ri w A l) (M : Option Addr) (m : List Int) (nm cm : Nat) (hM : m.length = nm) (hm : nm ≤ 1000000) (hRM : Ri w M m) :
    Calls Try.prog 18 #[tb y A N cap, .slice M nm cm] w fun e w' => e = .returned (.bool (hasA l m)) ∧ Below w.heap.size w w' := by
  obtain ⟨R, hRR⟩ : ∃ R, hasA l m = R := ⟨_, rfl⟩
  rw [hRR]
  have b1 := below_new w (.cells #[.int .i64 y, .slice A N cap] 24)
  have t1 := Tb.new w y A N cap
  obtain ⟨w1, hw1⟩ : ∃ w1, w.alloc (.cells #[.int .i64 y, .slice A N cap] 24) = w1 := ⟨_, rfl⟩
  rw [hw1] at b1 t1
  have HS : Hid (∀ W z, Below w1.heap.size w1 W → Calls Try.prog 38 #[tb y A N cap, .int .i64 z] W fun e w' => e = .returned (.bool (hsb l z)) ∧ Below W.heap.size W w') := Lib.hid (fun W z hb => has_any W y A l N cap z hN hN2 ((hR.below b1).below hb))
  have B1 := Lib.hid b1
  have T1 := Lib.hid t1
  have RM := Lib.hid (hRM.below b1)
  have HM := Lib.hid hM
  have HR := Lib.hid hRR
  clear b1 t1 hR hRM hN hM hRR
  go_enter Try.func18, Try.ntmps18
  go_wp2_with fail
  go_loopw [5] (fun p wr => ∃ i : Nat, i ≤ nm ∧ p = .int .i64 (i : Int) ∧ Hid (∀ j z, j < i → m[j]? = some z → hsb l z = true) ∧ Hid (Below w1.heap.size w1 wr)) (fun p _ => nm - (intOf p).toNat)
  case atStart => exact ⟨0, Nat.zero_le _, rfl, Lib.hid (fun j z hj => by omega), Lib.hid (Below.refl _ _)⟩
  case round =>
    obtain ⟨i, hi, rfl, HA, HB⟩ := hrel
    have q3 := T1.out.below HB.out
    by_cases hlt : i < nm
    · obtain ⟨z, hz⟩ : ∃ z, m[i]? = some z := ⟨_, List.getElem?_eq_getElem (by rw [HM.out]; exact hlt)⟩
      obtain ⟨ad, rfl, hcz⟩ := (RM.out.below HB.out) i (iv z) (by rw [List.getElem?_map, hz]; rfl)
      simp only [iv] at hcz
      have az : wr.drew.cell? (ad.add i) = some (.int .i64 z) := hcz
      have a0 : wr.drew.cell? ⟨w.heap.size, 0, none⟩ = some (.int .i64 y) := q3.c0
      have a1 : wr.drew.cell? ⟨w.heap.size, 1, none⟩ = some (.slice A N cap) := q3.c1
      have wi : IntKind.i64.wrap (i : Int) = (i : Int) := IntWalk.i64_in _ (by omega)
      have BD := Lib.hid HB.out.drew
      cases hH : hsb l z with
      | false =>
        have HZ : Hid (∀ W, Below w1.heap.size w1 W → Calls Try.prog 38 #[tb y A N cap, .int .i64 z] W fun e w' => e = .returned (.bool false) ∧ Below W.heap.size W w') := Lib.hid (fun W hb => by rw [← hH]; exact HS.out W z hb)
        have HE : Hid (R = false) := Lib.hid (by
          rw [← HR.out]
          exact List.all_eq_false.2 ⟨z, List.mem_of_getElem? hz, by rw [hH]; decide⟩)
        clear hH hz q3 hcz
        go_wp2
        go_region_held3 (fun W => W.cell? (ad.add i) = some (.int .i64 z) ∧ W.cell? ⟨w.heap.size, 0, none⟩ = some (.int .i64 y) ∧ W.cell? ⟨w.heap.size, 1, none⟩ = some (.slice A N cap)) (first | exact ⟨az, a0, a1⟩ | exact ⟨bz, b0, b1⟩) (first
          | (go_at_call 38; refine (HZ.out _ BD.out).mono ?_; rintro e w3 ⟨rfl, hb3⟩; have bz := (hb3.cell (cell_lt az)).trans az; have b0 := (hb3.cell (cell_lt a0)).trans a0; have b1 := (hb3.cell (cell_lt a1)).trans a1; have B3 := Lib.hid (below_on B1.out (Nat.le_refl _) (below_on BD.out (Nat.le_refl _) hb3)); clear hb3))
        all_goals
          go_wp2
          go_ret
          exact ⟨by rw [HE.out]; rfl, B3.out⟩
      | true =>
        have HZ : Hid (∀ W, Below w1.heap.size w1 W → Calls Try.prog 38 #[tb y A N cap, .int .i64 z] W fun e w' => e = .returned (.bool true) ∧ Below W.heap.size W w') := Lib.hid (fun W hb => by rw [← hH]; exact HS.out W z hb)
        have HN : Hid (∀ j z, j < i + 1 → m[j]? = some z → hsb l z = true) := Lib.hid (fun j z' hj hz' => by
          rcases Nat.lt_or_ge j i with h1 | h1
          · exact HA.out j z' h1 hz'
          · have e : j = i := by omega
            subst e
            rw [hz] at hz'
            cases hz'
            exact hH)
        clear hH hz q3 hcz
        go_wp2
        go_region_held3 (fun W => W.cell? (ad.add i) = some (.int .i64 z) ∧ W.cell? ⟨w.heap.size, 0, none⟩ = some (.int .i64 y) ∧ W.cell? ⟨w.heap.size, 1, none⟩ = some (.slice A N cap)) (first | exact ⟨az, a0, a1⟩ | exact ⟨bz, b0, b1⟩) (first
          | (go_at_call 38; refine (HZ.out _ BD.out).mono ?_; rintro e w3 ⟨rfl, hb3⟩; have bz := (hb3.cell (cell_lt az)).trans az; have b0 := (hb3.cell (cell_lt a0)).trans a0; have b1 := (hb3.cell (cell_lt a1)).trans a1; have B3 := Lib.hid (below_on BD.out (Nat.le_refl _) hb3); clear hb3))
        all_goals
          go_wp2
          exact ⟨⟨i + 1, by omega, by simp, HN, B3⟩, by simp [intOf]; omega⟩
    · have HE : Hid (R = true) := Lib.hid (by
        rw [← HR.out]
        refine List.all_eq_true.2 (fun z hz => ?_)
        obtain ⟨j, hj⟩ := List.mem_iff_getElem?.1 hz
        exact HA.out j z (by have := (List.getElem?_eq_some_iff.1 hj).1; rw [HM.out] at this; omega) hj)
      clear q3
      go_wp2
      go_ret
      exact ⟨by rw [HE.out]; rfl, below_on B1.out (Nat.le_refl _) HB.out⟩

theorem rd_one8 (w : World) (b : UInt8) (z : Int) (hz : z = (b.toNat : Int)) : Bt.Rd (w.alloc (.cells #[.int .u8 z] 5)) (some ⟨w.heap.size, 0, none⟩) [b] := by
  subst hz
  exact Rv.lit w _ [Bt.byt b]

set_option maxRecDepth 100000 in
set_option maxHeartbeats 2000000 in
theorem known_any (w : World) : Calls Try.prog 12 #[] w fun e w' => e = .returned (.bool true) ∧ Below w.heap.size w w' := by
  have DE : ∀ (D : List UInt8) (n : Int) (R : Nat × List Nat), D.length ≤ 1 → fdR 2 [3, 1] D n = R → ∀ W A c B nb cb, D.length = nb → Ri W A [3, 1] → Bt.Rd W B D → Calls Try.prog 13 #[tb 2 A 2 c, .slice B nb cb, .int .i64 n] W (Fres W R) := fun D n R hD hR W A c B nb cb hn hr hb => by
    rw [← hR]
    exact fdec_any W 2 A [3, 1] 2 c rfl (by decide) hr B D nb cb hn (by omega) hb n
  have D1 := Lib.hid (DE [0x13] 2 (0, [0, 1]) (by decide) (by decide +kernel))
  have D2 := Lib.hid (DE [1] 0 (0, []) (by decide) (by decide +kernel))
  have D3 := Lib.hid (DE [2] 0 (14, []) (by decide) (by decide +kernel))
  have D4 := Lib.hid (DE [] 0 (14, []) (by decide) (by decide +kernel))
  clear DE
  have SM : Hid (∀ W A c B cb, Ri W A [0, 1] → Ri W B [0, 1] → Calls Try.prog 15 #[.slice A 2 c, .slice B 2 cb] W fun e w' => e = .returned (.bool true) ∧ Below W.heap.size W w') := Lib.hid (fun W A c B cb h1 h2 => sameI_any W A B [0, 1] [0, 1] 2 c 2 cb rfl rfl (by decide) h1 h2)
  go_enter Try.func12, Try.ntmps12
  go_upto_region 2 with (first
    | (go_at_call 23; refine (small_any w).mono ?_; rintro e w1 ⟨A1, c1, rfl, hr1, hb1⟩; have B2 := Lib.hid (below_on hb1 (Nat.le_refl _) (below_new w1 (.cells #[.int .u8 19] 5))); have R2 := Lib.hid (hr1.below (below_new w1 (.cells #[.int .u8 19] 5))); have Y2 := Lib.hid (rd_one8 w1 0x13 19 (by decide)); clear hr1 hb1)
    | (go_at_call 13; refine (D1.out _ _ _ _ _ _ rfl R2.out Y2.out).mono ?_; rintro e w3 ⟨A3, n3, c3, rfl, hb3, ho3⟩; obtain rfl : n3 = 2 := (by have := ho3.1; simp at this; omega); have B3 := Lib.hid (below_on B2.out (Nat.le_refl _) hb3); have R3 : Hid (Ri w3 A3 [0, 1]) := Lib.hid (Rv.of_own ho3); clear hb3 ho3))
  clear B2 R2 Y2
  go_upto_region 3 with (first
    | (go_at_call 23; refine (small_any w3).mono ?_; rintro e w1 ⟨A1, c1, rfl, hr1, hb1⟩; have B2 := Lib.hid (below_on hb1 (Nat.le_refl _) (below_new w1 (.cells #[.int .u8 1] 5))); have R2 := Lib.hid (hr1.below (below_new w1 (.cells #[.int .u8 1] 5))); have Y2 := Lib.hid (rd_one8 w1 1 1 (by decide)); clear hr1 hb1)
    | (go_at_call 13; refine (D2.out _ _ _ _ _ _ rfl R2.out Y2.out).mono ?_; rintro e w4 ⟨A4, n4, c4, rfl, hb4, ho4⟩; obtain rfl : n4 = 0 := (by have := ho4.1; simp at this; omega); have B34 := Lib.hid (below_on B2.out (Nat.le_refl _) hb4); have B4 := Lib.hid (below_on B3.out (Nat.le_refl _) B34.out); have R4 := Lib.hid (R3.out.below B34.out); clear hb4 ho4))
  clear B2 R2 Y2
  go_upto_region 4 with (first
    | (go_at_call 23; refine (small_any w4).mono ?_; rintro e w1 ⟨A1, c1, rfl, hr1, hb1⟩; have B2 := Lib.hid (below_on hb1 (Nat.le_refl _) (below_new w1 (.cells #[.int .u8 2] 5))); have R2 := Lib.hid (hr1.below (below_new w1 (.cells #[.int .u8 2] 5))); have Y2 := Lib.hid (rd_one8 w1 2 2 (by decide)); clear hr1 hb1)
    | (go_at_call 13; refine (D3.out _ _ _ _ _ _ rfl R2.out Y2.out).mono ?_; rintro e w5 ⟨A5, n5, c5, rfl, hb5, ho5⟩; have B45 := Lib.hid (below_on B2.out (Nat.le_refl _) hb5); have B5 := Lib.hid (below_on B4.out (Nat.le_refl _) B45.out); have R5 := Lib.hid (R4.out.below B45.out); clear hb5 ho5))
  clear B2 R2 Y2
  go_upto_region 5 with (first
    | (go_at_call 23; refine (small_any w5).mono ?_; rintro e w1 ⟨A1, c1, rfl, hr1, hb1⟩; have B2 := Lib.hid hb1; have R2 := Lib.hid hr1; clear hr1 hb1)
    | (go_at_call 13; refine (D4.out _ _ _ _ _ _ rfl R2.out (Rv.nil _ _)).mono ?_; rintro e w6 ⟨A6, n6, c6, rfl, hb6, ho6⟩; have B56 := Lib.hid (below_on B2.out (Nat.le_refl _) hb6); have B6 := Lib.hid (below_on (below_on B5.out (Nat.le_refl _) B56.out) (Nat.le_refl _) (below_new w6 (.cells #[.int .i64 0, .int .i64 1] 3))); have R6 := Lib.hid ((R5.out.below B56.out).below (below_new w6 (.cells #[.int .i64 0, .int .i64 1] 3))); have Q6 : Hid (Ri (w6.alloc (.cells #[.int .i64 0, .int .i64 1] 3)) (some ⟨w6.heap.size, 0, none⟩) [0, 1]) := Lib.hid (Rv.lit w6 _ [iv 0, iv 1]); clear hb6 ho6))
  go_wp2_with (go_at_call 15; refine (SM.out _ _ _ _ _ R6.out Q6.out).mono ?_; rintro e w7 ⟨rfl, hb7⟩; have B7 := Lib.hid (below_on B6.out (Nat.le_refl _) hb7); clear hb7)
  go_ret
  exact ⟨rfl, B7.out⟩

end Go.Proofs.Ytgokbpnikgbfgaa
