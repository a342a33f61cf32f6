/-
  Proved: the law StatesWalk returns true for all tables and symbols: symbols that are encoded from the last to the first are decoded in their order. No condition.
-/
import Derived.BigQuiet
import Derived.Deep.QuietTactic
import Derived.Deep.RegionHeld3
import Derived.Test.YtonapehlhkoplaaWlk
namespace Go.Proofs.Ytonapehlhkoplaa.statesWalk
open Go.ChangeShapes Go.WideShapes Go.ChangeAt Go.RowKit

set_option maxRecDepth 100000 in
set_option maxHeartbeats 4000000 in
theorem walk_long (y : Int) (A : Option Addr) (N cap : Nat) (B : Option Addr) (r ck : Nat) (w : World) (h : 300 < N) :
    Calls Try.prog 8 #[tb y A N cap, .slice B r ck] w fun e w' => e = .returned (.bool true) ∧ Below w.heap.size w w' := by
  have hd : decide ((300 : Int) < (N : Int)) = true := decide_eq_true (by omega)
  have b1 := below_new w (.cells #[.int .i64 y, .slice A N cap] 24)
  have t1 := Tb.new w y A N cap
  obtain ⟨w1, hw1⟩ : ∃ w1, w.alloc (.cells #[.int .i64 y, .slice A N cap] 24) = w1 := ⟨_, rfl⟩
  rw [hw1] at b1 t1
  have c0 := t1.c0
  have c1 := t1.c1
  have KN := Lib.hid (known_any w1)
  have B0 := Lib.hid b1
  clear b1 t1
  go_enter Try.func8, Try.ntmps8
  go_wp2_with (go_at_call 11; refine KN.out.mono ?_; rintro e w2 ⟨rfl, hb2⟩; have B1 := Lib.hid (below_on B0.out (Nat.le_refl _) hb2); clear hb2)
  go_ret
  exact ⟨rfl, B1.out⟩

set_option maxRecDepth 100000 in
set_option maxHeartbeats 4000000 in
theorem walk_many (y : Int) (A : Option Addr) (N cap : Nat) (B : Option Addr) (r ck : Nat) (w : World) (h : N ≤ 300) (h2 : 200 < r) :
    Calls Try.prog 8 #[tb y A N cap, .slice B r ck] w fun e w' => e = .returned (.bool true) ∧ Below w.heap.size w w' := by
  have hd : decide ((300 : Int) < (N : Int)) = false := decide_eq_false (by omega)
  have hd2 : decide ((200 : Int) < (r : Int)) = true := decide_eq_true (by omega)
  have b1 := below_new w (.cells #[.int .i64 y, .slice A N cap] 24)
  have t1 := Tb.new w y A N cap
  obtain ⟨w1, hw1⟩ : ∃ w1, w.alloc (.cells #[.int .i64 y, .slice A N cap] 24) = w1 := ⟨_, rfl⟩
  rw [hw1] at b1 t1
  have c0 := t1.c0
  have c1 := t1.c1
  have KN := Lib.hid (known_any w1)
  have B0 := Lib.hid b1
  clear b1 t1
  go_enter Try.func8, Try.ntmps8
  go_wp2_with (go_at_call 11; refine KN.out.mono ?_; rintro e w2 ⟨rfl, hb2⟩; have B1 := Lib.hid (below_on B0.out (Nat.le_refl _) hb2); clear hb2)
  go_ret
  exact ⟨rfl, B1.out⟩

set_option maxRecDepth 100000 in
set_option maxHeartbeats 4000000 in
theorem walk_zero (y : Int) (A : Option Addr) (N cap : Nat) (B : Option Addr) (r ck : Nat) (w : World) (h : N ≤ 300) (h2 : r = 0) :
    Calls Try.prog 8 #[tb y A N cap, .slice B r ck] w fun e w' => e = .returned (.bool true) ∧ Below w.heap.size w w' := by
  have hd : decide ((300 : Int) < (N : Int)) = false := decide_eq_false (by omega)
  subst h2
  have b1 := below_new w (.cells #[.int .i64 y, .slice A N cap] 24)
  have t1 := Tb.new w y A N cap
  obtain ⟨w1, hw1⟩ : ∃ w1, w.alloc (.cells #[.int .i64 y, .slice A N cap] 24) = w1 := ⟨_, rfl⟩
  rw [hw1] at b1 t1
  have c0 := t1.c0
  have c1 := t1.c1
  have KN := Lib.hid (known_any w1)
  have B0 := Lib.hid b1
  clear b1 t1
  go_enter Try.func8, Try.ntmps8
  go_wp2_with (go_at_call 11; refine KN.out.mono ?_; rintro e w2 ⟨rfl, hb2⟩; have B1 := Lib.hid (below_on B0.out (Nat.le_refl _) hb2); clear hb2)
  go_ret
  exact ⟨rfl, B1.out⟩

set_option maxRecDepth 100000 in
set_option maxHeartbeats 4000000 in
theorem walk_bad (y : Int) (A : Option Addr) (l : List Int) (N cap : Nat) (B : Option Addr) (r : Nat) (ck : Nat) (w : World) (hr1 : 1 ≤ r) (hr2 : r ≤ 200) (hN : l.length = N) (h : N ≤ 300) (hv : vt y l 256 9 = false) (hR : Ri w A l) :
    Calls Try.prog 8 #[tb y A N cap, .slice B r ck] w fun e w' => e = .returned (.bool true) ∧ Below w.heap.size w w' := by
  have hd : decide ((300 : Int) < (N : Int)) = false := decide_eq_false (by omega)
  have hd2 : decide ((200 : Int) < (r : Int)) = false := decide_eq_false (by omega)
  have hd3 : ((r : Int) == 0) = false := by simp; omega
  have b1 := below_new w (.cells #[.int .i64 y, .slice A N cap] 24)
  have t1 := Tb.new w y A N cap
  obtain ⟨w1, hw1⟩ : ∃ w1, w.alloc (.cells #[.int .i64 y, .slice A N cap] 24) = w1 := ⟨_, rfl⟩
  rw [hw1] at b1 t1
  have c0 := t1.c0
  have c1 := t1.c1
  have MY : Hid (Calls Try.prog 16 #[tb y A N cap, .int .i64 256, .int .i64 9] w1 fun e w' => e = .returned (.int .i64 13) ∧ Below w1.heap.size w1 w') := Lib.hid (by
    have := may_any w1 y 256 9 A l N cap hN (by omega) (hR.below b1)
    rw [hv] at this
    exact this)
  have B0 := Lib.hid b1
  clear b1 t1 hR hN hv
  go_enter Try.func8, Try.ntmps8
  go_wp2_with (first
    | (go_at_call 16; refine MY.out.mono ?_; rintro e w2 ⟨rfl, hb2⟩; have B2 := Lib.hid (below_on B0.out (Nat.le_refl _) hb2); clear hb2)
    | (go_at_call 11; refine (known_any w2).mono ?_; rintro e w3 ⟨rfl, hb3⟩; have B3 := Lib.hid (below_on B2.out (Nat.le_refl _) hb3); clear hb3))
  go_ret
  exact ⟨rfl, B3.out⟩

set_option maxRecDepth 100000 in
set_option maxHeartbeats 4000000 in
theorem walk_ok (y s : Nat) (A : Option Addr) (l : List Int) (N cap : Nat) (B : Option Addr) (m : List Int) (r : Nat) (ck : Nat) (w : World) (hN : l.length = N) (hv : Vt y l) (hse : 2 ^ y = s) (hR : Ri w A l) (hr1 : 1 ≤ r) (hr2 : r ≤ 200) (hm : m.length = r) (hRm : Ri w B m) :
    Calls Try.prog 8 #[tb y A N cap, .slice B r ck] w fun e w' => e = .returned (.bool true) ∧ Below w.heap.size w w' := by
  have hN2 : N ≤ 256 := by rw [← hN]; exact hv.len
  have hy9 := hv.log
  have hs5 : s ≤ 512 := by rw [← hse]; exact hv.size
  have hs1 : 1 ≤ s := by rw [← hse]; exact Nat.one_le_two_pow
  have hd : decide ((300 : Int) < (N : Int)) = false := decide_eq_false (by omega)
  have hd2 : decide ((200 : Int) < (r : Int)) = false := decide_eq_false (by omega)
  have hd3 : ((r : Int) == 0) = false := by simp; omega
  have b1 := below_new w (.cells #[.int .i64 (y : Int), .slice A N cap] 24)
  have t1 := Tb.new w (y : Int) A N cap
  obtain ⟨w1, hw1⟩ : ∃ w1, w.alloc (.cells #[.int .i64 (y : Int), .slice A N cap] 24) = w1 := ⟨_, rfl⟩
  rw [hw1] at b1 t1
  have c0 := t1.c0
  have c1 := t1.c1
  have hR1 := hR.below b1
  have MY : Hid (Calls Try.prog 16 #[tb y A N cap, .int .i64 256, .int .i64 9] w1 fun e w' => e = .returned (.int .i64 0) ∧ Below w1.heap.size w1 w') := Lib.hid (by
    have := may_any w1 (y : Int) 256 9 A l N cap hN (by omega) hR1
    rw [vt_iff.2 ⟨y, rfl, hv⟩] at this
    exact this)
  have BG : Hid (∀ W, Below w1.heap.size w1 W → Calls Try.prog 17 #[tb y A N cap] W fun e w' => ∃ b, e = .returned (.pointer (some ⟨b, 0, none⟩)) ∧ Cdr w' W.heap.size b y s N l ∧ Below W.heap.size W w') := Lib.hid (fun W hb => begin_ok W y s A l N cap hN hv hse (hR1.below hb))
  have B0 := Lib.hid b1
  have T1 := Lib.hid t1
  have RM := Lib.hid (hRm.below b1)
  have HM := Lib.hid hm
  have HS : Hid (∀ W z, Below w1.heap.size w1 W → Calls Try.prog 23 #[tb y A N cap, .int .i64 z] W fun e w' => e = .returned (.bool (hsb l z)) ∧ Below W.heap.size W w') := Lib.hid (fun W z hb => has_any W (y : Int) A l N cap z hN (by omega) (hR1.below hb))
  have SY : Hid ((∀ j, j < r → hsb l (m[j]?.getD 0) = true) → ∀ j, j < r → m[j]? = some (sy m j : Int) ∧ 1 ≤ nos l (sy m j)) := Lib.hid (fun h j hj => sy_get hv (by omega) (h j hj))
  have ST : Hid ((∀ j, j < r → 1 ≤ nos l (sy m j)) → ∃ (S Bt : Nat → Nat), (∀ W B b, Cdr W B b y s N l → Calls Try.prog 21 #[.pointer (some ⟨b, 0, none⟩), .int .i64 (sy m (r - 1) : Int)] W fun e w' => e = .returned (.tuple #[.int .i64 (S 0 : Int), .int .i64 0]) ∧ w' = W) ∧
      (∀ k, k + 1 < r → ∃ n : Nat, Bt k ≤ 512 ∧ S (k + 1) ≤ 512 ∧ (∀ W B b, Cdr W B b y s N l → Calls Try.prog 19 #[.pointer (some ⟨b, 0, none⟩), .int .i64 (S k : Int), .int .i64 (sy m (r - 2 - k) : Int)] W fun e w' => e = .returned (.tuple #[stv (S (k + 1) : Int) (Bt k : Int) (n : Int), .int .i64 0]) ∧ Below W.heap.size W w') ∧
        (∀ W B b, Cdr W B b y s N l → Calls Try.prog 25 #[.pointer (some ⟨b, 0, none⟩), .int .i64 (S (k + 1) : Int), .int .u64 (Bt k : Int)] W fun e w' => e = .returned (.tuple #[.int .i64 (S k : Int), .int .i64 0]) ∧ Below W.heap.size W w')) ∧
      (∀ k, k < r → S k ≤ 512 ∧ ∃ p q : Nat, ∀ W B b, Cdr W B b y s N l → Calls Try.prog 15 #[.pointer (some ⟨b, 0, none⟩), .int .i64 (S k : Int)] W fun e w' => e = .returned (.tuple #[cev (sy m (r - 1 - k) : Int) (p : Int) (q : Int), .int .i64 0]) ∧ Below W.heap.size W w')) := Lib.hid (fun hx => by
    refine ⟨stw (cls y l (spl s l)) m r, btw (cls y l (spl s l)) m r, ?_, ?_, ?_⟩
    · intro W B b h
      obtain ⟨gc, go, V, h⟩ := h
      have h1 := lowest_any W h hN hv hse (sy m (r - 1) : Int)
      obtain ⟨i, _, hf⟩ := vt_low hv (x := sy m (r - 1)) (hx _ (by omega))
      rw [hse] at hf
      have e1 : Tl (cls y l (spl s l)) (sy m (r - 1) : Int) = .tuple #[.int .i64 (stw (cls y l (spl s l)) m r 0 : Int), .int .i64 0] := by
        unfold Tl lwe stw
        rw [hf]
        rfl
      rwa [e1] at h1
    · intro k hk
      obtain ⟨n, _, h2, h3, h4⟩ := stw_steps hv hse hx hk
      obtain ⟨_, _, _, h5⟩ := stw_ok hv hse hx (k + 1) hk
      refine ⟨n, h2, by omega, ?_, ?_⟩
      · intro W B b h
        obtain ⟨gc, go, V, h⟩ := h
        rw [← h3]
        exact predecessor_any W h hN hv hse _ _
      · intro W B b h
        obtain ⟨gc, go, V, h⟩ := h
        rw [← h4]
        exact nexts_any W h hv hse _ _ (by omega)
    · intro k hk
      obtain ⟨p, q, h2, h3⟩ := stw_ok hv hse hx k hk
      refine ⟨by omega, p, q, ?_⟩
      intro W B b h
      obtain ⟨gc, go, V, h⟩ := h
      rw [← tc_at h2]
      exact cell_any W h hv hse _)
  clear b1 t1 hR hR1 hN hv hse hm hRm
  go_enter Try.func8, Try.ntmps8
  go_wp2_with (first
    | (go_at_call 16; refine MY.out.mono ?_; rintro e w2 ⟨rfl, hb2⟩; have B2 := Lib.hid hb2; have q2 := T1.out.below hb2; have d0 := q2.c0; have d1 := q2.c1; clear hb2 q2))
  clear c0 c1 d0 d1
  go_loopw [5] (fun p wr => ∃ i : Nat, i ≤ r ∧ p = .int .i64 (i : Int) ∧ Hid (∀ j, j < i → hsb l (m[j]?.getD 0) = true) ∧ Hid (Below w1.heap.size w1 wr)) (fun p _ => r - (intOf p).toNat)
  case atStart => exact ⟨0, Nat.zero_le _, rfl, Lib.hid (fun j hj => by omega), B2⟩
  case round =>
    obtain ⟨i, hi, rfl, HA, HB⟩ := hrel
    have q3 := T1.out.below HB.out
    by_cases hlt : i < r
    · obtain ⟨z, hz⟩ : ∃ z, m[i]? = some z := ⟨_, List.getElem?_eq_getElem (by rw [HM.out]; exact hlt)⟩
      obtain ⟨ad, rfl, hcz⟩ := RM.out i (iv z) (by rw [List.getElem?_map, hz]; rfl)
      simp only [iv] at hcz
      have az : wr.drew.cell? (ad.add i) = some (.int .i64 z) := (HB.out.cell (cell_lt hcz)).trans hcz
      have a0 : wr.drew.cell? ⟨w.heap.size, 0, none⟩ = some (.int .i64 (y : Int)) := q3.c0
      have a1 : wr.drew.cell? ⟨w.heap.size, 1, none⟩ = some (.slice A N cap) := q3.c1
      have wi : IntKind.i64.wrap (i : Int) = (i : Int) := IntWalk.i64_in _ (by omega)
      have BD := Lib.hid HB.out.drew
      cases hH : hsb l z with
      | false =>
        have HZ : Hid (∀ W, Below w1.heap.size w1 W → Calls Try.prog 23 #[tb y A N cap, .int .i64 z] W fun e w' => e = .returned (.bool false) ∧ Below W.heap.size W w') := Lib.hid (fun W hb => by rw [← hH]; exact HS.out W z hb)
        clear hH hz q3 hcz
        go_wp2
        go_region_held3 (fun W => W.cell? (ad.add i) = some (.int .i64 z) ∧ W.cell? ⟨w.heap.size, 0, none⟩ = some (.int .i64 (y : Int)) ∧ W.cell? ⟨w.heap.size, 1, none⟩ = some (.slice A N cap)) (first | exact ⟨az, a0, a1⟩ | exact ⟨bz, b0, b1⟩) (first
          | (go_at_call 23; refine (HZ.out _ BD.out).mono ?_; rintro e w3 ⟨rfl, hb3⟩; have bz := (hb3.cell (cell_lt az)).trans az; have b0 := (hb3.cell (cell_lt a0)).trans a0; have b1 := (hb3.cell (cell_lt a1)).trans a1; have B3 := Lib.hid (below_on BD.out (Nat.le_refl _) hb3); clear hb3))
        all_goals
          go_wp2_with (go_at_call 11; refine (known_any _).mono ?_; rintro e w9 ⟨rfl, hb9⟩; have BZ := Lib.hid (below_on B0.out (Nat.le_refl _) (below_on B3.out (Nat.le_refl _) hb9)); clear hb9)
          go_ret
          exact ⟨rfl, BZ.out⟩
      | true =>
        have HZ : Hid (∀ W, Below w1.heap.size w1 W → Calls Try.prog 23 #[tb y A N cap, .int .i64 z] W fun e w' => e = .returned (.bool true) ∧ Below W.heap.size W w') := Lib.hid (fun W hb => by rw [← hH]; exact HS.out W z hb)
        have HN : Hid (∀ j, j < i + 1 → hsb l (m[j]?.getD 0) = true) := Lib.hid (fun j hj => by
          rcases Nat.lt_or_ge j i with h1 | h1
          · exact HA.out j h1
          · have e : j = i := by omega
            subst e
            rw [hz]
            exact hH)
        clear hH hz q3 hcz
        go_wp2
        go_region_held3 (fun W => W.cell? (ad.add i) = some (.int .i64 z) ∧ W.cell? ⟨w.heap.size, 0, none⟩ = some (.int .i64 (y : Int)) ∧ W.cell? ⟨w.heap.size, 1, none⟩ = some (.slice A N cap)) (first | exact ⟨az, a0, a1⟩ | exact ⟨bz, b0, b1⟩) (first
          | (go_at_call 23; refine (HZ.out _ BD.out).mono ?_; rintro e w3 ⟨rfl, hb3⟩; have bz := (hb3.cell (cell_lt az)).trans az; have b0 := (hb3.cell (cell_lt a0)).trans a0; have b1 := (hb3.cell (cell_lt a1)).trans a1; have B3 := Lib.hid (below_on BD.out (Nat.le_refl _) hb3); clear hb3))
        all_goals
          go_wp2
          exact ⟨⟨i + 1, by omega, by simp, HN, B3⟩, by simp [intOf]; omega⟩
    · have hir : i = r := by omega
      have HAL := Lib.hid (SY.out (fun j hj => HA.out j (by omega)))
      obtain ⟨S, Bt, s1, s2, s3⟩ := ST.out (fun j hj => (HAL.out j hj).2)
      have S1 := Lib.hid s1
      have S2 := Lib.hid s2
      have S3 := Lib.hid s3
      have a0 := q3.c0
      have a1 := q3.c1
      have RMr : Hid (∀ W, Below w1.heap.size w1 W → ∀ j, j < r → ∃ ad, B = some ad ∧ W.cell? (ad.add j) = some (.int .i64 (sy m j : Int))) := Lib.hid (fun W hb j hj => by
        obtain ⟨ad, e, hc⟩ := RM.out j (iv (sy m j : Int)) (by rw [List.getElem?_map, (HAL.out j hj).1]; rfl)
        exact ⟨ad, e, (hb.cell (cell_lt hc)).trans hc⟩)
      clear s1 s2 s3 q3 hir HA ST SY HS
      have er1 : (r : Int) - 1 = ((r - 1 : Nat) : Int) := by omega
      obtain ⟨r1, hr1e⟩ : ∃ r1, r - 1 = r1 := ⟨_, rfl⟩
      rw [hr1e] at er1
      have wr1 : IntKind.i64.wrap (r1 : Int) = (r1 : Int) := IntWalk.i64_in _ (by omega)
      have hr1r : r1 < r := by omega
      obtain ⟨x1, hx1⟩ : ∃ x1, sy m r1 = x1 := ⟨_, rfl⟩
      have S1' := S1.out
      rw [hr1e, hx1] at S1'
      have LO := Lib.hid S1'
      clear S1 S1'
      go_wp2_with (first
        | (go_at_call 17; refine (BG.out wr HB.out).mono ?_; rintro e w3 ⟨b, rfl, hC3, hb3⟩; have C3 := Lib.hid hC3; have B3 := Lib.hid (below_on HB.out (Nat.le_refl _) hb3); obtain ⟨ad, hBe, cx⟩ := RMr.out w3 B3.out r1 hr1r; subst hBe; rw [hx1] at cx; clear hb3 hC3)
        | (go_at_call 21; refine (LO.out w3 _ b C3.out).mono ?_; rintro e w3 ⟨rfl, rfl⟩))
      have H3 : Hid (w1.heap.size ≤ w3.heap.size) := Lib.hid B3.out.size
      have C3' := C3
      clear a0 a1 cx hx1 LO
      go_loopw [7, 9, 10] (fun st bs p wq => ∃ (k c' : Nat) (A' : Option Addr) (Z : Int), k + 1 ≤ r ∧ p = .int .i64 Z ∧ Hid (Z = (r : Int) - 2 - (k : Int)) ∧ st = .int .i64 (S k : Int) ∧ bs = .slice A' k c' ∧ Hid (wq.ownsRow w3.heap.size 42 1 (.slice A' k c') k ((List.range k).map (fun j => uv (Bt j)))) ∧ Hid (Below w3.heap.size w3 wq)) (fun _ _ p _ => (intOf p + 1).toNat)
      case atStart => exact ⟨0, 0, none, _, by omega, rfl, Lib.hid (by omega), rfl, rfl, Lib.hid (World.ownsRow_nil _ _ _ _), Lib.hid (Below.refl _ _)⟩
      case round =>
        obtain ⟨k, c', A', Z, hk, rfl, HZ, rfl, rfl, HO, HB2⟩ := hrel
        have CQ := Lib.hid (C3.out.below HB2.out)
        have BQ := Lib.hid (below_on B3.out (Nat.le_refl _) HB2.out)
        by_cases hkr : k + 1 < r
        · obtain ⟨j, rfl⟩ : ∃ j : Nat, Z = (j : Int) := ⟨Z.toNat, by have := HZ.out; omega⟩
          have hj : j = r - 2 - k := by have := HZ.out; omega
          have hjr : j < r := by omega
          obtain ⟨n, hb512, hs512, PRk, NXk⟩ := S2.out k hkr
          have hz0 : decide ((0 : Int) ≤ (j : Int)) = true := decide_eq_true (by omega)
          have wj : IntKind.i64.wrap (j : Int) = (j : Int) := IntWalk.i64_in _ (by omega)
          obtain ⟨ad', hBe, cj⟩ := RMr.out wr BQ.out j hjr
          injection hBe with hBe
          subst hBe
          rw [← hj] at PRk
          obtain ⟨x2, hx2⟩ : ∃ x, sy m j = x := ⟨_, rfl⟩
          obtain ⟨b0, hb0⟩ : ∃ b0, Bt k = b0 := ⟨_, rfl⟩
          obtain ⟨u1, hu1⟩ : ∃ u1, S (k + 1) = u1 := ⟨_, rfl⟩
          obtain ⟨u0, hu0⟩ : ∃ u0, S k = u0 := ⟨_, rfl⟩
          rw [hx2] at cj PRk
          rw [hb0, hu1, hu0] at PRk
          rw [hb0] at hb512
          rw [hu1] at hs512
          have PR := Lib.hid PRk
          have HN : Hid (S (k + 1) = u1) := Lib.hid hu1
          have HR : Hid ((List.range (k + 1)).map (fun j => uv (Bt j)) = (List.range k).map (fun j => uv (Bt j)) ++ [.int .u64 (b0 : Int)]) := Lib.hid (by rw [List.range_succ, List.map_append]; simp [hb0])
          have HZ2 : Hid ((j : Int) - 1 = (r : Int) - 2 - ((k + 1 : Nat) : Int)) := Lib.hid (by omega)
          obtain ⟨xs, hxs⟩ : ∃ xs, (List.range k).map (fun j => uv (Bt j)) = xs := ⟨_, rfl⟩
          rw [hxs] at HO HR
          simp only [hu0]
          have hk2 : k ≤ 200 := by omega
          have hsz3 : Hid (w3.heap.size ≤ wr.heap.size) := Lib.hid HB2.out.size
          clear PRk NXk hx2 hb0 hu1 hu0 hxs hj HZ
          go_wp2_with (first
            | (go_at_call 19; refine (PR.out wr _ b CQ.out).mono ?_; rintro e w5 ⟨rfl, hb5⟩; obtain ⟨W1, Wa, Wb, Wc, hW1, k0', f0, hWa, k1', f1, hWb, k2', f2, hWc, hS, hBS, hB⟩ := new_step (below_on HB2.out (Nat.le_refl _) hb5) (u1 : Int) (b0 : Int) (n : Int); have n0 := hS.c0; have n1 := hS.c1; have hO5 := own_below (own_below HO.out hb5) hBS; have O5 : Hid ((Wc.alloc (.cells #[.int .u64 (b0 : Int)] 42)).ownsRow w3.heap.size 42 1 (.slice A' k c') k xs) := Lib.hid (own_below hO5 (below_new _ _)); have R5 := Lib.hid (lit_rv8 Wc (.int .u64 (b0 : Int)) _ rfl); have B5 := Lib.hid (below_on hB (Nat.le_refl _) (below_new Wc (.cells #[.int .u64 (b0 : Int)] 42))); clear hS hBS hB hb5 hO5)
            | (at_builtin; refine wpList_append_vals Try.underlying59 u64_info rfl rfl _ _ rfl w3.heap.size (.slice A' k c') k xs rfl O5.out (some ⟨Wc.heap.size, 0, none⟩) [.int .u64 (b0 : Int)] (by simp [Value.oneCell']) 1 1 rfl rfl R5.out (by omega) (by omega) B5.out.size ?_; intro v6 w6 ho6 hg6 he6; obtain ⟨A6, c6, rfl, hc6⟩ := own_form ho6; have O6 := Lib.hid ho6; have B6 := Lib.hid (B5.out.grown hg6 B5.out.size (fun _ e => own_ge O5.out e)); clear ho6 hg6 he6 hc6))
          exact ⟨⟨k + 1, c6, A6, (j : Int) - 1, by omega, rfl, HZ2, by rw [HN.out], rfl, Lib.hid (by rw [HR.out]; exact O6.out), B6⟩, by simp [intOf]⟩
        · have hZ1 : Z = -1 := by have := HZ.out; omega
          subst hZ1
          have hkr1 : k + 1 = r := by omega
          have HK := Lib.hid hkr1
          obtain ⟨u0, hu0⟩ : ∃ u0, S k = u0 := ⟨_, rfl⟩
          have HU0 : Hid (u0 = S (r - 1 - 0)) := Lib.hid (by rw [← hu0, ← hkr1]; rfl)
          simp only [hu0]
          have HSZ : Hid (w1.heap.size ≤ wr.heap.size) := Lib.hid (Nat.le_trans H3.out HB2.out.size)
          clear HZ hkr hu0 hkr1
          go_wp2
          generalize hwq : wr = wq at CQ BQ HO HSZ
          clear hwq
          go_loopw [7, 13] (fun st p wx => ∃ i u : Nat, i ≤ r ∧ p = .int .i64 (i : Int) ∧ st = .int .i64 (u : Int) ∧ Hid (u = S (r - 1 - i)) ∧ Hid (Below wq.heap.size wq wx)) (fun _ p _ => r - (intOf p).toNat)
          case atStart => exact ⟨0, u0, Nat.zero_le _, rfl, rfl, HU0, Lib.hid (Below.refl _ _)⟩
          case round =>
            obtain ⟨i2, u, hi2, rfl, rfl, HU, HX⟩ := hrel
            have BX := Lib.hid (below_on BQ.out (Nat.le_refl _) HX.out)
            have CX := Lib.hid (CQ.out.below HX.out)
            by_cases hlt2 : i2 < r
            · obtain ⟨_, p, q, hcell⟩ := S3.out (r - 1 - i2) (by omega)
              rw [← HU.out, show r - 1 - (r - 1 - i2) = i2 by omega] at hcell
              obtain ⟨x2, hx2⟩ : ∃ x, sy m i2 = x := ⟨_, rfl⟩
              rw [hx2] at hcell
              have CE := Lib.hid hcell
              have HX2 := Lib.hid hx2
              have wi2 : IntKind.i64.wrap (i2 : Int) = (i2 : Int) := IntWalk.i64_in _ (by omega)
              have CD : Hid (∀ W B b d, Cdr W B b y s N l → Cdr (W.drewN d) B b y s N l) := Lib.hid (fun W B b d h => h.same (fun _ _ _ => rfl))
              clear hcell hx2
              go_wp2_with (go_at_call 15; refine (CE.out wr _ b CX.out).mono ?_; rintro e w5 ⟨rfl, hb5⟩; obtain ⟨W1, Wa, Wb, Wc, hW1, k0', f0, hWa, k1', f1, hWb, k2', f2, hWc, hS, hBS, hB⟩ := new_cell (below_on HX.out (Nat.le_refl _) hb5) (x2 : Int) (p : Int) (q : Int); have n0 := hS.c0; have C5 := Lib.hid ((CX.out.below hb5).below hBS); have B5 := Lib.hid hB; obtain ⟨ad', hBe, ci2⟩ := RMr.out Wc (below_on BQ.out (Nat.le_refl _) hB) i2 hlt2; injection hBe with hBe; subst hBe; rw [HX2.out] at ci2; clear hS hBS hB hb5)
              go_quiet (fail)
              have C6 := Lib.hid (CD.out _ _ _ nq C5.out)
              have B6 := Lib.hid (below_drewN' B5.out nq)
              obtain ⟨W6, hW6⟩ : ∃ W, Wc.drewN nq = W := ⟨_, rfl⟩
              rw [hW6] at C6 B6
              simp only [hW6]
              clear hW6 n0 ci2
              by_cases hik : i2 < k
              · have k3 : decide ((i2 : Int) < (k : Int)) = true := decide_eq_true (by omega)
                obtain ⟨j2, hj2⟩ : ∃ j2, k - 1 - i2 = j2 := ⟨_, rfl⟩
                obtain ⟨k1, hk1⟩ : ∃ k1, k - 1 = k1 := ⟨_, rfl⟩
                have ek1 : (k : Int) - 1 = (k1 : Int) := by omega
                have ek2 : (k1 : Int) - (i2 : Int) = (j2 : Int) := by omega
                have hj2k : j2 < k := by omega
                have hkr2 := HK.out
                obtain ⟨n, _, _, _, NXk⟩ := S2.out j2 (by omega)
                rw [show S (j2 + 1) = u by rw [HU.out]; congr 1; omega] at NXk
                obtain ⟨gb, hgb⟩ := own_some (by omega) HO.out
                subst hgb
                have cb := (own_below HO.out B6.out).cellAt j2 (by omega)
                rw [List.getElem?_map, List.getElem?_range hj2k] at cb
                simp only [Option.map_some, uv] at cb
                obtain ⟨b1, hb1⟩ : ∃ b1, Bt j2 = b1 := ⟨_, rfl⟩
                obtain ⟨u2, hu2⟩ : ∃ u2, S j2 = u2 := ⟨_, rfl⟩
                rw [hb1] at cb NXk
                rw [hu2] at NXk
                have NX := Lib.hid NXk
                have HU2 : Hid (u2 = S (r - 1 - (i2 + 1))) := Lib.hid (by rw [← hu2]; congr 1; omega)
                have hk9 : k ≤ 200 := by omega
                have hk1b : k1 ≤ 200 := by omega
                have hj2b : j2 ≤ 200 := by omega
                have wj2 : IntKind.i64.wrap (j2 : Int) = (j2 : Int) := IntWalk.i64_in _ (by omega)
                have wk1 : IntKind.i64.wrap (k1 : Int) = (k1 : Int) := IntWalk.i64_in _ (by omega)
                clear hj2 hk1 NXk hb1 hu2 hkr2
                go_wp2_with (go_at_call 25; refine (NX.out W6 _ b C6.out).mono ?_; rintro e w7 ⟨rfl, hb7⟩; have B7 := Lib.hid (below_on B6.out (Nat.le_refl _) hb7); clear hb7)
                exact ⟨⟨i2 + 1, u2, by omega, by simp, rfl, HU2, B7⟩, by simp [intOf]; omega⟩
              · have k3 : decide ((i2 : Int) < (k : Int)) = false := decide_eq_false (by omega)
                have HU2 : Hid (u = S (r - 1 - (i2 + 1))) := Lib.hid (by rw [HU.out]; congr 1; have := HK.out; omega)
                go_wp2
                exact ⟨⟨i2 + 1, u, by omega, by simp, rfl, HU2, B6⟩, by simp [intOf]; omega⟩
            · have hir2 : i2 = r := by omega
              go_wp2_with (go_at_call 11; refine (known_any wr).mono ?_; rintro e w9 ⟨rfl, hb9⟩; have BZ := Lib.hid (below_on B0.out (Nat.le_refl _) (below_on BX.out (Nat.le_refl _) hb9)); clear hb9)
              go_ret
              exact ⟨rfl, BZ.out⟩

theorem walk (y : Int) (A : Option Addr) (l : List Int) (cap : Nat) (B : Option Addr) (m : List Int) (ck : Nat) (w : World) (hR : Ri w A l) (_ : ∀ z ∈ l, -9223372036854775808 ≤ z ∧ z ≤ 9223372036854775807) (_ : l.length ≤ cap) (hRm : Ri w B m) (_ : ∀ z ∈ m, -9223372036854775808 ≤ z ∧ z ≤ 9223372036854775807) (_ : m.length ≤ ck) :
    Calls Try.prog 8 #[tb y A l.length cap, .slice B m.length ck] w fun e w' => e = .returned (.bool true) ∧ Below w.heap.size w w' := by
  by_cases h : 300 < l.length
  · exact walk_long y A _ cap B _ ck w h
  · by_cases h2 : 200 < m.length
    · exact walk_many y A _ cap B _ ck w (by omega) h2
    · by_cases h3 : m.length = 0
      · exact walk_zero y A _ cap B _ ck w (by omega) h3
      · cases hv : vt y l 256 9 with
        | false => exact walk_bad y A l _ cap B _ ck w (by omega) (by omega) rfl (by omega) hv hR
        | true =>
          obtain ⟨n, rfl, hv2⟩ := vt_iff.1 hv
          exact walk_ok n _ A l _ cap B m _ ck w rfl hv2 rfl hR (by omega) (by omega) rfl hRm

set_option maxRecDepth 100000 in
theorem lifted (os : Os) (started : os.Started) (H : Type) (enc : TypeId × Value → H) :
    ReturnsInHanded {} Try.checked os 8 .any (Rows.statesWalkSpec.pre6 enc Try.prog Try.f8 Rows.statesWalkRow.domain false) (Rows.statesWalkSpec.post enc Try.prog Try.f8 false true false false) := by
  refine returnsInHanded_of_change_sized (C := Try.checked) ownB started (by kernel_rfl) Try.func8
    (ChangeSpec.witness6 (enc := enc) (C := Try.checked) false ⟨#[], #[.agg #[.int .i64 0, .slice none 0 0], .slice none 0 0], []⟩ 8 (by kernel_rfl) (by kernel_rfl) (by kernel_rfl) (by kernel_rfl)) ?_
  intro W base args ds gs before hval0 hW _ hsz0 _
  have hsz : (DataW.weightsEach Try.prog (Try.f8.params.toList ++ Rows.statesWalkSpec.plain.varTypes Try.prog) (ds ++ gs)).all (· ≤ reachBytes) = true := hsz0
  clear hsz0
  have hval : ∀ (j : Nat) t v, Try.f8.params[j]? = some t → args[j]? = some v → Value.okWide Try.prog W .any base t v := hval0
  have hW' := hW
  obtain ⟨p, q, hA0, hV, rfl, hfz, hnd⟩ := hW
  have hA : DataW.TrodAll enc Try.prog W 0 (fun _ => true) true Try.f8.params.toList args.toList ds p := hA0
  rw [Try.params8] at hA hval hsz
  obtain ⟨v0, vs0, d0, ds0, p0, q0, hargs, rfl, rfl, h0, r0⟩ := trodAll_cons hA
  obtain ⟨v1, vs1, d1, ds1, p1, q1, rfl, rfl, rfl, h1, r1⟩ := trodAll_cons r0
  obtain ⟨rfl, rfl, rfl⟩ := trodAll_nil r1
  obtain rfl : args = #[v0, v1] := by cases args; simp_all
  obtain ⟨rfl, rfl⟩ := trodVars_none hV
  obtain ⟨cs0, rfl, hcs0⟩ := okWide_struct Try.underlying24 (hval 0 24 v0 rfl rfl)
  have k0 := h0
  have lt0 : ∀ x ∈ p0, x.block < W.heap.size := by obtain ⟨m, hm⟩ := k0; exact DataW.trod_lt m _ _ _ hm
  obtain ⟨y0, a0, len0, cap0, l0, rfl, rfl, hc0, ri0, wi0⟩ := open_tab hcs0 h0
  obtain ⟨a1, len1, cap1, rfl⟩ := okWide_slice Try.underlying22 (hval 1 22 v1 rfl rfl)
  have k1 := h1
  have lt1 : ∀ x ∈ p1, x.block < W.heap.size := by obtain ⟨m, hm⟩ := k1; exact DataW.trod_lt m _ _ _ hm
  obtain ⟨l1, rfl, hc1, ri1, wi1⟩ := open_intl h1
  clear hA0 hval0
  refine (walk y0 a0 l0 cap0 a1 l1 cap1 W ri0 wi0 hc0 ri1 wi1 hc1).mono fun e W' ⟨he, bel⟩ => ?_
  subst he
  exact ⟨_, rfl, _, _, _, [], _, [], hW', trodAll_mk1 (shut_bool Try.underlying4 _), (trodAll_cons_mk (Below.trod laidOut (by kernel_rfl) (of_decide_eq_true (by kernel_rfl)) k0 bel lt0) (trodAll_cons_mk (Below.trod laidOut (by kernel_rfl) (of_decide_eq_true (by kernel_rfl)) k1 bel lt1) trodAll_mk0)), rfl, bel.frame _, fun h => by cases h⟩

theorem proved : Rows.StatesWalkSaid :=
  OpenClaim.holds_of_wide 8 Try.f8 rfl rfl rfl rfl rfl rfl rfl ⟨rfl, rfl, rfl, rfl, rfl⟩ rfl rfl rfl rfl rfl (by kernel_rfl) Try.func8 (by kernel_rfl)
    (of_decide_eq_true (by kernel_rfl)) (by unfold Func.isWrapper; rw [if_neg (by decide +kernel)]; exact ⟨rfl, rfl⟩)
    (fun os started H enc _ => lifted os started H enc)

#print axioms proved

end Go.Proofs.Ytonapehlhkoplaa.statesWalk
