/-
  Proved: the law CellsCover returns true for all tables and symbols: the spans of a symbol's cells meet every state once, and there is one for each of the symbol's states. No condition.
-/
import Derived.Test.YtfgjeiheekohdaaCvm
import Derived.BigQuiet
import Derived.Deep.QuietTactic
namespace Go.Proofs.Ytfgjeiheekohdaa.cellsCover
open Go.ChangeShapes Go.WideShapes Go.ChangeAt Go.RowKit

set_option maxRecDepth 100000 in
set_option maxHeartbeats 4000000 in
theorem walk_long (y : Int) (A : Option Addr) (N cap : Nat) (z : Int) (w : World) (h : 300 < N) :
    Calls Try.prog 4 #[tb y A N cap, .int .i64 z] w fun e w' => e = .returned (.bool true) ∧ Below w.heap.size w w' := by
  have hd : decide ((300 : Int) < (N : Int)) = true := decide_eq_true (by omega)
  have b1 : Below w.heap.size w (w.alloc (.cells #[.int .i64 y, .slice A N cap] 24)) := (Below.refl _ w).alloc (Nat.le_refl _) _
  have t1 := Tb.new w y A N cap
  obtain ⟨w1, hw1⟩ : ∃ w1, w.alloc (.cells #[.int .i64 y, .slice A N cap] 24) = w1 := ⟨_, rfl⟩
  rw [hw1] at b1 t1
  have c0 := t1.c0
  have c1 := t1.c1
  have KN := Lib.hid (known_any w1)
  have B0 := Lib.hid b1
  clear b1 t1
  go_enter Try.func4, Try.ntmps4
  go_wp2_with (go_at_call 11; refine KN.out.mono ?_; rintro e w2 ⟨rfl, hb2⟩; have B1 := Lib.hid (below_on B0.out (Nat.le_refl _) hb2); clear hb2)
  go_ret
  exact ⟨rfl, B1.out⟩

set_option maxRecDepth 100000 in
set_option maxHeartbeats 4000000 in
theorem walk_bad (y : Int) (A : Option Addr) (l : List Int) (N cap : Nat) (z : Int) (w : World) (hN : l.length = N) (h : N ≤ 300) (hv : vt y l 256 9 = false) (hR : Ri w A l) :
    Calls Try.prog 4 #[tb y A N cap, .int .i64 z] w fun e w' => e = .returned (.bool true) ∧ Below w.heap.size w w' := by
  have hd : decide ((300 : Int) < (N : Int)) = false := decide_eq_false (by omega)
  have b1 : Below w.heap.size w (w.alloc (.cells #[.int .i64 y, .slice A N cap] 24)) := (Below.refl _ w).alloc (Nat.le_refl _) _
  have t1 := Tb.new w y A N cap
  obtain ⟨w1, hw1⟩ : ∃ w1, w.alloc (.cells #[.int .i64 y, .slice A N cap] 24) = w1 := ⟨_, rfl⟩
  rw [hw1] at b1 t1
  have c0 := t1.c0
  have c1 := t1.c1
  have MY : Hid (Calls Try.prog 15 #[tb y A N cap, .int .i64 256, .int .i64 9] w1 fun e w' => e = .returned (.int .i64 13) ∧ Below w1.heap.size w1 w') := Lib.hid (by
    have := may_any w1 y 256 9 A l N cap hN (by omega) (hR.below b1)
    rw [hv] at this
    exact this)
  have B0 := Lib.hid b1
  clear b1 t1 hR hN hv
  go_enter Try.func4, Try.ntmps4
  go_wp2_with (first
    | (go_at_call 15; refine MY.out.mono ?_; rintro e w2 ⟨rfl, hb2⟩; have B2 := Lib.hid (below_on B0.out (Nat.le_refl _) hb2); clear hb2)
    | (go_at_call 11; refine (known_any w2).mono ?_; rintro e w3 ⟨rfl, hb3⟩; have B3 := Lib.hid (below_on B2.out (Nat.le_refl _) hb3); clear hb3))
  go_ret
  exact ⟨rfl, B3.out⟩

set_option maxRecDepth 100000 in
set_option maxHeartbeats 4000000 in
theorem walk_low (y s : Nat) (A : Option Addr) (l : List Int) (N cap : Nat) (w : World) (hN : l.length = N) (hv : Vt y l) (hse : 2 ^ y = s) (hR : Ri w A l) (z : Int) (h0 : z < 0) :
    Calls Try.prog 4 #[tb y A N cap, .int .i64 z] w fun e w' => e = .returned (.bool true) ∧ Below w.heap.size w w' := by
  have hN2 : N ≤ 256 := by rw [← hN]; exact hv.len
  have hy9 := hv.log
  have hd : decide ((300 : Int) < (N : Int)) = false := decide_eq_false (by omega)
  have b1 : Below w.heap.size w (w.alloc (.cells #[.int .i64 (y : Int), .slice A N cap] 24)) := (Below.refl _ w).alloc (Nat.le_refl _) _
  have t1 := Tb.new w (y : Int) A N cap
  obtain ⟨w1, hw1⟩ : ∃ w1, w.alloc (.cells #[.int .i64 (y : Int), .slice A N cap] 24) = w1 := ⟨_, rfl⟩
  rw [hw1] at b1 t1
  have c0 := t1.c0
  have c1 := t1.c1
  have hR1 := hR.below b1
  have hs5 : s ≤ 512 := by rw [← hse]; exact hv.size
  have MY : Hid (Calls Try.prog 15 #[tb y A N cap, .int .i64 256, .int .i64 9] w1 fun e w' => e = .returned (.int .i64 0) ∧ Below w1.heap.size w1 w') := Lib.hid (by
    have := may_any w1 (y : Int) 256 9 A l N cap hN (by omega) hR1
    rw [vt_iff.2 ⟨y, rfl, hv⟩] at this
    exact this)
  have B0 := Lib.hid b1
  have T1 := Lib.hid t1
  have HN := Lib.hid hN
  have R1 := Lib.hid hR1
  have BU : Hid (∀ W, Below w1.heap.size w1 W → Calls Try.prog 16 #[tb y A N cap, .int .i64 z] W fun e w' => ∃ A' c', e = .returned (.tuple #[.slice A' 0 c', .int .i64 0]) ∧ Below W.heap.size W w') := Lib.hid (fun W hb => by
    refine (spans_ok W y A l N cap z hN hv (hR1.below hb)).mono ?_
    rintro e w' ⟨A', r, c', rfl, h1, _, _, h4⟩
    have h5 : spn z (cex (y : Int) l) = [] := by rw [cex_ok hv]; exact spn_none hv (.inl h0)
    rw [h5] at h1
    simp only [List.length_nil] at h1
    subst h1
    exact ⟨A', c', rfl, h4⟩)
  have k0 : decide (z < 0) = true := decide_eq_true h0
  clear b1 t1 hR hR1 hN hv hse
  go_enter Try.func4, Try.ntmps4
  go_wp2_with (first
    | (go_at_call 15; refine MY.out.mono ?_; rintro e w2 ⟨rfl, hb2⟩; have B2 := Lib.hid hb2; have q2 := T1.out.below hb2; have d0 := q2.c0; have d1 := q2.c1; clear hb2 q2)
    | (go_at_call 16; refine (BU.out w2 B2.out).mono ?_; rintro e w3 ⟨A3, c3, rfl, hb3⟩; have B3 := Lib.hid (below_on B2.out (Nat.le_refl _) hb3); have q3 := T1.out.below B3.out; have e0 := q3.c0; have e1 := q3.c1; clear hb3 q3)
    | (go_at_call 11; refine (known_any w3).mono ?_; rintro e w8 ⟨rfl, hb8⟩; have B8 := Lib.hid (below_on B0.out (Nat.le_refl _) (below_on B3.out (Nat.le_refl _) hb8)); clear hb8))
  go_ret
  exact ⟨rfl, B8.out⟩

set_option maxRecDepth 100000 in
set_option maxHeartbeats 4000000 in
theorem walk_high (y s : Nat) (A : Option Addr) (l : List Int) (N cap : Nat) (w : World) (hN : l.length = N) (hv : Vt y l) (hse : 2 ^ y = s) (hR : Ri w A l) (z : Int) (h0 : 0 ≤ z) (h1 : (N : Int) ≤ z) :
    Calls Try.prog 4 #[tb y A N cap, .int .i64 z] w fun e w' => e = .returned (.bool true) ∧ Below w.heap.size w w' := by
  have hN2 : N ≤ 256 := by rw [← hN]; exact hv.len
  have hy9 := hv.log
  have hd : decide ((300 : Int) < (N : Int)) = false := decide_eq_false (by omega)
  have b1 : Below w.heap.size w (w.alloc (.cells #[.int .i64 (y : Int), .slice A N cap] 24)) := (Below.refl _ w).alloc (Nat.le_refl _) _
  have t1 := Tb.new w (y : Int) A N cap
  obtain ⟨w1, hw1⟩ : ∃ w1, w.alloc (.cells #[.int .i64 (y : Int), .slice A N cap] 24) = w1 := ⟨_, rfl⟩
  rw [hw1] at b1 t1
  have c0 := t1.c0
  have c1 := t1.c1
  have hR1 := hR.below b1
  have hs5 : s ≤ 512 := by rw [← hse]; exact hv.size
  have MY : Hid (Calls Try.prog 15 #[tb y A N cap, .int .i64 256, .int .i64 9] w1 fun e w' => e = .returned (.int .i64 0) ∧ Below w1.heap.size w1 w') := Lib.hid (by
    have := may_any w1 (y : Int) 256 9 A l N cap hN (by omega) hR1
    rw [vt_iff.2 ⟨y, rfl, hv⟩] at this
    exact this)
  have B0 := Lib.hid b1
  have T1 := Lib.hid t1
  have HN := Lib.hid hN
  have R1 := Lib.hid hR1
  have BU : Hid (∀ W, Below w1.heap.size w1 W → Calls Try.prog 16 #[tb y A N cap, .int .i64 z] W fun e w' => ∃ A' c', e = .returned (.tuple #[.slice A' 0 c', .int .i64 0]) ∧ Below W.heap.size W w') := Lib.hid (fun W hb => by
    refine (spans_ok W y A l N cap z hN hv (hR1.below hb)).mono ?_
    rintro e w' ⟨A', r, c', rfl, h1, _, _, h4⟩
    have h5 : spn z (cex (y : Int) l) = [] := by rw [cex_ok hv]; exact spn_none hv (.inr (by unfold nos; rw [List.getElem?_eq_none (by omega)]))
    rw [h5] at h1
    simp only [List.length_nil] at h1
    subst h1
    exact ⟨A', c', rfl, h4⟩)
  have k0 : decide (z < 0) = false := decide_eq_false (by omega)
  have k1 : decide ((N : Int) ≤ z) = true := decide_eq_true h1
  clear b1 t1 hR hR1 hN hv hse
  go_enter Try.func4, Try.ntmps4
  go_wp2_with (first
    | (go_at_call 15; refine MY.out.mono ?_; rintro e w2 ⟨rfl, hb2⟩; have B2 := Lib.hid hb2; have q2 := T1.out.below hb2; have d0 := q2.c0; have d1 := q2.c1; clear hb2 q2)
    | (go_at_call 16; refine (BU.out w2 B2.out).mono ?_; rintro e w3 ⟨A3, c3, rfl, hb3⟩; have B3 := Lib.hid (below_on B2.out (Nat.le_refl _) hb3); have q3 := T1.out.below B3.out; have e0 := q3.c0; have e1 := q3.c1; clear hb3 q3)
    | (go_at_call 11; refine (known_any w3).mono ?_; rintro e w8 ⟨rfl, hb8⟩; have B8 := Lib.hid (below_on B0.out (Nat.le_refl _) (below_on B3.out (Nat.le_refl _) hb8)); clear hb8))
  go_ret
  exact ⟨rfl, B8.out⟩

set_option maxRecDepth 100000 in
set_option maxHeartbeats 4000000 in
theorem walk_gone (y s : Nat) (A : Option Addr) (l : List Int) (N cap : Nat) (w : World) (hN : l.length = N) (hv : Vt y l) (hse : 2 ^ y = s) (hR : Ri w A l) (z : Int) (x : Nat) (hzx : z = (x : Int)) (hx : l[x]? = some 0) :
    Calls Try.prog 4 #[tb y A N cap, .int .i64 z] w fun e w' => e = .returned (.bool true) ∧ Below w.heap.size w w' := by
  have hN2 : N ≤ 256 := by rw [← hN]; exact hv.len
  have hy9 := hv.log
  have hd : decide ((300 : Int) < (N : Int)) = false := decide_eq_false (by omega)
  have b1 : Below w.heap.size w (w.alloc (.cells #[.int .i64 (y : Int), .slice A N cap] 24)) := (Below.refl _ w).alloc (Nat.le_refl _) _
  have t1 := Tb.new w (y : Int) A N cap
  obtain ⟨w1, hw1⟩ : ∃ w1, w.alloc (.cells #[.int .i64 (y : Int), .slice A N cap] 24) = w1 := ⟨_, rfl⟩
  rw [hw1] at b1 t1
  have c0 := t1.c0
  have c1 := t1.c1
  have hR1 := hR.below b1
  have hs5 : s ≤ 512 := by rw [← hse]; exact hv.size
  have MY : Hid (Calls Try.prog 15 #[tb y A N cap, .int .i64 256, .int .i64 9] w1 fun e w' => e = .returned (.int .i64 0) ∧ Below w1.heap.size w1 w') := Lib.hid (by
    have := may_any w1 (y : Int) 256 9 A l N cap hN (by omega) hR1
    rw [vt_iff.2 ⟨y, rfl, hv⟩] at this
    exact this)
  have B0 := Lib.hid b1
  have T1 := Lib.hid t1
  have HN := Lib.hid hN
  have R1 := Lib.hid hR1
  have BU : Hid (∀ W, Below w1.heap.size w1 W → Calls Try.prog 16 #[tb y A N cap, .int .i64 z] W fun e w' => ∃ A' c', e = .returned (.tuple #[.slice A' 0 c', .int .i64 0]) ∧ Below W.heap.size W w') := Lib.hid (fun W hb => by
    refine (spans_ok W y A l N cap z hN hv (hR1.below hb)).mono ?_
    rintro e w' ⟨A', r, c', rfl, h1, _, _, h4⟩
    have h5 : spn z (cex (y : Int) l) = [] := by rw [cex_ok hv]; exact spn_none hv (.inr (by unfold nos; rw [hzx, Int.toNat_natCast, hx]; rfl))
    rw [h5] at h1
    simp only [List.length_nil] at h1
    subst h1
    exact ⟨A', c', rfl, h4⟩)
  subst hzx
  have hxN : x < N := by rw [← hN]; exact (List.getElem?_eq_some_iff.1 hx).1
  have k0 : decide ((x : Int) < 0) = false := decide_eq_false (by omega)
  have k1 : decide ((N : Int) ≤ (x : Int)) = false := decide_eq_false (by omega)
  have k2 : ¬ N ≤ x := by omega
  have wx : IntKind.i64.wrap (x : Int) = (x : Int) := IntWalk.i64_in _ (by omega)
  obtain ⟨ad, rfl, hcz⟩ := hR1 x (iv 0) (by rw [List.getElem?_map, hx]; rfl)
  have CZ := Lib.hid hcz
  clear hcz hx
  clear b1 t1 hR hR1 hN hv hse
  go_enter Try.func4, Try.ntmps4
  go_wp2_with (first
    | (go_at_call 15; refine MY.out.mono ?_; rintro e w2 ⟨rfl, hb2⟩; have B2 := Lib.hid hb2; have q2 := T1.out.below hb2; have d0 := q2.c0; have d1 := q2.c1; clear hb2 q2)
    | (go_at_call 16; refine (BU.out w2 B2.out).mono ?_; rintro e w3 ⟨A3, c3, rfl, hb3⟩; have B3 := Lib.hid (below_on B2.out (Nat.le_refl _) hb3); have q3 := T1.out.below B3.out; have e0 := q3.c0; have e1 := q3.c1; have cz : w3.cell? (ad.add x) = some (.int .i64 0) := (B3.out.cell (cell_lt CZ.out)).trans CZ.out; clear hb3 q3)
    | (go_at_call 11; refine (known_any w3).mono ?_; rintro e w8 ⟨rfl, hb8⟩; have B8 := Lib.hid (below_on B0.out (Nat.le_refl _) (below_on B3.out (Nat.le_refl _) hb8)); clear hb8))
  go_ret
  exact ⟨rfl, B8.out⟩

set_option maxRecDepth 100000 in
set_option maxHeartbeats 4000000 in
theorem walk_ok (y s : Nat) (A : Option Addr) (l : List Int) (N cap : Nat) (w : World) (hN : l.length = N) (hv : Vt y l) (hse : 2 ^ y = s) (hR : Ri w A l) (z : Int) (x : Nat) (z0 : Int) (hzx : z = (x : Int)) (hx : l[x]? = some z0) (hz0 : z0 ≠ 0) :
    Calls Try.prog 4 #[tb y A N cap, .int .i64 z] w fun e w' => e = .returned (.bool true) ∧ Below w.heap.size w w' := by
  have hN2 : N ≤ 256 := by rw [← hN]; exact hv.len
  have hy9 := hv.log
  have hd : decide ((300 : Int) < (N : Int)) = false := decide_eq_false (by omega)
  have b1 : Below w.heap.size w (w.alloc (.cells #[.int .i64 (y : Int), .slice A N cap] 24)) := (Below.refl _ w).alloc (Nat.le_refl _) _
  have t1 := Tb.new w (y : Int) A N cap
  obtain ⟨w1, hw1⟩ : ∃ w1, w.alloc (.cells #[.int .i64 (y : Int), .slice A N cap] 24) = w1 := ⟨_, rfl⟩
  rw [hw1] at b1 t1
  have c0 := t1.c0
  have c1 := t1.c1
  have hR1 := hR.below b1
  have hs5 : s ≤ 512 := by rw [← hse]; exact hv.size
  have MY : Hid (Calls Try.prog 15 #[tb y A N cap, .int .i64 256, .int .i64 9] w1 fun e w' => e = .returned (.int .i64 0) ∧ Below w1.heap.size w1 w') := Lib.hid (by
    have := may_any w1 (y : Int) 256 9 A l N cap hN (by omega) hR1
    rw [vt_iff.2 ⟨y, rfl, hv⟩] at this
    exact this)
  have B0 := Lib.hid b1
  have T1 := Lib.hid t1
  have HN := Lib.hid hN
  have R1 := Lib.hid hR1
  subst hzx
  have hxN : x < N := by rw [← hN]; exact (List.getElem?_eq_some_iff.1 hx).1
  have hz1 : -1 ≤ z0 := by
    have := List.all_eq_true.1 hv.ok z0 (List.mem_of_getElem? hx)
    simpa using this
  obtain ⟨n, hn⟩ : ∃ n, nos l x = n := ⟨_, rfl⟩
  have hst : sts z0 = (n : Int) := by
    have := hn
    unfold nos at this
    rw [hx] at this
    have h3 : 0 ≤ sts z0 := by unfold sts; split <;> omega
    simp only at this
    omega
  have hn1 : 1 ≤ n := by
    unfold sts at hst
    split at hst <;> omega
  have hNum := vt_num hv (x := x) (by rw [hn]; exact hn1)
  rw [hn] at hNum
  have hns : n ≤ s := by have := hNum.le; rwa [hse] at this
  have hall := spn_all hv x
  rw [hn, ← cex_ok hv] at hall
  have hps := pos_start hNum
  rw [hse] at hps
  obtain ⟨p0, hp0⟩ : ∃ p0, psn y n n = p0 := ⟨_, rfl⟩
  rw [hp0] at hps
  have BU : Hid (∀ W, Below w1.heap.size w1 W → Calls Try.prog 16 #[tb y A N cap, .int .i64 (x : Int)] W fun e w' => ∃ g c', e = .returned (.tuple #[.slice (some ⟨g, 0, none⟩) n c', .int .i64 0]) ∧ w'.ownsRow W.heap.size 40 2 (.slice (some ⟨g, 0, none⟩) n c') n (flat2 (spn (x : Int) (cex (y : Int) l))) ∧ Below W.heap.size W w') := Lib.hid (fun W hb => by
    refine (spans_ok W y A l N cap (x : Int) hN hv (hR1.below hb)).mono ?_
    rintro e w' ⟨A', r, c', rfl, h1, _, h3, h4⟩
    rw [hall, List.length_map, List.length_range] at h1
    subst h1
    obtain ⟨g, rfl⟩ := ro_some (by omega) h3
    exact ⟨g, c', rfl, h3, h4⟩)
  have HSP : Hid (∀ k, k < n → ∃ q p D, (spn (x : Int) (cex (y : Int) l))[k]? = some (q, D) ∧ 2 ^ p = D ∧ psn y n (n + (k + 1)) = psn y n (n + k) + D ∧ (psn y n (n + k) = q ∨ psn y n (n + k) = q + s) ∧ q + D ≤ s ∧ psn y n (n + (k + 1)) ≤ p0 + s) := Lib.hid (fun k hk => by
    obtain ⟨h1, h2, h3, h4⟩ := span_step hNum hse hk
    rw [hp0] at h4
    exact ⟨_, _, _, by rw [hall]; simp [hk], rfl, h1, h2, h3, h4⟩)
  have HEND : Hid (psn y n (2 * n) = p0 + s) := Lib.hid (by rw [pos_end hNum, hp0, hse])
  have HP0 := Lib.hid hp0
  have SZ : Hid (∀ W', Calls Try.prog 17 #[.int .i64 (y : Int)] W' fun e w' => e = .returned (.int .i64 (s : Int)) ∧ w' = W') := Lib.hid (fun W' => by
    have := size_any W' (y : Int)
    rwa [siz_pow hy9 hse] at this)
  have SA : Hid (∀ W', Calls Try.prog 18 #[.int .i64 z0] W' fun e w' => e = .returned (.int .i64 (n : Int)) ∧ w' = W') := Lib.hid (fun W' => by
    have := rstates_any W' z0
    rwa [hst] at this)
  obtain ⟨S, hS⟩ : ∃ S, spn (x : Int) (cex (y : Int) l) = S := ⟨_, rfl⟩
  rw [hS] at BU HSP
  have k0 : decide ((x : Int) < 0) = false := decide_eq_false (by omega)
  have k1 : decide ((N : Int) ≤ (x : Int)) = false := decide_eq_false (by omega)
  have k2 : ¬ N ≤ x := by omega
  have k3 : (z0 == 0) = false := by simp [hz0]
  have wx : IntKind.i64.wrap (x : Int) = (x : Int) := IntWalk.i64_in _ (by omega)
  obtain ⟨ad, rfl, hcz⟩ := hR1 x (iv z0) (by rw [List.getElem?_map, hx]; rfl)
  have CZ := Lib.hid hcz
  have HM := fun (W : World) => make_bools s (by omega) W
  clear b1 t1 hR hR1 hN hv hse hx hz0 hz1 hn hst hNum hall hp0 hS hcz
  go_enter Try.func4, Try.ntmps4
  go_wp2_with (first
    | (go_at_call 15; refine MY.out.mono ?_; rintro e w2 ⟨rfl, hb2⟩; have B2 := Lib.hid hb2; have q2 := T1.out.below hb2; have d0 := q2.c0; have d1 := q2.c1; clear hb2 q2)
    | (go_at_call 16; refine (BU.out w2 B2.out).mono ?_; rintro e w3 ⟨g3, c3, rfl, ho3, hb3⟩; have O3 := Lib.hid ho3; have B3 := Lib.hid (below_on B2.out (Nat.le_refl _) hb3); have q3 := T1.out.below B3.out; have e0 := q3.c0; have e1 := q3.c1; have cz : w3.cell? (ad.add x) = some (.int .i64 z0) := (B3.out.cell (cell_lt CZ.out)).trans CZ.out; clear hb3 q3 ho3)
    | (go_at_call 17; refine (SZ.out _).mono ?_; rintro e w3 ⟨rfl, rfl⟩; obtain ⟨w5, hmk, ho5, hb5⟩ := HM w3; have O5 := Lib.hid ho5; have B5 := Lib.hid hb5; clear ho5 hb5))
  obtain ⟨g5, hg5⟩ : ∃ g, w3.heap.size = g := ⟨_, rfl⟩
  have HG5 := Lib.hid hg5
  have O6 : Hid (w5.ownsRow w3.heap.size 4 1 (.slice (some ⟨g5, 0, none⟩) s s) s ((hdl p0 s 0).map bv)) := Lib.hid (by
    have := O5.out
    rw [hdl_zero]
    rw [← hg5]
    exact this)
  simp only [hg5]
  clear c0 c1 d0 d1 e0 e1 cz MY BU O5 HM hmk hg5 SZ
  go_loopw [8, 9] (fun aa kk wr => ∃ k a : Nat, k ≤ n ∧ a ≤ s ∧ kk = .int .i64 (k : Int) ∧ aa = .int .i64 (a : Int) ∧ Hid (p0 + a = psn y n (n + k)) ∧ Hid (wr.ownsRow w3.heap.size 4 1 (.slice (some ⟨g5, 0, none⟩) s s) s ((hdl p0 s a).map bv)) ∧ Hid (Below w3.heap.size w3 wr)) (fun _ kk _ => n - (intOf kk).toNat)
  case atStart => exact ⟨0, 0, Nat.zero_le _, Nat.zero_le _, rfl, rfl, Lib.hid HP0.out.symm, O6, B5⟩
  case round =>
    obtain ⟨k, a, hk, ha, rfl, rfl, HP, HO, HB⟩ := hrel
    clear O6 B5
    by_cases hlt : k < n
    · obtain ⟨q, p, D, hS, hD, hn1', hq, hqD, hle⟩ := HSP.out k hlt
      have hD1 : 1 ≤ D := by rw [← hD]; exact Nat.two_pow_pos p
      have HQ : Hid (p0 + a = q ∨ p0 + a = q + s) := Lib.hid (by rw [HP.out]; exact hq)
      have HAD : Hid (p0 + (a + D) = psn y n (n + (k + 1)) ∧ a + D ≤ s) := Lib.hid (by have := HP.out; omega)
      have HSK := Lib.hid hS
      obtain ⟨b0, b1⟩ := row2_at (ro_below O3.out HB.out) hS
      simp only [nw] at b0 b1
      obtain ⟨sd, hsd⟩ : ∃ sd : Nat, (s : Int) - (D : Int) = (sd : Int) := ⟨s - D, by omega⟩
      have j0 : decide ((q : Int) < 0) = false := decide_eq_false (by omega)
      have j1 : decide ((D : Int) < 1) = false := decide_eq_false (by omega)
      have j2 : decide ((s : Int) < (D : Int)) = false := decide_eq_false (by omega)
      have j3 : decide ((sd : Int) < (q : Int)) = false := decide_eq_false (by omega)
      have j4 : ¬ D < 1 := by omega
      have j5 : ¬ s < D := by omega
      have j6 : ¬ sd < q := by omega
      have wk : IntKind.i64.wrap (k : Int) = (k : Int) := IntWalk.i64_in _ (by omega)
      have wsd : IntKind.i64.wrap (sd : Int) = (sd : Int) := IntWalk.i64_in _ (by omega)
      have hb2 : D ≤ 512 ∧ q ≤ 512 := by omega
      clear hS hD hn1' hq hqD hle HP
      go_wp2
      go_quiet (fail)
      go_wp2
      go_loopw [8, 10] (fun aa tt wr => ∃ t a2 : Nat, t ≤ D ∧ a2 ≤ s ∧ tt = .int .i64 (t : Int) ∧ aa = .int .i64 (a2 : Int) ∧ Hid (a2 = a + t) ∧ Hid (wr.ownsRow w3.heap.size 4 1 (.slice (some ⟨g5, 0, none⟩) s s) s ((hdl p0 s a2).map bv)) ∧ Hid (Below w3.heap.size w3 wr)) (fun _ tt _ => D - (intOf tt).toNat)
      case atStart => exact ⟨0, a, Nat.zero_le _, ha, rfl, rfl, Lib.hid rfl, Lib.hid HO.out, Lib.hid (below_drewN' HB.out nq)⟩
      case round =>
        obtain ⟨t, a2, ht, ha2, rfl, rfl, HT, HO2, HB2⟩ := hrel
        clear HO HB b0 b1
        obtain ⟨b0, b1⟩ := row2_at (ro_below O3.out HB2.out) HSK.out
        simp only [nw] at b0 b1
        by_cases htD : t < D
        · obtain ⟨J, hJ⟩ : ∃ J, q + t = J := ⟨_, rfl⟩
          have eJ : (q : Int) + (t : Int) = (J : Int) := by omega
          have H1 : Hid (J < s ∧ a2 < s ∧ (J = p0 + a2 ∨ J + s = p0 + a2)) := Lib.hid (by have h1 := HQ.out; have h2 := HT.out; have h3 := HAD.out; refine ⟨?_, by omega, by omega⟩; omega)
          have hJs : J < s := H1.out.1
          have ha2s : a2 + 1 ≤ s := H1.out.2.1
          have cJ : wr.cell? ⟨g5, J, none⟩ = some (.bool false) := by rw [HO2.out.cellAt J (by omega), List.getElem?_map, hdl_at hJs H1.out.2.1 H1.out.2.2]; rfl
          have fJ := HO2.out.frozenAt J
          have wJ : IntKind.i64.wrap (J : Int) = (J : Int) := IntWalk.i64_in _ (by omega)
          have F9 : Hid ((wr.setCell ⟨g5, J, none⟩ (.bool true)).ownsRow w3.heap.size 4 1 (.slice (some ⟨g5, 0, none⟩) s s) s ((hdl p0 s (a2 + 1)).map bv) ∧ Below w3.heap.size w3 (wr.setCell ⟨g5, J, none⟩ (.bool true))) := Lib.hid (by
            refine ⟨?_, HB2.out.setCell (p := ⟨g5, J, none⟩) (by rw [HG5.out]; exact Nat.le_refl _) _⟩
            have h2 := (HO2.out.stored J (.bool true)).1
            rw [← hdl_set hps hJs H1.out.2.1 H1.out.2.2, List.map_set]
            exact h2)
          have HT2 : Hid (a2 + 1 = a + (t + 1)) := Lib.hid (by have := HT.out; omega)
          clear hJ HO2 HB2
          go_wp2
          exact ⟨⟨t + 1, a2 + 1, by omega, ha2s, by simp, by simp, HT2, Lib.hid F9.out.1, Lib.hid F9.out.2⟩, by simp [intOf]; omega⟩
        · have HE : Hid (p0 + a2 = psn y n (n + (k + 1))) := Lib.hid (by rw [← HAD.out.1, HT.out, show t = D by omega])
          go_wp2
          exact ⟨⟨k + 1, a2, by omega, ha2, by simp, rfl, HE, HO2, HB2⟩, by simp [intOf]; omega⟩
    · have hkn : k = n := by omega
      have has : a = s := by have h1 := HP.out; have h2 := HEND.out; rw [hkn, show n + n = 2 * n by omega] at h1; omega
      subst has
      have tw := (T1.out.below B3.out).below HB.out
      have t1 := tw.c1
      have cz : wr.cell? (ad.add x) = some (.int .i64 z0) := (HB.out.cell (cell_lt ((B3.out.cell (cell_lt CZ.out)).trans CZ.out))).trans ((B3.out.cell (cell_lt CZ.out)).trans CZ.out)
      clear tw HP hkn
      go_wp2_with (first
        | (go_at_call 18; refine (SA.out _).mono ?_; rintro e wr ⟨rfl, rfl⟩)
        | (go_at_call 11; refine (known_any wr).mono ?_; rintro e w8 ⟨rfl, hb8⟩; have B8 := Lib.hid (below_on B0.out (Nat.le_refl _) (below_on B3.out (Nat.le_refl _) (below_on HB.out (Nat.le_refl _) hb8))); clear hb8))
      go_ret
      exact ⟨rfl, B8.out⟩

theorem walk (y : Int) (A : Option Addr) (l : List Int) (cap : Nat) (z : Int) (w : World) (hR : Ri w A l) (_ : ∀ z ∈ l, -9223372036854775808 ≤ z ∧ z ≤ 9223372036854775807) (_ : l.length ≤ cap) (_ : (Lit.int .i64 z).wf = true) :
    Calls Try.prog 4 #[tb y A l.length cap, .int .i64 z] w fun e w' => e = .returned (.bool true) ∧ Below w.heap.size w w' := by
  by_cases h : 300 < l.length
  · exact walk_long y A _ cap z w h
  · cases hv : vt y l 256 9 with
    | false => exact walk_bad y A l _ cap z w rfl (by omega) hv hR
    | true =>
      obtain ⟨n, rfl, hv2⟩ := vt_iff.1 hv
      by_cases h0 : z < 0
      · exact walk_low n _ A l _ cap w rfl hv2 rfl hR z h0
      · by_cases h1 : (l.length : Int) ≤ z
        · exact walk_high n _ A l _ cap w rfl hv2 rfl hR z (by omega) h1
        · obtain ⟨x, hx⟩ : ∃ x : Nat, z = (x : Int) := ⟨z.toNat, by omega⟩
          obtain ⟨z0, hz0⟩ : ∃ z0, l[x]? = some z0 := ⟨_, List.getElem?_eq_getElem (by omega)⟩
          by_cases h2 : z0 = 0
          · subst h2
            exact walk_gone n _ A l _ cap w rfl hv2 rfl hR z x hx hz0
          · exact walk_ok n _ A l _ cap w rfl hv2 rfl hR z x z0 hx hz0 h2

set_option maxRecDepth 100000 in
theorem lifted (os : Os) (started : os.Started) (H : Type) (enc : TypeId × Value → H) :
    ReturnsInHanded {} Try.checked os 4 .any (Rows.cellsCoverSpec.pre6 enc Try.prog Try.f4 Rows.cellsCoverRow.domain false) (Rows.cellsCoverSpec.post enc Try.prog Try.f4 false true false false) := by
  refine returnsInHanded_of_change_sized (C := Try.checked) ownB started (by kernel_rfl) Try.func4
    (ChangeSpec.witness6 (enc := enc) (C := Try.checked) false ⟨#[], #[.agg #[.int .i64 0, .slice none 0 0], .int .i64 0], []⟩ 8 (by kernel_rfl) (by kernel_rfl) (by kernel_rfl) (by kernel_rfl)) ?_
  intro W base args ds gs before hval0 hW _ hsz0 _
  have hsz : (DataW.weightsEach Try.prog (Try.f4.params.toList ++ Rows.cellsCoverSpec.plain.varTypes Try.prog) (ds ++ gs)).all (· ≤ reachBytes) = true := hsz0
  clear hsz0
  have hval : ∀ (j : Nat) t v, Try.f4.params[j]? = some t → args[j]? = some v → Value.okWide Try.prog W .any base t v := hval0
  have hW' := hW
  obtain ⟨p, q, hA0, hV, rfl, hfz, hnd⟩ := hW
  have hA : DataW.TrodAll enc Try.prog W 0 (fun _ => true) true Try.f4.params.toList args.toList ds p := hA0
  rw [Try.params4] at hA hval hsz
  obtain ⟨v0, vs0, d0, ds0, p0, q0, hargs, rfl, rfl, h0, r0⟩ := trodAll_cons hA
  obtain ⟨v1, vs1, d1, ds1, p1, q1, rfl, rfl, rfl, h1, r1⟩ := trodAll_cons r0
  obtain ⟨rfl, rfl, rfl⟩ := trodAll_nil r1
  obtain rfl : args = #[v0, v1] := by cases args; simp_all
  obtain ⟨rfl, rfl⟩ := trodVars_none hV
  obtain ⟨cs0, rfl, hcs0⟩ := okWide_struct Try.underlying24 (hval 0 24 v0 rfl rfl)
  have k0 := h0
  have lt0 : ∀ x ∈ p0, x.block < W.heap.size := by obtain ⟨m, hm⟩ := k0; exact DataW.trod_lt m _ _ _ hm
  obtain ⟨y0, a0, len0, cap0, l0, rfl, rfl, hc0, ri0, wi0⟩ := open_tab hcs0 h0
  obtain ⟨a1, rfl, rfl, rfl, w1⟩ := open_int Try.underlying3 (hval 1 3 v1 rfl rfl) h1
  clear hA0 hval0
  refine (walk y0 a0 l0 cap0 a1 W ri0 wi0 hc0 w1).mono fun e W' ⟨he, bel⟩ => ?_
  subst he
  exact ⟨_, rfl, _, _, _, [], _, [], hW', trodAll_mk1 (shut_bool Try.underlying4 _), (trodAll_cons_mk (Below.trod laidOut (by kernel_rfl) (of_decide_eq_true (by kernel_rfl)) k0 bel lt0) (trodAll_cons_mk (shut_int Try.underlying3 w1) trodAll_mk0)), rfl, bel.frame _, fun h => by cases h⟩

theorem proved : Rows.CellsCoverSaid :=
  OpenClaim.holds_of_wide 4 Try.f4 rfl rfl rfl rfl rfl rfl rfl ⟨rfl, rfl, rfl, rfl, rfl⟩ rfl rfl rfl rfl rfl (by kernel_rfl) Try.func4 (by kernel_rfl)
    (of_decide_eq_true (by kernel_rfl)) (by unfold Func.isWrapper; rw [if_neg (by decide +kernel)]; exact ⟨rfl, rfl⟩)
    (fun os started H enc _ => lifted os started H enc)

#print axioms proved

end Go.Proofs.Ytfgjeiheekohdaa.cellsCover
