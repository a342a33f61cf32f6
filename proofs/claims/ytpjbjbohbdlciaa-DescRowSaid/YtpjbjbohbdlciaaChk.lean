/-
  What norm.Check does: which tables are valid. Only new memory. Condition: a slice can hold the norms.
-/
import Derived.Test.YtpjbjbohbdlciaaFil
namespace Go.Proofs.Ytpjbjbohbdlciaa
open Go.RowKit Go.Shelf

/-- Which tables are valid. -/
def vt (y : Int) (l : List Int) (sy lg : Int) : Bool :=
  decide (0 ≤ y) && decide (y ≤ lg) && decide (y ≤ 9) && decide (1 ≤ l.length) && decide ((l.length : Int) ≤ sy) && decide (l.getLast? ≠ some 0) && fl l (2 ^ y.toNat)
def err (b : Bool) : Int := if b then 0 else 13
theorem vt_of {y : Int} {l : List Int} {sy lg : Int} (h1 : 0 ≤ y) (h2 : y ≤ lg) (h3 : y ≤ 9) (h4 : 1 ≤ l.length) (h5 : (l.length : Int) ≤ sy) (h6 : l.getLast? ≠ some 0) : vt y l sy lg = fl l (2 ^ y.toNat) := by
  unfold vt
  rw [decide_eq_true h1, decide_eq_true h2, decide_eq_true h3, decide_eq_true h4, decide_eq_true h5, decide_eq_true h6]
  rfl
theorem vt_no {y : Int} {l : List Int} {sy lg : Int} (h : y < 0 ∨ lg < y ∨ 9 < y ∨ l.length = 0 ∨ sy < l.length ∨ l.getLast? = some 0) : vt y l sy lg = false := by
  unfold vt
  rcases h with h | h | h | h | h | h
  · rw [decide_eq_false (show ¬ 0 ≤ y by omega)]; rfl
  · rw [decide_eq_false (show ¬ y ≤ lg by omega)]; simp
  · rw [decide_eq_false (show ¬ y ≤ 9 by omega)]; simp
  · rw [decide_eq_false (show ¬ 1 ≤ l.length by omega)]; simp
  · rw [decide_eq_false (show ¬ (l.length : Int) ≤ sy by omega)]; simp
  · rw [decide_eq_false (show ¬ l.getLast? ≠ some 0 by simp [h])]; simp


set_option maxRecDepth 100000 in
set_option maxHeartbeats 2000000 in
theorem check_1 (w : World) (y sy lg : Int) (A : Option Addr) (l : List Int) (n c : Nat) (hn : l.length = n) (hb : n ≤ 1000000000) (hR : Ri w A l) (h : y < 0) :
    Calls Try.prog 48 #[tb y A n c, .int .i64 sy, .int .i64 lg] w fun e w' => e = .returned (.int .i64 (err (vt y l sy lg))) ∧ Below w.heap.size w w' := by
  obtain ⟨R, hRR⟩ : ∃ R, err (vt y l sy lg) = R := ⟨_, rfl⟩
  rw [hRR]
  have HE : Hid (R = 13) := Lib.hid (by rw [← hRR]; rw [vt_no (.inl h)]; rfl)
  have t1 := Tb.new w y A n c
  have g1 : Below w.heap.size w (w.alloc (.cells #[.int .i64 y, .slice A n c] 24)) := (Below.refl _ w).alloc (Nat.le_refl _) _
  obtain ⟨w1, hw1⟩ : ∃ w1, w.alloc (.cells #[.int .i64 y, .slice A n c] 24) = w1 := ⟨_, rfl⟩
  rw [hw1] at t1 g1
  have c0 := t1.c0
  have c1 := t1.c1
  have G1 := Lib.hid g1
  have R1 := Lib.hid (hR.below g1)
  have HN := Lib.hid hn
  have hb2 := hb
  have d1 : decide (y < 0) = true := decide_eq_true h
  clear t1 g1 hR hn hRR
  go_enter Try.func48, Try.ntmps48
  go_wp2
  go_ret
  exact ⟨by rw [HE.out]; rfl, G1.out⟩

set_option maxRecDepth 100000 in
set_option maxHeartbeats 2000000 in
theorem check_2l (w : World) (y sy lg : Int) (A : Option Addr) (l : List Int) (n c : Nat) (hn : l.length = n) (hb : n ≤ 1000000000) (hR : Ri w A l) (hl : lg ≤ 9) (h0 : 0 ≤ y) (h : lg < y) :
    Calls Try.prog 48 #[tb y A n c, .int .i64 sy, .int .i64 lg] w fun e w' => e = .returned (.int .i64 (err (vt y l sy lg))) ∧ Below w.heap.size w w' := by
  obtain ⟨R, hRR⟩ : ∃ R, err (vt y l sy lg) = R := ⟨_, rfl⟩
  rw [hRR]
  have HE : Hid (R = 13) := Lib.hid (by rw [← hRR]; rw [vt_no (by omega)]; rfl)
  have t1 := Tb.new w y A n c
  have g1 : Below w.heap.size w (w.alloc (.cells #[.int .i64 y, .slice A n c] 24)) := (Below.refl _ w).alloc (Nat.le_refl _) _
  obtain ⟨w1, hw1⟩ : ∃ w1, w.alloc (.cells #[.int .i64 y, .slice A n c] 24) = w1 := ⟨_, rfl⟩
  rw [hw1] at t1 g1
  have c0 := t1.c0
  have c1 := t1.c1
  have G1 := Lib.hid g1
  have R1 := Lib.hid (hR.below g1)
  have HN := Lib.hid hn
  have hb2 := hb
  have h02 := h0
  have d1 : decide (y < 0) = false := decide_eq_false (by omega)
  have d2 : decide (lg < y) = true := decide_eq_true h
  clear t1 g1 hR hn hRR
  go_enter Try.func48, Try.ntmps48
  go_wp2
  go_ret
  exact ⟨by rw [HE.out]; rfl, G1.out⟩

set_option maxRecDepth 100000 in
set_option maxHeartbeats 2000000 in
theorem check_2g (w : World) (y sy lg : Int) (A : Option Addr) (l : List Int) (n c : Nat) (hn : l.length = n) (hb : n ≤ 1000000000) (hR : Ri w A l) (hl : 9 < lg) (h0 : 0 ≤ y) (h : 9 < y) :
    Calls Try.prog 48 #[tb y A n c, .int .i64 sy, .int .i64 lg] w fun e w' => e = .returned (.int .i64 (err (vt y l sy lg))) ∧ Below w.heap.size w w' := by
  obtain ⟨R, hRR⟩ : ∃ R, err (vt y l sy lg) = R := ⟨_, rfl⟩
  rw [hRR]
  have HE : Hid (R = 13) := Lib.hid (by rw [← hRR]; rw [vt_no (by omega)]; rfl)
  have t1 := Tb.new w y A n c
  have g1 : Below w.heap.size w (w.alloc (.cells #[.int .i64 y, .slice A n c] 24)) := (Below.refl _ w).alloc (Nat.le_refl _) _
  obtain ⟨w1, hw1⟩ : ∃ w1, w.alloc (.cells #[.int .i64 y, .slice A n c] 24) = w1 := ⟨_, rfl⟩
  rw [hw1] at t1 g1
  have c0 := t1.c0
  have c1 := t1.c1
  have G1 := Lib.hid g1
  have R1 := Lib.hid (hR.below g1)
  have HN := Lib.hid hn
  have hb2 := hb
  have h02 := h0
  have d1 : decide (y < 0) = false := decide_eq_false (by omega)
  have d2 : decide (9 < y) = true := decide_eq_true h
  clear t1 g1 hR hn hRR
  go_enter Try.func48, Try.ntmps48
  go_wp2
  go_ret
  exact ⟨by rw [HE.out]; rfl, G1.out⟩

set_option maxRecDepth 100000 in
set_option maxHeartbeats 2000000 in
theorem check_3l (w : World) (y sy lg : Int) (A : Option Addr) (l : List Int) (n c : Nat) (hn : l.length = n) (hb : n ≤ 1000000000) (hR : Ri w A l) (hl : lg ≤ 9) (h0 : 0 ≤ y) (h9 : y ≤ lg) (h : n = 0) :
    Calls Try.prog 48 #[tb y A n c, .int .i64 sy, .int .i64 lg] w fun e w' => e = .returned (.int .i64 (err (vt y l sy lg))) ∧ Below w.heap.size w w' := by
  obtain ⟨R, hRR⟩ : ∃ R, err (vt y l sy lg) = R := ⟨_, rfl⟩
  rw [hRR]
  have HE : Hid (R = 13) := Lib.hid (by rw [← hRR]; rw [vt_no (.inr (.inr (.inr (.inl (by omega)))))]; rfl)
  have t1 := Tb.new w y A n c
  have g1 : Below w.heap.size w (w.alloc (.cells #[.int .i64 y, .slice A n c] 24)) := (Below.refl _ w).alloc (Nat.le_refl _) _
  obtain ⟨w1, hw1⟩ : ∃ w1, w.alloc (.cells #[.int .i64 y, .slice A n c] 24) = w1 := ⟨_, rfl⟩
  rw [hw1] at t1 g1
  have c0 := t1.c0
  have c1 := t1.c1
  have G1 := Lib.hid g1
  have R1 := Lib.hid (hR.below g1)
  have HN := Lib.hid hn
  have hb2 := hb
  have d1 : decide (y < 0) = false := decide_eq_false (by omega)
  have hy9 : y ≤ 9 := by omega
  have d2 : decide (lg < y) = false := decide_eq_false (by omega)
  subst h
  have dm : decide ((-1 : Int) < 0) = true := by decide
  clear t1 g1 hR hn hRR
  go_enter Try.func48, Try.ntmps48
  go_wp2
  go_quiet (fail)
  go_wp2
  go_ret
  exact ⟨by rw [HE.out]; rfl, below_drewN' G1.out _⟩

set_option maxRecDepth 100000 in
set_option maxHeartbeats 2000000 in
theorem check_3g (w : World) (y sy lg : Int) (A : Option Addr) (l : List Int) (n c : Nat) (hn : l.length = n) (hb : n ≤ 1000000000) (hR : Ri w A l) (hl : 9 < lg) (h0 : 0 ≤ y) (h9 : y ≤ 9) (h : n = 0) :
    Calls Try.prog 48 #[tb y A n c, .int .i64 sy, .int .i64 lg] w fun e w' => e = .returned (.int .i64 (err (vt y l sy lg))) ∧ Below w.heap.size w w' := by
  obtain ⟨R, hRR⟩ : ∃ R, err (vt y l sy lg) = R := ⟨_, rfl⟩
  rw [hRR]
  have HE : Hid (R = 13) := Lib.hid (by rw [← hRR]; rw [vt_no (.inr (.inr (.inr (.inl (by omega)))))]; rfl)
  have t1 := Tb.new w y A n c
  have g1 : Below w.heap.size w (w.alloc (.cells #[.int .i64 y, .slice A n c] 24)) := (Below.refl _ w).alloc (Nat.le_refl _) _
  obtain ⟨w1, hw1⟩ : ∃ w1, w.alloc (.cells #[.int .i64 y, .slice A n c] 24) = w1 := ⟨_, rfl⟩
  rw [hw1] at t1 g1
  have c0 := t1.c0
  have c1 := t1.c1
  have G1 := Lib.hid g1
  have R1 := Lib.hid (hR.below g1)
  have HN := Lib.hid hn
  have hb2 := hb
  have d1 : decide (y < 0) = false := decide_eq_false (by omega)
  have hy9 : y ≤ 9 := by omega
  have d2 : decide (9 < y) = false := decide_eq_false (by omega)
  subst h
  have dm : decide ((-1 : Int) < 0) = true := by decide
  clear t1 g1 hR hn hRR
  go_enter Try.func48, Try.ntmps48
  go_wp2
  go_quiet (fail)
  go_wp2
  go_ret
  exact ⟨by rw [HE.out]; rfl, below_drewN' G1.out _⟩

set_option maxRecDepth 100000 in
set_option maxHeartbeats 2000000 in
theorem check_4l (w : World) (y sy lg : Int) (A : Option Addr) (l : List Int) (n c : Nat) (hn : l.length = n) (hb : n ≤ 1000000000) (hR : Ri w A l) (hl : lg ≤ 9) (h0 : 0 ≤ y) (h9 : y ≤ lg) (h1 : 0 < n) (h : sy < n) :
    Calls Try.prog 48 #[tb y A n c, .int .i64 sy, .int .i64 lg] w fun e w' => e = .returned (.int .i64 (err (vt y l sy lg))) ∧ Below w.heap.size w w' := by
  obtain ⟨R, hRR⟩ : ∃ R, err (vt y l sy lg) = R := ⟨_, rfl⟩
  rw [hRR]
  have HE : Hid (R = 13) := Lib.hid (by rw [← hRR]; rw [vt_no (.inr (.inr (.inr (.inr (.inl (by omega))))))]; rfl)
  have t1 := Tb.new w y A n c
  have g1 : Below w.heap.size w (w.alloc (.cells #[.int .i64 y, .slice A n c] 24)) := (Below.refl _ w).alloc (Nat.le_refl _) _
  obtain ⟨w1, hw1⟩ : ∃ w1, w.alloc (.cells #[.int .i64 y, .slice A n c] 24) = w1 := ⟨_, rfl⟩
  rw [hw1] at t1 g1
  have c0 := t1.c0
  have c1 := t1.c1
  have G1 := Lib.hid g1
  have R1 := Lib.hid (hR.below g1)
  have HN := Lib.hid hn
  have hb2 := hb
  have d1 : decide (y < 0) = false := decide_eq_false (by omega)
  have hy9 : y ≤ 9 := by omega
  have d2 : decide (lg < y) = false := decide_eq_false (by omega)
  have dl : decide ((n : Int) - 1 < 0) = false := decide_eq_false (by omega)
  have ds : decide (sy ≤ (n : Int) - 1) = true := decide_eq_true (by omega)
  clear t1 g1 hR hn hRR
  go_enter Try.func48, Try.ntmps48
  go_wp2
  go_quiet (fail)
  go_wp2
  go_ret
  exact ⟨by rw [HE.out]; rfl, below_drewN' G1.out _⟩

set_option maxRecDepth 100000 in
set_option maxHeartbeats 2000000 in
theorem check_4g (w : World) (y sy lg : Int) (A : Option Addr) (l : List Int) (n c : Nat) (hn : l.length = n) (hb : n ≤ 1000000000) (hR : Ri w A l) (hl : 9 < lg) (h0 : 0 ≤ y) (h9 : y ≤ 9) (h1 : 0 < n) (h : sy < n) :
    Calls Try.prog 48 #[tb y A n c, .int .i64 sy, .int .i64 lg] w fun e w' => e = .returned (.int .i64 (err (vt y l sy lg))) ∧ Below w.heap.size w w' := by
  obtain ⟨R, hRR⟩ : ∃ R, err (vt y l sy lg) = R := ⟨_, rfl⟩
  rw [hRR]
  have HE : Hid (R = 13) := Lib.hid (by rw [← hRR]; rw [vt_no (.inr (.inr (.inr (.inr (.inl (by omega))))))]; rfl)
  have t1 := Tb.new w y A n c
  have g1 : Below w.heap.size w (w.alloc (.cells #[.int .i64 y, .slice A n c] 24)) := (Below.refl _ w).alloc (Nat.le_refl _) _
  obtain ⟨w1, hw1⟩ : ∃ w1, w.alloc (.cells #[.int .i64 y, .slice A n c] 24) = w1 := ⟨_, rfl⟩
  rw [hw1] at t1 g1
  have c0 := t1.c0
  have c1 := t1.c1
  have G1 := Lib.hid g1
  have R1 := Lib.hid (hR.below g1)
  have HN := Lib.hid hn
  have hb2 := hb
  have d1 : decide (y < 0) = false := decide_eq_false (by omega)
  have hy9 : y ≤ 9 := by omega
  have d2 : decide (9 < y) = false := decide_eq_false (by omega)
  have dl : decide ((n : Int) - 1 < 0) = false := decide_eq_false (by omega)
  have ds : decide (sy ≤ (n : Int) - 1) = true := decide_eq_true (by omega)
  clear t1 g1 hR hn hRR
  go_enter Try.func48, Try.ntmps48
  go_wp2
  go_quiet (fail)
  go_wp2
  go_ret
  exact ⟨by rw [HE.out]; rfl, below_drewN' G1.out _⟩

set_option maxRecDepth 100000 in
set_option maxHeartbeats 2000000 in
theorem check_5l (w : World) (y sy lg : Int) (A : Option Addr) (l : List Int) (n c : Nat) (hn : l.length = n) (hb : n ≤ 1000000000) (hR : Ri w A l) (hl : lg ≤ 9) (h0 : 0 ≤ y) (h9 : y ≤ lg) (h1 : 0 < n) (hs : (n : Int) ≤ sy) (h : l.getLast? = some 0) :
    Calls Try.prog 48 #[tb y A n c, .int .i64 sy, .int .i64 lg] w fun e w' => e = .returned (.int .i64 (err (vt y l sy lg))) ∧ Below w.heap.size w w' := by
  obtain ⟨R, hRR⟩ : ∃ R, err (vt y l sy lg) = R := ⟨_, rfl⟩
  rw [hRR]
  have HE : Hid (R = 13) := Lib.hid (by rw [← hRR]; rw [vt_no (.inr (.inr (.inr (.inr (.inr h)))))]; rfl)
  have t1 := Tb.new w y A n c
  have g1 : Below w.heap.size w (w.alloc (.cells #[.int .i64 y, .slice A n c] 24)) := (Below.refl _ w).alloc (Nat.le_refl _) _
  obtain ⟨w1, hw1⟩ : ∃ w1, w.alloc (.cells #[.int .i64 y, .slice A n c] 24) = w1 := ⟨_, rfl⟩
  rw [hw1] at t1 g1
  have c0 := t1.c0
  have c1 := t1.c1
  have G1 := Lib.hid g1
  have R1 := Lib.hid (hR.below g1)
  have HN := Lib.hid hn
  have hb2 := hb
  have d1 : decide (y < 0) = false := decide_eq_false (by omega)
  have hy9 : y ≤ 9 := by omega
  have d2 : decide (lg < y) = false := decide_eq_false (by omega)
  obtain ⟨m, rfl⟩ : ∃ m, n = m + 1 := ⟨n - 1, by omega⟩
  have hm : ((m + 1 : Nat) : Int) - 1 = (m : Int) := by omega
  obtain ⟨x, hx⟩ : ∃ x, l[m]? = some x := ⟨_, List.getElem?_eq_getElem (by omega)⟩
  have hgl : l.getLast? = some x := by rw [List.getLast?_eq_getElem?, hn]; exact hx
  obtain ⟨ad, rfl, hcx⟩ := R1.out m (iv x) (by rw [List.getElem?_map, hx]; rfl)
  have dl : decide ((m : Int) < 0) = false := decide_eq_false (by omega)
  have ds : decide (sy ≤ (m : Int)) = false := decide_eq_false (by omega)
  have wm : IntKind.i64.wrap (m : Int) = (m : Int) := IntWalk.i64_in _ (by omega)
  rw [h] at hgl
  obtain rfl := Option.some.inj hgl
  clear hx hgl h
  clear t1 g1 hR hn hRR
  go_enter Try.func48, Try.ntmps48
  go_wp2
  go_quiet (fail)
  go_wp2
  go_ret
  exact ⟨by rw [HE.out]; rfl, below_drewN' G1.out _⟩

set_option maxRecDepth 100000 in
set_option maxHeartbeats 2000000 in
theorem check_5g (w : World) (y sy lg : Int) (A : Option Addr) (l : List Int) (n c : Nat) (hn : l.length = n) (hb : n ≤ 1000000000) (hR : Ri w A l) (hl : 9 < lg) (h0 : 0 ≤ y) (h9 : y ≤ 9) (h1 : 0 < n) (hs : (n : Int) ≤ sy) (h : l.getLast? = some 0) :
    Calls Try.prog 48 #[tb y A n c, .int .i64 sy, .int .i64 lg] w fun e w' => e = .returned (.int .i64 (err (vt y l sy lg))) ∧ Below w.heap.size w w' := by
  obtain ⟨R, hRR⟩ : ∃ R, err (vt y l sy lg) = R := ⟨_, rfl⟩
  rw [hRR]
  have HE : Hid (R = 13) := Lib.hid (by rw [← hRR]; rw [vt_no (.inr (.inr (.inr (.inr (.inr h)))))]; rfl)
  have t1 := Tb.new w y A n c
  have g1 : Below w.heap.size w (w.alloc (.cells #[.int .i64 y, .slice A n c] 24)) := (Below.refl _ w).alloc (Nat.le_refl _) _
  obtain ⟨w1, hw1⟩ : ∃ w1, w.alloc (.cells #[.int .i64 y, .slice A n c] 24) = w1 := ⟨_, rfl⟩
  rw [hw1] at t1 g1
  have c0 := t1.c0
  have c1 := t1.c1
  have G1 := Lib.hid g1
  have R1 := Lib.hid (hR.below g1)
  have HN := Lib.hid hn
  have hb2 := hb
  have d1 : decide (y < 0) = false := decide_eq_false (by omega)
  have hy9 : y ≤ 9 := by omega
  have d2 : decide (9 < y) = false := decide_eq_false (by omega)
  obtain ⟨m, rfl⟩ : ∃ m, n = m + 1 := ⟨n - 1, by omega⟩
  have hm : ((m + 1 : Nat) : Int) - 1 = (m : Int) := by omega
  obtain ⟨x, hx⟩ : ∃ x, l[m]? = some x := ⟨_, List.getElem?_eq_getElem (by omega)⟩
  have hgl : l.getLast? = some x := by rw [List.getLast?_eq_getElem?, hn]; exact hx
  obtain ⟨ad, rfl, hcx⟩ := R1.out m (iv x) (by rw [List.getElem?_map, hx]; rfl)
  have dl : decide ((m : Int) < 0) = false := decide_eq_false (by omega)
  have ds : decide (sy ≤ (m : Int)) = false := decide_eq_false (by omega)
  have wm : IntKind.i64.wrap (m : Int) = (m : Int) := IntWalk.i64_in _ (by omega)
  rw [h] at hgl
  obtain rfl := Option.some.inj hgl
  clear hx hgl h
  clear t1 g1 hR hn hRR
  go_enter Try.func48, Try.ntmps48
  go_wp2
  go_quiet (fail)
  go_wp2
  go_ret
  exact ⟨by rw [HE.out]; rfl, below_drewN' G1.out _⟩

set_option maxRecDepth 100000 in
set_option maxHeartbeats 2000000 in
theorem check_6l (w : World) (y sy lg : Int) (A : Option Addr) (l : List Int) (n c : Nat) (hn : l.length = n) (hb : n ≤ 1000000000) (hR : Ri w A l) (hl : lg ≤ 9) (h0 : 0 ≤ y) (h9 : y ≤ lg) (h1 : 0 < n) (hs : (n : Int) ≤ sy) (h : l.getLast? ≠ some 0) :
    Calls Try.prog 48 #[tb y A n c, .int .i64 sy, .int .i64 lg] w fun e w' => e = .returned (.int .i64 (err (vt y l sy lg))) ∧ Below w.heap.size w w' := by
  obtain ⟨R, hRR⟩ : ∃ R, err (vt y l sy lg) = R := ⟨_, rfl⟩
  rw [hRR]
  have HE : Hid (R = err (fl l (2 ^ y.toNat))) := Lib.hid (by rw [← hRR]; rw [vt_of h0 (by omega) (by omega) (by omega) (by omega) h])
  have t1 := Tb.new w y A n c
  have g1 : Below w.heap.size w (w.alloc (.cells #[.int .i64 y, .slice A n c] 24)) := (Below.refl _ w).alloc (Nat.le_refl _) _
  obtain ⟨w1, hw1⟩ : ∃ w1, w.alloc (.cells #[.int .i64 y, .slice A n c] 24) = w1 := ⟨_, rfl⟩
  rw [hw1] at t1 g1
  have c0 := t1.c0
  have c1 := t1.c1
  have G1 := Lib.hid g1
  have R1 := Lib.hid (hR.below g1)
  have HN := Lib.hid hn
  have hb2 := hb
  have d1 : decide (y < 0) = false := decide_eq_false (by omega)
  have hy9 : y ≤ 9 := by omega
  have d2 : decide (lg < y) = false := decide_eq_false (by omega)
  obtain ⟨m, rfl⟩ : ∃ m, n = m + 1 := ⟨n - 1, by omega⟩
  have hm : ((m + 1 : Nat) : Int) - 1 = (m : Int) := by omega
  obtain ⟨x, hx⟩ : ∃ x, l[m]? = some x := ⟨_, List.getElem?_eq_getElem (by omega)⟩
  have hgl : l.getLast? = some x := by rw [List.getLast?_eq_getElem?, hn]; exact hx
  obtain ⟨ad, rfl, hcx⟩ := R1.out m (iv x) (by rw [List.getElem?_map, hx]; rfl)
  have dl : decide ((m : Int) < 0) = false := decide_eq_false (by omega)
  have ds : decide (sy ≤ (m : Int)) = false := decide_eq_false (by omega)
  have wm : IntKind.i64.wrap (m : Int) = (m : Int) := IntWalk.i64_in _ (by omega)
  have hxz : (x == 0) = false := by
    rw [hgl] at h
    simp
    rintro rfl
    exact h rfl
  obtain ⟨k, rfl⟩ : ∃ k : Nat, y = (k : Int) := ⟨y.toNat, by omega⟩
  obtain ⟨s, hse⟩ : ∃ s, 2 ^ k = s := ⟨_, rfl⟩
  have hk64 : k ≤ 64 := by omega
  have hs5 : s ≤ 512 := by rw [← hse]; exact pow_le (by omega)
  have hs6 : s ≤ 1000000 := Nat.le_trans hs5 (by decide)
  have kb : decide ((k : Int) < 0) = false := decide_eq_false (by omega)
  have hwS : IntKind.i64.wrap (s : Int) = (s : Int) := IntWalk.i64_in _ (by omega)
  have hsh : wrap64 (2 ^ k) = (s : Int) := pow_wrap hse hs5
  have hp2 : (2 : Int) ^ k = (s : Int) := by rw [← hse]; exact (Int.natCast_pow 2 k).symm
  have hsi : IntKind.i64.wrap (2 ^ k) = (s : Int) := by rw [hp2]; exact hwS
  have hsm : IntKind.i64.wrap (2 ^ min k 64) = (s : Int) := by rw [Nat.min_eq_left hk64]; exact hsi
  obtain ⟨F, hF⟩ : ∃ F, fl l (s : Int) = F := ⟨_, rfl⟩
  have HEF : Hid (R = err F) := Lib.hid (by
    rw [HE.out, ← hF, Int.toNat_natCast, hp2])
  have FL : Hid (∀ d, Calls Try.prog 68 #[.slice (some ad) (m + 1) c, .int .i64 (s : Int)] (w1.drewN d) fun e w' => e = .returned (.bool F) ∧ w' = w1.drewN d) := Lib.hid (fun d => by
    have := fill_any (w1.drewN d) (some ad) l (m + 1) c s hn hb hs6 (Rv.same R1.out (fun _ _ => rfl))
    rw [hF] at this
    exact this)
  clear hx hgl h hse hF hp2
  clear t1 g1 hR hn hRR
  go_enter Try.func48, Try.ntmps48
  cases F with
  | true =>
    go_wp2
    go_quiet ((go_at_call 68; exact Calls.quiet_of_same (FL.out _)))
    go_wp2
    go_ret
    exact ⟨by rw [HEF.out]; rfl, below_drewN' G1.out _⟩
  | false =>
    go_wp2
    go_quiet ((go_at_call 68; exact Calls.quiet_of_same (FL.out _)))
    go_wp2
    go_ret
    exact ⟨by rw [HEF.out]; rfl, below_drewN' G1.out _⟩

set_option maxRecDepth 100000 in
set_option maxHeartbeats 2000000 in
theorem check_6g (w : World) (y sy lg : Int) (A : Option Addr) (l : List Int) (n c : Nat) (hn : l.length = n) (hb : n ≤ 1000000000) (hR : Ri w A l) (hl : 9 < lg) (h0 : 0 ≤ y) (h9 : y ≤ 9) (h1 : 0 < n) (hs : (n : Int) ≤ sy) (h : l.getLast? ≠ some 0) :
    Calls Try.prog 48 #[tb y A n c, .int .i64 sy, .int .i64 lg] w fun e w' => e = .returned (.int .i64 (err (vt y l sy lg))) ∧ Below w.heap.size w w' := by
  obtain ⟨R, hRR⟩ : ∃ R, err (vt y l sy lg) = R := ⟨_, rfl⟩
  rw [hRR]
  have HE : Hid (R = err (fl l (2 ^ y.toNat))) := Lib.hid (by rw [← hRR]; rw [vt_of h0 (by omega) (by omega) (by omega) (by omega) h])
  have t1 := Tb.new w y A n c
  have g1 : Below w.heap.size w (w.alloc (.cells #[.int .i64 y, .slice A n c] 24)) := (Below.refl _ w).alloc (Nat.le_refl _) _
  obtain ⟨w1, hw1⟩ : ∃ w1, w.alloc (.cells #[.int .i64 y, .slice A n c] 24) = w1 := ⟨_, rfl⟩
  rw [hw1] at t1 g1
  have c0 := t1.c0
  have c1 := t1.c1
  have G1 := Lib.hid g1
  have R1 := Lib.hid (hR.below g1)
  have HN := Lib.hid hn
  have hb2 := hb
  have d1 : decide (y < 0) = false := decide_eq_false (by omega)
  have hy9 : y ≤ 9 := by omega
  have d2 : decide (9 < y) = false := decide_eq_false (by omega)
  obtain ⟨m, rfl⟩ : ∃ m, n = m + 1 := ⟨n - 1, by omega⟩
  have hm : ((m + 1 : Nat) : Int) - 1 = (m : Int) := by omega
  obtain ⟨x, hx⟩ : ∃ x, l[m]? = some x := ⟨_, List.getElem?_eq_getElem (by omega)⟩
  have hgl : l.getLast? = some x := by rw [List.getLast?_eq_getElem?, hn]; exact hx
  obtain ⟨ad, rfl, hcx⟩ := R1.out m (iv x) (by rw [List.getElem?_map, hx]; rfl)
  have dl : decide ((m : Int) < 0) = false := decide_eq_false (by omega)
  have ds : decide (sy ≤ (m : Int)) = false := decide_eq_false (by omega)
  have wm : IntKind.i64.wrap (m : Int) = (m : Int) := IntWalk.i64_in _ (by omega)
  have hxz : (x == 0) = false := by
    rw [hgl] at h
    simp
    rintro rfl
    exact h rfl
  obtain ⟨k, rfl⟩ : ∃ k : Nat, y = (k : Int) := ⟨y.toNat, by omega⟩
  obtain ⟨s, hse⟩ : ∃ s, 2 ^ k = s := ⟨_, rfl⟩
  have hk64 : k ≤ 64 := by omega
  have hs5 : s ≤ 512 := by rw [← hse]; exact pow_le (by omega)
  have hs6 : s ≤ 1000000 := Nat.le_trans hs5 (by decide)
  have kb : decide ((k : Int) < 0) = false := decide_eq_false (by omega)
  have hwS : IntKind.i64.wrap (s : Int) = (s : Int) := IntWalk.i64_in _ (by omega)
  have hsh : wrap64 (2 ^ k) = (s : Int) := pow_wrap hse hs5
  have hp2 : (2 : Int) ^ k = (s : Int) := by rw [← hse]; exact (Int.natCast_pow 2 k).symm
  have hsi : IntKind.i64.wrap (2 ^ k) = (s : Int) := by rw [hp2]; exact hwS
  have hsm : IntKind.i64.wrap (2 ^ min k 64) = (s : Int) := by rw [Nat.min_eq_left hk64]; exact hsi
  obtain ⟨F, hF⟩ : ∃ F, fl l (s : Int) = F := ⟨_, rfl⟩
  have HEF : Hid (R = err F) := Lib.hid (by
    rw [HE.out, ← hF, Int.toNat_natCast, hp2])
  have FL : Hid (∀ d, Calls Try.prog 68 #[.slice (some ad) (m + 1) c, .int .i64 (s : Int)] (w1.drewN d) fun e w' => e = .returned (.bool F) ∧ w' = w1.drewN d) := Lib.hid (fun d => by
    have := fill_any (w1.drewN d) (some ad) l (m + 1) c s hn hb hs6 (Rv.same R1.out (fun _ _ => rfl))
    rw [hF] at this
    exact this)
  clear hx hgl h hse hF hp2
  clear t1 g1 hR hn hRR
  go_enter Try.func48, Try.ntmps48
  cases F with
  | true =>
    go_wp2
    go_quiet ((go_at_call 68; exact Calls.quiet_of_same (FL.out _)))
    go_wp2
    go_ret
    exact ⟨by rw [HEF.out]; rfl, below_drewN' G1.out _⟩
  | false =>
    go_wp2
    go_quiet ((go_at_call 68; exact Calls.quiet_of_same (FL.out _)))
    go_wp2
    go_ret
    exact ⟨by rw [HEF.out]; rfl, below_drewN' G1.out _⟩

theorem check_any (w : World) (y sy lg : Int) (A : Option Addr) (l : List Int) (n c : Nat) (hn : l.length = n) (hb : n ≤ 1000000000) (hR : Ri w A l) :
    Calls Try.prog 48 #[tb y A n c, .int .i64 sy, .int .i64 lg] w fun e w' => e = .returned (.int .i64 (err (vt y l sy lg))) ∧ Below w.heap.size w w' := by
  by_cases h1 : y < 0
  · exact check_1 w y sy lg A l n c hn hb hR h1
  · have key : 0 ≤ y ∧ (n = 0 ∨ 0 < n ∧ (sy < n ∨ (n : Int) ≤ sy ∧ (l.getLast? = some 0 ∨ l.getLast? ≠ some 0))) := by
      refine ⟨by omega, ?_⟩
      by_cases h3 : n = 0
      · exact .inl h3
      · refine .inr ⟨by omega, ?_⟩
        by_cases h4 : sy < n
        · exact .inl h4
        · refine .inr ⟨by omega, ?_⟩
          by_cases h5 : l.getLast? = some 0
          · exact .inl h5
          · exact .inr h5
    obtain ⟨h0, key⟩ := key
    by_cases hl : lg ≤ 9
    · by_cases h2 : lg < y
      · exact check_2l w y sy lg A l n c hn hb hR hl h0 h2
      · rcases key with h3 | ⟨h3, h4 | ⟨h4, h5 | h5⟩⟩
        · exact check_3l w y sy lg A l n c hn hb hR hl h0 (by omega) h3
        · exact check_4l w y sy lg A l n c hn hb hR hl h0 (by omega) h3 h4
        · exact check_5l w y sy lg A l n c hn hb hR hl h0 (by omega) h3 h4 h5
        · exact check_6l w y sy lg A l n c hn hb hR hl h0 (by omega) h3 h4 h5
    · by_cases h2 : 9 < y
      · exact check_2g w y sy lg A l n c hn hb hR (by omega) h0 h2
      · rcases key with h3 | ⟨h3, h4 | ⟨h4, h5 | h5⟩⟩
        · exact check_3g w y sy lg A l n c hn hb hR (by omega) h0 (by omega) h3
        · exact check_4g w y sy lg A l n c hn hb hR (by omega) h0 (by omega) h3 h4
        · exact check_5g w y sy lg A l n c hn hb hR (by omega) h0 (by omega) h3 h4 h5
        · exact check_6g w y sy lg A l n c hn hb hR (by omega) h0 (by omega) h3 h4 h5

end Go.Proofs.Ytpjbjbohbdlciaa
