/-
  What the reference's Normal does at other arguments: it returns the error. Nothing that was there has changed. Condition: the counts are integers that a slice can hold.
-/
import Derived.Test.YtkojdhmgefggjaaKno
namespace Go.Proofs.Ytkojdhmgefggjaa
open Go.RowKit Go.Shelf

/-- Arguments that have a normalized table, as natural numbers. -/
theorem gd_of {l : List Int} {z : Int} (hg : good l z) (hlen : l.length ≤ 1000000) : ∃ (k : List Nat) (lg : Nat), l = k.map (fun n : Nat => (n : Int)) ∧ k.length = l.length ∧ z = (lg : Int) ∧ Gd k lg (2 ^ lg) := by
  obtain ⟨hm, h0, h9, hu⟩ := hg
  obtain ⟨hf, _, hus, hp⟩ := may_fine hm
  refine ⟨l.map Int.toNat, z.toNat, fine_nats hf, by simp, by omega, ⟨fine_tot hf, hp, by omega, rfl, by rw [← hus]; exact hu, by simpa using hlen⟩⟩


set_option maxRecDepth 100000 in
set_option maxHeartbeats 4000000 in
theorem rnormal_bad1 (w : World) (A : Option Addr) (l : List Int) (N c : Nat) (z : Int) (hN : l.length = N) (hb : N ≤ 1000000000) (hR : Ri w A l) (hm : may l = false) :
    Calls Try.prog 16 #[.slice A N c, .int .i64 z] w fun e w' => e = .returned (.tuple #[tb 0 none 0 0, .int .i64 2]) ∧ Below w.heap.size w w' := by
  have g1 : Below w.heap.size w (w.alloc (.cells #[.int .i64 0, .slice none 0 0] 24)) := (Below.refl _ w).alloc (Nat.le_refl _) _
  have t1 := Tb.new w 0 none 0 0
  have SV := Lib.hid (rcounts_any _ A l N c hN hb (hR.below g1))
  unfold srv at SV
  rw [hm] at SV
  obtain ⟨w1, hw1⟩ : ∃ w1, w.alloc (.cells #[.int .i64 0, .slice none 0 0] 24) = w1 := ⟨_, rfl⟩
  rw [hw1] at g1 t1 SV
  have c0 := t1.c0
  have f0 := t1.free 0
  obtain ⟨Wa, hWa⟩ : ∃ Wa, w1.setCell ⟨w.heap.size, 0, none⟩ (.int .i64 0) = Wa := ⟨_, rfl⟩
  have ta : Tb Wa w.heap.size 0 none 0 0 := by rw [← hWa]; exact t1.set0 0
  have c1 := ta.c1
  have f1 := ta.free 1
  obtain ⟨Wb, hWb⟩ : ∃ Wb, Wa.setCell ⟨w.heap.size, 1, none⟩ (.slice none 0 0) = Wb := ⟨_, rfl⟩
  have t2 : Tb Wb w.heap.size 0 none 0 0 := by rw [← hWb]; exact ta.set1 none 0 0
  have FN : Hid (Tb Wb w.heap.size 0 none 0 0 ∧ Below w.heap.size w Wb) := Lib.hid ⟨t2, by rw [← hWb, ← hWa]; exact (g1.setCell (p := ⟨w.heap.size, 0, none⟩) (Nat.le_refl _) _).setCell (p := ⟨w.heap.size, 1, none⟩) (Nat.le_refl _) _⟩
  clear t1 ta t2 g1 hN hR hm
  go_enter Try.func16, Try.ntmps16
  go_wp2_with (first
    | (go_at_call 21; refine SV.out.mono ?_; rintro e w' ⟨rfl, rfl⟩))
  refine bodyPost_ret (results_cell2 rfl rfl FN.out.1.load) rfl ?_
  exact ⟨rfl, FN.out.2⟩

set_option maxRecDepth 100000 in
set_option maxHeartbeats 4000000 in
theorem rnormal_bad2 (w : World) (A : Option Addr) (l : List Int) (N c : Nat) (z : Int) (hN : l.length = N) (hb : N ≤ 1000000000) (hR : Ri w A l) (hm : may l = true) (hz : z < 0) :
    Calls Try.prog 16 #[.slice A N c, .int .i64 z] w fun e w' => e = .returned (.tuple #[tb 0 none 0 0, .int .i64 2]) ∧ Below w.heap.size w w' := by
  have d1 : decide (z < 0) = true := decide_eq_true hz
  have g1 : Below w.heap.size w (w.alloc (.cells #[.int .i64 0, .slice none 0 0] 24)) := (Below.refl _ w).alloc (Nat.le_refl _) _
  have t1 := Tb.new w 0 none 0 0
  have SV := Lib.hid (rcounts_any _ A l N c hN hb (hR.below g1))
  unfold srv at SV
  rw [hm] at SV
  obtain ⟨w1, hw1⟩ : ∃ w1, w.alloc (.cells #[.int .i64 0, .slice none 0 0] 24) = w1 := ⟨_, rfl⟩
  rw [hw1] at g1 t1 SV
  have c0 := t1.c0
  have f0 := t1.free 0
  obtain ⟨Wa, hWa⟩ : ∃ Wa, w1.setCell ⟨w.heap.size, 0, none⟩ (.int .i64 0) = Wa := ⟨_, rfl⟩
  have ta : Tb Wa w.heap.size 0 none 0 0 := by rw [← hWa]; exact t1.set0 0
  have c1 := ta.c1
  have f1 := ta.free 1
  obtain ⟨Wb, hWb⟩ : ∃ Wb, Wa.setCell ⟨w.heap.size, 1, none⟩ (.slice none 0 0) = Wb := ⟨_, rfl⟩
  have t2 : Tb Wb w.heap.size 0 none 0 0 := by rw [← hWb]; exact ta.set1 none 0 0
  have FN : Hid (Tb Wb w.heap.size 0 none 0 0 ∧ Below w.heap.size w Wb) := Lib.hid ⟨t2, by rw [← hWb, ← hWa]; exact (g1.setCell (p := ⟨w.heap.size, 0, none⟩) (Nat.le_refl _) _).setCell (p := ⟨w.heap.size, 1, none⟩) (Nat.le_refl _) _⟩
  clear t1 ta t2 g1 hN hR hm
  go_enter Try.func16, Try.ntmps16
  go_wp2_with (first
    | (go_at_call 21; refine SV.out.mono ?_; rintro e w' ⟨rfl, rfl⟩))
  refine bodyPost_ret (results_cell2 rfl rfl FN.out.1.load) rfl ?_
  exact ⟨rfl, FN.out.2⟩

set_option maxRecDepth 100000 in
set_option maxHeartbeats 4000000 in
theorem rnormal_bad3 (w : World) (A : Option Addr) (l : List Int) (N c : Nat) (z : Int) (hN : l.length = N) (hb : N ≤ 1000000000) (hR : Ri w A l) (hm : may l = true) (hz : 9 < z) :
    Calls Try.prog 16 #[.slice A N c, .int .i64 z] w fun e w' => e = .returned (.tuple #[tb 0 none 0 0, .int .i64 2]) ∧ Below w.heap.size w w' := by
  have d1 : decide (z < 0) = false := decide_eq_false (by omega)
  have d2 : decide (9 < z) = true := decide_eq_true hz
  have g1 : Below w.heap.size w (w.alloc (.cells #[.int .i64 0, .slice none 0 0] 24)) := (Below.refl _ w).alloc (Nat.le_refl _) _
  have t1 := Tb.new w 0 none 0 0
  have SV := Lib.hid (rcounts_any _ A l N c hN hb (hR.below g1))
  unfold srv at SV
  rw [hm] at SV
  obtain ⟨w1, hw1⟩ : ∃ w1, w.alloc (.cells #[.int .i64 0, .slice none 0 0] 24) = w1 := ⟨_, rfl⟩
  rw [hw1] at g1 t1 SV
  have c0 := t1.c0
  have f0 := t1.free 0
  obtain ⟨Wa, hWa⟩ : ∃ Wa, w1.setCell ⟨w.heap.size, 0, none⟩ (.int .i64 0) = Wa := ⟨_, rfl⟩
  have ta : Tb Wa w.heap.size 0 none 0 0 := by rw [← hWa]; exact t1.set0 0
  have c1 := ta.c1
  have f1 := ta.free 1
  obtain ⟨Wb, hWb⟩ : ∃ Wb, Wa.setCell ⟨w.heap.size, 1, none⟩ (.slice none 0 0) = Wb := ⟨_, rfl⟩
  have t2 : Tb Wb w.heap.size 0 none 0 0 := by rw [← hWb]; exact ta.set1 none 0 0
  have FN : Hid (Tb Wb w.heap.size 0 none 0 0 ∧ Below w.heap.size w Wb) := Lib.hid ⟨t2, by rw [← hWb, ← hWa]; exact (g1.setCell (p := ⟨w.heap.size, 0, none⟩) (Nat.le_refl _) _).setCell (p := ⟨w.heap.size, 1, none⟩) (Nat.le_refl _) _⟩
  clear t1 ta t2 g1 hN hR hm
  go_enter Try.func16, Try.ntmps16
  go_wp2_with (first
    | (go_at_call 21; refine SV.out.mono ?_; rintro e w' ⟨rfl, rfl⟩))
  refine bodyPost_ret (results_cell2 rfl rfl FN.out.1.load) rfl ?_
  exact ⟨rfl, FN.out.2⟩

set_option maxRecDepth 100000 in
set_option maxHeartbeats 4000000 in
theorem rnormal_bad4 (w : World) (A : Option Addr) (l : List Int) (N c : Nat) (z : Int) (hN : l.length = N) (hb : N ≤ 1000000000) (hR : Ri w A l) (hm : may l = true) (lg s : Nat) (hlg : lg ≤ 9) (hz : z = (lg : Int)) (hs : 2 ^ lg = s) (hu : s < us l) :
    Calls Try.prog 16 #[.slice A N c, .int .i64 z] w fun e w' => e = .returned (.tuple #[tb 0 none 0 0, .int .i64 2]) ∧ Below w.heap.size w w' := by
  subst hz
  have d1 : decide ((lg : Int) < 0) = false := decide_eq_false (by omega)
  have d2 : decide (9 < (lg : Int)) = false := decide_eq_false (by omega)
  have d3 : decide ((s : Int) < (us l : Int)) = true := decide_eq_true (by omega)
  have SZ := Lib.hid (fun W => size_any W (lg : Int))
  have hsz : siz (lg : Int) = s := by unfold siz; rw [if_neg (by omega)]; simpa using hs
  rw [hsz] at SZ
  clear hs hsz
  have g1 : Below w.heap.size w (w.alloc (.cells #[.int .i64 0, .slice none 0 0] 24)) := (Below.refl _ w).alloc (Nat.le_refl _) _
  have t1 := Tb.new w 0 none 0 0
  have SV := Lib.hid (rcounts_any _ A l N c hN hb (hR.below g1))
  unfold srv at SV
  rw [hm] at SV
  obtain ⟨w1, hw1⟩ : ∃ w1, w.alloc (.cells #[.int .i64 0, .slice none 0 0] 24) = w1 := ⟨_, rfl⟩
  rw [hw1] at g1 t1 SV
  have c0 := t1.c0
  have f0 := t1.free 0
  obtain ⟨Wa, hWa⟩ : ∃ Wa, w1.setCell ⟨w.heap.size, 0, none⟩ (.int .i64 0) = Wa := ⟨_, rfl⟩
  have ta : Tb Wa w.heap.size 0 none 0 0 := by rw [← hWa]; exact t1.set0 0
  have c1 := ta.c1
  have f1 := ta.free 1
  obtain ⟨Wb, hWb⟩ : ∃ Wb, Wa.setCell ⟨w.heap.size, 1, none⟩ (.slice none 0 0) = Wb := ⟨_, rfl⟩
  have t2 : Tb Wb w.heap.size 0 none 0 0 := by rw [← hWb]; exact ta.set1 none 0 0
  have FN : Hid (Tb Wb w.heap.size 0 none 0 0 ∧ Below w.heap.size w Wb) := Lib.hid ⟨t2, by rw [← hWb, ← hWa]; exact (g1.setCell (p := ⟨w.heap.size, 0, none⟩) (Nat.le_refl _) _).setCell (p := ⟨w.heap.size, 1, none⟩) (Nat.le_refl _) _⟩
  clear t1 ta t2 g1 hN hR hm
  go_enter Try.func16, Try.ntmps16
  go_wp2_with (first
    | (go_at_call 21; refine SV.out.mono ?_; rintro e w' ⟨rfl, rfl⟩)
    | (go_at_call 22; refine (SZ.out _).mono ?_; rintro e w' ⟨rfl, rfl⟩))
  refine bodyPost_ret (results_cell2 rfl rfl FN.out.1.load) rfl ?_
  exact ⟨rfl, FN.out.2⟩

theorem rnormal_bad (w : World) (A : Option Addr) (l : List Int) (N c : Nat) (z : Int) (hN : l.length = N) (hb : N ≤ 1000000000) (hR : Ri w A l) (hg : ¬ good l z) :
    Calls Try.prog 16 #[.slice A N c, .int .i64 z] w fun e w' => e = .returned (.tuple #[tb 0 none 0 0, .int .i64 2]) ∧ Below w.heap.size w w' := by
  cases hm : may l with
  | false => exact rnormal_bad1 w A l N c z hN hb hR hm
  | true =>
    by_cases h1 : z < 0
    · exact rnormal_bad2 w A l N c z hN hb hR hm h1
    · by_cases h2 : 9 < z
      · exact rnormal_bad3 w A l N c z hN hb hR hm h2
      · refine rnormal_bad4 w A l N c z hN hb hR hm z.toNat (2 ^ z.toNat) (by omega) (by omega) rfl ?_
        rcases Nat.lt_or_ge (2 ^ z.toNat) (us l) with h | h
        · exact h
        · exact absurd ⟨hm, by omega, by omega, h⟩ hg

end Go.Proofs.Ytkojdhmgefggjaa
