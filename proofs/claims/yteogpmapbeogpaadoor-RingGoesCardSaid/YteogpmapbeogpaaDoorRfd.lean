/-
  What the reference's Last does, and its New at a size that is not valid. Conditions: fewer than 2^27 bytes.
-/
import Derived.Test.YteogpmapbeogpaaDoorRfc
namespace Go.Proofs.YteogpmapbeogpaaDoor
open Go.RowKit

def RlPost (w : World) (T : List UInt8) (e : Ending) (w' : World) : Prop := ∃ A n c, e = .returned (.slice A n c) ∧ T.length = n ∧ Rd w' A T ∧ Below w.heap.size w w'

set_option maxRecDepth 100000 in
set_option maxHeartbeats 2000000 in
theorem rlast_some (w : World) (lim : Int) (A : Option Addr) (l : List UInt8) (n c t : Nat) (hn : l.length = n) (hnc : n ≤ c) (hnb : n ≤ 134217728) (hR : Rd w A l) (z : Int) (hz1 : 1 ≤ z) (hz : z ≤ 9223372036854775807) :
    Calls Tryd.prog 34 #[rv lim A n c t, .int .i64 z] w (RlPost w (lst z l)) := by
  have c1 := (Cb.new w lim A n c t).c1
  have b1 := lit_bel w (.cells #[.int .i64 lim, .slice A n c, .int .i64 (t : Int)] 31)
  obtain ⟨sn, hsn⟩ : ∃ sn, sn = n - z.toNat := ⟨_, rfl⟩
  have s1 := fun W => slice_lo A n c sn (by omega) W
  obtain ⟨B, hB⟩ : ∃ B, off A c sn = B := ⟨_, rfl⟩
  obtain ⟨cb, hcb⟩ : ∃ cb, c - sn = cb := ⟨_, rfl⟩
  obtain ⟨nb, hnb'⟩ : ∃ nb, n - sn = nb := ⟨_, rfl⟩
  obtain ⟨zi, hzi⟩ : ∃ zi : Int, zi = (sn : Int) := ⟨_, rfl⟩
  simp only [hB, hcb, hnb', ← hzi] at s1
  have el : lst z l = l.drop sn := by unfold lst fin; rw [if_neg (by omega), hn, hsn]
  have HF : Hid ((lst z l).length = nb ∧ Rd w B (lst z l)) := Lib.hid ⟨by rw [el, List.length_drop, hn]; exact hnb', by rw [el, ← hB]; exact off_rd hR (by omega)⟩
  have ci : (zi = 0 ∧ ¬ (0 < (n : Int) - z)) ∨ (zi = (n : Int) - z ∧ 0 < (n : Int) - z) := by omega
  have B1 := Lib.hid b1
  have e1 : decide (z < 1) = false := decide_eq_false (by omega)
  clear el hR hn hB hcb hnb' hzi hsn b1
  rcases ci with ⟨rfl, hci⟩ | ⟨rfl, hci⟩
  all_goals
    go_enter Tryd.func34, Tryd.ntmps34
    go_wp2
    go_ret
    exact ⟨B, nb, cb, rfl, HF.out.1, HF.out.2.below B1.out, B1.out⟩

theorem rlast_any (w : World) (lim : Int) (A : Option Addr) (l : List UInt8) (n c t : Nat) (hn : l.length = n) (hnc : n ≤ c) (hnb : n ≤ 134217728) (hR : Rd w A l) (z : Int) (hz : z ≤ 9223372036854775807) :
    Calls Tryd.prog 34 #[rv lim A n c t, .int .i64 z] w (RlPost w (lst z l)) := by
  rcases Int.lt_or_le z 1 with h | h
  · refine (rlast_none w lim A n c t z h).mono ?_
    rintro e w' ⟨rfl, hb⟩
    have e0 : lst z l = [] := by unfold lst; rw [if_pos h]
    rw [e0]
    exact ⟨none, 0, 0, rfl, rfl, Rv.nil _ _, hb⟩
  · exact rlast_some w lim A l n c t hn hnc hnb hR z h hz

set_option maxRecDepth 100000 in
set_option maxHeartbeats 2000000 in
theorem rnew_bad (w : World) (z : Int) (hz : z < 1 ∨ 134217728 < z) (a : Value) :
    Calls Tryd.prog 14 #[.int .i64 z, a] w fun e w' => e = .returned (.tuple #[rv 0 none 0 0 0, .int .i64 2]) ∧ Below w.heap.size w w' := by
  obtain ⟨w1, hw1⟩ : ∃ w1, w.alloc (.cells #[.int .i64 0, .slice none 0 0, .int .i64 0] 31) = w1 := ⟨_, rfl⟩
  have q1 : Cb w1 w.heap.size 0 none 0 0 0 := by rw [← hw1]; exact Cb.new w 0 none 0 0 0
  have g1 : Below w.heap.size w w1 := by rw [← hw1]; exact lit_bel w _
  have d0 := q1.c0
  have f0 := q1.free 0
  obtain ⟨Wa, hWa⟩ : ∃ Wa, w1.setCell ⟨w.heap.size, 0, none⟩ (.int .i64 0) = Wa := ⟨_, rfl⟩
  have qa : Cb Wa w.heap.size 0 none 0 0 0 := by rw [← hWa]; exact q1.set0 0
  have d1 := qa.c1
  have f1 := qa.free 1
  obtain ⟨Wb, hWb⟩ : ∃ Wb, Wa.setCell ⟨w.heap.size, 1, none⟩ (.slice none 0 0) = Wb := ⟨_, rfl⟩
  have qb : Cb Wb w.heap.size 0 none 0 0 0 := by rw [← hWb]; exact qa.set1 none 0 0
  have d2 := qb.c2
  have f2 := qb.free 2
  obtain ⟨Wc, hWc⟩ : ∃ Wc, Wb.setCell ⟨w.heap.size, 2, none⟩ (.int .i64 0) = Wc := ⟨_, rfl⟩
  have qc : Cb Wc w.heap.size 0 none 0 0 0 := by rw [← hWc]; exact qb.set2 0
  have FN : Hid (Cb Wc w.heap.size 0 none 0 0 0 ∧ Below w.heap.size w Wc) := Lib.hid ⟨qc, by
    rw [← hWc, ← hWb, ← hWa]
    exact ((g1.setCell (p := ⟨w.heap.size, 0, none⟩) (Nat.le_refl _) _).setCell (p := ⟨w.heap.size, 1, none⟩) (Nat.le_refl _) _).setCell (p := ⟨w.heap.size, 2, none⟩) (Nat.le_refl _) _⟩
  clear q1 g1 qa qb qc
  by_cases h1 : z < 1
  · have e1 : decide (z < 1) = true := decide_eq_true h1
    go_enter Tryd.func14, Tryd.ntmps14
    go_wp2
    refine bodyPost_ret (results_cell2 rfl rfl FN.out.1.load) rfl ?_
    exact ⟨rfl, FN.out.2⟩
  · have e1 : decide (z < 1) = false := decide_eq_false h1
    have e2 : decide (134217728 < z) = true := decide_eq_true (by omega)
    go_enter Tryd.func14, Tryd.ntmps14
    go_wp2
    refine bodyPost_ret (results_cell2 rfl rfl FN.out.1.load) rfl ?_
    exact ⟨rfl, FN.out.2⟩

end Go.Proofs.YteogpmapbeogpaaDoor
