/-
  What the reference's Byte, Last, Same and held do. No condition beyond those that each theorem states.
-/
import Derived.Test.YteogpmapbeogpaaDoorOvr
namespace Go.Proofs.YteogpmapbeogpaaDoor
open Go.RowKit

/-- The reference's ring, as a value and as a block. -/
abbrev rv (lim : Int) (A : Option Addr) (n c t : Nat) : Value := .agg #[.int .i64 lim, .slice A n c, .int .i64 (t : Int)]
def Cb (W : World) (b : Nat) (lim : Int) (A : Option Addr) (n c t : Nat) : Prop := W.heap[b]? = some (.cells #[.int .i64 lim, .slice A n c, .int .i64 (t : Int)] 31 (0, 0))
section
variable {W W' : World} {b n c t : Nat} {lim : Int} {A : Option Addr}
theorem Cb.lt (h : Cb W b lim A n c t) : b < W.heap.size := (Array.getElem?_eq_some_iff.1 h).1
theorem Cb.c0 (h : Cb W b lim A n c t) : W.cell? ⟨b, 0, none⟩ = some (.int .i64 lim) := by rw [cell_of_row W b 0 _ _ _ h]; rfl
theorem Cb.c1 (h : Cb W b lim A n c t) : W.cell? ⟨b, 1, none⟩ = some (.slice A n c) := by rw [cell_of_row W b 1 _ _ _ h]; rfl
theorem Cb.c2 (h : Cb W b lim A n c t) : W.cell? ⟨b, 2, none⟩ = some (.int .i64 (t : Int)) := by rw [cell_of_row W b 2 _ _ _ h]; rfl
theorem Cb.free (h : Cb W b lim A n c t) (i : Nat) : W.frozen? ⟨b, i, none⟩ = false := by
  have : W.heap[b]? = _ := h
  simp [World.frozen?, this]
theorem Cb.same (h : Cb W b lim A n c t) (hb : W'.heap[b]? = W.heap[b]?) : Cb W' b lim A n c t := hb.trans h
theorem Cb.new (W : World) (lim : Int) (A : Option Addr) (n c t : Nat) : Cb (W.alloc (.cells #[.int .i64 lim, .slice A n c, .int .i64 (t : Int)] 31)) W.heap.size lim A n c t := World.alloc_heap_new W _
theorem Cb.set0 (h : Cb W b lim A n c t) (lim' : Int) : Cb (W.setCell ⟨b, 0, none⟩ (.int .i64 lim')) b lim' A n c t := by
  have hb : W.heap[b]? = _ := h
  unfold Cb
  simp [World.setCell, Array.getElem?_modify, hb]
theorem Cb.set1 (h : Cb W b lim A n c t) (A' : Option Addr) (n' c' : Nat) : Cb (W.setCell ⟨b, 1, none⟩ (.slice A' n' c')) b lim A' n' c' t := by
  have hb : W.heap[b]? = _ := h
  unfold Cb
  simp [World.setCell, Array.getElem?_modify, hb]
theorem Cb.set2 (h : Cb W b lim A n c t) (t' : Nat) : Cb (W.setCell ⟨b, 2, none⟩ (.int .i64 (t' : Int))) b lim A n c t' := by
  have hb : W.heap[b]? = _ := h
  unfold Cb
  simp [World.setCell, Array.getElem?_modify, hb]
theorem Cb.load (h : Cb W b lim A n c t) : (loadVar 31 ⟨b, 0, none⟩).run Tryd.prog W = .ok (rv lim A n c t) W := by
  have c0 := h.c0
  have c1 := h.c1
  have c2 := h.c2
  simp [loadVar, go_sem, c0, c1, c2]
end

set_option maxRecDepth 100000 in
set_option maxHeartbeats 2000000 in
theorem rbyte_out (w : World) (lim : Int) (A : Option Addr) (n c t : Nat) (d : Int) (hd : d < 1 ∨ (n : Int) < d) :
    Calls Tryd.prog 35 #[rv lim A n c t, .int .i64 d] w fun e w' => e = .returned (.tuple #[.int .u8 0, .bool false]) ∧ Below w.heap.size w w' := by
  have c1 := (Cb.new w lim A n c t).c1
  have B1 := Lib.hid (lit_bel w (.cells #[.int .i64 lim, .slice A n c, .int .i64 (t : Int)] 31))
  rcases Int.lt_or_le d 1 with h1 | h1
  · have e1 : decide (d < 1) = true := decide_eq_true h1
    go_enter Tryd.func35, Tryd.ntmps35
    go_wp2
    go_ret2
    exact ⟨rfl, B1.out⟩
  · have e1 : decide (d < 1) = false := decide_eq_false (by omega)
    have e2 : decide ((n : Int) < d) = true := decide_eq_true (by omega)
    go_enter Tryd.func35, Tryd.ntmps35
    go_wp2
    go_ret2
    exact ⟨rfl, B1.out⟩

/-- The reference's held: the last bytes. -/
def HeldPost (w : World) (lim t : Nat) (A0 : Option Addr) (l : List UInt8) (e : Ending) (w' : World) : Prop :=
  ∃ A n c, e = .returned (rv lim A n c t) ∧ (fin lim l).length = n ∧ n ≤ c ∧ Rd w' A (fin lim l) ∧ Below w.heap.size w w' ∧ ∀ ad, A = some ad → ∃ ad0, A0 = some ad0 ∧ ad.block = ad0.block

set_option maxRecDepth 100000 in
set_option maxHeartbeats 2000000 in
theorem held_short (w : World) (lim t : Nat) (A : Option Addr) (l : List UInt8) (n c : Nat) (hn : l.length = n) (hnc : n ≤ c) (hR : Rd w A l) (hle : n ≤ lim) :
    Calls Tryd.prog 32 #[rv lim A n c t] w (HeldPost w lim t A l) := by
  obtain ⟨w1, hw1⟩ : ∃ w1, (w.alloc (.cells #[.int .i64 (lim : Int), .slice A n c, .int .i64 (t : Int)] 31)).alloc (.cells #[.int .i64 0, .slice none 0 0, .int .i64 0] 31) = w1 := ⟨_, rfl⟩
  have p1 : Cb w1 w.heap.size lim A n c t := by rw [← hw1]; exact (Cb.new w lim A n c t).same (Below.heap_alloc _ _ _ (by simp))
  have q1 : Cb w1 (w.heap.size + 1) 0 none 0 0 0 := by
    rw [← hw1]
    have := Cb.new (w.alloc (.cells #[.int .i64 (lim : Int), .slice A n c, .int .i64 (t : Int)] 31)) 0 none 0 0 0
    rwa [World.size_alloc] at this
  have g1 : Below w.heap.size w w1 := by rw [← hw1]; exact ((Below.refl _ w).alloc (Nat.le_refl _) _).alloc (by simp) _
  have c0 := p1.c0
  have c1 := p1.c1
  have c2 := p1.c2
  have d0 := q1.c0
  have f0 := q1.free 0
  obtain ⟨Wa, hWa⟩ : ∃ Wa, w1.setCell ⟨w.heap.size + 1, 0, none⟩ (.int .i64 (lim : Int)) = Wa := ⟨_, rfl⟩
  have qa : Cb Wa (w.heap.size + 1) lim none 0 0 0 := by rw [← hWa]; exact q1.set0 lim
  have d1 := qa.c1
  have f1 := qa.free 1
  obtain ⟨Wb, hWb⟩ : ∃ Wb, Wa.setCell ⟨w.heap.size + 1, 1, none⟩ (.slice A n c) = Wb := ⟨_, rfl⟩
  have qb : Cb Wb (w.heap.size + 1) lim A n c 0 := by rw [← hWb]; exact qa.set1 A n c
  have d2 := qb.c2
  have f2 := qb.free 2
  obtain ⟨Wc, hWc⟩ : ∃ Wc, Wb.setCell ⟨w.heap.size + 1, 2, none⟩ (.int .i64 (t : Int)) = Wc := ⟨_, rfl⟩
  have qc : Cb Wc (w.heap.size + 1) lim A n c t := by rw [← hWc]; exact qb.set2 t
  have BW : Below w.heap.size w Wc := by
    rw [← hWc, ← hWb, ← hWa]
    exact ((g1.setCell (p := ⟨w.heap.size + 1, 0, none⟩) (Nat.le_succ _) _).setCell (p := ⟨w.heap.size + 1, 1, none⟩) (Nat.le_succ _) _).setCell (p := ⟨w.heap.size + 1, 2, none⟩) (Nat.le_succ _) _
  have ef : fin lim l = l := fin_short (by omega)
  have HF : Hid (Cb Wc (w.heap.size + 1) lim A n c t ∧ (fin lim l).length = n ∧ Rd w A (fin lim l) ∧ Below w.heap.size w Wc) := Lib.hid ⟨qc, by rw [ef]; exact hn, by rw [ef]; exact hR, BW⟩
  have hd : decide ((lim : Int) < (n : Int)) = false := decide_eq_false (by omega)
  clear p1 q1 g1 qa qb qc BW ef hR hn
  go_enter Tryd.func32, Tryd.ntmps32
  go_wp2
  refine bodyPost_ret (results_cell rfl rfl HF.out.1.load) rfl ?_
  exact ⟨A, n, c, rfl, HF.out.2.1, hnc, HF.out.2.2.1.below HF.out.2.2.2, HF.out.2.2.2, fun ad e => ⟨ad, e, rfl⟩⟩

set_option maxRecDepth 100000 in
set_option maxHeartbeats 2000000 in
theorem held_long (w : World) (lim t : Nat) (A : Option Addr) (l : List UInt8) (n c : Nat) (hn : l.length = n) (hnc : n ≤ c) (hnb : n ≤ 1099511627776) (hR : Rd w A l) (hle : lim < n) :
    Calls Tryd.prog 32 #[rv lim A n c t] w (HeldPost w lim t A l) := by
  obtain ⟨w1, hw1⟩ : ∃ w1, (w.alloc (.cells #[.int .i64 (lim : Int), .slice A n c, .int .i64 (t : Int)] 31)).alloc (.cells #[.int .i64 0, .slice none 0 0, .int .i64 0] 31) = w1 := ⟨_, rfl⟩
  have p1 : Cb w1 w.heap.size lim A n c t := by rw [← hw1]; exact (Cb.new w lim A n c t).same (Below.heap_alloc _ _ _ (by simp))
  have q1 : Cb w1 (w.heap.size + 1) 0 none 0 0 0 := by
    rw [← hw1]
    have := Cb.new (w.alloc (.cells #[.int .i64 (lim : Int), .slice A n c, .int .i64 (t : Int)] 31)) 0 none 0 0 0
    rwa [World.size_alloc] at this
  have g1 : Below w.heap.size w w1 := by rw [← hw1]; exact ((Below.refl _ w).alloc (Nat.le_refl _) _).alloc (by simp) _
  obtain ⟨sn, hsn⟩ : ∃ sn, sn = n - lim := ⟨_, rfl⟩
  have s1 := fun W => slice_lo A n c sn (by omega) W
  obtain ⟨B, hB⟩ : ∃ B, off A c sn = B := ⟨_, rfl⟩
  obtain ⟨cb, hcb⟩ : ∃ cb, c - sn = cb := ⟨_, rfl⟩
  have e1 : n - sn = lim := by omega
  have e2 : (sn : Int) = (n : Int) - (lim : Int) := by omega
  simp only [hB, hcb, e1, e2] at s1
  have c0 := p1.c0
  have c1 := p1.c1
  have fp := p1.free 1
  obtain ⟨w2, hw2⟩ : ∃ w2, w1.setCell ⟨w.heap.size, 1, none⟩ (.slice B lim cb) = w2 := ⟨_, rfl⟩
  have p2 : Cb w2 w.heap.size lim B lim cb t := by rw [← hw2]; exact p1.set1 B lim cb
  have q2 : Cb w2 (w.heap.size + 1) 0 none 0 0 0 := by rw [← hw2]; exact q1.same (Below.heap_setCell _ _ _ _ (by simp))
  have g2 : Below w.heap.size w w2 := by rw [← hw2]; exact g1.setCell (p := ⟨w.heap.size, 1, none⟩) (Nat.le_refl _) _
  have m0 := p2.c0
  have m1 := p2.c1
  have m2 := p2.c2
  have d0 := q2.c0
  have f0 := q2.free 0
  obtain ⟨Wa, hWa⟩ : ∃ Wa, w2.setCell ⟨w.heap.size + 1, 0, none⟩ (.int .i64 (lim : Int)) = Wa := ⟨_, rfl⟩
  have qa : Cb Wa (w.heap.size + 1) lim none 0 0 0 := by rw [← hWa]; exact q2.set0 lim
  have d1 := qa.c1
  have f1 := qa.free 1
  obtain ⟨Wb, hWb⟩ : ∃ Wb, Wa.setCell ⟨w.heap.size + 1, 1, none⟩ (.slice B lim cb) = Wb := ⟨_, rfl⟩
  have qb : Cb Wb (w.heap.size + 1) lim B lim cb 0 := by rw [← hWb]; exact qa.set1 B lim cb
  have d2 := qb.c2
  have f2 := qb.free 2
  obtain ⟨Wc, hWc⟩ : ∃ Wc, Wb.setCell ⟨w.heap.size + 1, 2, none⟩ (.int .i64 (t : Int)) = Wc := ⟨_, rfl⟩
  have qc : Cb Wc (w.heap.size + 1) lim B lim cb t := by rw [← hWc]; exact qb.set2 t
  have BW : Below w.heap.size w Wc := by
    rw [← hWc, ← hWb, ← hWa]
    exact ((g2.setCell (p := ⟨w.heap.size + 1, 0, none⟩) (Nat.le_succ _) _).setCell (p := ⟨w.heap.size + 1, 1, none⟩) (Nat.le_succ _) _).setCell (p := ⟨w.heap.size + 1, 2, none⟩) (Nat.le_succ _) _
  have ef : fin lim l = l.drop sn := by unfold fin; rw [hn, hsn]
  have HF : Hid (Cb Wc (w.heap.size + 1) lim B lim cb t ∧ (fin lim l).length = lim ∧ lim ≤ cb ∧ Rd w B (fin lim l) ∧ Below w.heap.size w Wc ∧ ∀ ad, B = some ad → ∃ ad0, A = some ad0 ∧ ad.block = ad0.block) :=
    Lib.hid ⟨qc, by rw [fin_len]; omega, by omega, by rw [ef, ← hB]; exact off_rd hR (by omega), BW, by rw [← hB]; exact off_block⟩
  have hd : decide ((lim : Int) < (n : Int)) = true := decide_eq_true (by omega)
  clear p1 q1 g1 p2 q2 g2 qa qb qc BW ef hR hn hB hcb e1 e2 hsn
  go_enter Tryd.func32, Tryd.ntmps32
  go_wp2
  refine bodyPost_ret (results_cell rfl rfl HF.out.1.load) rfl ?_
  exact ⟨B, lim, cb, rfl, HF.out.2.1, HF.out.2.2.1, HF.out.2.2.2.1.below HF.out.2.2.2.2.1, HF.out.2.2.2.2.1, HF.out.2.2.2.2.2⟩

theorem held_any (w : World) (lim t : Nat) (A : Option Addr) (l : List UInt8) (n c : Nat) (hn : l.length = n) (hnc : n ≤ c) (hnb : n ≤ 1099511627776) (hR : Rd w A l) :
    Calls Tryd.prog 32 #[rv lim A n c t] w (HeldPost w lim t A l) := by
  rcases Nat.lt_or_ge lim n with h | h
  · exact held_long w lim t A l n c hn hnc hnb hR h
  · exact held_short w lim t A l n c hn hnc hR h

end Go.Proofs.YteogpmapbeogpaaDoor
