/-
  What the reference's New and Add do. Conditions: fewer than 2^40 bytes.
-/
import Derived.Test.YteogpmapbeogpaaDoorRef
namespace Go.Proofs.YteogpmapbeogpaaDoor
open Go.RowKit

/-- The reference's ring with the contents l, in new memory. -/
def RfPost (w : World) (l : List UInt8) (A : Option Addr) (n c : Nat) (w' : World) : Prop :=
  l.length = n ∧ n ≤ c ∧ Rd w' A l ∧ Below w.heap.size w w' ∧ ∀ ad, A = some ad → w.heap.size ≤ ad.block

set_option maxRecDepth 100000 in
set_option maxHeartbeats 4000000 in
theorem radd_any (w : World) (lim t : Nat) (A : Option Addr) (l : List UInt8) (n c : Nat) (hn : l.length = n) (hnb : n ≤ 134217728) (hR : Rd w A l) (B : Option Addr) (m : List UInt8) (M cm : Nat) (hM : m.length = M) (hMb : M ≤ 134217728) (ht : t ≤ 1099511627776) (hB : Rd w B m) :
    Calls Tryd.prog 19 #[rv lim A n c t, .slice B M cm] w fun e w' => ∃ A' n' c', e = .returned (rv lim A' n' c' (t + M : Nat)) ∧ RfPost w (fin lim (l ++ m)) A' n' c' w' := by
  obtain ⟨w1, hw1⟩ : ∃ w1, (w.alloc (.cells #[.int .i64 (lim : Int), .slice A n c, .int .i64 (t : Int)] 31)).alloc (.cells #[.int .i64 0, .slice none 0 0, .int .i64 0] 31) = w1 := ⟨_, rfl⟩
  have p1 : Cb w1 w.heap.size lim A n c t := by rw [← hw1]; exact (Cb.new w lim A n c t).same (Below.heap_alloc _ _ _ (by simp))
  have q1 : Cb w1 (w.heap.size + 1) 0 none 0 0 0 := by
    rw [← hw1]
    have := Cb.new (w.alloc (.cells #[.int .i64 (lim : Int), .slice A n c, .int .i64 (t : Int)] 31)) 0 none 0 0 0
    rwa [World.size_alloc] at this
  have g1 : Below w.heap.size w w1 := by rw [← hw1]; exact ((Below.refl _ w).alloc (Nat.le_refl _) _).alloc (by simp) _
  have z1 : w1.heap.size = w.heap.size + 2 := by rw [← hw1]; simp
  obtain ⟨w2, hw2⟩ : ∃ w2, w1.alloc (.cells #[] 5) = w2 := ⟨_, rfl⟩
  have g2 : Below w1.heap.size w1 w2 := by rw [← hw2]; exact lit_bel w1 _
  have O0 : Hid (w2.ownsRow w1.heap.size 5 1 (.slice (some ⟨w.heap.size + 1 + 1, 0, none⟩) 0 0) 0 []) := Lib.hid (by rw [← hw2, show w.heap.size + 1 + 1 = w1.heap.size by omega]; exact own_empty w1)
  have c1 := (p1.same (g2.block _ p1.lt)).c1
  have P1 := Lib.hid p1
  have Q1 := Lib.hid q1
  have G1 := Lib.hid g1
  have G2 := Lib.hid g2
  have HR := Lib.hid hR
  have HB := Lib.hid hB
  have HN := Lib.hid hn
  have HM := Lib.hid hM
  clear p1 q1 g1 g2 hR hB hn hM
  go_enter Tryd.func19, Tryd.ntmps19
  go_wp2_with (first
    | (at_builtin; refine wpList_append_vals Tryd.underlying22 byte_info rfl rfl _ _ rfl w1.heap.size (.slice (some ⟨w.heap.size + 1 + 1, 0, none⟩) 0 0) 0 [] rfl O0.out A (l.map byt) (byt_one l) n c (by rw [List.length_map]; exact HN.out) rfl ((HR.out.below G1.out).below G2.out) (by omega) (by omega) G2.out.size ?_; intro v3 w3 ho hg he; rw [Nat.zero_add, List.nil_append] at ho; obtain ⟨A3, c3, rfl, hc3⟩ := own_form ho; have B3 := Lib.hid (G2.out.grown hg G2.out.size (fun j ej => own_base O0.out ej)); have O3 := Lib.hid ho; clear ho hg he O0)
    | (at_builtin; refine wpList_append_vals Tryd.underlying22 byte_info rfl rfl _ _ rfl w1.heap.size (.slice A3 n c3) n (l.map byt) rfl O3.out B (m.map byt) (byt_one m) M cm (by rw [List.length_map]; exact HM.out) rfl ((HB.out.below G1.out).below B3.out) (by omega) (by omega) B3.out.size ?_; intro v4 w4 ho hg he; rw [← List.map_append] at ho; obtain ⟨A4, c4, rfl, hc4⟩ := own_form ho; have B4 := Lib.hid (B3.out.grown hg B3.out.size (fun j ej => own_base O3.out ej)); have O4 := Lib.hid ho; have P4 := Lib.hid (P1.out.same (B4.out.block _ P1.out.lt)); have Q4 := Lib.hid (Q1.out.same (B4.out.block _ Q1.out.lt)); have y0 := P4.out.c0; have y1 := P4.out.c1; have y2 := P4.out.c2; have yf := P4.out.free 1; have yg := (P4.out.set1 A4 (n + M) c4).c2; have yh := (P4.out.set1 A4 (n + M) c4).free 2; have yi := ((P4.out.set1 A4 (n + M) c4).set2 (t + M)).c0; have yj := ((P4.out.set1 A4 (n + M) c4).set2 (t + M)).c1; have yk := ((P4.out.set1 A4 (n + M) c4).set2 (t + M)).c2; clear ho hg he O3 B3))
  obtain ⟨w6, hw6⟩ : ∃ w6, (w4.setCell ⟨w.heap.size, 1, none⟩ (.slice A4 (n + M) c4)).setCell ⟨w.heap.size, 2, none⟩ (.int .i64 ((t : Int) + (M : Int))) = w6 := ⟨_, rfl⟩
  have B6 : Hid (Below w.heap.size w w6) := Lib.hid (by
    rw [← hw6]
    exact ((below_on G1.out (Nat.le_refl _) B4.out).setCell (p := ⟨w.heap.size, 1, none⟩) (Nat.le_refl _) _).setCell (p := ⟨w.heap.size, 2, none⟩) (Nat.le_refl _) _)
  have blk : ∀ g, g ≠ w.heap.size → w6.heap[g]? = w4.heap[g]? := fun g hg => by
    rw [← hw6, Below.heap_setCell _ _ _ _ hg, Below.heap_setCell _ _ _ _ hg]
  have O6 := Lib.hid (own_same O4.out fun g hgg => blk g (by have := own_base O4.out hgg; omega))
  have q6 := Q4.out.same (blk _ (by omega))
  have HE := held_any w6 lim (t + M) A4 (l ++ m) (n + M) c4 (by rw [List.length_append, HN.out, HM.out]) hc4 (by omega) (Rv.of_own O6.out)
  simp only [rv, Int.natCast_add] at HE
  rw [hw6]
  clear y0 y1 y2 yf yg yh yi yj yk c1 hw1 hw2 hw6 blk
  refine HE.mono ?_
  rintro e w7 ⟨A', n', c', rfl, hl', hc', hR', hb', hblk⟩
  have q7 := q6.same (hb'.block _ q6.lt)
  have d0 := q7.c0
  have f0 := q7.free 0
  obtain ⟨Wa, hWa⟩ : ∃ Wa, w7.setCell ⟨w.heap.size + 1, 0, none⟩ (.int .i64 (lim : Int)) = Wa := ⟨_, rfl⟩
  have qa : Cb Wa (w.heap.size + 1) lim none 0 0 0 := by rw [← hWa]; exact q7.set0 lim
  have d1 := qa.c1
  have f1 := qa.free 1
  obtain ⟨Wb, hWb⟩ : ∃ Wb, Wa.setCell ⟨w.heap.size + 1, 1, none⟩ (.slice A' n' c') = Wb := ⟨_, rfl⟩
  have qb : Cb Wb (w.heap.size + 1) lim A' n' c' 0 := by rw [← hWb]; exact qa.set1 A' n' c'
  have d2 := qb.c2
  have f2 := qb.free 2
  obtain ⟨Wc, hWc⟩ : ∃ Wc, Wb.setCell ⟨w.heap.size + 1, 2, none⟩ (.int .i64 ((t + M : Nat) : Int)) = Wc := ⟨_, rfl⟩
  have qc : Cb Wc (w.heap.size + 1) lim A' n' c' (t + M) := by rw [← hWc]; exact qb.set2 (t + M)
  have hWc' : Wb.setCell ⟨w.heap.size + 1, 2, none⟩ (.int .i64 ((t : Int) + (M : Int))) = Wc := hWc
  have b7 : Below w.heap.size w w7 := below_on B6.out (Nat.le_refl _) hb'
  have FN : Hid (Cb Wc (w.heap.size + 1) lim A' n' c' (t + M) ∧ RfPost w (fin lim (l ++ m)) A' n' c' Wc) := Lib.hid ⟨qc, hl', hc', by
      rw [← hWc, ← hWb, ← hWa]
      refine Rv.same hR' fun ad e => ?_
      obtain ⟨ad0, e0, eb⟩ := hblk ad e
      have h3 := own_base O6.out (g := ad0.block) (by rw [e0]; rfl)
      have hne : ad.block ≠ w.heap.size + 1 := by omega
      rw [Below.heap_setCell _ _ _ _ hne, Below.heap_setCell _ _ _ _ hne, Below.heap_setCell _ _ _ _ hne], by
      rw [← hWc, ← hWb, ← hWa]
      exact ((b7.setCell (p := ⟨w.heap.size + 1, 0, none⟩) (Nat.le_succ _) _).setCell (p := ⟨w.heap.size + 1, 1, none⟩) (Nat.le_succ _) _).setCell (p := ⟨w.heap.size + 1, 2, none⟩) (Nat.le_succ _) _, fun ad e => by
      obtain ⟨ad0, e0, eb⟩ := hblk ad e
      have h3 := own_base O6.out (g := ad0.block) (by rw [e0]; rfl)
      omega⟩
  clear q6 q7 qa qb qc hWc hl' hR' hb' hblk b7
  go_wp2_with fail
  refine bodyPost_ret (results_cell rfl rfl FN.out.1.load) rfl ?_
  exact ⟨A', n', c', rfl, FN.out.2⟩

end Go.Proofs.YteogpmapbeogpaaDoor
