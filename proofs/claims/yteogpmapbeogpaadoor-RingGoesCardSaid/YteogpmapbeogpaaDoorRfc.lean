/-
  What the reference's New, Byte, Last and Same do. Conditions: fewer than 2^27 bytes.
-/
import Derived.Test.YteogpmapbeogpaaDoorRfb
namespace Go.Proofs.YteogpmapbeogpaaDoor
open Go.RowKit

theorem results_cell2 {fn : Func} {a b : Tmp} {t : TypeId} (h : fn.results = #[.cell a t, .tmp b]) {tmps : Array Value} {P : Program} {w : World} {ad : Addr} {v : Value} (hp : tmps.getD a undef = .pointer (some ad)) (hl : (loadVar t ad).run P w = .ok v w) :
    (results fn tmps).run P w = .ok (.tuple #[v, tmps.getD b undef]) w := by
  have hp' : tmps[a]?.getD undef = .pointer (some ad) := by simpa using hp
  simp [results, h, hp', asAddr, hl]

set_option maxRecDepth 100000 in
set_option maxHeartbeats 2000000 in
theorem rbyte_in (w : World) (lim : Int) (A : Option Addr) (l : List UInt8) (n c t : Nat) (hn : l.length = n) (hnb : n ≤ 134217728) (hR : Rd w A l) (D : Nat) (hD1 : 1 ≤ D) (hD : D ≤ n) (b : UInt8) (hb : l[n - D]? = some b) :
    Calls Tryd.prog 35 #[rv lim A n c t, .int .i64 (D : Int)] w fun e w' => e = .returned (.tuple #[byt b, .bool true]) ∧ Below w.heap.size w w' := by
  have c1 := (Cb.new w lim A n c t).c1
  have b1 := lit_bel w (.cells #[.int .i64 lim, .slice A n c, .int .i64 (t : Int)] 31)
  obtain ⟨ad, rfl, hc⟩ := hR (n - D) (byt b) (by rw [List.getElem?_map, hb]; rfl)
  have hc2 := (b1.cell (cell_lt hc)).trans hc
  have B1 := Lib.hid b1
  have e1 : decide ((D : Int) < 1) = false := decide_eq_false (by omega)
  have e2 : decide ((n : Int) < (D : Int)) = false := decide_eq_false (by omega)
  have _ := hn
  clear hc hb hR b1
  go_enter Tryd.func35, Tryd.ntmps35
  go_wp2
  go_ret2
  exact ⟨rfl, B1.out⟩

set_option maxRecDepth 100000 in
set_option maxHeartbeats 2000000 in
theorem rsame_any (w : World) (lim lim' : Nat) (A A' : Option Addr) (l m : List UInt8) (n n' c c' t t' : Nat) (hn : l.length = n) (hn' : m.length = n') (hR : Rd w A l) (hR' : Rd w A' m) (b : Bool) (hb : (decide (lim = lim') && (l == m)) = b) :
    Calls Tryd.prog 23 #[rv lim A n c t, rv lim' A' n' c' t'] w fun e w' => e = .returned (.bool b) ∧ Below w.heap.size w w' := by
  obtain ⟨w1, hw1⟩ : ∃ w1, (w.alloc (.cells #[.int .i64 (lim : Int), .slice A n c, .int .i64 (t : Int)] 31)).alloc (.cells #[.int .i64 (lim' : Int), .slice A' n' c', .int .i64 (t' : Int)] 31) = w1 := ⟨_, rfl⟩
  have p1 : Cb w1 w.heap.size lim A n c t := by rw [← hw1]; exact (Cb.new w lim A n c t).same (Below.heap_alloc _ _ _ (by simp))
  have q1 : Cb w1 (w.heap.size + 1) lim' A' n' c' t' := by
    rw [← hw1]
    have := Cb.new (w.alloc (.cells #[.int .i64 (lim : Int), .slice A n c, .int .i64 (t : Int)] 31)) lim' A' n' c' t'
    rwa [World.size_alloc] at this
  have g1 : Below w.heap.size w w1 := by rw [← hw1]; exact ((Below.refl _ w).alloc (Nat.le_refl _) _).alloc (by simp) _
  have c0 := p1.c0
  have c1 := p1.c1
  have d0 := q1.c0
  have d1 := q1.c1
  have k1 := conv_len w1 A l n c hn (hR.below g1)
  have k2 := conv_len w1 A' m n' c' hn' (hR'.below g1)
  have G1 := Lib.hid g1
  clear p1 q1 g1 hR hR'
  by_cases hl : lim = lim'
  · subst hl
    have hbb : (l == m) = b := by rw [← hb]; simp
    clear hb
    go_enter Tryd.func23, Tryd.ntmps23
    go_wp2
    go_ret
    exact ⟨rfl, G1.out⟩
  · have hb0 : b = false := by rw [← hb]; simp [hl]
    subst hb0
    have hne : ((lim : Int) == (lim' : Int)) = false := by simp; omega
    clear hb
    go_enter Tryd.func23, Tryd.ntmps23
    go_wp2
    go_ret
    exact ⟨rfl, G1.out⟩

set_option maxRecDepth 100000 in
set_option maxHeartbeats 2000000 in
theorem rlast_none (w : World) (lim : Int) (A : Option Addr) (n c t : Nat) (z : Int) (hz : z < 1) :
    Calls Tryd.prog 34 #[rv lim A n c t, .int .i64 z] w fun e w' => e = .returned (.slice none 0 0) ∧ Below w.heap.size w w' := by
  have B1 := Lib.hid (lit_bel w (.cells #[.int .i64 lim, .slice A n c, .int .i64 (t : Int)] 31))
  have e1 : decide (z < 1) = true := decide_eq_true hz
  go_enter Tryd.func34, Tryd.ntmps34
  go_wp2
  go_ret
  exact ⟨rfl, B1.out⟩

set_option maxRecDepth 100000 in
set_option maxHeartbeats 4000000 in
theorem rnew_ok (w : World) (lim : Nat) (h1 : 1 ≤ lim) (h2 : lim ≤ 134217728) (B : Option Addr) (m : List UInt8) (M cm : Nat) (hM : m.length = M) (hMb : M ≤ 134217728) (hB : Rd w B m) :
    Calls Tryd.prog 14 #[.int .i64 (lim : Int), .slice B M cm] w fun e w' => ∃ A' n' c', e = .returned (.tuple #[rv lim A' n' c' 0, .int .i64 0]) ∧ RfPost w (fin lim m) A' n' c' w' := by
  have q1 := Cb.new w 0 none 0 0 0
  obtain ⟨w1, hw1⟩ : ∃ w1, w.alloc (.cells #[.int .i64 0, .slice none 0 0, .int .i64 0] 31) = w1 := ⟨_, rfl⟩
  have q1' : Cb w1 w.heap.size 0 none 0 0 0 := by rw [← hw1]; exact q1
  have g1 : Below w.heap.size w w1 := by rw [← hw1]; exact lit_bel w _
  have z1 : w1.heap.size = w.heap.size + 1 := by rw [← hw1]; simp
  obtain ⟨w2, hw2⟩ : ∃ w2, w1.alloc (.cells #[] 5) = w2 := ⟨_, rfl⟩
  have g2 : Below w1.heap.size w1 w2 := by rw [← hw2]; exact lit_bel w1 _
  have O0 : Hid (w2.ownsRow w1.heap.size 5 1 (.slice (some ⟨w.heap.size + 1, 0, none⟩) 0 0) 0 []) := Lib.hid (by rw [← hw2, ← z1]; exact own_empty w1)
  have Q1 := Lib.hid q1'
  have G1 := Lib.hid g1
  have G2 := Lib.hid g2
  have HB := Lib.hid hB
  have HM := Lib.hid hM
  have e1 : decide ((lim : Int) < 1) = false := decide_eq_false (by omega)
  have e2 : decide ((134217728 : Int) < (lim : Int)) = false := decide_eq_false (by omega)
  clear q1 q1' g1 g2 hB hM
  go_enter Tryd.func14, Tryd.ntmps14
  go_wp2_with (at_builtin; refine wpList_append_vals Tryd.underlying22 byte_info rfl rfl _ _ rfl w1.heap.size (.slice (some ⟨w.heap.size + 1, 0, none⟩) 0 0) 0 [] rfl O0.out B (m.map byt) (byt_one m) M cm (by rw [List.length_map]; exact HM.out) rfl ((HB.out.below G1.out).below G2.out) (by omega) (by omega) G2.out.size ?_; intro v3 w3 ho hg he; rw [Nat.zero_add, List.nil_append] at ho; obtain ⟨A3, c3, rfl, hc3⟩ := own_form ho; have B3 := Lib.hid (G2.out.grown hg G2.out.size (fun j ej => own_base O0.out ej)); have O3 := Lib.hid ho; clear ho hg he O0)
  obtain ⟨w6, hw6⟩ : ∃ w6, w3.alloc (.cells #[.int .i64 (lim : Int), .slice A3 M c3, .int .i64 0] 31) = w6 := ⟨_, rfl⟩
  have g6 : Below w3.heap.size w3 w6 := by rw [← hw6]; exact lit_bel w3 _
  have B6 := Lib.hid (below_on (below_on G1.out (Nat.le_refl _) B3.out) (Nat.le_refl _) g6)
  have O6 := Lib.hid (own_below O3.out g6)
  have q6 := (Q1.out.same (B3.out.block _ Q1.out.lt))
  have q6 := q6.same (g6.block _ q6.lt)
  have HE := held_any w6 lim 0 A3 m M c3 HM.out hc3 (by omega) (Rv.of_own O6.out)
  rw [hw6]
  clear hw1 hw2 hw6 g6
  refine HE.mono ?_
  rintro e w7 ⟨A', n', c', rfl, hl', hc', hR', hb', hblk⟩
  have q7 := q6.same (hb'.block _ q6.lt)
  have d0 := q7.c0
  have f0 := q7.free 0
  obtain ⟨Wa, hWa⟩ : ∃ Wa, w7.setCell ⟨w.heap.size, 0, none⟩ (.int .i64 (lim : Int)) = Wa := ⟨_, rfl⟩
  have qa : Cb Wa w.heap.size lim none 0 0 0 := by rw [← hWa]; exact q7.set0 lim
  have d1 := qa.c1
  have f1 := qa.free 1
  obtain ⟨Wb, hWb⟩ : ∃ Wb, Wa.setCell ⟨w.heap.size, 1, none⟩ (.slice A' n' c') = Wb := ⟨_, rfl⟩
  have qb : Cb Wb w.heap.size lim A' n' c' 0 := by rw [← hWb]; exact qa.set1 A' n' c'
  have d2 := qb.c2
  have f2 := qb.free 2
  obtain ⟨Wc, hWc⟩ : ∃ Wc, Wb.setCell ⟨w.heap.size, 2, none⟩ (.int .i64 0) = Wc := ⟨_, rfl⟩
  have qc : Cb Wc w.heap.size lim A' n' c' 0 := by rw [← hWc]; exact qb.set2 0
  have b7 : Below w.heap.size w w7 := below_on B6.out (Nat.le_refl _) hb'
  have FN : Hid (Cb Wc w.heap.size lim A' n' c' 0 ∧ RfPost w (fin lim m) A' n' c' Wc) := Lib.hid ⟨qc, hl', hc', by
      rw [← hWc, ← hWb, ← hWa]
      refine Rv.same hR' fun ad e => ?_
      obtain ⟨ad0, e0, eb⟩ := hblk ad e
      have h3 := own_base O6.out (g := ad0.block) (by rw [e0]; rfl)
      have hne : ad.block ≠ w.heap.size := by omega
      rw [Below.heap_setCell _ _ _ _ hne, Below.heap_setCell _ _ _ _ hne, Below.heap_setCell _ _ _ _ hne], by
      rw [← hWc, ← hWb, ← hWa]
      exact ((b7.setCell (p := ⟨w.heap.size, 0, none⟩) (Nat.le_refl _) _).setCell (p := ⟨w.heap.size, 1, none⟩) (Nat.le_refl _) _).setCell (p := ⟨w.heap.size, 2, none⟩) (Nat.le_refl _) _, fun ad e => by
      obtain ⟨ad0, e0, eb⟩ := hblk ad e
      have h3 := own_base O6.out (g := ad0.block) (by rw [e0]; rfl)
      omega⟩
  clear q6 q7 qa qb qc hl' hR' hb' hblk b7 HE
  go_wp2_with fail
  refine bodyPost_ret (results_cell2 rfl rfl FN.out.1.load) rfl ?_
  exact ⟨A', n', c', rfl, FN.out.2⟩

end Go.Proofs.YteogpmapbeogpaaDoor
