/-
  What the reference's Copy does. Conditions: fewer than 2^27 bytes.
-/
import Derived.Test.YteogpmapbeogpaaDoorRfd
import Derived.Test.YteogpmapbeogpaaDoorHol
namespace Go.Proofs.YteogpmapbeogpaaDoor
open Go.RowKit

theorem results_cell3 {fn : Func} {a b d : Tmp} {t : TypeId} (h : fn.results = #[.cell a t, .tmp b, .tmp d]) {tmps : Array Value} {P : Program} {w : World} {ad : Addr} {v : Value} (hp : tmps.getD a undef = .pointer (some ad)) (hl : (loadVar t ad).run P w = .ok v w) :
    (results fn tmps).run P w = .ok (.tuple #[v, tmps.getD b undef, tmps.getD d undef]) w := by
  have hp' : tmps[a]?.getD undef = .pointer (some ad) := by simpa using hp
  simp [results, h, hp', asAddr, hl]

theorem cyc_next {l : List UInt8} {D i : Nat} (hD1 : 1 ≤ D) (hD : D ≤ l.length) :
    ∃ b, (l ++ cyc (l.drop (l.length - D)) i)[l.length + i - D]? = some b ∧ cyc (l.drop (l.length - D)) (i + 1) = cyc (l.drop (l.length - D)) i ++ [b] := by
  have hs : (l.drop (l.length - D)).length = D := by rw [List.length_drop]; omega
  refine ⟨(l.drop (l.length - D)).getD (i % D) 0, ?_, ?_⟩
  · have h1 := hold_eq (T := l) (D := D) (n := i + 1) (k := l.length + i) hD1 hD (by omega) (by omega)
    have h2 : (l ++ cyc (l.drop (l.length - D)) (i + 1))[l.length + i]? = some ((l.drop (l.length - D)).getD (i % D) 0) := by
      rw [List.getElem?_append_right (by omega), show l.length + i - l.length = i by omega, cyc_get _ (by omega), hs]
    rw [h2] at h1
    rw [h1]
    rcases Nat.lt_or_ge i D with h | h
    · rw [List.getElem?_append_left (by omega), List.getElem?_append_left (by omega)]
    · rw [List.getElem?_append_right (by omega), List.getElem?_append_right (by omega), cyc_get _ (by omega), cyc_get _ (by omega)]
  · unfold cyc
    rw [List.range_succ, List.map_append, hs]
    rfl

set_option maxRecDepth 100000 in
set_option maxHeartbeats 2000000 in
theorem rcopy_bad (w : World) (lim : Int) (A : Option Addr) (n c t : Nat) (d k R : Int) (hR : obj n d k = R) (hR0 : R ≠ 0) :
    Calls Tryd.prog 33 #[rv lim A n c t, .int .i64 d, .int .i64 k] w fun e w' => e = .returned (.tuple #[rv lim A n c t, .slice none 0 0, .int .i64 R]) ∧ Below w.heap.size w w' := by
  obtain ⟨w1, hw1⟩ : ∃ w1, (w.alloc (.cells #[.int .i64 lim, .slice A n c, .int .i64 (t : Int)] 31)).alloc (.cells #[.int .i64 0, .slice none 0 0, .int .i64 0] 31) = w1 := ⟨_, rfl⟩
  have p1 : Cb w1 w.heap.size lim A n c t := by rw [← hw1]; exact (Cb.new w lim A n c t).same (Below.heap_alloc _ _ _ (by simp))
  have q1 : Cb w1 (w.heap.size + 1) 0 none 0 0 0 := by
    rw [← hw1]
    have := Cb.new (w.alloc (.cells #[.int .i64 lim, .slice A n c, .int .i64 (t : Int)] 31)) 0 none 0 0 0
    rwa [World.size_alloc] at this
  have g1 : Below w.heap.size w w1 := by rw [← hw1]; exact ((Below.refl _ w).alloc (Nat.le_refl _) _).alloc (by simp) _
  have c0 := p1.c0
  have c1 := p1.c1
  have c2 := p1.c2
  have d0 := q1.c0
  have f0 := q1.free 0
  obtain ⟨Wa, hWa⟩ : ∃ Wa, w1.setCell ⟨w.heap.size + 1, 0, none⟩ (.int .i64 lim) = Wa := ⟨_, rfl⟩
  have qa : Cb Wa (w.heap.size + 1) lim none 0 0 0 := by rw [← hWa]; exact q1.set0 lim
  have d1 := qa.c1
  have f1 := qa.free 1
  obtain ⟨Wb, hWb⟩ : ∃ Wb, Wa.setCell ⟨w.heap.size + 1, 1, none⟩ (.slice A n c) = Wb := ⟨_, rfl⟩
  have qb : Cb Wb (w.heap.size + 1) lim A n c 0 := by rw [← hWb]; exact qa.set1 A n c
  have d2 := qb.c2
  have f2 := qb.free 2
  obtain ⟨Wc, hWc⟩ : ∃ Wc, Wb.setCell ⟨w.heap.size + 1, 2, none⟩ (.int .i64 (t : Int)) = Wc := ⟨_, rfl⟩
  have qc : Cb Wc (w.heap.size + 1) lim A n c t := by rw [← hWc]; exact qb.set2 t
  have FN : Hid (Cb Wc (w.heap.size + 1) lim A n c t ∧ Below w.heap.size w Wc) := Lib.hid ⟨qc, by
    rw [← hWc, ← hWb, ← hWa]
    exact ((g1.setCell (p := ⟨w.heap.size + 1, 0, none⟩) (Nat.le_succ _) _).setCell (p := ⟨w.heap.size + 1, 1, none⟩) (Nat.le_succ _) _).setCell (p := ⟨w.heap.size + 1, 2, none⟩) (Nat.le_succ _) _⟩
  clear p1 q1 g1 qa qb qc
  unfold obj at hR
  have e0 : (k < 0 ∧ R = 2) ∨ (¬ k < 0 ∧ 131072 < k ∧ R = 2) ∨ (¬ k < 0 ∧ ¬ 131072 < k ∧ d < 1 ∧ R = 15) ∨ (¬ k < 0 ∧ ¬ 131072 < k ∧ ¬ d < 1 ∧ (n : Int) < d ∧ R = 15) := by
    split at hR
    · omega
    · split at hR <;> omega
  clear hR hR0
  rcases e0 with ⟨h1, rfl⟩ | ⟨h1, h2, rfl⟩ | ⟨h1, h2, h3, rfl⟩ | ⟨h1, h2, h3, h4, rfl⟩
  all_goals
    go_enter Tryd.func33, Tryd.ntmps33
    go_wp2
    refine bodyPost_ret (results_cell3 rfl rfl FN.out.1.load) rfl ?_
    exact ⟨rfl, FN.out.2⟩

end Go.Proofs.YteogpmapbeogpaaDoor
