/-
  RingGoes returns true for every input, and each argument reads afterwards as it read before. Condition: the package's sizes are what the program's text lays.
-/
import Derived.Test.YteogpmapbeogpaaDoorOac
import Derived.Test.YteogpmapbeogpaaDoorOva
import Derived.Test.YteogpmapbeogpaaDoorWrk
namespace Go.Proofs.YteogpmapbeogpaaDoor.ringGoes
open Go.ChangeShapes Go.WideShapes Go.ChangeAt Go.RowKit Go.Shelf

attribute [local go_sem] Oper.semAt_some

abbrev aobj (a : Ac) : Obj := .cells #[.int .i64 a.wh, .slice a.B a.M a.cm, .int .i64 a.ofs, .int .i64 a.nn] 38
/-- The block of a call. -/
def Ab (W : World) (q : Nat) (a : Ac) : Prop := W.heap[q]? = some (aobj a)
theorem Ab.cell {W : World} {q : Nat} {a : Ac} (h : Ab W q a) (i : Nat) : W.cell? ⟨q, i, none⟩ = a.cells[i]? := by
  rw [cell_of_row W q i _ _ _ h]
  simp
theorem Ab.lt {W : World} {q : Nat} {a : Ac} (h : Ab W q a) : q < W.heap.size := (Array.getElem?_eq_some_iff.1 h).1
theorem Ab.same {W W' : World} {q : Nat} {a : Ac} (h : Ab W q a) (hb : W'.heap[q]? = W.heap[q]?) : Ab W' q a := hb.trans h
theorem Ab.below {W W' : World} {q : Nat} {a : Ac} (h : Ab W q a) (hb : Below W.heap.size W W') : Ab W' q a := h.same (hb.block q h.lt)
theorem Ab.new (W : World) (a : Ac) : Ab (W.alloc (aobj a)) W.heap.size a := World.alloc_heap_new W _
theorem Ab.rd {W : World} {q : Nat} {a : Ac} (h : Ab W q a) : RdA W (some ⟨q, 0, none⟩) [a] := by
  intro i c hi
  have hc := h.cell
  match i, hi with
  | 0, hi =>
    simp at hi
    subst hi
    exact ⟨_, rfl, hc 0, hc 1, hc 2, hc 3⟩
  | (k + 1), hi => simp at hi

set_option maxRecDepth 100000 in
set_option maxHeartbeats 4000000 in
theorem walk_else0 (z : Int) (A : Option Addr) (M ca : Nat) (B : Option Addr) (Mb cb : Nat) (many : Int) (a : Ac) (w : World) (hg : Gl w) (h0 : z < 1) :
    Calls Tryd.prog 4 #[.int .i64 z, .slice A M ca, .slice B Mb cb, .int .i64 many, a.val] w fun e w' => e = .returned (.bool true) ∧ Below w.heap.size w w' := by
  have b0 := lit_bel w (aobj a)
  have q0 := Ab.new w a
  have b1 := lit_bel (w.alloc (aobj a)) (.cells #[.bool false] 4)
  have p1 : Bx ((w.alloc (aobj a)).alloc (.cells #[.bool false] 4)) (w.heap.size + 1) 4 (.bool false) := by
    have := Bx.new (w.alloc (aobj a)) 4 (.bool false)
    rwa [World.size_alloc] at this
  have q1 := q0.same (b1.block _ q0.lt)
  have z1 : ((w.alloc (aobj a)).alloc (.cells #[.bool false] 4)).heap.size = w.heap.size + 2 := by simp
  have bb := below_on b0 (Nat.le_refl _) b1
  obtain ⟨w1, hw1⟩ : ∃ w1, (w.alloc (aobj a)).alloc (.cells #[.bool false] 4) = w1 := ⟨_, rfl⟩
  rw [hw1] at p1 q1 z1 bb
  have a0 : w1.cell? ⟨w.heap.size, 0, none⟩ = some (.int .i64 a.wh) := q1.cell 0
  have a1 : w1.cell? ⟨w.heap.size, 1, none⟩ = some (.slice a.B a.M a.cm) := q1.cell 1
  have a2 : w1.cell? ⟨w.heap.size, 2, none⟩ = some (.int .i64 a.ofs) := q1.cell 2
  have a3 : w1.cell? ⟨w.heap.size, 3, none⟩ = some (.int .i64 a.nn) := q1.cell 3
  have P1 := Lib.hid p1
  have Q1 := Lib.hid q1
  have BB := Lib.hid bb
  have FW : Hid (∀ (W : World) (H : Nat), W.heap.size = H → Calls Tryd.prog 11 #[.slice (some ⟨H, 0, none⟩) 1 1, .int .i64 1] (W.alloc (aobj a)) fun e w' => e = .returned (.bool (fw [a] 1)) ∧ w' = W.alloc (aobj a)) := Lib.hid (fun W H hH => by subst hH; exact few_any _ _ [a] 1 1 1 rfl (fun _ => by omega) (Ab.new W a).rd)
  have e0 : decide (z < 1) = true := decide_eq_true (by omega)
  have WK : Hid (∀ W, Below w1.heap.size w1 W → Calls Tryd.prog 12 #[] W fun e w' => e = .returned (.bool true) ∧ Below W.heap.size W w') := Lib.hid (fun W hb => works_any W (hg.bel (below_on BB.out (Nat.le_refl _) hb)))
  clear hg b0 q0 b1 p1 q1 bb h0
  refine (callsIn_wide (n := 8)).1 ?_
  refine callsIn_of_wp_marks Tryd.func4 rfl trivial ?_ rfl
  simp only [Tryd.ntmps4, List.size_toArray, List.length_cons, List.length_nil, Nat.reduceAdd, Nat.reduceSub, Array.replicate_succ, Array.replicate_zero, List.push_toArray, List.append_toArray, List.nil_append, List.cons_append]
  refine wpIn_wide.2 ?_
  go_wp2_with (first
    | (go_at_call 11; refine (FW.out w1 (w.heap.size + 2) z1).mono ?_; rintro e w2 ⟨rfl, rfl⟩)
    | (go_at_call 12; refine (WK.out _ (by first | exact Below.refl _ _ | exact lit_bel _ _)).mono ?_; rintro e w9 ⟨rfl, hb⟩; have B9 : Hid (Below w1.heap.size w1 w9) := Lib.hid (by first | exact hb | exact below_on (lit_bel w1 _) (Nat.le_refl _) hb); clear hb; have p9 := P1.out.below B9.out; have c9 := p9.cell; have f9 := p9.free; have P9 := Lib.hid (p9.set (.bool true)); clear p9))
  have ld : (loadVar 4 ⟨w.heap.size + 1, 0, none⟩).run Tryd.prog (w9.setCell ⟨w.heap.size + 1, 0, none⟩ (.bool true)) = .ok (.bool true) (w9.setCell ⟨w.heap.size + 1, 0, none⟩ (.bool true)) := by
    have cd := P9.out.cell
    simp [loadVar, go_sem, cd]
  exact ⟨_, results_cell rfl rfl ld, rfl, (below_on BB.out (Nat.le_refl _) B9.out).setCell (p := ⟨w.heap.size + 1, 0, none⟩) (by show w.heap.size ≤ w.heap.size + 1; omega) _⟩

set_option maxRecDepth 100000 in
set_option maxHeartbeats 4000000 in
theorem walk_else1 (z : Int) (A : Option Addr) (M ca : Nat) (B : Option Addr) (Mb cb : Nat) (many : Int) (a : Ac) (w : World) (hg : Gl w) (h0 : ¬ z < 1) (h1 : 300 < z) :
    Calls Tryd.prog 4 #[.int .i64 z, .slice A M ca, .slice B Mb cb, .int .i64 many, a.val] w fun e w' => e = .returned (.bool true) ∧ Below w.heap.size w w' := by
  have b0 := lit_bel w (aobj a)
  have q0 := Ab.new w a
  have b1 := lit_bel (w.alloc (aobj a)) (.cells #[.bool false] 4)
  have p1 : Bx ((w.alloc (aobj a)).alloc (.cells #[.bool false] 4)) (w.heap.size + 1) 4 (.bool false) := by
    have := Bx.new (w.alloc (aobj a)) 4 (.bool false)
    rwa [World.size_alloc] at this
  have q1 := q0.same (b1.block _ q0.lt)
  have z1 : ((w.alloc (aobj a)).alloc (.cells #[.bool false] 4)).heap.size = w.heap.size + 2 := by simp
  have bb := below_on b0 (Nat.le_refl _) b1
  obtain ⟨w1, hw1⟩ : ∃ w1, (w.alloc (aobj a)).alloc (.cells #[.bool false] 4) = w1 := ⟨_, rfl⟩
  rw [hw1] at p1 q1 z1 bb
  have a0 : w1.cell? ⟨w.heap.size, 0, none⟩ = some (.int .i64 a.wh) := q1.cell 0
  have a1 : w1.cell? ⟨w.heap.size, 1, none⟩ = some (.slice a.B a.M a.cm) := q1.cell 1
  have a2 : w1.cell? ⟨w.heap.size, 2, none⟩ = some (.int .i64 a.ofs) := q1.cell 2
  have a3 : w1.cell? ⟨w.heap.size, 3, none⟩ = some (.int .i64 a.nn) := q1.cell 3
  have P1 := Lib.hid p1
  have Q1 := Lib.hid q1
  have BB := Lib.hid bb
  have FW : Hid (∀ (W : World) (H : Nat), W.heap.size = H → Calls Tryd.prog 11 #[.slice (some ⟨H, 0, none⟩) 1 1, .int .i64 1] (W.alloc (aobj a)) fun e w' => e = .returned (.bool (fw [a] 1)) ∧ w' = W.alloc (aobj a)) := Lib.hid (fun W H hH => by subst hH; exact few_any _ _ [a] 1 1 1 rfl (fun _ => by omega) (Ab.new W a).rd)
  have e0 : decide (z < 1) = false := decide_eq_false (by omega)
  have e1 : decide (300 < z) = true := decide_eq_true (by omega)
  have WK : Hid (∀ W, Below w1.heap.size w1 W → Calls Tryd.prog 12 #[] W fun e w' => e = .returned (.bool true) ∧ Below W.heap.size W w') := Lib.hid (fun W hb => works_any W (hg.bel (below_on BB.out (Nat.le_refl _) hb)))
  clear hg b0 q0 b1 p1 q1 bb h0 h1
  refine (callsIn_wide (n := 8)).1 ?_
  refine callsIn_of_wp_marks Tryd.func4 rfl trivial ?_ rfl
  simp only [Tryd.ntmps4, List.size_toArray, List.length_cons, List.length_nil, Nat.reduceAdd, Nat.reduceSub, Array.replicate_succ, Array.replicate_zero, List.push_toArray, List.append_toArray, List.nil_append, List.cons_append]
  refine wpIn_wide.2 ?_
  go_wp2_with (first
    | (go_at_call 11; refine (FW.out w1 (w.heap.size + 2) z1).mono ?_; rintro e w2 ⟨rfl, rfl⟩)
    | (go_at_call 12; refine (WK.out _ (by first | exact Below.refl _ _ | exact lit_bel _ _)).mono ?_; rintro e w9 ⟨rfl, hb⟩; have B9 : Hid (Below w1.heap.size w1 w9) := Lib.hid (by first | exact hb | exact below_on (lit_bel w1 _) (Nat.le_refl _) hb); clear hb; have p9 := P1.out.below B9.out; have c9 := p9.cell; have f9 := p9.free; have P9 := Lib.hid (p9.set (.bool true)); clear p9))
  have ld : (loadVar 4 ⟨w.heap.size + 1, 0, none⟩).run Tryd.prog (w9.setCell ⟨w.heap.size + 1, 0, none⟩ (.bool true)) = .ok (.bool true) (w9.setCell ⟨w.heap.size + 1, 0, none⟩ (.bool true)) := by
    have cd := P9.out.cell
    simp [loadVar, go_sem, cd]
  exact ⟨_, results_cell rfl rfl ld, rfl, (below_on BB.out (Nat.le_refl _) B9.out).setCell (p := ⟨w.heap.size + 1, 0, none⟩) (by show w.heap.size ≤ w.heap.size + 1; omega) _⟩

set_option maxRecDepth 100000 in
set_option maxHeartbeats 4000000 in
theorem walk_else2 (z : Int) (A : Option Addr) (M ca : Nat) (B : Option Addr) (Mb cb : Nat) (many : Int) (a : Ac) (w : World) (hg : Gl w) (h0 : ¬ z < 1) (h1 : ¬ 300 < z) (h2 : 100 < M) :
    Calls Tryd.prog 4 #[.int .i64 z, .slice A M ca, .slice B Mb cb, .int .i64 many, a.val] w fun e w' => e = .returned (.bool true) ∧ Below w.heap.size w w' := by
  have b0 := lit_bel w (aobj a)
  have q0 := Ab.new w a
  have b1 := lit_bel (w.alloc (aobj a)) (.cells #[.bool false] 4)
  have p1 : Bx ((w.alloc (aobj a)).alloc (.cells #[.bool false] 4)) (w.heap.size + 1) 4 (.bool false) := by
    have := Bx.new (w.alloc (aobj a)) 4 (.bool false)
    rwa [World.size_alloc] at this
  have q1 := q0.same (b1.block _ q0.lt)
  have z1 : ((w.alloc (aobj a)).alloc (.cells #[.bool false] 4)).heap.size = w.heap.size + 2 := by simp
  have bb := below_on b0 (Nat.le_refl _) b1
  obtain ⟨w1, hw1⟩ : ∃ w1, (w.alloc (aobj a)).alloc (.cells #[.bool false] 4) = w1 := ⟨_, rfl⟩
  rw [hw1] at p1 q1 z1 bb
  have a0 : w1.cell? ⟨w.heap.size, 0, none⟩ = some (.int .i64 a.wh) := q1.cell 0
  have a1 : w1.cell? ⟨w.heap.size, 1, none⟩ = some (.slice a.B a.M a.cm) := q1.cell 1
  have a2 : w1.cell? ⟨w.heap.size, 2, none⟩ = some (.int .i64 a.ofs) := q1.cell 2
  have a3 : w1.cell? ⟨w.heap.size, 3, none⟩ = some (.int .i64 a.nn) := q1.cell 3
  have P1 := Lib.hid p1
  have Q1 := Lib.hid q1
  have BB := Lib.hid bb
  have FW : Hid (∀ (W : World) (H : Nat), W.heap.size = H → Calls Tryd.prog 11 #[.slice (some ⟨H, 0, none⟩) 1 1, .int .i64 1] (W.alloc (aobj a)) fun e w' => e = .returned (.bool (fw [a] 1)) ∧ w' = W.alloc (aobj a)) := Lib.hid (fun W H hH => by subst hH; exact few_any _ _ [a] 1 1 1 rfl (fun _ => by omega) (Ab.new W a).rd)
  have e0 : decide (z < 1) = false := decide_eq_false (by omega)
  have e1 : decide (300 < z) = false := decide_eq_false (by omega)
  have e2 : decide ((100 : Int) < (M : Int)) = true := decide_eq_true (by omega)
  have WK : Hid (∀ W, Below w1.heap.size w1 W → Calls Tryd.prog 12 #[] W fun e w' => e = .returned (.bool true) ∧ Below W.heap.size W w') := Lib.hid (fun W hb => works_any W (hg.bel (below_on BB.out (Nat.le_refl _) hb)))
  clear hg b0 q0 b1 p1 q1 bb h0 h1 h2
  refine (callsIn_wide (n := 8)).1 ?_
  refine callsIn_of_wp_marks Tryd.func4 rfl trivial ?_ rfl
  simp only [Tryd.ntmps4, List.size_toArray, List.length_cons, List.length_nil, Nat.reduceAdd, Nat.reduceSub, Array.replicate_succ, Array.replicate_zero, List.push_toArray, List.append_toArray, List.nil_append, List.cons_append]
  refine wpIn_wide.2 ?_
  go_wp2_with (first
    | (go_at_call 11; refine (FW.out w1 (w.heap.size + 2) z1).mono ?_; rintro e w2 ⟨rfl, rfl⟩)
    | (go_at_call 12; refine (WK.out _ (by first | exact Below.refl _ _ | exact lit_bel _ _)).mono ?_; rintro e w9 ⟨rfl, hb⟩; have B9 : Hid (Below w1.heap.size w1 w9) := Lib.hid (by first | exact hb | exact below_on (lit_bel w1 _) (Nat.le_refl _) hb); clear hb; have p9 := P1.out.below B9.out; have c9 := p9.cell; have f9 := p9.free; have P9 := Lib.hid (p9.set (.bool true)); clear p9))
  have ld : (loadVar 4 ⟨w.heap.size + 1, 0, none⟩).run Tryd.prog (w9.setCell ⟨w.heap.size + 1, 0, none⟩ (.bool true)) = .ok (.bool true) (w9.setCell ⟨w.heap.size + 1, 0, none⟩ (.bool true)) := by
    have cd := P9.out.cell
    simp [loadVar, go_sem, cd]
  exact ⟨_, results_cell rfl rfl ld, rfl, (below_on BB.out (Nat.le_refl _) B9.out).setCell (p := ⟨w.heap.size + 1, 0, none⟩) (by show w.heap.size ≤ w.heap.size + 1; omega) _⟩

set_option maxRecDepth 100000 in
set_option maxHeartbeats 4000000 in
theorem walk_else3 (z : Int) (A : Option Addr) (M ca : Nat) (B : Option Addr) (Mb cb : Nat) (many : Int) (a : Ac) (w : World) (hg : Gl w) (h0 : ¬ z < 1) (h1 : ¬ 300 < z) (h2 : ¬ 100 < M) (h3 : 300 < Mb) :
    Calls Tryd.prog 4 #[.int .i64 z, .slice A M ca, .slice B Mb cb, .int .i64 many, a.val] w fun e w' => e = .returned (.bool true) ∧ Below w.heap.size w w' := by
  have b0 := lit_bel w (aobj a)
  have q0 := Ab.new w a
  have b1 := lit_bel (w.alloc (aobj a)) (.cells #[.bool false] 4)
  have p1 : Bx ((w.alloc (aobj a)).alloc (.cells #[.bool false] 4)) (w.heap.size + 1) 4 (.bool false) := by
    have := Bx.new (w.alloc (aobj a)) 4 (.bool false)
    rwa [World.size_alloc] at this
  have q1 := q0.same (b1.block _ q0.lt)
  have z1 : ((w.alloc (aobj a)).alloc (.cells #[.bool false] 4)).heap.size = w.heap.size + 2 := by simp
  have bb := below_on b0 (Nat.le_refl _) b1
  obtain ⟨w1, hw1⟩ : ∃ w1, (w.alloc (aobj a)).alloc (.cells #[.bool false] 4) = w1 := ⟨_, rfl⟩
  rw [hw1] at p1 q1 z1 bb
  have a0 : w1.cell? ⟨w.heap.size, 0, none⟩ = some (.int .i64 a.wh) := q1.cell 0
  have a1 : w1.cell? ⟨w.heap.size, 1, none⟩ = some (.slice a.B a.M a.cm) := q1.cell 1
  have a2 : w1.cell? ⟨w.heap.size, 2, none⟩ = some (.int .i64 a.ofs) := q1.cell 2
  have a3 : w1.cell? ⟨w.heap.size, 3, none⟩ = some (.int .i64 a.nn) := q1.cell 3
  have P1 := Lib.hid p1
  have Q1 := Lib.hid q1
  have BB := Lib.hid bb
  have FW : Hid (∀ (W : World) (H : Nat), W.heap.size = H → Calls Tryd.prog 11 #[.slice (some ⟨H, 0, none⟩) 1 1, .int .i64 1] (W.alloc (aobj a)) fun e w' => e = .returned (.bool (fw [a] 1)) ∧ w' = W.alloc (aobj a)) := Lib.hid (fun W H hH => by subst hH; exact few_any _ _ [a] 1 1 1 rfl (fun _ => by omega) (Ab.new W a).rd)
  have e0 : decide (z < 1) = false := decide_eq_false (by omega)
  have e1 : decide (300 < z) = false := decide_eq_false (by omega)
  have e2 : decide ((100 : Int) < (M : Int)) = false := decide_eq_false (by omega)
  have e3 : decide ((300 : Int) < (Mb : Int)) = true := decide_eq_true (by omega)
  have WK : Hid (∀ W, Below w1.heap.size w1 W → Calls Tryd.prog 12 #[] W fun e w' => e = .returned (.bool true) ∧ Below W.heap.size W w') := Lib.hid (fun W hb => works_any W (hg.bel (below_on BB.out (Nat.le_refl _) hb)))
  clear hg b0 q0 b1 p1 q1 bb h0 h1 h2 h3
  refine (callsIn_wide (n := 8)).1 ?_
  refine callsIn_of_wp_marks Tryd.func4 rfl trivial ?_ rfl
  simp only [Tryd.ntmps4, List.size_toArray, List.length_cons, List.length_nil, Nat.reduceAdd, Nat.reduceSub, Array.replicate_succ, Array.replicate_zero, List.push_toArray, List.append_toArray, List.nil_append, List.cons_append]
  refine wpIn_wide.2 ?_
  go_wp2_with (first
    | (go_at_call 11; refine (FW.out w1 (w.heap.size + 2) z1).mono ?_; rintro e w2 ⟨rfl, rfl⟩)
    | (go_at_call 12; refine (WK.out _ (by first | exact Below.refl _ _ | exact lit_bel _ _)).mono ?_; rintro e w9 ⟨rfl, hb⟩; have B9 : Hid (Below w1.heap.size w1 w9) := Lib.hid (by first | exact hb | exact below_on (lit_bel w1 _) (Nat.le_refl _) hb); clear hb; have p9 := P1.out.below B9.out; have c9 := p9.cell; have f9 := p9.free; have P9 := Lib.hid (p9.set (.bool true)); clear p9))
  have ld : (loadVar 4 ⟨w.heap.size + 1, 0, none⟩).run Tryd.prog (w9.setCell ⟨w.heap.size + 1, 0, none⟩ (.bool true)) = .ok (.bool true) (w9.setCell ⟨w.heap.size + 1, 0, none⟩ (.bool true)) := by
    have cd := P9.out.cell
    simp [loadVar, go_sem, cd]
  exact ⟨_, results_cell rfl rfl ld, rfl, (below_on BB.out (Nat.le_refl _) B9.out).setCell (p := ⟨w.heap.size + 1, 0, none⟩) (by show w.heap.size ≤ w.heap.size + 1; omega) _⟩

set_option maxRecDepth 100000 in
set_option maxHeartbeats 4000000 in
theorem walk_else4 (z : Int) (A : Option Addr) (M ca : Nat) (B : Option Addr) (Mb cb : Nat) (many : Int) (a : Ac) (w : World) (hg : Gl w) (h0 : ¬ z < 1) (h1 : ¬ 300 < z) (h2 : ¬ 100 < M) (h3 : ¬ 300 < Mb) (hf : fw [a] 1 = false) :
    Calls Tryd.prog 4 #[.int .i64 z, .slice A M ca, .slice B Mb cb, .int .i64 many, a.val] w fun e w' => e = .returned (.bool true) ∧ Below w.heap.size w w' := by
  have b0 := lit_bel w (aobj a)
  have q0 := Ab.new w a
  have b1 := lit_bel (w.alloc (aobj a)) (.cells #[.bool false] 4)
  have p1 : Bx ((w.alloc (aobj a)).alloc (.cells #[.bool false] 4)) (w.heap.size + 1) 4 (.bool false) := by
    have := Bx.new (w.alloc (aobj a)) 4 (.bool false)
    rwa [World.size_alloc] at this
  have q1 := q0.same (b1.block _ q0.lt)
  have z1 : ((w.alloc (aobj a)).alloc (.cells #[.bool false] 4)).heap.size = w.heap.size + 2 := by simp
  have bb := below_on b0 (Nat.le_refl _) b1
  obtain ⟨w1, hw1⟩ : ∃ w1, (w.alloc (aobj a)).alloc (.cells #[.bool false] 4) = w1 := ⟨_, rfl⟩
  rw [hw1] at p1 q1 z1 bb
  have a0 : w1.cell? ⟨w.heap.size, 0, none⟩ = some (.int .i64 a.wh) := q1.cell 0
  have a1 : w1.cell? ⟨w.heap.size, 1, none⟩ = some (.slice a.B a.M a.cm) := q1.cell 1
  have a2 : w1.cell? ⟨w.heap.size, 2, none⟩ = some (.int .i64 a.ofs) := q1.cell 2
  have a3 : w1.cell? ⟨w.heap.size, 3, none⟩ = some (.int .i64 a.nn) := q1.cell 3
  have P1 := Lib.hid p1
  have Q1 := Lib.hid q1
  have BB := Lib.hid bb
  have FW : Hid (∀ (W : World) (H : Nat), W.heap.size = H → Calls Tryd.prog 11 #[.slice (some ⟨H, 0, none⟩) 1 1, .int .i64 1] (W.alloc (aobj a)) fun e w' => e = .returned (.bool (fw [a] 1)) ∧ w' = W.alloc (aobj a)) := Lib.hid (fun W H hH => by subst hH; exact few_any _ _ [a] 1 1 1 rfl (fun _ => by omega) (Ab.new W a).rd)
  have e0 : decide (z < 1) = false := decide_eq_false (by omega)
  have e1 : decide (300 < z) = false := decide_eq_false (by omega)
  have e2 : decide ((100 : Int) < (M : Int)) = false := decide_eq_false (by omega)
  have e3 : decide ((300 : Int) < (Mb : Int)) = false := decide_eq_false (by omega)
  rw [hf] at FW
  have WK : Hid (∀ W, Below w1.heap.size w1 W → Calls Tryd.prog 12 #[] W fun e w' => e = .returned (.bool true) ∧ Below W.heap.size W w') := Lib.hid (fun W hb => works_any W (hg.bel (below_on BB.out (Nat.le_refl _) hb)))
  clear hg b0 q0 b1 p1 q1 bb h0 h1 h2 h3 hf
  refine (callsIn_wide (n := 8)).1 ?_
  refine callsIn_of_wp_marks Tryd.func4 rfl trivial ?_ rfl
  simp only [Tryd.ntmps4, List.size_toArray, List.length_cons, List.length_nil, Nat.reduceAdd, Nat.reduceSub, Array.replicate_succ, Array.replicate_zero, List.push_toArray, List.append_toArray, List.nil_append, List.cons_append]
  refine wpIn_wide.2 ?_
  go_wp2_with (first
    | (go_at_call 11; refine (FW.out w1 (w.heap.size + 2) z1).mono ?_; rintro e w2 ⟨rfl, rfl⟩)
    | (go_at_call 12; refine (WK.out _ (by first | exact Below.refl _ _ | exact lit_bel _ _)).mono ?_; rintro e w9 ⟨rfl, hb⟩; have B9 : Hid (Below w1.heap.size w1 w9) := Lib.hid (by first | exact hb | exact below_on (lit_bel w1 _) (Nat.le_refl _) hb); clear hb; have p9 := P1.out.below B9.out; have c9 := p9.cell; have f9 := p9.free; have P9 := Lib.hid (p9.set (.bool true)); clear p9))
  have ld : (loadVar 4 ⟨w.heap.size + 1, 0, none⟩).run Tryd.prog (w9.setCell ⟨w.heap.size + 1, 0, none⟩ (.bool true)) = .ok (.bool true) (w9.setCell ⟨w.heap.size + 1, 0, none⟩ (.bool true)) := by
    have cd := P9.out.cell
    simp [loadVar, go_sem, cd]
  exact ⟨_, results_cell rfl rfl ld, rfl, (below_on BB.out (Nat.le_refl _) B9.out).setCell (p := ⟨w.heap.size + 1, 0, none⟩) (by show w.heap.size ≤ w.heap.size + 1; omega) _⟩

set_option maxRecDepth 100000 in
set_option maxHeartbeats 16000000 in
theorem walk_ok (lim : Nat) (A : Option Addr) (m : List UInt8) (M ca : Nat) (B : Option Addr) (mb : List UInt8) (Mb cb : Nat) (many : Int) (a : Ac) (w : World) (hg : Gl w) (h1 : 1 ≤ lim) (h2 : lim ≤ 300) (hM : m.length = M) (hMc : M ≤ ca) (hM1 : M ≤ 100) (hR : Rd w A m) (hMb : mb.length = Mb) (hMbc : Mb ≤ cb) (hMb1 : Mb ≤ 300) (hRb : Rd w B mb) (oa : AcOk w a) (hf : fw [a] 1 = true) :
    Calls Tryd.prog 4 #[.int .i64 (lim : Int), .slice A M ca, .slice B Mb cb, .int .i64 many, a.val] w fun e w' => e = .returned (.bool true) ∧ Below w.heap.size w w' := by
  have b0 := lit_bel w (aobj a)
  have q0 := Ab.new w a
  have b1 := lit_bel (w.alloc (aobj a)) (.cells #[.bool false] 4)
  have p1 : Bx ((w.alloc (aobj a)).alloc (.cells #[.bool false] 4)) (w.heap.size + 1) 4 (.bool false) := by
    have := Bx.new (w.alloc (aobj a)) 4 (.bool false)
    rwa [World.size_alloc] at this
  have q1 := q0.same (b1.block _ q0.lt)
  have z1 : ((w.alloc (aobj a)).alloc (.cells #[.bool false] 4)).heap.size = w.heap.size + 2 := by simp
  have bb := below_on b0 (Nat.le_refl _) b1
  obtain ⟨w1, hw1⟩ : ∃ w1, (w.alloc (aobj a)).alloc (.cells #[.bool false] 4) = w1 := ⟨_, rfl⟩
  rw [hw1] at p1 q1 z1 bb
  have a0 : w1.cell? ⟨w.heap.size, 0, none⟩ = some (.int .i64 a.wh) := q1.cell 0
  have a1 : w1.cell? ⟨w.heap.size, 1, none⟩ = some (.slice a.B a.M a.cm) := q1.cell 1
  have a2 : w1.cell? ⟨w.heap.size, 2, none⟩ = some (.int .i64 a.ofs) := q1.cell 2
  have a3 : w1.cell? ⟨w.heap.size, 3, none⟩ = some (.int .i64 a.nn) := q1.cell 3
  have P1 := Lib.hid p1
  have Q1 := Lib.hid q1
  have BB := Lib.hid bb
  have FW : Hid (∀ (W : World) (H : Nat), W.heap.size = H → Calls Tryd.prog 11 #[.slice (some ⟨H, 0, none⟩) 1 1, .int .i64 1] (W.alloc (aobj a)) fun e w' => e = .returned (.bool (fw [a] 1)) ∧ w' = W.alloc (aobj a)) := Lib.hid (fun W H hH => by subst hH; exact few_any _ _ [a] 1 1 1 rfl (fun _ => by omega) (Ab.new W a).rd)
  have e0 : decide ((lim : Int) < 1) = false := decide_eq_false (by omega)
  have e1 : decide (300 < (lim : Int)) = false := decide_eq_false (by omega)
  have e2 : decide ((100 : Int) < (M : Int)) = false := decide_eq_false (by omega)
  have e3 : decide ((300 : Int) < (Mb : Int)) = false := decide_eq_false (by omega)
  rw [hf] at FW
  have hoka : okA a = true := by
    unfold fw at hf
    simpa using hf
  have NW : Hid (∀ W, Below w.heap.size w W → Calls Tryd.prog 13 #[.int .i64 (lim : Int), .slice A M ca] W fun e w' => ∃ x v, e = .returned (.tuple #[.pointer (some ⟨x, 0, none⟩), .int .i64 0]) ∧ At w w' x v lim (fin lim m) 0 ∧ Below W.heap.size W w' ∧ ∀ k, Fp x v k → W.heap.size ≤ k) := Lib.hid (fun W hb => at_new hg hb lim h1 (by omega) A m M ca hM hMc (by omega) (hR.below hb))
  have RN : Hid (∀ W, Below w.heap.size w W → Calls Tryd.prog 14 #[.int .i64 (lim : Int), .slice A M ca] W fun e w' => ∃ A' n' c', e = .returned (.tuple #[rv lim A' n' c' 0, .int .i64 0]) ∧ RfPost W (fin lim m) A' n' c' w') := Lib.hid (fun W hb => rnew_ok W lim h1 (by omega) A m M ca hM (by omega) (hR.below hb))
  have HG := Lib.hid hg
  have HRB := Lib.hid hRb
  have HMB := Lib.hid (And.intro hMb hMbc)
  have HOA := Lib.hid (And.intro hoka oa)
  have HFL : Hid ((fin lim m).length ≤ 100) := Lib.hid (by rw [fin_len]; omega)
  have BL := Lib.hid (below_on BB.out (Nat.le_refl _) (lit_bel w1 (aobj a)))
  clear hg b0 q0 b1 p1 q1 bb hf hR hRb hM hMb oa hoka
  refine (callsIn_wide (n := 8)).1 ?_
  refine callsIn_of_wp_marks Tryd.func4 rfl trivial ?_ rfl
  simp only [Tryd.ntmps4, List.size_toArray, List.length_cons, List.length_nil, Nat.reduceAdd, Nat.reduceSub, Array.replicate_succ, Array.replicate_zero, List.push_toArray, List.append_toArray, List.nil_append, List.cons_append]
  refine wpIn_wide.2 ?_
  go_wp2_with (first
    | (go_at_call 11; refine (FW.out w1 (w.heap.size + 2) z1).mono ?_; rintro e w2 ⟨rfl, rfl⟩)
    | (go_at_call 13; refine (NW.out _ BL.out).mono ?_; rintro e w3 ⟨x, v, rfl, ha3, hb3, hf3⟩; have A3 := Lib.hid ha3; have B3 := Lib.hid hb3; have F3 := Lib.hid hf3; clear ha3 hb3 hf3)
    | (go_at_call 14; refine (RN.out w3 (below_on BL.out (Nat.le_refl _) B3.out)).mono ?_; rintro e w4 ⟨A', n', c', rfl, hp4⟩; have P4 := Lib.hid hp4; clear hp4))
  clear FW NW RN a0 a1 a2 a3 e0 e1 e2 e3
  have hn1 : n' ≤ 100 := by have := P4.out.1; have := HFL.out; omega
  have C5 : Hid (Cb (w4.alloc (.cells #[.int .i64 (lim : Int), .slice A' n' c', .int .i64 0] 31)) w4.heap.size lim A' n' c' 0) := Lib.hid (Cb.new w4 lim A' n' c' 0)
  have lb5 := lit_bel w4 (.cells #[.int .i64 (lim : Int), .slice A' n' c', .int .i64 0] 31)
  have B5 : Hid (Below w1.heap.size w1 (w4.alloc (.cells #[.int .i64 (lim : Int), .slice A' n' c', .int .i64 0] 31))) := Lib.hid (below_on (below_on (below_on (lit_bel w1 _) (Nat.le_refl _) B3.out) (Nat.le_refl _) P4.out.2.2.2.1) (Nat.le_refl _) lb5)
  have R5 : Hid (Rd (w4.alloc (.cells #[.int .i64 (lim : Int), .slice A' n' c', .int .i64 0] 31)) A' (fin lim m)) := Lib.hid (P4.out.2.2.1.below lb5)
  have A5 : Hid (At w (w4.alloc (.cells #[.int .i64 (lim : Int), .slice A' n' c', .int .i64 0] 31)) x v lim (fin lim m) 0) := Lib.hid ((A3.out.below P4.out.2.2.2.1).below lb5)
  have NL : Hid ((fin lim m).length = n' ∧ n' ≤ c' ∧ (∀ ad, A' = some ad → w3.heap.size ≤ ad.block)) := Lib.hid ⟨P4.out.1, P4.out.2.1, P4.out.2.2.2.2⟩
  have F5 : Hid ((∀ k, Fp x v k → w.heap.size + 3 ≤ k ∧ k < w3.heap.size) ∧ w3.heap.size ≤ w4.heap.size ∧ w.heap.size + 3 ≤ w3.heap.size) := Lib.hid ⟨fun k hk => ⟨by have h7 := F3.out k hk; rw [World.size_alloc] at h7; omega, A3.out.rg.fp_lt hk⟩, P4.out.2.2.2.1.size, by have h7 := B3.out.size; rw [World.size_alloc] at h7; omega⟩
  have S5 : Hid ((w4.alloc (.cells #[.int .i64 (lim : Int), .slice A' n' c', .int .i64 0] 31)).heap.size = w4.heap.size + 1) := Lib.hid (World.size_alloc _ _)
  obtain ⟨W5, hW5⟩ : ∃ W5, w4.alloc (.cells #[.int .i64 (lim : Int), .slice A' n' c', .int .i64 0] 31) = W5 := ⟨_, rfl⟩
  obtain ⟨wb, hwb⟩ : ∃ wb, w4.heap.size = wb := ⟨_, rfl⟩
  rw [hW5] at C5 B5 R5 A5 S5
  rw [hwb] at C5 S5 F5
  simp only [hW5, hwb]
  have HWB : Hid (w.heap.size + 3 ≤ wb) := Lib.hid (by have := F5.out.2; omega)
  obtain ⟨L0, hL0⟩ : ∃ L0, fin lim m = L0 := ⟨_, rfl⟩
  rw [hL0] at R5 A5 NL HFL
  clear hW5 hwb hL0 A3 B3 F3 P4 lb5 BL
  go_wp2_with fail
  refine (at_add A5.out B mb Mb cb HMB.out.1 HMB.out.2 (by omega) (by omega) (HRB.out.below A5.out.bel) (A5.out.out HRB.out)).mono ?_
  rintro e w6 ⟨v6, rfl, ha6, hg6, hn6⟩
  have hfp6 := fp_new (x := x) hn6
  have A6 := Lib.hid ha6
  have C6 : Hid (Cb w6 wb lim A' n' c' 0) := Lib.hid (C5.out.same (hg6.block wb C5.out.lt (fun hk => by have := (F5.out.1 wb hk).2; have := F5.out.2.1; omega)))
  have R6 : Hid (Rd w6 A' L0) := Lib.hid (rd_chg R5.out hg6 (fun _ ad e hk => by have h7 := NL.out.2.2 ad e; have h8 := (F5.out.1 _ hk).2; omega))
  have F6 : Hid (∀ k, Fp x v6 k → w.heap.size + 3 ≤ k ∧ k ≠ wb ∧ k < w6.heap.size) := Lib.hid (fun k hk => by
    have h9 := ha6.rg.fp_lt hk
    rcases hfp6 k hk with h7 | h7
    · have h8 := F5.out.1 k h7
      exact ⟨h8.1, by have := F5.out.2; omega, h9⟩
    · have h8 := S5.out
      have h10 := (B5.out).size
      have h11 : w1.heap.size = w.heap.size + 2 := z1
      exact ⟨by have := F5.out.2; have := C5.out.lt; omega, by omega, h9⟩)
  have G6 : Hid (Ab w6 w.heap.size a ∧ Bx w6 (w.heap.size + 1) 4 (.bool false)) := Lib.hid ⟨(Q1.out.below B5.out).same (hg6.block _ (Q1.out.below B5.out).lt (fun hk => by have := (F5.out.1 _ hk).1; omega)), (P1.out.below B5.out).same (hg6.block _ (P1.out.below B5.out).lt (fun hk => by have := (F5.out.1 _ hk).1; omega))⟩
  have c60 := C6.out.c0
  have c61 := C6.out.c1
  have c62 := C6.out.c2
  obtain ⟨L, hL⟩ : ∃ L, fin lim (L0 ++ mb) = L := ⟨_, rfl⟩
  rw [hL] at A6
  obtain ⟨T, hT⟩ : ∃ T : Nat, 0 + Mb = T := ⟨_, rfl⟩
  have hT300 : T ≤ 300 := by omega
  rw [hT] at A6
  have RA := Lib.hid (radd_any w6 lim 0 A' L0 n' c' NL.out.1 (by omega) R6.out B mb Mb cb HMB.out.1 (by omega) (by omega) (HRB.out.below A6.out.bel))
  rw [hL, hT] at RA
  have HLL : Hid (L.length ≤ 400) := Lib.hid (by rw [← hL, fin_len, List.length_append]; have := HFL.out; have := HMB.out.1; omega)
  clear ha6 hg6 hn6 hfp6 A5 C5 R5 F5 S5 B5 hL hT
  go_wp2_with fail
  refine RA.out.mono ?_
  rintro e w7 ⟨A7, n7, c7, rfl, hl7, hc7, hr7, hb7, hk7⟩
  have hn7 : n7 ≤ 400 := by have := HLL.out; omega
  have k7 : Cb w7 wb lim A' n' c' 0 := C6.out.same (hb7.block wb C6.out.lt)
  have d0 := k7.c0
  have f0 := k7.free 0
  obtain ⟨Wa, hWa⟩ : ∃ Wa, w7.setCell ⟨wb, 0, none⟩ (.int .i64 (lim : Int)) = Wa := ⟨_, rfl⟩
  have ka : Cb Wa wb lim A' n' c' 0 := by rw [← hWa]; exact k7.set0 lim
  have d1 := ka.c1
  have f1 := ka.free 1
  obtain ⟨Wb, hWb⟩ : ∃ Wb, Wa.setCell ⟨wb, 1, none⟩ (.slice A7 n7 c7) = Wb := ⟨_, rfl⟩
  have kb : Cb Wb wb lim A7 n7 c7 0 := by rw [← hWb]; exact ka.set1 A7 n7 c7
  have d2 := kb.c2
  have f2 := kb.free 2
  obtain ⟨Wc, hWc⟩ : ∃ Wc, Wb.setCell ⟨wb, 2, none⟩ (.int .i64 (T : Int)) = Wc := ⟨_, rfl⟩
  have kc : Cb Wc wb lim A7 n7 c7 T := by rw [← hWc]; exact kb.set2 T
  have keep : ∀ k, k ≠ wb → Wc.heap[k]? = w7.heap[k]? := fun k hk => by
    rw [← hWc, Below.heap_setCell _ _ _ _ hk, ← hWb, Below.heap_setCell _ _ _ _ hk, ← hWa, Below.heap_setCell _ _ _ _ hk]
  have hwb0 : w.heap.size ≤ wb := by have := HWB.out; omega
  have R8 : Hid (Rd Wc A7 L) := Lib.hid (rd_apart k7 hr7 keep)
  have A8 : Hid (At w Wc x v6 lim L T) := Lib.hid ⟨(A6.out.below hb7).rg.same (fun k hk => keep k (F6.out k hk).2.1), by
    rw [← hWc, ← hWb, ← hWa]
    exact (((A6.out.below hb7).bel.setCell (p := ⟨wb, 0, none⟩) hwb0 _).setCell (p := ⟨wb, 1, none⟩) hwb0 _).setCell (p := ⟨wb, 2, none⟩) hwb0 _, A6.out.own⟩
  have K8 := Lib.hid kc
  have O8 : Hid (Out A7 L (Fp x v6)) := Lib.hid (fun _ ad e hk => by have h7 := hk7 ad e; have h8 := (F6.out _ hk).2.2; omega)
  have G8 : Hid (Ab Wc w.heap.size a ∧ Bx Wc (w.heap.size + 1) 4 (.bool false)) := Lib.hid ⟨(G6.out.1.below hb7).same (keep _ (by have := HWB.out; omega)), (G6.out.2.below hb7).same (keep _ (by have := HWB.out; omega))⟩
  have F8 : Hid (∀ k, Fp x v6 k → w.heap.size + 3 ≤ k ∧ k ≠ wb ∧ k < Wc.heap.size) := Lib.hid (fun k hk => ⟨(F6.out k hk).1, (F6.out k hk).2.1, A8.out.rg.fp_lt hk⟩)
  have HL := Lib.hid (And.intro hl7 hc7)
  clear A6 C6 R6 F6 G6 RA k7 ka kb kc keep hl7 hc7 hr7 hb7 hk7 c60 c61 c62 HLL HFL
  go_wp2_with fail
  refine (all_any A8.out n7 HL.out.1).mono ?_
  rintro e w9 ⟨q, Aq, cq, rfl, bq, rq, hb9, hq, hAq⟩
  have A9 := Lib.hid (A8.out.below hb9)
  have K9 := Lib.hid (K8.out.same (hb9.block wb K8.out.lt))
  have R9 := Lib.hid (R8.out.below hb9)
  have G9 := Lib.hid (And.intro (G8.out.1.below hb9) (G8.out.2.below hb9))
  have BQ := Lib.hid (And.intro bq rq)
  have FQ : Hid (¬ Fp x v6 q ∧ Out Aq L (Fp x v6) ∧ w.heap.size + 3 ≤ q ∧ q ≠ wb) := Lib.hid ⟨fun hk => by have := (F8.out q hk).2.2; omega, fun _ ad e hk => by have h7 := hAq ad e; have h8 := (F8.out _ hk).2.2; omega, by have h7 := K8.out.lt; have h8 := HWB.out; omega, by have h7 := K8.out.lt; omega⟩
  have k91 := K9.out.c1
  have fq := fun W => fn_nil W #[.pointer (some ⟨q, 0, none⟩)]
  clear A8 K8 R8 G8 bq rq hb9 hq hAq d0 d1 d2 f0 f1 f2 hWa hWb hWc
  go_wp2_with (first
    | (go_at_call 15; refine (num_any _ _).mono ?_; rintro e w9 ⟨rfl, rfl⟩)
    | (go_at_call 21; refine (over_any A9.out A7 n7 c7 HL.out.1 (by omega) R9.out many).mono ?_; rintro e w10 ⟨rfl, hb10⟩; have A10 := Lib.hid (A9.out.below hb10); have K10 := Lib.hid (K9.out.same (hb10.block wb K9.out.lt)); have R10 := Lib.hid (R9.out.below hb10); have G10 := Lib.hid (And.intro (G9.out.1.below hb10) (G9.out.2.below hb10)); have BQ10 := Lib.hid (And.intro (BQ.out.1.below hb10) (BQ.out.2.below hb10)); have g100 := K10.out.c0; have g101 := K10.out.c1; have g102 := K10.out.c2; have a0 : w10.cell? ⟨w.heap.size, 0, none⟩ = some (.int .i64 a.wh) := G10.out.1.cell 0; have a1 : w10.cell? ⟨w.heap.size, 1, none⟩ = some (.slice a.B a.M a.cm) := G10.out.1.cell 1; have a2 : w10.cell? ⟨w.heap.size, 2, none⟩ = some (.int .i64 a.ofs) := G10.out.1.cell 2; have a3 : w10.cell? ⟨w.heap.size, 3, none⟩ = some (.int .i64 a.nn) := G10.out.1.cell 3; clear hb10))
  clear A9 K9 R9 G9 BQ k91 fq
  refine (act_any A10.out A7 n7 c7 HL.out.1 HL.out.2 (by omega) R10.out (by omega) a HOA.out.1 HOA.out.2).mono ?_
  rintro e w11 ⟨x', v', L', t', A'', n'', c'', rfl, ha11, _, _, _, _, _, hg11, _, _, _⟩
  have B11 := Lib.hid ha11.bel
  have K11 := Lib.hid (K10.out.same (hg11.block wb K10.out.lt (fun hk => (F8.out _ hk).2.1 rfl)))
  have R11 := Lib.hid (rd_chg R10.out hg11 O8.out)
  have bq11 := Lib.hid (BQ10.out.1.same (hg11.block q BQ10.out.1.lt FQ.out.1))
  have rq11 := Lib.hid (rd_chg BQ10.out.2 hg11 FQ.out.2.1)
  have P11 := Lib.hid (G10.out.2.same (hg11.block _ G10.out.2.lt (fun hk => by have := (F8.out _ hk).1; omega)))
  clear A10 K10 R10 G10 BQ10 g100 g101 g102 a0 a1 a2 a3 ha11 hg11 F8 O8
  go_wp2_with fail
  have lb := lit_bel w11 (.cells #[.int .i64 0] 3)
  have g3 : Below w.heap.size w (w11.alloc (.cells #[.int .i64 0] 3)) := below_on B11.out (Nat.le_refl _) lb
  have n3 : Bx (w11.alloc (.cells #[.int .i64 0] 3)) w11.heap.size 3 (.int .i64 ((0 : Nat) : Int)) := Bx.new w11 _ _
  have q3 := bq11.out.below lb
  have r3 := rq11.out.below lb
  have k3 := K11.out.same (lb.block wb K11.out.lt)
  have R3 : Hid (Rd (w11.alloc (.cells #[.int .i64 0] 3)) A7 L) := Lib.hid (R11.out.below lb)
  have p3 := P11.out.below lb
  have s3 : (w11.alloc (.cells #[.int .i64 0] 3)).heap.size = w11.heap.size + 1 := by simp
  have ql := bq11.out.lt
  have kl := K11.out.lt
  have pl := P11.out.lt
  have OA : Hid (Out Aq L (fun k => k = w11.heap.size)) := Lib.hid (fun hm ad e (hk : ad.block = w11.heap.size) => by have := rd_lt rq11.out hm ad e; omega)
  have OB : Hid (Out A7 L (fun k => k = w11.heap.size)) := Lib.hid (fun hm ad e (hk : ad.block = w11.heap.size) => by have := rd_lt R11.out hm ad e; omega)
  have HLN := Lib.hid HL.out.1
  generalize w11.alloc (.cells #[.int .i64 0] 3) = W1 at g3 n3 q3 r3 k3 R3 p3 s3 ⊢
  clear lb B11 K11 R11 bq11 rq11 P11 HL FQ HOA HMB HRB P1 Q1 BB HWB hwb0
  refine (wpIn_wide (n := 8)).1 ?_
  refine range_s rfl (by decide) (gf := 37) (lb := #[.pointer (some ⟨q, 0, none⟩)]) rfl trivial (enters_of Tryd.func37 (by kernel_rfl) rfl)
    (N := n7) (enc := dstAt L n7) (Kp := KpA Aq L n7 cq q) (fun _ => rfl) (all1_hands (8 - 1) (by decide) Aq L n7 cq q HLN.out (by omega))
    (fun k => k = w11.heap.size) (by show ¬ W1.heap.size = w11.heap.size; omega) (by show ¬ W1.heap.size + 1 = w11.heap.size; omega) (fun j W => Bx W w11.heap.size 3 (.int .i64 (j : Int))) (fun _ _ => False)
    (fun j W W' hal hp => hp.same (hal _ (by omega) (by omega))) (fun cd W W' hal hp => hp)
    (fun j W hc _ => ⟨q3.same (hc.block _ (by omega) (by show ¬ q = w11.heap.size; omega)), rd_chg r3 hc OA.out⟩) n3
    (fun j => { tmps := #[Value.int IntKind.i64 ↑lim, Value.slice A M ca, Value.slice B Mb cb, Value.int IntKind.i64 many, a.val, undef, undef, undef, undef, Value.pointer (some { block := w.heap.size, off := 0 }), Value.pointer (some { block := w.heap.size + 1, off := 0 }), Value.pointer (some { block := x, off := 0 }), Value.int IntKind.i64 0, Value.pointer (some { block := wb, off := 0 }), Value.int IntKind.i64 0, Value.int IntKind.i64 0, Value.func (Fn.func 37) #[] #[Value.pointer (some { block := q, off := 0 })], Value.pointer (some { block := w11.heap.size, off := 0 }), Value.int IntKind.i64 ((n7 - j : Nat) : Int), byt (L.getD j 0), Value.int IntKind.i64 ↑lim, Value.bool false, Value.bool false, Value.int IntKind.i64 ↑lim, Value.bool false, Value.bool false, Value.bool false, Value.slice A M ca, Value.int IntKind.i64 ↑M, Value.bool false, Value.bool false, Value.bool false, Value.slice B Mb cb, Value.int IntKind.i64 ↑Mb, Value.bool false, Value.bool false, Value.bool false, Value.agg #[Value.int IntKind.i64 a.wh, Value.slice a.B a.M a.cm, Value.int IntKind.i64 a.ofs, Value.int IntKind.i64 a.nn], Value.slice (some { block := w.heap.size + 2, off := 0 }) 1 1, Value.bool true, Value.bool false, Value.bool false, undef, Value.tuple #[Value.pointer (some { block := x, off := 0 }), Value.int IntKind.i64 0], Value.int IntKind.i64 ↑lim, Value.slice A M ca, Value.tuple #[Value.pointer (some { block := x, off := 0 }), Value.int IntKind.i64 0], Value.pointer (some { block := x, off := 0 }), Value.int IntKind.i64 0, Value.tuple #[rv (↑lim) A' n' c' 0, Value.int IntKind.i64 0], Value.int IntKind.i64 ↑lim, Value.slice A M ca, Value.tuple #[rv (↑lim) A' n' c' 0, Value.int IntKind.i64 0], rv (↑lim) A' n' c' 0, Value.int IntKind.i64 0, Value.pointer (some { block := x, off := 0 }), Value.slice B Mb cb, Value.int IntKind.i64 0, Value.agg #[Value.int IntKind.i64 ↑lim, Value.slice A' n' c', Value.int IntKind.i64 0], Value.slice B Mb cb, rv (↑lim) A7 n7 c7 T, Value.pointer (some { block := x, off := 0 }), Value.func (Fn.func 37) #[] #[Value.pointer (some { block := q, off := 0 })], Value.int IntKind.i64 0, Value.int IntKind.i64 0, Value.int IntKind.i64 0, Value.int IntKind.i64 0, Value.int IntKind.i64 0, Value.bool false, Value.bool false, Value.pointer (some { block := x, off := 0 }), Value.pointer (some { block := wb, off := 1 }), Value.slice A7 n7 c7, Value.int IntKind.i64 many, Value.bool true, Value.bool false, Value.bool false, Value.bool false, Value.func (Fn.func 37) #[] #[Value.pointer (some { block := q, off := 0 })], Value.bool false, Value.bool false, Value.pointer (some { block := x, off := 0 }), Value.agg #[Value.int IntKind.i64 ↑lim, Value.slice A7 n7 c7, Value.int IntKind.i64 ↑T], Value.agg #[Value.int IntKind.i64 a.wh, Value.slice a.B a.M a.cm, Value.int IntKind.i64 a.ofs, Value.int IntKind.i64 a.nn], Value.tuple #[Value.pointer (some { block := x', off := 0 }), rv (↑lim) A'' n'' c'' t', Value.bool true], Value.func (Fn.func 37) #[] #[Value.pointer (some { block := q, off := 0 })], Value.int IntKind.i64 ((n7 - j : Nat) : Int), byt (L.getD j 0), undef, undef, undef, undef, undef, undef, undef, undef, undef, undef, undef, undef, undef, undef, undef, undef, undef, undef, undef, undef, undef, undef, undef, undef, undef, undef, undef, undef, undef, undef, undef, undef, undef], defers := [] }) ?assign ?body ?done ?stop
  case assign =>
    intro l' j W2 K _ hK
    simp only [dstAt]
    gi_wp2
    exact hK
  case body =>
    rintro l' j W2 hj hg2 hs2 hp2
    obtain ⟨b, hb⟩ : ∃ b, L[j]? = some b := ⟨_, List.getElem?_eq_getElem (by rw [HLN.out]; exact hj)⟩
    have hgd : L.getD j 0 = b := by simp [List.getD, hb]
    obtain ⟨ad, hA7, hcb⟩ := (rd_chg R3.out hg2 OB.out) j (byt b) (by rw [List.getElem?_map, hb]; rfl)
    subst hA7
    have k1 := (k3.same (hg2.block _ (by omega) (by show ¬ wb = w11.heap.size; omega))).c1
    have k4 := hp2.cell
    have f4 := hp2.free
    obtain ⟨d, hd⟩ : ∃ d, n7 - j = d := ⟨_, rfl⟩
    have hde : (n7 : Int) - (j : Int) = (d : Int) := by omega
    have u1 : decide ((n7 : Int) ≤ (j : Int)) = false := decide_eq_false (by omega)
    have wj : IntKind.i64.wrap (j : Int) = (j : Int) := IntWalk.i64_in _ (by omega)
    simp only [hgd, hd, byt] at hcb ⊢
    obtain ⟨W3, hW3⟩ : ∃ W3, W2.setCell ⟨w11.heap.size, 0, none⟩ (.int .i64 ((j : Int) + 1)) = W3 := ⟨_, rfl⟩
    have b3 : Bx W3 w11.heap.size 3 (.int .i64 ((j : Int) + 1)) := by rw [← hW3]; exact hp2.set _
    have C3 : Hid (Chg (fun k => k = w11.heap.size) W2 W3) := Lib.hid (by rw [← hW3]; exact Chg.set (Chg.refl (fun k => k = w11.heap.size) W2) ⟨w11.heap.size, 0, none⟩ rfl _)
    have H3 := Lib.hid b3
    clear hb hgd hd hp2 hg2 b3
    gi_wp2
    exact ⟨C3.out, H3.out⟩
  case done =>
    rintro W2 hK hg2 hs2 hp2
    have k0 := hp2.cell
    have k1 := (k3.same (hg2.block _ (by omega) (by show ¬ wb = w11.heap.size; omega))).c1
    have p5 := p3.same (hg2.block _ (by omega) (by show ¬ w.heap.size + 1 = w11.heap.size; omega))
    have P5 := Lib.hid p5
    have HB := Lib.hid (g3.trans (hg2.new (B := w.heap.size) g3.size (fun k (e : k = w11.heap.size) => by omega)))
    have HK : Hid (W2.heap[w11.heap.size + 1]? = some (.deferred (some []))) := Lib.hid (by rw [← s3]; exact hK)
    have hs6 : w11.heap.size + 1 < W2.heap.size := by omega
    have WK := Lib.hid (works_any W2 (HG.out.bel HB.out))
    clear hp2 hK hg2 g3 n3 q3 r3 k3 p3 p5
    go_wp2_with (go_at_call 12; refine WK.out.mono ?_; rintro e w12 ⟨rfl, hb12⟩; have B12 := Lib.hid hb12; have p6 := P5.out.below hb12; have c6 := p6.cell; have f6 := p6.free; have P6 := Lib.hid (p6.set (.bool true)); clear p6 hb12)
    have hKc : (w12.setCell ⟨w.heap.size + 1, 0, none⟩ (.bool true)).heap[w11.heap.size + 1]? = some (.deferred (some [])) := by
      rw [Below.heap_setCell _ _ _ _ (by show w11.heap.size + 1 ≠ w.heap.size + 1; omega), B12.out.block _ hs6]
      exact HK.out
    have BW : Below w.heap.size w (w12.setCell ⟨w.heap.size + 1, 0, none⟩ (.bool true)) := Below.setCell (below_on HB.out (Nat.le_refl _) B12.out) (p := ⟨w.heap.size + 1, 0, none⟩) (show w.heap.size ≤ w.heap.size + 1 by omega) _
    refine ⟨by simp, .inl ⟨_, _, rfl, run_takeDeferred hKc, ?_⟩⟩
    have qd : Bx ((w12.setCell ⟨w.heap.size + 1, 0, none⟩ (.bool true)).putObj (w11.heap.size + 1) (.deferred none)) (w.heap.size + 1) 4 (.bool true) := P6.out.same (World.putObj_heap_other (by omega))
    have BD := below_put BW (w11.heap.size + 1) (by have := B12.out.size; have := HB.out.size; omega) (.deferred none)
    generalize (w12.setCell ⟨w.heap.size + 1, 0, none⟩ (.bool true)).putObj (w11.heap.size + 1) (.deferred none) = Wd at qd BD ⊢
    have ld : (loadVar 4 ⟨w.heap.size + 1, 0, none⟩).run Tryd.prog Wd = .ok (.bool true) Wd := by
      have cd := qd.cell
      simp [loadVar, go_sem, cd]
    exact ⟨_, results_cell rfl rfl ld, rfl, BD⟩
  case stop =>
    rintro cd W2 hK hg2 hs2 hp2
    exact hp2.elim

theorem walk (z : Int) (A : Option Addr) (m : List UInt8) (ca : Nat) (B : Option Addr) (mb : List UInt8) (cb : Nat) (many : Int) (a : Ac) (w : World) (hg : Gl w) (_ : (Lit.int .i64 z).wf = true) (hR : Rd w A m) (_ : m.length ≤ 140737488351232) (hc : m.length ≤ ca) (hRb : Rd w B mb) (_ : mb.length ≤ 140737488351232) (hcb : mb.length ≤ cb) (_ : (Lit.int .i64 many).wf = true) (oa : AcOk w a) :
    Calls Tryd.prog 4 #[.int .i64 z, .slice A m.length ca, .slice B mb.length cb, .int .i64 many, a.val] w fun e w' => e = .returned (.bool true) ∧ Below w.heap.size w w' := by
  by_cases h0 : z < 1
  · exact walk_else0 z A _ ca B _ cb many a w hg h0
  · by_cases h1 : 300 < z
    · exact walk_else1 z A _ ca B _ cb many a w hg h0 h1
    · by_cases h2 : 100 < m.length
      · exact walk_else2 z A _ ca B _ cb many a w hg h0 h1 h2
      · by_cases h3 : 300 < mb.length
        · exact walk_else3 z A _ ca B _ cb many a w hg h0 h1 h2 h3
        · cases hf : fw [a] 1 with
          | false => exact walk_else4 z A _ ca B _ cb many a w hg h0 h1 h2 h3 hf
          | true =>
            obtain ⟨lim, rfl⟩ : ∃ lim : Nat, z = (lim : Int) := ⟨z.toNat, by omega⟩
            exact walk_ok lim A m _ ca B mb _ cb many a w hg (by omega) (by omega) rfl hc (by omega) hR rfl hcb (by omega) hRb oa hf

set_option maxRecDepth 100000 in
theorem lifted (os : Os) (started : os.Started) (H : Type) (enc : TypeId × Value → H) :
    ReturnsInHanded {} Tryd.checked os 4 .any (fun w args => (Rows.ringGoesSpec.pre enc Tryd.prog Tryd.f4 [] false w args ∧ laidMetH Tryd.prog laidS w) ∧ sizedMet enc Tryd.prog Tryd.f4 (OpenSpec.ofChange Rows.ringGoesSpec) false w args) (Rows.ringGoesSpec.post enc Tryd.prog Tryd.f4 false true false false) := by
  refine returnsInHanded_of_change_and (C := Tryd.checked) (X := fun w _ => laidMetH Tryd.prog laidS w) (fun _ _ _ hh h => h.of_heap hh) ownB started (by kernel_rfl) Tryd.func4
    (ChangeSpec.witness_shaped (enc := enc) (C := Tryd.checked) (os := os) (X := fun w _ => laidMetH Tryd.prog laidS w) false (World.doorLaid Tryd.prog 400 os) #[.int .i64 0, .slice none 0 0, .slice none 0 0, .int .i64 0, .agg #[.int .i64 0, .slice none 0 0, .int .i64 0, .int .i64 0]] 8 rfl (World.shaped_of_RefB (by kernel_rfl) (by kernel_rfl)) (by kernel_rfl) (by kernel_rfl) (by kernel_rfl) (door_met os _)) ?_
  intro W base args ds gs before hval0 hW _ hsz0 hL _
  have hgl := gl_of_laid hL
  have hsz : (DataW.weightsEach Tryd.prog (Tryd.f4.params.toList ++ Rows.ringGoesSpec.plain.varTypes Tryd.prog) (ds ++ gs)).all (· ≤ reachBytes) = true := hsz0
  clear hsz0
  have hval : ∀ (j : Nat) t v, Tryd.f4.params[j]? = some t → args[j]? = some v → Value.okWide Tryd.prog W .any base t v := hval0
  have hW' := hW
  obtain ⟨p, q, hA0, hV, rfl, hfz, hnd⟩ := hW
  have hA : DataW.TrodAll enc Tryd.prog W 0 (fun _ => true) true Tryd.f4.params.toList args.toList ds p := hA0
  rw [Tryd.params4] at hA hval hsz
  obtain ⟨v0, vs0, d0, ds0, p0, q0, hargs, rfl, rfl, h0, r0⟩ := trodAll_cons hA
  obtain ⟨v1, vs1, d1, ds1, p1, q1, rfl, rfl, rfl, h1, r1⟩ := trodAll_cons r0
  obtain ⟨v2, vs2, d2, ds2, p2, q2, rfl, rfl, rfl, h2, r2⟩ := trodAll_cons r1
  obtain ⟨v3, vs3, d3, ds3, p3, q3, rfl, rfl, rfl, h3, r3⟩ := trodAll_cons r2
  obtain ⟨v4, vs4, d4, ds4, p4, q4, rfl, rfl, rfl, h4, r4⟩ := trodAll_cons r3
  obtain ⟨rfl, rfl, rfl⟩ := trodAll_nil r4
  obtain rfl : args = #[v0, v1, v2, v3, v4] := by cases args; simp_all
  obtain ⟨rfl, rfl⟩ := trodVars_none hV
  obtain ⟨a0, rfl, rfl, rfl, w0⟩ := open_int Tryd.underlying3 (hval 0 3 v0 rfl rfl) h0
  obtain ⟨a1, len1, cap1, rfl⟩ := okWide_slice Tryd.underlying22 (hval 1 22 v1 rfl rfl)
  have k1 := h1
  have lt1 : ∀ x ∈ p1, x.block < W.heap.size := by obtain ⟨m, hm⟩ := k1; exact DataW.trod_lt m _ _ _ hm
  obtain ⟨l1, rfl, hc1, rd1, hd1⟩ := open_bytes h1
  have hs1 : l1.length ≤ 140737488351232 := by
    rcases hd1 with ⟨h, _⟩ | ⟨es, sp, rfl, h⟩
    · omega
    · have := sized_slice hsz (j := 1) (t := 22) (e := 5) rfl rfl Tryd.underlying22
      rw [bytes_byte] at this
      simp only [reachBytes] at this
      omega
  obtain ⟨a2, len2, cap2, rfl⟩ := okWide_slice Tryd.underlying22 (hval 2 22 v2 rfl rfl)
  have k2 := h2
  have lt2 : ∀ x ∈ p2, x.block < W.heap.size := by obtain ⟨m, hm⟩ := k2; exact DataW.trod_lt m _ _ _ hm
  obtain ⟨l2, rfl, hc2, rd2, hd2⟩ := open_bytes h2
  have hs2 : l2.length ≤ 140737488351232 := by
    rcases hd2 with ⟨h, _⟩ | ⟨es, sp, rfl, h⟩
    · omega
    · have := sized_slice hsz (j := 2) (t := 22) (e := 5) rfl rfl Tryd.underlying22
      rw [bytes_byte] at this
      simp only [reachBytes] at this
      omega
  obtain ⟨a3, rfl, rfl, rfl, w3⟩ := open_int Tryd.underlying3 (hval 3 3 v3 rfl rfl) h3
  obtain ⟨cs4, rfl, hcs4⟩ := okWide_struct Tryd.underlying38 (hval 4 38 v4 rfl rfl)
  have k4 := h4
  have lt4 : ∀ x ∈ p4, x.block < W.heap.size := by obtain ⟨m, hm⟩ := k4; exact DataW.trod_lt m _ _ _ hm
  obtain ⟨x4, rfl, ox4⟩ := open_ac hcs4 h4
  clear hA0 hval0
  refine (walk a0 a1 l1 cap1 a2 l2 cap2 a3 x4 W hgl w0 rd1 hs1 hc1 rd2 hs2 hc2 w3 ox4).mono fun e W' ⟨he, bel⟩ => ?_
  subst he
  exact ⟨_, rfl, _, _, _, [], _, [], hW', trodAll_mk1 (shut_bool Tryd.underlying4 _), (trodAll_cons_mk (shut_int Tryd.underlying3 w0) (trodAll_cons_mk (Below.trod laidOut (by kernel_rfl) (of_decide_eq_true (by kernel_rfl)) k1 bel lt1) (trodAll_cons_mk (Below.trod laidOut (by kernel_rfl) (of_decide_eq_true (by kernel_rfl)) k2 bel lt2) (trodAll_cons_mk (shut_int Tryd.underlying3 w3) (trodAll_cons_mk (Below.trod laidOut (by kernel_rfl) (of_decide_eq_true (by kernel_rfl)) k4 bel lt4) trodAll_mk0))))), rfl, bel.frame _, fun h => by cases h⟩

theorem row_proved : Rows.RingGoesSaid :=
  OpenClaim.holds_of_wide 4 Tryd.f4 rfl rfl rfl rfl rfl rfl rfl ⟨rfl, rfl, rfl, rfl, rfl⟩ rfl rfl rfl rfl rfl (by kernel_rfl) Tryd.func4 (by kernel_rfl)
    (of_decide_eq_true (by kernel_rfl)) (by unfold Func.isWrapper; rw [if_neg (by decide +kernel)]; exact ⟨rfl, rfl⟩)
    (fun os started H enc _ => lifted os started H enc)

theorem proved : Rows.RingGoesCardSaid :=
  Claim7.holds_tied_plain_at .later [] [.data] true Rows.ringGoesCard.stood.harness false
    row_proved (fun _ h => by cases h) (by kernel_rfl) (fun _ h => by cases h) ringGoes_row_tie rfl ⟨rfl, rfl⟩ (by kernel_rfl) rfl
    (fun f fn hf hfn => by
      obtain rfl : f = 4 := Option.some.inj ((show Tryd.prog.funcNamed "portmanteau/portmanteaulaw06.RingGoes" = some 4 by kernel_rfl).symm.trans hf) |>.symm
      obtain rfl : fn = Tryd.f4 := (Option.some.inj (Tryd.func4.symm.trans hfn)).symm
      exact ⟨by kernel_rfl, fun j t ht => by
        rw [Tryd.params4] at ht
        have hall : ∀ t ∈ [3, 22, 22, 3, 38], Tryd.prog.wantsStandIn t = false := by
          intro t ht
          simp only [List.mem_cons, List.not_mem_nil, or_false] at ht
          rcases ht with rfl | rfl | rfl | rfl | rfl
          all_goals kernel_rfl
        refine hall t ?_
        rw [← Array.getElem?_toList] at ht
        exact List.mem_of_getElem? ht⟩)
    (by kernel_rfl)

#print axioms proved

end Go.Proofs.YteogpmapbeogpaaDoor.ringGoes
