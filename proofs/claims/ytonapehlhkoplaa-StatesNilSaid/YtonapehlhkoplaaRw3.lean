/-
  Rows of a call's own, whatever the size of their elements; rows of cells. Conditions: those that each theorem states.
-/
import Derived.Deep.AppendLies
import Derived.Test.YtonapehlhkoplaaBl1
namespace Go.Proofs.Ytonapehlhkoplaa
open Go.RowKit Go.Shelf

section
variable {W W' : World} {B : Nat} {v : Value} {e : TypeId} {z n : Nat} {xs : List Value}
theorem ro_lt (h : W.ownsRow B e z v n xs) {g : Nat} (hg : v.ownBlock = some g) : g < W.heap.size := by
  rcases h.2 with ⟨rfl, _⟩ | ⟨g', c, cur, rfl, _, hh, _⟩
  · cases hg
  · injection hg with hg
    subst hg
    exact (Array.getElem?_eq_some_iff.1 hh).1
theorem ro_same (h : W.ownsRow B e z v n xs) (hb : ∀ g, v.ownBlock = some g → W'.heap[g]? = W.heap[g]?) : W'.ownsRow B e z v n xs := by
  refine ⟨h.1, ?_⟩
  rcases h.2 with h1 | ⟨g, c, cur, rfl, h2, hh, h3⟩
  · exact .inl h1
  · exact .inr ⟨g, c, cur, rfl, h2, (hb g rfl).trans hh, h3⟩
theorem ro_below (h : W.ownsRow B e z v n xs) (hb : Below W.heap.size W W') : W'.ownsRow B e z v n xs := ro_same h fun _ hg => hb.block _ (ro_lt h hg)
theorem ro_form (h : W.ownsRow B e z v n xs) : ∃ A c, v = .slice A n c ∧ n ≤ c := by
  rcases h.2 with ⟨rfl, hn⟩ | ⟨g, c, cur, rfl, _, _, hc, _⟩
  · exact ⟨none, 0, by rw [hn], by omega⟩
  · exact ⟨_, _, rfl, hc⟩
theorem ro_some {N c : Nat} {A : Option Addr} (h0 : 0 < n) (h : W.ownsRow B e z (.slice A N c) n xs) : ∃ g, A = some ⟨g, 0, none⟩ := by
  rcases h.2 with ⟨_, hn⟩ | ⟨g, c, cur, hv, _⟩
  · omega
  · injection hv with hA
    exact ⟨g, hA⟩
theorem ro_base {B' : Nat} (h : W.ownsRow B e z v n xs) (hb : B' ≤ B) : W.ownsRow B' e z v n xs := by
  refine ⟨h.1, ?_⟩
  rcases h.2 with h1 | ⟨g, c, cur, rfl, h2, h3⟩
  · exact .inl h1
  · exact .inr ⟨g, c, cur, rfl, Nat.le_trans hb h2, h3⟩
end

theorem und_cells : Try.prog.underlying 30 = some (.slice 35) := by kernel_rfl
theorem cel_info : (Try.prog.info? 35).map (fun i => (i.zero, i.size, i.bytes)) = some (some (.agg #[.int .i64 0, .int .i64 0, .int .i64 0]), 3, 24) := by kernel_rfl
theorem flat3_zero (n : Nat) : flat3 (List.replicate n (0, 0, 0)) = List.replicate (n * 3) (nw 0) := by
  induction n with
  | zero => rfl
  | succ n ih =>
    rw [show (n + 1) * 3 = n * 3 + 1 + 1 + 1 by omega]
    simp only [List.replicate_succ, flat3, List.flatMap_cons] at ih ⊢
    rw [ih]
    rfl
theorem made_cells (n : Nat) : (madeCells (Value.agg #[.int .i64 0, .int .i64 0, .int .i64 0]).cells (n * 3)).toList = flat3 (List.replicate n (0, 0, 0)) := by
  rw [flat3_zero]
  refine List.ext_getElem? fun j => ?_
  simp only [madeCells, Value.cells]
  rcases Nat.lt_or_ge j (n * 3) with h | h
  · have h3 : j % 3 < 3 := Nat.mod_lt _ (by decide)
    have h4 : j % 3 = 0 ∨ j % 3 = 1 ∨ j % 3 = 2 := by omega
    rcases h4 with h4 | h4 | h4 <;> simp [h, h4]
  · simp [h]
theorem make_cells (n : Nat) (hn : n ≤ 1000000) (W : World) : ∃ w1, (Instr.makeSlice 30 (.int .i64 (n : Int)) (.int .i64 (n : Int))).run Try.prog W = .ok (.slice (some ⟨W.heap.size, 0, none⟩) n n) w1 ∧
    w1.ownsRow W.heap.size 35 3 (.slice (some ⟨W.heap.size, 0, none⟩) n n) n (flat3 (List.replicate n (0, 0, 0))) ∧ Below W.heap.size W w1 := by
  obtain ⟨i0, hi, hz0, hz1, hz2⟩ := info_parts cel_info
  obtain ⟨w1, h1, h2, h3⟩ := run_makeSlice_full (P := Try.prog) W W.heap.size 30 35 i0 (.agg #[.int .i64 0, .int .i64 0, .int .i64 0]) 3 und_cells hi hz0 hz1 .i64 .i64 n (by omega) (by rw [hz2]; omega) (by unfold maxLen; omega) (Nat.le_refl _)
  rw [made_cells] at h2
  exact ⟨w1, h1, h2, (Below.refl _ _).grown h3 (Nat.le_refl _) (fun k e => by cases e)⟩
theorem row_put {W : World} {B g n c : Nat} {C : List (Nat × Nat × Nat)} (h : W.ownsRow B 35 3 (.slice (some ⟨g, 0, none⟩) n c) n (flat3 C)) (j : Nat) (q : Nat × Nat × Nat) :
    (((W.setCell ⟨g, j * 3, none⟩ (nw q.1)).setCell ⟨g, j * 3 + 1, none⟩ (nw q.2.1)).setCell ⟨g, j * 3 + 2, none⟩ (nw q.2.2)).ownsRow B 35 3 (.slice (some ⟨g, 0, none⟩) n c) n (flat3 (C.set j q)) := by
  rw [← flat3_set]
  exact ((((h.stored (j * 3) _).1).stored (j * 3 + 1) _).1.stored (j * 3 + 2) _).1

theorem row_at {W : World} {B g n c : Nat} {C : List (Nat × Nat × Nat)} (h : W.ownsRow B 35 3 (.slice (some ⟨g, 0, none⟩) n c) n (flat3 C)) {j : Nat} {p : Nat × Nat × Nat} (hj : C[j]? = some p) :
    W.cell? ⟨g, j * 3, none⟩ = some (nw p.1) ∧ W.cell? ⟨g, j * 3 + 1, none⟩ = some (nw p.2.1) ∧ W.cell? ⟨g, j * 3 + 2, none⟩ = some (nw p.2.2) := by
  have hl := (List.getElem?_eq_some_iff.1 hj).1
  have hn : n = C.length := by have := h.1; rw [flat3_len] at this; omega
  obtain ⟨h1, h2, h3⟩ := flat3_get hj
  exact ⟨(h.cellAt _ (by omega)).trans h1, (h.cellAt _ (by omega)).trans h2, (h.cellAt _ (by omega)).trans h3⟩
/-- What a store of a cell asks. -/
theorem row_for {W : World} {B g n c : Nat} {C : List (Nat × Nat × Nat)} (h : W.ownsRow B 35 3 (.slice (some ⟨g, 0, none⟩) n c) n (flat3 C)) {j : Nat} (hj : j < n) (p q : Nat) :
    ∃ u0 u1 u2 : Nat, W.cell? ⟨g, j * 3, none⟩ = some (nw u0) ∧ W.frozen? ⟨g, j * 3, none⟩ = false ∧
      (W.setCell ⟨g, j * 3, none⟩ (nw p)).cell? ⟨g, j * 3 + 1, none⟩ = some (nw u1) ∧ (W.setCell ⟨g, j * 3, none⟩ (nw p)).frozen? ⟨g, j * 3 + 1, none⟩ = false ∧
      ((W.setCell ⟨g, j * 3, none⟩ (nw p)).setCell ⟨g, j * 3 + 1, none⟩ (nw q)).cell? ⟨g, j * 3 + 2, none⟩ = some (nw u2) ∧ ((W.setCell ⟨g, j * 3, none⟩ (nw p)).setCell ⟨g, j * 3 + 1, none⟩ (nw q)).frozen? ⟨g, j * 3 + 2, none⟩ = false := by
  have hn : n = C.length := by have := h.1; rw [flat3_len] at this; omega
  obtain ⟨u, hu⟩ : ∃ u, C[j]? = some u := ⟨_, List.getElem?_eq_getElem (by omega)⟩
  obtain ⟨h1, h2, h3⟩ := flat3_get hu
  have o1 := (h.stored (j * 3) (nw p)).1
  have o2 := (o1.stored (j * 3 + 1) (nw q)).1
  refine ⟨u.1, u.2.1, u.2.2, (h.cellAt _ (by omega)).trans h1, h.frozenAt _, (o1.cellAt _ (by omega)).trans ?_, o1.frozenAt _, (o2.cellAt _ (by omega)).trans ?_, o2.frozenAt _⟩
  · rw [List.getElem?_set_ne (by omega)]; exact h2
  · rw [List.getElem?_set_ne (by omega), List.getElem?_set_ne (by omega)]; exact h3

/-- The cells that are built so far. -/
def prt (C : List (Nat × Nat × Nat)) (i : Nat) : List (Nat × Nat × Nat) := C.take i ++ List.replicate (C.length - i) (0, 0, 0)
theorem prt_zero (C : List (Nat × Nat × Nat)) : prt C 0 = List.replicate C.length (0, 0, 0) := by simp [prt]
theorem prt_all (C : List (Nat × Nat × Nat)) : prt C C.length = C := by simp [prt]
theorem prt_len {C : List (Nat × Nat × Nat)} {i : Nat} (h : i ≤ C.length) : (prt C i).length = C.length := by simp [prt]; omega
theorem prt_set {C : List (Nat × Nat × Nat)} {i : Nat} {q : Nat × Nat × Nat} (h : C[i]? = some q) : (prt C i).set i q = prt C (i + 1) := by
  have hl := (List.getElem?_eq_some_iff.1 h).1
  unfold prt
  rw [take_succ_get h, List.set_append_right _ _ (by simp; omega)]
  have e : i - (C.take i).length = 0 := by simp; omega
  have e2 : C.length - i = (C.length - (i + 1)) + 1 := by omega
  rw [e, e2, List.replicate_succ, List.set_cons_zero, List.append_assoc]
  rfl

/-- What Build's loop has done when i states are behind it. -/
structure BSt (w5 W : World) (B bt bm b g i y : Nat) (A : Option Addr) (N c : Nat) (l : List Int) (K : List Nat) (s : Nat) (m : Nat → Option Nat) : Prop where
  bld : Bld W bt bm b i (y : Int) A N c m
  cnt : ∀ x, (m x).getD 0 = (K.take i).count x
  own : W.ownsRow B 35 3 (.slice (some ⟨g, 0, none⟩) s s) s (flat3 (prt (cls y l K) i))
  chg : Chg (fun q => q = b ∨ q = g) w5 W
  apart : bt ≠ g ∧ bm ≠ g ∧ b ≠ g

theorem BSt.next {w5 W W7 : World} {B bt bm b g i y : Nat} {A : Option Addr} {N c : Nat} {l : List Int} {K : List Nat} {s x k p q : Nat} {m : Nat → Option Nat} (h : BSt w5 W B bt bm b g i y A N c l K s m)
    (hx : K[i]? = some x) (hk : (K.take i).count x = k) (hc : cel y l K i = (x, p, q)) (hB : Bld W7 bt bm b (i + 1) (y : Int) A N c (upd m x (k + 1))) (hC : Chg (fun q => q = b) W W7) :
    W7.ownsRow B 35 3 (.slice (some ⟨g, 0, none⟩) s s) s (flat3 (prt (cls y l K) i)) ∧
    BSt w5 (((W7.setCell ⟨g, i * 3, none⟩ (nw x)).setCell ⟨g, i * 3 + 1, none⟩ (nw p)).setCell ⟨g, i * 3 + 2, none⟩ (nw q)) B bt bm b g (i + 1) y A N c l K s (upd m x (k + 1)) := by
  have hgl : g < W.heap.size := ro_lt h.own rfl
  have ho : W7.ownsRow B 35 3 (.slice (some ⟨g, 0, none⟩) s s) s (flat3 (prt (cls y l K) i)) := ro_same h.own fun g' hg' => by
    injection hg' with hg'
    subst hg'
    exact hC.block _ hgl (fun e => h.apart.2.2 e.symm)
  have hl := (List.getElem?_eq_some_iff.1 hx).1
  have hh : ∀ r, r ≠ g → (((W7.setCell ⟨g, i * 3, none⟩ (nw x)).setCell ⟨g, i * 3 + 1, none⟩ (nw p)).setCell ⟨g, i * 3 + 2, none⟩ (nw q)).heap[r]? = W7.heap[r]? := fun r hr => by
    rw [Below.heap_setCell _ _ _ _ hr, Below.heap_setCell _ _ _ _ hr, Below.heap_setCell _ _ _ _ hr]
  refine ⟨ho, hB.same (fun r e => hh r ?_), fun r => ?_, ?_, ?_, h.apart⟩
  · rcases e with rfl | rfl | rfl
    · exact h.apart.1
    · exact h.apart.2.1
    · exact h.apart.2.2
  · rw [take_succ_get hx, List.count_append, List.count_singleton]
    by_cases hr : r = x
    · subst hr
      rw [upd_same, hk]; simp
    · rw [upd_other m (k + 1) hr, h.cnt r]
      have : ¬ x = r := fun e => hr e.symm
      simp [this]
  · have hq : (cls y l K)[i]? = some (x, p, q) := by rw [cls_get hl, hc]
    rw [← prt_set hq]
    exact row_put ho i (x, p, q)
  · have h7 : Chg (fun q => q = b ∨ q = g) W W7 := ⟨hC.os, hC.tape, hC.output, hC.size, fun r hr hn => hC.block r hr (fun e => hn (.inl e))⟩
    exact (((h.chg.trans h7).set ⟨g, i * 3, none⟩ (.inr rfl) _).set ⟨g, i * 3 + 1, none⟩ (.inr rfl) _).set ⟨g, i * 3 + 2, none⟩ (.inr rfl) _

/-- What the symbol of a state says of its norm. -/
theorem vt_norm {y : Nat} {l : List Int} (h : Vt y l) {i x : Nat} (hx : (spl (2 ^ y) l)[i]? = some x) : ∃ z n, l[x]? = some z ∧ -1 ≤ z ∧ sts z = ((n : Nat) : Int) ∧ nos l x = n := by
  have hm : x ∈ spl (2 ^ y) l := List.mem_of_getElem? hx
  have hl := spl_lt h hm
  obtain ⟨z, hz⟩ : ∃ z, l[x]? = some z := ⟨_, List.getElem?_eq_getElem hl⟩
  have h1 : -1 ≤ z := by
    have := List.all_eq_true.1 h.ok z (List.mem_of_getElem? hz)
    simpa using this
  have h2 := h.count x
  rw [hz] at h2
  refine ⟨z, nos l x, hz, h1, ?_, rfl⟩
  unfold Go.Proofs.Ytonapehlhkoplaa.nos
  rw [hz]
  simp only at h2 ⊢
  omega

end Go.Proofs.Ytonapehlhkoplaa
