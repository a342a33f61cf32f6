/-
  Rows of a call's own, whatever the size of their elements; rows of cells. Conditions: those that each theorem states.
  What cells.Build does: it returns the cell of each state of a valid table, in new memory, or the error. Nothing that was there has changed. Condition: a slice can hold the norms.
  What Next and SingleSymbol of package cells, and Next and One of the reference, do. Nothing that was there has changed. Conditions: those that each theorem states.
  The mathematics of the state machine: the places of a symbol, the number that belongs to a state, the cell that leads to it. Conditions: those that each theorem states.
  The states of each symbol, as rows in memory, and what collect of package states does: it makes them. Nothing that was there has changed. Conditions: those that each theorem states.
  A Coder in memory, and what New of package states does: it returns a Coder of a valid table, in new memory, or the error. Nothing that was there has changed. Conditions: those that each theorem states.
  A Step as a value and as a block; a Cell or a Step that is stored into a new variable. No condition.
  What none, check, own, place and Log of package states do. Nothing has changed. Conditions: those that each theorem states.
-/
import Derived.Deep.AppendLies
import Derived.Test.YtnlhokfhkohdpaaGreatSd
import Derived.Lib.BitFns
import Derived.Lib.Strings
import Derived.Lib.Slices
import Derived.Lib.Small
import Derived.Lib.Walk
import Derived.Laws.BitsAllLaws
import Derived.Deep.RegionHeld3
namespace Go.Proofs.YtnlhokfhkohdpaaGreat
open Go.RowKit Go.Shelf

section
variable {W W' : World} {B : Nat} {v : Value} {e : TypeId} {z n : Nat} {xs : List Value}
theorem ro_lt (h : W.ownsRow B e z v n xs) {g : Nat} (hg : v.ownBlock = some g) : g < W.heap.size := by
  rcases h.2 with ⟨rfl, _⟩ | ⟨g', c, cur, rfl, _, hh, _⟩
  · cases hg
  · injection hg with hg
    subst hg
    exact (Array.getElem?_eq_some_iff.1 hh).1
theorem ro_same (h : W.ownsRow B e z v n xs) (hb : ∀ g, v.ownBlock = some g → W'.heap[g]? = W.heap[g]?) : W'.ownsRow B e z v n xs := by
  refine ⟨h.1, ?_⟩
  rcases h.2 with h1 | ⟨g, c, cur, rfl, h2, hh, h3⟩
  · exact .inl h1
  · exact .inr ⟨g, c, cur, rfl, h2, (hb g rfl).trans hh, h3⟩
theorem ro_below (h : W.ownsRow B e z v n xs) (hb : Below W.heap.size W W') : W'.ownsRow B e z v n xs := ro_same h fun _ hg => hb.block _ (ro_lt h hg)
theorem ro_form (h : W.ownsRow B e z v n xs) : ∃ A c, v = .slice A n c ∧ n ≤ c := by
  rcases h.2 with ⟨rfl, hn⟩ | ⟨g, c, cur, rfl, _, _, hc, _⟩
  · exact ⟨none, 0, by rw [hn], by omega⟩
  · exact ⟨_, _, rfl, hc⟩
theorem ro_some {N c : Nat} {A : Option Addr} (h0 : 0 < n) (h : W.ownsRow B e z (.slice A N c) n xs) : ∃ g, A = some ⟨g, 0, none⟩ := by
  rcases h.2 with ⟨_, hn⟩ | ⟨g, c, cur, hv, _⟩
  · omega
  · injection hv with hA
    exact ⟨g, hA⟩
theorem ro_base {B' : Nat} (h : W.ownsRow B e z v n xs) (hb : B' ≤ B) : W.ownsRow B' e z v n xs := by
  refine ⟨h.1, ?_⟩
  rcases h.2 with h1 | ⟨g, c, cur, rfl, h2, h3⟩
  · exact .inl h1
  · exact .inr ⟨g, c, cur, rfl, Nat.le_trans hb h2, h3⟩
end

theorem und_cells : Tryz.prog.underlying 85 = some (.slice 139) := by kernel_rfl
theorem cel_info : (Tryz.prog.info? 139).map (fun i => (i.zero, i.size, i.bytes)) = some (some (.agg #[.int .i64 0, .int .i64 0, .int .i64 0]), 3, 24) := by kernel_rfl
theorem flat3_zero (n : Nat) : flat3 (List.replicate n (0, 0, 0)) = List.replicate (n * 3) (nw 0) := by
  induction n with
  | zero => rfl
  | succ n ih =>
    rw [show (n + 1) * 3 = n * 3 + 1 + 1 + 1 by omega]
    simp only [List.replicate_succ, flat3, List.flatMap_cons] at ih ⊢
    rw [ih]
    rfl
theorem made_cells (n : Nat) : (madeCells (Value.agg #[.int .i64 0, .int .i64 0, .int .i64 0]).cells (n * 3)).toList = flat3 (List.replicate n (0, 0, 0)) := by
  rw [flat3_zero]
  refine List.ext_getElem? fun j => ?_
  simp only [madeCells, Value.cells]
  rcases Nat.lt_or_ge j (n * 3) with h | h
  · have h3 : j % 3 < 3 := Nat.mod_lt _ (by decide)
    have h4 : j % 3 = 0 ∨ j % 3 = 1 ∨ j % 3 = 2 := by omega
    rcases h4 with h4 | h4 | h4 <;> simp [h, h4]
  · simp [h]
theorem make_cells (n : Nat) (hn : n ≤ 1000000) (W : World) : ∃ w1, (Instr.makeSlice 85 (.int .i64 (n : Int)) (.int .i64 (n : Int))).run Tryz.prog W = .ok (.slice (some ⟨W.heap.size, 0, none⟩) n n) w1 ∧
    w1.ownsRow W.heap.size 139 3 (.slice (some ⟨W.heap.size, 0, none⟩) n n) n (flat3 (List.replicate n (0, 0, 0))) ∧ Below W.heap.size W w1 := by
  obtain ⟨i0, hi, hz0, hz1, hz2⟩ := info_parts cel_info
  obtain ⟨w1, h1, h2, h3⟩ := run_makeSlice_full (P := Tryz.prog) W W.heap.size 85 139 i0 (.agg #[.int .i64 0, .int .i64 0, .int .i64 0]) 3 und_cells hi hz0 hz1 .i64 .i64 n (by omega) (by rw [hz2]; omega) (by unfold maxLen; omega) (Nat.le_refl _)
  rw [made_cells] at h2
  exact ⟨w1, h1, h2, (Below.refl _ _).grown h3 (Nat.le_refl _) (fun k e => by cases e)⟩
theorem row_put {W : World} {B g n c : Nat} {C : List (Nat × Nat × Nat)} (h : W.ownsRow B 139 3 (.slice (some ⟨g, 0, none⟩) n c) n (flat3 C)) (j : Nat) (q : Nat × Nat × Nat) :
    (((W.setCell ⟨g, j * 3, none⟩ (nw q.1)).setCell ⟨g, j * 3 + 1, none⟩ (nw q.2.1)).setCell ⟨g, j * 3 + 2, none⟩ (nw q.2.2)).ownsRow B 139 3 (.slice (some ⟨g, 0, none⟩) n c) n (flat3 (C.set j q)) := by
  rw [← flat3_set]
  exact ((((h.stored (j * 3) _).1).stored (j * 3 + 1) _).1.stored (j * 3 + 2) _).1

theorem row_at {W : World} {B g n c : Nat} {C : List (Nat × Nat × Nat)} (h : W.ownsRow B 139 3 (.slice (some ⟨g, 0, none⟩) n c) n (flat3 C)) {j : Nat} {p : Nat × Nat × Nat} (hj : C[j]? = some p) :
    W.cell? ⟨g, j * 3, none⟩ = some (nw p.1) ∧ W.cell? ⟨g, j * 3 + 1, none⟩ = some (nw p.2.1) ∧ W.cell? ⟨g, j * 3 + 2, none⟩ = some (nw p.2.2) := by
  have hl := (List.getElem?_eq_some_iff.1 hj).1
  have hn : n = C.length := by have := h.1; rw [flat3_len] at this; omega
  obtain ⟨h1, h2, h3⟩ := flat3_get hj
  exact ⟨(h.cellAt _ (by omega)).trans h1, (h.cellAt _ (by omega)).trans h2, (h.cellAt _ (by omega)).trans h3⟩
/-- What a store of a cell asks. -/
theorem row_for {W : World} {B g n c : Nat} {C : List (Nat × Nat × Nat)} (h : W.ownsRow B 139 3 (.slice (some ⟨g, 0, none⟩) n c) n (flat3 C)) {j : Nat} (hj : j < n) (p q : Nat) :
    ∃ u0 u1 u2 : Nat, W.cell? ⟨g, j * 3, none⟩ = some (nw u0) ∧ W.frozen? ⟨g, j * 3, none⟩ = false ∧
      (W.setCell ⟨g, j * 3, none⟩ (nw p)).cell? ⟨g, j * 3 + 1, none⟩ = some (nw u1) ∧ (W.setCell ⟨g, j * 3, none⟩ (nw p)).frozen? ⟨g, j * 3 + 1, none⟩ = false ∧
      ((W.setCell ⟨g, j * 3, none⟩ (nw p)).setCell ⟨g, j * 3 + 1, none⟩ (nw q)).cell? ⟨g, j * 3 + 2, none⟩ = some (nw u2) ∧ ((W.setCell ⟨g, j * 3, none⟩ (nw p)).setCell ⟨g, j * 3 + 1, none⟩ (nw q)).frozen? ⟨g, j * 3 + 2, none⟩ = false := by
  have hn : n = C.length := by have := h.1; rw [flat3_len] at this; omega
  obtain ⟨u, hu⟩ : ∃ u, C[j]? = some u := ⟨_, List.getElem?_eq_getElem (by omega)⟩
  obtain ⟨h1, h2, h3⟩ := flat3_get hu
  have o1 := (h.stored (j * 3) (nw p)).1
  have o2 := (o1.stored (j * 3 + 1) (nw q)).1
  refine ⟨u.1, u.2.1, u.2.2, (h.cellAt _ (by omega)).trans h1, h.frozenAt _, (o1.cellAt _ (by omega)).trans ?_, o1.frozenAt _, (o2.cellAt _ (by omega)).trans ?_, o2.frozenAt _⟩
  · rw [List.getElem?_set_ne (by omega)]; exact h2
  · rw [List.getElem?_set_ne (by omega), List.getElem?_set_ne (by omega)]; exact h3

/-- The cells that are built so far. -/
def prt (C : List (Nat × Nat × Nat)) (i : Nat) : List (Nat × Nat × Nat) := C.take i ++ List.replicate (C.length - i) (0, 0, 0)
theorem prt_zero (C : List (Nat × Nat × Nat)) : prt C 0 = List.replicate C.length (0, 0, 0) := by simp [prt]
theorem prt_all (C : List (Nat × Nat × Nat)) : prt C C.length = C := by simp [prt]
theorem prt_len {C : List (Nat × Nat × Nat)} {i : Nat} (h : i ≤ C.length) : (prt C i).length = C.length := by simp [prt]; omega
theorem prt_set {C : List (Nat × Nat × Nat)} {i : Nat} {q : Nat × Nat × Nat} (h : C[i]? = some q) : (prt C i).set i q = prt C (i + 1) := by
  have hl := (List.getElem?_eq_some_iff.1 h).1
  unfold prt
  rw [take_succ_get h, List.set_append_right _ _ (by simp; omega)]
  have e : i - (C.take i).length = 0 := by simp; omega
  have e2 : C.length - i = (C.length - (i + 1)) + 1 := by omega
  rw [e, e2, List.replicate_succ, List.set_cons_zero, List.append_assoc]
  rfl

/-- What Build's loop has done when i states are behind it. -/
structure BSt (w5 W : World) (B bt bm b g i y : Nat) (A : Option Addr) (N c : Nat) (l : List Int) (K : List Nat) (s : Nat) (m : Nat → Option Nat) : Prop where
  bld : Bld W bt bm b i (y : Int) A N c m
  cnt : ∀ x, (m x).getD 0 = (K.take i).count x
  own : W.ownsRow B 139 3 (.slice (some ⟨g, 0, none⟩) s s) s (flat3 (prt (cls y l K) i))
  chg : Chg (fun q => q = b ∨ q = g) w5 W
  apart : bt ≠ g ∧ bm ≠ g ∧ b ≠ g

theorem BSt.next {w5 W W7 : World} {B bt bm b g i y : Nat} {A : Option Addr} {N c : Nat} {l : List Int} {K : List Nat} {s x k p q : Nat} {m : Nat → Option Nat} (h : BSt w5 W B bt bm b g i y A N c l K s m)
    (hx : K[i]? = some x) (hk : (K.take i).count x = k) (hc : cel y l K i = (x, p, q)) (hB : Bld W7 bt bm b (i + 1) (y : Int) A N c (upd m x (k + 1))) (hC : Chg (fun q => q = b) W W7) :
    W7.ownsRow B 139 3 (.slice (some ⟨g, 0, none⟩) s s) s (flat3 (prt (cls y l K) i)) ∧
    BSt w5 (((W7.setCell ⟨g, i * 3, none⟩ (nw x)).setCell ⟨g, i * 3 + 1, none⟩ (nw p)).setCell ⟨g, i * 3 + 2, none⟩ (nw q)) B bt bm b g (i + 1) y A N c l K s (upd m x (k + 1)) := by
  have hgl : g < W.heap.size := ro_lt h.own rfl
  have ho : W7.ownsRow B 139 3 (.slice (some ⟨g, 0, none⟩) s s) s (flat3 (prt (cls y l K) i)) := ro_same h.own fun g' hg' => by
    injection hg' with hg'
    subst hg'
    exact hC.block _ hgl (fun e => h.apart.2.2 e.symm)
  have hl := (List.getElem?_eq_some_iff.1 hx).1
  have hh : ∀ r, r ≠ g → (((W7.setCell ⟨g, i * 3, none⟩ (nw x)).setCell ⟨g, i * 3 + 1, none⟩ (nw p)).setCell ⟨g, i * 3 + 2, none⟩ (nw q)).heap[r]? = W7.heap[r]? := fun r hr => by
    rw [Below.heap_setCell _ _ _ _ hr, Below.heap_setCell _ _ _ _ hr, Below.heap_setCell _ _ _ _ hr]
  refine ⟨ho, hB.same (fun r e => hh r ?_), fun r => ?_, ?_, ?_, h.apart⟩
  · rcases e with rfl | rfl | rfl
    · exact h.apart.1
    · exact h.apart.2.1
    · exact h.apart.2.2
  · rw [take_succ_get hx, List.count_append, List.count_singleton]
    by_cases hr : r = x
    · subst hr
      rw [upd_same, hk]; simp
    · rw [upd_other m (k + 1) hr, h.cnt r]
      have : ¬ x = r := fun e => hr e.symm
      simp [this]
  · have hq : (cls y l K)[i]? = some (x, p, q) := by rw [cls_get hl, hc]
    rw [← prt_set hq]
    exact row_put ho i (x, p, q)
  · have h7 : Chg (fun q => q = b ∨ q = g) W W7 := ⟨hC.os, hC.tape, hC.output, hC.size, fun r hr hn => hC.block r hr (fun e => hn (.inl e))⟩
    exact (((h.chg.trans h7).set ⟨g, i * 3, none⟩ (.inr rfl) _).set ⟨g, i * 3 + 1, none⟩ (.inr rfl) _).set ⟨g, i * 3 + 2, none⟩ (.inr rfl) _

/-- What the symbol of a state says of its norm. -/
theorem vt_norm {y : Nat} {l : List Int} (h : Vt y l) {i x : Nat} (hx : (spl (2 ^ y) l)[i]? = some x) : ∃ z n, l[x]? = some z ∧ -1 ≤ z ∧ sts z = ((n : Nat) : Int) ∧ nos l x = n := by
  have hm : x ∈ spl (2 ^ y) l := List.mem_of_getElem? hx
  have hl := spl_lt h hm
  obtain ⟨z, hz⟩ : ∃ z, l[x]? = some z := ⟨_, List.getElem?_eq_getElem hl⟩
  have h1 : -1 ≤ z := by
    have := List.all_eq_true.1 h.ok z (List.mem_of_getElem? hz)
    simpa using this
  have h2 := h.count x
  rw [hz] at h2
  refine ⟨z, nos l x, hz, h1, ?_, rfl⟩
  unfold Go.Proofs.YtnlhokfhkohdpaaGreat.nos
  rw [hz]
  simp only at h2 ⊢
  omega

end Go.Proofs.YtnlhokfhkohdpaaGreat

namespace Go.Proofs.YtnlhokfhkohdpaaGreat
open Go.RowKit Go.Shelf Go.Maps

set_option maxRecDepth 100000 in
set_option maxHeartbeats 4000000 in
theorem build_ok (w : World) (y s : Nat) (A : Option Addr) (l : List Int) (N c : Nat) (hN : l.length = N) (hv : Vt y l) (hse : 2 ^ y = s) (hR : Ri w A l) :
    Calls Tryz.prog 37 #[tb y A N c] w fun e w' => ∃ g, e = .returned (.tuple #[.slice (some ⟨g, 0, none⟩) s s, .int .i64 0]) ∧ w'.ownsRow w.heap.size 139 3 (.slice (some ⟨g, 0, none⟩) s s) s (flat3 (cls y l (spl s l))) ∧ Below w.heap.size w w' := by
  have hN2 : N ≤ 256 := by rw [← hN]; exact hv.len
  have hy9 := hv.log
  have hs5 : s ≤ 512 := by rw [← hse]; exact hv.size
  have hs1 : 1 ≤ s := by rw [← hse]; exact Nat.one_le_two_pow
  have b1 : Below w.heap.size w (w.alloc (.cells #[.int .i64 (y : Int), .slice A N c] 28)) := (Below.refl _ w).alloc (Nat.le_refl _) _
  have t1 := Tb.new w (y : Int) A N c
  obtain ⟨w1, hw1⟩ : ∃ w1, w.alloc (.cells #[.int .i64 (y : Int), .slice A N c] 28) = w1 := ⟨_, rfl⟩
  rw [hw1] at b1 t1
  have c0 := t1.c0
  have c1 := t1.c1
  have SP : Hid (Calls Tryz.prog 65 #[tb y A N c] w1 fun e w' => ∃ g, e = .returned (.tuple #[.slice (some ⟨g, 0, none⟩) s s, .int .i64 0]) ∧ w'.ownsRow w1.heap.size 3 1 (.slice (some ⟨g, 0, none⟩) s s) s ((spl s l).map nv) ∧ Below w1.heap.size w1 w') := Lib.hid (spread_ok w1 y s A l N c hN hv hse (hR.below b1))
  have B1 := Lib.hid b1
  have T1 := Lib.hid t1
  have HL : Hid ((cls y l (spl s l)).length = s ∧ (spl s l).length = s) := Lib.hid ⟨by rw [cls_len, spl_len], spl_len s l⟩
  have HA : Hid (∀ ad, A = some ad → ad.block < w.heap.size) := Lib.hid (fun ad e => by
    obtain ⟨z0, hz0⟩ : ∃ z0, l[0]? = some z0 := ⟨_, List.getElem?_eq_getElem (by have := hv.pos; omega)⟩
    obtain ⟨ad', e', hc⟩ := hR 0 (iv z0) (by rw [List.getElem?_map, hz0]; rfl)
    rw [e] at e'
    injection e' with e'
    have := cell_lt hc
    rw [addr_add_block, ← e'] at this
    exact this)
  obtain ⟨K, hK⟩ : ∃ K, spl s l = K := ⟨_, rfl⟩
  have HV : Hid (∀ i x, K[i]? = some x → ∃ z n, l[x]? = some z ∧ -1 ≤ z ∧ sts z = ((n : Nat) : Int) ∧ xof l K i = n + (K.take i).count x ∧ Num y n (xof l K i)) := Lib.hid (fun i x hx => by
    rw [← hK, ← hse] at hx ⊢
    obtain ⟨z, n, h1, h2, h3, h4⟩ := vt_norm hv hx
    refine ⟨z, n, h1, h2, h3, ?_, ?_⟩
    · unfold xof; rw [hx, Option.getD_some, h4]
    · have := hv.num hx; rwa [h4] at this)
  have HR := Lib.hid hR
  have HN := Lib.hid hN
  rw [hK] at SP HL ⊢
  have HM := fun (W : World) => make_cells s (by omega) W
  clear b1 t1 hR hN hv hse hK
  go_enter Tryz.func37, Tryz.ntmps37
  go_wp2_with (first
    | (go_at_call 65; refine SP.out.mono ?_; rintro e w2 ⟨g2, rfl, ho2, hb2⟩; have O2 := Lib.hid ho2; have B2 := Lib.hid (below_on B1.out (Nat.le_refl _) hb2); have q2 := T1.out.below hb2; have a0 := q2.c0; have a1 := q2.c1; have T2 := Lib.hid q2; clear ho2 hb2 q2)
    | (go_at_call 74; refine (builder_any w2 (y : Int) A N c).mono ?_; rintro e w3 ⟨bt, bm, b, rfl, hb0, hbl, hb3⟩; have O3 := Lib.hid (own_below O2.out hb3); have L3 := Lib.hid hb0; have B3 := Lib.hid (below_on B2.out (Nat.le_refl _) hb3); have D3 := Lib.hid hbl; clear hb0 hbl hb3; obtain ⟨w4, hmk, ho4, hb4⟩ := HM w3; have O4 := Lib.hid ho4; have B4 := Lib.hid hb4; clear ho4 hb4))
  obtain ⟨g, hg⟩ : ∃ g, w3.heap.size = g := ⟨_, rfl⟩
  rw [hg] at O4 hmk B4
  simp only [hg]
  have HG := Lib.hid hg
  have G2 : Hid (g2 < w2.heap.size) := Lib.hid (own_lt O2.out rfl)
  have G3 : Hid (g2 < g ∧ b < g ∧ bt < g ∧ bm < g) := Lib.hid ⟨by rw [← hg]; exact own_lt O3.out rfl, by rw [← hg]; exact D3.out.mp.lt, by rw [← hg]; exact D3.out.tab.lt, by rw [← hg]; exact D3.out.box.lt⟩
  have S0 : Hid (∃ m, BSt w4 w4 w.heap.size bt bm b g 0 y A N c l K s m) := Lib.hid ⟨_, D3.out.below (by rw [HG.out]; exact B4.out), fun x => by simp, by
      have e := prt_zero (cls y l K)
      rw [HL.out.1] at e
      rw [e]
      exact ro_base O4.out (by rw [← HG.out]; exact B3.out.size), Chg.refl _ _, by have := G3.out; omega⟩
  have O5 : Hid (w4.ownsRow 0 3 1 (.slice (some ⟨g2, 0, none⟩) s s) s (K.map nv)) := Lib.hid (own_zero (own_below O3.out (by rw [HG.out]; exact B4.out)))
  have B5 : Hid (Below w.heap.size w w4) := Lib.hid (below_on B3.out (Nat.le_refl _) (by rw [HG.out]; exact B4.out))
  have LB : Hid (w.heap.size ≤ b ∧ w.heap.size ≤ g ∧ g2 < b) := Lib.hid ⟨by have := L3.out; have := B2.out.size; omega, by rw [← HG.out]; exact B3.out.size, by have := G2.out; have := L3.out; omega⟩
  clear a0 a1 T2 hmk O4 O3 O2 D3 B2 B3 L3 hg c0 c1 SP T1 B1 G2 HM
  go_loopw [25] (fun p wr => ∃ i : Nat, i ≤ s ∧ p = .int .i64 (i : Int) ∧ Hid (∃ m, BSt w4 wr w.heap.size bt bm b g i y A N c l K s m)) (fun p _ => s - (intOf p).toNat)
  case atStart => exact ⟨0, Nat.zero_le _, rfl, S0⟩
  case round =>
    obtain ⟨i, hi, rfl, HS⟩ := hrel
    clear S0
    by_cases hlt : i < s
    · obtain ⟨m, hs⟩ := HS.out
      obtain ⟨x, hx⟩ : ∃ x, K[i]? = some x := ⟨_, List.getElem?_eq_getElem (by rw [HL.out.2]; exact hlt)⟩
      have hk5 : wr.ownsRow 0 3 1 (.slice (some ⟨g2, 0, none⟩) s s) s (K.map nv) := own_same O5.out (fun g' e => by
        injection e with e
        subst e
        exact hs.chg.block g2 (own_lt O5.out rfl) (fun e => by have := G3.out; have := LB.out; omega))
      have cx : wr.cell? ⟨g2, i, none⟩ = some (.int .i64 (x : Int)) := by rw [hk5.cellAt i (by omega), List.getElem?_map, hx]; rfl
      obtain ⟨z, n, hz, hz1, hzn, hX, hNum⟩ := HV.out i x hx
      obtain ⟨k, hkc⟩ : ∃ k, (K.take i).count x = k := ⟨_, rfl⟩
      obtain ⟨X, hXX⟩ : ∃ X, xof l K i = X := ⟨_, rfl⟩
      rw [hkc, hXX] at hX
      rw [hXX] at hNum
      have hRr : Ri wr A l := Rv.same HR.out (fun ad e => by
        have h1 := HA.out ad e
        rw [hs.chg.block ad.block (by have := B5.out.size; omega) (fun e => by have := LB.out; omega)]
        exact B5.out.block _ h1)
      have CB := Lib.hid (builder1_any wr bt bm b i y A N c m l x k n X z hs.bld hRr (fun ad e h => by have := HA.out ad e; have := LB.out; omega) (by omega) HN.out hN2 hy9 hz hz1 hzn (by rw [hs.cnt x]; exact hkc) hX.symm hNum)
      have HC : Hid (cel y l K i = (x, bts y X, bse y X)) := Lib.hid (by unfold cel; rw [hx, hXX]; rfl)
      have HS1 := Lib.hid hs
      have HX := Lib.hid hx
      have HK := Lib.hid hkc
      obtain ⟨p, hp⟩ : ∃ p, bts y X = p := ⟨_, rfl⟩
      obtain ⟨q, hq⟩ : ∃ q, bse y X = q := ⟨_, rfl⟩
      rw [hp, hq] at CB HC
      have wi : IntKind.i64.wrap (i : Int) = (i : Int) := IntWalk.i64_in _ (by omega)
      clear hs hx hk5 hz hz1 hzn hX hNum hkc hXX hRr HS hp hq
      go_wp2_with (go_at_call 95; refine CB.out.mono ?_; rintro e w7 ⟨rfl, h7, c7⟩; obtain ⟨o7, s7⟩ := HS1.out.next HX.out HK.out HC.out h7 c7; obtain ⟨u0, u1, u2, e0, f0, e1, f1, e2, f2⟩ := row_for o7 hlt x p; obtain ⟨Wa, hWa⟩ : ∃ Wa, w7.setCell ⟨g, i * 3, none⟩ (.int .i64 (x : Int)) = Wa := ⟨_, rfl⟩; rw [hWa] at e1 f1 e2 f2 s7; obtain ⟨Wb, hWb⟩ : ∃ Wb, Wa.setCell ⟨g, i * 3 + 1, none⟩ (.int .i64 (p : Int)) = Wb := ⟨_, rfl⟩; rw [hWb] at e2 f2 s7; have S7 := Lib.hid s7; clear s7 o7 h7 c7)
      exact ⟨⟨i + 1, by omega, by simp, Lib.hid ⟨_, S7.out⟩⟩, by simp [intOf]; omega⟩
    · obtain ⟨m, hs⟩ := HS.out
      have hiS : i = s := by omega
      subst hiS
      have HE : Hid (wr.ownsRow w.heap.size 139 3 (.slice (some ⟨g, 0, none⟩) i i) i (flat3 (cls y l K))) := Lib.hid (by
        have := hs.own
        have e := prt_all (cls y l K)
        rw [HL.out.1] at e
        rwa [e] at this)
      have HB : Hid (Below w.heap.size w wr) := Lib.hid ⟨hs.chg.os.trans B5.out.os, hs.chg.tape.trans B5.out.tape, hs.chg.output.trans B5.out.output, Nat.le_trans B5.out.size hs.chg.size, fun k hk => (hs.chg.block k (Nat.lt_of_lt_of_le hk B5.out.size) (fun e => by have := LB.out; omega)).trans (B5.out.block k hk)⟩
      clear hs HS
      go_wp2
      go_ret2
      exact ⟨g, rfl, HE.out, HB.out⟩

set_option maxRecDepth 100000 in
set_option maxHeartbeats 4000000 in
theorem build_bad (w : World) (y : Int) (A : Option Addr) (l : List Int) (N c : Nat) (hN : l.length = N) (hb : N ≤ 1000000) (hv : vt y l 256 9 = false) (hR : Ri w A l) :
    Calls Tryz.prog 37 #[tb y A N c] w fun e w' => e = .returned (.tuple #[.slice none 0 0, .int .i64 13]) ∧ Below w.heap.size w w' := by
  have b1 : Below w.heap.size w (w.alloc (.cells #[.int .i64 y, .slice A N c] 28)) := (Below.refl _ w).alloc (Nat.le_refl _) _
  have t1 := Tb.new w y A N c
  obtain ⟨w1, hw1⟩ : ∃ w1, w.alloc (.cells #[.int .i64 y, .slice A N c] 28) = w1 := ⟨_, rfl⟩
  rw [hw1] at b1 t1
  have c0 := t1.c0
  have c1 := t1.c1
  have SP : Hid (Calls Tryz.prog 65 #[tb y A N c] w1 fun e w' => e = .returned (.tuple #[.slice none 0 0, .int .i64 13]) ∧ Below w1.heap.size w1 w') := Lib.hid (spread_bad w1 y A l N c hN hb hv (hR.below b1))
  have B1 := Lib.hid b1
  clear b1 t1 hR hN hv
  go_enter Tryz.func37, Tryz.ntmps37
  go_wp2_with (go_at_call 65; refine SP.out.mono ?_; rintro e w2 ⟨rfl, hb2⟩; have B2 := Lib.hid (below_on B1.out (Nat.le_refl _) hb2); clear hb2)
  go_ret2
  exact ⟨rfl, B2.out⟩

/-- The cells of any table: none where it is not valid. -/
def cex (y : Int) (l : List Int) : List (Nat × Nat × Nat) := if vt y l 256 9 then cls y.toNat l (spl (2 ^ y.toNat) l) else []
theorem cex_len (y : Int) (l : List Int) : (cex y l).length ≤ 512 := by
  unfold cex
  split
  · rename_i h
    obtain ⟨n, rfl, hv⟩ := vt_iff.1 h
    rw [cls_len, spl_len, Int.toNat_natCast]
    exact hv.size
  · exact Nat.zero_le _
theorem cex_ok {y : Nat} {l : List Int} (h : Vt y l) : cex (y : Int) l = cls y l (spl (2 ^ y) l) := by
  unfold cex
  rw [if_pos (vt_iff.2 ⟨y, rfl, h⟩), Int.toNat_natCast]
theorem cex_bad {y : Int} {l : List Int} (h : vt y l 256 9 = false) : cex y l = [] := by
  unfold cex
  rw [if_neg (by simp [h])]
theorem ro_nil (W : World) (B : Nat) (e : TypeId) (z : Nat) : W.ownsRow B e z (.slice none 0 0) 0 [] := ⟨by simp, .inl ⟨rfl, rfl⟩⟩
/-- What a function returns that returns cells and an error. -/
def OutC (B : Nat) (w : World) (C : List (Nat × Nat × Nat)) (e0 : Int) (e : Ending) (w' : World) : Prop :=
  ∃ A' r c', e = .returned (.tuple #[.slice A' r c', .int .i64 e0]) ∧ r = C.length ∧ r ≤ 512 ∧ w'.ownsRow B 139 3 (.slice A' r c') r (flat3 C) ∧ Below w.heap.size w w'
theorem outC_mk {B : Nat} {w w' : World} {C : List (Nat × Nat × Nat)} {e0 : Int} {A' : Option Addr} {r c' : Nat} (hX : C.length ≤ 512) (ho : w'.ownsRow B 139 3 (.slice A' r c') r (flat3 C)) (hb : Below w.heap.size w w') : OutC B w C e0 (.returned (.tuple #[.slice A' r c', .int .i64 e0])) w' := by
  have := ho.1
  rw [flat3_len] at this
  exact ⟨A', r, c', rfl, by omega, by omega, ho, hb⟩
theorem build_u (w : World) (y : Int) (A : Option Addr) (l : List Int) (N c : Nat) (hN : l.length = N) (hb : N ≤ 1000000) (hR : Ri w A l) :
    Calls Tryz.prog 37 #[tb y A N c] w (OutC w.heap.size w (cex y l) (err (vt y l 256 9))) := by
  have hX := cex_len y l
  cases hv : vt y l 256 9 with
  | false =>
    rw [cex_bad hv] at hX ⊢
    refine (build_bad w y A l N c hN hb hv hR).mono ?_
    rintro e w' ⟨rfl, hb'⟩
    exact outC_mk hX (ro_nil _ _ _ _) hb'
  | true =>
    obtain ⟨n, rfl, hv2⟩ := vt_iff.1 hv
    rw [cex_ok hv2] at hX ⊢
    refine (build_ok w n _ A l N c hN hv2 rfl hR).mono ?_
    rintro e w' ⟨g, rfl, ho, hb'⟩
    exact outC_mk hX ho hb'

end Go.Proofs.YtnlhokfhkohdpaaGreat

namespace Go.Proofs.YtnlhokfhkohdpaaGreat
open Go.RowKit Go.Shelf

/-- The width of a cell: its bits, clamped. -/
def wid (b : Int) : Nat := (min (max b 0) 62).toNat
theorem wid_le (b : Int) : wid b ≤ 62 := by unfold wid; omega

theorem next_num {c : Int} {v W : Nat} (hv : v < 18446744073709551616) (hW : W ≤ 62) (hc : -1099511627776 ≤ c ∧ c ≤ 1099511627776) :
    wrap64 (c + wrap64 (bits BinOp.and IntKind.u64 (v : Int) (IntKind.u64.wrap (IntKind.u64.wrap (2 ^ W) - 1)))) = c + ((v % 2 ^ W : Nat) : Int) := by
  have hp : 2 ^ W ≤ 4611686018427387904 := by
    have := Nat.pow_le_pow_right (n := 2) (by decide) hW
    rwa [show (2 : Nat) ^ 62 = 4611686018427387904 by decide] at this
  have hp1 : 0 < 2 ^ W := Nat.two_pow_pos W
  have e1 : ((2 : Int) ^ W) = ((2 ^ W : Nat) : Int) := by simp
  have hr : v % 2 ^ W < 2 ^ W := Nat.mod_lt _ hp1
  have hm : v &&& (2 ^ W - 1) = v % 2 ^ W := Nat.and_two_pow_sub_one_eq_mod v W
  rw [e1]
  obtain ⟨q, hq⟩ : ∃ q, 2 ^ W = q := ⟨_, rfl⟩
  rw [hq] at hp hp1 hr hm ⊢
  rw [IntWalk.u64_in (q : Int) (by omega), IntWalk.u64_in ((q : Int) - 1) (by omega)]
  have e2 : ((q : Int) - 1) = ((q - 1 : Nat) : Int) := by omega
  rw [e2, u64_and_nat _ _ (by omega) (by omega), hm]
  obtain ⟨r, hrr⟩ : ∃ r, v % q = r := ⟨_, rfl⟩
  rw [hrr] at hr ⊢
  unfold wrap64
  omega

set_option maxRecDepth 100000 in
set_option maxHeartbeats 2000000 in
theorem next_any (w : World) (a b c : Int) (v : Nat) (hv : v < 18446744073709551616) (hb : -9223372036854775808 ≤ b ∧ b ≤ 9223372036854775807) (hc : -1099511627776 ≤ c ∧ c ≤ 1099511627776) :
    Calls Tryz.prog 99 #[cev a b c, .int .u64 (v : Int)] w fun e w' => e = .returned (.int .i64 (c + ((v % 2 ^ wid b : Nat) : Int))) ∧ Below w.heap.size w w' := by
  have q1 := Ce.new w a b c
  have b1 : Below w.heap.size w (w.alloc (.cells #[.int .i64 a, .int .i64 b, .int .i64 c] 139)) := (Below.refl _ w).alloc (Nat.le_refl _) _
  obtain ⟨w1, hw1⟩ : ∃ w1, w.alloc (.cells #[.int .i64 a, .int .i64 b, .int .i64 c] 139) = w1 := ⟨_, rfl⟩
  rw [hw1] at q1 b1
  have e1 := q1.c1
  have e2 := q1.c2
  have B1 := Lib.hid b1
  have hW := wid_le b
  obtain ⟨W, hWW⟩ : ∃ W, wid b = W := ⟨_, rfl⟩
  rw [hWW] at hW
  have HW : Hid (min (max b 0) 62 = (W : Int)) := Lib.hid (by rw [← hWW]; unfold wid; omega)
  rw [hWW]
  clear b1 q1 hWW
  have HE : Hid (wrap64 (c + wrap64 (bits BinOp.and IntKind.u64 (v : Int) (IntKind.u64.wrap (IntKind.u64.wrap (2 ^ W) - 1)))) = c + ((v % 2 ^ W : Nat) : Int)) := Lib.hid (next_num hv hW hc)
  obtain ⟨M, hM⟩ : ∃ M, max b 0 = M := ⟨_, rfl⟩
  have hM2 : min M 62 = (W : Int) := by rw [← hM]; exact HW.out
  have kw : decide ((W : Int) < 0) = false := decide_eq_false (by omega)
  obtain ⟨R, hR⟩ : ∃ R, c + ((v % 2 ^ W : Nat) : Int) = R := ⟨_, rfl⟩
  rw [hR] at HE ⊢
  clear HW hR
  go_enter Tryz.func99, Tryz.ntmps99
  go_wp2
  go_quiet (fail)
  go_wp2
  go_ret
  exact ⟨congrArg (fun z => Ending.returned (Value.int .i64 z)) HE.out, below_drewN' B1.out nq⟩

end Go.Proofs.YtnlhokfhkohdpaaGreat

namespace Go.Proofs.YtnlhokfhkohdpaaGreat

/-- The places of a symbol in a list whose first place is i. -/
def pls : Nat → List Nat → Int → List Nat
  | _, [], _ => []
  | i, x :: k, z => if (x : Int) = z then i :: pls (i + 1) k z else pls (i + 1) k z
theorem pls_append (k m : List Nat) (z : Int) : ∀ i, pls i (k ++ m) z = pls i k z ++ pls (i + k.length) m z := by
  induction k with
  | nil => intro i; rfl
  | cons x k ih =>
    intro i
    simp only [List.cons_append, pls, List.length_cons]
    rw [ih, show i + 1 + k.length = i + (k.length + 1) by omega]
    split <;> rfl
theorem pls_step {k : List Nat} {j x : Nat} (z : Int) (h : k[j]? = some x) : pls 0 (k.take (j + 1)) z = pls 0 (k.take j) z ++ (if (x : Int) = z then [j] else []) := by
  have hl : j < k.length := (List.getElem?_eq_some_iff.1 h).1
  rw [take_succ_get h, pls_append, List.length_take, Nat.min_eq_left (Nat.le_of_lt hl), Nat.zero_add]
  rfl
theorem pls_count (n : Nat) (k : List Nat) : ∀ i, (pls i k (n : Int)).length = k.count n := by
  induction k with
  | nil => intro i; rfl
  | cons x k ih =>
    intro i
    simp only [pls, List.count_cons]
    have h1 := ih (i + 1)
    by_cases h : x = n
    · subst h
      simp [h1]
    · rw [if_neg (by omega), h1]
      simp [h]
theorem pls_at (K : List Nat) (x : Nat) : ∀ j, j ≤ K.length → ∀ k i, (pls 0 (K.take j) (x : Int))[k]? = some i → i < j ∧ K[i]? = some x ∧ (K.take i).count x = k := by
  intro j
  induction j with
  | zero => intro _ k i h; simp [pls] at h
  | succ j ih =>
    intro hj k i h
    obtain ⟨u, hu⟩ : ∃ u, K[j]? = some u := ⟨_, List.getElem?_eq_getElem (by omega)⟩
    rw [pls_step (x : Int) hu] at h
    have hc := pls_count x (K.take j) 0
    rcases Nat.lt_or_ge k (pls 0 (K.take j) (x : Int)).length with hk | hk
    · rw [List.getElem?_append_left hk] at h
      obtain ⟨h1, h2, h3⟩ := ih (by omega) k i h
      exact ⟨by omega, h2, h3⟩
    · rw [List.getElem?_append_right hk] at h
      by_cases hux : u = x
      · subst hux
        rw [if_pos rfl] at h
        have h0 : k - (pls 0 (K.take j) (u : Int)).length = 0 := by
          rcases Nat.lt_or_ge 0 (k - (pls 0 (K.take j) (u : Int)).length) with h4 | h4
          · rw [List.getElem?_eq_none (show [j].length ≤ _ from h4)] at h; cases h
          · omega
        rw [h0] at h
        injection h with h
        subst h
        exact ⟨by omega, hu, by omega⟩
      · rw [if_neg (by omega)] at h
        simp at h
theorem pls_all {K : List Nat} {x k i : Nat} (h : (pls 0 K (x : Int))[k]? = some i) : K[i]? = some x ∧ (K.take i).count x = k := by
  have h1 := pls_at K x K.length (Nat.le_refl _) k i
  rw [List.take_length] at h1
  exact (h1 h).2
theorem pls_has {K : List Nat} {x k : Nat} (h : k < K.count x) : ∃ i, (pls 0 K (x : Int))[k]? = some i ∧ K[i]? = some x ∧ (K.take i).count x = k := by
  rw [← pls_count x K 0] at h
  obtain ⟨i, hi⟩ : ∃ i, (pls 0 K (x : Int))[k]? = some i := ⟨_, List.getElem?_eq_getElem h⟩
  exact ⟨i, hi, pls_all hi⟩
theorem count_lt {K : List Nat} {x i j : Nat} (hi : K[i]? = some x) (h : i < j) : (K.take i).count x < (K.take j).count x := by
  have h1 : (K.take (i + 1)).count x = (K.take i).count x + 1 := by rw [take_succ_get hi, List.count_append]; simp
  have h2 : (K.take (i + 1)).count x ≤ (K.take j).count x := (List.take_sublist_take_left (by omega)).count_le x
  omega
theorem count_inj {K : List Nat} {x i j : Nat} (hi : K[i]? = some x) (hj : K[j]? = some x) (h : (K.take i).count x = (K.take j).count x) : i = j := by
  rcases Nat.lt_trichotomy i j with h1 | h1 | h1
  · have := count_lt hi h1; omega
  · exact h1
  · have := count_lt hj h1; omega

/-- The number that belongs to a state is the state plus all states, without the low bits. -/
theorem Num.quot {y n X t : Nat} (h : Num y n X) (h1 : bse y X ≤ t) (h2 : t < bse y X + 2 ^ bts y X) : (2 ^ y + t) / 2 ^ bts y X = X := by
  have hb := h.base
  refine Nat.div_eq_of_lt_le ?_ ?_
  · omega
  · rw [Nat.add_mul, Nat.one_mul]; omega
theorem Num.uniq {y n X X' t : Nat} (h : Num y n X) (h' : Num y n X') (h1 : bse y X ≤ t) (h2 : t < bse y X + 2 ^ bts y X) (h3 : bse y X' ≤ t) (h4 : t < bse y X' + 2 ^ bts y X') : X = X' := by
  have key : ∀ X X' : Nat, Num y n X → Num y n X' → (2 ^ y + t) / 2 ^ bts y X = X → (2 ^ y + t) / 2 ^ bts y X' = X' → bts y X ≤ bts y X' → X = X' := by
    intro X X' h h' q q' hb
    obtain ⟨d, hd⟩ := Nat.exists_eq_add_of_le hb
    rw [hd, Nat.pow_add, ← Nat.div_div_eq_div_mul, q] at q'
    rcases Nat.eq_zero_or_pos d with h0 | h0
    · rw [h0, Nat.pow_zero, Nat.div_one] at q'
      exact q'
    · have h5 : 2 ≤ 2 ^ d := by
        have := Nat.pow_le_pow_right (show 0 < 2 by decide) h0
        simpa using this
      have h6 : X / 2 ^ d ≤ X / 2 := Nat.div_le_div_left h5 (by decide)
      have h7 := h.hi
      have h8 := h'.lo
      omega
  have q := h.quot h1 h2
  have q' := h'.quot h3 h4
  rcases Nat.le_total (bts y X) (bts y X') with hb | hb
  · exact key X X' h h' q q' hb
  · exact (key X' X h' h q' q hb).symm
/-- What place finds. -/
theorem num_place {y n t j X : Nat} (h1 : 1 ≤ n) (hn : n ≤ 2 ^ y) (ht : t < 2 ^ y) (hX : (2 ^ y + t) / 2 ^ j = X) (h2 : n ≤ X) (h3 : X < 2 * n) : Num y n X ∧ bts y X = j ∧ bse y X ≤ t ∧ t < bse y X + 2 ^ bts y X := by
  have hN : Num y n X := ⟨h1, hn, h2, h3⟩
  have hp : 0 < 2 ^ j := Nat.two_pow_pos _
  have a1 : X * 2 ^ j ≤ 2 ^ y + t := by rw [← hX]; exact Nat.div_mul_le_self _ _
  have a2 : 2 ^ y + t < (X + 1) * 2 ^ j := by rw [← hX]; exact Nat.lt_mul_of_div_lt (by omega) hp
  have b1 : 2 ^ X.log2 ≤ X := Nat.log2_self_le hN.ne
  have b2 : X + 1 ≤ 2 ^ (X.log2 + 1) := Nat.lt_log2_self
  have c1 : 2 ^ (X.log2 + j) < 2 ^ (y + 1) := by
    rw [Nat.pow_add, Nat.pow_succ 2 y]
    have := Nat.mul_le_mul_right (2 ^ j) b1
    omega
  have c2 : 2 ^ y < 2 ^ (X.log2 + 1 + j) := by
    rw [Nat.pow_add 2 (X.log2 + 1)]
    have := Nat.mul_le_mul_right (2 ^ j) b2
    omega
  have d1 : X.log2 + j < y + 1 := (Nat.pow_lt_pow_iff_right (by decide)).1 c1
  have d2 : y < X.log2 + 1 + j := (Nat.pow_lt_pow_iff_right (by decide)).1 c2
  have hb : bts y X = j := by unfold bts; omega
  have hbase := hN.base
  rw [hb] at hbase
  rw [hb]
  rw [Nat.add_mul, Nat.one_mul] at a2
  exact ⟨hN, rfl, by omega, by omega⟩

/-- A cell of a symbol leads to a state. -/
def hit (z t : Int) (c : Nat × Nat × Nat) : Bool := decide ((c.1 : Int) = z) && decide ((c.2.2 : Int) ≤ t) && decide (t < (c.2.2 : Int) + ((2 ^ c.2.1 : Nat) : Int))
theorem hit_iff {z t : Int} {c : Nat × Nat × Nat} : hit z t c = true ↔ (c.1 : Int) = z ∧ (c.2.2 : Int) ≤ t ∧ t < (c.2.2 : Int) + ((2 ^ c.2.1 : Nat) : Int) := by
  unfold hit
  simp only [Bool.and_eq_true, decide_eq_true_iff, and_assoc]
theorem hit_no {z t : Int} {c : Nat × Nat × Nat} (h : ¬ (c.1 : Int) = z) : hit z t c = false := by
  unfold hit
  simp [h]
/-- The first of the cells with a property. -/
theorem fst_some {C : List (Nat × Nat × Nat)} {p : Nat × Nat × Nat → Bool} {i : Nat} {c : Nat × Nat × Nat} (h : C[i]? = some c) (hp : p c = true) (hu : ∀ (j : Nat) (d : Nat × Nat × Nat), j < i → C[j]? = some d → p d = false) : C.findIdx? p = some i := by
  obtain ⟨hl, he⟩ := List.getElem?_eq_some_iff.1 h
  rw [List.findIdx?_eq_some_iff_getElem]
  refine ⟨hl, by rw [he]; exact hp, fun j hj => ?_⟩
  have := hu j _ hj (List.getElem?_eq_getElem (by omega))
  simp [this]
theorem fst_none {C : List (Nat × Nat × Nat)} {p : Nat × Nat × Nat → Bool} (hu : ∀ (j : Nat) (d : Nat × Nat × Nat), C[j]? = some d → p d = false) : C.findIdx? p = none := by
  rw [List.findIdx?_eq_none_iff]
  intro d hd
  obtain ⟨j, hj⟩ := List.mem_iff_getElem?.1 hd
  exact hu j d hj
theorem fst_get {C : List (Nat × Nat × Nat)} {p : Nat × Nat × Nat → Bool} {i : Nat} (h : C.findIdx? p = some i) : ∃ c, C[i]? = some c ∧ p c = true ∧ ∀ (j : Nat) (d : Nat × Nat × Nat), j < i → C[j]? = some d → p d = false := by
  rw [List.findIdx?_eq_some_iff_getElem] at h
  obtain ⟨hl, hp, hu⟩ := h
  refine ⟨_, List.getElem?_eq_getElem hl, hp, fun j d hj hd => ?_⟩
  obtain ⟨hl', he⟩ := List.getElem?_eq_some_iff.1 hd
  have := hu j hj
  rw [he] at this
  simpa using this
theorem fst_all {C : List (Nat × Nat × Nat)} {p : Nat × Nat × Nat → Bool} (h : C.findIdx? p = none) {j : Nat} {d : Nat × Nat × Nat} (hd : C[j]? = some d) : p d = false := by
  rw [List.findIdx?_eq_none_iff] at h
  exact h d (List.mem_of_getElem? hd)

/-- What Cell, Lowest and Predecessor return. -/
def cla (C : List (Nat × Nat × Nat)) (t : Int) : Nat × Nat × Nat := if t < 0 then (0, 0, 0) else C[t.toNat]?.getD (0, 0, 0)
def cle (C : List (Nat × Nat × Nat)) (t : Int) : Int := if t < 0 ∨ (C.length : Int) ≤ t then 21 else 0
def isz (z : Int) (c : Nat × Nat × Nat) : Bool := decide ((c.1 : Int) = z)
def lwa (C : List (Nat × Nat × Nat)) (z : Int) : Nat := (C.findIdx? (isz z)).getD 0
def lwe (C : List (Nat × Nat × Nat)) (z : Int) : Int := if (C.findIdx? (isz z)).isSome then 0 else 2
def pra (C : List (Nat × Nat × Nat)) (t z : Int) : Nat × Nat × Nat :=
  if t < 0 ∨ (C.length : Int) ≤ t then (0, 0, 0) else match C.findIdx? (hit z t) with
    | some i => (i, (t - ((C[i]?.getD (0, 0, 0)).2.2 : Int)).toNat, (C[i]?.getD (0, 0, 0)).2.1)
    | none => (0, 0, 0)
def pre (C : List (Nat × Nat × Nat)) (t z : Int) : Int :=
  if t < 0 ∨ (C.length : Int) ≤ t then 21 else if (C.findIdx? (hit z t)).isSome then 0 else 2

section
variable {y : Nat} {l : List Int}
/-- What is known of a cell. -/
theorem vt_cell (h : Vt y l) {i : Nat} (hi : i < 2 ^ y) : ∃ x n X, (spl (2 ^ y) l)[i]? = some x ∧ nos l x = n ∧ n + ((spl (2 ^ y) l).take i).count x = X ∧ (cls y l (spl (2 ^ y) l))[i]? = some (x, bts y X, bse y X) ∧ Num y n X ∧ x < l.length := by
  have hl : i < (spl (2 ^ y) l).length := by rw [spl_len]; exact hi
  obtain ⟨x, hx⟩ : ∃ x, (spl (2 ^ y) l)[i]? = some x := ⟨_, List.getElem?_eq_getElem hl⟩
  have h6 : xof l (spl (2 ^ y) l) i = nos l x + ((spl (2 ^ y) l).take i).count x := by unfold xof; rw [hx, Option.getD_some]
  refine ⟨x, _, _, hx, rfl, rfl, ?_, by rw [← h6]; exact h.num hx, spl_lt h (List.mem_of_getElem? hx)⟩
  rw [cls_get hl, ← h6]; unfold cel; rw [hx]; rfl
theorem vt_clen (_ : Vt y l) : (cls y l (spl (2 ^ y) l)).length = 2 ^ y := by rw [cls_len, spl_len]
/-- At most one cell of a symbol leads to a state. -/
theorem vt_uniq (h : Vt y l) {i j : Nat} {z t : Int} {c d : Nat × Nat × Nat} (hi : (cls y l (spl (2 ^ y) l))[i]? = some c) (hj : (cls y l (spl (2 ^ y) l))[j]? = some d) (h1 : hit z t c = true) (h2 : hit z t d = true) : i = j := by
  have li : i < 2 ^ y := by rw [← vt_clen h]; exact (List.getElem?_eq_some_iff.1 hi).1
  have lj : j < 2 ^ y := by rw [← vt_clen h]; exact (List.getElem?_eq_some_iff.1 hj).1
  obtain ⟨x, n, X, a1, a2, a3, a4, a5, _⟩ := vt_cell h li
  obtain ⟨x', n', X', b1, b2, b3, b4, b5, _⟩ := vt_cell h lj
  rw [a4] at hi
  rw [b4] at hj
  injection hi with hi
  injection hj with hj
  subst hi hj
  rw [hit_iff] at h1 h2
  obtain ⟨p1, p2, p3⟩ := h1
  obtain ⟨q1, q2, q3⟩ := h2
  simp only at p1 p2 p3 q1 q2 q3
  obtain rfl : x = x' := by omega
  obtain rfl : n = n' := by rw [← a2, ← b2]
  obtain ⟨u, rfl⟩ : ∃ u : Nat, t = (u : Int) := ⟨t.toNat, by omega⟩
  have e := a5.uniq b5 (t := u) (by omega) (by omega) (by omega) (by omega)
  exact count_inj a1 b1 (by omega)
/-- What place finds is the cell that leads to the state. -/
theorem vt_place (h : Vt y l) {x t j X : Nat} (h1 : 1 ≤ nos l x) (ht : t < 2 ^ y) (hX : (2 ^ y + t) / 2 ^ j = X) (h2 : nos l x ≤ X) (h3 : X < 2 * nos l x) :
    ∃ i c, (pls 0 (spl (2 ^ y) l) (x : Int))[X - nos l x]? = some i ∧ i < 2 ^ y ∧ (cls y l (spl (2 ^ y) l))[i]? = some c ∧ c.1 = x ∧ c.2.1 ≤ 9 ∧ c.2.2 ≤ t ∧ t < c.2.2 + 2 ^ c.2.1 ∧ (cls y l (spl (2 ^ y) l)).findIdx? (hit (x : Int) (t : Int)) = some i := by
  have hn := h.nos x
  have hle : nos l x ≤ 2 ^ y := by
    rw [hn]
    have := List.count_le_length (a := x) (l := spl (2 ^ y) l)
    rwa [spl_len] at this
  obtain ⟨hN, hb, q1, q2⟩ := num_place h1 hle ht hX h2 h3
  obtain ⟨i, hi, hx, hc⟩ := pls_has (K := spl (2 ^ y) l) (x := x) (k := X - nos l x) (by rw [← hn]; omega)
  have li : i < 2 ^ y := by have := (List.getElem?_eq_some_iff.1 hx).1; rwa [spl_len] at this
  obtain ⟨x', n', X', b1, b2, b3, b4, b5, _⟩ := vt_cell h li
  rw [hx] at b1
  injection b1 with b1
  subst b1
  have hXX : X' = X := by omega
  subst hXX
  have h9 := h.log
  have hbl := bts_le y X'
  have hh : hit (x : Int) (t : Int) (x, bts y X', bse y X') = true := by
    rw [hit_iff]
    simp only
    exact ⟨trivial, by omega, by omega⟩
  refine ⟨i, _, hi, li, b4, rfl, by simp only; omega, q1, q2, fst_some b4 hh (fun j d hj hd => ?_)⟩
  cases hq : hit (x : Int) (t : Int) d with
  | false => rfl
  | true => have := vt_uniq h hd b4 hq hh; omega
/-- A symbol without states has no cell. -/
theorem vt_gone (h : Vt y l) {z : Int} (hz : z < 0 ∨ nos l z.toNat = 0) {j : Nat} {d : Nat × Nat × Nat} (hd : (cls y l (spl (2 ^ y) l))[j]? = some d) : ¬ (d.1 : Int) = z := by
  have lj : j < 2 ^ y := by rw [← vt_clen h]; exact (List.getElem?_eq_some_iff.1 hd).1
  obtain ⟨x, n, X, b1, b2, b3, b4, b5, _⟩ := vt_cell h lj
  rw [b4] at hd
  injection hd with hd
  subst hd
  have := b5.pos
  simp only
  rintro rfl
  rcases hz with hz | hz
  · omega
  · rw [Int.toNat_natCast] at hz; omega
/-- The first place of a symbol is its lowest state. -/
theorem vt_low (h : Vt y l) {x : Nat} (h1 : 1 ≤ nos l x) : ∃ i, (pls 0 (spl (2 ^ y) l) (x : Int))[0]? = some i ∧ (cls y l (spl (2 ^ y) l)).findIdx? (isz (x : Int)) = some i := by
  obtain ⟨i, hi, hx, hc⟩ := pls_has (K := spl (2 ^ y) l) (x := x) (k := 0) (by rw [← h.nos]; omega)
  have li : i < 2 ^ y := by have := (List.getElem?_eq_some_iff.1 hx).1; rwa [spl_len] at this
  obtain ⟨x', n', X', b1, b2, b3, b4, b5, _⟩ := vt_cell h li
  rw [hx] at b1
  injection b1 with b1
  subst b1
  refine ⟨i, hi, fst_some b4 (by simp [isz]) (fun j d hj hd => ?_)⟩
  have lj : j < 2 ^ y := by omega
  obtain ⟨u, n2, X2, e1, e2, e3, e4, e5, _⟩ := vt_cell h lj
  rw [e4] at hd
  injection hd with hd
  subst hd
  unfold isz
  simp only [decide_eq_false_iff_not]
  intro e
  obtain rfl : u = x := by omega
  have := count_lt e1 hj
  omega
end

end Go.Proofs.YtnlhokfhkohdpaaGreat

namespace Go.Proofs.YtnlhokfhkohdpaaGreat
open Go.RowKit Go.Shelf

/-- The rows of the states of each symbol, as far as the list K goes. -/
structure Ows (W : World) (B go N : Nat) (K : List Nat) (V : Nat → Value) : Prop where
  ge : B ≤ go
  row : W.ownsRow B 24 1 (.slice (some ⟨go, 0, none⟩) N N) N ((List.range N).map V)
  list : ∀ x, x < N → W.ownsRow (go + 1) 3 1 (V x) (pls 0 K (x : Int)).length ((pls 0 K (x : Int)).map nv)
  ne : ∀ x x' g, x < N → x' < N → (V x).ownBlock = some g → (V x').ownBlock = some g → x = x'
section
variable {W W' : World} {B go N : Nat} {K : List Nat} {V : Nat → Value}
theorem Ows.lt (h : Ows W B go N K V) : go < W.heap.size := own_lt h.row rfl
theorem Ows.same (h : Ows W B go N K V) (hb : ∀ k, B ≤ k → k < W.heap.size → W'.heap[k]? = W.heap[k]?) : Ows W' B go N K V := by
  refine ⟨h.ge, own_same h.row (fun g hg => ?_), fun x hx => own_same (h.list x hx) (fun g hg => ?_), h.ne⟩
  · injection hg with hg
    subst hg
    exact hb _ h.ge h.lt
  · exact hb _ (by have := own_ge (h.list x hx) hg; have := h.ge; omega) (own_lt (h.list x hx) hg)
theorem Ows.below (h : Ows W B go N K V) (hb : Below W.heap.size W W') : Ows W' B go N K V := h.same fun k _ hk => hb.block k hk
theorem Ows.cell (h : Ows W B go N K V) {x : Nat} (hx : x < N) : W.cell? ⟨go, x, none⟩ = some (V x) := by
  rw [h.row.cellAt x (by omega), List.getElem?_map, List.getElem?_range hx]; rfl
theorem Ows.mk0 {g : Nat} (hB : B ≤ g) (h : W.ownsRow B 24 1 (.slice (some ⟨g, 0, none⟩) N N) N (List.replicate N (.slice none 0 0))) : Ows W B g N [] (fun _ => .slice none 0 0) := by
  refine ⟨hB, ?_, fun x _ => own_nil _ _, fun x x' g _ _ h1 => by cases h1⟩
  have e : (List.range N).map (fun _ => Value.slice none 0 0) = List.replicate N (.slice none 0 0) := by
    refine List.ext_getElem? fun j => ?_
    rcases Nat.lt_or_ge j N with h1 | h1
    · simp [h1]
    · simp [h1]
  rw [e]
  exact h
/-- One state more. -/
theorem Ows.next {w wr w5 : World} {i x : Nat} {v' : Value} (h : Ows wr B go N (K.take i) V) (hx : K[i]? = some x) (hxN : x < N) (hw : Below B w wr) (hB : B = w.heap.size)
    (ho : w5.ownsRow (go + 1) 3 1 v' ((pls 0 (K.take i) (x : Int)).length + 1) ((pls 0 (K.take i) (x : Int)).map nv ++ [.int .i64 (i : Int)]))
    (hg : (wr.alloc (.cells #[.int .i64 (i : Int)] 3)).grownBy w5 (V x).ownBlock)
    (he : v'.ownBlock = (V x).ownBlock ∨ v'.ownBlock = some (wr.alloc (.cells #[.int .i64 (i : Int)] 3)).heap.size) :
    w5.cell? ⟨go, x, none⟩ = some (V x) ∧ w5.frozen? ⟨go, x, none⟩ = false ∧ Ows (w5.setCell ⟨go, x, none⟩ v') B go N (K.take (i + 1)) (fun u => if u = x then v' else V u) ∧ Below B w (w5.setCell ⟨go, x, none⟩ v') := by
  have b4 : Below wr.heap.size wr (wr.alloc (.cells #[.int .i64 (i : Int)] 3)) := (Below.refl _ wr).alloc (Nat.le_refl _) _
  have hs4 : (wr.alloc (.cells #[.int .i64 (i : Int)] 3)).heap.size = wr.heap.size + 1 := World.size_alloc _ _
  obtain ⟨w4, hw4⟩ : ∃ w4, wr.alloc (.cells #[.int .i64 (i : Int)] 3) = w4 := ⟨_, rfl⟩
  rw [hw4] at b4 hg he hs4
  have h4 := h.below b4
  have hVne : ∀ g, (V x).ownBlock = some g → go < g := fun g hgg => own_ge (h4.list x hxN) hgg
  have hgo4 := h4.lt
  have row5 : w5.ownsRow B 24 1 (.slice (some ⟨go, 0, none⟩) N N) N ((List.range N).map V) := own_same h4.row (fun g hgg => by
    injection hgg with hgg
    subst hgg
    exact hg.block _ hgo4 (fun e => absurd (hVne _ e.symm) (Nat.lt_irrefl _)))
  have hc := row5.stored x v'
  have hlt4 : ∀ u, u < N → ∀ g, (V u).ownBlock = some g → g < w4.heap.size := fun u hu g hgg => own_lt (h4.list u hu) hgg
  refine ⟨?_, row5.frozenAt x, ⟨h.ge, ?_, ?_, ?_⟩, ?_⟩
  · rw [row5.cellAt x (by omega), List.getElem?_map, List.getElem?_range hxN]; rfl
  · have e : ((List.range N).map V).set x v' = (List.range N).map (fun u => if u = x then v' else V u) := by
      refine List.ext_getElem? fun j => ?_
      rw [List.getElem?_set]
      by_cases hj : x = j
      · subst hj
        rw [if_pos rfl, if_pos (by simpa using hxN), List.getElem?_map, List.getElem?_range hxN]
        simp
      · rw [if_neg hj, List.getElem?_map, List.getElem?_map]
        rcases Nat.lt_or_ge j N with h1 | h1
        · rw [List.getElem?_range h1]
          simp [show ¬ j = x from fun e => hj e.symm]
        · rw [List.getElem?_eq_none (by simpa using h1)]; rfl
    rw [← e]
    exact hc.1
  · intro u hu
    have hset : ∀ g, g ≠ go → (w5.setCell ⟨go, x, none⟩ v').heap[g]? = w5.heap[g]? := fun g hgg => Below.heap_setCell _ _ _ _ hgg
    by_cases hux : u = x
    · subst hux
      simp only [if_true]
      have e1 : (pls 0 (K.take (i + 1)) (u : Int)) = pls 0 (K.take i) (u : Int) ++ [i] := by rw [pls_step (u : Int) hx, if_pos rfl]
      rw [e1, List.map_append, List.length_append]
      exact own_same ho (fun g hgg => hset g (by have := own_ge ho hgg; omega))
    · simp only [if_neg hux]
      have e1 : (pls 0 (K.take (i + 1)) (u : Int)) = pls 0 (K.take i) (u : Int) := by rw [pls_step (u : Int) hx, if_neg (by omega), List.append_nil]
      rw [e1]
      refine own_same (h4.list u hu) (fun g hgg => ?_)
      rw [hset g (by have := own_ge (h4.list u hu) hgg; omega)]
      exact hg.block _ (hlt4 u hu g hgg) (fun e => hux (h.ne u x g hu hxN hgg e.symm))
  · intro u u' g hu hu' h1 h2
    by_cases hux : u = x
    · by_cases hux' : u' = x
      · rw [hux, hux']
      · simp only [if_pos hux, if_neg hux'] at h1 h2
        rcases he with he | he
        · rw [he] at h1
          rw [hux]
          exact h.ne x u' g hxN hu' h1 h2
        · rw [he] at h1
          injection h1 with h1
          have := hlt4 u' hu' g h2
          omega
    · by_cases hux' : u' = x
      · simp only [if_neg hux, if_pos hux'] at h1 h2
        rcases he with he | he
        · rw [he] at h2
          rw [hux']
          exact h.ne u x g hu hxN h1 h2
        · rw [he] at h2
          injection h2 with h2
          have := hlt4 u hu g h1
          omega
      · simp only [if_neg hux, if_neg hux'] at h1 h2
        exact h.ne u u' g hu hu' h1 h2
  · have hBs : B ≤ wr.heap.size := by rw [hB]; exact hw.size
    have b5 : Below B w w4 := hw.trans (b4.mono hBs)
    have b6 : Below B w w5 := b5.grown hg (by omega) (fun k e => by have := hVne k e; have := h.ge; omega)
    exact b6.setCell (p := ⟨go, x, none⟩) h.ge _
end

theorem und_rows : Tryz.prog.underlying 128 = some (.slice 24) := by kernel_rfl
theorem rows_info : (Tryz.prog.info? 24).map (fun i => (i.zero, i.size, i.bytes)) = some (some (.slice none 0 0), 1, 24) := by kernel_rfl
theorem made_rows (n : Nat) : (madeCells (Value.slice none 0 0).cells (n * 1)).toList = List.replicate n (Value.slice none 0 0) := by
  refine List.ext_getElem? fun j => ?_
  simp only [madeCells, Nat.mul_one, Value.cells]
  rcases Nat.lt_or_ge j n with h | h
  · simp [h, Nat.mod_one]
  · simp [h]
theorem make_rows (n : Nat) (hn : n ≤ 1000000) (W : World) : ∃ w1, (Instr.makeSlice 128 (.int .i64 (n : Int)) (.int .i64 (n : Int))).run Tryz.prog W = .ok (.slice (some ⟨W.heap.size, 0, none⟩) n n) w1 ∧
    w1.ownsRow W.heap.size 24 1 (.slice (some ⟨W.heap.size, 0, none⟩) n n) n (List.replicate n (.slice none 0 0)) ∧ Below W.heap.size W w1 := by
  obtain ⟨i0, hi, hz0, hz1, hz2⟩ := info_parts rows_info
  obtain ⟨w1, h1, h2, h3⟩ := run_makeSlice_full (P := Tryz.prog) W W.heap.size 128 24 i0 (.slice none 0 0) 1 und_rows hi hz0 hz1 .i64 .i64 n (by omega) (by rw [hz2]; omega) (by unfold maxLen; omega) (Nat.le_refl _)
  rw [made_rows] at h2
  exact ⟨w1, h1, h2, (Below.refl _ _).grown h3 (Nat.le_refl _) (fun k e => by cases e)⟩

set_option maxRecDepth 100000 in
set_option maxHeartbeats 4000000 in
theorem collect_ok (w : World) (y s g N c : Nat) (A : Option Addr) (l : List Int) (hN : l.length = N) (hv : Vt y l) (hse : 2 ^ y = s) (hK : w.ownsRow 0 3 1 (.slice (some ⟨g, 0, none⟩) s s) s ((spl s l).map nv)) :
    Calls Tryz.prog 66 #[tb y A N c, .slice (some ⟨g, 0, none⟩) s s] w fun e w' => ∃ go V, e = .returned (.slice (some ⟨go, 0, none⟩) N N) ∧ Ows w' w.heap.size go N (spl s l) V ∧ Below w.heap.size w w' := by
  have hN2 : N ≤ 256 := by rw [← hN]; exact hv.len
  have hy9 := hv.log
  have hs5 : s ≤ 512 := by rw [← hse]; exact hv.size
  have b1 : Below w.heap.size w (w.alloc (.cells #[.int .i64 (y : Int), .slice A N c] 28)) := (Below.refl _ w).alloc (Nat.le_refl _) _
  have t1 := Tb.new w (y : Int) A N c
  obtain ⟨w1, hw1⟩ : ∃ w1, w.alloc (.cells #[.int .i64 (y : Int), .slice A N c] 28) = w1 := ⟨_, rfl⟩
  rw [hw1] at b1 t1
  obtain ⟨w2, hmk, ho2, hb2⟩ := make_rows N (by omega) w1
  have t2 := t1.below hb2
  have c1 := t1.c1
  have c0 := t2.c0
  have HL : Hid ((spl s l).length = s) := Lib.hid (spl_len s l)
  have HX : Hid (∀ x, x ∈ spl s l → x < N) := Lib.hid (fun x hx => by rw [← hN]; rw [← hse] at hx; exact spl_lt hv hx)
  have B1 := Lib.hid b1
  have B2 : Hid (Below w.heap.size w w2) := Lib.hid (below_on b1 (Nat.le_refl _) hb2)
  have K2 := Lib.hid (own_below hK (B2.out))
  have O2 : Hid (Ows w2 w.heap.size w1.heap.size N ((spl s l).take 0) (fun _ => .slice none 0 0)) := Lib.hid (Ows.mk0 b1.size (own_base ho2 b1.size))
  have hw : wrap64 (2 ^ y) = (s : Int) := pow_wrap hse hs5
  have kp : decide ((y : Int) < 0) = false := decide_eq_false (by omega)
  have KL := Lib.hid (own_lt hK rfl)
  obtain ⟨K, hKK⟩ : ∃ K, spl s l = K := ⟨_, rfl⟩
  rw [hKK] at HL HX K2 O2 ⊢
  clear b1 t1 t2 ho2 hb2 hK hN hv hse hKK
  obtain ⟨go, hgo⟩ : ∃ go, w1.heap.size = go := ⟨_, rfl⟩
  rw [hgo] at hmk O2
  clear hgo
  go_enter Tryz.func66, Tryz.ntmps66
  go_wp2
  clear hmk c0 c1
  go_loopw [15] (fun p wr => ∃ (i : Nat) (V : Nat → Value), i ≤ s ∧ p = .int .i64 (i : Int) ∧ Hid (Ows wr w.heap.size go N (K.take i) V) ∧ Hid (Below w.heap.size w wr)) (fun p _ => s - (intOf p).toNat)
  case atStart => exact ⟨0, _, Nat.zero_le _, rfl, O2, B2⟩
  case round =>
    obtain ⟨i, V, hi, rfl, HO, HB⟩ := hrel
    by_cases hlt : i < s
    · obtain ⟨x, hx⟩ : ∃ x, K[i]? = some x := ⟨_, List.getElem?_eq_getElem (by rw [HL.out]; exact hlt)⟩
      have hxN : x < N := HX.out x (List.mem_of_getElem? hx)
      have hk : w2.cell? ⟨g, i, none⟩ = some (.int .i64 (x : Int)) := by rw [K2.out.cellAt i (by omega), List.getElem?_map, hx]; rfl
      have ck : wr.cell? ⟨g, i, none⟩ = some (.int .i64 (x : Int)) := by
        have h1 := B2.out.block g KL.out
        have h2 := HB.out.block g KL.out
        rw [← hk]
        exact World.cell?_of_block (h2.trans h1.symm)
      obtain ⟨A', c', hV, hc'⟩ := own_form (HO.out.list x hxN)
      obtain ⟨r, hr⟩ : ∃ r, (pls 0 (K.take i) (x : Int)).length = r := ⟨_, rfl⟩
      have hrl : r ≤ 512 := by
        rw [← hr, pls_count]
        have h1 := List.count_le_length (a := x) (l := K.take i)
        rw [List.length_take] at h1
        omega
      rw [hr] at hV
      have cv := HO.out.cell hxN
      rw [hV] at cv
      have hO1 : (wr.alloc (.cells #[.int .i64 (i : Int)] 3)).ownsRow (go + 1) 3 1 (.slice A' r c') r ((pls 0 (K.take i) (x : Int)).map nv) := by
        have := own_below (HO.out.list x hxN) ((Below.refl _ wr).alloc (Nat.le_refl _) (.cells #[.int .i64 (i : Int)] 3))
        rwa [hV, hr] at this
      have H1 := Lib.hid hO1
      have hsz : go + 1 ≤ (wr.alloc (.cells #[.int .i64 (i : Int)] 3)).heap.size := by rw [World.size_alloc]; have := HO.out.lt; omega
      have H2 := Lib.hid hsz
      have H3 := Lib.hid (lit_rv wr [.int .i64 (i : Int)] _ rfl)
      have NX : Hid (∀ (w5 : World) (v' : Value), w5.ownsRow (go + 1) 3 1 v' (r + 1) ((pls 0 (K.take i) (x : Int)).map nv ++ [.int .i64 (i : Int)]) → (wr.alloc (.cells #[.int .i64 (i : Int)] 3)).grownBy w5 (Value.slice A' r c').ownBlock → (v'.ownBlock = (Value.slice A' r c').ownBlock ∨ v'.ownBlock = some (wr.alloc (.cells #[.int .i64 (i : Int)] 3)).heap.size) → w5.cell? ⟨go, x, none⟩ = some (.slice A' r c') ∧ w5.frozen? ⟨go, x, none⟩ = false ∧ Ows (w5.setCell ⟨go, x, none⟩ v') w.heap.size go N (K.take (i + 1)) (fun u => if u = x then v' else V u) ∧ Below w.heap.size w (w5.setCell ⟨go, x, none⟩ v')) := Lib.hid (fun w5 v' h1 h2 h3 => by
        rw [← hV] at h2 h3 ⊢
        rw [← hr] at h1
        exact HO.out.next hx hxN HB.out rfl h1 h2 h3)
      have wi : IntKind.i64.wrap (i : Int) = (i : Int) := IntWalk.i64_in _ (by omega)
      have wx : IntKind.i64.wrap (x : Int) = (x : Int) := IntWalk.i64_in _ (by omega)
      clear hx hk hV hc' hr hO1 hsz HO HB O2
      go_wp2_with (at_builtin; refine wpList_append_vals Tryz.underlying24 int_info rfl rfl _ _ rfl (go + 1) (.slice A' r c') r ((pls 0 (K.take i) (x : Int)).map nv) rfl H1.out (some ⟨wr.heap.size, 0, none⟩) [.int .i64 (i : Int)] (by simp [Value.oneCell']) 1 1 rfl rfl H3.out (by omega) (by omega) H2.out ?_; intro v5 w5 ho5 hg5 he5; obtain ⟨z1, z2, z3, z4⟩ := NX.out w5 v5 ho5 hg5 he5; obtain ⟨A5, c5, rfl, hc5⟩ := own_form ho5; have Z3 := Lib.hid z3; have Z4 := Lib.hid z4; clear ho5 hg5 he5 z3 z4)
      exact ⟨⟨i + 1, _, by omega, by simp, Z3, Z4⟩, by simp [intOf]; omega⟩
    · have HE : Hid (K.take i = K) := Lib.hid (List.take_of_length_le (by rw [HL.out]; omega))
      go_wp2
      go_ret
      exact ⟨go, V, rfl, by have := HO.out; rwa [HE.out] at this, HB.out⟩

end Go.Proofs.YtnlhokfhkohdpaaGreat

namespace Go.Proofs.YtnlhokfhkohdpaaGreat
open Go.RowKit Go.Shelf

/-- A Coder as a block. -/
def Cb (W : World) (b : Nat) (y : Int) (A : Option Addr) (n c : Nat) (A' : Option Addr) (n' c' : Nat) : Prop := W.heap[b]? = some (.cells #[.int .i64 y, .slice A n c, .slice A' n' c'] 131 (0, 0))
section
variable {W W' : World} {b : Nat} {y : Int} {A : Option Addr} {n c : Nat} {A' : Option Addr} {n' c' : Nat}
theorem Cb.lt (h : Cb W b y A n c A' n' c') : b < W.heap.size := (Array.getElem?_eq_some_iff.1 h).1
theorem Cb.c0 (h : Cb W b y A n c A' n' c') : W.cell? ⟨b, 0, none⟩ = some (.int .i64 y) := by rw [cell_of_row W b 0 _ _ _ h]; rfl
theorem Cb.c1 (h : Cb W b y A n c A' n' c') : W.cell? ⟨b, 1, none⟩ = some (.slice A n c) := by rw [cell_of_row W b 1 _ _ _ h]; rfl
theorem Cb.c2 (h : Cb W b y A n c A' n' c') : W.cell? ⟨b, 2, none⟩ = some (.slice A' n' c') := by rw [cell_of_row W b 2 _ _ _ h]; rfl
theorem Cb.same (h : Cb W b y A n c A' n' c') (hb : W'.heap[b]? = W.heap[b]?) : Cb W' b y A n c A' n' c' := hb.trans h
theorem Cb.below (h : Cb W b y A n c A' n' c') (hb : Below W.heap.size W W') : Cb W' b y A n c A' n' c' := hb.block b h.lt |>.trans h
theorem Cb.new (W : World) (y : Int) (A : Option Addr) (n c : Nat) (A' : Option Addr) (n' c' : Nat) : Cb (W.alloc (.cells #[.int .i64 y, .slice A n c, .slice A' n' c'] 131)) W.heap.size y A n c A' n' c' := World.alloc_heap_new W _
end

theorem Ows.base {W : World} {B B' go N : Nat} {K : List Nat} {V : Nat → Value} (h : Ows W B go N K V) (hb : B' ≤ B) : Ows W B' go N K V := ⟨Nat.le_trans hb h.ge, own_base h.row hb, h.list, h.ne⟩
/-- A Coder of a valid table: block b, its cells at gc, the states of its symbols at go. -/
structure Cd (W : World) (B b gc go y s N : Nat) (l : List Int) (V : Nat → Value) : Prop where
  blk : Cb W b (y : Int) (some ⟨gc, 0, none⟩) s s (some ⟨go, 0, none⟩) N N
  ge : B ≤ b
  cel : W.ownsRow B 139 3 (.slice (some ⟨gc, 0, none⟩) s s) s (flat3 (cls y l (spl s l)))
  ows : Ows W B go N (spl s l) V
def Cdr (W : World) (B b y s N : Nat) (l : List Int) : Prop := ∃ gc go V, Cd W B b gc go y s N l V
section
variable {W W' : World} {B b gc go y s N : Nat} {l : List Int} {V : Nat → Value}
theorem ro_ge {e : TypeId} {z n : Nat} {v : Value} {xs : List Value} (h : W.ownsRow B e z v n xs) {g : Nat} (hg : v.ownBlock = some g) : B ≤ g := own_ge h hg
theorem Cd.same (h : Cd W B b gc go y s N l V) (hb : ∀ k, B ≤ k → k < W.heap.size → W'.heap[k]? = W.heap[k]?) : Cd W' B b gc go y s N l V :=
  ⟨h.blk.same (hb _ h.ge h.blk.lt), h.ge, ro_same h.cel (fun _ hg => hb _ (own_ge h.cel hg) (ro_lt h.cel hg)), h.ows.same hb⟩
theorem Cdr.same (h : Cdr W B b y s N l) (hb : ∀ k, B ≤ k → k < W.heap.size → W'.heap[k]? = W.heap[k]?) : Cdr W' B b y s N l := by
  obtain ⟨gc, go, V, h⟩ := h
  exact ⟨gc, go, V, h.same hb⟩
theorem Cdr.below (h : Cdr W B b y s N l) (hb : Below W.heap.size W W') : Cdr W' B b y s N l := h.same fun k _ hk => hb.block k hk
theorem Cdr.base {B' : Nat} (h : Cdr W B b y s N l) (hb : B' ≤ B) : Cdr W B' b y s N l := by
  obtain ⟨gc, go, V, h⟩ := h
  exact ⟨gc, go, V, h.blk, Nat.le_trans hb h.ge, ro_base h.cel hb, h.ows.base hb⟩
end

set_option maxRecDepth 100000 in
set_option maxHeartbeats 4000000 in
theorem new_bad (w : World) (y : Int) (A : Option Addr) (l : List Int) (N c : Nat) (hN : l.length = N) (hb : N ≤ 1000000) (hv : vt y l 256 9 = false) (hR : Ri w A l) :
    Calls Tryz.prog 31 #[tb y A N c] w fun e w' => e = .returned (.tuple #[.pointer none, .int .i64 13]) ∧ Below w.heap.size w w' := by
  have b1 : Below w.heap.size w (w.alloc (.cells #[.int .i64 y, .slice A N c] 28)) := (Below.refl _ w).alloc (Nat.le_refl _) _
  have t1 := Tb.new w y A N c
  obtain ⟨w1, hw1⟩ : ∃ w1, w.alloc (.cells #[.int .i64 y, .slice A N c] 28) = w1 := ⟨_, rfl⟩
  rw [hw1] at b1 t1
  have c0 := t1.c0
  have c1 := t1.c1
  have SP := Lib.hid (spread_bad w1 y A l N c hN hb hv (hR.below b1))
  have B1 := Lib.hid b1
  clear b1 t1 hR hN hv
  go_enter Tryz.func31, Tryz.ntmps31
  go_wp2_with (go_at_call 65; refine SP.out.mono ?_; rintro e w2 ⟨rfl, hb2⟩; have B2 := Lib.hid (below_on B1.out (Nat.le_refl _) hb2); clear hb2)
  go_ret2
  exact ⟨rfl, B2.out⟩

set_option maxRecDepth 100000 in
set_option maxHeartbeats 4000000 in
theorem new_ok (w : World) (y s : Nat) (A : Option Addr) (l : List Int) (N c : Nat) (hN : l.length = N) (hv : Vt y l) (hse : 2 ^ y = s) (hR : Ri w A l) :
    Calls Tryz.prog 31 #[tb y A N c] w fun e w' => ∃ b, e = .returned (.tuple #[.pointer (some ⟨b, 0, none⟩), .int .i64 0]) ∧ Cdr w' w.heap.size b y s N l ∧ Below w.heap.size w w' := by
  have b1 : Below w.heap.size w (w.alloc (.cells #[.int .i64 (y : Int), .slice A N c] 28)) := (Below.refl _ w).alloc (Nat.le_refl _) _
  have t1 := Tb.new w (y : Int) A N c
  obtain ⟨w1, hw1⟩ : ∃ w1, w.alloc (.cells #[.int .i64 (y : Int), .slice A N c] 28) = w1 := ⟨_, rfl⟩
  rw [hw1] at b1 t1
  have c0 := t1.c0
  have c1 := t1.c1
  have SP := Lib.hid (spread_ok w1 y s A l N c hN hv hse (hR.below b1))
  have BU : Hid (∀ W, Below w1.heap.size w1 W → Calls Tryz.prog 37 #[tb y A N c] W fun e w' => ∃ g, e = .returned (.tuple #[.slice (some ⟨g, 0, none⟩) s s, .int .i64 0]) ∧ w'.ownsRow W.heap.size 139 3 (.slice (some ⟨g, 0, none⟩) s s) s (flat3 (cls y l (spl s l))) ∧ Below W.heap.size W w') := Lib.hid (fun W hb => build_ok W y s A l N c hN hv hse ((hR.below b1).below hb))
  have CO : Hid (∀ (W : World) (g : Nat), W.ownsRow 0 3 1 (.slice (some ⟨g, 0, none⟩) s s) s ((spl s l).map nv) → Calls Tryz.prog 66 #[tb y A N c, .slice (some ⟨g, 0, none⟩) s s] W fun e w' => ∃ go V, e = .returned (.slice (some ⟨go, 0, none⟩) N N) ∧ Ows w' W.heap.size go N (spl s l) V ∧ Below W.heap.size W w') := Lib.hid (fun W g hK => collect_ok W y s g N c A l hN hv hse hK)
  have B1 := Lib.hid b1
  have T1 := Lib.hid t1
  clear b1 t1 hR hN hv hse
  go_enter Tryz.func31, Tryz.ntmps31
  go_wp2_with (first
    | (go_at_call 65; refine SP.out.mono ?_; rintro e w2 ⟨g2, rfl, ho2, hb2⟩; have O2 := Lib.hid ho2; have P2 := Lib.hid hb2; have q2 := T1.out.below hb2; have a0 := q2.c0; have a1 := q2.c1; clear ho2 hb2 q2)
    | (go_at_call 37; refine (BU.out w2 P2.out).mono ?_; rintro e w3 ⟨g3, rfl, ho3, hb3⟩; have O3 := Lib.hid ho3; have K3 := Lib.hid (own_zero (own_below O2.out hb3)); have P3 := Lib.hid (below_on P2.out (Nat.le_refl _) hb3); have q3 := T1.out.below P3.out; have d0 := q3.c0; have d1 := q3.c1; clear ho3 hb3 q3))
  have f0 : w3.drew.cell? ⟨w.heap.size, 0, none⟩ = some (.int .i64 (y : Int)) := d0
  have f1 : w3.drew.cell? ⟨w.heap.size, 1, none⟩ = some (.slice A N c) := d1
  clear a0 a1 c0 c1 d0 d1 SP BU
  go_region_held3 (fun W => W.cell? ⟨w.heap.size, 0, none⟩ = some (.int .i64 (y : Int)) ∧ W.cell? ⟨w.heap.size, 1, none⟩ = some (.slice A N c)) (first | exact ⟨f0, f1⟩ | exact ⟨g0, g1⟩ | exact ⟨h0, h1⟩) (first
    | (go_at_call 66; refine (CO.out _ g2 K3.out.drew).mono ?_; rintro e w4 ⟨go, V, rfl, ho4, hb4⟩; have O4 := Lib.hid ho4; have B4 := Lib.hid hb4; have P4 := Lib.hid (below_on P3.out.drew (Nat.le_refl _) hb4); have q4 := T1.out.below P4.out; have g0 := q4.c0; have g1 := q4.c1; have q5 := q4.below ((Below.refl _ w4).alloc (Nat.le_refl _) (.cells #[.int .i64 (y : Int), .slice (some ⟨g3, 0, none⟩) s s, .slice (some ⟨go, 0, none⟩) N N] 131)); have h0 := q5.c0; have h1 := q5.c1; clear ho4 hb4 q4 q5))
  all_goals
    go_wp2
    go_ret2
    have hl1 : w.heap.size ≤ w1.heap.size := B1.out.size
    have hl2 : w1.heap.size ≤ w2.heap.size := P2.out.size
    have hl3 : w1.heap.size ≤ w3.heap.size := P3.out.size
    have hl4 : w1.heap.size ≤ w4.heap.size := P4.out.size
    have b5 : Below w4.heap.size w4 (w4.alloc (.cells #[.int .i64 (y : Int), .slice (some ⟨g3, 0, none⟩) s s, .slice (some ⟨go, 0, none⟩) N N] 131)) := (Below.refl _ w4).alloc (Nat.le_refl _) _
    refine ⟨w4.heap.size, rfl, ⟨g3, go, V, Cb.new w4 _ _ _ _ _ _ _, by omega, ?_, ?_⟩, ?_⟩
    · exact ro_base (ro_below (ro_below O3.out.drew B4.out) b5) (by omega)
    · exact (O4.out.below b5).base (by simp only [World.drew] at *; omega)
    · exact below_on B1.out (Nat.le_refl _) (below_on P4.out (Nat.le_refl _) b5)

end Go.Proofs.YtnlhokfhkohdpaaGreat

namespace Go.Proofs.YtnlhokfhkohdpaaGreat
open Go.RowKit Go.Shelf

abbrev stv (i v n : Int) : Value := .agg #[.int .i64 i, .int .u64 v, .int .i64 n]
def Sb (W : World) (b : Nat) (i v n : Int) : Prop := W.heap[b]? = some (.cells #[.int .i64 i, .int .u64 v, .int .i64 n] 81 (0, 0))
section
variable {W W' : World} {b : Nat} {p q r : Int}
theorem Sb.lt (h : Sb W b p q r) : b < W.heap.size := (Array.getElem?_eq_some_iff.1 h).1
theorem Sb.c0 (h : Sb W b p q r) : W.cell? ⟨b, 0, none⟩ = some (.int .i64 p) := by rw [cell_of_row W b 0 _ _ _ h]; rfl
theorem Sb.c1 (h : Sb W b p q r) : W.cell? ⟨b, 1, none⟩ = some (.int .u64 q) := by rw [cell_of_row W b 1 _ _ _ h]; rfl
theorem Sb.c2 (h : Sb W b p q r) : W.cell? ⟨b, 2, none⟩ = some (.int .i64 r) := by rw [cell_of_row W b 2 _ _ _ h]; rfl
theorem Sb.free (h : Sb W b p q r) (i : Nat) : W.frozen? ⟨b, i, none⟩ = false := by
  have : W.heap[b]? = _ := h
  simp [World.frozen?, this]
theorem Sb.same (h : Sb W b p q r) (hb : W'.heap[b]? = W.heap[b]?) : Sb W' b p q r := hb.trans h
theorem Sb.below (h : Sb W b p q r) (hb : Below W.heap.size W W') : Sb W' b p q r := hb.block b h.lt |>.trans h
theorem Sb.set0 (h : Sb W b p q r) (z : Int) : Sb (W.setCell ⟨b, 0, none⟩ (.int .i64 z)) b z q r := by
  have hb : W.heap[b]? = _ := h
  unfold Sb
  simp [World.setCell, Array.getElem?_modify, hb]
theorem Sb.set1 (h : Sb W b p q r) (z : Int) : Sb (W.setCell ⟨b, 1, none⟩ (.int .u64 z)) b p z r := by
  have hb : W.heap[b]? = _ := h
  unfold Sb
  simp [World.setCell, Array.getElem?_modify, hb]
theorem Sb.set2 (h : Sb W b p q r) (z : Int) : Sb (W.setCell ⟨b, 2, none⟩ (.int .i64 z)) b p q z := by
  have hb : W.heap[b]? = _ := h
  unfold Sb
  simp [World.setCell, Array.getElem?_modify, hb]
theorem Sb.new (W : World) (p q r : Int) : Sb (W.alloc (.cells #[.int .i64 p, .int .u64 q, .int .i64 r] 81)) W.heap.size p q r := World.alloc_heap_new W _
theorem Sb.load (h : Sb W b p q r) : (loadVar 81 ⟨b, 0, none⟩).run Tryz.prog W = .ok (stv p q r) W := by
  have c0 := h.c0
  have c1 := h.c1
  have c2 := h.c2
  simp [loadVar, go_sem, c0, c1, c2]
end

/-- A cell, a step that is stored over another one. -/
theorem set_cell {W : World} {b : Nat} {x0 p0 q0 : Int} (h : Ce W b x0 p0 q0) (x p q : Int) {B : Nat} {w : World} (hB : Below B w W) (hb : B ≤ b) : ∃ Wa Wb Wc,
    W.cell? ⟨b, 0, none⟩ = some (.int .i64 x0) ∧ W.frozen? ⟨b, 0, none⟩ = false ∧ W.setCell ⟨b, 0, none⟩ (.int .i64 x) = Wa ∧
    Wa.cell? ⟨b, 1, none⟩ = some (.int .i64 p0) ∧ Wa.frozen? ⟨b, 1, none⟩ = false ∧ Wa.setCell ⟨b, 1, none⟩ (.int .i64 p) = Wb ∧
    Wb.cell? ⟨b, 2, none⟩ = some (.int .i64 q0) ∧ Wb.frozen? ⟨b, 2, none⟩ = false ∧ Wb.setCell ⟨b, 2, none⟩ (.int .i64 q) = Wc ∧
    Ce Wc b x p q ∧ Below B w Wc ∧ ∀ k, k ≠ b → Wc.heap[k]? = W.heap[k]? := by
  have ta := h.set0 x
  have tb := ta.set1 p
  exact ⟨_, _, _, h.c0, h.free 0, rfl, ta.c1, ta.free 1, rfl, tb.c2, tb.free 2, rfl, tb.set2 q, ((hB.setCell (p := ⟨b, 0, none⟩) hb _).setCell (p := ⟨b, 1, none⟩) hb _).setCell (p := ⟨b, 2, none⟩) hb _, fun k hk => by
    rw [Below.heap_setCell _ _ _ _ hk, Below.heap_setCell _ _ _ _ hk, Below.heap_setCell _ _ _ _ hk]⟩
theorem set_step {W : World} {b : Nat} {x0 p0 q0 : Int} (h : Sb W b x0 p0 q0) (x p q : Int) {B : Nat} {w : World} (hB : Below B w W) (hb : B ≤ b) : ∃ Wa Wb Wc,
    W.cell? ⟨b, 0, none⟩ = some (.int .i64 x0) ∧ W.frozen? ⟨b, 0, none⟩ = false ∧ W.setCell ⟨b, 0, none⟩ (.int .i64 x) = Wa ∧
    Wa.cell? ⟨b, 1, none⟩ = some (.int .u64 p0) ∧ Wa.frozen? ⟨b, 1, none⟩ = false ∧ Wa.setCell ⟨b, 1, none⟩ (.int .u64 p) = Wb ∧
    Wb.cell? ⟨b, 2, none⟩ = some (.int .i64 q0) ∧ Wb.frozen? ⟨b, 2, none⟩ = false ∧ Wb.setCell ⟨b, 2, none⟩ (.int .i64 q) = Wc ∧
    Sb Wc b x p q ∧ Below B w Wc ∧ ∀ k, k ≠ b → Wc.heap[k]? = W.heap[k]? := by
  have ta := h.set0 x
  have tb := ta.set1 p
  exact ⟨_, _, _, h.c0, h.free 0, rfl, ta.c1, ta.free 1, rfl, tb.c2, tb.free 2, rfl, tb.set2 q, ((hB.setCell (p := ⟨b, 0, none⟩) hb _).setCell (p := ⟨b, 1, none⟩) hb _).setCell (p := ⟨b, 2, none⟩) hb _, fun k hk => by
    rw [Below.heap_setCell _ _ _ _ hk, Below.heap_setCell _ _ _ _ hk, Below.heap_setCell _ _ _ _ hk]⟩
theorem below_new (W : World) (o : Obj) : Below W.heap.size W (W.alloc o) := (Below.refl _ W).alloc (Nat.le_refl _) _

end Go.Proofs.YtnlhokfhkohdpaaGreat

namespace Go.Proofs.YtnlhokfhkohdpaaGreat
open Go.RowKit Go.Shelf

set_option maxRecDepth 100000 in
set_option maxHeartbeats 1000000 in
theorem none_nil (w : World) : Calls Tryz.prog 103 #[.pointer none] w fun e w' => e = .returned (.bool true) ∧ w' = w := by
  go_enter Tryz.func103, Tryz.ntmps103
  go_wp2
  go_ret
  exact ⟨rfl, rfl⟩
set_option maxRecDepth 100000 in
set_option maxHeartbeats 1000000 in
theorem none_any (w : World) {b : Nat} {y : Int} {A A' : Option Addr} {n c n' c' : Nat} (h : Cb w b y A n c A' n' c') : Calls Tryz.prog 103 #[.pointer (some ⟨b, 0, none⟩)] w fun e w' => e = .returned (.bool (decide (n = 0))) ∧ w' = w := by
  have c1 := h.c1
  obtain ⟨R, hR⟩ : ∃ R, decide (n = 0) = R := ⟨_, rfl⟩
  have e1 : ((n : Int) == 0) = R := by
    rw [← hR]
    by_cases h0 : n = 0
    · subst h0; rfl
    · rw [decide_eq_false h0]; simp; omega
  rw [hR]
  clear h hR
  go_enter Tryz.func103, Tryz.ntmps103
  go_wp2
  go_ret
  exact ⟨rfl, rfl⟩

set_option maxRecDepth 100000 in
set_option maxHeartbeats 1000000 in
theorem log_any (w : World) {b : Nat} {y : Int} {A A' : Option Addr} {n c n' c' : Nat} (h : Cb w b y A n c A' n' c') : Calls Tryz.prog 35 #[.pointer (some ⟨b, 0, none⟩)] w fun e w' => e = .returned (.int .i64 y) ∧ w' = w := by
  have c0 := h.c0
  clear h
  go_enter Tryz.func35, Tryz.ntmps35
  go_wp2
  go_ret
  exact ⟨rfl, rfl⟩
set_option maxRecDepth 100000 in
set_option maxHeartbeats 1000000 in
theorem log_nil (w : World) : Calls Tryz.prog 35 #[.pointer none] w fun e w' => e = .returned (.int .i64 0) ∧ w' = w := by
  go_enter Tryz.func35, Tryz.ntmps35
  go_wp2
  go_ret
  exact ⟨rfl, rfl⟩

/-- A receiver without a table. -/
def Nn (w : World) (p : Value) : Prop := p = .pointer none ∨ ∃ b, p = .pointer (some ⟨b, 0, none⟩) ∧ Cb w b 0 none 0 0 none 0 0
theorem Nn.below {w w' : World} {p : Value} (h : Nn w p) (hb : Below w.heap.size w w') : Nn w' p := by
  rcases h with h | ⟨b, h, hc⟩
  · exact .inl h
  · exact .inr ⟨b, h, hc.below hb⟩
theorem none_nn (w : World) {p : Value} (h : Nn w p) : Calls Tryz.prog 103 #[p] w fun e w' => e = .returned (.bool true) ∧ w' = w := by
  rcases h with rfl | ⟨b, rfl, hc⟩
  · exact none_nil w
  · exact none_any w hc
theorem log_nn (w : World) {p : Value} (h : Nn w p) : Calls Tryz.prog 35 #[p] w fun e w' => e = .returned (.int .i64 0) ∧ w' = w := by
  rcases h with rfl | ⟨b, rfl, hc⟩
  · exact log_nil w
  · exact log_any w hc

set_option maxRecDepth 100000 in
set_option maxHeartbeats 1000000 in
theorem check_nn (w : World) {p : Value} (h : Nn w p) (z : Int) : Calls Tryz.prog 93 #[p, .int .i64 z] w fun e w' => e = .returned (.int .i64 1) ∧ w' = w := by
  have NO := Lib.hid (none_nn w h)
  clear h
  go_enter Tryz.func93, Tryz.ntmps93
  go_wp2_with (go_at_call 103; refine NO.out.mono ?_; rintro e w' ⟨rfl, rfl⟩)
  go_ret
  exact ⟨rfl, rfl⟩
set_option maxRecDepth 100000 in
set_option maxHeartbeats 1000000 in
theorem own_nn (w : World) {p : Value} (h : Nn w p) (z : Int) : Calls Tryz.prog 92 #[p, .int .i64 z] w fun e w' => e = .returned (.tuple #[.slice none 0 0, .int .i64 1]) ∧ w' = w := by
  have NO := Lib.hid (none_nn w h)
  clear h
  go_enter Tryz.func92, Tryz.ntmps92
  go_wp2_with (go_at_call 103; refine NO.out.mono ?_; rintro e w' ⟨rfl, rfl⟩)
  go_ret2
  exact ⟨rfl, rfl⟩

set_option maxRecDepth 100000 in
set_option maxHeartbeats 1000000 in
theorem chk_any (w : World) {b : Nat} {y : Int} {A A' : Option Addr} {n c n' c' : Nat} (h : Cb w b y A n c A' n' c') (h0 : n ≠ 0) (z : Int) : Calls Tryz.prog 93 #[.pointer (some ⟨b, 0, none⟩), .int .i64 z] w fun e w' => e = .returned (.int .i64 (if z < 0 ∨ (n : Int) ≤ z then 21 else 0)) ∧ w' = w := by
  have NO := none_any w h
  rw [decide_eq_false h0] at NO
  have NO := Lib.hid NO
  have c1 := h.c1
  clear h
  by_cases h1 : z < 0
  · have k1 : decide (z < 0) = true := decide_eq_true h1
    rw [if_pos (.inl h1)]
    go_enter Tryz.func93, Tryz.ntmps93
    go_wp2_with (go_at_call 103; refine NO.out.mono ?_; rintro e w' ⟨rfl, rfl⟩)
    go_ret
    exact ⟨rfl, rfl⟩
  · have k1 : decide (z < 0) = false := decide_eq_false h1
    by_cases h2 : (n : Int) ≤ z
    · have k2 : decide ((n : Int) ≤ z) = true := decide_eq_true h2
      rw [if_pos (.inr h2)]
      go_enter Tryz.func93, Tryz.ntmps93
      go_wp2_with (go_at_call 103; refine NO.out.mono ?_; rintro e w' ⟨rfl, rfl⟩)
      go_ret
      exact ⟨rfl, rfl⟩
    · have k2 : decide ((n : Int) ≤ z) = false := decide_eq_false h2
      rw [if_neg (by omega)]
      go_enter Tryz.func93, Tryz.ntmps93
      go_wp2_with (go_at_call 103; refine NO.out.mono ?_; rintro e w' ⟨rfl, rfl⟩)
      go_ret
      exact ⟨rfl, rfl⟩

/-- The length of a symbol's row. -/
theorem row_len {y s : Nat} {l : List Int} (hv : Vt y l) (hse : 2 ^ y = s) (x : Nat) : (pls 0 (spl s l) (x : Int)).length = nos l x := by
  rw [pls_count, ← hse, hv.nos]
set_option maxRecDepth 100000 in
set_option maxHeartbeats 1000000 in
theorem own_bad (w : World) {B b gc go y s N : Nat} {l : List Int} {V : Nat → Value} (h : Cd w B b gc go y s N l V) (hN : l.length = N) (hv : Vt y l) (hse : 2 ^ y = s) (z : Int) (hz : z < 0 ∨ nos l z.toNat = 0) : Calls Tryz.prog 92 #[.pointer (some ⟨b, 0, none⟩), .int .i64 z] w fun e w' => e = .returned (.tuple #[.slice none 0 0, .int .i64 2]) ∧ w' = w := by
  have hs1 : 1 ≤ s := by rw [← hse]; exact Nat.one_le_two_pow
  have hN2 : N ≤ 256 := by rw [← hN]; exact hv.len
  have NO := none_any w h.blk
  rw [decide_eq_false (by omega)] at NO
  have NO := Lib.hid NO
  have c2 := h.blk.c2
  by_cases h1 : z < 0
  · have k1 : decide (z < 0) = true := decide_eq_true h1
    clear h hv hse hz
    go_enter Tryz.func92, Tryz.ntmps92
    go_wp2_with (go_at_call 103; refine NO.out.mono ?_; rintro e w' ⟨rfl, rfl⟩)
    go_ret2
    exact ⟨rfl, rfl⟩
  · have k1 : decide (z < 0) = false := decide_eq_false h1
    by_cases h2 : (N : Int) ≤ z
    · have k2 : decide ((N : Int) ≤ z) = true := decide_eq_true h2
      clear h hv hse hz
      go_enter Tryz.func92, Tryz.ntmps92
      go_wp2_with (go_at_call 103; refine NO.out.mono ?_; rintro e w' ⟨rfl, rfl⟩)
      go_ret2
      exact ⟨rfl, rfl⟩
    · obtain ⟨x, rfl⟩ : ∃ x : Nat, z = (x : Int) := ⟨z.toNat, by omega⟩
      have hx : x < N := by omega
      have hn0 : nos l x = 0 := by
        rcases hz with hz | hz
        · omega
        · rwa [Int.toNat_natCast] at hz
      obtain ⟨A', c', hV, _⟩ := own_form (h.ows.list x hx)
      have cv := h.ows.cell hx
      rw [hV, row_len hv hse, hn0] at cv
      have k2 : decide ((N : Int) ≤ (x : Int)) = false := decide_eq_false h2
      have k3 : ¬ N ≤ x := by omega
      have wx : IntKind.i64.wrap (x : Int) = (x : Int) := IntWalk.i64_in _ (by omega)
      clear h hv hse hz hV
      go_enter Tryz.func92, Tryz.ntmps92
      go_wp2_with (go_at_call 103; refine NO.out.mono ?_; rintro e w' ⟨rfl, rfl⟩)
      go_ret2
      exact ⟨rfl, rfl⟩
set_option maxRecDepth 100000 in
set_option maxHeartbeats 1000000 in
theorem own_ok (w : World) {B b gc go y s N n : Nat} {l : List Int} {V : Nat → Value} (h : Cd w B b gc go y s N l V) (hN : l.length = N) (hv : Vt y l) (hse : 2 ^ y = s) (x : Nat) (hz : nos l x = n) (hn : 1 ≤ n) : Calls Tryz.prog 92 #[.pointer (some ⟨b, 0, none⟩), .int .i64 (x : Int)] w fun e w' => ∃ ad c, e = .returned (.tuple #[.slice (some ad) n c, .int .i64 0]) ∧ Rn w (some ad) (pls 0 (spl s l) (x : Int)) ∧ w' = w := by
  have hs1 : 1 ≤ s := by rw [← hse]; exact Nat.one_le_two_pow
  have hN2 : N ≤ 256 := by rw [← hN]; exact hv.len
  have NO := none_any w h.blk
  rw [decide_eq_false (by omega)] at NO
  have NO := Lib.hid NO
  have c2 := h.blk.c2
  have hx : x < N := by
    rcases Nat.lt_or_ge x N with h1 | h1
    · exact h1
    · unfold nos at hz
      rw [List.getElem?_eq_none (by omega)] at hz
      simp only at hz
      omega
  have ho := h.ows.list x hx
  obtain ⟨A', c', hV, _⟩ := own_form ho
  have cv := h.ows.cell hx
  rw [row_len hv hse, hz] at hV ho
  rw [hV] at cv ho
  have hR := rn_own ho
  obtain ⟨ad, rfl⟩ : ∃ ad, A' = some ad := by
    refine hR.some_of (fun e => ?_)
    have := congrArg List.length e
    rw [List.length_map, row_len hv hse, hz, List.length_nil] at this
    omega
  have HR := Lib.hid hR
  have k1 : decide ((x : Int) < 0) = false := decide_eq_false (by omega)
  have k2 : decide ((N : Int) ≤ (x : Int)) = false := decide_eq_false (by omega)
  have k3 : ¬ N ≤ x := by omega
  have k4 : ((n : Int) == 0) = false := by simp; omega
  have wx : IntKind.i64.wrap (x : Int) = (x : Int) := IntWalk.i64_in _ (by omega)
  clear h hv hse hz hV ho hR
  go_enter Tryz.func92, Tryz.ntmps92
  go_wp2_with (go_at_call 103; refine NO.out.mono ?_; rintro e w' ⟨rfl, rfl⟩)
  go_ret2
  exact ⟨ad, c', rfl, HR.out, rfl⟩

set_option maxRecDepth 100000 in
set_option maxHeartbeats 1000000 in
theorem place_ok (w : World) (x n : Nat) (h1 : 1 ≤ n) (hx : n ≤ x) (h2 : x ≤ 2000) : Calls Tryz.prog 94 #[.int .i64 (x : Int), .int .i64 (n : Int)] w fun e w' => ∃ X, e = .returned (.int .i64 ((X - n : Nat) : Int)) ∧ (∃ j, x / 2 ^ j = X) ∧ n ≤ X ∧ X < 2 * n ∧ w' = w := by
  go_enter Tryz.func94, Tryz.ntmps94
  go_wp2
  go_loop [0] (fun p => ∃ X j : Nat, p = .int .i64 (X : Int) ∧ Hid (x / 2 ^ j = X) ∧ n ≤ X ∧ X ≤ 2000) (fun p => (intOf p).toNat)
  case atStart => exact ⟨x, 0, rfl, Lib.hid (by simp), hx, h2⟩
  case round =>
    obtain ⟨X, j, rfl, HX, hl, hu⟩ := hrel
    by_cases hlt : 2 * n ≤ X
    · have k1 : decide (2 * (n : Int) ≤ (X : Int)) = true := decide_eq_true (by omega)
      have HN : Hid (x / 2 ^ (j + 1) = X / 2) := Lib.hid (by rw [Nat.pow_succ, ← Nat.div_div_eq_div_mul, HX.out])
      go_wp2
      exact ⟨⟨X / 2, j + 1, by simp, HN, by omega, by omega⟩, by simp [intOf]; omega⟩
    · have k1 : decide (2 * (n : Int) ≤ (X : Int)) = false := decide_eq_false (by omega)
      have e1 : (X : Int) - (n : Int) = ((X - n : Nat) : Int) := by omega
      go_wp2
      go_ret
      exact ⟨X, rfl, ⟨j, HX.out⟩, hl, by omega, rfl⟩

end Go.Proofs.YtnlhokfhkohdpaaGreat
