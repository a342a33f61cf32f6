/-
  A loop over an iterator whose rounds change one block x and make new memory, no more, and that no round leaves: if every round takes the block from its j-th to its next state, the loop takes it to the last one. Conditions: the loop is an outermost one of its function, x lay there before it.
-/
import Derived.RangeFuncBox
import Derived.RangeFuncNested
import Derived.RangeFuncLeaves
import Derived.Shelf.Abstract
import Derived.WalkKit
import Derived.OwnWalkIn
import Derived.TacticsInMore
import Derived.LoopNIn
import Derived.LoopIn
import Derived.Test.YtcmfejehlkbmoaaBase
namespace Go.Proofs.Ytcmfejehlkbmoaa
open Go.RowKit Go.Shelf

theorem grown_none {a b : World} (h : a.grownBy b none) (x : Nat) : a.grownBy b (some x) := ⟨h.os, h.tape, h.output, h.size, fun k hk _ => h.block k hk (by simp)⟩
theorem grown_put {a b : World} {row : Option Nat} (h : a.grownBy b row) (l : Nat) (hl : a.heap.size ≤ l) (o : Obj) : a.grownBy (b.putObj l o) row :=
  ⟨h.os, h.tape, h.output, by rw [World.putObj_size]; exact h.size, fun k hk hne => by rw [World.putObj_heap_other (by omega)]; exact h.block k hk hne⟩

/-- A call of yield at loop l hands on element j: the round changes block x alone, from state j to the next one. -/
def Yields (F : Fence) (m : Nat) (P : Program) (l x N : Nat) (enc : Nat → Array Value) (Pp : Nat → Option Obj → Prop) (w : World) : Prop :=
  ∀ j W, j < N → w.grownBy W (some x) → Pp j W.heap[x]? → YieldAt F m P l (enc j) W fun e W' => e = .returned (.bool true) ∧ W.grownBy W' (some x) ∧ Pp (j + 1) W'.heap[x]?

/-- The iterator gf with the captured values lb hands on all N elements. -/
def Hands (F : Fence) (n : Nat) (P : Program) (gf : Nat) (lb : Array Value) (x N : Nat) (enc : Nat → Array Value) (Pp : Nat → Option Obj → Prop) (w : World) : Prop :=
  ∀ l W, w.grownBy W none → Yields F (n - 1) P l x N enc Pp W → Pp 0 W.heap[x]? →
    CallsIn F n P gf (#[.func (.yield l) #[] #[]] ++ lb) W fun e W' => (∃ v, e = .returned v) ∧ W.grownBy W' (some x) ∧ Pp N W'.heap[x]?

theorem range_x {F : Fence} {n : Nat} {P : Program} {g : Operand} {ps : Array Tmp} {assign body : Code} {Q : Exit → Act → World → Prop} {a : Act} {w : World}
    (hro : F.round = none) (h1 : 1 ≤ n) {gf : Nat} {lb : Array Value} (hg : a.eval g = .func (.func gf) #[] lb) (hFg : F.fn gf) (eg : ∀ args w, (callFunc gf args).run P w = .ok (.enter gf args) w)
    {x N : Nat} {enc : Nat → Array Value} {Pp : Nat → Option Obj → Prop} (hx : x < w.heap.size) (hps : ∀ j, (enc j).size = ps.size) (hit : Hands F (n - 1) P gf lb x N enc Pp w) (h0 : Pp 0 w.heap[x]?) (a₁ : Nat → Act)
    (hassign : ∀ (l j : Nat) (W : World) (K : Act → World → Prop), j < N → K (a₁ j) W →
      assign.wpIn (F.inRound l) (n - 1 - 1) P (Exit.then K (fun _ _ _ => False)) { tmps := (ps.zip (enc j)).foldl (fun t (p, v) => t.setIfInBounds p v) a.tmps, defers := [] } W)
    (hbody : ∀ (l j : Nat) (W : World), j < N → w.grownBy W (some x) → Pp j W.heap[x]? → body.wpIn (F.inRound l) (n - 1 - 1) P (fun e _ W' => e = .normal ∧ W.grownBy W' (some x) ∧ Pp (j + 1) W'.heap[x]?) (a₁ j) W)
    (hdone : ∀ (D : Nat) (W : World), w.heap.size ≤ D → W.heap[D]? = some (.deferred (some [])) → w.grownBy W (some x) → Pp N W.heap[x]? → Q .normal { a with defers := { target := .collected D, args := #[] } :: a.defers } W) :
    (Code.rangeFunc g ps assign body).wpIn F n P Q a w := by
  refine wpIn_rangeFunc fun fn hfn => ?_
  rw [hro]
  obtain ⟨W1, hW1⟩ : ∃ W1, (w.alloc (.deferred (some []))).alloc (.loop { state := .ready, pending := none, fn, tmps := a.tmps, params := ps, assign, body, defers := w.heap.size }) = W1 := ⟨_, rfl⟩
  obtain ⟨L, hL⟩ : ∃ L : Loop, { state := .ready, pending := none, fn, tmps := a.tmps, params := ps, assign, body, defers := w.heap.size } = L := ⟨_, rfl⟩
  have g1 : w.grownBy W1 none := by
    rw [← hW1]
    exact grown_trans (World.grownBy_alloc w _ none) (World.grownBy_alloc _ _ none)
  have sz : W1.heap.size = w.heap.size + 2 := by rw [← hW1]; simp
  have hr1 : W1.heap[w.heap.size + 1]? = some (.loop L) := by
    rw [← hW1, hL]
    have := World.alloc_heap_new (w.alloc (.deferred (some []))) (.loop L)
    rwa [World.size_alloc] at this
  have hd1 : W1.heap[w.heap.size]? = some (.deferred (some [])) := by
    rw [← hW1]
    exact (Below.heap_alloc _ _ _ (by simp)).trans (World.alloc_heap_new w _)
  have he : (Instr.enterLoop fn a.tmps ps assign body none).run P w = .ok (w.heap.size + 1, [{ target := .collected w.heap.size, args := #[] }]) W1 := by
    rw [← hW1]
    exact run_enterLoop_outer _ _ _ _ _
  refine ⟨w.heap.size + 1, [{ target := .collected w.heap.size, args := #[] }], W1, { target := .fn (.func gf) lb, args := #[.func (.yield (w.heap.size + 1)) #[] #[]] }, W1, gf,
    #[.func (.yield (w.heap.size + 1)) #[] #[]] ++ lb, W1, he, ?_, ?_, ?_, fun _ => h1, ?_⟩
  · simp only [resolve, hg]
    simp [go_sem]
  · intro f' hf'
    simp [Target.leads] at hf'
    subst hf'
    exact hFg
  · simp [invoke, go_sem, eg]
  · have hx1 : W1.heap[x]? = w.heap[x]? := g1.block x hx (by simp)
    refine (hit (w.heap.size + 1) W1 g1 ?_ (by rw [hx1]; exact h0)).mono ?_
    · intro j W hj hW hp
      have hr : W.heap[w.heap.size + 1]? = some (.loop L) := (hW.block _ (by omega) (by simp; omega)).trans hr1
      have hlt : w.heap.size + 1 < W.heap.size := (Array.getElem?_eq_some_iff.1 hr).1
      have hy := run_yield (P := P) (args := enc j) hr (by rw [← hL]; exact hps j)
      refine ⟨_, _, _, _, hy, roundIn_of_wpIn (by rw [← hL]; exact hfn) ?_⟩
      rw [← hL]
      refine hassign _ j W _ hj ⟨_, run_beginRound hr (by rw [← hL]), ?_⟩
      obtain ⟨W2, hW2⟩ : ∃ W2, W.putObj (w.heap.size + 1) (.loop { L with state := .busy }) = W2 := ⟨_, rfl⟩
      have hr2 : W2.heap[w.heap.size + 1]? = some (.loop { L with state := .busy }) := by rw [← hW2]; exact World.putObj_heap_same hlt
      have e2 : ∀ k, k ≠ w.heap.size + 1 → W2.heap[k]? = W.heap[k]? := fun k hk => by rw [← hW2]; exact World.putObj_heap_other hk
      have s2 : W2.heap.size = W.heap.size := by rw [← hW2]; simp
      have hW0 : w.grownBy W2 (some x) := by
        rw [← hW2]
        exact grown_put (grown_trans (grown_none g1 x) hW) _ (by omega) _
      have o2 : W2.os = W.os ∧ W2.tape = W.tape ∧ W2.output = W.output := by rw [← hW2]; exact ⟨rfl, rfl, rfl⟩
      rw [hW2]
      refine wpIn_mono (hbody (w.heap.size + 1) j W2 hj hW0 (by rw [e2 x (by omega)]; exact hp)) ?_
      rintro e a3 W3 ⟨rfl, hg3, hp3⟩
      have hr3 : W3.heap[w.heap.size + 1]? = some (.loop { L with state := .busy }) := (hg3.block _ (by omega) (by simp; omega)).trans hr2
      have hlt3 := (Array.getElem?_eq_some_iff.1 hr3).1
      have hend := run_endRound (P := P) none hr3
      have eL : ({ ({ L with state := .busy } : Loop) with state := if (none : Option Code).isNone then .ready else .done, pending := none } : Loop) = L := by rw [← hL]; rfl
      rw [eL] at hend
      refine ⟨_, _, hend, rfl, ⟨hg3.os.trans o2.1, hg3.tape.trans o2.2.1, hg3.output.trans o2.2.2, by rw [World.putObj_size]; have := hg3.size; omega, fun k hk hne => ?_⟩, ?_⟩
      · by_cases hkl : k = w.heap.size + 1
        · rw [hkl, World.putObj_heap_same hlt3, hr]
        · rw [World.putObj_heap_other hkl, hg3.block k (by omega) hne, e2 k hkl]
      · rw [World.putObj_heap_other (by omega)]
        exact hp3
    · rintro e W2 ⟨⟨v, rfl⟩, hW2, hp2⟩
      have hr2 : W2.heap[w.heap.size + 1]? = some (.loop L) := (hW2.block _ (by omega) (by simp; omega)).trans hr1
      have hd2 : W2.heap[w.heap.size]? = some (.deferred (some [])) := (hW2.block _ (by omega) (by simp; omega)).trans hd1
      have hend := run_endLoop (P := P) hr2 (by rw [← hL]; simp)
      have ep : L.pending = none := by rw [← hL]
      rw [ep] at hend
      refine ⟨none, _, hend, hdone w.heap.size _ (Nat.le_refl _) ?_ (grown_put (grown_trans (grown_none g1 x) hW2) _ (by omega) _) ?_⟩
      · rw [World.putObj_heap_other (by omega)]
        exact hd2
      · rw [World.putObj_heap_other (by omega)]
        exact hp2

end Go.Proofs.Ytcmfejehlkbmoaa
