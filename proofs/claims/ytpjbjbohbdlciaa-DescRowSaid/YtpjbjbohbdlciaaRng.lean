/-
  A loop over an iterator, whatever its rounds do: they may change the blocks of a set S and make new memory; a round may leave the loop. If every round takes the invariant from j to the next, the loop takes it to the last one, or ends with the jump of the round that left. Conditions: the loop is an outermost one of its function; the loop's own two blocks are not in S.
-/
import Derived.RangeFuncBox
import Derived.RangeFuncNested
import Derived.RangeFuncLeaves
import Derived.Shelf.Abstract
import Derived.WalkKit
import Derived.OwnWalkIn
import Derived.TacticsInMore
import Derived.LoopNIn
import Derived.LoopIn
import Derived.Test.YtpjbjbohbdlciaaBase
namespace Go.Proofs.Ytpjbjbohbdlciaa
open Go.RowKit Go.Shelf

/-- Nothing but the blocks of S and new memory differs. -/
structure Chg (S : Nat → Prop) (a b : World) : Prop where
  os : b.os = a.os
  tape : b.tape = a.tape
  output : b.output = a.output
  size : a.heap.size ≤ b.heap.size
  block : ∀ k, k < a.heap.size → ¬ S k → b.heap[k]? = a.heap[k]?

theorem Chg.refl (S : Nat → Prop) (a : World) : Chg S a a := ⟨rfl, rfl, rfl, Nat.le_refl _, fun _ _ _ => rfl⟩
theorem Chg.trans {S : Nat → Prop} {a b c : World} (h : Chg S a b) (k : Chg S b c) : Chg S a c :=
  ⟨k.os.trans h.os, k.tape.trans h.tape, k.output.trans h.output, Nat.le_trans h.size k.size, fun i hi hn => (k.block i (Nat.lt_of_lt_of_le hi h.size) hn).trans (h.block i hi hn)⟩
theorem Chg.alloc {S : Nat → Prop} {a b : World} (h : Chg S a b) (o : Obj) : Chg S a (b.alloc o) :=
  ⟨h.os, h.tape, h.output, by rw [World.size_alloc]; have := h.size; omega, fun i hi hn => (Below.heap_alloc b o i (Nat.lt_of_lt_of_le hi h.size)).trans (h.block i hi hn)⟩
theorem Chg.put {S : Nat → Prop} {a b : World} (h : Chg S a b) (l : Nat) (hl : a.heap.size ≤ l) (o : Obj) : Chg S a (b.putObj l o) :=
  ⟨h.os, h.tape, h.output, by rw [World.putObj_size]; exact h.size, fun k hk hn => by rw [World.putObj_heap_other (by omega)]; exact h.block k hk hn⟩
theorem Chg.drew {S : Nat → Prop} {a b : World} (h : Chg S a b) (d : Nat) : Chg S a (b.drewN d) := ⟨h.os, h.tape, h.output, h.size, h.block⟩
theorem Chg.set {S : Nat → Prop} {a b : World} (h : Chg S a b) (ad : Addr) (hs : S ad.block) (v : Value) : Chg S a (b.setCell ad v) :=
  ⟨h.os, h.tape, h.output, by simpa [World.setCell] using h.size, fun k hk hn => (Below.heap_setCell b ad v k (fun e => hn (by rw [e]; exact hs))).trans (h.block k hk hn)⟩
theorem Chg.of_below {S : Nat → Prop} {a b : World} (h : Below a.heap.size a b) : Chg S a b := ⟨h.os, h.tape, h.output, h.size, fun k hk _ => h.block k hk⟩
theorem Chg.below {S : Nat → Prop} {a b c : World} (h : Chg S a b) (k : Below b.heap.size b c) : Chg S a c := h.trans (.of_below k)
/-- What has changed only what is newer than w0 leaves all of w0. -/
theorem Chg.new {S : Nat → Prop} {B : Nat} {a b : World} (h : Chg S a b) (hB : B ≤ a.heap.size) (hS : ∀ k, S k → B ≤ k) : Below B a b :=
  ⟨h.os, h.tape, h.output, h.size, fun k hk => h.block k (by omega) (fun e => by have := hS k e; omega)⟩
theorem boxed_chg {S : Nat → Prop} {W W' : World} {B : Nat} {t : TypeId} {v : Value} (h : Boxed W B t v) (hc : Chg S W W') (hn : ¬ S B) : Boxed W' B t v := (hc.block B h.lt hn).trans h

/-- A call of yield at loop l hands on element j: the round takes the invariant to the next one, or leaves. -/
def Yields (F : Fence) (m : Nat) (P : Program) (l N : Nat) (enc : Nat → Array Value) (I : Nat → World → Prop) (X : World → Prop) : Prop :=
  ∀ j W, j < N → I j W → YieldAt F m P l (enc j) W fun e W' => (e = .returned (.bool true) ∧ I (j + 1) W') ∨ (e = .returned (.bool false) ∧ X W')

/-- The iterator gf with the captured values lb hands on N elements, as long as what it reads (Kp) lies there; between two rounds it only draws. -/
def Hands (F : Fence) (n : Nat) (P : Program) (gf : Nat) (lb : Array Value) (N : Nat) (enc : Nat → Array Value) (Kp : World → Prop) : Prop :=
  ∀ (l : Nat) (I : Nat → World → Prop) (X : World → Prop) (W : World), (∀ j W d, I j W → I j (W.drewN d)) → (∀ W d, X W → X (W.drewN d)) → (∀ j W, I j W → Kp W) → Yields F (n - 1) P l N enc I X → I 0 W →
    CallsIn F n P gf (#[.func (.yield l) #[] #[]] ++ lb) W fun e W' => (∃ v, e = .returned v) ∧ (I N W' ∨ X W')

/-- How a round ends. -/
def roundEnd (G : World → Prop) (Px : Code → World → Prop) : Exit → World → Prop
  | .normal, W => G W
  | .ret, W => Px .ret W
  | .exit id, W => Px (.exit id) W
  | .goto t, W => Px (.goto t) W
  | _, _ => False

/-- Two worlds that differ at most in a loop's own two blocks, and in draws. -/
def Alike (D : Nat) (W W' : World) : Prop := ∀ k, k ≠ D → k ≠ D + 1 → W'.heap[k]? = W.heap[k]?

theorem range_s {F : Fence} {n : Nat} {P : Program} {g : Operand} {ps : Array Tmp} {assign body : Code} {Q : Exit → Act → World → Prop} {a : Act} {w : World}
    (hro : F.round = none) (h1 : 1 ≤ n) {gf : Nat} {lb : Array Value} (hg : a.eval g = .func (.func gf) #[] lb) (hFg : F.fn gf) (eg : ∀ args w, (callFunc gf args).run P w = .ok (.enter gf args) w)
    {N : Nat} {enc : Nat → Array Value} {Kp : World → Prop} (hps : ∀ j, (enc j).size = ps.size) (hit : Hands F (n - 1) P gf lb N enc Kp)
    (S : Nat → Prop) (hD : ¬ S w.heap.size) (hL : ¬ S (w.heap.size + 1)) (Pp : Nat → World → Prop) (Px : Code → World → Prop)
    (hPp : ∀ j W W', Alike w.heap.size W W' → Pp j W → Pp j W') (hPx : ∀ c W W', Alike w.heap.size W W' → Px c W → Px c W')
    (hKp : ∀ j W, Chg S w W → Pp j W → Kp W) (h0 : Pp 0 w) (a₁ : Nat → Act)
    (hassign : ∀ (l j : Nat) (W : World) (K : Act → World → Prop), j < N → K (a₁ j) W →
      assign.wpIn (F.inRound l) (n - 1 - 1) P (Exit.then K (fun _ _ _ => False)) { tmps := (ps.zip (enc j)).foldl (fun t (p, v) => t.setIfInBounds p v) a.tmps, defers := [] } W)
    (hbody : ∀ (l j : Nat) (W : World), j < N → Chg S w W → w.heap.size + 2 ≤ W.heap.size → Pp j W → body.wpIn (F.inRound l) (n - 1 - 1) P (fun e _ W' => Chg S W W' ∧ roundEnd (Pp (j + 1)) Px e W') (a₁ j) W)
    (hdone : ∀ (W : World), W.heap[w.heap.size]? = some (.deferred (some [])) → Chg S w W → w.heap.size + 2 ≤ W.heap.size → Pp N W → Q .normal { a with defers := { target := .collected w.heap.size, args := #[] } :: a.defers } W)
    (hstop : ∀ (c : Code) (W : World), W.heap[w.heap.size]? = some (.deferred (some [])) → Chg S w W → w.heap.size + 2 ≤ W.heap.size → Px c W → c.wpIn F n P Q { a with defers := { target := .collected w.heap.size, args := #[] } :: a.defers } W) :
    (Code.rangeFunc g ps assign body).wpIn F n P Q a w := by
  refine wpIn_rangeFunc fun fn hfn => ?_
  rw [hro]
  obtain ⟨rec, hrec⟩ : ∃ rec : LoopState → Option Code → Loop, rec = fun st pe => { state := st, pending := pe, fn, tmps := a.tmps, params := ps, assign, body, defers := w.heap.size } := ⟨_, rfl⟩
  obtain ⟨W1, hW1⟩ : ∃ W1, (w.alloc (.deferred (some []))).alloc (.loop (rec .ready none)) = W1 := ⟨_, rfl⟩
  have g1 : Chg S w W1 := by rw [← hW1]; exact ((Chg.refl S w).alloc _).alloc _
  have sz : W1.heap.size = w.heap.size + 2 := by rw [← hW1]; simp
  have hr1 : W1.heap[w.heap.size + 1]? = some (.loop (rec .ready none)) := by
    rw [← hW1]
    have := World.alloc_heap_new (w.alloc (.deferred (some []))) (.loop (rec .ready none))
    rwa [World.size_alloc] at this
  have hd1 : W1.heap[w.heap.size]? = some (.deferred (some [])) := by
    rw [← hW1]
    exact (Below.heap_alloc _ _ _ (by simp)).trans (World.alloc_heap_new w _)
  have al1 : Alike w.heap.size w W1 := fun k hk1 hk2 => by
    rcases Nat.lt_or_ge k w.heap.size with h | h
    · rw [← hW1]
      exact (Below.heap_alloc _ _ _ (by simp; omega)).trans (Below.heap_alloc _ _ _ h)
    · rw [Array.getElem?_eq_none (by omega), Array.getElem?_eq_none (by omega)]
  have alp : ∀ (W : World) (o : Obj), Alike w.heap.size W (W.putObj (w.heap.size + 1) o) := fun W o k _ hk => World.putObj_heap_other hk
  have he : (Instr.enterLoop fn a.tmps ps assign body none).run P w = .ok (w.heap.size + 1, [{ target := .collected w.heap.size, args := #[] }]) W1 := by
    rw [← hW1, hrec]
    exact run_enterLoop_outer _ _ _ _ _
  refine ⟨w.heap.size + 1, [{ target := .collected w.heap.size, args := #[] }], W1, { target := .fn (.func gf) lb, args := #[.func (.yield (w.heap.size + 1)) #[] #[]] }, W1, gf,
    #[.func (.yield (w.heap.size + 1)) #[] #[]] ++ lb, W1, he, ?_, ?_, ?_, fun _ => h1, ?_⟩
  · simp only [resolve, hg]
    simp [go_sem]
  · intro f' hf'
    simp [Target.leads] at hf'
    subst hf'
    exact hFg
  · simp [invoke, go_sem, eg]
  · refine (hit (w.heap.size + 1)
      (fun j W => Pp j W ∧ Chg S w W ∧ w.heap.size + 2 ≤ W.heap.size ∧ W.heap[w.heap.size + 1]? = some (.loop (rec .ready none)) ∧ W.heap[w.heap.size]? = some (.deferred (some [])))
      (fun W => ∃ c, Px c W ∧ Chg S w W ∧ w.heap.size + 2 ≤ W.heap.size ∧ W.heap[w.heap.size + 1]? = some (.loop (rec .done (some c))) ∧ W.heap[w.heap.size]? = some (.deferred (some [])))
      W1 (fun j W d ⟨hp, hc, hs, hl, hd⟩ => ⟨hPp j W _ (fun _ _ _ => rfl) hp, hc.drew d, hs, hl, hd⟩) (fun W d ⟨c, hp, hc, hs, hl, hd⟩ => ⟨c, hPx c W _ (fun _ _ _ => rfl) hp, hc.drew d, hs, hl, hd⟩)
      (fun j W ⟨hp, hc, _⟩ => hKp j W hc hp) ?_ ⟨hPp 0 w W1 al1 h0, g1, by omega, hr1, hd1⟩).mono ?_
    · rintro j W hj ⟨hp, hc, hs, hl, hd⟩
      have hlt : w.heap.size + 1 < W.heap.size := by omega
      have hy := run_yield (P := P) (args := enc j) hl (by rw [hrec]; exact hps j)
      refine ⟨_, _, _, _, hy, roundIn_of_wpIn (by rw [hrec]; exact hfn) ?_⟩
      rw [hrec]
      refine hassign _ j W _ hj ⟨_, run_beginRound (by rw [hrec] at hl; exact hl) rfl, ?_⟩
      obtain ⟨W2, hW2⟩ : ∃ W2, W.putObj (w.heap.size + 1) (.loop (rec .busy none)) = W2 := ⟨_, rfl⟩
      have eW2 : W.putObj (w.heap.size + 1) (.loop { (rec .ready none) with state := .busy }) = W2 := by rw [← hW2, hrec]
      rw [hrec] at eW2
      rw [eW2]
      have hr2 : W2.heap[w.heap.size + 1]? = some (.loop (rec .busy none)) := by rw [← hW2]; exact World.putObj_heap_same hlt
      have hd2 : W2.heap[w.heap.size]? = some (.deferred (some [])) := by rw [← hW2, World.putObj_heap_other (by omega)]; exact hd
      have s2 : W2.heap.size = W.heap.size := by rw [← hW2]; simp
      have hc2 : Chg S w W2 := by rw [← hW2]; exact hc.put _ (by omega) _
      have hp2 : Pp j W2 := hPp j W W2 (by rw [← hW2]; exact alp W _) hp
      refine wpIn_mono (hbody (w.heap.size + 1) j W2 hj hc2 (by omega) hp2) ?_
      rintro e a3 W3 ⟨hc3, hp3⟩
      have hr3 : W3.heap[w.heap.size + 1]? = some (.loop (rec .busy none)) := (hc3.block _ (by omega) hL).trans hr2
      have hd3 : W3.heap[w.heap.size]? = some (.deferred (some [])) := (hc3.block _ (by omega) hD).trans hd2
      have hs3 := hc3.size
      have hlt3 := (Array.getElem?_eq_some_iff.1 hr3).1
      have hw3 : Chg S w W3 := hc2.trans hc3
      have finN : (Instr.endRound (w.heap.size + 1) none).run P W3 = .ok (.bool true) (W3.putObj (w.heap.size + 1) (.loop (rec .ready none))) := by
        have := run_endRound (P := P) none hr3
        rw [hrec] at this ⊢
        exact this
      have finS : ∀ c, (Instr.endRound (w.heap.size + 1) (some c)).run P W3 = .ok (.bool false) (W3.putObj (w.heap.size + 1) (.loop (rec .done (some c)))) := fun c => by
        have := run_endRound (P := P) (some c) hr3
        rw [hrec] at this ⊢
        exact this
      have rest : ∀ (o : Obj), Chg S w (W3.putObj (w.heap.size + 1) o) ∧ w.heap.size + 2 ≤ (W3.putObj (w.heap.size + 1) o).heap.size ∧ (W3.putObj (w.heap.size + 1) o).heap[w.heap.size + 1]? = some o ∧ (W3.putObj (w.heap.size + 1) o).heap[w.heap.size]? = some (.deferred (some [])) := fun o =>
        ⟨hw3.put _ (by omega) o, by rw [World.putObj_size]; omega, World.putObj_heap_same hlt3, by rw [World.putObj_heap_other (by omega)]; exact hd3⟩
      subst hrec
      cases e with
      | normal => exact ⟨_, _, finN, .inl ⟨rfl, hPp _ _ _ (alp W3 _) hp3, rest _⟩⟩
      | ret => exact ⟨_, _, finS .ret, .inr ⟨rfl, .ret, hPx _ _ _ (alp W3 _) hp3, rest _⟩⟩
      | exit id => exact ⟨_, _, finS (.exit id), .inr ⟨rfl, .exit id, hPx _ _ _ (alp W3 _) hp3, rest _⟩⟩
      | goto t => exact ⟨_, _, finS (.goto t), .inr ⟨rfl, .goto t, hPx _ _ _ (alp W3 _) hp3, rest _⟩⟩
      | panic ch => exact hp3.elim
      | outgrown => exact hp3.elim
    · rintro e W2 ⟨⟨v, rfl⟩, (⟨hp, hc, hs, hl, hd⟩ | ⟨c, hp, hc, hs, hl, hd⟩)⟩
      · refine ⟨none, _, by have := run_endLoop (P := P) hl (by rw [hrec]; simp); rw [hrec] at this; exact this, hdone _ (by rw [World.putObj_heap_other (by omega)]; exact hd) (hc.put _ (by omega) _) (by rw [World.putObj_size]; exact hs) (hPp _ _ _ (alp _ _) hp)⟩
      · refine ⟨some c, _, by have := run_endLoop (P := P) hl (by rw [hrec]; simp); rw [hrec] at this; exact this, hstop c _ (by rw [World.putObj_heap_other (by omega)]; exact hd) (hc.put _ (by omega) _) (by rw [World.putObj_size]; exact hs) (hPx _ _ _ (alp _ _) hp)⟩

end Go.Proofs.Ytpjbjbohbdlciaa
