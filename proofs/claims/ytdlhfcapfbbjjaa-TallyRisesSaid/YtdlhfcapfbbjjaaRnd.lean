/-
  A region that draws its order, in a round of a loop over an iterator: all operations but its last ones only read and call functions that change nothing: one walk in the text's order serves. Condition: no operation is a defer statement.
-/
import Derived.StillTail
import Derived.StillTactics
import Derived.OrdersIn
import Derived.Test.YtdlhfcapfbbjjaaScp
namespace Go.Proofs.Ytdlhfcapfbbjjaa
open Go.RowKit

/-- What follows, where a region ends as usual. -/
def onlyN (Q : Exit → Act → World → Prop) : Exit → Act → World → Prop
  | .normal, a, w => Q .normal a w
  | _, _, _ => False

theorem onlyN_out {Q : Exit → Act → World → Prop} : ¬ LetsOut (onlyN Q) := fun ⟨_, _, h⟩ => h
theorem onlyN_le {Q : Exit → Act → World → Prop} : ∀ e a w, onlyN Q e a w → Q e a w := fun e a w h => by cases e <;> first | exact h | exact h.elim

def noDefer (ops : Array Oper) : Bool := ops.all fun o => match o.op with | .defer _ => false | _ => true

theorem oper_in_round {P : Program} {o : Oper} {a : Act} {w : World} {K K' : Act → World → Prop} {Q : Exit → Act → World → Prop} (l n : Nat) (hK : ∀ a w, K a w → K' a w) (hd : ∀ c, o.op ≠ .defer c) (h : o.wp P a w K (onlyN Q)) : o.wpIn (Fence.wide.inRound l) n P a w K' (onlyN Q) := by
  unfold Oper.wp at h
  refine ⟨fun _ _ => trivial, ?_⟩
  rw [show (Fence.wide.inRound l).round = some l from rfl, Oper.semAt_some l _ _ hd]
  generalize (execOp a.eval o).run P w = r at *
  cases r with
  | ok x w' =>
    cases x <;> simp only [Oper.upon] at h <;> simp only [Oper.uponIn]
    case value u => exact hK _ _ h
    case skip => exact hK _ _ h
    case defer d => exact hK _ _ h
    case enter f args =>
      refine ⟨(fun h => absurd h (by simp [Fence.wide])), ?_⟩
      refine (CallsIn.inRound l (callsIn_wide.2 h)).mono ?_
      intro e w2 hq
      cases e with
      | returned v => exact hK _ _ hq
      | panicked c => exact hq
      | outgrown => exact hq
    case row row args =>
      refine ⟨(fun h => absurd h (by simp [Fence.wide])), ?_⟩
      exact fun c cs _ => let ⟨v, w', r, s⟩ := h c cs; ⟨v, w', hK _ _ r, stepsIn_wide.2 s⟩
  | halt x w' => cases x <;> simp only [Oper.upon] at h <;> exact h

theorem any_in_round {P : Program} {md : Region.Mode} {ops : Array Oper} {Q : Exit → Act → World → Prop} (l n : Nat) (hd : noDefer ops = true) : ∀ (fuel : Nat) (listed : Array Bool) (a : Act) (w : World),
    wpAny P md ops (onlyN Q) fuel listed a w → wpAnyIn (Fence.wide.inRound l) n P md ops (onlyN Q) fuel listed a w
  | 0, _, _, _, h => h
  | fuel + 1, listed, a, w, h => by
    refine ⟨h.1, fun i hi => ?_⟩
    have h2 := h.2 i hi
    unfold wpOp at h2
    unfold wpOpIn
    split
    · rename_i ho
      simp only [ho] at h2
      exact any_in_round l n hd fuel _ _ _ h2
    · rename_i o ho
      simp only [ho] at h2
      split
      · rename_i hw
        simp only [hw, if_true] at h2
        rcases h2 with h2 | h2
        · refine oper_in_round l n (fun a w => any_in_round l n hd fuel _ a w) (fun c e => ?_) h2
          have := Array.all_eq_true'.1 hd o (Array.mem_of_getElem? ho)
          rw [e] at this
          cases this
        · exact absurd h2.2 onlyN_out
      · rename_i hw
        simp only [hw] at h2
        exact ⟨fun _ _ => trivial, any_in_round l n hd fuel _ _ _ h2⟩

theorem wpIn_region_tail {P : Program} {id l m : Nat} {Q : Exit → Act → World → Prop} {a : Act} {w : World} {os : List Oper} (n : Nat) (hm : P.follows .mixedOrders = true) (hB : Region.lexTailB .any os.toArray n = true) (hd : noDefer os.toArray = true)
    (h : wpStill P os.toArray w.drew (fun a' => wpList P os.toArray (onlyN Q) (os.drop n) a' w.drew) (os.take n) a) : (Code.region id os.toArray true).wpIn (Fence.wide.inRound l) m P Q a w := by
  refine Code.wpIn_mono onlyN_le (wpIn_region_any hm (any_in_round l m hd _ _ _ _ ?_))
  simp only [Region.lexTailB, Bool.and_eq_true, decide_eq_true_eq] at hB
  obtain ⟨⟨⟨⟨hsel, hn⟩, hs⟩, hc⟩, hlex⟩ := hB
  have h1 : n < os.length := by simpa using hn
  have h2 : (os.take n).length = n := by rw [List.length_take]; omega
  have h3 : (os.drop n).length = os.toArray.size - n := by simp
  have i0 : HeadInv .any os.toArray n (Array.replicate os.toArray.size false) :=
    ⟨by simp, fun j oj _ hl => absurd hl (by rw [getD_replicate_false]; simp), fun t _ ht => getD_in (by simpa using ht) (getD_replicate_false _ _)⟩
  have H := wpAnyL_lex (P := P) (w := w.drew) (md := .any) (g := os.toArray.size - n) hsel hs hc hn (os.take n) 0 _ a (fun j hj => by
    rw [h2] at hj
    simp [hj]) (by simpa using h2) i0 (by rw [h2]; exact hlex) h
  have H2 := wpAny_of_head (Q' := onlyN Q) (g := os.toArray.size - n) (fun listed a' hL => by
    have := wpAny_of_seq (md := .any) (Q' := onlyN Q) (os.drop n) n listed a' w.drew (fun j => by simp [List.getElem?_drop]) (by rw [h3]; exact hL.1) hL.2
    rwa [h3] at this) _ _ _ H
  rw [h2, show n + (os.toArray.size - n) = os.toArray.size by omega] at H2
  exact H2

end Go.Proofs.Ytdlhfcapfbbjjaa
