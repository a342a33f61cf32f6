/-
  Two rings that a call has made, apart from each other: what one does leaves the other. No condition.
-/
import Derived.Test.YteogpmapbeogpaaDoorCln
namespace Go.Proofs.YteogpmapbeogpaaDoor
open Go.RowKit

/-- Two rings that share no block. -/
structure Two (w0 w : World) (x : Nat) (v : Value) (lim : Nat) (l : List UInt8) (t : Nat) (y : Nat) (u : Value) (lim' : Nat) (m : List UInt8) (s : Nat) : Prop where
  a : At w0 w x v lim l t
  b : At w0 w y u lim' m s
  d : ∀ k, Fp x v k → ¬ Fp y u k

section
variable {w0 w w' : World} {x lim t y lim' s : Nat} {v u : Value} {l m : List UInt8}
theorem Two.swap (h : Two w0 w x v lim l t y u lim' m s) : Two w0 w y u lim' m s x v lim l t := ⟨h.b, h.a, fun k h1 h2 => h.d k h2 h1⟩
theorem Two.below (h : Two w0 w x v lim l t y u lim' m s) (hb : Below w.heap.size w w') : Two w0 w' x v lim l t y u lim' m s := ⟨h.a.below hb, h.b.below hb, h.d⟩
theorem Two.left {v' : Value} {l' : List UInt8} {t' : Nat} (h : Two w0 w x v lim l t y u lim' m s) (ha : At w0 w' x v' lim l' t') (hc : Chg (Fp x v) w w') (hn : New w v v') : Two w0 w' x v' lim l' t' y u lim' m s := by
  refine ⟨ha, ⟨h.b.rg.chg hc (fun k h1 h2 => h.d k h2 h1), ha.bel, h.b.own⟩, fun k h1 h2 => ?_⟩
  rcases h1 with h1 | h1
  · exact h.d k (.inl h1) h2
  · rcases hn k h1 with e | e
    · exact h.d k (.inr e) h2
    · have := h.b.rg.fp_lt h2
      omega
/-- A ring that is new beside one that is old. -/
theorem Two.new (ha : At w0 w x v lim l t) (hb : At w0 w' y u lim' m s) (hw : Below w.heap.size w w') (ho : ∀ k, Fp y u k → w.heap.size ≤ k) : Two w0 w' x v lim l t y u lim' m s :=
  ⟨ha.below hw, hb, fun k h1 h2 => by
    have := ha.rg.fp_lt h1
    have := ho k h2
    omega⟩
theorem Two.equal (h : Two w0 w x v lim l t y u lim' m s) (b : Bool) (hbb : (decide (lim = lim') && (l == m)) = b) :
    Calls Tryd.prog 24 #[.pointer (some ⟨x, 0, none⟩), .pointer (some ⟨y, 0, none⟩)] w fun e w' => e = .returned (.bool b) ∧ Two w0 w' x v lim l t y u lim' m s ∧ Below w.heap.size w w' :=
  (equal_rings h.a.rg h.b.rg b hbb).mono fun _ _ ⟨e, hb⟩ => ⟨e, h.below hb, hb⟩
end

end Go.Proofs.YteogpmapbeogpaaDoor
