/-
  Two Writers that a call has made, side by side. No condition.
-/
import Derived.Test.YtaedfbceaolbcaaFrm
namespace Go.Proofs.Ytaedfbceaolbcaa
open Go.RowKit

structure At2 (w0 w : World) (x : Nat) (v : Value) (l : List Bool) (y : Nat) (u : Value) (m : List Bool) : Prop where
  a : At w0 w x v l
  b : At w0 w y u m
  ne : x ≠ y
  ap : ∀ g, v.ownBlock = some g → u.ownBlock ≠ some g

section
variable {w0 w w' : World} {x y : Nat} {v u v' u' : Value} {l m l' m' : List Bool}
theorem At2.symm (h : At2 w0 w x v l y u m) : At2 w0 w y u m x v l := ⟨h.b, h.a, fun e => h.ne e.symm, fun g hu hv => h.ap g hv hu⟩
theorem At2.on (h : At2 w0 w x v l y u m) (hb : Below w.heap.size w w') : At2 w0 w' x v l y u m := ⟨h.a.on hb, h.b.on hb, h.ne, h.ap⟩
theorem At2.dr (h : At2 w0 w x v l y u m) (d : Nat) : At2 w0 (w.drewN d) x v l y u m := ⟨h.a.dr d, h.b.dr d, h.ne, h.ap⟩
theorem At2.stepY (h : At2 w0 w x v l y u m) (hw : Wr w' y u' m') (hc : Chg w w' y u.ownBlock) (hn : New w u.ownBlock u'.ownBlock) : At2 w0 w' x v l y u' m' := by
  have hb := h.b.chg hw hc hn
  refine ⟨⟨h.a.wr.other h.b.wr hc h.ne h.ap, hb.bel, h.a.ge, h.a.row⟩, hb, h.ne, fun g hg => ?_⟩
  rcases hn with e | ⟨g', e, hge⟩
  · rw [e]; exact h.ap g hg
  · rw [e]
    intro e2
    injection e2 with e2
    have := h.a.wr.row_lt hg
    omega
theorem At2.stepX (h : At2 w0 w x v l y u m) (hw : Wr w' x v' l') (hc : Chg w w' x v.ownBlock) (hn : New w v.ownBlock v'.ownBlock) : At2 w0 w' x v' l' y u m := (h.symm.stepY hw hc hn).symm
end

theorem At2.new (w : World) : At2 w ((w.alloc (.cells #[.int .u8 0, .int .i64 0, .slice none 0 0] 28)).alloc (.cells #[.int .u8 0, .int .i64 0, .slice none 0 0] 28)) w.heap.size (.slice none 0 0) [] (w.heap.size + 1) (.slice none 0 0) [] := by
  have h1 := At.new w w (Below.refl _ _)
  have h2 := At.new w (w.alloc (.cells #[.int .u8 0, .int .i64 0, .slice none 0 0] 28)) h1.bel
  rw [World.size_alloc] at h2
  exact ⟨h1.on ((Below.refl _ _).alloc (Nat.le_refl _) _), h2, by omega, fun g hg => by cases hg⟩

end Go.Proofs.Ytaedfbceaolbcaa
