/-
  A ring that a call has made and a row of bytes of the call's own, apart from each other. No condition.
-/
import Derived.Test.YteogpmapbeogpaaDoorTwo
namespace Go.Proofs.YteogpmapbeogpaaDoor
open Go.RowKit

structure OneR (w0 w : World) (x : Nat) (v : Value) (lim : Nat) (l : List UInt8) (t : Nat) (z : Value) (T : List UInt8) : Prop where
  at_ : At w0 w x v lim l t
  row : w.ownsRow w0.heap.size 5 1 z T.length (T.map byt)
  ax : ∀ g, z.ownBlock = some g → ¬ Fp x v g

section
variable {w0 w w' : World} {x lim t y lim' s : Nat} {v u z : Value} {l m T : List UInt8}
theorem OneR.below (h : OneR w0 w x v lim l t z T) (hb : Below w.heap.size w w') : OneR w0 w' x v lim l t z T := ⟨h.at_.below hb, own_below h.row hb, h.ax⟩
theorem OneR.dr (h : OneR w0 w x v lim l t z T) (q : Nat) : OneR w0 (w.drewN q) x v lim l t z T := ⟨h.at_.dr q, own_same h.row fun _ _ => rfl, h.ax⟩
theorem OneR.chg {v' : Value} {l' : List UInt8} {t' : Nat} (h : OneR w0 w x v lim l t z T) (ha : At w0 w' x v' lim l' t') (hc : Chg (Fp x v) w w') (hn : New w v v') : OneR w0 w' x v' lim l' t' z T := by
  refine ⟨ha, own_same h.row fun g hg => hc.block g (own_lt h.row hg) (h.ax g hg), fun g hg hf => ?_⟩
  rcases hf with hf | hf
  · exact h.ax g hg (.inl hf)
  · rcases hn g hf with e | e
    · exact h.ax g hg (.inr e)
    · have := own_lt h.row hg
      omega
/-- Another ring has changed. -/
theorem OneR.other (h : OneR w0 w x v lim l t z T) (hb : Below w0.heap.size w0 w') (hc : Chg (Fp y u) w w') (hx : ∀ k, Fp x v k → ¬ Fp y u k) (hz : ∀ g, z.ownBlock = some g → ¬ Fp y u g) : OneR w0 w' x v lim l t z T :=
  ⟨⟨h.at_.rg.chg hc hx, hb, h.at_.own⟩, own_same h.row fun g hg => hc.block g (own_lt h.row hg) (hz g hg), h.ax⟩
/-- The row has been appended to. -/
theorem OneR.app {z' : Value} {T' : List UInt8} (h : OneR w0 w x v lim l t z T) (ho : w'.ownsRow w0.heap.size 5 1 z' T'.length (T'.map byt)) (hg : w.grownBy w' z.ownBlock) (he : z'.ownBlock = z.ownBlock ∨ z'.ownBlock = some w.heap.size) : OneR w0 w' x v lim l t z' T' := by
  refine ⟨⟨h.at_.rg.same fun k hk => hg.block k (h.at_.rg.fp_lt hk) (fun e => h.ax k e.symm hk), h.at_.bel.grown hg h.at_.lt (fun j ej => own_base h.row ej), h.at_.own⟩, ho, fun g hgg hf => ?_⟩
  rcases he with e | e
  · exact h.ax g (by rw [← e]; exact hgg) hf
  · rw [e] at hgg
    injection hgg with hgg
    have := h.at_.rg.fp_lt hf
    omega
/-- The other ring of two, where the row has been appended to. -/
theorem Two.app {z' : Value} {T' : List UInt8} (h : Two w0 w x v lim l t y u lim' m s) (h1 : OneR w0 w x v lim l t z T) (h2 : OneR w0 w y u lim' m s z T) (ho : w'.ownsRow w0.heap.size 5 1 z' T'.length (T'.map byt)) (hg : w.grownBy w' z.ownBlock) (he : z'.ownBlock = z.ownBlock ∨ z'.ownBlock = some w.heap.size) :
    Two w0 w' x v lim l t y u lim' m s := ⟨(h1.app ho hg he).at_, (h2.app ho hg he).at_, h.d⟩
end

/-- Two rings and a row, all apart. -/
structure TwoR (w0 w : World) (x : Nat) (v : Value) (lim : Nat) (l : List UInt8) (t : Nat) (y : Nat) (u : Value) (lim' : Nat) (m : List UInt8) (s : Nat) (z : Value) (T : List UInt8) : Prop where
  a : OneR w0 w x v lim l t z T
  b : OneR w0 w y u lim' m s z T
  d : ∀ k, Fp x v k → ¬ Fp y u k

section
variable {w0 w w' : World} {x lim t y lim' s : Nat} {v u z : Value} {l m T : List UInt8}
theorem TwoR.two (h : TwoR w0 w x v lim l t y u lim' m s z T) : Two w0 w x v lim l t y u lim' m s := ⟨h.a.at_, h.b.at_, h.d⟩
theorem TwoR.swap (h : TwoR w0 w x v lim l t y u lim' m s z T) : TwoR w0 w y u lim' m s x v lim l t z T := ⟨h.b, h.a, fun k h1 h2 => h.d k h2 h1⟩
theorem TwoR.below (h : TwoR w0 w x v lim l t y u lim' m s z T) (hb : Below w.heap.size w w') : TwoR w0 w' x v lim l t y u lim' m s z T := ⟨h.a.below hb, h.b.below hb, h.d⟩
theorem TwoR.dr (h : TwoR w0 w x v lim l t y u lim' m s z T) (q : Nat) : TwoR w0 (w.drewN q) x v lim l t y u lim' m s z T := ⟨h.a.dr q, h.b.dr q, h.d⟩
theorem TwoR.left {v' : Value} {l' : List UInt8} {t' : Nat} (h : TwoR w0 w x v lim l t y u lim' m s z T) (ha : At w0 w' x v' lim l' t') (hc : Chg (Fp x v) w w') (hn : New w v v') : TwoR w0 w' x v' lim l' t' y u lim' m s z T :=
  ⟨h.a.chg ha hc hn, h.b.other ha.bel hc (fun k h1 h2 => h.d k h2 h1) (fun g hg hf => h.a.ax g hg hf), (h.two.left ha hc hn).d⟩
theorem TwoR.app {z' : Value} {T' : List UInt8} (h : TwoR w0 w x v lim l t y u lim' m s z T) (ho : w'.ownsRow w0.heap.size 5 1 z' T'.length (T'.map byt)) (hg : w.grownBy w' z.ownBlock) (he : z'.ownBlock = z.ownBlock ∨ z'.ownBlock = some w.heap.size) : TwoR w0 w' x v lim l t y u lim' m s z' T' :=
  ⟨h.a.app ho hg he, h.b.app ho hg he, h.d⟩
/-- A ring that is new beside one that is old, and the row. -/
theorem TwoR.new (h : OneR w0 w x v lim l t z T) (hb : At w0 w' y u lim' m s) (hw : Below w.heap.size w w') (ho : ∀ k, Fp y u k → w.heap.size ≤ k) : TwoR w0 w' x v lim l t y u lim' m s z T :=
  ⟨h.below hw, ⟨hb, own_below h.row hw, fun g hg hf => by
    have := own_lt h.row hg
    have := ho g hf
    omega⟩, (Two.new h.at_ hb hw ho).d⟩
theorem TwoR.equal (h : TwoR w0 w x v lim l t y u lim' m s z T) (b : Bool) (hbb : (decide (lim = lim') && (l == m)) = b) :
    Calls Tryd.prog 24 #[.pointer (some ⟨x, 0, none⟩), .pointer (some ⟨y, 0, none⟩)] w fun e w' => e = .returned (.bool b) ∧ TwoR w0 w' x v lim l t y u lim' m s z T :=
  (equal_rings h.a.at_.rg h.b.at_.rg b hbb).mono fun _ _ ⟨e, hb⟩ => ⟨e, h.below hb⟩
end

end Go.Proofs.YteogpmapbeogpaaDoor
