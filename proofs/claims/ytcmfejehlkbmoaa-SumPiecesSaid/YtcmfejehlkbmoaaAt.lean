/-
  Sums that a call has made itself: what Write, Sum, Low, Len and Copy do at them. Conditions: fewer than 2^40 bytes in all.
-/
import Derived.Test.YtcmfejehlkbmoaaFrm
namespace Go.Proofs.Ytcmfejehlkbmoaa
open Go.RowKit

/-- Block x is a Sum that has received l, made since w0; what lay in w0 lies as it lay. -/
structure Al (w0 w : World) (x : Nat) (l : List UInt8) : Prop where
  bel : Below w0.heap.size w0 w
  ge : w0.heap.size ≤ x
  su : Su w x l

theorem Su.lt {w : World} {x : Nat} {l : List UInt8} (h : Su w x l) : x < w.heap.size := by
  obtain ⟨r, hb, _⟩ := h
  exact hb.lt
theorem Su.same {w w' : World} {x : Nat} {l : List UInt8} (h : Su w x l) (hb : w'.heap[x]? = w.heap[x]?) : Su w' x l := by
  obtain ⟨r, h1, h2⟩ := h
  exact ⟨r, h1.same hb, h2⟩

section
variable {w0 w w' : World} {x y : Nat} {l m : List UInt8}
theorem Al.on (h : Al w0 w x l) (hb : Below w.heap.size w w') : Al w0 w' x l := ⟨below_on h.bel (Nat.le_refl _) hb, h.ge, h.su.same (hb.block _ h.su.lt)⟩
theorem Al.grow (h : Al w0 w x l) (hg : w.grownBy w' (some y)) (hy : w0.heap.size ≤ y) (hne : x ≠ y) : Al w0 w' x l :=
  ⟨h.bel.grown hg h.bel.size (fun k e => by cases e; exact hy), h.ge, h.su.same (hg.block _ h.su.lt (by simpa using hne))⟩
theorem Al.grow' (h : Al w0 w x l) {R : Option Nat} (hg : w.grownBy w' R) (hy : ∀ g, R = some g → w0.heap.size ≤ g) (hne : R ≠ some x) : Al w0 w' x l :=
  ⟨h.bel.grown hg h.bel.size hy, h.ge, h.su.same (hg.block _ h.su.lt (fun e => hne e.symm))⟩
theorem Al.drewN (h : Al w0 w x l) (d : Nat) : Al w0 (w.drewN d) x l := ⟨below_drewN' h.bel d, h.ge, h.su.same rfl⟩
theorem Al.new (hb : Below w0.heap.size w0 w) (h : Fresh w x w') : Al w0 w' x [] :=
  ⟨below_on hb (Nat.le_refl _) h.2.1, by rw [h.1]; exact hb.size, h.2.2.2⟩

theorem Al.write (h : Al w0 w x l) (B : Option Addr) (M c : Nat) (hM : m.length = M) (hMc : M ≤ c) (hs : l.length + M ≤ 1099511627776) (hR : Rd w0 B m) :
    Calls Try.prog 15 #[.pointer (some ⟨x, 0, none⟩), .slice B M c] w fun e w' => e = .returned (.tuple #[]) ∧ w.grownBy w' (some x) ∧ Al w0 w' x (l ++ m) := by
  refine (write_any h.su B m M c hM hMc hs (hR.below h.bel) (fun hm ad e => by have := rd_lt hR hm ad e; have := h.ge; omega)).mono ?_
  rintro e w' ⟨he, hg, hs'⟩
  exact ⟨he, hg, h.bel.grown hg h.bel.size (fun k e => by cases e; exact h.ge), h.ge, hs'⟩
theorem Al.sum (h : Al w0 w x l) (hl : l.length ≤ 1099511627776) :
    Calls Try.prog 16 #[.pointer (some ⟨x, 0, none⟩)] w fun e w' => e = .returned (.int .u64 (chk l : Int)) ∧ Below w.heap.size w w' := sum_any h.su hl
end

end Go.Proofs.Ytcmfejehlkbmoaa
