/-
  Rows of calls of Put in memory, and a call of Put at any arguments. No condition beyond those that each theorem states.
-/
import Derived.Test.YtckboifdkagacaaKnown
namespace Go.Proofs.Ytckboifdkagacaa
open Go.RowKit

theorem Rr.eqd {w0 w w' : World} {x : Nat} {T : TypeId} {A : Option Addr} {c : Nat} {D : List UInt8} {s e d : Nat} (h : Rr w0 w x T A c D s e) (hw : w' = w.drewN d) : Rr w0 w' x T A c D s e := by
  subst hw
  exact h.dr d

theorem chk_ok {n : Int} {k : Nat} {sh : Int} (h : chk n k sh = 0) (hs : sh ≠ 0) : 0 ≤ n ∧ n ≤ 64 ∧ n ≤ (k : Int) := by
  unfold chk at h
  split at h
  · cases h
  · split at h
    · exact absurd h hs
    · omega

/-- The calls ls lie at A. -/
def RdP (w : World) (A : Option Addr) (ls : List (Nat × Int)) : Prop :=
  ∀ (j q : Nat) (z : Int), ls[j]? = some (q, z) → ∃ ad, A = some ad ∧ w.cell? (ad.add (j * 2)) = some (.int .u64 (q : Int)) ∧ w.cell? (ad.add (j * 2 + 1)) = some (.int .i64 z)
/-- The values are of their kind. -/
def WfP (ls : List (Nat × Int)) : Prop := ∀ (j q : Nat) (z : Int), ls[j]? = some (q, z) → q < 18446744073709551616

theorem RdP.below {w w' : World} {A : Option Addr} {ls : List (Nat × Int)} (h : RdP w A ls) (hb : Below w.heap.size w w') : RdP w' A ls := by
  intro j q z hj
  obtain ⟨ad, hA, h1, h2⟩ := h j q z hj
  exact ⟨ad, hA, (hb.cell (cell_lt h1)).trans h1, (hb.cell (cell_lt h2)).trans h2⟩

theorem RdP.drewN {w : World} {A : Option Addr} {ls : List (Nat × Int)} (h : RdP w A ls) (d : Nat) : RdP (w.drewN d) A ls := h

theorem RdP.cut {w : World} {A : Option Addr} {ls : List (Nat × Int)} (h : RdP w A ls) (i j : Nat) : RdP w (A.map (·.add (i * 2))) ((ls.drop i).take j) := by
  intro k q z hk
  have hkj : k < j := by
    rcases Nat.lt_or_ge k j with h1 | h1
    · exact h1
    · rw [List.getElem?_eq_none (by simp; omega)] at hk; cases hk
  rw [List.getElem?_take_of_lt hkj, List.getElem?_drop] at hk
  obtain ⟨ad, rfl, h1, h2⟩ := h _ _ _ hk
  refine ⟨ad.add (i * 2), rfl, ?_, ?_⟩
  · rw [addr_add_add, show i * 2 + k * 2 = (i + k) * 2 by omega]; exact h1
  · rw [addr_add_add, show i * 2 + (k * 2 + 1) = (i + k) * 2 + 1 by omega]; exact h2

theorem RdP.take {w : World} {A : Option Addr} {ls : List (Nat × Int)} (h : RdP w A ls) (j : Nat) : RdP w A (ls.take j) := by
  intro k q z hk
  have hkj : k < j := by
    rcases Nat.lt_or_ge k j with h1 | h1
    · exact h1
    · rw [List.getElem?_eq_none (by simp; omega)] at hk; cases hk
  rw [List.getElem?_take_of_lt hkj] at hk
  exact h _ _ _ hk

theorem WfP.take {ls : List (Nat × Int)} (h : WfP ls) (j : Nat) : WfP (ls.take j) := by
  intro k q z hk
  have hkj : k < j := by
    rcases Nat.lt_or_ge k j with h1 | h1
    · exact h1
    · rw [List.getElem?_eq_none (by simp; omega)] at hk; cases hk
  rw [List.getElem?_take_of_lt hkj] at hk
  exact h _ _ _ hk

theorem WfP.drop {ls : List (Nat × Int)} (h : WfP ls) (j : Nat) : WfP (ls.drop j) := by
  intro k q z hk
  rw [List.getElem?_drop] at hk
  exact h _ _ _ hk

theorem putc_yes {w : World} {x : Nat} {v : Value} {l : List Bool} (h : Wr w x v l) (hs : l.length ≤ 1099511627776) (q : Nat) (n : Int) (hm : may q n = true) :
    Calls Try.prog 28 #[.pointer (some ⟨x, 0, none⟩), .int .u64 (q : Int), .int .i64 n] w (PutPost w x v (l ++ bitsOf q n.toNat)) := by
  simp [may] at hm
  obtain ⟨n, rfl⟩ := Int.eq_ofNat_of_zero_le hm.1.1
  exact put_ok h hs q n (by omega) hm.2
theorem putc_no {w : World} {x : Nat} (q : Nat) (n : Int) (hm : may q n = false) :
    Calls Try.prog 28 #[.pointer (some ⟨x, 0, none⟩), .int .u64 (q : Int), .int .i64 n] w fun e w' => e = .returned (.int .i64 2) ∧ w = w' := by
  by_cases h : n < 0 ∨ 64 < n
  · exact put_arg w x q n h
  · obtain ⟨n, rfl⟩ := Int.eq_ofNat_of_zero_le (show 0 ≤ n by omega)
    refine put_bit w x q n (by omega) ?_
    have hm' : may q n = decide (q < 2 ^ n) := by simp [may]; omega
    have h2 : may q n = false := hm
    rw [hm'] at h2
    have := of_decide_eq_false h2
    omega

theorem Wr.drewN {w : World} {x : Nat} {v : Value} {l : List Bool} (h : Wr w x v l) (d : Nat) : Wr (w.drewN d) x v l := h
theorem Chg.drewN {w a : World} {x : Nat} {R : Option Nat} (h : Chg w a x R) (d : Nat) : Chg w (a.drewN d) x R := ⟨h.os, h.tape, h.output, h.size, h.block⟩
theorem Chg.of_drewN {w a : World} {x d : Nat} {R : Option Nat} (h : Chg (w.drewN d) a x R) : Chg w a x R := ⟨h.os, h.tape, h.output, h.size, h.block⟩

end Go.Proofs.Ytckboifdkagacaa
