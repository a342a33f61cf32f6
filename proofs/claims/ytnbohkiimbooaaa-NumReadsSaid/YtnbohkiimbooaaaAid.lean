/-
  Small facts that the proofs of several laws share: rows that the call owns, append of bytes in a guarded statement, Same where the bytes differ. No condition beyond those that each theorem states.
-/
import Derived.Test.YtnbohkiimbooaaaKnown
namespace Go.Proofs.Ytnbohkiimbooaaa
open Go.RowKit

theorem own_below {w w' : World} {base : Nat} {e : TypeId} {v : Value} {n : Nat} {xs : List Value} (h : w.ownsRow base e 1 v n xs) (hb : Below w.heap.size w w') : w'.ownsRow base e 1 v n xs := by
  refine h.kept (grown_of_below hb none) ?_
  cases hv : v.ownBlock with
  | none => exact .inl rfl
  | some k => exact .inr (by simp)

theorem own_form {w : World} {base : Nat} {e : TypeId} {v : Value} {n : Nat} {xs : List Value} (h : w.ownsRow base e 1 v n xs) : ∃ A c, v = .slice A n c := by
  rcases h.2 with ⟨rfl, hn⟩ | ⟨g, c, cur, rfl, _⟩
  · exact ⟨none, 0, by rw [hn]⟩
  · exact ⟨_, _, rfl⟩

/-- A row that an append has made holds the bytes of both. -/
theorem rd_app {w : World} {base : Nat} {A : Option Addr} {n m c : Nat} {l x : List UInt8} (h : w.ownsRow base 5 1 (.slice A (n + m) c) (n + m) (l.map byt ++ x.map byt)) : Rd w A (l ++ x) := by
  rw [← List.map_append] at h
  exact Rd.of_own h

theorem wpList_append_bytesW {w : World} {ops : Array Oper} {rest : List Oper} {o : Oper} {a : Act} {Q : Exit → Act → World → Prop} (hw : Region.wanted o (yielded ops a.tmps) = true) (s x : Operand)
    (ho : o.op = .call { callee := .builtin .append, args := #[s, x], argTypes := #[22, 22] })
    (base : Nat) (v : Value) (n : Nat) (xs : List Value) (hs : a.eval s = v) (hown : w.ownsRow base 5 1 v n xs) (A : Option Addr) (l : List UInt8) (m c : Nat) (hm : l.length = m) (hx : a.eval x = .slice A m c) (hR : Rd w A l)
    (hb : n + m ≤ 140737488355328) (hbase : base ≤ w.heap.size)
    (h : ∀ v' w', w'.ownsRow base 5 1 v' (n + m) (xs ++ l.map byt) → w.grownBy w' v.ownBlock → wpList Try.prog ops Q rest (a.put o.dst v') w') : wpList Try.prog ops Q (o :: rest) a w := by
  subst hm
  refine wpList_step fun K hK => ?_
  rw [if_pos hw]
  obtain ⟨v', w', hrun, h2, h3⟩ := run_append_bytes w o.type base v n xs hown A l c hR hb hbase
  unfold Oper.wp
  simp [execOp, ho, resolve, invoke, builtin, hs, hx, hrun, Result.andThen]
  exact hK _ _ (h v' w' h2 h3)

theorem own_cap {w : World} {base : Nat} {e : TypeId} {A : Option Addr} {n c : Nat} {xs : List Value} (h : w.ownsRow base e 1 (.slice A n c) n xs) : n ≤ c := by
  rcases h.2 with ⟨h1, _⟩ | ⟨g, cap, cur, h1, _, _, h2, _⟩
  · injection h1 with _ h2 h3; omega
  · injection h1 with _ _ h3; omega

theorem same_no (w : World) (A B : Option Addr) (l m : List UInt8) (c d : Nat) (hA : Rd w A l) (hB : Rd w B m) (h : l ≠ m) :
    Calls Try.prog 13 #[.slice A l.length c, .slice B m.length d] w fun e w' => e = .returned (.bool false) ∧ w = w' := by
  have := same_any w A B l m c d hA hB
  rw [show sameB l m = false by simp [sameB, h]] at this
  exact this

theorem same_non (w : World) (A B : Option Addr) (l m : List UInt8) (n' : Nat) (hn' : m.length = n') (c d : Nat) (hA : Rd w A l) (hB : Rd w B m) (h : l ≠ m) :
    Calls Try.prog 13 #[.slice A l.length c, .slice B n' d] w fun e w' => e = .returned (.bool false) ∧ w = w' := by
  subst hn'
  exact same_no w A B l m c d hA hB h

theorem rd_eq {w : World} {A : Option Addr} {l m : List UInt8} (h : Rd w A l) (e : l = m) : Rd w A m := e ▸ h

end Go.Proofs.Ytnbohkiimbooaaa
