/-
  A table that a call makes for itself: an append in a region that draws its order, and what the copy of a table is in both orders. Conditions: those that each theorem states.
-/
import Derived.Test.YtpjbjbohbdlciaaKno
namespace Go.Proofs.Ytpjbjbohbdlciaa
open Go.RowKit Go.Shelf

theorem own_ge {W : World} {B : Nat} {v : Value} {e : TypeId} {z n : Nat} {xs : List Value} (h : W.ownsRow B e z v n xs) {g : Nat} (hg : v.ownBlock = some g) : B ≤ g := by
  rcases h.2 with ⟨rfl, _⟩ | ⟨g', c, cur, rfl, h2, _⟩
  · cases hg
  · injection hg with hg
    subst hg
    exact h2
theorem own_nil (W : World) (B : Nat) : W.ownsRow B 3 1 (.slice none 0 0) 0 [] := ⟨rfl, .inl ⟨rfl, rfl⟩⟩
theorem own_addr {w : World} {base n c : Nat} {e : TypeId} {A : Option Addr} {xs : List Value} (h : w.ownsRow base e 1 (.slice A n c) n xs) : ∀ ad, A = some ad → base ≤ ad.block ∧ ad.block < w.heap.size := by
  intro ad e
  subst e
  rcases h.2 with ⟨h1, _⟩ | ⟨g, c, cur, h1, h2, h3, _⟩
  · cases h1
  · injection h1 with h1
    injection h1 with h1
    subst h1
    exact ⟨h2, (Array.getElem?_eq_some_iff.1 h3).1⟩
theorem own_some {w : World} {base n c : Nat} {e : TypeId} {A : Option Addr} {xs : List Value} (h0 : 0 < n) (h : w.ownsRow base e 1 (.slice A n c) n xs) : ∃ g, A = some ⟨g, 0, none⟩ := by
  rcases h.2 with ⟨_, h1⟩ | ⟨g, c', cur, h1, _⟩
  · omega
  · injection h1 with h1
    exact ⟨g, h1⟩
theorem iv_one (l : List Int) : ∀ u ∈ l.map iv, u.oneCell' = true := by
  intro v hv
  obtain ⟨b, _, rfl⟩ := List.mem_map.1 hv
  rfl
theorem step_append_vals {bt : Nat} {t e : TypeId} (ht : Try.prog.underlying t = some (.slice e)) {z : Value} (hinfo : (Try.prog.info? e).map (fun i => (i.zero, i.size, i.bytes)) = some (some z, 1, bt)) (hzs : z.cells.size = 1)
    {w : World} {ops : Array Oper} {o : Oper} {a : Act} {K : Act → World → Prop} {Q : Exit → Act → World → Prop} {E : Prop} (hgd : o.guard = none) (s x : Operand)
    (ho : o.op = .call { callee := .builtin .append, args := #[s, x], argTypes := #[t, t] })
    (base : Nat) (v : Value) (n : Nat) (xs : List Value) (hs : a.eval s = v) (hown : w.ownsRow base e 1 v n xs) (A : Option Addr) (ys : List Value) (h1 : ∀ u ∈ ys, u.oneCell' = true) (m c : Nat) (hm : ys.length = m) (hx : a.eval x = .slice A m c) (hR : Rv w A ys)
    (hb : n + m ≤ 140737488355328) (hbt : (n + m) * bt ≤ 140737488355328) (hbase : base ≤ w.heap.size)
    (h : ∀ v' w', w'.ownsRow base e 1 v' (n + m) (xs ++ ys) → w.grownBy w' v.ownBlock → (v'.ownBlock = v.ownBlock ∨ v'.ownBlock = some w.heap.size) → K (a.put o.dst v') w') :
    if Region.wanted o (yielded ops a.tmps) = true then Oper.wp Try.prog o a w K Q else E := by
  subst hm
  have hw : Region.wanted o (yielded ops a.tmps) = true := by simp [Region.wanted, hgd]
  rw [if_pos hw]
  obtain ⟨v', w', hrun, h2, h3, h4⟩ := run_append_vals ht hinfo hzs w o.type base v n xs hown A ys h1 c hR hb hbt hbase
  unfold Oper.wp
  simp [execOp, ho, resolve, invoke, builtin, hs, hx, hrun, Result.andThen]
  exact h v' w' h2 h3 h4
/-- The copy of the table: block tk holds it, its norms are a row of the call's own. -/
def Own (w : World) (y : Int) (l : List Int) (N tk : Nat) (A : Option Addr) (c : Nat) (W : World) : Prop :=
  Tb W tk y A N c ∧ Ri W A l ∧ Below w.heap.size w W ∧ N ≤ c
theorem copy_one {w : World} {y : Int} {l : List Int} {N : Nat} {w5 : World} {A5 : Option Addr} {c5 : Nat} (ho : w5.ownsRow w.heap.size 3 1 (.slice A5 N c5) N (l.map iv)) (hb : Below w.heap.size w w5) :
    Own w y l N w5.heap.size A5 c5 (w5.alloc (.cells #[.int .i64 y, .slice A5 N c5] 24)) :=
  ⟨Tb.new w5 y A5 N c5, (Rv.of_own ho).below ((Below.refl _ w5).alloc (Nat.le_refl _) _), hb.alloc hb.size _, own_cap ho⟩
theorem copy_two {w : World} {y : Int} {l : List Int} {N : Nat} {w5 : World} {A5 : Option Addr} {c5 tk : Nat} (ho : w5.ownsRow (tk + 1) 3 1 (.slice A5 N c5) N (l.map iv)) (hb : Below w.heap.size w w5) (ht : w.heap.size = tk) (t1 : Tb w5 tk 0 none 0 0) :
    Own w y l N tk A5 c5 ((w5.setCell ⟨tk, 0, none⟩ (.int .i64 y)).setCell ⟨tk, 1, none⟩ (.slice A5 N c5)) := by
  refine ⟨(t1.set0 y).set1 A5 N c5, ?_, ?_, own_cap ho⟩
  · refine Rv.same (Rv.of_own ho) fun ad e => ?_
    have := (own_addr ho ad e).1
    rw [Below.heap_setCell _ _ _ _ (by show ad.block ≠ tk; omega), Below.heap_setCell _ _ _ _ (by show ad.block ≠ tk; omega)]
  · exact (hb.setCell (p := ⟨tk, 0, none⟩) (by show w.heap.size ≤ tk; omega) _).setCell (p := ⟨tk, 1, none⟩) (by show w.heap.size ≤ tk; omega) _

end Go.Proofs.Ytpjbjbohbdlciaa
