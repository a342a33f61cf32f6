/-
  Words for memory that the proofs over package spread share: values in a row, what may have changed, append onto a row of the call's own. No condition beyond those that each theorem states.
-/
import Derived.Below
import Derived.Laws.OwnMore
import Derived.Laws.Rows
import Derived.OwnWalk
import Derived.Lib.Hide
import Derived.Deep.Draws
import Derived.Maps.AppendAt
import Derived.OneCell
import Derived.Laws.BitsAllLaws
import Derived.Test.YtpjbjbohbdlciaaProg
namespace Go.Proofs.Ytpjbjbohbdlciaa
open Go.RowKit

/-- The cell of one byte. -/
abbrev byt (b : UInt8) : Value := .int .u8 (b.toNat : Int)

theorem addr_add_block (a : Addr) (n : Nat) : (a.add n).block = a.block := by
  unfold Addr.add
  by_cases h : n = 0
  · rw [if_pos h]
  · rw [if_neg h]

theorem addr_add_add (a : Addr) (i j : Nat) : (a.add i).add j = a.add (i + j) := by
  unfold Addr.add
  rcases Nat.eq_zero_or_pos i with rfl | hi
  · rcases Nat.eq_zero_or_pos j with rfl | hj
    · simp
    · simp
  · rcases Nat.eq_zero_or_pos j with rfl | hj
    · simp
    · simp [Nat.ne_of_gt hi, Nat.ne_of_gt hj, Nat.add_assoc]

theorem cell_lt {w : World} {p : Addr} {v : Value} (h : w.cell? p = some v) : p.block < w.heap.size := World.block_lt_of_cell? w p h

/-- At address A (of a slice) the values xs lie. Of an empty list nothing is asked. -/
def Rv (w : World) (A : Option Addr) (xs : List Value) : Prop :=
  ∀ j v, xs[j]? = some v → ∃ ad, A = some ad ∧ w.cell? (ad.add j) = some v
abbrev Rd (w : World) (A : Option Addr) (l : List UInt8) : Prop := Rv w A (l.map byt)

theorem Rv.nil (w : World) (A : Option Addr) : Rv w A [] := fun j b h => by simp at h

theorem Rv.same {w w' : World} {A : Option Addr} {xs : List Value} (h : Rv w A xs) (hk : ∀ ad, A = some ad → w'.heap[ad.block]? = w.heap[ad.block]?) : Rv w' A xs := by
  intro j v hj
  obtain ⟨ad, e, hc⟩ := h j v hj
  refine ⟨ad, e, ?_⟩
  rw [← hc]
  exact World.cell?_of_block (by rw [addr_add_block]; exact hk ad e)

theorem Rv.below {w w' : World} {A : Option Addr} {xs : List Value} (h : Rv w A xs) (hb : Below w.heap.size w w') : Rv w' A xs := by
  intro j v hj
  obtain ⟨ad, e, hc⟩ := h j v hj
  exact ⟨ad, e, (hb.cell (cell_lt hc)).trans hc⟩

theorem Rv.of_own {w : World} {base n cap : Nat} {e : TypeId} {A : Option Addr} {xs : List Value} (h : w.ownsRow base e 1 (.slice A n cap) n xs) : Rv w A xs := by
  intro j b hj
  have hlen := h.1
  simp only [Nat.mul_one] at hlen
  rcases h.2 with ⟨_, hn⟩ | ⟨g, c, cur, hv, _, hh, _, _, hs, ht⟩
  · have : xs = [] := List.eq_nil_of_length_eq_zero (by omega)
    subst this
    simp at hj
  · injection hv with hA
    refine ⟨_, hA, ?_⟩
    have hjl : j < xs.length := by
      rcases Nat.lt_or_ge j xs.length with h1 | h1
      · exact h1
      · rw [List.getElem?_eq_none h1] at hj; cases hj
    have e : (Addr.add ⟨g, 0, none⟩ j) = ⟨g, j, none⟩ := by
      unfold Addr.add
      by_cases h0 : j = 0
      · rw [if_pos h0, h0]
      · rw [if_neg h0]; simp
    rw [e, cell_of_row w g j cur _ _ hh]
    have h2 : (cur.toList.take (n * 1))[j]? = some b := by rw [ht, hj]
    rw [List.getElem?_take_of_lt (by omega)] at h2
    simpa using h2

theorem Rv.some_of {w : World} {A : Option Addr} {xs : List Value} (h : Rv w A xs) (hl : xs ≠ []) : ∃ ad, A = some ad := by
  rcases xs with _ | ⟨b, l⟩
  · exact absurd rfl hl
  · obtain ⟨ad, e, _⟩ := h 0 b rfl
    exact ⟨ad, e⟩

theorem Rv.cells {w : World} {ad : Addr} {xs : List Value} (h : Rv w (some ad) xs) : ∀ j u, xs[j]? = some u → w.cell? (ad.add j) = some u := by
  intro j u hj
  obtain ⟨ad', e, hc⟩ := h j u hj
  cases e
  exact hc

theorem Rv.cut {w : World} {A : Option Addr} {xs : List Value} (h : Rv w A xs) (i j : Nat) : Rv w (A.map (·.add i)) ((xs.drop i).take j) := by
  intro k b hk
  have hkj : k < j := by
    rcases Nat.lt_or_ge k j with h1 | h1
    · exact h1
    · rw [List.getElem?_eq_none (by simp; omega)] at hk; cases hk
  rw [List.getElem?_take_of_lt hkj, List.getElem?_drop] at hk
  obtain ⟨ad, rfl, hc⟩ := h _ _ hk
  exact ⟨ad.add i, rfl, by rw [addr_add_add]; exact hc⟩

theorem Rv.take {w : World} {A : Option Addr} {xs : List Value} (h : Rv w A xs) (j : Nat) : Rv w A (xs.take j) := by
  intro k b hk
  have hkj : k < j := by
    rcases Nat.lt_or_ge k j with h1 | h1
    · exact h1
    · rw [List.getElem?_eq_none (by simp; omega)] at hk; cases hk
  rw [List.getElem?_take_of_lt hkj] at hk
  exact h _ _ hk

theorem byt_one (l : List UInt8) : ∀ u ∈ l.map byt, u.oneCell' = true := by
  intro v hv
  obtain ⟨b, _, rfl⟩ := List.mem_map.1 hv
  rfl

theorem grown_of_below {w w' : World} (h : Below w.heap.size w w') (row : Option Nat) : w.grownBy w' row := ⟨h.os, h.tape, h.output, h.size, fun k hk _ => h.block k hk⟩
theorem below_on {B : Nat} {w a b : World} (h : Below B w a) (hB : B ≤ w.heap.size) (k : Below a.heap.size a b) : Below B w b := h.trans (k.mono (Nat.le_trans hB h.size))
theorem below_drewN' {B : Nat} {a w : World} (h : Below B a w) (d : Nat) : Below B a (w.drewN d) := ⟨h.os, h.tape, h.output, h.size, h.block⟩

theorem own_lt {w : World} {base : Nat} {e : TypeId} {v : Value} {n : Nat} {xs : List Value} (h : w.ownsRow base e 1 v n xs) {g : Nat} (hg : v.ownBlock = some g) : g < w.heap.size := by
  rcases h.2 with ⟨rfl, _⟩ | ⟨g', c, cur, rfl, _, hh, _⟩
  · cases hg
  · injection hg with hg
    subst hg
    exact (Array.getElem?_eq_some_iff.1 hh).1

theorem own_same {w w' : World} {base : Nat} {e : TypeId} {v : Value} {n : Nat} {xs : List Value} (h : w.ownsRow base e 1 v n xs) (hb : ∀ g, v.ownBlock = some g → w'.heap[g]? = w.heap[g]?) : w'.ownsRow base e 1 v n xs := by
  refine ⟨h.1, ?_⟩
  rcases h.2 with h1 | ⟨g, c, cur, rfl, h2, hh, h3⟩
  · exact .inl h1
  · exact .inr ⟨g, c, cur, rfl, h2, (hb g rfl).trans hh, h3⟩

theorem own_below {w w' : World} {base : Nat} {e : TypeId} {v : Value} {n : Nat} {xs : List Value} (h : w.ownsRow base e 1 v n xs) (hb : Below w.heap.size w w') : w'.ownsRow base e 1 v n xs :=
  own_same h fun _ hg => hb.block _ (own_lt h hg)

theorem own_form {w : World} {base : Nat} {e : TypeId} {v : Value} {n : Nat} {xs : List Value} (h : w.ownsRow base e 1 v n xs) : ∃ A c, v = .slice A n c ∧ n ≤ c := by
  rcases h.2 with ⟨rfl, hn⟩ | ⟨g, c, cur, rfl, _, _, hc, _⟩
  · exact ⟨none, 0, by rw [hn], by omega⟩
  · exact ⟨_, _, rfl, hc⟩

theorem own_zero {w : World} {base : Nat} {e : TypeId} {v : Value} {n : Nat} {xs : List Value} (h : w.ownsRow base e 1 v n xs) : w.ownsRow 0 e 1 v n xs := by
  refine ⟨h.1, ?_⟩
  rcases h.2 with h1 | ⟨g, c, cur, rfl, h2, h3⟩
  · exact .inl h1
  · exact .inr ⟨g, c, cur, rfl, Nat.zero_le _, h3⟩

theorem byte_info : (Try.prog.info? 5).map (fun i => (i.zero, i.size, i.bytes)) = some (some (.int .u8 0), 1, 1) := by kernel_rfl

/-- append(x, y...) for a row x of the call's own and any values y, nil or not: where the new slice lies is said, too. -/
theorem run_append_vals {bt : Nat} {t e : TypeId} (ht : Try.prog.underlying t = some (.slice e)) {z : Value} (hinfo : (Try.prog.info? e).map (fun i => (i.zero, i.size, i.bytes)) = some (some z, 1, bt)) (hzs : z.cells.size = 1)
    (w : World) (ty : TypeId) (base : Nat) (v : Value) (n : Nat) (xs : List Value) (hown : w.ownsRow base e 1 v n xs) (A : Option Addr) (ys : List Value) (h1 : ∀ u ∈ ys, u.oneCell' = true) (c : Nat) (hR : Rv w A ys)
    (hb : n + ys.length ≤ 140737488355328) (hbt : (n + ys.length) * bt ≤ 140737488355328) (hbase : base ≤ w.heap.size) :
    ∃ v' w', (Builtin.append_ #[t, t] ty #[v, .slice A ys.length c]).run Try.prog w = .ok v' w' ∧ w'.ownsRow base e 1 v' (n + ys.length) (xs ++ ys) ∧ w.grownBy w' v.ownBlock ∧ (v'.ownBlock = v.ownBlock ∨ v'.ownBlock = some w.heap.size) := by
  obtain ⟨i0, hi, hz0, hz1, hz2⟩ := info_parts hinfo
  cases A with
  | none =>
    have hl : ys = [] := by
      rcases ys with _ | ⟨b, l⟩
      · rfl
      · obtain ⟨ad, e, _⟩ := hR 0 b rfl
        cases e
    subst hl
    refine ⟨v, w, ?_, by simpa using hown, World.grownBy.refl _ _, .inl rfl⟩
    rcases hown.2 with ⟨rfl, rfl⟩ | ⟨g, cap, cur, rfl, _, _, hnc, _⟩
    · simp [Builtin.append_, run_underlying ht, sizeOf, typeInfo, hi, Builtin.lenOf, Builtin.firstCells]
    · simp [Builtin.append_, run_underlying ht, sizeOf, typeInfo, hi, Builtin.lenOf, Builtin.firstCells, hnc, storeCells]
  | some ad =>
    obtain ⟨v', w', h1, h2, h3, _, h5⟩ := run_append_own_at (P := Try.prog) w base t ty e i0 z 1 bt ht hi hz0 hz1 hz2 hzs (by decide) v n xs hown ad ys.length c ys (by simp) hR.cells h1 (by unfold maxLen; omega) hbt hbase
    exact ⟨v', w', h1, h2, h3, h5⟩

/-- The same, as a step of a walk. -/
theorem wpList_append_vals {bt : Nat} {t e : TypeId} (ht : Try.prog.underlying t = some (.slice e)) {z : Value} (hinfo : (Try.prog.info? e).map (fun i => (i.zero, i.size, i.bytes)) = some (some z, 1, bt)) (hzs : z.cells.size = 1)
    {w : World} {ops : Array Oper} {rest : List Oper} {o : Oper} {a : Act} {Q : Exit → Act → World → Prop} (hw : Region.wanted o (yielded ops a.tmps) = true) (s x : Operand)
    (ho : o.op = .call { callee := .builtin .append, args := #[s, x], argTypes := #[t, t] })
    (base : Nat) (v : Value) (n : Nat) (xs : List Value) (hs : a.eval s = v) (hown : w.ownsRow base e 1 v n xs) (A : Option Addr) (ys : List Value) (h1 : ∀ u ∈ ys, u.oneCell' = true) (m c : Nat) (hm : ys.length = m) (hx : a.eval x = .slice A m c) (hR : Rv w A ys)
    (hb : n + m ≤ 140737488355328) (hbt : (n + m) * bt ≤ 140737488355328) (hbase : base ≤ w.heap.size)
    (h : ∀ v' w', w'.ownsRow base e 1 v' (n + m) (xs ++ ys) → w.grownBy w' v.ownBlock → (v'.ownBlock = v.ownBlock ∨ v'.ownBlock = some w.heap.size) → wpList Try.prog ops Q rest (a.put o.dst v') w') : wpList Try.prog ops Q (o :: rest) a w := by
  subst hm
  refine wpList_step fun K hK => ?_
  rw [if_pos hw]
  obtain ⟨v', w', hrun, h2, h3, h4⟩ := run_append_vals ht hinfo hzs w o.type base v n xs hown A ys h1 c hR hb hbt hbase
  unfold Oper.wp
  simp [execOp, ho, resolve, invoke, builtin, hs, hx, hrun, Result.andThen]
  exact hK _ _ (h v' w' h2 h3 h4)

theorem grown_setCell (w : World) (c i : Nat) (v : Value) : w.grownBy (w.setCell ⟨c, i, none⟩ v) (some c) :=
  ⟨rfl, rfl, rfl, by simp [World.setCell], fun k _ hne => Below.heap_setCell w ⟨c, i, none⟩ v k (fun e => hne (by rw [e]))⟩
theorem grown_drewN {a w : World} {row : Option Nat} (h : a.grownBy w row) (d : Nat) : a.grownBy (w.drewN d) row := ⟨h.os, h.tape, h.output, h.size, h.block⟩
theorem grown_trans {a b c : World} {row : Option Nat} (h : a.grownBy b row) (k : b.grownBy c row) : a.grownBy c row :=
  ⟨k.os.trans h.os, k.tape.trans h.tape, k.output.trans h.output, Nat.le_trans h.size k.size, fun i hi hne => (k.block i (Nat.lt_of_lt_of_le hi h.size) hne).trans (h.block i hi hne)⟩

end Go.Proofs.Ytpjbjbohbdlciaa
