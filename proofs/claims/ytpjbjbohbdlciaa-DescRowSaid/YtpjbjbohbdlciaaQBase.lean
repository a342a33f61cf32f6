/-
  Words for memory that the proofs over package bitout share: values in a row, a Writer's block, what may have changed; append onto a row of the call's own. No condition beyond those that each theorem states.
-/
import Derived.Below
import Derived.Laws.OwnMore
import Derived.Laws.Rows
import Derived.OwnWalk
import Derived.Lib.Hide
import Derived.Deep.Draws
import Derived.Maps.AppendAt
import Derived.Test.YtpjbjbohbdlciaaProg
import Derived.Test.YtpjbjbohbdlciaaQBit
namespace Go.Proofs.Ytpjbjbohbdlciaa.Bt
open Go.RowKit

/-- The cell of one byte. -/
abbrev byt (b : UInt8) : Value := .int .u8 (b.toNat : Int)

theorem addr_add_block (a : Addr) (n : Nat) : (a.add n).block = a.block := by
  unfold Addr.add
  by_cases h : n = 0
  · rw [if_pos h]
  · rw [if_neg h]

theorem addr_add_add (a : Addr) (i j : Nat) : (a.add i).add j = a.add (i + j) := by
  unfold Addr.add
  rcases Nat.eq_zero_or_pos i with rfl | hi
  · rcases Nat.eq_zero_or_pos j with rfl | hj
    · simp
    · simp
  · rcases Nat.eq_zero_or_pos j with rfl | hj
    · simp
    · simp [Nat.ne_of_gt hi, Nat.ne_of_gt hj, Nat.add_assoc]

theorem cell_lt {w : World} {p : Addr} {v : Value} (h : w.cell? p = some v) : p.block < w.heap.size := World.block_lt_of_cell? w p h

/-- At address A (of a slice) the values xs lie. Of an empty list nothing is asked. -/
def Rv (w : World) (A : Option Addr) (xs : List Value) : Prop :=
  ∀ j v, xs[j]? = some v → ∃ ad, A = some ad ∧ w.cell? (ad.add j) = some v
abbrev Rd (w : World) (A : Option Addr) (l : List UInt8) : Prop := Rv w A (l.map byt)
abbrev Rb (w : World) (A : Option Addr) (l : List Bool) : Prop := Rv w A (l.map Value.bool)

theorem Rv.nil (w : World) (A : Option Addr) : Rv w A [] := fun j b h => by simp at h

theorem Rv.same {w w' : World} {A : Option Addr} {xs : List Value} (h : Rv w A xs) (hk : ∀ ad, A = some ad → w'.heap[ad.block]? = w.heap[ad.block]?) : Rv w' A xs := by
  intro j v hj
  obtain ⟨ad, e, hc⟩ := h j v hj
  refine ⟨ad, e, ?_⟩
  rw [← hc]
  exact World.cell?_of_block (by rw [addr_add_block]; exact hk ad e)

theorem Rv.below {w w' : World} {A : Option Addr} {xs : List Value} (h : Rv w A xs) (hb : Below w.heap.size w w') : Rv w' A xs := by
  intro j v hj
  obtain ⟨ad, e, hc⟩ := h j v hj
  exact ⟨ad, e, (hb.cell (cell_lt hc)).trans hc⟩

theorem Rv.of_own {w : World} {base n cap : Nat} {e : TypeId} {A : Option Addr} {xs : List Value} (h : w.ownsRow base e 1 (.slice A n cap) n xs) : Rv w A xs := by
  intro j b hj
  have hlen := h.1
  simp only [Nat.mul_one] at hlen
  rcases h.2 with ⟨_, hn⟩ | ⟨g, c, cur, hv, _, hh, _, _, hs, ht⟩
  · have : xs = [] := List.eq_nil_of_length_eq_zero (by omega)
    subst this
    simp at hj
  · injection hv with hA
    refine ⟨_, hA, ?_⟩
    have hjl : j < xs.length := by
      rcases Nat.lt_or_ge j xs.length with h1 | h1
      · exact h1
      · rw [List.getElem?_eq_none h1] at hj; cases hj
    have e : (Addr.add ⟨g, 0, none⟩ j) = ⟨g, j, none⟩ := by
      unfold Addr.add
      by_cases h0 : j = 0
      · rw [if_pos h0, h0]
      · rw [if_neg h0]; simp
    rw [e, cell_of_row w g j cur _ _ hh]
    have h2 : (cur.toList.take (n * 1))[j]? = some b := by rw [ht, hj]
    rw [List.getElem?_take_of_lt (by omega)] at h2
    simpa using h2

theorem Rv.some_of {w : World} {A : Option Addr} {xs : List Value} (h : Rv w A xs) (hl : xs ≠ []) : ∃ ad, A = some ad := by
  rcases xs with _ | ⟨b, l⟩
  · exact absurd rfl hl
  · obtain ⟨ad, e, _⟩ := h 0 b rfl
    exact ⟨ad, e⟩

theorem Rv.cells {w : World} {ad : Addr} {xs : List Value} (h : Rv w (some ad) xs) : ∀ j u, xs[j]? = some u → w.cell? (ad.add j) = some u := by
  intro j u hj
  obtain ⟨ad', e, hc⟩ := h j u hj
  cases e
  exact hc

theorem Rv.cut {w : World} {A : Option Addr} {xs : List Value} (h : Rv w A xs) (i j : Nat) : Rv w (A.map (·.add i)) ((xs.drop i).take j) := by
  intro k b hk
  have hkj : k < j := by
    rcases Nat.lt_or_ge k j with h1 | h1
    · exact h1
    · rw [List.getElem?_eq_none (by simp; omega)] at hk; cases hk
  rw [List.getElem?_take_of_lt hkj, List.getElem?_drop] at hk
  obtain ⟨ad, rfl, hc⟩ := h _ _ hk
  exact ⟨ad.add i, rfl, by rw [addr_add_add]; exact hc⟩

theorem Rv.take {w : World} {A : Option Addr} {xs : List Value} (h : Rv w A xs) (j : Nat) : Rv w A (xs.take j) := by
  intro k b hk
  have hkj : k < j := by
    rcases Nat.lt_or_ge k j with h1 | h1
    · exact h1
    · rw [List.getElem?_eq_none (by simp; omega)] at hk; cases hk
  rw [List.getElem?_take_of_lt hkj] at hk
  exact h _ _ hk

theorem byt_one (l : List UInt8) : ∀ u ∈ l.map byt, u.oneCell' = true := by
  intro v hv
  obtain ⟨b, _, rfl⟩ := List.mem_map.1 hv
  rfl
theorem bool_one (l : List Bool) : ∀ u ∈ l.map Value.bool, u.oneCell' = true := by
  intro v hv
  obtain ⟨b, _, rfl⟩ := List.mem_map.1 hv
  rfl

theorem grown_of_below {w w' : World} (h : Below w.heap.size w w') (row : Option Nat) : w.grownBy w' row := ⟨h.os, h.tape, h.output, h.size, fun k hk _ => h.block k hk⟩
theorem below_on {B : Nat} {w a b : World} (h : Below B w a) (hB : B ≤ w.heap.size) (k : Below a.heap.size a b) : Below B w b := h.trans (k.mono (Nat.le_trans hB h.size))
theorem below_drewN' {B : Nat} {a w : World} (h : Below B a w) (d : Nat) : Below B a (w.drewN d) := ⟨h.os, h.tape, h.output, h.size, h.block⟩

theorem own_lt {w : World} {base : Nat} {e : TypeId} {v : Value} {n : Nat} {xs : List Value} (h : w.ownsRow base e 1 v n xs) {g : Nat} (hg : v.ownBlock = some g) : g < w.heap.size := by
  rcases h.2 with ⟨rfl, _⟩ | ⟨g', c, cur, rfl, _, hh, _⟩
  · cases hg
  · injection hg with hg
    subst hg
    exact (Array.getElem?_eq_some_iff.1 hh).1

theorem own_same {w w' : World} {base : Nat} {e : TypeId} {v : Value} {n : Nat} {xs : List Value} (h : w.ownsRow base e 1 v n xs) (hb : ∀ g, v.ownBlock = some g → w'.heap[g]? = w.heap[g]?) : w'.ownsRow base e 1 v n xs := by
  refine ⟨h.1, ?_⟩
  rcases h.2 with h1 | ⟨g, c, cur, rfl, h2, hh, h3⟩
  · exact .inl h1
  · exact .inr ⟨g, c, cur, rfl, h2, (hb g rfl).trans hh, h3⟩

theorem own_below {w w' : World} {base : Nat} {e : TypeId} {v : Value} {n : Nat} {xs : List Value} (h : w.ownsRow base e 1 v n xs) (hb : Below w.heap.size w w') : w'.ownsRow base e 1 v n xs :=
  own_same h fun _ hg => hb.block _ (own_lt h hg)

theorem own_form {w : World} {base : Nat} {e : TypeId} {v : Value} {n : Nat} {xs : List Value} (h : w.ownsRow base e 1 v n xs) : ∃ A c, v = .slice A n c ∧ n ≤ c := by
  rcases h.2 with ⟨rfl, hn⟩ | ⟨g, c, cur, rfl, _, _, hc, _⟩
  · exact ⟨none, 0, by rw [hn], by omega⟩
  · exact ⟨_, _, rfl, hc⟩

theorem own_zero {w : World} {base : Nat} {e : TypeId} {v : Value} {n : Nat} {xs : List Value} (h : w.ownsRow base e 1 v n xs) : w.ownsRow 0 e 1 v n xs := by
  refine ⟨h.1, ?_⟩
  rcases h.2 with h1 | ⟨g, c, cur, rfl, h2, h3⟩
  · exact .inl h1
  · exact .inr ⟨g, c, cur, rfl, Nat.zero_le _, h3⟩

theorem byte_info : (Try.prog.info? 5).map (fun i => (i.zero, i.size, i.bytes)) = some (some (.int .u8 0), 1, 1) := by kernel_rfl
theorem bool_info : (Try.prog.info? 4).map (fun i => (i.zero, i.size, i.bytes)) = some (some (.bool false), 1, 1) := by kernel_rfl

/-- append(x, y...) for a row x of the call's own and any values y, nil or not: where the new slice lies is said, too. -/
theorem run_append_vals {t e : TypeId} (ht : Try.prog.underlying t = some (.slice e)) {z : Value} (hinfo : (Try.prog.info? e).map (fun i => (i.zero, i.size, i.bytes)) = some (some z, 1, 1)) (hzs : z.cells.size = 1)
    (w : World) (ty : TypeId) (base : Nat) (v : Value) (n : Nat) (xs : List Value) (hown : w.ownsRow base e 1 v n xs) (A : Option Addr) (ys : List Value) (h1 : ∀ u ∈ ys, u.oneCell' = true) (c : Nat) (hR : Rv w A ys)
    (hb : n + ys.length ≤ 140737488355328) (hbase : base ≤ w.heap.size) :
    ∃ v' w', (Builtin.append_ #[t, t] ty #[v, .slice A ys.length c]).run Try.prog w = .ok v' w' ∧ w'.ownsRow base e 1 v' (n + ys.length) (xs ++ ys) ∧ w.grownBy w' v.ownBlock ∧ (v'.ownBlock = v.ownBlock ∨ v'.ownBlock = some w.heap.size) := by
  obtain ⟨i0, hi, hz0, hz1, hz2⟩ := info_parts hinfo
  cases A with
  | none =>
    have hl : ys = [] := by
      rcases ys with _ | ⟨b, l⟩
      · rfl
      · obtain ⟨ad, e, _⟩ := hR 0 b rfl
        cases e
    subst hl
    refine ⟨v, w, ?_, by simpa using hown, World.grownBy.refl _ _, .inl rfl⟩
    rcases hown.2 with ⟨rfl, rfl⟩ | ⟨g, cap, cur, rfl, _, _, hnc, _⟩
    · simp [Builtin.append_, run_underlying ht, sizeOf, typeInfo, hi, Builtin.lenOf, Builtin.firstCells]
    · simp [Builtin.append_, run_underlying ht, sizeOf, typeInfo, hi, Builtin.lenOf, Builtin.firstCells, hnc, storeCells]
  | some ad =>
    obtain ⟨v', w', h1, h2, h3, _, h5⟩ := run_append_own_at (P := Try.prog) w base t ty e i0 z 1 1 ht hi hz0 hz1 hz2 hzs (by decide) v n xs hown ad ys.length c ys (by simp) hR.cells h1 (by unfold maxLen; omega) (by omega) hbase
    exact ⟨v', w', h1, h2, h3, h5⟩

/-- The same, as a step of a walk. -/
theorem wpList_append_vals {t e : TypeId} (ht : Try.prog.underlying t = some (.slice e)) {z : Value} (hinfo : (Try.prog.info? e).map (fun i => (i.zero, i.size, i.bytes)) = some (some z, 1, 1)) (hzs : z.cells.size = 1)
    {w : World} {ops : Array Oper} {rest : List Oper} {o : Oper} {a : Act} {Q : Exit → Act → World → Prop} (hw : Region.wanted o (yielded ops a.tmps) = true) (s x : Operand)
    (ho : o.op = .call { callee := .builtin .append, args := #[s, x], argTypes := #[t, t] })
    (base : Nat) (v : Value) (n : Nat) (xs : List Value) (hs : a.eval s = v) (hown : w.ownsRow base e 1 v n xs) (A : Option Addr) (ys : List Value) (h1 : ∀ u ∈ ys, u.oneCell' = true) (m c : Nat) (hm : ys.length = m) (hx : a.eval x = .slice A m c) (hR : Rv w A ys)
    (hb : n + m ≤ 140737488355328) (hbase : base ≤ w.heap.size)
    (h : ∀ v' w', w'.ownsRow base e 1 v' (n + m) (xs ++ ys) → w.grownBy w' v.ownBlock → (v'.ownBlock = v.ownBlock ∨ v'.ownBlock = some w.heap.size) → wpList Try.prog ops Q rest (a.put o.dst v') w') : wpList Try.prog ops Q (o :: rest) a w := by
  subst hm
  refine wpList_step fun K hK => ?_
  rw [if_pos hw]
  obtain ⟨v', w', hrun, h2, h3, h4⟩ := run_append_vals ht hinfo hzs w o.type base v n xs hown A ys h1 c hR hb hbase
  unfold Oper.wp
  simp [execOp, ho, resolve, invoke, builtin, hs, hx, hrun, Result.andThen]
  exact hK _ _ (h v' w' h2 h3 h4)

/-- The block of a Writer: the bits that wait, their number, the whole bytes. -/
def WrBlk (w : World) (x p c : Nat) (v : Value) : Prop :=
  w.heap[x]? = some (.cells #[.int .u8 (p : Int), .int .i64 (c : Int), v] 85 (0, 0))

section
variable {w w' : World} {x p c : Nat} {v : Value}
theorem WrBlk.lt (h : WrBlk w x p c v) : x < w.heap.size := (Array.getElem?_eq_some_iff.1 h).1
theorem WrBlk.cell0 (h : WrBlk w x p c v) : w.cell? ⟨x, 0, none⟩ = some (.int .u8 (p : Int)) := by rw [cell_of_row w x 0 _ _ _ h]; rfl
theorem WrBlk.cell1 (h : WrBlk w x p c v) : w.cell? ⟨x, 1, none⟩ = some (.int .i64 (c : Int)) := by rw [cell_of_row w x 1 _ _ _ h]; rfl
theorem WrBlk.cell2 (h : WrBlk w x p c v) : w.cell? ⟨x, 2, none⟩ = some v := by rw [cell_of_row w x 2 _ _ _ h]; rfl
theorem WrBlk.free (h : WrBlk w x p c v) (i : Nat) : w.frozen? ⟨x, i, none⟩ = false := by
  unfold WrBlk at h
  simp [World.frozen?, h]
theorem WrBlk.same (h : WrBlk w x p c v) (hb : w'.heap[x]? = w.heap[x]?) : WrBlk w' x p c v := hb.trans h
theorem WrBlk.set0 (h : WrBlk w x p c v) (p' : Nat) : WrBlk (w.setCell ⟨x, 0, none⟩ (.int .u8 (p' : Int))) x p' c v := by
  unfold WrBlk at h ⊢
  simp [World.setCell, Array.getElem?_modify, h]
theorem WrBlk.set1 (h : WrBlk w x p c v) (c' : Nat) : WrBlk (w.setCell ⟨x, 1, none⟩ (.int .i64 (c' : Int))) x p c' v := by
  unfold WrBlk at h ⊢
  simp [World.setCell, Array.getElem?_modify, h]
theorem WrBlk.set2 (h : WrBlk w x p c v) (v' : Value) : WrBlk (w.setCell ⟨x, 2, none⟩ v') x p c v' := by
  unfold WrBlk at h ⊢
  simp [World.setCell, Array.getElem?_modify, h]
/-- A row of bytes is never the Writer's block. -/
theorem WrBlk.row_ne (h : WrBlk w x p c v) {base n : Nat} {u : Value} {xs : List Value} (ho : w.ownsRow base 5 1 u n xs) : u.ownBlock ≠ some x := by
  intro he
  rcases ho.2 with ⟨rfl, _⟩ | ⟨g, cp, cur, rfl, _, hh, _⟩
  · cases he
  · injection he with he
    have he' : g = x := he
    subst he'
    unfold WrBlk at h
    rw [h] at hh
    simp at hh
end

theorem grown_setCell (w : World) (c i : Nat) (v : Value) : w.grownBy (w.setCell ⟨c, i, none⟩ v) (some c) :=
  ⟨rfl, rfl, rfl, by simp [World.setCell], fun k _ hne => Below.heap_setCell w ⟨c, i, none⟩ v k (fun e => hne (by rw [e]))⟩
theorem grown_drewN {a w : World} {row : Option Nat} (h : a.grownBy w row) (d : Nat) : a.grownBy (w.drewN d) row := ⟨h.os, h.tape, h.output, h.size, h.block⟩
theorem grown_trans {a b c : World} {row : Option Nat} (h : a.grownBy b row) (k : b.grownBy c row) : a.grownBy c row :=
  ⟨k.os.trans h.os, k.tape.trans h.tape, k.output.trans h.output, Nat.le_trans h.size k.size, fun i hi hne => (k.block i (Nat.lt_of_lt_of_le hi h.size) hne).trans (h.block i hi hne)⟩

/-- Only block x, the row R and new memory have changed. -/
structure Chg (w w' : World) (x : Nat) (R : Option Nat) : Prop where
  os : w'.os = w.os
  tape : w'.tape = w.tape
  output : w'.output = w.output
  size : w.heap.size ≤ w'.heap.size
  block : ∀ k, k < w.heap.size → k ≠ x → some k ≠ R → w'.heap[k]? = w.heap[k]?

/-- A row R' that is R or new. -/
def New (w : World) (R R' : Option Nat) : Prop := R' = R ∨ ∃ g, R' = some g ∧ w.heap.size ≤ g

theorem New.refl (w : World) (R : Option Nat) : New w R R := .inl rfl
theorem New.trans {a b : World} {R S T : Option Nat} (h : New a R S) (k : New b S T) (hs : a.heap.size ≤ b.heap.size) : New a R T := by
  rcases k with rfl | ⟨g, rfl, hg⟩
  · exact h
  · exact .inr ⟨g, rfl, by omega⟩
theorem Chg.refl (w : World) (x : Nat) (R : Option Nat) : Chg w w x R := ⟨rfl, rfl, rfl, Nat.le_refl _, fun _ _ _ _ => rfl⟩
theorem Chg.trans {a b c : World} {x : Nat} {R S : Option Nat} (h : Chg a b x R) (k : Chg b c x S) (hn : New a R S) : Chg a c x R := by
  refine ⟨k.os.trans h.os, k.tape.trans h.tape, k.output.trans h.output, Nat.le_trans h.size k.size, fun i hi hx hr => ?_⟩
  refine (k.block i (Nat.lt_of_lt_of_le hi h.size) hx ?_).trans (h.block i hi hx hr)
  rcases hn with rfl | ⟨g, rfl, hg⟩
  · exact hr
  · intro e
    injection e with e
    omega
theorem Chg.of_self {w w' : World} {x : Nat} (R : Option Nat) (h : w.grownBy w' (some x)) : Chg w w' x R := ⟨h.os, h.tape, h.output, h.size, fun k hk hx _ => h.block k hk (by simpa using hx)⟩
theorem Chg.of_row {w w' : World} (x : Nat) {R : Option Nat} (h : w.grownBy w' R) : Chg w w' x R := ⟨h.os, h.tape, h.output, h.size, fun k hk _ hr => h.block k hk hr⟩
theorem Chg.of_below {w w' : World} (x : Nat) (R : Option Nat) (h : Below w.heap.size w w') : Chg w w' x R := ⟨h.os, h.tape, h.output, h.size, fun k hk _ _ => h.block k hk⟩
theorem Chg.below {w w' : World} {x : Nat} {R : Option Nat} {B : Nat} (h : Chg w w' x R) (hB : B ≤ w.heap.size) (hx : B ≤ x) (hR : ∀ g, R = some g → B ≤ g) : Below B w w' :=
  ⟨h.os, h.tape, h.output, h.size, fun k hk => h.block k (by omega) (by omega) (fun e => by have := hR k e.symm; omega)⟩

/-- Block x is a Writer with the stream l; v is the slice of its whole bytes. -/
def Wr (w : World) (x : Nat) (v : Value) (l : List Bool) : Prop :=
  ∃ F p c, WrBlk w x p c v ∧ c < 8 ∧ Str F p c l ∧ w.ownsRow 0 5 1 v F.length (F.map byt)

theorem Wr.lt {w : World} {x : Nat} {v : Value} {l : List Bool} (h : Wr w x v l) : x < w.heap.size := by
  obtain ⟨F, p, c, hb, _⟩ := h
  exact hb.lt
theorem Wr.row_lt {w : World} {x : Nat} {v : Value} {l : List Bool} (h : Wr w x v l) {g : Nat} (hg : v.ownBlock = some g) : g < w.heap.size := by
  obtain ⟨F, p, c, _, _, _, ho⟩ := h
  exact own_lt ho hg
theorem Wr.same {w w' : World} {x : Nat} {v : Value} {l : List Bool} (h : Wr w x v l) (hx : w'.heap[x]? = w.heap[x]?) (hr : ∀ g, v.ownBlock = some g → w'.heap[g]? = w.heap[g]?) : Wr w' x v l := by
  obtain ⟨F, p, c, hb, hc, hs, ho⟩ := h
  exact ⟨F, p, c, hb.same hx, hc, hs, own_same ho hr⟩
theorem Wr.below {w w' : World} {x : Nat} {v : Value} {l : List Bool} (h : Wr w x v l) (hb : Below w.heap.size w w') : Wr w' x v l :=
  h.same (hb.block _ h.lt) fun _ hg => hb.block _ (h.row_lt hg)
/-- Another Writer's steps leave this one as it is. -/
theorem Wr.other {w w' : World} {x y : Nat} {v u : Value} {l m : List Bool} (h : Wr w x v l) (hy : Wr w y u m) (hc : Chg w w' y u.ownBlock) (hne : x ≠ y) (hr : ∀ g, v.ownBlock = some g → u.ownBlock ≠ some g) : Wr w' x v l := by
  refine h.same (hc.block x h.lt hne ?_) fun g hg => hc.block g (h.row_lt hg) ?_ (fun e => hr g hg e.symm)
  · obtain ⟨_, _, _, hb, _⟩ := h
    obtain ⟨_, _, _, _, _, _, ho⟩ := hy
    exact fun e => hb.row_ne ho e.symm
  · rintro rfl
    obtain ⟨_, _, _, _, _, _, ho⟩ := h
    obtain ⟨_, _, _, hb, _⟩ := hy
    exact hb.row_ne ho hg

end Go.Proofs.Ytpjbjbohbdlciaa.Bt
