/-
  Words for memory that the proofs over package spread share: values in a row, what may have changed, append onto a row of the call's own. No condition beyond those that each theorem states.
  A loop over an iterator, whatever its rounds do: they may change the blocks of a set S and make new memory; a round may leave the loop. If every round takes the invariant from j to the next, the loop takes it to the last one, or ends with the jump of the round that left. Conditions: the loop is an outermost one of its function; the loop's own two blocks are not in S.
  Words for ints and norms in a row; a table as a value and as a block. No condition beyond those that each theorem states.
-/
import Derived.Below
import Derived.Laws.OwnMore
import Derived.Laws.Rows
import Derived.OwnWalk
import Derived.Lib.Hide
import Derived.Deep.Draws
import Derived.Maps.AppendAt
import Derived.OneCell
import Derived.Laws.BitsAllLaws
import Derived.Test.YtnlhokfhkohdpaaGreatProg
import Derived.RangeFuncBox
import Derived.RangeFuncNested
import Derived.RangeFuncLeaves
import Derived.Shelf.Abstract
import Derived.WalkKit
import Derived.OwnWalkIn
import Derived.TacticsInMore
import Derived.LoopNIn
import Derived.LoopIn
namespace Go.Proofs.YtnlhokfhkohdpaaGreat
open Go.RowKit

/-- The cell of one byte. -/
abbrev byt (b : UInt8) : Value := .int .u8 (b.toNat : Int)

theorem addr_add_block (a : Addr) (n : Nat) : (a.add n).block = a.block := by
  unfold Addr.add
  by_cases h : n = 0
  · rw [if_pos h]
  · rw [if_neg h]

theorem addr_add_add (a : Addr) (i j : Nat) : (a.add i).add j = a.add (i + j) := by
  unfold Addr.add
  rcases Nat.eq_zero_or_pos i with rfl | hi
  · rcases Nat.eq_zero_or_pos j with rfl | hj
    · simp
    · simp
  · rcases Nat.eq_zero_or_pos j with rfl | hj
    · simp
    · simp [Nat.ne_of_gt hi, Nat.ne_of_gt hj, Nat.add_assoc]

theorem cell_lt {w : World} {p : Addr} {v : Value} (h : w.cell? p = some v) : p.block < w.heap.size := World.block_lt_of_cell? w p h

/-- At address A (of a slice) the values xs lie. Of an empty list nothing is asked. -/
def Rv (w : World) (A : Option Addr) (xs : List Value) : Prop :=
  ∀ j v, xs[j]? = some v → ∃ ad, A = some ad ∧ w.cell? (ad.add j) = some v
abbrev Rd (w : World) (A : Option Addr) (l : List UInt8) : Prop := Rv w A (l.map byt)

theorem Rv.nil (w : World) (A : Option Addr) : Rv w A [] := fun j b h => by simp at h

theorem Rv.same {w w' : World} {A : Option Addr} {xs : List Value} (h : Rv w A xs) (hk : ∀ ad, A = some ad → w'.heap[ad.block]? = w.heap[ad.block]?) : Rv w' A xs := by
  intro j v hj
  obtain ⟨ad, e, hc⟩ := h j v hj
  refine ⟨ad, e, ?_⟩
  rw [← hc]
  exact World.cell?_of_block (by rw [addr_add_block]; exact hk ad e)

theorem Rv.below {w w' : World} {A : Option Addr} {xs : List Value} (h : Rv w A xs) (hb : Below w.heap.size w w') : Rv w' A xs := by
  intro j v hj
  obtain ⟨ad, e, hc⟩ := h j v hj
  exact ⟨ad, e, (hb.cell (cell_lt hc)).trans hc⟩

theorem Rv.of_own {w : World} {base n cap : Nat} {e : TypeId} {A : Option Addr} {xs : List Value} (h : w.ownsRow base e 1 (.slice A n cap) n xs) : Rv w A xs := by
  intro j b hj
  have hlen := h.1
  simp only [Nat.mul_one] at hlen
  rcases h.2 with ⟨_, hn⟩ | ⟨g, c, cur, hv, _, hh, _, _, hs, ht⟩
  · have : xs = [] := List.eq_nil_of_length_eq_zero (by omega)
    subst this
    simp at hj
  · injection hv with hA
    refine ⟨_, hA, ?_⟩
    have hjl : j < xs.length := by
      rcases Nat.lt_or_ge j xs.length with h1 | h1
      · exact h1
      · rw [List.getElem?_eq_none h1] at hj; cases hj
    have e : (Addr.add ⟨g, 0, none⟩ j) = ⟨g, j, none⟩ := by
      unfold Addr.add
      by_cases h0 : j = 0
      · rw [if_pos h0, h0]
      · rw [if_neg h0]; simp
    rw [e, cell_of_row w g j cur _ _ hh]
    have h2 : (cur.toList.take (n * 1))[j]? = some b := by rw [ht, hj]
    rw [List.getElem?_take_of_lt (by omega)] at h2
    simpa using h2

theorem Rv.some_of {w : World} {A : Option Addr} {xs : List Value} (h : Rv w A xs) (hl : xs ≠ []) : ∃ ad, A = some ad := by
  rcases xs with _ | ⟨b, l⟩
  · exact absurd rfl hl
  · obtain ⟨ad, e, _⟩ := h 0 b rfl
    exact ⟨ad, e⟩

theorem Rv.cells {w : World} {ad : Addr} {xs : List Value} (h : Rv w (some ad) xs) : ∀ j u, xs[j]? = some u → w.cell? (ad.add j) = some u := by
  intro j u hj
  obtain ⟨ad', e, hc⟩ := h j u hj
  cases e
  exact hc

theorem Rv.cut {w : World} {A : Option Addr} {xs : List Value} (h : Rv w A xs) (i j : Nat) : Rv w (A.map (·.add i)) ((xs.drop i).take j) := by
  intro k b hk
  have hkj : k < j := by
    rcases Nat.lt_or_ge k j with h1 | h1
    · exact h1
    · rw [List.getElem?_eq_none (by simp; omega)] at hk; cases hk
  rw [List.getElem?_take_of_lt hkj, List.getElem?_drop] at hk
  obtain ⟨ad, rfl, hc⟩ := h _ _ hk
  exact ⟨ad.add i, rfl, by rw [addr_add_add]; exact hc⟩

theorem Rv.take {w : World} {A : Option Addr} {xs : List Value} (h : Rv w A xs) (j : Nat) : Rv w A (xs.take j) := by
  intro k b hk
  have hkj : k < j := by
    rcases Nat.lt_or_ge k j with h1 | h1
    · exact h1
    · rw [List.getElem?_eq_none (by simp; omega)] at hk; cases hk
  rw [List.getElem?_take_of_lt hkj] at hk
  exact h _ _ hk

theorem byt_one (l : List UInt8) : ∀ u ∈ l.map byt, u.oneCell' = true := by
  intro v hv
  obtain ⟨b, _, rfl⟩ := List.mem_map.1 hv
  rfl

theorem grown_of_below {w w' : World} (h : Below w.heap.size w w') (row : Option Nat) : w.grownBy w' row := ⟨h.os, h.tape, h.output, h.size, fun k hk _ => h.block k hk⟩
theorem below_on {B : Nat} {w a b : World} (h : Below B w a) (hB : B ≤ w.heap.size) (k : Below a.heap.size a b) : Below B w b := h.trans (k.mono (Nat.le_trans hB h.size))
theorem below_drewN' {B : Nat} {a w : World} (h : Below B a w) (d : Nat) : Below B a (w.drewN d) := ⟨h.os, h.tape, h.output, h.size, h.block⟩

theorem own_lt {w : World} {base : Nat} {e : TypeId} {v : Value} {n : Nat} {xs : List Value} (h : w.ownsRow base e 1 v n xs) {g : Nat} (hg : v.ownBlock = some g) : g < w.heap.size := by
  rcases h.2 with ⟨rfl, _⟩ | ⟨g', c, cur, rfl, _, hh, _⟩
  · cases hg
  · injection hg with hg
    subst hg
    exact (Array.getElem?_eq_some_iff.1 hh).1

theorem own_same {w w' : World} {base : Nat} {e : TypeId} {v : Value} {n : Nat} {xs : List Value} (h : w.ownsRow base e 1 v n xs) (hb : ∀ g, v.ownBlock = some g → w'.heap[g]? = w.heap[g]?) : w'.ownsRow base e 1 v n xs := by
  refine ⟨h.1, ?_⟩
  rcases h.2 with h1 | ⟨g, c, cur, rfl, h2, hh, h3⟩
  · exact .inl h1
  · exact .inr ⟨g, c, cur, rfl, h2, (hb g rfl).trans hh, h3⟩

theorem own_below {w w' : World} {base : Nat} {e : TypeId} {v : Value} {n : Nat} {xs : List Value} (h : w.ownsRow base e 1 v n xs) (hb : Below w.heap.size w w') : w'.ownsRow base e 1 v n xs :=
  own_same h fun _ hg => hb.block _ (own_lt h hg)

theorem own_form {w : World} {base : Nat} {e : TypeId} {v : Value} {n : Nat} {xs : List Value} (h : w.ownsRow base e 1 v n xs) : ∃ A c, v = .slice A n c ∧ n ≤ c := by
  rcases h.2 with ⟨rfl, hn⟩ | ⟨g, c, cur, rfl, _, _, hc, _⟩
  · exact ⟨none, 0, by rw [hn], by omega⟩
  · exact ⟨_, _, rfl, hc⟩

theorem own_zero {w : World} {base : Nat} {e : TypeId} {v : Value} {n : Nat} {xs : List Value} (h : w.ownsRow base e 1 v n xs) : w.ownsRow 0 e 1 v n xs := by
  refine ⟨h.1, ?_⟩
  rcases h.2 with h1 | ⟨g, c, cur, rfl, h2, h3⟩
  · exact .inl h1
  · exact .inr ⟨g, c, cur, rfl, Nat.zero_le _, h3⟩

theorem byte_info : (Tryz.prog.info? 5).map (fun i => (i.zero, i.size, i.bytes)) = some (some (.int .u8 0), 1, 1) := by kernel_rfl

/-- append(x, y...) for a row x of the call's own and any values y, nil or not: where the new slice lies is said, too. -/
theorem run_append_vals {bt : Nat} {t e : TypeId} (ht : Tryz.prog.underlying t = some (.slice e)) {z : Value} (hinfo : (Tryz.prog.info? e).map (fun i => (i.zero, i.size, i.bytes)) = some (some z, 1, bt)) (hzs : z.cells.size = 1)
    (w : World) (ty : TypeId) (base : Nat) (v : Value) (n : Nat) (xs : List Value) (hown : w.ownsRow base e 1 v n xs) (A : Option Addr) (ys : List Value) (h1 : ∀ u ∈ ys, u.oneCell' = true) (c : Nat) (hR : Rv w A ys)
    (hb : n + ys.length ≤ 140737488355328) (hbt : (n + ys.length) * bt ≤ 140737488355328) (hbase : base ≤ w.heap.size) :
    ∃ v' w', (Builtin.append_ #[t, t] ty #[v, .slice A ys.length c]).run Tryz.prog w = .ok v' w' ∧ w'.ownsRow base e 1 v' (n + ys.length) (xs ++ ys) ∧ w.grownBy w' v.ownBlock ∧ (v'.ownBlock = v.ownBlock ∨ v'.ownBlock = some w.heap.size) := by
  obtain ⟨i0, hi, hz0, hz1, hz2⟩ := info_parts hinfo
  cases A with
  | none =>
    have hl : ys = [] := by
      rcases ys with _ | ⟨b, l⟩
      · rfl
      · obtain ⟨ad, e, _⟩ := hR 0 b rfl
        cases e
    subst hl
    refine ⟨v, w, ?_, by simpa using hown, World.grownBy.refl _ _, .inl rfl⟩
    rcases hown.2 with ⟨rfl, rfl⟩ | ⟨g, cap, cur, rfl, _, _, hnc, _⟩
    · simp [Builtin.append_, run_underlying ht, sizeOf, typeInfo, hi, Builtin.lenOf, Builtin.firstCells]
    · simp [Builtin.append_, run_underlying ht, sizeOf, typeInfo, hi, Builtin.lenOf, Builtin.firstCells, hnc, storeCells]
  | some ad =>
    obtain ⟨v', w', h1, h2, h3, _, h5⟩ := run_append_own_at (P := Tryz.prog) w base t ty e i0 z 1 bt ht hi hz0 hz1 hz2 hzs (by decide) v n xs hown ad ys.length c ys (by simp) hR.cells h1 (by unfold maxLen; omega) hbt hbase
    exact ⟨v', w', h1, h2, h3, h5⟩

/-- The same, as a step of a walk. -/
theorem wpList_append_vals {bt : Nat} {t e : TypeId} (ht : Tryz.prog.underlying t = some (.slice e)) {z : Value} (hinfo : (Tryz.prog.info? e).map (fun i => (i.zero, i.size, i.bytes)) = some (some z, 1, bt)) (hzs : z.cells.size = 1)
    {w : World} {ops : Array Oper} {rest : List Oper} {o : Oper} {a : Act} {Q : Exit → Act → World → Prop} (hw : Region.wanted o (yielded ops a.tmps) = true) (s x : Operand)
    (ho : o.op = .call { callee := .builtin .append, args := #[s, x], argTypes := #[t, t] })
    (base : Nat) (v : Value) (n : Nat) (xs : List Value) (hs : a.eval s = v) (hown : w.ownsRow base e 1 v n xs) (A : Option Addr) (ys : List Value) (h1 : ∀ u ∈ ys, u.oneCell' = true) (m c : Nat) (hm : ys.length = m) (hx : a.eval x = .slice A m c) (hR : Rv w A ys)
    (hb : n + m ≤ 140737488355328) (hbt : (n + m) * bt ≤ 140737488355328) (hbase : base ≤ w.heap.size)
    (h : ∀ v' w', w'.ownsRow base e 1 v' (n + m) (xs ++ ys) → w.grownBy w' v.ownBlock → (v'.ownBlock = v.ownBlock ∨ v'.ownBlock = some w.heap.size) → wpList Tryz.prog ops Q rest (a.put o.dst v') w') : wpList Tryz.prog ops Q (o :: rest) a w := by
  subst hm
  refine wpList_step fun K hK => ?_
  rw [if_pos hw]
  obtain ⟨v', w', hrun, h2, h3, h4⟩ := run_append_vals ht hinfo hzs w o.type base v n xs hown A ys h1 c hR hb hbt hbase
  unfold Oper.wp
  simp [execOp, ho, resolve, invoke, builtin, hs, hx, hrun, Result.andThen]
  exact hK _ _ (h v' w' h2 h3 h4)

theorem grown_setCell (w : World) (c i : Nat) (v : Value) : w.grownBy (w.setCell ⟨c, i, none⟩ v) (some c) :=
  ⟨rfl, rfl, rfl, by simp [World.setCell], fun k _ hne => Below.heap_setCell w ⟨c, i, none⟩ v k (fun e => hne (by rw [e]))⟩
theorem grown_drewN {a w : World} {row : Option Nat} (h : a.grownBy w row) (d : Nat) : a.grownBy (w.drewN d) row := ⟨h.os, h.tape, h.output, h.size, h.block⟩
theorem grown_trans {a b c : World} {row : Option Nat} (h : a.grownBy b row) (k : b.grownBy c row) : a.grownBy c row :=
  ⟨k.os.trans h.os, k.tape.trans h.tape, k.output.trans h.output, Nat.le_trans h.size k.size, fun i hi hne => (k.block i (Nat.lt_of_lt_of_le hi h.size) hne).trans (h.block i hi hne)⟩

end Go.Proofs.YtnlhokfhkohdpaaGreat

namespace Go.Proofs.YtnlhokfhkohdpaaGreat
open Go.RowKit Go.Shelf

/-- Nothing but the blocks of S and new memory differs. -/
structure Chg (S : Nat → Prop) (a b : World) : Prop where
  os : b.os = a.os
  tape : b.tape = a.tape
  output : b.output = a.output
  size : a.heap.size ≤ b.heap.size
  block : ∀ k, k < a.heap.size → ¬ S k → b.heap[k]? = a.heap[k]?

theorem Chg.refl (S : Nat → Prop) (a : World) : Chg S a a := ⟨rfl, rfl, rfl, Nat.le_refl _, fun _ _ _ => rfl⟩
theorem Chg.trans {S : Nat → Prop} {a b c : World} (h : Chg S a b) (k : Chg S b c) : Chg S a c :=
  ⟨k.os.trans h.os, k.tape.trans h.tape, k.output.trans h.output, Nat.le_trans h.size k.size, fun i hi hn => (k.block i (Nat.lt_of_lt_of_le hi h.size) hn).trans (h.block i hi hn)⟩
theorem Chg.alloc {S : Nat → Prop} {a b : World} (h : Chg S a b) (o : Obj) : Chg S a (b.alloc o) :=
  ⟨h.os, h.tape, h.output, by rw [World.size_alloc]; have := h.size; omega, fun i hi hn => (Below.heap_alloc b o i (Nat.lt_of_lt_of_le hi h.size)).trans (h.block i hi hn)⟩
theorem Chg.put {S : Nat → Prop} {a b : World} (h : Chg S a b) (l : Nat) (hl : a.heap.size ≤ l) (o : Obj) : Chg S a (b.putObj l o) :=
  ⟨h.os, h.tape, h.output, by rw [World.putObj_size]; exact h.size, fun k hk hn => by rw [World.putObj_heap_other (by omega)]; exact h.block k hk hn⟩
theorem Chg.drew {S : Nat → Prop} {a b : World} (h : Chg S a b) (d : Nat) : Chg S a (b.drewN d) := ⟨h.os, h.tape, h.output, h.size, h.block⟩
theorem Chg.set {S : Nat → Prop} {a b : World} (h : Chg S a b) (ad : Addr) (hs : S ad.block) (v : Value) : Chg S a (b.setCell ad v) :=
  ⟨h.os, h.tape, h.output, by simpa [World.setCell] using h.size, fun k hk hn => (Below.heap_setCell b ad v k (fun e => hn (by rw [e]; exact hs))).trans (h.block k hk hn)⟩
theorem Chg.of_below {S : Nat → Prop} {a b : World} (h : Below a.heap.size a b) : Chg S a b := ⟨h.os, h.tape, h.output, h.size, fun k hk _ => h.block k hk⟩
theorem Chg.below {S : Nat → Prop} {a b c : World} (h : Chg S a b) (k : Below b.heap.size b c) : Chg S a c := h.trans (.of_below k)
/-- What has changed only what is newer than w0 leaves all of w0. -/
theorem Chg.new {S : Nat → Prop} {B : Nat} {a b : World} (h : Chg S a b) (hB : B ≤ a.heap.size) (hS : ∀ k, S k → B ≤ k) : Below B a b :=
  ⟨h.os, h.tape, h.output, h.size, fun k hk => h.block k (by omega) (fun e => by have := hS k e; omega)⟩
theorem boxed_chg {S : Nat → Prop} {W W' : World} {B : Nat} {t : TypeId} {v : Value} (h : Boxed W B t v) (hc : Chg S W W') (hn : ¬ S B) : Boxed W' B t v := (hc.block B h.lt hn).trans h

/-- A call of yield at loop l hands on element j: the round takes the invariant to the next one, or leaves. -/
def Yields (F : Fence) (m : Nat) (P : Program) (l N : Nat) (enc : Nat → Array Value) (I : Nat → World → Prop) (X : World → Prop) : Prop :=
  ∀ j W, j < N → I j W → YieldAt F m P l (enc j) W fun e W' => (e = .returned (.bool true) ∧ I (j + 1) W') ∨ (e = .returned (.bool false) ∧ X W')

/-- The iterator gf with the captured values lb hands on N elements, as long as what it reads (Kp) lies there; between two rounds it only draws. -/
def Hands (F : Fence) (n : Nat) (P : Program) (gf : Nat) (lb : Array Value) (N : Nat) (enc : Nat → Array Value) (Kp : World → Prop) : Prop :=
  ∀ (l : Nat) (I : Nat → World → Prop) (X : World → Prop) (W : World), (∀ j W d, I j W → I j (W.drewN d)) → (∀ W d, X W → X (W.drewN d)) → (∀ j W, I j W → Kp W) → Yields F (n - 1) P l N enc I X → I 0 W →
    CallsIn F n P gf (#[.func (.yield l) #[] #[]] ++ lb) W fun e W' => (∃ v, e = .returned v) ∧ (I N W' ∨ X W')

/-- How a round ends. -/
def roundEnd (G : World → Prop) (Px : Code → World → Prop) : Exit → World → Prop
  | .normal, W => G W
  | .ret, W => Px .ret W
  | .exit id, W => Px (.exit id) W
  | .goto t, W => Px (.goto t) W
  | _, _ => False

/-- Two worlds that differ at most in a loop's own two blocks, and in draws. -/
def Alike (D : Nat) (W W' : World) : Prop := ∀ k, k ≠ D → k ≠ D + 1 → W'.heap[k]? = W.heap[k]?

theorem range_s {F : Fence} {n : Nat} {P : Program} {g : Operand} {ps : Array Tmp} {assign body : Code} {Q : Exit → Act → World → Prop} {a : Act} {w : World}
    (hro : F.round = none) (h1 : 1 ≤ n) {gf : Nat} {lb : Array Value} (hg : a.eval g = .func (.func gf) #[] lb) (hFg : F.fn gf) (eg : ∀ args w, (callFunc gf args).run P w = .ok (.enter gf args) w)
    {N : Nat} {enc : Nat → Array Value} {Kp : World → Prop} (hps : ∀ j, (enc j).size = ps.size) (hit : Hands F (n - 1) P gf lb N enc Kp)
    (S : Nat → Prop) (hD : ¬ S w.heap.size) (hL : ¬ S (w.heap.size + 1)) (Pp : Nat → World → Prop) (Px : Code → World → Prop)
    (hPp : ∀ j W W', Alike w.heap.size W W' → Pp j W → Pp j W') (hPx : ∀ c W W', Alike w.heap.size W W' → Px c W → Px c W')
    (hKp : ∀ j W, Chg S w W → Pp j W → Kp W) (h0 : Pp 0 w) (a₁ : Nat → Act)
    (hassign : ∀ (l j : Nat) (W : World) (K : Act → World → Prop), j < N → K (a₁ j) W →
      assign.wpIn (F.inRound l) (n - 1 - 1) P (Exit.then K (fun _ _ _ => False)) { tmps := (ps.zip (enc j)).foldl (fun t (p, v) => t.setIfInBounds p v) a.tmps, defers := [] } W)
    (hbody : ∀ (l j : Nat) (W : World), j < N → Chg S w W → w.heap.size + 2 ≤ W.heap.size → Pp j W → body.wpIn (F.inRound l) (n - 1 - 1) P (fun e _ W' => Chg S W W' ∧ roundEnd (Pp (j + 1)) Px e W') (a₁ j) W)
    (hdone : ∀ (W : World), W.heap[w.heap.size]? = some (.deferred (some [])) → Chg S w W → w.heap.size + 2 ≤ W.heap.size → Pp N W → Q .normal { a with defers := { target := .collected w.heap.size, args := #[] } :: a.defers } W)
    (hstop : ∀ (c : Code) (W : World), W.heap[w.heap.size]? = some (.deferred (some [])) → Chg S w W → w.heap.size + 2 ≤ W.heap.size → Px c W → c.wpIn F n P Q { a with defers := { target := .collected w.heap.size, args := #[] } :: a.defers } W) :
    (Code.rangeFunc g ps assign body).wpIn F n P Q a w := by
  refine wpIn_rangeFunc fun fn hfn => ?_
  rw [hro]
  obtain ⟨rec, hrec⟩ : ∃ rec : LoopState → Option Code → Loop, rec = fun st pe => { state := st, pending := pe, fn, tmps := a.tmps, params := ps, assign, body, defers := w.heap.size } := ⟨_, rfl⟩
  obtain ⟨W1, hW1⟩ : ∃ W1, (w.alloc (.deferred (some []))).alloc (.loop (rec .ready none)) = W1 := ⟨_, rfl⟩
  have g1 : Chg S w W1 := by rw [← hW1]; exact ((Chg.refl S w).alloc _).alloc _
  have sz : W1.heap.size = w.heap.size + 2 := by rw [← hW1]; simp
  have hr1 : W1.heap[w.heap.size + 1]? = some (.loop (rec .ready none)) := by
    rw [← hW1]
    have := World.alloc_heap_new (w.alloc (.deferred (some []))) (.loop (rec .ready none))
    rwa [World.size_alloc] at this
  have hd1 : W1.heap[w.heap.size]? = some (.deferred (some [])) := by
    rw [← hW1]
    exact (Below.heap_alloc _ _ _ (by simp)).trans (World.alloc_heap_new w _)
  have al1 : Alike w.heap.size w W1 := fun k hk1 hk2 => by
    rcases Nat.lt_or_ge k w.heap.size with h | h
    · rw [← hW1]
      exact (Below.heap_alloc _ _ _ (by simp; omega)).trans (Below.heap_alloc _ _ _ h)
    · rw [Array.getElem?_eq_none (by omega), Array.getElem?_eq_none (by omega)]
  have alp : ∀ (W : World) (o : Obj), Alike w.heap.size W (W.putObj (w.heap.size + 1) o) := fun W o k _ hk => World.putObj_heap_other hk
  have he : (Instr.enterLoop fn a.tmps ps assign body none).run P w = .ok (w.heap.size + 1, [{ target := .collected w.heap.size, args := #[] }]) W1 := by
    rw [← hW1, hrec]
    exact run_enterLoop_outer _ _ _ _ _
  refine ⟨w.heap.size + 1, [{ target := .collected w.heap.size, args := #[] }], W1, { target := .fn (.func gf) lb, args := #[.func (.yield (w.heap.size + 1)) #[] #[]] }, W1, gf,
    #[.func (.yield (w.heap.size + 1)) #[] #[]] ++ lb, W1, he, ?_, ?_, ?_, fun _ => h1, ?_⟩
  · simp only [resolve, hg]
    simp [go_sem]
  · intro f' hf'
    simp [Target.leads] at hf'
    subst hf'
    exact hFg
  · simp [invoke, go_sem, eg]
  · refine (hit (w.heap.size + 1)
      (fun j W => Pp j W ∧ Chg S w W ∧ w.heap.size + 2 ≤ W.heap.size ∧ W.heap[w.heap.size + 1]? = some (.loop (rec .ready none)) ∧ W.heap[w.heap.size]? = some (.deferred (some [])))
      (fun W => ∃ c, Px c W ∧ Chg S w W ∧ w.heap.size + 2 ≤ W.heap.size ∧ W.heap[w.heap.size + 1]? = some (.loop (rec .done (some c))) ∧ W.heap[w.heap.size]? = some (.deferred (some [])))
      W1 (fun j W d ⟨hp, hc, hs, hl, hd⟩ => ⟨hPp j W _ (fun _ _ _ => rfl) hp, hc.drew d, hs, hl, hd⟩) (fun W d ⟨c, hp, hc, hs, hl, hd⟩ => ⟨c, hPx c W _ (fun _ _ _ => rfl) hp, hc.drew d, hs, hl, hd⟩)
      (fun j W ⟨hp, hc, _⟩ => hKp j W hc hp) ?_ ⟨hPp 0 w W1 al1 h0, g1, by omega, hr1, hd1⟩).mono ?_
    · rintro j W hj ⟨hp, hc, hs, hl, hd⟩
      have hlt : w.heap.size + 1 < W.heap.size := by omega
      have hy := run_yield (P := P) (args := enc j) hl (by rw [hrec]; exact hps j)
      refine ⟨_, _, _, _, hy, roundIn_of_wpIn (by rw [hrec]; exact hfn) ?_⟩
      rw [hrec]
      refine hassign _ j W _ hj ⟨_, run_beginRound (by rw [hrec] at hl; exact hl) rfl, ?_⟩
      obtain ⟨W2, hW2⟩ : ∃ W2, W.putObj (w.heap.size + 1) (.loop (rec .busy none)) = W2 := ⟨_, rfl⟩
      have eW2 : W.putObj (w.heap.size + 1) (.loop { (rec .ready none) with state := .busy }) = W2 := by rw [← hW2, hrec]
      rw [hrec] at eW2
      rw [eW2]
      have hr2 : W2.heap[w.heap.size + 1]? = some (.loop (rec .busy none)) := by rw [← hW2]; exact World.putObj_heap_same hlt
      have hd2 : W2.heap[w.heap.size]? = some (.deferred (some [])) := by rw [← hW2, World.putObj_heap_other (by omega)]; exact hd
      have s2 : W2.heap.size = W.heap.size := by rw [← hW2]; simp
      have hc2 : Chg S w W2 := by rw [← hW2]; exact hc.put _ (by omega) _
      have hp2 : Pp j W2 := hPp j W W2 (by rw [← hW2]; exact alp W _) hp
      refine wpIn_mono (hbody (w.heap.size + 1) j W2 hj hc2 (by omega) hp2) ?_
      rintro e a3 W3 ⟨hc3, hp3⟩
      have hr3 : W3.heap[w.heap.size + 1]? = some (.loop (rec .busy none)) := (hc3.block _ (by omega) hL).trans hr2
      have hd3 : W3.heap[w.heap.size]? = some (.deferred (some [])) := (hc3.block _ (by omega) hD).trans hd2
      have hs3 := hc3.size
      have hlt3 := (Array.getElem?_eq_some_iff.1 hr3).1
      have hw3 : Chg S w W3 := hc2.trans hc3
      have finN : (Instr.endRound (w.heap.size + 1) none).run P W3 = .ok (.bool true) (W3.putObj (w.heap.size + 1) (.loop (rec .ready none))) := by
        have := run_endRound (P := P) none hr3
        rw [hrec] at this ⊢
        exact this
      have finS : ∀ c, (Instr.endRound (w.heap.size + 1) (some c)).run P W3 = .ok (.bool false) (W3.putObj (w.heap.size + 1) (.loop (rec .done (some c)))) := fun c => by
        have := run_endRound (P := P) (some c) hr3
        rw [hrec] at this ⊢
        exact this
      have rest : ∀ (o : Obj), Chg S w (W3.putObj (w.heap.size + 1) o) ∧ w.heap.size + 2 ≤ (W3.putObj (w.heap.size + 1) o).heap.size ∧ (W3.putObj (w.heap.size + 1) o).heap[w.heap.size + 1]? = some o ∧ (W3.putObj (w.heap.size + 1) o).heap[w.heap.size]? = some (.deferred (some [])) := fun o =>
        ⟨hw3.put _ (by omega) o, by rw [World.putObj_size]; omega, World.putObj_heap_same hlt3, by rw [World.putObj_heap_other (by omega)]; exact hd3⟩
      subst hrec
      cases e with
      | normal => exact ⟨_, _, finN, .inl ⟨rfl, hPp _ _ _ (alp W3 _) hp3, rest _⟩⟩
      | ret => exact ⟨_, _, finS .ret, .inr ⟨rfl, .ret, hPx _ _ _ (alp W3 _) hp3, rest _⟩⟩
      | exit id => exact ⟨_, _, finS (.exit id), .inr ⟨rfl, .exit id, hPx _ _ _ (alp W3 _) hp3, rest _⟩⟩
      | goto t => exact ⟨_, _, finS (.goto t), .inr ⟨rfl, .goto t, hPx _ _ _ (alp W3 _) hp3, rest _⟩⟩
      | panic ch => exact hp3.elim
      | outgrown => exact hp3.elim
    · rintro e W2 ⟨⟨v, rfl⟩, (⟨hp, hc, hs, hl, hd⟩ | ⟨c, hp, hc, hs, hl, hd⟩)⟩
      · refine ⟨none, _, by have := run_endLoop (P := P) hl (by rw [hrec]; simp); rw [hrec] at this; exact this, hdone _ (by rw [World.putObj_heap_other (by omega)]; exact hd) (hc.put _ (by omega) _) (by rw [World.putObj_size]; exact hs) (hPp _ _ _ (alp _ _) hp)⟩
      · refine ⟨some c, _, by have := run_endLoop (P := P) hl (by rw [hrec]; simp); rw [hrec] at this; exact this, hstop c _ (by rw [World.putObj_heap_other (by omega)]; exact hd) (hc.put _ (by omega) _) (by rw [World.putObj_size]; exact hs) (hPx _ _ _ (alp _ _) hp)⟩

end Go.Proofs.YtnlhokfhkohdpaaGreat

namespace Go.Proofs.YtnlhokfhkohdpaaGreat
open Go.RowKit Go.Shelf

abbrev iv (z : Int) : Value := .int .i64 z
abbrev nv (n : Nat) : Value := .int .i64 (n : Int)
abbrev Ri (w : World) (A : Option Addr) (l : List Int) : Prop := Rv w A (l.map iv)
abbrev Rn (w : World) (A : Option Addr) (k : List Nat) : Prop := Rv w A (k.map nv)
theorem ri_nats (k : List Nat) : (k.map (fun n : Nat => (n : Int))).map iv = k.map nv := by rw [List.map_map]; rfl
theorem take_succ_get {α : Type} {l : List α} {i : Nat} {z : α} (h : l[i]? = some z) : l.take (i + 1) = l.take i ++ [z] := by
  rw [List.take_add_one, h]; rfl

/-- A table as a value and as a block. -/
abbrev tb (z : Int) (A : Option Addr) (n c : Nat) : Value := .agg #[.int .i64 z, .slice A n c]
def Tb (W : World) (b : Nat) (z : Int) (A : Option Addr) (n c : Nat) : Prop := W.heap[b]? = some (.cells #[.int .i64 z, .slice A n c] 28 (0, 0))
section
variable {W W' : World} {b : Nat} {z : Int} {A : Option Addr} {n c : Nat}
theorem Tb.lt (h : Tb W b z A n c) : b < W.heap.size := (Array.getElem?_eq_some_iff.1 h).1
theorem Tb.c0 (h : Tb W b z A n c) : W.cell? ⟨b, 0, none⟩ = some (.int .i64 z) := by rw [cell_of_row W b 0 _ _ _ h]; rfl
theorem Tb.c1 (h : Tb W b z A n c) : W.cell? ⟨b, 1, none⟩ = some (.slice A n c) := by rw [cell_of_row W b 1 _ _ _ h]; rfl
theorem Tb.free (h : Tb W b z A n c) (i : Nat) : W.frozen? ⟨b, i, none⟩ = false := by
  have : W.heap[b]? = _ := h
  simp [World.frozen?, this]
theorem Tb.same (h : Tb W b z A n c) (hb : W'.heap[b]? = W.heap[b]?) : Tb W' b z A n c := hb.trans h
theorem Tb.below (h : Tb W b z A n c) (hb : Below W.heap.size W W') : Tb W' b z A n c := hb.block b h.lt |>.trans h
theorem Tb.set0 (h : Tb W b z A n c) (y : Int) : Tb (W.setCell ⟨b, 0, none⟩ (.int .i64 y)) b y A n c := by
  have hb : W.heap[b]? = _ := h
  unfold Tb
  simp [World.setCell, Array.getElem?_modify, hb]
theorem Tb.set1 (h : Tb W b z A n c) (A' : Option Addr) (n' c' : Nat) : Tb (W.setCell ⟨b, 1, none⟩ (.slice A' n' c')) b z A' n' c' := by
  have hb : W.heap[b]? = _ := h
  unfold Tb
  simp [World.setCell, Array.getElem?_modify, hb]
theorem Tb.new (W : World) (z : Int) (A : Option Addr) (n c : Nat) : Tb (W.alloc (.cells #[.int .i64 z, .slice A n c] 28)) W.heap.size z A n c := World.alloc_heap_new W _
theorem Tb.load (h : Tb W b z A n c) : (loadVar 28 ⟨b, 0, none⟩).run Tryz.prog W = .ok (tb z A n c) W := by
  have c0 := h.c0
  have c1 := h.c1
  simp [loadVar, go_sem, c0, c1]
end


theorem pow_le {lg : Nat} (h : lg ≤ 9) : 2 ^ lg ≤ 512 := by
  have := Nat.pow_le_pow_right (show 0 < 2 by decide) h
  rw [show (2 : Nat) ^ 9 = 512 by decide] at this
  exact this
theorem pow_wrap {lg s : Nat} (hs : 2 ^ lg = s) (h : s ≤ 512) : wrap64 (2 ^ lg) = (s : Int) := by
  have : (2 : Int) ^ lg = (s : Int) := by rw [← hs]; exact (Int.natCast_pow 2 lg).symm
  rw [this]
  unfold wrap64
  omega


/-- What Size returns. -/
def siz (z : Int) : Nat := if z < 0 ∨ 20 < z then 0 else 2 ^ z.toNat

end Go.Proofs.YtnlhokfhkohdpaaGreat
