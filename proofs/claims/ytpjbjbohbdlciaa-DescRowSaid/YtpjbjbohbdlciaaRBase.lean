/-
  Words for memory that the proofs over package num share: a slice of bytes that reads as a list, a cursor's block, and how both stay as they are while other memory changes. No condition; nothing of the program is named here.
-/
import Derived.Below
import Derived.Laws.OwnMore
import Derived.Laws.Rows
import Derived.OwnWalk
import Derived.Lib.Hide
import Derived.Deep.Draws
namespace Go.Proofs.Ytpjbjbohbdlciaa.Nm
open Go.RowKit

/-- The cell of one byte. -/
abbrev byt (b : UInt8) : Value := .int .u8 (b.toNat : Int)

theorem byt_lt (b : UInt8) : (b.toNat : Int) < 256 := by have := b.toNat_lt; omega

theorem addr_add_block (a : Addr) (n : Nat) : (a.add n).block = a.block := by
  unfold Addr.add
  by_cases h : n = 0
  · rw [if_pos h]
  · rw [if_neg h]

theorem addr_add_add (a : Addr) (i j : Nat) : (a.add i).add j = a.add (i + j) := by
  unfold Addr.add
  rcases Nat.eq_zero_or_pos i with rfl | hi
  · rcases Nat.eq_zero_or_pos j with rfl | hj
    · simp
    · simp
  · rcases Nat.eq_zero_or_pos j with rfl | hj
    · simp
    · simp [Nat.ne_of_gt hi, Nat.ne_of_gt hj, Nat.add_assoc]

/-- At address A (of a slice) the bytes l lie. Of an empty list nothing is asked. -/
def Rd (w : World) (A : Option Addr) (l : List UInt8) : Prop :=
  ∀ j b, l[j]? = some b → ∃ ad, A = some ad ∧ w.cell? (ad.add j) = some (byt b)

theorem Rd.nil (w : World) (A : Option Addr) : Rd w A [] := fun j b h => by simp at h

theorem Rd.keep {w w' : World} {A : Option Addr} {l : List UInt8} (h : Rd w A l) (hk : ∀ p v, w.cell? p = some v → (∃ b, v = byt b) → w'.cell? p = some v) : Rd w' A l := by
  intro j b hj
  obtain ⟨ad, e, hc⟩ := h j b hj
  exact ⟨ad, e, hk _ _ hc ⟨b, rfl⟩⟩

theorem cell_lt {w : World} {p : Addr} {v : Value} (h : w.cell? p = some v) : p.block < w.heap.size := World.block_lt_of_cell? w p h

theorem Rd.below {w w' : World} {A : Option Addr} {l : List UInt8} (h : Rd w A l) (hb : Below w.heap.size w w') : Rd w' A l :=
  h.keep fun _ _ hc _ => (hb.cell (cell_lt hc)).trans hc

theorem Rd.of_own {w : World} {base n cap : Nat} {A : Option Addr} {l : List UInt8} (h : w.ownsRow base 5 1 (.slice A n cap) n (l.map byt)) : Rd w A l := by
  intro j b hj
  have hlen := h.1
  simp only [List.length_map, Nat.mul_one] at hlen
  rcases h.2 with ⟨_, hn⟩ | ⟨g, c, cur, hv, _, hh, _, _, hs, ht⟩
  · have : l = [] := List.eq_nil_of_length_eq_zero (by omega)
    subst this
    simp at hj
  · injection hv with hA
    refine ⟨_, hA, ?_⟩
    have hjl : j < l.length := by
      rcases Nat.lt_or_ge j l.length with h1 | h1
      · exact h1
      · rw [List.getElem?_eq_none h1] at hj; cases hj
    have e : (Addr.add ⟨g, 0, none⟩ j) = ⟨g, j, none⟩ := by
      unfold Addr.add
      by_cases h0 : j = 0
      · rw [if_pos h0, h0]
      · rw [if_neg h0]; simp
    rw [e, cell_of_row w g j cur _ _ hh]
    have h2 : (cur.toList.take (n * 1))[j]? = some (byt b) := by rw [ht, List.getElem?_map, hj]; rfl
    rw [List.getElem?_take_of_lt (by omega)] at h2
    simpa using h2

/-- A cut of a slice reads as the cut of the list. -/
theorem Rd.cut {w : World} {A : Option Addr} {l : List UInt8} (h : Rd w A l) (i j : Nat) : Rd w (A.map (·.add i)) ((l.drop i).take j) := by
  intro k b hk
  have hkj : k < j := by
    rcases Nat.lt_or_ge k j with h1 | h1
    · exact h1
    · rw [List.getElem?_eq_none (by simp; omega)] at hk; cases hk
  rw [List.getElem?_take_of_lt hkj, List.getElem?_drop] at hk
  obtain ⟨ad, rfl, hc⟩ := h _ _ hk
  exact ⟨ad.add i, rfl, by rw [addr_add_add]; exact hc⟩

theorem Rd.take {w : World} {A : Option Addr} {l : List UInt8} (h : Rd w A l) (j : Nat) : Rd w A (l.take j) := by
  intro k b hk
  have hkj : k < j := by
    rcases Nat.lt_or_ge k j with h1 | h1
    · exact h1
    · rw [List.getElem?_eq_none (by simp; omega)] at hk; cases hk
  rw [List.getElem?_take_of_lt hkj] at hk
  exact h _ _ hk

theorem Rd.app_left {w : World} {A : Option Addr} {l m : List UInt8} (h : Rd w A (l ++ m)) : Rd w A l := by
  have := h.take l.length
  simpa using this

/-- The block of a cursor: the slice and the offset. -/
def CurBlk (w : World) (c : Nat) (A : Option Addr) (n cap : Nat) (k : Nat) : Prop :=
  w.heap[c]? = some (.cells #[.slice A n cap, .int .i64 (k : Int)] 53 (0, 0))

/-- Block c is a cursor over the bytes l, k of which have been read. -/
structure Cur (w : World) (c : Nat) (A : Option Addr) (cap : Nat) (l : List UInt8) (k : Nat) : Prop where
  blk : CurBlk w c A l.length cap k
  rd : Rd w A l
  le : k ≤ l.length
  cap : l.length ≤ cap
  small : l.length ≤ 300000000000000

theorem CurBlk.lt {w : World} {c : Nat} {A : Option Addr} {n cap k : Nat} (h : CurBlk w c A n cap k) : c < w.heap.size := (Array.getElem?_eq_some_iff.1 h).1
theorem CurBlk.cell0 {w : World} {c : Nat} {A : Option Addr} {n cap k : Nat} (h : CurBlk w c A n cap k) : w.cell? ⟨c, 0, none⟩ = some (.slice A n cap) := by
  rw [cell_of_row w c 0 _ _ _ h]; rfl
theorem CurBlk.cell1 {w : World} {c : Nat} {A : Option Addr} {n cap k : Nat} (h : CurBlk w c A n cap k) : w.cell? ⟨c, 1, none⟩ = some (.int .i64 (k : Int)) := by
  rw [cell_of_row w c 1 _ _ _ h]; rfl
theorem CurBlk.free {w : World} {c : Nat} {A : Option Addr} {n cap k : Nat} (h : CurBlk w c A n cap k) (i : Nat) : w.frozen? ⟨c, i, none⟩ = false := by
  unfold CurBlk at h
  simp [World.frozen?, h]
theorem CurBlk.below {w w' : World} {c : Nat} {A : Option Addr} {n cap k : Nat} (h : CurBlk w c A n cap k) (hb : Below w.heap.size w w') : CurBlk w' c A n cap k :=
  (hb.block c h.lt).trans h
theorem CurBlk.grown {w w' : World} {row : Option Nat} {c : Nat} {A : Option Addr} {n cap k : Nat} (h : CurBlk w c A n cap k) (hg : w.grownBy w' row) (hne : some c ≠ row) : CurBlk w' c A n cap k :=
  (hg.block c h.lt hne).trans h
theorem CurBlk.set {w : World} {c : Nat} {A : Option Addr} {n cap k : Nat} (h : CurBlk w c A n cap k) (k' : Nat) : CurBlk (w.setCell ⟨c, 1, none⟩ (.int .i64 (k' : Int))) c A n cap k' := by
  unfold CurBlk at h ⊢
  simp [World.setCell, Array.getElem?_modify, h]
theorem grown_setCell (w : World) (c i : Nat) (v : Value) : w.grownBy (w.setCell ⟨c, i, none⟩ v) (some c) :=
  ⟨rfl, rfl, rfl, by simp [World.setCell], fun k _ hne => Below.heap_setCell w ⟨c, i, none⟩ v k (fun e => hne (by rw [e]))⟩

/-- Bytes never lie in a cursor's block. -/
theorem Rd.grown_cur {w w' : World} {B : Option Addr} {m : List UInt8} {c : Nat} {A : Option Addr} {n cap k : Nat} (h : Rd w B m) (hc : CurBlk w c A n cap k) (hg : w.grownBy w' (some c)) : Rd w' B m := by
  refine h.keep fun p v hp ⟨b, hv⟩ => ?_
  subst hv
  have hne : p.block ≠ c := by
    intro e
    have h1 : w.heap[p.block]? = some (.cells #[.slice A n cap, .int .i64 (k : Int)] 53 (0, 0)) := by rw [e]; exact hc
    simp only [World.cell?, h1] at hp
    have hk : ∀ o : Nat, (#[Value.slice A n cap, Value.int .i64 (k : Int)] : Array Value)[o]? ≠ some (byt b) := by
      intro o
      match o with
      | 0 => simp
      | 1 => simp
      | o + 2 => simp
    split at hp
    · cases hp
    · exact hk _ hp
  exact hg.cell hp (by simpa using hne)

theorem Cur.grown_self {w w' : World} {c : Nat} {A : Option Addr} {cap : Nat} {l : List UInt8} {k k' : Nat} (h : Cur w c A cap l k) (hg : w.grownBy w' (some c)) (hb : CurBlk w' c A l.length cap k') (hk : k' ≤ l.length) : Cur w' c A cap l k' :=
  ⟨hb, h.rd.grown_cur h.blk hg, hk, h.cap, h.small⟩
theorem Cur.below {w w' : World} {c : Nat} {A : Option Addr} {cap : Nat} {l : List UInt8} {k : Nat} (h : Cur w c A cap l k) (hb : Below w.heap.size w w') : Cur w' c A cap l k :=
  ⟨h.blk.below hb, h.rd.below hb, h.le, h.cap, h.small⟩

theorem Cur.drewN {w : World} {c : Nat} {A : Option Addr} {cap : Nat} {l : List UInt8} {k : Nat} (h : Cur w c A cap l k) (d : Nat) : Cur (w.drewN d) c A cap l k := ⟨h.blk, h.rd, h.le, h.cap, h.small⟩
theorem grown_drewN {a w : World} {row : Option Nat} (h : a.grownBy w row) (d : Nat) : a.grownBy (w.drewN d) row := ⟨h.os, h.tape, h.output, h.size, h.block⟩
theorem below_drewN' {B : Nat} {a w : World} (h : Below B a w) (d : Nat) : Below B a (w.drewN d) := ⟨h.os, h.tape, h.output, h.size, h.block⟩
theorem Rd.drewN {w : World} {A : Option Addr} {l : List UInt8} (h : Rd w A l) (d : Nat) : Rd (w.drewN d) A l := h
theorem grown_of_below {w w' : World} (h : Below w.heap.size w w') (row : Option Nat) : w.grownBy w' row := ⟨h.os, h.tape, h.output, h.size, fun k hk _ => h.block k hk⟩
theorem grown_trans {a b c : World} {row : Option Nat} (h : a.grownBy b row) (k : b.grownBy c row) : a.grownBy c row :=
  ⟨k.os.trans h.os, k.tape.trans h.tape, k.output.trans h.output, Nat.le_trans h.size k.size, fun i hi hne => (k.block i (Nat.lt_of_lt_of_le hi h.size) hne).trans (h.block i hi hne)⟩
theorem below_of_grown {w w' : World} (h : w.grownBy w' none) : Below w.heap.size w w' := ⟨h.os, h.tape, h.output, h.size, fun k hk => h.block k hk (by simp)⟩
theorem below_trans' {a b c : World} (h : Below a.heap.size a b) (k : Below b.heap.size b c) : Below a.heap.size a c := h.trans (k.mono h.size)

/-- What one guarded read leaves: the value and the error of the inner step (which began in W and ended in W1), the cursor put back after an error, and the inner step's new memory as that step left it. -/
def ReadPost (w : World) (c : Nat) (A : Option Addr) (cap : Nat) (l : List UInt8) (k k1 : Nat) (Ok : World → Value → Int → World → Prop) (e : Ending) (w' : World) : Prop :=
  ∃ v err W W1, e = .returned (.tuple #[v, .int .i64 err]) ∧ Cur w' c A cap l (if err = 0 then k1 else k) ∧ w.grownBy w' (some c) ∧ Below w.heap.size w W ∧ W.heap.size = w.heap.size + 3 ∧ Ok W v err W1 ∧
    (∀ j, W.heap.size ≤ j → w'.heap[j]? = W1.heap[j]?) ∧ w'.heap.size = W1.heap.size
/-- What the inner step of a read leaves. -/
def TakePost (W : World) (c : Nat) (A : Option Addr) (cap : Nat) (l : List UInt8) (k1 : Nat) (Ok : World → Value → Int → World → Prop) (e : Ending) (W' : World) : Prop :=
  ∃ v err, e = .returned (.tuple #[v, .int .i64 err]) ∧ (∃ k', Cur W' c A cap l k' ∧ (err = 0 → k' = k1)) ∧ W.grownBy W' (some c) ∧ Ok W v err W'

end Go.Proofs.Ytpjbjbohbdlciaa.Nm
