/-
  Bit streams as lists of booleans, their numbers and their bytes, and the facts about them that the walks and the laws use. Plain mathematics: nothing of the program is named. No condition beyond those that each theorem states.
  Words for memory that the proofs over package bitout share: values in a row, a Writer's block, what may have changed; append onto a row of the call's own. No condition beyond those that each theorem states.
  What the methods of the bits that wait do: add, filled, drain, padded, marked. Conditions: fewer than 8 bits wait.
  What Put does: it appends the low n bits of v to the stream, or returns an error and changes nothing. Condition: fewer than 2^40 bits.
  What Len, Bytes and Close do: the number of bits, the bytes of the stream and of the closed stream in new memory. Condition: fewer than 2^40 bits.
  Bits cut out of some bytes, and their numbers: plain mathematics. No condition beyond those that each theorem states.
  What the closure in value does: it takes the bits of one byte. Conditions: the numbers are in their ranges.
  What the readers' value does: the number of n bits from a position on. Conditions: the bits are there, n is at most 64, fewer than 2^40 bytes.
-/
import Derived.Below
import Derived.Laws.OwnMore
import Derived.Laws.Rows
import Derived.OwnWalk
import Derived.Lib.Hide
import Derived.Deep.Draws
import Derived.Maps.AppendAt
import Derived.Test.YtnlhokfhkohdpaaGreatProg
import Derived.WalkKit
import Derived.WalkSpells
import Derived.Deep.QuietTactic
import Derived.BigQuiet
import Derived.RegionTactic
import Derived.ChangeAlike
import Derived.Laws.BitsAllLaws
import Derived.Deep.RegionLaw
import Derived.Deep.AppendLies
import Derived.OneCell
namespace Go.Proofs.YtnlhokfhkohdpaaGreat.Bt


/-- The low n bits of v, the lowest first. -/
def bitsOf : Nat → Nat → List Bool
  | _, 0 => []
  | v, n + 1 => decide (v % 2 = 1) :: bitsOf (v / 2) n

/-- The number with these bits, the lowest first. -/
def val : List Bool → Nat
  | [] => 0
  | b :: l => (if b then 1 else 0) + 2 * val l

/-- n bytes of V, the lowest first. -/
def byts : Nat → Nat → List UInt8
  | 0, _ => []
  | n + 1, V => UInt8.ofNat (V % 256) :: byts n (V / 256)

/-- The number of some bytes. -/
def num : List UInt8 → Nat
  | [] => 0
  | b :: F => b.toNat + 256 * num F

/-- The bytes of a stream, padded with zeros. -/
def pack (l : List Bool) : List UInt8 := byts ((l.length + 7) / 8) (val l)

/-- The bytes of a closed stream. -/
def closed (l : List Bool) : List UInt8 := pack (l ++ [true])

theorem bitsOf_len : ∀ (n v : Nat), (bitsOf v n).length = n
  | 0, _ => rfl
  | n + 1, v => by rw [bitsOf, List.length_cons, bitsOf_len n]

theorem bitsOf_succ (n v : Nat) : bitsOf v (n + 1) = bitsOf v n ++ [decide (v / 2 ^ n % 2 = 1)] := by
  induction n generalizing v with
  | zero => simp [bitsOf]
  | succ n ih =>
    rw [bitsOf, ih, bitsOf, List.cons_append, Nat.div_div_eq_div_mul, Nat.pow_succ, Nat.mul_comm 2]

theorem bitsOf_add (a b v : Nat) : bitsOf v (a + b) = bitsOf v a ++ bitsOf (v / 2 ^ a) b := by
  induction a generalizing v with
  | zero => simp [bitsOf]
  | succ a ih =>
    rw [show a + 1 + b = (a + b) + 1 by omega, bitsOf, ih, bitsOf, List.cons_append, Nat.div_div_eq_div_mul, Nat.pow_succ, Nat.mul_comm 2]

theorem bitsOf_low (a : Nat) : ∀ v x : Nat, bitsOf (v + 2 ^ a * x) a = bitsOf v a := by
  induction a with
  | zero => intro v x; rfl
  | succ a ih =>
    intro v x
    rw [bitsOf, bitsOf]
    have e1 : (v + 2 ^ (a + 1) * x) % 2 = v % 2 := by
      rw [Nat.pow_succ, Nat.mul_assoc, Nat.mul_left_comm, Nat.add_mul_mod_self_left]
    have e2 : (v + 2 ^ (a + 1) * x) / 2 = v / 2 + 2 ^ a * x := by
      rw [Nat.pow_succ, Nat.mul_assoc, Nat.mul_left_comm, Nat.add_mul_div_left _ _ (by decide)]
    rw [e1, e2, ih]

theorem bitsOf_mod (a v : Nat) : bitsOf (v % 2 ^ a) a = bitsOf v a := by
  have := bitsOf_low a (v % 2 ^ a) (v / 2 ^ a)
  rw [Nat.mod_add_div] at this
  exact this.symm

/-- The bits of p, c of them, and behind them a bits of x. -/
theorem bitsOf_join {p c : Nat} (x a : Nat) (hp : p < 2 ^ c) : bitsOf (p + 2 ^ c * x) (c + a) = bitsOf p c ++ bitsOf x a := by
  rw [bitsOf_add, bitsOf_low, Nat.add_mul_div_left _ _ (Nat.two_pow_pos c), Nat.div_eq_of_lt hp, Nat.zero_add]

theorem val_bitsOf (n : Nat) : ∀ v, val (bitsOf v n) = v % 2 ^ n := by
  induction n with
  | zero => intro v; simp [bitsOf, val, Nat.mod_one]
  | succ n ih =>
    intro v
    rw [bitsOf, val, ih, Nat.pow_succ, Nat.mul_comm (2 ^ n) 2, Nat.mod_mul]
    by_cases h : v % 2 = 1
    · simp [h]
    · have : v % 2 = 0 := by omega
      simp [this]

theorem val_app : ∀ a b : List Bool, val (a ++ b) = val a + 2 ^ a.length * val b
  | [], b => by simp [val]
  | x :: a, b => by
    rw [List.cons_append, val, val, val_app a b, List.length_cons, Nat.pow_succ, Nat.mul_add, Nat.mul_comm (2 ^ a.length) 2, Nat.mul_assoc, Nat.add_assoc]

theorem val_lt : ∀ l : List Bool, val l < 2 ^ l.length
  | [] => by simp [val]
  | x :: l => by
    have := val_lt l
    rw [val, List.length_cons, Nat.pow_succ]
    split <;> omega

theorem bitsOf_val : ∀ l : List Bool, bitsOf (val l) l.length = l
  | [] => rfl
  | x :: l => by
    rw [List.length_cons, bitsOf, val]
    have e2 : ((if x then 1 else 0) + 2 * val l) / 2 = val l := by split <;> omega
    rw [e2, bitsOf_val l]
    congr 1
    cases x <;> simp <;> omega

theorem val_inj {l m : List Bool} (hl : l.length = m.length) (h : val l = val m) : l = m := by
  rw [← bitsOf_val l, ← bitsOf_val m, hl, h]

theorem byts_len : ∀ n V, (byts n V).length = n
  | 0, _ => rfl
  | n + 1, V => by rw [byts, List.length_cons, byts_len n]

theorem num_byts (n : Nat) : ∀ V, num (byts n V) = V % 256 ^ n := by
  induction n with
  | zero => intro V; simp [byts, num, Nat.mod_one]
  | succ n ih =>
    intro V
    rw [byts, num, ih, Nat.pow_succ, Nat.mul_comm (256 ^ n) 256, Nat.mod_mul, UInt8.toNat_ofNat']
    rw [Nat.mod_mod_of_dvd _ (by decide)]

theorem byts_num : ∀ (F : List UInt8) (p : Nat), byts (F.length + 1) (num F + 256 ^ F.length * p) = F ++ [UInt8.ofNat (p % 256)]
  | [], p => by simp [byts, num]
  | b :: F, p => by
    have hb := b.toNat_lt
    rw [List.length_cons, byts, num]
    have e0 : b.toNat + 256 * num F + 256 ^ (F.length + 1) * p = b.toNat + 256 * (num F + 256 ^ F.length * p) := by
      rw [Nat.pow_succ, Nat.mul_add, Nat.mul_comm (256 ^ F.length) 256, Nat.mul_assoc, Nat.add_assoc]
    rw [e0, Nat.add_mul_mod_self_left, Nat.add_mul_div_left _ _ (by decide), Nat.div_eq_of_lt (show b.toNat < 256 from hb), Nat.zero_add, byts_num F p, Nat.mod_eq_of_lt (show b.toNat < 256 from hb)]
    simp

theorem byts_num0 : ∀ F : List UInt8, byts F.length (num F) = F
  | [] => rfl
  | b :: F => by
    have hb := b.toNat_lt
    rw [List.length_cons, byts, num, Nat.add_mul_mod_self_left, Nat.add_mul_div_left _ _ (by decide), Nat.div_eq_of_lt (show b.toNat < 256 from hb), Nat.zero_add, byts_num0 F, Nat.mod_eq_of_lt (show b.toNat < 256 from hb)]
    simp

/-- The bits of some bytes. -/
def unp : List UInt8 → List Bool
  | [] => []
  | b :: F => bitsOf b.toNat 8 ++ unp F

theorem unp_len : ∀ F : List UInt8, (unp F).length = 8 * F.length
  | [] => rfl
  | b :: F => by rw [unp, List.length_append, bitsOf_len, unp_len F, List.length_cons]; omega

theorem unp_app : ∀ F G : List UInt8, unp (F ++ G) = unp F ++ unp G
  | [], G => rfl
  | b :: F, G => by rw [List.cons_append, unp, unp, unp_app F G, List.append_assoc]

theorem val_unp : ∀ F : List UInt8, val (unp F) = num F
  | [] => rfl
  | b :: F => by
    have hb := b.toNat_lt
    rw [unp, val_app, val_bitsOf, bitsOf_len, val_unp F, num, Nat.mod_eq_of_lt (show b.toNat < 2 ^ 8 from hb)]

/-- The stream l as the bytes F and c bits that wait, with the number p. -/
structure Str (F : List UInt8) (p c : Nat) (l : List Bool) : Prop where
  eq : l = unp F ++ bitsOf p c
  lt : p < 2 ^ c

theorem Str.nil : Str [] 0 0 [] := ⟨rfl, by decide⟩

theorem Str.len {F : List UInt8} {p c : Nat} {l : List Bool} (h : Str F p c l) : l.length = 8 * F.length + c := by
  rw [h.eq, List.length_append, unp_len, bitsOf_len]

theorem Str.add {F : List UInt8} {p c : Nat} {l : List Bool} (h : Str F p c l) (v a : Nat) : Str F (p + 2 ^ c * (v % 2 ^ a)) (c + a) (l ++ bitsOf v a) := by
  refine ⟨?_, ?_⟩
  · rw [bitsOf_join _ _ h.lt, bitsOf_mod, h.eq, List.append_assoc]
  · have h1 : v % 2 ^ a + 1 ≤ 2 ^ a := Nat.mod_lt _ (Nat.two_pow_pos a)
    have h2 : 2 ^ c * (v % 2 ^ a + 1) ≤ 2 ^ c * 2 ^ a := Nat.mul_le_mul_left _ h1
    have h3 := h.lt
    rw [Nat.mul_add, Nat.mul_one] at h2
    rw [Nat.pow_add]
    omega

theorem Str.full {F : List UInt8} {p : Nat} {l : List Bool} (h : Str F p 8 l) : Str (F ++ [UInt8.ofNat p]) 0 0 l := by
  refine ⟨?_, by decide⟩
  have hp := h.lt
  rw [h.eq, unp_app, unp, unp, UInt8.toNat_ofNat', Nat.mod_eq_of_lt hp]
  simp [bitsOf]

/-- What waits, as bytes. -/
def tl (p c : Nat) : List UInt8 := if c = 0 then [] else [UInt8.ofNat p]

theorem Str.pack {F : List UInt8} {p c : Nat} {l : List Bool} (h : Str F p c l) (hc : c < 8) : pack l = F ++ tl p c := by
  have hv : val l = num F + 256 ^ F.length * p := by
    have hp := h.lt
    rw [h.eq, val_app, val_unp, val_bitsOf, unp_len, Nat.pow_mul, Nat.mod_eq_of_lt hp]
  unfold Proofs.YtnlhokfhkohdpaaGreat.Bt.pack
  rw [h.len, hv, tl]
  by_cases h0 : c = 0
  · subst h0
    have hp : p = 0 := by have := h.lt; simpa using this
    subst hp
    rw [if_pos rfl, show (8 * F.length + 0 + 7) / 8 = F.length by omega, Nat.mul_zero, Nat.add_zero, byts_num0, List.append_nil]
  · have hp : p < 256 := Nat.lt_of_lt_of_le h.lt (Nat.pow_le_pow_right (by decide) (show c ≤ 8 by omega))
    rw [if_neg h0, show (8 * F.length + c + 7) / 8 = F.length + 1 by omega, byts_num, Nat.mod_eq_of_lt hp]

theorem Str.closed {F : List UInt8} {p c : Nat} {l : List Bool} (h : Str F p c l) (hc : c < 8) : closed l = F ++ [UInt8.ofNat (p + 2 ^ c)] := by
  have h1 := h.add 1 1
  have e : bitsOf 1 1 = [true] := by decide
  rw [e] at h1
  simp only [Nat.reducePow, Nat.reduceMod, Nat.mul_one] at h1
  unfold Proofs.YtnlhokfhkohdpaaGreat.Bt.closed
  by_cases h8 : c = 7
  · subst h8
    have := h1.full
    rw [this.pack (by decide), tl]
    simp
  · rw [h1.pack (by omega), tl, if_neg (by omega)]

theorem pack_len (l : List Bool) : (pack l).length = (l.length + 7) / 8 := byts_len _ _

theorem num_pack (l : List Bool) : num (pack l) = val l := by
  rw [pack, num_byts, Nat.mod_eq_of_lt]
  have := val_lt l
  rw [show (256 : Nat) = 2 ^ 8 by decide, ← Nat.pow_mul]
  exact Nat.lt_of_lt_of_le this (Nat.pow_le_pow_right (by decide) (by omega))

theorem closed_inj {l m : List Bool} (h : closed l = closed m) : l = m := by
  have h1 : val (l ++ [true]) = val (m ++ [true]) := by rw [← num_pack, ← num_pack]; exact congrArg num h
  rw [val_app, val_app] at h1
  simp only [val, if_true, Nat.mul_zero, Nat.add_zero, Nat.mul_one] at h1
  have a1 := val_lt l
  have a2 := val_lt m
  have hl : l.length = m.length := by
    rcases Nat.lt_trichotomy l.length m.length with hlt | he | hlt
    · have : 2 ^ (l.length + 1) ≤ 2 ^ m.length := Nat.pow_le_pow_right (by decide) hlt
      rw [Nat.pow_succ] at this
      omega
    · exact he
    · have : 2 ^ (m.length + 1) ≤ 2 ^ l.length := Nat.pow_le_pow_right (by decide) hlt
      rw [Nat.pow_succ] at this
      omega
  refine val_inj hl ?_
  rw [hl] at h1
  omega

/-- A value fits into n bits. -/
def may (v : Nat) (n : Int) : Bool := decide (0 ≤ n) && decide (n ≤ 64) && decide (v < 2 ^ n.toNat)

/-- The bits of the valid calls. -/
def allB : List (Nat × Int) → List Bool
  | [] => []
  | (v, n) :: l => (if may v n then bitsOf v n.toNat else []) ++ allB l

theorem allB_app : ∀ a b, allB (a ++ b) = allB a ++ allB b
  | [], b => rfl
  | (v, n) :: a, b => by rw [List.cons_append, allB, allB, allB_app a b, List.append_assoc]

theorem allB_len : ∀ a, (allB a).length ≤ 64 * a.length
  | [] => by simp [allB]
  | (v, n) :: a => by
    have := allB_len a
    rw [allB, List.length_append, List.length_cons]
    split
    · rename_i h
      simp [may] at h
      rw [bitsOf_len]; omega
    · simp; omega

theorem allB_one (v : Nat) (n : Int) : allB [(v, n)] = if may v n then bitsOf v n.toNat else [] := by simp [allB]

theorem allB_take {ls : List (Nat × Int)} {j : Nat} {v : Nat} {n : Int} (h : ls[j]? = some (v, n)) : allB (ls.take (j + 1)) = allB (ls.take j) ++ (if may v n then bitsOf v n.toNat else []) := by
  obtain ⟨hj, e⟩ := List.getElem?_eq_some_iff.1 h
  rw [List.take_succ_eq_append_getElem hj, allB_app, e, allB_one]

end Go.Proofs.YtnlhokfhkohdpaaGreat.Bt

namespace Go.Proofs.YtnlhokfhkohdpaaGreat.Bt
open Go.RowKit

/-- The cell of one byte. -/
abbrev byt (b : UInt8) : Value := .int .u8 (b.toNat : Int)

theorem addr_add_block (a : Addr) (n : Nat) : (a.add n).block = a.block := by
  unfold Addr.add
  by_cases h : n = 0
  · rw [if_pos h]
  · rw [if_neg h]

theorem addr_add_add (a : Addr) (i j : Nat) : (a.add i).add j = a.add (i + j) := by
  unfold Addr.add
  rcases Nat.eq_zero_or_pos i with rfl | hi
  · rcases Nat.eq_zero_or_pos j with rfl | hj
    · simp
    · simp
  · rcases Nat.eq_zero_or_pos j with rfl | hj
    · simp
    · simp [Nat.ne_of_gt hi, Nat.ne_of_gt hj, Nat.add_assoc]

theorem cell_lt {w : World} {p : Addr} {v : Value} (h : w.cell? p = some v) : p.block < w.heap.size := World.block_lt_of_cell? w p h

/-- At address A (of a slice) the values xs lie. Of an empty list nothing is asked. -/
def Rv (w : World) (A : Option Addr) (xs : List Value) : Prop :=
  ∀ j v, xs[j]? = some v → ∃ ad, A = some ad ∧ w.cell? (ad.add j) = some v
abbrev Rd (w : World) (A : Option Addr) (l : List UInt8) : Prop := Rv w A (l.map byt)
abbrev Rb (w : World) (A : Option Addr) (l : List Bool) : Prop := Rv w A (l.map Value.bool)

theorem Rv.nil (w : World) (A : Option Addr) : Rv w A [] := fun j b h => by simp at h

theorem Rv.same {w w' : World} {A : Option Addr} {xs : List Value} (h : Rv w A xs) (hk : ∀ ad, A = some ad → w'.heap[ad.block]? = w.heap[ad.block]?) : Rv w' A xs := by
  intro j v hj
  obtain ⟨ad, e, hc⟩ := h j v hj
  refine ⟨ad, e, ?_⟩
  rw [← hc]
  exact World.cell?_of_block (by rw [addr_add_block]; exact hk ad e)

theorem Rv.below {w w' : World} {A : Option Addr} {xs : List Value} (h : Rv w A xs) (hb : Below w.heap.size w w') : Rv w' A xs := by
  intro j v hj
  obtain ⟨ad, e, hc⟩ := h j v hj
  exact ⟨ad, e, (hb.cell (cell_lt hc)).trans hc⟩

theorem Rv.of_own {w : World} {base n cap : Nat} {e : TypeId} {A : Option Addr} {xs : List Value} (h : w.ownsRow base e 1 (.slice A n cap) n xs) : Rv w A xs := by
  intro j b hj
  have hlen := h.1
  simp only [Nat.mul_one] at hlen
  rcases h.2 with ⟨_, hn⟩ | ⟨g, c, cur, hv, _, hh, _, _, hs, ht⟩
  · have : xs = [] := List.eq_nil_of_length_eq_zero (by omega)
    subst this
    simp at hj
  · injection hv with hA
    refine ⟨_, hA, ?_⟩
    have hjl : j < xs.length := by
      rcases Nat.lt_or_ge j xs.length with h1 | h1
      · exact h1
      · rw [List.getElem?_eq_none h1] at hj; cases hj
    have e : (Addr.add ⟨g, 0, none⟩ j) = ⟨g, j, none⟩ := by
      unfold Addr.add
      by_cases h0 : j = 0
      · rw [if_pos h0, h0]
      · rw [if_neg h0]; simp
    rw [e, cell_of_row w g j cur _ _ hh]
    have h2 : (cur.toList.take (n * 1))[j]? = some b := by rw [ht, hj]
    rw [List.getElem?_take_of_lt (by omega)] at h2
    simpa using h2

theorem Rv.some_of {w : World} {A : Option Addr} {xs : List Value} (h : Rv w A xs) (hl : xs ≠ []) : ∃ ad, A = some ad := by
  rcases xs with _ | ⟨b, l⟩
  · exact absurd rfl hl
  · obtain ⟨ad, e, _⟩ := h 0 b rfl
    exact ⟨ad, e⟩

theorem Rv.cells {w : World} {ad : Addr} {xs : List Value} (h : Rv w (some ad) xs) : ∀ j u, xs[j]? = some u → w.cell? (ad.add j) = some u := by
  intro j u hj
  obtain ⟨ad', e, hc⟩ := h j u hj
  cases e
  exact hc

theorem Rv.cut {w : World} {A : Option Addr} {xs : List Value} (h : Rv w A xs) (i j : Nat) : Rv w (A.map (·.add i)) ((xs.drop i).take j) := by
  intro k b hk
  have hkj : k < j := by
    rcases Nat.lt_or_ge k j with h1 | h1
    · exact h1
    · rw [List.getElem?_eq_none (by simp; omega)] at hk; cases hk
  rw [List.getElem?_take_of_lt hkj, List.getElem?_drop] at hk
  obtain ⟨ad, rfl, hc⟩ := h _ _ hk
  exact ⟨ad.add i, rfl, by rw [addr_add_add]; exact hc⟩

theorem Rv.take {w : World} {A : Option Addr} {xs : List Value} (h : Rv w A xs) (j : Nat) : Rv w A (xs.take j) := by
  intro k b hk
  have hkj : k < j := by
    rcases Nat.lt_or_ge k j with h1 | h1
    · exact h1
    · rw [List.getElem?_eq_none (by simp; omega)] at hk; cases hk
  rw [List.getElem?_take_of_lt hkj] at hk
  exact h _ _ hk

theorem byt_one (l : List UInt8) : ∀ u ∈ l.map byt, u.oneCell' = true := by
  intro v hv
  obtain ⟨b, _, rfl⟩ := List.mem_map.1 hv
  rfl
theorem bool_one (l : List Bool) : ∀ u ∈ l.map Value.bool, u.oneCell' = true := by
  intro v hv
  obtain ⟨b, _, rfl⟩ := List.mem_map.1 hv
  rfl

theorem grown_of_below {w w' : World} (h : Below w.heap.size w w') (row : Option Nat) : w.grownBy w' row := ⟨h.os, h.tape, h.output, h.size, fun k hk _ => h.block k hk⟩
theorem below_on {B : Nat} {w a b : World} (h : Below B w a) (hB : B ≤ w.heap.size) (k : Below a.heap.size a b) : Below B w b := h.trans (k.mono (Nat.le_trans hB h.size))
theorem below_drewN' {B : Nat} {a w : World} (h : Below B a w) (d : Nat) : Below B a (w.drewN d) := ⟨h.os, h.tape, h.output, h.size, h.block⟩

theorem own_lt {w : World} {base : Nat} {e : TypeId} {v : Value} {n : Nat} {xs : List Value} (h : w.ownsRow base e 1 v n xs) {g : Nat} (hg : v.ownBlock = some g) : g < w.heap.size := by
  rcases h.2 with ⟨rfl, _⟩ | ⟨g', c, cur, rfl, _, hh, _⟩
  · cases hg
  · injection hg with hg
    subst hg
    exact (Array.getElem?_eq_some_iff.1 hh).1

theorem own_same {w w' : World} {base : Nat} {e : TypeId} {v : Value} {n : Nat} {xs : List Value} (h : w.ownsRow base e 1 v n xs) (hb : ∀ g, v.ownBlock = some g → w'.heap[g]? = w.heap[g]?) : w'.ownsRow base e 1 v n xs := by
  refine ⟨h.1, ?_⟩
  rcases h.2 with h1 | ⟨g, c, cur, rfl, h2, hh, h3⟩
  · exact .inl h1
  · exact .inr ⟨g, c, cur, rfl, h2, (hb g rfl).trans hh, h3⟩

theorem own_below {w w' : World} {base : Nat} {e : TypeId} {v : Value} {n : Nat} {xs : List Value} (h : w.ownsRow base e 1 v n xs) (hb : Below w.heap.size w w') : w'.ownsRow base e 1 v n xs :=
  own_same h fun _ hg => hb.block _ (own_lt h hg)

theorem own_form {w : World} {base : Nat} {e : TypeId} {v : Value} {n : Nat} {xs : List Value} (h : w.ownsRow base e 1 v n xs) : ∃ A c, v = .slice A n c ∧ n ≤ c := by
  rcases h.2 with ⟨rfl, hn⟩ | ⟨g, c, cur, rfl, _, _, hc, _⟩
  · exact ⟨none, 0, by rw [hn], by omega⟩
  · exact ⟨_, _, rfl, hc⟩

theorem own_zero {w : World} {base : Nat} {e : TypeId} {v : Value} {n : Nat} {xs : List Value} (h : w.ownsRow base e 1 v n xs) : w.ownsRow 0 e 1 v n xs := by
  refine ⟨h.1, ?_⟩
  rcases h.2 with h1 | ⟨g, c, cur, rfl, h2, h3⟩
  · exact .inl h1
  · exact .inr ⟨g, c, cur, rfl, Nat.zero_le _, h3⟩

theorem byte_info : (Tryz.prog.info? 5).map (fun i => (i.zero, i.size, i.bytes)) = some (some (.int .u8 0), 1, 1) := by kernel_rfl
theorem bool_info : (Tryz.prog.info? 4).map (fun i => (i.zero, i.size, i.bytes)) = some (some (.bool false), 1, 1) := by kernel_rfl

/-- append(x, y...) for a row x of the call's own and any values y, nil or not: where the new slice lies is said, too. -/
theorem run_append_vals {t e : TypeId} (ht : Tryz.prog.underlying t = some (.slice e)) {z : Value} (hinfo : (Tryz.prog.info? e).map (fun i => (i.zero, i.size, i.bytes)) = some (some z, 1, 1)) (hzs : z.cells.size = 1)
    (w : World) (ty : TypeId) (base : Nat) (v : Value) (n : Nat) (xs : List Value) (hown : w.ownsRow base e 1 v n xs) (A : Option Addr) (ys : List Value) (h1 : ∀ u ∈ ys, u.oneCell' = true) (c : Nat) (hR : Rv w A ys)
    (hb : n + ys.length ≤ 140737488355328) (hbase : base ≤ w.heap.size) :
    ∃ v' w', (Builtin.append_ #[t, t] ty #[v, .slice A ys.length c]).run Tryz.prog w = .ok v' w' ∧ w'.ownsRow base e 1 v' (n + ys.length) (xs ++ ys) ∧ w.grownBy w' v.ownBlock ∧ (v'.ownBlock = v.ownBlock ∨ v'.ownBlock = some w.heap.size) := by
  obtain ⟨i0, hi, hz0, hz1, hz2⟩ := info_parts hinfo
  cases A with
  | none =>
    have hl : ys = [] := by
      rcases ys with _ | ⟨b, l⟩
      · rfl
      · obtain ⟨ad, e, _⟩ := hR 0 b rfl
        cases e
    subst hl
    refine ⟨v, w, ?_, by simpa using hown, World.grownBy.refl _ _, .inl rfl⟩
    rcases hown.2 with ⟨rfl, rfl⟩ | ⟨g, cap, cur, rfl, _, _, hnc, _⟩
    · simp [Builtin.append_, run_underlying ht, sizeOf, typeInfo, hi, Builtin.lenOf, Builtin.firstCells]
    · simp [Builtin.append_, run_underlying ht, sizeOf, typeInfo, hi, Builtin.lenOf, Builtin.firstCells, hnc, storeCells]
  | some ad =>
    obtain ⟨v', w', h1, h2, h3, _, h5⟩ := run_append_own_at (P := Tryz.prog) w base t ty e i0 z 1 1 ht hi hz0 hz1 hz2 hzs (by decide) v n xs hown ad ys.length c ys (by simp) hR.cells h1 (by unfold maxLen; omega) (by omega) hbase
    exact ⟨v', w', h1, h2, h3, h5⟩

/-- The same, as a step of a walk. -/
theorem wpList_append_vals {t e : TypeId} (ht : Tryz.prog.underlying t = some (.slice e)) {z : Value} (hinfo : (Tryz.prog.info? e).map (fun i => (i.zero, i.size, i.bytes)) = some (some z, 1, 1)) (hzs : z.cells.size = 1)
    {w : World} {ops : Array Oper} {rest : List Oper} {o : Oper} {a : Act} {Q : Exit → Act → World → Prop} (hw : Region.wanted o (yielded ops a.tmps) = true) (s x : Operand)
    (ho : o.op = .call { callee := .builtin .append, args := #[s, x], argTypes := #[t, t] })
    (base : Nat) (v : Value) (n : Nat) (xs : List Value) (hs : a.eval s = v) (hown : w.ownsRow base e 1 v n xs) (A : Option Addr) (ys : List Value) (h1 : ∀ u ∈ ys, u.oneCell' = true) (m c : Nat) (hm : ys.length = m) (hx : a.eval x = .slice A m c) (hR : Rv w A ys)
    (hb : n + m ≤ 140737488355328) (hbase : base ≤ w.heap.size)
    (h : ∀ v' w', w'.ownsRow base e 1 v' (n + m) (xs ++ ys) → w.grownBy w' v.ownBlock → (v'.ownBlock = v.ownBlock ∨ v'.ownBlock = some w.heap.size) → wpList Tryz.prog ops Q rest (a.put o.dst v') w') : wpList Tryz.prog ops Q (o :: rest) a w := by
  subst hm
  refine wpList_step fun K hK => ?_
  rw [if_pos hw]
  obtain ⟨v', w', hrun, h2, h3, h4⟩ := run_append_vals ht hinfo hzs w o.type base v n xs hown A ys h1 c hR hb hbase
  unfold Oper.wp
  simp [execOp, ho, resolve, invoke, builtin, hs, hx, hrun, Result.andThen]
  exact hK _ _ (h v' w' h2 h3 h4)

/-- The block of a Writer: the bits that wait, their number, the whole bytes. -/
def WrBlk (w : World) (x p c : Nat) (v : Value) : Prop :=
  w.heap[x]? = some (.cells #[.int .u8 (p : Int), .int .i64 (c : Int), v] 74 (0, 0))

section
variable {w w' : World} {x p c : Nat} {v : Value}
theorem WrBlk.lt (h : WrBlk w x p c v) : x < w.heap.size := (Array.getElem?_eq_some_iff.1 h).1
theorem WrBlk.cell0 (h : WrBlk w x p c v) : w.cell? ⟨x, 0, none⟩ = some (.int .u8 (p : Int)) := by rw [cell_of_row w x 0 _ _ _ h]; rfl
theorem WrBlk.cell1 (h : WrBlk w x p c v) : w.cell? ⟨x, 1, none⟩ = some (.int .i64 (c : Int)) := by rw [cell_of_row w x 1 _ _ _ h]; rfl
theorem WrBlk.cell2 (h : WrBlk w x p c v) : w.cell? ⟨x, 2, none⟩ = some v := by rw [cell_of_row w x 2 _ _ _ h]; rfl
theorem WrBlk.free (h : WrBlk w x p c v) (i : Nat) : w.frozen? ⟨x, i, none⟩ = false := by
  unfold WrBlk at h
  simp [World.frozen?, h]
theorem WrBlk.same (h : WrBlk w x p c v) (hb : w'.heap[x]? = w.heap[x]?) : WrBlk w' x p c v := hb.trans h
theorem WrBlk.set0 (h : WrBlk w x p c v) (p' : Nat) : WrBlk (w.setCell ⟨x, 0, none⟩ (.int .u8 (p' : Int))) x p' c v := by
  unfold WrBlk at h ⊢
  simp [World.setCell, Array.getElem?_modify, h]
theorem WrBlk.set1 (h : WrBlk w x p c v) (c' : Nat) : WrBlk (w.setCell ⟨x, 1, none⟩ (.int .i64 (c' : Int))) x p c' v := by
  unfold WrBlk at h ⊢
  simp [World.setCell, Array.getElem?_modify, h]
theorem WrBlk.set2 (h : WrBlk w x p c v) (v' : Value) : WrBlk (w.setCell ⟨x, 2, none⟩ v') x p c v' := by
  unfold WrBlk at h ⊢
  simp [World.setCell, Array.getElem?_modify, h]
/-- A row of bytes is never the Writer's block. -/
theorem WrBlk.row_ne (h : WrBlk w x p c v) {base n : Nat} {u : Value} {xs : List Value} (ho : w.ownsRow base 5 1 u n xs) : u.ownBlock ≠ some x := by
  intro he
  rcases ho.2 with ⟨rfl, _⟩ | ⟨g, cp, cur, rfl, _, hh, _⟩
  · cases he
  · injection he with he
    have he' : g = x := he
    subst he'
    unfold WrBlk at h
    rw [h] at hh
    simp at hh
end

theorem grown_setCell (w : World) (c i : Nat) (v : Value) : w.grownBy (w.setCell ⟨c, i, none⟩ v) (some c) :=
  ⟨rfl, rfl, rfl, by simp [World.setCell], fun k _ hne => Below.heap_setCell w ⟨c, i, none⟩ v k (fun e => hne (by rw [e]))⟩
theorem grown_drewN {a w : World} {row : Option Nat} (h : a.grownBy w row) (d : Nat) : a.grownBy (w.drewN d) row := ⟨h.os, h.tape, h.output, h.size, h.block⟩
theorem grown_trans {a b c : World} {row : Option Nat} (h : a.grownBy b row) (k : b.grownBy c row) : a.grownBy c row :=
  ⟨k.os.trans h.os, k.tape.trans h.tape, k.output.trans h.output, Nat.le_trans h.size k.size, fun i hi hne => (k.block i (Nat.lt_of_lt_of_le hi h.size) hne).trans (h.block i hi hne)⟩

/-- Only block x, the row R and new memory have changed. -/
structure Chg (w w' : World) (x : Nat) (R : Option Nat) : Prop where
  os : w'.os = w.os
  tape : w'.tape = w.tape
  output : w'.output = w.output
  size : w.heap.size ≤ w'.heap.size
  block : ∀ k, k < w.heap.size → k ≠ x → some k ≠ R → w'.heap[k]? = w.heap[k]?

/-- A row R' that is R or new. -/
def New (w : World) (R R' : Option Nat) : Prop := R' = R ∨ ∃ g, R' = some g ∧ w.heap.size ≤ g

theorem New.refl (w : World) (R : Option Nat) : New w R R := .inl rfl
theorem New.trans {a b : World} {R S T : Option Nat} (h : New a R S) (k : New b S T) (hs : a.heap.size ≤ b.heap.size) : New a R T := by
  rcases k with rfl | ⟨g, rfl, hg⟩
  · exact h
  · exact .inr ⟨g, rfl, by omega⟩
theorem Chg.refl (w : World) (x : Nat) (R : Option Nat) : Chg w w x R := ⟨rfl, rfl, rfl, Nat.le_refl _, fun _ _ _ _ => rfl⟩
theorem Chg.trans {a b c : World} {x : Nat} {R S : Option Nat} (h : Chg a b x R) (k : Chg b c x S) (hn : New a R S) : Chg a c x R := by
  refine ⟨k.os.trans h.os, k.tape.trans h.tape, k.output.trans h.output, Nat.le_trans h.size k.size, fun i hi hx hr => ?_⟩
  refine (k.block i (Nat.lt_of_lt_of_le hi h.size) hx ?_).trans (h.block i hi hx hr)
  rcases hn with rfl | ⟨g, rfl, hg⟩
  · exact hr
  · intro e
    injection e with e
    omega
theorem Chg.of_self {w w' : World} {x : Nat} (R : Option Nat) (h : w.grownBy w' (some x)) : Chg w w' x R := ⟨h.os, h.tape, h.output, h.size, fun k hk hx _ => h.block k hk (by simpa using hx)⟩
theorem Chg.of_row {w w' : World} (x : Nat) {R : Option Nat} (h : w.grownBy w' R) : Chg w w' x R := ⟨h.os, h.tape, h.output, h.size, fun k hk _ hr => h.block k hk hr⟩
theorem Chg.of_below {w w' : World} (x : Nat) (R : Option Nat) (h : Below w.heap.size w w') : Chg w w' x R := ⟨h.os, h.tape, h.output, h.size, fun k hk _ _ => h.block k hk⟩
theorem Chg.below {w w' : World} {x : Nat} {R : Option Nat} {B : Nat} (h : Chg w w' x R) (hB : B ≤ w.heap.size) (hx : B ≤ x) (hR : ∀ g, R = some g → B ≤ g) : Below B w w' :=
  ⟨h.os, h.tape, h.output, h.size, fun k hk => h.block k (by omega) (by omega) (fun e => by have := hR k e.symm; omega)⟩

/-- Block x is a Writer with the stream l; v is the slice of its whole bytes. -/
def Wr (w : World) (x : Nat) (v : Value) (l : List Bool) : Prop :=
  ∃ F p c, WrBlk w x p c v ∧ c < 8 ∧ Str F p c l ∧ w.ownsRow 0 5 1 v F.length (F.map byt)

theorem Wr.lt {w : World} {x : Nat} {v : Value} {l : List Bool} (h : Wr w x v l) : x < w.heap.size := by
  obtain ⟨F, p, c, hb, _⟩ := h
  exact hb.lt
theorem Wr.row_lt {w : World} {x : Nat} {v : Value} {l : List Bool} (h : Wr w x v l) {g : Nat} (hg : v.ownBlock = some g) : g < w.heap.size := by
  obtain ⟨F, p, c, _, _, _, ho⟩ := h
  exact own_lt ho hg
theorem Wr.same {w w' : World} {x : Nat} {v : Value} {l : List Bool} (h : Wr w x v l) (hx : w'.heap[x]? = w.heap[x]?) (hr : ∀ g, v.ownBlock = some g → w'.heap[g]? = w.heap[g]?) : Wr w' x v l := by
  obtain ⟨F, p, c, hb, hc, hs, ho⟩ := h
  exact ⟨F, p, c, hb.same hx, hc, hs, own_same ho hr⟩
theorem Wr.below {w w' : World} {x : Nat} {v : Value} {l : List Bool} (h : Wr w x v l) (hb : Below w.heap.size w w') : Wr w' x v l :=
  h.same (hb.block _ h.lt) fun _ hg => hb.block _ (h.row_lt hg)
/-- Another Writer's steps leave this one as it is. -/
theorem Wr.other {w w' : World} {x y : Nat} {v u : Value} {l m : List Bool} (h : Wr w x v l) (hy : Wr w y u m) (hc : Chg w w' y u.ownBlock) (hne : x ≠ y) (hr : ∀ g, v.ownBlock = some g → u.ownBlock ≠ some g) : Wr w' x v l := by
  refine h.same (hc.block x h.lt hne ?_) fun g hg => hc.block g (h.row_lt hg) ?_ (fun e => hr g hg e.symm)
  · obtain ⟨_, _, _, hb, _⟩ := h
    obtain ⟨_, _, _, _, _, _, ho⟩ := hy
    exact fun e => hb.row_ne ho e.symm
  · rintro rfl
    obtain ⟨_, _, _, _, _, _, ho⟩ := h
    obtain ⟨_, _, _, hb, _⟩ := hy
    exact hb.row_ne ho hg

end Go.Proofs.YtnlhokfhkohdpaaGreat.Bt

namespace Go.Proofs.YtnlhokfhkohdpaaGreat.Bt
open Go.RowKit

set_option maxHeartbeats 400000 in
theorem filled_any {w : World} {x p c : Nat} {v : Value} (h : WrBlk w x p c v) :
    Calls Tryz.prog 71 #[.pointer (some ⟨x, 0, none⟩)] w fun e w' => e = .returned (.bool ((c : Int) == 8)) ∧ w = w' := by
  have h1 := h.cell1
  clear h
  go_enter Tryz.func71, Tryz.ntmps71
  go_wp2
  go_ret
  exact ⟨rfl, rfl⟩

set_option maxHeartbeats 400000 in
theorem padded_any {w : World} {x p c : Nat} {v : Value} (h : WrBlk w x p c v) :
    Calls Tryz.prog 56 #[.pointer (some ⟨x, 0, none⟩)] w fun e w' => e = .returned (.int .u8 (p : Int)) ∧ w = w' := by
  have h1 := h.cell0
  clear h
  go_enter Tryz.func56, Tryz.ntmps56
  go_wp2
  go_ret
  exact ⟨rfl, rfl⟩

theorem or_add {p c : Nat} (q : Nat) (hp : p < 2 ^ c) (hc : c < 8) : bits BinOp.or IntKind.u8 (p : Int) ((q : Int) % 256 * 2 ^ c % 256) = ((p + 2 ^ c * (q % 2 ^ (8 - c)) : Nat) : Int) := by
  have e256 : 256 = 2 ^ c * 2 ^ (8 - c) := by rw [← Nat.pow_add, show c + (8 - c) = 8 by omega]
  have hd : 2 ^ (8 - c) ∣ 256 := ⟨2 ^ c, by rw [Nat.mul_comm]; exact e256⟩
  have e1 : q % 256 * 2 ^ c % 256 = 2 ^ c * (q % 2 ^ (8 - c)) := by
    rw [Nat.mul_comm, show (2 ^ c * (q % 256)) % 256 = (2 ^ c * (q % 256)) % (2 ^ c * 2 ^ (8 - c)) by rw [← e256], Nat.mul_mod_mul_left, Nat.mod_mod_of_dvd _ hd]
  have e2 : ((q : Int) % 256 * 2 ^ c % 256) = ((2 ^ c * (q % 2 ^ (8 - c)) : Nat) : Int) := by
    rw [← e1, Int.natCast_emod, Int.natCast_mul, Int.natCast_emod, Int.natCast_pow]; rfl
  have hlt : 2 ^ c * (q % 2 ^ (8 - c)) < 256 := by
    rw [e256]
    exact (Nat.mul_lt_mul_left (Nat.two_pow_pos c)).2 (Nat.mod_lt _ (Nat.two_pow_pos _))
  have hp2 : p < 256 := Nat.lt_of_lt_of_le hp (by rw [e256]; exact Nat.le_mul_of_pos_right _ (Nat.two_pow_pos _))
  rw [e2, u8_or_nat _ _ hp2 hlt, Nat.or_comm, ← Nat.two_pow_add_eq_or_of_lt hp, Nat.add_comm]

theorem set_drain {w : World} {x p c : Nat} {v : Value} (h : WrBlk w x p c v) (p' c' : Nat) : WrBlk ((w.setCell ⟨x, 0, none⟩ (.int .u8 (p' : Int))).setCell ⟨x, 1, none⟩ (.int .i64 (c' : Int))) x p' c' v ∧
    w.grownBy ((w.setCell ⟨x, 0, none⟩ (.int .u8 (p' : Int))).setCell ⟨x, 1, none⟩ (.int .i64 (c' : Int))) (some x) :=
  ⟨(h.set0 p').set1 c', grown_trans (grown_setCell _ _ _ _) (grown_setCell _ _ _ _)⟩

set_option maxHeartbeats 400000 in
theorem drain_any {w : World} {x p c : Nat} {v : Value} (h : WrBlk w x p c v) :
    Calls Tryz.prog 72 #[.pointer (some ⟨x, 0, none⟩)] w fun e w' => e = .returned (.int .u8 (p : Int)) ∧ WrBlk w' x 0 0 v ∧ w.grownBy w' (some x) := by
  have h0 := h.cell0
  have h1 := h.cell1
  have f0 := h.free 0
  have f1 := h.free 1
  have H := Lib.hid h
  clear h
  go_enter Tryz.func72, Tryz.ntmps72
  go_wp2
  go_ret
  exact ⟨rfl, set_drain H.out 0 0⟩

set_option maxHeartbeats 400000 in
theorem marked_any {w : World} {x p c : Nat} {v : Value} (h : WrBlk w x p c v) (hc : c < 8) (hp : p < 2 ^ c) :
    Calls Tryz.prog 73 #[.pointer (some ⟨x, 0, none⟩)] w fun e w' => e = .returned (.int .u8 ((p + 2 ^ c : Nat) : Int)) ∧ ∃ d, w' = w.drewN d := by
  have h0 := h.cell0
  have h1 := h.cell1
  have HP := Lib.hid hp
  obtain ⟨R, hR⟩ : ∃ R, p + 2 ^ c = R := ⟨_, rfl⟩
  rw [hR]
  have HR := Lib.hid hR
  clear h hp hR
  go_enter Tryz.func73, Tryz.ntmps73
  go_wp2
  go_quiet (fail)
  go_wp2
  go_ret
  refine ⟨?_, _, rfl⟩
  have e := or_add 1 HP.out hc
  rw [Nat.mod_eq_of_lt (show 1 < 2 ^ (8 - c) by have := Nat.pow_lt_pow_right (a := 2) (by decide) (show 0 < 8 - c by omega); simpa using this), Nat.mul_one, HR.out] at e
  simp only [Int.natCast_one, Int.reduceMod, Int.one_mul] at e
  simp only [Array.getD, List.size_toArray, List.length_cons, List.length_nil]
  simpa using e

/-- a bits have been added. -/
def AddPost (w : World) (x p c : Nat) (v : Value) (q a : Nat) (e : Ending) (w' : World) : Prop :=
  e = .returned (.int .i64 (a : Int)) ∧ WrBlk w' x (p + 2 ^ c * (q % 2 ^ a)) (c + a) v ∧ w.grownBy w' (some x)

theorem add_mk {w : World} {x p c : Nat} {v : Value} (h : WrBlk w x p c v) (q a : Nat) (z k : Int) (hz : z = ((p + 2 ^ c * (q % 2 ^ a) : Nat) : Int)) (hk : k = ((c + a : Nat) : Int)) :
    WrBlk ((w.setCell ⟨x, 0, none⟩ (.int .u8 z)).setCell ⟨x, 1, none⟩ (.int .i64 k)).drew x (p + 2 ^ c * (q % 2 ^ a)) (c + a) v ∧ w.grownBy ((w.setCell ⟨x, 0, none⟩ (.int .u8 z)).setCell ⟨x, 1, none⟩ (.int .i64 k)).drew (some x) := by
  subst hz hk
  have := set_drain h (p + 2 ^ c * (q % 2 ^ a)) (c + a)
  exact ⟨this.1, ⟨this.2.os, this.2.tape, this.2.output, this.2.size, this.2.block⟩⟩

set_option maxHeartbeats 1000000 in
theorem add_small {w : World} {x p c : Nat} {v : Value} (h : WrBlk w x p c v) (hc : c < 8) (hp : p < 2 ^ c) (q n : Nat) (hq : q < 2 ^ n) (hle : n ≤ 8 - c) :
    Calls Tryz.prog 70 #[.pointer (some ⟨x, 0, none⟩), .int .u64 (q : Int), .int .i64 (n : Int)] w (AddPost w x p c v q n) := by
  have h0 := h.cell0
  have h1 := h.cell1
  have f0 := h.free 0
  have f1 := h.free 1
  have H := Lib.hid h
  have HP := Lib.hid hp
  have HQ := Lib.hid hq
  clear h hp hq
  go_enter Tryz.func70, Tryz.ntmps70
  go_wp2
  go_region
  go_wp2
  go_ret
  refine ⟨rfl, add_mk H.out q n _ _ ?_ (by simp)⟩
  rw [or_add q HP.out hc, Nat.mod_eq_of_lt HQ.out, Nat.mod_eq_of_lt (Nat.lt_of_lt_of_le HQ.out (Nat.pow_le_pow_right (by decide) hle))]

set_option maxHeartbeats 1000000 in
theorem add_big {w : World} {x p c : Nat} {v : Value} (h : WrBlk w x p c v) (hc : c < 8) (hp : p < 2 ^ c) (q n : Nat) (hle : 8 - c < n) :
    Calls Tryz.prog 70 #[.pointer (some ⟨x, 0, none⟩), .int .u64 (q : Int), .int .i64 (n : Int)] w (AddPost w x p c v q (8 - c)) := by
  have h0 := h.cell0
  have h1 := h.cell1
  have f0 := h.free 0
  have f1 := h.free 1
  have H := Lib.hid h
  have HP := Lib.hid hp
  obtain ⟨a, ha⟩ : ∃ a, 8 - c = a := ⟨_, rfl⟩
  have HA := Lib.hid ha
  rw [ha]
  clear h hp ha
  go_enter Tryz.func70, Tryz.ntmps70
  go_wp2
  go_region
  go_wp2
  go_ret
  have ha := HA.out
  refine ⟨?_, add_mk H.out q a _ _ ?_ ?_⟩
  · simp; omega
  · rw [or_add q HP.out hc, HA.out]
  · omega

theorem add_any {w : World} {x p c : Nat} {v : Value} (h : WrBlk w x p c v) (hc : c < 8) (hp : p < 2 ^ c) (q n : Nat) (hq : q < 2 ^ n) :
    Calls Tryz.prog 70 #[.pointer (some ⟨x, 0, none⟩), .int .u64 (q : Int), .int .i64 (n : Int)] w (AddPost w x p c v q (min n (8 - c))) := by
  by_cases hle : n ≤ 8 - c
  · rw [Nat.min_eq_left hle]
    exact add_small h hc hp q n hq hle
  · rw [Nat.min_eq_right (by omega)]
    exact add_big h hc hp q n (by omega)

end Go.Proofs.YtnlhokfhkohdpaaGreat.Bt

namespace Go.Proofs.YtnlhokfhkohdpaaGreat.Bt
open Go.RowKit

/-- The bits bs have been appended. -/
def PutPost (w : World) (x : Nat) (v : Value) (L : List Bool) (e : Ending) (w' : World) : Prop :=
  e = .returned (.int .i64 0) ∧ ∃ v', Wr w' x v' L ∧ Chg w w' x v.ownBlock ∧ New w v.ownBlock v'.ownBlock

set_option maxHeartbeats 400000 in
theorem put_nil (w : World) (q n : Int) : Calls Tryz.prog 34 #[.pointer none, .int .u64 q, .int .i64 n] w fun e w' => e = .returned (.int .i64 1) ∧ w = w' := by
  go_enter Tryz.func34, Tryz.ntmps34
  go_wp2
  go_ret
  exact ⟨rfl, rfl⟩

set_option maxHeartbeats 1000000 in
theorem put_arg (w : World) (x : Nat) (q n : Int) (hn : n < 0 ∨ 64 < n) : Calls Tryz.prog 34 #[.pointer (some ⟨x, 0, none⟩), .int .u64 q, .int .i64 n] w fun e w' => e = .returned (.int .i64 2) ∧ w = w' := by
  rcases hn with hn | hn
  · have hd : decide (n < 0) = true := decide_eq_true hn
    go_enter Tryz.func34, Tryz.ntmps34
    go_wp2
    go_ret
    exact ⟨rfl, rfl⟩
  · have hd : decide (n < 0) = false := decide_eq_false (by omega)
    have hd2 : decide (64 < n) = true := decide_eq_true hn
    go_enter Tryz.func34, Tryz.ntmps34
    go_wp2
    go_ret
    exact ⟨rfl, rfl⟩

set_option maxHeartbeats 1000000 in
theorem put_bit (w : World) (x : Nat) (q n : Nat) (hn : n ≤ 64) (hq : 2 ^ n ≤ q) : Calls Tryz.prog 34 #[.pointer (some ⟨x, 0, none⟩), .int .u64 (q : Int), .int .i64 (n : Int)] w fun e w' => e = .returned (.int .i64 2) ∧ w = w' := by
  have hd : decide ((n : Int) < 0) = false := decide_eq_false (by omega)
  have hd2 : decide ((64 : Int) < (n : Int)) = false := decide_eq_false (by omega)
  have hne : ((q : Int) / 2 ^ n != 0) = true := by
    have h1 : 0 < q / 2 ^ n := Nat.div_pos hq (Nat.two_pow_pos n)
    have h2 : ((q : Int) / 2 ^ n) = ((q / 2 ^ n : Nat) : Int) := by simp
    rw [h2]
    simp only [bne_iff_ne, ne_eq]
    omega
  clear hq
  go_enter Tryz.func34, Tryz.ntmps34
  go_wp2
  go_ret
  exact ⟨rfl, rfl⟩

theorem filled_yes {w : World} {x p : Nat} {v : Value} (h : WrBlk w x p 8 v) :
    Calls Tryz.prog 71 #[.pointer (some ⟨x, 0, none⟩)] w fun e w' => e = .returned (.bool true) ∧ w = w' := filled_any h
theorem filled_no {w : World} {x p c : Nat} {v : Value} (h : WrBlk w x p c v) (hc : c ≠ 8) :
    Calls Tryz.prog 71 #[.pointer (some ⟨x, 0, none⟩)] w fun e w' => e = .returned (.bool false) ∧ w = w' := by
  have := filled_any h
  rw [show ((c : Int) == 8) = false by simp; omega] at this
  exact this

/-- What the loop of Put holds on to. -/
def PutRel (w : World) (x : Nat) (v : Value) (L : List Bool) (k m : Nat) (wr : World) : Prop :=
  ∃ v' l', Wr wr x v' l' ∧ l' ++ bitsOf k m = L ∧ Chg w wr x v.ownBlock ∧ New w v.ownBlock v'.ownBlock

theorem put_no {w wr w1 : World} {x : Nat} {v v' : Value} {L l2 : List Bool} {k m C p2 p3 c3 : Nat} {F : List UInt8} (hch : Chg w wr x v.ownBlock) (hnw : New w v.ownBlock v'.ownBlock) (ho : wr.ownsRow 0 5 1 v' F.length (F.map byt))
    (hb : WrBlk wr x p3 c3 v') (hc : C < 8) (hs : Str F p2 C l2) (hl : l2 ++ bitsOf k m = L) (hg : wr.grownBy w1 (some x)) (hb1 : WrBlk w1 x p2 C v') : PutRel w x v L k m w1 := by
  refine ⟨v', l2, ⟨F, p2, C, hb1, hc, hs, own_same ho fun g hgg => hg.block g (own_lt ho hgg) ?_⟩, hl, hch.trans (Chg.of_self _ hg) hnw, hnw⟩
  intro e
  exact hb.row_ne ho (hgg.trans e)

theorem byt_of {p : Nat} (h : p < 256) : byt (UInt8.ofNat p) = .int .u8 (p : Int) := by
  simp only [byt]
  rw [UInt8.toNat_ofNat', Nat.mod_eq_of_lt h]

theorem WrBlk.alloc {w : World} {x p c : Nat} {v : Value} (h : WrBlk w x p c v) (o : Obj) : WrBlk (w.alloc o) x p c v := h.same (heap_alloc_old w o h.lt)
theorem WrBlk.grown_row {w w' : World} {x p c n : Nat} {v : Value} {xs : List Value} (h : WrBlk w x p c v) (ho : w.ownsRow 0 5 1 v n xs) (hg : w.grownBy w' v.ownBlock) : WrBlk w' x p c v :=
  h.same (hg.block x h.lt fun e => h.row_ne ho e.symm)
theorem own_turn {wr w1 w4 : World} {x p c n : Nat} {v : Value} {xs : List Value} (ho : wr.ownsRow 0 5 1 v n xs) (hb : WrBlk wr x p c v) (hg1 : wr.grownBy w1 (some x)) (hg4 : w1.drew.grownBy w4 (some x)) (o : Obj) : (w4.alloc o).ownsRow 0 5 1 v n xs := by
  refine own_same ho fun g hgg => ?_
  have hne : some g ≠ some x := fun e => hb.row_ne ho (hgg.trans e)
  have hlt := own_lt ho hgg
  have s1 := hg1.size
  have s4 : w1.heap.size ≤ w4.heap.size := hg4.size
  rw [heap_alloc_old w4 o (show g < w4.heap.size by omega)]
  exact (hg4.block g (show g < w1.heap.size by omega) hne).trans (hg1.block g hlt hne)

theorem put_yes {w wr w1 w4 w5 : World} {x : Nat} {v v' : Value} {L l2 : List Bool} {k m p2 g cap : Nat} {F : List UInt8} {o : Obj} (hch : Chg w wr x v.ownBlock) (hnw : New w v.ownBlock v'.ownBlock)
    (hs : Str F p2 8 l2) (hl : l2 ++ bitsOf k m = L) (hg1 : wr.grownBy w1 (some x)) (hg4 : w1.drew.grownBy w4 (some x)) (hg5 : (w4.alloc o).grownBy w5 v'.ownBlock) (hb5 : WrBlk w5 x 0 0 v')
    (ho5 : w5.ownsRow 0 5 1 (.slice (some ⟨g, 0, none⟩) (F.length + 1) cap) (F.length + 1) (F.map byt ++ [.int .u8 (p2 : Int)])) (hlie : v'.ownBlock = some g ∨ g = w4.heap.size + 1) :
    PutRel w x v L k m (w5.setCell ⟨x, 2, none⟩ (.slice (some ⟨g, 0, none⟩) (F.length + 1) cap)) := by
  have hgx : g ≠ x := fun e => hb5.row_ne ho5 (by rw [e]; rfl)
  have hp : p2 < 256 := hs.lt
  have s1 := hg1.size
  have s4 : w1.heap.size ≤ w4.heap.size := hg4.size
  have s5 : w4.heap.size + 1 ≤ w5.heap.size := by have := hg5.size; simpa using this
  have n5 : New w v.ownBlock (some g) := by
    have s0 := hch.size
    refine New.trans (b := w4) hnw ?_ (by omega)
    rcases hlie with e | e
    · exact .inl e.symm
    · exact .inr ⟨g, rfl, by omega⟩
  have c1 : Chg wr w1 x v'.ownBlock := Chg.of_self _ hg1
  have c4 : Chg w1 w4 x v'.ownBlock := ⟨hg4.os, hg4.tape, hg4.output, hg4.size, fun j hj hx _ => hg4.block j hj (by simpa using hx)⟩
  have c4' : Chg w4 (w4.alloc o) x v'.ownBlock := Chg.of_below _ _ ((Below.refl _ _).alloc (Nat.le_refl _) _)
  have c5 : Chg (w4.alloc o) w5 x v'.ownBlock := Chg.of_row x hg5
  have c6 : Chg w5 (w5.setCell ⟨x, 2, none⟩ (.slice (some ⟨g, 0, none⟩) (F.length + 1) cap)) x v'.ownBlock := Chg.of_self _ (grown_setCell _ _ _ _)
  have cc : Chg wr (w5.setCell ⟨x, 2, none⟩ (.slice (some ⟨g, 0, none⟩) (F.length + 1) cap)) x v'.ownBlock :=
    (((c1.trans c4 (New.refl _ _)).trans c4' (New.refl _ _)).trans c5 (New.refl _ _)).trans c6 (New.refl _ _)
  refine ⟨_, l2, ⟨F ++ [UInt8.ofNat p2], 0, 0, hb5.set2 _, by decide, hs.full, ?_⟩, hl, hch.trans cc hnw, n5⟩
  have ho6 : (w5.setCell ⟨x, 2, none⟩ (.slice (some ⟨g, 0, none⟩) (F.length + 1) cap)).ownsRow 0 5 1 (.slice (some ⟨g, 0, none⟩) (F.length + 1) cap) (F.length + 1) (F.map byt ++ [.int .u8 (p2 : Int)]) := by
    refine own_same ho5 fun j hj => ?_
    have hj' : g = j := by simpa [Value.ownBlock] using hj
    subst hj'
    exact Below.heap_setCell w5 ⟨x, 2, none⟩ _ g hgx
  rw [← byt_of hp] at ho6
  simpa using ho6

set_option maxRecDepth 100000 in
set_option maxHeartbeats 4000000 in
theorem put_ok {w : World} {x : Nat} {v : Value} {l : List Bool} (h : Wr w x v l) (hs : l.length ≤ 1099511627776) (q n : Nat) (hn : n ≤ 64) (hq : q < 2 ^ n) :
    Calls Tryz.prog 34 #[.pointer (some ⟨x, 0, none⟩), .int .u64 (q : Int), .int .i64 (n : Int)] w (PutPost w x v (l ++ bitsOf q n)) := by
  obtain ⟨L, hL⟩ : ∃ L, l ++ bitsOf q n = L := ⟨_, rfl⟩
  have hLs : L.length ≤ 1099511627840 := by rw [← hL, List.length_append, bitsOf_len]; omega
  have HLS := Lib.hid hLs
  rw [hL]
  have R0 : PutRel w x v L q n w := ⟨v, l, h, hL, Chg.refl _ _ _, New.refl _ _⟩
  have HR0 := Lib.hid R0
  have HQ := Lib.hid hq
  have hd : decide ((n : Int) < 0) = false := decide_eq_false (by omega)
  have hd2 : decide ((64 : Int) < (n : Int)) = false := decide_eq_false (by omega)
  have hne : ((q : Int) / 2 ^ n != 0) = false := by
    have h2 : ((q : Int) / 2 ^ n) = ((q / 2 ^ n : Nat) : Int) := by simp
    rw [h2, Nat.div_eq_of_lt hq]
    rfl
  obtain ⟨i0, hi, hz0, hz1, hz2⟩ := info_parts byte_info
  have HI := Lib.hid (And.intro hi (And.intro hz0 (And.intro hz1 hz2)))
  clear h hs hL hLs R0 hq hi hz0 hz1 hz2
  go_enter Tryz.func34, Tryz.ntmps34
  go_wp2_with fail
  clear hd hd2 hne
  go_loopw [1, 2] (fun a b wr => ∃ k m : Nat, a = .int .u64 (k : Int) ∧ b = .int .i64 (m : Int) ∧ m ≤ 64 ∧ Hid (k < 2 ^ m) ∧ Hid (PutRel w x v L k m wr)) (fun _ b _ => (intOf b).toNat)
  case atStart => exact ⟨q, n, rfl, rfl, hn, HQ, HR0⟩
  case round =>
    obtain ⟨k, m, rfl, rfl, hm, HK, HR⟩ := hrel
    by_cases h0 : 0 < m
    · obtain ⟨v', l', hw, hl', hch, hnw⟩ := HR.out
      obtain ⟨F, p, c, hb, hc, hst, ho⟩ := hw
      obtain ⟨A', c', rfl, _⟩ := own_form ho
      have HB := Lib.hid hb
      have HLT := Lib.hid hb.lt
      have AD := Lib.hid (add_any hb hc hst.lt k m HK.out)
      obtain ⟨a, ha⟩ : ∃ a, min m (8 - c) = a := ⟨_, rfl⟩
      rw [ha] at AD
      have hst2 := hst.add k a
      have hl2 : (l' ++ bitsOf k a) ++ bitsOf (k / 2 ^ a) (m - a) = L := by
        rw [← hl', List.append_assoc, ← bitsOf_add, show a + (m - a) = m by omega]
      have hk2 : k / 2 ^ a < 2 ^ (m - a) := by
        refine Nat.div_lt_of_lt_mul ?_
        rw [← Nat.pow_add, show a + (m - a) = m by omega]
        exact HK.out
      have ha1 : 0 < a := by omega
      have ha2 : a ≤ m := by omega
      have ha8 : a ≤ 64 := by omega
      have hac : c + a ≤ 8 := by omega
      have HAC := Lib.hid hac
      obtain ⟨C, hC⟩ : ∃ C, c + a = C := ⟨_, rfl⟩
      obtain ⟨p2, hp2⟩ : ∃ p2, p + 2 ^ c * (k % 2 ^ a) = p2 := ⟨_, rfl⟩
      unfold AddPost at AD
      rw [hC, hp2] at hst2
      rw [hC, hp2] at AD
      rw [hC] at HAC
      have S2 := Lib.hid hst2
      have K2 := Lib.hid hk2
      have L2 := Lib.hid hl2
      have HO := Lib.hid ho
      have HCH := Lib.hid hch
      have HNW := Lib.hid hnw
      have HFL : Hid (8 * F.length ≤ 1099511627840) := Lib.hid (by
        have e1 := hst.len
        have e2 := HLS.out
        rw [← hl', List.length_append] at e2
        omega)
      clear hl' hch hnw hb hc hst ho ha hst2 hl2 hk2 hac hC hp2 HK HR HR0 HQ
      go_wp2_with fail
      refine AD.out.mono ?_
      rintro e w1 ⟨rfl, hb1, hg1⟩
      have B1 := Lib.hid hb1
      have G1 := Lib.hid hg1
      clear hb1 hg1 AD
      by_cases h8 : C = 8
      · subst h8
        have FY := Lib.hid (filled_yes B1.out)
        go_wp2_with fail
        refine FY.out.mono ?_
        rintro e w2 ⟨rfl, rfl⟩
        have DR := Lib.hid (drain_any (w := w1.drew) (B1.out : WrBlk w1.drew x p2 8 (.slice A' F.length c')))
        have c1 := B1.out.cell2
        clear FY
        go_wp2_with fail
        go_region_law (first
          | (go_simp; go_at_call 72; refine DR.out.mono ?_; rintro e w4 ⟨rfl, hb4, hg4⟩; have c4 := hb4.cell2; have BA := Lib.hid (hb4.alloc (.cells #[.int .u8 (p2 : Int)] 5)); have ca := BA.out.cell2; have G4 := Lib.hid hg4; have O4 := Lib.hid (own_turn HO.out HB.out G1.out hg4 (.cells #[.int .u8 (p2 : Int)] 5)); clear hb4 hg4)
          | (refine step_append_lies _ rfl (.tmp 44) (.tmp 49) 22 rfl 0 5 i0 (.int .u8 0) 1 1 Tryz.underlying22 HI.out.1 HI.out.2.1 HI.out.2.2.1 HI.out.2.2.2 rfl (by decide) (.slice A' F.length c') F.length (F.map byt) (by simp [Act.eval]) O4.out ⟨w4.heap.size, 0, none⟩ 1 1 [.int .u8 (p2 : Int)] (by simp [Act.eval]) rfl (cell_one_new _ _ _) (by simp [Value.oneCell']) (by decide) (by have := HFL.out; unfold maxLen; omega) (by have := HFL.out; omega) (by simp) (w4.heap.size + 1) (by simp) ?_; intro g cap w5 ho5 hg5 hlie _; have B5 := Lib.hid (WrBlk.grown_row BA.out O4.out hg5); have c5 := B5.out.cell2; have f5 := B5.out.free 2; have H5 := Lib.hid (And.intro ho5 (And.intro hg5 hlie)); clear ho5 hg5 hlie))
        all_goals (go_wp2_with fail; exact ⟨⟨k / 2 ^ a, m - a, by simp, by simp; omega, by omega, K2, Lib.hid (put_yes HCH.out HNW.out S2.out L2.out G1.out G4.out H5.out.2.1 B5.out H5.out.1 H5.out.2.2)⟩, by simp [intOf]; omega⟩)
      · have FN := Lib.hid (filled_no B1.out h8)
        have h8' := Lib.hid h8
        clear h8
        go_wp2_with fail
        refine FN.out.mono ?_
        rintro e w2 ⟨rfl, rfl⟩
        clear FN
        go_wp2_with fail
        refine ⟨⟨k / 2 ^ a, m - a, by simp, by simp; omega, by omega, K2, Lib.hid (put_no HCH.out HNW.out HO.out HB.out (by have := HAC.out; have := h8'.out; omega) S2.out L2.out G1.out B1.out)⟩, by simp [intOf]; omega⟩
    · have hm0 : m = 0 := by omega
      subst hm0
      obtain ⟨v', l', hw, hl', hch, hnw⟩ := HR.out
      rw [show bitsOf k 0 = [] by cases k <;> rfl, List.append_nil] at hl'
      have H := Lib.hid (And.intro hw (And.intro hl' (And.intro hch hnw)))
      clear hw hl' hch hnw HR
      go_wp2
      go_ret
      obtain ⟨hw, rfl, hch, hnw⟩ := H.out
      exact ⟨rfl, v', hw, hch, hnw⟩

end Go.Proofs.YtnlhokfhkohdpaaGreat.Bt

namespace Go.Proofs.YtnlhokfhkohdpaaGreat.Bt
open Go.RowKit

/-- A slice in new memory that holds the bytes l. -/
def Got (w : World) (l : List UInt8) (e : Ending) (w' : World) : Prop :=
  ∃ A c, e = .returned (.slice A l.length c) ∧ w'.ownsRow w.heap.size 5 1 (.slice A l.length c) l.length (l.map byt) ∧ Below w.heap.size w w'

set_option maxHeartbeats 400000 in
theorem bytes_nil (w : World) : Calls Tryz.prog 22 #[.pointer none] w fun e w' => e = .returned (.slice none 0 0) ∧ w = w' := by
  go_enter Tryz.func22, Tryz.ntmps22
  go_wp2
  go_ret
  exact ⟨rfl, rfl⟩
set_option maxHeartbeats 400000 in
theorem close_nil (w : World) : Calls Tryz.prog 36 #[.pointer none] w fun e w' => e = .returned (.slice none 0 0) ∧ w = w' := by
  go_enter Tryz.func36, Tryz.ntmps36
  go_wp2
  go_ret
  exact ⟨rfl, rfl⟩

theorem made_own {w : World} {k : Nat} {Z : List Value} (hz : Z.length = k) (hm : k ≤ maxLen) :
    (w.alloc (.cells Z.toArray 5)).ownsRow w.heap.size 5 1 (.slice (some ⟨w.heap.size, 0, none⟩) 0 k) 0 [] :=
  ⟨rfl, .inr ⟨w.heap.size, k, _, rfl, Nat.le_refl _, heap_alloc_new w _, Nat.zero_le _, hm, by simp [hz], by simp⟩⟩

set_option maxHeartbeats 1000000 in
theorem followed_any {w : World} {x p c n cp : Nat} {A : Option Addr} {F : List UInt8} (hb : WrBlk w x p c (.slice A n cp)) (hn : F.length = n) (hs : n ≤ 1099511627840) (hR : Rd w A F) (B : Option Addr) (m cb : Nat) (G : List UInt8) (hm : G.length = m) (hm1 : m ≤ 16) (hG : Rd w B G) :
    Calls Tryz.prog 55 #[.pointer (some ⟨x, 0, none⟩), .slice B m cb] w (Got w (F ++ G)) := by
  have c2 := hb.cell2
  have HB := Lib.hid hb
  obtain ⟨i0, hi, hz0, hz1, hz2⟩ := info_parts byte_info
  obtain ⟨Z, hZ⟩ : ∃ Z, (madeCells (Value.cells (.int .u8 0)) ((n + m) * i0.size)).toList = Z := ⟨_, rfl⟩
  have hZl : Z.length = n + m := by rw [← hZ, Array.length_toList, size_madeCells, hz1]; omega
  have hmk : ∀ W : World, (Instr.makeSlice 22 (.int .i64 0) (.int .i64 ((n : Int) + (m : Int)))).run Tryz.prog W = .ok (.slice (some ⟨W.heap.size, 0, none⟩) 0 (n + m)) (W.alloc (.cells Z.toArray 5)) := by
    intro W
    have hr := run_make (P := Tryz.prog) W 22 5 i0 (.int .u8 0) Tryz.underlying22 hi hz0 .i64 .i64 0 ((n : Int) + (m : Int)) (by omega) (by omega) (by rw [hz2]; omega) (by omega)
    rw [show ((n : Int) + (m : Int)).toNat = n + m by omega] at hr
    rw [← hZ]
    exact hr
  have O0 := Lib.hid (made_own (w := w) hZl (by unfold maxLen; omega))
  have ca := (HB.out.alloc (.cells Z.toArray 5)).cell2
  have HN := Lib.hid hn
  have HM := Lib.hid hm
  have R1 : Hid (Rd (w.alloc (.cells Z.toArray 5)) A F) := Lib.hid (hR.below ((Below.refl _ _).alloc (Nat.le_refl _) _))
  have R2 : Hid (Rd w B G) := Lib.hid hG
  have hB0 : Below w.heap.size w (w.alloc (.cells Z.toArray 5)) := (Below.refl _ _).alloc (Nat.le_refl _) _
  have HB0 := Lib.hid hB0
  clear hb hn hm hR hG hZ hZl hi hz0 hz1 hz2 hB0
  go_enter Tryz.func55, Tryz.ntmps55
  go_wp2_with (first
    | (at_builtin; refine wpList_append_vals Tryz.underlying22 byte_info rfl rfl _ _ rfl w.heap.size (.slice (some ⟨w.heap.size, 0, none⟩) 0 (n + m)) 0 [] rfl O0.out A (F.map byt) (byt_one F) n cp (by rw [List.length_map]; exact HN.out) rfl R1.out (by omega) (by simp) ?_; intro v1 w1 ho1 hg1 _; rw [Nat.zero_add, List.nil_append] at ho1; obtain ⟨A1, c1, rfl, _⟩ := own_form ho1; have HB1 := Lib.hid (HB0.out.grown hg1 HB0.out.size (fun j ej => by cases ej; exact Nat.le_refl _)); have O1 := Lib.hid ho1; have R3 := Lib.hid (R2.out.below HB1.out); clear ho1 hg1)
    | (at_builtin; refine wpList_append_vals Tryz.underlying22 byte_info rfl rfl _ _ rfl w.heap.size (.slice A1 n c1) n (F.map byt) rfl O1.out B (G.map byt) (byt_one G) m cb (by rw [List.length_map]; exact HM.out) rfl R3.out (by omega) HB1.out.size ?_; intro v2 w2 ho2 hg2 _; obtain ⟨A2, c2, rfl, _⟩ := own_form ho2; have HB2 := Lib.hid (HB1.out.grown hg2 HB1.out.size (fun j ej => (O1.out.lt j ej).1)); have O2 := Lib.hid ho2; clear ho2 hg2))
  go_ret
  have ho := O2.out
  rw [← List.map_append] at ho
  have e : n + m = (F ++ G).length := by rw [List.length_append, HN.out, HM.out]
  rw [e] at ho ⊢
  exact ⟨A2, c2, rfl, ho, HB2.out⟩

theorem own_base {w : World} {base b : Nat} {e : TypeId} {v : Value} {n : Nat} {xs : List Value} (h : w.ownsRow base e 1 v n xs) (hb : b ≤ base) : w.ownsRow b e 1 v n xs := by
  refine ⟨h.1, ?_⟩
  rcases h.2 with h1 | ⟨g, c, cur, rfl, h2, h3⟩
  · exact .inl h1
  · exact .inr ⟨g, c, cur, rfl, Nat.le_trans hb h2, h3⟩

theorem Got.on {w a w' : World} {l : List UInt8} {e : Ending} (h : Got a l e w') (hb : Below w.heap.size w a) : Got w l e w' := by
  obtain ⟨A, c, rfl, ho, hb2⟩ := h
  exact ⟨A, c, rfl, own_base ho hb.size, below_on hb (Nat.le_refl _) hb2⟩

theorem rd_one (w : World) (p : Nat) (hp : p < 256) : Rd (w.alloc (.cells #[.int .u8 (p : Int)] 5)) (some ⟨w.heap.size, 0, none⟩) [UInt8.ofNat p] := by
  intro j v hj
  rcases j with _ | j
  · simp at hj
    subst hj
    exact ⟨_, rfl, cell_one_new _ _ _ 0 _ (by rw [byt_of hp]; rfl)⟩
  · simp at hj

theorem rv_one (w : World) (u : Value) (t : TypeId) : Rv (w.alloc (.cells #[u] t)) (some ⟨w.heap.size, 0, none⟩) [u] := fun j v hj => ⟨_, rfl, cell_one_new _ _ _ j v hj⟩

set_option maxHeartbeats 1000000 in
theorem bytes_any {w : World} {x : Nat} {v : Value} {l : List Bool} (h : Wr w x v l) (hs : l.length ≤ 1099511627776) :
    Calls Tryz.prog 22 #[.pointer (some ⟨x, 0, none⟩)] w (Got w (pack l)) := by
  obtain ⟨F, p, c, hb, hc, hst, ho⟩ := h
  obtain ⟨A, cp, rfl, _⟩ := own_form ho
  have hl := hst.len
  have hp := hst.pack hc
  rw [hp]
  have c1 := hb.cell1
  by_cases h0 : c = 0
  · subst h0
    have FB := Lib.hid (followed_any hb rfl (by omega) (Rv.of_own ho) none 0 0 [] rfl (by decide) (Rv.nil _ _))
    have e : tl p 0 = [] := rfl
    rw [e]
    clear hb ho hst hl hp e
    go_enter Tryz.func22, Tryz.ntmps22
    go_wp2_with fail
    refine FB.out.mono ?_
    intro e w1 hg
    obtain ⟨A1, c1, rfl, h1⟩ := hg
    have H1 := Lib.hid h1
    clear h1
    go_wp2
    go_ret
    exact ⟨A1, c1, by simp, H1.out⟩
  · have hp8 : p < 256 := Nat.lt_of_lt_of_le hst.lt (Nat.pow_le_pow_right (by decide) (show c ≤ 8 by omega))
    have e : tl p c = [UInt8.ofNat p] := by rw [tl, if_neg h0]
    rw [e]
    have h0' : ((c : Int) == 0) = false := by simp; omega
    have PD := Lib.hid (padded_any hb)
    have hb0 : Below w.heap.size w (w.alloc (.cells #[.int .u8 (p : Int)] 5)) := (Below.refl _ _).alloc (Nat.le_refl _) _
    have FB := Lib.hid (followed_any (hb.alloc (.cells #[.int .u8 (p : Int)] 5)) rfl (by omega) (Rv.below (Rv.of_own ho) hb0) (some ⟨w.heap.size, 0, none⟩) 1 1 [UInt8.ofNat p] rfl (by decide) (rd_one w p hp8))
    have HB0 := Lib.hid hb0
    clear hb ho hst hl hp e hp8 hb0 h0
    go_enter Tryz.func22, Tryz.ntmps22
    go_wp2_with fail
    refine PD.out.mono ?_
    rintro e w1 ⟨rfl, rfl⟩
    go_wp2_with fail
    refine FB.out.mono ?_
    intro e w1 hg
    obtain ⟨A1, c1, rfl, h1⟩ := hg.on HB0.out
    have H1 := Lib.hid h1
    clear h1 hg
    go_wp2
    go_ret
    exact ⟨A1, c1, by simp, H1.out⟩

set_option maxHeartbeats 1000000 in
theorem close_any {w : World} {x : Nat} {v : Value} {l : List Bool} (h : Wr w x v l) (hs : l.length ≤ 1099511627776) :
    Calls Tryz.prog 36 #[.pointer (some ⟨x, 0, none⟩)] w (Got w (closed l)) := by
  obtain ⟨F, p, c, hb, hc, hst, ho⟩ := h
  obtain ⟨A, cp, rfl, _⟩ := own_form ho
  have hl := hst.len
  have hp := hst.closed hc
  rw [hp]
  have hp8 : p + 2 ^ c < 256 := by
    have h1 := hst.lt
    have h2 : 2 ^ (c + 1) ≤ 2 ^ 8 := Nat.pow_le_pow_right (by decide) (by omega)
    rw [Nat.pow_succ] at h2
    omega
  have MK := Lib.hid (marked_any hb hc hst.lt)
  obtain ⟨P, hP⟩ : ∃ P, p + 2 ^ c = P := ⟨_, rfl⟩
  rw [hP] at MK hp8 ⊢
  have hb0 : ∀ d, Below w.heap.size w ((w.drewN d).alloc (.cells #[.int .u8 (P : Int)] 5)) := fun d => (below_drewN' (Below.refl _ _) d).alloc (Nat.le_refl _) _
  have FB := Lib.hid (fun d => followed_any (hb.same (w' := (w.drewN d).alloc (.cells #[.int .u8 (P : Int)] 5)) ((hb0 d).block _ hb.lt)) rfl (by omega) (Rv.below (Rv.of_own ho) (hb0 d)) (some ⟨w.heap.size, 0, none⟩) 1 1 [UInt8.ofNat P] rfl (by decide) (rd_one (w.drewN d) P hp8))
  have HB0 := Lib.hid hb0
  clear hb ho hst hl hp hp8 hb0 hP
  go_enter Tryz.func36, Tryz.ntmps36
  go_wp2_with fail
  refine MK.out.mono ?_
  rintro e w1 ⟨rfl, d, rfl⟩
  go_wp2_with fail

  refine (FB.out d).mono ?_
  intro e w1 hg
  obtain ⟨A1, c1, rfl, h1⟩ := hg.on (HB0.out d)
  have H1 := Lib.hid h1
  clear h1 hg
  go_wp2
  go_ret
  exact ⟨A1, c1, by simp, H1.out⟩

end Go.Proofs.YtnlhokfhkohdpaaGreat.Bt

namespace Go.Proofs.YtnlhokfhkohdpaaGreat.Bt


/-- The number of n bits of D from position i on. -/
def cut (D : List UInt8) (i n : Nat) : Nat := val (((unp D).drop i).take n)

theorem cut_zero (D : List UInt8) (i : Nat) : cut D i 0 = 0 := by simp [cut, val]

theorem cut_lt (D : List UInt8) (i n : Nat) : cut D i n < 2 ^ n := by
  have h := val_lt (((unp D).drop i).take n)
  refine Nat.lt_of_lt_of_le h (Nat.pow_le_pow_right (by decide) ?_)
  rw [List.length_take]; omega

theorem cut_add (D : List UInt8) (i m n : Nat) (h : i + m ≤ 8 * D.length) : cut D i (m + n) = cut D i m + 2 ^ m * cut D (i + m) n := by
  have hl : (((unp D).drop i).take m).length = m := by rw [List.length_take, List.length_drop, unp_len]; omega
  rw [cut, List.take_add, val_app, hl, List.drop_drop]
  rfl

theorem unp_drop : ∀ (k : Nat) (D : List UInt8), (unp D).drop (8 * k) = unp (D.drop k)
  | 0, D => by simp
  | k + 1, [] => by simp [unp]
  | k + 1, b :: D => by
    rw [unp, List.drop_succ_cons, ← unp_drop k D, List.drop_append, bitsOf_len, List.drop_of_length_le (by rw [bitsOf_len]; omega), List.nil_append]
    congr 1

theorem bitsOf_cut (x s m c : Nat) (h : s + m ≤ c) : ((bitsOf x c).drop s).take m = bitsOf (x / 2 ^ s) m := by
  obtain ⟨r, rfl⟩ : ∃ r, c = s + (m + r) := ⟨c - s - m, by omega⟩
  rw [bitsOf_add, List.drop_append, bitsOf_len, Nat.sub_self, List.drop_of_length_le (by rw [bitsOf_len]; exact Nat.le_refl _), List.nil_append, List.drop_zero, bitsOf_add, List.take_append, bitsOf_len, Nat.sub_self, List.take_zero, List.append_nil, List.take_of_length_le (by rw [bitsOf_len]; exact Nat.le_refl _)]

/-- Bits within one byte. -/
theorem cut_byte {D : List UInt8} {k s m : Nat} {b : UInt8} (hb : D[k]? = some b) (h : s + m ≤ 8) : cut D (8 * k + s) m = b.toNat / 2 ^ s % 2 ^ m := by
  obtain ⟨hk, e⟩ := List.getElem?_eq_some_iff.1 hb
  have h1 : (unp D).drop (8 * k + s) = (bitsOf b.toNat 8 ++ unp (D.drop (k + 1))).drop s := by
    rw [← List.drop_drop, unp_drop, List.drop_eq_getElem_cons hk, e, unp]
  rw [cut, h1, List.drop_append, List.take_append, bitsOf_cut _ _ _ _ h, bitsOf_len]
  have h2 : m - (List.drop s (bitsOf b.toNat 8)).length = 0 := by rw [List.length_drop, bitsOf_len]; omega
  rw [h2, List.take_zero, List.append_nil, val_bitsOf]

theorem cut_val {D : List UInt8} {l : List Bool} {i n : Nat} (h : ((unp D).drop i).take n = l) : cut D i n = val l := by rw [cut, h]

theorem cut_of_take {D : List UInt8} (i n : Nat) (h : i + n ≤ 8 * D.length) : bitsOf (cut D i n) n = ((unp D).drop i).take n := by
  have hl : (((unp D).drop i).take n).length = n := by rw [List.length_take, List.length_drop, unp_len]; omega
  have := bitsOf_val (((unp D).drop i).take n)
  rw [hl] at this
  exact this

end Go.Proofs.YtnlhokfhkohdpaaGreat.Bt

namespace Go.Proofs.YtnlhokfhkohdpaaGreat.Bt
open Go.RowKit

/-- The three variables that the closure captures, from block b on: n, the value, and how many bits are done. -/
structure Bx (w : World) (b : Nat) (n d v : Nat) : Prop where
  n : w.heap[b]? = some (.cells #[.int .i64 (n : Int)] 3 (0, 0))
  v : w.heap[b + 1]? = some (.cells #[.int .u64 (v : Int)] 79 (0, 0))
  d : w.heap[b + 2]? = some (.cells #[.int .i64 (d : Int)] 3 (0, 0))

/-- m more bits are done. -/
def ExtPost (w : World) (b n d v : Nat) (e : Ending) (w' : World) : Prop :=
  e = .returned (.tuple #[]) ∧ Bx w' b n d v ∧ Below b w w'

theorem ext_or {v d x s m : Nat} (hx : x < 256) (hv : v < 2 ^ d) (hdm : d + m ≤ 64) (hm : m ≤ 8) :
    bits BinOp.or IntKind.u64 (v : Int) (IntKind.u64.wrap (bits BinOp.and IntKind.u64 (IntKind.u64.wrap ((x : Int) / 2 ^ s)) (IntKind.u64.wrap (IntKind.u64.wrap (2 ^ m) - 1)) * 2 ^ d)) = ((v + 2 ^ d * (x / 2 ^ s % 2 ^ m) : Nat) : Int) := by
  have hy : x / 2 ^ s < 256 := Nat.lt_of_le_of_lt (Nat.div_le_self _ _) hx
  have e0 : ((x : Int) / 2 ^ s) = ((x / 2 ^ s : Nat) : Int) := by simp
  have hp : 2 ^ m ≤ 256 := Nat.pow_le_pow_right (n := 2) (by decide) hm
  have hp1 : 0 < 2 ^ m := Nat.two_pow_pos m
  have e1 : ((2 : Int) ^ m) = ((2 ^ m : Nat) : Int) := by simp
  obtain ⟨y, hyy⟩ : ∃ y, x / 2 ^ s = y := ⟨_, rfl⟩
  obtain ⟨q, hq⟩ : ∃ q, 2 ^ m = q := ⟨_, rfl⟩
  rw [e0, e1, hyy, hq]
  rw [hyy] at hy
  rw [hq] at hp hp1
  rw [IntWalk.u64_in (y : Int) (by omega), IntWalk.u64_in (q : Int) (by omega), IntWalk.u64_in ((q : Int) - 1) (by omega)]
  have e2 : ((q : Int) - 1) = ((q - 1 : Nat) : Int) := by omega
  rw [e2, u64_and_nat _ _ (by omega) (by omega), ← hq, Nat.and_two_pow_sub_one_eq_mod]
  have hr : y % 2 ^ m < 2 ^ m := Nat.mod_lt _ (Nat.two_pow_pos m)
  have h3 : 2 ^ d * (y % 2 ^ m) < 2 ^ d * 2 ^ m := (Nat.mul_lt_mul_left (Nat.two_pow_pos d)).2 hr
  have h4 : 2 ^ d * 2 ^ m ≤ 18446744073709551616 := by
    rw [← Nat.pow_add]
    exact Nat.pow_le_pow_right (n := 2) (by decide) hdm
  have h5 : 2 ^ d ≤ 18446744073709551616 := Nat.pow_le_pow_right (n := 2) (by decide) (show d ≤ 64 by omega)
  have e3 : (((y % 2 ^ m : Nat) : Int) * 2 ^ d) = ((2 ^ d * (y % 2 ^ m) : Nat) : Int) := by
    rw [Nat.mul_comm, Int.natCast_mul, Int.natCast_pow]; rfl
  rw [e3, IntWalk.u64_in _ (by omega), u64_or_nat _ _ (by omega) (by omega), Nat.or_comm, ← Nat.two_pow_add_eq_or_of_lt hv, Nat.add_comm]

theorem ext_mk {w : World} {b n d v : Nat} (h : Bx w b n d v) (d' v' : Nat) (z k : Int) (hz : z = (v' : Int)) (hk : k = (d' : Int)) :
    Bx ((w.setCell ⟨b + 1, 0, none⟩ (.int .u64 z)).setCell ⟨b + 2, 0, none⟩ (.int .i64 k)).drew b n d' v' ∧ Below b w ((w.setCell ⟨b + 1, 0, none⟩ (.int .u64 z)).setCell ⟨b + 2, 0, none⟩ (.int .i64 k)).drew := by
  subst hz hk
  have h1 : (w.setCell ⟨b + 1, 0, none⟩ (.int .u64 (v' : Int))).heap[b + 2]? = some (.cells #[.int .i64 (d : Int)] 3 (0, 0)) := by
    rw [Below.heap_setCell _ _ _ _ (show b + 2 ≠ b + 1 by omega)]; exact h.d
  refine ⟨⟨?_, ?_, ?_⟩, ?_⟩
  · show ((w.setCell ⟨b + 1, 0, none⟩ (.int .u64 (v' : Int))).setCell ⟨b + 2, 0, none⟩ (.int .i64 (d' : Int))).heap[b]? = _
    rw [Below.heap_setCell _ _ _ _ (show b ≠ b + 2 by omega), Below.heap_setCell _ _ _ _ (show b ≠ b + 1 by omega)]
    exact h.n
  · show ((w.setCell ⟨b + 1, 0, none⟩ (.int .u64 (v' : Int))).setCell ⟨b + 2, 0, none⟩ (.int .i64 (d' : Int))).heap[b + 1]? = _
    rw [Below.heap_setCell _ _ _ _ (show b + 1 ≠ b + 2 by omega)]
    exact one_setCell h.v
  · exact one_setCell h1
  · have g1 : w.grownBy (w.setCell ⟨b + 1, 0, none⟩ (.int .u64 (v' : Int))) (some (b + 1)) := grown_setCell _ _ _ _
    have g2 : (w.setCell ⟨b + 1, 0, none⟩ (.int .u64 (v' : Int))).grownBy ((w.setCell ⟨b + 1, 0, none⟩ (.int .u64 (v' : Int))).setCell ⟨b + 2, 0, none⟩ (.int .i64 (d' : Int))) (some (b + 2)) := grown_setCell _ _ _ _
    have s1 := g1.size
    have s2 := g2.size
    have hlt := lt_of_block h.d
    exact ⟨g2.os.trans g1.os, g2.tape.trans g1.tape, g2.output.trans g1.output, Nat.le_trans s1 s2, fun k hk => (g2.block k (by omega) (by simp; omega)).trans (g1.block k (by omega) (by simp; omega))⟩

set_option maxHeartbeats 1000000 in
theorem ext_small {w : World} {b d v r : Nat} (h : Bx w b (d + r) d v) (x s : Nat) (hx : x < 256) (hs : s < 8) (hr : r < 8 - s) (hd : d + r ≤ 64) (hv : v < 2 ^ d) :
    Calls Tryz.prog 101 #[.int .u8 (x : Int), .int .i64 (s : Int), .pointer (some ⟨b, 0, none⟩), .pointer (some ⟨b + 2, 0, none⟩), .pointer (some ⟨b + 1, 0, none⟩)] w
      (ExtPost w b (d + r) (d + r) (v + 2 ^ d * (x / 2 ^ s % 2 ^ r))) := by
  have c0 := cell_of_one h.n
  have c1 := cell_of_one h.v
  have c2 := cell_of_one h.d
  have f1 := free_of_one h.v
  have f2 := free_of_one h.d
  have H := Lib.hid h
  have HX := Lib.hid (ext_or (s := s) hx hv hd (by omega))
  obtain ⟨R, hR⟩ : ∃ R, v + 2 ^ d * (x / 2 ^ s % 2 ^ r) = R := ⟨_, rfl⟩
  rw [hR] at HX ⊢
  clear h hv hR
  go_enter Tryz.func101, Tryz.ntmps101
  go_wp2
  go_region
  go_wp2
  all_goals first
    | (exfalso; omega)
    | (go_end0; exact ⟨rfl, ext_mk H.out _ _ _ _ HX.out (by omega)⟩)

set_option maxHeartbeats 1000000 in
theorem ext_big {w : World} {b d v r : Nat} (h : Bx w b (d + r) d v) (x s : Nat) (hx : x < 256) (hs : s < 8) (hr : 8 - s ≤ r) (hd : d + r ≤ 64) (hv : v < 2 ^ d) :
    Calls Tryz.prog 101 #[.int .u8 (x : Int), .int .i64 (s : Int), .pointer (some ⟨b, 0, none⟩), .pointer (some ⟨b + 2, 0, none⟩), .pointer (some ⟨b + 1, 0, none⟩)] w
      (ExtPost w b (d + r) (d + (8 - s)) (v + 2 ^ d * (x / 2 ^ s % 2 ^ (8 - s)))) := by
  have c0 := cell_of_one h.n
  have c1 := cell_of_one h.v
  have c2 := cell_of_one h.d
  have f1 := free_of_one h.v
  have f2 := free_of_one h.d
  have H := Lib.hid h
  have HX := Lib.hid (ext_or (s := s) (m := 8 - s) hx hv (by omega) (by omega))
  obtain ⟨R, hR⟩ : ∃ R, v + 2 ^ d * (x / 2 ^ s % 2 ^ (8 - s)) = R := ⟨_, rfl⟩
  rw [hR] at HX ⊢
  clear h hv hR
  go_enter Tryz.func101, Tryz.ntmps101
  go_wp2
  go_region
  go_wp2
  all_goals first
    | (exfalso; omega)
    | (go_end0; exact ⟨rfl, ext_mk H.out _ _ _ _ HX.out (by omega)⟩)

theorem ext_any {w : World} {b n d v r : Nat} (h : Bx w b n d v) (hn : d + r = n) (x s : Nat) (hx : x < 256) (hs : s < 8) (hd : n ≤ 64) (hv : v < 2 ^ d) (a : Nat) (ha : min r (8 - s) = a) :
    Calls Tryz.prog 101 #[.int .u8 (x : Int), .int .i64 (s : Int), .pointer (some ⟨b, 0, none⟩), .pointer (some ⟨b + 2, 0, none⟩), .pointer (some ⟨b + 1, 0, none⟩)] w
      (ExtPost w b n (d + a) (v + 2 ^ d * (x / 2 ^ s % 2 ^ a))) := by
  subst ha hn
  by_cases hle : r < 8 - s
  · rw [Nat.min_eq_left (by omega)]
    exact ext_small h x s hx hs hle hd hv
  · rw [Nat.min_eq_right (by omega)]
    exact ext_big h x s hx hs (by omega) hd hv

end Go.Proofs.YtnlhokfhkohdpaaGreat.Bt

namespace Go.Proofs.YtnlhokfhkohdpaaGreat.Bt
open Go.RowKit

/-- The block of a reader: the bytes D, the first and the last position of the unread bits. T: its type. -/
structure Sp (w : World) (x : Nat) (T : TypeId) (A : Option Addr) (c : Nat) (D : List UInt8) (s e : Nat) : Prop where
  blk : w.heap[x]? = some (.cells #[.slice A D.length c, .int .i64 (s : Int), .int .i64 (e : Int)] T (0, 0))
  rd : Rd w A D
  ne : ∀ ad, A = some ad → ad.block ≠ x ∧ ad.block < w.heap.size

section
variable {w w' : World} {x : Nat} {T : TypeId} {A : Option Addr} {c : Nat} {D : List UInt8} {s e : Nat}
theorem Sp.lt (h : Sp w x T A c D s e) : x < w.heap.size := (Array.getElem?_eq_some_iff.1 h.blk).1
theorem Sp.cell0 (h : Sp w x T A c D s e) : w.cell? ⟨x, 0, none⟩ = some (.slice A D.length c) := by rw [cell_of_row w x 0 _ _ _ h.blk]; rfl
theorem Sp.cell1 (h : Sp w x T A c D s e) : w.cell? ⟨x, 1, none⟩ = some (.int .i64 (s : Int)) := by rw [cell_of_row w x 1 _ _ _ h.blk]; rfl
theorem Sp.cell2 (h : Sp w x T A c D s e) : w.cell? ⟨x, 2, none⟩ = some (.int .i64 (e : Int)) := by rw [cell_of_row w x 2 _ _ _ h.blk]; rfl
theorem Sp.free (h : Sp w x T A c D s e) (i : Nat) : w.frozen? ⟨x, i, none⟩ = false := by simp [World.frozen?, h.blk]
theorem Sp.same (h : Sp w x T A c D s e) (hs : w.heap.size ≤ w'.heap.size) (hb : w'.heap[x]? = w.heap[x]?) (hr : ∀ ad, A = some ad → w'.heap[ad.block]? = w.heap[ad.block]?) : Sp w' x T A c D s e :=
  ⟨hb.trans h.blk, h.rd.same hr, fun ad e => ⟨(h.ne ad e).1, Nat.lt_of_lt_of_le (h.ne ad e).2 hs⟩⟩
theorem Sp.below (h : Sp w x T A c D s e) (hb : Below w.heap.size w w') : Sp w' x T A c D s e :=
  h.same hb.size (hb.block _ h.lt) fun ad e => hb.block _ (h.ne ad e).2
theorem Sp.drewN (h : Sp w x T A c D s e) (d : Nat) : Sp (w.drewN d) x T A c D s e := ⟨h.blk, h.rd, h.ne⟩
theorem Sp.setBlk (h : Sp w x T A c D s e) (s' e' : Nat) (hs : w.heap.size ≤ w'.heap.size) (hb : w'.heap[x]? = some (.cells #[.slice A D.length c, .int .i64 (s' : Int), .int .i64 (e' : Int)] T (0, 0)))
    (hr : ∀ k, k < w.heap.size → k ≠ x → w'.heap[k]? = w.heap[k]?) : Sp w' x T A c D s' e' :=
  ⟨hb, h.rd.same fun ad e => hr _ (h.ne ad e).2 (h.ne ad e).1, fun ad e => ⟨(h.ne ad e).1, Nat.lt_of_lt_of_le (h.ne ad e).2 hs⟩⟩
theorem Sp.set1 (h : Sp w x T A c D s e) (s' : Nat) : Sp (w.setCell ⟨x, 1, none⟩ (.int .i64 (s' : Int))) x T A c D s' e := by
  refine h.setBlk s' e (by simp [World.setCell]) ?_ fun k _ hx => Below.heap_setCell w ⟨x, 1, none⟩ _ k hx
  simp [World.setCell, Array.getElem?_modify, h.blk]
theorem Sp.set2 (h : Sp w x T A c D s e) (e' : Nat) : Sp (w.setCell ⟨x, 2, none⟩ (.int .i64 (e' : Int))) x T A c D s e' := by
  refine h.setBlk s e' (by simp [World.setCell]) ?_ fun k _ hx => Below.heap_setCell w ⟨x, 2, none⟩ _ k hx
  simp [World.setCell, Array.getElem?_modify, h.blk]
end

/-- How many bits are done. -/
def doneOf (w : World) (b : Nat) : Nat := (intOf ((w.cell? ⟨b + 2, 0, none⟩).getD (.int .i64 0))).toNat
theorem Bx.done {w : World} {b n d v : Nat} (h : Bx w b n d v) : doneOf w b = d := by
  rw [doneOf, cell_of_one h.d]; simp [intOf]

theorem bx_start (w : World) (n : Nat) : Bx (((w.alloc (.cells #[.int .i64 (n : Int)] 3)).alloc (.cells #[.int .u64 0] 79)).alloc (.cells #[.int .i64 0] 3)) w.heap.size n 0 0 ∧ Below w.heap.size w (((w.alloc (.cells #[.int .i64 (n : Int)] 3)).alloc (.cells #[.int .u64 0] 79)).alloc (.cells #[.int .i64 0] 3)) := by
  obtain ⟨w1, h1⟩ : ∃ w1, w.alloc (.cells #[.int .i64 (n : Int)] 3) = w1 := ⟨_, rfl⟩
  have s1 : w1.heap.size = w.heap.size + 1 := by rw [← h1, World.size_alloc]
  have b1 : w1.heap[w.heap.size]? = some (.cells #[.int .i64 (n : Int)] 3 (0, 0)) := by rw [← h1]; exact heap_alloc_new w _
  have l1 : Below w.heap.size w w1 := by rw [← h1]; exact (Below.refl _ _).alloc (Nat.le_refl _) _
  rw [h1]
  obtain ⟨w2, h2⟩ : ∃ w2, w1.alloc (.cells #[.int .u64 0] 79) = w2 := ⟨_, rfl⟩
  have s2 : w2.heap.size = w.heap.size + 2 := by rw [← h2, World.size_alloc, s1]
  have b2 : w2.heap[w.heap.size + 1]? = some (.cells #[.int .u64 0] 79 (0, 0)) := by rw [← h2, ← s1]; exact heap_alloc_new w1 _
  have b21 : w2.heap[w.heap.size]? = some (.cells #[.int .i64 (n : Int)] 3 (0, 0)) := by rw [← h2, heap_alloc_old w1 _ (by omega)]; exact b1
  have l2 : Below w.heap.size w w2 := by rw [← h2]; exact l1.alloc (by omega) _
  rw [h2]
  obtain ⟨w3, h3⟩ : ∃ w3, w2.alloc (.cells #[.int .i64 0] 3) = w3 := ⟨_, rfl⟩
  have s3 : w3.heap.size = w.heap.size + 3 := by rw [← h3, World.size_alloc, s2]
  have b3 : w3.heap[w.heap.size + 2]? = some (.cells #[.int .i64 0] 3 (0, 0)) := by rw [← h3, ← s2]; exact heap_alloc_new w2 _
  have b32 : w3.heap[w.heap.size + 1]? = some (.cells #[.int .u64 0] 79 (0, 0)) := by rw [← h3, heap_alloc_old w2 _ (by omega)]; exact b2
  have b31 : w3.heap[w.heap.size]? = some (.cells #[.int .i64 (n : Int)] 3 (0, 0)) := by rw [← h3, heap_alloc_old w2 _ (by omega)]; exact b21
  have l3 : Below w.heap.size w w3 := by rw [← h3]; exact l2.alloc (by omega) _
  rw [h3]
  exact ⟨⟨b31, b32, b3⟩, l3⟩

set_option maxRecDepth 100000 in
set_option maxHeartbeats 2000000 in
theorem value_any {w : World} {x : Nat} {T : TypeId} {A : Option Addr} {c : Nat} {D : List UInt8} {s e : Nat} (h : Sp w x T A c D s e) (i n : Nat) (hn : n ≤ 64) (hi : i + n ≤ 8 * D.length) (hD : D.length ≤ 1099511627776) :
    Calls Tryz.prog 86 #[.pointer (some ⟨x, 0, none⟩), .int .i64 (i : Int), .int .i64 (n : Int)] w fun e w' => e = .returned (.int .u64 (cut D i n : Int)) ∧ Below w.heap.size w w' := by
  obtain ⟨R, hR⟩ : ∃ R, cut D i n = R := ⟨_, rfl⟩
  rw [hR]
  have HR := Lib.hid hR
  have H := Lib.hid h
  have HI := Lib.hid hi
  have BS := Lib.hid (bx_start w n)
  obtain ⟨N, hN⟩ : ∃ N, D.length = N := ⟨_, rfl⟩
  have HN := Lib.hid hN
  rw [hN] at hD hi
  clear h hR hN
  go_enter Tryz.func86, Tryz.ntmps86
  go_wp2_with fail
  go_loopw [] (fun wr => ∃ d, d ≤ n ∧ Hid (Bx wr w.heap.size n d (cut D i d)) ∧ Hid (Below w.heap.size w wr)) (fun wr => n - doneOf wr w.heap.size)
  case atStart => exact ⟨0, by omega, Lib.hid (by rw [cut_zero]; exact BS.out.1), Lib.hid BS.out.2⟩
  case round =>
    obtain ⟨d, hd, HB, HL⟩ := hrel
    have HX := Lib.hid HB.out.done
    have c0 := cell_of_one HB.out.n
    have c1 := cell_of_one HB.out.v
    have c2 := cell_of_one HB.out.d
    by_cases hlt : d < n
    · obtain ⟨r, hr⟩ : ∃ r, d + r = n := ⟨n - d, by omega⟩
      have HRN := Lib.hid hr
      obtain ⟨k, hk⟩ : ∃ k, (i + d) / 8 = k := ⟨_, rfl⟩
      obtain ⟨q, hq⟩ : ∃ q, (i + d) % 8 = q := ⟨_, rfl⟩
      have hq8 : q < 8 := by omega
      have hkN : k < N := by omega
      have hik : i + d = 8 * k + q := by omega
      have ek : ((i : Int) + (d : Int)) / 8 = (k : Int) := by omega
      have eq : ((i : Int) + (d : Int)) % 8 = (q : Int) := by omega
      obtain ⟨b, hb⟩ : ∃ b, D[k]? = some b := ⟨_, List.getElem?_eq_getElem (by rw [HN.out]; exact hkN)⟩
      obtain ⟨ad, rfl, hc⟩ := (H.out.below HL.out).rd k (byt b) (by rw [List.getElem?_map, hb]; rfl)
      have e0 := (H.out.below HL.out).cell0
      rw [HN.out] at e0
      obtain ⟨a, ha⟩ : ∃ a, min r (8 - q) = a := ⟨_, rfl⟩
      have EX := Lib.hid (ext_any HB.out hr b.toNat q b.toNat_lt hq8 hn (cut_lt _ _ _) a ha)
      have HV : Hid (cut D i d + 2 ^ d * (b.toNat / 2 ^ q % 2 ^ a) = cut D i (d + a)) := Lib.hid (by
        rw [cut_add D i d a (by rw [HN.out]; omega), hik, cut_byte hb (by omega)])
      have HA : Hid (0 < a ∧ a ≤ r) := Lib.hid (by omega)
      obtain ⟨y, hy⟩ : ∃ y, b.toNat = y := ⟨_, rfl⟩
      simp only [byt] at hc
      rw [hy] at EX HV hc
      clear hk hq hik hb ha hy hr
      go_wp2_with fail
      refine EX.out.mono ?_
      rintro e w2 ⟨rfl, hb2, hl2⟩
      have B2 := Lib.hid hb2
      have L2 := Lib.hid hl2
      clear hb2 hl2
      go_wp2_with fail
      refine ⟨⟨d + a, by have := HA.out; have := HRN.out; omega, Lib.hid (by rw [← HV.out]; exact B2.out), Lib.hid (HL.out.trans L2.out)⟩, ?_⟩
      rw [HX.out, B2.out.done]
      have := HA.out
      have := HRN.out
      omega
    · have hde : d = n := by omega
      subst hde
      obtain ⟨V, hV⟩ : ∃ V, cut D i d = V := ⟨_, rfl⟩
      have HV := Lib.hid (HR.out.symm.trans hV)
      rw [hV] at c1
      clear hlt hV
      go_wp2
      go_ret
      exact ⟨by rw [HV.out]; rfl, HL.out⟩

end Go.Proofs.YtnlhokfhkohdpaaGreat.Bt
