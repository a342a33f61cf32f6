/-
  Words for memory that the proofs over package num share: a slice of bytes that reads as a list, a cursor's block, and how both stay as they are while other memory changes. No condition; nothing of the program is named here.
  What num.extend does: a new row that holds the bytes, with room for r more; nothing that was there has changed. Conditions: r from 0 to 16, fewer than 2^48 - 1000 bytes.
  Bytes in new memory: words that the texts on cursors share. No condition.
  Bytes in new memory: a literal. No condition.
  What New, At, Left, End and the inner steps next, nextByte and checkVarint of a cursor do, for a cursor that lies in a block of its own. Condition: at most 3 * 10^14 bytes.
  What a guarded read's last steps (the error stored in its variable, the cursor put back after an error) leave of memory. No condition beyond those that each theorem states.
  What num.read[[]byte] does round one read of a cursor: it hands on the value and the error, and puts the cursor back where it stood if there was an error; for a nil cursor it returns ErrNil. Condition: what the inner function does is given.
  A cursor stays as it is while new memory is made. No condition.
  What the methods Bytes and Sub of a cursor do: the next n bytes in new memory, or a new cursor over them, and the cursor behind them; or the errors ErrArg (n is negative), ErrShort (too few bytes are left), ErrNil (a nil cursor), and the cursor where it was. Condition: at most 2.8 * 10^14 bytes.
  A new cursor, with the number of bytes as a letter. Condition: at most 2.8 * 10^14 bytes.
  What the methods Peek and Rest of a cursor do: a copy of the next bytes, n at most, or of all that are left, in new memory; for a nil cursor an empty slice. The cursor stays as it was. Condition: n is an int; at most 2.8 * 10^14 bytes.
-/
import Derived.Below
import Derived.Laws.OwnMore
import Derived.Laws.Rows
import Derived.OwnWalk
import Derived.Lib.Hide
import Derived.Deep.Draws
import Derived.Test.YtnlhokfhkohdpaaGreatProg
import Derived.WalkKit
import Derived.WalkSpells
import Derived.WalkLawsBesides
import Derived.Laws.CopyOwn
import Derived.Shelf.Abstract
import Derived.Laws.IdiomStrings
import Derived.Laws.AppendOwnNone
import Derived.Deep.QuietTactic
import Derived.BigQuiet
import Derived.Defers
import Derived.Laws.Pointers
import Derived.StillTailTactics
import Derived.IntWalk
namespace Go.Proofs.YtnlhokfhkohdpaaGreat.Nm
open Go.RowKit

/-- The cell of one byte. -/
abbrev byt (b : UInt8) : Value := .int .u8 (b.toNat : Int)

theorem byt_lt (b : UInt8) : (b.toNat : Int) < 256 := by have := b.toNat_lt; omega

theorem addr_add_block (a : Addr) (n : Nat) : (a.add n).block = a.block := by
  unfold Addr.add
  by_cases h : n = 0
  · rw [if_pos h]
  · rw [if_neg h]

theorem addr_add_add (a : Addr) (i j : Nat) : (a.add i).add j = a.add (i + j) := by
  unfold Addr.add
  rcases Nat.eq_zero_or_pos i with rfl | hi
  · rcases Nat.eq_zero_or_pos j with rfl | hj
    · simp
    · simp
  · rcases Nat.eq_zero_or_pos j with rfl | hj
    · simp
    · simp [Nat.ne_of_gt hi, Nat.ne_of_gt hj, Nat.add_assoc]

/-- At address A (of a slice) the bytes l lie. Of an empty list nothing is asked. -/
def Rd (w : World) (A : Option Addr) (l : List UInt8) : Prop :=
  ∀ j b, l[j]? = some b → ∃ ad, A = some ad ∧ w.cell? (ad.add j) = some (byt b)

theorem Rd.nil (w : World) (A : Option Addr) : Rd w A [] := fun j b h => by simp at h

theorem Rd.keep {w w' : World} {A : Option Addr} {l : List UInt8} (h : Rd w A l) (hk : ∀ p v, w.cell? p = some v → (∃ b, v = byt b) → w'.cell? p = some v) : Rd w' A l := by
  intro j b hj
  obtain ⟨ad, e, hc⟩ := h j b hj
  exact ⟨ad, e, hk _ _ hc ⟨b, rfl⟩⟩

theorem cell_lt {w : World} {p : Addr} {v : Value} (h : w.cell? p = some v) : p.block < w.heap.size := World.block_lt_of_cell? w p h

theorem Rd.below {w w' : World} {A : Option Addr} {l : List UInt8} (h : Rd w A l) (hb : Below w.heap.size w w') : Rd w' A l :=
  h.keep fun _ _ hc _ => (hb.cell (cell_lt hc)).trans hc

theorem Rd.of_own {w : World} {base n cap : Nat} {A : Option Addr} {l : List UInt8} (h : w.ownsRow base 5 1 (.slice A n cap) n (l.map byt)) : Rd w A l := by
  intro j b hj
  have hlen := h.1
  simp only [List.length_map, Nat.mul_one] at hlen
  rcases h.2 with ⟨_, hn⟩ | ⟨g, c, cur, hv, _, hh, _, _, hs, ht⟩
  · have : l = [] := List.eq_nil_of_length_eq_zero (by omega)
    subst this
    simp at hj
  · injection hv with hA
    refine ⟨_, hA, ?_⟩
    have hjl : j < l.length := by
      rcases Nat.lt_or_ge j l.length with h1 | h1
      · exact h1
      · rw [List.getElem?_eq_none h1] at hj; cases hj
    have e : (Addr.add ⟨g, 0, none⟩ j) = ⟨g, j, none⟩ := by
      unfold Addr.add
      by_cases h0 : j = 0
      · rw [if_pos h0, h0]
      · rw [if_neg h0]; simp
    rw [e, cell_of_row w g j cur _ _ hh]
    have h2 : (cur.toList.take (n * 1))[j]? = some (byt b) := by rw [ht, List.getElem?_map, hj]; rfl
    rw [List.getElem?_take_of_lt (by omega)] at h2
    simpa using h2

/-- A cut of a slice reads as the cut of the list. -/
theorem Rd.cut {w : World} {A : Option Addr} {l : List UInt8} (h : Rd w A l) (i j : Nat) : Rd w (A.map (·.add i)) ((l.drop i).take j) := by
  intro k b hk
  have hkj : k < j := by
    rcases Nat.lt_or_ge k j with h1 | h1
    · exact h1
    · rw [List.getElem?_eq_none (by simp; omega)] at hk; cases hk
  rw [List.getElem?_take_of_lt hkj, List.getElem?_drop] at hk
  obtain ⟨ad, rfl, hc⟩ := h _ _ hk
  exact ⟨ad.add i, rfl, by rw [addr_add_add]; exact hc⟩

theorem Rd.take {w : World} {A : Option Addr} {l : List UInt8} (h : Rd w A l) (j : Nat) : Rd w A (l.take j) := by
  intro k b hk
  have hkj : k < j := by
    rcases Nat.lt_or_ge k j with h1 | h1
    · exact h1
    · rw [List.getElem?_eq_none (by simp; omega)] at hk; cases hk
  rw [List.getElem?_take_of_lt hkj] at hk
  exact h _ _ hk

theorem Rd.app_left {w : World} {A : Option Addr} {l m : List UInt8} (h : Rd w A (l ++ m)) : Rd w A l := by
  have := h.take l.length
  simpa using this

/-- The block of a cursor: the slice and the offset. -/
def CurBlk (w : World) (c : Nat) (A : Option Addr) (n cap : Nat) (k : Nat) : Prop :=
  w.heap[c]? = some (.cells #[.slice A n cap, .int .i64 (k : Int)] 58 (0, 0))

/-- Block c is a cursor over the bytes l, k of which have been read. -/
structure Cur (w : World) (c : Nat) (A : Option Addr) (cap : Nat) (l : List UInt8) (k : Nat) : Prop where
  blk : CurBlk w c A l.length cap k
  rd : Rd w A l
  le : k ≤ l.length
  cap : l.length ≤ cap
  small : l.length ≤ 300000000000000

theorem CurBlk.lt {w : World} {c : Nat} {A : Option Addr} {n cap k : Nat} (h : CurBlk w c A n cap k) : c < w.heap.size := (Array.getElem?_eq_some_iff.1 h).1
theorem CurBlk.cell0 {w : World} {c : Nat} {A : Option Addr} {n cap k : Nat} (h : CurBlk w c A n cap k) : w.cell? ⟨c, 0, none⟩ = some (.slice A n cap) := by
  rw [cell_of_row w c 0 _ _ _ h]; rfl
theorem CurBlk.cell1 {w : World} {c : Nat} {A : Option Addr} {n cap k : Nat} (h : CurBlk w c A n cap k) : w.cell? ⟨c, 1, none⟩ = some (.int .i64 (k : Int)) := by
  rw [cell_of_row w c 1 _ _ _ h]; rfl
theorem CurBlk.free {w : World} {c : Nat} {A : Option Addr} {n cap k : Nat} (h : CurBlk w c A n cap k) (i : Nat) : w.frozen? ⟨c, i, none⟩ = false := by
  unfold CurBlk at h
  simp [World.frozen?, h]
theorem CurBlk.below {w w' : World} {c : Nat} {A : Option Addr} {n cap k : Nat} (h : CurBlk w c A n cap k) (hb : Below w.heap.size w w') : CurBlk w' c A n cap k :=
  (hb.block c h.lt).trans h
theorem CurBlk.grown {w w' : World} {row : Option Nat} {c : Nat} {A : Option Addr} {n cap k : Nat} (h : CurBlk w c A n cap k) (hg : w.grownBy w' row) (hne : some c ≠ row) : CurBlk w' c A n cap k :=
  (hg.block c h.lt hne).trans h
theorem CurBlk.set {w : World} {c : Nat} {A : Option Addr} {n cap k : Nat} (h : CurBlk w c A n cap k) (k' : Nat) : CurBlk (w.setCell ⟨c, 1, none⟩ (.int .i64 (k' : Int))) c A n cap k' := by
  unfold CurBlk at h ⊢
  simp [World.setCell, Array.getElem?_modify, h]
theorem grown_setCell (w : World) (c i : Nat) (v : Value) : w.grownBy (w.setCell ⟨c, i, none⟩ v) (some c) :=
  ⟨rfl, rfl, rfl, by simp [World.setCell], fun k _ hne => Below.heap_setCell w ⟨c, i, none⟩ v k (fun e => hne (by rw [e]))⟩

/-- Bytes never lie in a cursor's block. -/
theorem Rd.grown_cur {w w' : World} {B : Option Addr} {m : List UInt8} {c : Nat} {A : Option Addr} {n cap k : Nat} (h : Rd w B m) (hc : CurBlk w c A n cap k) (hg : w.grownBy w' (some c)) : Rd w' B m := by
  refine h.keep fun p v hp ⟨b, hv⟩ => ?_
  subst hv
  have hne : p.block ≠ c := by
    intro e
    have h1 : w.heap[p.block]? = some (.cells #[.slice A n cap, .int .i64 (k : Int)] 58 (0, 0)) := by rw [e]; exact hc
    simp only [World.cell?, h1] at hp
    have hk : ∀ o : Nat, (#[Value.slice A n cap, Value.int .i64 (k : Int)] : Array Value)[o]? ≠ some (byt b) := by
      intro o
      match o with
      | 0 => simp
      | 1 => simp
      | o + 2 => simp
    split at hp
    · cases hp
    · exact hk _ hp
  exact hg.cell hp (by simpa using hne)

theorem Cur.grown_self {w w' : World} {c : Nat} {A : Option Addr} {cap : Nat} {l : List UInt8} {k k' : Nat} (h : Cur w c A cap l k) (hg : w.grownBy w' (some c)) (hb : CurBlk w' c A l.length cap k') (hk : k' ≤ l.length) : Cur w' c A cap l k' :=
  ⟨hb, h.rd.grown_cur h.blk hg, hk, h.cap, h.small⟩
theorem Cur.below {w w' : World} {c : Nat} {A : Option Addr} {cap : Nat} {l : List UInt8} {k : Nat} (h : Cur w c A cap l k) (hb : Below w.heap.size w w') : Cur w' c A cap l k :=
  ⟨h.blk.below hb, h.rd.below hb, h.le, h.cap, h.small⟩

theorem Cur.drewN {w : World} {c : Nat} {A : Option Addr} {cap : Nat} {l : List UInt8} {k : Nat} (h : Cur w c A cap l k) (d : Nat) : Cur (w.drewN d) c A cap l k := ⟨h.blk, h.rd, h.le, h.cap, h.small⟩
theorem grown_drewN {a w : World} {row : Option Nat} (h : a.grownBy w row) (d : Nat) : a.grownBy (w.drewN d) row := ⟨h.os, h.tape, h.output, h.size, h.block⟩
theorem below_drewN' {B : Nat} {a w : World} (h : Below B a w) (d : Nat) : Below B a (w.drewN d) := ⟨h.os, h.tape, h.output, h.size, h.block⟩
theorem Rd.drewN {w : World} {A : Option Addr} {l : List UInt8} (h : Rd w A l) (d : Nat) : Rd (w.drewN d) A l := h
theorem grown_of_below {w w' : World} (h : Below w.heap.size w w') (row : Option Nat) : w.grownBy w' row := ⟨h.os, h.tape, h.output, h.size, fun k hk _ => h.block k hk⟩
theorem grown_trans {a b c : World} {row : Option Nat} (h : a.grownBy b row) (k : b.grownBy c row) : a.grownBy c row :=
  ⟨k.os.trans h.os, k.tape.trans h.tape, k.output.trans h.output, Nat.le_trans h.size k.size, fun i hi hne => (k.block i (Nat.lt_of_lt_of_le hi h.size) hne).trans (h.block i hi hne)⟩
theorem below_of_grown {w w' : World} (h : w.grownBy w' none) : Below w.heap.size w w' := ⟨h.os, h.tape, h.output, h.size, fun k hk => h.block k hk (by simp)⟩
theorem below_trans' {a b c : World} (h : Below a.heap.size a b) (k : Below b.heap.size b c) : Below a.heap.size a c := h.trans (k.mono h.size)

/-- What one guarded read leaves: the value and the error of the inner step (which began in W and ended in W1), the cursor put back after an error, and the inner step's new memory as that step left it. -/
def ReadPost (w : World) (c : Nat) (A : Option Addr) (cap : Nat) (l : List UInt8) (k k1 : Nat) (Ok : World → Value → Int → World → Prop) (e : Ending) (w' : World) : Prop :=
  ∃ v err W W1, e = .returned (.tuple #[v, .int .i64 err]) ∧ Cur w' c A cap l (if err = 0 then k1 else k) ∧ w.grownBy w' (some c) ∧ Below w.heap.size w W ∧ W.heap.size = w.heap.size + 3 ∧ Ok W v err W1 ∧
    (∀ j, W.heap.size ≤ j → w'.heap[j]? = W1.heap[j]?) ∧ w'.heap.size = W1.heap.size
/-- What the inner step of a read leaves. -/
def TakePost (W : World) (c : Nat) (A : Option Addr) (cap : Nat) (l : List UInt8) (k1 : Nat) (Ok : World → Value → Int → World → Prop) (e : Ending) (W' : World) : Prop :=
  ∃ v err, e = .returned (.tuple #[v, .int .i64 err]) ∧ (∃ k', Cur W' c A cap l k' ∧ (err = 0 → k' = k1)) ∧ W.grownBy W' (some c) ∧ Ok W v err W'

end Go.Proofs.YtnlhokfhkohdpaaGreat.Nm

namespace Go.Proofs.YtnlhokfhkohdpaaGreat.Nm

section
open Go.RowKit
theorem byte_info : (Tryz.prog.info? 5).map (fun i => (i.zero, i.size, i.bytes)) = some (some (.int .u8 0), 1, 1) := by kernel_rfl
theorem byte_size : (Tryz.prog.info? 5).map (·.size) = some 1 := by kernel_rfl

/-- A new row with the bytes l and capacity c, at the head of block g. -/
def Made (w : World) (g : Nat) (l : List UInt8) (c : Nat) (e : Ending) (w' : World) : Prop :=
  e = .returned (.slice (some ⟨g, 0, none⟩) l.length c) ∧ w'.ownsRow g 5 1 (.slice (some ⟨g, 0, none⟩) l.length c) l.length (l.map byt) ∧ Below w.heap.size w w'

theorem made_own {w' : World} {g n r : Nat} {Z X : List Value} (hz : Z.length = n + r) (hx : X.length = n) (hm : n + r ≤ maxLen) (hg : w'.heap[g]? = some (.cells (splice Z 0 X).toArray 5 (0, 0))) :
    w'.ownsRow g 5 1 (.slice (some ⟨g, 0, none⟩) n (n + r)) n X := by
  refine ⟨by omega, .inr ⟨g, n + r, _, rfl, Nat.le_refl _, hg, by omega, hm, ?_, ?_⟩⟩
  · simp only [List.size_toArray]
    rw [length_splice _ _ _ (by omega)]; omega
  · simp [splice, ← hx]

set_option maxHeartbeats 400000 in
theorem extend_any (w : World) (A : Option Addr) (l : List UInt8) (cap : Nat) (r : Int) (h0 : 0 ≤ r) (h1 : r ≤ 16) (hs : l.length ≤ 281474976710000) (hR : Rd w A l) :
    Calls Tryz.prog 23 #[.slice A l.length cap, .int .i64 r] w (Made w w.heap.size l (l.length + r.toNat)) := by
  obtain ⟨r, rfl⟩ := Int.eq_ofNat_of_zero_le h0
  obtain ⟨n, hn⟩ : ∃ n, l.length = n := ⟨_, rfl⟩
  obtain ⟨X, hX⟩ : ∃ X, l.map byt = X := ⟨_, rfl⟩
  have hXl : X.length = n := by rw [← hX, ← hn]; simp
  have hX1 : ∀ v ∈ X, v.oneCell' = true := by
    intro v hv
    rw [← hX] at hv
    obtain ⟨b, _, rfl⟩ := List.mem_map.1 hv
    rfl
  have hXc : 0 < X.length → ∃ ad, A = some ad ∧ ∀ j v, X[j]? = some v → w.cell? (ad.add j) = some v := by
    intro hp
    obtain ⟨ad, hA, _⟩ := hR 0 (l[0]'(by omega)) (List.getElem?_eq_getElem (by omega))
    refine ⟨ad, hA, fun j v hj => ?_⟩
    rw [← hX, List.getElem?_map] at hj
    obtain ⟨b, hb, rfl⟩ := Option.map_eq_some_iff.1 hj
    obtain ⟨ad', hA', hc⟩ := hR j b hb
    rw [hA] at hA'
    injection hA' with hA'
    rw [hA']; exact hc
  obtain ⟨i0, hi, hz0, hz1, hz2⟩ := info_parts byte_info
  obtain ⟨Z, hZ⟩ : ∃ Z, (madeCells (Value.cells (.int .u8 0)) ((n + r) * i0.size)).toList = Z := ⟨_, rfl⟩
  have hZl : Z.length = n + r := by rw [← hZ, Array.length_toList, size_madeCells, hz1]; omega
  have hmk : ∀ W : World, (Instr.makeSlice 22 (.int .i64 (n : Int)) (.int .i64 ((n : Int) + (r : Int)))).run Tryz.prog W = .ok (.slice (some ⟨W.heap.size, 0, none⟩) n (n + r)) (W.alloc (.cells Z.toArray 5)) := by
    intro W
    have hr := run_make (P := Tryz.prog) W 22 5 i0 (.int .u8 0) Tryz.underlying22 hi hz0 .i64 .i64 n ((n : Int) + (r : Int)) (by omega) (by omega) (by rw [hz2]; omega) (by omega)
    rw [show ((n : Int) + (r : Int)).toNat = n + r by omega, Int.toNat_natCast] at hr
    rw [hr, ← hZ]
  have hXL := Lib.hid hX
  have hLn := Lib.hid hn
  have hXN := Lib.hid hXl
  have hZN := Lib.hid hZl
  have hXC := Lib.hid hXc
  have hX1' := Lib.hid hX1
  have hb0 : n ≤ 281474976710000 := by omega
  rw [hn]
  clear hX hn hXl hZl hXc hX1 hs hZ hi hz0 hz1 hz2
  go_enter Tryz.func23, Tryz.ntmps23
  go_wp2_with (with_reducible refine wpList_copy_splice rfl (.tmp 13) (.tmp 14) 22 22 rfl 5 Tryz.underlying22 byte_size _ _ _ _ _ _ rfl rfl w.heap.size 0 Z 5 (heap_alloc_new w _) X ?c1 ?c2 ?c3 hX1'.out w.heap.size w ((Below.refl _ _).alloc (Nat.le_refl _) _) (Nat.le_refl _) ?_)
  case c1 => rw [hXN.out]; exact (Nat.min_self n).symm
  case c2 =>
    intro hp
    obtain ⟨ad, rfl, hc⟩ := hXC.out hp
    refine ⟨ad, rfl, fun j v hj => by
      have h2 := hc j v hj
      rw [World.cell?_alloc_lt _ _ _ (cell_lt h2)]; exact h2⟩
  case c3 => rw [hXN.out, hZN.out]; omega
  intro w2 hg2 hb2
  go_wp2
  go_ret
  have h3 := made_own (w' := w2) (g := w.heap.size) (n := n) (r := r) hZN.out hXN.out (by simp only [maxLen]; omega) hg2.out
  refine ⟨?_, ?_, hb2⟩
  · rw [hLn.out]; simp
  · rw [hLn.out, hXL.out]; exact h3
end

section
open Go.RowKit Go.Shelf
attribute [local go_sem] Oper.semAt_some

/-- A slice in new memory that holds the bytes l. -/
def OwnB (w : World) (l : List UInt8) (v : Value) (w' : World) : Prop :=
  ∃ A c, v = .slice A l.length c ∧ w'.ownsRow w.heap.size 5 1 (.slice A l.length c) l.length (l.map byt) ∧ Below w.heap.size w w'
def Got (w : World) (l : List UInt8) (e : Ending) (w' : World) : Prop := ∃ v, e = .returned v ∧ OwnB w l v w'
theorem OwnB.mk {w w' : World} {l : List UInt8} {v : Value} (h : w'.ownsRow w.heap.size 5 1 v l.length (l.map byt)) (hb : Below w.heap.size w w') : OwnB w l v w' := by
  have h' := h
  rcases h.2 with ⟨rfl, hn⟩ | ⟨g, c, cur, rfl, _⟩
  · refine ⟨none, 0, by rw [hn], ?_, hb⟩
    rw [hn] at h' ⊢; exact h'
  · exact ⟨_, _, rfl, h', hb⟩
end

section
open Go.RowKit Go.Shelf
theorem Rd.some_of {w : World} {A : Option Addr} {l : List UInt8} (h : Rd w A l) (hl : l ≠ []) : ∃ ad, A = some ad := by
  rcases l with _ | ⟨b, l⟩
  · exact absurd rfl hl
  · obtain ⟨ad, e, _⟩ := h 0 b rfl
    exact ⟨ad, e⟩

theorem Rd.cells {w : World} {ad : Addr} {l : List UInt8} (h : Rd w (some ad) l) : ∀ j u, (l.map byt)[j]? = some u → w.cell? (ad.add j) = some u := by
  intro j u hj
  rw [List.getElem?_map] at hj
  obtain ⟨b, hb, rfl⟩ := Option.map_eq_some_iff.1 hj
  obtain ⟨ad', e, hc⟩ := h j b hb
  cases e
  exact hc

theorem byt_one (l : List UInt8) : ∀ u ∈ l.map byt, u.oneCell' = true := by
  intro v hv
  obtain ⟨b, _, rfl⟩ := List.mem_map.1 hv
  rfl

/-- A row that a slice literal has made. -/
theorem lit_own (w : World) (l : List UInt8) (C : Array Value) (hC : C = (l.map byt).toArray) (hl : l.length ≤ 1000) :
    (w.alloc (.cells C 5)).ownsRow w.heap.size 5 1 (.slice (some ⟨w.heap.size, 0, none⟩) l.length l.length) l.length (l.map byt) := by
  subst hC
  refine ⟨by simp, .inr ⟨w.heap.size, l.length, _, rfl, Nat.le_refl _, heap_alloc_new w _, Nat.le_refl _, by unfold maxLen; omega, by simp, ?_⟩⟩
  rw [List.take_of_length_le (by simp)]

theorem lit_got (w : World) (l : List UInt8) (C : Array Value) (hC : C = (l.map byt).toArray) (hl : l.length ≤ 1000) : OwnB w l (.slice (some ⟨w.heap.size, 0, none⟩) l.length l.length) (w.alloc (.cells C 5)) :=
  OwnB.mk (lit_own w l C hC hl) ((Below.refl _ _).alloc (Nat.le_refl _) _)

theorem OwnB.rd {w w' : World} {l : List UInt8} {v : Value} (h : OwnB w l v w') : ∃ A c, v = .slice A l.length c ∧ Rd w' A l ∧ Below w.heap.size w w' := by
  obtain ⟨A, c, rfl, ho, hb⟩ := h
  exact ⟨A, c, rfl, Rd.of_own ho, hb⟩
end

end Go.Proofs.YtnlhokfhkohdpaaGreat.Nm

namespace Go.Proofs.YtnlhokfhkohdpaaGreat.Nm
open Go.RowKit Go.Shelf

/-- A new cursor over the bytes l, in new memory. -/
def NewC (w : World) (l : List UInt8) (e : Ending) (w' : World) : Prop :=
  ∃ c A cap, e = .returned (.pointer (some ⟨c, 0, none⟩)) ∧ w.heap.size ≤ c ∧ Cur w' c A cap l 0 ∧ Below w.heap.size w w'

set_option maxHeartbeats 400000 in
theorem new_any (w : World) (A : Option Addr) (l : List UInt8) (cap : Nat) (hs : l.length ≤ 281474976710000) (hR : Rd w A l) :
    Calls Tryz.prog 9 #[.slice A l.length cap] w (NewC w l) := by
  have HX := Lib.hid (extend_any w A l cap 0 (by omega) (by omega) (by omega) hR)
  go_enter Tryz.func9, Tryz.ntmps9
  go_wp2_with fail
  refine HX.out.mono ?_
  rintro e w1 ⟨rfl, hrow0, hb0⟩
  have HR := Lib.hid hrow0
  clear hrow0
  go_wp2
  go_ret
  have hsz := hb0.size
  refine ⟨w1.heap.size, some ⟨w.heap.size, 0, none⟩, l.length, rfl, hsz, ⟨?_, ?_, Nat.zero_le _, Nat.le_refl _, by omega⟩, hb0.alloc hsz _⟩
  · exact heap_alloc_new w1 _
  · exact Rd.below (Rd.of_own HR.out) ((Below.refl _ _).alloc (Nat.le_refl _) _)

set_option maxHeartbeats 400000 in
theorem left_any {w : World} {c : Nat} {A : Option Addr} {n cap k : Nat} (h : CurBlk w c A n cap k) (hk : k ≤ n) (hn : n ≤ 300000000000000) :
    Calls Tryz.prog 30 #[.pointer (some ⟨c, 0, none⟩)] w fun e w' => e = .returned (.int .i64 ((n : Int) - (k : Int))) ∧ ∃ d, w' = w.drewN d := by
  have h1 := h.cell1
  have h0 := h.cell0
  clear h
  go_enter Tryz.func30, Tryz.ntmps30
  go_wp2
  go_quiet (fail)
  go_wp2
  go_ret
  exact ⟨rfl, _, rfl⟩

set_option maxHeartbeats 400000 in
theorem end_any {w : World} {c : Nat} {A : Option Addr} {cap : Nat} {l : List UInt8} {k : Nat} (h : Cur w c A cap l k) :
    Calls Tryz.prog 11 #[.pointer (some ⟨c, 0, none⟩)] w fun e w' => e = .returned (.int .i64 (if k < l.length then 4 else 0)) ∧ ∃ d, w' = w.drewN d := by
  have hk := h.le
  have HL := Lib.hid (left_any h.blk hk h.small)
  have HI : ∀ v : Int, Hid ((if k < l.length then (4 : Int) else 0) = v) → Hid (v = (if k < l.length then (4 : Int) else 0)) := fun _ e => Eq.symm e
  clear h
  by_cases hlt : k < l.length
  · rw [if_pos hlt]
    clear HI
    go_enter Tryz.func11, Tryz.ntmps11
    go_wp2_with fail
    refine HL.out.mono ?_
    rintro e w1 ⟨rfl, d, rfl⟩
    have hd : decide ((0 : Int) < (l.length : Int) - (k : Int)) = true := by simp; omega
    go_wp2
    go_ret
    exact ⟨rfl, _, rfl⟩
  · rw [if_neg hlt]
    clear HI
    go_enter Tryz.func11, Tryz.ntmps11
    go_wp2_with fail
    refine HL.out.mono ?_
    rintro e w1 ⟨rfl, d, rfl⟩
    have hd : decide ((0 : Int) < (l.length : Int) - (k : Int)) = false := by simp; omega
    go_wp2
    go_ret
    exact ⟨rfl, _, rfl⟩

set_option maxHeartbeats 400000 in
theorem next_neg (w : World) (p : Value) (n : Int) (h : n < 0) :
    Calls Tryz.prog 63 #[p, .int .i64 n] w fun e w' => e = .returned (.tuple #[.slice none 0 0, .int .i64 2]) ∧ w = w' := by
  go_enter Tryz.func63, Tryz.ntmps63
  go_wp2
  go_ret2
  exact ⟨rfl, rfl⟩

set_option maxHeartbeats 400000 in
theorem next_short {w : World} {c : Nat} {A : Option Addr} {cap : Nat} {l : List UInt8} {k : Nat} (h : Cur w c A cap l k) (n : Int) (h0 : 0 ≤ n) (hn : (l.length : Int) - (k : Int) < n) :
    Calls Tryz.prog 63 #[.pointer (some ⟨c, 0, none⟩), .int .i64 n] w fun e w' => e = .returned (.tuple #[.slice none 0 0, .int .i64 3]) ∧ ∃ d, w' = w.drewN d := by
  have HL := Lib.hid (left_any h.blk h.le h.small)
  clear h
  go_enter Tryz.func63, Tryz.ntmps63
  go_wp2_with fail
  refine HL.out.mono ?_
  rintro e w1 ⟨rfl, d, rfl⟩
  go_wp2
  go_ret2
  exact ⟨rfl, _, rfl⟩

/-- n bytes have been passed and are returned, not copied. -/
def Passed (w : World) (c : Nat) (A : Option Addr) (cap : Nat) (l : List UInt8) (k n : Nat) (e : Ending) (w' : World) : Prop :=
  ∃ A' c', e = .returned (.tuple #[.slice A' n c', .int .i64 0]) ∧ Rd w' A' ((l.drop k).take n) ∧ Cur w' c A cap l (k + n) ∧ w.grownBy w' (some c)

theorem cur_step {w : World} {c : Nat} {A : Option Addr} {cap : Nat} {l : List UInt8} {k : Nat} (h : Cur w c A cap l k) (n d nq : Nat) (hn : k + n ≤ l.length) :
    Cur (((w.drewN d).setCell ⟨c, 1, none⟩ (.int .i64 ((k : Int) + (n : Int)))).drewN nq) c A cap l (k + n) ∧ w.grownBy (((w.drewN d).setCell ⟨c, 1, none⟩ (.int .i64 ((k : Int) + (n : Int)))).drewN nq) (some c) := by
  have hg : w.grownBy (((w.drewN d).setCell ⟨c, 1, none⟩ (.int .i64 ((k : Int) + (n : Int)))).drewN nq) (some c) := by
    have := grown_setCell w c 1 (.int .i64 ((k : Int) + (n : Int)))
    exact ⟨this.os, this.tape, this.output, this.size, this.block⟩
  refine ⟨h.grown_self hg ?_ hn, hg⟩
  have := h.blk.set (k + n)
  rw [Int.natCast_add] at this
  exact this

theorem passed_mk {w : World} {c : Nat} {A A' : Option Addr} {cap c' : Nat} {l : List UInt8} {k n : Nat} (h : Cur w c A cap l k) (d nq : Nat) (hn : k + n ≤ l.length) (hA : (A' = A ∧ n = 0) ∨ A' = A.map (·.add k)) :
    Passed w c A cap l k n (.returned (.tuple #[.slice A' n c', .int .i64 0])) (((w.drewN d).setCell ⟨c, 1, none⟩ (.int .i64 ((k : Int) + (n : Int)))).drewN nq) := by
  obtain ⟨h1, h2⟩ := cur_step h n d nq hn
  refine ⟨A', c', rfl, ?_, h1, h2⟩
  rcases hA with ⟨_, rfl⟩ | rfl
  · rw [List.take_zero]; exact Rd.nil _ _
  · exact h1.rd.cut k n

set_option maxHeartbeats 1000000 in
theorem next_ok {w : World} {c : Nat} {A : Option Addr} {cap : Nat} {l : List UInt8} {k : Nat} (h : Cur w c A cap l k) (n : Int) (h0 : 0 ≤ n) (hn : n ≤ (l.length : Int) - (k : Int)) :
    Calls Tryz.prog 63 #[.pointer (some ⟨c, 0, none⟩), .int .i64 n] w (Passed w c A cap l k n.toNat) := by
  obtain ⟨n, rfl⟩ := Int.eq_ofNat_of_zero_le h0
  rw [Int.toNat_natCast]
  have HL := Lib.hid (left_any h.blk h.le h.small)
  have hle := h.le
  have hcap := h.cap
  have hsm := h.small
  have h1 := h.blk.cell1
  have h2 := h.blk.cell0
  have h3 := h.blk.free 1
  have H := Lib.hid h
  clear h
  obtain ⟨N, hN⟩ : ∃ N, l.length = N := ⟨_, rfl⟩
  have HN := Lib.hid hN
  rw [hN] at hle hcap hsm h2 HL hn
  clear hN
  go_enter Tryz.func63, Tryz.ntmps63
  go_wp2_with fail
  refine HL.out.mono ?_
  rintro e w1 ⟨rfl, d, rfl⟩
  go_wp2
  go_quiet (fail)
  go_wp2
  · go_ret2
    obtain rfl : cap = k := by assumption
    exact passed_mk H.out d nq (n := n) (by rw [HN.out]; omega) (.inl ⟨rfl, by omega⟩)
  · go_ret2
    exact passed_mk H.out d nq (n := n) (by rw [HN.out]; omega) (.inr rfl)

end Go.Proofs.YtnlhokfhkohdpaaGreat.Nm

namespace Go.Proofs.YtnlhokfhkohdpaaGreat.Nm

section
open Go.RowKit
theorem Rd.set_other {w : World} {A : Option Addr} {l : List UInt8} (h : Rd w A l) {q : Addr} {x : Int} (hq : w.cell? q = some (.int .i64 x)) (u : Value) : Rd (w.setCell q u) A l := by
  refine h.keep fun p v hp ⟨b, hv⟩ => ?_
  subst hv
  have hne : q ≠ p := by
    rintro rfl
    rw [hq] at hp
    cases hp
  rw [World.cell?_setCell_other _ _ _ _ hne]; exact hp

section
variable {w W W1 : World} {c : Nat} {A : Option Addr} {cap : Nat} {l : List UInt8} {k k' k1 : Nat} {Ok : World → Value → Int → World → Prop} {v : Value} {err : Int}

theorem err_set (hWb : Below w.heap.size w W) (hWs : W.heap.size = w.heap.size + 3) (hcl : c < w.heap.size) (hg : W.grownBy W1 (some c)) (hc : Cur W1 c A cap l k') (x : Int) (hx : W1.cell? ⟨w.heap.size + 1, 0, none⟩ = some (.int .i64 x)) (u : Value) :
    Cur (W1.setCell ⟨w.heap.size + 1, 0, none⟩ u) c A cap l k' ∧ w.grownBy (W1.setCell ⟨w.heap.size + 1, 0, none⟩ u) (some c) ∧ (∀ j, W.heap.size ≤ j → (W1.setCell ⟨w.heap.size + 1, 0, none⟩ u).heap[j]? = W1.heap[j]?) ∧ (W1.setCell ⟨w.heap.size + 1, 0, none⟩ u).heap.size = W1.heap.size := by
  have hs := grown_setCell W1 (w.heap.size + 1) 0 u
  refine ⟨⟨hc.blk.grown hs (by simp; omega), hc.rd.set_other hx u, hc.le, hc.cap, hc.small⟩, ⟨?_, ?_, ?_, ?_, ?_⟩, ?_, by simp [World.setCell]⟩
  · exact hs.os.trans (hg.os.trans hWb.os)
  · exact hs.tape.trans (hg.tape.trans hWb.tape)
  · exact hs.output.trans (hg.output.trans hWb.output)
  · exact Nat.le_trans hWb.size (Nat.le_trans hg.size hs.size)
  · intro j hj hne
    rw [Below.heap_setCell W1 _ u j (by simp; omega), hg.block j (by omega) hne, hWb.block j hj]
  · intro j hj
    exact Below.heap_setCell W1 _ u j (by simp; omega)

theorem readPost_ok (hWb : Below w.heap.size w W) (hWs : W.heap.size = w.heap.size + 3) (hcl : c < w.heap.size) (hg : W.grownBy W1 (some c)) (hc : Cur W1 c A cap l k') (hk : err = 0 → k' = k1) (x : Int) (hx : W1.cell? ⟨w.heap.size + 1, 0, none⟩ = some (.int .i64 x)) (u : Value)
    (hok : Ok W v err W1) (he : err = 0) : ReadPost w c A cap l k k1 Ok (.returned (.tuple #[v, .int .i64 err])) (W1.setCell ⟨w.heap.size + 1, 0, none⟩ u) := by
  obtain ⟨h1, h2, h3, h4⟩ := err_set hWb hWs hcl hg hc x hx u
  refine ⟨v, err, W, W1, rfl, ?_, h2, hWb, hWs, hok, h3, h4⟩
  rw [if_pos he, ← hk he]
  exact h1

theorem readPost_bad (hWb : Below w.heap.size w W) (hWs : W.heap.size = w.heap.size + 3) (hcl : c < w.heap.size) (hg : W.grownBy W1 (some c)) (hc : Cur W1 c A cap l k') (hk0 : k ≤ l.length) (x : Int) (hx : W1.cell? ⟨w.heap.size + 1, 0, none⟩ = some (.int .i64 x)) (u : Value)
    (hok : Ok W v err W1) (he : err ≠ 0) : ReadPost w c A cap l k k1 Ok (.returned (.tuple #[v, .int .i64 err])) ((W1.setCell ⟨w.heap.size + 1, 0, none⟩ u).setCell ⟨c, 1, none⟩ (.int .i64 (k : Int))) := by
  obtain ⟨h1, h2, h3, h4⟩ := err_set hWb hWs hcl hg hc x hx u
  have hs := grown_setCell (W1.setCell ⟨w.heap.size + 1, 0, none⟩ u) c 1 (.int .i64 (k : Int))
  refine ⟨v, err, W, W1, rfl, ?_, grown_trans h2 hs, hWb, hWs, hok, ?_, ?_⟩
  · rw [if_neg he]
    exact h1.grown_self hs (h1.blk.set k) hk0
  · intro j hj
    rw [← h3 j hj]
    exact Below.heap_setCell _ _ _ j (by simp; omega)
  · rw [← h4]
    simp [World.setCell]

end
end

section
open Go.RowKit Go.Shelf
set_option maxHeartbeats 400000 in
theorem restore_bs_ok (be : Nat) (p q : Value) (u : FrameMode) (w : World) (he : w.cell? ⟨be, 0, none⟩ = some (.int .i64 0)) :
    CallsD Tryz.prog 85 #[.pointer (some ⟨be, 0, none⟩), p, q] u w fun e u' w' => u' = u ∧ (e = .returned (.tuple #[]) ∧ w = w') := by
  go_enter_d Tryz.func85, Tryz.ntmps85
  go_wp2
  go_end0
  exact ⟨rfl, rfl⟩

set_option maxHeartbeats 400000 in
theorem restore_bs_bad (be bs bc c : Nat) (err x v : Int) (u : FrameMode) (w : World) (he : w.cell? ⟨be, 0, none⟩ = some (.int .i64 err)) (hn : (err != 0) = true) (hs : w.cell? ⟨bs, 0, none⟩ = some (.int .i64 x))
    (hb : w.cell? ⟨bc, 0, none⟩ = some (.pointer (some ⟨c, 0, none⟩))) (hc : w.cell? ⟨c, 1, none⟩ = some (.int .i64 v)) (hf : w.frozen? ⟨c, 1, none⟩ = false) :
    CallsD Tryz.prog 85 #[.pointer (some ⟨be, 0, none⟩), .pointer (some ⟨bs, 0, none⟩), .pointer (some ⟨bc, 0, none⟩)] u w fun e u' w' => u' = u ∧ (e = .returned (.tuple #[]) ∧ w' = w.setCell ⟨c, 1, none⟩ (.int .i64 x)) := by
  go_enter_d Tryz.func85, Tryz.ntmps85
  go_wp2
  go_end0
  exact ⟨rfl, rfl⟩

set_option maxHeartbeats 400000 in
theorem read_bs_nil (g : Value) (w : World) : Calls Tryz.prog 61 #[.pointer none, g] w fun e w' => e = .returned (.tuple #[.slice none 0 0, .int .i64 1]) ∧ Below w.heap.size w w' := by
  have hmf : ∀ (fn : Fn) (first cap : Array Value) (w : World), (Instr.makeFunc fn first cap).run Tryz.prog w = .ok (.func fn first cap) w := fun _ _ _ _ => rfl
  go_enter_defers Tryz.func61, Tryz.ntmps61
  go_wp2
  simp [bodyPostD, Leaves, results, Tryz.results61, go_sem]
  exact ((Below.refl _ _).alloc (Nat.le_refl _) _).alloc (by simp) _

set_option maxHeartbeats 1000000 in
theorem read_bs_any {w : World} {c : Nat} {A : Option Addr} {cap : Nat} {l : List UInt8} {k : Nat} (h : Cur w c A cap l k) (cs : Array Value) (k1 : Nat) (Ok : World → Value → Int → World → Prop)
    (hT : ∀ W, Below w.heap.size w W → W.heap.size = w.heap.size + 3 → Calls Tryz.prog 62 cs W (TakePost W c A cap l k1 Ok)) :
    Calls Tryz.prog 61 #[.pointer (some ⟨c, 0, none⟩), .func (.func 62) #[] cs] w (ReadPost w c A cap l k k1 Ok) := by
  have hmf : ∀ (fn : Fn) (first cap : Array Value) (w : World), (Instr.makeFunc fn first cap).run Tryz.prog w = .ok (.func fn first cap) w := fun _ _ _ _ => rfl
  have h1 := h.blk.cell1
  have hcl := h.blk.lt
  have H := Lib.hid h
  obtain ⟨W, hW⟩ : ∃ W, (((w.alloc (Obj.cells #[Value.pointer (some ⟨c, 0, none⟩)] 34)).alloc (Obj.cells #[Value.int IntKind.i64 0] 29)).alloc (Obj.cells #[Value.int IntKind.i64 (k : Int)] 3)) = W := ⟨_, rfl⟩
  have hWs : W.heap.size = w.heap.size + 3 := by rw [← hW]; simp
  have hWb : Below w.heap.size w W := by rw [← hW]; exact (((Below.refl _ _).alloc (Nat.le_refl _) _).alloc (by simp) _).alloc (by simp; omega) _
  have q0 : W.cell? ⟨w.heap.size, 0, none⟩ = some (.pointer (some ⟨c, 0, none⟩)) := by rw [← hW]; simp [go_sem]
  have q1 : W.cell? ⟨w.heap.size + 1, 0, none⟩ = some (.int .i64 0) := by rw [← hW]; simp [go_sem]
  have q2 : W.cell? ⟨w.heap.size + 1 + 1, 0, none⟩ = some (.int .i64 (k : Int)) := by rw [← hW]; simp [go_sem]
  have f1 : W.frozen? ⟨w.heap.size + 1, 0, none⟩ = false := by rw [← hW]; simp [go_sem]
  have HT := Lib.hid (hT W hWb hWs)
  have HW := Lib.hid hW
  have HWs := Lib.hid hWs
  have HWb := Lib.hid hWb
  have Q := Lib.hid (And.intro q0 (And.intro q1 (And.intro q2 f1)))
  clear h hT hW hWs hWb q0 q1 q2 f1
  go_enter_defers Tryz.func61, Tryz.ntmps61
  go_wp2_with fail
  rw [HW.out]
  refine HT.out.mono ?_
  rintro e W1 ⟨v, err, rfl, ⟨k', hc1, hk1⟩, hg1, hok⟩
  obtain ⟨q0, q1, q2, f1⟩ := Q.out
  have hlt1 : w.heap.size + 1 < W.heap.size := by have := HWs.out; omega
  have r0 : W1.cell? ⟨w.heap.size, 0, none⟩ = some (.pointer (some ⟨c, 0, none⟩)) := hg1.cell q0 (by simp; omega)
  have r1 : W1.cell? ⟨w.heap.size + 1, 0, none⟩ = some (.int .i64 0) := hg1.cell q1 (by simp; omega)
  have r2 : W1.cell? ⟨w.heap.size + 1 + 1, 0, none⟩ = some (.int .i64 (k : Int)) := hg1.cell q2 (by simp; omega)
  have f2 : W1.frozen? ⟨w.heap.size + 1, 0, none⟩ = false := (World.frozen?_of_block (w := W) (hg1.block _ hlt1 (by simp; omega))).trans f1
  have HC := Lib.hid hc1
  have HK := Lib.hid hk1
  have HG := Lib.hid hg1
  have HO := Lib.hid hok
  clear hc1 hk1 hg1 hok q0 q1 q2 f1 hlt1 h1
  have s1 : (W1.setCell ⟨w.heap.size + 1, 0, none⟩ (.int .i64 err)).cell? ⟨w.heap.size + 1, 0, none⟩ = some (.int .i64 err) := World.cell?_setCell_same' _ _ _ (by rw [r1]; rfl)
  have S1 := Lib.hid s1
  clear s1
  go_wp2
  refine leaves_cons (f := 85) (args := #[.pointer (some ⟨w.heap.size + 1, 0, none⟩), .pointer (some ⟨w.heap.size + 1 + 1, 0, none⟩), .pointer (some ⟨w.heap.size, 0, none⟩)]) (by simp) (by simp [go_sem]) ?_
  by_cases he : err = 0
  · refine (restore_bs_ok (w.heap.size + 1) _ _ .returning _ ?_).mono ?_
    · rw [S1.out, he]
    rintro e u' w2 ⟨rfl, rfl, rfl⟩
    simp only [Leaves, settle]
    refine ⟨_, ?_, readPost_ok HWb.out HWs.out hcl HG.out HC.out HK.out 0 r1 _ HO.out he⟩
    simp [results, Tryz.results61, go_sem, S1.out]
  · have c1 : (W1.setCell ⟨w.heap.size + 1, 0, none⟩ (.int .i64 err)).cell? ⟨c, 1, none⟩ = some (.int .i64 (k' : Int)) := by
      rw [World.cell?_setCell_other _ _ _ _ (by simp)]; exact HC.out.blk.cell1
    have c2 : (W1.setCell ⟨w.heap.size + 1, 0, none⟩ (.int .i64 err)).frozen? ⟨c, 1, none⟩ = false := by
      rw [World.frozen?_setCell]; exact HC.out.blk.free 1
    refine (restore_bs_bad (w.heap.size + 1) (w.heap.size + 1 + 1) w.heap.size c err k k' .returning _ S1.out (by rw [bne_iff_ne]; exact he) ?_ ?_ c1 c2).mono ?_
    · rw [World.cell?_setCell_other _ _ _ _ (by simp)]; exact r2
    · rw [World.cell?_setCell_other _ _ _ _ (by simp)]; exact r0
    rintro e u' w2 ⟨rfl, rfl, rfl⟩
    simp only [Leaves, settle]
    have s2 : ((W1.setCell ⟨w.heap.size + 1, 0, none⟩ (.int .i64 err)).setCell ⟨c, 1, none⟩ (.int .i64 (k : Int))).cell? ⟨w.heap.size + 1, 0, none⟩ = some (.int .i64 err) := by
      rw [World.cell?_setCell_other _ _ _ _ (by simp)]; exact S1.out
    refine ⟨_, ?_, readPost_bad HWb.out HWs.out hcl HG.out HC.out H.out.le 0 r1 _ HO.out he⟩
    simp [results, Tryz.results61, go_sem, s2]
end

section
open Go.RowKit Go.Shelf
theorem Cur.alloc {w : World} {c : Nat} {A : Option Addr} {cap : Nat} {l : List UInt8} {k : Nat} (h : Cur w c A cap l k) (o : Obj) : Cur (w.alloc o) c A cap l k := h.below ((Below.refl _ _).alloc (Nat.le_refl _) _)
end

end Go.Proofs.YtnlhokfhkohdpaaGreat.Nm

namespace Go.Proofs.YtnlhokfhkohdpaaGreat.Nm

section
open Go.RowKit Go.Shelf
/-- The error of a read of n bytes where m are left. -/
def cutE (n : Int) (m : Nat) : Int := if n < 0 then 2 else if (m : Int) < n then 3 else 0

theorem cutE_neg {n : Int} {m : Nat} (h : n < 0) : cutE n m = 2 := by rw [cutE, if_pos h]
theorem cutE_short {n : Int} {m : Nat} (h0 : 0 ≤ n) (h : (m : Int) < n) : cutE n m = 3 := by rw [cutE, if_neg (by omega), if_pos h]
theorem cutE_ok {n : Int} {m : Nat} (h0 : 0 ≤ n) (h : n ≤ (m : Int)) : cutE n m = 0 := by rw [cutE, if_neg (by omega), if_neg (by omega)]

/-- The inner step's answer for Bytes. -/
def OkBs (s : List UInt8) (n : Int) (m : Nat) (W : World) (v : Value) (err : Int) (W1 : World) : Prop :=
  err = cutE n m ∧ (err ≠ 0 → v = .slice none 0 0) ∧ (err = 0 → ∃ A c, v = .slice A s.length c ∧ W1.ownsRow W.heap.size 5 1 (.slice A s.length c) s.length (s.map byt))

theorem own_mono {w : World} {b b' : Nat} {e : TypeId} {v : Value} {n : Nat} {xs : List Value} (h : w.ownsRow b e 1 v n xs) (hb : b' ≤ b) : w.ownsRow b' e 1 v n xs := by
  refine ⟨h.1, ?_⟩
  rcases h.2 with h2 | ⟨g, c, cur, h1, h2, h3⟩
  · exact .inl h2
  · exact .inr ⟨g, c, cur, h1, by omega, h3⟩

theorem own_same {w w' : World} {b : Nat} {e : TypeId} {v : Value} {n : Nat} {xs : List Value} (h : w.ownsRow b e 1 v n xs) (hb : ∀ j, b ≤ j → w'.heap[j]? = w.heap[j]?) : w'.ownsRow b e 1 v n xs := by
  refine ⟨h.1, ?_⟩
  rcases h.2 with h2 | ⟨g, c, cur, h1, h2, h3, h4⟩
  · exact .inl h2
  · exact .inr ⟨g, c, cur, h1, h2, by rw [hb g h2]; exact h3, h4⟩

theorem extend_n (w : World) (A : Option Addr) (l : List UInt8) (n cap : Nat) (r : Int) (hn : l.length = n) (h0 : 0 ≤ r) (h1 : r ≤ 16) (hs : n ≤ 281474976710000) (hR : Rd w A l) :
    Calls Tryz.prog 23 #[.slice A n cap, .int .i64 r] w (Made w w.heap.size l (l.length + r.toNat)) := by
  subst hn
  exact extend_any w A l cap r h0 h1 hs hR

set_option maxHeartbeats 1000000 in
theorem bytes1_any {w : World} {c : Nat} {A : Option Addr} {cap : Nat} {l : List UInt8} {k B B' : Nat} {n : Int} (h : Cur w c A cap l k) (hs : l.length ≤ 281474976710000) (hB : w.cell? ⟨B, 0, none⟩ = some (.pointer (some ⟨c, 0, none⟩))) (hB' : w.cell? ⟨B', 0, none⟩ = some (.int .i64 n)) :
    Calls Tryz.prog 62 #[.pointer (some ⟨B, 0, none⟩), .pointer (some ⟨B', 0, none⟩)] w (TakePost w c A cap l (k + n.toNat) (OkBs ((l.drop k).take n.toNat) n (l.length - k))) := by
  have hle := h.le
  by_cases hneg : n < 0
  · have HX := Lib.hid (next_neg w (.pointer (some ⟨c, 0, none⟩)) n hneg)
    have H := Lib.hid h
    clear h
    go_enter Tryz.func62, Tryz.ntmps62
    go_wp2_with fail
    refine HX.out.mono ?_
    rintro e w1 ⟨rfl, rfl⟩
    go_wp2
    go_ret2
    exact ⟨_, _, rfl, ⟨k, H.out, fun h => by simp at h⟩, World.grownBy.refl _ _, (cutE_neg hneg).symm, fun _ => rfl, fun h => by simp at h⟩
  · by_cases hsh : ((l.length - k : Nat) : Int) < n
    · have HX := Lib.hid (next_short h n (by omega) (by omega))
      have H := Lib.hid h
      have HS := Lib.hid (cutE_short (by omega) hsh)
      clear h hsh hneg
      go_enter Tryz.func62, Tryz.ntmps62
      go_wp2_with fail
      refine HX.out.mono ?_
      rintro e w1 ⟨rfl, d, rfl⟩
      go_wp2
      go_ret2
      exact ⟨_, _, rfl, ⟨k, H.out.drewN d, fun h => by simp at h⟩, grown_drewN (World.grownBy.refl _ _) d, HS.out.symm, fun _ => rfl, fun h => by simp at h⟩
    · have HX := Lib.hid (next_ok h n (by omega) (by omega))
      have HS := Lib.hid (cutE_ok (n := n) (m := l.length - k) (by omega) (by omega))
      have hln : ((l.drop k).take n.toNat).length = n.toNat := by simp; omega
      have HL := Lib.hid hln
      have hsz : n.toNat ≤ 281474976710000 := by omega
      clear h hsh hneg hln
      obtain ⟨s, hss⟩ : ∃ s, (l.drop k).take n.toNat = s := ⟨_, rfl⟩
      have HSS := Lib.hid hss
      rw [hss] at HL ⊢
      clear hss
      go_enter Tryz.func62, Tryz.ntmps62
      go_wp2_with fail
      refine HX.out.mono ?_
      rintro e w1 ⟨A', c', rfl, hrd, hcur, hg⟩
      rw [HSS.out] at hrd
      have HE := Lib.hid (extend_n w1 A' s n.toNat c' 0 HL.out (by omega) (by omega) hsz hrd)
      have HC := Lib.hid hcur
      have HG := Lib.hid hg
      clear hrd hcur hg
      go_wp2_with fail
      refine HE.out.mono ?_
      rintro e w2 ⟨rfl, hown, hb⟩
      have HO := Lib.hid hown
      have HB2 := Lib.hid hb
      clear hown hb
      go_wp2
      go_ret2
      exact ⟨_, _, rfl, ⟨_, HC.out.below HB2.out, fun _ => rfl⟩, grown_trans HG.out (grown_of_below HB2.out _), HS.out.symm, fun h => absurd rfl h, fun _ => ⟨_, _, rfl, own_mono HO.out HG.out.size⟩⟩

/-- What Bytes leaves. -/
def BytesPost (w : World) (c : Nat) (A : Option Addr) (cap : Nat) (l : List UInt8) (k : Nat) (n : Int) (e : Ending) (w' : World) : Prop :=
  ∃ v, e = .returned (.tuple #[v, .int .i64 (cutE n (l.length - k))]) ∧ Cur w' c A cap l (if cutE n (l.length - k) = 0 then k + n.toNat else k) ∧ w.grownBy w' (some c) ∧ (cutE n (l.length - k) ≠ 0 → v = .slice none 0 0) ∧
    (cutE n (l.length - k) = 0 → ∃ A' c', v = .slice A' ((l.drop k).take n.toNat).length c' ∧ w'.ownsRow w.heap.size 5 1 (.slice A' ((l.drop k).take n.toNat).length c') ((l.drop k).take n.toNat).length (((l.drop k).take n.toNat).map byt))

set_option maxHeartbeats 400000 in
theorem bytes_any {w : World} {c : Nat} {A : Option Addr} {cap : Nat} {l : List UInt8} {k : Nat} (h : Cur w c A cap l k) (hs : l.length ≤ 281474976710000) (n : Int) :
    Calls Tryz.prog 27 #[.pointer (some ⟨c, 0, none⟩), .int .i64 n] w (BytesPost w c A cap l k n) := by
  have hmf : ∀ (fn : Fn) (first cap : Array Value) (w : World), (Instr.makeFunc fn first cap).run Tryz.prog w = .ok (.func fn first cap) w := fun _ _ _ _ => rfl
  have hcl := h.blk.lt
  obtain ⟨w0, hw0⟩ : ∃ w0, (w.alloc (.cells #[.pointer (some ⟨c, 0, none⟩)] 34)).alloc (.cells #[.int .i64 n] 3) = w0 := ⟨_, rfl⟩
  have hc0 : Cur w0 c A cap l k := by rw [← hw0]; exact (h.alloc _).alloc _
  have hT : ∀ W, Below w0.heap.size w0 W → W.heap.size = w0.heap.size + 3 →
      Calls Tryz.prog 62 #[.pointer (some ⟨w.heap.size, 0, none⟩), .pointer (some ⟨w.heap.size + 1, 0, none⟩)] W (TakePost W c A cap l (k + n.toNat) (OkBs ((l.drop k).take n.toNat) n (l.length - k))) := by
    intro W hb _
    refine bytes1_any (hc0.below hb) hs ?_ ?_
    · rw [hb.cell (by rw [← hw0]; simp; omega), ← hw0]; simp [go_sem]
    · rw [hb.cell (by rw [← hw0]; simp), ← hw0]; simp [go_sem]
  have HX := Lib.hid (read_bs_any hc0 _ _ _ hT)
  have HW := Lib.hid hw0
  clear h hT hw0 hc0 hs
  go_enter Tryz.func27, Tryz.ntmps27
  go_wp2_with fail
  rw [HW.out]
  refine HX.out.mono ?_
  rintro e w1 ⟨v, err, W, W1, rfl, hc, hg, hb, hWs, ⟨rfl, hbad, hok⟩, hsm, hsz⟩
  have hg0 : w.grownBy w1 (some c) := by
    rw [← HW.out] at hg
    exact grown_trans (World.grownBy_alloc w _ (some c)) (grown_trans (World.grownBy_alloc _ _ (some c)) hg)
  have hw0s : w.heap.size ≤ W.heap.size := by rw [hWs, ← HW.out]; simp; omega
  have hok' : cutE n (l.length - k) = 0 → ∃ A' c', v = .slice A' ((l.drop k).take n.toNat).length c' ∧ w1.ownsRow w.heap.size 5 1 (.slice A' ((l.drop k).take n.toNat).length c') ((l.drop k).take n.toNat).length (((l.drop k).take n.toNat).map byt) := by
    intro h0
    obtain ⟨A', c', hv, ho⟩ := hok h0
    exact ⟨A', c', hv, own_mono (own_same ho hsm) hw0s⟩
  have R := Lib.hid (And.intro hc (And.intro hg0 (And.intro hbad hok')))
  clear hc hg hb hWs hbad hok hsm hsz hg0 hw0s hok'
  go_wp2
  go_ret2
  exact ⟨_, rfl, R.out⟩

set_option maxHeartbeats 400000 in
theorem bytes_nil (w : World) (n : Int) : Calls Tryz.prog 27 #[.pointer none, .int .i64 n] w fun e w' => e = .returned (.tuple #[.slice none 0 0, .int .i64 1]) ∧ Below w.heap.size w w' := by
  have hmf : ∀ (fn : Fn) (first cap : Array Value) (w : World), (Instr.makeFunc fn first cap).run Tryz.prog w = .ok (.func fn first cap) w := fun _ _ _ _ => rfl
  go_enter Tryz.func27, Tryz.ntmps27
  go_wp2_with fail
  refine (read_bs_nil _ _).mono ?_
  rintro e w1 ⟨rfl, hb⟩
  go_wp2
  go_ret2
  exact ⟨rfl, (((Below.refl _ _).alloc (Nat.le_refl _) _).alloc (by simp) _).trans (hb.mono (by simp; omega))⟩
end

section
open Go.RowKit Go.Shelf
theorem new_n (w : World) (A : Option Addr) (l : List UInt8) (n cap : Nat) (hn : l.length = n) (hs : n ≤ 281474976710000) (hR : Rd w A l) : Calls Tryz.prog 9 #[.slice A n cap] w (NewC w l) := by
  subst hn
  exact new_any w A l cap hs hR

theorem below_on {B : Nat} {w a b : World} (h : Below B w a) (hB : B ≤ w.heap.size) (k : Below a.heap.size a b) : Below B w b := h.trans (k.mono (Nat.le_trans hB h.size))
end

section
open Go.RowKit Go.Shelf
set_option maxHeartbeats 400000 in
theorem peek_nil (w : World) (n : Int) : Calls Tryz.prog 25 #[.pointer none, .int .i64 n] w fun e w' => e = .returned (.slice none 0 0) ∧ w = w' := by
  go_enter Tryz.func25, Tryz.ntmps25
  go_wp2
  go_ret
  exact ⟨rfl, rfl⟩

set_option maxRecDepth 100000 in
set_option maxHeartbeats 1000000 in
theorem peek_any {w : World} {c : Nat} {A : Option Addr} {cap : Nat} {l : List UInt8} {k : Nat} (h : Cur w c A cap l k) (hs : l.length ≤ 281474976710000) (n : Int) :
    Calls Tryz.prog 25 #[.pointer (some ⟨c, 0, none⟩), .int .i64 n] w (Got w ((l.drop k).take n.toNat)) := by
  have hle := h.le
  have hcap := h.cap
  have h1 := h.blk.cell1
  have h2 := h.blk.cell0
  have H := Lib.hid h
  obtain ⟨M, hM⟩ : ∃ M, l.length = k + M := ⟨l.length - k, by omega⟩
  rw [hM] at hle hcap h2 hs
  have HM := Lib.hid hM
  clear h hM hle
  have HL : Hid (∀ d, Calls Tryz.prog 30 #[.pointer (some ⟨c, 0, none⟩)] (w.drewN d) fun e w' => e = .returned (.int .i64 (M : Int)) ∧ ∃ m, w' = (w.drewN d).drewN m) := by
    refine Lib.hid fun d => ?_
    have := left_any (H.out.drewN d).blk H.out.le H.out.small
    rw [HM.out, show (((k + M : Nat) : Int) - (k : Int)) = (M : Int) by omega] at this
    exact this
  obtain ⟨m, hm, hmM⟩ : ∃ m : Nat, (l.drop k).take n.toNat = (l.drop k).take m ∧ m ≤ M ∧ (n < 0 ∧ m = 0 ∨ 0 ≤ n ∧ n ≤ (M : Int) ∧ n = (m : Int) ∨ (M : Int) < n ∧ m = M) := by
    by_cases h1 : n < 0
    · exact ⟨0, by rw [show n.toNat = 0 by omega], by omega, .inl ⟨h1, rfl⟩⟩
    · by_cases h2 : n ≤ (M : Int)
      · exact ⟨n.toNat, rfl, by omega, .inr (.inl ⟨by omega, h2, by omega⟩)⟩
      · refine ⟨M, ?_, by omega, .inr (.inr ⟨by omega, rfl⟩)⟩
        have := HM.out
        rw [List.take_of_length_le (by simp; omega), List.take_of_length_le (by simp; omega)]
  rw [hm]
  obtain ⟨hmM, hcase⟩ := hmM
  have hsl : ((l.drop k).take m).length = m := by have := HM.out; simp; omega
  obtain ⟨s, hss⟩ : ∃ s, (l.drop k).take m = s := ⟨_, rfl⟩
  have HS := Lib.hid hss
  rw [hss] at hsl ⊢
  have HSL := Lib.hid hsl
  clear hm hss hsl
  rcases hcase with ⟨hn, rfl⟩ | ⟨hn, hn2, rfl⟩ | ⟨hn, rfl⟩
  · go_enter Tryz.func25, Tryz.ntmps25
    go_wp2
    go_quiet ((go_at_call 30; exact Calls.quiet_of (HL.out _)))
    go_wp2
    refine wp_region_still_tail 10 (by kernel_rfl) (by kernel_rfl) ?_
    obtain ⟨w2, hw2⟩ : ∃ w2, (w.drewN nq).drew = w2 := ⟨_, rfl⟩
    change wpStill _ _ (w.drewN nq).drew (fun a' => wpList _ _ _ _ a' (w.drewN nq).drew) _ _
    rw [hw2]
    have r1 : w2.cell? ⟨c, 1, none⟩ = some (.int .i64 (k : Int)) := by rw [← hw2]; exact h1
    have r2 : w2.cell? ⟨c, 0, none⟩ = some (.slice A (k + M) cap) := by rw [← hw2]; exact h2
    have r3 : Rd w2 A l := by rw [← hw2]; exact H.out.rd
    have r4 : Below w.heap.size w w2 := by rw [← hw2]; exact (below_drewN' (Below.refl _ _) nq).drew
    have R3 := Lib.hid r3
    have R4 := Lib.hid r4
    clear hw2 r3 r4 h1 h2
    have hkc : k ≤ cap := by omega
    have hkm : k + 0 ≤ cap := by omega
    simp only [List.take_succ_cons, List.take_zero, List.drop_succ_cons, List.drop_zero]
    by_cases hck : cap = k
    · repeat still_step
      refine wpStill_nil ?_
      have hm0 : 0 = 0 := by omega
      have hs0 : s = [] := List.eq_nil_of_length_eq_zero (HSL.out.trans hm0)
      have HE := Lib.hid (fun cc => extend_n w2 A s 0 cc 0 HSL.out (by omega) (by omega) (by omega) (by rw [hs0]; exact Rd.nil _ _))
      clear hs0 hm0
      go_wp2_with fail
      refine (HE.out _).mono ?_
      rintro e w3 ⟨rfl, hown, hb⟩
      have HO := Lib.hid hown
      have HB := Lib.hid hb
      clear hown hb
      go_wp2
      go_ret
      exact ⟨_, rfl, OwnB.mk (own_mono HO.out R4.out.size) (below_on R4.out (Nat.le_refl _) HB.out)⟩
    · repeat still_step
      refine wpStill_nil ?_
      have HE := Lib.hid (fun cc => extend_n w2 (A.map (·.add k)) s 0 cc 0 HSL.out (by omega) (by omega) (by omega) (by rw [← HS.out]; exact R3.out.cut k 0))
      go_wp2_with fail
      refine (HE.out _).mono ?_
      rintro e w3 ⟨rfl, hown, hb⟩
      have HO := Lib.hid hown
      have HB := Lib.hid hb
      clear hown hb
      go_wp2
      go_ret
      exact ⟨_, rfl, OwnB.mk (own_mono HO.out R4.out.size) (below_on R4.out (Nat.le_refl _) HB.out)⟩
  · go_enter Tryz.func25, Tryz.ntmps25
    go_wp2
    go_quiet ((go_at_call 30; exact Calls.quiet_of (HL.out _)))
    go_wp2
    refine wp_region_still_tail 10 (by kernel_rfl) (by kernel_rfl) ?_
    obtain ⟨w2, hw2⟩ : ∃ w2, (w.drewN nq).drew = w2 := ⟨_, rfl⟩
    change wpStill _ _ (w.drewN nq).drew (fun a' => wpList _ _ _ _ a' (w.drewN nq).drew) _ _
    rw [hw2]
    have r1 : w2.cell? ⟨c, 1, none⟩ = some (.int .i64 (k : Int)) := by rw [← hw2]; exact h1
    have r2 : w2.cell? ⟨c, 0, none⟩ = some (.slice A (k + M) cap) := by rw [← hw2]; exact h2
    have r3 : Rd w2 A l := by rw [← hw2]; exact H.out.rd
    have r4 : Below w.heap.size w w2 := by rw [← hw2]; exact (below_drewN' (Below.refl _ _) nq).drew
    have R3 := Lib.hid r3
    have R4 := Lib.hid r4
    clear hw2 r3 r4 h1 h2
    have hkc : k ≤ cap := by omega
    have hkm : k + m ≤ cap := by omega
    simp only [List.take_succ_cons, List.take_zero, List.drop_succ_cons, List.drop_zero]
    by_cases hck : cap = k
    · have x1 : IntKind.i64.wrap ((k : Int) + (m : Int)) = (k : Int) + (m : Int) := IntWalk.i64_in _ (by omega)
      have x2 : (0 : Int) ≤ (k : Int) + (m : Int) := by omega
      have x3 : ((k : Int) + (m : Int)).toNat = k + m := by omega
      have x4 : (k : Int) + (m : Int) ≤ (k : Int) := by omega
      repeat still_step
      refine wpStill_nil ?_
      clear x1 x2 x3 x4
      have hm0 : m = 0 := by omega
      have hs0 : s = [] := List.eq_nil_of_length_eq_zero (HSL.out.trans hm0)
      have HE := Lib.hid (fun cc => extend_n w2 A s m cc 0 HSL.out (by omega) (by omega) (by omega) (by rw [hs0]; exact Rd.nil _ _))
      clear hs0 hm0
      go_wp2_with fail
      refine (HE.out _).mono ?_
      rintro e w3 ⟨rfl, hown, hb⟩
      have HO := Lib.hid hown
      have HB := Lib.hid hb
      clear hown hb
      go_wp2
      go_ret
      exact ⟨_, rfl, OwnB.mk (own_mono HO.out R4.out.size) (below_on R4.out (Nat.le_refl _) HB.out)⟩
    · have x1 : IntKind.i64.wrap ((k : Int) + (m : Int)) = (k : Int) + (m : Int) := IntWalk.i64_in _ (by omega)
      have x2 : (0 : Int) ≤ (k : Int) + (m : Int) := by omega
      have x3 : ((k : Int) + (m : Int)).toNat = k + m := by omega
      have x4 : (k : Int) + (m : Int) ≤ (cap : Int) := by omega
      repeat still_step
      refine wpStill_nil ?_
      clear x1 x2 x3 x4
      have HE := Lib.hid (fun cc => extend_n w2 (A.map (·.add k)) s m cc 0 HSL.out (by omega) (by omega) (by omega) (by rw [← HS.out]; exact R3.out.cut k m))
      go_wp2_with fail
      refine (HE.out _).mono ?_
      rintro e w3 ⟨rfl, hown, hb⟩
      have HO := Lib.hid hown
      have HB := Lib.hid hb
      clear hown hb
      go_wp2
      go_ret
      exact ⟨_, rfl, OwnB.mk (own_mono HO.out R4.out.size) (below_on R4.out (Nat.le_refl _) HB.out)⟩
  · go_enter Tryz.func25, Tryz.ntmps25
    go_wp2
    go_quiet ((go_at_call 30; exact Calls.quiet_of (HL.out _)))
    go_wp2
    refine wp_region_still_tail 10 (by kernel_rfl) (by kernel_rfl) ?_
    obtain ⟨w2, hw2⟩ : ∃ w2, (w.drewN nq).drew = w2 := ⟨_, rfl⟩
    change wpStill _ _ (w.drewN nq).drew (fun a' => wpList _ _ _ _ a' (w.drewN nq).drew) _ _
    rw [hw2]
    have r1 : w2.cell? ⟨c, 1, none⟩ = some (.int .i64 (k : Int)) := by rw [← hw2]; exact h1
    have r2 : w2.cell? ⟨c, 0, none⟩ = some (.slice A (k + m) cap) := by rw [← hw2]; exact h2
    have r3 : Rd w2 A l := by rw [← hw2]; exact H.out.rd
    have r4 : Below w.heap.size w w2 := by rw [← hw2]; exact (below_drewN' (Below.refl _ _) nq).drew
    have R3 := Lib.hid r3
    have R4 := Lib.hid r4
    clear hw2 r3 r4 h1 h2
    have hkc : k ≤ cap := by omega
    have hkm : k + m ≤ cap := by omega
    simp only [List.take_succ_cons, List.take_zero, List.drop_succ_cons, List.drop_zero]
    by_cases hck : cap = k
    · have x1 : IntKind.i64.wrap ((k : Int) + (m : Int)) = (k : Int) + (m : Int) := IntWalk.i64_in _ (by omega)
      have x2 : (0 : Int) ≤ (k : Int) + (m : Int) := by omega
      have x3 : ((k : Int) + (m : Int)).toNat = k + m := by omega
      have x4 : (k : Int) + (m : Int) ≤ (k : Int) := by omega
      repeat still_step
      refine wpStill_nil ?_
      clear x1 x2 x3 x4
      have hm0 : m = 0 := by omega
      have hs0 : s = [] := List.eq_nil_of_length_eq_zero (HSL.out.trans hm0)
      have HE := Lib.hid (fun cc => extend_n w2 A s m cc 0 HSL.out (by omega) (by omega) (by omega) (by rw [hs0]; exact Rd.nil _ _))
      clear hs0 hm0
      go_wp2_with fail
      refine (HE.out _).mono ?_
      rintro e w3 ⟨rfl, hown, hb⟩
      have HO := Lib.hid hown
      have HB := Lib.hid hb
      clear hown hb
      go_wp2
      go_ret
      exact ⟨_, rfl, OwnB.mk (own_mono HO.out R4.out.size) (below_on R4.out (Nat.le_refl _) HB.out)⟩
    · have x1 : IntKind.i64.wrap ((k : Int) + (m : Int)) = (k : Int) + (m : Int) := IntWalk.i64_in _ (by omega)
      have x2 : (0 : Int) ≤ (k : Int) + (m : Int) := by omega
      have x3 : ((k : Int) + (m : Int)).toNat = k + m := by omega
      have x4 : (k : Int) + (m : Int) ≤ (cap : Int) := by omega
      repeat still_step
      refine wpStill_nil ?_
      clear x1 x2 x3 x4
      have HE := Lib.hid (fun cc => extend_n w2 (A.map (·.add k)) s m cc 0 HSL.out (by omega) (by omega) (by omega) (by rw [← HS.out]; exact R3.out.cut k m))
      go_wp2_with fail
      refine (HE.out _).mono ?_
      rintro e w3 ⟨rfl, hown, hb⟩
      have HO := Lib.hid hown
      have HB := Lib.hid hb
      clear hown hb
      go_wp2
      go_ret
      exact ⟨_, rfl, OwnB.mk (own_mono HO.out R4.out.size) (below_on R4.out (Nat.le_refl _) HB.out)⟩
end

end Go.Proofs.YtnlhokfhkohdpaaGreat.Nm
