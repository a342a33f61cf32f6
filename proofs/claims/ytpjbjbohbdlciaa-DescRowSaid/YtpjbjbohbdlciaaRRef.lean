/-
  What num.extend does: a new row that holds the bytes, with room for r more; nothing that was there has changed. Conditions: r from 0 to 16, fewer than 2^48 - 1000 bytes.
  Bytes in new memory: words that the texts on cursors share. No condition.
  Bytes in new memory: a literal. No condition.
-/
import Derived.Test.YtpjbjbohbdlciaaProg
import Derived.Test.YtpjbjbohbdlciaaRBase
import Derived.WalkKit
import Derived.WalkSpells
import Derived.WalkLawsBesides
import Derived.Laws.CopyOwn
import Derived.Shelf.Abstract
import Derived.Laws.IdiomStrings
import Derived.Laws.AppendOwnNone
namespace Go.Proofs.Ytpjbjbohbdlciaa.Nm

section
open Go.RowKit
theorem byte_info : (Try.prog.info? 5).map (fun i => (i.zero, i.size, i.bytes)) = some (some (.int .u8 0), 1, 1) := by kernel_rfl
theorem byte_size : (Try.prog.info? 5).map (·.size) = some 1 := by kernel_rfl

/-- A new row with the bytes l and capacity c, at the head of block g. -/
def Made (w : World) (g : Nat) (l : List UInt8) (c : Nat) (e : Ending) (w' : World) : Prop :=
  e = .returned (.slice (some ⟨g, 0, none⟩) l.length c) ∧ w'.ownsRow g 5 1 (.slice (some ⟨g, 0, none⟩) l.length c) l.length (l.map byt) ∧ Below w.heap.size w w'

theorem made_own {w' : World} {g n r : Nat} {Z X : List Value} (hz : Z.length = n + r) (hx : X.length = n) (hm : n + r ≤ maxLen) (hg : w'.heap[g]? = some (.cells (splice Z 0 X).toArray 5 (0, 0))) :
    w'.ownsRow g 5 1 (.slice (some ⟨g, 0, none⟩) n (n + r)) n X := by
  refine ⟨by omega, .inr ⟨g, n + r, _, rfl, Nat.le_refl _, hg, by omega, hm, ?_, ?_⟩⟩
  · simp only [List.size_toArray]
    rw [length_splice _ _ _ (by omega)]; omega
  · simp [splice, ← hx]

set_option maxHeartbeats 400000 in
theorem extend_any (w : World) (A : Option Addr) (l : List UInt8) (cap : Nat) (r : Int) (h0 : 0 ≤ r) (h1 : r ≤ 16) (hs : l.length ≤ 281474976710000) (hR : Rd w A l) :
    Calls Try.prog 37 #[.slice A l.length cap, .int .i64 r] w (Made w w.heap.size l (l.length + r.toNat)) := by
  obtain ⟨r, rfl⟩ := Int.eq_ofNat_of_zero_le h0
  obtain ⟨n, hn⟩ : ∃ n, l.length = n := ⟨_, rfl⟩
  obtain ⟨X, hX⟩ : ∃ X, l.map byt = X := ⟨_, rfl⟩
  have hXl : X.length = n := by rw [← hX, ← hn]; simp
  have hX1 : ∀ v ∈ X, v.oneCell' = true := by
    intro v hv
    rw [← hX] at hv
    obtain ⟨b, _, rfl⟩ := List.mem_map.1 hv
    rfl
  have hXc : 0 < X.length → ∃ ad, A = some ad ∧ ∀ j v, X[j]? = some v → w.cell? (ad.add j) = some v := by
    intro hp
    obtain ⟨ad, hA, _⟩ := hR 0 (l[0]'(by omega)) (List.getElem?_eq_getElem (by omega))
    refine ⟨ad, hA, fun j v hj => ?_⟩
    rw [← hX, List.getElem?_map] at hj
    obtain ⟨b, hb, rfl⟩ := Option.map_eq_some_iff.1 hj
    obtain ⟨ad', hA', hc⟩ := hR j b hb
    rw [hA] at hA'
    injection hA' with hA'
    rw [hA']; exact hc
  obtain ⟨i0, hi, hz0, hz1, hz2⟩ := info_parts byte_info
  obtain ⟨Z, hZ⟩ : ∃ Z, (madeCells (Value.cells (.int .u8 0)) ((n + r) * i0.size)).toList = Z := ⟨_, rfl⟩
  have hZl : Z.length = n + r := by rw [← hZ, Array.length_toList, size_madeCells, hz1]; omega
  have hmk : ∀ W : World, (Instr.makeSlice 26 (.int .i64 (n : Int)) (.int .i64 ((n : Int) + (r : Int)))).run Try.prog W = .ok (.slice (some ⟨W.heap.size, 0, none⟩) n (n + r)) (W.alloc (.cells Z.toArray 5)) := by
    intro W
    have hr := run_make (P := Try.prog) W 26 5 i0 (.int .u8 0) Try.underlying26 hi hz0 .i64 .i64 n ((n : Int) + (r : Int)) (by omega) (by omega) (by rw [hz2]; omega) (by omega)
    rw [show ((n : Int) + (r : Int)).toNat = n + r by omega, Int.toNat_natCast] at hr
    rw [hr, ← hZ]
  have hXL := Lib.hid hX
  have hLn := Lib.hid hn
  have hXN := Lib.hid hXl
  have hZN := Lib.hid hZl
  have hXC := Lib.hid hXc
  have hX1' := Lib.hid hX1
  have hb0 : n ≤ 281474976710000 := by omega
  rw [hn]
  clear hX hn hXl hZl hXc hX1 hs hZ hi hz0 hz1 hz2
  go_enter Try.func37, Try.ntmps37
  go_wp2_with (with_reducible refine wpList_copy_splice rfl (.tmp 13) (.tmp 14) 26 26 rfl 5 Try.underlying26 byte_size _ _ _ _ _ _ rfl rfl w.heap.size 0 Z 5 (heap_alloc_new w _) X ?c1 ?c2 ?c3 hX1'.out w.heap.size w ((Below.refl _ _).alloc (Nat.le_refl _) _) (Nat.le_refl _) ?_)
  case c1 => rw [hXN.out]; exact (Nat.min_self n).symm
  case c2 =>
    intro hp
    obtain ⟨ad, rfl, hc⟩ := hXC.out hp
    refine ⟨ad, rfl, fun j v hj => by
      have h2 := hc j v hj
      rw [World.cell?_alloc_lt _ _ _ (cell_lt h2)]; exact h2⟩
  case c3 => rw [hXN.out, hZN.out]; omega
  intro w2 hg2 hb2
  go_wp2
  go_ret
  have h3 := made_own (w' := w2) (g := w.heap.size) (n := n) (r := r) hZN.out hXN.out (by simp only [maxLen]; omega) hg2.out
  refine ⟨?_, ?_, hb2⟩
  · rw [hLn.out]; simp
  · rw [hLn.out, hXL.out]; exact h3
end

section
open Go.RowKit Go.Shelf
attribute [local go_sem] Oper.semAt_some

/-- A slice in new memory that holds the bytes l. -/
def OwnB (w : World) (l : List UInt8) (v : Value) (w' : World) : Prop :=
  ∃ A c, v = .slice A l.length c ∧ w'.ownsRow w.heap.size 5 1 (.slice A l.length c) l.length (l.map byt) ∧ Below w.heap.size w w'
def Got (w : World) (l : List UInt8) (e : Ending) (w' : World) : Prop := ∃ v, e = .returned v ∧ OwnB w l v w'
theorem OwnB.mk {w w' : World} {l : List UInt8} {v : Value} (h : w'.ownsRow w.heap.size 5 1 v l.length (l.map byt)) (hb : Below w.heap.size w w') : OwnB w l v w' := by
  have h' := h
  rcases h.2 with ⟨rfl, hn⟩ | ⟨g, c, cur, rfl, _⟩
  · refine ⟨none, 0, by rw [hn], ?_, hb⟩
    rw [hn] at h' ⊢; exact h'
  · exact ⟨_, _, rfl, h', hb⟩
end

section
open Go.RowKit Go.Shelf
theorem Rd.some_of {w : World} {A : Option Addr} {l : List UInt8} (h : Rd w A l) (hl : l ≠ []) : ∃ ad, A = some ad := by
  rcases l with _ | ⟨b, l⟩
  · exact absurd rfl hl
  · obtain ⟨ad, e, _⟩ := h 0 b rfl
    exact ⟨ad, e⟩

theorem Rd.cells {w : World} {ad : Addr} {l : List UInt8} (h : Rd w (some ad) l) : ∀ j u, (l.map byt)[j]? = some u → w.cell? (ad.add j) = some u := by
  intro j u hj
  rw [List.getElem?_map] at hj
  obtain ⟨b, hb, rfl⟩ := Option.map_eq_some_iff.1 hj
  obtain ⟨ad', e, hc⟩ := h j b hb
  cases e
  exact hc

theorem byt_one (l : List UInt8) : ∀ u ∈ l.map byt, u.oneCell' = true := by
  intro v hv
  obtain ⟨b, _, rfl⟩ := List.mem_map.1 hv
  rfl

/-- A row that a slice literal has made. -/
theorem lit_own (w : World) (l : List UInt8) (C : Array Value) (hC : C = (l.map byt).toArray) (hl : l.length ≤ 1000) :
    (w.alloc (.cells C 5)).ownsRow w.heap.size 5 1 (.slice (some ⟨w.heap.size, 0, none⟩) l.length l.length) l.length (l.map byt) := by
  subst hC
  refine ⟨by simp, .inr ⟨w.heap.size, l.length, _, rfl, Nat.le_refl _, heap_alloc_new w _, Nat.le_refl _, by unfold maxLen; omega, by simp, ?_⟩⟩
  rw [List.take_of_length_le (by simp)]

theorem lit_got (w : World) (l : List UInt8) (C : Array Value) (hC : C = (l.map byt).toArray) (hl : l.length ≤ 1000) : OwnB w l (.slice (some ⟨w.heap.size, 0, none⟩) l.length l.length) (w.alloc (.cells C 5)) :=
  OwnB.mk (lit_own w l C hC hl) ((Below.refl _ _).alloc (Nat.le_refl _) _)

theorem OwnB.rd {w w' : World} {l : List UInt8} {v : Value} (h : OwnB w l v w') : ∃ A c, v = .slice A l.length c ∧ Rd w' A l ∧ Below w.heap.size w w' := by
  obtain ⟨A, c, rfl, ho, hb⟩ := h
  exact ⟨A, c, rfl, Rd.of_own ho, hb⟩
end

end Go.Proofs.Ytpjbjbohbdlciaa.Nm
