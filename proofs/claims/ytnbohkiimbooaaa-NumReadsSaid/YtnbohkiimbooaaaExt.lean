/-
  What num.extend does: a new row that holds the bytes, with room for r more; nothing that was there has changed. Conditions: r from 0 to 16, fewer than 2^48 - 1000 bytes.
-/
import Derived.Test.YtnbohkiimbooaaaProg
import Derived.Test.YtnbohkiimbooaaaBase
import Derived.WalkKit
import Derived.WalkSpells
import Derived.WalkLawsBesides
import Derived.Laws.CopyOwn
namespace Go.Proofs.Ytnbohkiimbooaaa
open Go.RowKit

theorem byte_info : (Try.prog.info? 5).map (fun i => (i.zero, i.size, i.bytes)) = some (some (.int .u8 0), 1, 1) := by kernel_rfl
theorem byte_size : (Try.prog.info? 5).map (·.size) = some 1 := by kernel_rfl

/-- A new row with the bytes l and capacity c, at the head of block g. -/
def Made (w : World) (g : Nat) (l : List UInt8) (c : Nat) (e : Ending) (w' : World) : Prop :=
  e = .returned (.slice (some ⟨g, 0, none⟩) l.length c) ∧ w'.ownsRow g 5 1 (.slice (some ⟨g, 0, none⟩) l.length c) l.length (l.map byt) ∧ Below w.heap.size w w'

theorem made_own {w' : World} {g n r : Nat} {Z X : List Value} (hz : Z.length = n + r) (hx : X.length = n) (hm : n + r ≤ maxLen) (hg : w'.heap[g]? = some (.cells (splice Z 0 X).toArray 5 (0, 0))) :
    w'.ownsRow g 5 1 (.slice (some ⟨g, 0, none⟩) n (n + r)) n X := by
  refine ⟨by omega, .inr ⟨g, n + r, _, rfl, Nat.le_refl _, hg, by omega, hm, ?_, ?_⟩⟩
  · simp only [List.size_toArray]
    rw [length_splice _ _ _ (by omega)]; omega
  · simp [splice, ← hx]

set_option maxHeartbeats 400000 in
theorem extend_any (w : World) (A : Option Addr) (l : List UInt8) (cap : Nat) (r : Int) (h0 : 0 ≤ r) (h1 : r ≤ 16) (hs : l.length ≤ 281474976710000) (hR : Rd w A l) :
    Calls Try.prog 35 #[.slice A l.length cap, .int .i64 r] w (Made w w.heap.size l (l.length + r.toNat)) := by
  obtain ⟨r, rfl⟩ := Int.eq_ofNat_of_zero_le h0
  obtain ⟨n, hn⟩ : ∃ n, l.length = n := ⟨_, rfl⟩
  obtain ⟨X, hX⟩ : ∃ X, l.map byt = X := ⟨_, rfl⟩
  have hXl : X.length = n := by rw [← hX, ← hn]; simp
  have hX1 : ∀ v ∈ X, v.oneCell' = true := by
    intro v hv
    rw [← hX] at hv
    obtain ⟨b, _, rfl⟩ := List.mem_map.1 hv
    rfl
  have hXc : 0 < X.length → ∃ ad, A = some ad ∧ ∀ j v, X[j]? = some v → w.cell? (ad.add j) = some v := by
    intro hp
    obtain ⟨ad, hA, _⟩ := hR 0 (l[0]'(by omega)) (List.getElem?_eq_getElem (by omega))
    refine ⟨ad, hA, fun j v hj => ?_⟩
    rw [← hX, List.getElem?_map] at hj
    obtain ⟨b, hb, rfl⟩ := Option.map_eq_some_iff.1 hj
    obtain ⟨ad', hA', hc⟩ := hR j b hb
    rw [hA] at hA'
    injection hA' with hA'
    rw [hA']; exact hc
  obtain ⟨i0, hi, hz0, hz1, hz2⟩ := info_parts byte_info
  obtain ⟨Z, hZ⟩ : ∃ Z, (madeCells (Value.cells (.int .u8 0)) ((n + r) * i0.size)).toList = Z := ⟨_, rfl⟩
  have hZl : Z.length = n + r := by rw [← hZ, Array.length_toList, size_madeCells, hz1]; omega
  have hmk : ∀ W : World, (Instr.makeSlice 22 (.int .i64 (n : Int)) (.int .i64 ((n : Int) + (r : Int)))).run Try.prog W = .ok (.slice (some ⟨W.heap.size, 0, none⟩) n (n + r)) (W.alloc (.cells Z.toArray 5)) := by
    intro W
    have hr := run_make (P := Try.prog) W 22 5 i0 (.int .u8 0) Try.underlying22 hi hz0 .i64 .i64 n ((n : Int) + (r : Int)) (by omega) (by omega) (by rw [hz2]; omega) (by omega)
    rw [show ((n : Int) + (r : Int)).toNat = n + r by omega, Int.toNat_natCast] at hr
    rw [hr, ← hZ]
  have hXL := Lib.hid hX
  have hLn := Lib.hid hn
  have hXN := Lib.hid hXl
  have hZN := Lib.hid hZl
  have hXC := Lib.hid hXc
  have hX1' := Lib.hid hX1
  have hb0 : n ≤ 281474976710000 := by omega
  rw [hn]
  clear hX hn hXl hZl hXc hX1 hs hZ hi hz0 hz1 hz2
  go_enter Try.func35, Try.ntmps35
  go_wp2_with (with_reducible refine wpList_copy_splice rfl (.tmp 13) (.tmp 14) 22 22 rfl 5 Try.underlying22 byte_size _ _ _ _ _ _ rfl rfl w.heap.size 0 Z 5 (heap_alloc_new w _) X ?c1 ?c2 ?c3 hX1'.out w.heap.size w ((Below.refl _ _).alloc (Nat.le_refl _) _) (Nat.le_refl _) ?_)
  case c1 => rw [hXN.out]; exact (Nat.min_self n).symm
  case c2 =>
    intro hp
    obtain ⟨ad, rfl, hc⟩ := hXC.out hp
    refine ⟨ad, rfl, fun j v hj => by
      have h2 := hc j v hj
      rw [World.cell?_alloc_lt _ _ _ (cell_lt h2)]; exact h2⟩
  case c3 => rw [hXN.out, hZN.out]; omega
  intro w2 hg2 hb2
  go_wp2
  go_ret
  have h3 := made_own (w' := w2) (g := w.heap.size) (n := n) (r := r) hZN.out hXN.out (by simp only [maxLen]; omega) hg2.out
  refine ⟨?_, ?_, hb2⟩
  · rw [hLn.out]; simp
  · rw [hLn.out, hXL.out]; exact h3

end Go.Proofs.Ytnbohkiimbooaaa
