/-
  How the laws' arguments are read: a slice of bytes holds some bytes, a slice of calls some pairs of a uint64 and an int, a slice of int some ints. No condition.
-/
import Derived.Test.YtckboifdkagacaaRow
import Derived.Test.YtckboifdkagacaaRows
import Derived.ProofKit
import Derived.OpenShut
import Derived.SizedLaws
import Derived.Deep.SlicePairs
namespace Go.Proofs.Ytckboifdkagacaa
open Go.ChangeShapes Go.WideShapes Go.ChangeAt Go.RowKit Go.Deep

theorem ownB : ownKnob Try.prog.godebug = none := by kernel_rfl
theorem laidOut : laidOutB Try.prog = true := by kernel_rfl
theorem bytes_byte : Try.prog.bytesOf 5 = 1 := by kernel_rfl
theorem cells_byte : Try.prog.cellsOf 5 = 1 := by kernel_rfl
theorem cells_int : Try.prog.cellsOf 3 = 1 := by kernel_rfl
theorem cells_u64 : Try.prog.cellsOf 34 = 1 := by kernel_rfl
theorem cells_pair : Try.prog.cellsOf 58 = 2 := by kernel_rfl

theorem open_bytes {H : Type} {enc : TypeId × Value → H} {W : World} {A : Option Addr} {len cap : Nat} {d : DataW H} {p : List MemPlace}
    (h : DataW.Trod enc Try.prog W 0 (fun _ => true) true 22 (.slice A len cap) d p) :
    ∃ l : List UInt8, l.length = len ∧ len ≤ cap ∧ Rd W A l ∧ ((len = 0 ∧ cap = 0) ∨ ∃ es sp, d = .slice es sp ∧ es.length + sp.length = cap) := by
  obtain ⟨fuel, hf⟩ := h
  rcases open_ints Try.underlying22 Try.underlying5 cells_byte hf with ⟨hcs, _⟩ | ⟨x, l, c, zs, hcs, _, hl, hm, hz, hx, hcell, hwz⟩
  · simp [Value.cells] at hcs
    obtain ⟨rfl, rfl, rfl⟩ := hcs
    exact ⟨[], rfl, Nat.le_refl _, Rv.nil _ _, .inl ⟨rfl, rfl⟩⟩
  · simp [Value.cells] at hcs
    obtain ⟨rfl, rfl, rfl⟩ := hcs
    simp only [Prod.mk.injEq] at hx
    obtain ⟨rfl, _⟩ := hx
    simp only [if_true] at hz
    refine ⟨(zs.take len).map (fun z => UInt8.ofNat z.toNat), by simp; omega, hl, ?_, .inr ⟨_, _, rfl, by simp [lits]; omega⟩⟩
    intro j v hj
    rw [List.getElem?_map, List.getElem?_map] at hj
    obtain ⟨b, hj2, rfl⟩ := Option.map_eq_some_iff.1 hj
    clear hj
    obtain ⟨z, hzj, rfl⟩ := Option.map_eq_some_iff.1 hj2
    have hjl : j < len := by
      rcases Nat.lt_or_ge j len with h1 | h1
      · exact h1
      · rw [List.getElem?_eq_none (by simp; omega)] at hzj; cases hzj
    rw [List.getElem?_take_of_lt hjl] at hzj
    refine ⟨x, rfl, ?_⟩
    have hw := bounds_u8 (hwz z (List.mem_of_getElem? hzj))
    rw [hcell j (by omega)]
    have e1 : zs.getD j 0 = z := by simp [List.getD, hzj]
    have e2 : ((UInt8.ofNat z.toNat).toNat : Int) = z := by
      rw [UInt8.toNat_ofNat', Nat.mod_eq_of_lt (by omega)]; omega
    rw [e1]
    simp only [byt, e2]

theorem open_puts {H : Type} {enc : TypeId × Value → H} {W : World} {A : Option Addr} {len cap : Nat} {d : DataW H} {p : List MemPlace}
    (h : DataW.Trod enc Try.prog W 0 (fun _ => true) true 51 (.slice A len cap) d p) :
    ∃ ls : List (Nat × Int), ls.length = len ∧ len ≤ cap ∧ RdP W A ls ∧ WfP ls := by
  obtain ⟨fuel, hf⟩ := h
  rcases open_slice_pairs Try.underlying51 Try.underlying58 cells_pair rfl rfl cells_u64 cells_int hf with ⟨hcs, _⟩ | ⟨a, l, c, m, n, V0, V1, D0, D1, P0, P1, hcs, _, hl, hm, hmm, hx, hall⟩
  · simp [Value.cells] at hcs
    obtain ⟨rfl, rfl, rfl⟩ := hcs
    exact ⟨[], rfl, Nat.le_refl _, fun j q z hj => by simp at hj, fun j q z hj => by simp at hj⟩
  · simp [Value.cells] at hcs
    obtain ⟨rfl, rfl, rfl⟩ := hcs
    simp only [if_true] at hmm
    have each : ∀ i, i < len → ∃ y : Nat × Int, W.cell? (a.add (i * 2)) = some (.int .u64 (y.1 : Int)) ∧ W.cell? (a.add (i * 2 + 1)) = some (.int .i64 y.2) ∧ y.1 < 18446744073709551616 := by
      intro i hi
      obtain ⟨h0, h1, t0, t1⟩ := hall i (by omega)
      obtain ⟨a0, e0, _, w0⟩ := DataW.trod_int Try.underlying34 t0
      obtain ⟨a1, e1, _, _⟩ := DataW.trod_int Try.underlying3 t1
      simp at e0 e1
      rw [e0] at h0
      rw [e1] at h1
      have hb := bounds_u64 w0
      obtain ⟨k, rfl⟩ := Int.eq_ofNat_of_zero_le hb.1
      exact ⟨(k, a1), h0, h1, by have := hb.2; show k < _; omega⟩
    obtain ⟨f, hfn⟩ := choose_lt each
    have key : ∀ (j q : Nat) (z : Int), ((List.range len).map f)[j]? = some (q, z) → j < len ∧ f j = (q, z) := by
      intro j q z hj
      by_cases hjl : j < len
      · rw [List.getElem?_map, List.getElem?_range hjl] at hj
        exact ⟨hjl, by simpa using hj⟩
      · rw [List.getElem?_eq_none (by simp; omega)] at hj; cases hj
    refine ⟨(List.range len).map f, by simp, hl, fun j q z hj => ?_, fun j q z hj => ?_⟩
    · obtain ⟨hjl, e⟩ := key j q z hj
      have := hfn j hjl
      rw [e] at this
      exact ⟨a, rfl, this.1, this.2.1⟩
    · obtain ⟨hjl, e⟩ := key j q z hj
      have := hfn j hjl
      rw [e] at this
      exact this.2.2

/-- Some ints lie at A. -/
abbrev Ri (w : World) (A : Option Addr) (l : List Int) : Prop := Rv w A (l.map (Value.int .i64))

theorem open_intl {H : Type} {enc : TypeId × Value → H} {W : World} {A : Option Addr} {len cap : Nat} {d : DataW H} {p : List MemPlace}
    (h : DataW.Trod enc Try.prog W 0 (fun _ => true) true 23 (.slice A len cap) d p) :
    ∃ l : List Int, l.length = len ∧ len ≤ cap ∧ Ri W A l ∧ ∀ z ∈ l, -9223372036854775808 ≤ z ∧ z ≤ 9223372036854775807 := by
  obtain ⟨fuel, hf⟩ := h
  rcases open_ints Try.underlying23 Try.underlying3 cells_int hf with ⟨hcs, _⟩ | ⟨x, l, c, zs, hcs, _, hl, hm, hz, hx, hcell, hwz⟩
  · simp [Value.cells] at hcs
    obtain ⟨rfl, rfl, rfl⟩ := hcs
    exact ⟨[], rfl, Nat.le_refl _, Rv.nil _ _, by simp⟩
  · simp [Value.cells] at hcs
    obtain ⟨rfl, rfl, rfl⟩ := hcs
    simp only [Prod.mk.injEq] at hx
    obtain ⟨rfl, _⟩ := hx
    simp only [if_true] at hz
    refine ⟨zs.take len, by simp; omega, hl, ?_, fun z hz => ?_⟩
    · intro j v hj
      rw [List.getElem?_map] at hj
      obtain ⟨z, hzj, rfl⟩ := Option.map_eq_some_iff.1 hj
      have hjl : j < len := by
        rcases Nat.lt_or_ge j len with h1 | h1
        · exact h1
        · rw [List.getElem?_eq_none (by simp; omega)] at hzj; cases hzj
      rw [List.getElem?_take_of_lt hjl] at hzj
      refine ⟨x, rfl, ?_⟩
      rw [hcell j (by omega)]
      have e1 : zs.getD j 0 = z := by simp [List.getD, hzj]
      rw [e1]
    · have := bounds_i64 (hwz z (List.mem_of_mem_take hz))
      omega

end Go.Proofs.Ytckboifdkagacaa
