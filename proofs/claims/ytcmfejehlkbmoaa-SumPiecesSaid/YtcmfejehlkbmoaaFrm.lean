/-
  How the laws' arguments are read: a slice of bytes holds some bytes, a slice of slices of bytes some slices. No condition.
-/
import Derived.Test.YtcmfejehlkbmoaaKno
import Derived.Test.YtcmfejehlkbmoaaRows
import Derived.ProofKit
import Derived.OpenShut
import Derived.SizedLaws
import Derived.Deep.Matrix
namespace Go.Proofs.Ytcmfejehlkbmoaa
open Go.ChangeShapes Go.WideShapes Go.ChangeAt Go.RowKit Go.Deep

theorem ownB : ownKnob Try.prog.godebug = none := by kernel_rfl
theorem laidOut : laidOutB Try.prog = true := by kernel_rfl
theorem bytes_byte : Try.prog.bytesOf 5 = 1 := by kernel_rfl
theorem cells_byte : Try.prog.cellsOf 5 = 1 := by kernel_rfl
theorem cells_int : Try.prog.cellsOf 3 = 1 := by kernel_rfl
theorem cells_row : Try.prog.cellsOf 22 = 1 := by kernel_rfl

theorem open_bytes {H : Type} {enc : TypeId × Value → H} {W : World} {A : Option Addr} {len cap : Nat} {d : DataW H} {p : List MemPlace}
    (h : DataW.Trod enc Try.prog W 0 (fun _ => true) true 22 (.slice A len cap) d p) :
    ∃ l : List UInt8, l.length = len ∧ len ≤ cap ∧ Rd W A l ∧ ((len = 0 ∧ cap = 0) ∨ ∃ es sp, d = .slice es sp ∧ es.length + sp.length = cap) := by
  obtain ⟨fuel, hf⟩ := h
  rcases open_ints Try.underlying22 Try.underlying5 cells_byte hf with ⟨hcs, _⟩ | ⟨x, l, c, zs, hcs, _, hl, hm, hz, hx, hcell, hwz⟩
  · simp [Value.cells] at hcs
    obtain ⟨rfl, rfl, rfl⟩ := hcs
    exact ⟨[], rfl, Nat.le_refl _, Rv.nil _ _, .inl ⟨rfl, rfl⟩⟩
  · simp [Value.cells] at hcs
    obtain ⟨rfl, rfl, rfl⟩ := hcs
    simp only [Prod.mk.injEq] at hx
    obtain ⟨rfl, _⟩ := hx
    simp only [if_true] at hz
    refine ⟨(zs.take len).map (fun z => UInt8.ofNat z.toNat), by simp; omega, hl, ?_, .inr ⟨_, _, rfl, by simp [lits]; omega⟩⟩
    intro j v hj
    rw [List.getElem?_map, List.getElem?_map] at hj
    obtain ⟨b, hj2, rfl⟩ := Option.map_eq_some_iff.1 hj
    clear hj
    obtain ⟨z, hzj, rfl⟩ := Option.map_eq_some_iff.1 hj2
    have hjl : j < len := by
      rcases Nat.lt_or_ge j len with h1 | h1
      · exact h1
      · rw [List.getElem?_eq_none (by simp; omega)] at hzj; cases hzj
    rw [List.getElem?_take_of_lt hjl] at hzj
    refine ⟨x, rfl, ?_⟩
    have hw := bounds_u8 (hwz z (List.mem_of_getElem? hzj))
    rw [hcell j (by omega)]
    have e1 : zs.getD j 0 = z := by simp [List.getD, hzj]
    have e2 : ((UInt8.ofNat z.toNat).toNat : Int) = z := by
      rw [UInt8.toNat_ofNat', Nat.mod_eq_of_lt (by omega)]; omega
    rw [e1]
    simp only [byt, e2]

/-- The slices of a slice of slices: where each lies, its bytes, its capacity. -/
def RdR (w : World) (A : Option Addr) (ls : List (Option Addr × List UInt8 × Nat)) : Prop :=
  ∀ j B m c, ls[j]? = some (B, m, c) → ∃ ad, A = some ad ∧ w.cell? (ad.add j) = some (.slice B m.length c) ∧ m.length ≤ c ∧ Rd w B m

theorem open_rows {H : Type} {enc : TypeId × Value → H} {W : World} {A : Option Addr} {len cap : Nat} {d : DataW H} {p : List MemPlace}
    (h : DataW.Trod enc Try.prog W 0 (fun _ => true) true 27 (.slice A len cap) d p) :
    ∃ ls : List (Option Addr × List UInt8 × Nat), ls.length = len ∧ len ≤ cap ∧ RdR W A ls := by
  obtain ⟨fuel, hf⟩ := h
  rcases open_int_rows Try.underlying27 Try.underlying22 Try.underlying5 cells_row cells_byte hf with ⟨hcs, _⟩ | ⟨a, l, c, AA, L, C, Z, hcs, _, hl, hm, hx, hall⟩
  · simp [Value.cells] at hcs
    obtain ⟨rfl, rfl, rfl⟩ := hcs
    exact ⟨[], rfl, Nat.le_refl _, fun j B m c hj => by simp at hj⟩
  · simp [Value.cells] at hcs
    obtain ⟨rfl, rfl, rfl⟩ := hcs
    refine ⟨(List.range len).map fun r => (AA r, ((Z r).take (L r)).map (fun z => UInt8.ofNat z.toNat), C r), by simp, hl, fun j B m c hj => ?_⟩
    have hjl : j < len := by
      rcases Nat.lt_or_ge j len with h1 | h1
      · exact h1
      · rw [List.getElem?_eq_none (by simp; omega)] at hj; cases hj
    rw [List.getElem?_map, List.getElem?_range hjl] at hj
    simp only [Option.map_some, Option.some.injEq, Prod.mk.injEq] at hj
    obtain ⟨rfl, rfl, rfl⟩ := hj
    obtain ⟨h1, h2, h3, h4, h5, h6, h7⟩ := hall j (by omega)
    have hlen : (((Z j).take (L j)).map (fun z => UInt8.ofNat z.toNat)).length = L j := by simp; omega
    refine ⟨a, rfl, by rw [hlen]; exact h1, by rw [hlen]; exact h2, ?_⟩
    intro i v hi
    rw [List.getElem?_map, List.getElem?_map] at hi
    obtain ⟨b, hi2, rfl⟩ := Option.map_eq_some_iff.1 hi
    clear hi
    obtain ⟨z, hzi, rfl⟩ := Option.map_eq_some_iff.1 hi2
    have hil : i < L j := by
      rcases Nat.lt_or_ge i (L j) with h1 | h1
      · exact h1
      · rw [List.getElem?_eq_none (by simp; omega)] at hzi; cases hzi
    rw [List.getElem?_take_of_lt hil] at hzi
    cases hA : AA j with
    | none =>
      have := h6 hA
      omega
    | some a' =>
      refine ⟨a', rfl, ?_⟩
      have hw := bounds_u8 (h5 z (List.mem_of_getElem? hzi))
      rw [(h7 a' hA).2 i (by omega)]
      have e1 : (Z j).getD i 0 = z := by simp [List.getD, hzi]
      have e2 : ((UInt8.ofNat z.toNat).toNat : Int) = z := by
        rw [UInt8.toNat_ofNat', Nat.mod_eq_of_lt (by omega)]; omega
      rw [e1]
      simp only [byt, e2]

end Go.Proofs.Ytcmfejehlkbmoaa
