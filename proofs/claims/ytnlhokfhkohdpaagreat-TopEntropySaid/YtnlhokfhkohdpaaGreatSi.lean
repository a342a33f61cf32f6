/-
  How the law's arguments are read: a slice of bytes holds some bytes. No condition.
-/
import Derived.ProofKit
import Derived.OpenShut
import Derived.SizedLaws
import Derived.Deep.Matrix
import Derived.Test.YtnlhokfhkohdpaaGreatEn
import Derived.Test.YtnlhokfhkohdpaaGreatRows
namespace Go.Proofs.YtnlhokfhkohdpaaGreat
open Go.ChangeShapes Go.WideShapes Go.ChangeAt Go.RowKit Go.Deep

theorem ownB : ownKnob Tryz.prog.godebug = none := by kernel_rfl
theorem laidOut : laidOutB Tryz.prog = true := by kernel_rfl
theorem cells_int : Tryz.prog.cellsOf 3 = 1 := by kernel_rfl
theorem bytes_byte : Tryz.prog.bytesOf 5 = 1 := by kernel_rfl
theorem cells_byte : Tryz.prog.cellsOf 5 = 1 := by kernel_rfl
theorem open_bytes {H : Type} {enc : TypeId × Value → H} {W : World} {A : Option Addr} {len cap : Nat} {d : DataW H} {p : List MemPlace}
    (h : DataW.Trod enc Tryz.prog W 0 (fun _ => true) true 22 (.slice A len cap) d p) :
    ∃ l : List UInt8, l.length = len ∧ len ≤ cap ∧ Rd W A l ∧ ((len = 0 ∧ cap = 0) ∨ ∃ es sp, d = .slice es sp ∧ es.length + sp.length = cap) := by
  obtain ⟨fuel, hf⟩ := h
  rcases open_ints Tryz.underlying22 Tryz.underlying5 cells_byte hf with ⟨hcs, _⟩ | ⟨x, l, c, zs, hcs, _, hl, hm, hz, hx, hcell, hwz⟩
  · simp [Value.cells] at hcs
    obtain ⟨rfl, rfl, rfl⟩ := hcs
    exact ⟨[], rfl, Nat.le_refl _, Rv.nil _ _, .inl ⟨rfl, rfl⟩⟩
  · simp [Value.cells] at hcs
    obtain ⟨rfl, rfl, rfl⟩ := hcs
    simp only [Prod.mk.injEq] at hx
    obtain ⟨rfl, _⟩ := hx
    simp only [if_true] at hz
    refine ⟨(zs.take len).map (fun z => UInt8.ofNat z.toNat), by simp; omega, hl, ?_, .inr ⟨_, _, rfl, by simp [lits]; omega⟩⟩
    intro j v hj
    rw [List.getElem?_map, List.getElem?_map] at hj
    obtain ⟨b, hj2, rfl⟩ := Option.map_eq_some_iff.1 hj
    clear hj
    obtain ⟨z, hzj, rfl⟩ := Option.map_eq_some_iff.1 hj2
    have hjl : j < len := by
      rcases Nat.lt_or_ge j len with h1 | h1
      · exact h1
      · rw [List.getElem?_eq_none (by simp; omega)] at hzj; cases hzj
    rw [List.getElem?_take_of_lt hjl] at hzj
    refine ⟨x, rfl, ?_⟩
    have hw := bounds_u8 (hwz z (List.mem_of_getElem? hzj))
    rw [hcell j (by omega)]
    have e1 : zs.getD j 0 = z := by simp [List.getD, hzj]
    have e2 : ((UInt8.ofNat z.toNat).toNat : Int) = z := by
      rw [UInt8.toNat_ofNat', Nat.mod_eq_of_lt (by omega)]; omega
    rw [e1]
    simp only [byt, e2]

end Go.Proofs.YtnlhokfhkohdpaaGreat
