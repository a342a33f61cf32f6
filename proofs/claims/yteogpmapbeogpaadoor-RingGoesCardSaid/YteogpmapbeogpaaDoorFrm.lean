/-
  How the laws' arguments are read: a slice of bytes holds some bytes, a slice of slices of bytes some slices. No condition.
-/
import Derived.Test.YteogpmapbeogpaaDoorWrk
import Derived.Test.YteogpmapbeogpaaDoorTie
import Derived.Test.YteogpmapbeogpaaDoorCards
import Derived.LaidMore
import Derived.LaidLaws
import Derived.Stop.Joined
import Derived.SevenTiedAt
import Derived.Test.YteogpmapbeogpaaDoorRows
import Derived.ProofKit
import Derived.OpenShut
import Derived.SizedLaws
import Derived.Deep.Matrix
namespace Go.Proofs.YteogpmapbeogpaaDoor
open Go.ChangeShapes Go.WideShapes Go.ChangeAt Go.RowKit Go.Deep

theorem ownB : ownKnob Tryd.prog.godebug = none := by kernel_rfl
theorem laidOut : laidOutB Tryd.prog = true := by kernel_rfl
theorem bytes_byte : Tryd.prog.bytesOf 5 = 1 := by kernel_rfl
theorem cells_byte : Tryd.prog.cellsOf 5 = 1 := by kernel_rfl
theorem cells_int : Tryd.prog.cellsOf 3 = 1 := by kernel_rfl
theorem cells_row : Tryd.prog.cellsOf 22 = 1 := by kernel_rfl

theorem open_bytes {H : Type} {enc : TypeId × Value → H} {W : World} {A : Option Addr} {len cap : Nat} {d : DataW H} {p : List MemPlace}
    (h : DataW.Trod enc Tryd.prog W 0 (fun _ => true) true 22 (.slice A len cap) d p) :
    ∃ l : List UInt8, l.length = len ∧ len ≤ cap ∧ Rd W A l ∧ ((len = 0 ∧ cap = 0) ∨ ∃ es sp, d = .slice es sp ∧ es.length + sp.length = cap) := by
  obtain ⟨fuel, hf⟩ := h
  rcases open_ints Tryd.underlying22 Tryd.underlying5 cells_byte hf with ⟨hcs, _⟩ | ⟨x, l, c, zs, hcs, _, hl, hm, hz, hx, hcell, hwz⟩
  · simp [Value.cells] at hcs
    obtain ⟨rfl, rfl, rfl⟩ := hcs
    exact ⟨[], rfl, Nat.le_refl _, Rv.nil _ _, .inl ⟨rfl, rfl⟩⟩
  · simp [Value.cells] at hcs
    obtain ⟨rfl, rfl, rfl⟩ := hcs
    simp only [Prod.mk.injEq] at hx
    obtain ⟨rfl, _⟩ := hx
    simp only [if_true] at hz
    refine ⟨(zs.take len).map (fun z => UInt8.ofNat z.toNat), by simp; omega, hl, ?_, .inr ⟨_, _, rfl, by simp [lits]; omega⟩⟩
    intro j v hj
    rw [List.getElem?_map, List.getElem?_map] at hj
    obtain ⟨b, hj2, rfl⟩ := Option.map_eq_some_iff.1 hj
    clear hj
    obtain ⟨z, hzj, rfl⟩ := Option.map_eq_some_iff.1 hj2
    have hjl : j < len := by
      rcases Nat.lt_or_ge j len with h1 | h1
      · exact h1
      · rw [List.getElem?_eq_none (by simp; omega)] at hzj; cases hzj
    rw [List.getElem?_take_of_lt hjl] at hzj
    refine ⟨x, rfl, ?_⟩
    have hw := bounds_u8 (hwz z (List.mem_of_getElem? hzj))
    rw [hcell j (by omega)]
    have e1 : zs.getD j 0 = z := by simp [List.getD, hzj]
    have e2 : ((UInt8.ofNat z.toNat).toNat : Int) = z := by
      rw [UInt8.toNat_ofNat', Nat.mod_eq_of_lt (by omega)]; omega
    rw [e1]
    simp only [byt, e2]

/-- The slices of a slice of slices: where each lies, its bytes, its capacity. -/
def RdR (w : World) (A : Option Addr) (ls : List (Option Addr × List UInt8 × Nat)) : Prop :=
  ∀ j B m c, ls[j]? = some (B, m, c) → ∃ ad, A = some ad ∧ w.cell? (ad.add j) = some (.slice B m.length c) ∧ m.length ≤ c ∧ Rd w B m

theorem open_rows {H : Type} {enc : TypeId × Value → H} {W : World} {A : Option Addr} {len cap : Nat} {d : DataW H} {p : List MemPlace}
    (h : DataW.Trod enc Tryd.prog W 0 (fun _ => true) true 64 (.slice A len cap) d p) :
    ∃ ls : List (Option Addr × List UInt8 × Nat), ls.length = len ∧ len ≤ cap ∧ RdR W A ls := by
  obtain ⟨fuel, hf⟩ := h
  rcases open_int_rows Tryd.underlying64 Tryd.underlying22 Tryd.underlying5 cells_row cells_byte hf with ⟨hcs, _⟩ | ⟨a, l, c, AA, L, C, Z, hcs, _, hl, hm, hx, hall⟩
  · simp [Value.cells] at hcs
    obtain ⟨rfl, rfl, rfl⟩ := hcs
    exact ⟨[], rfl, Nat.le_refl _, fun j B m c hj => by simp at hj⟩
  · simp [Value.cells] at hcs
    obtain ⟨rfl, rfl, rfl⟩ := hcs
    refine ⟨(List.range len).map fun r => (AA r, ((Z r).take (L r)).map (fun z => UInt8.ofNat z.toNat), C r), by simp, hl, fun j B m c hj => ?_⟩
    have hjl : j < len := by
      rcases Nat.lt_or_ge j len with h1 | h1
      · exact h1
      · rw [List.getElem?_eq_none (by simp; omega)] at hj; cases hj
    rw [List.getElem?_map, List.getElem?_range hjl] at hj
    simp only [Option.map_some, Option.some.injEq, Prod.mk.injEq] at hj
    obtain ⟨rfl, rfl, rfl⟩ := hj
    obtain ⟨h1, h2, h3, h4, h5, h6, h7⟩ := hall j (by omega)
    have hlen : (((Z j).take (L j)).map (fun z => UInt8.ofNat z.toNat)).length = L j := by simp; omega
    refine ⟨a, rfl, by rw [hlen]; exact h1, by rw [hlen]; exact h2, ?_⟩
    intro i v hi
    rw [List.getElem?_map, List.getElem?_map] at hi
    obtain ⟨b, hi2, rfl⟩ := Option.map_eq_some_iff.1 hi
    clear hi
    obtain ⟨z, hzi, rfl⟩ := Option.map_eq_some_iff.1 hi2
    have hil : i < L j := by
      rcases Nat.lt_or_ge i (L j) with h1 | h1
      · exact h1
      · rw [List.getElem?_eq_none (by simp; omega)] at hzi; cases hzi
    rw [List.getElem?_take_of_lt hil] at hzi
    cases hA : AA j with
    | none =>
      have := h6 hA
      omega
    | some a' =>
      refine ⟨a', rfl, ?_⟩
      have hw := bounds_u8 (h5 z (List.mem_of_getElem? hzi))
      rw [(h7 a' hA).2 i (by omega)]
      have e1 : (Z j).getD i 0 = z := by simp [List.getD, hzi]
      have e2 : ((UInt8.ofNat z.toNat).toNat : Int) = z := by
        rw [UInt8.toNat_ofNat', Nat.mod_eq_of_lt (by omega)]; omega
      rw [e1]
      simp only [byt, e2]


/-- What the laws' rows list: the package's sizes. -/
abbrev laidS : List (String × DataW Unit) := [("portmanteau/ring.sizes", Rows.laid_portmanteau_ring_sizes)]
theorem gSizes : Tryd.prog.globalNamed "portmanteau/ring.sizes" = some 0 := by kernel_rfl
theorem tSizes : (Tryd.prog.globals[0]?).map (·.type) = some 69 := by kernel_rfl
theorem cSizes : Tryd.prog.cellsOf 69 = 2 := by kernel_rfl

theorem door_met (os : Os) (args : Array Value) : laidMetH Tryd.prog laidS ((World.doorLaid Tryd.prog 400 os).forCall (fun _ _ => 0) ⟨#[], args, []⟩).memory :=
  laidMetH_of_parts3 (fuel := 8) (laidMet_of_run' 8 (by kernel_rfl) (by kernel_rfl)) (by kernel_rfl) (by kernel_rfl)

/-- What the condition gives the walks: the two cells of the array. -/
theorem gl_of_laid {W : World} (h : laidMetH Tryd.prog laidS W) : Gl W := by
  rw [MakeChecks.laidMetH_plain _ _ _ (by kernel_rfl)] at h
  obtain ⟨ps, ⟨g1, t1, cs1, f1, p1, q1, hg1, ht1, hv1, hd1, _, _⟩, _, _⟩ := h
  obtain rfl := Option.some.inj (gSizes.symm.trans hg1)
  obtain rfl := Option.some.inj (tSizes.symm.trans ht1)
  obtain ⟨xs, m1, rfl, hx1, hlen, hn3, hel⟩ := DataW.trod_array Tryd.underlying69 hd1
  have h0 := hel 0 (by decide)
  have h1 := hel 1 (by decide)
  simp only [Rows.laid_portmanteau_ring_sizes, Prod.mk.injEq, DataW.agg.injEq] at hx1
  match xs, hn3, hx1, h0, h1 with
  | [x0, x1], _, hx1, h0, h1 =>
    simp only [List.map_cons, List.map_nil, List.cons.injEq] at hx1
    obtain ⟨k, e1, e2, _⟩ := DataW.trod_int Tryd.underlying3 (show DataW.trod _ Tryd.prog W 0 _ false m1 3 _ = some x0 from h0)
    obtain ⟨k', e1', e2', _⟩ := DataW.trod_int Tryd.underlying3 (show DataW.trod _ Tryd.prog W 0 _ false m1 3 _ = some x1 from h1)
    have hk : k = 1 := by rw [e2] at hx1; simpa using hx1.1.1.symm
    have hk' : k' = 134217728 := by rw [e2'] at hx1; simpa using hx1.1.2.1.symm
    subst hk hk'
    have a0 := World.var?_cell hg1 hv1 0
    have a1 := World.var?_cell hg1 hv1 1
    obtain ⟨l1⟩ := cs1
    rw [cells_int] at e1 e1'
    match l1, e1, e1' with
    | [c, c'], e1, e1' =>
      simp at e1 e1'
      subst e1 e1'
      exact ⟨by simpa using a0, by simpa using a1⟩
    | c :: c' :: c2 :: r, e1, e1' =>
      simp at e1 e1'
      subst e1 e1'
      exact ⟨by simpa using a0, by simpa using a1⟩

end Go.Proofs.YteogpmapbeogpaaDoor
