/-
  How an argument that is an array of two of the laws' calls is read; the array as a block, and as a slice. No condition.
-/
import Derived.Test.YteogpmapbeogpaaDoorOpa
namespace Go.Proofs.YteogpmapbeogpaaDoor
open Go.ChangeShapes Go.WideShapes Go.ChangeAt Go.RowKit Go.Deep

theorem und_two : Tryd.prog.underlying 48 = some (.array (Tryd.prog.arrayLen 48) (Tryd.prog.elem 48)) := by kernel_rfl
theorem len_two : Tryd.prog.arrayLen 48 = 2 := by kernel_rfl
theorem elem_two : Tryd.prog.elem 48 = 38 := by kernel_rfl
theorem cells_two : Tryd.prog.cellsOf 48 = 8 := by kernel_rfl
theorem act_info : (Tryd.prog.info? 38).map (fun i => i.size) = some 4 := by kernel_rfl
theorem size_act (W : World) : (sizeOf 38).run Tryd.prog W = .ok 4 W := by
  obtain ⟨i, hi, he⟩ := Option.map_eq_some_iff.1 act_info
  simp [sizeOf, typeInfo, hi, he]
theorem two_all (x : Nat) (W : World) : (Instr.sliceAt 48 (.pointer (some ⟨x, 0, none⟩)) none none none).run Tryd.prog W = .ok (.slice (some ⟨x, 0, none⟩) 2 2) W := by
  rw [run_sliceAt_array_all _ _ _ und_two, elem_two, size_act, len_two]
  simp [Result.andThen, slicedAt, Addr.add]

theorem okWide_array {P : Program} {w : World} {r : Reach} {base : Nat} {t : TypeId} {v : Value} {n : Nat} {e : TypeId} (ht : P.underlying t = some (.array n e)) (h : Value.okWide P w r base t v) : ∃ cs, v = .agg cs ∧ cs.size = P.cellsOf t := by
  simp only [Value.okWide, ht] at h
  obtain ⟨cs, h1, h2, _⟩ := h
  exact ⟨cs, h1, h2⟩

abbrev Ac.cells (a : Ac) : List Value := [.int .i64 a.wh, .slice a.B a.M a.cm, .int .i64 a.ofs, .int .i64 a.nn]

theorem open_two {H : Type} {enc : TypeId × Value → H} {W : World} {cs : Array Value} {d : DataW H} {p : List MemPlace} (hcs : cs.size = Tryd.prog.cellsOf 48)
    (h : DataW.Trod enc Tryd.prog W 0 (fun _ => true) true 48 (.agg cs) d p) :
    ∃ a b : Ac, cs = #[.int .i64 a.wh, .slice a.B a.M a.cm, .int .i64 a.ofs, .int .i64 a.nn, .int .i64 b.wh, .slice b.B b.M b.cm, .int .i64 b.ofs, .int .i64 b.nn] ∧ AcOk W a ∧ AcOk W b := by
  obtain ⟨fuel, hf⟩ := h
  rw [cells_two] at hcs
  obtain ⟨l⟩ := cs
  match l, hcs with
  | [c0, c1, c2, c3, c4, c5, c6, c7], _ =>
    simp only [Value.cells] at hf
    cases fuel with
    | zero => simp [DataW.trod] at hf
    | succ n =>
      unfold DataW.trod at hf
      rw [und_two, len_two, elem_two] at hf
      have r2 : List.range 2 = [0, 1] := rfl
      simp [r2, cells_act] at hf
      obtain ⟨_, hf⟩ := hf
      cases h0 : DataW.trod enc Tryd.prog W 0 (fun _ => true) true n 38 [c0, c1, c2, c3] with
      | none => simp [h0] at hf
      | some y0 =>
        cases h1 : DataW.trod enc Tryd.prog W 0 (fun _ => true) true n 38 [c4, c5, c6, c7] with
        | none => simp [h0, h1] at hf
        | some y1 =>
          obtain ⟨a, ha, oa⟩ := act_cells rfl h0
          obtain ⟨b, hb, ob⟩ := act_cells rfl h1
          injection ha with a0 ha
          injection ha with a1 ha
          injection ha with a2 ha
          injection ha with a3 _
          injection hb with b0 hb
          injection hb with b1 hb
          injection hb with b2 hb
          injection hb with b3 _
          exact ⟨a, b, by rw [a0, a1, a2, a3, b0, b1, b2, b3], oa, ob⟩

/-- The block of an array of two calls. -/
def Tw (W : World) (q : Nat) (a b : Ac) : Prop := W.heap[q]? = some (.cells (a.cells ++ b.cells).toArray 48 (0, 0))
theorem Tw.cell {W : World} {q : Nat} {a b : Ac} (h : Tw W q a b) (i : Nat) : W.cell? ⟨q, i, none⟩ = (a.cells ++ b.cells)[i]? := by
  rw [cell_of_row W q i _ _ _ h]
  simp
theorem Tw.lt {W : World} {q : Nat} {a b : Ac} (h : Tw W q a b) : q < W.heap.size := (Array.getElem?_eq_some_iff.1 h).1
theorem Tw.same {W W' : World} {q : Nat} {a b : Ac} (h : Tw W q a b) (hb : W'.heap[q]? = W.heap[q]?) : Tw W' q a b := hb.trans h
theorem Tw.rd {W : World} {q : Nat} {a b : Ac} (h : Tw W q a b) : RdA W (some ⟨q, 0, none⟩) [a, b] := by
  intro i c hi
  have hc := h.cell
  match i, hi with
  | 0, hi =>
    simp at hi
    subst hi
    exact ⟨_, rfl, hc 0, hc 1, hc 2, hc 3⟩
  | 1, hi =>
    simp at hi
    subst hi
    exact ⟨_, rfl, hc 4, hc 5, hc 6, hc 7⟩
  | (k + 2), hi => simp at hi

end Go.Proofs.YteogpmapbeogpaaDoor
