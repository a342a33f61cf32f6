/-
  How an argument that is one of the laws' calls is read, with its bytes. No condition.
-/
import Derived.Test.YteogpmapbeogpaaDoorTwa
namespace Go.Proofs.YteogpmapbeogpaaDoor
open Go.ChangeShapes Go.WideShapes Go.ChangeAt Go.RowKit Go.Deep

theorem open_ac {H : Type} {enc : TypeId × Value → H} {W : World} {cs : Array Value} {d : DataW H} {p : List MemPlace} (hcs : cs.size = Tryd.prog.cellsOf 38)
    (h : DataW.Trod enc Tryd.prog W 0 (fun _ => true) true 38 (.agg cs) d p) :
    ∃ a : Ac, cs = #[.int .i64 a.wh, .slice a.B a.M a.cm, .int .i64 a.ofs, .int .i64 a.nn] ∧ AcOk W a := by
  obtain ⟨fuel, hf⟩ := h
  rw [cells_act] at hcs
  obtain ⟨l⟩ := cs
  simp only [Value.cells] at hf
  obtain ⟨a, ha, oa⟩ := act_cells (by simpa using hcs) hf
  exact ⟨a, by rw [ha], oa⟩

end Go.Proofs.YteogpmapbeogpaaDoor
