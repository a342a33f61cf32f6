/-
  How an argument that is one of the laws' calls is read: four cells. No condition.
-/
import Derived.Test.YteogpmapbeogpaaDoorFrm
namespace Go.Proofs.YteogpmapbeogpaaDoor
open Go.ChangeShapes Go.WideShapes Go.ChangeAt Go.RowKit Go.Deep

theorem cells_act : Tryd.prog.cellsOf 38 = 4 := by kernel_rfl

theorem open_act {H : Type} {enc : TypeId × Value → H} {W : World} {cs : Array Value} {d : DataW H} {p : List MemPlace} (hcs : cs.size = Tryd.prog.cellsOf 38)
    (h : DataW.Trod enc Tryd.prog W 0 (fun _ => true) true 38 (.agg cs) d p) :
    ∃ (wh : Int) (A : Option Addr) (n c : Nat) (ofs nn : Int), cs = #[.int .i64 wh, .slice A n c, .int .i64 ofs, .int .i64 nn] := by
  obtain ⟨fuel, hf⟩ := h
  obtain ⟨xs, m, _, hx, hl, hlen, hel⟩ := DataW.trod_struct Tryd.underlying38 hf
  have h0 := hel 0 _ rfl
  have h1 := hel 1 _ rfl
  have h2 := hel 2 _ rfl
  have h3 := hel 3 _ rfl
  rw [cells_act] at hcs
  obtain ⟨l⟩ := cs
  match l, hcs with
  | [a, b, c, e], _ =>
    match xs, hlen with
    | [x0, x1, x2, x3], _ =>
      simp only [Value.cells, List.getElem?_cons_zero, List.getElem?_cons_succ] at h0 h1 h2 h3
      obtain ⟨k0, e0, _⟩ := DataW.trod_int Tryd.underlying3 h0
      obtain ⟨k2, e2, _⟩ := DataW.trod_int Tryd.underlying3 h2
      obtain ⟨k3, e3, _⟩ := DataW.trod_int Tryd.underlying3 h3
      injection e0 with e0
      injection e2 with e2
      injection e3 with e3
      rcases open_ints Tryd.underlying22 Tryd.underlying5 cells_byte h1 with ⟨hc, _⟩ | ⟨x, l, cp, zs, hc, _⟩
      · injection hc with hc
        exact ⟨k0, none, 0, 0, k2, k3, by rw [e0, e2, e3, hc]⟩
      · injection hc with hc
        exact ⟨k0, some x, l, cp, k2, k3, by rw [e0, e2, e3, hc]⟩

end Go.Proofs.YteogpmapbeogpaaDoor
