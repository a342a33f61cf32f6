/-
  How an argument that is a slice of the laws' calls is read: rows of four cells, and the bytes of each call. No condition.
-/
import Derived.Test.YteogpmapbeogpaaDoorAny
import Derived.Test.YteogpmapbeogpaaDoorOpn
import Derived.Deep.Slices
namespace Go.Proofs.YteogpmapbeogpaaDoor
open Go.ChangeShapes Go.WideShapes Go.ChangeAt Go.RowKit Go.Deep

theorem act_cells {H : Type} {enc : TypeId × Value → H} {W : World} {fuel : Nat} {cs : List Value} {x : DataW H × List MemPlace} (hcs : cs.length = 4)
    (hf : DataW.trod enc Tryd.prog W 0 (fun _ => true) true fuel 38 cs = some x) :
    ∃ a : Ac, cs = [.int .i64 a.wh, .slice a.B a.M a.cm, .int .i64 a.ofs, .int .i64 a.nn] ∧ AcOk W a := by
  obtain ⟨xs, m, _, hx, hl, hlen, hel⟩ := DataW.trod_struct Tryd.underlying38 hf
  have h0 := hel 0 _ rfl
  have h1 := hel 1 _ rfl
  have h2 := hel 2 _ rfl
  have h3 := hel 3 _ rfl
  match cs, hcs with
  | [a, b, c, e], _ =>
    match xs, hlen with
    | [x0, x1, x2, x3], _ =>
      simp only [List.getElem?_cons_zero, List.getElem?_cons_succ] at h0 h1 h2 h3
      obtain ⟨k0, e0, _⟩ := DataW.trod_int Tryd.underlying3 h0
      obtain ⟨k2, e2, _⟩ := DataW.trod_int Tryd.underlying3 h2
      obtain ⟨k3, e3, _, w3⟩ := DataW.trod_int Tryd.underlying3 h3
      injection e0 with e0
      injection e2 with e2
      injection e3 with e3
      have hb := bounds_i64 w3
      have key : ∃ A n cp, b = .slice A n cp ∧ ∃ l : List UInt8, l.length = n ∧ n ≤ cp ∧ Rd W A l := by
        rcases open_ints Tryd.underlying22 Tryd.underlying5 cells_byte h1 with ⟨hc, _⟩ | ⟨x, n, cp, zs, hc, _⟩
        · injection hc with hc
          exact ⟨none, 0, 0, hc, [], rfl, Nat.le_refl _, Rv.nil _ _⟩
        · injection hc with hc
          subst hc
          obtain ⟨l, h4, h5, h6, _⟩ := open_bytes (A := some x) (len := n) (cap := cp) ⟨_, h1⟩
          exact ⟨some x, n, cp, rfl, l, h4, h5, h6⟩
      obtain ⟨A, n, cp, hbv, l, h4, h5, h6⟩ := key
      exact ⟨⟨k0, A, n, cp, k2, k3⟩, by rw [e0, e2, e3, hbv], ⟨⟨l, h4, h6⟩, h5, by show k3 ≤ _; omega⟩⟩

theorem pick_lt {α : Type} {n : Nat} {p : Nat → α → Prop} (h : ∀ i, i < n → ∃ y, p i y) : ∃ l : List α, l.length = n ∧ ∀ i y, l[i]? = some y → p i y := by
  induction n with
  | zero => exact ⟨[], rfl, fun i y hi => by simp at hi⟩
  | succ n ih =>
    obtain ⟨l, hl, hp⟩ := ih (fun i hi => h i (by omega))
    obtain ⟨y, hy⟩ := h n (by omega)
    refine ⟨l ++ [y], by simp [hl], fun i z hi => ?_⟩
    rcases Nat.lt_or_ge i n with h1 | h1
    · rw [List.getElem?_append_left (by omega)] at hi
      exact hp i z hi
    · rw [List.getElem?_append_right (by omega)] at hi
      have : i - l.length = 0 := by
        rcases Nat.eq_zero_or_pos (i - l.length) with h2 | h2
        · exact h2
        · rw [List.getElem?_eq_none (by simp; omega)] at hi; cases hi
      rw [this] at hi
      simp at hi
      subst hi
      rw [show i = n by omega]
      exact hy

theorem open_acts {H : Type} {enc : TypeId × Value → H} {W : World} {A : Option Addr} {len cap : Nat} {d : DataW H} {p : List MemPlace}
    (h : DataW.Trod enc Tryd.prog W 0 (fun _ => true) true 23 (.slice A len cap) d p) :
    ∃ ls : List Ac, ls.length = len ∧ len ≤ cap ∧ RdA W A ls ∧ ∀ a ∈ ls, AcOk W a := by
  obtain ⟨fuel, hf⟩ := h
  rcases open_slice Tryd.underlying23 hf with ⟨hcs, _⟩ | ⟨ad, l, c, m, n, D, Pl, hcs, _, hl, hm, hmm, hx, hall⟩
  · simp [Value.cells] at hcs
    obtain ⟨rfl, rfl, rfl⟩ := hcs
    exact ⟨[], rfl, Nat.le_refl _, fun i a hi => by simp at hi, fun a ha => by cases ha⟩
  · simp [Value.cells] at hcs
    obtain ⟨rfl, rfl, rfl⟩ := hcs
    simp only [if_true] at hmm
    rw [cells_act] at hall
    have each : ∀ i, i < len → ∃ a : Ac, (W.cell? (ad.add (i * 4)) = some (.int .i64 a.wh) ∧ W.cell? (ad.add (i * 4 + 1)) = some (.slice a.B a.M a.cm) ∧ W.cell? (ad.add (i * 4 + 2)) = some (.int .i64 a.ofs) ∧ W.cell? (ad.add (i * 4 + 3)) = some (.int .i64 a.nn)) ∧ AcOk W a := by
      intro i hi
      obtain ⟨cs, h1, h2⟩ := hall i (by omega)
      obtain ⟨_, hlen, hcell⟩ := World.cells?_some h1
      obtain ⟨a, rfl, hok⟩ := act_cells hlen h2
      refine ⟨a, ⟨?_, ?_, ?_, ?_⟩, hok⟩
      · have := hcell 0 (by decide)
        simpa [addr_add_add] using this
      · have := hcell 1 (by decide)
        simpa [addr_add_add] using this
      · have := hcell 2 (by decide)
        simpa [addr_add_add] using this
      · have := hcell 3 (by decide)
        simpa [addr_add_add] using this
    obtain ⟨ls, hls, hp⟩ := pick_lt each
    refine ⟨ls, hls, hl, fun i a hi => ⟨ad, rfl, (hp i a hi).1⟩, fun a ha => ?_⟩
    obtain ⟨i, hi, e⟩ := List.mem_iff_getElem.1 ha
    exact (hp i a (by rw [List.getElem?_eq_getElem hi, e])).2

end Go.Proofs.YteogpmapbeogpaaDoor
