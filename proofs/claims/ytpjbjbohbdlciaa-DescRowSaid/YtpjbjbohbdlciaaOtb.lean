/-
  How an argument that is a slice of tables is read: rows of two cells, and the norms of each table. No condition.
  The descriptions of tables, one after the other. No condition.
-/
import Derived.Test.YtpjbjbohbdlciaaFrm
import Derived.Deep.Slices
namespace Go.Proofs.Ytpjbjbohbdlciaa
open Go.ChangeShapes Go.WideShapes Go.ChangeAt Go.RowKit Go.Deep
open Bt (unp pack)

/-- A table, as it lies in memory. -/
structure Tt where
  y : Int
  A : Option Addr
  n : Nat
  cap : Nat
  l : List Int
/-- Its norms. -/
def TtOk (w : World) (t : Tt) : Prop := t.l.length = t.n ∧ t.n ≤ t.cap ∧ Ri w t.A t.l
/-- A row of tables. -/
def RdT (w : World) (A : Option Addr) (ts : List Tt) : Prop :=
  ∀ (i : Nat) (t : Tt), ts[i]? = some t → ∃ ad, A = some ad ∧ w.cell? (ad.add (i * 2)) = some (.int .i64 t.y) ∧ w.cell? (ad.add (i * 2 + 1)) = some (.slice t.A t.n t.cap)
theorem addr_next (a : Addr) (k n : Nat) : (a.add k).add (n + 1) = { block := (a.add k).block, off := (a.add k).off + (n + 1) } := rfl
theorem RdT.at {w w' : World} {A : Option Addr} {ts : List Tt} (h : RdT w A ts) (hb : Below w.heap.size w w') {i : Nat} {t : Tt} (hi : ts[i]? = some t) : ∃ ad, A = some ad ∧ w'.cell? (ad.add (i * 2)) = some (.int .i64 t.y) ∧ w'.cell? { block := (ad.add (i * 2)).block, off := (ad.add (i * 2)).off + 1 } = some (.slice t.A t.n t.cap) := by
  obtain ⟨ad, hA, h0, h1⟩ := h i t hi
  refine ⟨ad, hA, (hb.cell (cell_lt h0)).trans h0, ?_⟩
  rw [← addr_add_add] at h1
  exact (hb.cell (cell_lt h1)).trans h1

set_option maxRecDepth 100000 in
theorem tab_cells {H : Type} {enc : TypeId × Value → H} {W : World} {fuel : Nat} {cs : List Value} {x : DataW H × List MemPlace} (hcs : cs.length = 2)
    (hf : DataW.trod enc Try.prog W 0 (fun _ => true) true fuel 24 cs = some x) :
    ∃ t : Tt, cs = [.int .i64 t.y, .slice t.A t.n t.cap] ∧ TtOk W t := by
  obtain ⟨xs, m, _, hx, hl, hlen, hel⟩ := DataW.trod_struct Try.underlying24 hf
  have h0 := hel 0 _ rfl
  have h1 := hel 1 _ rfl
  match cs, hcs with
  | [a, b], _ =>
    match xs, hlen with
    | [x0, x1], _ =>
      simp only [List.getElem?_cons_zero, List.getElem?_cons_succ] at h0 h1
      obtain ⟨k0, e0, _⟩ := DataW.trod_int Try.underlying3 h0
      injection e0 with e0
      obtain ⟨A', len', cap', l, hc, q1, q2, q3, q4⟩ := ints_of h1
      injection hc with hc
      exact ⟨⟨k0, A', len', cap', l⟩, by rw [e0, hc], q1, q2, q3⟩

theorem pick_lt {α : Type} {n : Nat} {p : Nat → α → Prop} (h : ∀ i, i < n → ∃ y, p i y) : ∃ l : List α, l.length = n ∧ ∀ i y, l[i]? = some y → p i y := by
  induction n with
  | zero => exact ⟨[], rfl, fun i y hi => by simp at hi⟩
  | succ n ih =>
    obtain ⟨l, hl, hp⟩ := ih (fun i hi => h i (by omega))
    obtain ⟨y, hy⟩ := h n (by omega)
    refine ⟨l ++ [y], by simp [hl], fun i z hi => ?_⟩
    rcases Nat.lt_or_ge i n with h1 | h1
    · rw [List.getElem?_append_left (by omega)] at hi
      exact hp i z hi
    · rw [List.getElem?_append_right (by omega)] at hi
      have : i - l.length = 0 := by
        rcases Nat.eq_zero_or_pos (i - l.length) with h2 | h2
        · exact h2
        · rw [List.getElem?_eq_none (by simp; omega)] at hi; cases hi
      rw [this] at hi
      simp at hi
      subst hi
      rw [show i = n by omega]
      exact hy

theorem open_tabs {H : Type} {enc : TypeId × Value → H} {W : World} {A : Option Addr} {len cap : Nat} {d : DataW H} {p : List MemPlace}
    (h : DataW.Trod enc Try.prog W 0 (fun _ => true) true 49 (.slice A len cap) d p) :
    ∃ ls : List Tt, ls.length = len ∧ len ≤ cap ∧ RdT W A ls ∧ ∀ a ∈ ls, TtOk W a := by
  obtain ⟨fuel, hf⟩ := h
  rcases open_slice Try.underlying49 hf with ⟨hcs, _⟩ | ⟨ad, l, c, m, n, D, Pl, hcs, _, hl, hm, hmm, hx, hall⟩
  · simp [Value.cells] at hcs
    obtain ⟨rfl, rfl, rfl⟩ := hcs
    exact ⟨[], rfl, Nat.le_refl _, fun i a hi => by simp at hi, fun a ha => by cases ha⟩
  · simp [Value.cells] at hcs
    obtain ⟨rfl, rfl, rfl⟩ := hcs
    simp only [if_true] at hmm
    rw [cells_tab] at hall
    have each : ∀ i, i < len → ∃ a : Tt, (W.cell? (ad.add (i * 2)) = some (.int .i64 a.y) ∧ W.cell? (ad.add (i * 2 + 1)) = some (.slice a.A a.n a.cap)) ∧ TtOk W a := by
      intro i hi
      obtain ⟨cs, h1, h2⟩ := hall i (by omega)
      obtain ⟨_, hlen, hcell⟩ := World.cells?_some h1
      obtain ⟨a, rfl, hok⟩ := tab_cells hlen h2
      refine ⟨a, ⟨?_, ?_⟩, hok⟩
      · have := hcell 0 (by decide)
        simpa [addr_add_add] using this
      · have := hcell 1 (by decide)
        simpa [addr_add_add] using this
    obtain ⟨ls, hls, hp⟩ := pick_lt each
    refine ⟨ls, hls, hl, fun i a hi => ⟨ad, rfl, (hp i a hi).1⟩, fun a ha => ?_⟩
    obtain ⟨i, hi, e⟩ := List.mem_iff_getElem.1 ha
    exact (hp i a (by rw [List.getElem?_eq_getElem hi, e])).2

/-- The description of a table, and those of tables one after the other. -/
def pk (t : Tt) : List UInt8 := pack (descr t.y.toNat t.l)
def cat (ts : List Tt) : List UInt8 := ts.flatMap pk
/-- A table that has a description and at most 100 norms. -/
def gd (t : Tt) : Prop := t.n ≤ 100 ∧ ∃ y : Nat, t.y = (y : Int) ∧ 1 ≤ y ∧ Vt y t.l

theorem cat_take {ts : List Tt} {i : Nat} {t : Tt} (h : ts[i]? = some t) : cat (ts.take (i + 1)) = cat (ts.take i) ++ pk t := by
  unfold cat
  rw [List.take_add_one, h, List.flatMap_append]
  simp
theorem cat_drop {ts : List Tt} {i : Nat} {t : Tt} (h : ts[i]? = some t) : (cat ts).drop (cat (ts.take i)).length = pk t ++ cat (ts.drop (i + 1)) := by
  obtain ⟨hi, e⟩ := List.getElem?_eq_some_iff.1 h
  have e1 : cat ts = cat (ts.take i) ++ (pk t ++ cat (ts.drop (i + 1))) := by
    have : ts = ts.take i ++ t :: ts.drop (i + 1) := by rw [← e, ← List.drop_eq_getElem_cons hi, List.take_append_drop]
    conv => lhs; rw [this]
    unfold cat
    rw [List.flatMap_append, List.flatMap_cons]
  rw [e1, List.drop_left]
theorem pk_len {t : Tt} (h : gd t) : (pk t).length ≤ 400 := by
  obtain ⟨_, y, hy, h1, hv⟩ := h
  have h2 := descr_len hv
  have h3 := Bt.pack_len (descr y t.l)
  unfold pk
  rw [hy, Int.toNat_natCast]
  omega

end Go.Proofs.Ytpjbjbohbdlciaa
