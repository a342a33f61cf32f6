/-
  What Increasing returns fits what its iterator needs: as long as nothing below the world's end changes there. No condition.
-/
import Derived.Test.YtdlhfcapfbbjjaaRgn
import Derived.Test.YtdlhfcapfbbjjaaRim
namespace Go.Proofs.Ytdlhfcapfbbjjaa
open Go.RowKit

theorem rde_of {w : World} {B g r c : Nat} {S : List (Nat × Nat)} (hE : Ents w B g r c S) (hl : S.length = r) : RdE w (some ⟨g, 0, none⟩) S := by
  intro j p hp
  have hj : j < r := by have := (List.getElem?_eq_some_iff.1 hp).1; omega
  obtain ⟨u0, u1⟩ := flat2_get hp
  have hfl : (flat2 S).length = r * 2 := by rw [flat2_len, hl]
  exact ⟨g, rfl, by rw [World.ownsRow.cellAt hE _ (by omega)]; exact u0, by rw [World.ownsRow.cellAt hE _ (by omega)]; exact u1⟩
theorem rde_below {B : Nat} {w w' : World} {A : Option Addr} {S : List (Nat × Nat)} (h : RdE w A S) (hb : Below B w w') (hB : w.heap.size ≤ B) : RdE w' A S := by
  intro j p hp
  obtain ⟨g, hA, h1, h2⟩ := h j p hp
  have e : ∀ o, w.cell? ⟨g, o, none⟩ = some (nv p.1) ∨ w.cell? ⟨g, o, none⟩ = some (nv p.2) → w'.cell? ⟨g, o, none⟩ = w.cell? ⟨g, o, none⟩ := fun o ho => by
    have hl : g < w.heap.size := by rcases ho with ho | ho <;> exact cell_lt ho
    unfold World.cell?
    rw [hb.block g (by omega)]
  exact ⟨g, hA, (e _ (.inl h1)).trans h1, (e _ (.inr h2)).trans h2⟩
theorem kpi_below {B : Nat} {w w' : World} {A : Option Addr} {S : List (Nat × Nat)} {N c Bx : Nat} (h : KpI A S N c Bx w) (hb : Below B w w') (hB : w.heap.size ≤ B) : KpI A S N c Bx w' :=
  ⟨(hb.block Bx (by have := h.1.lt; omega)).trans h.1, rde_below h.2 hb hB⟩
/-- What the iterator hands on: the stable sort of the used symbols of valid counts, nothing else. -/
theorem itr_kp {w : World} {B Bx : Nat} {l : List Int} (h : Itr w B l Bx) :
    (ok l = false ∧ KpI none [] 0 0 Bx w) ∨ ∃ (k : List Nat) (S : List (Nat × Nat)) (g r c : Nat), l = k.map (fun n : Nat => (n : Int)) ∧ Vld k ∧ Stb (usd 0 k) S ∧ S.length = r ∧ r ≤ 256 ∧ B ≤ g ∧ KpI (some ⟨g, 0, none⟩) S r c Bx w := by
  rcases h.2 with ⟨h1, h2⟩ | ⟨k, g, r, c, h1, h2, h3, h4, S, h5, h6⟩
  · exact .inl ⟨h1, h2, fun j p hp => by simp at hp⟩
  · have hl : S.length = r := by
      have h7 := h6.1
      rw [flat2_len] at h7
      omega
    have hg : B ≤ g := by
      rcases h6.2 with ⟨h7, _⟩ | ⟨g', c', cur, h7, h8, _⟩
      · cases h7
      · injection h7 with h7
        injection h7 with h7
        injection h7 with h7
        omega
    exact .inr ⟨k, S, g, r, c, h1, h2, h5, hl, h4, hg, h3, rde_of h6 hl⟩

end Go.Proofs.Ytdlhfcapfbbjjaa
