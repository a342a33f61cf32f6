/-
  What slices.insertionSortCmpFunc does at entries with the order of list.increasing: a stretch of the row becomes its stable sort by count. Only the row's block and new memory change. Condition: the stretch lies in the row.
-/
import Derived.Deep.RegionHeld3
import Derived.BigQuiet
import Derived.Deep.QuietTactic
import Derived.Test.YtdlhfcapfbbjjaaRot
namespace Go.Proofs.Ytdlhfcapfbbjjaa
open Go.RowKit

/-- S is the stable sort of seg by the second number. -/
def Srt2 (S : List (Nat × Nat)) : Prop := S.Pairwise (fun p q => p.2 ≤ q.2)
def Stb (seg S : List (Nat × Nat)) : Prop := Srt2 S ∧ ∀ v : Nat, S.filter (fun p => p.2 == v) = seg.filter (fun p => p.2 == v)
theorem Stb.nil : Stb [] [] := ⟨List.Pairwise.nil, fun _ => rfl⟩
theorem Stb.insert {seg S1 S2 : List (Nat × Nat)} {x : Nat × Nat} (h : Stb seg (S1 ++ S2)) (h1 : ∀ p ∈ S1, p.2 ≤ x.2) (h2 : ∀ p ∈ S2, x.2 < p.2) : Stb (seg ++ [x]) (S1 ++ [x] ++ S2) := by
  obtain ⟨hs, hf⟩ := h
  unfold Srt2 at hs
  rw [List.pairwise_append] at hs
  refine ⟨?_, fun v => ?_⟩
  · unfold Srt2
    rw [List.append_assoc, List.pairwise_append]
    refine ⟨hs.1, ?_, fun p hp q hq => ?_⟩
    · rw [List.singleton_append, List.pairwise_cons]
      exact ⟨fun p hp => Nat.le_of_lt (h2 p hp), hs.2.1⟩
    · rw [List.singleton_append, List.mem_cons] at hq
      rcases hq with rfl | hq
      · exact h1 p hp
      · exact hs.2.2 p hp q hq
  · have hv := hf v
    rw [List.filter_append] at hv
    rw [List.filter_append, List.filter_append, List.filter_append, ← hv]
    by_cases hx : x.2 = v
    · have e : S2.filter (fun p => p.2 == v) = [] := by
        rw [List.filter_eq_nil_iff]
        intro p hp
        have := h2 p hp
        simp
        omega
      rw [e]
      simp
    · have e : [x].filter (fun p => p.2 == v) = [] := by simp [hx]
      rw [e]
      simp

theorem swp_comm {p q : Nat} (h : p ≠ q) (es : List (Nat × Nat)) : swp p q es = swp q p es := by
  unfold swp
  rw [List.set_comm _ _ h]

/-- The four stores of an exchange. -/
theorem swap_w {wr : World} {B g N c : Nat} {fs : List (Nat × Nat)} (HE : Ents wr B g N c fs) (hfl : fs.length = N) {P Q : Nat} (hP : P < N) (hQ : Q < N) {x1 x2 y1 y2 : Nat} (hx : fs[P]? = some (x1, x2)) (hy : fs[Q]? = some (y1, y2)) :
    ∃ W1 W2 W3 z1 z2 z3, wr.setCell ⟨g, P * 2, none⟩ (.int .i64 (y1 : Int)) = W1 ∧ W1.setCell ⟨g, P * 2 + 1, none⟩ (.int .i64 (y2 : Int)) = W2 ∧ W2.setCell ⟨g, Q * 2, none⟩ (.int .i64 (x1 : Int)) = W3 ∧
      (wr.cell? ⟨g, P * 2, none⟩ = some (.int .i64 (x1 : Int)) ∧ wr.cell? ⟨g, P * 2 + 1, none⟩ = some (.int .i64 (x2 : Int)) ∧ wr.cell? ⟨g, Q * 2, none⟩ = some (.int .i64 (y1 : Int)) ∧ wr.cell? ⟨g, Q * 2 + 1, none⟩ = some (.int .i64 (y2 : Int))) ∧
      (W1.cell? ⟨g, P * 2 + 1, none⟩ = some z1 ∧ W2.cell? ⟨g, Q * 2, none⟩ = some z2 ∧ W3.cell? ⟨g, Q * 2 + 1, none⟩ = some z3) ∧
      (wr.frozen? ⟨g, P * 2, none⟩ = false ∧ W1.frozen? ⟨g, P * 2 + 1, none⟩ = false ∧ W2.frozen? ⟨g, Q * 2, none⟩ = false ∧ W3.frozen? ⟨g, Q * 2 + 1, none⟩ = false) ∧
      Ents (W3.setCell ⟨g, Q * 2 + 1, none⟩ (.int .i64 (x2 : Int))) B g N c (swp P Q fs) ∧ ∀ w, Chg (fun x => x = g) w wr → Chg (fun x => x = g) w (W3.setCell ⟨g, Q * 2 + 1, none⟩ (.int .i64 (x2 : Int))) := by
  have hfl2 : (flat2 fs).length = N * 2 := by rw [flat2_len, hfl]
  obtain ⟨u0, u1⟩ := flat2_get hx
  obtain ⟨v0, v1⟩ := flat2_get hy
  have o1 : (wr.setCell ⟨g, P * 2, none⟩ (.int .i64 (y1 : Int))).ownsRow B 76 2 (.slice (some ⟨g, 0, none⟩) N c) N ((flat2 fs).set (P * 2) (nv y1)) := (World.ownsRow.stored HE (P * 2) _).1
  obtain ⟨z1, hz1⟩ : ∃ z, ((flat2 fs).set (P * 2) (nv y1))[P * 2 + 1]? = some z := ⟨_, List.getElem?_eq_getElem (by rw [List.length_set]; omega)⟩
  have o2 := (o1.stored (P * 2 + 1) (.int .i64 (y2 : Int))).1
  obtain ⟨z2, hz2⟩ : ∃ z, (((flat2 fs).set (P * 2) (nv y1)).set (P * 2 + 1) (nv y2))[Q * 2]? = some z := ⟨_, List.getElem?_eq_getElem (by rw [List.length_set, List.length_set]; omega)⟩
  have o3 := (o2.stored (Q * 2) (.int .i64 (x1 : Int))).1
  obtain ⟨z3, hz3⟩ : ∃ z, ((((flat2 fs).set (P * 2) (nv y1)).set (P * 2 + 1) (nv y2)).set (Q * 2) (nv x1))[Q * 2 + 1]? = some z := ⟨_, List.getElem?_eq_getElem (by rw [List.length_set, List.length_set, List.length_set]; omega)⟩
  refine ⟨_, _, _, z1, z2, z3, rfl, rfl, rfl, ⟨?_, ?_, ?_, ?_⟩, ⟨?_, ?_, ?_⟩, ⟨World.ownsRow.frozenAt HE _, o1.frozenAt _, o2.frozenAt _, o3.frozenAt _⟩, ?_, fun w hc => (((hc.set ⟨g, P * 2, none⟩ rfl _).set ⟨g, P * 2 + 1, none⟩ rfl _).set ⟨g, Q * 2, none⟩ rfl _).set ⟨g, Q * 2 + 1, none⟩ rfl _⟩
  · rw [World.ownsRow.cellAt HE _ (by omega)]; exact u0
  · rw [World.ownsRow.cellAt HE _ (by omega)]; exact u1
  · rw [World.ownsRow.cellAt HE _ (by omega)]; exact v0
  · rw [World.ownsRow.cellAt HE _ (by omega)]; exact v1
  · rw [o1.cellAt _ (by omega)]; exact hz1
  · rw [o2.cellAt _ (by omega)]; exact hz2
  · rw [o3.cellAt _ (by omega)]; exact hz3
  · have h1 := flat2_set fs P (y1, y2)
    have h2 := flat2_set (fs.set P (y1, y2)) Q (x1, x2)
    have e : flat2 (swp P Q fs) = ((((flat2 fs).set (P * 2) (nv y1)).set (P * 2 + 1) (nv y2)).set (Q * 2) (nv x1)).set (Q * 2 + 1) (nv x2) := by
      rw [h1, h2]
      unfold swp
      rw [hx, hy]
      rfl
    unfold Ents
    rw [e]
    exact (o3.stored (Q * 2 + 1) _).1

end Go.Proofs.Ytdlhfcapfbbjjaa
