/-
  What slices.swapRangeCmpFunc does at entries: it exchanges two stretches of a row of the call's own, entry by entry. Only the row's block and new memory change. Condition: the stretches lie in the row.
-/
import Derived.BigRegion
import Derived.Test.YtdlhfcapfbbjjaaCmp
namespace Go.Proofs.Ytdlhfcapfbbjjaa
open Go.RowKit

/-- Entries as cells. -/
def flat2 (es : List (Nat × Nat)) : List Value := es.flatMap (fun p => [nv p.1, nv p.2])
theorem flat2_len (es : List (Nat × Nat)) : (flat2 es).length = es.length * 2 := by
  induction es with
  | nil => rfl
  | cons p es ih => simp only [flat2, List.flatMap_cons, List.length_append, List.length_cons, List.length_nil] at ih ⊢; omega
theorem flat2_get {es : List (Nat × Nat)} {j : Nat} {p : Nat × Nat} (h : es[j]? = some p) : (flat2 es)[j * 2]? = some (nv p.1) ∧ (flat2 es)[j * 2 + 1]? = some (nv p.2) := by
  induction es generalizing j with
  | nil => simp at h
  | cons a es ih =>
    cases j with
    | zero => simp at h; subst h; simp [flat2]
    | succ j =>
      have := ih (j := j) (by simpa using h)
      rw [show (j + 1) * 2 = j * 2 + 2 by omega]
      simpa [flat2] using this
theorem flat2_set (es : List (Nat × Nat)) (j : Nat) (q : Nat × Nat) : ((flat2 es).set (j * 2) (nv q.1)).set (j * 2 + 1) (nv q.2) = flat2 (es.set j q) := by
  induction es generalizing j with
  | nil => simp [flat2]
  | cons a es ih =>
    cases j with
    | zero => simp [flat2]
    | succ j =>
      have := ih j
      rw [show (j + 1) * 2 = j * 2 + 2 by omega, show j * 2 + 2 + 1 = j * 2 + 1 + 2 by omega]
      simp only [flat2, List.flatMap_cons, List.set_cons_succ] at this ⊢
      rw [← this]
      simp

/-- Two entries exchanged. -/
def swp (p q : Nat) (es : List (Nat × Nat)) : List (Nat × Nat) := (es.set p (es[q]?.getD (0, 0))).set q (es[p]?.getD (0, 0))
theorem swp_len (p q : Nat) (es : List (Nat × Nat)) : (swp p q es).length = es.length := by simp [swp]
/-- Two stretches of n entries exchanged, entry by entry. -/
def swN (a b : Nat) : Nat → List (Nat × Nat) → List (Nat × Nat)
  | 0, es => es
  | n + 1, es => swp (a + n) (b + n) (swN a b n es)
theorem swN_len (a b n : Nat) (es : List (Nat × Nat)) : (swN a b n es).length = es.length := by
  induction n with
  | zero => rfl
  | succ n ih => rw [swN, swp_len, ih]

/-- A row of entries of the call's own. -/
abbrev Ents (w : World) (B g N c : Nat) (es : List (Nat × Nat)) : Prop := w.ownsRow B 76 2 (.slice (some ⟨g, 0, none⟩) N c) N (flat2 es)

set_option maxRecDepth 100000 in
set_option maxHeartbeats 4000000 in
theorem swap_any (w : World) (B g N c : Nat) (es : List (Nat × Nat)) (ho : Ents w B g N c es) (hN : es.length = N) (hNb : N ≤ 100000) (a b n : Nat) (ha : a + n ≤ N) (hb : b + n ≤ N) (f : Value) :
    Calls Try.prog 67 #[.slice (some ⟨g, 0, none⟩) N c, .int .i64 (a : Int), .int .i64 (b : Int), .int .i64 (n : Int), f] w fun e w' => e = .returned (.tuple #[]) ∧ Ents w' B g N c (swN a b n es) ∧ Chg (fun x => x = g) w w' := by
  have HO := Lib.hid ho
  have HN := Lib.hid hN
  clear ho hN
  go_enter Try.func67, Try.ntmps67
  go_wp2
  go_loopw [10] (fun p wr => ∃ i : Nat, i ≤ n ∧ p = .int .i64 (i : Int) ∧ Hid (Ents wr B g N c (swN a b i es)) ∧ Hid (Chg (fun x => x = g) w wr)) (fun p _ => n - (intOf p).toNat)
  case atStart => exact ⟨0, Nat.zero_le _, rfl, HO, Lib.hid (Chg.refl _ _)⟩
  case round =>
    obtain ⟨i, hi, rfl, HE, HC⟩ := hrel
    by_cases hlt : i < n
    · obtain ⟨P, hP⟩ : ∃ P, a + i = P := ⟨_, rfl⟩
      obtain ⟨Q, hQ⟩ : ∃ Q, b + i = Q := ⟨_, rfl⟩
      have hfl := swN_len a b i es
      rw [HN.out] at hfl
      have HS : Hid (swN a b (i + 1) es = swp P Q (swN a b i es)) := Lib.hid (by rw [swN, hP, hQ])
      obtain ⟨fs, hfs⟩ : ∃ fs, swN a b i es = fs := ⟨_, rfl⟩
      rw [hfs] at HE HS hfl
      have hPN : P < N := by omega
      have hQN : Q < N := by omega
      obtain ⟨⟨x1, x2⟩, hx⟩ : ∃ x, fs[P]? = some x := ⟨_, List.getElem?_eq_getElem (by omega)⟩
      obtain ⟨⟨y1, y2⟩, hy⟩ : ∃ y, fs[Q]? = some y := ⟨_, List.getElem?_eq_getElem (by omega)⟩
      have e1 : (a : Int) + (i : Int) = (P : Int) := by omega
      have e2 : (b : Int) + (i : Int) = (Q : Int) := by omega
      have wP : IntKind.i64.wrap (P : Int) = (P : Int) := IntWalk.i64_in _ (by omega)
      have wQ : IntKind.i64.wrap (Q : Int) = (Q : Int) := IntWalk.i64_in _ (by omega)
      obtain ⟨u0, u1⟩ := flat2_get hx
      obtain ⟨v0, v1⟩ := flat2_get hy
      have c0 : wr.cell? ⟨g, P * 2, none⟩ = some (.int .i64 (x1 : Int)) := by rw [World.ownsRow.cellAt HE.out _ (by omega)]; exact u0
      have c1 : wr.cell? ⟨g, P * 2 + 1, none⟩ = some (.int .i64 (x2 : Int)) := by rw [World.ownsRow.cellAt HE.out _ (by omega)]; exact u1
      have d0 : wr.cell? ⟨g, Q * 2, none⟩ = some (.int .i64 (y1 : Int)) := by rw [World.ownsRow.cellAt HE.out _ (by omega)]; exact v0
      have d1 : wr.cell? ⟨g, Q * 2 + 1, none⟩ = some (.int .i64 (y2 : Int)) := by rw [World.ownsRow.cellAt HE.out _ (by omega)]; exact v1
      have f0 := World.ownsRow.frozenAt HE.out (P * 2)
      have HFL : Hid (flat2 (swp P Q fs) = ((((flat2 fs).set (P * 2) (nv y1)).set (P * 2 + 1) (nv y2)).set (Q * 2) (nv x1)).set (Q * 2 + 1) (nv x2)) := Lib.hid (by
        have h1 := flat2_set fs P (y1, y2)
        have h2 := flat2_set (fs.set P (y1, y2)) Q (x1, x2)
        rw [h1, h2]
        unfold swp
        rw [hx, hy]
        rfl)
      have hfl2 : (flat2 fs).length = N * 2 := by rw [flat2_len, hfl]
      obtain ⟨W1, hW1⟩ : ∃ W1, wr.setCell ⟨g, P * 2, none⟩ (.int .i64 (y1 : Int)) = W1 := ⟨_, rfl⟩
      have o1 : W1.ownsRow B 76 2 (.slice (some ⟨g, 0, none⟩) N c) N ((flat2 fs).set (P * 2) (nv y1)) := by rw [← hW1]; exact (World.ownsRow.stored HE.out (P * 2) _).1
      obtain ⟨z1, hz1⟩ : ∃ z, ((flat2 fs).set (P * 2) (nv y1))[P * 2 + 1]? = some z := ⟨_, List.getElem?_eq_getElem (by rw [List.length_set]; omega)⟩
      have k1 : W1.cell? ⟨g, P * 2 + 1, none⟩ = some z1 := by rw [o1.cellAt _ (by omega)]; exact hz1
      have f1 := o1.frozenAt (P * 2 + 1)
      obtain ⟨W2, hW2⟩ : ∃ W2, W1.setCell ⟨g, P * 2 + 1, none⟩ (.int .i64 (y2 : Int)) = W2 := ⟨_, rfl⟩
      have o2 : W2.ownsRow B 76 2 (.slice (some ⟨g, 0, none⟩) N c) N (((flat2 fs).set (P * 2) (nv y1)).set (P * 2 + 1) (nv y2)) := by rw [← hW2]; exact (o1.stored (P * 2 + 1) _).1
      obtain ⟨z2, hz2⟩ : ∃ z, (((flat2 fs).set (P * 2) (nv y1)).set (P * 2 + 1) (nv y2))[Q * 2]? = some z := ⟨_, List.getElem?_eq_getElem (by rw [List.length_set, List.length_set]; omega)⟩
      have k2 : W2.cell? ⟨g, Q * 2, none⟩ = some z2 := by rw [o2.cellAt _ (by omega)]; exact hz2
      have f2 := o2.frozenAt (Q * 2)
      obtain ⟨W3, hW3⟩ : ∃ W3, W2.setCell ⟨g, Q * 2, none⟩ (.int .i64 (x1 : Int)) = W3 := ⟨_, rfl⟩
      have o3 : W3.ownsRow B 76 2 (.slice (some ⟨g, 0, none⟩) N c) N ((((flat2 fs).set (P * 2) (nv y1)).set (P * 2 + 1) (nv y2)).set (Q * 2) (nv x1)) := by rw [← hW3]; exact (o2.stored (Q * 2) _).1
      obtain ⟨z3, hz3⟩ : ∃ z, ((((flat2 fs).set (P * 2) (nv y1)).set (P * 2 + 1) (nv y2)).set (Q * 2) (nv x1))[Q * 2 + 1]? = some z := ⟨_, List.getElem?_eq_getElem (by rw [List.length_set, List.length_set, List.length_set]; omega)⟩
      have k3 : W3.cell? ⟨g, Q * 2 + 1, none⟩ = some z3 := by rw [o3.cellAt _ (by omega)]; exact hz3
      have f3 := o3.frozenAt (Q * 2 + 1)
      have HF : Hid (Ents (W3.setCell ⟨g, Q * 2 + 1, none⟩ (.int .i64 (x2 : Int))) B g N c (swN a b (i + 1) es)) := Lib.hid (by
        unfold Ents
        rw [HS.out, HFL.out]
        exact (o3.stored (Q * 2 + 1) _).1)
      have HCF : Hid (Chg (fun x => x = g) w (W3.setCell ⟨g, Q * 2 + 1, none⟩ (.int .i64 (x2 : Int)))) := Lib.hid (by
        rw [← hW3, ← hW2, ← hW1]
        exact (((HC.out.set ⟨g, P * 2, none⟩ rfl _).set ⟨g, P * 2 + 1, none⟩ rfl _).set ⟨g, Q * 2, none⟩ rfl _).set ⟨g, Q * 2 + 1, none⟩ rfl _)
      clear hP hQ hfl hfs hx hy u0 u1 v0 v1 HE HC HS HFL hfl2 o1 o2 o3 hz1 hz2 hz3
      go_wp2
      go_region
      all_goals
        go_wp2
        exact ⟨⟨i + 1, by omega, by simp, Lib.hid (show Ents _ B g N c _ from HF.out), Lib.hid (HCF.out.drew 1)⟩, by simp [intOf]; omega⟩
    · have hin : n = i := by omega
      subst hin
      go_wp2
      go_end0
      exact ⟨rfl, HE.out, HC.out⟩

end Go.Proofs.Ytdlhfcapfbbjjaa
