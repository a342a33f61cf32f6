/-
  What norm.divide does: it gives every used symbol its share, rounded down, but never below 1, in new memory. Nothing that was there has changed. Condition: the counts are valid; at most 512 states and as many used symbols.
-/
import Derived.Deep.AppendLies
import Derived.Deep.RegionLaw
import Derived.Test.YtkojdhmgefggjaaSrv
namespace Go.Proofs.Ytkojdhmgefggjaa
open Go.RowKit

/-- Portions as cells. -/
def flat (U : List Nat) (sh st : Nat → Int) : List Value := U.flatMap (fun i => [nv i, iv (sh i), iv (st i)])
theorem flat_len (U : List Nat) (sh st : Nat → Int) : (flat U sh st).length = U.length * 3 := by
  induction U with
  | nil => rfl
  | cons i U ih => simp only [flat, List.flatMap_cons, List.length_append, List.length_cons, List.length_nil] at ih ⊢; omega
theorem flat_append (U V : List Nat) (sh st : Nat → Int) : flat (U ++ V) sh st = flat U sh st ++ flat V sh st := by simp [flat]
theorem flat_get {U : List Nat} {sh st : Nat → Int} {j i : Nat} (h : U[j]? = some i) : (flat U sh st)[j * 3]? = some (nv i) ∧ (flat U sh st)[j * 3 + 1]? = some (iv (sh i)) ∧ (flat U sh st)[j * 3 + 2]? = some (iv (st i)) := by
  induction U generalizing j with
  | nil => simp at h
  | cons a U ih =>
    cases j with
    | zero => simp at h; subst h; simp [flat]
    | succ j =>
      have := ih (j := j) (by simpa using h)
      rw [show (j + 1) * 3 = j * 3 + 3 by omega]
      simpa [flat] using this
theorem flat_set {U : List Nat} {sh st : Nat → Int} {j i : Nat} (hn : U.Nodup) (h : U[j]? = some i) (y : Int) : (flat U sh st).set (j * 3 + 2) (iv y) = flat U sh (fun a => if a = i then y else st a) := by
  induction U generalizing j with
  | nil => simp at h
  | cons a U ih =>
    rw [List.nodup_cons] at hn
    cases j with
    | zero =>
      simp at h
      subst h
      simp only [flat, List.flatMap_cons]
      have : U.flatMap (fun i => [nv i, iv (sh i), iv (st i)]) = U.flatMap (fun i => [nv i, iv (sh i), iv (if i = a then y else st i)]) := by
        simp only [List.flatMap]
        congr 1
        refine List.map_congr_left fun b hb => ?_
        rw [if_neg]
        rintro rfl
        exact hn.1 hb
      rw [this]
      simp
    | succ j =>
      have hu : U[j]? = some i := by simpa using h
      have hm := List.mem_of_getElem? hu
      have hne : a ≠ i := by rintro rfl; exact hn.1 hm
      have := ih hn.2 hu
      rw [show (j + 1) * 3 + 2 = j * 3 + 2 + 3 by omega]
      simp only [flat, List.flatMap_cons, if_neg hne] at this ⊢
      rw [← this]
      simp

/-- Block b is a division: its portions, the total, the states that nobody has. -/
structure Dv (W : World) (B b : Nat) (v : Value) (U : List Nat) (sh st : Nat → Int) (t : Nat) (lf : Int) : Prop where
  blk : W.heap[b]? = some (.cells #[v, nv t, iv lf] 52 (0, 0))
  own : W.ownsRow B 54 3 v U.length (flat U sh st)
  low : B ≤ b
  off : v.ownBlock ≠ some b

section
variable {W W' : World} {B b : Nat} {v : Value} {U : List Nat} {sh st : Nat → Int} {t : Nat} {lf : Int}
theorem Dv.lt (h : Dv W B b v U sh st t lf) : b < W.heap.size := (Array.getElem?_eq_some_iff.1 h.blk).1
theorem Dv.c0 (h : Dv W B b v U sh st t lf) : W.cell? ⟨b, 0, none⟩ = some v := by rw [cell_of_row W b 0 _ _ _ h.blk]; rfl
theorem Dv.c1 (h : Dv W B b v U sh st t lf) : W.cell? ⟨b, 1, none⟩ = some (.int .i64 (t : Int)) := by rw [cell_of_row W b 1 _ _ _ h.blk]; rfl
theorem Dv.c2 (h : Dv W B b v U sh st t lf) : W.cell? ⟨b, 2, none⟩ = some (.int .i64 lf) := by rw [cell_of_row W b 2 _ _ _ h.blk]; rfl
theorem Dv.free (h : Dv W B b v U sh st t lf) (i : Nat) : W.frozen? ⟨b, i, none⟩ = false := by simp [World.frozen?, h.blk]
theorem own_lt3 {e : TypeId} {z n : Nat} {xs : List Value} (h : W.ownsRow B e z v n xs) {g : Nat} (hg : v.ownBlock = some g) : g < W.heap.size := by
  rcases h.2 with ⟨rfl, _⟩ | ⟨g', c, cur, rfl, _, hh, _⟩
  · cases hg
  · injection hg with hg
    subst hg
    exact (Array.getElem?_eq_some_iff.1 hh).1
theorem own_ge3 {e : TypeId} {z n : Nat} {xs : List Value} (h : W.ownsRow B e z v n xs) {g : Nat} (hg : v.ownBlock = some g) : B ≤ g := by
  rcases h.2 with ⟨rfl, _⟩ | ⟨g', c, cur, rfl, hb, _⟩
  · cases hg
  · injection hg with hg
    subst hg
    exact hb
theorem own_same3 {e : TypeId} {z n : Nat} {xs : List Value} (h : W.ownsRow B e z v n xs) (hb : ∀ g, v.ownBlock = some g → W'.heap[g]? = W.heap[g]?) : W'.ownsRow B e z v n xs := by
  refine ⟨h.1, ?_⟩
  rcases h.2 with h1 | ⟨g, c, cur, rfl, h2, hh, h3⟩
  · exact .inl h1
  · exact .inr ⟨g, c, cur, rfl, h2, (hb g rfl).trans hh, h3⟩
theorem own_form3 {e : TypeId} {z n : Nat} {xs : List Value} (h : W.ownsRow B e z v n xs) : ∃ A c, v = .slice A n c ∧ n ≤ c := by
  rcases h.2 with ⟨rfl, hn⟩ | ⟨g, c, cur, rfl, _, _, hc, _⟩
  · exact ⟨none, 0, by rw [hn], by omega⟩
  · exact ⟨_, _, rfl, hc⟩
theorem own_some3 {e : TypeId} {z n N c : Nat} {A : Option Addr} {xs : List Value} (h0 : 0 < n) (h : W.ownsRow B e z (.slice A N c) n xs) : ∃ g, A = some ⟨g, 0, none⟩ := by
  rcases h.2 with ⟨_, hn⟩ | ⟨g, c, cur, hv, _⟩
  · omega
  · injection hv with hA
    exact ⟨g, hA⟩
theorem Dv.same (h : Dv W B b v U sh st t lf) (hb : ∀ g, g = b ∨ v.ownBlock = some g → W'.heap[g]? = W.heap[g]?) : Dv W' B b v U sh st t lf :=
  ⟨(hb b (.inl rfl)).trans h.blk, own_same3 h.own (fun g e => hb g (.inr e)), h.low, h.off⟩
theorem Dv.drew (h : Dv W B b v U sh st t lf) : Dv W.drew B b v U sh st t lf := ⟨h.blk, h.own, h.low, h.off⟩
theorem Dv.below (h : Dv W B b v U sh st t lf) (hb : Below W.heap.size W W') : Dv W' B b v U sh st t lf :=
  h.same fun g e => by
    rcases e with rfl | e
    · exact hb.block _ h.lt
    · exact hb.block _ (own_lt3 h.own e)
theorem Dv.set2 (h : Dv W B b v U sh st t lf) (z : Int) : Dv (W.setCell ⟨b, 2, none⟩ (.int .i64 z)) B b v U sh st t z := by
  have hb := h.blk
  refine ⟨by simp [World.setCell, Array.getElem?_modify, hb], own_same3 h.own (fun g e => ?_), h.low, h.off⟩
  exact Below.heap_setCell W ⟨b, 2, none⟩ _ g (fun e2 => h.off (by rw [e, e2]))
end

theorem und_pl : Try.prog.underlying 50 = some (.slice 54) := by kernel_rfl
theorem por_info : (Try.prog.info? 54).map (fun i => (i.zero, i.size, i.bytes)) = some (some (.agg #[.int .i64 0, .int .i64 0, .int .i64 0]), 3, 24) := by kernel_rfl

/-- A portion is appended and the new slice stored. -/
theorem dv_app {wr wa w5 : World} {B b n c g cap i q : Nat} {A : Option Addr} {U : List Nat} {sh st : Nat → Int} {t : Nat} {lf X M : Int} {o : Obj}
    (hd : Dv wr B b (.slice A n c) U sh st t lf) (hB : Below wr.heap.size wr wa) (hn : U.length = n) (hsh : sh i = X) (hst : st i = M)
    (ho : w5.ownsRow B 54 3 (.slice (some ⟨g, 0, none⟩) (n + 1) cap) (n + 1) (flat U sh st ++ [nv i, iv X, iv M])) (hg : wa.grownBy w5 (Value.slice A n c).ownBlock)
    (hl : (Value.slice A n c).ownBlock = some g ∨ g = wa.heap.size) (hq : wa.heap[q]? = some o) (hqw : wr.heap.size ≤ q) :
    (w5.heap[b]? = some (.cells #[.slice A n c, nv t, iv lf] 52 (0, 0))) ∧
    Dv (w5.setCell ⟨b, 0, none⟩ (.slice (some ⟨g, 0, none⟩) (n + 1) cap)) B b (.slice (some ⟨g, 0, none⟩) (n + 1) cap) (U ++ [i]) sh st t lf ∧
    (w5.setCell ⟨b, 0, none⟩ (.slice (some ⟨g, 0, none⟩) (n + 1) cap)).heap[q]? = some o ∧ Below B wr (w5.setCell ⟨b, 0, none⟩ (.slice (some ⟨g, 0, none⟩) (n + 1) cap)) := by
  have hbl := hd.lt
  have hsz := hB.size
  have h1 : w5.heap[b]? = some (.cells #[.slice A n c, nv t, iv lf] 52 (0, 0)) := by
    rw [hg.block b (by omega) (fun e => hd.off e.symm), hB.block b hbl]
    exact hd.blk
  have hgb : g ≠ b := by
    rcases hl with e | e
    · rintro rfl; exact hd.off e
    · omega
  have hqo : some q ≠ (Value.slice A n c).ownBlock := by
    intro e
    have := own_lt3 hd.own e.symm
    omega
  have hql : q < wa.heap.size := (Array.getElem?_eq_some_iff.1 hq).1
  refine ⟨h1, ⟨?_, ?_, hd.low, ?_⟩, ?_, ?_⟩
  · simp [World.setCell, Array.getElem?_modify, h1]
  · rw [List.length_append, List.length_singleton, hn, flat_append]
    have e1 : flat [i] sh st = [nv i, iv X, iv M] := by simp [flat, hsh, hst]
    rw [e1]
    exact own_same3 ho (fun g' e => by
      cases e
      exact Below.heap_setCell w5 ⟨b, 0, none⟩ _ _ hgb)
  · intro e
    cases e
    exact hgb rfl
  · rw [Below.heap_setCell w5 ⟨b, 0, none⟩ _ _ (by show q ≠ b; omega), hg.block q hql hqo]
    exact hq
  · refine Below.setCell (p := ⟨b, 0, none⟩) ⟨hg.os.trans hB.os, hg.tape.trans hB.tape, hg.output.trans hB.output, Nat.le_trans hsz hg.size, fun j hj => ?_⟩ hd.low _
    have hlow := hd.low
    rw [hg.block j (by omega) (fun e => ?_), hB.block j (by omega)]
    have := own_ge3 hd.own e.symm
    omega

end Go.Proofs.Ytkojdhmgefggjaa
