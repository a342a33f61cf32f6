/-
  The mathematics of the reference's table: the symbol to adjust among all symbols; what a step keeps. No condition beyond those that each theorem states.
-/
import Derived.Test.YtkojdhmgefggjaaKno
import Derived.BigQuiet
namespace Go.Proofs.Ytkojdhmgefggjaa
open Go.RowKit Go.Shelf

theorem pick_both {ok p : Nat → Bool} {key : Nat → Int} {U : List Nat} : pick ok key (U.filter p) = pick (fun i => ok i && p i) key U := by
  unfold pick
  rw [List.foldl_filter]
  congr 1
  funext b i
  by_cases hp : p i = true
  · cases b <;> simp [pickF, hp]
  · have hp2 : p i = false := by simpa using hp
    rw [if_neg hp]
    cases b <;> simp [pickF, hp2]
theorem goN_out {sg : Int} {ok : Int → Bool} {kf : Int → Int} {sh : Nat → Int} {t : Int} {U : List Nat} {i : Nat} (hi : i ∉ U) (n : Nat) : ∀ st : Nat → Int, goN sg ok kf sh t U n st i = st i := by
  induction n with
  | zero => exact fun st => rfl
  | succ n ih =>
    intro st
    show goN sg ok kf sh t U n (go1 sg ok kf sh t U st) i = st i
    rw [ih]
    cases hb : pick (fun i => ok (st i)) (fun i => kf (sh i - st i * t)) U with
    | none => unfold go1; rw [hb]
    | some b =>
      have := (pick_some hb).2.1
      rw [go1_of hb]
      show (if i = b then st i + sg else st i) = st i
      rw [if_neg (fun e => hi (by rw [e]; exact this))]

/-- On the way from st, lf: what is still to do leads to the same end. -/
structure Pro (sg : Int) (ok : Int → Bool) (kf : Int → Int) (nn : Int → Nat) (U : List Nat) (sh : Nat → Int) (T : Nat) (st : Nat → Int) (lf : Int) (st' : Nat → Int) (lf' : Int) : Prop where
  todo : goN sg ok kf sh T U (nn lf') st' = goN sg ok kf sh T U (nn lf) st
  lef : lf' - sg * nn lf' = lf - sg * nn lf
  rng : Rg U sh st' (1000000 - nn lf')
  sum : sm st' U + lf' = sm st U + lf
  mem : nn lf' ≤ nn lf
  out : ∀ i, i ∉ U → st' i = 0

theorem Pro.zero {sg : Int} {ok : Int → Bool} {kf : Int → Int} {nn : Int → Nat} {U : List Nat} {sh : Nat → Int} {T : Nat} {st : Nat → Int} {lf : Int} (hr : Rg U sh st (1000000 - nn lf)) (ho : ∀ i, i ∉ U → st i = 0) : Pro sg ok kf nn U sh T st lf st lf :=
  ⟨rfl, rfl, hr, rfl, Nat.le_refl _, ho⟩
theorem Pro.step {sg : Int} {ok : Int → Bool} {kf : Int → Int} {nn : Int → Nat} {U : List Nat} {sh : Nat → Int} {T : Nat} {st : Nat → Int} {lf : Int} {st' : Nat → Int} {lf' : Int} {i q : Nat}
    (h : Pro sg ok kf nn U sh T st lf st' lf') (hp : pick (fun i => ok (st' i)) (fun i => kf (sh i - st' i * (T : Int))) U = some i) (hq : nn lf' = q + 1) (hq2 : nn (lf' - sg) = q) (hn : U.Nodup) (hlo : 0 ≤ st' i + sg) (hsg : sg ≤ 1) :
    Pro sg ok kf nn U sh T st lf (fun a => if a = i then st' i + sg else st' a) (lf' - sg) := by
  have e1 : go1 sg ok kf sh T U st' = fun a => if a = i then st' a + sg else st' a := go1_of hp
  have e2 : go1 sg ok kf sh T U st' = fun a => if a = i then st' i + sg else st' a := by
    rw [e1]
    funext a
    by_cases h1 : a = i
    · rw [if_pos h1, if_pos h1, h1]
    · rw [if_neg h1, if_neg h1]
  have hi := (pick_some hp).2.1
  rw [← e2]
  refine ⟨?_, ?_, ⟨h.rng.sh, fun a ha => ?_⟩, ?_, by have := h.mem; omega, fun a ha => ?_⟩
  · rw [hq2, ← h.todo, hq]; rfl
  · have h3 := h.lef
    rw [hq] at h3
    rw [hq2, ← h3, Int.natCast_add, Int.mul_add]
    omega
  · have h3 := h.rng.st a ha
    rw [hq] at h3
    rw [hq2, e2]
    show 0 ≤ (if a = i then st' i + sg else st' a) ∧ (if a = i then st' i + sg else st' a) ≤ _
    split
    · next h4 => subst h4; omega
    · omega
  · rw [e1, sm_upd hn hi]
    have := h.sum
    omega
  · rw [e2]
    show (if a = i then st' i + sg else st' a) = 0
    rw [if_neg (fun e => ha (by rw [e]; exact hi))]
    exact h.out a ha

/-- A row of one number for each symbol. -/
def rw_ (N : Nat) (f : Nat → Int) : List Value := ((List.range N).map f).map iv
theorem rw_get {N : Nat} {f : Nat → Int} {i : Nat} (h : i < N) : (rw_ N f)[i]? = some (.int .i64 (f i)) := by
  unfold rw_
  rw [List.getElem?_map, List.getElem?_map, List.getElem?_range h]
  rfl
theorem rw_set {N : Nat} {f : Nat → Int} {i : Nat} (y : Int) : (rw_ N f).set i (.int .i64 y) = rw_ N (fun a => if a = i then y else f a) := by
  unfold rw_
  refine List.ext_getElem? fun j => ?_
  rw [List.getElem?_set]
  rcases Nat.lt_or_ge j N with h | h
  · by_cases hij : i = j
    · subst hij
      simp [h]
    · have : ¬ j = i := fun e => hij e.symm
      simp [h, hij, this]
  · have e1 : (((List.range N).map (fun a => if a = i then y else f a)).map iv)[j]? = none := List.getElem?_eq_none (by simp; exact h)
    have e2 : (((List.range N).map f).map iv)[j]? = none := List.getElem?_eq_none (by simp; exact h)
    rw [e1, e2]
    split
    · rw [if_neg (by simp; omega)]
    · rfl
theorem rw_congr {N : Nat} {f h : Nat → Int} (e : ∀ i, i < N → f i = h i) : rw_ N f = rw_ N h := by
  unfold rw_
  rw [List.map_congr_left (fun i hi => e i (List.mem_range.1 hi))]

/-- A row of the call's own with a number for each symbol. -/
abbrev Row (W : World) (B g N : Nat) (f : Nat → Int) : Prop := W.ownsRow B 3 1 (.slice (some ⟨g, 0, none⟩) N N) N (rw_ N f)
section
variable {W : World} {B g N : Nat} {f : Nat → Int}
theorem Row.cell (h : Row W B g N f) {i : Nat} (hi : i < N) : W.cell? ⟨g, i, none⟩ = some (.int .i64 (f i)) := by
  rw [World.ownsRow.cellAt h i (by omega)]; exact rw_get hi
theorem Row.set (h : Row W B g N f) (i : Nat) (y : Int) : Row (W.setCell ⟨g, i, none⟩ (.int .i64 y)) B g N (fun a => if a = i then y else f a) := by
  have := (World.ownsRow.stored h i (.int .i64 y)).1
  rw [rw_set] at this
  exact this
theorem Row.congr (h : Row W B g N f) {f' : Nat → Int} (e : ∀ i, i < N → f i = f' i) : Row W B g N f' := by
  have : Row W B g N f := h
  unfold Row at this ⊢
  rw [← rw_congr e]
  exact this
end

/-- The last used symbol below i. -/
def lsi (k : List Nat) (i : Nat) : Nat := (usi k i).getLast?.getD 0
theorem lsi_zero (k : List Nat) : lsi k 0 = 0 := by simp [lsi, usi]
theorem lsi_no {k : List Nat} {i : Nat} (h : cn k i = 0) : lsi k (i + 1) = lsi k i := by
  unfold lsi; rw [usi_succ, if_neg (by omega), List.append_nil]
theorem lsi_yes {k : List Nat} {i : Nat} (h : 0 < cn k i) : lsi k (i + 1) = i := by
  unfold lsi; rw [usi_succ, if_pos h]; simp
theorem lsi_all (k : List Nat) : lsi k k.length = lst k := rfl
theorem lsi_lt {k : List Nat} {i : Nat} (h : 0 < i) : lsi k i < i := by
  induction i with
  | zero => omega
  | succ i ih =>
    rcases Nat.eq_zero_or_pos (cn k i) with h0 | h0
    · rw [lsi_no h0]
      rcases Nat.eq_zero_or_pos i with rfl | hi
      · rw [lsi_zero]; omega
      · have := ih hi; omega
    · rw [lsi_yes h0]; omega

end Go.Proofs.Ytkojdhmgefggjaa
