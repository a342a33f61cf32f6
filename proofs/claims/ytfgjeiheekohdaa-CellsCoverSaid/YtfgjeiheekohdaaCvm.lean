/-
  The mathematics of CellsCover: the states that the first spans of a symbol cover; rows of bools. Conditions: those that each theorem states.
-/
import Derived.Test.YtfgjeiheekohdaaPut
namespace Go.Proofs.Ytfgjeiheekohdaa
open Go.RowKit Go.Shelf

/-- How far state j is from where the spans begin, going round. -/
def rlt (p0 s j : Nat) : Nat := if p0 ≤ j then j - p0 else j + s - p0
def hdl (p0 s a : Nat) : List Bool := (List.range s).map (fun j => decide (rlt p0 s j < a))
theorem hdl_len (p0 s a : Nat) : (hdl p0 s a).length = s := by simp [hdl]
theorem hdl_get {s j : Nat} (p0 a : Nat) (h : j < s) : (hdl p0 s a)[j]? = some (decide (rlt p0 s j < a)) := by simp [hdl, h]
theorem hdl_zero (p0 s : Nat) : hdl p0 s 0 = List.replicate s false := by
  refine List.ext_getElem? fun j => ?_
  rcases Nat.lt_or_ge j s with h | h
  · simp [hdl, h]
  · simp [hdl, h]
theorem hdl_free {p0 s a j : Nat} (hj : j < s) (ha : a < s) (h : j = p0 + a ∨ j + s = p0 + a) : rlt p0 s j = a := by
  unfold rlt
  split <;> omega
theorem hdl_at {p0 s a j : Nat} (hj : j < s) (ha : a < s) (h : j = p0 + a ∨ j + s = p0 + a) : (hdl p0 s a)[j]? = some false := by
  rw [hdl_get p0 a hj, hdl_free hj ha h]
  simp
theorem hdl_set {p0 s a j : Nat} (hp : p0 < s) (hj : j < s) (ha : a < s) (h : j = p0 + a ∨ j + s = p0 + a) : (hdl p0 s a).set j true = hdl p0 s (a + 1) := by
  refine List.ext_getElem? fun i => ?_
  rw [List.getElem?_set]
  rcases Nat.lt_or_ge i s with hi | hi
  · rw [hdl_get p0 (a + 1) hi]
    by_cases hij : j = i
    · subst hij
      rw [if_pos rfl, if_pos (by rw [hdl_len]; exact hj), hdl_free hj ha h]
      simp
    · rw [if_neg hij, hdl_get p0 a hi]
      have h1 : rlt p0 s i ≠ a := by
        intro e
        have h2 := hdl_free hj ha h
        unfold rlt at e h2
        split at e <;> split at h2 <;> omega
      congr 1
      simp only [decide_eq_decide]
      omega
  · rw [List.getElem?_eq_none (l := hdl p0 s (a + 1)) (by rw [hdl_len]; exact hi)]
    split
    · rw [if_neg (by rw [hdl_len]; omega)]
    · exact List.getElem?_eq_none (by rw [hdl_len]; exact hi)

theorem num_of {y n X : Nat} (h : Num y n n) (h1 : n ≤ X) (h2 : X < 2 * n) : Num y n X := ⟨h.pos, h.le, h1, h2⟩
theorem psn_le {y n : Nat} (h : Num y n n) : ∀ (m X : Nat), n ≤ X → X + m = 2 * n → psn y n X ≤ psn y n (2 * n) := by
  intro m
  induction m with
  | zero => intro X _ e; rw [show X = 2 * n by omega]; exact Nat.le_refl _
  | succ m ih =>
    intro X h1 e
    have := ih (X + 1) (by omega) (by omega)
    have h2 := (num_of h h1 (by omega)).next.1
    rw [h2] at this
    exact Nat.le_trans (Nat.le_add_right _ _) this
/-- The k-th span. -/
theorem span_step {y n s k : Nat} (h : Num y n n) (hs : 2 ^ y = s) (hk : k < n) :
    psn y n (n + (k + 1)) = psn y n (n + k) + 2 ^ bts y (n + k) ∧ (psn y n (n + k) = bse y (n + k) ∨ psn y n (n + k) = bse y (n + k) + s) ∧ bse y (n + k) + 2 ^ bts y (n + k) ≤ s ∧ psn y n (n + (k + 1)) ≤ psn y n n + s := by
  have hN := num_of (X := n + k) h (by omega) (by omega)
  have h1 := hN.next
  have h2 := hN.fits
  have h3 := psn_le h (n - (k + 1)) (n + (k + 1)) (by omega) (by omega)
  rw [pos_end h] at h3
  rw [hs] at h1 h2 h3
  exact ⟨h1.1, h1.2, h2, h3⟩
theorem vt_num {y : Nat} {l : List Int} (h : Vt y l) {x : Nat} (hn : 1 ≤ nos l x) : Num y (nos l x) (nos l x) := by
  refine ⟨hn, ?_, Nat.le_refl _, by omega⟩
  rw [h.nos]
  have := List.count_le_length (a := x) (l := spl (2 ^ y) l)
  rwa [spl_len] at this

abbrev bv (b : Bool) : Value := .bool b
theorem und_bools : Try.prog.underlying 38 = some (.slice 4) := by kernel_rfl
theorem bool_info : (Try.prog.info? 4).map (fun i => (i.zero, i.size, i.bytes)) = some (some (.bool false), 1, 1) := by kernel_rfl
theorem made_bools (n : Nat) : (madeCells (Value.bool false).cells (n * 1)).toList = (List.replicate n false).map bv := by
  refine List.ext_getElem? fun j => ?_
  simp only [madeCells, Nat.mul_one, Value.cells]
  rcases Nat.lt_or_ge j n with h | h
  · simp [h, Nat.mod_one]
  · simp [h]
theorem make_bools (n : Nat) (hn : n ≤ 1000000) (W : World) : ∃ w1, (Instr.makeSlice 38 (.int .i64 (n : Int)) (.int .i64 (n : Int))).run Try.prog W = .ok (.slice (some ⟨W.heap.size, 0, none⟩) n n) w1 ∧
    w1.ownsRow W.heap.size 4 1 (.slice (some ⟨W.heap.size, 0, none⟩) n n) n ((List.replicate n false).map bv) ∧ Below W.heap.size W w1 := by
  obtain ⟨i0, hi, hz0, hz1, hz2⟩ := info_parts bool_info
  obtain ⟨w1, h1, h2, h3⟩ := run_makeSlice_full (P := Try.prog) W W.heap.size 38 4 i0 (.bool false) 1 und_bools hi hz0 hz1 .i64 .i64 n (by omega) (by rw [hz2]; omega) (by unfold maxLen; omega) (Nat.le_refl _)
  rw [made_bools] at h2
  exact ⟨w1, h1, h2, (Below.refl _ _).grown h3 (Nat.le_refl _) (fun k e => by cases e)⟩
theorem row2_at {W : World} {B g n c : Nat} {e : TypeId} {C : List (Nat × Nat)} (h : W.ownsRow B e 2 (.slice (some ⟨g, 0, none⟩) n c) n (flat2 C)) {j : Nat} {p : Nat × Nat} (hj : C[j]? = some p) :
    W.cell? ⟨g, j * 2, none⟩ = some (nw p.1) ∧ W.cell? ⟨g, j * 2 + 1, none⟩ = some (nw p.2) := by
  have hl := (List.getElem?_eq_some_iff.1 hj).1
  have hn : n = C.length := by have := h.1; rw [flat2_len] at this; omega
  obtain ⟨h1, h2⟩ := flat2_get hj
  exact ⟨(h.cellAt _ (by omega)).trans h1, (h.cellAt _ (by omega)).trans h2⟩

end Go.Proofs.Ytfgjeiheekohdaa
