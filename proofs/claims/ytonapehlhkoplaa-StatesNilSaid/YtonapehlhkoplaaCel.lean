/-
  The mathematics of the cells: the number of states, the cell of each index, the spans. Conditions: those that each theorem states.
-/
import Derived.Test.YtonapehlhkoplaaCnt
namespace Go.Proofs.Ytonapehlhkoplaa

/-- The number of states of a symbol. -/
def nos (l : List Int) (x : Nat) : Nat := match l[x]? with | some z => (sts z).toNat | none => 0
/-- The bits and the base that belong to a number. -/
def bts (y X : Nat) : Nat := y - X.log2
def bse (y X : Nat) : Nat := X * 2 ^ bts y X - 2 ^ y
/-- The number of index i. -/
def xof (l : List Int) (K : List Nat) (i : Nat) : Nat := nos l (K[i]?.getD 0) + (K.take i).count (K[i]?.getD 0)
def cel (y : Nat) (l : List Int) (K : List Nat) (i : Nat) : Nat × Nat × Nat := (K[i]?.getD 0, bts y (xof l K i), bse y (xof l K i))
def cls (y : Nat) (l : List Int) (K : List Nat) : List (Nat × Nat × Nat) := (List.range K.length).map (cel y l K)
theorem cls_len (y : Nat) (l : List Int) (K : List Nat) : (cls y l K).length = K.length := by simp [cls]
theorem cls_get {y : Nat} {l : List Int} {K : List Nat} {i : Nat} (h : i < K.length) : (cls y l K)[i]? = some (cel y l K i) := by simp [cls, h]

/-- A number of a table: at least the states of its symbol, below twice as many. -/
structure Num (y n X : Nat) : Prop where
  pos : 1 ≤ n
  le : n ≤ 2 ^ y
  lo : n ≤ X
  hi : X < 2 * n
section
variable {y n X : Nat}
theorem Num.log (h : Num y n X) : X.log2 ≤ y := by
  have h1 := h.pos; have h2 := h.le; have h3 := h.lo; have h4 := h.hi
  have : X < 2 ^ (y + 1) := by rw [Nat.pow_succ]; omega
  exact Nat.le_of_lt_succ ((Nat.log2_lt (by omega)).2 this)
theorem Num.ne (h : Num y n X) : X ≠ 0 := by have h1 := h.pos; have h3 := h.lo; omega
theorem Num.split (h : Num y n X) : 2 ^ X.log2 * 2 ^ bts y X = 2 ^ y := by
  unfold bts
  rw [← Nat.pow_add]; congr 1; have := h.log; omega
theorem Num.low (h : Num y n X) : 2 ^ y ≤ X * 2 ^ bts y X := by
  rw [← h.split]; exact Nat.mul_le_mul_right _ (Nat.log2_self_le h.ne)
theorem Num.high (h : Num y n X) : (X + 1) * 2 ^ bts y X ≤ 2 * 2 ^ y := by
  have h1 : X + 1 ≤ 2 ^ (X.log2 + 1) := Nat.lt_log2_self
  have h2 := Nat.mul_le_mul_right (2 ^ bts y X) h1
  rw [Nat.pow_succ, Nat.mul_assoc, Nat.mul_comm 2, ← Nat.mul_assoc, h.split] at h2
  omega
theorem Num.base (h : Num y n X) : bse y X + 2 ^ y = X * 2 ^ bts y X := by
  unfold bse; have := h.low; omega
theorem Num.fits (h : Num y n X) : bse y X + 2 ^ bts y X ≤ 2 ^ y := by
  have h1 := h.high; have h2 := h.base
  rw [Nat.add_mul, Nat.one_mul] at h1; omega
theorem bts_le (y X : Nat) : bts y X ≤ y := Nat.sub_le _ _
theorem Num.ceil (h : Num y n X) : n * 2 ^ bts y X < 2 * 2 ^ y := by
  have h1 := h.high
  have h2 : (n + 1) * 2 ^ bts y X ≤ (X + 1) * 2 ^ bts y X := Nat.mul_le_mul_right _ (by have := h.lo; omega)
  have h3 : 0 < 2 ^ bts y X := Nat.two_pow_pos _
  rw [Nat.add_mul, Nat.one_mul] at h2; omega
theorem Num.floor (h : Num y n X) : 2 ^ y < 2 * (n * 2 ^ bts y X) := by
  have h1 := h.low
  have h2 : (X + 1) * 2 ^ bts y X ≤ (2 * n) * 2 ^ bts y X := Nat.mul_le_mul_right _ (by have := h.hi; omega)
  have h3 : 0 < 2 ^ bts y X := Nat.two_pow_pos _
  rw [Nat.add_mul, Nat.one_mul, Nat.mul_assoc] at h2; omega
/-- The states of a power of two: all bits are the same. -/
theorem Num.power {e : Nat} (h : Num y (2 ^ e) X) : 2 ^ e * 2 ^ bts y X = 2 ^ y := by
  have h1 : X.log2 = e := by
    have a : e ≤ X.log2 := by
      have := (Nat.le_log2 h.ne (k := e)).2 h.lo
      exact this
    have b : X.log2 < e + 1 := (Nat.log2_lt h.ne).2 (by rw [Nat.pow_succ]; have := h.hi; omega)
    omega
  have := h.split
  rwa [h1] at this
theorem bts_mono {X X' : Nat} (h0 : X ≠ 0) (h : X ≤ X') : bts y X' ≤ bts y X := by
  unfold bts
  have : X.log2 ≤ X'.log2 := (Nat.le_log2 (by omega)).2 (Nat.le_trans (Nat.log2_self_le h0) h)
  omega

/-- Where the spans of the numbers n .. X - 1 end, going round. -/
def psn (y n X : Nat) : Nat := if X ≤ 2 ^ (n.log2 + 1) then X * 2 ^ (y - n.log2) - 2 ^ y else X * 2 ^ (y - n.log2 - 1)
theorem Num.first (h : Num y n X) : Num y n n := ⟨h.pos, h.le, Nat.le_refl _, by have := h.pos; omega⟩
theorem Num.below (h : Num y n X) (hX : X < 2 ^ (n.log2 + 1)) : X.log2 = n.log2 := by
  have a : n.log2 ≤ X.log2 := (Nat.le_log2 h.ne).2 (Nat.le_trans (Nat.log2_self_le h.first.ne) h.lo)
  have b := (Nat.log2_lt h.ne).2 hX
  omega
theorem Num.above (h : Num y n X) (hX : 2 ^ (n.log2 + 1) ≤ X) : X.log2 = n.log2 + 1 := by
  have a := (Nat.le_log2 h.ne).2 hX
  have h2 : n < 2 ^ (n.log2 + 1) := Nat.lt_log2_self
  have b : X.log2 < n.log2 + 1 + 1 := (Nat.log2_lt h.ne).2 (by rw [Nat.pow_succ]; have := h.hi; omega)
  omega
theorem pos_top (h : n.log2 ≤ y) : 2 ^ (n.log2 + 1) * 2 ^ (y - n.log2) = 2 * 2 ^ y := by
  rw [← Nat.pow_add, Nat.mul_comm, ← Nat.pow_succ]; congr 1; omega
theorem pos_top2 (h : n.log2 + 1 ≤ y) : 2 ^ (n.log2 + 1) * 2 ^ (y - n.log2 - 1) = 2 ^ y := by
  rw [← Nat.pow_add]; congr 1; omega
/-- One span more: it begins where the ones before end, going round, and does not reach over the end. -/
theorem Num.next (h : Num y n X) : psn y n (X + 1) = psn y n X + 2 ^ bts y X ∧ (psn y n X = bse y X ∨ psn y n X = bse y X + 2 ^ y) := by
  have hb := h.base
  have hlow := h.low
  have hlog := h.first.log
  have ht := pos_top hlog
  unfold psn
  by_cases hX : X < 2 ^ (n.log2 + 1)
  · have e : bts y X = y - n.log2 := by unfold bts; rw [h.below hX]
    rw [e] at hb hlow ⊢
    rw [if_pos (by omega), if_pos (by omega), Nat.add_mul, Nat.one_mul]
    generalize 2 ^ (y - n.log2) = D at hb hlow ⊢
    generalize 2 ^ y = S at hb hlow ⊢
    exact ⟨by omega, .inl (by omega)⟩
  · have hX : 2 ^ (n.log2 + 1) ≤ X := by omega
    have e1 := h.above hX
    have hy : n.log2 + 1 ≤ y := by rw [← e1]; exact h.log
    have e : bts y X = y - n.log2 - 1 := by unfold bts; rw [e1]; omega
    have ht2 := pos_top2 hy
    rw [e] at hb hlow ⊢
    have e2 : 2 ^ (y - n.log2) = 2 * 2 ^ (y - n.log2 - 1) := by rw [Nat.mul_comm, ← Nat.pow_succ]; congr 1; omega
    rw [if_neg (show ¬ X + 1 ≤ 2 ^ (n.log2 + 1) by omega), Nat.add_mul, Nat.one_mul]
    by_cases he : X = 2 ^ (n.log2 + 1)
    · rw [if_pos (by omega), e2]
      have h3 : X * (2 * 2 ^ (y - n.log2 - 1)) = 2 * (X * 2 ^ (y - n.log2 - 1)) := by rw [← Nat.mul_assoc, Nat.mul_comm X 2, Nat.mul_assoc]
      rw [h3]
      have h4 : X * 2 ^ (y - n.log2 - 1) = 2 ^ y := by rw [he]; exact ht2
      exact ⟨by omega, .inr (by omega)⟩
    · rw [if_neg (by omega)]
      exact ⟨rfl, .inr (by omega)⟩
theorem pos_start (h : Num y n X) : psn y n n < 2 ^ y := by
  have h1 := h.first.next.2
  have h2 := h.first.fits
  have h3 : 0 < 2 ^ bts y n := Nat.two_pow_pos _
  have h4 : n < 2 ^ (n.log2 + 1) := Nat.lt_log2_self
  have hb := h.first.base
  unfold psn at h1 ⊢
  rw [if_pos (by omega)] at h1 ⊢
  have e : bts y n = y - n.log2 := rfl
  rw [e] at hb h2 h3
  omega
theorem pos_end (h : Num y n X) : psn y n (2 * n) = psn y n n + 2 ^ y := by
  have h4 : n < 2 ^ (n.log2 + 1) := Nat.lt_log2_self
  have hlog := h.first.log
  have hlow := h.first.low
  have e : bts y n = y - n.log2 := rfl
  rw [e] at hlow
  have h5 : 2 ^ n.log2 ≤ n := Nat.log2_self_le h.first.ne
  have ht := pos_top hlog
  unfold psn
  rw [if_pos (show n ≤ 2 ^ (n.log2 + 1) by omega)]
  by_cases h2 : 2 * n ≤ 2 ^ (n.log2 + 1)
  · rw [if_pos h2, Nat.mul_assoc]
    have e2 : 2 * n = 2 ^ (n.log2 + 1) := by rw [Nat.pow_succ] at h2 ⊢; omega
    rw [← e2, Nat.mul_assoc] at ht
    omega
  · rw [if_neg h2]
    have hy : n.log2 + 1 ≤ y := by
      rcases Nat.lt_or_ge n.log2 y with h6 | h6
      · omega
      · have : n.log2 = y := by omega
        rw [this, Nat.pow_succ] at h2
        have := h.le
        omega
    have e2 : 2 ^ (y - n.log2) = 2 * 2 ^ (y - n.log2 - 1) := by rw [Nat.mul_comm, ← Nat.pow_succ]; congr 1; omega
    have h3 : n * 2 ^ (y - n.log2) = 2 * n * 2 ^ (y - n.log2 - 1) := by rw [e2, ← Nat.mul_assoc, Nat.mul_comm n 2]
    omega
end


section
variable {y : Nat} {l : List Int}
theorem Vt.nos (h : Vt y l) (x : Nat) : nos l x = (spl (2 ^ y) l).count x := by
  have h1 := h.count x
  unfold Go.Proofs.Ytonapehlhkoplaa.nos
  cases hx : l[x]? with
  | none => rw [hx] at h1; simp only at h1 ⊢; omega
  | some z => rw [hx] at h1; simp only at h1 ⊢; omega
theorem Vt.num (h : Vt y l) {i x : Nat} (hx : (spl (2 ^ y) l)[i]? = some x) : Num y (Go.Proofs.Ytonapehlhkoplaa.nos l x) (xof l (spl (2 ^ y) l) i) := by
  have hn := h.nos x
  unfold xof
  rw [hx, Option.getD_some, hn]
  have h1 : (spl (2 ^ y) l).count x ≤ 2 ^ y := by have := List.count_le_length (a := x) (l := spl (2 ^ y) l); rwa [spl_len] at this
  have h2 : ((spl (2 ^ y) l).take (i + 1)).count x ≤ (spl (2 ^ y) l).count x := (List.take_sublist _ _).count_le x
  rw [take_succ_get hx, List.count_append, List.count_singleton] at h2
  simp only [beq_self_eq_true, if_true] at h2
  exact ⟨by omega, h1, by omega, by omega⟩
end

/-- The spans of a symbol's cells. -/
def spn (z : Int) (C : List (Nat × Nat × Nat)) : List (Nat × Nat) := (C.filter (fun c => decide ((c.1 : Int) = z))).map (fun c => (c.2.2, 2 ^ c.2.1))
theorem spn_step {z : Int} {C : List (Nat × Nat × Nat)} {i : Nat} {c : Nat × Nat × Nat} (h : C[i]? = some c) : spn z (C.take (i + 1)) = spn z (C.take i) ++ (if (c.1 : Int) = z then [(c.2.2, 2 ^ c.2.1)] else []) := by
  unfold spn
  rw [take_succ_get h, List.filter_append, List.map_append]
  congr 1
  by_cases hz : (c.1 : Int) = z
  · simp [hz]
  · simp [hz]
theorem spn_len (z : Int) (C : List (Nat × Nat × Nat)) : (spn z C).length ≤ C.length := by
  unfold spn
  rw [List.length_map]
  exact List.length_filter_le _ _
theorem spn_at {z : Int} {C : List (Nat × Nat × Nat)} {i : Nat} {c : Nat × Nat × Nat} (h : C[i]? = some c) (hz : (c.1 : Int) = z) : (spn z C)[(spn z (C.take i)).length]? = some (c.2.2, 2 ^ c.2.1) := by
  have h1 := spn_step (z := z) h
  rw [if_pos hz] at h1
  have h2 : spn z C = spn z (C.take (i + 1)) ++ spn z (C.drop (i + 1)) := by
    unfold spn
    rw [← List.map_append, ← List.filter_append, List.take_append_drop]
  rw [h2, h1, List.append_assoc, List.getElem?_append_right (Nat.le_refl _), Nat.sub_self]
  rfl
/-- The spans of symbol x are those of the numbers n, n + 1, .. -/
theorem spn_cls {y : Nat} {l : List Int} {K : List Nat} (x : Nat) {i : Nat} (hi : i ≤ K.length) : spn (x : Int) ((cls y l K).take i) = (List.range ((K.take i).count x)).map (fun k => (bse y (nos l x + k), 2 ^ bts y (nos l x + k))) := by
  induction i with
  | zero => simp [spn]
  | succ i ih =>
    obtain ⟨u, hu⟩ : ∃ u, K[i]? = some u := ⟨_, List.getElem?_eq_getElem (by omega)⟩
    rw [spn_step (cls_get (by omega)), ih (by omega), take_succ_get hu, List.count_append, List.count_singleton]
    unfold cel xof
    rw [hu, Option.getD_some]
    by_cases hx : u = x
    · subst hx
      simp [List.range_succ]
    · have : ¬ (u : Int) = (x : Int) := by omega
      simp [hx, this]
theorem spn_all {y : Nat} {l : List Int} (h : Vt y l) (x : Nat) : spn (x : Int) (cls y l (spl (2 ^ y) l)) = (List.range (nos l x)).map (fun k => (bse y (nos l x + k), 2 ^ bts y (nos l x + k))) := by
  have := spn_cls (y := y) (l := l) (K := spl (2 ^ y) l) x (Nat.le_refl _)
  rw [List.take_length, List.take_of_length_le (by rw [cls_len]; exact Nat.le_refl _)] at this
  rw [this, h.nos]
theorem spn_none {y : Nat} {l : List Int} (h : Vt y l) {z : Int} (hz : z < 0 ∨ nos l z.toNat = 0) : spn z (cls y l (spl (2 ^ y) l)) = [] := by
  rcases hz with hz | hz
  · unfold spn
    rw [List.filter_eq_nil_iff.2 (fun c _ => by simp; omega)]
    rfl
  · rcases Int.lt_or_le z 0 with h0 | h0
    · unfold spn
      rw [List.filter_eq_nil_iff.2 (fun c _ => by simp; omega)]
      rfl
    · have := spn_all h z.toNat
      rw [hz, Int.toNat_of_nonneg h0] at this
      exact this

/-- Cells, spans as cells of memory. -/
abbrev nw (n : Nat) : Value := .int .i64 (n : Int)
def flat3 (C : List (Nat × Nat × Nat)) : List Value := C.flatMap (fun p => [nw p.1, nw p.2.1, nw p.2.2])
theorem flat3_len (C : List (Nat × Nat × Nat)) : (flat3 C).length = C.length * 3 := by
  induction C with
  | nil => rfl
  | cons p C ih => simp only [flat3, List.flatMap_cons, List.length_append, List.length_cons, List.length_nil] at ih ⊢; omega
theorem flat3_append (C D : List (Nat × Nat × Nat)) : flat3 (C ++ D) = flat3 C ++ flat3 D := by simp [flat3]
theorem flat3_get {C : List (Nat × Nat × Nat)} {j : Nat} {p : Nat × Nat × Nat} (h : C[j]? = some p) : (flat3 C)[j * 3]? = some (nw p.1) ∧ (flat3 C)[j * 3 + 1]? = some (nw p.2.1) ∧ (flat3 C)[j * 3 + 2]? = some (nw p.2.2) := by
  induction C generalizing j with
  | nil => simp at h
  | cons a C ih =>
    cases j with
    | zero => simp at h; subst h; simp [flat3]
    | succ j =>
      have := ih (j := j) (by simpa using h)
      rw [show (j + 1) * 3 = j * 3 + 3 by omega]
      simpa [flat3] using this
theorem flat3_set (C : List (Nat × Nat × Nat)) (j : Nat) (q : Nat × Nat × Nat) : (((flat3 C).set (j * 3) (nw q.1)).set (j * 3 + 1) (nw q.2.1)).set (j * 3 + 2) (nw q.2.2) = flat3 (C.set j q) := by
  induction C generalizing j with
  | nil => simp [flat3]
  | cons a C ih =>
    cases j with
    | zero => simp [flat3]
    | succ j =>
      have := ih j
      rw [show (j + 1) * 3 = j * 3 + 3 by omega, show j * 3 + 3 + 1 = j * 3 + 1 + 3 by omega, show j * 3 + 3 + 2 = j * 3 + 2 + 3 by omega]
      simp only [flat3, List.flatMap_cons, List.set_cons_succ] at this ⊢
      rw [← this]
      simp
def flat2 (es : List (Nat × Nat)) : List Value := es.flatMap (fun p => [nw p.1, nw p.2])
theorem flat2_len (es : List (Nat × Nat)) : (flat2 es).length = es.length * 2 := by
  induction es with
  | nil => rfl
  | cons p es ih => simp only [flat2, List.flatMap_cons, List.length_append, List.length_cons, List.length_nil] at ih ⊢; omega
theorem flat2_append (C D : List (Nat × Nat)) : flat2 (C ++ D) = flat2 C ++ flat2 D := by simp [flat2]
theorem flat2_get {es : List (Nat × Nat)} {j : Nat} {p : Nat × Nat} (h : es[j]? = some p) : (flat2 es)[j * 2]? = some (nw p.1) ∧ (flat2 es)[j * 2 + 1]? = some (nw p.2) := by
  induction es generalizing j with
  | nil => simp at h
  | cons a es ih =>
    cases j with
    | zero => simp at h; subst h; simp [flat2]
    | succ j =>
      have := ih (j := j) (by simpa using h)
      rw [show (j + 1) * 2 = j * 2 + 2 by omega]
      simpa [flat2] using this

end Go.Proofs.Ytonapehlhkoplaa
