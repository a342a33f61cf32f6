/-
  The mathematics of the state machine: the places of a symbol, the number that belongs to a state, the cell that leads to it. Conditions: those that each theorem states.
-/
import Derived.Test.YtonapehlhkoplaaCel
namespace Go.Proofs.Ytonapehlhkoplaa

/-- The places of a symbol in a list whose first place is i. -/
def pls : Nat → List Nat → Int → List Nat
  | _, [], _ => []
  | i, x :: k, z => if (x : Int) = z then i :: pls (i + 1) k z else pls (i + 1) k z
theorem pls_append (k m : List Nat) (z : Int) : ∀ i, pls i (k ++ m) z = pls i k z ++ pls (i + k.length) m z := by
  induction k with
  | nil => intro i; rfl
  | cons x k ih =>
    intro i
    simp only [List.cons_append, pls, List.length_cons]
    rw [ih, show i + 1 + k.length = i + (k.length + 1) by omega]
    split <;> rfl
theorem pls_step {k : List Nat} {j x : Nat} (z : Int) (h : k[j]? = some x) : pls 0 (k.take (j + 1)) z = pls 0 (k.take j) z ++ (if (x : Int) = z then [j] else []) := by
  have hl : j < k.length := (List.getElem?_eq_some_iff.1 h).1
  rw [take_succ_get h, pls_append, List.length_take, Nat.min_eq_left (Nat.le_of_lt hl), Nat.zero_add]
  rfl
theorem pls_count (n : Nat) (k : List Nat) : ∀ i, (pls i k (n : Int)).length = k.count n := by
  induction k with
  | nil => intro i; rfl
  | cons x k ih =>
    intro i
    simp only [pls, List.count_cons]
    have h1 := ih (i + 1)
    by_cases h : x = n
    · subst h
      simp [h1]
    · rw [if_neg (by omega), h1]
      simp [h]
theorem pls_at (K : List Nat) (x : Nat) : ∀ j, j ≤ K.length → ∀ k i, (pls 0 (K.take j) (x : Int))[k]? = some i → i < j ∧ K[i]? = some x ∧ (K.take i).count x = k := by
  intro j
  induction j with
  | zero => intro _ k i h; simp [pls] at h
  | succ j ih =>
    intro hj k i h
    obtain ⟨u, hu⟩ : ∃ u, K[j]? = some u := ⟨_, List.getElem?_eq_getElem (by omega)⟩
    rw [pls_step (x : Int) hu] at h
    have hc := pls_count x (K.take j) 0
    rcases Nat.lt_or_ge k (pls 0 (K.take j) (x : Int)).length with hk | hk
    · rw [List.getElem?_append_left hk] at h
      obtain ⟨h1, h2, h3⟩ := ih (by omega) k i h
      exact ⟨by omega, h2, h3⟩
    · rw [List.getElem?_append_right hk] at h
      by_cases hux : u = x
      · subst hux
        rw [if_pos rfl] at h
        have h0 : k - (pls 0 (K.take j) (u : Int)).length = 0 := by
          rcases Nat.lt_or_ge 0 (k - (pls 0 (K.take j) (u : Int)).length) with h4 | h4
          · rw [List.getElem?_eq_none (show [j].length ≤ _ from h4)] at h; cases h
          · omega
        rw [h0] at h
        injection h with h
        subst h
        exact ⟨by omega, hu, by omega⟩
      · rw [if_neg (by omega)] at h
        simp at h
theorem pls_all {K : List Nat} {x k i : Nat} (h : (pls 0 K (x : Int))[k]? = some i) : K[i]? = some x ∧ (K.take i).count x = k := by
  have h1 := pls_at K x K.length (Nat.le_refl _) k i
  rw [List.take_length] at h1
  exact (h1 h).2
theorem pls_has {K : List Nat} {x k : Nat} (h : k < K.count x) : ∃ i, (pls 0 K (x : Int))[k]? = some i ∧ K[i]? = some x ∧ (K.take i).count x = k := by
  rw [← pls_count x K 0] at h
  obtain ⟨i, hi⟩ : ∃ i, (pls 0 K (x : Int))[k]? = some i := ⟨_, List.getElem?_eq_getElem h⟩
  exact ⟨i, hi, pls_all hi⟩
theorem count_lt {K : List Nat} {x i j : Nat} (hi : K[i]? = some x) (h : i < j) : (K.take i).count x < (K.take j).count x := by
  have h1 : (K.take (i + 1)).count x = (K.take i).count x + 1 := by rw [take_succ_get hi, List.count_append]; simp
  have h2 : (K.take (i + 1)).count x ≤ (K.take j).count x := (List.take_sublist_take_left (by omega)).count_le x
  omega
theorem count_inj {K : List Nat} {x i j : Nat} (hi : K[i]? = some x) (hj : K[j]? = some x) (h : (K.take i).count x = (K.take j).count x) : i = j := by
  rcases Nat.lt_trichotomy i j with h1 | h1 | h1
  · have := count_lt hi h1; omega
  · exact h1
  · have := count_lt hj h1; omega

/-- The number that belongs to a state is the state plus all states, without the low bits. -/
theorem Num.quot {y n X t : Nat} (h : Num y n X) (h1 : bse y X ≤ t) (h2 : t < bse y X + 2 ^ bts y X) : (2 ^ y + t) / 2 ^ bts y X = X := by
  have hb := h.base
  refine Nat.div_eq_of_lt_le ?_ ?_
  · omega
  · rw [Nat.add_mul, Nat.one_mul]; omega
theorem Num.uniq {y n X X' t : Nat} (h : Num y n X) (h' : Num y n X') (h1 : bse y X ≤ t) (h2 : t < bse y X + 2 ^ bts y X) (h3 : bse y X' ≤ t) (h4 : t < bse y X' + 2 ^ bts y X') : X = X' := by
  have key : ∀ X X' : Nat, Num y n X → Num y n X' → (2 ^ y + t) / 2 ^ bts y X = X → (2 ^ y + t) / 2 ^ bts y X' = X' → bts y X ≤ bts y X' → X = X' := by
    intro X X' h h' q q' hb
    obtain ⟨d, hd⟩ := Nat.exists_eq_add_of_le hb
    rw [hd, Nat.pow_add, ← Nat.div_div_eq_div_mul, q] at q'
    rcases Nat.eq_zero_or_pos d with h0 | h0
    · rw [h0, Nat.pow_zero, Nat.div_one] at q'
      exact q'
    · have h5 : 2 ≤ 2 ^ d := by
        have := Nat.pow_le_pow_right (show 0 < 2 by decide) h0
        simpa using this
      have h6 : X / 2 ^ d ≤ X / 2 := Nat.div_le_div_left h5 (by decide)
      have h7 := h.hi
      have h8 := h'.lo
      omega
  have q := h.quot h1 h2
  have q' := h'.quot h3 h4
  rcases Nat.le_total (bts y X) (bts y X') with hb | hb
  · exact key X X' h h' q q' hb
  · exact (key X' X h' h q' q hb).symm
/-- What place finds. -/
theorem num_place {y n t j X : Nat} (h1 : 1 ≤ n) (hn : n ≤ 2 ^ y) (ht : t < 2 ^ y) (hX : (2 ^ y + t) / 2 ^ j = X) (h2 : n ≤ X) (h3 : X < 2 * n) : Num y n X ∧ bts y X = j ∧ bse y X ≤ t ∧ t < bse y X + 2 ^ bts y X := by
  have hN : Num y n X := ⟨h1, hn, h2, h3⟩
  have hp : 0 < 2 ^ j := Nat.two_pow_pos _
  have a1 : X * 2 ^ j ≤ 2 ^ y + t := by rw [← hX]; exact Nat.div_mul_le_self _ _
  have a2 : 2 ^ y + t < (X + 1) * 2 ^ j := by rw [← hX]; exact Nat.lt_mul_of_div_lt (by omega) hp
  have b1 : 2 ^ X.log2 ≤ X := Nat.log2_self_le hN.ne
  have b2 : X + 1 ≤ 2 ^ (X.log2 + 1) := Nat.lt_log2_self
  have c1 : 2 ^ (X.log2 + j) < 2 ^ (y + 1) := by
    rw [Nat.pow_add, Nat.pow_succ 2 y]
    have := Nat.mul_le_mul_right (2 ^ j) b1
    omega
  have c2 : 2 ^ y < 2 ^ (X.log2 + 1 + j) := by
    rw [Nat.pow_add 2 (X.log2 + 1)]
    have := Nat.mul_le_mul_right (2 ^ j) b2
    omega
  have d1 : X.log2 + j < y + 1 := (Nat.pow_lt_pow_iff_right (by decide)).1 c1
  have d2 : y < X.log2 + 1 + j := (Nat.pow_lt_pow_iff_right (by decide)).1 c2
  have hb : bts y X = j := by unfold bts; omega
  have hbase := hN.base
  rw [hb] at hbase
  rw [hb]
  rw [Nat.add_mul, Nat.one_mul] at a2
  exact ⟨hN, rfl, by omega, by omega⟩

/-- A cell of a symbol leads to a state. -/
def hit (z t : Int) (c : Nat × Nat × Nat) : Bool := decide ((c.1 : Int) = z) && decide ((c.2.2 : Int) ≤ t) && decide (t < (c.2.2 : Int) + ((2 ^ c.2.1 : Nat) : Int))
theorem hit_iff {z t : Int} {c : Nat × Nat × Nat} : hit z t c = true ↔ (c.1 : Int) = z ∧ (c.2.2 : Int) ≤ t ∧ t < (c.2.2 : Int) + ((2 ^ c.2.1 : Nat) : Int) := by
  unfold hit
  simp only [Bool.and_eq_true, decide_eq_true_iff, and_assoc]
theorem hit_no {z t : Int} {c : Nat × Nat × Nat} (h : ¬ (c.1 : Int) = z) : hit z t c = false := by
  unfold hit
  simp [h]
/-- The first of the cells with a property. -/
theorem fst_some {C : List (Nat × Nat × Nat)} {p : Nat × Nat × Nat → Bool} {i : Nat} {c : Nat × Nat × Nat} (h : C[i]? = some c) (hp : p c = true) (hu : ∀ (j : Nat) (d : Nat × Nat × Nat), j < i → C[j]? = some d → p d = false) : C.findIdx? p = some i := by
  obtain ⟨hl, he⟩ := List.getElem?_eq_some_iff.1 h
  rw [List.findIdx?_eq_some_iff_getElem]
  refine ⟨hl, by rw [he]; exact hp, fun j hj => ?_⟩
  have := hu j _ hj (List.getElem?_eq_getElem (by omega))
  simp [this]
theorem fst_none {C : List (Nat × Nat × Nat)} {p : Nat × Nat × Nat → Bool} (hu : ∀ (j : Nat) (d : Nat × Nat × Nat), C[j]? = some d → p d = false) : C.findIdx? p = none := by
  rw [List.findIdx?_eq_none_iff]
  intro d hd
  obtain ⟨j, hj⟩ := List.mem_iff_getElem?.1 hd
  exact hu j d hj
theorem fst_get {C : List (Nat × Nat × Nat)} {p : Nat × Nat × Nat → Bool} {i : Nat} (h : C.findIdx? p = some i) : ∃ c, C[i]? = some c ∧ p c = true ∧ ∀ (j : Nat) (d : Nat × Nat × Nat), j < i → C[j]? = some d → p d = false := by
  rw [List.findIdx?_eq_some_iff_getElem] at h
  obtain ⟨hl, hp, hu⟩ := h
  refine ⟨_, List.getElem?_eq_getElem hl, hp, fun j d hj hd => ?_⟩
  obtain ⟨hl', he⟩ := List.getElem?_eq_some_iff.1 hd
  have := hu j hj
  rw [he] at this
  simpa using this
theorem fst_all {C : List (Nat × Nat × Nat)} {p : Nat × Nat × Nat → Bool} (h : C.findIdx? p = none) {j : Nat} {d : Nat × Nat × Nat} (hd : C[j]? = some d) : p d = false := by
  rw [List.findIdx?_eq_none_iff] at h
  exact h d (List.mem_of_getElem? hd)

/-- What Cell, Lowest and Predecessor return. -/
def cla (C : List (Nat × Nat × Nat)) (t : Int) : Nat × Nat × Nat := if t < 0 then (0, 0, 0) else C[t.toNat]?.getD (0, 0, 0)
def cle (C : List (Nat × Nat × Nat)) (t : Int) : Int := if t < 0 ∨ (C.length : Int) ≤ t then 21 else 0
def isz (z : Int) (c : Nat × Nat × Nat) : Bool := decide ((c.1 : Int) = z)
def lwa (C : List (Nat × Nat × Nat)) (z : Int) : Nat := (C.findIdx? (isz z)).getD 0
def lwe (C : List (Nat × Nat × Nat)) (z : Int) : Int := if (C.findIdx? (isz z)).isSome then 0 else 2
def pra (C : List (Nat × Nat × Nat)) (t z : Int) : Nat × Nat × Nat :=
  if t < 0 ∨ (C.length : Int) ≤ t then (0, 0, 0) else match C.findIdx? (hit z t) with
    | some i => (i, (t - ((C[i]?.getD (0, 0, 0)).2.2 : Int)).toNat, (C[i]?.getD (0, 0, 0)).2.1)
    | none => (0, 0, 0)
def pre (C : List (Nat × Nat × Nat)) (t z : Int) : Int :=
  if t < 0 ∨ (C.length : Int) ≤ t then 21 else if (C.findIdx? (hit z t)).isSome then 0 else 2

section
variable {y : Nat} {l : List Int}
/-- What is known of a cell. -/
theorem vt_cell (h : Vt y l) {i : Nat} (hi : i < 2 ^ y) : ∃ x n X, (spl (2 ^ y) l)[i]? = some x ∧ nos l x = n ∧ n + ((spl (2 ^ y) l).take i).count x = X ∧ (cls y l (spl (2 ^ y) l))[i]? = some (x, bts y X, bse y X) ∧ Num y n X ∧ x < l.length := by
  have hl : i < (spl (2 ^ y) l).length := by rw [spl_len]; exact hi
  obtain ⟨x, hx⟩ : ∃ x, (spl (2 ^ y) l)[i]? = some x := ⟨_, List.getElem?_eq_getElem hl⟩
  have h6 : xof l (spl (2 ^ y) l) i = nos l x + ((spl (2 ^ y) l).take i).count x := by unfold xof; rw [hx, Option.getD_some]
  refine ⟨x, _, _, hx, rfl, rfl, ?_, by rw [← h6]; exact h.num hx, spl_lt h (List.mem_of_getElem? hx)⟩
  rw [cls_get hl, ← h6]; unfold cel; rw [hx]; rfl
theorem vt_clen (_ : Vt y l) : (cls y l (spl (2 ^ y) l)).length = 2 ^ y := by rw [cls_len, spl_len]
/-- At most one cell of a symbol leads to a state. -/
theorem vt_uniq (h : Vt y l) {i j : Nat} {z t : Int} {c d : Nat × Nat × Nat} (hi : (cls y l (spl (2 ^ y) l))[i]? = some c) (hj : (cls y l (spl (2 ^ y) l))[j]? = some d) (h1 : hit z t c = true) (h2 : hit z t d = true) : i = j := by
  have li : i < 2 ^ y := by rw [← vt_clen h]; exact (List.getElem?_eq_some_iff.1 hi).1
  have lj : j < 2 ^ y := by rw [← vt_clen h]; exact (List.getElem?_eq_some_iff.1 hj).1
  obtain ⟨x, n, X, a1, a2, a3, a4, a5, _⟩ := vt_cell h li
  obtain ⟨x', n', X', b1, b2, b3, b4, b5, _⟩ := vt_cell h lj
  rw [a4] at hi
  rw [b4] at hj
  injection hi with hi
  injection hj with hj
  subst hi hj
  rw [hit_iff] at h1 h2
  obtain ⟨p1, p2, p3⟩ := h1
  obtain ⟨q1, q2, q3⟩ := h2
  simp only at p1 p2 p3 q1 q2 q3
  obtain rfl : x = x' := by omega
  obtain rfl : n = n' := by rw [← a2, ← b2]
  obtain ⟨u, rfl⟩ : ∃ u : Nat, t = (u : Int) := ⟨t.toNat, by omega⟩
  have e := a5.uniq b5 (t := u) (by omega) (by omega) (by omega) (by omega)
  exact count_inj a1 b1 (by omega)
/-- What place finds is the cell that leads to the state. -/
theorem vt_place (h : Vt y l) {x t j X : Nat} (h1 : 1 ≤ nos l x) (ht : t < 2 ^ y) (hX : (2 ^ y + t) / 2 ^ j = X) (h2 : nos l x ≤ X) (h3 : X < 2 * nos l x) :
    ∃ i c, (pls 0 (spl (2 ^ y) l) (x : Int))[X - nos l x]? = some i ∧ i < 2 ^ y ∧ (cls y l (spl (2 ^ y) l))[i]? = some c ∧ c.1 = x ∧ c.2.1 ≤ 9 ∧ c.2.2 ≤ t ∧ t < c.2.2 + 2 ^ c.2.1 ∧ (cls y l (spl (2 ^ y) l)).findIdx? (hit (x : Int) (t : Int)) = some i := by
  have hn := h.nos x
  have hle : nos l x ≤ 2 ^ y := by
    rw [hn]
    have := List.count_le_length (a := x) (l := spl (2 ^ y) l)
    rwa [spl_len] at this
  obtain ⟨hN, hb, q1, q2⟩ := num_place h1 hle ht hX h2 h3
  obtain ⟨i, hi, hx, hc⟩ := pls_has (K := spl (2 ^ y) l) (x := x) (k := X - nos l x) (by rw [← hn]; omega)
  have li : i < 2 ^ y := by have := (List.getElem?_eq_some_iff.1 hx).1; rwa [spl_len] at this
  obtain ⟨x', n', X', b1, b2, b3, b4, b5, _⟩ := vt_cell h li
  rw [hx] at b1
  injection b1 with b1
  subst b1
  have hXX : X' = X := by omega
  subst hXX
  have h9 := h.log
  have hbl := bts_le y X'
  have hh : hit (x : Int) (t : Int) (x, bts y X', bse y X') = true := by
    rw [hit_iff]
    simp only
    exact ⟨trivial, by omega, by omega⟩
  refine ⟨i, _, hi, li, b4, rfl, by simp only; omega, q1, q2, fst_some b4 hh (fun j d hj hd => ?_)⟩
  cases hq : hit (x : Int) (t : Int) d with
  | false => rfl
  | true => have := vt_uniq h hd b4 hq hh; omega
/-- A symbol without states has no cell. -/
theorem vt_gone (h : Vt y l) {z : Int} (hz : z < 0 ∨ nos l z.toNat = 0) {j : Nat} {d : Nat × Nat × Nat} (hd : (cls y l (spl (2 ^ y) l))[j]? = some d) : ¬ (d.1 : Int) = z := by
  have lj : j < 2 ^ y := by rw [← vt_clen h]; exact (List.getElem?_eq_some_iff.1 hd).1
  obtain ⟨x, n, X, b1, b2, b3, b4, b5, _⟩ := vt_cell h lj
  rw [b4] at hd
  injection hd with hd
  subst hd
  have := b5.pos
  simp only
  rintro rfl
  rcases hz with hz | hz
  · omega
  · rw [Int.toNat_natCast] at hz; omega
/-- The first place of a symbol is its lowest state. -/
theorem vt_low (h : Vt y l) {x : Nat} (h1 : 1 ≤ nos l x) : ∃ i, (pls 0 (spl (2 ^ y) l) (x : Int))[0]? = some i ∧ (cls y l (spl (2 ^ y) l)).findIdx? (isz (x : Int)) = some i := by
  obtain ⟨i, hi, hx, hc⟩ := pls_has (K := spl (2 ^ y) l) (x := x) (k := 0) (by rw [← h.nos]; omega)
  have li : i < 2 ^ y := by have := (List.getElem?_eq_some_iff.1 hx).1; rwa [spl_len] at this
  obtain ⟨x', n', X', b1, b2, b3, b4, b5, _⟩ := vt_cell h li
  rw [hx] at b1
  injection b1 with b1
  subst b1
  refine ⟨i, hi, fst_some b4 (by simp [isz]) (fun j d hj hd => ?_)⟩
  have lj : j < 2 ^ y := by omega
  obtain ⟨u, n2, X2, e1, e2, e3, e4, e5, _⟩ := vt_cell h lj
  rw [e4] at hd
  injection hd with hd
  subst hd
  unfold isz
  simp only [decide_eq_false_iff_not]
  intro e
  obtain rfl : u = x := by omega
  have := count_lt e1 hj
  omega
end

end Go.Proofs.Ytonapehlhkoplaa
