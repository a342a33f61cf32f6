/-
  What the reference's Of does: it returns the symbol of each index of a valid table, in new memory, or the error. Nothing that was there has changed. Condition: a slice can hold the norms.
  The mathematics of SpreadCounts: counts of symbols in a list's first entries. No condition beyond those that each theorem states.
  The mathematics of the cells: the number of states, the cell of each index, the spans. Conditions: those that each theorem states.
  What bits.Len64 and bits.Len do: the number of bits. Nothing has changed. Conditions: the numbers are in their ranges.
  What Spread, Positions and the reference's Of return at any table: the slices and the error with letters; append in a region that draws its order. Conditions: those that each theorem states.
  What states and floorLog2 of package cells do; a cell as a value and as a block; what the functions with a result variable in memory return. Nothing has changed. Conditions: those that each theorem states.
  What cells.builder and the function that it returns do: that function makes the cell of the next state of a symbol and counts it in the map. Only the map and new memory change. Conditions: the table is valid, the symbol has a state left.
  What the function that cells.builder returns does: it makes the cell of the next state of a symbol and counts it in the map. Only the map and new memory change. Conditions: the table is valid, the symbol has a state left.
-/
import Derived.Test.YtnlhokfhkohdpaaGreatSc
import Derived.Test.YtnlhokfhkohdpaaGreatSb
import Derived.Lib.BitFns
import Derived.Lib.Strings
import Derived.Lib.Slices
import Derived.Lib.Small
import Derived.Lib.Walk
import Derived.Deep.RegionLaw
import Derived.Deep.CutRange
import Derived.BigQuiet
import Derived.Deep.QuietTactic
import Derived.Deep.RegionHeld3
import Derived.StillTailTactics
namespace Go.Proofs.YtnlhokfhkohdpaaGreat
open Go.RowKit Go.Shelf

/-- What the reference writes down for an index: its symbol, or -1. -/
def enc (m : Nat → Option Nat) (i : Nat) : Int := match m i with | some x => (x : Int) | none => -1
def rw' (s : Nat) (m : Nat → Option Nat) : List Int := (List.range s).map (enc m)
def ini (s i : Nat) : List Int := (List.range s).map (fun j => if j < i then -1 else 0)
theorem rw_len (s : Nat) (m : Nat → Option Nat) : (rw' s m).length = s := by simp [rw']
theorem rw_get {s i : Nat} (m : Nat → Option Nat) (h : i < s) : (rw' s m)[i]? = some (enc m i) := by simp [rw', h]
theorem rw_set (s t x : Nat) (m : Nat → Option Nat) : (rw' s m).set t (x : Int) = rw' s (upd m t x) := by
  refine List.ext_getElem? fun j => ?_
  rw [List.getElem?_set]
  rcases Nat.lt_or_ge j s with h | h
  · rw [rw_get (upd m t x) h]
    by_cases hij : t = j
    · subst hij
      rw [if_pos rfl, if_pos (by rw [rw_len]; exact h)]
      simp [enc, upd_same]
    · rw [if_neg hij, rw_get m h]
      simp [enc, upd_other m x (fun e => hij e.symm)]
  · rw [List.getElem?_eq_none (l := rw' s (upd m t x)) (by rw [rw_len]; exact h)]
    split
    · rw [if_neg (by rw [rw_len]; omega)]
    · exact List.getElem?_eq_none (by rw [rw_len]; exact h)
theorem ini_zero (s : Nat) : ini s 0 = List.replicate s 0 := by
  refine List.ext_getElem? fun j => ?_
  rcases Nat.lt_or_ge j s with h | h
  · simp [ini, h]
  · simp [ini, h]
theorem ini_set (s i : Nat) : (ini s i).set i (-1) = ini s (i + 1) := by
  refine List.ext_getElem? fun j => ?_
  rw [List.getElem?_set]
  rcases Nat.lt_or_ge j s with h | h
  · by_cases hij : i = j
    · subst hij
      simp [ini, h]
    · have h3 : (j < i + 1) = (j < i) := by apply propext; omega
      simp [ini, h, hij, h3]
  · have h2 : (ini s (i + 1))[j]? = none := List.getElem?_eq_none (by simp [ini]; exact h)
    rw [h2]
    split
    · rw [if_neg (by simp [ini]; omega)]
    · exact List.getElem?_eq_none (by simp [ini]; exact h)
theorem ini_all (s : Nat) : ini s s = rw' s (m0 s []) := by
  refine List.map_congr_left fun j hj => ?_
  rw [if_pos (List.mem_range.1 hj), m0_nil]
  rfl
theorem rw_spl {y s : Nat} {l : List Int} (hv : Vt y l) (hse : 2 ^ y = s) : (rw' s (fin s l)).map iv = (spl s l).map nv := by
  unfold rw' spl
  rw [List.map_map, List.map_map]
  refine List.map_congr_left fun j hj => ?_
  obtain ⟨x, hx⟩ := hv.has (i := j) (by rw [hse]; exact List.mem_range.1 hj)
  rw [hse] at hx
  simp [enc, hx]
theorem idx_vi {y s j : Nat} (h : y ≤ 9) (hse : 2 ^ y = s) (hj : j < s) : (vis s).idxOf (vi s j) = j := by
  have hn := vis_nodup h
  rw [hse] at hn
  have hl : j < (vis s).length := by rw [vis_len]; exact hj
  have h1 := hn.idxOf_getElem j hl
  have h2 := vis_get hj
  rw [List.getElem?_eq_getElem hl] at h2
  rw [Option.some.inj h2] at h1
  exact h1
theorem m0_snoc {s : Nat} {k : List Nat} (i : Nat) (h : k.length < s) : upd (m0 s k) (s - 1 - k.length) i = m0 s (k ++ [i]) := by
  have e1 := m0_step (s := s) (j := k.length) (x := i) (r := k ++ [i]) h (by simp)
  rw [List.take_left, List.take_of_length_le (by simp)] at e1
  exact e1
/-- The state of the search: visit j is at hand; what is still to be given leads to F. -/
structure Srch (s : Nat) (F : Nat → Option Nat) (j t : Nat) (m : Nat → Option Nat) (r : List Nat) : Prop where
  lt : j < s
  at_ : t = vi s j
  go : go ((vis s).drop j) m r = F
  ok : Ok ((vis s).drop j) m r
theorem Srch.next {s : Nat} {F : Nat → Option Nat} {j t x z : Nat} {m : Nat → Option Nat} {r : List Nat} (h : Srch s F j t m (z :: r)) (hx : m t = some x) : Srch s F (j + 1) (vi s (j + 1)) m (z :: r) := by
  have hd := vis_drop h.lt
  rw [← h.at_] at hd
  have h1 := h.ok
  rw [hd] at h1
  have h2 := h1.taken hx
  refine ⟨?_, rfl, ?_, h2⟩
  · rcases Nat.lt_or_ge (j + 1) s with h3 | h3
    · exact h3
    · have := h2.len
      rw [List.drop_of_length_le (by rw [vis_len]; exact h3)] at this
      simp [fre] at this
  · rw [← h.go, hd, go_taken hx]
theorem Srch.put {s : Nat} {F : Nat → Option Nat} {j t z : Nat} {m : Nat → Option Nat} {r : List Nat} (h : Srch s F j t m (z :: r)) (hx : m t = none) : Srch s F j t (upd m t z) r := by
  have hd := vis_drop h.lt
  rw [← h.at_] at hd
  have h1 := h.ok
  rw [hd] at h1
  obtain ⟨z', r', e, h2⟩ := h1.free hx
  injection e with e1 e2
  subst e1 e2
  refine ⟨h.lt, h.at_, ?_, ?_⟩
  · rw [← h.go, hd, go_free hx, go_taken (upd_same m t z)]
  · rw [hd]
    refine ⟨h1.nd, ?_⟩
    rw [← h2.len]
    simp [fre, upd_same]
theorem Srch.done {s : Nat} {F : Nat → Option Nat} {j t : Nat} {m : Nat → Option Nat} (h : Srch s F j t m []) : m = F := by
  rw [← h.go, go_none _ h.ok.len]
theorem ors_from {l : List Int} {i : Nat} {x : Int} (h : l[i]? = some x) : ors i (l.drop i) = List.replicate x.toNat i ++ ors (i + 1) (l.drop (i + 1)) := by
  obtain ⟨hl, he⟩ := List.getElem?_eq_some_iff.1 h
  rw [List.drop_eq_getElem_cons hl, he]
  rfl

end Go.Proofs.YtnlhokfhkohdpaaGreat

namespace Go.Proofs.YtnlhokfhkohdpaaGreat

/-- How often each of the symbols below N stands in the first i entries. -/
def cn (N : Nat) (K : List Nat) (i : Nat) : List Nat := (List.range N).map (fun k => (K.take i).count k)
theorem cn_zero (N : Nat) (K : List Nat) : cn N K 0 = List.replicate N 0 := by
  refine List.ext_getElem? fun j => ?_
  rcases Nat.lt_or_ge j N with h | h
  · simp [cn, h]
  · simp [cn, h]
theorem cn_get {N k : Nat} (K : List Nat) (i : Nat) (h : k < N) : (cn N K i)[k]? = some ((K.take i).count k) := by simp [cn, h]
theorem cn_set {N : Nat} {K : List Nat} {i x : Nat} (hx : K[i]? = some x) : (cn N K i).set x ((K.take i).count x + 1) = cn N K (i + 1) := by
  refine List.ext_getElem? fun j => ?_
  rw [List.getElem?_set]
  rcases Nat.lt_or_ge j N with h | h
  · rw [cn_get K (i + 1) h, take_succ_get hx, List.count_append, List.count_singleton]
    by_cases hij : x = j
    · subst hij
      rw [if_pos rfl, if_pos (by simp [cn]; exact h)]
      simp
    · rw [if_neg hij, cn_get K i h]
      simp [hij]
  · rw [List.getElem?_eq_none (l := cn N K (i + 1)) (by simp [cn]; exact h)]
    split
    · rw [if_neg (by simp [cn]; omega)]
    · exact List.getElem?_eq_none (by simp [cn]; exact h)
theorem spl_lt {y : Nat} {l : List Int} (hv : Vt y l) {x : Nat} (hx : x ∈ spl (2 ^ y) l) : x < l.length := by
  rcases Nat.lt_or_ge x l.length with h | h
  · exact h
  · have h1 := hv.count x
    rw [List.getElem?_eq_none h] at h1
    have h2 := List.count_pos_iff.2 hx
    simp only at h1
    omega

end Go.Proofs.YtnlhokfhkohdpaaGreat

namespace Go.Proofs.YtnlhokfhkohdpaaGreat

/-- The number of states of a symbol. -/
def nos (l : List Int) (x : Nat) : Nat := match l[x]? with | some z => (sts z).toNat | none => 0
/-- The bits and the base that belong to a number. -/
def bts (y X : Nat) : Nat := y - X.log2
def bse (y X : Nat) : Nat := X * 2 ^ bts y X - 2 ^ y
/-- The number of index i. -/
def xof (l : List Int) (K : List Nat) (i : Nat) : Nat := nos l (K[i]?.getD 0) + (K.take i).count (K[i]?.getD 0)
def cel (y : Nat) (l : List Int) (K : List Nat) (i : Nat) : Nat × Nat × Nat := (K[i]?.getD 0, bts y (xof l K i), bse y (xof l K i))
def cls (y : Nat) (l : List Int) (K : List Nat) : List (Nat × Nat × Nat) := (List.range K.length).map (cel y l K)
theorem cls_len (y : Nat) (l : List Int) (K : List Nat) : (cls y l K).length = K.length := by simp [cls]
theorem cls_get {y : Nat} {l : List Int} {K : List Nat} {i : Nat} (h : i < K.length) : (cls y l K)[i]? = some (cel y l K i) := by simp [cls, h]

/-- A number of a table: at least the states of its symbol, below twice as many. -/
structure Num (y n X : Nat) : Prop where
  pos : 1 ≤ n
  le : n ≤ 2 ^ y
  lo : n ≤ X
  hi : X < 2 * n
section
variable {y n X : Nat}
theorem Num.log (h : Num y n X) : X.log2 ≤ y := by
  have h1 := h.pos; have h2 := h.le; have h3 := h.lo; have h4 := h.hi
  have : X < 2 ^ (y + 1) := by rw [Nat.pow_succ]; omega
  exact Nat.le_of_lt_succ ((Nat.log2_lt (by omega)).2 this)
theorem Num.ne (h : Num y n X) : X ≠ 0 := by have h1 := h.pos; have h3 := h.lo; omega
theorem Num.split (h : Num y n X) : 2 ^ X.log2 * 2 ^ bts y X = 2 ^ y := by
  unfold bts
  rw [← Nat.pow_add]; congr 1; have := h.log; omega
theorem Num.low (h : Num y n X) : 2 ^ y ≤ X * 2 ^ bts y X := by
  rw [← h.split]; exact Nat.mul_le_mul_right _ (Nat.log2_self_le h.ne)
theorem Num.high (h : Num y n X) : (X + 1) * 2 ^ bts y X ≤ 2 * 2 ^ y := by
  have h1 : X + 1 ≤ 2 ^ (X.log2 + 1) := Nat.lt_log2_self
  have h2 := Nat.mul_le_mul_right (2 ^ bts y X) h1
  rw [Nat.pow_succ, Nat.mul_assoc, Nat.mul_comm 2, ← Nat.mul_assoc, h.split] at h2
  omega
theorem Num.base (h : Num y n X) : bse y X + 2 ^ y = X * 2 ^ bts y X := by
  unfold bse; have := h.low; omega
theorem Num.fits (h : Num y n X) : bse y X + 2 ^ bts y X ≤ 2 ^ y := by
  have h1 := h.high; have h2 := h.base
  rw [Nat.add_mul, Nat.one_mul] at h1; omega
theorem bts_le (y X : Nat) : bts y X ≤ y := Nat.sub_le _ _
theorem Num.ceil (h : Num y n X) : n * 2 ^ bts y X < 2 * 2 ^ y := by
  have h1 := h.high
  have h2 : (n + 1) * 2 ^ bts y X ≤ (X + 1) * 2 ^ bts y X := Nat.mul_le_mul_right _ (by have := h.lo; omega)
  have h3 : 0 < 2 ^ bts y X := Nat.two_pow_pos _
  rw [Nat.add_mul, Nat.one_mul] at h2; omega
theorem Num.floor (h : Num y n X) : 2 ^ y < 2 * (n * 2 ^ bts y X) := by
  have h1 := h.low
  have h2 : (X + 1) * 2 ^ bts y X ≤ (2 * n) * 2 ^ bts y X := Nat.mul_le_mul_right _ (by have := h.hi; omega)
  have h3 : 0 < 2 ^ bts y X := Nat.two_pow_pos _
  rw [Nat.add_mul, Nat.one_mul, Nat.mul_assoc] at h2; omega
/-- The states of a power of two: all bits are the same. -/
theorem Num.power {e : Nat} (h : Num y (2 ^ e) X) : 2 ^ e * 2 ^ bts y X = 2 ^ y := by
  have h1 : X.log2 = e := by
    have a : e ≤ X.log2 := by
      have := (Nat.le_log2 h.ne (k := e)).2 h.lo
      exact this
    have b : X.log2 < e + 1 := (Nat.log2_lt h.ne).2 (by rw [Nat.pow_succ]; have := h.hi; omega)
    omega
  have := h.split
  rwa [h1] at this
theorem bts_mono {X X' : Nat} (h0 : X ≠ 0) (h : X ≤ X') : bts y X' ≤ bts y X := by
  unfold bts
  have : X.log2 ≤ X'.log2 := (Nat.le_log2 (by omega)).2 (Nat.le_trans (Nat.log2_self_le h0) h)
  omega

/-- Where the spans of the numbers n .. X - 1 end, going round. -/
def psn (y n X : Nat) : Nat := if X ≤ 2 ^ (n.log2 + 1) then X * 2 ^ (y - n.log2) - 2 ^ y else X * 2 ^ (y - n.log2 - 1)
theorem Num.first (h : Num y n X) : Num y n n := ⟨h.pos, h.le, Nat.le_refl _, by have := h.pos; omega⟩
theorem Num.below (h : Num y n X) (hX : X < 2 ^ (n.log2 + 1)) : X.log2 = n.log2 := by
  have a : n.log2 ≤ X.log2 := (Nat.le_log2 h.ne).2 (Nat.le_trans (Nat.log2_self_le h.first.ne) h.lo)
  have b := (Nat.log2_lt h.ne).2 hX
  omega
theorem Num.above (h : Num y n X) (hX : 2 ^ (n.log2 + 1) ≤ X) : X.log2 = n.log2 + 1 := by
  have a := (Nat.le_log2 h.ne).2 hX
  have h2 : n < 2 ^ (n.log2 + 1) := Nat.lt_log2_self
  have b : X.log2 < n.log2 + 1 + 1 := (Nat.log2_lt h.ne).2 (by rw [Nat.pow_succ]; have := h.hi; omega)
  omega
theorem pos_top (h : n.log2 ≤ y) : 2 ^ (n.log2 + 1) * 2 ^ (y - n.log2) = 2 * 2 ^ y := by
  rw [← Nat.pow_add, Nat.mul_comm, ← Nat.pow_succ]; congr 1; omega
theorem pos_top2 (h : n.log2 + 1 ≤ y) : 2 ^ (n.log2 + 1) * 2 ^ (y - n.log2 - 1) = 2 ^ y := by
  rw [← Nat.pow_add]; congr 1; omega
/-- One span more: it begins where the ones before end, going round, and does not reach over the end. -/
theorem Num.next (h : Num y n X) : psn y n (X + 1) = psn y n X + 2 ^ bts y X ∧ (psn y n X = bse y X ∨ psn y n X = bse y X + 2 ^ y) := by
  have hb := h.base
  have hlow := h.low
  have hlog := h.first.log
  have ht := pos_top hlog
  unfold psn
  by_cases hX : X < 2 ^ (n.log2 + 1)
  · have e : bts y X = y - n.log2 := by unfold bts; rw [h.below hX]
    rw [e] at hb hlow ⊢
    rw [if_pos (by omega), if_pos (by omega), Nat.add_mul, Nat.one_mul]
    generalize 2 ^ (y - n.log2) = D at hb hlow ⊢
    generalize 2 ^ y = S at hb hlow ⊢
    exact ⟨by omega, .inl (by omega)⟩
  · have hX : 2 ^ (n.log2 + 1) ≤ X := by omega
    have e1 := h.above hX
    have hy : n.log2 + 1 ≤ y := by rw [← e1]; exact h.log
    have e : bts y X = y - n.log2 - 1 := by unfold bts; rw [e1]; omega
    have ht2 := pos_top2 hy
    rw [e] at hb hlow ⊢
    have e2 : 2 ^ (y - n.log2) = 2 * 2 ^ (y - n.log2 - 1) := by rw [Nat.mul_comm, ← Nat.pow_succ]; congr 1; omega
    rw [if_neg (show ¬ X + 1 ≤ 2 ^ (n.log2 + 1) by omega), Nat.add_mul, Nat.one_mul]
    by_cases he : X = 2 ^ (n.log2 + 1)
    · rw [if_pos (by omega), e2]
      have h3 : X * (2 * 2 ^ (y - n.log2 - 1)) = 2 * (X * 2 ^ (y - n.log2 - 1)) := by rw [← Nat.mul_assoc, Nat.mul_comm X 2, Nat.mul_assoc]
      rw [h3]
      have h4 : X * 2 ^ (y - n.log2 - 1) = 2 ^ y := by rw [he]; exact ht2
      exact ⟨by omega, .inr (by omega)⟩
    · rw [if_neg (by omega)]
      exact ⟨rfl, .inr (by omega)⟩
theorem pos_start (h : Num y n X) : psn y n n < 2 ^ y := by
  have h1 := h.first.next.2
  have h2 := h.first.fits
  have h3 : 0 < 2 ^ bts y n := Nat.two_pow_pos _
  have h4 : n < 2 ^ (n.log2 + 1) := Nat.lt_log2_self
  have hb := h.first.base
  unfold psn at h1 ⊢
  rw [if_pos (by omega)] at h1 ⊢
  have e : bts y n = y - n.log2 := rfl
  rw [e] at hb h2 h3
  omega
theorem pos_end (h : Num y n X) : psn y n (2 * n) = psn y n n + 2 ^ y := by
  have h4 : n < 2 ^ (n.log2 + 1) := Nat.lt_log2_self
  have hlog := h.first.log
  have hlow := h.first.low
  have e : bts y n = y - n.log2 := rfl
  rw [e] at hlow
  have h5 : 2 ^ n.log2 ≤ n := Nat.log2_self_le h.first.ne
  have ht := pos_top hlog
  unfold psn
  rw [if_pos (show n ≤ 2 ^ (n.log2 + 1) by omega)]
  by_cases h2 : 2 * n ≤ 2 ^ (n.log2 + 1)
  · rw [if_pos h2, Nat.mul_assoc]
    have e2 : 2 * n = 2 ^ (n.log2 + 1) := by rw [Nat.pow_succ] at h2 ⊢; omega
    rw [← e2, Nat.mul_assoc] at ht
    omega
  · rw [if_neg h2]
    have hy : n.log2 + 1 ≤ y := by
      rcases Nat.lt_or_ge n.log2 y with h6 | h6
      · omega
      · have : n.log2 = y := by omega
        rw [this, Nat.pow_succ] at h2
        have := h.le
        omega
    have e2 : 2 ^ (y - n.log2) = 2 * 2 ^ (y - n.log2 - 1) := by rw [Nat.mul_comm, ← Nat.pow_succ]; congr 1; omega
    have h3 : n * 2 ^ (y - n.log2) = 2 * n * 2 ^ (y - n.log2 - 1) := by rw [e2, ← Nat.mul_assoc, Nat.mul_comm n 2]
    omega
end


section
variable {y : Nat} {l : List Int}
theorem Vt.nos (h : Vt y l) (x : Nat) : nos l x = (spl (2 ^ y) l).count x := by
  have h1 := h.count x
  unfold Go.Proofs.YtnlhokfhkohdpaaGreat.nos
  cases hx : l[x]? with
  | none => rw [hx] at h1; simp only at h1 ⊢; omega
  | some z => rw [hx] at h1; simp only at h1 ⊢; omega
theorem Vt.num (h : Vt y l) {i x : Nat} (hx : (spl (2 ^ y) l)[i]? = some x) : Num y (Go.Proofs.YtnlhokfhkohdpaaGreat.nos l x) (xof l (spl (2 ^ y) l) i) := by
  have hn := h.nos x
  unfold xof
  rw [hx, Option.getD_some, hn]
  have h1 : (spl (2 ^ y) l).count x ≤ 2 ^ y := by have := List.count_le_length (a := x) (l := spl (2 ^ y) l); rwa [spl_len] at this
  have h2 : ((spl (2 ^ y) l).take (i + 1)).count x ≤ (spl (2 ^ y) l).count x := (List.take_sublist _ _).count_le x
  rw [take_succ_get hx, List.count_append, List.count_singleton] at h2
  simp only [beq_self_eq_true, if_true] at h2
  exact ⟨by omega, h1, by omega, by omega⟩
end

/-- The spans of a symbol's cells. -/
def spn (z : Int) (C : List (Nat × Nat × Nat)) : List (Nat × Nat) := (C.filter (fun c => decide ((c.1 : Int) = z))).map (fun c => (c.2.2, 2 ^ c.2.1))
theorem spn_step {z : Int} {C : List (Nat × Nat × Nat)} {i : Nat} {c : Nat × Nat × Nat} (h : C[i]? = some c) : spn z (C.take (i + 1)) = spn z (C.take i) ++ (if (c.1 : Int) = z then [(c.2.2, 2 ^ c.2.1)] else []) := by
  unfold spn
  rw [take_succ_get h, List.filter_append, List.map_append]
  congr 1
  by_cases hz : (c.1 : Int) = z
  · simp [hz]
  · simp [hz]
theorem spn_len (z : Int) (C : List (Nat × Nat × Nat)) : (spn z C).length ≤ C.length := by
  unfold spn
  rw [List.length_map]
  exact List.length_filter_le _ _
theorem spn_at {z : Int} {C : List (Nat × Nat × Nat)} {i : Nat} {c : Nat × Nat × Nat} (h : C[i]? = some c) (hz : (c.1 : Int) = z) : (spn z C)[(spn z (C.take i)).length]? = some (c.2.2, 2 ^ c.2.1) := by
  have h1 := spn_step (z := z) h
  rw [if_pos hz] at h1
  have h2 : spn z C = spn z (C.take (i + 1)) ++ spn z (C.drop (i + 1)) := by
    unfold spn
    rw [← List.map_append, ← List.filter_append, List.take_append_drop]
  rw [h2, h1, List.append_assoc, List.getElem?_append_right (Nat.le_refl _), Nat.sub_self]
  rfl
/-- The spans of symbol x are those of the numbers n, n + 1, .. -/
theorem spn_cls {y : Nat} {l : List Int} {K : List Nat} (x : Nat) {i : Nat} (hi : i ≤ K.length) : spn (x : Int) ((cls y l K).take i) = (List.range ((K.take i).count x)).map (fun k => (bse y (nos l x + k), 2 ^ bts y (nos l x + k))) := by
  induction i with
  | zero => simp [spn]
  | succ i ih =>
    obtain ⟨u, hu⟩ : ∃ u, K[i]? = some u := ⟨_, List.getElem?_eq_getElem (by omega)⟩
    rw [spn_step (cls_get (by omega)), ih (by omega), take_succ_get hu, List.count_append, List.count_singleton]
    unfold cel xof
    rw [hu, Option.getD_some]
    by_cases hx : u = x
    · subst hx
      simp [List.range_succ]
    · have : ¬ (u : Int) = (x : Int) := by omega
      simp [hx, this]
theorem spn_all {y : Nat} {l : List Int} (h : Vt y l) (x : Nat) : spn (x : Int) (cls y l (spl (2 ^ y) l)) = (List.range (nos l x)).map (fun k => (bse y (nos l x + k), 2 ^ bts y (nos l x + k))) := by
  have := spn_cls (y := y) (l := l) (K := spl (2 ^ y) l) x (Nat.le_refl _)
  rw [List.take_length, List.take_of_length_le (by rw [cls_len]; exact Nat.le_refl _)] at this
  rw [this, h.nos]
theorem spn_none {y : Nat} {l : List Int} (h : Vt y l) {z : Int} (hz : z < 0 ∨ nos l z.toNat = 0) : spn z (cls y l (spl (2 ^ y) l)) = [] := by
  rcases hz with hz | hz
  · unfold spn
    rw [List.filter_eq_nil_iff.2 (fun c _ => by simp; omega)]
    rfl
  · rcases Int.lt_or_le z 0 with h0 | h0
    · unfold spn
      rw [List.filter_eq_nil_iff.2 (fun c _ => by simp; omega)]
      rfl
    · have := spn_all h z.toNat
      rw [hz, Int.toNat_of_nonneg h0] at this
      exact this

/-- Cells, spans as cells of memory. -/
abbrev nw (n : Nat) : Value := .int .i64 (n : Int)
def flat3 (C : List (Nat × Nat × Nat)) : List Value := C.flatMap (fun p => [nw p.1, nw p.2.1, nw p.2.2])
theorem flat3_len (C : List (Nat × Nat × Nat)) : (flat3 C).length = C.length * 3 := by
  induction C with
  | nil => rfl
  | cons p C ih => simp only [flat3, List.flatMap_cons, List.length_append, List.length_cons, List.length_nil] at ih ⊢; omega
theorem flat3_append (C D : List (Nat × Nat × Nat)) : flat3 (C ++ D) = flat3 C ++ flat3 D := by simp [flat3]
theorem flat3_get {C : List (Nat × Nat × Nat)} {j : Nat} {p : Nat × Nat × Nat} (h : C[j]? = some p) : (flat3 C)[j * 3]? = some (nw p.1) ∧ (flat3 C)[j * 3 + 1]? = some (nw p.2.1) ∧ (flat3 C)[j * 3 + 2]? = some (nw p.2.2) := by
  induction C generalizing j with
  | nil => simp at h
  | cons a C ih =>
    cases j with
    | zero => simp at h; subst h; simp [flat3]
    | succ j =>
      have := ih (j := j) (by simpa using h)
      rw [show (j + 1) * 3 = j * 3 + 3 by omega]
      simpa [flat3] using this
theorem flat3_set (C : List (Nat × Nat × Nat)) (j : Nat) (q : Nat × Nat × Nat) : (((flat3 C).set (j * 3) (nw q.1)).set (j * 3 + 1) (nw q.2.1)).set (j * 3 + 2) (nw q.2.2) = flat3 (C.set j q) := by
  induction C generalizing j with
  | nil => simp [flat3]
  | cons a C ih =>
    cases j with
    | zero => simp [flat3]
    | succ j =>
      have := ih j
      rw [show (j + 1) * 3 = j * 3 + 3 by omega, show j * 3 + 3 + 1 = j * 3 + 1 + 3 by omega, show j * 3 + 3 + 2 = j * 3 + 2 + 3 by omega]
      simp only [flat3, List.flatMap_cons, List.set_cons_succ] at this ⊢
      rw [← this]
      simp
def flat2 (es : List (Nat × Nat)) : List Value := es.flatMap (fun p => [nw p.1, nw p.2])
theorem flat2_len (es : List (Nat × Nat)) : (flat2 es).length = es.length * 2 := by
  induction es with
  | nil => rfl
  | cons p es ih => simp only [flat2, List.flatMap_cons, List.length_append, List.length_cons, List.length_nil] at ih ⊢; omega
theorem flat2_append (C D : List (Nat × Nat)) : flat2 (C ++ D) = flat2 C ++ flat2 D := by simp [flat2]
theorem flat2_get {es : List (Nat × Nat)} {j : Nat} {p : Nat × Nat} (h : es[j]? = some p) : (flat2 es)[j * 2]? = some (nw p.1) ∧ (flat2 es)[j * 2 + 1]? = some (nw p.2) := by
  induction es generalizing j with
  | nil => simp at h
  | cons a es ih =>
    cases j with
    | zero => simp at h; subst h; simp [flat2]
    | succ j =>
      have := ih (j := j) (by simpa using h)
      rw [show (j + 1) * 2 = j * 2 + 2 by omega]
      simpa [flat2] using this

end Go.Proofs.YtnlhokfhkohdpaaGreat

namespace Go.Proofs.YtnlhokfhkohdpaaGreat
open Go.RowKit

/-- The number of bits of a number. -/
def blen (x : Nat) : Nat := if x = 0 then 0 else x.log2 + 1

theorem tab_len (s : ByteArray) (hs : decide (∀ x (h : x < s.size), wrap64 (s[x].toNat : Int) = (blen x : Int)) = true) (x : Nat) (h : x < s.size) : wrap64 (s[x].toNat : Int) = (blen x : Int) := of_decide_eq_true hs x h

theorem blen_div {v : Nat} (s : Nat) (h : 2 ^ s ≤ v) : blen (v / 2 ^ s) + s = blen v := by
  have hv : v ≠ 0 := by have := Nat.two_pow_pos s; omega
  have hd : v / 2 ^ s ≠ 0 := by have := Nat.div_pos h (Nat.two_pow_pos s); omega
  unfold blen
  rw [if_neg hv, if_neg hd]
  obtain ⟨h1, h2⟩ := (Nat.log2_eq_iff hd).1 rfl
  have : v.log2 = (v / 2 ^ s).log2 + s := by
    rw [Nat.log2_eq_iff hv]
    constructor
    · rw [Nat.pow_add]
      exact (Nat.le_div_iff_mul_le (Nat.two_pow_pos s)).1 h1
    · rw [show (v / 2 ^ s).log2 + s + 1 = ((v / 2 ^ s).log2 + 1) + s by omega, Nat.pow_add]
      exact (Nat.div_lt_iff_lt_mul (Nat.two_pow_pos s)).1 h2
  omega

theorem tab_sz : Lib.len8tab.size = 256 := by kernel_rfl
theorem tab_blen : decide (∀ x (h : x < Lib.len8tab.size), wrap64 (Lib.len8tab[x].toNat : Int) = (blen x : Int)) = true := by decide +kernel
theorem blen_8 {y : Nat} (h : y < 256) : blen y ≤ 8 := by
  unfold blen
  split
  · omega
  · next h0 =>
    have := (Nat.log2_lt h0).2 (show y < 2 ^ 8 by omega)
    omega

theorem tab_fin (v s D y : Nat) (h : y < Lib.len8tab.size) (hD : D = 2 ^ s) (hy : y = v / D) (hs : D ≤ v) (h56 : s ≤ 56) : wrap64 ((s : Int) + wrap64 (Lib.len8tab[y].toNat : Int)) = (blen v : Int) := by
  rw [tab_len _ tab_blen y h]
  have h8 := blen_8 (show y < 256 by rw [tab_sz] at h; exact h)
  subst hD
  have := blen_div s hs
  rw [← hy] at this
  rw [← this]
  unfold wrap64
  omega
theorem tab_fin0 (y : Nat) (h : y < Lib.len8tab.size) : wrap64 (wrap64 (Lib.len8tab[y].toNat : Int)) = (blen y : Int) := by
  rw [tab_len _ tab_blen y h]
  have h8 := blen_8 (show y < 256 by rw [tab_sz] at h; exact h)
  unfold wrap64
  omega

set_option maxRecDepth 100000 in
set_option maxHeartbeats 4000000 in
theorem len64_int (w : World) (x : Int) (h0 : 0 ≤ x) (h1 : x ≤ 18446744073709551615) : Calls Tryz.prog 42 #[.int .u64 x] w fun e w' => e = .returned (.int .i64 (blen x.toNat : Int)) ∧ w' = w := by
  have hsz := tab_sz
  go_enter Tryz.func42, Tryz.ntmps42
  go_wp2
  all_goals (go_ret; refine ⟨congrArg (fun z => Ending.returned (Value.int .i64 z)) ?_, rfl⟩)
  · exact tab_fin x.toNat 56 72057594037927936 _ (by rw [hsz]; omega) (by decide) (by omega) (by omega) (by omega)
  · exact tab_fin x.toNat 48 281474976710656 _ (by rw [hsz]; omega) (by decide) (by omega) (by omega) (by omega)
  · exact tab_fin x.toNat 40 1099511627776 _ (by rw [hsz]; omega) (by decide) (by omega) (by omega) (by omega)
  · exact tab_fin x.toNat 32 4294967296 _ (by rw [hsz]; omega) (by decide) (by omega) (by omega) (by omega)
  · exact tab_fin x.toNat 24 16777216 _ (by rw [hsz]; omega) (by decide) (by omega) (by omega) (by omega)
  · exact tab_fin x.toNat 16 65536 _ (by rw [hsz]; omega) (by decide) (by omega) (by omega) (by omega)
  · exact tab_fin x.toNat 8 256 _ (by rw [hsz]; omega) (by decide) (by omega) (by omega) (by omega)
  · exact tab_fin0 _ (by rw [hsz]; omega)

theorem len64_any (w : World) (v : Nat) (hv : v < 18446744073709551616) : Calls Tryz.prog 42 #[.int .u64 (v : Int)] w fun e w' => e = .returned (.int .i64 (blen v : Int)) ∧ w' = w :=
  len64_int w v (by omega) (by omega)

set_option maxRecDepth 100000 in
set_option maxHeartbeats 1000000 in
theorem len_any (w : World) (v : Nat) (hv : v < 18446744073709551616) : Calls Tryz.prog 16 #[.int .u64 (v : Int)] w fun e w' => e = .returned (.int .i64 (blen v : Int)) ∧ w' = w := by
  have L64 := Lib.hid (len64_any w v hv)
  go_enter Tryz.func16, Tryz.ntmps16
  go_wp2_with (go_at_call 42; refine L64.out.mono ?_; rintro e w' ⟨rfl, rfl⟩)
  go_ret
  exact ⟨rfl, rfl⟩

end Go.Proofs.YtnlhokfhkohdpaaGreat

namespace Go.Proofs.YtnlhokfhkohdpaaGreat
open Go.RowKit Go.Shelf

/-- The spread of any table: none where it is not valid. -/
def spx (y : Int) (l : List Int) : List Nat := if vt y l 256 9 then spl (2 ^ y.toNat) l else []
theorem spx_len (y : Int) (l : List Int) : (spx y l).length ≤ 512 := by
  unfold spx
  split
  · rename_i h
    obtain ⟨n, rfl, hv⟩ := vt_iff.1 h
    rw [spl_len, Int.toNat_natCast]
    exact hv.size
  · exact Nat.zero_le _
def OutS (B : Nat) (w : World) (X : List Nat) (e0 : Int) (e : Ending) (w' : World) : Prop :=
  ∃ A' r c', e = .returned (.tuple #[.slice A' r c', .int .i64 e0]) ∧ r ≤ 512 ∧ w'.ownsRow B 3 1 (.slice A' r c') r (X.map nv) ∧ Below w.heap.size w w'
theorem outS_mk {B : Nat} {w w' : World} {X : List Nat} {e0 : Int} {A' : Option Addr} {r c' : Nat} (hX : X.length ≤ 512) (ho : w'.ownsRow B 3 1 (.slice A' r c') r (X.map nv)) (hb : Below w.heap.size w w') : OutS B w X e0 (.returned (.tuple #[.slice A' r c', .int .i64 e0])) w' :=
  ⟨A', r, c', rfl, by have := ho.1; simp at this; omega, ho, hb⟩

theorem spread_u (w : World) (y : Int) (A : Option Addr) (l : List Int) (N c : Nat) (hN : l.length = N) (hb : N ≤ 1000000) (hR : Ri w A l) :
    Calls Tryz.prog 65 #[tb y A N c] w (OutS w.heap.size w (spx y l) (err (vt y l 256 9))) := by
  have hX := spx_len y l
  unfold spx at hX ⊢
  cases hv : vt y l 256 9 with
  | false =>
    refine (spread_bad w y A l N c hN hb hv hR).mono ?_
    rintro e w' ⟨rfl, hb'⟩
    exact outS_mk (by simp) (own_nil _ _) hb'
  | true =>
    rw [hv] at hX
    obtain ⟨n, rfl, hv2⟩ := vt_iff.1 hv
    refine (spread_ok w n _ A l N c hN hv2 rfl hR).mono ?_
    rintro e w' ⟨g, rfl, ho, hb'⟩
    exact outS_mk hX ho hb'
theorem own_some {w : World} {base n c : Nat} {e : TypeId} {A : Option Addr} {xs : List Value} (h0 : 0 < n) (h : w.ownsRow base e 1 (.slice A n c) n xs) : ∃ g, A = some ⟨g, 0, none⟩ := by
  rcases h.2 with ⟨_, h1⟩ | ⟨g, c', cur, h1, _⟩
  · omega
  · injection h1 with h1
    exact ⟨g, h1⟩
theorem iv_one (l : List Int) : ∀ u ∈ l.map iv, u.oneCell' = true := by
  intro v hv
  obtain ⟨b, _, rfl⟩ := List.mem_map.1 hv
  rfl

/-- append in a region that draws its order. -/
theorem step_append_vals {bt : Nat} {t e : TypeId} (ht : Tryz.prog.underlying t = some (.slice e)) {z : Value} (hinfo : (Tryz.prog.info? e).map (fun i => (i.zero, i.size, i.bytes)) = some (some z, 1, bt)) (hzs : z.cells.size = 1)
    {w : World} {ops : Array Oper} {o : Oper} {a : Act} {K : Act → World → Prop} {Q : Exit → Act → World → Prop} {E : Prop} (hgd : o.guard = none) (s x : Operand)
    (ho : o.op = .call { callee := .builtin .append, args := #[s, x], argTypes := #[t, t] })
    (base : Nat) (v : Value) (n : Nat) (xs : List Value) (hs : a.eval s = v) (hown : w.ownsRow base e 1 v n xs) (A : Option Addr) (ys : List Value) (h1 : ∀ u ∈ ys, u.oneCell' = true) (m c : Nat) (hm : ys.length = m) (hx : a.eval x = .slice A m c) (hR : Rv w A ys)
    (hb : n + m ≤ 140737488355328) (hbt : (n + m) * bt ≤ 140737488355328) (hbase : base ≤ w.heap.size)
    (h : ∀ v' w', w'.ownsRow base e 1 v' (n + m) (xs ++ ys) → w.grownBy w' v.ownBlock → (v'.ownBlock = v.ownBlock ∨ v'.ownBlock = some w.heap.size) → K (a.put o.dst v') w') :
    if Region.wanted o (yielded ops a.tmps) = true then Oper.wp Tryz.prog o a w K Q else E := by
  subst hm
  have hw : Region.wanted o (yielded ops a.tmps) = true := by simp [Region.wanted, hgd]
  rw [if_pos hw]
  obtain ⟨v', w', hrun, h2, h3, h4⟩ := run_append_vals ht hinfo hzs w o.type base v n xs hown A ys h1 c hR hb hbt hbase
  unfold Oper.wp
  simp [execOp, ho, resolve, invoke, builtin, hs, hx, hrun, Result.andThen]
  exact h v' w' h2 h3 h4

end Go.Proofs.YtnlhokfhkohdpaaGreat

namespace Go.Proofs.YtnlhokfhkohdpaaGreat
open Go.RowKit Go.Shelf

set_option maxRecDepth 100000 in
set_option maxHeartbeats 1000000 in
theorem states_any (w : World) (z : Int) (h : -1 ≤ z) (h2 : z ≤ 1000000) : Calls Tryz.prog 96 #[.int .i64 z] w fun e w' => e = .returned (.int .i64 (sts z)) ∧ w' = w := by
  by_cases h1 : z = -1
  · subst h1
    go_enter Tryz.func96, Tryz.ntmps96
    go_wp2
    go_ret
    exact ⟨rfl, rfl⟩
  · have e : sts z = z := by unfold sts; rw [if_neg h1]
    have hm : max z (-z) = z := by omega
    rw [e]
    go_enter Tryz.func96, Tryz.ntmps96
    go_wp2
    go_ret
    exact ⟨rfl, rfl⟩

set_option maxRecDepth 100000 in
set_option maxHeartbeats 1000000 in
theorem floor_any (w : World) (x : Nat) (h : 1 ≤ x) (h2 : x ≤ 1000000) : Calls Tryz.prog 97 #[.int .i64 (x : Int)] w fun e w' => e = .returned (.int .i64 (x.log2 : Int)) ∧ w' = w := by
  have LN := Lib.hid (len_any w x (by omega))
  have hb : blen x = x.log2 + 1 := by unfold blen; rw [if_neg (by omega)]
  have hl : x.log2 < 20 := (Nat.log2_lt (by omega)).2 (by omega)
  obtain ⟨g, hg⟩ : ∃ g, x.log2 = g := ⟨_, rfl⟩
  rw [hb] at LN
  rw [hg] at LN hl ⊢
  clear hb hg
  go_enter Tryz.func97, Tryz.ntmps97
  go_wp2_with (go_at_call 16; refine LN.out.mono ?_; rintro e w' ⟨rfl, rfl⟩)
  go_ret
  exact ⟨by simp, rfl⟩

/-- A cell as a value and as a block. -/
abbrev cev (p q r : Int) : Value := .agg #[.int .i64 p, .int .i64 q, .int .i64 r]
def Ce (W : World) (b : Nat) (p q r : Int) : Prop := W.heap[b]? = some (.cells #[.int .i64 p, .int .i64 q, .int .i64 r] 139 (0, 0))
section
variable {W W' : World} {b : Nat} {p q r : Int}
theorem Ce.lt (h : Ce W b p q r) : b < W.heap.size := (Array.getElem?_eq_some_iff.1 h).1
theorem Ce.c0 (h : Ce W b p q r) : W.cell? ⟨b, 0, none⟩ = some (.int .i64 p) := by rw [cell_of_row W b 0 _ _ _ h]; rfl
theorem Ce.c1 (h : Ce W b p q r) : W.cell? ⟨b, 1, none⟩ = some (.int .i64 q) := by rw [cell_of_row W b 1 _ _ _ h]; rfl
theorem Ce.c2 (h : Ce W b p q r) : W.cell? ⟨b, 2, none⟩ = some (.int .i64 r) := by rw [cell_of_row W b 2 _ _ _ h]; rfl
theorem Ce.free (h : Ce W b p q r) (i : Nat) : W.frozen? ⟨b, i, none⟩ = false := by
  have : W.heap[b]? = _ := h
  simp [World.frozen?, this]
theorem Ce.same (h : Ce W b p q r) (hb : W'.heap[b]? = W.heap[b]?) : Ce W' b p q r := hb.trans h
theorem Ce.below (h : Ce W b p q r) (hb : Below W.heap.size W W') : Ce W' b p q r := hb.block b h.lt |>.trans h
theorem Ce.set0 (h : Ce W b p q r) (z : Int) : Ce (W.setCell ⟨b, 0, none⟩ (.int .i64 z)) b z q r := by
  have hb : W.heap[b]? = _ := h
  unfold Ce
  simp [World.setCell, Array.getElem?_modify, hb]
theorem Ce.set1 (h : Ce W b p q r) (z : Int) : Ce (W.setCell ⟨b, 1, none⟩ (.int .i64 z)) b p z r := by
  have hb : W.heap[b]? = _ := h
  unfold Ce
  simp [World.setCell, Array.getElem?_modify, hb]
theorem Ce.set2 (h : Ce W b p q r) (z : Int) : Ce (W.setCell ⟨b, 2, none⟩ (.int .i64 z)) b p q z := by
  have hb : W.heap[b]? = _ := h
  unfold Ce
  simp [World.setCell, Array.getElem?_modify, hb]
theorem Ce.new (W : World) (p q r : Int) : Ce (W.alloc (.cells #[.int .i64 p, .int .i64 q, .int .i64 r] 139)) W.heap.size p q r := World.alloc_heap_new W _
theorem Ce.load (h : Ce W b p q r) : (loadVar 139 ⟨b, 0, none⟩).run Tryz.prog W = .ok (cev p q r) W := by
  have c0 := h.c0
  have c1 := h.c1
  have c2 := h.c2
  simp [loadVar, go_sem, c0, c1, c2]
end

theorem results_cell {fn : Func} {a : Tmp} {t : TypeId} (h : fn.results = #[.cell a t]) {tmps : Array Value} {P : Program} {w : World} {ad : Addr} {v : Value} (hp : tmps.getD a undef = .pointer (some ad)) (hl : (loadVar t ad).run P w = .ok v w) :
    (results fn tmps).run P w = .ok v w := by
  have hp' : tmps[a]?.getD undef = .pointer (some ad) := by simpa using hp
  simp [results, h, hp', asAddr]
  exact hl
theorem results_cell2 {fn : Func} {a b : Tmp} {t : TypeId} (h : fn.results = #[.cell a t, .tmp b]) {tmps : Array Value} {P : Program} {w : World} {ad : Addr} {v : Value} (hp : tmps.getD a undef = .pointer (some ad)) (hl : (loadVar t ad).run P w = .ok v w) :
    (results fn tmps).run P w = .ok (.tuple #[v, tmps.getD b undef]) w := by
  have hp' : tmps[a]?.getD undef = .pointer (some ad) := by simpa using hp
  simp [results, h, hp', asAddr]
  rw [hl]
  simp [Result.andThen]

end Go.Proofs.YtnlhokfhkohdpaaGreat

namespace Go.Proofs.YtnlhokfhkohdpaaGreat
open Go.RowKit Go.Shelf Go.Maps

abbrev TM : TypeId := 154
set_option maxRecDepth 100000 in
theorem Mp.look2 {w : World} {b n : Nat} {m : Nat → Option Nat} (h : Mp w b n m) {i : Nat} (hi : i ≤ 1000000) : (Instr.lookup TM (.map (some b)) (.int .i64 (i : Int)) false).run Tryz.prog w = .ok (.int .i64 (((m i).getD 0 : Nat) : Int)) w := by
  obtain ⟨D, h1, h2⟩ := h
  obtain ⟨c, hrun, hat, _⟩ := h1.lookup_int keyed Tryz.underlying154 Tryz.underlying3 (zero_int _) (keyOf_int_mk Tryz.underlying3 (wf_nat hi))
  rw [(h2 i).2] at hat
  injection hat with hat
  injection hat with _ hat
  rw [hrun, ← hat]
set_option maxRecDepth 100000 in
theorem Mp.store2 {w : World} {b n : Nat} {m : Nat → Option Nat} (h : Mp w b n m) (hn : n ≤ 1000000) {i x : Nat} (hi : i ≤ 1000000) (hx : x ≤ 1000000) :
    ∃ w', (Instr.mapUpdate TM (.map (some b)) (.int .i64 (i : Int)) (.int .i64 (x : Int))).run Tryz.prog w = .ok () w' ∧ Mp w' b (n + 1) (upd m i x) ∧ w.grownBy w' (some b) := by
  obtain ⟨D, h1, h2⟩ := h
  obtain ⟨w', hrun, ho, hg⟩ := h1.update keyed Tryz.underlying154 (by unfold maxLen; omega) (keyOf_int_mk Tryz.underlying3 (wf_nat hi)) (plainElem_int Tryz.underlying3 (wf_nat hx))
  refine ⟨w', hrun, ⟨_, ho, fun j => ?_⟩, hg⟩
  by_cases hj : j = i
  · subst hj
    rw [upd_same]
    exact ⟨has_put_same h1.isMap (by exact trivial) _, atKey_put_same h1.isMap (by exact trivial) _ _⟩
  · have hne : Lit.int .i64 (j : Int) ≠ Lit.int .i64 (i : Int) := fun e => by
      injection e with _ e
      exact hj (by omega)
    rw [upd_other m x hj, has_put_other hne, atKey_put_other hne]
    exact h2 j

/-- What a builder captures: the table's variable, the map's variable, the map. -/
structure Bld (W : World) (bt bm b nn : Nat) (y : Int) (A : Option Addr) (N c : Nat) (m : Nat → Option Nat) : Prop where
  tab : Tb W bt y A N c
  box : Boxed W bm TM (.map (some b))
  mp : Mp W b nn m
  apart : bt ≠ b ∧ bm ≠ b
theorem Bld.same {W W' : World} {bt bm b nn : Nat} {y : Int} {A : Option Addr} {N c : Nat} {m : Nat → Option Nat} (h : Bld W bt bm b nn y A N c m) (hb : ∀ q, q = bt ∨ q = bm ∨ q = b → W'.heap[q]? = W.heap[q]?) : Bld W' bt bm b nn y A N c m :=
  ⟨h.tab.same (hb _ (.inl rfl)), (hb _ (.inr (.inl rfl))).trans h.box, h.mp.same (hb _ (.inr (.inr rfl))), h.apart⟩
theorem Bld.below {W W' : World} {bt bm b nn : Nat} {y : Int} {A : Option Addr} {N c : Nat} {m : Nat → Option Nat} (h : Bld W bt bm b nn y A N c m) (hb : Below W.heap.size W W') : Bld W' bt bm b nn y A N c m :=
  h.same fun q e => hb.block q (by rcases e with rfl | rfl | rfl; exact h.tab.lt; exact h.box.lt; exact h.mp.lt)

set_option maxRecDepth 100000 in
set_option maxHeartbeats 1000000 in
theorem builder_any (w : World) (y : Int) (A : Option Addr) (N c : Nat) :
    Calls Tryz.prog 74 #[tb y A N c] w fun e w' => ∃ bt bm b, e = .returned (.func (.func 95) #[] #[.pointer (some ⟨bt, 0, none⟩), .pointer (some ⟨bm, 0, none⟩)]) ∧ w.heap.size ≤ b ∧ Bld w' bt bm b 0 y A N c (fun _ => none) ∧ Below w.heap.size w w' := by
  have t1 := Tb.new w y A N c
  have b1 : Below w.heap.size w (w.alloc (.cells #[.int .i64 y, .slice A N c] 28)) := (Below.refl _ w).alloc (Nat.le_refl _) _
  obtain ⟨w1, hw1⟩ : ∃ w1, w.alloc (.cells #[.int .i64 y, .slice A N c] 28) = w1 := ⟨_, rfl⟩
  have z1 : w1.heap.size = w.heap.size + 1 := by rw [← hw1]; simp
  rw [hw1] at t1 b1
  have m1 := Mp.made w1
  have b2 : Below w1.heap.size w1 (w1.alloc (.map #[] 0)) := (Below.refl _ w1).alloc (Nat.le_refl _) _
  obtain ⟨w2, hw2⟩ : ∃ w2, w1.alloc (.map #[] 0) = w2 := ⟨_, rfl⟩
  have z2 : w2.heap.size = w1.heap.size + 1 := by rw [← hw2]; simp
  rw [hw2] at m1 b2
  have x3 : Boxed (w2.alloc (.cells #[.map none] TM)) w2.heap.size TM (.map none) := Boxed.new w2 TM _
  have b3 : Below w2.heap.size w2 (w2.alloc (.cells #[.map none] TM)) := (Below.refl _ w2).alloc (Nat.le_refl _) _
  obtain ⟨w3, hw3⟩ : ∃ w3, w2.alloc (.cells #[.map none] TM) = w3 := ⟨_, rfl⟩
  rw [hw3] at x3 b3
  have c3 := x3.cell
  have f3 := x3.frozen
  have b4 : Below w2.heap.size w3 (w3.setCell ⟨w2.heap.size, 0, none⟩ (.map (some w1.heap.size))) := (Below.refl _ w3).setCell (p := ⟨w2.heap.size, 0, none⟩) (Nat.le_refl _) _
  have FN : Hid (Bld (w3.setCell ⟨w2.heap.size, 0, none⟩ (.map (some w1.heap.size))) w.heap.size w2.heap.size w1.heap.size 0 y A N c (fun _ => none) ∧ Below w.heap.size w (w3.setCell ⟨w2.heap.size, 0, none⟩ (.map (some w1.heap.size)))) := Lib.hid ⟨⟨((t1.below b2).below b3).same (b4.block _ (by omega)), x3.set _, (m1.below b3).same (b4.block _ (by omega)), by omega, by omega⟩, ⟨b4.os.trans (b3.os.trans (b2.os.trans b1.os)), b4.tape.trans (b3.tape.trans (b2.tape.trans b1.tape)), b4.output.trans (b3.output.trans (b2.output.trans b1.output)), by have := b4.size; have := b3.size; omega, fun q hq => (b4.block q (by omega)).trans ((b3.block q (by omega)).trans ((b2.block q (by omega)).trans (b1.block q hq)))⟩⟩
  have HZ : Hid (w.heap.size ≤ w1.heap.size) := Lib.hid (by omega)
  have hmm := @run_makeMap Tryz.prog
  clear t1 b1 m1 b2 x3 b3 b4 z1 z2
  go_enter Tryz.func74, Tryz.ntmps74
  go_wp2
  go_ret
  exact ⟨_, _, _, rfl, HZ.out, FN.out.1, FN.out.2⟩

end Go.Proofs.YtnlhokfhkohdpaaGreat

namespace Go.Proofs.YtnlhokfhkohdpaaGreat
open Go.RowKit Go.Shelf Go.Maps

theorem shl_wrap {X B D P : Nat} (hD : 2 ^ B = D) (hP : X * D = P) (h : P ≤ 1000000) : wrap64 ((X : Int) * 2 ^ B) = (P : Int) := by
  have e : (X : Int) * 2 ^ B = (P : Int) := by rw [← hP, ← hD, Int.natCast_mul, Int.natCast_pow]; rfl
  rw [e]
  unfold wrap64
  omega

theorem sub_wrap {U S P : Nat} (h : U + S = P) (hP : P ≤ 1000000) : wrap64 ((P : Int) - (S : Int)) = (U : Int) := by
  unfold wrap64
  omega

set_option maxRecDepth 100000 in
set_option maxHeartbeats 2000000 in
theorem builder1_any (w : World) (bt bm b nn y : Nat) (A : Option Addr) (N c : Nat) (m : Nat → Option Nat) (l : List Int) (x k n X : Nat) (z : Int) (hB : Bld w bt bm b nn (y : Int) A N c m) (hR : Ri w A l) (hA : ∀ ad, A = some ad → ad.block ≠ b) (hnn : nn ≤ 1000) (hN : l.length = N) (hN2 : N ≤ 256) (hy : y ≤ 9) (hx : l[x]? = some z) (hz : -1 ≤ z) (hn : sts z = (n : Int)) (hk : (m x).getD 0 = k) (hX : n + k = X) (hM : Num y n X) :
    Calls Tryz.prog 95 #[.int .i64 (x : Int), .pointer (some ⟨bt, 0, none⟩), .pointer (some ⟨bm, 0, none⟩)] w fun e w' => e = .returned (cev x (bts y X) (bse y X)) ∧ Bld w' bt bm b (nn + 1) (y : Int) A N c (upd m x (k + 1)) ∧ Chg (fun q => q = b) w w' := by
  have hxN : x < N := by rw [← hN]; exact (List.getElem?_eq_some_iff.1 hx).1
  obtain ⟨ad, rfl, hcz⟩ := hR x (iv z) (by rw [List.getElem?_map, hx]; rfl)
  have hy5 := pow_le hy
  obtain ⟨B, hBe⟩ : ∃ B, bts y X = B := ⟨_, rfl⟩
  obtain ⟨S, hSe⟩ : ∃ S, 2 ^ y = S := ⟨_, rfl⟩
  obtain ⟨D, hDe⟩ : ∃ D, 2 ^ B = D := ⟨_, rfl⟩
  obtain ⟨U, hUe⟩ : ∃ U, bse y X = U := ⟨_, rfl⟩
  obtain ⟨G, hGe⟩ : ∃ G, X.log2 = G := ⟨_, rfl⟩
  obtain ⟨P, hPe⟩ : ∃ P, X * D = P := ⟨_, rfl⟩
  have h1 := hM.base
  have h2 := hM.log
  have h3 := hM.high
  have h4 := hM.pos
  have h5 := hM.lo
  have h6 := hM.hi
  have h7 := hM.le
  have hBG : y - G = B := by rw [← hBe, ← hGe]; rfl
  rw [hBe, hDe, hSe] at h3
  rw [hBe, hDe, hSe, hUe, hPe] at h1
  rw [Nat.add_mul, Nat.one_mul, hPe] at h3
  rw [hGe] at h2
  rw [hSe] at h7 hy5
  rw [hBe, hUe]
  have hn0 : -1 ≤ z ∧ z ≤ 512 := by unfold sts at hn; split at hn <;> omega
  have HS1 : Hid (wrap64 ((X : Int) * 2 ^ B) = (P : Int)) := Lib.hid (shl_wrap hDe hPe (by omega))
  have HS2 : Hid (wrap64 (2 ^ y) = (S : Int)) := Lib.hid (pow_wrap hSe hy5)
  have q1 := Ce.new w 0 0 0
  have g1 : Below w.heap.size w (w.alloc (.cells #[.int .i64 0, .int .i64 0, .int .i64 0] 139)) := (Below.refl _ w).alloc (Nat.le_refl _) _
  obtain ⟨w1, hw1⟩ : ∃ w1, w.alloc (.cells #[.int .i64 0, .int .i64 0, .int .i64 0] 139) = w1 := ⟨_, rfl⟩
  rw [hw1] at q1 g1
  have B1 := hB.below g1
  have t1 := B1.tab
  have c1 := t1.c1
  have c1' : w1.drew.cell? ⟨bt, 1, none⟩ = some (.slice (some ad) N c) := c1
  have cm := B1.box.cell
  have cm' : w1.drew.cell? ⟨bm, 0, none⟩ = some (.map (some b)) := cm
  have cz : w1.cell? (ad.add x) = some (.int .i64 z) := by
    obtain ⟨ad', e, h⟩ := (hR.below g1) x (iv z) (by rw [List.getElem?_map, hx]; rfl)
    injection e with e
    rw [e]; exact h
  have cz' : w1.drew.cell? (ad.add x) = some (.int .i64 z) := cz
  have lk := B1.mp.look2 (i := x) (by omega)
  have lk' := (B1.mp.same (w' := w1.drew) rfl).look2 (i := x) (by omega)
  rw [hk] at lk lk'
  obtain ⟨w3, hst, hm3, hg3⟩ := Mp.store2 (w := w1.drew) (B1.mp.same (w' := w1.drew) rfl) (i := x) (x := k + 1) (by omega) (by omega) (by omega)
  have hst' : (Instr.mapUpdate TM (.map (some b)) (.int .i64 (x : Int)) (.int .i64 ((k : Int) + 1))).run Tryz.prog w1.drew = .ok () w3 := by simpa using hst
  have keep : ∀ q, q < w1.heap.size → q ≠ b → w3.heap[q]? = w1.heap[q]? := fun q hq hn => hg3.block q hq (fun e => hn (Option.some.inj e))
  have B3 : Bld w3 bt bm b (nn + 1) (y : Int) (some ad) N c (upd m x (k + 1)) := ⟨t1.same (keep _ t1.lt B1.apart.1), (keep _ B1.box.lt B1.apart.2).trans B1.box, hm3, B1.apart⟩
  have hbw : b < w.heap.size := hB.mp.lt
  have q3 : Ce w3 w.heap.size 0 0 0 := q1.same (keep _ q1.lt (by omega))
  have C3 : Chg (fun q => q = b) w w3 := ⟨hg3.os.trans g1.os, hg3.tape.trans g1.tape, hg3.output.trans g1.output, Nat.le_trans g1.size hg3.size, fun q hq hn => (keep q (by have := g1.size; omega) hn).trans (g1.block q hq)⟩
  have d0 := B3.tab.c0
  have d0' : w3.drew.cell? ⟨bt, 0, none⟩ = some (.int .i64 (y : Int)) := d0
  have a1 := hB.tab.lt
  have a2 := hB.box.lt
  have HF : Hid (Ce w3 w.heap.size 0 0 0 ∧ Bld w3 bt bm b (nn + 1) (y : Int) (some ad) N c (upd m x (k + 1)) ∧ Chg (fun q => q = b) w w3 ∧ bt < w.heap.size ∧ bm < w.heap.size ∧ b < w.heap.size) := Lib.hid ⟨q3, B3, C3, a1, a2, hbw⟩
  have SA : Hid (∀ W, Calls Tryz.prog 96 #[.int .i64 z] W fun e w' => e = .returned (.int .i64 (n : Int)) ∧ w' = W) := Lib.hid (fun W => by
    have := states_any W z hz (by omega)
    rwa [hn] at this)
  have FL : Hid (∀ W, Calls Tryz.prog 97 #[.int .i64 (X : Int)] W fun e w' => e = .returned (.int .i64 (G : Int)) ∧ w' = W) := Lib.hid (fun W => by
    have := floor_any W X (by omega) (by omega)
    rwa [hGe] at this)
  have wx : IntKind.i64.wrap (x : Int) = (x : Int) := IntWalk.i64_in _ (by omega)
  have eX : (n : Int) + (k : Int) = (X : Int) := by omega
  have eB : (y : Int) - (G : Int) = (B : Int) := by omega
  have kB : decide ((B : Int) < 0) = false := decide_eq_false (by omega)
  have ky : decide ((y : Int) < 0) = false := decide_eq_false (by omega)
  have hB64 : B ≤ 9 := by omega
  have wX : IntKind.i64.wrap (X : Int) = (X : Int) := IntWalk.i64_in _ (by omega)
  clear hR hx hz hn hk hM hA hB hGe hUe hBe q1 g1 B1 t1 hm3 hg3 keep B3 q3 C3 hst hSe hDe hPe a1 a2 hbw
  have hmx : Tryz.prog.follows .mixedOrders = true := by kernel_rfl
  go_enter Tryz.func95, Tryz.ntmps95
  go_wp2
  go_region_held3 (fun W => W.cell? ⟨bt, 1, none⟩ = some (.slice (some ad) N c) ∧ W.cell? ⟨bm, 0, none⟩ = some (.map (some b)) ∧ W.cell? (ad.add x) = some (.int .i64 z) ∧ (Instr.lookup TM (.map (some b)) (.int .i64 (x : Int)) false).run Tryz.prog W = .ok (.int .i64 (k : Int)) W) (first | exact ⟨c1', cm', cz', lk'⟩) (first
    | (go_at_call 96; refine (SA.out _).mono ?_; rintro e w' ⟨rfl, rfl⟩))
  all_goals
    go_wp2
    go_quiet ((go_at_call 97; exact Calls.quiet_of_same (FL.out _)))
    go_wp2
    refine wp_region_still_tail 10 hmx (by kernel_rfl) ?_
    simp only [List.take_succ_cons, List.take_zero, List.drop_succ_cons, List.drop_zero]
    obtain ⟨W4, hW4⟩ : ∃ W4 : World, { heap := (w3.drewN nq).heap, tape := (w3.drewN nq).tape, drawn := (w3.drewN nq).drawn + 1, os := (w3.drewN nq).os, output := (w3.drewN nq).output } = W4 := ⟨_, rfl⟩
    rw [hW4]
    have hh : W4.heap = w3.heap := by rw [← hW4]; rfl
    have ho : W4.os = w3.os ∧ W4.tape = w3.tape ∧ W4.output = w3.output := by rw [← hW4]; exact ⟨rfl, rfl, rfl⟩
    clear hW4 d0 d0'
    obtain ⟨q3, B3, C3, a1, a2, a3⟩ := HF.out
    have d0 := (B3.tab.same (W' := W4) (by rw [hh])).c0
    have q4 : Ce W4 w.heap.size 0 0 0 := q3.same (by rw [hh])
    have e0 := q4.c0
    have f0 := q4.free 0
    obtain ⟨Wa, hWa⟩ : ∃ Wa, W4.setCell ⟨w.heap.size, 0, none⟩ (.int .i64 (x : Int)) = Wa := ⟨_, rfl⟩
    have qa : Ce Wa w.heap.size x 0 0 := by rw [← hWa]; exact q4.set0 _
    have e1 := qa.c1
    have f1 := qa.free 1
    obtain ⟨Wb, hWb⟩ : ∃ Wb, Wa.setCell ⟨w.heap.size, 1, none⟩ (.int .i64 (B : Int)) = Wb := ⟨_, rfl⟩
    have qb : Ce Wb w.heap.size x B 0 := by rw [← hWb]; exact qa.set1 _
    have e2 := qb.c2
    have f2 := qb.free 2
    have FN : Hid (∀ E : Int, Ce (Wb.setCell ⟨w.heap.size, 2, none⟩ (.int .i64 E)) w.heap.size x B E ∧ Bld (Wb.setCell ⟨w.heap.size, 2, none⟩ (.int .i64 E)) bt bm b (nn + 1) (y : Int) (some ad) N c (upd m x (k + 1)) ∧ Chg (fun q => q = b) w (Wb.setCell ⟨w.heap.size, 2, none⟩ (.int .i64 E))) := Lib.hid (fun E => by
      have hq : ∀ q, q ≠ w.heap.size → (Wb.setCell ⟨w.heap.size, 2, none⟩ (.int .i64 E)).heap[q]? = w3.heap[q]? := fun q hq => by
        rw [Below.heap_setCell _ _ _ _ hq, ← hWb, Below.heap_setCell _ _ _ _ hq, ← hWa, Below.heap_setCell _ _ _ _ hq, hh]
      refine ⟨qb.set2 _, B3.same (fun q e => hq q ?_), ?_⟩
      · rcases e with rfl | rfl | rfl
        · exact Nat.ne_of_lt a1
        · exact Nat.ne_of_lt a2
        · exact Nat.ne_of_lt a3
      · have hC : Chg (fun q => q = b) w W4 := ⟨ho.1.trans C3.os, ho.2.1.trans C3.tape, ho.2.2.trans C3.output, by rw [hh]; exact C3.size, fun q hq hn => by rw [hh]; exact C3.block q hq hn⟩
        refine ⟨?_, ?_, ?_, ?_, fun q hq2 hn => (hq q (Nat.ne_of_lt hq2)).trans (C3.block q hq2 hn)⟩
        · rw [← hWb, ← hWa]; exact hC.os
        · rw [← hWb, ← hWa]; exact hC.tape
        · rw [← hWb, ← hWa]; exact hC.output
        · rw [← hWb, ← hWa]; simpa [World.setCell] using hC.size)
    clear q3 B3 C3 a1 a2 a3 q4 qa qb hh ho HF
    repeat still_step
    refine wpStill_nil ?_
    go_wp2
    refine bodyPost_ret (results_cell rfl rfl (FN.out _).1.load) rfl ?_
    refine ⟨?_, (FN.out _).2⟩
    rw [HS1.out, HS2.out, sub_wrap h1 (by omega)]

end Go.Proofs.YtnlhokfhkohdpaaGreat
