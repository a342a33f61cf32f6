/-
  The mathematics of the spread: rare symbols, the states of the others, the visits of the indices, which symbol each index gets. Conditions: those that each theorem states.
  Rows of ints of a call's own: made, literal, grown by one number. Conditions: those that each theorem states.
  A map from ints to ints that the call has made: which index has which symbol. Conditions: those that each theorem states.
  What spread.Step and the reference's Step do: the step for a size, which is clamped to 1..512 first. Nothing has changed. No condition.
  A region that draws its order, in a round of a loop over an iterator: all operations but its last ones only read and call functions that change nothing: one walk in the text's order serves. Condition: no operation is a defer statement.
  What rareSymbols and otherStates do: they return the rare symbols, and the symbol of each other state, in new memory. Nothing that was there has changed. Condition: the norms are those of a valid table.
  What fromTop and list do: the rare symbols get the highest indices; the symbols in the order of their indices. Only the map and new memory differ. Conditions: the sizes are those of a valid table.
  What spread.visits and the function that it returns do: that function hands on the indices in the order of the visits, until a round leaves. Conditions: the size is 1 to 512; while the rounds run, the variable that it captures holds the size.
  What inVisits does: the free indices get the symbols in the order of the visits. Only the map and new memory differ. Conditions: there are as many symbols as free indices; the symbols' row is not the map.
  What spread.Spread does: it returns the symbol of each index of a valid table, in new memory, or the error. Nothing that was there has changed. Condition: a slice can hold the norms.
-/
import Derived.Test.YtnlhokfhkohdpaaGreatSb
import Derived.Maps.OwnSet
import Derived.StillTail
import Derived.StillTactics
import Derived.OrdersIn
import Derived.Test.YtnlhokfhkohdpaaGreatSa
import Derived.RegionIn
import Derived.RangeFuncCalls
import Derived.Shelf.RegionOpen
namespace Go.Proofs.YtnlhokfhkohdpaaGreat

/-- The rare symbols, and the symbols of the other states, of norms the first of which is that of symbol i. -/
def rs : Nat → List Int → List Nat
  | _, [] => []
  | i, x :: l => if x = -1 then i :: rs (i + 1) l else rs (i + 1) l
def ors : Nat → List Int → List Nat
  | _, [] => []
  | i, x :: l => List.replicate x.toNat i ++ ors (i + 1) l

theorem rs_append (l m : List Int) : ∀ i, rs i (l ++ m) = rs i l ++ rs (i + l.length) m := by
  induction l with
  | nil => intro i; rfl
  | cons x l ih =>
    intro i
    simp only [List.cons_append, rs, List.length_cons]
    rw [ih, show i + 1 + l.length = i + (l.length + 1) by omega]
    split <;> rfl
theorem ors_append (l m : List Int) : ∀ i, ors i (l ++ m) = ors i l ++ ors (i + l.length) m := by
  induction l with
  | nil => intro i; rfl
  | cons x l ih =>
    intro i
    simp only [List.cons_append, ors, List.length_cons]
    rw [ih, show i + 1 + l.length = i + (l.length + 1) by omega, List.append_assoc]
theorem rs_step {l : List Int} {j : Nat} {x : Int} (h : l[j]? = some x) : rs 0 (l.take (j + 1)) = rs 0 (l.take j) ++ (if x = -1 then [j] else []) := by
  have hl : j < l.length := (List.getElem?_eq_some_iff.1 h).1
  rw [take_succ_get h, rs_append, List.length_take, Nat.min_eq_left (Nat.le_of_lt hl), Nat.zero_add]
  rfl
theorem ors_step {l : List Int} {j : Nat} {x : Int} (h : l[j]? = some x) : ors 0 (l.take (j + 1)) = ors 0 (l.take j) ++ List.replicate x.toNat j := by
  have hl : j < l.length := (List.getElem?_eq_some_iff.1 h).1
  rw [take_succ_get h, ors_append, List.length_take, Nat.min_eq_left (Nat.le_of_lt hl), Nat.zero_add]
  simp [ors]
/-- There are as many as states. -/
theorem rs_ors_len {l : List Int} (h : okn l = true) : ∀ i, (((rs i l).length + (ors i l).length : Nat) : Int) = ssum l := by
  induction l with
  | nil => intro i; rfl
  | cons x l ih =>
    intro i
    unfold okn at h ih
    rw [List.all_cons, Bool.and_eq_true, decide_eq_true_iff] at h
    have h1 := ih h.2 (i + 1)
    rw [ssum_cons]
    unfold sts
    simp only [rs, ors, List.length_append, List.length_replicate]
    split <;> simp <;> omega
theorem rs_ge {l : List Int} : ∀ {i k : Nat}, k ∈ rs i l → i ≤ k := by
  induction l with
  | nil => intro i k h; cases h
  | cons x l ih =>
    intro i k h
    simp only [rs] at h
    split at h
    · rcases List.mem_cons.1 h with rfl | h
      · exact Nat.le_refl _
      · have := ih h; omega
    · have := ih h; omega
theorem ors_ge {l : List Int} : ∀ {i k : Nat}, k ∈ ors i l → i ≤ k := by
  induction l with
  | nil => intro i k h; cases h
  | cons x l ih =>
    intro i k h
    simp only [ors] at h
    rcases List.mem_append.1 h with h | h
    · rw [List.mem_replicate] at h; omega
    · have := ih h; omega
theorem rs_mem {l : List Int} : ∀ {i k : Nat}, k ∈ rs i l → l[k - i]? = some (-1) := by
  induction l with
  | nil => intro i k h; cases h
  | cons x l ih =>
    intro i k h
    simp only [rs] at h
    have key : k ∈ rs (i + 1) l → (x :: l)[k - i]? = some (-1) := fun h => by
      have h1 := rs_ge h
      rw [show k - i = (k - (i + 1)) + 1 by omega, List.getElem?_cons_succ]
      exact ih h
    split at h
    · rename_i hx
      rcases List.mem_cons.1 h with rfl | h
      · simp [hx]
      · exact key h
    · exact key h
theorem ors_mem {l : List Int} : ∀ {i k : Nat}, k ∈ ors i l → ∃ x, l[k - i]? = some x ∧ 1 ≤ x := by
  induction l with
  | nil => intro i k h; cases h
  | cons x l ih =>
    intro i k h
    simp only [ors] at h
    rcases List.mem_append.1 h with h | h
    · rw [List.mem_replicate] at h
      obtain ⟨h1, rfl⟩ := h
      exact ⟨x, by simp, by omega⟩
    · have h1 := ors_ge h
      obtain ⟨y, h2, h3⟩ := ih h
      refine ⟨y, ?_, h3⟩
      rw [show k - i = (k - (i + 1)) + 1 by omega, List.getElem?_cons_succ]
      exact h2
/-- The states of each symbol. -/
theorem rs_ors_count {l : List Int} (h : okn l = true) : ∀ (i k : Nat), (((rs i l).count (i + k) + (ors i l).count (i + k) : Nat) : Int) = match l[k]? with | some x => sts x | none => 0 := by
  induction l with
  | nil => intro i k; simp [rs, ors]
  | cons x l ih =>
    intro i k
    unfold okn at h ih
    rw [List.all_cons, Bool.and_eq_true, decide_eq_true_iff] at h
    cases k with
    | zero =>
      have h1 : (rs (i + 1) l).count i = 0 := List.count_eq_zero.2 (fun hm => by have := rs_ge hm; omega)
      have h2 : (ors (i + 1) l).count i = 0 := List.count_eq_zero.2 (fun hm => by have := ors_ge hm; omega)
      simp only [rs, ors, Nat.add_zero, List.count_append, List.getElem?_cons_zero, h2, List.count_replicate_self]
      unfold sts
      split
      · rename_i hx; subst hx; simp [h1]
      · rw [h1]; omega
    | succ k =>
      have h1 := ih h.2 (i + 1) k
      rw [show i + 1 + k = i + (k + 1) by omega] at h1
      have h3 : (List.replicate x.toNat i).count (i + (k + 1)) = 0 := List.count_eq_zero.2 (fun hm => by rw [List.mem_replicate] at hm; omega)
      simp only [rs, ors, List.count_append, List.getElem?_cons_succ, h3, Nat.zero_add]
      rw [← h1]
      split
      · rw [List.count_cons_of_ne (by omega)]
      · rfl
theorem ors_sorted (l : List Int) : ∀ i, (ors i l).Pairwise (· ≤ ·) := by
  induction l with
  | nil => intro i; exact List.Pairwise.nil
  | cons x l ih =>
    intro i
    simp only [ors]
    rw [List.pairwise_append]
    refine ⟨?_, ih _, fun a ha b hb => ?_⟩
    · rw [List.pairwise_replicate]; exact .inr (Nat.le_refl _)
    · rw [List.mem_replicate] at ha
      have := ors_ge hb
      omega

/-- The step; the indices in the order of the visits. -/
def stp (s : Nat) : Nat := if s < 16 then 1 else s / 2 + s / 8 + 3
def vi (s j : Nat) : Nat := j * stp s % s
def vis (s : Nat) : List Nat := (List.range s).map (vi s)
theorem vis_perm {y : Nat} (h : y ≤ 9) : (vis (2 ^ y)).Perm (List.range (2 ^ y)) := by
  have key : ∀ y : Fin 10, (vis (2 ^ y.val)).isPerm (List.range (2 ^ y.val)) = true := by decide +kernel
  exact List.isPerm_iff.1 (key ⟨y, by omega⟩)
theorem vis_nodup {y : Nat} (h : y ≤ 9) : (vis (2 ^ y)).Nodup := (vis_perm h).nodup_iff.2 List.nodup_range
theorem vis_len (s : Nat) : (vis s).length = s := by simp [vis]
theorem vis_get {s j : Nat} (h : j < s) : (vis s)[j]? = some (vi s j) := by simp [vis, h]
theorem vi_lt {s : Nat} (h : 0 < s) (j : Nat) : vi s j < s := Nat.mod_lt _ h
theorem vi_zero (s : Nat) : vi s 0 = 0 := by simp [vi]
theorem vi_next (s j : Nat) : (vi s j + stp s) % s = vi s (j + 1) := by
  unfold vi
  rw [Nat.add_mul, Nat.one_mul, Nat.mod_add_mod]
theorem vi_all (s : Nat) : vi s s = 0 := by unfold vi; exact Nat.mul_mod_right _ _
theorem stp_le {s : Nat} (h : s ≤ 512) : stp s ≤ 1000 := by unfold stp; split <;> omega
theorem stp_pos (s : Nat) : 1 ≤ stp s := by unfold stp; split <;> omega

/-- A symbol is given to an index; the free indices get the symbols in the order of the visits. -/
def upd (m : Nat → Option Nat) (v x : Nat) : Nat → Option Nat := fun i => if i = v then some x else m i
def go : List Nat → (Nat → Option Nat) → List Nat → Nat → Option Nat
  | [], m, _ => m
  | v :: vs, m, r => match m v with
    | some _ => go vs m r
    | none => match r with
      | [] => go vs m []
      | x :: r => go vs (upd m v x) r
theorem upd_same (m : Nat → Option Nat) (v x : Nat) : upd m v x v = some x := by simp [upd]
theorem upd_other (m : Nat → Option Nat) {v i : Nat} (x : Nat) (h : i ≠ v) : upd m v x i = m i := by simp [upd, h]
theorem go_taken {v : Nat} {vs : List Nat} {m : Nat → Option Nat} {r : List Nat} {x : Nat} (h : m v = some x) : go (v :: vs) m r = go vs m r := by simp [go, h]
theorem go_free {v : Nat} {vs : List Nat} {m : Nat → Option Nat} {r : List Nat} {x : Nat} (h : m v = none) : go (v :: vs) m (x :: r) = go vs (upd m v x) r := by simp [go, h]
theorem go_empty {v : Nat} {vs : List Nat} {m : Nat → Option Nat} (h : m v = none) : go (v :: vs) m [] = go vs m [] := by simp [go, h]
/-- How many of the indices are free. -/
abbrev fre (m : Nat → Option Nat) (vs : List Nat) : Nat := vs.countP (fun v => (m v).isNone)
/-- There are as many symbols as free indices among those that are still to be visited, none of which comes twice. -/
structure Ok (vs : List Nat) (m : Nat → Option Nat) (r : List Nat) : Prop where
  nd : vs.Nodup
  len : fre m vs = r.length
theorem fre_upd {vs : List Nat} {m : Nat → Option Nat} {v x : Nat} (h : v ∉ vs) : fre (upd m v x) vs = fre m vs := by
  unfold fre
  refine List.countP_congr fun i hi => ?_
  rw [upd_other m x (fun e => h (by rw [← e]; exact hi))]
theorem Ok.taken {v : Nat} {vs : List Nat} {m : Nat → Option Nat} {r : List Nat} {x : Nat} (h : Ok (v :: vs) m r) (hx : m v = some x) : Ok vs m r := by
  refine ⟨(List.nodup_cons.1 h.nd).2, ?_⟩
  rw [← h.len]
  simp [fre, hx]
theorem Ok.free {v : Nat} {vs : List Nat} {m : Nat → Option Nat} {r : List Nat} (h : Ok (v :: vs) m r) (hx : m v = none) : ∃ x r', r = x :: r' ∧ Ok vs (upd m v x) r' := by
  have hl := h.len
  have e : fre m (v :: vs) = fre m vs + 1 := by simp [fre, hx]
  rw [e] at hl
  cases r with
  | nil => simp at hl
  | cons x r =>
    refine ⟨x, r, rfl, (List.nodup_cons.1 h.nd).2, ?_⟩
    rw [fre_upd (List.nodup_cons.1 h.nd).1]
    simpa using hl
/-- What an index has, it keeps; an index that is not visited stays as it is. -/
theorem go_keep (vs : List Nat) : ∀ {m : Nat → Option Nat} {r : List Nat} {i x : Nat}, m i = some x → go vs m r i = some x := by
  induction vs with
  | nil => intro m r i x h; exact h
  | cons v vs ih =>
    intro m r i x h
    cases hv : m v with
    | some u => rw [go_taken hv]; exact ih h
    | none =>
      cases r with
      | nil => rw [go_empty hv]; exact ih h
      | cons u r =>
        rw [go_free hv]
        refine ih ?_
        rw [upd_other _ _ (fun e => by rw [e, hv] at h; cases h)]
        exact h
theorem go_out (vs : List Nat) : ∀ {m : Nat → Option Nat} {r : List Nat} {i : Nat}, i ∉ vs → go vs m r i = m i := by
  induction vs with
  | nil => intro m r i h; rfl
  | cons v vs ih =>
    intro m r i h
    rw [List.mem_cons, not_or] at h
    cases hv : m v with
    | some u => rw [go_taken hv]; exact ih h.2
    | none =>
      cases r with
      | nil => rw [go_empty hv]; exact ih h.2
      | cons u r => rw [go_free hv, ih h.2, upd_other _ _ h.1]
/-- Where none is free, nothing is given. -/
theorem go_none (vs : List Nat) : ∀ {m : Nat → Option Nat} {r : List Nat}, fre m vs = 0 → go vs m r = m := by
  induction vs with
  | nil => intro m r _; rfl
  | cons v vs ih =>
    intro m r h
    unfold fre at h
    rw [List.countP_eq_zero] at h
    have h1 := h v (by simp)
    cases hv : m v with
    | none => rw [hv] at h1; simp at h1
    | some x =>
      rw [go_taken hv]
      refine ih ?_
      unfold fre
      rw [List.countP_eq_zero]
      exact fun i hi => h i (by simp [hi])
theorem go_all (vs : List Nat) : ∀ {m : Nat → Option Nat} {r : List Nat}, Ok vs m r → ∀ i ∈ vs, ∃ x, go vs m r i = some x := by
  induction vs with
  | nil => intro m r _ i h; cases h
  | cons v vs ih =>
    intro m r h i hi
    cases hv : m v with
    | some x =>
      rw [go_taken hv]
      rcases List.mem_cons.1 hi with rfl | hi
      · exact ⟨x, go_keep vs hv⟩
      · exact ih (h.taken hv) i hi
    | none =>
      obtain ⟨x, r', rfl, h'⟩ := h.free hv
      rw [go_free hv]
      rcases List.mem_cons.1 hi with rfl | hi
      · exact ⟨x, go_keep vs (upd_same _ _ _)⟩
      · exact ih h' i hi
/-- How often a symbol is given. -/
theorem go_count (k : Nat) (vs : List Nat) : ∀ {m : Nat → Option Nat} {r : List Nat}, Ok vs m r → vs.countP (fun i => go vs m r i == some k) = vs.countP (fun i => m i == some k) + r.count k := by
  induction vs with
  | nil =>
    intro m r h
    have := h.len
    simp [fre] at this
    rw [List.eq_nil_of_length_eq_zero this.symm]
    rfl
  | cons v vs ih =>
    intro m r h
    cases hv : m v with
    | some x =>
      rw [go_taken hv, List.countP_cons, List.countP_cons, ih (h.taken hv), go_keep vs hv, hv]
      omega
    | none =>
      obtain ⟨x, r', rfl, h'⟩ := h.free hv
      have e1 : vs.countP (fun i => upd m v x i == some k) = vs.countP (fun i => m i == some k) := by
        refine List.countP_congr fun i hi => ?_
        rw [upd_other m x (fun e => (List.nodup_cons.1 h.nd).1 (by rw [← e]; exact hi))]
      rw [go_free hv, List.countP_cons, List.countP_cons, ih h', go_keep vs (upd_same m v x), hv, e1, List.count_cons]
      simp
      omega

/-- The rare symbols from the top down. -/
def m0 (s : Nat) (r : List Nat) : Nat → Option Nat := fun i => if i < s then r[s - 1 - i]? else none
theorem m0_nil (s : Nat) : m0 s [] = fun _ => none := by funext i; simp [m0]
theorem m0_step {s j x : Nat} {r : List Nat} (hj : j < s) (h : r[j]? = some x) : upd (m0 s (r.take j)) (s - 1 - j) x = m0 s (r.take (j + 1)) := by
  funext i
  unfold upd m0
  by_cases hi : i = s - 1 - j
  · subst hi
    rw [if_pos rfl, if_pos (by omega), show s - 1 - (s - 1 - j) = j by omega, List.getElem?_take_of_lt (by omega), h]
  · rw [if_neg hi]
    by_cases h2 : i < s
    · rw [if_pos h2, if_pos h2]
      by_cases h3 : s - 1 - i < j
      · rw [List.getElem?_take_of_lt h3, List.getElem?_take_of_lt (by omega)]
      · rw [List.getElem?_eq_none (by rw [List.length_take]; omega), List.getElem?_eq_none (by rw [List.length_take]; omega)]
    · rw [if_neg h2, if_neg h2]
theorem fre_m0 {s : Nat} {r : List Nat} (hr : r.length ≤ s) : fre (m0 s r) (List.range s) = s - r.length := by
  have key : ∀ n, n ≤ s → fre (m0 s r) (List.range n) = min n (s - r.length) := by
    intro n
    induction n with
    | zero => intro _; simp [fre]
    | succ n ih =>
      intro hn
      have h1 := ih (by omega)
      unfold fre at h1 ⊢
      rw [List.range_succ, List.countP_append, h1, List.countP_singleton]
      unfold m0
      rw [if_pos (show n < s by omega)]
      by_cases h : s - 1 - n < r.length
      · rw [List.getElem?_eq_getElem h]
        simp
        omega
      · rw [List.getElem?_eq_none (by omega)]
        simp
        omega
  rw [key s (Nat.le_refl _)]
  omega

/-- The symbol of each index: the spread. -/
def fin (s : Nat) (l : List Int) : Nat → Option Nat := go (vis s) (m0 s (rs 0 l)) (ors 0 l)
def spl (s : Nat) (l : List Int) : List Nat := (List.range s).map (fun i => (fin s l i).getD 0)
theorem spl_len (s : Nat) (l : List Int) : (spl s l).length = s := by simp [spl]
theorem spl_get {s i : Nat} (l : List Int) (h : i < s) : (spl s l)[i]? = some ((fin s l i).getD 0) := by simp [spl, h]

/-- The norms of a valid table of 2^y states. -/
structure Vt (y : Nat) (l : List Int) : Prop where
  log : y ≤ 9
  pos : 1 ≤ l.length
  len : l.length ≤ 256
  last : l.getLast? ≠ some 0
  ok : okn l = true
  sum : ssum l = ((2 ^ y : Nat) : Int)
section
variable {y : Nat} {l : List Int}
theorem Vt.total (h : Vt y l) : (rs 0 l).length + (ors 0 l).length = 2 ^ y := by
  have := rs_ors_len h.ok 0
  rw [h.sum] at this
  omega
theorem Vt.start (h : Vt y l) : Ok (vis (2 ^ y)) (m0 (2 ^ y) (rs 0 l)) (ors 0 l) := by
  refine ⟨vis_nodup h.log, ?_⟩
  unfold fre
  rw [(vis_perm h.log).countP_eq]
  have h1 := h.total
  rw [show List.countP (fun v => (m0 (2 ^ y) (rs 0 l) v).isNone) (List.range (2 ^ y)) = fre (m0 (2 ^ y) (rs 0 l)) (List.range (2 ^ y)) from rfl, fre_m0 (by omega)]
  omega
theorem Vt.has (h : Vt y l) {i : Nat} (hi : i < 2 ^ y) : ∃ x, fin (2 ^ y) l i = some x :=
  go_all _ h.start i ((vis_perm h.log).mem_iff.2 (List.mem_range.2 hi))
theorem Vt.size (h : Vt y l) : 2 ^ y ≤ 512 := by
  have := Nat.pow_le_pow_right (show 0 < 2 by decide) h.log
  rw [show (2 : Nat) ^ 9 = 512 by decide] at this
  exact this
/-- Each symbol has as many indices as states. -/
theorem Vt.count (h : Vt y l) (k : Nat) : (((spl (2 ^ y) l).count k : Nat) : Int) = match l[k]? with | some x => sts x | none => 0 := by
  have e0 : (spl (2 ^ y) l).count k = (List.range (2 ^ y)).countP (fun i => fin (2 ^ y) l i == some k) := by
    unfold spl
    rw [List.count_eq_countP, List.countP_map]
    refine List.countP_congr fun i hi => ?_
    obtain ⟨x, hx⟩ := h.has (List.mem_range.1 hi)
    simp [hx]
  have hr : (rs 0 l).length ≤ 2 ^ y := by have := h.total; omega
  have e1 : (List.range (2 ^ y)).countP (fun i => m0 (2 ^ y) (rs 0 l) i == some k) = (rs 0 l).count k := by
    have key : ∀ (s : Nat) (r : List Nat), r.length ≤ s → ∀ n, n ≤ r.length → (List.range s).countP (fun i => m0 s (r.take n) i == some k) = (r.take n).count k := by
      intro s r hs n
      induction n with
      | zero => intro _; rw [List.take_zero, m0_nil]; simp
      | succ n ih =>
        intro hn
        have h1 := ih (by omega)
        obtain ⟨x, hx⟩ : ∃ x, r[n]? = some x := ⟨_, List.getElem?_eq_getElem (by omega)⟩
        have h2 := m0_step (s := s) (by omega) hx
        have h3 : m0 s (r.take n) (s - 1 - n) = none := by
          unfold m0
          rw [if_pos (by omega), List.getElem?_eq_none (by rw [List.length_take]; omega)]
        rw [← h2, take_succ_get hx, List.count_append, ← h1]
        have h4 : (List.range s).count (s - 1 - n) = 1 := by
          have h5 := List.nodup_range.count (a := s - 1 - n) (l := List.range s)
          rw [h5, if_pos (List.mem_range.2 (by omega))]
        have gen : ∀ (vs : List Nat) (m : Nat → Option Nat) (v : Nat), m v = none → vs.countP (fun i => upd m v x i == some k) = vs.countP (fun i => m i == some k) + (if x = k then vs.count v else 0) := by
          intro vs m v hv
          induction vs with
          | nil => simp
          | cons u vs ih2 =>
            rw [List.countP_cons, List.countP_cons, ih2, List.count_cons]
            by_cases hu : u = v
            · subst hu
              rw [upd_same, hv]
              by_cases hx : x = k
              · subst hx; simp; omega
              · simp [hx]
            · rw [upd_other _ _ hu]
              by_cases hx : x = k
              · subst hx; simp [hu]; omega
              · simp [hx]
        rw [gen _ _ _ h3, h4]
        by_cases hx : x = k
        · subst hx; simp
        · simp [hx]
    have := key _ _ hr (rs 0 l).length (Nat.le_refl _)
    rwa [List.take_length] at this
  have e2 := go_count k (vis (2 ^ y)) h.start
  rw [(vis_perm h.log).countP_eq, (vis_perm h.log).countP_eq, e1] at e2
  rw [e0]
  have e3 := rs_ors_count h.ok 0 k
  rw [Nat.zero_add] at e3
  rw [← e3]
  congr 1
end

end Go.Proofs.YtnlhokfhkohdpaaGreat

namespace Go.Proofs.YtnlhokfhkohdpaaGreat
open Go.RowKit Go.Shelf

theorem lit_rv (W : World) (xs : List Value) (H : Nat) (hH : W.heap.size = H) : Rv (W.alloc (.cells xs.toArray 3)) (some ⟨H, 0, none⟩) xs := by
  subst hH
  intro j v hj
  refine ⟨_, rfl, ?_⟩
  have e : (Addr.add ⟨W.heap.size, 0, none⟩ j) = ⟨W.heap.size, j, none⟩ := by
    unfold Addr.add
    by_cases h0 : j = 0
    · rw [if_pos h0, h0]
    · rw [if_neg h0]; simp
  rw [e, cell_of_row _ _ j _ _ _ (World.alloc_heap_new W _)]
  simpa using hj

theorem int_info : (Tryz.prog.info? 3).map (fun i => (i.zero, i.size, i.bytes)) = some (some (.int .i64 0), 1, 8) := by kernel_rfl
theorem made_ints (n : Nat) : (madeCells (Value.int .i64 0).cells (n * 1)).toList = (List.replicate n 0).map iv := by
  refine List.ext_getElem? fun j => ?_
  simp only [madeCells, Nat.mul_one, Value.cells]
  rcases Nat.lt_or_ge j n with h | h
  · simp [h, Nat.mod_one]
  · simp [h]
theorem make_ints (n : Nat) (hn : n ≤ 10000000) (W : World) : ∃ w1, (Instr.makeSlice 24 (.int .i64 (n : Int)) (.int .i64 (n : Int))).run Tryz.prog W = .ok (.slice (some ⟨W.heap.size, 0, none⟩) n n) w1 ∧
    w1.ownsRow W.heap.size 3 1 (.slice (some ⟨W.heap.size, 0, none⟩) n n) n ((List.replicate n 0).map iv) ∧ Below W.heap.size W w1 := by
  obtain ⟨i0, hi, hz0, hz1, hz2⟩ := info_parts int_info
  obtain ⟨w1, h1, h2, h3⟩ := run_makeSlice_full (P := Tryz.prog) W W.heap.size 24 3 i0 (.int .i64 0) 1 Tryz.underlying24 hi hz0 hz1 .i64 .i64 n (by omega) (by rw [hz2]; omega) (by unfold maxLen; omega) (Nat.le_refl _)
  rw [made_ints] at h2
  exact ⟨w1, h1, h2, (Below.refl _ _).grown h3 (Nat.le_refl _) (fun k e => by cases e)⟩

theorem own_ge {W : World} {B : Nat} {v : Value} {e : TypeId} {z n : Nat} {xs : List Value} (h : W.ownsRow B e z v n xs) {g : Nat} (hg : v.ownBlock = some g) : B ≤ g := by
  rcases h.2 with ⟨rfl, _⟩ | ⟨g', c, cur, rfl, h2, _⟩
  · cases hg
  · injection hg with hg
    subst hg
    exact h2
theorem own_nil (W : World) (B : Nat) : W.ownsRow B 3 1 (.slice none 0 0) 0 [] := ⟨rfl, .inl ⟨rfl, rfl⟩⟩
theorem rn_own {w : World} {base n cap : Nat} {A : Option Addr} {k : List Nat} (h : w.ownsRow base 3 1 (.slice A n cap) n (k.map nv)) : Rn w A k := Rv.of_own h
theorem rn_ri {w : World} {A : Option Addr} {k : List Nat} (h : Rn w A k) : Ri w A (k.map (fun n : Nat => (n : Int))) := by
  unfold Ri
  rw [ri_nats]
  exact h
/-- What a literal of one number, made in world wr, is to an append. -/
structure One (w wr : World) (v : Value) (r : Nat) (xs : List Value) (q : Int) : Prop where
  own : (wr.alloc (.cells #[.int .i64 q] 3)).ownsRow w.heap.size 3 1 v r xs
  rd : Rv (wr.alloc (.cells #[.int .i64 q] 3)) (some ⟨wr.heap.size, 0, none⟩) [.int .i64 q]
  bel : Below w.heap.size w (wr.alloc (.cells #[.int .i64 q] 3))
theorem One.mk' {w wr : World} {v : Value} {r : Nat} {xs : List Value} (q : Int) (ho : wr.ownsRow w.heap.size 3 1 v r xs) (hb : Below w.heap.size w wr) : One w wr v r xs q :=
  ⟨own_below ho ((Below.refl _ wr).alloc (Nat.le_refl _) _), lit_rv wr [.int .i64 q] _ rfl, below_on hb (Nat.le_refl _) ((Below.refl _ wr).alloc (Nat.le_refl _) _)⟩
theorem One.size {w wr : World} {v : Value} {r : Nat} {xs : List Value} {q : Int} (h : One w wr v r xs q) : w.heap.size ≤ (wr.alloc (.cells #[.int .i64 q] 3)).heap.size := h.bel.size
theorem One.grown {w wr w' : World} {v : Value} {r : Nat} {xs : List Value} {q : Int} (h : One w wr v r xs q) (hg : (wr.alloc (.cells #[.int .i64 q] 3)).grownBy w' v.ownBlock) : Below w.heap.size w w' :=
  h.bel.grown hg h.size (fun _ ej => own_ge h.own ej)

end Go.Proofs.YtnlhokfhkohdpaaGreat

namespace Go.Proofs.YtnlhokfhkohdpaaGreat
open Go.RowKit Go.Shelf Go.Maps

abbrev T : TypeId := 155
theorem keyed : Keyed Tryz.prog 3 := int_keyed Tryz.underlying3
theorem zero_int (w : World) : (zeroValue 3).run Tryz.prog w = .ok (.int .i64 0) w := by kernel_rfl
theorem wf_nat {n : Nat} (h : n ≤ 1000000) : (Lit.int .i64 (n : Int)).wf = true := WalkArith.wf_i64 (by omega)

/-- Block b is a map of at most n entries: index i has the symbol m i, or none. -/
def Mp (w : World) (b n : Nat) (m : Nat → Option Nat) : Prop :=
  ∃ D : DataW Unit, w.ownsMap Tryz.prog 3 (plainElem Tryz.prog 3) b n D ∧ ∀ i : Nat, Maps.has D (.int .i64 (i : Int)) = (m i).isSome ∧ D.atKey (.int .i64 (i : Int)) (.lit (.int .i64 0)) = .lit (.int .i64 (((m i).getD 0 : Nat) : Int))
theorem Mp.lt {w : World} {b n : Nat} {m : Nat → Option Nat} (h : Mp w b n m) : b < w.heap.size := let ⟨_, h1, _⟩ := h; h1.lt
theorem Mp.same {w w' : World} {b n : Nat} {m : Nat → Option Nat} (h : Mp w b n m) (hb : w'.heap[b]? = w.heap[b]?) : Mp w' b n m := by
  obtain ⟨D, ⟨es, cl, h1, h2⟩, h3⟩ := h
  exact ⟨D, ⟨es, cl, hb.trans h1, h2⟩, h3⟩
theorem Mp.below {w w' : World} {b n : Nat} {m : Nat → Option Nat} (h : Mp w b n m) (hb : Below w.heap.size w w') : Mp w' b n m := h.same (hb.block b h.lt)
theorem Mp.made (w : World) : Mp (w.alloc (.map #[] 0)) w.heap.size 0 (fun _ => none) :=
  ⟨.map [], World.ownsMap_made _ _ _ _, fun _ => ⟨rfl, rfl⟩⟩
set_option maxRecDepth 100000 in
theorem Mp.look {w : World} {b n : Nat} {m : Nat → Option Nat} (h : Mp w b n m) {i : Nat} (hi : i ≤ 1000000) : (Instr.lookup T (.map (some b)) (.int .i64 (i : Int)) false).run Tryz.prog w = .ok (.int .i64 (((m i).getD 0 : Nat) : Int)) w := by
  obtain ⟨D, h1, h2⟩ := h
  obtain ⟨c, hrun, hat, _⟩ := h1.lookup_int keyed Tryz.underlying155 Tryz.underlying3 (zero_int _) (keyOf_int_mk Tryz.underlying3 (wf_nat hi))
  rw [(h2 i).2] at hat
  injection hat with hat
  injection hat with _ hat
  rw [hrun, ← hat]
set_option maxRecDepth 100000 in
theorem Mp.look_ok {w : World} {b n : Nat} {m : Nat → Option Nat} (h : Mp w b n m) {i : Nat} (hi : i ≤ 1000000) : (Instr.lookup T (.map (some b)) (.int .i64 (i : Int)) true).run Tryz.prog w = .ok (.tuple #[.int .i64 (((m i).getD 0 : Nat) : Int), .bool (m i).isSome]) w := by
  obtain ⟨D, h1, h2⟩ := h
  obtain ⟨v, ps, hrun, hR⟩ := h1.look_ok keyed Tryz.underlying155 (zero_int _) (plainElem_int Tryz.underlying3 (by decide)) (keyOf_int_mk Tryz.underlying3 (wf_nat hi))
  obtain ⟨c, rfl, hc, _⟩ := plainElem_int_inv Tryz.underlying3 hR
  simp only [Prod.mk.injEq] at hc
  have hat := hc.1
  rw [(h2 i).2] at hat
  injection hat with hat
  injection hat with _ hat
  rw [hrun, ← hat, (h2 i).1]
set_option maxRecDepth 100000 in
theorem Mp.store {w : World} {b n : Nat} {m : Nat → Option Nat} (h : Mp w b n m) (hn : n ≤ 1000000) {i x : Nat} (hi : i ≤ 1000000) (hx : x ≤ 1000000) :
    ∃ w', (Instr.mapUpdate T (.map (some b)) (.int .i64 (i : Int)) (.int .i64 (x : Int))).run Tryz.prog w = .ok () w' ∧ Mp w' b (n + 1) (upd m i x) ∧ w.grownBy w' (some b) := by
  obtain ⟨D, h1, h2⟩ := h
  obtain ⟨w', hrun, ho, hg⟩ := h1.update keyed Tryz.underlying155 (by unfold maxLen; omega) (keyOf_int_mk Tryz.underlying3 (wf_nat hi)) (plainElem_int Tryz.underlying3 (wf_nat hx))
  refine ⟨w', hrun, ⟨_, ho, fun j => ?_⟩, hg⟩
  by_cases hj : j = i
  · subst hj
    rw [upd_same]
    exact ⟨has_put_same h1.isMap (by exact trivial) _, atKey_put_same h1.isMap (by exact trivial) _ _⟩
  · have hne : Lit.int .i64 (j : Int) ≠ Lit.int .i64 (i : Int) := fun e => by
      injection e with _ e
      exact hj (by omega)
    rw [upd_other m x hj, has_put_other hne, atKey_put_other hne]
    exact h2 j

end Go.Proofs.YtnlhokfhkohdpaaGreat

namespace Go.Proofs.YtnlhokfhkohdpaaGreat
open Go.RowKit Go.Shelf

/-- The step for any size. -/
def stz (z : Int) : Nat := if z < 16 then 1 else if 512 < z then stp 512 else stp z.toNat
theorem stz_nat {s : Nat} (h : s ≤ 512) : stz (s : Int) = stp s := by
  unfold stz
  by_cases h1 : s < 16
  · rw [if_pos (by omega), stp, if_pos h1]
  · rw [if_neg (by omega), if_neg (by omega), Int.toNat_natCast]

set_option maxRecDepth 100000 in
set_option maxHeartbeats 2000000 in
theorem step_any (w : World) (z : Int) : Calls Tryz.prog 106 #[.int .i64 z] w fun e w' => e = .returned (nv (stz z)) ∧ w' = w := by
  by_cases h0 : z < 1
  · have e : stz z = 1 := by unfold stz; rw [if_pos (by omega)]
    rw [e]
    have hm : max z 1 = 1 := by omega
    go_enter Tryz.func106, Tryz.ntmps106
    go_wp2
    go_ret
    exact ⟨rfl, rfl⟩
  · have hm : max z 1 = z := by omega
    by_cases h1 : z < 16
    · have e : stz z = 1 := by unfold stz; rw [if_pos h1]
      rw [e]
      have hm2 : min z 512 = z := by omega
      go_enter Tryz.func106, Tryz.ntmps106
      go_wp2
      go_ret
      exact ⟨rfl, rfl⟩
    · by_cases h2 : 512 < z
      · have e : stz z = 323 := by unfold stz; rw [if_neg h1, if_pos h2]; decide
        rw [e]
        have hm2 : min z 512 = 512 := by omega
        go_enter Tryz.func106, Tryz.ntmps106
        go_wp2
        go_ret
        exact ⟨rfl, rfl⟩
      · obtain ⟨s, rfl⟩ : ∃ s : Nat, z = (s : Int) := ⟨z.toNat, by omega⟩
        have hm2 : min (s : Int) 512 = (s : Int) := by omega
        rw [stz_nat (by omega)]
        have e : stp s = s / 2 + s / 8 + 3 := by unfold stp; rw [if_neg (by omega)]
        rw [e]
        go_enter Tryz.func106, Tryz.ntmps106
        go_wp2
        go_ret
        exact ⟨by simp, rfl⟩

end Go.Proofs.YtnlhokfhkohdpaaGreat

namespace Go.Proofs.YtnlhokfhkohdpaaGreat
open Go.RowKit

/-- What follows, where a region ends as usual. -/
def onlyN (Q : Exit → Act → World → Prop) : Exit → Act → World → Prop
  | .normal, a, w => Q .normal a w
  | _, _, _ => False

theorem onlyN_out {Q : Exit → Act → World → Prop} : ¬ LetsOut (onlyN Q) := fun ⟨_, _, h⟩ => h
theorem onlyN_le {Q : Exit → Act → World → Prop} : ∀ e a w, onlyN Q e a w → Q e a w := fun e a w h => by cases e <;> first | exact h | exact h.elim

def noDefer (ops : Array Oper) : Bool := ops.all fun o => match o.op with | .defer _ => false | _ => true

theorem oper_in_round {P : Program} {o : Oper} {a : Act} {w : World} {K K' : Act → World → Prop} {Q : Exit → Act → World → Prop} (l n : Nat) (hK : ∀ a w, K a w → K' a w) (hd : ∀ c, o.op ≠ .defer c) (h : o.wp P a w K (onlyN Q)) : o.wpIn (Fence.wide.inRound l) n P a w K' (onlyN Q) := by
  unfold Oper.wp at h
  refine ⟨fun _ _ => trivial, ?_⟩
  rw [show (Fence.wide.inRound l).round = some l from rfl, Oper.semAt_some l _ _ hd]
  generalize (execOp a.eval o).run P w = r at *
  cases r with
  | ok x w' =>
    cases x <;> simp only [Oper.upon] at h <;> simp only [Oper.uponIn]
    case value u => exact hK _ _ h
    case skip => exact hK _ _ h
    case defer d => exact hK _ _ h
    case enter f args =>
      refine ⟨(fun h => absurd h (by simp [Fence.wide])), ?_⟩
      refine (CallsIn.inRound l (callsIn_wide.2 h)).mono ?_
      intro e w2 hq
      cases e with
      | returned v => exact hK _ _ hq
      | panicked c => exact hq
      | outgrown => exact hq
    case row row args =>
      refine ⟨(fun h => absurd h (by simp [Fence.wide])), ?_⟩
      exact fun c cs _ => let ⟨v, w', r, s⟩ := h c cs; ⟨v, w', hK _ _ r, stepsIn_wide.2 s⟩
  | halt x w' => cases x <;> simp only [Oper.upon] at h <;> exact h

theorem any_in_round {P : Program} {md : Region.Mode} {ops : Array Oper} {Q : Exit → Act → World → Prop} (l n : Nat) (hd : noDefer ops = true) : ∀ (fuel : Nat) (listed : Array Bool) (a : Act) (w : World),
    wpAny P md ops (onlyN Q) fuel listed a w → wpAnyIn (Fence.wide.inRound l) n P md ops (onlyN Q) fuel listed a w
  | 0, _, _, _, h => h
  | fuel + 1, listed, a, w, h => by
    refine ⟨h.1, fun i hi => ?_⟩
    have h2 := h.2 i hi
    unfold wpOp at h2
    unfold wpOpIn
    split
    · rename_i ho
      simp only [ho] at h2
      exact any_in_round l n hd fuel _ _ _ h2
    · rename_i o ho
      simp only [ho] at h2
      split
      · rename_i hw
        simp only [hw, if_true] at h2
        rcases h2 with h2 | h2
        · refine oper_in_round l n (fun a w => any_in_round l n hd fuel _ a w) (fun c e => ?_) h2
          have := Array.all_eq_true'.1 hd o (Array.mem_of_getElem? ho)
          rw [e] at this
          cases this
        · exact absurd h2.2 onlyN_out
      · rename_i hw
        simp only [hw] at h2
        exact ⟨fun _ _ => trivial, any_in_round l n hd fuel _ _ _ h2⟩

theorem wpIn_region_tail {P : Program} {id l m : Nat} {Q : Exit → Act → World → Prop} {a : Act} {w : World} {os : List Oper} (n : Nat) (hm : P.follows .mixedOrders = true) (hB : Region.lexTailB .any os.toArray n = true) (hd : noDefer os.toArray = true)
    (h : wpStill P os.toArray w.drew (fun a' => wpList P os.toArray (onlyN Q) (os.drop n) a' w.drew) (os.take n) a) : (Code.region id os.toArray true).wpIn (Fence.wide.inRound l) m P Q a w := by
  refine Code.wpIn_mono onlyN_le (wpIn_region_any hm (any_in_round l m hd _ _ _ _ ?_))
  simp only [Region.lexTailB, Bool.and_eq_true, decide_eq_true_eq] at hB
  obtain ⟨⟨⟨⟨hsel, hn⟩, hs⟩, hc⟩, hlex⟩ := hB
  have h1 : n < os.length := by simpa using hn
  have h2 : (os.take n).length = n := by rw [List.length_take]; omega
  have h3 : (os.drop n).length = os.toArray.size - n := by simp
  have i0 : HeadInv .any os.toArray n (Array.replicate os.toArray.size false) :=
    ⟨by simp, fun j oj _ hl => absurd hl (by rw [getD_replicate_false]; simp), fun t _ ht => getD_in (by simpa using ht) (getD_replicate_false _ _)⟩
  have H := wpAnyL_lex (P := P) (w := w.drew) (md := .any) (g := os.toArray.size - n) hsel hs hc hn (os.take n) 0 _ a (fun j hj => by
    rw [h2] at hj
    simp [hj]) (by simpa using h2) i0 (by rw [h2]; exact hlex) h
  have H2 := wpAny_of_head (Q' := onlyN Q) (g := os.toArray.size - n) (fun listed a' hL => by
    have := wpAny_of_seq (md := .any) (Q' := onlyN Q) (os.drop n) n listed a' w.drew (fun j => by simp [List.getElem?_drop]) (by rw [h3]; exact hL.1) hL.2
    rwa [h3] at this) _ _ _ H
  rw [h2, show n + (os.toArray.size - n) = os.toArray.size by omega] at H2
  exact H2

end Go.Proofs.YtnlhokfhkohdpaaGreat

namespace Go.Proofs.YtnlhokfhkohdpaaGreat
open Go.RowKit Go.Shelf

theorem rs_take_le (l : List Int) (i : Nat) : (rs 0 (l.take i)).length ≤ (rs 0 l).length := by
  conv => rhs; rw [← List.take_append_drop i l, rs_append, List.length_append]
  omega
theorem ors_take_le (l : List Int) (i : Nat) : (ors 0 (l.take i)).length ≤ (ors 0 l).length := by
  conv => rhs; rw [← List.take_append_drop i l, ors_append, List.length_append]
  omega

set_option maxRecDepth 100000 in
set_option maxHeartbeats 2000000 in
theorem rare_any (w : World) (y : Nat) (A : Option Addr) (l : List Int) (N c : Nat) (hN : l.length = N) (hv : Vt y l) (hR : Ri w A l) :
    Calls Tryz.prog 88 #[.slice A N c] w fun e w' => ∃ A' r c', e = .returned (.slice A' r c') ∧ w'.ownsRow w.heap.size 3 1 (.slice A' r c') r ((rs 0 l).map nv) ∧ Below w.heap.size w w' := by
  have hN2 : N ≤ 256 := by rw [← hN]; exact hv.len
  have HT : Hid (∀ i, (rs 0 (l.take i)).length ≤ 512) := Lib.hid (fun i => by have h1 := rs_take_le l i; have h2 := hv.total; have h3 := hv.size; omega)
  have HN := Lib.hid hN
  have HR := Lib.hid hR
  clear hN hR hv
  go_enter Tryz.func88, Tryz.ntmps88
  go_wp2
  go_loopw [3, 8] (fun v p wr => ∃ (i r c' : Nat) (A' : Option Addr), i ≤ N ∧ r ≤ 512 ∧ p = .int .i64 (i : Int) ∧ v = .slice A' r c' ∧ Hid (wr.ownsRow w.heap.size 3 1 (.slice A' r c') r ((rs 0 (l.take i)).map nv)) ∧ Hid (Below w.heap.size w wr)) (fun _ p _ => N - (intOf p).toNat)
  case atStart => exact ⟨0, 0, 0, none, Nat.zero_le _, Nat.zero_le _, rfl, rfl, Lib.hid (own_nil _ _), Lib.hid (Below.refl _ _)⟩
  case round =>
    obtain ⟨i, r, c', A', hi, hr, rfl, rfl, HO, HB⟩ := hrel
    by_cases hlt : i < N
    · obtain ⟨x, hx⟩ : ∃ x, l[i]? = some x := ⟨_, List.getElem?_eq_getElem (by rw [HN.out]; exact hlt)⟩
      obtain ⟨ad, rfl, hc0⟩ := HR.out i (iv x) (by rw [List.getElem?_map, hx]; rfl)
      have hc := (HB.out.cell (cell_lt hc0)).trans hc0
      simp only [iv] at hc
      have HS := Lib.hid (rs_step hx)
      clear hc0 hx
      by_cases h1 : x = -1
      · subst h1
        have HQ : Hid ((rs 0 (l.take i)).map nv ++ [.int .i64 (i : Int)] = (rs 0 (l.take (i + 1))).map nv) := Lib.hid (by rw [HS.out]; simp)
        have hrl : Hid (r + 1 ≤ 512) := Lib.hid (by
          have h1 := HT.out (i + 1)
          have h2 := HO.out.1
          rw [HS.out] at h1
          simp at h1 h2
          omega)
        have H1 := Lib.hid (One.mk' (i : Int) HO.out HB.out)
        clear HS HB
        go_wp2_with (at_builtin; refine wpList_append_vals Tryz.underlying24 int_info rfl rfl _ _ rfl w.heap.size (.slice A' r c') r ((rs 0 (l.take i)).map nv) rfl H1.out.own (some ⟨wr.heap.size, 0, none⟩) [.int .i64 (i : Int)] (by simp [Value.oneCell']) 1 1 rfl rfl H1.out.rd (by omega) (by omega) H1.out.size ?_; intro v5 w5 ho5 hg5 he5; obtain ⟨A5, c5, rfl, hc5⟩ := own_form ho5; have O5 := Lib.hid ho5; have B5 := Lib.hid (H1.out.grown hg5); clear ho5 hg5 he5)
        exact ⟨⟨i + 1, r + 1, c5, A5, by omega, hrl.out, by simp, rfl, Lib.hid (by rw [← HQ.out]; exact O5.out), B5⟩, by simp [intOf]; omega⟩
      · have e1 : (x == -1) = false := by simp [h1]
        have HQ : Hid (rs 0 (l.take (i + 1)) = rs 0 (l.take i)) := Lib.hid (by rw [HS.out, if_neg h1, List.append_nil])
        clear HS h1
        go_wp2
        exact ⟨⟨i + 1, r, c', A', by omega, hr, by simp, rfl, Lib.hid (by rw [HQ.out]; exact HO.out), HB⟩, by simp [intOf]; omega⟩
    · have HE : Hid (l.take i = l) := Lib.hid (List.take_of_length_le (by rw [HN.out]; omega))
      go_wp2
      go_ret
      exact ⟨A', r, c', rfl, by have := HO.out; rwa [HE.out] at this, HB.out⟩

set_option maxRecDepth 100000 in
set_option maxHeartbeats 2000000 in
theorem other_any (w : World) (y : Nat) (A : Option Addr) (l : List Int) (N c : Nat) (hN : l.length = N) (hv : Vt y l) (hR : Ri w A l) :
    Calls Tryz.prog 90 #[.slice A N c] w fun e w' => ∃ A' r c', e = .returned (.slice A' r c') ∧ w'.ownsRow w.heap.size 3 1 (.slice A' r c') r ((ors 0 l).map nv) ∧ Below w.heap.size w w' := by
  have hN2 : N ≤ 256 := by rw [← hN]; exact hv.len
  have HT : Hid (∀ i, (ors 0 (l.take i)).length ≤ 512) := Lib.hid (fun i => by have h1 := ors_take_le l i; have h2 := hv.total; have h3 := hv.size; omega)
  have HN := Lib.hid hN
  have HR := Lib.hid hR
  clear hN hR hv
  go_enter Tryz.func90, Tryz.ntmps90
  go_wp2
  go_loopw [3, 8] (fun v p wr => ∃ (i r c' : Nat) (A' : Option Addr), i ≤ N ∧ r ≤ 512 ∧ p = .int .i64 (i : Int) ∧ v = .slice A' r c' ∧ Hid (wr.ownsRow w.heap.size 3 1 (.slice A' r c') r ((ors 0 (l.take i)).map nv)) ∧ Hid (Below w.heap.size w wr)) (fun _ p _ => N - (intOf p).toNat)
  case atStart => exact ⟨0, 0, 0, none, Nat.zero_le _, Nat.zero_le _, rfl, rfl, Lib.hid (own_nil _ _), Lib.hid (Below.refl _ _)⟩
  case round =>
    obtain ⟨i, r, c', A', hi, hr, rfl, rfl, HO, HB⟩ := hrel
    by_cases hlt : i < N
    · obtain ⟨x, hx⟩ : ∃ x, l[i]? = some x := ⟨_, List.getElem?_eq_getElem (by rw [HN.out]; exact hlt)⟩
      obtain ⟨ad, rfl, hc0⟩ := HR.out i (iv x) (by rw [List.getElem?_map, hx]; rfl)
      have hc := (HB.out.cell (cell_lt hc0)).trans hc0
      simp only [iv] at hc
      have HS := Lib.hid (ors_step hx)
      clear hc0 hx
      by_cases h1 : x ≤ 0
      · have HQ : Hid (ors 0 (l.take (i + 1)) = ors 0 (l.take i)) := Lib.hid (by rw [HS.out, show x.toNat = 0 by omega]; simp)
        have e1 : decide (0 < x) = false := decide_eq_false (by omega)
        clear HS
        go_wp2
        go_loopw [3, 14] (fun v p wr2 => v = .slice A' r c' ∧ p = .int .i64 0 ∧ wr2 = wr) (fun _ _ _ => 0)
        case atStart => exact ⟨rfl, rfl, rfl⟩
        case round =>
          obtain ⟨rfl, rfl, rfl⟩ := hrel
          go_wp2
          exact ⟨⟨i + 1, r, c', A', by omega, hr, by simp, rfl, Lib.hid (by rw [HQ.out]; exact HO.out), HB⟩, by simp [intOf]; omega⟩
      · obtain ⟨q, rfl⟩ : ∃ q : Nat, x = (q : Int) := ⟨x.toNat, by omega⟩
        have hq : Hid (r + q ≤ 512) := Lib.hid (by
          have h1 := HT.out (i + 1)
          have h2 := HO.out.1
          rw [HS.out] at h1
          simp at h1 h2
          omega)
        have hq5 : q ≤ 512 := by have := hq.out; omega
        have HQ : Hid (ors 0 (l.take (i + 1)) = ors 0 (l.take i) ++ List.replicate q i) := Lib.hid (by rw [HS.out, Int.toNat_natCast])
        clear HS h1
        go_wp2
        go_loopw [3, 14] (fun v p wr2 => ∃ (j r2 c2 : Nat) (A2 : Option Addr), j ≤ q ∧ r2 ≤ 512 ∧ p = .int .i64 (j : Int) ∧ v = .slice A2 r2 c2 ∧ Hid (r2 = r + j) ∧ Hid (wr2.ownsRow w.heap.size 3 1 (.slice A2 r2 c2) r2 ((ors 0 (l.take i) ++ List.replicate j i).map nv)) ∧ Hid (Below w.heap.size w wr2)) (fun _ p _ => q - (intOf p).toNat)
        case atStart => exact ⟨0, r, c', A', Nat.zero_le _, hr, rfl, rfl, Lib.hid rfl, Lib.hid (by simpa using HO.out), HB⟩
        case round =>
          obtain ⟨j, r2, c2, A2, hj, hr2, rfl, rfl, HE2, HO2, HB2⟩ := hrel
          by_cases hjq : j < q
          · have hr3 : Hid (r2 + 1 ≤ 512) := Lib.hid (by have h1 := hq.out; have h2 := HE2.out; omega)
            have HE3 : Hid (r2 + 1 = r + (j + 1)) := Lib.hid (by have h2 := HE2.out; omega)
            have HQ2 : Hid ((ors 0 (l.take i) ++ List.replicate j i).map nv ++ [.int .i64 (i : Int)] = (ors 0 (l.take i) ++ List.replicate (j + 1) i).map nv) := Lib.hid (by rw [List.replicate_succ']; simp)
            have H1 := Lib.hid (One.mk' (i : Int) HO2.out HB2.out)
            clear HB2 HE2
            go_wp2_with (at_builtin; refine wpList_append_vals Tryz.underlying24 int_info rfl rfl _ _ rfl w.heap.size (.slice A2 r2 c2) r2 ((ors 0 (l.take i) ++ List.replicate j i).map nv) rfl H1.out.own (some ⟨wr.heap.size, 0, none⟩) [.int .i64 (i : Int)] (by simp [Value.oneCell']) 1 1 rfl rfl H1.out.rd (by omega) (by omega) H1.out.size ?_; intro v5 w5 ho5 hg5 he5; obtain ⟨A5, c5, rfl, hc5⟩ := own_form ho5; have O5 := Lib.hid ho5; have B5 := Lib.hid (H1.out.grown hg5); clear ho5 hg5 he5)
            exact ⟨⟨j + 1, r2 + 1, c5, A5, by omega, hr3.out, by simp, rfl, HE3, Lib.hid (by rw [← HQ2.out]; exact O5.out), B5⟩, by simp [intOf]; omega⟩
          · have HJ : Hid (j = q) := Lib.hid (by omega)
            go_wp2
            exact ⟨⟨i + 1, r2, c2, A2, by omega, hr2, by simp, rfl, Lib.hid (by rw [HQ.out, ← HJ.out]; exact HO2.out), HB2⟩, by simp [intOf]; omega⟩
    · have HE : Hid (l.take i = l) := Lib.hid (List.take_of_length_le (by rw [HN.out]; omega))
      go_wp2
      go_ret
      exact ⟨A', r, c', rfl, by have := HO.out; rwa [HE.out] at this, HB.out⟩

end Go.Proofs.YtnlhokfhkohdpaaGreat

namespace Go.Proofs.YtnlhokfhkohdpaaGreat
open Go.RowKit Go.Shelf

set_option maxRecDepth 100000 in
set_option maxHeartbeats 2000000 in
theorem top_any (w : World) (b s : Nat) (A : Option Addr) (k : List Nat) (N c : Nat) (hN : k.length = N) (hs : s ≤ 512) (hNs : N ≤ s) (hk : ∀ x ∈ k, x ≤ 1000) (hm : Mp w b 0 (fun _ => none)) (hR : Rn w A k) (hA : ∀ ad, A = some ad → ad.block ≠ b) :
    Calls Tryz.prog 87 #[.map (some b), .int .i64 (s : Int), .slice A N c] w fun e w' => e = .returned (.tuple #[]) ∧ Mp w' b N (m0 s k) ∧ w.grownBy w' (some b) := by
  have HN := Lib.hid hN
  have HR := Lib.hid hR
  have HA := Lib.hid hA
  have HK := Lib.hid hk
  have HM := Lib.hid hm
  clear hN hR hA hk hm
  go_enter Tryz.func87, Tryz.ntmps87
  go_wp2
  go_loopw [10] (fun p wr => ∃ i : Nat, i ≤ N ∧ p = .int .i64 (i : Int) ∧ Hid (Mp wr b i (m0 s (k.take i))) ∧ Hid (w.grownBy wr (some b))) (fun p _ => N - (intOf p).toNat)
  case atStart => exact ⟨0, Nat.zero_le _, rfl, Lib.hid (by rw [List.take_zero, m0_nil]; exact HM.out), Lib.hid (World.grownBy.refl _ _)⟩
  case round =>
    obtain ⟨i, hi, rfl, HI, HG⟩ := hrel
    by_cases hlt : i < N
    · obtain ⟨x, hx⟩ : ∃ x, k[i]? = some x := ⟨_, List.getElem?_eq_getElem (by rw [HN.out]; exact hlt)⟩
      obtain ⟨ad, hA, hc0⟩ := HR.out i (nv x) (by rw [List.getElem?_map, hx]; rfl)
      have hc : wr.cell? (ad.add i) = some (.int .i64 (x : Int)) := by
        rw [← hc0]
        exact World.cell?_of_block (HG.out.block _ (cell_lt hc0) (by rw [addr_add_block]; exact fun e => HA.out ad hA (Option.some.inj e)))
      subst hA
      have hxb : x ≤ 1000 := HK.out x (List.mem_of_getElem? hx)
      obtain ⟨w1, hrun, hm1, hg1⟩ := HI.out.store (i := s - 1 - i) (x := x) (by omega) (by omega) (by omega)
      rw [m0_step (by omega) hx] at hm1
      have he : (s : Int) - 1 - (i : Int) = ((s - 1 - i : Nat) : Int) := by omega
      obtain ⟨q, hq⟩ : ∃ q, s - 1 - i = q := ⟨_, rfl⟩
      rw [hq] at hrun he
      have hqb : q ≤ 512 := by omega
      have M1 := Lib.hid hm1
      have G1 := Lib.hid (grown_trans HG.out hg1)
      clear hc0 hx hm1 hg1 hq
      go_wp2
      exact ⟨⟨i + 1, by omega, by simp, M1, G1⟩, by simp [intOf]; omega⟩
    · have HE : Hid (i = N) := Lib.hid (by omega)
      go_wp2
      go_end0
      refine ⟨rfl, ?_, HG.out⟩
      have := HI.out
      rw [HE.out, List.take_of_length_le (by rw [HN.out]; exact Nat.le_refl _)] at this
      exact this

/-- The symbols of the first i indices; what is behind them is 0. -/
def lis (m : Nat → Option Nat) (s i : Nat) : List Nat := (List.range s).map (fun j => if j < i then (m j).getD 0 else 0)
theorem lis_zero (m : Nat → Option Nat) (s : Nat) : lis m s 0 = List.replicate s 0 := by
  refine List.ext_getElem? fun j => ?_
  rcases Nat.lt_or_ge j s with h | h
  · simp [lis, h]
  · simp [lis, h]
theorem lis_set (m : Nat → Option Nat) (s i : Nat) : (lis m s i).set i ((m i).getD 0) = lis m s (i + 1) := by
  refine List.ext_getElem? fun j => ?_
  rw [List.getElem?_set]
  rcases Nat.lt_or_ge j s with h | h
  · by_cases hij : i = j
    · subst hij
      simp [lis, h]
    · have h3 : (j < i + 1) = (j < i) := by apply propext; omega
      simp [lis, h, hij, h3]
  · have h2 : (lis m s (i + 1))[j]? = none := List.getElem?_eq_none (by simp [lis]; exact h)
    rw [h2]
    split
    · rw [if_neg (by simp [lis]; omega)]
    · exact List.getElem?_eq_none (by simp [lis]; exact h)
theorem lis_all (m : Nat → Option Nat) (s : Nat) : lis m s s = (List.range s).map (fun j => (m j).getD 0) := by
  refine List.map_congr_left fun j hj => ?_
  rw [if_pos (List.mem_range.1 hj)]

set_option maxRecDepth 100000 in
set_option maxHeartbeats 2000000 in
theorem list_any (w : World) (b s n : Nat) (m : Nat → Option Nat) (hs : s ≤ 512) (hm : Mp w b n m) :
    Calls Tryz.prog 91 #[.map (some b), .int .i64 (s : Int)] w fun e w' => ∃ g, e = .returned (.slice (some ⟨g, 0, none⟩) s s) ∧ w'.ownsRow w.heap.size 3 1 (.slice (some ⟨g, 0, none⟩) s s) s (((List.range s).map (fun j => (m j).getD 0)).map nv) ∧ Below w.heap.size w w' := by
  obtain ⟨w1, mk, ho1, hb1⟩ := make_ints s (by omega) w
  have e0 : (List.replicate s (0 : Int)).map iv = (lis m s 0).map nv := by rw [lis_zero]; simp
  rw [e0] at ho1
  obtain ⟨g, hg⟩ : ∃ g, w.heap.size = g := ⟨_, rfl⟩
  have HW : Hid (w.heap.size = g) := Lib.hid hg
  rw [hg] at mk ho1
  have O1 := Lib.hid ho1
  have B1 := Lib.hid hb1
  have HM := Lib.hid hm
  clear ho1 hb1 hm hg
  go_enter Tryz.func91, Tryz.ntmps91
  go_wp2
  go_loopw [11] (fun p wr => ∃ i : Nat, i ≤ s ∧ p = .int .i64 (i : Int) ∧ Hid (wr.ownsRow g 3 1 (.slice (some ⟨g, 0, none⟩) s s) s ((lis m s i).map nv)) ∧ Hid (Below w.heap.size w wr)) (fun p _ => s - (intOf p).toNat)
  case atStart => exact ⟨0, Nat.zero_le _, rfl, O1, B1⟩
  case round =>
    obtain ⟨i, hi, rfl, HO, HB⟩ := hrel
    by_cases hlt : i < s
    · have hlk := (HM.out.below HB.out).look (i := i) (by omega)
      obtain ⟨x, hx⟩ : ∃ x, (m i).getD 0 = x := ⟨_, rfl⟩
      rw [hx] at hlk
      obtain ⟨w2, hw2⟩ : ∃ w2, wr.setCell ⟨g, i, none⟩ (.int .i64 (x : Int)) = w2 := ⟨_, rfl⟩
      have O2 : Hid (w2.ownsRow g 3 1 (.slice (some ⟨g, 0, none⟩) s s) s ((lis m s (i + 1)).map nv)) := Lib.hid (by
        rw [← hw2, ← lis_set, hx, List.map_set]
        exact (HO.out.stored i _).1)
      have B2 : Hid (Below w.heap.size w w2) := Lib.hid (by
        rw [← hw2]
        exact HB.out.setCell (p := ⟨g, i, none⟩) (by rw [HW.out]; exact Nat.le_refl _) _)
      have hce : wr.cell? ⟨g, i, none⟩ = some (.int .i64 (((if i < i then (m i).getD 0 else 0 : Nat) : Nat) : Int)) := by
        rw [HO.out.cellAt i (by omega), List.getElem?_map]
        simp [lis, hlt]
      have hfr := HO.out.frozenAt i
      clear hx
      go_wp2
      exact ⟨⟨i + 1, by omega, by simp, O2, B2⟩, by simp [intOf]; omega⟩
    · have HE : Hid (i = s) := Lib.hid (by omega)
      go_wp2
      go_ret
      refine ⟨g, rfl, ?_, HB.out⟩
      have := HO.out
      rw [HE.out, lis_all] at this
      rw [HW.out]
      exact this

end Go.Proofs.YtnlhokfhkohdpaaGreat

namespace Go.Proofs.YtnlhokfhkohdpaaGreat
open Go.RowKit Go.Shelf

attribute [local go_sem] Oper.semAt_some

set_option maxHeartbeats 400000 in
theorem visits_in (n s : Nat) (w : World) :
    CallsIn Fence.wide n Tryz.prog 102 #[.int .i64 (s : Int)] w fun e w' => e = .returned (.func (.func 105) #[] #[.pointer (some ⟨w.heap.size, 0, none⟩)]) ∧ w' = w.alloc (.cells #[.int .i64 (s : Int)] 3) := by
  refine callsIn_of_wp Tryz.func102 rfl trivial ?_ rfl
  simp only [Tryz.ntmps102, List.size_toArray, List.length_cons, List.length_nil, Nat.reduceAdd, Nat.reduceSub, Array.replicate_succ, Array.replicate_zero, List.push_toArray, List.append_toArray, List.nil_append, List.cons_append]
  gi_wp2
  go_ret
  exact ⟨rfl, rfl⟩

/-- The j-th index. -/
def idxAt (s j : Nat) : Array Value := #[nv (vi s j)]
def KpV (s Bs : Nat) (W : World) : Prop := Boxed W Bs 3 (.int .i64 (s : Int))

set_option maxRecDepth 100000 in
set_option maxHeartbeats 2000000 in
theorem visits1_hands (n : Nat) (hn : 2 ≤ n) (s Bs : Nat) (h1 : 1 ≤ s) (hs : s ≤ 512) :
    Hands Fence.wide n Tryz.prog 105 #[.pointer (some ⟨Bs, 0, none⟩)] s (idxAt s) (KpV s Bs) := by
  intro l I X W hI hX hKp hY h0
  refine callsIn_of_wp Tryz.func105 rfl trivial ?_ rfl
  simp only [Tryz.ntmps105, List.size_toArray, List.length_cons, List.length_nil, Nat.reduceAdd, Nat.reduceSub, Array.replicate_succ, Array.replicate_zero, List.push_toArray, List.append_toArray, List.nil_append, List.cons_append]
  have hfw : ∀ f, Fence.wide.fn f := fun _ => trivial
  have hmx : Tryz.prog.follows .mixedOrders = true := by kernel_rfl
  have hn1 : 1 ≤ n := by omega
  have HY := Lib.hid hY
  have HK := Lib.hid hKp
  have HI := Lib.hid hI
  have H0 := Lib.hid h0
  have c0 := (hKp 0 W h0).cell
  obtain ⟨p, hp⟩ : ∃ p, stp s = p := ⟨_, rfl⟩
  have ST : Hid (CallsIn Fence.wide (n - 1) Tryz.prog 106 #[.int .i64 (s : Int)] W fun e w' => e = .returned (.int .i64 (p : Int)) ∧ w' = W) := Lib.hid (callsIn_wide.2 (by
    have := step_any W (s : Int)
    rw [stz_nat hs, hp] at this
    exact this))
  have hpb : p ≤ 1000 := by rw [← hp]; exact stp_le hs
  have HP := Lib.hid hp
  have c1 : W.drew.cell? ⟨Bs, 0, none⟩ = some (.int .i64 (s : Int)) := c0
  clear hY hKp hI hX h0 hp
  gi_wp2_with (gi_at_call 106; refine ST.out.mono ?_; rintro e w' ⟨rfl, rfl⟩)
  gi_region
  all_goals
    clear c0 c1
    gi_wp2
    gi_loopw [4, 5] (fun v u wr => ∃ j q t : Nat, j ≤ s ∧ t < s ∧ v = .int .i64 (t : Int) ∧ u = .int .i64 (q : Int) ∧ q + j = s ∧ Hid (t = vi s j) ∧ Hid (I j wr))
      (fun _ u _ => (intOf u).toNat)
    case atStart =>
      exact ⟨0, s, 0, Nat.zero_le _, h1, rfl, rfl, rfl, Lib.hid (vi_zero s).symm, Lib.hid (HI.out _ _ 1 H0.out)⟩
    case round =>
      obtain ⟨j, q, t, hj, ht, rfl, rfl, hq, HT, HJ⟩ := hrel
      by_cases hlt : j < s
      · obtain ⟨fn, tmps, assign, body, hy, hR⟩ := HY.out j wr hlt HJ.out
        unfold idxAt at hy
        rw [← HT.out] at hy
        simp only [nv] at hy
        have HR := Lib.hid hR
        have hd : decide ((0 : Int) < (q : Int)) = true := decide_eq_true (by omega)
        obtain ⟨t2, ht2⟩ : ∃ t2, vi s (j + 1) = t2 := ⟨_, rfl⟩
        have ht2s : t2 < s := by rw [← ht2]; exact vi_lt (by omega) _
        have hmod : ((t : Int) + (p : Int)) % (s : Int) = (t2 : Int) := by
          rw [← ht2, ← vi_next, ← HT.out, HP.out, Int.natCast_emod, Int.natCast_add]
        have hmod2 : Int.tmod ((t : Int) + (p : Int)) (s : Int) = (t2 : Int) := by
          rw [Int.tmod_eq_emod_of_nonneg (by omega)]
          exact hmod
        have hs0 : ¬ (s : Int) = 0 := by omega
        have HT2 : Hid (t2 = vi s (j + 1)) := Lib.hid ht2.symm
        clear hR HY ht2
        gi_wp2
        refine HR.out.mono ?_
        rintro e W3 (⟨rfl, hI3⟩ | ⟨rfl, hX3⟩)
        · have c3 := (HK.out _ _ hI3).cell
          have H3 := Lib.hid hI3
          clear hI3
          gi_wp2
          exact ⟨⟨j + 1, q - 1, t2, by omega, ht2s, by simp, by simp; omega, by omega, HT2, H3⟩, by simp [intOf]; omega⟩
        · have H3 := Lib.hid hX3
          clear hX3
          gi_wp2
          go_end0
          exact ⟨⟨_, rfl⟩, .inr H3.out⟩
      · have hq0 : q = 0 := by omega
        subst hq0
        have HE : Hid (j = s) := Lib.hid (by omega)
        gi_wp2
        go_end0
        exact ⟨⟨_, rfl⟩, .inl (by rw [← HE.out]; exact HJ.out)⟩

end Go.Proofs.YtnlhokfhkohdpaaGreat

namespace Go.Proofs.YtnlhokfhkohdpaaGreat
open Go.RowKit Go.Shelf

attribute [local go_sem] Oper.semAt_some

theorem und_i : Tryz.prog.underlying 24 = some (.slice (Tryz.prog.elem 24)) := by kernel_rfl
theorem elem_i : Tryz.prog.elem 24 = 3 := by kernel_rfl
theorem size_i (W : World) : (sizeOf 3).run Tryz.prog W = .ok 1 W := by
  obtain ⟨i0, hi, _, hz1, _⟩ := info_parts int_info
  simp [sizeOf, typeInfo, hi, hz1]
/-- Where the rest of a slice begins. -/
def off (A : Option Addr) (c n : Nat) : Option Addr := if c = n then A else A.map (·.add n)
theorem slice_lo (A : Option Addr) (N c n : Nat) (h : n ≤ N) (W : World) : (Instr.slice 24 (.slice A N c) (some (.int .i64 (n : Int))) none none).run Tryz.prog W = .ok (.slice (off A c n) (N - n) (c - n)) W := by
  rw [run_slice_l _ _ _ _ _ und_i _ _ (by omega) (by omega), elem_i, size_i]
  simp [Result.andThen, sliced, off]
theorem off_rn {w : World} {A : Option Addr} {k : List Nat} {c n : Nat} (h : Rn w A k) (hc : k.length ≤ c) : Rn w (off A c n) (k.drop n) := by
  unfold off
  by_cases hcn : c = n
  · rw [if_pos hcn, List.drop_of_length_le (by omega)]
    exact Rv.nil _ _
  · rw [if_neg hcn]
    have := Rv.cut h n k.length
    rw [List.take_of_length_le (by simp), ← List.map_drop] at this
    exact this
theorem off_block {A : Option Addr} {c n : Nat} {ad : Addr} (h : off A c n = some ad) : ∃ ad', A = some ad' ∧ ad.block = ad'.block := by
  unfold off at h
  split at h
  · exact ⟨ad, h, rfl⟩
  · obtain ⟨a, ha, rfl⟩ := Option.map_eq_some_iff.1 h
    exact ⟨a, ha, addr_add_block _ _⟩
theorem below_put {B : Nat} {w W : World} (h : Below B w W) (l : Nat) (hl : B ≤ l) (o : Obj) : Below B w (W.putObj l o) :=
  ⟨h.os, h.tape, h.output, by rw [World.putObj_size]; exact h.size, fun i hi => by rw [World.putObj_heap_other (by omega)]; exact h.block i hi⟩

/-- The state ahead of visit j: block b is the map, block x the variable that holds the rest of the symbols, whose row lies in an older block than B. -/
structure Sta (s : Nat) (F : Nat → Option Nat) (b x B j : Nat) (W : World) (n : Nat) (m : Nat → Option Nat) (r : List Nat) (A : Option Addr) (c : Nat) : Prop where
  mp : Mp W b n m
  le : n ≤ 512 + j
  box : Boxed W x 24 (.slice A r.length c)
  cap : r.length ≤ c
  row : Rn W A r
  apart : ∀ ad, A = some ad → ad.block < B ∧ ad.block ≠ b
  go : go ((vis s).drop j) m r = F
  ok : Ok ((vis s).drop j) m r
  small : ∀ z ∈ r, z ≤ 1000
def StaE (s : Nat) (F : Nat → Option Nat) (b x B j : Nat) (W : World) : Prop := ∃ n m r A c, Sta s F b x B j W n m r A c
theorem Sta.same {s : Nat} {F : Nat → Option Nat} {b x B j : Nat} {W W' : World} {n : Nat} {m : Nat → Option Nat} {r : List Nat} {A : Option Addr} {c : Nat} (h : Sta s F b x B j W n m r A c)
    (hb : W'.heap[b]? = W.heap[b]?) (hx : W'.heap[x]? = W.heap[x]?) (hB : ∀ k, k < B → k ≠ b → W'.heap[k]? = W.heap[k]?) : Sta s F b x B j W' n m r A c :=
  ⟨h.mp.same hb, h.le, hx.trans h.box, h.cap, h.row.same (fun ad e => hB _ (h.apart ad e).1 (h.apart ad e).2), h.apart, h.go, h.ok, h.small⟩
theorem vis_drop {s j : Nat} (h : j < s) : (vis s).drop j = vi s j :: (vis s).drop (j + 1) := by
  have hl : j < (vis s).length := by rw [vis_len]; exact h
  rw [List.drop_eq_getElem_cons hl]
  congr 1
  have := vis_get h
  rw [List.getElem?_eq_getElem hl] at this
  exact Option.some.inj this

set_option maxRecDepth 100000 in
set_option maxHeartbeats 2000000 in
theorem inv_in (n : Nat) (hn : 6 ≤ n) (w : World) (b s nn : Nat) (m : Nat → Option Nat) (k : List Nat) (A : Option Addr) (c : Nat) (h1 : 1 ≤ s) (hs : s ≤ 512) (hm : Mp w b nn m) (hnn : nn ≤ 512) (hR : Rn w A k) (hc : k.length ≤ c) (hA : ∀ ad, A = some ad → ad.block < w.heap.size ∧ ad.block ≠ b) (hk : ∀ z ∈ k, z ≤ 1000) (hok : Ok (vis s) m k) :
    CallsIn Fence.wide n Tryz.prog 89 #[.map (some b), .int .i64 (s : Int), .slice A k.length c] w fun e w' => e = .returned (.tuple #[]) ∧ (∃ n', Mp w' b n' (go (vis s) m k)) ∧ Chg (fun x => x = b) w w' := by
  obtain ⟨F, hF⟩ : ∃ F, go (vis s) m k = F := ⟨_, rfl⟩
  rw [hF]
  refine callsIn_of_wp_marks Tryz.func89 rfl trivial ?_ rfl
  simp only [Tryz.ntmps89, List.size_toArray, List.length_cons, List.length_nil, Nat.reduceAdd, Nat.reduceSub, Array.replicate_succ, Array.replicate_zero, List.push_toArray, List.append_toArray, List.nil_append, List.cons_append]
  have hfw : ∀ f, Fence.wide.fn f := fun _ => trivial
  have hn1 : 1 ≤ n := by omega
  gi_wp2_with (gi_at_call 102; refine (visits_in (n - 1) s _).mono ?_; rintro e w' ⟨rfl, rfl⟩)
  have ltb := hm.lt
  have b0 : Boxed (((w.alloc (.cells #[.map (some b)] 155)).alloc (.cells #[.slice A k.length c] 24)).alloc (.cells #[.int .i64 (s : Int)] 3)) w.heap.size 155 (.map (some b)) := ((Boxed.new w _ _).alloc _).alloc _
  have b1 : Boxed (((w.alloc (.cells #[.map (some b)] 155)).alloc (.cells #[.slice A k.length c] 24)).alloc (.cells #[.int .i64 (s : Int)] 3)) (w.heap.size + 1) 24 (.slice A k.length c) := by
    have := (Boxed.new (w.alloc (.cells #[.map (some b)] 155)) 24 (.slice A k.length c)).alloc (.cells #[.int .i64 (s : Int)] 3)
    rwa [World.size_alloc] at this
  have b2 : Boxed (((w.alloc (.cells #[.map (some b)] 155)).alloc (.cells #[.slice A k.length c] 24)).alloc (.cells #[.int .i64 (s : Int)] 3)) (w.heap.size + 1 + 1) 3 (.int .i64 (s : Int)) := by
    have := Boxed.new ((w.alloc (.cells #[.map (some b)] 155)).alloc (.cells #[.slice A k.length c] 24)) 3 (.int .i64 (s : Int))
    rwa [World.size_alloc, World.size_alloc] at this
  have g1 : Below w.heap.size w (((w.alloc (.cells #[.map (some b)] 155)).alloc (.cells #[.slice A k.length c] 24)).alloc (.cells #[.int .i64 (s : Int)] 3)) :=
    (((Below.refl _ w).alloc (Nat.le_refl _) _).alloc (by simp) _).alloc (by simp; omega) _
  generalize ((w.alloc (.cells #[.map (some b)] 155)).alloc (.cells #[.slice A k.length c] 24)).alloc (.cells #[.int .i64 (s : Int)] 3) = W1 at b0 b1 b2 g1 ⊢
  have lt2 := b2.lt
  have s1 : StaE s F b (w.heap.size + 1) w.heap.size 0 W1 :=
    ⟨nn, m, k, A, c, hm.below g1, by omega, b1, hc, hR.below g1, hA, hF, hok, hk⟩
  clear hF
  refine range_s rfl hn1 (gf := 105) (lb := #[.pointer (some ⟨w.heap.size + 1 + 1, 0, none⟩)]) rfl trivial (enters_of Tryz.func105 (by kernel_rfl) rfl)
    (N := s) (enc := idxAt s) (Kp := KpV s (w.heap.size + 1 + 1)) (fun _ => rfl) (visits1_hands (n - 1) (by omega) s _ h1 hs)
    (fun x => x = b ∨ x = w.heap.size + 1) (by omega) (by omega) (StaE s F b (w.heap.size + 1) w.heap.size) (fun _ _ => False)
    (fun j W W' hal ⟨n0, m0', r0, A0, c0, hp⟩ => ⟨n0, m0', r0, A0, c0, hp.same (hal _ (by omega) (by omega)) (hal _ (by omega) (by omega)) (fun q hq _ => hal _ (by omega) (by omega))⟩) (fun _ _ _ _ h => h)
    (fun j W hc2 _ => boxed_chg b2 hc2 (by omega)) s1
    (fun j => { tmps := #[Value.map (some b), Value.int .i64 (s : Int), Value.slice A k.length c, Value.pointer (some ⟨w.heap.size, 0, none⟩), undef, Value.pointer (some ⟨w.heap.size + 1, 0, none⟩), nv (vi s j), undef, undef,
          Value.int .i64 (s : Int), Value.func (Fn.func 105) #[] #[Value.pointer (some ⟨w.heap.size + 1 + 1, 0, none⟩)], nv (vi s j),
          undef, undef, undef, undef, undef, undef, undef, undef, undef, undef, undef, undef, undef, undef], defers := [] }) ?assign ?body ?done ?stop
  case assign =>
    intro l' j W2 K _ hK
    simp only [idxAt]
    gi_wp2
    simpa using hK
  case body =>
    rintro l' j W2 hj hg2 hs2 ⟨n0, m', r, A', c', hp2⟩
    have hd : 1 ≤ n - 1 - 1 := by omega
    have hmx : Tryz.prog.follows .mixedOrders = true := by kernel_rfl
    have c0 := (boxed_chg b0 hg2 (by omega)).cell
    have HG := Lib.hid hg2
    obtain ⟨t, ht⟩ : ∃ t, vi s j = t := ⟨_, rfl⟩
    have hts : t < s := by rw [← ht]; exact vi_lt (by omega) _
    have hlk := hp2.mp.look_ok (i := t) (by omega)
    have hdr := vis_drop hj
    rw [ht] at hdr
    simp only [nv, ht]
    have HV : Hid (0 = 0) := Lib.hid rfl
    cases hmt : m' t with
    | some z =>
      rw [hmt] at hlk
      simp only [Option.isSome_some, Option.getD_some] at hlk
      have HE : Hid (StaE s F b (w.heap.size + 1) w.heap.size (j + 1) W2) := Lib.hid ⟨n0, m', r, A', c', hp2.mp, by have := hp2.le; omega, hp2.box, hp2.cap, hp2.row, hp2.apart, by rw [← hp2.go, hdr, go_taken hmt], by have := hp2.ok; rw [hdr] at this; exact this.taken hmt, hp2.small⟩
      clear hp2 hg2 hmt hdr ht
      gi_wp2
      exact ⟨Chg.refl _ _, HE.out⟩
    | none =>
      rw [hmt] at hlk
      simp only [Option.isSome_none, Option.getD_none] at hlk
      have hok2 := hp2.ok
      rw [hdr] at hok2
      obtain ⟨z, r', rfl, hok3⟩ := hok2.free hmt
      obtain ⟨L, hL⟩ : ∃ L, r'.length = L := ⟨_, rfl⟩
      have hbx := hp2.box
      have hcap := hp2.cap
      rw [List.length_cons, hL] at hbx hcap
      obtain ⟨ad, rfl, hcz⟩ := hp2.row 0 (nv z) rfl
      have hzb : z ≤ 1000 := hp2.small z (by simp)
      have hle := hp2.le
      obtain ⟨W3, hst, hm3, hg3⟩ := Mp.store (w := W2.drew) (hp2.mp.same (w' := W2.drew) rfl) (i := t) (x := z) (by omega) (by omega) (by omega)
      have bx3 : Boxed W3 (w.heap.size + 1) 24 (.slice (some ad) (L + 1) c') := (hg3.block _ hbx.lt (fun e => by have := Option.some.inj e; omega)).trans hbx
      have cx3 := bx3.cell
      have fx3 := bx3.frozen
      obtain ⟨A4, hA4⟩ : ∃ A4, off (some ad) c' 1 = A4 := ⟨_, rfl⟩
      have sl : ∀ W, (Instr.slice 24 (.slice (some ad) (L + 1) c') (some (.int .i64 1)) none none).run Tryz.prog W = .ok (.slice A4 L (c' - 1)) W := fun W => by
        have := slice_lo (some ad) (L + 1) c' 1 (by omega) W
        rw [hA4, Nat.add_sub_cancel] at this
        exact this
      obtain ⟨W4, hW4⟩ : ∃ W4, W3.setCell ⟨w.heap.size + 1, 0, none⟩ (.slice A4 L (c' - 1)) = W4 := ⟨_, rfl⟩
      have hlt3 := hg3.size
      have HC : Hid (Chg (fun x => x = b ∨ x = w.heap.size + 1) W2 W4) := Lib.hid (by
        rw [← hW4]
        refine Chg.set ?_ _ (.inr rfl) _
        exact ⟨hg3.os, hg3.tape, hg3.output, hg3.size, fun q hq hnq => hg3.block q hq (fun e => hnq (.inl (Option.some.inj e)))⟩)
      have HE : Hid (StaE s F b (w.heap.size + 1) w.heap.size (j + 1) W4) := Lib.hid (by
        refine ⟨n0 + 1, upd m' t z, r', A4, c' - 1, ?_, by omega, ?_, by omega, ?_, ?_, ?_, hok3, fun q hq => hp2.small q (by simp [hq])⟩
        · rw [← hW4]; exact hm3.same (Below.heap_setCell _ _ _ _ (by show b ≠ w.heap.size + 1; omega))
        · rw [← hW4, hL]; exact bx3.set _
        · have h5 := off_rn (n := 1) hp2.row (by rw [List.length_cons, hL]; exact hcap)
          rw [hA4] at h5
          refine Rv.same h5 fun ad2 e2 => ?_
          rw [← hA4] at e2
          obtain ⟨ad3, e3, e4⟩ := off_block e2
          obtain ⟨q1, q2⟩ := hp2.apart ad3 e3
          rw [e4, ← hW4, Below.heap_setCell _ _ _ _ (by show ad3.block ≠ w.heap.size + 1; omega)]
          exact hg3.block _ (by have := HG.out.size; show ad3.block < W2.heap.size; omega) (fun e => q2 (Option.some.inj e))
        · intro ad2 e2
          rw [← hA4] at e2
          obtain ⟨ad3, e3, e4⟩ := off_block e2
          rw [e4]
          exact hp2.apart ad3 e3
        · rw [← hp2.go, hdr, go_free hmt])
      have cb := hbx.cell
      simp only [nv, Addr.add, if_true] at hcz
      clear hp2 hg2 hmt hdr ht hok2 hok3 bx3 hm3 hg3 hA4 hL hbx hle
      gi_wp2
      refine wpIn_region_tail 5 (by kernel_rfl) (by kernel_rfl) (by kernel_rfl) ?_
      simp only [List.take_succ_cons, List.take_zero, List.drop_succ_cons, List.drop_zero]
      have d0 : W2.drew.cell? ⟨w.heap.size, 0, none⟩ = some (.map (some b)) := c0
      have d1 : W2.drew.cell? ⟨w.heap.size + 1, 0, none⟩ = some (.slice (some ad) (L + 1) c') := cb
      have d2 : W2.drew.cell? ad = some (.int .i64 (z : Int)) := hcz
      clear c0 cb hcz
      still_step
      still_step
      still_step
      still_step
      still_step
      refine wpStill_nil ?_
      go_wp2
      rename_i hKK
      refine hKK _ _ ?_
      gi_wp2
      exact ⟨HC.out, HE.out⟩
  case done =>
    rintro W2 hK hg2 hs2 ⟨n0, m', r, A', c', hp2⟩
    have HK := Lib.hid hK
    have HF : Hid (Mp W2 b n0 F) := Lib.hid (by
      have h5 := hp2.go
      rw [List.drop_of_length_le (by rw [vis_len]; exact Nat.le_refl _)] at h5
      have h6 : m' = F := h5
      rw [← h6]
      exact hp2.mp)
    have HC : Hid (Chg (fun x => x = b) w W2) := Lib.hid ⟨hg2.os.trans g1.os, hg2.tape.trans g1.tape, hg2.output.trans g1.output, Nat.le_trans g1.size hg2.size, fun q hq hnq => (hg2.block q (by have := g1.size; omega) (fun e => by rcases e with e | e; exact hnq e; omega)).trans (g1.block q hq)⟩
    clear hK hg2 hp2
    gi_wp2
    refine ⟨by simp, .inl ⟨_, _, rfl, run_takeDeferred HK.out, ?_⟩⟩
    refine ⟨_, results_none rfl _ _ _, rfl, ⟨n0, HF.out.same (World.putObj_heap_other (by omega))⟩, ?_⟩
    exact HC.out.put _ (by omega) _
  case stop => exact fun _ _ _ _ _ h => h.elim

end Go.Proofs.YtnlhokfhkohdpaaGreat

namespace Go.Proofs.YtnlhokfhkohdpaaGreat
open Go.RowKit Go.Shelf

theorem own_base {w : World} {base base' : Nat} {e : TypeId} {v : Value} {n : Nat} {xs : List Value} (h : w.ownsRow base e 1 v n xs) (hb : base' ≤ base) : w.ownsRow base' e 1 v n xs := by
  refine ⟨h.1, ?_⟩
  rcases h.2 with h1 | ⟨g, c, cur, rfl, h2, h3⟩
  · exact .inl h1
  · exact .inr ⟨g, c, cur, rfl, Nat.le_trans hb h2, h3⟩
theorem own_addr {w : World} {base n c : Nat} {e : TypeId} {A : Option Addr} {xs : List Value} (h : w.ownsRow base e 1 (.slice A n c) n xs) : ∀ ad, A = some ad → base ≤ ad.block ∧ ad.block < w.heap.size := by
  intro ad e
  subst e
  rcases h.2 with ⟨h1, _⟩ | ⟨g, c, cur, h1, h2, h3, _⟩
  · cases h1
  · injection h1 with h1
    injection h1 with h1
    subst h1
    exact ⟨h2, (Array.getElem?_eq_some_iff.1 h3).1⟩
/-- A valid table. -/
theorem vt_iff {y : Int} {l : List Int} : vt y l 256 9 = true ↔ ∃ n : Nat, y = (n : Int) ∧ Vt n l := by
  unfold vt
  simp only [Bool.and_eq_true, decide_eq_true_iff]
  constructor
  · rintro ⟨⟨⟨⟨⟨⟨h1, h2⟩, h3⟩, h4⟩, h5⟩, h6⟩, h7⟩
    unfold fl at h7
    rw [Bool.and_eq_true, decide_eq_true_iff] at h7
    refine ⟨y.toNat, by omega, by omega, h4, by omega, h6, h7.1, ?_⟩
    rw [h7.2]
    exact (Int.natCast_pow 2 y.toNat).symm
  · rintro ⟨n, rfl, h⟩
    have h1 := h.log
    have h2 := h.len
    refine ⟨⟨⟨⟨⟨⟨by omega, by omega⟩, by omega⟩, h.pos⟩, by omega⟩, h.last⟩, ?_⟩
    unfold fl
    rw [Bool.and_eq_true, decide_eq_true_iff]
    refine ⟨h.ok, ?_⟩
    rw [h.sum, Int.toNat_natCast]
    exact Int.natCast_pow 2 n
theorem rs_small {y : Nat} {l : List Int} (h : Vt y l) : ∀ x ∈ rs 0 l, x ≤ 1000 := by
  intro x hx
  have := (List.getElem?_eq_some_iff.1 (rs_mem hx)).1
  have h2 := h.len
  omega
theorem ors_small {y : Nat} {l : List Int} (h : Vt y l) : ∀ x ∈ ors 0 l, x ≤ 1000 := by
  intro x hx
  obtain ⟨z, hz, _⟩ := ors_mem hx
  have := (List.getElem?_eq_some_iff.1 hz).1
  have h2 := h.len
  omega
theorem chg_below {w W : World} {b : Nat} (h : Chg (fun x => x = b) w W) {B : Nat} {w0 : World} (h0 : Below B w0 w) (hB : B ≤ w0.heap.size) (hb : B ≤ b) : Below B w0 W :=
  ⟨h.os.trans h0.os, h.tape.trans h0.tape, h.output.trans h0.output, Nat.le_trans h0.size h.size, fun k hk => (h.block k (by have := h0.size; omega) (fun (e : k = b) => by omega)).trans (h0.block k hk)⟩
theorem grown_chg {w W : World} {b : Nat} (h : w.grownBy W (some b)) : Chg (fun x => x = b) w W := ⟨h.os, h.tape, h.output, h.size, fun k hk hn => h.block k hk (fun e => hn (Option.some.inj e))⟩

set_option maxRecDepth 100000 in
set_option maxHeartbeats 4000000 in
theorem spread_ok (w : World) (y s : Nat) (A : Option Addr) (l : List Int) (N c : Nat) (hN : l.length = N) (hv : Vt y l) (hse : 2 ^ y = s) (hR : Ri w A l) :
    Calls Tryz.prog 65 #[tb y A N c] w fun e w' => ∃ g, e = .returned (.tuple #[.slice (some ⟨g, 0, none⟩) s s, .int .i64 0]) ∧ w'.ownsRow w.heap.size 3 1 (.slice (some ⟨g, 0, none⟩) s s) s ((spl s l).map nv) ∧ Below w.heap.size w w' := by
  have hN2 : N ≤ 256 := by rw [← hN]; exact hv.len
  have hy9 := hv.log
  have hs5 : s ≤ 512 := by rw [← hse]; exact hv.size
  have hs1 : 1 ≤ s := by rw [← hse]; exact Nat.one_le_two_pow
  have hvt : err (vt (y : Int) l 256 9) = 0 := by rw [vt_iff.2 ⟨y, rfl, hv⟩]; rfl
  have htot := hv.total
  have hst := hv.start
  rw [hse] at htot hst
  have b1 : Below w.heap.size w (w.alloc (.cells #[.int .i64 (y : Int), .slice A N c] 28)) := (Below.refl _ w).alloc (Nat.le_refl _) _
  have t1 := Tb.new w (y : Int) A N c
  obtain ⟨w1, hw1⟩ : ∃ w1, w.alloc (.cells #[.int .i64 (y : Int), .slice A N c] 28) = w1 := ⟨_, rfl⟩
  rw [hw1] at b1 t1
  have c0 := t1.c0
  have c1 := t1.c1
  have CH : Hid (Calls Tryz.prog 50 #[tb y A N c, .int .i64 256, .int .i64 9] w1 fun e w' => e = .returned (.int .i64 0) ∧ Below w1.heap.size w1 w') := Lib.hid (by
    have := check_any w1 (y : Int) 256 9 A l N c hN (by omega) (hR.below b1)
    rw [hvt] at this
    exact this)
  have RA : Hid (∀ W, Below w.heap.size w W → Calls Tryz.prog 88 #[.slice A N c] W fun e w' => ∃ A' r c', e = .returned (.slice A' r c') ∧ w'.ownsRow W.heap.size 3 1 (.slice A' r c') r ((rs 0 l).map nv) ∧ Below W.heap.size W w') := Lib.hid (fun W hb => rare_any W y A l N c hN hv (hR.below hb))
  have OA : Hid (∀ W, Below w.heap.size w W → Calls Tryz.prog 90 #[.slice A N c] W fun e w' => ∃ A' r c', e = .returned (.slice A' r c') ∧ w'.ownsRow W.heap.size 3 1 (.slice A' r c') r ((ors 0 l).map nv) ∧ Below W.heap.size W w') := Lib.hid (fun W hb => other_any W y A l N c hN hv (hR.below hb))
  have TP : Hid (∀ W base b A' r c', b < base → Mp W b 0 (fun _ => none) → W.ownsRow base 3 1 (.slice A' r c') r ((rs 0 l).map nv) → Calls Tryz.prog 87 #[.map (some b), .int .i64 (s : Int), .slice A' r c'] W fun e w' => e = .returned (.tuple #[]) ∧ (∃ n, n ≤ 512 ∧ Mp w' b n (m0 s (rs 0 l))) ∧ Chg (fun x => x = b) W w') := Lib.hid (fun W base b A' r c' hb hm ho => by
    have hr : (rs 0 l).length = r := by have := ho.1; simpa using this
    refine (top_any W b s A' (rs 0 l) r c' hr hs5 (by omega) (rs_small hv) hm (rn_own ho) (fun ad e => by have := (own_addr ho ad e).1; omega)).mono ?_
    rintro e w' ⟨rfl, hm', hg⟩
    exact ⟨rfl, ⟨r, by omega, hm'⟩, grown_chg hg⟩)
  have IV : Hid (∀ W base b n A' r c', b < base → n ≤ 512 → Mp W b n (m0 s (rs 0 l)) → W.ownsRow base 3 1 (.slice A' r c') r ((ors 0 l).map nv) → Calls Tryz.prog 89 #[.map (some b), .int .i64 (s : Int), .slice A' r c'] W fun e w' => e = .returned (.tuple #[]) ∧ (∃ n', Mp w' b n' (fin s l)) ∧ Chg (fun x => x = b) W w') := Lib.hid (fun W base b n A' r c' hb hn hm ho => by
    have hr : (ors 0 l).length = r := by have := ho.1; simpa using this
    obtain ⟨_, _, e1, hc⟩ := own_form ho
    injection e1 with _ _ e1
    have := inv_in 6 (Nat.le_refl _) W b s n (m0 s (rs 0 l)) (ors 0 l) A' c' hs1 hs5 hm hn (rn_own ho) (by omega) (fun ad e => by have := own_addr ho ad e; omega) (ors_small hv) hst
    rw [hr] at this
    exact callsIn_wide.1 this)
  have hsh : wrap64 (2 ^ y) = (s : Int) := pow_wrap hse hs5
  have kb : decide ((y : Int) < 0) = false := decide_eq_false (by omega)
  have B1 := Lib.hid b1
  have T1 := Lib.hid t1
  have hmm := @run_makeMap Tryz.prog
  have HS := Lib.hid hse
  clear b1 t1 hR hN hv hvt htot hst hse
  go_enter Tryz.func65, Tryz.ntmps65
  go_wp2_with (first
    | (go_at_call 50; refine CH.out.mono ?_; rintro e w2 ⟨rfl, hb2⟩; have q2 := T1.out.below hb2; have a0 := q2.c0; have a1 := q2.c1; have q3 := q2.below ((Below.refl _ w2).alloc (Nat.le_refl _) (.map #[] 0)); have a3 := q3.c1; have T3 := Lib.hid q3; have Z2 := Lib.hid q2.lt; have B2 := Lib.hid (below_on B1.out (Nat.le_refl _) hb2); clear hb2 q2 q3)
    | (go_at_call 88; refine (RA.out _ (below_on B2.out (Nat.le_refl _) ((Below.refl _ w2).alloc (Nat.le_refl _) (.map #[] 0)))).mono ?_; rintro e w4 ⟨A4, r4, c4, rfl, ho4, hb4⟩; have O4 := Lib.hid ho4; have M4 := Lib.hid ((Mp.made w2).below hb4); have B4 := Lib.hid (below_on (below_on B2.out (Nat.le_refl _) ((Below.refl _ w2).alloc (Nat.le_refl _) (.map #[] 0))) (Nat.le_refl _) hb4); have T4 := Lib.hid (T3.out.below hb4); clear ho4 hb4)
    | (go_at_call 87; refine (TP.out w4 _ w2.heap.size A4 r4 c4 (by simp) M4.out O4.out).mono ?_; rintro e w5 ⟨rfl, ⟨n5, hn5, hm5⟩, hg5⟩; have M5 := Lib.hid hm5; have q5 := T4.out.same (hg5.block _ T4.out.lt (Nat.ne_of_lt Z2.out)); have a5 := q5.c1; have B5 := Lib.hid (chg_below hg5 B4.out (Nat.le_refl _) (Nat.le_of_lt Z2.out)); clear hm5 hg5 q5)
    | (go_at_call 90; refine (OA.out w5 B5.out).mono ?_; rintro e w6 ⟨A6, r6, c6, rfl, ho6, hb6⟩; have O6 := Lib.hid ho6; have M6 := Lib.hid (M5.out.below hb6); have L5 := Lib.hid M5.out.lt; have B6 := Lib.hid (below_on B5.out (Nat.le_refl _) hb6); clear ho6 hb6)
    | (go_at_call 89; refine (IV.out w6 _ w2.heap.size n5 A6 r6 c6 L5.out hn5 M6.out O6.out).mono ?_; rintro e w7 ⟨rfl, ⟨n7, hm7⟩, hg7⟩; have M7 := Lib.hid hm7; have B7 := Lib.hid (chg_below hg7 B6.out (Nat.le_refl _) (Nat.le_of_lt Z2.out)); clear hm7 hg7)
    | (go_at_call 91; refine (list_any w7 w2.heap.size s n7 _ hs5 M7.out).mono ?_; rintro e w8 ⟨g, rfl, ho8, hb8⟩; have O8 := Lib.hid (own_base ho8 B7.out.size); have B8 := Lib.hid (below_on B7.out (Nat.le_refl _) hb8); clear ho8 hb8))
  go_ret2
  exact ⟨g, rfl, O8.out, B8.out⟩

set_option maxRecDepth 100000 in
set_option maxHeartbeats 4000000 in
theorem spread_bad (w : World) (y : Int) (A : Option Addr) (l : List Int) (N c : Nat) (hN : l.length = N) (hb : N ≤ 1000000) (hv : vt y l 256 9 = false) (hR : Ri w A l) :
    Calls Tryz.prog 65 #[tb y A N c] w fun e w' => e = .returned (.tuple #[.slice none 0 0, .int .i64 13]) ∧ Below w.heap.size w w' := by
  have b1 : Below w.heap.size w (w.alloc (.cells #[.int .i64 y, .slice A N c] 28)) := (Below.refl _ w).alloc (Nat.le_refl _) _
  have t1 := Tb.new w y A N c
  obtain ⟨w1, hw1⟩ : ∃ w1, w.alloc (.cells #[.int .i64 y, .slice A N c] 28) = w1 := ⟨_, rfl⟩
  rw [hw1] at b1 t1
  have c0 := t1.c0
  have c1 := t1.c1
  have CH : Hid (Calls Tryz.prog 50 #[tb y A N c, .int .i64 256, .int .i64 9] w1 fun e w' => e = .returned (.int .i64 13) ∧ Below w1.heap.size w1 w') := Lib.hid (by
    have := check_any w1 y 256 9 A l N c hN (by omega) (hR.below b1)
    rw [hv] at this
    exact this)
  have B1 := Lib.hid b1
  clear b1 t1 hR hN hv
  go_enter Tryz.func65, Tryz.ntmps65
  go_wp2_with (go_at_call 50; refine CH.out.mono ?_; rintro e w2 ⟨rfl, hb2⟩; have B2 := Lib.hid (below_on B1.out (Nat.le_refl _) hb2); clear hb2)
  go_ret2
  exact ⟨rfl, B2.out⟩

end Go.Proofs.YtnlhokfhkohdpaaGreat
