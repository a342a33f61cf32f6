/-
  The mathematics of the spread: rare symbols, the states of the others, the visits of the indices, which symbol each index gets. Conditions: those that each theorem states.
-/
import Derived.Test.YtonapehlhkoplaaFil
namespace Go.Proofs.Ytonapehlhkoplaa

/-- The rare symbols, and the symbols of the other states, of norms the first of which is that of symbol i. -/
def rs : Nat → List Int → List Nat
  | _, [] => []
  | i, x :: l => if x = -1 then i :: rs (i + 1) l else rs (i + 1) l
def ors : Nat → List Int → List Nat
  | _, [] => []
  | i, x :: l => List.replicate x.toNat i ++ ors (i + 1) l

theorem rs_append (l m : List Int) : ∀ i, rs i (l ++ m) = rs i l ++ rs (i + l.length) m := by
  induction l with
  | nil => intro i; rfl
  | cons x l ih =>
    intro i
    simp only [List.cons_append, rs, List.length_cons]
    rw [ih, show i + 1 + l.length = i + (l.length + 1) by omega]
    split <;> rfl
theorem ors_append (l m : List Int) : ∀ i, ors i (l ++ m) = ors i l ++ ors (i + l.length) m := by
  induction l with
  | nil => intro i; rfl
  | cons x l ih =>
    intro i
    simp only [List.cons_append, ors, List.length_cons]
    rw [ih, show i + 1 + l.length = i + (l.length + 1) by omega, List.append_assoc]
theorem rs_step {l : List Int} {j : Nat} {x : Int} (h : l[j]? = some x) : rs 0 (l.take (j + 1)) = rs 0 (l.take j) ++ (if x = -1 then [j] else []) := by
  have hl : j < l.length := (List.getElem?_eq_some_iff.1 h).1
  rw [take_succ_get h, rs_append, List.length_take, Nat.min_eq_left (Nat.le_of_lt hl), Nat.zero_add]
  rfl
theorem ors_step {l : List Int} {j : Nat} {x : Int} (h : l[j]? = some x) : ors 0 (l.take (j + 1)) = ors 0 (l.take j) ++ List.replicate x.toNat j := by
  have hl : j < l.length := (List.getElem?_eq_some_iff.1 h).1
  rw [take_succ_get h, ors_append, List.length_take, Nat.min_eq_left (Nat.le_of_lt hl), Nat.zero_add]
  simp [ors]
/-- There are as many as states. -/
theorem rs_ors_len {l : List Int} (h : okn l = true) : ∀ i, (((rs i l).length + (ors i l).length : Nat) : Int) = ssum l := by
  induction l with
  | nil => intro i; rfl
  | cons x l ih =>
    intro i
    unfold okn at h ih
    rw [List.all_cons, Bool.and_eq_true, decide_eq_true_iff] at h
    have h1 := ih h.2 (i + 1)
    rw [ssum_cons]
    unfold sts
    simp only [rs, ors, List.length_append, List.length_replicate]
    split <;> simp <;> omega
theorem rs_ge {l : List Int} : ∀ {i k : Nat}, k ∈ rs i l → i ≤ k := by
  induction l with
  | nil => intro i k h; cases h
  | cons x l ih =>
    intro i k h
    simp only [rs] at h
    split at h
    · rcases List.mem_cons.1 h with rfl | h
      · exact Nat.le_refl _
      · have := ih h; omega
    · have := ih h; omega
theorem ors_ge {l : List Int} : ∀ {i k : Nat}, k ∈ ors i l → i ≤ k := by
  induction l with
  | nil => intro i k h; cases h
  | cons x l ih =>
    intro i k h
    simp only [ors] at h
    rcases List.mem_append.1 h with h | h
    · rw [List.mem_replicate] at h; omega
    · have := ih h; omega
theorem rs_mem {l : List Int} : ∀ {i k : Nat}, k ∈ rs i l → l[k - i]? = some (-1) := by
  induction l with
  | nil => intro i k h; cases h
  | cons x l ih =>
    intro i k h
    simp only [rs] at h
    have key : k ∈ rs (i + 1) l → (x :: l)[k - i]? = some (-1) := fun h => by
      have h1 := rs_ge h
      rw [show k - i = (k - (i + 1)) + 1 by omega, List.getElem?_cons_succ]
      exact ih h
    split at h
    · rename_i hx
      rcases List.mem_cons.1 h with rfl | h
      · simp [hx]
      · exact key h
    · exact key h
theorem ors_mem {l : List Int} : ∀ {i k : Nat}, k ∈ ors i l → ∃ x, l[k - i]? = some x ∧ 1 ≤ x := by
  induction l with
  | nil => intro i k h; cases h
  | cons x l ih =>
    intro i k h
    simp only [ors] at h
    rcases List.mem_append.1 h with h | h
    · rw [List.mem_replicate] at h
      obtain ⟨h1, rfl⟩ := h
      exact ⟨x, by simp, by omega⟩
    · have h1 := ors_ge h
      obtain ⟨y, h2, h3⟩ := ih h
      refine ⟨y, ?_, h3⟩
      rw [show k - i = (k - (i + 1)) + 1 by omega, List.getElem?_cons_succ]
      exact h2
/-- The states of each symbol. -/
theorem rs_ors_count {l : List Int} (h : okn l = true) : ∀ (i k : Nat), (((rs i l).count (i + k) + (ors i l).count (i + k) : Nat) : Int) = match l[k]? with | some x => sts x | none => 0 := by
  induction l with
  | nil => intro i k; simp [rs, ors]
  | cons x l ih =>
    intro i k
    unfold okn at h ih
    rw [List.all_cons, Bool.and_eq_true, decide_eq_true_iff] at h
    cases k with
    | zero =>
      have h1 : (rs (i + 1) l).count i = 0 := List.count_eq_zero.2 (fun hm => by have := rs_ge hm; omega)
      have h2 : (ors (i + 1) l).count i = 0 := List.count_eq_zero.2 (fun hm => by have := ors_ge hm; omega)
      simp only [rs, ors, Nat.add_zero, List.count_append, List.getElem?_cons_zero, h2, List.count_replicate_self]
      unfold sts
      split
      · rename_i hx; subst hx; simp [h1]
      · rw [h1]; omega
    | succ k =>
      have h1 := ih h.2 (i + 1) k
      rw [show i + 1 + k = i + (k + 1) by omega] at h1
      have h3 : (List.replicate x.toNat i).count (i + (k + 1)) = 0 := List.count_eq_zero.2 (fun hm => by rw [List.mem_replicate] at hm; omega)
      simp only [rs, ors, List.count_append, List.getElem?_cons_succ, h3, Nat.zero_add]
      rw [← h1]
      split
      · rw [List.count_cons_of_ne (by omega)]
      · rfl
theorem ors_sorted (l : List Int) : ∀ i, (ors i l).Pairwise (· ≤ ·) := by
  induction l with
  | nil => intro i; exact List.Pairwise.nil
  | cons x l ih =>
    intro i
    simp only [ors]
    rw [List.pairwise_append]
    refine ⟨?_, ih _, fun a ha b hb => ?_⟩
    · rw [List.pairwise_replicate]; exact .inr (Nat.le_refl _)
    · rw [List.mem_replicate] at ha
      have := ors_ge hb
      omega

/-- The step; the indices in the order of the visits. -/
def stp (s : Nat) : Nat := if s < 16 then 1 else s / 2 + s / 8 + 3
def vi (s j : Nat) : Nat := j * stp s % s
def vis (s : Nat) : List Nat := (List.range s).map (vi s)
theorem vis_perm {y : Nat} (h : y ≤ 9) : (vis (2 ^ y)).Perm (List.range (2 ^ y)) := by
  have key : ∀ y : Fin 10, (vis (2 ^ y.val)).isPerm (List.range (2 ^ y.val)) = true := by decide +kernel
  exact List.isPerm_iff.1 (key ⟨y, by omega⟩)
theorem vis_nodup {y : Nat} (h : y ≤ 9) : (vis (2 ^ y)).Nodup := (vis_perm h).nodup_iff.2 List.nodup_range
theorem vis_len (s : Nat) : (vis s).length = s := by simp [vis]
theorem vis_get {s j : Nat} (h : j < s) : (vis s)[j]? = some (vi s j) := by simp [vis, h]
theorem vi_lt {s : Nat} (h : 0 < s) (j : Nat) : vi s j < s := Nat.mod_lt _ h
theorem vi_zero (s : Nat) : vi s 0 = 0 := by simp [vi]
theorem vi_next (s j : Nat) : (vi s j + stp s) % s = vi s (j + 1) := by
  unfold vi
  rw [Nat.add_mul, Nat.one_mul, Nat.mod_add_mod]
theorem vi_all (s : Nat) : vi s s = 0 := by unfold vi; exact Nat.mul_mod_right _ _
theorem stp_le {s : Nat} (h : s ≤ 512) : stp s ≤ 1000 := by unfold stp; split <;> omega
theorem stp_pos (s : Nat) : 1 ≤ stp s := by unfold stp; split <;> omega

/-- A symbol is given to an index; the free indices get the symbols in the order of the visits. -/
def upd (m : Nat → Option Nat) (v x : Nat) : Nat → Option Nat := fun i => if i = v then some x else m i
def go : List Nat → (Nat → Option Nat) → List Nat → Nat → Option Nat
  | [], m, _ => m
  | v :: vs, m, r => match m v with
    | some _ => go vs m r
    | none => match r with
      | [] => go vs m []
      | x :: r => go vs (upd m v x) r
theorem upd_same (m : Nat → Option Nat) (v x : Nat) : upd m v x v = some x := by simp [upd]
theorem upd_other (m : Nat → Option Nat) {v i : Nat} (x : Nat) (h : i ≠ v) : upd m v x i = m i := by simp [upd, h]
theorem go_taken {v : Nat} {vs : List Nat} {m : Nat → Option Nat} {r : List Nat} {x : Nat} (h : m v = some x) : go (v :: vs) m r = go vs m r := by simp [go, h]
theorem go_free {v : Nat} {vs : List Nat} {m : Nat → Option Nat} {r : List Nat} {x : Nat} (h : m v = none) : go (v :: vs) m (x :: r) = go vs (upd m v x) r := by simp [go, h]
theorem go_empty {v : Nat} {vs : List Nat} {m : Nat → Option Nat} (h : m v = none) : go (v :: vs) m [] = go vs m [] := by simp [go, h]
/-- How many of the indices are free. -/
abbrev fre (m : Nat → Option Nat) (vs : List Nat) : Nat := vs.countP (fun v => (m v).isNone)
/-- There are as many symbols as free indices among those that are still to be visited, none of which comes twice. -/
structure Ok (vs : List Nat) (m : Nat → Option Nat) (r : List Nat) : Prop where
  nd : vs.Nodup
  len : fre m vs = r.length
theorem fre_upd {vs : List Nat} {m : Nat → Option Nat} {v x : Nat} (h : v ∉ vs) : fre (upd m v x) vs = fre m vs := by
  unfold fre
  refine List.countP_congr fun i hi => ?_
  rw [upd_other m x (fun e => h (by rw [← e]; exact hi))]
theorem Ok.taken {v : Nat} {vs : List Nat} {m : Nat → Option Nat} {r : List Nat} {x : Nat} (h : Ok (v :: vs) m r) (hx : m v = some x) : Ok vs m r := by
  refine ⟨(List.nodup_cons.1 h.nd).2, ?_⟩
  rw [← h.len]
  simp [fre, hx]
theorem Ok.free {v : Nat} {vs : List Nat} {m : Nat → Option Nat} {r : List Nat} (h : Ok (v :: vs) m r) (hx : m v = none) : ∃ x r', r = x :: r' ∧ Ok vs (upd m v x) r' := by
  have hl := h.len
  have e : fre m (v :: vs) = fre m vs + 1 := by simp [fre, hx]
  rw [e] at hl
  cases r with
  | nil => simp at hl
  | cons x r =>
    refine ⟨x, r, rfl, (List.nodup_cons.1 h.nd).2, ?_⟩
    rw [fre_upd (List.nodup_cons.1 h.nd).1]
    simpa using hl
/-- What an index has, it keeps; an index that is not visited stays as it is. -/
theorem go_keep (vs : List Nat) : ∀ {m : Nat → Option Nat} {r : List Nat} {i x : Nat}, m i = some x → go vs m r i = some x := by
  induction vs with
  | nil => intro m r i x h; exact h
  | cons v vs ih =>
    intro m r i x h
    cases hv : m v with
    | some u => rw [go_taken hv]; exact ih h
    | none =>
      cases r with
      | nil => rw [go_empty hv]; exact ih h
      | cons u r =>
        rw [go_free hv]
        refine ih ?_
        rw [upd_other _ _ (fun e => by rw [e, hv] at h; cases h)]
        exact h
theorem go_out (vs : List Nat) : ∀ {m : Nat → Option Nat} {r : List Nat} {i : Nat}, i ∉ vs → go vs m r i = m i := by
  induction vs with
  | nil => intro m r i h; rfl
  | cons v vs ih =>
    intro m r i h
    rw [List.mem_cons, not_or] at h
    cases hv : m v with
    | some u => rw [go_taken hv]; exact ih h.2
    | none =>
      cases r with
      | nil => rw [go_empty hv]; exact ih h.2
      | cons u r => rw [go_free hv, ih h.2, upd_other _ _ h.1]
/-- Where none is free, nothing is given. -/
theorem go_none (vs : List Nat) : ∀ {m : Nat → Option Nat} {r : List Nat}, fre m vs = 0 → go vs m r = m := by
  induction vs with
  | nil => intro m r _; rfl
  | cons v vs ih =>
    intro m r h
    unfold fre at h
    rw [List.countP_eq_zero] at h
    have h1 := h v (by simp)
    cases hv : m v with
    | none => rw [hv] at h1; simp at h1
    | some x =>
      rw [go_taken hv]
      refine ih ?_
      unfold fre
      rw [List.countP_eq_zero]
      exact fun i hi => h i (by simp [hi])
theorem go_all (vs : List Nat) : ∀ {m : Nat → Option Nat} {r : List Nat}, Ok vs m r → ∀ i ∈ vs, ∃ x, go vs m r i = some x := by
  induction vs with
  | nil => intro m r _ i h; cases h
  | cons v vs ih =>
    intro m r h i hi
    cases hv : m v with
    | some x =>
      rw [go_taken hv]
      rcases List.mem_cons.1 hi with rfl | hi
      · exact ⟨x, go_keep vs hv⟩
      · exact ih (h.taken hv) i hi
    | none =>
      obtain ⟨x, r', rfl, h'⟩ := h.free hv
      rw [go_free hv]
      rcases List.mem_cons.1 hi with rfl | hi
      · exact ⟨x, go_keep vs (upd_same _ _ _)⟩
      · exact ih h' i hi
/-- How often a symbol is given. -/
theorem go_count (k : Nat) (vs : List Nat) : ∀ {m : Nat → Option Nat} {r : List Nat}, Ok vs m r → vs.countP (fun i => go vs m r i == some k) = vs.countP (fun i => m i == some k) + r.count k := by
  induction vs with
  | nil =>
    intro m r h
    have := h.len
    simp [fre] at this
    rw [List.eq_nil_of_length_eq_zero this.symm]
    rfl
  | cons v vs ih =>
    intro m r h
    cases hv : m v with
    | some x =>
      rw [go_taken hv, List.countP_cons, List.countP_cons, ih (h.taken hv), go_keep vs hv, hv]
      omega
    | none =>
      obtain ⟨x, r', rfl, h'⟩ := h.free hv
      have e1 : vs.countP (fun i => upd m v x i == some k) = vs.countP (fun i => m i == some k) := by
        refine List.countP_congr fun i hi => ?_
        rw [upd_other m x (fun e => (List.nodup_cons.1 h.nd).1 (by rw [← e]; exact hi))]
      rw [go_free hv, List.countP_cons, List.countP_cons, ih h', go_keep vs (upd_same m v x), hv, e1, List.count_cons]
      simp
      omega

/-- The rare symbols from the top down. -/
def m0 (s : Nat) (r : List Nat) : Nat → Option Nat := fun i => if i < s then r[s - 1 - i]? else none
theorem m0_nil (s : Nat) : m0 s [] = fun _ => none := by funext i; simp [m0]
theorem m0_step {s j x : Nat} {r : List Nat} (hj : j < s) (h : r[j]? = some x) : upd (m0 s (r.take j)) (s - 1 - j) x = m0 s (r.take (j + 1)) := by
  funext i
  unfold upd m0
  by_cases hi : i = s - 1 - j
  · subst hi
    rw [if_pos rfl, if_pos (by omega), show s - 1 - (s - 1 - j) = j by omega, List.getElem?_take_of_lt (by omega), h]
  · rw [if_neg hi]
    by_cases h2 : i < s
    · rw [if_pos h2, if_pos h2]
      by_cases h3 : s - 1 - i < j
      · rw [List.getElem?_take_of_lt h3, List.getElem?_take_of_lt (by omega)]
      · rw [List.getElem?_eq_none (by rw [List.length_take]; omega), List.getElem?_eq_none (by rw [List.length_take]; omega)]
    · rw [if_neg h2, if_neg h2]
theorem fre_m0 {s : Nat} {r : List Nat} (hr : r.length ≤ s) : fre (m0 s r) (List.range s) = s - r.length := by
  have key : ∀ n, n ≤ s → fre (m0 s r) (List.range n) = min n (s - r.length) := by
    intro n
    induction n with
    | zero => intro _; simp [fre]
    | succ n ih =>
      intro hn
      have h1 := ih (by omega)
      unfold fre at h1 ⊢
      rw [List.range_succ, List.countP_append, h1, List.countP_singleton]
      unfold m0
      rw [if_pos (show n < s by omega)]
      by_cases h : s - 1 - n < r.length
      · rw [List.getElem?_eq_getElem h]
        simp
        omega
      · rw [List.getElem?_eq_none (by omega)]
        simp
        omega
  rw [key s (Nat.le_refl _)]
  omega

/-- The symbol of each index: the spread. -/
def fin (s : Nat) (l : List Int) : Nat → Option Nat := go (vis s) (m0 s (rs 0 l)) (ors 0 l)
def spl (s : Nat) (l : List Int) : List Nat := (List.range s).map (fun i => (fin s l i).getD 0)
theorem spl_len (s : Nat) (l : List Int) : (spl s l).length = s := by simp [spl]
theorem spl_get {s i : Nat} (l : List Int) (h : i < s) : (spl s l)[i]? = some ((fin s l i).getD 0) := by simp [spl, h]

/-- The norms of a valid table of 2^y states. -/
structure Vt (y : Nat) (l : List Int) : Prop where
  log : y ≤ 9
  pos : 1 ≤ l.length
  len : l.length ≤ 256
  last : l.getLast? ≠ some 0
  ok : okn l = true
  sum : ssum l = ((2 ^ y : Nat) : Int)
section
variable {y : Nat} {l : List Int}
theorem Vt.total (h : Vt y l) : (rs 0 l).length + (ors 0 l).length = 2 ^ y := by
  have := rs_ors_len h.ok 0
  rw [h.sum] at this
  omega
theorem Vt.start (h : Vt y l) : Ok (vis (2 ^ y)) (m0 (2 ^ y) (rs 0 l)) (ors 0 l) := by
  refine ⟨vis_nodup h.log, ?_⟩
  unfold fre
  rw [(vis_perm h.log).countP_eq]
  have h1 := h.total
  rw [show List.countP (fun v => (m0 (2 ^ y) (rs 0 l) v).isNone) (List.range (2 ^ y)) = fre (m0 (2 ^ y) (rs 0 l)) (List.range (2 ^ y)) from rfl, fre_m0 (by omega)]
  omega
theorem Vt.has (h : Vt y l) {i : Nat} (hi : i < 2 ^ y) : ∃ x, fin (2 ^ y) l i = some x :=
  go_all _ h.start i ((vis_perm h.log).mem_iff.2 (List.mem_range.2 hi))
theorem Vt.size (h : Vt y l) : 2 ^ y ≤ 512 := by
  have := Nat.pow_le_pow_right (show 0 < 2 by decide) h.log
  rw [show (2 : Nat) ^ 9 = 512 by decide] at this
  exact this
/-- Each symbol has as many indices as states. -/
theorem Vt.count (h : Vt y l) (k : Nat) : (((spl (2 ^ y) l).count k : Nat) : Int) = match l[k]? with | some x => sts x | none => 0 := by
  have e0 : (spl (2 ^ y) l).count k = (List.range (2 ^ y)).countP (fun i => fin (2 ^ y) l i == some k) := by
    unfold spl
    rw [List.count_eq_countP, List.countP_map]
    refine List.countP_congr fun i hi => ?_
    obtain ⟨x, hx⟩ := h.has (List.mem_range.1 hi)
    simp [hx]
  have hr : (rs 0 l).length ≤ 2 ^ y := by have := h.total; omega
  have e1 : (List.range (2 ^ y)).countP (fun i => m0 (2 ^ y) (rs 0 l) i == some k) = (rs 0 l).count k := by
    have key : ∀ (s : Nat) (r : List Nat), r.length ≤ s → ∀ n, n ≤ r.length → (List.range s).countP (fun i => m0 s (r.take n) i == some k) = (r.take n).count k := by
      intro s r hs n
      induction n with
      | zero => intro _; rw [List.take_zero, m0_nil]; simp
      | succ n ih =>
        intro hn
        have h1 := ih (by omega)
        obtain ⟨x, hx⟩ : ∃ x, r[n]? = some x := ⟨_, List.getElem?_eq_getElem (by omega)⟩
        have h2 := m0_step (s := s) (by omega) hx
        have h3 : m0 s (r.take n) (s - 1 - n) = none := by
          unfold m0
          rw [if_pos (by omega), List.getElem?_eq_none (by rw [List.length_take]; omega)]
        rw [← h2, take_succ_get hx, List.count_append, ← h1]
        have h4 : (List.range s).count (s - 1 - n) = 1 := by
          have h5 := List.nodup_range.count (a := s - 1 - n) (l := List.range s)
          rw [h5, if_pos (List.mem_range.2 (by omega))]
        have gen : ∀ (vs : List Nat) (m : Nat → Option Nat) (v : Nat), m v = none → vs.countP (fun i => upd m v x i == some k) = vs.countP (fun i => m i == some k) + (if x = k then vs.count v else 0) := by
          intro vs m v hv
          induction vs with
          | nil => simp
          | cons u vs ih2 =>
            rw [List.countP_cons, List.countP_cons, ih2, List.count_cons]
            by_cases hu : u = v
            · subst hu
              rw [upd_same, hv]
              by_cases hx : x = k
              · subst hx; simp; omega
              · simp [hx]
            · rw [upd_other _ _ hu]
              by_cases hx : x = k
              · subst hx; simp [hu]; omega
              · simp [hx]
        rw [gen _ _ _ h3, h4]
        by_cases hx : x = k
        · subst hx; simp
        · simp [hx]
    have := key _ _ hr (rs 0 l).length (Nat.le_refl _)
    rwa [List.take_length] at this
  have e2 := go_count k (vis (2 ^ y)) h.start
  rw [(vis_perm h.log).countP_eq, (vis_perm h.log).countP_eq, e1] at e2
  rw [e0]
  have e3 := rs_ors_count h.ok 0 k
  rw [Nat.zero_add] at e3
  rw [← e3]
  congr 1
end

end Go.Proofs.Ytonapehlhkoplaa
