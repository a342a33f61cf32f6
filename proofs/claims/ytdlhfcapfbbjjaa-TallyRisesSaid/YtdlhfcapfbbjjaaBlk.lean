/-
  The mathematics of the stable sort's blocks: a row whose blocks of k are each the stable sort of their first entries. No condition beyond those that each theorem states.
-/
import Derived.Test.YtdlhfcapfbbjjaaCrs
namespace Go.Proofs.Ytdlhfcapfbbjjaa

/-- S is made of whole blocks of k, each the stable sort of es's block. -/
inductive Ful (k : Nat) : List (Nat × Nat) → List (Nat × Nat) → Prop
  | nil : Ful k [] []
  | snoc {es S f T : List (Nat × Nat)} : Ful k es S → f.length = k → Stb f T → Ful k (es ++ f) (S ++ T)
/-- The same, with a block at the end that may be shorter. -/
def Blk (k : Nat) (es S : List (Nat × Nat)) : Prop := ∃ es1 S1 f T, es = es1 ++ f ∧ S = S1 ++ T ∧ Ful k es1 S1 ∧ f.length ≤ k ∧ Stb f T

theorem filter_split (k : Nat) (S : List (Nat × Nat)) : (S.filter (fun p => p.2 == k)).length + (S.filter (fun p => !(p.2 == k))).length = S.length := by
  induction S with
  | nil => rfl
  | cons s S ih =>
    by_cases h : (s.2 == k) = true
    · simp [h]; omega
    · have h : (s.2 == k) = false := by simpa using h
      simp [h]; omega
theorem filter_len : ∀ (n : Nat) {S T : List (Nat × Nat)}, S.length ≤ n → (∀ v : Nat, S.filter (fun p => p.2 == v) = T.filter (fun p => p.2 == v)) → S.length = T.length := by
  intro n
  induction n with
  | zero =>
    intro S T hl h
    have e : S = [] := List.eq_nil_of_length_eq_zero (by omega)
    subst e
    cases T with
    | nil => rfl
    | cons t T =>
      have := h t.2
      simp at this
  | succ n ih =>
    intro S T hl h
    cases S with
    | nil =>
      cases T with
      | nil => rfl
      | cons t T =>
        have := h t.2
        simp at this
    | cons s S =>
      have h1 := filter_split s.2 (s :: S)
      have h2 := filter_split s.2 T
      have h3 : ((s :: S).filter (fun p => !(p.2 == s.2))).length ≤ n := by
        rw [List.filter_cons_of_neg (by simp)]
        have := List.length_filter_le (fun p : Nat × Nat => !(p.2 == s.2)) S
        simp at hl
        omega
      have h4 := ih (S := (s :: S).filter (fun p => !(p.2 == s.2))) (T := T.filter (fun p => !(p.2 == s.2))) h3 (fun v => by
        rw [List.filter_filter, List.filter_filter]
        by_cases hv : v = s.2
        · subst hv
          rw [List.filter_eq_nil_iff.2 (by intro a _; simp), List.filter_eq_nil_iff.2 (by intro a _; simp)]
        · have e : (fun a : Nat × Nat => (a.2 == v) && !(a.2 == s.2)) = (fun a : Nat × Nat => a.2 == v) := by
            funext a
            by_cases q : a.2 = v
            · simp [q, hv]
            · simp [q]
          rw [e]
          exact h v)
      rw [h s.2] at h1
      omega
theorem Stb.len {f T : List (Nat × Nat)} (h : Stb f T) : T.length = f.length := filter_len _ (Nat.le_refl _) h.2
theorem Ful.len {k : Nat} {es S : List (Nat × Nat)} (h : Ful k es S) : S.length = es.length := by
  induction h with
  | nil => rfl
  | snoc _ _ hs ih => rw [List.length_append, List.length_append, ih, hs.len]
theorem Stb.trans {f T U : List (Nat × Nat)} (h : Stb f T) (h2 : Stb T U) : Stb f U := ⟨h2.1, fun v => (h2.2 v).trans (h.2 v)⟩
theorem Stb.app {f T g U M : List (Nat × Nat)} (h : Stb f T) (h2 : Stb g U) (h3 : Stb (T ++ U) M) : Stb (f ++ g) M := by
  refine ⟨h3.1, fun v => ?_⟩
  rw [h3.2 v, List.filter_append, List.filter_append, h.2 v, h2.2 v]
/-- The first block of whole blocks. -/
theorem Ful.split {k : Nat} : ∀ {es S : List (Nat × Nat)}, Ful k es S → es = [] ∧ S = [] ∨ ∃ f T es2 S2, es = f ++ es2 ∧ S = T ++ S2 ∧ f.length = k ∧ Stb f T ∧ Ful k es2 S2 := by
  intro es S h
  induction h with
  | nil => exact .inl ⟨rfl, rfl⟩
  | @snoc es S f T hF hf hs ih =>
    right
    rcases ih with ⟨e1, e2⟩ | ⟨f', T', es2, S2, e1, e2, e3, e4, e5⟩
    · exact ⟨f, T, [], [], by simp [e1], by simp [e2], hf, hs, .nil⟩
    · exact ⟨f', T', es2 ++ f, S2 ++ T, by simp [e1], by simp [e2], e3, e4, .snoc e5 hf hs⟩
/-- The first of blocks: the whole is longer than a block. -/
theorem Blk.split {k : Nat} {es S : List (Nat × Nat)} (h : Blk k es S) (hl : k ≤ es.length) : ∃ f T es2 S2, es = f ++ es2 ∧ S = T ++ S2 ∧ f.length = k ∧ Stb f T ∧ Blk k es2 S2 := by
  obtain ⟨es1, S1, f, T, rfl, rfl, hF, hf, hs⟩ := h
  rcases hF.split with ⟨rfl, rfl⟩ | ⟨f', T', es2, S2, rfl, rfl, h1, h2, h3⟩
  · simp at hl
    exact ⟨f, T, [], [], by simp, by simp, by omega, hs, [], [], [], [], rfl, rfl, .nil, by simp, Stb.nil⟩
  · exact ⟨f', T', es2 ++ f, S2 ++ T, by simp, by simp, h1, h2, es2, S2, f, T, rfl, rfl, h3, hf, hs⟩
theorem Blk.short {k : Nat} {es S : List (Nat × Nat)} (h : Blk k es S) (hl : es.length ≤ k) : Stb es S := by
  obtain ⟨es1, S1, f, T, rfl, rfl, hF, hf, hs⟩ := h
  rcases hF.split with ⟨rfl, rfl⟩ | ⟨f', T', es2, S2, rfl, rfl, h1, h2, h3⟩
  · simpa using hs
  · simp at hl
    have e2 : es2 = [] := List.eq_nil_of_length_eq_zero (by omega)
    have e3 : f = [] := List.eq_nil_of_length_eq_zero (by omega)
    have l2 := h3.len
    have l3 := hs.len
    have e4 : S2 = [] := List.eq_nil_of_length_eq_zero (by rw [l2, e2]; rfl)
    have e5 : T = [] := List.eq_nil_of_length_eq_zero (by rw [l3, e3]; rfl)
    subst e2 e3 e4 e5
    simpa using h2
theorem Blk.len {k : Nat} {es S : List (Nat × Nat)} (h : Blk k es S) : S.length = es.length := by
  obtain ⟨es1, S1, f, T, rfl, rfl, hF, _, hs⟩ := h
  rw [List.length_append, List.length_append, hF.len, hs.len]
theorem Blk.of_ful {k : Nat} {es S f T : List (Nat × Nat)} (h : Ful k es S) (hf : f.length ≤ k) (hs : Stb f T) : Blk k (es ++ f) (S ++ T) := ⟨es, S, f, T, rfl, rfl, h, hf, hs⟩

end Go.Proofs.Ytdlhfcapfbbjjaa
