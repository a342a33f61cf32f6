/-
  The mathematics of histograms: validity, used symbols, totals. No condition.
-/
import Derived.Test.YtdlhfcapfbbjjaaRng
namespace Go.Proofs.Ytdlhfcapfbbjjaa

abbrev iv (z : Int) : Value := .int .i64 z
abbrev nv (n : Nat) : Value := .int .i64 (n : Int)
abbrev Ri (w : World) (A : Option Addr) (l : List Int) : Prop := Rv w A (l.map iv)
abbrev Rn (w : World) (A : Option Addr) (k : List Nat) : Prop := Rv w A (k.map nv)

/-- A valid count. -/
def okc (z : Int) : Bool := decide (0 ≤ z) && decide (z ≤ 2147483648)
/-- A valid histogram. -/
def ok (l : List Int) : Bool := decide (l.length ≤ 256) && l.all okc
def Vld (k : List Nat) : Prop := k.length ≤ 256 ∧ ∀ x ∈ k, x ≤ 2147483648

theorem ok_nats {l : List Int} (h : ok l = true) : ∃ k : List Nat, l = k.map (fun n : Nat => (n : Int)) ∧ Vld k := by
  unfold ok at h
  rw [Bool.and_eq_true, decide_eq_true_iff, List.all_eq_true] at h
  refine ⟨l.map Int.toNat, ?_, by simpa using h.1, ?_⟩
  · rw [List.map_map]
    conv => lhs; rw [← List.map_id l]
    refine List.map_congr_left fun z hz => ?_
    have := h.2 z hz
    simp [okc] at this
    simp; omega
  · intro x hx
    obtain ⟨z, hz, rfl⟩ := List.mem_map.1 hx
    have := h.2 z hz
    simp [okc] at this
    omega
theorem ok_of_vld {k : List Nat} (h : Vld k) : ok (k.map (fun n : Nat => (n : Int))) = true := by
  unfold ok
  rw [Bool.and_eq_true, decide_eq_true_iff, List.all_eq_true]
  refine ⟨by simpa using h.1, fun z hz => ?_⟩
  obtain ⟨x, hx, rfl⟩ := List.mem_map.1 hz
  have := h.2 x hx
  simp [okc]; omega
theorem ri_nats (k : List Nat) : (k.map (fun n : Nat => (n : Int))).map iv = k.map nv := by rw [List.map_map]; rfl

/-- The used symbols from symbol i on, with their counts. -/
def usd : Nat → List Nat → List (Nat × Nat)
  | _, [] => []
  | i, x :: k => if x = 0 then usd (i + 1) k else (i, x) :: usd (i + 1) k

theorem usd_append (i : Nat) (k m : List Nat) : usd i (k ++ m) = usd i k ++ usd (i + k.length) m := by
  induction k generalizing i with
  | nil => simp [usd]
  | cons x k ih =>
    simp only [List.cons_append, usd, ih, List.length_cons]
    split
    · rw [Nat.add_assoc, Nat.add_comm 1]
    · rw [List.cons_append, Nat.add_assoc, Nat.add_comm 1]

/-- How many of the first i symbols are used. -/
def nus (k : List Nat) (i : Nat) : Nat := (usd 0 (k.take i)).length

theorem nus_zero (k : List Nat) : nus k 0 = 0 := by simp [nus, usd]
theorem nus_all (k : List Nat) {i : Nat} (h : k.length ≤ i) : nus k i = (usd 0 k).length := by rw [nus, List.take_of_length_le h]
theorem take_succ_get {α : Type} {k : List α} {i : Nat} {x : α} (h : k[i]? = some x) : k.take (i + 1) = k.take i ++ [x] := by
  rw [List.take_add_one, h]; rfl
theorem nus_none {k : List Nat} {i : Nat} (h : k[i]? = some 0) : nus k (i + 1) = nus k i := by
  rw [nus, nus, take_succ_get h, usd_append]; simp [usd]
theorem nus_some {k : List Nat} {i x : Nat} (h : k[i]? = some x) (hx : 0 < x) : nus k (i + 1) = nus k i + 1 ∧ (usd 0 k)[nus k i]? = some (i, x) ∧ nus k i < (usd 0 k).length := by
  have hx' : x ≠ 0 := by omega
  have hlt : i < k.length := (List.getElem?_eq_some_iff.1 h).1
  have e : usd 0 k = usd 0 (k.take i) ++ ((i, x) :: usd (i + 1) (k.drop (i + 1))) := by
    conv => lhs; rw [← List.take_append_drop i k, usd_append, List.drop_eq_getElem_cons hlt]
    have hg : k[i] = x := (List.getElem?_eq_some_iff.1 h).2
    rw [hg, usd, if_neg hx', List.length_take, Nat.min_eq_left (by omega), Nat.zero_add]
  refine ⟨?_, ?_, ?_⟩
  · rw [nus, nus, take_succ_get h, usd_append]; simp [usd, hx']
  · rw [e, nus, List.getElem?_append_right (Nat.le_refl _)]; simp
  · rw [e, nus]; simp

/-- The j-th used symbol. -/
def sym (k : List Nat) (j : Nat) : Nat := ((usd 0 k)[j]?.getD (0, 0)).1
def cnt (k : List Nat) (j : Nat) : Nat := ((usd 0 k)[j]?.getD (0, 0)).2
theorem usd_get {k : List Nat} {j i x : Nat} (h : (usd 0 k)[j]? = some (i, x)) : sym k j = i ∧ cnt k j = x := by simp [sym, cnt, h]
theorem usd_mem : ∀ (k : List Nat) (i s x : Nat), (s, x) ∈ usd i k → ∃ d, s = i + d ∧ k[d]? = some x ∧ 0 < x
  | [], i, s, x, h => by simp [usd] at h
  | y :: k, i, s, x, h => by
    unfold usd at h
    split at h
    · obtain ⟨d, rfl, h1, h2⟩ := usd_mem k (i + 1) s x h
      exact ⟨d + 1, by omega, by simpa using h1, h2⟩
    · rcases List.mem_cons.1 h with h | h
      · cases h
        exact ⟨0, rfl, rfl, by omega⟩
      · obtain ⟨d, rfl, h1, h2⟩ := usd_mem k (i + 1) s x h
        exact ⟨d + 1, by omega, by simpa using h1, h2⟩
theorem usd_at {k : List Nat} {j : Nat} (h : j < (usd 0 k).length) : (usd 0 k)[j]? = some (sym k j, cnt k j) ∧ k[sym k j]? = some (cnt k j) ∧ 0 < cnt k j ∧ sym k j < k.length := by
  have e : (usd 0 k)[j]? = some (sym k j, cnt k j) := by
    unfold sym cnt
    rw [List.getElem?_eq_getElem h]
    rfl
  obtain ⟨d, h0, h1, h2⟩ := usd_mem k 0 _ _ (List.mem_of_getElem? e)
  rw [Nat.zero_add] at h0
  rw [← h0] at h1
  exact ⟨e, h1, h2, (List.getElem?_eq_some_iff.1 h1).1⟩

/-- What a loop over the used symbols makes of s, behind j of them. -/
def fold {β : Type} (f : β → Nat → Nat → β) (k : List Nat) (s : β) (j : Nat) : β := ((usd 0 k).take j).foldl (fun s p => f s p.1 p.2) s
theorem fold_zero {β : Type} (f : β → Nat → Nat → β) (k : List Nat) (s : β) : fold f k s 0 = s := by simp [fold]
theorem fold_succ {β : Type} (f : β → Nat → Nat → β) (k : List Nat) (s : β) {j : Nat} (h : j < (usd 0 k).length) : fold f k s (j + 1) = f (fold f k s j) (sym k j) (cnt k j) := by
  unfold fold
  rw [take_succ_get (usd_at h).1, List.foldl_append]
  rfl
theorem fold_all {β : Type} (f : β → Nat → Nat → β) (k : List Nat) (s : β) : fold f k s (usd 0 k).length = (usd 0 k).foldl (fun s p => f s p.1 p.2) s := by
  unfold fold; rw [List.take_length]
/-- A fold over the used symbols is one over all counts, if unused ones do not matter. -/
theorem foldl_usd {β : Type} (f : β → Nat → β) (h0 : ∀ s, f s 0 = s) (k : List Nat) (i : Nat) (s : β) : (usd i k).foldl (fun s p => f s p.2) s = k.foldl f s := by
  induction k generalizing i s with
  | nil => rfl
  | cons x k ih =>
    unfold usd
    split
    · next h => subst h; rw [ih, List.foldl_cons, h0]
    · rw [List.foldl_cons, ih, List.foldl_cons]

def tot (k : List Nat) : Nat := k.foldl (· + ·) 0
def gre (k : List Nat) : Nat := k.foldl max 0
theorem foldl_add (k : List Nat) (s : Nat) : k.foldl (· + ·) s = s + k.foldl (· + ·) 0 := by
  induction k generalizing s with
  | nil => rfl
  | cons x k ih => rw [List.foldl_cons, ih, List.foldl_cons, ih (0 + x)]; omega
theorem tot_cons (x : Nat) (k : List Nat) : tot (x :: k) = x + tot k := by unfold tot; rw [List.foldl_cons, foldl_add]; omega
theorem tot_append (k m : List Nat) : tot (k ++ m) = tot k + tot m := by unfold tot; rw [List.foldl_append, foldl_add]
theorem tot_le {b : Nat} : ∀ {k : List Nat}, (∀ x ∈ k, x ≤ b) → tot k ≤ k.length * b
  | [], _ => by simp [tot]
  | x :: k, h => by
    have h1 := h x (by simp)
    have h2 := tot_le (fun y hy => h y (by simp [hy]) : ∀ y ∈ k, y ≤ b)
    rw [tot_cons, List.length_cons, Nat.succ_mul]; omega
theorem le_tot : ∀ {k : List Nat} {x : Nat}, x ∈ k → x ≤ tot k
  | y :: k, x, h => by
    rw [tot_cons]
    rcases List.mem_cons.1 h with rfl | h
    · omega
    · have := le_tot h; omega
theorem Vld.tot {k : List Nat} (h : Vld k) : tot k ≤ 549755813888 := by
  have h1 := tot_le h.2
  have h2 : k.length * 2147483648 ≤ 256 * 2147483648 := Nat.mul_le_mul_right _ h.1
  omega
theorem foldl_max_le {b : Nat} : ∀ {k : List Nat} {s : Nat}, s ≤ b → (∀ x ∈ k, x ≤ b) → k.foldl max s ≤ b
  | [], _, hs, _ => hs
  | x :: k, s, hs, h => foldl_max_le (k := k) (s := max s x) (by have := h x (by simp); omega) (fun y hy => h y (by simp [hy]))
theorem foldl_max_ge : ∀ {k : List Nat} {s : Nat}, s ≤ k.foldl max s ∧ ∀ x ∈ k, x ≤ k.foldl max s
  | [], s => ⟨Nat.le_refl _, fun x h => by simp at h⟩
  | y :: k, s => by
    obtain ⟨h1, h2⟩ := foldl_max_ge (k := k) (s := max s y)
    refine ⟨by rw [List.foldl_cons]; omega, fun x hx => ?_⟩
    rw [List.foldl_cons]
    rcases List.mem_cons.1 hx with rfl | hx
    · omega
    · exact h2 x hx
theorem Vld.gre {k : List Nat} (h : Vld k) : gre k ≤ 2147483648 := foldl_max_le (by omega) h.2
theorem le_gre {k : List Nat} {x : Nat} (h : x ∈ k) : x ≤ gre k := foldl_max_ge.2 x h

/-- The total and the greatest count of the first j used symbols. -/
def totj (k : List Nat) (j : Nat) : Nat := fold (fun s _ x => s + x) k 0 j
def grej (k : List Nat) (j : Nat) : Nat := fold (fun s _ x => max s x) k 0 j
theorem totj_all (k : List Nat) : totj k (usd 0 k).length = tot k := by
  unfold totj tot; rw [fold_all]; exact foldl_usd (· + ·) (by simp) k 0 0
theorem grej_all (k : List Nat) : grej k (usd 0 k).length = gre k := by
  unfold grej gre; rw [fold_all]; exact foldl_usd max (by simp) k 0 0

theorem fold_bound {f : Nat → Nat → Nat → Nat} {b : Nat} {k : List Nat} (hf : ∀ s i x, (i, x) ∈ usd 0 k → f s i x ≤ s + b) (j : Nat) : fold f k 0 j ≤ j * b := by
  unfold fold
  have : ∀ (l : List (Nat × Nat)) (s : Nat), (∀ p ∈ l, p ∈ usd 0 k) → l.foldl (fun s p => f s p.1 p.2) s ≤ s + l.length * b := by
    intro l
    induction l with
    | nil => intro s _; simp
    | cons p l ih =>
      intro s h
      have h1 := hf s p.1 p.2 (h p (by simp))
      have h2 := ih (f s p.1 p.2) (fun q hq => h q (by simp [hq]))
      rw [List.foldl_cons, List.length_cons, Nat.succ_mul]
      omega
  have h3 := this ((usd 0 k).take j) 0 (fun p hp => List.mem_of_mem_take hp)
  have h4 : ((usd 0 k).take j).length * b ≤ j * b := Nat.mul_le_mul_right _ (by rw [List.length_take]; omega)
  omega
theorem usd_len (i : Nat) (k : List Nat) : (usd i k).length ≤ k.length := by
  induction k generalizing i with
  | nil => simp [usd]
  | cons x k ih => unfold usd; have := ih (i + 1); split <;> simp <;> omega
theorem Vld.cnt {k : List Nat} (h : Vld k) {j : Nat} (hj : j < (usd 0 k).length) : cnt k j ≤ 2147483648 := h.2 _ (List.mem_of_getElem? (usd_at hj).2.1)
theorem Vld.totj {k : List Nat} (h : Vld k) {j : Nat} (hj : j ≤ (usd 0 k).length) : totj k j ≤ 549755813888 := by
  have h1 := fold_bound (f := fun s _ x => s + x) (b := 2147483648) (k := k) (fun s i x hm => by
    obtain ⟨d, _, hx, _⟩ := usd_mem k 0 i x hm
    have := h.2 _ (List.mem_of_getElem? hx)
    omega) j
  have h2 := usd_len 0 k
  have h3 : j * 2147483648 ≤ 256 * 2147483648 := Nat.mul_le_mul_right _ (by have := h.1; omega)
  unfold Go.Proofs.Ytdlhfcapfbbjjaa.totj
  omega

end Go.Proofs.Ytdlhfcapfbbjjaa
