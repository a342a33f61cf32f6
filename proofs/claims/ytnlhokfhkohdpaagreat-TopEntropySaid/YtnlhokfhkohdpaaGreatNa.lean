/-
  The mathematics of normalized counts: valid counts, used symbols, the symbol to adjust, the adjustment one state at a time. No condition beyond those that each theorem states.
  What norm.survey and the reference's Counts and Size do: the total, the number of positive counts, whether the counts are valid; a power of two. Nothing has changed. Condition: the counts are integers that a slice can hold.
  What norm.divide does: it gives every used symbol its share, rounded down, but never below 1, in new memory. Nothing that was there has changed. Condition: the counts are valid; at most 512 states and as many used symbols.
  What norm.divide does: it gives every used symbol its share, rounded down, but never below 1, in new memory. Nothing that was there has changed. Condition: the counts are valid; at most 512 states and as many used symbols.
-/
import Derived.Test.YtnlhokfhkohdpaaGreatSa
import Derived.Deep.AppendLies
import Derived.Deep.RegionLaw
namespace Go.Proofs.YtnlhokfhkohdpaaGreat.No

abbrev iv (z : Int) : Value := .int .i64 z
abbrev nv (n : Nat) : Value := .int .i64 (n : Int)
abbrev Ri (w : World) (A : Option Addr) (l : List Int) : Prop := Rv w A (l.map iv)
abbrev Rn (w : World) (A : Option Addr) (k : List Nat) : Prop := Rv w A (k.map nv)
theorem ri_nats (k : List Nat) : (k.map (fun n : Nat => (n : Int))).map iv = k.map nv := by rw [List.map_map]; rfl
theorem take_succ_get {α : Type} {l : List α} {i : Nat} {z : α} (h : l[i]? = some z) : l.take (i + 1) = l.take i ++ [z] := by
  rw [List.take_add_one, h]; rfl

/-- The total. -/
def tot (k : List Nat) : Nat := k.foldr (· + ·) 0
theorem tot_cons (x : Nat) (k : List Nat) : tot (x :: k) = x + tot k := rfl
theorem tot_append (k m : List Nat) : tot (k ++ m) = tot k + tot m := by
  induction k with
  | nil => simp [tot]
  | cons x k ih => rw [List.cons_append, tot_cons, tot_cons, ih]; omega
theorem tot_mem {k : List Nat} {x : Nat} (h : x ∈ k) : x ≤ tot k := by
  induction k with
  | nil => cases h
  | cons y k ih =>
    rw [tot_cons]
    rcases List.mem_cons.1 h with rfl | h
    · omega
    · have := ih h; omega
theorem tot_take_le (k : List Nat) (i : Nat) : tot (k.take i) ≤ tot k := by
  conv => rhs; rw [← List.take_append_drop i k, tot_append]
  omega
/-- How many counts are positive. -/
def nus (k : List Nat) : Nat := (k.filter (fun x => decide (0 < x))).length
theorem nus_append (k m : List Nat) : nus (k ++ m) = nus k + nus m := by simp [nus]
theorem nus_le (k : List Nat) : nus k ≤ k.length := by unfold nus; exact List.length_filter_le _ _
theorem nus_tot {k : List Nat} (h : 0 < nus k) : 0 < tot k := by
  unfold nus at h
  obtain ⟨x, hx⟩ := List.exists_mem_of_length_pos h
  rw [List.mem_filter, decide_eq_true_iff] at hx
  have := tot_mem hx.1
  omega

/-- Counts none of which is negative and whose sum is at most 2^40. -/
def fine (l : List Int) : Bool := l.all (fun z => decide (0 ≤ z)) && decide (tot (l.map Int.toNat) ≤ 1099511627776)
/-- What is told of counts: the total, how many are positive, whether they are valid. -/
def tl (l : List Int) : Nat := if fine l then tot (l.map Int.toNat) else 0
def us (l : List Int) : Nat := if fine l then nus (l.map Int.toNat) else 0
def may (l : List Int) : Bool := decide (0 < us l)

theorem fine_of {l : List Int} {i : Nat} (h : fine (l.take i) = false) : fine l = false := by
  cases hf : fine l with
  | false => rfl
  | true =>
    rw [← h]
    unfold fine at hf ⊢
    rw [Bool.and_eq_true, decide_eq_true_iff, List.all_eq_true] at hf
    symm
    rw [Bool.and_eq_true, decide_eq_true_iff, List.all_eq_true]
    refine ⟨fun z hz => hf.1 z (List.mem_of_mem_take hz), ?_⟩
    rw [List.map_take]
    exact Nat.le_trans (tot_take_le _ _) hf.2
theorem fine_step {l : List Int} {i : Nat} {z : Int} (hf : fine (l.take i) = true) (hz : l[i]? = some z) (h0 : 0 ≤ z) : fine (l.take (i + 1)) = decide (tot ((l.take i).map Int.toNat) + z.toNat ≤ 1099511627776) := by
  unfold fine at hf ⊢
  rw [Bool.and_eq_true] at hf
  rw [take_succ_get hz, List.all_append, hf.1, List.map_append, tot_append]
  simp [h0, tot]
theorem fine_neg {l : List Int} {i : Nat} {z : Int} (hz : l[i]? = some z) (h0 : z < 0) : fine l = false := by
  cases hf : fine l with
  | false => rfl
  | true =>
    unfold fine at hf
    rw [Bool.and_eq_true, List.all_eq_true] at hf
    have := hf.1 z (List.mem_of_getElem? hz)
    simp at this
    omega
theorem tot_step {l : List Int} {i : Nat} {z : Int} (hz : l[i]? = some z) : tot ((l.take (i + 1)).map Int.toNat) = tot ((l.take i).map Int.toNat) + z.toNat := by
  rw [take_succ_get hz, List.map_append, tot_append]; simp [tot]
theorem nus_step {l : List Int} {i : Nat} {z : Int} (hz : l[i]? = some z) : nus ((l.take (i + 1)).map Int.toNat) = nus ((l.take i).map Int.toNat) + if 0 < z then 1 else 0 := by
  rw [take_succ_get hz, List.map_append, nus_append]
  congr 1
  unfold nus
  by_cases h : 0 < z
  · simp [h]
  · simp [h]
/-- Valid counts are natural numbers. -/
theorem fine_nats {l : List Int} (h : fine l = true) : l = (l.map Int.toNat).map (fun n : Nat => (n : Int)) := by
  unfold fine at h
  rw [Bool.and_eq_true, List.all_eq_true] at h
  rw [List.map_map]
  conv => lhs; rw [← List.map_id l]
  refine List.map_congr_left fun z hz => ?_
  have := h.1 z hz
  simp at this
  simp; omega
theorem fine_tot {l : List Int} (h : fine l = true) : tot (l.map Int.toNat) ≤ 1099511627776 := by
  unfold fine at h
  rw [Bool.and_eq_true, decide_eq_true_iff] at h
  exact h.2
theorem may_fine {l : List Int} (h : may l = true) : fine l = true ∧ tl l = tot (l.map Int.toNat) ∧ us l = nus (l.map Int.toNat) ∧ 0 < nus (l.map Int.toNat) := by
  unfold may us at h
  cases hf : fine l with
  | false => rw [hf] at h; simp at h
  | true =>
    rw [hf] at h
    simp only [if_true, decide_eq_true_iff] at h
    refine ⟨rfl, ?_, ?_, h⟩
    · unfold tl; rw [hf]; rfl
    · unfold us; rw [hf]; rfl

/-- The first open element whose key no open one exceeds. -/
def pickF (ok : Nat → Bool) (key : Nat → Int) (b : Option Nat) (i : Nat) : Option Nat :=
  match b with
  | none => if ok i then some i else none
  | some j => if ok i && decide (key j < key i) then some i else some j
def pick (ok : Nat → Bool) (key : Nat → Int) (U : List Nat) : Option Nat := U.foldl (pickF ok key) none

theorem pick_snoc (ok : Nat → Bool) (key : Nat → Int) (U : List Nat) (i : Nat) : pick ok key (U ++ [i]) = pickF ok key (pick ok key U) i := by simp [pick]
theorem pick_filter {ok p : Nat → Bool} {key : Nat → Int} {U : List Nat} (h : ∀ i, ok i = true → p i = true) : pick ok key (U.filter p) = pick ok key U := by
  unfold pick
  rw [List.foldl_filter]
  congr 1
  funext b i
  by_cases hp : p i = true
  · simp [hp]
  · have ho : ok i = false := by
      cases ho : ok i with
      | false => rfl
      | true => exact absurd (h i ho) hp
    rw [if_neg hp]
    cases b <;> simp [pickF, ho]
theorem pick_fold {ok : Nat → Bool} {key : Nat → Int} (U : List Nat) : ∀ b0 : Option Nat, (∀ j, b0 = some j → ok j = true) →
    (U.foldl (pickF ok key) b0 = none → b0 = none ∧ ∀ j ∈ U, ok j = false) ∧
    (∀ b, U.foldl (pickF ok key) b0 = some b → ok b = true ∧ (b0 = some b ∨ b ∈ U) ∧ (∀ j, b0 = some j → key j ≤ key b) ∧ ∀ j ∈ U, ok j = true → key j ≤ key b) := by
  induction U with
  | nil =>
    intro b0 h0
    refine ⟨fun h => ⟨h, by simp⟩, fun b hb => ?_⟩
    simp only [List.foldl_nil] at hb
    refine ⟨h0 b hb, .inl hb, fun j hj => ?_, by simp⟩
    rw [hb] at hj
    cases hj
    exact Int.le_refl _
  | cons i U ih =>
    intro b0 h0
    rw [List.foldl_cons]
    have h1 : ∀ j, pickF ok key b0 i = some j → ok j = true := by
      intro j hj
      cases b0 with
      | none =>
        simp only [pickF] at hj
        split at hj
        · cases hj; assumption
        · cases hj
      | some j0 =>
        simp only [pickF] at hj
        split at hj
        · next hc => cases hj; rw [Bool.and_eq_true] at hc; exact hc.1
        · cases hj; exact h0 _ rfl
    obtain ⟨ha, hb⟩ := ih _ h1
    refine ⟨fun h => ?_, fun b h => ?_⟩
    · obtain ⟨h2, h3⟩ := ha h
      cases b0 with
      | none =>
        simp only [pickF] at h2
        split at h2
        · cases h2
        · next hc =>
          refine ⟨rfl, fun j hj => ?_⟩
          rcases List.mem_cons.1 hj with rfl | hj
          · simpa using hc
          · exact h3 j hj
      | some j0 =>
        simp only [pickF] at h2
        split at h2 <;> cases h2
    · obtain ⟨h2, h3, h4, h5⟩ := hb b h
      cases b0 with
      | none =>
        simp only [pickF] at h3 h4
        split at h3
        · next hc =>
          rw [if_pos hc] at h4
          refine ⟨h2, .inr ?_, (fun j hj => by cases hj), fun j hj ho => ?_⟩
          · rcases h3 with h3 | h3
            · cases h3; exact List.mem_cons_self
            · exact List.mem_cons_of_mem _ h3
          · rcases List.mem_cons.1 hj with rfl | hj
            · exact h4 _ rfl
            · exact h5 j hj ho
        · next hc =>
          refine ⟨h2, .inr ?_, (fun j hj => by cases hj), fun j hj ho => ?_⟩
          · rcases h3 with h3 | h3
            · cases h3
            · exact List.mem_cons_of_mem _ h3
          · rcases List.mem_cons.1 hj with rfl | hj
            · exact absurd ho hc
            · exact h5 j hj ho
      | some j0 =>
        simp only [pickF] at h3 h4
        split at h3
        · next hc =>
          rw [if_pos hc] at h4
          rw [Bool.and_eq_true, decide_eq_true_iff] at hc
          have hk := h4 i rfl
          refine ⟨h2, .inr ?_, (fun j hj => by cases hj; omega), fun j hj ho => ?_⟩
          · rcases h3 with h3 | h3
            · cases h3; exact List.mem_cons_self
            · exact List.mem_cons_of_mem _ h3
          · rcases List.mem_cons.1 hj with rfl | hj
            · exact hk
            · exact h5 j hj ho
        · next hc =>
          rw [if_neg hc] at h4
          have hk := h4 j0 rfl
          refine ⟨h2, ?_, (fun j hj => by cases hj; exact hk), fun j hj ho => ?_⟩
          · rcases h3 with h3 | h3
            · exact .inl h3
            · exact .inr (List.mem_cons_of_mem _ h3)
          · rcases List.mem_cons.1 hj with rfl | hj
            · rw [ho, Bool.true_and, decide_eq_true_iff] at hc
              omega
            · exact h5 j hj ho
theorem pick_none {ok : Nat → Bool} {key : Nat → Int} {U : List Nat} (h : pick ok key U = none) : ∀ j ∈ U, ok j = false := ((pick_fold U none (fun j h => by cases h)).1 h).2
theorem pick_some {ok : Nat → Bool} {key : Nat → Int} {U : List Nat} {b : Nat} (h : pick ok key U = some b) : ok b = true ∧ b ∈ U ∧ ∀ j ∈ U, ok j = true → key j ≤ key b := by
  obtain ⟨h1, h2, _, h3⟩ := (pick_fold U none (fun j h => by cases h)).2 b h
  refine ⟨h1, ?_, h3⟩
  rcases h2 with h2 | h2
  · cases h2
  · exact h2

/-- One state is given to, or taken from, the symbol to adjust. -/
def go1 (sg : Int) (ok : Int → Bool) (kf : Int → Int) (sh : Nat → Int) (t : Int) (U : List Nat) (st : Nat → Int) : Nat → Int :=
  match pick (fun i => ok (st i)) (fun i => kf (sh i - st i * t)) U with
  | none => st
  | some b => fun i => if i = b then st i + sg else st i
def goN (sg : Int) (ok : Int → Bool) (kf : Int → Int) (sh : Nat → Int) (t : Int) (U : List Nat) : Nat → (Nat → Int) → Nat → Int
  | 0, st => st
  | n + 1, st => goN sg ok kf sh t U n (go1 sg ok kf sh t U st)
abbrev upOk : Int → Bool := fun _ => true
abbrev dnOk : Int → Bool := fun x => decide (1 < x)
abbrev upKf : Int → Int := fun x => x
abbrev dnKf : Int → Int := fun x => -x
abbrev upN := goN 1 upOk upKf
abbrev dnN := goN (-1) dnOk dnKf

/-- The count of a symbol. -/
def cn (k : List Nat) (i : Nat) : Nat := k[i]?.getD 0
/-- The used symbols. -/
def usy (k : List Nat) : List Nat := (List.range k.length).filter (fun i => decide (0 < cn k i))
/-- Shares times the total, and the states that each symbol starts with. -/
def shr (k : List Nat) (s : Nat) (i : Nat) : Int := ((cn k i * s : Nat) : Int)
def st0 (k : List Nat) (s : Nat) (i : Nat) : Int := if cn k i = 0 then 0 else ((max 1 (cn k i * s / tot k) : Nat) : Int)
/-- The sum of the states. -/
def sm (st : Nat → Int) (U : List Nat) : Int := (U.map st).foldr (· + ·) 0
def lft (k : List Nat) (s : Nat) : Int := (s : Int) - sm (st0 k s) (usy k)
def fin (k : List Nat) (s : Nat) : Nat → Int :=
  dnN (shr k s) (tot k : Int) (usy k) (-(lft k s)).toNat (upN (shr k s) (tot k : Int) (usy k) (lft k s).toNat (st0 k s))
/-- The last used symbol. -/
def lst (k : List Nat) : Nat := (usy k).getLast?.getD 0
/-- The norms. -/
def nm (k : List Nat) (s : Nat) (i : Nat) : Int := if cn k i = 0 then 0 else if cn k i * s < tot k then -1 else fin k s i
def nrm (k : List Nat) (s : Nat) : List Int := (List.range (lst k + 1)).map (nm k s)

theorem sm_nil (st : Nat → Int) : sm st [] = 0 := rfl
theorem sm_cons (st : Nat → Int) (i : Nat) (U : List Nat) : sm st (i :: U) = st i + sm st U := rfl
theorem sm_append (st : Nat → Int) (U V : List Nat) : sm st (U ++ V) = sm st U + sm st V := by
  induction U with
  | nil => simp [sm]
  | cons i U ih => rw [List.cons_append, sm_cons, sm_cons, ih]; omega
theorem sm_congr {st st' : Nat → Int} {U : List Nat} (h : ∀ i ∈ U, st i = st' i) : sm st U = sm st' U := by
  unfold sm
  rw [List.map_congr_left h]
theorem sm_upd {st : Nat → Int} {b : Nat} {sg : Int} {U : List Nat} (hn : U.Nodup) (hb : b ∈ U) : sm (fun i => if i = b then st i + sg else st i) U = sm st U + sg := by
  induction U with
  | nil => cases hb
  | cons i U ih =>
    rw [List.nodup_cons] at hn
    rw [sm_cons, sm_cons]
    rcases List.mem_cons.1 hb with rfl | hb
    · rw [if_pos rfl, sm_congr (st' := st)]
      · omega
      · intro j hj
        rw [if_neg]
        rintro rfl
        exact hn.1 hj
    · rw [ih hn.2 hb, if_neg]
      · omega
      · rintro rfl
        exact hn.1 hb
theorem sm_ge {st : Nat → Int} {U : List Nat} (h : ∀ i ∈ U, st i ≤ 1) : sm st U ≤ U.length := by
  induction U with
  | nil => simp [sm]
  | cons i U ih =>
    rw [sm_cons, List.length_cons]
    have h1 := h i List.mem_cons_self
    have h2 := ih (fun j hj => h j (List.mem_cons_of_mem _ hj))
    omega

theorem usy_nodup (k : List Nat) : (usy k).Nodup := List.Pairwise.filter _ List.nodup_range
theorem usy_mem {k : List Nat} {i : Nat} : i ∈ usy k ↔ i < k.length ∧ 0 < cn k i := by
  unfold usy
  rw [List.mem_filter, List.mem_range, decide_eq_true_iff]
theorem cn_take {k : List Nat} {i j : Nat} (h : j < i) : cn (k.take i) j = cn k j := by
  unfold cn; rw [List.getElem?_take_of_lt h]
theorem cn_le {k : List Nat} (i : Nat) : cn k i ≤ tot k := by
  unfold cn
  cases h : k[i]? with
  | none => simp
  | some x => exact tot_mem (List.mem_of_getElem? h)

/-- The first i symbols' used ones. -/
def usi (k : List Nat) (i : Nat) : List Nat := (List.range i).filter (fun i => decide (0 < cn k i))
theorem usi_all (k : List Nat) : usi k k.length = usy k := rfl
theorem usi_succ (k : List Nat) (i : Nat) : usi k (i + 1) = usi k i ++ if 0 < cn k i then [i] else [] := by
  unfold usi
  rw [List.range_succ, List.filter_append]
  congr 1
  by_cases h : 0 < cn k i
  · simp [h]
  · simp [h]
theorem usi_len {k : List Nat} {i : Nat} (h : i ≤ k.length) : (usi k i).length = nus (k.take i) := by
  induction i with
  | zero => simp [usi, nus]
  | succ i ih =>
    rw [usi_succ, List.length_append, ih (by omega)]
    obtain ⟨x, hx⟩ : ∃ x, k[i]? = some x := ⟨_, List.getElem?_eq_getElem (by omega)⟩
    rw [take_succ_get hx, nus_append]
    congr 1
    have : cn k i = x := by unfold cn; rw [hx]; rfl
    rw [this]
    by_cases h : 0 < x
    · simp [nus, h]
    · simp [nus, h]
theorem usy_len (k : List Nat) : (usy k).length = nus k := by
  rw [← usi_all, usi_len (Nat.le_refl _), List.take_length]

theorem sm_bound {st : Nat → Int} {M : Int} {U : List Nat} (h : ∀ i ∈ U, 0 ≤ st i ∧ st i ≤ M) : 0 ≤ sm st U ∧ sm st U ≤ M * U.length := by
  induction U with
  | nil => simp [sm]
  | cons i U ih =>
    have h1 := h i List.mem_cons_self
    have h2 := ih (fun j hj => h j (List.mem_cons_of_mem _ hj))
    rw [sm_cons, List.length_cons]
    have : M * ((U.length + 1 : Nat) : Int) = M * U.length + M := by rw [Int.natCast_add, Int.mul_add]; simp
    omega
theorem st0_bd (k : List Nat) {s : Nat} (hs : s ≤ 512) (i : Nat) : 0 ≤ st0 k s i ∧ st0 k s i ≤ 512 := by
  unfold st0
  split
  · omega
  · have h5 : cn k i * s / tot k ≤ s := Nat.div_le_of_le_mul (Nat.mul_le_mul_right s (cn_le i))
    omega
theorem st0_pos {k : List Nat} {s i : Nat} (h : 0 < cn k i) : 1 ≤ st0 k s i := by
  unfold st0
  rw [if_neg (by omega)]
  omega

/-- What a step keeps. -/
theorem go1_of {sg : Int} {ok : Int → Bool} {kf : Int → Int} {sh : Nat → Int} {t : Int} {U : List Nat} {st : Nat → Int} {b : Nat} (h : pick (fun i => ok (st i)) (fun i => kf (sh i - st i * t)) U = some b) : go1 sg ok kf sh t U st = fun i => if i = b then st i + sg else st i := by
  unfold go1; rw [h]

/-- States as they are while they are adjusted: between 1 and M for the used symbols. -/
def Bd (U : List Nat) (st : Nat → Int) (M : Int) : Prop := ∀ i ∈ U, 1 ≤ st i ∧ st i ≤ M
theorem up_pick {sh : Nat → Int} {t : Int} {U : List Nat} {st : Nat → Int} (h : U ≠ []) : ∃ b, b ∈ U ∧ pick (fun i => upOk (st i)) (fun i => upKf (sh i - st i * t)) U = some b := by
  cases hp : pick (fun i => upOk (st i)) (fun i => upKf (sh i - st i * t)) U with
  | none =>
    have := pick_none hp
    rcases U with _ | ⟨i, U⟩
    · exact absurd rfl h
    · have := this i List.mem_cons_self
      simp at this
  | some b => exact ⟨b, (pick_some hp).2.1, rfl⟩
theorem dn_pick {sh : Nat → Int} {t : Int} {U : List Nat} {st : Nat → Int} (h : (U.length : Int) < sm st U) : ∃ b, b ∈ U ∧ 1 < st b ∧ pick (fun i => dnOk (st i)) (fun i => dnKf (sh i - st i * t)) U = some b := by
  cases hp : pick (fun i => dnOk (st i)) (fun i => dnKf (sh i - st i * t)) U with
  | none =>
    have h1 := pick_none hp
    have := sm_ge (st := st) (U := U) (fun i hi => by have := h1 i hi; simp at this; exact this)
    omega
  | some b =>
    have h1 := pick_some hp
    exact ⟨b, h1.2.1, by simpa using h1.1, rfl⟩

theorem upN_all {sh : Nat → Int} {t : Int} {U : List Nat} (hU : U ≠ []) (hn : U.Nodup) (k : Nat) : ∀ st : Nat → Int, sm (upN sh t U k st) U = sm st U + k ∧ ∀ lo M : Int, (∀ i ∈ U, lo ≤ st i ∧ st i ≤ M) → ∀ i ∈ U, lo ≤ upN sh t U k st i ∧ upN sh t U k st i ≤ M + k := by
  induction k with
  | zero => exact fun st => ⟨by simp [goN], fun lo M h i hi => by simpa [goN] using h i hi⟩
  | succ k ih =>
    intro st
    obtain ⟨b, hb, hp⟩ := up_pick (sh := sh) (t := t) (st := st) hU
    have e1 : go1 1 upOk upKf sh t U st = fun i => if i = b then st i + 1 else st i := go1_of hp
    obtain ⟨h1, h2⟩ := ih (go1 1 upOk upKf sh t U st)
    refine ⟨?_, fun lo M h i hi => ?_⟩
    · show sm (upN sh t U k (go1 1 upOk upKf sh t U st)) U = _
      rw [h1, e1, sm_upd hn hb]
      omega
    · have h3 := h2 lo (M + 1) (fun j hj => by
        have := h j hj
        rw [e1]
        show lo ≤ (if j = b then st j + 1 else st j) ∧ (if j = b then st j + 1 else st j) ≤ _
        split <;> omega) i hi
      show lo ≤ upN sh t U k (go1 1 upOk upKf sh t U st) i ∧ upN sh t U k (go1 1 upOk upKf sh t U st) i ≤ _
      omega
theorem dnN_all {sh : Nat → Int} {t : Int} {U : List Nat} (hn : U.Nodup) (k : Nat) : ∀ st : Nat → Int, (U.length : Int) + k ≤ sm st U → sm (dnN sh t U k st) U = sm st U - k ∧ ∀ M : Int, (∀ i ∈ U, 1 ≤ st i ∧ st i ≤ M) → ∀ i ∈ U, 1 ≤ dnN sh t U k st i ∧ dnN sh t U k st i ≤ M := by
  induction k with
  | zero => exact fun st _ => ⟨by simp [goN], fun M h i hi => by simpa [goN] using h i hi⟩
  | succ k ih =>
    intro st hs
    obtain ⟨b, hb, hb1, hp⟩ := dn_pick (sh := sh) (t := t) (st := st) (U := U) (by omega)
    have e1 : go1 (-1) dnOk dnKf sh t U st = fun i => if i = b then st i + -1 else st i := go1_of hp
    have e2 : sm (go1 (-1) dnOk dnKf sh t U st) U = sm st U + -1 := by rw [e1, sm_upd hn hb]
    obtain ⟨h1, h2⟩ := ih (go1 (-1) dnOk dnKf sh t U st) (by rw [e2]; omega)
    refine ⟨?_, fun M h i hi => ?_⟩
    · show sm (dnN sh t U k (go1 (-1) dnOk dnKf sh t U st)) U = _
      rw [h1, e2]
      omega
    · exact h2 M (fun j hj => by
        have := h j hj
        rw [e1]
        show 1 ≤ (if j = b then st j + -1 else st j) ∧ (if j = b then st j + -1 else st j) ≤ _
        split
        · next e => subst e; omega
        · omega) i hi

end Go.Proofs.YtnlhokfhkohdpaaGreat.No

namespace Go.Proofs.YtnlhokfhkohdpaaGreat.No
open Go.RowKit

theorem not_fine {l : List Int} (h : fine l = false) : tl l = 0 ∧ us l = 0 ∧ may l = false := by
  refine ⟨by unfold tl; rw [h]; rfl, by unfold us; rw [h]; rfl, by unfold may us; rw [h]; rfl⟩
theorem is_fine {l : List Int} (h : fine l = true) : tl l = tot (l.map Int.toNat) ∧ us l = nus (l.map Int.toNat) ∧ may l = decide (0 < nus (l.map Int.toNat)) := by
  refine ⟨by unfold tl; rw [h]; rfl, by unfold us; rw [h]; rfl, by unfold may us; rw [h]; rfl⟩

/-- What survey returns. -/
def srv (l : List Int) : Value := .tuple #[nv (tl l), nv (us l), .bool (may l)]
theorem srv_no {l : List Int} (h : fine l = false) : srv l = .tuple #[.int .i64 0, .int .i64 0, .bool false] := by
  obtain ⟨h1, h2, h3⟩ := not_fine h
  unfold srv
  rw [h1, h2, h3]; rfl
theorem srv_yes {l : List Int} {s u : Nat} (h : fine l = true) (hs : tot (l.map Int.toNat) = s) (hu : nus (l.map Int.toNat) = u) : srv l = .tuple #[nv s, nv u, .bool (decide (0 < (u : Int)))] := by
  obtain ⟨h1, h2, h3⟩ := is_fine h
  unfold srv
  rw [h1, h2, h3, hs, hu]
  simp

/-- What holds of the first i counts. -/
def Sv (l : List Int) (i s u : Nat) : Prop := fine (l.take i) = true ∧ tot ((l.take i).map Int.toNat) = s ∧ nus ((l.take i).map Int.toNat) = u
theorem Sv.zero (l : List Int) : Sv l 0 0 0 := by simp [Sv, fine, tot, nus]
theorem Sv.none {l : List Int} {i s u : Nat} (h : Sv l i s u) {x : Nat} (hx : l[i]? = some (x : Int)) (hb : 1099511627776 < s + x) : fine l = false := by
  refine fine_of (i := i + 1) ?_
  rw [fine_step h.1 hx (by omega), h.2.1]
  simp; omega
theorem Sv.step0 {l : List Int} {i s u : Nat} (h : Sv l i s u) (hx : l[i]? = some 0) (hb : s ≤ 1099511627776) : Sv l (i + 1) s u := by
  refine ⟨?_, ?_, ?_⟩
  · rw [fine_step h.1 hx (by omega), h.2.1]; simp; omega
  · rw [tot_step hx, h.2.1]; simp
  · rw [nus_step hx, h.2.2]; simp
theorem Sv.step1 {l : List Int} {i s u : Nat} (h : Sv l i s u) {x : Nat} (hx : l[i]? = some (x : Int)) (h0 : 0 < x) (hb : s + x ≤ 1099511627776) : Sv l (i + 1) (s + x) (u + 1) := by
  refine ⟨?_, ?_, ?_⟩
  · rw [fine_step h.1 hx (by omega), h.2.1]; simp; omega
  · rw [tot_step hx, h.2.1]; simp
  · rw [nus_step hx, h.2.2, if_pos (by omega)]
theorem Sv.all {l : List Int} {i s u : Nat} (h : Sv l i s u) (hi : l.length ≤ i) : srv l = .tuple #[nv s, nv u, .bool (decide (0 < (u : Int)))] := by
  unfold Sv at h
  rw [List.take_of_length_le hi] at h
  exact srv_yes h.1 h.2.1 h.2.2

set_option maxRecDepth 100000 in
set_option maxHeartbeats 1000000 in
theorem survey_any (w : World) (A : Option Addr) (l : List Int) (N c : Nat) (hN : l.length = N) (hb : N ≤ 1000000000) (hR : Ri w A l) :
    Calls Tryz.prog 15 #[.slice A N c] w fun e w' => e = .returned (srv l) ∧ w' = w := by
  obtain ⟨R, hRR⟩ : ∃ R, srv l = R := ⟨_, rfl⟩
  rw [hRR]
  have HR := Lib.hid hRR
  have HN := Lib.hid hN
  have HRD := Lib.hid hR
  clear hRR hN hR
  go_enter Tryz.func15, Tryz.ntmps15
  go_wp2
  go_loop [2, 3, 9] (fun t q p => ∃ i s u : Nat, i ≤ N ∧ p = .int .i64 (i : Int) ∧ t = .int .i64 (s : Int) ∧ q = .int .i64 (u : Int) ∧ s ≤ 1099511627776 ∧ u ≤ i ∧ Hid (Sv l i s u)) (fun _ _ p => N - (intOf p).toNat)
  case atStart => exact ⟨0, 0, 0, Nat.zero_le _, rfl, rfl, rfl, Nat.zero_le _, Nat.zero_le _, Lib.hid (Sv.zero l)⟩
  case round =>
    obtain ⟨i, s, u, hi, rfl, rfl, rfl, hs, hu, HA⟩ := hrel
    by_cases hlt : i < N
    · obtain ⟨z, hz⟩ : ∃ z, l[i]? = some z := ⟨_, List.getElem?_eq_getElem (by rw [HN.out]; exact hlt)⟩
      obtain ⟨ad, hA, hc⟩ := HRD.out i (iv z) (by rw [List.getElem?_map, hz]; rfl)
      subst hA
      by_cases hneg : z < 0
      · have HE : Hid (R = .tuple #[.int .i64 0, .int .i64 0, .bool false]) := Lib.hid (by rw [← HR.out]; exact srv_no (fine_neg hz hneg))
        clear hz
        go_wp2
        go_ret3
        exact ⟨by rw [HE.out]; rfl, rfl⟩
      · obtain ⟨x, rfl⟩ : ∃ x : Nat, z = (x : Int) := ⟨z.toNat, by omega⟩
        by_cases hgr : 1099511627776 < s + x
        · have HE : Hid (R = .tuple #[.int .i64 0, .int .i64 0, .bool false]) := Lib.hid (by rw [← HR.out]; exact srv_no (HA.out.none hz hgr))
          have hd : decide (1099511627776 - (s : Int) < (x : Int)) = true := decide_eq_true (by omega)
          clear hz
          go_wp2
          go_ret3
          exact ⟨by rw [HE.out]; rfl, rfl⟩
        · by_cases hx0 : x = 0
          · subst hx0
            have HT := Lib.hid (HA.out.step0 hz hs)
            simp only [Int.natCast_zero] at hc
            clear hz
            go_wp2
            exact ⟨⟨i + 1, s, u, by omega, by simp, rfl, rfl, hs, by omega, HT⟩, by simp [intOf]; omega⟩
          · have HT := Lib.hid (HA.out.step1 hz (by omega) (by omega))
            have hx1 : 0 < x := by omega
            have hsx : s + x ≤ 1099511627776 := by omega
            clear hz hx0
            go_wp2
            exact ⟨⟨i + 1, s + x, u + 1, by omega, by simp, by simp, by simp, hsx, by omega, HT⟩, by simp [intOf]; omega⟩
    · have HE : Hid (R = .tuple #[nv s, nv u, .bool (decide (0 < (u : Int)))]) := Lib.hid (by rw [← HR.out]; exact HA.out.all (by rw [HN.out]; omega))
      go_wp2
      go_ret3
      exact ⟨by rw [HE.out]; simp, rfl⟩

/-- What Size returns. -/
def siz (z : Int) : Nat := if z < 0 ∨ 20 < z then 0 else 2 ^ z.toNat

end Go.Proofs.YtnlhokfhkohdpaaGreat.No

namespace Go.Proofs.YtnlhokfhkohdpaaGreat.No
open Go.RowKit

/-- Portions as cells. -/
def flat (U : List Nat) (sh st : Nat → Int) : List Value := U.flatMap (fun i => [nv i, iv (sh i), iv (st i)])
theorem flat_len (U : List Nat) (sh st : Nat → Int) : (flat U sh st).length = U.length * 3 := by
  induction U with
  | nil => rfl
  | cons i U ih => simp only [flat, List.flatMap_cons, List.length_append, List.length_cons, List.length_nil] at ih ⊢; omega
theorem flat_append (U V : List Nat) (sh st : Nat → Int) : flat (U ++ V) sh st = flat U sh st ++ flat V sh st := by simp [flat]
theorem flat_get {U : List Nat} {sh st : Nat → Int} {j i : Nat} (h : U[j]? = some i) : (flat U sh st)[j * 3]? = some (nv i) ∧ (flat U sh st)[j * 3 + 1]? = some (iv (sh i)) ∧ (flat U sh st)[j * 3 + 2]? = some (iv (st i)) := by
  induction U generalizing j with
  | nil => simp at h
  | cons a U ih =>
    cases j with
    | zero => simp at h; subst h; simp [flat]
    | succ j =>
      have := ih (j := j) (by simpa using h)
      rw [show (j + 1) * 3 = j * 3 + 3 by omega]
      simpa [flat] using this
theorem flat_set {U : List Nat} {sh st : Nat → Int} {j i : Nat} (hn : U.Nodup) (h : U[j]? = some i) (y : Int) : (flat U sh st).set (j * 3 + 2) (iv y) = flat U sh (fun a => if a = i then y else st a) := by
  induction U generalizing j with
  | nil => simp at h
  | cons a U ih =>
    rw [List.nodup_cons] at hn
    cases j with
    | zero =>
      simp at h
      subst h
      simp only [flat, List.flatMap_cons]
      have : U.flatMap (fun i => [nv i, iv (sh i), iv (st i)]) = U.flatMap (fun i => [nv i, iv (sh i), iv (if i = a then y else st i)]) := by
        simp only [List.flatMap]
        congr 1
        refine List.map_congr_left fun b hb => ?_
        rw [if_neg]
        rintro rfl
        exact hn.1 hb
      rw [this]
      simp
    | succ j =>
      have hu : U[j]? = some i := by simpa using h
      have hm := List.mem_of_getElem? hu
      have hne : a ≠ i := by rintro rfl; exact hn.1 hm
      have := ih hn.2 hu
      rw [show (j + 1) * 3 + 2 = j * 3 + 2 + 3 by omega]
      simp only [flat, List.flatMap_cons, if_neg hne] at this ⊢
      rw [← this]
      simp

/-- Block b is a division: its portions, the total, the states that nobody has. -/
structure Dv (W : World) (B b : Nat) (v : Value) (U : List Nat) (sh st : Nat → Int) (t : Nat) (lf : Int) : Prop where
  blk : W.heap[b]? = some (.cells #[v, nv t, iv lf] 99 (0, 0))
  own : W.ownsRow B 101 3 v U.length (flat U sh st)
  low : B ≤ b
  off : v.ownBlock ≠ some b

section
variable {W W' : World} {B b : Nat} {v : Value} {U : List Nat} {sh st : Nat → Int} {t : Nat} {lf : Int}
theorem Dv.lt (h : Dv W B b v U sh st t lf) : b < W.heap.size := (Array.getElem?_eq_some_iff.1 h.blk).1
theorem Dv.c0 (h : Dv W B b v U sh st t lf) : W.cell? ⟨b, 0, none⟩ = some v := by rw [cell_of_row W b 0 _ _ _ h.blk]; rfl
theorem Dv.c1 (h : Dv W B b v U sh st t lf) : W.cell? ⟨b, 1, none⟩ = some (.int .i64 (t : Int)) := by rw [cell_of_row W b 1 _ _ _ h.blk]; rfl
theorem Dv.c2 (h : Dv W B b v U sh st t lf) : W.cell? ⟨b, 2, none⟩ = some (.int .i64 lf) := by rw [cell_of_row W b 2 _ _ _ h.blk]; rfl
theorem Dv.free (h : Dv W B b v U sh st t lf) (i : Nat) : W.frozen? ⟨b, i, none⟩ = false := by simp [World.frozen?, h.blk]
theorem own_lt3 {e : TypeId} {z n : Nat} {xs : List Value} (h : W.ownsRow B e z v n xs) {g : Nat} (hg : v.ownBlock = some g) : g < W.heap.size := by
  rcases h.2 with ⟨rfl, _⟩ | ⟨g', c, cur, rfl, _, hh, _⟩
  · cases hg
  · injection hg with hg
    subst hg
    exact (Array.getElem?_eq_some_iff.1 hh).1
theorem own_ge3 {e : TypeId} {z n : Nat} {xs : List Value} (h : W.ownsRow B e z v n xs) {g : Nat} (hg : v.ownBlock = some g) : B ≤ g := by
  rcases h.2 with ⟨rfl, _⟩ | ⟨g', c, cur, rfl, hb, _⟩
  · cases hg
  · injection hg with hg
    subst hg
    exact hb
theorem own_same3 {e : TypeId} {z n : Nat} {xs : List Value} (h : W.ownsRow B e z v n xs) (hb : ∀ g, v.ownBlock = some g → W'.heap[g]? = W.heap[g]?) : W'.ownsRow B e z v n xs := by
  refine ⟨h.1, ?_⟩
  rcases h.2 with h1 | ⟨g, c, cur, rfl, h2, hh, h3⟩
  · exact .inl h1
  · exact .inr ⟨g, c, cur, rfl, h2, (hb g rfl).trans hh, h3⟩
theorem own_form3 {e : TypeId} {z n : Nat} {xs : List Value} (h : W.ownsRow B e z v n xs) : ∃ A c, v = .slice A n c ∧ n ≤ c := by
  rcases h.2 with ⟨rfl, hn⟩ | ⟨g, c, cur, rfl, _, _, hc, _⟩
  · exact ⟨none, 0, by rw [hn], by omega⟩
  · exact ⟨_, _, rfl, hc⟩
theorem own_some3 {e : TypeId} {z n N c : Nat} {A : Option Addr} {xs : List Value} (h0 : 0 < n) (h : W.ownsRow B e z (.slice A N c) n xs) : ∃ g, A = some ⟨g, 0, none⟩ := by
  rcases h.2 with ⟨_, hn⟩ | ⟨g, c, cur, hv, _⟩
  · omega
  · injection hv with hA
    exact ⟨g, hA⟩
theorem Dv.same (h : Dv W B b v U sh st t lf) (hb : ∀ g, g = b ∨ v.ownBlock = some g → W'.heap[g]? = W.heap[g]?) : Dv W' B b v U sh st t lf :=
  ⟨(hb b (.inl rfl)).trans h.blk, own_same3 h.own (fun g e => hb g (.inr e)), h.low, h.off⟩
theorem Dv.drew (h : Dv W B b v U sh st t lf) : Dv W.drew B b v U sh st t lf := ⟨h.blk, h.own, h.low, h.off⟩
theorem Dv.below (h : Dv W B b v U sh st t lf) (hb : Below W.heap.size W W') : Dv W' B b v U sh st t lf :=
  h.same fun g e => by
    rcases e with rfl | e
    · exact hb.block _ h.lt
    · exact hb.block _ (own_lt3 h.own e)
theorem Dv.set2 (h : Dv W B b v U sh st t lf) (z : Int) : Dv (W.setCell ⟨b, 2, none⟩ (.int .i64 z)) B b v U sh st t z := by
  have hb := h.blk
  refine ⟨by simp [World.setCell, Array.getElem?_modify, hb], own_same3 h.own (fun g e => ?_), h.low, h.off⟩
  exact Below.heap_setCell W ⟨b, 2, none⟩ _ g (fun e2 => h.off (by rw [e, e2]))
end

theorem und_pl : Tryz.prog.underlying 97 = some (.slice 101) := by kernel_rfl
theorem por_info : (Tryz.prog.info? 101).map (fun i => (i.zero, i.size, i.bytes)) = some (some (.agg #[.int .i64 0, .int .i64 0, .int .i64 0]), 3, 24) := by kernel_rfl

/-- A portion is appended and the new slice stored. -/
theorem dv_app {wr wa w5 : World} {B b n c g cap i q : Nat} {A : Option Addr} {U : List Nat} {sh st : Nat → Int} {t : Nat} {lf X M : Int} {o : Obj}
    (hd : Dv wr B b (.slice A n c) U sh st t lf) (hB : Below wr.heap.size wr wa) (hn : U.length = n) (hsh : sh i = X) (hst : st i = M)
    (ho : w5.ownsRow B 101 3 (.slice (some ⟨g, 0, none⟩) (n + 1) cap) (n + 1) (flat U sh st ++ [nv i, iv X, iv M])) (hg : wa.grownBy w5 (Value.slice A n c).ownBlock)
    (hl : (Value.slice A n c).ownBlock = some g ∨ g = wa.heap.size) (hq : wa.heap[q]? = some o) (hqw : wr.heap.size ≤ q) :
    (w5.heap[b]? = some (.cells #[.slice A n c, nv t, iv lf] 99 (0, 0))) ∧
    Dv (w5.setCell ⟨b, 0, none⟩ (.slice (some ⟨g, 0, none⟩) (n + 1) cap)) B b (.slice (some ⟨g, 0, none⟩) (n + 1) cap) (U ++ [i]) sh st t lf ∧
    (w5.setCell ⟨b, 0, none⟩ (.slice (some ⟨g, 0, none⟩) (n + 1) cap)).heap[q]? = some o ∧ Below B wr (w5.setCell ⟨b, 0, none⟩ (.slice (some ⟨g, 0, none⟩) (n + 1) cap)) := by
  have hbl := hd.lt
  have hsz := hB.size
  have h1 : w5.heap[b]? = some (.cells #[.slice A n c, nv t, iv lf] 99 (0, 0)) := by
    rw [hg.block b (by omega) (fun e => hd.off e.symm), hB.block b hbl]
    exact hd.blk
  have hgb : g ≠ b := by
    rcases hl with e | e
    · rintro rfl; exact hd.off e
    · omega
  have hqo : some q ≠ (Value.slice A n c).ownBlock := by
    intro e
    have := own_lt3 hd.own e.symm
    omega
  have hql : q < wa.heap.size := (Array.getElem?_eq_some_iff.1 hq).1
  refine ⟨h1, ⟨?_, ?_, hd.low, ?_⟩, ?_, ?_⟩
  · simp [World.setCell, Array.getElem?_modify, h1]
  · rw [List.length_append, List.length_singleton, hn, flat_append]
    have e1 : flat [i] sh st = [nv i, iv X, iv M] := by simp [flat, hsh, hst]
    rw [e1]
    exact own_same3 ho (fun g' e => by
      cases e
      exact Below.heap_setCell w5 ⟨b, 0, none⟩ _ _ hgb)
  · intro e
    cases e
    exact hgb rfl
  · rw [Below.heap_setCell w5 ⟨b, 0, none⟩ _ _ (by show q ≠ b; omega), hg.block q hql hqo]
    exact hq
  · refine Below.setCell (p := ⟨b, 0, none⟩) ⟨hg.os.trans hB.os, hg.tape.trans hB.tape, hg.output.trans hB.output, Nat.le_trans hsz hg.size, fun j hj => ?_⟩ hd.low _
    have hlow := hd.low
    rw [hg.block j (by omega) (fun e => ?_), hB.block j (by omega)]
    have := own_ge3 hd.own e.symm
    omega

end Go.Proofs.YtnlhokfhkohdpaaGreat.No

namespace Go.Proofs.YtnlhokfhkohdpaaGreat.No
open Go.RowKit

set_option maxRecDepth 100000 in
set_option maxHeartbeats 1000000 in
theorem divide_any (w : World) (A : Option Addr) (k : List Nat) (N c T s : Nat) (hN : k.length = N) (hb : N ≤ 1000000000) (hT : tot k = T) (hT0 : 0 < T) (hTb : T ≤ 1099511627776) (hs : s ≤ 512) (hu : nus k ≤ s) (hR : Rn w A k) :
    Calls Tryz.prog 17 #[.slice A N c, .int .i64 (T : Int), .int .i64 (s : Int)] w fun e w' => ∃ v, e = .returned (.pointer (some ⟨w.heap.size, 0, none⟩)) ∧ Dv w' w.heap.size w.heap.size v (usy k) (shr k s) (st0 k s) T (lft k s) ∧ Below w.heap.size w w' := by
  have HN := Lib.hid hN
  have HT := Lib.hid hT
  have HU := Lib.hid hu
  have HRD := Lib.hid hR
  have D0 : Hid (Dv (w.alloc (.cells #[.slice none 0 0, .int .i64 (T : Int), .int .i64 (s : Int)] 99)) w.heap.size w.heap.size (.slice none 0 0) (usi k 0) (shr k s) (st0 k s) T ((s : Int) - sm (st0 k s) (usi k 0))) :=
    Lib.hid ⟨by rw [World.alloc_heap_new]; simp [usi, sm], World.ownsRow_nil _ _ _ _, Nat.le_refl _, by simp [Value.ownBlock]⟩
  have B0 : Hid (Below w.heap.size w (w.alloc (.cells #[.slice none 0 0, .int .i64 (T : Int), .int .i64 (s : Int)] 99))) := Lib.hid ((Below.refl _ w).alloc (Nat.le_refl _) _)
  obtain ⟨i0, hi0, hz0, hz1, hz2⟩ := info_parts por_info
  have HI := Lib.hid (And.intro hi0 (And.intro hz0 (And.intro hz1 hz2)))
  clear hN hT hR hu hi0 hz0 hz1 hz2
  go_enter Tryz.func17, Tryz.ntmps17
  go_wp2
  go_loopw [18] (fun p wr => ∃ i : Nat, i ≤ N ∧ p = .int .i64 (i : Int) ∧ Hid (∃ v, Dv wr w.heap.size w.heap.size v (usi k i) (shr k s) (st0 k s) T ((s : Int) - sm (st0 k s) (usi k i))) ∧ Hid (Below w.heap.size w wr)) (fun p _ => N - (intOf p).toNat)
  case atStart => exact ⟨0, Nat.zero_le _, rfl, Lib.hid ⟨_, D0.out⟩, B0⟩
  case round =>
    obtain ⟨i, hi, rfl, HD, HB⟩ := hrel
    clear D0 B0
    by_cases hlt : i < N
    · obtain ⟨x, hx⟩ : ∃ x, k[i]? = some x := ⟨_, List.getElem?_eq_getElem (by rw [HN.out]; exact hlt)⟩
      obtain ⟨ad, rfl, hc⟩ := HRD.out i (nv x) (by rw [List.getElem?_map, hx]; rfl)
      have hc2 := (HB.out.cell (cell_lt hc)).trans hc
      simp only [nv] at hc2
      have hcn : cn k i = x := by unfold cn; rw [hx]; rfl
      have hus := usi_succ k i
      rw [hcn] at hus
      clear hc
      by_cases hx0 : x = 0
      · subst hx0
        simp only [Int.natCast_zero] at hc2
        have HUS : Hid (usi k (i + 1) = usi k i) := Lib.hid (by rw [hus]; simp)
        clear hus hx hcn
        go_wp2
        exact ⟨⟨i + 1, by omega, by simp, by rw [HUS.out]; exact HD, HB⟩, by simp [intOf]; omega⟩
      · obtain ⟨v, hd⟩ := HD.out
        have hxT : x ≤ T := by rw [← HT.out, ← hcn]; exact cn_le i
        obtain ⟨X, hX⟩ : ∃ X, x * s = X := ⟨_, rfl⟩
        have hXb : X ≤ 562949953421312 := by rw [← hX]; exact Nat.mul_le_mul (show x ≤ 1099511627776 by omega) hs
        have e1 : (x : Int) * (s : Int) = (X : Int) := by rw [← hX]; exact (Int.natCast_mul x s).symm
        obtain ⟨Q, hQ⟩ : ∃ Q, X / T = Q := ⟨_, rfl⟩
        have hQb : Q ≤ 512 := by
          have h5 : X / T ≤ s := by
            rw [← hX]
            exact Nat.div_le_of_le_mul (Nat.mul_le_mul_right s hxT)
          omega
        have e2 : wrap64 ((X : Int) / (T : Int)) = (Q : Int) := by
          have : ((X : Int) / (T : Int)) = (Q : Int) := by rw [← hQ]; exact (Int.natCast_ediv X T).symm
          rw [this]; unfold wrap64; omega
        have hx1 : ((x : Int) == 0) = false := by simp; omega
        have HUS : Hid (usi k (i + 1) = usi k i ++ [i]) := Lib.hid (by rw [hus, if_pos (by omega)])
        have HSH : Hid (shr k s i = (X : Int)) := Lib.hid (by rw [shr, hcn, hX])
        have HST : Hid (st0 k s i = ((max 1 Q : Nat) : Int)) := Lib.hid (by rw [st0, hcn, if_neg hx0, hX, HT.out, hQ])
        obtain ⟨n, hnn⟩ : ∃ n, (usi k i).length = n := ⟨_, rfl⟩
        have HNN := Lib.hid hnn
        have hnb : n ≤ 512 := by
          rw [← hnn, usi_len (by rw [HN.out]; omega)]
          have h7 := HU.out
          have h8 : nus k = nus (k.take i) + nus (k.drop i) := by rw [← nus_append, List.take_append_drop]
          omega
        obtain ⟨A', c', rfl, hcc⟩ := own_form3 hd.own
        rw [hnn] at hd hcc
        have hlf : -262144 ≤ (s : Int) - sm (st0 k s) (usi k i) ∧ (s : Int) - sm (st0 k s) (usi k i) ≤ 512 := by
          have h9 := sm_bound (st := st0 k s) (M := 512) (U := usi k i) (fun j _ => st0_bd k hs j)
          rw [hnn] at h9
          omega
        obtain ⟨LF, hLF⟩ : ∃ LF, (s : Int) - sm (st0 k s) (usi k i) = LF := ⟨_, rfl⟩
        rw [hLF] at hd hlf
        have HDV := Lib.hid hd
        clear hus hx hcn hX hQ hx0 hd HD hnn
        by_cases hq : 1 < Q
        · have HM : Hid (st0 k s i = (Q : Int)) := Lib.hid (by rw [HST.out]; omega)
          clear HST
          go_wp2
          have P0 : Hid ((wr.alloc (Obj.cells #[Value.int .i64 (i : Int), Value.int .i64 (X : Int), Value.int .i64 (Q : Int)] 101)).heap[wr.heap.size]? = some (.cells #[Value.int .i64 (i : Int), Value.int .i64 (X : Int), Value.int .i64 (Q : Int)] 101 (0, 0))) := Lib.hid (World.alloc_heap_new wr _)
          have P1 : Hid (Below wr.heap.size wr (wr.alloc (Obj.cells #[Value.int .i64 (i : Int), Value.int .i64 (X : Int), Value.int .i64 (Q : Int)] 101))) := Lib.hid ((Below.refl _ wr).alloc (Nat.le_refl _) _)
          have P2 : Hid ((wr.alloc (Obj.cells #[Value.int .i64 (i : Int), Value.int .i64 (X : Int), Value.int .i64 (Q : Int)] 101)).heap.size = wr.heap.size + 1) := Lib.hid (World.size_alloc _ _)
          generalize wr.alloc (Obj.cells #[Value.int .i64 (i : Int), Value.int .i64 (X : Int), Value.int .i64 (Q : Int)] 101) = w1 at P0 P1 P2 ⊢
          have d1 := HDV.out.below P1.out
          have c0 := d1.c0
          have p0 : w1.cell? ⟨wr.heap.size, 0, none⟩ = some (.int .i64 (i : Int)) := by rw [cell_of_row _ _ 0 _ _ _ P0.out]; rfl
          have p1 : w1.cell? ⟨wr.heap.size, 1, none⟩ = some (.int .i64 (X : Int)) := by rw [cell_of_row _ _ 1 _ _ _ P0.out]; rfl
          have p2 : w1.cell? ⟨wr.heap.size, 2, none⟩ = some (.int .i64 (Q : Int)) := by rw [cell_of_row _ _ 2 _ _ _ P0.out]; rfl
          have L0 : Hid ((w1.alloc (Obj.cells #[Value.int .i64 (i : Int), Value.int .i64 (X : Int), Value.int .i64 (Q : Int)] 101)).heap[w1.heap.size]? = some (.cells #[Value.int .i64 (i : Int), Value.int .i64 (X : Int), Value.int .i64 (Q : Int)] 101 (0, 0))) := Lib.hid (World.alloc_heap_new w1 _)
          have L1 : Hid (Below w1.heap.size w1 (w1.alloc (Obj.cells #[Value.int .i64 (i : Int), Value.int .i64 (X : Int), Value.int .i64 (Q : Int)] 101))) := Lib.hid ((Below.refl _ w1).alloc (Nat.le_refl _) _)
          have L2 : Hid ((w1.alloc (Obj.cells #[Value.int .i64 (i : Int), Value.int .i64 (X : Int), Value.int .i64 (Q : Int)] 101)).ownsRow w.heap.size 101 3 (.slice A' n c') n (flat (usi k i) (shr k s) (st0 k s))) := Lib.hid (by have := (d1.below L1.out).own; rwa [HNN.out] at this)
          have L3 : Hid (w.heap.size ≤ (w1.alloc (Obj.cells #[Value.int .i64 (i : Int), Value.int .i64 (X : Int), Value.int .i64 (Q : Int)] 101)).heap.size) := Lib.hid (by rw [World.size_alloc, P2.out]; have := HB.out.size; omega)
          have L4 : Hid ((w1.alloc (Obj.cells #[Value.int .i64 (i : Int), Value.int .i64 (X : Int), Value.int .i64 (Q : Int)] 101)).heap[wr.heap.size]? = some (.cells #[Value.int .i64 (i : Int), Value.int .i64 (X : Int), Value.int .i64 (Q : Int)] 101 (0, 0))) := Lib.hid ((L1.out.block _ (by rw [P2.out]; omega)).trans P0.out)
          have L5 := Lib.hid (below_on P1.out (Nat.le_refl _) L1.out)
          have ca : (w1.alloc (Obj.cells #[Value.int .i64 (i : Int), Value.int .i64 (X : Int), Value.int .i64 (Q : Int)] 101)).cell? ⟨w.heap.size, 0, none⟩ = some (.slice A' n c') := (d1.below L1.out).c0
          clear d1
          go_region_law (refine step_append_lies _ rfl (.tmp 39) (.tmp 41) 97 rfl w.heap.size 101 i0 (.agg #[.int .i64 0, .int .i64 0, .int .i64 0]) 3 24 und_pl HI.out.1 HI.out.2.1 HI.out.2.2.1 HI.out.2.2.2 rfl (by decide) (.slice A' n c') n (flat (usi k i) (shr k s) (st0 k s)) (by simp [Act.eval]) L2.out ⟨w1.heap.size, 0, none⟩ 1 1 [.int .i64 (i : Int), .int .i64 (X : Int), .int .i64 (Q : Int)] (by simp [Act.eval]) rfl (World.news_of_block L0.out) (by simp [Value.oneCell']) (by decide) (by unfold maxLen; omega) (by omega) L3.out (w1.heap.size + 1) (by simp) ?_; intro g cap w5 ho5 hg5 hlie _; have H5 := Lib.hid (dv_app HDV.out L5.out HNN.out HSH.out HM.out ho5 ⟨hg5.os, hg5.tape, hg5.output, hg5.size, hg5.block⟩ (by rw [World.size_alloc]; exact hlie) L4.out (Nat.le_refl _)); have c5 : w5.cell? ⟨w.heap.size, 0, none⟩ = some (.slice A' n c') := (by rw [cell_of_row _ _ 0 _ _ _ H5.out.1]; rfl); have f5 : w5.frozen? ⟨w.heap.size, 0, none⟩ = false := (by simp [World.frozen?, H5.out.1]); clear ho5 hg5 hlie)
          all_goals
            obtain ⟨_, hd6, hq6, hb6⟩ := H5.out
            generalize w5.setCell ⟨w.heap.size, 0, none⟩ (Value.slice (some ⟨g, 0, none⟩) (n + 1) cap) = w6 at hd6 hq6 hb6 ⊢
            have c6 := hd6.c2
            have f6 := hd6.free 2
            have q6 : w6.cell? ⟨wr.heap.size, 2, none⟩ = some (.int .i64 (Q : Int)) := by rw [cell_of_row _ _ 2 _ _ _ hq6]; rfl
            have HF : Hid ((s : Int) - sm (st0 k s) (usi k (i + 1)) = LF - (Q : Int)) := Lib.hid (by rw [HUS.out, sm_append, sm_cons, sm_nil, HM.out]; omega)
            have HD6 := Lib.hid hd6
            have HB6 := Lib.hid (HB.out.trans hb6)
            clear hd6 hq6 hb6 H5 L0 L1 L2 L3 L4 L5 P0 P1 P2 HM HDV HRD p0 p1 p2 c0 ca c5 f5 hLF
            go_wp2
            go_region
            all_goals
              go_wp2
              exact ⟨⟨i + 1, by omega, by simp, Lib.hid ⟨_, by rw [HF.out, HUS.out]; exact (HD6.out.set2 _).drew⟩, Lib.hid (HB6.out.setCell (p := ⟨w.heap.size, 2, none⟩) (Nat.le_refl _) _).drew⟩, by simp [intOf]; omega⟩

        · have HM : Hid (st0 k s i = 1) := Lib.hid (by rw [HST.out]; omega)
          clear HST
          go_wp2
          have P0 : Hid ((wr.alloc (Obj.cells #[Value.int .i64 (i : Int), Value.int .i64 (X : Int), Value.int .i64 1] 101)).heap[wr.heap.size]? = some (.cells #[Value.int .i64 (i : Int), Value.int .i64 (X : Int), Value.int .i64 1] 101 (0, 0))) := Lib.hid (World.alloc_heap_new wr _)
          have P1 : Hid (Below wr.heap.size wr (wr.alloc (Obj.cells #[Value.int .i64 (i : Int), Value.int .i64 (X : Int), Value.int .i64 1] 101))) := Lib.hid ((Below.refl _ wr).alloc (Nat.le_refl _) _)
          have P2 : Hid ((wr.alloc (Obj.cells #[Value.int .i64 (i : Int), Value.int .i64 (X : Int), Value.int .i64 1] 101)).heap.size = wr.heap.size + 1) := Lib.hid (World.size_alloc _ _)
          generalize wr.alloc (Obj.cells #[Value.int .i64 (i : Int), Value.int .i64 (X : Int), Value.int .i64 1] 101) = w1 at P0 P1 P2 ⊢
          have d1 := HDV.out.below P1.out
          have c0 := d1.c0
          have p0 : w1.cell? ⟨wr.heap.size, 0, none⟩ = some (.int .i64 (i : Int)) := by rw [cell_of_row _ _ 0 _ _ _ P0.out]; rfl
          have p1 : w1.cell? ⟨wr.heap.size, 1, none⟩ = some (.int .i64 (X : Int)) := by rw [cell_of_row _ _ 1 _ _ _ P0.out]; rfl
          have p2 : w1.cell? ⟨wr.heap.size, 2, none⟩ = some (.int .i64 1) := by rw [cell_of_row _ _ 2 _ _ _ P0.out]; rfl
          have L0 : Hid ((w1.alloc (Obj.cells #[Value.int .i64 (i : Int), Value.int .i64 (X : Int), Value.int .i64 1] 101)).heap[w1.heap.size]? = some (.cells #[Value.int .i64 (i : Int), Value.int .i64 (X : Int), Value.int .i64 1] 101 (0, 0))) := Lib.hid (World.alloc_heap_new w1 _)
          have L1 : Hid (Below w1.heap.size w1 (w1.alloc (Obj.cells #[Value.int .i64 (i : Int), Value.int .i64 (X : Int), Value.int .i64 1] 101))) := Lib.hid ((Below.refl _ w1).alloc (Nat.le_refl _) _)
          have L2 : Hid ((w1.alloc (Obj.cells #[Value.int .i64 (i : Int), Value.int .i64 (X : Int), Value.int .i64 1] 101)).ownsRow w.heap.size 101 3 (.slice A' n c') n (flat (usi k i) (shr k s) (st0 k s))) := Lib.hid (by have := (d1.below L1.out).own; rwa [HNN.out] at this)
          have L3 : Hid (w.heap.size ≤ (w1.alloc (Obj.cells #[Value.int .i64 (i : Int), Value.int .i64 (X : Int), Value.int .i64 1] 101)).heap.size) := Lib.hid (by rw [World.size_alloc, P2.out]; have := HB.out.size; omega)
          have L4 : Hid ((w1.alloc (Obj.cells #[Value.int .i64 (i : Int), Value.int .i64 (X : Int), Value.int .i64 1] 101)).heap[wr.heap.size]? = some (.cells #[Value.int .i64 (i : Int), Value.int .i64 (X : Int), Value.int .i64 1] 101 (0, 0))) := Lib.hid ((L1.out.block _ (by rw [P2.out]; omega)).trans P0.out)
          have L5 := Lib.hid (below_on P1.out (Nat.le_refl _) L1.out)
          have ca : (w1.alloc (Obj.cells #[Value.int .i64 (i : Int), Value.int .i64 (X : Int), Value.int .i64 1] 101)).cell? ⟨w.heap.size, 0, none⟩ = some (.slice A' n c') := (d1.below L1.out).c0
          clear d1
          go_region_law (refine step_append_lies _ rfl (.tmp 39) (.tmp 41) 97 rfl w.heap.size 101 i0 (.agg #[.int .i64 0, .int .i64 0, .int .i64 0]) 3 24 und_pl HI.out.1 HI.out.2.1 HI.out.2.2.1 HI.out.2.2.2 rfl (by decide) (.slice A' n c') n (flat (usi k i) (shr k s) (st0 k s)) (by simp [Act.eval]) L2.out ⟨w1.heap.size, 0, none⟩ 1 1 [.int .i64 (i : Int), .int .i64 (X : Int), .int .i64 1] (by simp [Act.eval]) rfl (World.news_of_block L0.out) (by simp [Value.oneCell']) (by decide) (by unfold maxLen; omega) (by omega) L3.out (w1.heap.size + 1) (by simp) ?_; intro g cap w5 ho5 hg5 hlie _; have H5 := Lib.hid (dv_app HDV.out L5.out HNN.out HSH.out HM.out ho5 ⟨hg5.os, hg5.tape, hg5.output, hg5.size, hg5.block⟩ (by rw [World.size_alloc]; exact hlie) L4.out (Nat.le_refl _)); have c5 : w5.cell? ⟨w.heap.size, 0, none⟩ = some (.slice A' n c') := (by rw [cell_of_row _ _ 0 _ _ _ H5.out.1]; rfl); have f5 : w5.frozen? ⟨w.heap.size, 0, none⟩ = false := (by simp [World.frozen?, H5.out.1]); clear ho5 hg5 hlie)
          all_goals
            obtain ⟨_, hd6, hq6, hb6⟩ := H5.out
            generalize w5.setCell ⟨w.heap.size, 0, none⟩ (Value.slice (some ⟨g, 0, none⟩) (n + 1) cap) = w6 at hd6 hq6 hb6 ⊢
            have c6 := hd6.c2
            have f6 := hd6.free 2
            have q6 : w6.cell? ⟨wr.heap.size, 2, none⟩ = some (.int .i64 1) := by rw [cell_of_row _ _ 2 _ _ _ hq6]; rfl
            have HF : Hid ((s : Int) - sm (st0 k s) (usi k (i + 1)) = LF - 1) := Lib.hid (by rw [HUS.out, sm_append, sm_cons, sm_nil, HM.out]; omega)
            have HD6 := Lib.hid hd6
            have HB6 := Lib.hid (HB.out.trans hb6)
            clear hd6 hq6 hb6 H5 L0 L1 L2 L3 L4 L5 P0 P1 P2 HM HDV HRD p0 p1 p2 c0 ca c5 f5 hLF
            go_wp2
            go_region
            all_goals
              go_wp2
              exact ⟨⟨i + 1, by omega, by simp, Lib.hid ⟨_, by rw [HF.out, HUS.out]; exact (HD6.out.set2 _).drew⟩, Lib.hid (HB6.out.setCell (p := ⟨w.heap.size, 2, none⟩) (Nat.le_refl _) _).drew⟩, by simp [intOf]; omega⟩

    · have HE : Hid (usi k i = usy k) := Lib.hid (by rw [← usi_all, HN.out, show i = N by omega])
      rw [HE.out] at HD
      go_wp2
      go_ret
      obtain ⟨v, hd⟩ := HD.out
      exact ⟨v, rfl, hd, HB.out⟩

end Go.Proofs.YtnlhokfhkohdpaaGreat.No
