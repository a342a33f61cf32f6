/-
  The mathematics of normalized counts: valid counts, used symbols, the symbol to adjust, the adjustment one state at a time. No condition beyond those that each theorem states.
-/
import Derived.Test.YtkojdhmgefggjaaRng
namespace Go.Proofs.Ytkojdhmgefggjaa

abbrev iv (z : Int) : Value := .int .i64 z
abbrev nv (n : Nat) : Value := .int .i64 (n : Int)
abbrev Ri (w : World) (A : Option Addr) (l : List Int) : Prop := Rv w A (l.map iv)
abbrev Rn (w : World) (A : Option Addr) (k : List Nat) : Prop := Rv w A (k.map nv)
theorem ri_nats (k : List Nat) : (k.map (fun n : Nat => (n : Int))).map iv = k.map nv := by rw [List.map_map]; rfl
theorem take_succ_get {α : Type} {l : List α} {i : Nat} {z : α} (h : l[i]? = some z) : l.take (i + 1) = l.take i ++ [z] := by
  rw [List.take_add_one, h]; rfl

/-- The total. -/
def tot (k : List Nat) : Nat := k.foldr (· + ·) 0
theorem tot_cons (x : Nat) (k : List Nat) : tot (x :: k) = x + tot k := rfl
theorem tot_append (k m : List Nat) : tot (k ++ m) = tot k + tot m := by
  induction k with
  | nil => simp [tot]
  | cons x k ih => rw [List.cons_append, tot_cons, tot_cons, ih]; omega
theorem tot_mem {k : List Nat} {x : Nat} (h : x ∈ k) : x ≤ tot k := by
  induction k with
  | nil => cases h
  | cons y k ih =>
    rw [tot_cons]
    rcases List.mem_cons.1 h with rfl | h
    · omega
    · have := ih h; omega
theorem tot_take_le (k : List Nat) (i : Nat) : tot (k.take i) ≤ tot k := by
  conv => rhs; rw [← List.take_append_drop i k, tot_append]
  omega
/-- How many counts are positive. -/
def nus (k : List Nat) : Nat := (k.filter (fun x => decide (0 < x))).length
theorem nus_append (k m : List Nat) : nus (k ++ m) = nus k + nus m := by simp [nus]
theorem nus_le (k : List Nat) : nus k ≤ k.length := by unfold nus; exact List.length_filter_le _ _
theorem nus_tot {k : List Nat} (h : 0 < nus k) : 0 < tot k := by
  unfold nus at h
  obtain ⟨x, hx⟩ := List.exists_mem_of_length_pos h
  rw [List.mem_filter, decide_eq_true_iff] at hx
  have := tot_mem hx.1
  omega

/-- Counts none of which is negative and whose sum is at most 2^40. -/
def fine (l : List Int) : Bool := l.all (fun z => decide (0 ≤ z)) && decide (tot (l.map Int.toNat) ≤ 1099511627776)
/-- What is told of counts: the total, how many are positive, whether they are valid. -/
def tl (l : List Int) : Nat := if fine l then tot (l.map Int.toNat) else 0
def us (l : List Int) : Nat := if fine l then nus (l.map Int.toNat) else 0
def may (l : List Int) : Bool := decide (0 < us l)

theorem fine_of {l : List Int} {i : Nat} (h : fine (l.take i) = false) : fine l = false := by
  cases hf : fine l with
  | false => rfl
  | true =>
    rw [← h]
    unfold fine at hf ⊢
    rw [Bool.and_eq_true, decide_eq_true_iff, List.all_eq_true] at hf
    symm
    rw [Bool.and_eq_true, decide_eq_true_iff, List.all_eq_true]
    refine ⟨fun z hz => hf.1 z (List.mem_of_mem_take hz), ?_⟩
    rw [List.map_take]
    exact Nat.le_trans (tot_take_le _ _) hf.2
theorem fine_step {l : List Int} {i : Nat} {z : Int} (hf : fine (l.take i) = true) (hz : l[i]? = some z) (h0 : 0 ≤ z) : fine (l.take (i + 1)) = decide (tot ((l.take i).map Int.toNat) + z.toNat ≤ 1099511627776) := by
  unfold fine at hf ⊢
  rw [Bool.and_eq_true] at hf
  rw [take_succ_get hz, List.all_append, hf.1, List.map_append, tot_append]
  simp [h0, tot]
theorem fine_neg {l : List Int} {i : Nat} {z : Int} (hz : l[i]? = some z) (h0 : z < 0) : fine l = false := by
  cases hf : fine l with
  | false => rfl
  | true =>
    unfold fine at hf
    rw [Bool.and_eq_true, List.all_eq_true] at hf
    have := hf.1 z (List.mem_of_getElem? hz)
    simp at this
    omega
theorem tot_step {l : List Int} {i : Nat} {z : Int} (hz : l[i]? = some z) : tot ((l.take (i + 1)).map Int.toNat) = tot ((l.take i).map Int.toNat) + z.toNat := by
  rw [take_succ_get hz, List.map_append, tot_append]; simp [tot]
theorem nus_step {l : List Int} {i : Nat} {z : Int} (hz : l[i]? = some z) : nus ((l.take (i + 1)).map Int.toNat) = nus ((l.take i).map Int.toNat) + if 0 < z then 1 else 0 := by
  rw [take_succ_get hz, List.map_append, nus_append]
  congr 1
  unfold nus
  by_cases h : 0 < z
  · simp [h]
  · simp [h]
/-- Valid counts are natural numbers. -/
theorem fine_nats {l : List Int} (h : fine l = true) : l = (l.map Int.toNat).map (fun n : Nat => (n : Int)) := by
  unfold fine at h
  rw [Bool.and_eq_true, List.all_eq_true] at h
  rw [List.map_map]
  conv => lhs; rw [← List.map_id l]
  refine List.map_congr_left fun z hz => ?_
  have := h.1 z hz
  simp at this
  simp; omega
theorem fine_tot {l : List Int} (h : fine l = true) : tot (l.map Int.toNat) ≤ 1099511627776 := by
  unfold fine at h
  rw [Bool.and_eq_true, decide_eq_true_iff] at h
  exact h.2
theorem may_fine {l : List Int} (h : may l = true) : fine l = true ∧ tl l = tot (l.map Int.toNat) ∧ us l = nus (l.map Int.toNat) ∧ 0 < nus (l.map Int.toNat) := by
  unfold may us at h
  cases hf : fine l with
  | false => rw [hf] at h; simp at h
  | true =>
    rw [hf] at h
    simp only [if_true, decide_eq_true_iff] at h
    refine ⟨rfl, ?_, ?_, h⟩
    · unfold tl; rw [hf]; rfl
    · unfold us; rw [hf]; rfl

/-- The first open element whose key no open one exceeds. -/
def pickF (ok : Nat → Bool) (key : Nat → Int) (b : Option Nat) (i : Nat) : Option Nat :=
  match b with
  | none => if ok i then some i else none
  | some j => if ok i && decide (key j < key i) then some i else some j
def pick (ok : Nat → Bool) (key : Nat → Int) (U : List Nat) : Option Nat := U.foldl (pickF ok key) none

theorem pick_snoc (ok : Nat → Bool) (key : Nat → Int) (U : List Nat) (i : Nat) : pick ok key (U ++ [i]) = pickF ok key (pick ok key U) i := by simp [pick]
theorem pick_filter {ok p : Nat → Bool} {key : Nat → Int} {U : List Nat} (h : ∀ i, ok i = true → p i = true) : pick ok key (U.filter p) = pick ok key U := by
  unfold pick
  rw [List.foldl_filter]
  congr 1
  funext b i
  by_cases hp : p i = true
  · simp [hp]
  · have ho : ok i = false := by
      cases ho : ok i with
      | false => rfl
      | true => exact absurd (h i ho) hp
    rw [if_neg hp]
    cases b <;> simp [pickF, ho]
theorem pick_fold {ok : Nat → Bool} {key : Nat → Int} (U : List Nat) : ∀ b0 : Option Nat, (∀ j, b0 = some j → ok j = true) →
    (U.foldl (pickF ok key) b0 = none → b0 = none ∧ ∀ j ∈ U, ok j = false) ∧
    (∀ b, U.foldl (pickF ok key) b0 = some b → ok b = true ∧ (b0 = some b ∨ b ∈ U) ∧ (∀ j, b0 = some j → key j ≤ key b) ∧ ∀ j ∈ U, ok j = true → key j ≤ key b) := by
  induction U with
  | nil =>
    intro b0 h0
    refine ⟨fun h => ⟨h, by simp⟩, fun b hb => ?_⟩
    simp only [List.foldl_nil] at hb
    refine ⟨h0 b hb, .inl hb, fun j hj => ?_, by simp⟩
    rw [hb] at hj
    cases hj
    exact Int.le_refl _
  | cons i U ih =>
    intro b0 h0
    rw [List.foldl_cons]
    have h1 : ∀ j, pickF ok key b0 i = some j → ok j = true := by
      intro j hj
      cases b0 with
      | none =>
        simp only [pickF] at hj
        split at hj
        · cases hj; assumption
        · cases hj
      | some j0 =>
        simp only [pickF] at hj
        split at hj
        · next hc => cases hj; rw [Bool.and_eq_true] at hc; exact hc.1
        · cases hj; exact h0 _ rfl
    obtain ⟨ha, hb⟩ := ih _ h1
    refine ⟨fun h => ?_, fun b h => ?_⟩
    · obtain ⟨h2, h3⟩ := ha h
      cases b0 with
      | none =>
        simp only [pickF] at h2
        split at h2
        · cases h2
        · next hc =>
          refine ⟨rfl, fun j hj => ?_⟩
          rcases List.mem_cons.1 hj with rfl | hj
          · simpa using hc
          · exact h3 j hj
      | some j0 =>
        simp only [pickF] at h2
        split at h2 <;> cases h2
    · obtain ⟨h2, h3, h4, h5⟩ := hb b h
      cases b0 with
      | none =>
        simp only [pickF] at h3 h4
        split at h3
        · next hc =>
          rw [if_pos hc] at h4
          refine ⟨h2, .inr ?_, (fun j hj => by cases hj), fun j hj ho => ?_⟩
          · rcases h3 with h3 | h3
            · cases h3; exact List.mem_cons_self
            · exact List.mem_cons_of_mem _ h3
          · rcases List.mem_cons.1 hj with rfl | hj
            · exact h4 _ rfl
            · exact h5 j hj ho
        · next hc =>
          refine ⟨h2, .inr ?_, (fun j hj => by cases hj), fun j hj ho => ?_⟩
          · rcases h3 with h3 | h3
            · cases h3
            · exact List.mem_cons_of_mem _ h3
          · rcases List.mem_cons.1 hj with rfl | hj
            · exact absurd ho hc
            · exact h5 j hj ho
      | some j0 =>
        simp only [pickF] at h3 h4
        split at h3
        · next hc =>
          rw [if_pos hc] at h4
          rw [Bool.and_eq_true, decide_eq_true_iff] at hc
          have hk := h4 i rfl
          refine ⟨h2, .inr ?_, (fun j hj => by cases hj; omega), fun j hj ho => ?_⟩
          · rcases h3 with h3 | h3
            · cases h3; exact List.mem_cons_self
            · exact List.mem_cons_of_mem _ h3
          · rcases List.mem_cons.1 hj with rfl | hj
            · exact hk
            · exact h5 j hj ho
        · next hc =>
          rw [if_neg hc] at h4
          have hk := h4 j0 rfl
          refine ⟨h2, ?_, (fun j hj => by cases hj; exact hk), fun j hj ho => ?_⟩
          · rcases h3 with h3 | h3
            · exact .inl h3
            · exact .inr (List.mem_cons_of_mem _ h3)
          · rcases List.mem_cons.1 hj with rfl | hj
            · rw [ho, Bool.true_and, decide_eq_true_iff] at hc
              omega
            · exact h5 j hj ho
theorem pick_none {ok : Nat → Bool} {key : Nat → Int} {U : List Nat} (h : pick ok key U = none) : ∀ j ∈ U, ok j = false := ((pick_fold U none (fun j h => by cases h)).1 h).2
theorem pick_some {ok : Nat → Bool} {key : Nat → Int} {U : List Nat} {b : Nat} (h : pick ok key U = some b) : ok b = true ∧ b ∈ U ∧ ∀ j ∈ U, ok j = true → key j ≤ key b := by
  obtain ⟨h1, h2, _, h3⟩ := (pick_fold U none (fun j h => by cases h)).2 b h
  refine ⟨h1, ?_, h3⟩
  rcases h2 with h2 | h2
  · cases h2
  · exact h2

/-- One state is given to, or taken from, the symbol to adjust. -/
def go1 (sg : Int) (ok : Int → Bool) (kf : Int → Int) (sh : Nat → Int) (t : Int) (U : List Nat) (st : Nat → Int) : Nat → Int :=
  match pick (fun i => ok (st i)) (fun i => kf (sh i - st i * t)) U with
  | none => st
  | some b => fun i => if i = b then st i + sg else st i
def goN (sg : Int) (ok : Int → Bool) (kf : Int → Int) (sh : Nat → Int) (t : Int) (U : List Nat) : Nat → (Nat → Int) → Nat → Int
  | 0, st => st
  | n + 1, st => goN sg ok kf sh t U n (go1 sg ok kf sh t U st)
abbrev upOk : Int → Bool := fun _ => true
abbrev dnOk : Int → Bool := fun x => decide (1 < x)
abbrev upKf : Int → Int := fun x => x
abbrev dnKf : Int → Int := fun x => -x
abbrev upN := goN 1 upOk upKf
abbrev dnN := goN (-1) dnOk dnKf

/-- The count of a symbol. -/
def cn (k : List Nat) (i : Nat) : Nat := k[i]?.getD 0
/-- The used symbols. -/
def usy (k : List Nat) : List Nat := (List.range k.length).filter (fun i => decide (0 < cn k i))
/-- Shares times the total, and the states that each symbol starts with. -/
def shr (k : List Nat) (s : Nat) (i : Nat) : Int := ((cn k i * s : Nat) : Int)
def st0 (k : List Nat) (s : Nat) (i : Nat) : Int := if cn k i = 0 then 0 else ((max 1 (cn k i * s / tot k) : Nat) : Int)
/-- The sum of the states. -/
def sm (st : Nat → Int) (U : List Nat) : Int := (U.map st).foldr (· + ·) 0
def lft (k : List Nat) (s : Nat) : Int := (s : Int) - sm (st0 k s) (usy k)
def fin (k : List Nat) (s : Nat) : Nat → Int :=
  dnN (shr k s) (tot k : Int) (usy k) (-(lft k s)).toNat (upN (shr k s) (tot k : Int) (usy k) (lft k s).toNat (st0 k s))
/-- The last used symbol. -/
def lst (k : List Nat) : Nat := (usy k).getLast?.getD 0
/-- The norms. -/
def nm (k : List Nat) (s : Nat) (i : Nat) : Int := if cn k i = 0 then 0 else if cn k i * s < tot k then -1 else fin k s i
def nrm (k : List Nat) (s : Nat) : List Int := (List.range (lst k + 1)).map (nm k s)

theorem sm_nil (st : Nat → Int) : sm st [] = 0 := rfl
theorem sm_cons (st : Nat → Int) (i : Nat) (U : List Nat) : sm st (i :: U) = st i + sm st U := rfl
theorem sm_append (st : Nat → Int) (U V : List Nat) : sm st (U ++ V) = sm st U + sm st V := by
  induction U with
  | nil => simp [sm]
  | cons i U ih => rw [List.cons_append, sm_cons, sm_cons, ih]; omega
theorem sm_congr {st st' : Nat → Int} {U : List Nat} (h : ∀ i ∈ U, st i = st' i) : sm st U = sm st' U := by
  unfold sm
  rw [List.map_congr_left h]
theorem sm_upd {st : Nat → Int} {b : Nat} {sg : Int} {U : List Nat} (hn : U.Nodup) (hb : b ∈ U) : sm (fun i => if i = b then st i + sg else st i) U = sm st U + sg := by
  induction U with
  | nil => cases hb
  | cons i U ih =>
    rw [List.nodup_cons] at hn
    rw [sm_cons, sm_cons]
    rcases List.mem_cons.1 hb with rfl | hb
    · rw [if_pos rfl, sm_congr (st' := st)]
      · omega
      · intro j hj
        rw [if_neg]
        rintro rfl
        exact hn.1 hj
    · rw [ih hn.2 hb, if_neg]
      · omega
      · rintro rfl
        exact hn.1 hb
theorem sm_ge {st : Nat → Int} {U : List Nat} (h : ∀ i ∈ U, st i ≤ 1) : sm st U ≤ U.length := by
  induction U with
  | nil => simp [sm]
  | cons i U ih =>
    rw [sm_cons, List.length_cons]
    have h1 := h i List.mem_cons_self
    have h2 := ih (fun j hj => h j (List.mem_cons_of_mem _ hj))
    omega

theorem usy_nodup (k : List Nat) : (usy k).Nodup := List.Pairwise.filter _ List.nodup_range
theorem usy_mem {k : List Nat} {i : Nat} : i ∈ usy k ↔ i < k.length ∧ 0 < cn k i := by
  unfold usy
  rw [List.mem_filter, List.mem_range, decide_eq_true_iff]
theorem cn_take {k : List Nat} {i j : Nat} (h : j < i) : cn (k.take i) j = cn k j := by
  unfold cn; rw [List.getElem?_take_of_lt h]
theorem cn_le {k : List Nat} (i : Nat) : cn k i ≤ tot k := by
  unfold cn
  cases h : k[i]? with
  | none => simp
  | some x => exact tot_mem (List.mem_of_getElem? h)

/-- The first i symbols' used ones. -/
def usi (k : List Nat) (i : Nat) : List Nat := (List.range i).filter (fun i => decide (0 < cn k i))
theorem usi_all (k : List Nat) : usi k k.length = usy k := rfl
theorem usi_succ (k : List Nat) (i : Nat) : usi k (i + 1) = usi k i ++ if 0 < cn k i then [i] else [] := by
  unfold usi
  rw [List.range_succ, List.filter_append]
  congr 1
  by_cases h : 0 < cn k i
  · simp [h]
  · simp [h]
theorem usi_len {k : List Nat} {i : Nat} (h : i ≤ k.length) : (usi k i).length = nus (k.take i) := by
  induction i with
  | zero => simp [usi, nus]
  | succ i ih =>
    rw [usi_succ, List.length_append, ih (by omega)]
    obtain ⟨x, hx⟩ : ∃ x, k[i]? = some x := ⟨_, List.getElem?_eq_getElem (by omega)⟩
    rw [take_succ_get hx, nus_append]
    congr 1
    have : cn k i = x := by unfold cn; rw [hx]; rfl
    rw [this]
    by_cases h : 0 < x
    · simp [nus, h]
    · simp [nus, h]
theorem usy_len (k : List Nat) : (usy k).length = nus k := by
  rw [← usi_all, usi_len (Nat.le_refl _), List.take_length]

theorem sm_bound {st : Nat → Int} {M : Int} {U : List Nat} (h : ∀ i ∈ U, 0 ≤ st i ∧ st i ≤ M) : 0 ≤ sm st U ∧ sm st U ≤ M * U.length := by
  induction U with
  | nil => simp [sm]
  | cons i U ih =>
    have h1 := h i List.mem_cons_self
    have h2 := ih (fun j hj => h j (List.mem_cons_of_mem _ hj))
    rw [sm_cons, List.length_cons]
    have : M * ((U.length + 1 : Nat) : Int) = M * U.length + M := by rw [Int.natCast_add, Int.mul_add]; simp
    omega
theorem st0_bd (k : List Nat) {s : Nat} (hs : s ≤ 512) (i : Nat) : 0 ≤ st0 k s i ∧ st0 k s i ≤ 512 := by
  unfold st0
  split
  · omega
  · have h5 : cn k i * s / tot k ≤ s := Nat.div_le_of_le_mul (Nat.mul_le_mul_right s (cn_le i))
    omega
theorem st0_pos {k : List Nat} {s i : Nat} (h : 0 < cn k i) : 1 ≤ st0 k s i := by
  unfold st0
  rw [if_neg (by omega)]
  omega

/-- What a step keeps. -/
theorem go1_of {sg : Int} {ok : Int → Bool} {kf : Int → Int} {sh : Nat → Int} {t : Int} {U : List Nat} {st : Nat → Int} {b : Nat} (h : pick (fun i => ok (st i)) (fun i => kf (sh i - st i * t)) U = some b) : go1 sg ok kf sh t U st = fun i => if i = b then st i + sg else st i := by
  unfold go1; rw [h]

/-- States as they are while they are adjusted: between 1 and M for the used symbols. -/
def Bd (U : List Nat) (st : Nat → Int) (M : Int) : Prop := ∀ i ∈ U, 1 ≤ st i ∧ st i ≤ M
theorem up_pick {sh : Nat → Int} {t : Int} {U : List Nat} {st : Nat → Int} (h : U ≠ []) : ∃ b, b ∈ U ∧ pick (fun i => upOk (st i)) (fun i => upKf (sh i - st i * t)) U = some b := by
  cases hp : pick (fun i => upOk (st i)) (fun i => upKf (sh i - st i * t)) U with
  | none =>
    have := pick_none hp
    rcases U with _ | ⟨i, U⟩
    · exact absurd rfl h
    · have := this i List.mem_cons_self
      simp at this
  | some b => exact ⟨b, (pick_some hp).2.1, rfl⟩
theorem dn_pick {sh : Nat → Int} {t : Int} {U : List Nat} {st : Nat → Int} (h : (U.length : Int) < sm st U) : ∃ b, b ∈ U ∧ 1 < st b ∧ pick (fun i => dnOk (st i)) (fun i => dnKf (sh i - st i * t)) U = some b := by
  cases hp : pick (fun i => dnOk (st i)) (fun i => dnKf (sh i - st i * t)) U with
  | none =>
    have h1 := pick_none hp
    have := sm_ge (st := st) (U := U) (fun i hi => by have := h1 i hi; simp at this; exact this)
    omega
  | some b =>
    have h1 := pick_some hp
    exact ⟨b, h1.2.1, by simpa using h1.1, rfl⟩

theorem upN_all {sh : Nat → Int} {t : Int} {U : List Nat} (hU : U ≠ []) (hn : U.Nodup) (k : Nat) : ∀ st : Nat → Int, sm (upN sh t U k st) U = sm st U + k ∧ ∀ lo M : Int, (∀ i ∈ U, lo ≤ st i ∧ st i ≤ M) → ∀ i ∈ U, lo ≤ upN sh t U k st i ∧ upN sh t U k st i ≤ M + k := by
  induction k with
  | zero => exact fun st => ⟨by simp [goN], fun lo M h i hi => by simpa [goN] using h i hi⟩
  | succ k ih =>
    intro st
    obtain ⟨b, hb, hp⟩ := up_pick (sh := sh) (t := t) (st := st) hU
    have e1 : go1 1 upOk upKf sh t U st = fun i => if i = b then st i + 1 else st i := go1_of hp
    obtain ⟨h1, h2⟩ := ih (go1 1 upOk upKf sh t U st)
    refine ⟨?_, fun lo M h i hi => ?_⟩
    · show sm (upN sh t U k (go1 1 upOk upKf sh t U st)) U = _
      rw [h1, e1, sm_upd hn hb]
      omega
    · have h3 := h2 lo (M + 1) (fun j hj => by
        have := h j hj
        rw [e1]
        show lo ≤ (if j = b then st j + 1 else st j) ∧ (if j = b then st j + 1 else st j) ≤ _
        split <;> omega) i hi
      show lo ≤ upN sh t U k (go1 1 upOk upKf sh t U st) i ∧ upN sh t U k (go1 1 upOk upKf sh t U st) i ≤ _
      omega
theorem dnN_all {sh : Nat → Int} {t : Int} {U : List Nat} (hn : U.Nodup) (k : Nat) : ∀ st : Nat → Int, (U.length : Int) + k ≤ sm st U → sm (dnN sh t U k st) U = sm st U - k ∧ ∀ M : Int, (∀ i ∈ U, 1 ≤ st i ∧ st i ≤ M) → ∀ i ∈ U, 1 ≤ dnN sh t U k st i ∧ dnN sh t U k st i ≤ M := by
  induction k with
  | zero => exact fun st _ => ⟨by simp [goN], fun M h i hi => by simpa [goN] using h i hi⟩
  | succ k ih =>
    intro st hs
    obtain ⟨b, hb, hb1, hp⟩ := dn_pick (sh := sh) (t := t) (st := st) (U := U) (by omega)
    have e1 : go1 (-1) dnOk dnKf sh t U st = fun i => if i = b then st i + -1 else st i := go1_of hp
    have e2 : sm (go1 (-1) dnOk dnKf sh t U st) U = sm st U + -1 := by rw [e1, sm_upd hn hb]
    obtain ⟨h1, h2⟩ := ih (go1 (-1) dnOk dnKf sh t U st) (by rw [e2]; omega)
    refine ⟨?_, fun M h i hi => ?_⟩
    · show sm (dnN sh t U k (go1 (-1) dnOk dnKf sh t U st)) U = _
      rw [h1, e2]
      omega
    · exact h2 M (fun j hj => by
        have := h j hj
        rw [e1]
        show 1 ≤ (if j = b then st j + -1 else st j) ∧ (if j = b then st j + -1 else st j) ≤ _
        split
        · next e => subst e; omega
        · omega) i hi

end Go.Proofs.Ytkojdhmgefggjaa
