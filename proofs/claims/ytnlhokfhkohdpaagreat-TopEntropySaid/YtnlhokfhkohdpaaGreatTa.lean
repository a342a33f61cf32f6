/-
  The mathematics of histograms: validity, used symbols, totals. No condition.
  A scope whose gotos all go to one label ahead, behind which there is no goto: walked on at each goto. No condition.
  What list.used and the function that it returns do: that function hands on the used symbols and their counts, in order, until a round leaves. Conditions: the list is valid; while the rounds run, the variable that it captures holds the list, and the list's counts lie there.
  What tally.inspect does: it returns the histogram of valid counts: the counts, their total and the greatest of them. Nothing that was there has changed. Condition: the counts are valid.
  What tally.Check does: it answers 0 at a valid histogram and 2 elsewhere, and changes nothing. No condition.
  What tally.Histogram does: it returns the histogram of the concatenation of its arguments. Nothing that was there has changed. Condition: at most 2^31 bytes.
-/
import Derived.Test.YtnlhokfhkohdpaaGreatSa
import Derived.ScopeJumps
import Derived.WalkMore
import Derived.RegionIn
import Derived.RangeFuncCalls
import Derived.Shelf.RegionOpen
import Derived.Laws.Tables
namespace Go.Proofs.YtnlhokfhkohdpaaGreat.Ta

abbrev iv (z : Int) : Value := .int .i64 z
abbrev nv (n : Nat) : Value := .int .i64 (n : Int)
abbrev Ri (w : World) (A : Option Addr) (l : List Int) : Prop := Rv w A (l.map iv)
abbrev Rn (w : World) (A : Option Addr) (k : List Nat) : Prop := Rv w A (k.map nv)

/-- A valid count. -/
def okc (z : Int) : Bool := decide (0 ≤ z) && decide (z ≤ 2147483648)
/-- A valid histogram. -/
def ok (l : List Int) : Bool := decide (l.length ≤ 256) && l.all okc
def Vld (k : List Nat) : Prop := k.length ≤ 256 ∧ ∀ x ∈ k, x ≤ 2147483648

theorem ok_nats {l : List Int} (h : ok l = true) : ∃ k : List Nat, l = k.map (fun n : Nat => (n : Int)) ∧ Vld k := by
  unfold ok at h
  rw [Bool.and_eq_true, decide_eq_true_iff, List.all_eq_true] at h
  refine ⟨l.map Int.toNat, ?_, by simpa using h.1, ?_⟩
  · rw [List.map_map]
    conv => lhs; rw [← List.map_id l]
    refine List.map_congr_left fun z hz => ?_
    have := h.2 z hz
    simp [okc] at this
    simp; omega
  · intro x hx
    obtain ⟨z, hz, rfl⟩ := List.mem_map.1 hx
    have := h.2 z hz
    simp [okc] at this
    omega
theorem ok_of_vld {k : List Nat} (h : Vld k) : ok (k.map (fun n : Nat => (n : Int))) = true := by
  unfold ok
  rw [Bool.and_eq_true, decide_eq_true_iff, List.all_eq_true]
  refine ⟨by simpa using h.1, fun z hz => ?_⟩
  obtain ⟨x, hx, rfl⟩ := List.mem_map.1 hz
  have := h.2 x hx
  simp [okc]; omega
theorem ri_nats (k : List Nat) : (k.map (fun n : Nat => (n : Int))).map iv = k.map nv := by rw [List.map_map]; rfl

/-- The used symbols from symbol i on, with their counts. -/
def usd : Nat → List Nat → List (Nat × Nat)
  | _, [] => []
  | i, x :: k => if x = 0 then usd (i + 1) k else (i, x) :: usd (i + 1) k

theorem usd_append (i : Nat) (k m : List Nat) : usd i (k ++ m) = usd i k ++ usd (i + k.length) m := by
  induction k generalizing i with
  | nil => simp [usd]
  | cons x k ih =>
    simp only [List.cons_append, usd, ih, List.length_cons]
    split
    · rw [Nat.add_assoc, Nat.add_comm 1]
    · rw [List.cons_append, Nat.add_assoc, Nat.add_comm 1]

/-- How many of the first i symbols are used. -/
def nus (k : List Nat) (i : Nat) : Nat := (usd 0 (k.take i)).length

theorem nus_zero (k : List Nat) : nus k 0 = 0 := by simp [nus, usd]
theorem nus_all (k : List Nat) {i : Nat} (h : k.length ≤ i) : nus k i = (usd 0 k).length := by rw [nus, List.take_of_length_le h]
theorem take_succ_get {α : Type} {k : List α} {i : Nat} {x : α} (h : k[i]? = some x) : k.take (i + 1) = k.take i ++ [x] := by
  rw [List.take_add_one, h]; rfl
theorem nus_none {k : List Nat} {i : Nat} (h : k[i]? = some 0) : nus k (i + 1) = nus k i := by
  rw [nus, nus, take_succ_get h, usd_append]; simp [usd]
theorem nus_some {k : List Nat} {i x : Nat} (h : k[i]? = some x) (hx : 0 < x) : nus k (i + 1) = nus k i + 1 ∧ (usd 0 k)[nus k i]? = some (i, x) ∧ nus k i < (usd 0 k).length := by
  have hx' : x ≠ 0 := by omega
  have hlt : i < k.length := (List.getElem?_eq_some_iff.1 h).1
  have e : usd 0 k = usd 0 (k.take i) ++ ((i, x) :: usd (i + 1) (k.drop (i + 1))) := by
    conv => lhs; rw [← List.take_append_drop i k, usd_append, List.drop_eq_getElem_cons hlt]
    have hg : k[i] = x := (List.getElem?_eq_some_iff.1 h).2
    rw [hg, usd, if_neg hx', List.length_take, Nat.min_eq_left (by omega), Nat.zero_add]
  refine ⟨?_, ?_, ?_⟩
  · rw [nus, nus, take_succ_get h, usd_append]; simp [usd, hx']
  · rw [e, nus, List.getElem?_append_right (Nat.le_refl _)]; simp
  · rw [e, nus]; simp

/-- The j-th used symbol. -/
def sym (k : List Nat) (j : Nat) : Nat := ((usd 0 k)[j]?.getD (0, 0)).1
def cnt (k : List Nat) (j : Nat) : Nat := ((usd 0 k)[j]?.getD (0, 0)).2
theorem usd_get {k : List Nat} {j i x : Nat} (h : (usd 0 k)[j]? = some (i, x)) : sym k j = i ∧ cnt k j = x := by simp [sym, cnt, h]
theorem usd_mem : ∀ (k : List Nat) (i s x : Nat), (s, x) ∈ usd i k → ∃ d, s = i + d ∧ k[d]? = some x ∧ 0 < x
  | [], i, s, x, h => by simp [usd] at h
  | y :: k, i, s, x, h => by
    unfold usd at h
    split at h
    · obtain ⟨d, rfl, h1, h2⟩ := usd_mem k (i + 1) s x h
      exact ⟨d + 1, by omega, by simpa using h1, h2⟩
    · rcases List.mem_cons.1 h with h | h
      · cases h
        exact ⟨0, rfl, rfl, by omega⟩
      · obtain ⟨d, rfl, h1, h2⟩ := usd_mem k (i + 1) s x h
        exact ⟨d + 1, by omega, by simpa using h1, h2⟩
theorem usd_at {k : List Nat} {j : Nat} (h : j < (usd 0 k).length) : (usd 0 k)[j]? = some (sym k j, cnt k j) ∧ k[sym k j]? = some (cnt k j) ∧ 0 < cnt k j ∧ sym k j < k.length := by
  have e : (usd 0 k)[j]? = some (sym k j, cnt k j) := by
    unfold sym cnt
    rw [List.getElem?_eq_getElem h]
    rfl
  obtain ⟨d, h0, h1, h2⟩ := usd_mem k 0 _ _ (List.mem_of_getElem? e)
  rw [Nat.zero_add] at h0
  rw [← h0] at h1
  exact ⟨e, h1, h2, (List.getElem?_eq_some_iff.1 h1).1⟩

/-- What a loop over the used symbols makes of s, behind j of them. -/
def fold {β : Type} (f : β → Nat → Nat → β) (k : List Nat) (s : β) (j : Nat) : β := ((usd 0 k).take j).foldl (fun s p => f s p.1 p.2) s
theorem fold_zero {β : Type} (f : β → Nat → Nat → β) (k : List Nat) (s : β) : fold f k s 0 = s := by simp [fold]
theorem fold_succ {β : Type} (f : β → Nat → Nat → β) (k : List Nat) (s : β) {j : Nat} (h : j < (usd 0 k).length) : fold f k s (j + 1) = f (fold f k s j) (sym k j) (cnt k j) := by
  unfold fold
  rw [take_succ_get (usd_at h).1, List.foldl_append]
  rfl
theorem fold_all {β : Type} (f : β → Nat → Nat → β) (k : List Nat) (s : β) : fold f k s (usd 0 k).length = (usd 0 k).foldl (fun s p => f s p.1 p.2) s := by
  unfold fold; rw [List.take_length]
/-- A fold over the used symbols is one over all counts, if unused ones do not matter. -/
theorem foldl_usd {β : Type} (f : β → Nat → β) (h0 : ∀ s, f s 0 = s) (k : List Nat) (i : Nat) (s : β) : (usd i k).foldl (fun s p => f s p.2) s = k.foldl f s := by
  induction k generalizing i s with
  | nil => rfl
  | cons x k ih =>
    unfold usd
    split
    · next h => subst h; rw [ih, List.foldl_cons, h0]
    · rw [List.foldl_cons, ih, List.foldl_cons]

def tot (k : List Nat) : Nat := k.foldl (· + ·) 0
def gre (k : List Nat) : Nat := k.foldl max 0
theorem foldl_add (k : List Nat) (s : Nat) : k.foldl (· + ·) s = s + k.foldl (· + ·) 0 := by
  induction k generalizing s with
  | nil => rfl
  | cons x k ih => rw [List.foldl_cons, ih, List.foldl_cons, ih (0 + x)]; omega
theorem tot_cons (x : Nat) (k : List Nat) : tot (x :: k) = x + tot k := by unfold tot; rw [List.foldl_cons, foldl_add]; omega
theorem tot_append (k m : List Nat) : tot (k ++ m) = tot k + tot m := by unfold tot; rw [List.foldl_append, foldl_add]
theorem tot_le {b : Nat} : ∀ {k : List Nat}, (∀ x ∈ k, x ≤ b) → tot k ≤ k.length * b
  | [], _ => by simp [tot]
  | x :: k, h => by
    have h1 := h x (by simp)
    have h2 := tot_le (fun y hy => h y (by simp [hy]) : ∀ y ∈ k, y ≤ b)
    rw [tot_cons, List.length_cons, Nat.succ_mul]; omega
theorem le_tot : ∀ {k : List Nat} {x : Nat}, x ∈ k → x ≤ tot k
  | y :: k, x, h => by
    rw [tot_cons]
    rcases List.mem_cons.1 h with rfl | h
    · omega
    · have := le_tot h; omega
theorem Vld.tot {k : List Nat} (h : Vld k) : tot k ≤ 549755813888 := by
  have h1 := tot_le h.2
  have h2 : k.length * 2147483648 ≤ 256 * 2147483648 := Nat.mul_le_mul_right _ h.1
  omega
theorem foldl_max_le {b : Nat} : ∀ {k : List Nat} {s : Nat}, s ≤ b → (∀ x ∈ k, x ≤ b) → k.foldl max s ≤ b
  | [], _, hs, _ => hs
  | x :: k, s, hs, h => foldl_max_le (k := k) (s := max s x) (by have := h x (by simp); omega) (fun y hy => h y (by simp [hy]))
theorem foldl_max_ge : ∀ {k : List Nat} {s : Nat}, s ≤ k.foldl max s ∧ ∀ x ∈ k, x ≤ k.foldl max s
  | [], s => ⟨Nat.le_refl _, fun x h => by simp at h⟩
  | y :: k, s => by
    obtain ⟨h1, h2⟩ := foldl_max_ge (k := k) (s := max s y)
    refine ⟨by rw [List.foldl_cons]; omega, fun x hx => ?_⟩
    rw [List.foldl_cons]
    rcases List.mem_cons.1 hx with rfl | hx
    · omega
    · exact h2 x hx
theorem Vld.gre {k : List Nat} (h : Vld k) : gre k ≤ 2147483648 := foldl_max_le (by omega) h.2
theorem le_gre {k : List Nat} {x : Nat} (h : x ∈ k) : x ≤ gre k := foldl_max_ge.2 x h

/-- The total and the greatest count of the first j used symbols. -/
def totj (k : List Nat) (j : Nat) : Nat := fold (fun s _ x => s + x) k 0 j
def grej (k : List Nat) (j : Nat) : Nat := fold (fun s _ x => max s x) k 0 j
theorem totj_all (k : List Nat) : totj k (usd 0 k).length = tot k := by
  unfold totj tot; rw [fold_all]; exact foldl_usd (· + ·) (by simp) k 0 0
theorem grej_all (k : List Nat) : grej k (usd 0 k).length = gre k := by
  unfold grej gre; rw [fold_all]; exact foldl_usd max (by simp) k 0 0

theorem fold_bound {f : Nat → Nat → Nat → Nat} {b : Nat} {k : List Nat} (hf : ∀ s i x, (i, x) ∈ usd 0 k → f s i x ≤ s + b) (j : Nat) : fold f k 0 j ≤ j * b := by
  unfold fold
  have : ∀ (l : List (Nat × Nat)) (s : Nat), (∀ p ∈ l, p ∈ usd 0 k) → l.foldl (fun s p => f s p.1 p.2) s ≤ s + l.length * b := by
    intro l
    induction l with
    | nil => intro s _; simp
    | cons p l ih =>
      intro s h
      have h1 := hf s p.1 p.2 (h p (by simp))
      have h2 := ih (f s p.1 p.2) (fun q hq => h q (by simp [hq]))
      rw [List.foldl_cons, List.length_cons, Nat.succ_mul]
      omega
  have h3 := this ((usd 0 k).take j) 0 (fun p hp => List.mem_of_mem_take hp)
  have h4 : ((usd 0 k).take j).length * b ≤ j * b := Nat.mul_le_mul_right _ (by rw [List.length_take]; omega)
  omega
theorem usd_len (i : Nat) (k : List Nat) : (usd i k).length ≤ k.length := by
  induction k generalizing i with
  | nil => simp [usd]
  | cons x k ih => unfold usd; have := ih (i + 1); split <;> simp <;> omega
theorem Vld.cnt {k : List Nat} (h : Vld k) {j : Nat} (hj : j < (usd 0 k).length) : cnt k j ≤ 2147483648 := h.2 _ (List.mem_of_getElem? (usd_at hj).2.1)
theorem Vld.totj {k : List Nat} (h : Vld k) {j : Nat} (hj : j ≤ (usd 0 k).length) : totj k j ≤ 549755813888 := by
  have h1 := fold_bound (f := fun s _ x => s + x) (b := 2147483648) (k := k) (fun s i x hm => by
    obtain ⟨d, _, hx, _⟩ := usd_mem k 0 i x hm
    have := h.2 _ (List.mem_of_getElem? hx)
    omega) j
  have h2 := usd_len 0 k
  have h3 : j * 2147483648 ≤ 256 * 2147483648 := Nat.mul_le_mul_right _ (by have := h.1; omega)
  unfold Go.Proofs.YtnlhokfhkohdpaaGreat.Ta.totj
  omega

end Go.Proofs.YtnlhokfhkohdpaaGreat.Ta

namespace Go.Proofs.YtnlhokfhkohdpaaGreat.Ta
open Go.RowKit

theorem wp_scope_fwd {P : Program} {Q : Exit → Act → World → Prop} {a : Act} {w : World} {c rest : Code} (l : Nat) (hf : findLabel c l = some rest)
    (first : c.wp P (Exit.jump l (fun a w => rest.wp P (Exit.noGoto Q) a w) Q) a w) : (Code.scope c).wp P Q a w := by
  refine wp_scope_jumps l (fun a w => rest.wp P (Exit.noGoto Q) a w) (fun _ _ => 0) hf first (fun a w h => ?_)
  refine wp_mono h ?_
  intro e a' w' hq
  cases e <;> first | exact hq | exact hq.elim

theorem wpIn_scope_fwd {n : Nat} {P : Program} {Q : Exit → Act → World → Prop} {a : Act} {w : World} {c rest : Code} (l : Nat) (hf : findLabel c l = some rest)
    (first : c.wpIn Fence.wide n P (Exit.jump l (fun a w => rest.wpIn Fence.wide n P (Exit.noGoto Q) a w) Q) a w) : (Code.scope c).wpIn Fence.wide n P Q a w := by
  refine wpIn_wide.2 (wp_scope_fwd l hf (wp_mono (wpIn_wide.1 first) ?_))
  intro e a' w' hq
  cases e <;> first | exact hq | exact ⟨hq.1, wpIn_wide.1 hq.2⟩

section
variable {l : Nat} {J : Act → World → Prop} {Q : Exit → Act → World → Prop} {a : Act} {w : World}
@[go_sem] theorem jump_normal : Exit.jump l J Q .normal a w = Q .normal a w := rfl
@[go_sem] theorem jump_exit (id : Nat) : Exit.jump l J Q (.exit id) a w = Q (.exit id) a w := rfl
@[go_sem] theorem jump_ret : Exit.jump l J Q .ret a w = Q .ret a w := rfl
theorem jump_goto (h : J a w) : Exit.jump l J Q (.goto l) a w := ⟨rfl, h⟩
end

end Go.Proofs.YtnlhokfhkohdpaaGreat.Ta

namespace Go.Proofs.YtnlhokfhkohdpaaGreat.Ta
open Go.RowKit Go.Shelf

attribute [local go_sem] Oper.semAt_some

/-- The j-th used symbol and its count. -/
def symAt (k : List Nat) (j : Nat) : Array Value := #[nv (sym k j), nv (cnt k j)]

end Go.Proofs.YtnlhokfhkohdpaaGreat.Ta

namespace Go.Proofs.YtnlhokfhkohdpaaGreat.Ta
open Go.RowKit Go.Shelf

attribute [local go_sem] Oper.semAt_some

/-- A histogram as a value. -/
abbrev hst (A : Option Addr) (N c t g : Nat) : Value := .agg #[.slice A N c, nv t, nv g]
section
variable {W W' : World} {b : Nat} {A : Option Addr} {N c t g : Nat}
end

theorem und_il : Tryz.prog.underlying 24 = some (.slice (Tryz.prog.elem 24)) := by kernel_rfl
theorem elem_il : Tryz.prog.elem 24 = 3 := by kernel_rfl
theorem int_info : (Tryz.prog.info? 3).map (fun i => (i.zero, i.size, i.bytes)) = some (some (.int .i64 0), 1, 8) := by kernel_rfl
theorem size_int (W : World) : (sizeOf 3).run Tryz.prog W = .ok 1 W := by
  obtain ⟨i0, hi, _, hz1, _⟩ := info_parts int_info
  simp [sizeOf, typeInfo, hi, hz1]
theorem slice_full (A : Option Addr) (N c : Nat) (h : N ≤ c) (W : World) :
    (Instr.slice 24 (.slice A N c) none (some (.int .i64 (N : Int))) (some (.int .i64 (N : Int)))).run Tryz.prog W = .ok (.slice A N N) W := by
  rw [run_slice_hm _ _ _ _ _ und_il _ _ _ _ (by omega) (by omega) (by omega), elem_il, size_int]
  simp [Result.andThen, sliced]
  intro _
  cases A with
  | none => rfl
  | some a => simp [Addr.add]

theorem results_cell {fn : Func} {a : Tmp} {t : TypeId} (h : fn.results = #[.cell a t]) {tmps : Array Value} {P : Program} {w : World} {ad : Addr} {v : Value} (hp : tmps.getD a undef = .pointer (some ad)) (hl : (loadVar t ad).run P w = .ok v w) :
    (results fn tmps).run P w = .ok v w := by
  have hp' : tmps[a]?.getD undef = .pointer (some ad) := by simpa using hp
  simp [results, h, hp', asAddr]
  exact hl

end Go.Proofs.YtnlhokfhkohdpaaGreat.Ta

namespace Go.Proofs.YtnlhokfhkohdpaaGreat.Ta
open Go.RowKit

theorem ok_take {l : List Int} {i : Nat} {z : Int} (h : l[i]? = some z) : (l.take (i + 1)).all okc = ((l.take i).all okc && okc z) := by
  rw [take_succ_get h, List.all_append]; simp

end Go.Proofs.YtnlhokfhkohdpaaGreat.Ta

namespace Go.Proofs.YtnlhokfhkohdpaaGreat.Ta
open Go.RowKit

/-- One byte counted. -/
def hinc (h : List Nat) (b : UInt8) : List Nat := h.set b.toNat (h[b.toNat]?.getD 0 + 1)
/-- The histogram of some bytes. -/
def hs (l : List UInt8) : List Nat := l.foldl hinc (List.replicate 256 0)
theorem hs_append (l m : List UInt8) : hs (l ++ m) = m.foldl hinc (hs l) := by rw [hs, List.foldl_append, hs]
theorem hs_snoc (l : List UInt8) (b : UInt8) : hs (l ++ [b]) = hinc (hs l) b := by rw [hs_append]; rfl
theorem hinc_len (h : List Nat) (b : UInt8) : (hinc h b).length = h.length := by simp [hinc]
theorem foldl_hinc_len (l : List UInt8) (h : List Nat) : (l.foldl hinc h).length = h.length := by
  induction l generalizing h with
  | nil => rfl
  | cons b l ih => rw [List.foldl_cons, ih, hinc_len]
theorem hs_len (l : List UInt8) : (hs l).length = 256 := by rw [hs, foldl_hinc_len, List.length_replicate]
theorem foldl_hinc_le (l : List UInt8) (h : List Nat) (c : Nat) (hc : ∀ x ∈ h, x ≤ c) : ∀ x ∈ l.foldl hinc h, x ≤ c + l.length := by
  induction l generalizing h c with
  | nil => simpa using hc
  | cons b l ih =>
    intro x hx
    have := ih (hinc h b) (c + 1) (fun y hy => by
      rcases List.mem_or_eq_of_mem_set hy with hy | rfl
      · have := hc y hy; omega
      · cases hg : h[b.toNat]? with
        | none => simp
        | some z => have := hc z (List.mem_of_getElem? hg); simp; omega) x hx
    simp; omega
theorem hs_le (l : List UInt8) : ∀ x ∈ hs l, x ≤ l.length := by
  have := foldl_hinc_le l (List.replicate 256 0) 0 (fun x hx => by rw [List.eq_of_mem_replicate hx]; exact Nat.le_refl _)
  intro x hx
  have h2 := this x hx
  omega

/-- An array of 256 counts. -/
def Ab (W : World) (b : Nat) (h : List Nat) : Prop := h.length = 256 ∧ W.heap[b]? = some (.cells (h.map nv).toArray 44 (0, 0))
section
variable {W W' : World} {b : Nat} {h : List Nat}
theorem Ab.lt (H : Ab W b h) : b < W.heap.size := (Array.getElem?_eq_some_iff.1 H.2).1
theorem Ab.cell (H : Ab W b h) {i x : Nat} (hi : h[i]? = some x) : W.cell? ⟨b, i, none⟩ = some (.int .i64 (x : Int)) := by
  rw [cell_of_row W b i _ _ _ H.2, List.getElem?_toArray, List.getElem?_map, hi]; rfl
theorem Ab.free (H : Ab W b h) (i : Nat) : W.frozen? ⟨b, i, none⟩ = false := by
  have := H.2
  simp [World.frozen?, this]
theorem Ab.set (H : Ab W b h) (i x : Nat) : Ab (W.setCell ⟨b, i, none⟩ (.int .i64 (x : Int))) b (h.set i x) := by
  refine ⟨by rw [List.length_set]; exact H.1, ?_⟩
  have hb := H.2
  simp [World.setCell, Array.getElem?_modify, hb, List.map_set]
theorem Ab.rn (H : Ab W b h) : Rn W (some ⟨b, 0, none⟩) h := by
  intro j v hj
  refine ⟨_, rfl, ?_⟩
  rw [List.getElem?_map] at hj
  obtain ⟨x, hx, rfl⟩ := Option.map_eq_some_iff.1 hj
  have e : (Addr.add ⟨b, 0, none⟩ j) = ⟨b, j, none⟩ := by
    unfold Addr.add
    by_cases h0 : j = 0
    · rw [if_pos h0, h0]
    · rw [if_neg h0]; simp
  rw [e]
  exact H.cell hx
end

/-- The slices of a slice of slices: where each lies, its bytes, its capacity. -/
def RdR (w : World) (A : Option Addr) (ls : List (Option Addr × List UInt8 × Nat)) : Prop :=
  ∀ j B m c, ls[j]? = some (B, m, c) → ∃ ad, A = some ad ∧ w.cell? (ad.add j) = some (.slice B m.length c) ∧ m.length ≤ c ∧ Rd w B m
/-- All bytes of the first i slices. -/
def flt (ls : List (Option Addr × List UInt8 × Nat)) (i : Nat) : List UInt8 := ((ls.take i).map (·.2.1)).flatten
theorem flt_zero (ls : List (Option Addr × List UInt8 × Nat)) : flt ls 0 = [] := by simp [flt]
theorem flt_succ {ls : List (Option Addr × List UInt8 × Nat)} {i : Nat} {B : Option Addr} {m : List UInt8} {c : Nat} (h : ls[i]? = some (B, m, c)) : flt ls (i + 1) = flt ls i ++ m := by
  unfold flt; rw [take_succ_get h]; simp
theorem flt_le (ls : List (Option Addr × List UInt8 × Nat)) (i : Nat) : (flt ls i).length ≤ (flt ls ls.length).length := by
  have : flt ls ls.length = flt ls i ++ ((ls.drop i).map (·.2.1)).flatten := by
    unfold flt
    rw [List.take_length, ← List.flatten_append, ← List.map_append, List.take_append_drop]
  rw [this]; simp

theorem zero_arr : Tryz.zeroCells44 = ((List.replicate 256 0).map nv).toArray := by kernel_rfl
theorem arr_und : Tryz.prog.underlying 44 = some (.array 256 3) := by kernel_rfl
theorem arr_size : (Tryz.prog.info? 44).map (·.size) = some 256 := by kernel_rfl
theorem arr_index {h : List Nat} {s x : Nat} (hl : h.length = 256) (hx : h[s]? = some x) (W : World) : (Instr.index 44 (.agg (h.map nv).toArray) (.int .i64 (s : Int))).run Tryz.prog W = .ok (.int .i64 (x : Int)) W := by
  have hs : s < 256 := by have := (List.getElem?_eq_some_iff.1 hx).1; omega
  have e : (h.map nv)[s]? = some (.int .i64 (x : Int)) := by rw [List.getElem?_map, hx]; rfl
  have hl' : s < (h.map nv).length := by rw [List.length_map]; omega
  have e2 : (h.map nv)[s] = .int .i64 (x : Int) := (List.getElem?_eq_some_iff.1 e).2
  simp [Instr.index, run_underlying arr_und, asIntOf, part, go_sem, hs, hl, Result.andThen] at e2 ⊢
  exact e2
theorem Ab.load {W : World} {b : Nat} {h : List Nat} (H : Ab W b h) : (loadVar 44 ⟨b, 0, none⟩).run Tryz.prog W = .ok (.agg (h.map nv).toArray) W :=
  run_loadVar_row W b 44 44 _ (0, 0) _ H.2 arr_und rfl (by rw [arr_size]; simp [H.1])

set_option maxRecDepth 100000 in
set_option maxHeartbeats 1000000 in
theorem histogram_any (w : World) (A : Option Addr) (ls : List (Option Addr × List UInt8 × Nat)) (N c : Nat) (hN : ls.length = N) (hNN : N ≤ 1048576) (hb : (flt ls N).length ≤ 2147483648) (hR : RdR w A ls) :
    Calls Tryz.prog 5 #[.slice A N c] w fun e w' => e = .returned (.slice (some ⟨w.heap.size, 0, none⟩) 256 256) ∧ Ab w' w.heap.size (hs (flt ls N)) ∧ Below w.heap.size w w' := by
  go_enter Tryz.func5, Tryz.ntmps5
  have A0 : Hid (Ab (w.alloc (.cells Tryz.zeroCells44 44)) w.heap.size (hs (flt ls 0))) := Lib.hid ⟨hs_len _, by rw [flt_zero, zero_arr]; exact World.alloc_heap_new w _⟩
  have B0 : Hid (Below w.heap.size w (w.alloc (.cells Tryz.zeroCells44 44))) := Lib.hid ((Below.refl _ w).alloc (Nat.le_refl _) _)
  have HN := Lib.hid hN
  have HR := Lib.hid hR
  have HBT := Lib.hid hb
  clear hN hR hb
  go_wp2
  go_loopw [12] (fun p wr => ∃ i : Nat, i ≤ N ∧ p = .int .i64 (i : Int) ∧ Hid (Ab wr w.heap.size (hs (flt ls i))) ∧ Hid (Below w.heap.size w wr)) (fun p _ => N - (intOf p).toNat)
  case atStart => exact ⟨0, Nat.zero_le _, rfl, A0, B0⟩
  case round =>
    obtain ⟨i, hi, rfl, HA, HB⟩ := hrel
    by_cases hlt : i < N
    · obtain ⟨B, m, cc, hrow⟩ : ∃ B m cc, ls[i]? = some (B, m, cc) := ⟨_, _, _, List.getElem?_eq_getElem (by rw [HN.out]; exact hlt)⟩
      obtain ⟨ad, rfl, hcell, hmc, hrd⟩ := HR.out i B m cc hrow
      have HF := Lib.hid (flt_succ hrow)
      have HL := Lib.hid (flt_le ls (i + 1))
      obtain ⟨M, hM⟩ : ∃ M, m.length = M := ⟨_, rfl⟩
      rw [hM] at hcell hmc
      have HM := Lib.hid hM
      have RM := Lib.hid hrd
      have c0 : wr.cell? (ad.add i) = some (.slice B M cc) := (HB.out.cell (cell_lt hcell)).trans hcell
      have hMb : M ≤ 2147483648 := by
        have h1 := HL.out
        have h2 := HBT.out
        rw [HF.out, List.length_append, hM, HN.out] at h1
        omega
      clear hrow hcell hM hrd
      go_wp2
      go_loopw [18] (fun p wr => ∃ j : Nat, j ≤ M ∧ p = .int .i64 (j : Int) ∧ Hid (Ab wr w.heap.size (hs (flt ls i ++ m.take j))) ∧ Hid (Below w.heap.size w wr)) (fun p _ => M - (intOf p).toNat)
      case atStart => exact ⟨0, Nat.zero_le _, rfl, Lib.hid (by simpa using HA.out), HB⟩
      case round =>
        obtain ⟨j, hj, rfl, HA2, HB2⟩ := hrel
        by_cases hlj : j < M
        · obtain ⟨x, hx⟩ : ∃ x, m[j]? = some x := ⟨_, List.getElem?_eq_getElem (by rw [HM.out]; exact hlj)⟩
          obtain ⟨ad2, rfl, hc2⟩ := RM.out j (byt x) (by rw [List.getElem?_map, hx]; rfl)
          have c2 : wr.cell? (ad2.add j) = some (byt x) := (HB2.out.cell (cell_lt hc2)).trans hc2
          have HS : Hid (hs (flt ls i ++ m.take (j + 1)) = hinc (hs (flt ls i ++ m.take j)) x) := Lib.hid (by rw [take_succ_get hx, ← List.append_assoc, hs_snoc])
          have hxl := x.toNat_lt
          have hle := hs_le (flt ls i ++ m.take j)
          obtain ⟨h, hh⟩ : ∃ h, hs (flt ls i ++ m.take j) = h := ⟨_, rfl⟩
          rw [hh] at HA2 HS hle
          unfold hinc at HS
          obtain ⟨y, hy⟩ : ∃ y, x.toNat = y := ⟨_, rfl⟩
          simp only [byt] at c2
          rw [hy] at HS c2 hxl
          obtain ⟨z, hz⟩ : ∃ z, h[y]? = some z := ⟨_, List.getElem?_eq_getElem (by rw [HA2.out.1]; omega)⟩
          have c3 := HA2.out.cell hz
          have f3 := HA2.out.free y
          have hzb : z ≤ 2147483648 := by
            have h1 := hle z (List.mem_of_getElem? hz)
            have h2 := HL.out
            have h3 := HBT.out
            rw [HF.out, List.length_append, HM.out, HN.out] at h2
            rw [List.length_append, List.length_take] at h1
            omega
          rw [hz] at HS
          have HX := Lib.hid hx
          clear hx hc2 hle hh hy hz
          go_wp2
          refine ⟨⟨j + 1, by omega, by simp, Lib.hid (by rw [HS.out]; exact HA2.out.set y (z + 1)), Lib.hid (HB2.out.setCell (p := ⟨w.heap.size, y, none⟩) (Nat.le_refl _) _)⟩, by simp [intOf]; omega⟩
        · have HE : Hid (flt ls (i + 1) = flt ls i ++ m.take j) := Lib.hid (by rw [HF.out, List.take_of_length_le (by rw [HM.out]; omega)])
          go_wp2
          refine ⟨⟨i + 1, by omega, by simp, Lib.hid (by rw [HE.out]; exact HA2.out), HB2⟩, by simp [intOf]; omega⟩
    · have HE : Hid (flt ls N = flt ls i) := Lib.hid (by rw [show N = i by omega])
      have hld := HA.out.load
      have hle := hs_le (flt ls i)
      obtain ⟨h, hh⟩ : ∃ h, hs (flt ls i) = h := ⟨_, rfl⟩
      rw [hh] at HA hld hle
      have HH := Lib.hid hh
      have HLE := Lib.hid hle
      have hlen := HA.out.1
      clear hh hle
      go_wp2
      simp only [Oper.wp, execOp, Act.eval, Instr.loadAt, Instr.sureAddr, Sem.run_bind, Sem.run_pure, Result.andThen]
      simp [hld, Oper.upon]
      clear hld
      go_wp2
      go_loopw [30] (fun p wr => ∃ i : Nat, i ≤ 256 ∧ p = .int .i64 (i : Int) ∧ Hid (Ab wr w.heap.size h) ∧ Hid (Below w.heap.size w wr)) (fun p _ => 256 - (intOf p).toNat)
      case atStart => exact ⟨0, Nat.zero_le _, rfl, HA, HB⟩
      case round =>
        clear HA HB
        obtain ⟨s, hs, rfl, HA, HB⟩ := hrel
        by_cases hsl : s < 256
        · obtain ⟨x, hx⟩ : ∃ x, h[s]? = some x := ⟨_, List.getElem?_eq_getElem (by omega)⟩
          have hxb : x ≤ 2147483648 := by
            have h1 := HLE.out x (List.mem_of_getElem? hx)
            have h2 := HBT.out
            rw [HE.out] at h2
            omega
          have ix := fun W => arr_index (h := h) hlen hx W
          have f3 := HA.out.free s
          have c3 := HA.out.cell hx
          have HSET : Hid (h.set s x = h) := Lib.hid (by
            refine List.ext_getElem? fun q => ?_
            rw [List.getElem?_set]
            split
            · next e => subst e; rw [if_pos (by omega), hx]
            · rfl)
          clear hx
          go_wp2
          exact ⟨⟨s + 1, by omega, by simp, Lib.hid (by have := HA.out.set s x; rw [HSET.out] at this; exact this), Lib.hid (HB.out.setCell (p := ⟨w.heap.size, s, none⟩) (Nat.le_refl _) _)⟩, by simp [intOf]; omega⟩
        · go_wp2
          go_ret
          exact ⟨rfl, by rw [HE.out, HH.out]; exact HA.out, HB.out⟩

end Go.Proofs.YtnlhokfhkohdpaaGreat.Ta
