/-
  Rows of pairs: slices of them, append of any row of pairs onto a row of the call's own, in a region that draws its order. Conditions: those that each theorem states.
-/
import Derived.Maps.AppendAt
import Derived.Deep.AppendLies
import Derived.Deep.RegionLaw
import Derived.Test.YtdlhfcapfbbjjaaIkp
import Derived.Test.YtdlhfcapfbbjjaaRis
namespace Go.Proofs.Ytdlhfcapfbbjjaa
open Go.RowKit

theorem und_prs : Try.prog.underlying 50 = some (.slice 55) := by kernel_rfl
theorem und_prs2 : Try.prog.underlying 50 = some (.slice (Try.prog.elem 50)) := by kernel_rfl
theorem elem_prs : Try.prog.elem 50 = 55 := by kernel_rfl
theorem prs_info : (Try.prog.info? 55).map (fun i => (i.zero, i.size, i.bytes)) = some (some (.agg #[.int .i64 0, .int .i64 0]), 2, 16) := by kernel_rfl
theorem size_prs (W : World) : (sizeOf 55).run Try.prog W = .ok 2 W := by
  obtain ⟨i0, hi, _, hz1, _⟩ := info_parts prs_info
  simp [sizeOf, typeInfo, hi, hz1]
/-- Where the rest of a slice of pairs begins. -/
def offp (A : Option Addr) (c n : Nat) : Option Addr := if c = n then A else A.map (·.add (n * 2))
theorem offp_zero (A : Option Addr) (c : Nat) : offp A c 0 = A := by
  unfold offp
  split
  · rfl
  · cases A with
    | none => rfl
    | some a => simp [Addr.add]
theorem slice_hip (A : Option Addr) (N c n : Nat) (h : n ≤ c) (W : World) : (Instr.slice 50 (.slice A N c) none (some (.int .i64 (n : Int))) none).run Try.prog W = .ok (.slice A n c) W := by
  rw [run_slice_h _ _ _ _ _ und_prs2 _ _ (by omega) (by omega), elem_prs, size_prs]
  simp [Result.andThen, sliced]
  intro _
  cases A with
  | none => rfl
  | some a => simp [Addr.add]
theorem slice_lop (A : Option Addr) (N c n : Nat) (h : n ≤ N) (W : World) : (Instr.slice 50 (.slice A N c) (some (.int .i64 (n : Int))) none none).run Try.prog W = .ok (.slice (offp A c n) (N - n) (c - n)) W := by
  rw [run_slice_l _ _ _ _ _ und_prs2 _ _ (by omega) (by omega), elem_prs, size_prs]
  simp [Result.andThen, sliced, offp]
theorem flat2_drop (es : List (Nat × Nat)) : ∀ n, flat2 (es.drop n) = (flat2 es).drop (n * 2) := by
  induction es with
  | nil => intro n; simp [flat2]
  | cons p es ih =>
    intro n
    cases n with
    | zero => simp
    | succ n =>
      rw [List.drop_succ_cons, ih, show (n + 1) * 2 = n * 2 + 2 by omega]
      simp [flat2]
theorem flat2_tak (es : List (Nat × Nat)) : ∀ n, flat2 (es.take n) = (flat2 es).take (n * 2) := by
  induction es with
  | nil => intro n; simp [flat2]
  | cons p es ih =>
    intro n
    cases n with
    | zero => simp [flat2]
    | succ n =>
      rw [List.take_succ_cons, show (n + 1) * 2 = n * 2 + 2 by omega]
      have := ih n
      simp only [flat2, List.flatMap_cons] at this ⊢
      rw [this]
      simp
theorem flat2_app (C D : List (Nat × Nat)) : flat2 (C ++ D) = flat2 C ++ flat2 D := by simp [flat2]
theorem flat2_one (S : List (Nat × Nat)) : ∀ u ∈ flat2 S, u.oneCell' = true := by
  induction S with
  | nil => intro u hu; simp [flat2] at hu
  | cons p S ih =>
    intro u hu
    simp only [flat2, List.flatMap_cons, List.mem_append] at hu
    rcases hu with hu | hu
    · simp at hu
      rcases hu with rfl | rfl <;> rfl
    · exact ih u hu
theorem offp_rv {w : World} {A : Option Addr} {S : List (Nat × Nat)} {c n : Nat} (h : Rv w A (flat2 S)) (hc : S.length ≤ c) : Rv w (offp A c n) (flat2 (S.drop n)) := by
  unfold offp
  by_cases hcn : c = n
  · rw [if_pos hcn, List.drop_of_length_le (by omega)]
    exact Rv.nil _ _
  · rw [if_neg hcn, flat2_drop]
    have := Rv.cut h (n * 2) (flat2 S).length
    rw [List.take_of_length_le (by rw [List.length_drop]; omega)] at this
    exact this
theorem take_rv {w : World} {A : Option Addr} {S : List (Nat × Nat)} (h : Rv w A (flat2 S)) (n : Nat) : Rv w A (flat2 (S.take n)) := by
  rw [flat2_tak]
  exact h.take _
theorem own2_rv {w : World} {base n cap : Nat} {e : TypeId} {A : Option Addr} {xs : List Value} (h : w.ownsRow base e 2 (.slice A n cap) n xs) : Rv w A xs := by
  rcases h.2 with ⟨hv, hn⟩ | ⟨g, c, cur, hv, _⟩
  · have h1 := h.1
    rw [hn] at h1
    have : xs = [] := List.eq_nil_of_length_eq_zero (by omega)
    subst this
    exact Rv.nil _ _
  · injection hv with hA
    subst hA
    intro j u hj
    exact ⟨_, rfl, h.cells (g := g) rfl j u hj⟩
theorem own2_lt {w : World} {base n : Nat} {e : TypeId} {v : Value} {xs : List Value} (h : w.ownsRow base e 2 v n xs) {g : Nat} (hg : v.ownBlock = some g) : base ≤ g ∧ g < w.heap.size := h.lt g hg
theorem own2_below {w w' : World} {base n : Nat} {e : TypeId} {v : Value} {xs : List Value} (h : w.ownsRow base e 2 v n xs) (hb : Below w.heap.size w w') : w'.ownsRow base e 2 v n xs := by
  refine ⟨h.1, ?_⟩
  rcases h.2 with h1 | ⟨g, c, cur, rfl, h2, hh, h3⟩
  · exact .inl h1
  · exact .inr ⟨g, c, cur, rfl, h2, (hb.block g (own2_lt h rfl).2).trans hh, h3⟩
theorem own2_form {w : World} {base n : Nat} {e : TypeId} {v : Value} {xs : List Value} (h : w.ownsRow base e 2 v n xs) : ∃ A c, v = .slice A n c ∧ n ≤ c ∧ c ≤ maxLen := by
  rcases h.2 with ⟨rfl, hn⟩ | ⟨g, c, cur, rfl, _, _, hc, hm, _⟩
  · exact ⟨none, 0, by rw [hn], by omega, by unfold maxLen; omega⟩
  · exact ⟨_, _, rfl, hc, hm⟩

/-- append of any pairs onto a row of the call's own. -/
theorem run_append_prs (w : World) (ty : TypeId) (base : Nat) (v : Value) (n : Nat) (xs : List Value) (hown : w.ownsRow base 55 2 v n xs) (A : Option Addr) (ys : List Value) (h1 : ∀ u ∈ ys, u.oneCell' = true) (m c : Nat) (hl : ys.length = m * 2) (hR : Rv w A ys)
    (hb : n + m ≤ 1000000) (hbase : base ≤ w.heap.size) :
    ∃ v' w', (Builtin.append_ #[50, 50] ty #[v, .slice A m c]).run Try.prog w = .ok v' w' ∧ w'.ownsRow base 55 2 v' (n + m) (xs ++ ys) ∧ w.grownBy w' v.ownBlock ∧ (v'.ownBlock = v.ownBlock ∨ v'.ownBlock = some w.heap.size) := by
  obtain ⟨i0, hi, hz0, hz1, hz2⟩ := info_parts prs_info
  cases A with
  | none =>
    have hl0 : ys = [] := by
      rcases ys with _ | ⟨b, l⟩
      · rfl
      · obtain ⟨ad, e, _⟩ := hR 0 b rfl
        cases e
    subst hl0
    have hm0 : m = 0 := by simp at hl; omega
    subst hm0
    refine ⟨v, w, ?_, by simpa using hown, World.grownBy.refl _ _, .inl rfl⟩
    rcases hown.2 with ⟨rfl, rfl⟩ | ⟨g, cap, cur, rfl, _, _, hnc, _⟩
    · simp [Builtin.append_, run_underlying und_prs, sizeOf, typeInfo, hi, Builtin.lenOf, Builtin.firstCells]
    · simp [Builtin.append_, run_underlying und_prs, sizeOf, typeInfo, hi, Builtin.lenOf, Builtin.firstCells, hnc, storeCells]
  | some ad =>
    obtain ⟨v', w', h1, h2, h3, _, h5⟩ := run_append_own_at (P := Try.prog) w base 50 ty 55 i0 _ 2 16 und_prs hi hz0 hz1 hz2 rfl (by decide) v n xs hown ad m c ys hl hR.cells h1 (by unfold maxLen; omega) (by omega) hbase
    exact ⟨v', w', h1, h2, h3, h5⟩
theorem step_append_prs {w : World} {ops : Array Oper} {o : Oper} {a : Act} {K : Act → World → Prop} {Q : Exit → Act → World → Prop} {E : Prop} (hgd : o.guard = none) (s x : Operand)
    (ho : o.op = .call { callee := .builtin .append, args := #[s, x], argTypes := #[50, 50] })
    (base : Nat) (v : Value) (n : Nat) (xs : List Value) (hs : a.eval s = v) (hown : w.ownsRow base 55 2 v n xs) (A : Option Addr) (ys : List Value) (h1 : ∀ u ∈ ys, u.oneCell' = true) (m c : Nat) (hl : ys.length = m * 2) (hx : a.eval x = .slice A m c) (hR : Rv w A ys)
    (hb : n + m ≤ 1000000) (hbase : base ≤ w.heap.size)
    (h : ∀ v' w', w'.ownsRow base 55 2 v' (n + m) (xs ++ ys) → w.grownBy w' v.ownBlock → (v'.ownBlock = v.ownBlock ∨ v'.ownBlock = some w.heap.size) → K (a.put o.dst v') w') :
    if Region.wanted o (yielded ops a.tmps) = true then Oper.wp Try.prog o a w K Q else E := by
  have hw : Region.wanted o (yielded ops a.tmps) = true := by simp [Region.wanted, hgd]
  rw [if_pos hw]
  obtain ⟨v', w', hrun, h2, h3, h4⟩ := run_append_prs w o.type base v n xs hown A ys h1 m c hl hR hb hbase
  unfold Oper.wp
  simp [execOp, ho, resolve, invoke, builtin, hs, hx, hrun, Result.andThen]
  exact h v' w' h2 h3 h4
/-- A literal of one pair. -/
theorem lit2_rv (W : World) (a b : Nat) (H : Nat) (hH : W.heap.size = H) : Rv (W.alloc (.cells #[.int .i64 (a : Int), .int .i64 (b : Int)] 55)) (some ⟨H, 0, none⟩) [.int .i64 (a : Int), .int .i64 (b : Int)] := by
  subst hH
  intro j u hj
  exact ⟨_, rfl, cell_two_new W _ _ _ j u hj⟩
theorem bel_new (W : World) (o : Obj) : Below W.heap.size W (W.alloc o) := (Below.refl _ W).alloc (Nat.le_refl _) _
theorem own2_made (W : World) (H B : Nat) (hH : W.heap.size = H) (hB : B ≤ W.heap.size) : (W.alloc (.cells #[] 55)).ownsRow B 55 2 (.slice (some ⟨H, 0, none⟩) 0 0) 0 [] := by
  subst hH
  exact World.ownsRow_made W #[] 0 hB (by unfold maxLen; omega) rfl
theorem own2_base {w : World} {B B' n : Nat} {e : TypeId} {v : Value} {xs : List Value} (h : w.ownsRow B e 2 v n xs) (hb : B' ≤ B) : w.ownsRow B' e 2 v n xs := by
  refine ⟨h.1, ?_⟩
  rcases h.2 with h1 | ⟨g, c, cur, rfl, h2, h3⟩
  · exact .inl h1
  · exact .inr ⟨g, c, cur, rfl, Nat.le_trans hb h2, h3⟩
theorem rde_own {w : World} {B n c : Nat} {A : Option Addr} {S : List (Nat × Nat)} (h : w.ownsRow B 55 2 (.slice A n c) n (flat2 S)) : RdE w A S := by
  intro j p hp
  have hj := (List.getElem?_eq_some_iff.1 hp).1
  obtain ⟨u0, u1⟩ := flat2_get hp
  have hfl : S.length * 2 = n * 2 := by rw [← flat2_len]; exact h.1
  rcases h.2 with ⟨_, hn⟩ | ⟨g, c', cur, hv, _⟩
  · omega
  · injection hv with hA
    subst hA
    exact ⟨g, rfl, by rw [World.ownsRow.cellAt h _ (by omega)]; exact u0, by rw [World.ownsRow.cellAt h _ (by omega)]; exact u1⟩
theorem rv_rde {w : World} {A : Option Addr} {S : List (Nat × Nat)} (h : RdE w A S) : Rv w A (flat2 S) := by
  intro j u hj
  have hjl : j < S.length * 2 := by
    have := (List.getElem?_eq_some_iff.1 hj).1
    rwa [flat2_len] at this
  have had : ∀ g t, (⟨g, 0, none⟩ : Addr).add t = ⟨g, t, none⟩ := fun g t => by
    unfold Addr.add
    split
    · rename_i h0; rw [h0]
    · simp
  have hc : (∃ t, j = t * 2) ∨ ∃ t, j = t * 2 + 1 := by
    rcases Nat.mod_two_eq_zero_or_one j with hm | hm
    · exact .inl ⟨j / 2, by omega⟩
    · exact .inr ⟨j / 2, by omega⟩
  rcases hc with ⟨t, rfl⟩ | ⟨t, rfl⟩
  · obtain ⟨p, hp⟩ : ∃ p, S[t]? = some p := ⟨_, List.getElem?_eq_getElem (by omega)⟩
    obtain ⟨g, hA, h1, _⟩ := h _ _ hp
    rw [(flat2_get hp).1] at hj
    injection hj with hj
    exact ⟨_, hA, by rw [had, ← hj]; exact h1⟩
  · obtain ⟨p, hp⟩ : ∃ p, S[t]? = some p := ⟨_, List.getElem?_eq_getElem (by omega)⟩
    obtain ⟨g, hA, _, h2⟩ := h _ _ hp
    rw [(flat2_get hp).2] at hj
    injection hj with hj
    exact ⟨_, hA, by rw [had, ← hj]; exact h2⟩

end Go.Proofs.Ytdlhfcapfbbjjaa
