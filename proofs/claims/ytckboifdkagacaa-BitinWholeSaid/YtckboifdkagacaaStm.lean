/-
  Streams: what was written by Put and is read from Bytes and from Close, as mathematics; a Writer that a call has made. No condition beyond those that each theorem states.
-/
import Derived.Test.YtckboifdkagacaaUni
namespace Go.Proofs.Ytckboifdkagacaa
open Go.RowKit

theorem val_noughts : ∀ z : Nat, val (List.replicate z false) = 0
  | 0 => rfl
  | z + 1 => by rw [List.replicate_succ, val, val_noughts z]; rfl

theorem unp_pack (l : List Bool) : ∃ z, unp (pack l) = l ++ List.replicate z false ∧ l.length + z = 8 * (pack l).length ∧ z < 8 := by
  refine ⟨8 * (pack l).length - l.length, val_inj ?_ ?_, ?_, ?_⟩
  · rw [unp_len, List.length_append, List.length_replicate, pack_len]; omega
  · rw [val_unp, num_pack, val_app, val_noughts, Nat.mul_zero, Nat.add_zero]
  · rw [pack_len]; omega
  · rw [pack_len]; omega

theorem str_ex : ∀ (n : Nat) (l : List Bool), l.length = n → ∃ F p c, Str F p c l ∧ c < 8
  | 0, l, h => by
    have : l = [] := List.eq_nil_of_length_eq_zero h
    subst this
    exact ⟨[], 0, 0, Str.nil, by decide⟩
  | n + 1, l, h => by
    have hne : l ≠ [] := by intro e; rw [e] at h; cases h
    obtain ⟨F, p, c, hs, hc⟩ := str_ex n l.dropLast (by rw [List.length_dropLast, h]; rfl)
    have h1 := hs.add (if l.getLast hne then 1 else 0) 1
    have e : bitsOf (if l.getLast hne then 1 else 0) 1 = [l.getLast hne] := by cases l.getLast hne <;> decide
    rw [e, List.dropLast_concat_getLast] at h1
    by_cases h8 : c = 7
    · subst h8
      exact ⟨_, 0, 0, h1.full, by decide⟩
    · exact ⟨_, _, _, h1, by omega⟩

theorem endOf_closed (l : List Bool) : endOf (closed l) = some l.length := by
  obtain ⟨F, p, c, h, hc⟩ := str_ex _ l rfl
  have hl := h.len
  have h1 := h.lt
  have h2 : 2 ^ (c + 1) ≤ 2 ^ 8 := Nat.pow_le_pow_right (by decide) (by omega)
  have h3 : 2 ^ (c + 1) = 2 ^ c * 2 := Nat.pow_succ 2 c
  have hb : (UInt8.ofNat (p + 2 ^ c)).toNat = p + 2 ^ c := by rw [UInt8.toNat_ofNat', Nat.mod_eq_of_lt (by omega)]
  have h0 : p + 2 ^ c ≠ 0 := by have := Nat.two_pow_pos c; omega
  have hlog : (p + 2 ^ c).log2 = c := by
    have a1 : (p + 2 ^ c).log2 < c + 1 := (Nat.log2_lt h0).2 (by omega)
    have a2 : c ≤ (p + 2 ^ c).log2 := (Nat.le_log2 h0).2 (by omega)
    omega
  rw [h.closed hc, endOf, List.getLast?_append]
  simp only [List.getLast?_singleton, Option.some_or]
  rw [hb, if_neg h0, hlog, hl]
  simp

theorem cut_at {D : List UInt8} {a r : List Bool} {q n : Nat} (h : unp D = a ++ (bitsOf q n ++ r)) (hq : q < 2 ^ n) : cut D a.length n = q := by
  rw [cut, h, List.drop_left, List.take_append, bitsOf_len, Nat.sub_self, List.take_zero, List.append_nil, List.take_of_length_le (by rw [bitsOf_len]; exact Nat.le_refl _), val_bitsOf, Nat.mod_eq_of_lt hq]

theorem cut_pad {D : List UInt8} {l : List Bool} {z m : Nat} (h : unp D = l ++ List.replicate z false) (hm : m = z) : cut D l.length m = 0 := by
  subst hm
  rw [cut, h, List.drop_left, List.take_of_length_le (by simp), val_noughts]

theorem allB_parts {ls : List (Nat × Int)} {j : Nat} {q : Nat} {n : Int} (h : ls[j]? = some (q, n)) (hm : may q n = true) : allB ls = allB (ls.take j) ++ (bitsOf q n.toNat ++ allB (ls.drop (j + 1))) := by
  conv => lhs; rw [← List.take_append_drop (j + 1) ls]
  rw [allB_app, allB_take h, hm, if_pos rfl, List.append_assoc]

theorem allB_next {ls : List (Nat × Int)} {j : Nat} {q : Nat} {n : Int} (h : ls[j]? = some (q, n)) (hm : may q n = true) : (allB (ls.take (j + 1))).length = (allB (ls.take j)).length + n.toNat := by
  rw [allB_take h, hm, if_pos rfl, List.length_append, bitsOf_len]

theorem may_parts {q : Nat} {n : Int} (h : may q n = true) : ((n.toNat : Nat) : Int) = n ∧ n.toNat ≤ 64 ∧ q < 2 ^ n.toNat := by
  simp [may] at h
  omega

/-- A Writer that a call has made; w0's memory is unchanged. -/
structure At (w0 w : World) (x : Nat) (v : Value) (l : List Bool) : Prop where
  wr : Wr w x v l
  bel : Below w0.heap.size w0 w
  ge : w0.heap.size ≤ x
  row : ∀ g, v.ownBlock = some g → w0.heap.size ≤ g

theorem At.new (w0 w : World) (hb : Below w0.heap.size w0 w) : At w0 (w.alloc (.cells #[.int .u8 0, .int .i64 0, .slice none 0 0] 55)) w.heap.size (.slice none 0 0) [] :=
  ⟨⟨[], 0, 0, heap_alloc_new w _, by decide, Str.nil, World.ownsRow_nil _ _ _ _⟩, hb.alloc hb.size _, hb.size, fun g hg => by cases hg⟩
theorem At.on {w0 w w' : World} {x : Nat} {v : Value} {l : List Bool} (h : At w0 w x v l) (hb : Below w.heap.size w w') : At w0 w' x v l :=
  ⟨h.wr.below hb, below_on h.bel (Nat.le_refl _) hb, h.ge, h.row⟩
theorem At.dr {w0 w : World} {x : Nat} {v : Value} {l : List Bool} (h : At w0 w x v l) (d : Nat) : At w0 (w.drewN d) x v l :=
  ⟨h.wr, below_drewN' h.bel d, h.ge, h.row⟩
theorem At.chg {w0 w w' : World} {x : Nat} {v v' : Value} {l l' : List Bool} (h : At w0 w x v l) (hw : Wr w' x v' l') (hc : Chg w w' x v.ownBlock) (hn : New w v.ownBlock v'.ownBlock) : At w0 w' x v' l' := by
  refine ⟨hw, h.bel.trans (hc.below h.bel.size h.ge h.row), h.ge, fun g hg => ?_⟩
  rcases hn with e | ⟨g', e, hge⟩
  · exact h.row g (e ▸ hg)
  · rw [e] at hg
    injection hg with hg
    have := h.bel.size
    omega

theorem At.eqd {w0 w w' : World} {x d : Nat} {v : Value} {l : List Bool} (h : At w0 w x v l) (hw : w' = w.drewN d) : At w0 w' x v l := by
  subst hw
  exact h.dr d
theorem At.other {w0 w w' : World} {x y : Nat} {v : Value} {l : List Bool} (h : At w0 w x v l) (hx : y ≠ x) (hr : ∀ g, v.ownBlock = some g → g ≠ y) (hy : w0.heap.size ≤ y) (hg : w.grownBy w' (some y)) : At w0 w' x v l :=
  ⟨h.wr.same (hg.block x h.wr.lt (by simpa using fun e => hx e.symm)) (fun g e => hg.block g (h.wr.row_lt e) (by simpa using hr g e)), below_step h.bel hg hy, h.ge, h.row⟩
/-- What is new is apart from the Writer. -/
theorem At.apart {w0 w : World} {x y : Nat} {v : Value} {l : List Bool} (h : At w0 w x v l) (hy : w.heap.size ≤ y) : y ≠ x ∧ ∀ g, v.ownBlock = some g → g ≠ y :=
  ⟨by have := h.wr.lt; omega, fun g e => by have := h.wr.row_lt e; omega⟩

end Go.Proofs.Ytckboifdkagacaa
