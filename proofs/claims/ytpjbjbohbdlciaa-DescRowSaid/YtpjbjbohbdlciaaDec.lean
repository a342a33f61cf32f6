/-
  What is read from the bits of norms: the loop of the decoder as a function, and that it inverts the encoding. No condition beyond those that each theorem states.
-/
import Derived.Test.YtpjbjbohbdlciaaMth
namespace Go.Proofs.Ytpjbjbohbdlciaa
open Bt (bitsOf val unp pack bitsOf_len val_bitsOf bitsOf_val val_lt)

/-- The states of the norm v - 1. -/
def stn (v : Nat) : Nat := if v = 0 then 1 else v - 1
theorem stn_sts (v : Nat) : sts ((v : Int) - 1) = (stn v : Int) := by
  unfold sts stn
  split <;> split <;> omega

/-- What reading ends with: an error, or norms and the place behind them. -/
inductive Rs where
  | bad (e : Nat)
  | ok (out : List Int) (s : Nat)

/-- Reading norms of B from place s on, at most sy of them and f steps: so many states are left, out has been read; run: parts of a run length come next. -/
def dst (B : List Bool) (sy : Int) : Nat → Nat → List Int → Nat → Bool → Rs
  | 0, _, _, _, _ => .bad 0
  | f + 1, left, out, s, false =>
    if left = 0 then .ok out s
    else if sy ≤ out.length then .bad 13
    else match rd B s (left + 2) with
      | none => .bad 3
      | some (v, s') => if v = 1 ∧ out.getLast? = some 0 then .bad 13 else dst B sy f (left - stn v) (out ++ [(v : Int) - 1]) s' (v == 1)
  | f + 1, left, out, s, true =>
    if sy ≤ out.length then .bad 13
    else if B.length < s + 2 then .bad 3
    else dst B sy f left (out ++ List.replicate (tk B s 2) 0) (s + 2) (tk B s 2 == 3)

theorem rd_lt {B : List Bool} {s v s' m : Nat} (hm : 2 ≤ m) (h : rd B s m = some (v, s')) : s < s' ∧ s' ≤ B.length := ⟨(rd_inv hm h).2.2.2.2, (rd_inv hm h).2.2.2.1⟩

theorem dst_fuel (B : List Bool) (sy : Int) : ∀ (f g left : Nat) (out : List Int) (s : Nat) (b : Bool), s ≤ B.length → B.length < s + f → B.length < s + g → dst B sy f left out s b = dst B sy g left out s b
  | 0, _, _, _, _, _, h0, h1, _ => by omega
  | _ + 1, 0, _, _, _, _, h0, _, h2 => by omega
  | f + 1, g + 1, left, out, s, false, h0, h1, h2 => by
    rw [dst, dst]
    split
    · rfl
    · split
      · rfl
      · cases hr : rd B s (left + 2) with
        | none => rfl
        | some x =>
          obtain ⟨v, s'⟩ := x
          have := rd_lt (by omega) hr
          dsimp only
          split
          · rfl
          · exact dst_fuel B sy f g _ _ _ _ this.2 (by omega) (by omega)
  | f + 1, g + 1, left, out, s, true, h0, h1, h2 => by
    rw [dst, dst]
    split
    · rfl
    · split
      · rfl
      · exact dst_fuel B sy f g _ _ _ _ (by omega) (by omega) (by omega)

/-- Reading to the end. -/
def dec (B : List Bool) (sy : Int) (left : Nat) (out : List Int) (s : Nat) (b : Bool) : Rs := dst B sy (B.length + 1 - s) left out s b

section
variable {B : List Bool} {sy : Int} {left : Nat} {out : List Int} {s : Nat}
theorem dec_done (h : s ≤ B.length) : dec B sy 0 out s false = .ok out s := by
  rw [dec, show B.length + 1 - s = (B.length - s) + 1 by omega, dst, if_pos rfl]
theorem dec_full (h : s ≤ B.length) (h0 : 0 < left) (hf : sy ≤ out.length) : dec B sy left out s false = .bad 13 := by
  rw [dec, show B.length + 1 - s = (B.length - s) + 1 by omega, dst, if_neg (by omega), if_pos hf]
theorem dec_short (h : s ≤ B.length) (h0 : 0 < left) (hf : ¬ sy ≤ out.length) (hr : rd B s (left + 2) = none) : dec B sy left out s false = .bad 3 := by
  rw [dec, show B.length + 1 - s = (B.length - s) + 1 by omega, dst, if_neg (by omega), if_neg hf, hr]
theorem dec_twice {v s' : Nat} (h : s ≤ B.length) (h0 : 0 < left) (hf : ¬ sy ≤ out.length) (hr : rd B s (left + 2) = some (v, s')) (hz : v = 1 ∧ out.getLast? = some 0) : dec B sy left out s false = .bad 13 := by
  rw [dec, show B.length + 1 - s = (B.length - s) + 1 by omega, dst, if_neg (by omega), if_neg hf, hr]
  dsimp only
  rw [if_pos hz]
theorem dec_num {v s' : Nat} (h : s ≤ B.length) (h0 : 0 < left) (hf : ¬ sy ≤ out.length) (hr : rd B s (left + 2) = some (v, s')) (hz : ¬ (v = 1 ∧ out.getLast? = some 0)) :
    dec B sy left out s false = dec B sy (left - stn v) (out ++ [(v : Int) - 1]) s' (v == 1) := by
  have hs := rd_lt (by omega) hr
  rw [dec, show B.length + 1 - s = (B.length - s) + 1 by omega, dst, if_neg (by omega), if_neg hf, hr]
  dsimp only
  rw [if_neg hz]
  exact dst_fuel B sy _ _ _ _ _ _ hs.2 (by omega) (by omega)
theorem dec_rfull (h : s ≤ B.length) (hf : sy ≤ out.length) : dec B sy left out s true = .bad 13 := by
  rw [dec, show B.length + 1 - s = (B.length - s) + 1 by omega, dst, if_pos hf]
theorem dec_rshort (h : s ≤ B.length) (hf : ¬ sy ≤ out.length) (hr : B.length < s + 2) : dec B sy left out s true = .bad 3 := by
  rw [dec, show B.length + 1 - s = (B.length - s) + 1 by omega, dst, if_neg hf, if_pos hr]
theorem dec_part (hf : ¬ sy ≤ out.length) (hr : s + 2 ≤ B.length) : dec B sy left out s true = dec B sy left (out ++ List.replicate (tk B s 2) 0) (s + 2) (tk B s 2 == 3) := by
  rw [dec, show B.length + 1 - s = (B.length - s) + 1 by omega, dst, if_neg hf, if_neg (by omega)]
  exact dst_fuel B sy _ _ _ _ _ _ hr (by omega) (by omega)
end

theorem getLast?_snoc (l : List Int) (n : Int) : (l ++ [n]).getLast? = some n := by simp

theorem reps (l : List Int) (a b : Nat) : l ++ List.replicate a 0 ++ List.replicate b 0 = l ++ List.replicate (a + b) 0 := by
  rw [List.append_assoc, List.replicate_append_replicate]

/-- A run length is read, or there are too many norms. -/
theorem dec_run {B : List Bool} {sy : Int} {left : Nat} : ∀ (n r : Nat), r ≤ n → ∀ (out : List Int) (s : Nat) (X : List Bool), s ≤ B.length → B.drop s = runB r ++ X →
    (dec B sy left out s true = .bad 13 ∧ sy ≤ ((out.length + r : Nat) : Int)) ∨ dec B sy left out s true = dec B sy left (out ++ List.replicate r 0) (s + (runB r).length) false := by
  intro n
  induction n with
  | zero =>
    intro r hr out s X hs hX
    obtain rfl : r = 0 := by omega
    rw [runB_low (by decide)] at hX ⊢
    have hl := drop_len hs hX
    rw [bitsOf_len] at hl ⊢
    by_cases hf : sy ≤ out.length
    · exact .inl ⟨dec_rfull hs hf, by simpa using hf⟩
    · right
      rw [dec_part hf hl, tk_of hX]
      rfl
  | succ n ih =>
    intro r hr out s X hs hX
    by_cases hf : sy ≤ out.length
    · exact .inl ⟨dec_rfull hs hf, by omega⟩
    · by_cases h3 : r < 3
      · rw [runB_low h3] at hX ⊢
        have hl := drop_len hs hX
        rw [bitsOf_len] at hl ⊢
        right
        rw [dec_part hf hl, tk_of hX, Nat.mod_eq_of_lt (by omega)]
        rw [show (r == 3) = false by simp; omega]
      · obtain ⟨q, rfl⟩ : ∃ q, r = q + 3 := ⟨r - 3, by omega⟩
        rw [runB_high, List.append_assoc] at hX
        have hl := drop_len hs hX
        have hX2 := drop_app hX
        rw [bitsOf_len] at hl hX2
        rw [dec_part hf hl, tk_of hX, runB_high, List.length_append, bitsOf_len]
        have := ih q (by omega) (out ++ List.replicate (3 % 2 ^ 2) 0) (s + 2) X hl hX2
        rw [reps, show 3 % 2 ^ 2 + q = q + 3 by omega, List.length_append, List.length_replicate] at this
        rw [show (s + 2 + (runB q).length) = s + (2 + (runB q).length) by omega] at this
        rcases this with ⟨h1, h2⟩ | h1
        · exact .inl ⟨h1, by omega⟩
        · exact .inr h1

/-- The norms are read back from their bits, whatever follows. -/
theorem dec_enc {B : List Bool} {sy : Int} : ∀ (n left : Nat) (l out : List Int) (s : Nat) (R : List Bool), l.length ≤ n → Vs left l → (out.getLast? = some 0 → l.head? ≠ some 0) → (l = [] → (out.length : Int) ≤ sy) → s ≤ B.length → B.drop s = enc left l ++ R →
    dec B sy left out s false = if ((out.length + l.length : Nat) : Int) ≤ sy then .ok (out ++ l) (s + (enc left l).length) else .bad 13 := by
  intro n
  induction n with
  | zero =>
    intro left l out s R hn hv hz hc hs hB
    obtain rfl : l = [] := List.eq_nil_of_length_eq_zero (by omega)
    obtain rfl := hv.nil
    rw [dec_done hs, if_pos (by simpa using hc rfl), enc_nil]
    simp
  | succ n ih =>
    intro left l out s R hn hv hz hc hs hB
    cases l with
    | nil =>
      obtain rfl := hv.nil
      rw [dec_done hs, if_pos (by simpa using hc rfl), enc_nil]
      simp
    | cons x rest =>
      have hp := hv.pos (by simp)
      have hb := hv.bound
      rw [List.length_cons] at hn ⊢
      by_cases hf : sy ≤ out.length
      · rw [dec_full hs hp hf, if_neg (by omega)]
      · have hx : (((x + 1).toNat : Nat) : Int) - 1 = x := by omega
        by_cases h0 : x = 0
        · subst h0
          rw [enc_zero, List.append_assoc] at hB
          have hr := rd_code (by omega) (by omega) hs hB
          have hl := drop_len hs hB
          have hB2 := drop_app hB
          rw [List.append_assoc] at hB2
          have hz1 : ¬ ((1 : Nat) = 1 ∧ out.getLast? = some 0) := fun h => hz h.2 rfl
          rw [dec_num hs hp hf hr hz1]
          have e1 : stn 1 = 0 := rfl
          rw [e1, Nat.sub_zero, show (((1 : Nat) : Int) - 1) = 0 by rfl, show ((1 : Nat) == 1) = true by rfl]
          have hzl := zr_le rest
          have hne := hv.skip0_ne
          have hpos : 0 < (rest.drop (zr rest)).length := List.length_pos_iff.2 hne
          rw [List.length_drop] at hpos
          rcases dec_run _ (zr rest) (Nat.le_refl _) (out ++ [0]) _ _ hl hB2 with ⟨h1, h2⟩ | h1
          · rw [h1, if_neg]
            rw [List.length_append, List.length_singleton] at h2
            omega
          · rw [h1]
            have hB3 := drop_app hB2
            have hl3 := drop_len hl hB2
            have hih := ih left (rest.drop (zr rest)) (out ++ [0] ++ List.replicate (zr rest) 0) _ R (by rw [List.length_drop]; omega) hv.skip0 (fun _ => zr_head rest) (fun e => absurd e hne) hl3 hB3
            rw [hih]
            have e2 : (out ++ [0] ++ List.replicate (zr rest) 0).length + (rest.drop (zr rest)).length = out.length + (rest.length + 1) := by
              simp only [List.length_append, List.length_singleton, List.length_replicate, List.length_drop]; omega
            have e3 : out ++ [0] ++ List.replicate (zr rest) 0 ++ rest.drop (zr rest) = out ++ 0 :: rest := by
              rw [List.append_assoc, ← zr_split]; simp
            rw [e2, e3, enc_zero]
            simp only [List.length_append, Nat.add_assoc]
        · rw [enc_cons _ h0, List.append_assoc] at hB
          have hr := rd_code (by omega) (by omega) hs hB
          have hl := drop_len hs hB
          have hB2 := drop_app hB
          have hz1 : ¬ ((x + 1).toNat = 1 ∧ out.getLast? = some 0) := fun h => by omega
          rw [dec_num hs hp hf hr hz1, hx, show ((x + 1).toNat == 1) = false by simp; omega]
          have hst : stn (x + 1).toNat = (sts x).toNat := by
            have := stn_sts (x + 1).toNat
            rw [hx] at this
            omega
          rw [hst]
          have hih := ih (left - (sts x).toNat) rest (out ++ [x]) _ R (by omega) hv.tail (by rw [getLast?_snoc]; intro h; exact absurd (Option.some.inj h) h0) (fun _ => by rw [List.length_append, List.length_singleton]; omega) hl hB2
          rw [hih, enc_cons _ h0]
          have e2 : (out ++ [x]).length + rest.length = out.length + (rest.length + 1) := by simp only [List.length_append, List.length_singleton]; omega
          have e3 : out ++ [x] ++ rest = out ++ x :: rest := by simp
          rw [e2, e3]
          simp only [List.length_append, Nat.add_assoc]

end Go.Proofs.Ytpjbjbohbdlciaa
