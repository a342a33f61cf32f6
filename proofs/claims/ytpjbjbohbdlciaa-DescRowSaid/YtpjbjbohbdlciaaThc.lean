/-
  A description that is cut is short; a bit 1 behind its end is an error. No condition beyond those that each theorem states.
-/
import Derived.Test.YtpjbjbohbdlciaaThm
namespace Go.Proofs.Ytpjbjbohbdlciaa
open Bt (bitsOf bitsOf_len unp unp_len unp_app pack val val_inj)

theorem app_split {P Q C E : List Bool} (h : P ++ Q = C ++ E) (hl : C.length ≤ P.length) : ∃ P', P = C ++ P' ∧ P' ++ Q = E := by
  have h1 : P.take C.length = C := by
    have := congrArg (List.take C.length) h
    rwa [List.take_append_of_le_length hl, List.take_left] at this
  have h2 : P.drop C.length ++ Q = E := by
    have := congrArg (List.drop C.length) h
    rwa [List.drop_append_of_le_length hl, List.drop_left] at this
  exact ⟨P.drop C.length, by conv => rhs; rw [← h1]
                             rw [h1, ← List.take_append_drop C.length P, h1, List.drop_left], h2⟩

theorem dec_runcut {B : List Bool} {sy : Int} {left : Nat} : ∀ (n r : Nat), r ≤ n → ∀ (out : List Int) (s : Nat) (Q E : List Bool), s ≤ B.length → ((out.length + r : Nat) : Int) < sy → B.drop s ++ Q = runB r ++ E → B.length < s + (runB r).length →
    dec B sy left out s true = .bad 3 := by
  intro n
  induction n with
  | zero =>
    intro r hr out s Q E hs hf _ hl
    obtain rfl : r = 0 := by omega
    rw [runB_low (by decide), bitsOf_len] at hl
    exact dec_rshort hs (by omega) hl
  | succ n ih =>
    intro r hr out s Q E hs hf hX hl
    by_cases h3 : r < 3
    · rw [runB_low h3, bitsOf_len] at hl
      exact dec_rshort hs (by omega) hl
    · obtain ⟨q, rfl⟩ : ∃ q, r = q + 3 := ⟨r - 3, by omega⟩
      by_cases h2 : B.length < s + 2
      · exact dec_rshort hs (by omega) h2
      · rw [runB_high, List.append_assoc] at hX
        rw [runB_high, List.length_append, bitsOf_len] at hl
        obtain ⟨P, hP, hQ⟩ := app_split hX (by rw [bitsOf_len, List.length_drop]; omega)
        have hP2 := drop_app hP
        rw [bitsOf_len] at hP2
        rw [dec_part (by omega) (by omega), tk_of hP]
        refine ih q (by omega) _ _ Q E (by omega) ?_ (by rw [hP2]; exact hQ) (by omega)
        rw [List.length_append, List.length_replicate]
        omega

theorem dec_cut {B : List Bool} {sy : Int} : ∀ (n left : Nat) (l out : List Int) (s : Nat) (Q : List Bool), l.length ≤ n → Vs left l → (out.getLast? = some 0 → l.head? ≠ some 0) → ((out.length + l.length : Nat) : Int) ≤ sy → s ≤ B.length → B.drop s ++ Q = enc left l → Q ≠ [] →
    dec B sy left out s false = .bad 3 := by
  intro n
  induction n with
  | zero =>
    intro left l out s Q hn hv hz hc hs hB hQ
    obtain rfl : l = [] := List.eq_nil_of_length_eq_zero (by omega)
    rw [enc_nil] at hB
    exact absurd (List.append_eq_nil_iff.1 hB).2 hQ
  | succ n ih =>
    intro left l out s Q hn hv hz hc hs hB hQ
    cases l with
    | nil =>
      rw [enc_nil] at hB
      exact absurd (List.append_eq_nil_iff.1 hB).2 hQ
    | cons x rest =>
      have hp := hv.pos (by simp)
      have hb := hv.bound
      rw [List.length_cons] at hn hc
      have hf : ¬ sy ≤ out.length := by omega
      have hx : (((x + 1).toNat : Nat) : Int) - 1 = x := by omega
      by_cases h0 : x = 0
      · subst h0
        rw [enc_zero] at hB
        by_cases hl : B.length < s + (code 1 (left + 2)).length
        · exact dec_short hs hp hf (rd_short (by omega) (by omega) hB hl)
        · obtain ⟨P, hP, hQ2⟩ := app_split hB (by rw [List.length_drop]; omega)
          have hr := rd_code (by omega) (by omega) hs hP
          have hP2 := drop_app hP
          have hl2 := drop_len hs hP
          have hz1 : ¬ ((1 : Nat) = 1 ∧ out.getLast? = some 0) := fun h => hz h.2 rfl
          rw [dec_num hs hp hf hr hz1]
          have e1 : stn 1 = 0 := rfl
          rw [e1, Nat.sub_zero, show (((1 : Nat) : Int) - 1) = 0 by rfl, show ((1 : Nat) == 1) = true by rfl]
          have hzl := zr_le rest
          have hne := hv.skip0_ne
          have hpos : 0 < (rest.drop (zr rest)).length := List.length_pos_iff.2 hne
          rw [List.length_drop] at hpos
          by_cases hl3 : B.length < s + (code 1 (left + 2)).length + (runB (zr rest)).length
          · exact dec_runcut _ (zr rest) (Nat.le_refl _) _ _ Q _ hl2 (by rw [List.length_append, List.length_singleton]; omega) (by rw [hP2]; exact hQ2) hl3
          · obtain ⟨P3, hP3, hQ3⟩ := app_split hQ2 (by rw [← hP2, List.length_drop]; omega)
            rw [hP3] at hP2
            have hd3 := drop_app hP2
            have hl4 := drop_len hl2 hP2
            rcases dec_run (sy := sy) (left := left) _ (zr rest) (Nat.le_refl _) (out ++ [0]) _ _ hl2 hP2 with ⟨_, h2⟩ | h1
            · rw [List.length_append, List.length_singleton] at h2
              omega
            · rw [h1]
              refine ih left (rest.drop (zr rest)) _ _ Q (by rw [List.length_drop]; omega) hv.skip0 (fun _ => zr_head rest) ?_ hl4 (by rw [hd3]; exact hQ3) hQ
              simp only [List.length_append, List.length_singleton, List.length_replicate, List.length_drop]
              omega
      · rw [enc_cons _ h0] at hB
        by_cases hl : B.length < s + (code (x + 1).toNat (left + 2)).length
        · exact dec_short hs hp hf (rd_short (by omega) (by omega) hB hl)
        · obtain ⟨P, hP, hQ2⟩ := app_split hB (by rw [List.length_drop]; omega)
          have hr := rd_code (by omega) (by omega) hs hP
          have hP2 := drop_app hP
          have hl2 := drop_len hs hP
          have hz1 : ¬ ((x + 1).toNat = 1 ∧ out.getLast? = some 0) := fun h => by omega
          rw [dec_num hs hp hf hr hz1, hx, show ((x + 1).toNat == 1) = false by simp; omega]
          have hst : stn (x + 1).toNat = (sts x).toNat := by
            have := stn_sts (x + 1).toNat
            rw [hx] at this
            omega
          rw [hst]
          exact ih (left - (sts x).toNat) rest (out ++ [x]) _ Q (by omega) hv.tail (by rw [getLast?_snoc]; intro h; exact absurd (Option.some.inj h) h0) (by rw [List.length_append, List.length_singleton]; omega) hl2 (by rw [hP2]; exact hQ2) hQ

/-- A description cut at a byte is short. -/
theorem dcd_cut {y : Nat} {l : List Int} (h1 : 1 ≤ y) (hv : Vt y l) (j : Nat) (hj : j < (pack (descr y l)).length) : dcd (unp ((pack (descr y l)).take j)) 256 9 = (3, 0, [], 0) := by
  obtain ⟨z, hz, hzl, hz8⟩ := Bt.unp_pack (descr y l)
  have hy9 := hv.log
  have hl := hv.len
  have hjl : 8 * j < (descr y l).length := by omega
  have hB : unp ((pack (descr y l)).take j) = (descr y l).take (8 * j) := by rw [unp_take, hz, List.take_append_of_le_length (by omega)]
  obtain ⟨B, hBB⟩ : ∃ B, (descr y l).take (8 * j) = B := ⟨_, rfl⟩
  have hBl : B.length = 8 * j := by rw [← hBB, List.length_take]; omega
  have hQ : B ++ (descr y l).drop (8 * j) = descr y l := by rw [← hBB, List.take_append_drop]
  have hQne : (descr y l).drop (8 * j) ≠ [] := by
    intro e
    have := congrArg List.length e
    rw [List.length_drop, List.length_nil] at this
    omega
  rw [hB, hBB, dcd, show min (256 : Int) 256 = 256 from rfl, show min (9 : Int) 9 = 9 from rfl]
  have hd : dcp B 256 9 = .bad 3 := by
    by_cases h4 : B.length < 4
    · rw [dcp, if_pos h4]
    · conv at hQ => rhs; rw [descr]
      obtain ⟨P, hP, hQ2⟩ := app_split hQ (by rw [bitsOf_len]; omega)
      have hd0 : B.drop 0 = bitsOf (y - 1) 4 ++ P := by rw [List.drop_zero]; exact hP
      have ht : tk B 0 4 = y - 1 := by rw [tk_of hd0, Nat.mod_eq_of_lt (by omega)]
      have hd4 := drop_app hd0
      rw [bitsOf_len] at hd4
      rw [dcp, if_neg h4, ht, show y - 1 + 1 = y by omega, if_neg (by omega)]
      exact dec_cut _ (2 ^ y) l [] 4 _ (Nat.le_refl _) hv.vs (fun h => by simp at h) (by simp; omega) (by omega) (by rw [hd4]; exact hQ2) hQne
  rw [hd, dfin]

/-- A bit 1 behind the end of a description is an error. -/
theorem dcd_pad {y : Nat} {l : List Int} (h1 : 1 ≤ y) (hv : Vt y l) {F : List UInt8} {p c : Nat} (hs : Bt.Str F p c (descr y l)) (hc0 : 0 < c) (hc : c < 8) (k : Nat) (hk : c ≤ k) (hk8 : k < 8) :
    p + 2 ^ k < 256 ∧ dcd (unp (F ++ [UInt8.ofNat (p + 2 ^ k)])) 256 9 = (14, 0, [], 0) := by
  have hy9 := hv.log
  have hl := hv.len
  have hlt := hs.lt
  have hlen := hs.len
  have h2 : 2 ^ k = 2 ^ c * 2 ^ (k - c) := by rw [← Nat.pow_add]; congr 1; omega
  have h3 : 2 ^ (k - c) < 2 ^ (8 - c) := Nat.pow_lt_pow_right (by decide) (by omega)
  have h8 : 2 ^ c * 2 ^ (8 - c) = 256 := by rw [← Nat.pow_add, show c + (8 - c) = 8 by omega]
  have hmul : 2 ^ c * (2 ^ (k - c) + 1) ≤ 2 ^ c * 2 ^ (8 - c) := Nat.mul_le_mul_left _ h3
  rw [Nat.mul_add, Nat.mul_one] at hmul
  have hb : p + 2 ^ k < 256 := by omega
  refine ⟨hb, ?_⟩
  have hB : unp (F ++ [UInt8.ofNat (p + 2 ^ k)]) = descr y l ++ (bitsOf (2 ^ (k - c)) (8 - c) ++ []) := by
    rw [unp_app, Bt.unp, Bt.unp, UInt8.toNat_ofNat', Nat.mod_eq_of_lt hb, h2]
    have := Bt.bitsOf_join (2 ^ (k - c)) (8 - c) hlt
    rw [show c + (8 - c) = 8 by omega] at this
    rw [this, hs.eq]
    simp only [List.append_assoc]
  have hd : (unp (F ++ [UInt8.ofNat (p + 2 ^ k)])).drop (descr y l).length = bitsOf (2 ^ (k - c)) (8 - c) ++ [] := by rw [hB, List.drop_left]
  have ht : tk (unp (F ++ [UInt8.ofNat (p + 2 ^ k)])) (descr y l).length (8 - c) = 2 ^ (k - c) := by rw [tk_of hd, Nat.mod_eq_of_lt h3]
  rw [dcd, dcp_descr h1 hv hB, if_pos ⟨by omega, by omega⟩, dfin, show 8 * (((descr y l).length + 7) / 8) - (descr y l).length = 8 - c by omega, ht, if_neg (by have := Nat.two_pow_pos (k - c); omega)]

end Go.Proofs.Ytpjbjbohbdlciaa
