/-
  The checksum tells one changed group: steps and end are one to one. Plain mathematics: nothing of the program is named. No condition beyond those that each theorem states.
-/
import Derived.Test.YtcmfejehlkbmoaaMath
namespace Go.Proofs.Ytcmfejehlkbmoaa

theorem mul_inj (K K' : Nat) (hK : K * K' % M64 = 1) {a b : Nat} (ha : a < M64) (hb : b < M64) (h : a * K % M64 = b * K % M64) : a = b := by
  have key : ∀ c, c < M64 → c * K % M64 * K' % M64 = c := by
    intro c hc
    rw [Nat.mod_mul_mod, Nat.mul_assoc, Nat.mul_mod, hK, Nat.mul_one, Nat.mod_mod, Nat.mod_eq_of_lt hc]
  rw [← key a ha, ← key b hb, h]

theorem k1_inj {a b : Nat} (ha : a < M64) (hb : b < M64) (h : a * K1 % M64 = b * K1 % M64) : a = b :=
  mul_inj K1 17428512612931826493 (by decide +kernel) ha hb h
theorem k2_inj {a b : Nat} (ha : a < M64) (hb : b < M64) (h : a * K2 % M64 = b * K2 % M64) : a = b :=
  mul_inj K2 14982988110149298331 (by decide +kernel) ha hb h

theorem xor_left {a b c : Nat} (h : a ^^^ b = a ^^^ c) : b = c := by
  have : a ^^^ (a ^^^ b) = a ^^^ (a ^^^ c) := by rw [h]
  rwa [← Nat.xor_assoc, ← Nat.xor_assoc, Nat.xor_self, Nat.zero_xor, Nat.zero_xor] at this
theorem xor_right {a b c : Nat} (h : b ^^^ a = c ^^^ a) : b = c := by
  rw [Nat.xor_comm b, Nat.xor_comm c] at h
  exact xor_left h
theorem xor_zero_eq {a b : Nat} (h : a ^^^ b = 0) : a = b := by
  have : a ^^^ b = a ^^^ a := by rw [h, Nat.xor_self]
  exact (xor_left this).symm

theorem shift_inj {a b : Nat} (n : Nat) (hn : 0 < n) (h : a ^^^ a / 2 ^ n = b ^^^ b / 2 ^ n) : a = b := by
  refine xor_zero_eq ?_
  have e : a ^^^ b = (a ^^^ b) / 2 ^ n := by
    rw [← Nat.shiftRight_eq_div_pow, Nat.shiftRight_xor_distrib, Nat.shiftRight_eq_div_pow, Nat.shiftRight_eq_div_pow]
    have h2 : (a ^^^ a / 2 ^ n) ^^^ (b ^^^ b / 2 ^ n) = 0 := by rw [h, Nat.xor_self]
    refine xor_zero_eq ?_
    rw [← h2]
    rw [Nat.xor_assoc, Nat.xor_assoc, ← Nat.xor_assoc b, Nat.xor_comm b (a / 2 ^ n), Nat.xor_assoc]
  obtain ⟨d, hd⟩ : ∃ d, a ^^^ b = d := ⟨_, rfl⟩
  rw [hd] at e ⊢
  rcases Nat.eq_zero_or_pos d with h0 | h0
  · exact h0
  · have := Nat.div_lt_self h0 (show 1 < 2 ^ n from Nat.one_lt_two_pow (by omega))
    omega

theorem rot_eq (a : Nat) : rot a = a % 8589934592 * 2147483648 + a / 8589934592 := by
  have e : a * 2147483648 % 18446744073709551616 = a % 8589934592 * 2147483648 := by omega
  unfold rot M64
  rw [e]
theorem rot_inj {a b : Nat} (ha : a < M64) (hb : b < M64) (h : rot a = rot b) : a = b := by
  rw [rot_eq, rot_eq] at h
  have e1 := Nat.div_add_mod a 8589934592
  have e2 := Nat.div_add_mod b 8589934592
  have l1 : a / 8589934592 < 2147483648 := Nat.div_lt_of_lt_mul ha
  have l2 : b / 8589934592 < 2147483648 := Nat.div_lt_of_lt_mul hb
  generalize a / 8589934592 = y at *
  generalize b / 8589934592 = z at *
  generalize a % 8589934592 = p at *
  generalize b % 8589934592 = q at *
  clear ha hb
  omega

theorem step_inj {h g v u : Nat} (hh : h < M64) (hg : g < M64) (e : step h v = step g u) : h ^^^ (v * K1 % M64) = g ^^^ (u * K1 % M64) := by
  have l1 : h ^^^ (v * K1 % M64) < M64 := xor_lt64 hh (Nat.mod_lt _ (by decide))
  have l2 : g ^^^ (u * K1 % M64) < M64 := xor_lt64 hg (Nat.mod_lt _ (by decide))
  exact rot_inj l1 l2 (k2_inj (rot_lt l1) (rot_lt l2) e)
theorem step_state {h g v : Nat} (hh : h < M64) (hg : g < M64) (e : step h v = step g v) : h = g := xor_right (step_inj hh hg e)
theorem step_group {h v u : Nat} (hh : h < M64) (hv : v < M64) (hu : u < M64) (e : step h v = step h u) : v = u := k1_inj hv hu (xor_left (step_inj hh hh e))

theorem fin_inj {h g n : Nat} (hh : h < M64) (hg : g < M64) (hn : n < M64) (e : fin h n = fin g n) : h = g := by
  unfold fin mix32 mix29 at e
  have l1 := mix29_lt (xor_lt64 hh hn)
  have l2 := mix29_lt (xor_lt64 hg hn)
  have e1 := k1_inj l1 l2 (shift_inj 32 (by decide) e)
  exact xor_right (shift_inj 29 (by decide) e1)

theorem rn_inj {h g : Nat} (l m : List UInt8) (hh : h < M64) (hg : g < M64) : ∀ k, (∀ j, j < k → grp l j = grp m j) → rn h l k = rn g m k → h = g
  | 0, _, e => e
  | k + 1, hj, e => by
    rw [rn, rn, hj k (by omega)] at e
    exact rn_inj l m hh hg k (fun j hjk => hj j (by omega)) (step_state (rn_lt hh l k) (rn_lt hg m k) e)

theorem rn_same {h : Nat} (l m : List UInt8) : ∀ k, (∀ j, j < k → grp l j = grp m j) → rn h l k = rn h m k
  | 0, _ => rfl
  | k + 1, hj => by rw [rn, rn, hj k (by omega), rn_same l m k (fun j hjk => hj j (by omega))]

/-- The state behind one changed group. -/
theorem rn_tells {h : Nat} (hh : h < M64) (l m : List UInt8) (i : Nat) (hi : grp l i ≠ grp m i) : ∀ k, i < k → (∀ j, j < k → j ≠ i → grp l j = grp m j) → rn h l k ≠ rn h m k
  | 0, hk, _ => absurd hk (by omega)
  | k + 1, hk, hj => by
    intro e
    rw [rn, rn] at e
    by_cases hki : i = k
    · subst hki
      rw [rn_same l m i (fun j hji => hj j (by omega) (by omega))] at e
      exact hi (step_group (rn_lt hh m i) (grp_lt _ _) (grp_lt _ _) e)
    · rw [hj k (by omega) (fun e => hki e.symm)] at e
      exact rn_tells hh l m i hi k (by omega) (fun j hjk hji => hj j (by omega) hji) (step_state (rn_lt hh l k) (rn_lt hh m k) e)

/-- Two lists of one length that differ in one group have different checksums. -/
theorem chk_tells (l m : List UInt8) (hlm : l.length = m.length) (hl : l.length < M64) (i : Nat) (hi : i < grps l.length) (hne : grp l i ≠ grp m i) (hj : ∀ j, j ≠ i → grp l j = grp m j) : chk l ≠ chk m := by
  intro e
  unfold chk at e
  rw [← hlm] at e
  exact rn_tells (by decide) l m i hne (grps l.length) hi (fun j _ => hj j) (fin_inj (rn_lt (by decide) _ _) (rn_lt (by decide) _ _) hl e)

end Go.Proofs.Ytcmfejehlkbmoaa
