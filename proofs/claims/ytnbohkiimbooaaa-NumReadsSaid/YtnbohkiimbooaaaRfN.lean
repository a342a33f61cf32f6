/-
  What the reference's Get and Number do at all bytes. Conditions: the offset lies within the bytes; at most 2^47 bytes; the maximum is an int.
-/
import Derived.Test.YtnbohkiimbooaaaRfV
namespace Go.Proofs.Ytnbohkiimbooaaa
open Go.RowKit Go.Shelf
set_option linter.unusedVariables false

section
variable {w : World} {A : Option Addr} {cap : Nat} {l : List UInt8} {N k : Nat}

theorem ret3_eq {w : World} {v0 v1 v2 u0 u1 u2 : Value} (h0 : v0 = u0) (h1 : v1 = u1) (h2 : v2 = u2) : Ret3 w v0 v1 v2 = Ret3 w u0 u1 u2 := by rw [h0, h1, h2]

/-- Get's answer, by the reading r. -/
def GetR (w : World) (k : Nat) (r : VRes) : Ending → World → Prop :=
  Ret3 w (.int .u64 (r.val : Int)) (.int .i64 ((if r.err = 0 then k + r.len else k : Nat) : Int)) (.int .i64 (r.err : Int))

theorem get_any (hN : l.length = N) (hR : Rd w A l) (hs : N ≤ 140737488351232) (hk : k ≤ N) : Calls Try.prog 48 #[.slice A N cap, .int .i64 (k : Int)] w (GetR w k (gv (l.drop k))) := by
  obtain ⟨p, t, hpt, hp, hl, hc⟩ := hi_split 9 (l.drop k)
  have hcells : ∀ (j : Nat) (y : UInt8), (p ++ t)[j]? = some y → ∃ ad, A = some ad ∧ w.cell? (ad.add (k + j)) = some (byt y) := by
    intro j y hj
    rw [← hpt, List.getElem?_drop] at hj
    exact hR _ _ hj
  have hH : HiAt w A k p.length := by
    intro j hj
    have e : (p ++ t)[j]? = some p[j] := by rw [List.getElem?_append_left hj, List.getElem?_eq_getElem hj]
    exact ⟨p[j], hp _ (List.getElem_mem hj), hcells j _ e⟩
  have hlen : p.length + t.length = N - k := by
    have := congrArg List.length hpt
    rw [List.length_drop, hN, List.length_append] at this
    omega
  rw [hpt]
  by_cases h9 : p.length = 9
  · have hg : gv (p ++ t) = ⟨0, 18, 9⟩ := by
      have h := gvF_hi p 0 0 0 t hp
      rw [h9] at h
      exact h
    rw [hg]
    rw [h9] at hH
    exact get_9 hs (by omega) hH
  · rcases hc with h | h | ⟨b, t', h, hb⟩
    · exact absurd h h9
    · subst h
      have hg : gv (p ++ []) = ⟨0, 3, p.length⟩ := by
        have h := gvF_hi p (9 - p.length) 0 0 [] hp
        rw [show 9 - p.length + p.length = 9 by omega, show 9 - p.length = (8 - p.length) + 1 by omega, gvF_none, Nat.zero_add] at h
        exact h
      rw [hg]
      simp only [List.length_nil] at hlen
      exact get_end hs (by omega) (by omega) hH
    · subst h
      simp only [List.length_cons] at hlen
      have hbq : (p ++ [b])[p.length]? = some b := by simp
      have hq : ∀ (j : Nat) (y : UInt8), (p ++ [b])[j]? = some y → ∃ ad, A = some ad ∧ w.cell? (ad.add (k + j)) = some (byt y) := by
        intro j y hj
        refine hcells j y ?_
        rw [show p ++ b :: t' = (p ++ [b]) ++ t' by simp, List.getElem?_append_left (List.getElem?_eq_some_iff.1 hj).1]
        exact hj
      rw [gv_shape p b t' hp (by omega) hb, gvEnd]
      by_cases h5 : 0 < p.length ∧ b.toNat = 0
      · rw [if_pos h5]
        have hz : ∃ ad, A = some ad ∧ w.cell? (ad.add (k + p.length)) = some (.int .u8 0) := by
          obtain ⟨ad, h1, h2⟩ := hq p.length b hbq
          refine ⟨ad, h1, ?_⟩
          rw [h2, byt, h5.2]; rfl
        exact get_5 hs (by omega) (by omega) h5.1 hH hz
      · rw [if_neg h5]
        by_cases h0 : 0 < p.length
        · have hv := get_v (cap := cap) (p ++ [b]) b hs (show k + p.length < N by omega) (by omega) h0 hH (by simp) hb hbq (fun _ e => h5 ⟨h0, e⟩) hq
          unfold GetV at hv
          by_cases hm : 4611686018427387903 < lv (p ++ [b])
          · rw [if_pos hm] at hv ⊢
            exact hv
          · rw [if_neg hm] at hv ⊢
            unfold GetR
            rw [if_pos rfl]
            rw [ret3_eq rfl (show Value.int .i64 ((k + (p.length + 1) : Nat) : Int) = .int .i64 ((k : Int) + (p.length : Int) + 1) by congr 1) rfl]
            exact hv
        · have hp0 : p = [] := List.eq_nil_of_length_eq_zero (by omega)
          subst hp0
          have hlv : lv ([] ++ [b]) = b.toNat := by simp only [List.nil_append, lv]; omega
          rw [hlv, if_neg (by omega)]
          have hv := get_v0 (cap := cap) b hs (show k < N by omega) hb (by
            obtain ⟨ad, h1, h2⟩ := hq 0 b hbq
            exact ⟨ad, h1, h2⟩)
          unfold GetR
          rw [if_pos rfl]
          rw [ret3_eq rfl (show Value.int .i64 ((k + (([] : List UInt8).length + 1) : Nat) : Int) = .int .i64 ((k : Int) + 1) by simp) rfl]
          exact hv

/-- Number's answer, by the reading r. -/
def NumR (w : World) (k : Nat) (r : VRes) (most : Int) : Ending → World → Prop :=
  Ret3 w (.int .i64 ((numB r most).1 : Int)) (.int .i64 ((if (numB r most).2 = 0 then k + r.len else k : Nat) : Int)) (.int .i64 ((numB r most).2 : Int))

set_option maxHeartbeats 1000000 in
theorem refNumber_any (most : Int) (hN : l.length = N) (hR : Rd w A l) (hs : N ≤ 140737488351232) (hk : k ≤ N) (hm : most ≤ 9223372036854775807) : Calls Try.prog 49 #[.slice A N cap, .int .i64 (k : Int), .int .i64 most] w (NumR w k (gv (l.drop k)) most) := by
  have HG := Lib.hid (get_any (cap := cap) hN hR hs hk)
  have hv := gv_val_le (l.drop k)
  obtain ⟨r, hr⟩ : ∃ r, gv (l.drop k) = r := ⟨_, rfl⟩
  rw [hr] at HG hv ⊢
  obtain ⟨val, err, len⟩ := r
  simp only at hv
  clear hr hN hR hs hk
  unfold GetR at HG
  unfold NumR numB
  simp only at HG ⊢
  by_cases he : err = 0
  · subst he
    rw [if_pos rfl]
    obtain ⟨T, hT⟩ : ∃ T, k + len = T := ⟨_, rfl⟩
    simp only [hT] at HG ⊢
    rw [if_pos trivial] at HG
    by_cases hgt : max most 0 < (val : Int)
    · rw [if_pos hgt]
      simp only [if_neg (show ¬ (18 : Nat) = 0 by decide)]
      have h1 : 0 < val := by omega
      by_cases hneg : most < 0
      · have h2 : decide (most < 0) = true := decide_eq_true hneg
        clear hgt
        go_enter Try.func49, Try.ntmps49
        go_wp2_with fail
        refine HG.out.mono ?_
        rintro e w1 ⟨rfl, rfl⟩
        go_wp2
        go_ret3
        exact ⟨rfl, rfl⟩
      · have h2 : decide (most < 0) = false := decide_eq_false hneg
        obtain ⟨z, rfl⟩ := Int.eq_ofNat_of_zero_le (show 0 ≤ most by omega)
        have h3 : z < val := by omega
        clear hgt
        go_enter Try.func49, Try.ntmps49
        go_wp2_with fail
        refine HG.out.mono ?_
        rintro e w1 ⟨rfl, rfl⟩
        go_wp2
        go_ret3
        exact ⟨rfl, rfl⟩
    · rw [if_neg hgt]
      simp only [if_true]
      by_cases h0 : val = 0
      · subst h0
        clear hgt
        go_enter Try.func49, Try.ntmps49
        go_wp2_with fail
        refine HG.out.mono ?_
        rintro e w1 ⟨rfl, rfl⟩
        go_wp2
        go_ret3
        exact ⟨rfl, rfl⟩
      · have h1 : 0 < val := by omega
        obtain ⟨z, rfl⟩ := Int.eq_ofNat_of_zero_le (show 0 ≤ most by omega)
        have h3 : ¬ z < val := by omega
        clear h0
        clear hgt
        go_enter Try.func49, Try.ntmps49
        go_wp2_with fail
        refine HG.out.mono ?_
        rintro e w1 ⟨rfl, rfl⟩
        go_wp2
        go_ret3
        exact ⟨rfl, rfl⟩
  · rw [if_neg he]
    simp only [if_neg he] at HG ⊢
    have h1 : ((err : Int) == 0) = false := beq_eq_false_iff_ne.2 (by omega)
    go_enter Try.func49, Try.ntmps49
    go_wp2_with fail
    refine HG.out.mono ?_
    rintro e w1 ⟨rfl, rfl⟩
    go_wp2
    go_ret3
    exact ⟨rfl, rfl⟩

end

end Go.Proofs.Ytnbohkiimbooaaa
