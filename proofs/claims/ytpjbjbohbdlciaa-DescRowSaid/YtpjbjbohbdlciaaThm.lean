/-
  What the reading of a description says of the tables: it inverts the encoding, reads no other bytes, and finds the end of the bytes. No condition beyond those that each theorem states.
-/
import Derived.Test.YtpjbjbohbdlciaaVtb
import Derived.Test.YtpjbjbohbdlciaaQUni
namespace Go.Proofs.Ytpjbjbohbdlciaa
open Bt (bitsOf bitsOf_len unp unp_len unp_app pack val val_inj)

theorem unp_take (D : List UInt8) (n : Nat) : unp (D.take n) = (unp D).take (8 * n) := by
  by_cases h : n ≤ D.length
  · have e : unp D = unp (D.take n) ++ unp (D.drop n) := by rw [← unp_app, List.take_append_drop]
    have h2 : (unp (D.take n)).length = 8 * n := by rw [unp_len, List.length_take]; omega
    rw [e, ← h2, List.take_left]
  · rw [List.take_of_length_le (by omega), List.take_of_length_le (by rw [unp_len]; omega)]

theorem rd_step {B : List Bool} {s v s' m : Nat} (hm : 2 ≤ m) (h5 : m ≤ 514) (h : rd B s m = some (v, s')) : s' ≤ s + 10 := by
  have := rd_inv hm h
  have := code_le (n := v) h5
  omega

/-- Bits behind the 385th byte are not asked for. -/
theorem dst_prefix (B : List Bool) (N : Nat) (hN : 3080 ≤ N) (sy : Int) (hsy : sy ≤ 256) : ∀ (f left : Nat) (out : List Int) (s : Nat) (b : Bool), left ≤ 512 → (b = false → s ≤ 4 + 12 * out.length) → (b = true → s + 2 ≤ 4 + 12 * out.length) →
    dst (B.take N) sy f left out s b = dst B sy f left out s b
  | 0, _, _, _, _, _, _, _ => rfl
  | f + 1, left, out, s, false, hl, h0, _ => by
    have h0 := h0 rfl
    rw [dst, dst]
    split
    · rfl
    · split
      · rfl
      · rename_i hf
        have hw := wid_le (m := left + 2) (by omega)
        rw [rd_prefix (by omega)]
        cases hr : rd B s (left + 2) with
        | none => rfl
        | some p =>
          obtain ⟨v, s'⟩ := p
          have h1 := rd_step (by omega) (by omega) hr
          dsimp only
          split
          · rfl
          · exact dst_prefix B N hN sy hsy f _ _ _ _ (by omega) (fun _ => by rw [List.length_append, List.length_singleton]; omega) (fun _ => by rw [List.length_append, List.length_singleton]; omega)
  | f + 1, left, out, s, true, hl, _, h1 => by
    have h1 := h1 rfl
    rw [dst, dst]
    split
    · rfl
    · rename_i hf
      have e1 : (B.take N).length < s + 2 ↔ B.length < s + 2 := by rw [List.length_take]; omega
      by_cases hs : B.length < s + 2
      · rw [if_pos hs, if_pos (e1.2 hs)]
      · rw [if_neg hs, if_neg (fun h => hs (e1.1 h)), tk_prefix (by omega)]
        have hk : tk B s 2 < 4 := tk_lt _ _ 2
        exact dst_prefix B N hN sy hsy f _ _ _ _ hl (fun _ => by rw [List.length_append, List.length_replicate]; omega) (fun h => by
          rw [List.length_append, List.length_replicate]
          have : tk B s 2 = 3 := by simpa using h
          omega)

theorem dst_bound (B : List Bool) (sy : Int) (hsy : sy ≤ 256) : ∀ (f left : Nat) (out : List Int) (s : Nat) (b : Bool) (out' : List Int) (s' : Nat), left ≤ 512 → (b = false → s ≤ 4 + 12 * out.length ∧ (left = 0 → out.length ≤ 256)) → (b = true → s + 2 ≤ 4 + 12 * out.length ∧ 0 < left) →
    dst B sy f left out s b = .ok out' s' → s' ≤ 4 + 12 * out'.length ∧ out'.length ≤ 256
  | 0, _, _, _, _, _, _, _, _, _, h => by rw [dst] at h; cases h
  | f + 1, left, out, s, false, out', s', hl, h0, _, h => by
    have h0 := h0 rfl
    rw [dst] at h
    split at h
    · rename_i hz
      cases h
      exact ⟨h0.1, h0.2 hz⟩
    · split at h
      · cases h
      · rename_i hz hf
        cases hr : rd B s (left + 2) with
        | none => rw [hr] at h; cases h
        | some p =>
          obtain ⟨v, s1⟩ := p
          rw [hr] at h
          dsimp only at h
          have h1 := rd_step (by omega) (by omega) hr
          split at h
          · cases h
          · refine dst_bound B sy hsy f _ _ _ _ out' s' (by omega) (fun _ => ?_) (fun hb => ?_) h
            · rw [List.length_append, List.length_singleton]
              exact ⟨by omega, fun _ => by omega⟩
            · rw [List.length_append, List.length_singleton]
              have hv : v = 1 := by simpa using hb
              subst hv
              have : stn 1 = 0 := rfl
              exact ⟨by omega, by omega⟩
  | f + 1, left, out, s, true, out', s', hl, _, h1, h => by
    have h1 := h1 rfl
    rw [dst] at h
    split at h
    · cases h
    · split at h
      · cases h
      · have hk : tk B s 2 < 4 := tk_lt _ _ 2
        refine dst_bound B sy hsy f _ _ _ _ out' s' hl (fun _ => ?_) (fun hb => ?_) h
        · rw [List.length_append, List.length_replicate]
          exact ⟨by omega, fun h => by omega⟩
        · rw [List.length_append, List.length_replicate]
          have : tk B s 2 = 3 := by simpa using hb
          exact ⟨by omega, h1.2⟩

theorem two_pow_le {y : Nat} (h : y ≤ 9) : 2 ^ y ≤ 512 := pow_le h

theorem dcp_prefix (B : List Bool) (N : Nat) (hN : 3080 ≤ N) (sy lg : Int) (hsy : sy ≤ 256) (hlg : lg ≤ 9) : dcp (B.take N) sy lg = dcp B sy lg := by
  have e1 : (B.take N).length < 4 ↔ B.length < 4 := by rw [List.length_take]; omega
  unfold dcp
  by_cases h4 : B.length < 4
  · rw [if_pos h4, if_pos (e1.2 h4)]
  · rw [if_neg h4, if_neg (fun h => h4 (e1.1 h)), tk_prefix (by omega)]
    split
    · rfl
    · rename_i hy
      have hp := two_pow_le (y := tk B 0 4 + 1) (by omega)
      unfold dec
      have hl := List.length_take (i := N) (l := B)
      rw [dst_fuel (B.take N) sy _ (B.length + 1) _ _ _ _ (by omega) (by omega) (by omega), dst_fuel B sy _ (B.length + 1) _ _ _ _ (by omega) (by omega) (by omega)]
      exact dst_prefix B N hN sy hsy _ _ _ _ _ hp (fun _ => by simp) (fun h => by cases h)

theorem dcp_bound {B : List Bool} {sy lg : Int} {out : List Int} {s : Nat} (hsy : sy ≤ 256) (hlg : lg ≤ 9) (h : dcp B sy lg = .ok out s) : s ≤ 3076 := by
  unfold dcp at h
  split at h
  · cases h
  · split at h
    · cases h
    · rename_i hy
      have hp := two_pow_le (y := tk B 0 4 + 1) (by omega)
      have := dst_bound B sy hsy _ _ _ _ _ out s hp (fun _ => ⟨by simp, fun h => by have := Nat.two_pow_pos (tk B 0 4 + 1); omega⟩) (fun h => by cases h) h
      omega

theorem dcd_take (D : List UInt8) (sy lg : Int) : dcd (unp (D.take 385)) sy lg = dcd (unp D) sy lg := by
  rw [unp_take]
  unfold dcd
  rw [dcp_prefix _ _ (by decide) _ _ (by omega) (by omega)]
  cases h : dcp (unp D) (min sy 256) (min lg 9) with
  | bad e => rfl
  | ok out s =>
    have hs := dcp_bound (by omega) (by omega) h
    simp only [dfin]
    rw [tk_prefix (N := 8 * 385) (s := s) (by omega), tk_prefix (N := 8 * 385) (s := 0) (by omega)]

/-- What is read from the bits of a description, whatever follows. -/
theorem dcp_descr {B R : List Bool} {y : Nat} {l : List Int} (h1 : 1 ≤ y) (hv : Vt y l) (hB : B = descr y l ++ R) (sy lg : Int) :
    dcp B sy lg = if ((l.length : Nat) : Int) ≤ sy ∧ ((y : Nat) : Int) ≤ lg then .ok l (descr y l).length else .bad 13 := by
  have hy9 := hv.log
  have hlen : (descr y l).length = 4 + (enc (2 ^ y) l).length := by rw [descr, List.length_append, bitsOf_len]
  have hB4 : 4 ≤ B.length := by rw [hB, List.length_append]; omega
  have hd : B.drop 0 = bitsOf (y - 1) 4 ++ (enc (2 ^ y) l ++ R) := by rw [List.drop_zero, hB, descr, List.append_assoc]
  have ht : tk B 0 4 = y - 1 := by rw [tk_of hd, Nat.mod_eq_of_lt (by omega)]
  have hd4 : B.drop 4 = enc (2 ^ y) l ++ R := by
    have := drop_app hd
    rwa [bitsOf_len] at this
  rw [dcp, if_neg (by omega), ht, show y - 1 + 1 = y by omega]
  by_cases hl : ((y : Nat) : Int) ≤ lg
  · rw [if_neg (by omega), dec_enc _ (2 ^ y) l [] 4 R (Nat.le_refl _) hv.vs (fun h => by simp at h) (fun h => by have := hv.pos; rw [h] at this; simp at this) hB4 hd4]
    rw [List.length_nil, Nat.zero_add, List.nil_append, ← hlen]
    by_cases hn : ((l.length : Nat) : Int) ≤ sy
    · rw [if_pos hn, if_pos ⟨hn, hl⟩]
    · rw [if_neg hn, if_neg (fun h => hn h.1)]
  · rw [if_pos (by omega), if_neg (fun h => hl h.2)]

/-- A description, followed by any bytes, is read as the table. -/
theorem dcd_back {y : Nat} {l : List Int} (h1 : 1 ≤ y) (hv : Vt y l) (R : List UInt8) (sy lg : Int) :
    dcd (unp (pack (descr y l) ++ R)) sy lg = if ((l.length : Nat) : Int) ≤ sy ∧ ((y : Nat) : Int) ≤ lg then (0, y, l, (pack (descr y l)).length) else (13, 0, [], 0) := by
  obtain ⟨z, hz, hzl, hz8⟩ := Bt.unp_pack (descr y l)
  have hy9 := hv.log
  have hl := hv.len
  obtain ⟨L, hL⟩ : ∃ L, descr y l = L := ⟨_, rfl⟩
  have hB : unp (pack (descr y l) ++ R) = descr y l ++ (List.replicate z false ++ unp R) := by rw [unp_app, hz, List.append_assoc]
  have e1 : ((((l.length : Nat) : Int) ≤ min sy 256 ∧ ((y : Nat) : Int) ≤ min lg 9)) ↔ (((l.length : Nat) : Int) ≤ sy ∧ ((y : Nat) : Int) ≤ lg) := by omega
  rw [dcd, dcp_descr h1 hv hB]
  by_cases h : ((l.length : Nat) : Int) ≤ sy ∧ ((y : Nat) : Int) ≤ lg
  · rw [if_pos (e1.2 h), if_pos h]
    have hd : (unp (pack (descr y l) ++ R)).drop 0 = bitsOf (y - 1) 4 ++ (enc (2 ^ y) l ++ (List.replicate z false ++ unp R)) := by rw [List.drop_zero, hB, descr, List.append_assoc]
    have ht : tk (unp (pack (descr y l) ++ R)) 0 4 = y - 1 := by rw [tk_of hd, Nat.mod_eq_of_lt (by omega)]
    have hk : ((descr y l).length + 7) / 8 = (pack (descr y l)).length := by omega
    have h0 : tk (unp (pack (descr y l) ++ R)) (descr y l).length (8 * (((descr y l).length + 7) / 8) - (descr y l).length) = 0 := by
      rw [tk, hB, List.drop_left, show 8 * (((descr y l).length + 7) / 8) - (descr y l).length = z by omega, List.take_append_of_le_length (by rw [List.length_replicate]; exact Nat.le_refl _), List.take_of_length_le (by rw [List.length_replicate]; exact Nat.le_refl _), Bt.val_noughts]
    rw [dfin, if_pos h0, ht, hk, show y - 1 + 1 = y by omega]
  · rw [if_neg (fun g => h (e1.1 g)), if_neg h, dfin]

theorem pack_inj {y y' : Nat} {l l' : List Int} (h1 : 1 ≤ y) (h1' : 1 ≤ y') (hv : Vt y l) (hv' : Vt y' l') (h : pack (descr y l) = pack (descr y' l')) : y = y' ∧ l = l' := by
  have a := dcd_back h1 hv [] 256 9
  have b := dcd_back h1' hv' [] 256 9
  rw [h, b] at a
  have g1 := hv.log
  have g2 := hv.len
  have g1' := hv'.log
  have g2' := hv'.len
  rw [if_pos ⟨by omega, by omega⟩, if_pos ⟨by omega, by omega⟩] at a
  simp only [Prod.mk.injEq, true_and] at a
  exact ⟨a.1.symm, a.2.1.symm⟩

/-- Norms that were read are valid, and their bits are those that were read. -/
theorem dst_inv (B : List Bool) (sy : Int) : ∀ (f left : Nat) (out : List Int) (s : Nat) (b : Bool) (out' : List Int) (s' : Nat), s ≤ B.length → (b = true → 0 < left ∧ out.getLast? = some 0) → dst B sy f left out s b = .ok out' s' →
    if b then ∃ (r : Nat) (l : List Int), out' = out ++ List.replicate r 0 ++ l ∧ Vs left l ∧ l.head? ≠ some 0 ∧ l ≠ [] ∧ B.drop s = runB r ++ (enc left l ++ B.drop s') ∧ s' ≤ B.length ∧ (((out.length + r + l.length : Nat) : Int) ≤ sy)
    else ∃ l : List Int, out' = out ++ l ∧ Vs left l ∧ (out.getLast? = some 0 → l.head? ≠ some 0) ∧ B.drop s = enc left l ++ B.drop s' ∧ s' ≤ B.length ∧ (l = [] ∨ ((out.length + l.length : Nat) : Int) ≤ sy)
  | 0, _, _, _, _, _, _, _, _, h => by rw [dst] at h; cases h
  | f + 1, left, out, s, false, out', s', hs, _, h => by
    rw [if_neg (by decide)]
    rw [dst] at h
    split at h
    · rename_i hz
      cases h
      subst hz
      exact ⟨[], by simp, ⟨rfl, by simp, rfl⟩, by simp, by rw [enc_nil, List.nil_append], hs, .inl rfl⟩
    · split at h
      · cases h
      · rename_i hz hf
        cases hr : rd B s (left + 2) with
        | none => rw [hr] at h; cases h
        | some p =>
          obtain ⟨v, s1⟩ := p
          rw [hr] at h
          dsimp only at h
          obtain ⟨hv, hd, hs1, hs1l, _⟩ := rd_inv (by omega) hr
          have hst := stn_sts v
          split at h
          · cases h
          · rename_i hn
            by_cases hv1 : v = 1
            · subst hv1
              have hi := dst_inv B sy f _ _ _ _ out' s' hs1l (fun _ => ⟨by have : stn 1 = 0 := rfl; omega, by rw [getLast?_snoc]; rfl⟩) h
              rw [show ((1 : Nat) == 1) = true from rfl, if_pos rfl] at hi
              obtain ⟨r, l, e1, hvs, hh, hne, hb, hl', hle⟩ := hi
              rw [show left - stn 1 = left from rfl] at hvs hb
              have hvs0 : Vs left (0 :: (List.replicate r 0 ++ l)) := by
                refine ⟨?_, ?_, ?_⟩
                · have := hvs.ok
                  rw [okn, List.all_eq_true] at this ⊢
                  intro x hx
                  rcases List.mem_cons.1 hx with rfl | hx
                  · decide
                  · rcases List.mem_append.1 hx with hx | hx
                    · rw [List.eq_of_mem_replicate hx]; decide
                    · exact this x hx
                · rw [show (0 : Int) :: (List.replicate r 0 ++ l) = (0 :: List.replicate r 0) ++ l from rfl, List.getLast?_append, List.getLast?_eq_some_getLast hne, Option.some_or, ← List.getLast?_eq_some_getLast hne]
                  exact hvs.last
                · rw [ssum_cons, ssum_append, ssum_zeros, hvs.sum]
                  have : sts 0 = 0 := rfl
                  omega
              refine ⟨0 :: (List.replicate r 0 ++ l), ?_, hvs0, fun hg => absurd ⟨rfl, hg⟩ hn, ?_, hl', .inr ?_⟩
              · rw [e1]; simp
              · have e2 : (List.replicate r (0 : Int) ++ l).drop r = l := by
                  have := List.drop_left (l₁ := List.replicate r (0 : Int)) (l₂ := l)
                  rwa [List.length_replicate] at this
                rw [enc_zero, zr_app hh r, hd, hb, e2]
                simp only [List.append_assoc]
              · rw [List.length_append, List.length_singleton] at hle
                simp only [List.length_cons, List.length_append, List.length_replicate]
                omega
            · have hi := dst_inv B sy f _ _ _ _ out' s' hs1l (fun h => absurd (by simpa using h) hv1) h
              rw [show (v == 1) = false by simpa using hv1, if_neg (by decide)] at hi
              obtain ⟨l, e1, hvs, hh, hb, hl', hle⟩ := hi
              have hx0 : (v : Int) - 1 ≠ 0 := by omega
              have hsn : stn v ≤ left := by unfold stn; split <;> omega
              refine ⟨((v : Int) - 1) :: l, by rw [e1]; simp, ⟨?_, ?_, ?_⟩, fun _ h => ?_, ?_, hl', .inr ?_⟩
              · have := hvs.ok
                rw [okn, List.all_cons, Bool.and_eq_true]
                exact ⟨decide_eq_true (by omega), this⟩
              · cases l with
                | nil => simpa using hx0
                | cons x l => rw [List.getLast?_cons_cons]; exact hvs.last
              · rw [ssum_cons, hvs.sum, hst]
                omega
              · rw [List.head?_cons] at h
                exact hx0 (Option.some.inj h)
              · rw [enc_cons _ hx0, hd, hb, hst, Int.toNat_natCast, show ((v : Int) - 1 + 1).toNat = v by omega, List.append_assoc]
              · rcases hle with rfl | hle
                · simp only [List.length_cons, List.length_nil]; omega
                · rw [List.length_append, List.length_singleton] at hle
                  rw [List.length_cons]; omega
  | f + 1, left, out, s, true, out', s', hs, h1, h => by
    rw [if_pos rfl]
    obtain ⟨h0, hg⟩ := h1 rfl
    rw [dst] at h
    split at h
    · cases h
    · split at h
      · cases h
      · rename_i hf hl
        have hk : tk B s 2 < 4 := tk_lt _ _ 2
        have hd := tk_bits (B := B) (s := s) (n := 2) (by omega)
        obtain ⟨k, hkk⟩ : ∃ k, tk B s 2 = k := ⟨_, rfl⟩
        rw [hkk] at h hk hd
        have hg2 : (out ++ List.replicate k 0).getLast? = some 0 := by
          cases k with
          | zero => simpa using hg
          | succ k => rw [List.replicate_succ', ← List.append_assoc]; exact getLast?_snoc _ _
        by_cases hk3 : k = 3
        · subst hk3
          have hi := dst_inv B sy f _ _ _ _ out' s' (by omega) (fun _ => ⟨h0, hg2⟩) h
          rw [show ((3 : Nat) == 3) = true from rfl, if_pos rfl] at hi
          obtain ⟨r, l, e1, hvs, hh, hne, hb, hl', hle⟩ := hi
          refine ⟨r + 3, l, ?_, hvs, hh, hne, ?_, hl', ?_⟩
          · rw [e1, List.append_assoc out, List.replicate_append_replicate, Nat.add_comm 3 r]
          · rw [runB_high, hd, hb, List.append_assoc]
          · rw [List.length_append, List.length_replicate] at hle; omega
        · have hi := dst_inv B sy f _ _ _ _ out' s' (by omega) (fun h => absurd (by simpa using h) hk3) h
          rw [show (k == 3) = false by simpa using hk3, if_neg (by decide)] at hi
          obtain ⟨l, e1, hvs, hh, hb, hl', hle⟩ := hi
          have hne : l ≠ [] := by
            rintro rfl
            have := hvs.nil
            omega
          refine ⟨k, l, e1, hvs, hh hg2, hne, ?_, hl', ?_⟩
          · rw [runB_low (by omega), hd, hb]
          · rcases hle with h | hle
            · exact absurd h hne
            · rw [List.length_append, List.length_replicate] at hle; exact hle

theorem dst_bad (B : List Bool) (sy : Int) : ∀ (f left : Nat) (out : List Int) (s : Nat) (b : Bool), s ≤ B.length → B.length < s + f → dst B sy f left out s b = .bad 0 → False
  | 0, _, _, s, _, h0, h1, _ => by omega
  | f + 1, left, out, s, false, h0, h1, h => by
    rw [dst] at h
    split at h
    · cases h
    · split at h
      · cases h
      · cases hr : rd B s (left + 2) with
        | none => rw [hr] at h; cases h
        | some p =>
          obtain ⟨v, s1⟩ := p
          rw [hr] at h
          dsimp only at h
          have := rd_lt (by omega) hr
          split at h
          · cases h
          · exact dst_bad B sy f _ _ _ _ this.2 (by omega) h
  | f + 1, left, out, s, true, h0, h1, h => by
    rw [dst] at h
    split at h
    · cases h
    · split at h
      · cases h
      · exact dst_bad B sy f _ _ _ _ (by omega) (by omega) h

theorem zeros_of {X : List Bool} (h : val X = 0) : X = List.replicate X.length false := val_inj (by simp) (by rw [h, Bt.val_noughts])
theorem unp_inj {F G : List UInt8} (h : unp F = unp G) : F = G := by
  have hl : F.length = G.length := by
    have := congrArg List.length h
    rw [unp_len, unp_len] at this
    omega
  have hn : Bt.num F = Bt.num G := by rw [← Bt.val_unp, ← Bt.val_unp, h]
  rw [← Bt.byts_num0 F, ← Bt.byts_num0 G, hl, hn]

/-- A table that was read is valid within the bounds, and its description is what was read. -/
theorem dcd_once {D : List UInt8} {sy lg : Int} {y : Nat} {l : List Int} {n : Nat} (h : dcd (unp D) sy lg = (0, y, l, n)) :
    1 ≤ y ∧ Vt y l ∧ ((l.length : Nat) : Int) ≤ sy ∧ ((y : Nat) : Int) ≤ lg ∧ n ≤ D.length ∧ pack (descr y l) = D.take n := by
  obtain ⟨B, hB⟩ : ∃ B, unp D = B := ⟨_, rfl⟩
  have hBl : B.length = 8 * D.length := by rw [← hB, unp_len]
  rw [hB] at h
  unfold dcd at h
  cases hd : dcp B (min sy 256) (min lg 9) with
  | bad e =>
    exfalso
    rw [hd, dfin] at h
    simp only [Prod.mk.injEq] at h
    obtain ⟨rfl, hy, _⟩ := h
    unfold dcp at hd
    split at hd
    · cases hd
    · split at hd
      · cases hd
      · exact dst_bad _ _ _ _ _ _ _ (by omega) (by omega) hd
  | ok out s =>
    rw [hd, dfin] at h
    split at h
    · rename_i hz
      simp only [Prod.mk.injEq, true_and] at h
      obtain ⟨hy, rfl, hn⟩ := h
      unfold dcp at hd
      split at hd
      · cases hd
      · split at hd
        · cases hd
        · rename_i h4 hlg
          rw [hy] at hd hlg
          have h1 := dst_inv B _ _ _ _ _ _ out s (by omega) (fun h => by cases h) hd
          rw [if_neg (by decide)] at h1
          obtain ⟨l, e1, hvs, _, hb, hsl, hle⟩ := h1
          rw [List.nil_append] at e1
          subst e1
          have hpos : out ≠ [] := by
            rintro rfl
            have := hvs.nil
            have := Nat.two_pow_pos y
            omega
          rw [List.length_nil, Nat.zero_add] at hle
          have hle2 := hle.resolve_left hpos
          have hv : Vt y out := Vt.of hvs (by omega) (by omega)
          have hd4 := tk_bits (B := B) (s := 0) (n := 4) (by omega)
          have hB2 : B = descr y out ++ B.drop s := by
            rw [List.drop_zero, Nat.zero_add, hb] at hd4
            rw [descr, List.append_assoc, show y - 1 = tk B 0 4 by omega]
            exact hd4
          have hsd : s = (descr y out).length := by
            have := congrArg List.length hB2
            rw [List.length_append, List.length_drop] at this
            omega
          refine ⟨by omega, hv, by omega, by omega, by omega, unp_inj ?_⟩
          obtain ⟨z, hzz, hzl, hz8⟩ := Bt.unp_pack (descr y out)
          rw [hzz, unp_take, hB]
          obtain ⟨X, hX⟩ : ∃ X, (B.drop s).take (8 * n - s) = X := ⟨_, rfl⟩
          have hXl : X.length = z := by rw [← hX, List.length_take, List.length_drop]; omega
          have hX0 : X = List.replicate z false := by
            rw [← hXl]
            refine zeros_of ?_
            rw [← hX]
            rw [tk, hn] at hz
            exact hz
          rw [← hX0, ← hX]
          conv => rhs; rw [hB2, List.take_append]
          rw [List.take_of_length_le (l := descr y out) (by omega), ← hsd]
    · simp at h

end Go.Proofs.Ytpjbjbohbdlciaa
