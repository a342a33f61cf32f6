/-
  What push of a ring's buffer does: the contents are then the last bytes of the former contents and the new bytes. Conditions: the bytes do not lie in the ring's own blocks; fewer than 2^40 of them.
-/
import Derived.Test.YteogpmapbeogpaaDoorExd
namespace Go.Proofs.YteogpmapbeogpaaDoor
open Go.RowKit

/-- Block x is a ring with the contents l and the total t behind the call. -/
def PshPost (w : World) (x lim t : Nat) (v : Value) (l : List UInt8) (e : Ending) (w' : World) : Prop :=
  e = .returned (.tuple #[]) ∧ ∃ v', Rg w' x v' lim l t ∧ Chg (Fp x v) w w' ∧ New w v v'

theorem push_fin {w w1 w2 : World} {x lim o t n a : Nat} {v v1 : Value} {l p m : List UInt8} (h1 : 1 ≤ lim) (hlim : lim ≤ 134217728) (hp : p.length ≤ lim) (hop : o ≤ p.length) (hol : o < lim) (hz : p.length < lim → o = 0) (hr : rot o p = l) (ha : a = min m.length (lim - p.length)) (hn : n = m.length - a)
    (hb1 : Rb w1 x lim v1 o t) (ho1 : w1.ownsRow 0 5 1 v1 (p ++ m.take a).length ((p ++ m.take a).map byt)) (hc1 : Chg (Fp x v) w w1) (hn1 : New w v v1)
    (h2 : RepPost w1 x lim v1 t (rot o p ++ m.take a) (m.drop a) n (.returned (.tuple #[])) w2) : PshPost w x lim t v (fin lim (l ++ m)) (.returned (.tuple #[])) w2 := by
  subst hr
  have hrl : (rot o p).length = p.length := rot_len hop
  rcases h2.2 with ⟨hd, rfl⟩ | ⟨hd, p2, o2, hb2, ho2, hp2, hol2, hr2, hc2⟩
  · have ham : a = m.length := by
      have := congrArg List.length hd
      simp at this
      omega
    have e1 : m.take a = m := List.take_of_length_le (by omega)
    rw [e1] at ho1
    refine ⟨rfl, v1, ⟨h1, hlim, p ++ m, o, hb1, ho1, ?_, ?_, hol, ?_, ?_⟩, hc1, hn1⟩
    · rw [List.length_append]; omega
    · rw [List.length_append]; omega
    · rw [List.length_append]; intro h; exact hz (by omega)
    · rw [fin_short (by rw [List.length_append]; omega)]
      rcases Nat.eq_zero_or_pos m.length with h | h
      · rw [List.eq_nil_of_length_eq_zero h]; simp
      · rw [hz (by omega), rot_zero, rot_zero]
  · have hdl : (m.drop a).length = m.length - a := List.length_drop
    have hd0 : 0 < (m.drop a).length := List.length_pos_iff.2 hd
    refine ⟨rfl, v1, ⟨h1, hlim, p2, o2, hb2, by rw [hp2]; exact ho2, by omega, by omega, hol2, by omega, ?_⟩, hc1.fp hc2 hn1, hn1⟩
    rw [hr2, List.take_of_length_le (show (m.drop a).length ≤ n by omega), List.append_assoc, List.take_append_drop]
    unfold fin
    congr 1
    rw [List.length_append, hrl]
    omega

set_option maxRecDepth 100000 in
set_option maxHeartbeats 4000000 in
theorem push_fit {w : World} {x lim t : Nat} {v : Value} {l : List UInt8} (h : Rg w x v lim l t) (D : Option Addr) (q : List UInt8) (Q cq : Nat) (hQ : q.length = Q) (hQc : Q ≤ cq) (hQl : Q ≤ 1099511627776) (hR : Rd w D q) (hO : Out D q (Fp x v)) (B : Option Addr) (m : List UInt8) (s : Nat) (hs : s = Q - lim) (hBm : off D cq s = B) (hmq : q.drop s = m) :
    Calls Tryd.prog 31 #[.pointer (some ⟨x, 0, none⟩), .slice D Q cq] w (PshPost w x lim t v (fin lim (l ++ m))) := by
  have h1 := h.one
  have hlim := h.most
  obtain ⟨p, o, hb, ho, hp, hop, hol, hz, hr⟩ := h.is
  obtain ⟨A, c, rfl, hc⟩ := own_form ho
  have Rm : Rd w B m := by rw [← hBm, ← hmq]; exact off_rd hR (by omega)
  have Om : Out B m (Fp x (.slice A p.length c)) := by rw [← hBm, ← hmq]; exact hO.drop _ _
  obtain ⟨M, hM⟩ : ∃ M, m.length = M := ⟨_, rfl⟩
  have hMQ : M = Q - s := by rw [← hM, ← hmq, List.length_drop, hQ]
  obtain ⟨cm, hcm⟩ : ∃ cm, cq - s = cm := ⟨_, rfl⟩
  obtain ⟨n, hn⟩ : ∃ n, p.length = n := ⟨_, rfl⟩
  obtain ⟨a, ha⟩ : ∃ a, a = min M (lim - n) := ⟨_, rfl⟩
  obtain ⟨B2, hB2⟩ : ∃ B2, off B cm a = B2 := ⟨_, rfl⟩
  rw [hn] at hb ho hp hop hz hc Om
  have E := Lib.hid (extend_any (w := w.drew) hn (hb.same rfl) (own_same ho fun _ _ => rfl) hlim B (m.take a) a a (by rw [List.length_take]; omega) (by have := Rv.take (w := w.drew) (Rv.same Rm (fun _ _ => rfl)) a; rw [← List.map_take] at this; exact this) (Om.take a) (by omega))
  have c0 := hb.c0
  have c1 := hb.c1
  obtain ⟨zi, hzi⟩ : ∃ zi : Int, zi = (s : Int) := ⟨_, rfl⟩
  obtain ⟨za, hza⟩ : ∃ za : Int, za = (a : Int) := ⟨_, rfl⟩
  have s1 := fun W => slice_lo D Q cq s (by omega) W
  have s2 := fun W => slice_hm B M cm a (by omega) W
  have s3 := fun W => slice_lo B M cm a (by omega) W
  simp only [hBm, hcm, ← hMQ, ← hzi] at s1
  simp only [← hza] at s2
  simp only [hB2, ← hza] at s3
  have FN : Hid (∀ w1 w2 v1, Rb w1 x lim v1 o t → w1.ownsRow 0 5 1 v1 (p ++ m.take a).length ((p ++ m.take a).map byt) → Chg (Fp x (.slice A n c)) w.drew w1 → New w.drew (.slice A n c) v1 → RepPost w1 x lim v1 t (rot o p ++ m.take a) (m.drop a) (M - a) (.returned (.tuple #[])) w2 → PshPost w x lim t (.slice A n c) (fin lim (l ++ m)) (.returned (.tuple #[])) w2) :=
    Lib.hid fun w1 w2 v1 a1 a2 a3 a4 a5 => push_fin h1 hlim (by omega) (by omega) hol (by omega) hr (by omega) (by omega) a1 a2 ⟨a3.os, a3.tape, a3.output, a3.size, a3.block⟩ a4 a5
  have REP : Hid (∀ w1 v1, Rb w1 x lim v1 o t → w1.ownsRow 0 5 1 v1 (p ++ m.take a).length ((p ++ m.take a).map byt) → Chg (Fp x (.slice A n c)) w.drew w1 → New w.drew (.slice A n c) v1 → Calls Tryd.prog 47 #[.pointer (some ⟨x, 0, none⟩), .slice B2 (M - a) (cm - a)] w1 (RepPost w1 x lim v1 t (rot o p ++ m.take a) (m.drop a) (M - a))) := Lib.hid (by
    intro w1 v1 a1 a2 a3 a4
    have R2 : Rd w1 B m := rd_chg (w := w.drew) (Rv.same Rm (fun _ _ => rfl)) a3 Om
    have O2 : Out B m (Fp x v1) := Om.mono fun ad e hm ht => by
      rcases ht with e1 | e1
      · exact .inl e1
      · rcases a4 _ e1 with e2 | e2
        · exact .inr e2
        · exact absurd (rd_lt Rm hm ad e) (Nat.not_lt.2 e2)
    refine replace_any B2 (m.drop a) (M - a) (cm - a) (by rw [List.length_drop, hM]) (by omega) (by omega) (by rw [← hB2]; exact off_rd R2 (by omega)) (by rw [← hB2]; exact O2.drop _ _) hlim (fun hd => ?_) (fun hd => ?_)
    · have : 0 < (m.drop a).length := List.length_pos_iff.2 hd
      rw [List.length_drop] at this
      rw [List.length_append, rot_len (by omega), List.length_take]
      omega
    · have : 0 < (m.drop a).length := List.length_pos_iff.2 hd
      rw [List.length_drop] at this
      have hpl : (p ++ m.take a).length = lim := by rw [List.length_append, List.length_take]; omega
      refine ⟨p ++ m.take a, o, a1, by rw [hpl] at a2; exact a2, hpl, hol, ?_, Chg.refl _ _⟩
      simp only [List.take_zero, List.append_nil, List.drop_zero]
      rcases Nat.eq_zero_or_pos a with h0 | h0
      · rw [h0]; simp
      · rw [hz (by omega), rot_zero, rot_zero])
  have ci : (zi = 0 ∧ ¬ (0 < (Q : Int) - (lim : Int))) ∨ (zi = (Q : Int) - (lim : Int) ∧ 0 < (Q : Int) - (lim : Int)) := by omega
  have ca : (za = (M : Int) ∧ ¬ ((lim : Int) - (n : Int) < (M : Int))) ∨ (za = (lim : Int) - (n : Int) ∧ (lim : Int) - (n : Int) < (M : Int)) := by omega
  have hMb : M ≤ 1099511627776 := by omega
  rw [hn]
  obtain ⟨r, hr'⟩ : ∃ r, M - a = r := ⟨_, rfl⟩
  obtain ⟨rc, hrc⟩ : ∃ rc, cm - a = rc := ⟨_, rfl⟩
  simp only [hr', hrc] at s3 REP FN
  clear h hb ho hop hol hz hr hc Rm Om hR hO hBm hmq hM hn hB2 hs hMQ hcm ha hzi hza hr' hrc hQ
  rcases ci with ⟨rfl, hci⟩ | ⟨rfl, hci⟩ <;> rcases ca with ⟨rfl, hca⟩ | ⟨rfl, hca⟩
  all_goals
    go_enter Tryd.func31, Tryd.ntmps31
    go_wp2
    go_region
    go_wp2_with (first
      | (go_at_call 46; refine E.out.mono ?_; rintro e w1 ⟨rfl, v1, a1, a2, a3, a4⟩; have A1 := Lib.hid (And.intro a1 (And.intro a2 (And.intro a3 a4))); clear a1 a2 a3 a4)
      | (go_at_call 47; refine (REP.out w1 v1 A1.out.1 A1.out.2.1 A1.out.2.2.1 A1.out.2.2.2).mono ?_; intro e w2 hp2; have he2 := hp2.1; subst he2; have P2 := Lib.hid hp2; clear hp2))
    go_end0
    exact FN.out w1 w2 v1 A1.out.1 A1.out.2.1 A1.out.2.2.1 A1.out.2.2.2 P2.out

/-- push at any bytes. -/
theorem push_any {w : World} {x lim t : Nat} {v : Value} {l : List UInt8} (h : Rg w x v lim l t) (D : Option Addr) (q : List UInt8) (Q cq : Nat) (hQ : q.length = Q) (hQc : Q ≤ cq) (hQl : Q ≤ 1099511627776) (hR : Rd w D q) (hO : Out D q (Fp x v)) :
    Calls Tryd.prog 31 #[.pointer (some ⟨x, 0, none⟩), .slice D Q cq] w (PshPost w x lim t v (fin lim (l ++ q))) := by
  have := push_fit h D q Q cq hQ hQc hQl hR hO _ _ _ rfl rfl rfl
  have e : q.drop (Q - lim) = fin lim q := by rw [← hQ]; rfl
  rw [e, fin_app_fin] at this
  exact this

end Go.Proofs.YteogpmapbeogpaaDoor
