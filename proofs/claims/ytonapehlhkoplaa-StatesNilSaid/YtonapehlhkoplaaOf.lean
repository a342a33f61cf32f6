/-
  What the reference's Of does: it returns the symbol of each index of a valid table, in new memory, or the error. Nothing that was there has changed. Condition: a slice can hold the norms.
-/
import Derived.Test.YtonapehlhkoplaaSpr
import Derived.Test.YtonapehlhkoplaaMay
namespace Go.Proofs.Ytonapehlhkoplaa
open Go.RowKit Go.Shelf

/-- What the reference writes down for an index: its symbol, or -1. -/
def enc (m : Nat → Option Nat) (i : Nat) : Int := match m i with | some x => (x : Int) | none => -1
def rw' (s : Nat) (m : Nat → Option Nat) : List Int := (List.range s).map (enc m)
def ini (s i : Nat) : List Int := (List.range s).map (fun j => if j < i then -1 else 0)
theorem rw_len (s : Nat) (m : Nat → Option Nat) : (rw' s m).length = s := by simp [rw']
theorem rw_get {s i : Nat} (m : Nat → Option Nat) (h : i < s) : (rw' s m)[i]? = some (enc m i) := by simp [rw', h]
theorem rw_set (s t x : Nat) (m : Nat → Option Nat) : (rw' s m).set t (x : Int) = rw' s (upd m t x) := by
  refine List.ext_getElem? fun j => ?_
  rw [List.getElem?_set]
  rcases Nat.lt_or_ge j s with h | h
  · rw [rw_get (upd m t x) h]
    by_cases hij : t = j
    · subst hij
      rw [if_pos rfl, if_pos (by rw [rw_len]; exact h)]
      simp [enc, upd_same]
    · rw [if_neg hij, rw_get m h]
      simp [enc, upd_other m x (fun e => hij e.symm)]
  · rw [List.getElem?_eq_none (l := rw' s (upd m t x)) (by rw [rw_len]; exact h)]
    split
    · rw [if_neg (by rw [rw_len]; omega)]
    · exact List.getElem?_eq_none (by rw [rw_len]; exact h)
theorem ini_zero (s : Nat) : ini s 0 = List.replicate s 0 := by
  refine List.ext_getElem? fun j => ?_
  rcases Nat.lt_or_ge j s with h | h
  · simp [ini, h]
  · simp [ini, h]
theorem ini_set (s i : Nat) : (ini s i).set i (-1) = ini s (i + 1) := by
  refine List.ext_getElem? fun j => ?_
  rw [List.getElem?_set]
  rcases Nat.lt_or_ge j s with h | h
  · by_cases hij : i = j
    · subst hij
      simp [ini, h]
    · have h3 : (j < i + 1) = (j < i) := by apply propext; omega
      simp [ini, h, hij, h3]
  · have h2 : (ini s (i + 1))[j]? = none := List.getElem?_eq_none (by simp [ini]; exact h)
    rw [h2]
    split
    · rw [if_neg (by simp [ini]; omega)]
    · exact List.getElem?_eq_none (by simp [ini]; exact h)
theorem ini_all (s : Nat) : ini s s = rw' s (m0 s []) := by
  refine List.map_congr_left fun j hj => ?_
  rw [if_pos (List.mem_range.1 hj), m0_nil]
  rfl
theorem rw_spl {y s : Nat} {l : List Int} (hv : Vt y l) (hse : 2 ^ y = s) : (rw' s (fin s l)).map iv = (spl s l).map nv := by
  unfold rw' spl
  rw [List.map_map, List.map_map]
  refine List.map_congr_left fun j hj => ?_
  obtain ⟨x, hx⟩ := hv.has (i := j) (by rw [hse]; exact List.mem_range.1 hj)
  rw [hse] at hx
  simp [enc, hx]
theorem idx_vi {y s j : Nat} (h : y ≤ 9) (hse : 2 ^ y = s) (hj : j < s) : (vis s).idxOf (vi s j) = j := by
  have hn := vis_nodup h
  rw [hse] at hn
  have hl : j < (vis s).length := by rw [vis_len]; exact hj
  have h1 := hn.idxOf_getElem j hl
  have h2 := vis_get hj
  rw [List.getElem?_eq_getElem hl] at h2
  rw [Option.some.inj h2] at h1
  exact h1
theorem m0_snoc {s : Nat} {k : List Nat} (i : Nat) (h : k.length < s) : upd (m0 s k) (s - 1 - k.length) i = m0 s (k ++ [i]) := by
  have e1 := m0_step (s := s) (j := k.length) (x := i) (r := k ++ [i]) h (by simp)
  rw [List.take_left, List.take_of_length_le (by simp)] at e1
  exact e1
/-- The state of the search: visit j is at hand; what is still to be given leads to F. -/
structure Srch (s : Nat) (F : Nat → Option Nat) (j t : Nat) (m : Nat → Option Nat) (r : List Nat) : Prop where
  lt : j < s
  at_ : t = vi s j
  go : go ((vis s).drop j) m r = F
  ok : Ok ((vis s).drop j) m r
theorem Srch.next {s : Nat} {F : Nat → Option Nat} {j t x z : Nat} {m : Nat → Option Nat} {r : List Nat} (h : Srch s F j t m (z :: r)) (hx : m t = some x) : Srch s F (j + 1) (vi s (j + 1)) m (z :: r) := by
  have hd := vis_drop h.lt
  rw [← h.at_] at hd
  have h1 := h.ok
  rw [hd] at h1
  have h2 := h1.taken hx
  refine ⟨?_, rfl, ?_, h2⟩
  · rcases Nat.lt_or_ge (j + 1) s with h3 | h3
    · exact h3
    · have := h2.len
      rw [List.drop_of_length_le (by rw [vis_len]; exact h3)] at this
      simp [fre] at this
  · rw [← h.go, hd, go_taken hx]
theorem Srch.put {s : Nat} {F : Nat → Option Nat} {j t z : Nat} {m : Nat → Option Nat} {r : List Nat} (h : Srch s F j t m (z :: r)) (hx : m t = none) : Srch s F j t (upd m t z) r := by
  have hd := vis_drop h.lt
  rw [← h.at_] at hd
  have h1 := h.ok
  rw [hd] at h1
  obtain ⟨z', r', e, h2⟩ := h1.free hx
  injection e with e1 e2
  subst e1 e2
  refine ⟨h.lt, h.at_, ?_, ?_⟩
  · rw [← h.go, hd, go_free hx, go_taken (upd_same m t z)]
  · rw [hd]
    refine ⟨h1.nd, ?_⟩
    rw [← h2.len]
    simp [fre, upd_same]
theorem Srch.done {s : Nat} {F : Nat → Option Nat} {j t : Nat} {m : Nat → Option Nat} (h : Srch s F j t m []) : m = F := by
  rw [← h.go, go_none _ h.ok.len]
theorem ors_from {l : List Int} {i : Nat} {x : Int} (h : l[i]? = some x) : ors i (l.drop i) = List.replicate x.toNat i ++ ors (i + 1) (l.drop (i + 1)) := by
  obtain ⟨hl, he⟩ := List.getElem?_eq_some_iff.1 h
  rw [List.drop_eq_getElem_cons hl, he]
  rfl

set_option maxRecDepth 100000 in
set_option maxHeartbeats 4000000 in
theorem of_bad (w : World) (y : Int) (A : Option Addr) (l : List Int) (N c : Nat) (hN : l.length = N) (hb : N ≤ 1000000) (hv : vt y l 256 9 = false) (hR : Ri w A l) :
    Calls Try.prog 32 #[tb y A N c] w fun e w' => e = .returned (.tuple #[.slice none 0 0, .int .i64 13]) ∧ Below w.heap.size w w' := by
  have b1 : Below w.heap.size w (w.alloc (.cells #[.int .i64 y, .slice A N c] 24)) := (Below.refl _ w).alloc (Nat.le_refl _) _
  have t1 := Tb.new w y A N c
  obtain ⟨w1, hw1⟩ : ∃ w1, w.alloc (.cells #[.int .i64 y, .slice A N c] 24) = w1 := ⟨_, rfl⟩
  rw [hw1] at b1 t1
  have c0 := t1.c0
  have c1 := t1.c1
  have CH : Hid (Calls Try.prog 16 #[tb y A N c, .int .i64 256, .int .i64 9] w1 fun e w' => e = .returned (.int .i64 13) ∧ Below w1.heap.size w1 w') := Lib.hid (by
    have := may_any w1 y 256 9 A l N c hN (by omega) (hR.below b1)
    rw [hv] at this
    exact this)
  have B1 := Lib.hid b1
  clear b1 t1 hR hN hv
  go_enter Try.func32, Try.ntmps32
  go_wp2_with (go_at_call 16; refine CH.out.mono ?_; rintro e w2 ⟨rfl, hb2⟩; have B2 := Lib.hid (below_on B1.out (Nat.le_refl _) hb2); clear hb2)
  go_ret2
  exact ⟨rfl, B2.out⟩

set_option maxRecDepth 100000 in
set_option maxHeartbeats 4000000 in
theorem of_ok (w : World) (y s : Nat) (A : Option Addr) (l : List Int) (N c : Nat) (hN : l.length = N) (hv : Vt y l) (hse : 2 ^ y = s) (hR : Ri w A l) :
    Calls Try.prog 32 #[tb y A N c] w fun e w' => ∃ g, e = .returned (.tuple #[.slice (some ⟨g, 0, none⟩) s s, .int .i64 0]) ∧ w'.ownsRow w.heap.size 3 1 (.slice (some ⟨g, 0, none⟩) s s) s ((spl s l).map nv) ∧ Below w.heap.size w w' := by
  have hN2 : N ≤ 256 := by rw [← hN]; exact hv.len
  have hy9 := hv.log
  have hs5 : s ≤ 512 := by rw [← hse]; exact hv.size
  have hs1 : 1 ≤ s := by rw [← hse]; exact Nat.one_le_two_pow
  have hvt : err (vt (y : Int) l 256 9) = 0 := by rw [vt_iff.2 ⟨y, rfl, hv⟩]; rfl
  have htot := hv.total
  have hst := hv.start
  rw [hse] at htot hst
  have HTO : Hid (∀ (i : Nat) (x : Int), l[i]? = some x → x.toNat ≤ 512) := Lib.hid (fun i x hx => by
    have h1 := ors_take_le l (i + 1)
    rw [ors_step hx] at h1
    simp at h1
    omega)
  have HTR : Hid (∀ i, (rs 0 (l.take i)).length ≤ s) := Lib.hid (fun i => by have := rs_take_le l i; omega)
  have b1 : Below w.heap.size w (w.alloc (.cells #[.int .i64 (y : Int), .slice A N c] 24)) := (Below.refl _ w).alloc (Nat.le_refl _) _
  have t1 := Tb.new w (y : Int) A N c
  obtain ⟨w1, hw1⟩ : ∃ w1, w.alloc (.cells #[.int .i64 (y : Int), .slice A N c] 24) = w1 := ⟨_, rfl⟩
  rw [hw1] at b1 t1
  have c0 := t1.c0
  have c1 := t1.c1
  have CH : Hid (Calls Try.prog 16 #[tb y A N c, .int .i64 256, .int .i64 9] w1 fun e w' => e = .returned (.int .i64 0) ∧ Below w1.heap.size w1 w') := Lib.hid (by
    have := may_any w1 (y : Int) 256 9 A l N c hN (by omega) (hR.below b1)
    rw [hvt] at this
    exact this)
  have SZ : Hid (∀ W, Calls Try.prog 24 #[.int .i64 (y : Int)] W fun e w' => e = .returned (.int .i64 (s : Int)) ∧ w' = W) := Lib.hid (fun W => by
    have := size_any W (y : Int)
    have e : siz (y : Int) = s := by unfold siz; rw [if_neg (by omega)]; simpa using hse
    rw [e] at this
    exact this)
  obtain ⟨p, hp⟩ : ∃ p, stp s = p := ⟨_, rfl⟩
  have hpb : p ≤ 1000 := by rw [← hp]; exact stp_le hs5
  have ST : Hid (∀ W, Calls Try.prog 45 #[.int .i64 (s : Int)] W fun e w' => e = .returned (.int .i64 (p : Int)) ∧ w' = W) := Lib.hid (fun W => by
    have := rstep_any W (s : Int)
    rw [stz_nat hs5, hp] at this
    exact this)
  have HP := Lib.hid hp
  have HRW : Hid ((rw' s (fin s l)).map iv = (spl s l).map nv) := Lib.hid (rw_spl hv hse)
  have HIX : Hid (∀ j, j < s → (vis s).idxOf (vi s j) = j) := Lib.hid (fun j hj => idx_vi hy9 hse hj)
  have HSR : Hid (Srch s (fin s l) 0 0 (m0 s (rs 0 l)) (ors 0 l)) := Lib.hid ⟨by omega, (vi_zero s).symm, rfl, hst⟩
  obtain ⟨Z, hZ⟩ : ∃ Z, (spl s l).map nv = Z := ⟨_, rfl⟩
  rw [hZ] at HRW ⊢
  have MK : Hid (∀ W : World, ∃ w', (Instr.makeSlice 22 (.int .i64 (s : Int)) (.int .i64 (s : Int))).run Try.prog W = .ok (.slice (some ⟨W.heap.size, 0, none⟩) s s) w' ∧ w'.ownsRow W.heap.size 3 1 (.slice (some ⟨W.heap.size, 0, none⟩) s s) s ((ini s 0).map iv) ∧ Below W.heap.size W w') := Lib.hid (fun W => by
    have := make_ints s (by omega) W
    rwa [ini_zero])
  have B1 := Lib.hid b1
  have T1 := Lib.hid t1
  have R1 := Lib.hid (hR.below b1)
  have HN := Lib.hid hN
  clear b1 t1 hR hN hv hvt htot hst hse hp hZ
  go_enter Try.func32, Try.ntmps32
  go_wp2_with (first
    | (go_at_call 16; refine CH.out.mono ?_; rintro e w2 ⟨rfl, hb2⟩; have q2 := T1.out.below hb2; have a0 := q2.c0; have a1 := q2.c1; obtain ⟨w3, mk, ho3, hb3⟩ := MK.out w2; have Z2 := Lib.hid q2.lt; have O3 := Lib.hid ho3; have B3 := Lib.hid (below_on hb2 (Nat.le_refl _) hb3); have S2 := Lib.hid hb2.size; clear hb2 q2 ho3 hb3)
    | (go_at_call 24; refine (SZ.out _).mono ?_; rintro e w2 ⟨rfl, rfl⟩))
  obtain ⟨g, hg⟩ : ∃ g, w2.heap.size = g := ⟨_, rfl⟩
  simp only [hg] at mk O3 S2 Z2 ⊢
  clear hg mk a0 a1
  go_loopw [7] (fun u wr => ∃ i : Nat, i ≤ s ∧ u = .int .i64 (i : Int) ∧ Hid (wr.ownsRow g 3 1 (.slice (some ⟨g, 0, none⟩) s s) s ((ini s i).map iv)) ∧ Hid (Below w1.heap.size w1 wr)) (fun u _ => s - (intOf u).toNat)
  case atStart => exact ⟨0, Nat.zero_le _, rfl, O3, B3⟩
  case round =>
    obtain ⟨i, hi, rfl, HO, HB⟩ := hrel
    by_cases hlt : i < s
    · obtain ⟨w4, hw4⟩ : ∃ w4, wr.setCell ⟨g, i, none⟩ (.int .i64 (-1)) = w4 := ⟨_, rfl⟩
      have O4 : Hid (w4.ownsRow g 3 1 (.slice (some ⟨g, 0, none⟩) s s) s ((ini s (i + 1)).map iv)) := Lib.hid (by
        rw [← hw4, ← ini_set, List.map_set]
        exact (HO.out.stored i _).1)
      have B4 : Hid (Below w1.heap.size w1 w4) := Lib.hid (by
        rw [← hw4]
        exact HB.out.setCell (p := ⟨g, i, none⟩) S2.out _)
      have hce : ∃ v, wr.cell? ⟨g, i, none⟩ = some v := by
        rw [HO.out.cellAt i (by omega), List.getElem?_map]
        exact ⟨_, by simp [ini, hlt]; rfl⟩
      obtain ⟨v0, hce⟩ := hce
      have hfr := HO.out.frozenAt i
      go_wp2
      exact ⟨⟨i + 1, by omega, by simp, O4, B4⟩, by simp [intOf]; omega⟩
    · have HE : Hid (i = s) := Lib.hid (by omega)
      have O4 : Hid (wr.ownsRow g 3 1 (.slice (some ⟨g, 0, none⟩) s s) s ((rw' s (m0 s (rs 0 (l.take 0)))).map iv)) := Lib.hid (by
        have := HO.out
        rw [HE.out, ini_all] at this
        exact this)
      have B4 := HB
      clear HO HB HE
      go_wp2
      go_loopw [8, 9] (fun v u wr => ∃ i r : Nat, i ≤ N ∧ r ≤ s ∧ u = .int .i64 (i : Int) ∧ v = .int .i64 ((s : Int) - 1 - (r : Int)) ∧ Hid (r = (rs 0 (l.take i)).length) ∧ Hid (wr.ownsRow g 3 1 (.slice (some ⟨g, 0, none⟩) s s) s ((rw' s (m0 s (rs 0 (l.take i)))).map iv)) ∧ Hid (Below w1.heap.size w1 wr)) (fun _ u _ => N - (intOf u).toNat)
      case atStart => exact ⟨0, 0, Nat.zero_le _, Nat.zero_le _, rfl, by simp, Lib.hid rfl, O4, B4⟩
      case round =>
        obtain ⟨i, r, hi, hr, rfl, rfl, HE, HO, HB⟩ := hrel
        have tq := T1.out.below HB.out
        have a1 := tq.c1
        clear tq
        by_cases hlt : i < N
        · obtain ⟨x, hx⟩ : ∃ x, l[i]? = some x := ⟨_, List.getElem?_eq_getElem (by rw [HN.out]; exact hlt)⟩
          obtain ⟨ad, hA, hc0⟩ := R1.out i (iv x) (by rw [List.getElem?_map, hx]; rfl)
          subst hA
          have hc := (HB.out.cell (cell_lt hc0)).trans hc0
          simp only [iv] at hc
          have HS := Lib.hid (rs_step hx)
          clear hc0 hx
          by_cases h1 : x = -1
          · subst h1
            have hr1 : r < s := by
              have h1 := HTR.out (i + 1)
              rw [HS.out] at h1
              simp at h1
              have h2 := HE.out
              omega
            obtain ⟨q, hq⟩ : ∃ q, s - 1 - r = q := ⟨_, rfl⟩
            have hqe : (s : Int) - 1 - (r : Int) = (q : Int) := by omega
            have hqs : q < s := by omega
            obtain ⟨w5, hw5⟩ : ∃ w5, wr.setCell ⟨g, q, none⟩ (.int .i64 (i : Int)) = w5 := ⟨_, rfl⟩
            have O5 : Hid (w5.ownsRow g 3 1 (.slice (some ⟨g, 0, none⟩) s s) s ((rw' s (m0 s (rs 0 (l.take (i + 1))))).map iv)) := Lib.hid (by
              have e1 := m0_snoc (s := s) (k := rs 0 (l.take i)) i (by rw [← HE.out]; exact hr1)
              rw [← HE.out, hq] at e1
              rw [HS.out, if_pos rfl, ← e1, ← rw_set, List.map_set, ← hw5]
              exact (HO.out.stored q _).1)
            have B5 : Hid (Below w1.heap.size w1 w5) := Lib.hid (by
              rw [← hw5]
              exact HB.out.setCell (p := ⟨g, q, none⟩) S2.out _)
            have HE2 : Hid (r + 1 = (rs 0 (l.take (i + 1))).length) := Lib.hid (by rw [HS.out, HE.out]; simp)
            have hce : ∃ v, wr.cell? ⟨g, q, none⟩ = some v := by
              rw [HO.out.cellAt q (by omega), List.getElem?_map, rw_get _ hqs]
              exact ⟨_, rfl⟩
            obtain ⟨v0, hce⟩ := hce
            have hfr := HO.out.frozenAt q
            have hq2 : (q : Int) - 1 = (s : Int) - 1 - ((r + 1 : Nat) : Int) := by omega
            have HQ2 := Lib.hid hq2
            rw [hqe]
            clear HS HE hq hq2 hqe HO HB
            go_wp2
            exact ⟨⟨i + 1, r + 1, by omega, by omega, by simp, by rw [← HQ2.out], HE2, O5, B5⟩, by simp [intOf]; omega⟩
          · have e1 : (x == -1) = false := by simp [h1]
            have HQ : Hid (rs 0 (l.take (i + 1)) = rs 0 (l.take i)) := Lib.hid (by rw [HS.out, if_neg h1, List.append_nil])
            clear HS h1
            go_wp2
            exact ⟨⟨i + 1, r, by omega, by omega, by simp, rfl, Lib.hid (by rw [HQ.out]; exact HE.out), Lib.hid (by rw [HQ.out]; exact HO.out), HB⟩, by simp [intOf]; omega⟩
        · have HO5 : Hid (wr.ownsRow g 3 1 (.slice (some ⟨g, 0, none⟩) s s) s ((rw' s (m0 s (rs 0 l))).map iv)) := Lib.hid (by
            have := HO.out
            rwa [List.take_of_length_le (by rw [HN.out]; omega)] at this)
          have HB5 := HB
          clear HO HB HE
          go_wp2
          go_loopw [10, 11] (fun v u wr => ∃ (i t j : Nat) (m : Nat → Option Nat), i ≤ N ∧ t < s ∧ u = .int .i64 (i : Int) ∧ v = .int .i64 (t : Int) ∧ Hid (Srch s (fin s l) j t m (ors i (l.drop i))) ∧ Hid (wr.ownsRow g 3 1 (.slice (some ⟨g, 0, none⟩) s s) s ((rw' s m).map iv)) ∧ Hid (Below w1.heap.size w1 wr)) (fun _ u _ => N - (intOf u).toNat)
          case atStart => exact ⟨0, 0, 0, _, Nat.zero_le _, by omega, rfl, rfl, HSR, HO5, HB5⟩
          case round =>
            obtain ⟨i, t, j, m, hi, ht, rfl, rfl, HS, HO, HB⟩ := hrel
            have tq := T1.out.below HB.out
            have a1 := tq.c1
            clear tq
            by_cases hlt : i < N
            · obtain ⟨x, hx⟩ : ∃ x, l[i]? = some x := ⟨_, List.getElem?_eq_getElem (by rw [HN.out]; exact hlt)⟩
              obtain ⟨q, hq⟩ : ∃ q, x.toNat = q := ⟨_, rfl⟩
              have HX := Lib.hid hx
              have hq5 : q ≤ 512 := by rw [← hq]; exact HTO.out i x hx
              have HS4 : Hid (Srch s (fin s l) j t m (List.replicate (q - 0) i ++ ors (i + 1) (l.drop (i + 1)))) := Lib.hid (by
                have := HS.out
                rw [ors_from hx, hq] at this
                exact this)
              have HO4 := HO
              have HB4 := HB
              clear hx HS HO HB
              go_wp2
              go_loopw [10, 12] (fun v u wr => ∃ (k t j : Nat) (m : Nat → Option Nat), k ≤ q ∧ t < s ∧ u = .int .i64 (k : Int) ∧ v = .int .i64 (t : Int) ∧ Hid (Srch s (fin s l) j t m (List.replicate (q - k) i ++ ors (i + 1) (l.drop (i + 1)))) ∧ Hid (wr.ownsRow g 3 1 (.slice (some ⟨g, 0, none⟩) s s) s ((rw' s m).map iv)) ∧ Hid (Below w1.heap.size w1 wr)) (fun _ u _ => q - (intOf u).toNat)
              case atStart => exact ⟨0, t, j, m, Nat.zero_le _, ht, rfl, rfl, HS4, HO4, HB4⟩
              case round =>
                obtain ⟨k, t, j, m, hk, ht, rfl, rfl, HS, HO, HB⟩ := hrel
                have tq := T1.out.below HB.out
                have a1 := tq.c1
                obtain ⟨ad, hA, hc0⟩ := R1.out i (iv x) (by rw [List.getElem?_map, HX.out]; rfl)
                subst hA
                have hc := (HB.out.cell (cell_lt hc0)).trans hc0
                simp only [iv] at hc
                clear tq hc0
                by_cases hkq : k < q
                · have hd : decide ((k : Int) < x) = true := decide_eq_true (by omega)
                  have HS5 : Hid (Srch s (fin s l) j t m (i :: (List.replicate (q - (k + 1)) i ++ ors (i + 1) (l.drop (i + 1))))) := Lib.hid (by
                    have := HS.out
                    rw [show q - k = (q - (k + 1)) + 1 by omega, List.replicate_succ] at this
                    exact this)
                  obtain ⟨wv, hwv⟩ : ∃ wv, wr = wv := ⟨_, rfl⟩
                  rw [hwv] at HO HB a1 hc ⊢
                  clear hwv HS
                  go_wp2
                  go_loopw [10] (fun v wr => ∃ (t j : Nat), t < s ∧ v = .int .i64 (t : Int) ∧ Hid (Srch s (fin s l) j t m (i :: (List.replicate (q - (k + 1)) i ++ ors (i + 1) (l.drop (i + 1))))) ∧ wr = wv) (fun v _ => s - (vis s).idxOf (intOf v).toNat)
                  case atStart => exact ⟨t, j, ht, rfl, HS5, rfl⟩
                  case round =>
                    obtain ⟨t, j, ht, rfl, HS6, hwe⟩ := hrel
                    rw [hwe]
                    have hfr := HO.out.frozenAt t
                    have hce : wv.cell? ⟨g, t, none⟩ = some (.int .i64 (enc m t)) := by
                      rw [HO.out.cellAt t (by omega), List.getElem?_map, rw_get _ ht]
                      rfl
                    cases hmt : m t with
                    | some z =>
                      have he : enc m t = (z : Int) := by unfold enc; rw [hmt]
                      rw [he] at hce
                      have hdz : decide ((0 : Int) ≤ (z : Int)) = true := decide_eq_true (by omega)
                      have hN6 := HS6.out.next hmt
                      obtain ⟨t2, ht2⟩ : ∃ t2, vi s (j + 1) = t2 := ⟨_, rfl⟩
                      have hmod2 : Int.tmod ((t : Int) + (p : Int)) (s : Int) = (t2 : Int) := by
                        rw [Int.tmod_eq_emod_of_nonneg (by omega), ← ht2, ← vi_next, ← HS6.out.at_, HP.out, Int.natCast_emod, Int.natCast_add]
                      have hs0 : ¬ (s : Int) = 0 := by omega
                      have ht2s : t2 < s := by rw [← ht2]; exact vi_lt (by omega) _
                      have HM : Hid ((vis s).idxOf t = j ∧ (vis s).idxOf t2 = j + 1 ∧ j + 1 < s) := Lib.hid ⟨by rw [HS6.out.at_]; exact HIX.out j HS6.out.lt, by rw [← ht2]; exact HIX.out (j + 1) hN6.lt, hN6.lt⟩
                      have HS7 : Hid (Srch s (fin s l) (j + 1) t2 m (i :: (List.replicate (q - (k + 1)) i ++ ors (i + 1) (l.drop (i + 1))))) := Lib.hid (by rw [← ht2]; exact hN6)
                      clear hmt he hN6 ht2 hwe HS6
                      go_wp2_with (go_at_call 45; refine (ST.out _).mono ?_; rintro e wv ⟨rfl, rfl⟩)
                      refine ⟨⟨t2, j + 1, ht2s, rfl, HS7, trivial⟩, ?_⟩
                      have h8 := HM.out
                      simp only [intOf, Int.toNat_natCast]
                      rw [h8.1, h8.2.1]
                      omega
                    | none =>
                      have he : enc m t = -1 := by unfold enc; rw [hmt]
                      rw [he] at hce
                      have HS7 := Lib.hid (HS6.out.put hmt)
                      obtain ⟨w5, hw5⟩ : ∃ w5, wv.setCell ⟨g, t, none⟩ (.int .i64 (i : Int)) = w5 := ⟨_, rfl⟩
                      have O5 : Hid (w5.ownsRow g 3 1 (.slice (some ⟨g, 0, none⟩) s s) s ((rw' s (upd m t i)).map iv)) := Lib.hid (by
                        rw [← rw_set, List.map_set, ← hw5]
                        exact (HO.out.stored t _).1)
                      have B5 : Hid (Below w1.heap.size w1 w5) := Lib.hid (by
                        rw [← hw5]
                        exact HB.out.setCell (p := ⟨g, t, none⟩) S2.out _)
                      clear hmt he hwe HS6 HO HB
                      go_wp2
                      exact ⟨⟨k + 1, t, j, upd m t i, by omega, ht, by simp, rfl, HS7, O5, B5⟩, by simp [intOf]; omega⟩
                · have hd : decide ((k : Int) < x) = false := decide_eq_false (by omega)
                  have HS5 : Hid (Srch s (fin s l) j t m (ors (i + 1) (l.drop (i + 1)))) := Lib.hid (by
                    have := HS.out
                    rw [show q - k = 0 by omega] at this
                    exact this)
                  clear HS
                  go_wp2
                  exact ⟨⟨i + 1, t, j, m, by omega, ht, by simp, rfl, HS5, HO, HB⟩, by simp [intOf]; omega⟩
            · have HE : Hid (ors i (l.drop i) = []) := Lib.hid (by rw [List.drop_of_length_le (by rw [HN.out]; omega)]; rfl)
              go_wp2
              go_ret2
              refine ⟨g, rfl, own_base ?_ (Nat.le_of_lt Z2.out), below_on B1.out (Nat.le_refl _) HB.out⟩
              have h5 := HS.out
              rw [HE.out] at h5
              rw [← HRW.out, ← h5.done]
              exact HO.out

end Go.Proofs.Ytonapehlhkoplaa
