/-
  What Cell, Lowest, Predecessor and Next of package states return at any argument. Nothing that was there has changed. Conditions: those that each theorem states.
-/
import Derived.Test.YtonapehlhkoplaaMet
import Derived.Test.YtonapehlhkoplaaNxt
namespace Go.Proofs.Ytonapehlhkoplaa
open Go.RowKit Go.Shelf

section
variable {y s : Nat} {l : List Int}
theorem cls_s (hv : Vt y l) (hse : 2 ^ y = s) : (cls y l (spl s l)).length = s := by rw [← hse]; exact vt_clen hv
theorem cle_bad {C : List (Nat × Nat × Nat)} {z : Int} (h : z < 0 ∨ (C.length : Int) ≤ z) : cle C z = 21 ∧ cla C z = (0, 0, 0) := by
  refine ⟨by unfold cle; rw [if_pos h], ?_⟩
  unfold cla
  split
  · rfl
  · rw [List.getElem?_eq_none (by omega)]; rfl
theorem cle_ok {C : List (Nat × Nat × Nat)} {t : Nat} {c : Nat × Nat × Nat} (h : C[t]? = some c) : cle C (t : Int) = 0 ∧ cla C (t : Int) = c := by
  have hl := (List.getElem?_eq_some_iff.1 h).1
  refine ⟨by unfold cle; rw [if_neg (by omega)], ?_⟩
  unfold cla
  rw [if_neg (by omega), Int.toNat_natCast, h]; rfl
end

theorem addr_zero (a : Addr) : a.add 0 = a := by unfold Addr.add; rw [if_pos rfl]
theorem rn_at {w : World} {ad : Addr} {k : List Nat} {j i : Nat} (h : Rn w (some ad) k) (hj : k[j]? = some i) : w.cell? (ad.add j) = some (.int .i64 (i : Int)) := by
  obtain ⟨ad', e, hc⟩ := h j (nv i) (by rw [List.getElem?_map, hj]; rfl)
  injection e with e
  subst e
  exact hc
/-- What Cell returns. -/
def Tc (C : List (Nat × Nat × Nat)) (z : Int) : Value := .tuple #[cev ((cla C z).1 : Int) ((cla C z).2.1 : Int) ((cla C z).2.2 : Int), .int .i64 (cle C z)]
set_option maxRecDepth 100000 in
set_option maxHeartbeats 2000000 in
theorem cell_any (w : World) {B b gc go y s N : Nat} {l : List Int} {V : Nat → Value} (h : Cd w B b gc go y s N l V) (hv : Vt y l) (hse : 2 ^ y = s) (z : Int) :
    Calls Try.prog 15 #[.pointer (some ⟨b, 0, none⟩), .int .i64 z] w fun e w' => e = .returned (Tc (cls y l (spl s l)) z) ∧ Below w.heap.size w w' := by
  have hs1 : 1 ≤ s := by rw [← hse]; exact Nat.one_le_two_pow
  have hs5 : s ≤ 512 := by rw [← hse]; exact hv.size
  have hC := cls_s hv hse
  obtain ⟨C, hCC⟩ : ∃ C, cls y l (spl s l) = C := ⟨_, rfl⟩
  have hcel := h.cel
  rw [hCC] at hC hcel ⊢
  have t1 := Ce.new w 0 0 0
  have b1 := below_new w (.cells #[.int .i64 0, .int .i64 0, .int .i64 0] 35)
  obtain ⟨w1, hw1⟩ : ∃ w1, w.alloc (.cells #[.int .i64 0, .int .i64 0, .int .i64 0] 35) = w1 := ⟨_, rfl⟩
  rw [hw1] at t1 b1
  have q1 := h.blk.below b1
  have CH := chk_any w1 q1 (by omega) z
  have d1 := q1.c1
  by_cases hz : z < 0 ∨ (s : Int) ≤ z
  · rw [if_pos hz] at CH
    have CH := Lib.hid CH
    obtain ⟨e1, e2⟩ := cle_bad (C := C) (z := z) (by rw [hC]; exact hz)
    have HE : Hid (Tc C z = .tuple #[cev 0 0 0, .int .i64 21]) := Lib.hid (by unfold Tc; rw [e1, e2]; rfl)
    rw [HE.out]
    obtain ⟨Wa, Wb, Wc, c0, f0, hWa, c1, f1, hWb, c2, f2, hWc, hT, hB, _⟩ := set_cell t1 0 0 0 b1 (Nat.le_refl _)
    have FN := Lib.hid (And.intro hT hB)
    clear h hv hse hcel t1 b1 q1 hz hT hB HE
    go_enter Try.func15, Try.ntmps15
    go_wp2_with (go_at_call 34; refine CH.out.mono ?_; rintro e w1 ⟨rfl, rfl⟩)
    refine bodyPost_ret (results_cell2 rfl rfl (FN.out).1.load) rfl ?_
    exact ⟨rfl, FN.out.2⟩
  · rw [if_neg hz] at CH
    have CH := Lib.hid CH
    obtain ⟨t, rfl⟩ : ∃ t : Nat, z = (t : Int) := ⟨z.toNat, by omega⟩
    have hts : t < s := by omega
    obtain ⟨⟨x, p, q⟩, hc⟩ : ∃ c, C[t]? = some c := ⟨_, List.getElem?_eq_getElem (by rw [hC]; exact hts)⟩
    obtain ⟨e1, e2⟩ := cle_ok hc
    have HE : Hid (Tc C (t : Int) = .tuple #[cev (x : Int) (p : Int) (q : Int), .int .i64 0]) := Lib.hid (by unfold Tc; rw [e1, e2])
    rw [HE.out]
    obtain ⟨a0, a1, a2⟩ := row_at (ro_below hcel b1) hc
    simp only [nw] at a0 a1 a2
    obtain ⟨Wa, Wb, Wc, c0, f0, hWa, c1, f1, hWb, c2, f2, hWc, hT, hB, _⟩ := set_cell t1 (x : Int) (p : Int) (q : Int) b1 (Nat.le_refl _)
    have FN := Lib.hid (And.intro hT hB)
    have wt : IntKind.i64.wrap (t : Int) = (t : Int) := IntWalk.i64_in _ (by omega)
    clear h hv hse hcel t1 b1 q1 hz hT hB HE hc e1 e2
    go_enter Try.func15, Try.ntmps15
    go_wp2_with (go_at_call 34; refine CH.out.mono ?_; rintro e w1 ⟨rfl, rfl⟩)
    refine bodyPost_ret (results_cell2 rfl rfl (FN.out).1.load) rfl ?_
    exact ⟨rfl, FN.out.2⟩

/-- What Lowest returns. -/
def Tl (C : List (Nat × Nat × Nat)) (z : Int) : Value := .tuple #[.int .i64 (lwa C z : Int), .int .i64 (lwe C z)]
set_option maxRecDepth 100000 in
set_option maxHeartbeats 2000000 in
theorem lowest_any (w : World) {B b gc go y s N : Nat} {l : List Int} {V : Nat → Value} (h : Cd w B b gc go y s N l V) (hN : l.length = N) (hv : Vt y l) (hse : 2 ^ y = s) (z : Int) :
    Calls Try.prog 21 #[.pointer (some ⟨b, 0, none⟩), .int .i64 z] w fun e w' => e = .returned (Tl (cls y l (spl s l)) z) ∧ w' = w := by
  by_cases hz : z < 0 ∨ nos l z.toNat = 0
  · have OW := Lib.hid (own_bad w h hN hv hse z hz)
    have HE : Hid (Tl (cls y l (spl s l)) z = .tuple #[.int .i64 0, .int .i64 2]) := Lib.hid (by
      have e : (cls y l (spl s l)).findIdx? (isz z) = none := fst_none (fun j d hd => by
        rw [← hse] at hd
        have := vt_gone hv hz hd
        unfold isz
        exact decide_eq_false this)
      unfold Tl lwa lwe
      rw [e]; rfl)
    rw [HE.out]
    clear h hN hv hse hz HE
    go_enter Try.func21, Try.ntmps21
    go_wp2_with (go_at_call 35; refine OW.out.mono ?_; rintro e w1 ⟨rfl, rfl⟩)
    go_ret2
    exact ⟨rfl, rfl⟩
  · obtain ⟨x, rfl⟩ : ∃ x : Nat, z = (x : Int) := ⟨z.toNat, by omega⟩
    rw [Int.toNat_natCast] at hz
    obtain ⟨n, hn⟩ : ∃ n, nos l x = n := ⟨_, rfl⟩
    have hn1 : 1 ≤ n := by omega
    have OW := Lib.hid (own_ok w h hN hv hse x hn hn1)
    obtain ⟨i, hi, hf⟩ := vt_low hv (x := x) (by omega)
    rw [hse] at hi hf
    have HE : Hid (Tl (cls y l (spl s l)) (x : Int) = .tuple #[.int .i64 (i : Int), .int .i64 0]) := Lib.hid (by
      unfold Tl lwa lwe
      rw [hf]; rfl)
    rw [HE.out]
    have HI : Hid ((pls 0 (spl s l) (x : Int))[0]? = some i) := Lib.hid hi
    clear h hN hv hse hz HE hf hi hn
    go_enter Try.func21, Try.ntmps21
    go_wp2_with (go_at_call 35; refine OW.out.mono ?_; rintro e w1 ⟨ad, c, rfl, hR, rfl⟩; have ci := rn_at hR HI.out; rw [addr_zero] at ci; clear hR)
    go_ret2
    exact ⟨rfl, rfl⟩

/-- What Predecessor returns. -/
def Tp (C : List (Nat × Nat × Nat)) (t z : Int) : Value := .tuple #[stv ((pra C t z).1 : Int) ((pra C t z).2.1 : Int) ((pra C t z).2.2 : Int), .int .i64 (pre C t z)]
set_option maxRecDepth 100000 in
set_option maxHeartbeats 2000000 in
theorem predecessor_far (w : World) {B b gc go y s N : Nat} {l : List Int} {V : Nat → Value} (h : Cd w B b gc go y s N l V) (hv : Vt y l) (hse : 2 ^ y = s) (t z : Int) (ht : t < 0 ∨ (s : Int) ≤ t) :
    Calls Try.prog 19 #[.pointer (some ⟨b, 0, none⟩), .int .i64 t, .int .i64 z] w fun e w' => e = .returned (Tp (cls y l (spl s l)) t z) ∧ Below w.heap.size w w' := by
  have hs1 : 1 ≤ s := by rw [← hse]; exact Nat.one_le_two_pow
  have hC := cls_s hv hse
  have t1 := Sb.new w 0 0 0
  have b1 := below_new w (.cells #[.int .i64 0, .int .u64 0, .int .i64 0] 44)
  obtain ⟨w1, hw1⟩ : ∃ w1, w.alloc (.cells #[.int .i64 0, .int .u64 0, .int .i64 0] 44) = w1 := ⟨_, rfl⟩
  rw [hw1] at t1 b1
  have CH := chk_any w1 (h.blk.below b1) (by omega) t
  rw [if_pos ht] at CH
  have CH := Lib.hid CH
  have HE : Hid (Tp (cls y l (spl s l)) t z = .tuple #[stv 0 0 0, .int .i64 21]) := Lib.hid (by
    unfold Tp pra pre
    rw [hC, if_pos ht, if_pos ht]; rfl)
  rw [HE.out]
  obtain ⟨Wa, Wb, Wc, c0, f0, hWa, c1, f1, hWb, c2, f2, hWc, hT, hB, _⟩ := set_step t1 0 0 0 b1 (Nat.le_refl _)
  have FN := Lib.hid (And.intro hT hB)
  clear h hv hse t1 b1 ht hT hB HE hC
  go_enter Try.func19, Try.ntmps19
  go_wp2_with (go_at_call 34; refine CH.out.mono ?_; rintro e w1 ⟨rfl, rfl⟩)
  refine bodyPost_ret (results_cell2 rfl rfl (FN.out).1.load) rfl ?_
  exact ⟨rfl, FN.out.2⟩

set_option maxRecDepth 100000 in
set_option maxHeartbeats 2000000 in
theorem predecessor_bad (w : World) {B b gc go y s N : Nat} {l : List Int} {V : Nat → Value} (h : Cd w B b gc go y s N l V) (hN : l.length = N) (hv : Vt y l) (hse : 2 ^ y = s) (t z : Int) (ht : ¬ (t < 0 ∨ (s : Int) ≤ t)) (hz : z < 0 ∨ nos l z.toNat = 0) :
    Calls Try.prog 19 #[.pointer (some ⟨b, 0, none⟩), .int .i64 t, .int .i64 z] w fun e w' => e = .returned (Tp (cls y l (spl s l)) t z) ∧ Below w.heap.size w w' := by
  have hs1 : 1 ≤ s := by rw [← hse]; exact Nat.one_le_two_pow
  have hC := cls_s hv hse
  have t1 := Sb.new w 0 0 0
  have b1 := below_new w (.cells #[.int .i64 0, .int .u64 0, .int .i64 0] 44)
  obtain ⟨w1, hw1⟩ : ∃ w1, w.alloc (.cells #[.int .i64 0, .int .u64 0, .int .i64 0] 44) = w1 := ⟨_, rfl⟩
  rw [hw1] at t1 b1
  have h1 := h.same (W' := w1) (fun k _ hk => b1.block k hk)
  have CH := chk_any w1 h1.blk (by omega) t
  rw [if_neg ht] at CH
  have CH := Lib.hid CH
  have OW := Lib.hid (own_bad w1 h1 hN hv hse z hz)
  have HE : Hid (Tp (cls y l (spl s l)) t z = .tuple #[stv 0 0 0, .int .i64 2]) := Lib.hid (by
    have e : (cls y l (spl s l)).findIdx? (hit z t) = none := fst_none (fun j d hd => by
      rw [← hse] at hd
      exact hit_no (vt_gone hv hz hd))
    unfold Tp pra pre
    rw [hC, if_neg ht, if_neg ht, e]; rfl)
  rw [HE.out]
  obtain ⟨Wa, Wb, Wc, c0, f0, hWa, c1, f1, hWb, c2, f2, hWc, hT, hB, _⟩ := set_step t1 0 0 0 b1 (Nat.le_refl _)
  have FN := Lib.hid (And.intro hT hB)
  clear h h1 hv hse t1 b1 ht hz hT hB HE hC
  go_enter Try.func19, Try.ntmps19
  go_wp2_with (first
    | (go_at_call 34; refine CH.out.mono ?_; rintro e w1 ⟨rfl, rfl⟩)
    | (go_at_call 35; refine OW.out.mono ?_; rintro e w1 ⟨rfl, rfl⟩))
  refine bodyPost_ret (results_cell2 rfl rfl (FN.out).1.load) rfl ?_
  exact ⟨rfl, FN.out.2⟩

set_option maxRecDepth 100000 in
set_option maxHeartbeats 4000000 in
theorem predecessor_ok (w : World) {B b gc go y s N : Nat} {l : List Int} {V : Nat → Value} (h : Cd w B b gc go y s N l V) (hN : l.length = N) (hv : Vt y l) (hse : 2 ^ y = s) (t x : Nat) (ht : t < s) (hz : 1 ≤ nos l x) :
    Calls Try.prog 19 #[.pointer (some ⟨b, 0, none⟩), .int .i64 (t : Int), .int .i64 (x : Int)] w fun e w' => e = .returned (Tp (cls y l (spl s l)) (t : Int) (x : Int)) ∧ Below w.heap.size w w' := by
  have hs1 : 1 ≤ s := by rw [← hse]; exact Nat.one_le_two_pow
  have hs5 : s ≤ 512 := by rw [← hse]; exact hv.size
  have hC := cls_s hv hse
  obtain ⟨n, hn⟩ : ∃ n, nos l x = n := ⟨_, rfl⟩
  have hn1 : 1 ≤ n := by omega
  have hns : n ≤ s := by
    rw [← hn, hv.nos, ← hse]
    have := List.count_le_length (a := x) (l := spl (2 ^ y) l)
    rwa [spl_len] at this
  have t1 := Sb.new w 0 0 0
  have b1 := below_new w (.cells #[.int .i64 0, .int .u64 0, .int .i64 0] 44)
  obtain ⟨w1, hw1⟩ : ∃ w1, w.alloc (.cells #[.int .i64 0, .int .u64 0, .int .i64 0] 44) = w1 := ⟨_, rfl⟩
  rw [hw1] at t1 b1
  have h1 := h.same (W' := w1) (fun k _ hk => b1.block k hk)
  have CH := chk_any w1 h1.blk (by omega) (t : Int)
  rw [if_neg (by omega)] at CH
  have CH := Lib.hid CH
  have OW := Lib.hid (own_ok w1 h1 hN hv hse x hn hn1)
  obtain ⟨S, hS⟩ : ∃ S, s + t = S := ⟨_, rfl⟩
  have PL : Hid (∀ W, Calls Try.prog 36 #[.int .i64 (S : Int), .int .i64 (n : Int)] W fun e w' => ∃ k i c, e = .returned (.int .i64 ((k : Nat) : Int)) ∧ k < n ∧ (pls 0 (spl s l) (x : Int))[k]? = some i ∧ i < s ∧ (cls y l (spl s l))[i]? = some c ∧ c.1 = x ∧ c.2.1 ≤ 9 ∧ c.2.2 ≤ t ∧ Hid (t < c.2.2 + 2 ^ c.2.1 ∧ (cls y l (spl s l)).findIdx? (hit (x : Int) (t : Int)) = some i) ∧ w' = W) := Lib.hid (fun W => by
    refine (place_ok W S n hn1 (by omega) (by omega)).mono ?_
    rintro e w' ⟨X, rfl, ⟨j, hj⟩, q1, q2, rfl⟩
    obtain ⟨i, c, r1, r2, r3, r4, r5, r6, r7, r8⟩ := vt_place hv (x := x) (t := t) (j := j) (X := X) hz (by rw [hse]; exact ht) (by rw [hse, hS]; exact hj) (by omega) (by omega)
    rw [hse, hn] at r1
    rw [hse] at r2 r3 r8
    exact ⟨X - n, i, c, rfl, by omega, r1, r2, r3, r4, r5, r6, Lib.hid ⟨r7, r8⟩, rfl⟩)
  have HE : Hid (∀ (i : Nat) (c : Nat × Nat × Nat), (cls y l (spl s l))[i]? = some c → c.2.2 ≤ t → (cls y l (spl s l)).findIdx? (hit (x : Int) (t : Int)) = some i → Tp (cls y l (spl s l)) (t : Int) (x : Int) = .tuple #[stv (i : Int) ((t - c.2.2 : Nat) : Int) (c.2.1 : Int), .int .i64 0]) := Lib.hid (fun i c hc hct hf => by
    unfold Tp pra pre
    rw [hC, if_neg (by omega), if_neg (by omega), hf]
    simp only [hc, Option.getD_some, Option.isSome_some, if_true]
    have e : ((t : Int) - (c.2.2 : Int)).toNat = t - c.2.2 := by omega
    rw [e])
  have hcel := Lib.hid (ro_below h.cel b1)
  have d1 := h1.blk.c1
  have CE := Ce.new w1 0 0 0
  have b2 := below_on b1 (Nat.le_refl _) (below_new w1 (.cells #[.int .i64 0, .int .i64 0, .int .i64 0] 35))
  have lw := t1.lt
  have T2 := t1.below (below_new w1 (.cells #[.int .i64 0, .int .i64 0, .int .i64 0] 35))
  obtain ⟨w2, hw2⟩ : ∃ w2, w1.alloc (.cells #[.int .i64 0, .int .i64 0, .int .i64 0] 35) = w2 := ⟨_, rfl⟩
  rw [hw2] at CE b2 T2
  have FN : Hid (∀ (i x p q v : Nat), ∃ Wa Wb Wc Wd We Wf,
      w2.cell? ⟨w1.heap.size, 0, none⟩ = some (.int .i64 0) ∧ w2.frozen? ⟨w1.heap.size, 0, none⟩ = false ∧ w2.setCell ⟨w1.heap.size, 0, none⟩ (.int .i64 (x : Int)) = Wa ∧
      Wa.cell? ⟨w1.heap.size, 1, none⟩ = some (.int .i64 0) ∧ Wa.frozen? ⟨w1.heap.size, 1, none⟩ = false ∧ Wa.setCell ⟨w1.heap.size, 1, none⟩ (.int .i64 (p : Int)) = Wb ∧
      Wb.cell? ⟨w1.heap.size, 2, none⟩ = some (.int .i64 0) ∧ Wb.frozen? ⟨w1.heap.size, 2, none⟩ = false ∧ Wb.setCell ⟨w1.heap.size, 2, none⟩ (.int .i64 (q : Int)) = Wc ∧
      Wc.cell? ⟨w1.heap.size, 1, none⟩ = some (.int .i64 (p : Int)) ∧ Wc.cell? ⟨w1.heap.size, 2, none⟩ = some (.int .i64 (q : Int)) ∧
      Wc.cell? ⟨w.heap.size, 0, none⟩ = some (.int .i64 0) ∧ Wc.frozen? ⟨w.heap.size, 0, none⟩ = false ∧ Wc.setCell ⟨w.heap.size, 0, none⟩ (.int .i64 (i : Int)) = Wd ∧
      Wd.cell? ⟨w.heap.size, 1, none⟩ = some (.int .u64 0) ∧ Wd.frozen? ⟨w.heap.size, 1, none⟩ = false ∧ Wd.setCell ⟨w.heap.size, 1, none⟩ (.int .u64 (v : Int)) = We ∧
      We.cell? ⟨w.heap.size, 2, none⟩ = some (.int .i64 0) ∧ We.frozen? ⟨w.heap.size, 2, none⟩ = false ∧ We.setCell ⟨w.heap.size, 2, none⟩ (.int .i64 (p : Int)) = Wf ∧
      Sb Wf w.heap.size i v p ∧ Below w.heap.size w Wf) := Lib.hid (fun i x p q v => by
    obtain ⟨Wa, Wb, Wc, c0, f0, hWa, c1, f1, hWb, c2, f2, hWc, hT, hB, hK⟩ := set_cell CE (x : Int) (p : Int) (q : Int) b2 (by have := b1.size; exact this)
    have T3 := T2.same (hK w.heap.size (by omega))
    obtain ⟨Wd, We, Wf, g0, k0, hWd, g1, k1, hWe, g2, k2, hWf, hT', hB', _⟩ := set_step T3 (i : Int) (v : Int) (p : Int) hB (Nat.le_refl _)
    exact ⟨Wa, Wb, Wc, Wd, We, Wf, c0, f0, hWa, c1, f1, hWb, c2, f2, hWc, hT.c1, hT.c2, g0, k0, hWd, g1, k1, hWe, g2, k2, hWf, hT', hB'⟩)
  have est : (s : Int) + (t : Int) = (S : Int) := by omega
  have hS5 : S ≤ 1024 := by omega
  clear h h1 hN hv hse t1 b1 hz hC b2 CE T2 hn hS
  go_enter Try.func19, Try.ntmps19
  go_wp2_with (first
    | (go_at_call 34; refine CH.out.mono ?_; rintro e w1 ⟨rfl, rfl⟩)
    | (go_at_call 35; refine OW.out.mono ?_; rintro e w1 ⟨ad, cc, rfl, hR, rfl⟩; have HR := Lib.hid hR; clear hR)
    | (go_at_call 36; refine (PL.out _).mono ?_; rintro e w1 ⟨k, i, ⟨x', p, q⟩, rfl, hkn, hpk, his, hci, rfl, hp9, hqt, hH, rfl⟩; simp only at hp9 hqt; have ck := rn_at HR.out hpk; obtain ⟨a0, a1, a2⟩ := row_at hcel.out hci; simp only [nw] at a0 a1 a2; obtain ⟨v, hv⟩ : ∃ v, t - q = v := ⟨_, rfl⟩; obtain ⟨Wa, Wb, Wc, Wd, We, Wf, c0, f0, hWa, c1, f1, hWb, c2, f2, hWc, e1, e2, g0, k0, hWd, g1, k1, hWe, g2, k2, hWf, hT, hB⟩ := FN.out i x' p q v; have ev : (t : Int) - (q : Int) = (v : Int) := (by omega); have hvb : v ≤ 1024 := (by omega); have HF := Lib.hid (And.intro hT hB); have HX : Hid (Tp (cls y l (spl s l)) (t : Int) (x' : Int) = .tuple #[stv (i : Int) (v : Int) (p : Int), .int .i64 0]) := Lib.hid (by rw [← hv]; exact HE.out i (x', p, q) hci hqt hH.out.2); have wi : IntKind.i64.wrap (i : Int) = (i : Int) := IntWalk.i64_in _ (by omega); have wk : IntKind.i64.wrap (k : Int) = (k : Int) := IntWalk.i64_in _ (by omega); clear hT hB hv hpk hci hqt HE FN HR))
  rw [HX.out]
  refine bodyPost_ret (results_cell2 rfl rfl (HF.out).1.load) rfl ?_
  exact ⟨rfl, HF.out.2⟩
/-- Predecessor at any argument. -/
theorem predecessor_any (w : World) {B b gc go y s N : Nat} {l : List Int} {V : Nat → Value} (h : Cd w B b gc go y s N l V) (hN : l.length = N) (hv : Vt y l) (hse : 2 ^ y = s) (t z : Int) :
    Calls Try.prog 19 #[.pointer (some ⟨b, 0, none⟩), .int .i64 t, .int .i64 z] w fun e w' => e = .returned (Tp (cls y l (spl s l)) t z) ∧ Below w.heap.size w w' := by
  by_cases ht : t < 0 ∨ (s : Int) ≤ t
  · exact predecessor_far w h hv hse t z ht
  · by_cases hz : z < 0 ∨ nos l z.toNat = 0
    · exact predecessor_bad w h hN hv hse t z ht hz
    · obtain ⟨t', rfl⟩ : ∃ t' : Nat, t = (t' : Int) := ⟨t.toNat, by omega⟩
      obtain ⟨x, rfl⟩ : ∃ x : Nat, z = (x : Int) := ⟨z.toNat, by omega⟩
      rw [Int.toNat_natCast] at hz
      exact predecessor_ok w h hN hv hse t' x (by omega) (by omega)

/-- What Next returns. -/
def nxa (C : List (Nat × Nat × Nat)) (z : Int) (v : Nat) : Nat := if cle C z = 0 then (cla C z).2.2 + v % 2 ^ (cla C z).2.1 else 0
def Tn (C : List (Nat × Nat × Nat)) (z : Int) (v : Nat) : Value := .tuple #[.int .i64 (nxa C z v : Int), .int .i64 (cle C z)]
theorem cla_small {y s : Nat} {l : List Int} (hv : Vt y l) (hse : 2 ^ y = s) (z : Int) : (cla (cls y l (spl s l)) z).1 ≤ 256 ∧ (cla (cls y l (spl s l)) z).2.1 ≤ 9 ∧ (cla (cls y l (spl s l)) z).2.2 ≤ 512 ∧ (cla (cls y l (spl s l)) z).2.2 + 2 ^ (cla (cls y l (spl s l)) z).2.1 ≤ 513 := by
  unfold cla
  split
  · simp
  · cases h : (cls y l (spl s l))[z.toNat]? with
    | none => simp
    | some c =>
      rw [Option.getD_some]
      have hi := (List.getElem?_eq_some_iff.1 h).1
      rw [cls_s hv hse, ← hse] at hi
      rw [← hse] at h
      obtain ⟨x, n, X, b1, b2, b3, b4, b5, b6⟩ := vt_cell hv hi
      rw [b4] at h
      injection h with h
      subst h
      have h1 := hv.len
      have h2 := hv.log
      have h3 := bts_le y X
      have h4 := b5.fits
      have h5 := hv.size
      have h6 : 0 < 2 ^ bts y X := Nat.two_pow_pos _
      simp only
      exact ⟨by omega, by omega, by omega, by omega⟩
set_option maxRecDepth 100000 in
set_option maxHeartbeats 2000000 in
theorem nexts_any (w : World) {B b gc go y s N : Nat} {l : List Int} {V : Nat → Value} (h : Cd w B b gc go y s N l V) (hv : Vt y l) (hse : 2 ^ y = s) (z : Int) (v : Nat) (hvv : v < 18446744073709551616) :
    Calls Try.prog 25 #[.pointer (some ⟨b, 0, none⟩), .int .i64 z, .int .u64 (v : Int)] w fun e w' => e = .returned (Tn (cls y l (spl s l)) z v) ∧ Below w.heap.size w w' := by
  have CE := cell_any w h hv hse z
  obtain ⟨q1, q2, q3, q4⟩ := cla_small hv hse z
  unfold Tc at CE
  unfold Tn nxa
  have hE : cle (cls y l (spl s l)) z = 0 ∨ cle (cls y l (spl s l)) z = 21 := by unfold cle; split <;> simp
  obtain ⟨E, hEE⟩ : ∃ E, cle (cls y l (spl s l)) z = E := ⟨_, rfl⟩
  obtain ⟨c, hc⟩ : ∃ c, cla (cls y l (spl s l)) z = c := ⟨_, rfl⟩
  obtain ⟨x, p, q⟩ := c
  rw [hEE, hc] at CE
  rw [hc] at q1 q2 q3 q4 ⊢
  rw [hEE] at hE ⊢
  simp only at CE q1 q2 q3 q4 ⊢
  have hp : 0 < 2 ^ p := Nat.two_pow_pos p
  have hr : v % 2 ^ p < 2 ^ p := Nat.mod_lt _ hp
  have hwd : wid (p : Int) = p := by unfold wid; omega
  have NX : Hid (∀ W, Calls Try.prog 37 #[cev (x : Int) (p : Int) (q : Int), .int .u64 (v : Int)] W fun e w' => e = .returned (.int .i64 ((q + v % 2 ^ p : Nat) : Int)) ∧ Below W.heap.size W w') := Lib.hid (fun W => by
    have := next_any W (x : Int) (p : Int) (q : Int) v hvv (by omega) (by omega)
    rw [hwd] at this
    rw [Int.natCast_add]
    exact this)
  have CC := Lib.hid CE
  obtain ⟨R, hR⟩ : ∃ R, q + v % 2 ^ p = R := ⟨_, rfl⟩
  rw [hR] at NX ⊢
  have FN : Hid (∀ W, Below w.heap.size w W → ∃ W1 Wa Wb Wc, W.alloc (.cells #[.int .i64 0, .int .i64 0, .int .i64 0] 35) = W1 ∧
      W1.cell? ⟨W.heap.size, 0, none⟩ = some (.int .i64 0) ∧ W1.frozen? ⟨W.heap.size, 0, none⟩ = false ∧ W1.setCell ⟨W.heap.size, 0, none⟩ (.int .i64 (x : Int)) = Wa ∧
      Wa.cell? ⟨W.heap.size, 1, none⟩ = some (.int .i64 0) ∧ Wa.frozen? ⟨W.heap.size, 1, none⟩ = false ∧ Wa.setCell ⟨W.heap.size, 1, none⟩ (.int .i64 (p : Int)) = Wb ∧
      Wb.cell? ⟨W.heap.size, 2, none⟩ = some (.int .i64 0) ∧ Wb.frozen? ⟨W.heap.size, 2, none⟩ = false ∧ Wb.setCell ⟨W.heap.size, 2, none⟩ (.int .i64 (q : Int)) = Wc ∧
      Ce Wc W.heap.size x p q ∧ Below w.heap.size w Wc) := Lib.hid (fun W hb => by
    have t1 := Ce.new W 0 0 0
    have b1 := below_on hb (Nat.le_refl _) (below_new W (.cells #[.int .i64 0, .int .i64 0, .int .i64 0] 35))
    obtain ⟨Wa, Wb, Wc, c0, f0, hWa, c1, f1, hWb, c2, f2, hWc, hT, hB, _⟩ := set_cell t1 (x : Int) (p : Int) (q : Int) b1 hb.size
    exact ⟨_, Wa, Wb, Wc, rfl, c0, f0, hWa, c1, f1, hWb, c2, f2, hWc, hT, hB⟩)
  clear h hv hse CE hEE hc hR hwd hr hp
  rcases hE with rfl | rfl
  · rw [if_pos rfl]
    go_enter Try.func25, Try.ntmps25
    go_wp2_with (first
      | (go_at_call 15; refine CC.out.mono ?_; rintro e w1 ⟨rfl, hb1⟩; obtain ⟨W1, Wa, Wb, Wc, hW1, c0, f0, hWa, c1, f1, hWb, c2, f2, hWc, hT, hB⟩ := FN.out w1 hb1; have e0 := hT.c0; have e1 := hT.c1; have e2 := hT.c2; have HB := Lib.hid hB; clear hT hB hb1)
      | (go_at_call 37; refine (NX.out _).mono ?_; rintro e w5 ⟨rfl, hb5⟩; have H5 := Lib.hid (below_on HB.out (Nat.le_refl _) hb5); clear hb5))
    go_ret2
    exact ⟨rfl, H5.out⟩
  · rw [if_neg (by decide)]
    go_enter Try.func25, Try.ntmps25
    go_wp2_with (go_at_call 15; refine CC.out.mono ?_; rintro e w1 ⟨rfl, hb1⟩; obtain ⟨W1, Wa, Wb, Wc, hW1, c0, f0, hWa, c1, f1, hWb, c2, f2, hWc, hT, hB⟩ := FN.out w1 hb1; have HB := Lib.hid hB; clear hT hB hb1)
    go_ret2
    exact ⟨rfl, HB.out⟩

/-- Receivers without a table. -/
theorem lowest_nn (w : World) {p : Value} (h : Nn w p) (z : Int) : Calls Try.prog 21 #[p, .int .i64 z] w fun e w' => e = .returned (.tuple #[.int .i64 0, .int .i64 1]) ∧ w' = w := by
  have OW := Lib.hid (own_nn w h z)
  clear h
  go_enter Try.func21, Try.ntmps21
  go_wp2_with (go_at_call 35; refine OW.out.mono ?_; rintro e w1 ⟨rfl, rfl⟩)
  go_ret2
  exact ⟨rfl, rfl⟩
set_option maxRecDepth 100000 in
set_option maxHeartbeats 2000000 in
theorem cell_nn (w : World) {p : Value} (h : Nn w p) (z : Int) : Calls Try.prog 15 #[p, .int .i64 z] w fun e w' => e = .returned (.tuple #[cev 0 0 0, .int .i64 1]) ∧ Below w.heap.size w w' := by
  have t1 := Ce.new w 0 0 0
  have b1 := below_new w (.cells #[.int .i64 0, .int .i64 0, .int .i64 0] 35)
  obtain ⟨w1, hw1⟩ : ∃ w1, w.alloc (.cells #[.int .i64 0, .int .i64 0, .int .i64 0] 35) = w1 := ⟨_, rfl⟩
  rw [hw1] at t1 b1
  have CH := Lib.hid (check_nn w1 (h.below b1) z)
  obtain ⟨Wa, Wb, Wc, c0, f0, hWa, c1, f1, hWb, c2, f2, hWc, hT, hB, _⟩ := set_cell t1 0 0 0 b1 (Nat.le_refl _)
  have FN := Lib.hid (And.intro hT hB)
  clear h t1 b1 hT hB
  go_enter Try.func15, Try.ntmps15
  go_wp2_with (go_at_call 34; refine CH.out.mono ?_; rintro e w1 ⟨rfl, rfl⟩)
  refine bodyPost_ret (results_cell2 rfl rfl (FN.out).1.load) rfl ?_
  exact ⟨rfl, FN.out.2⟩
set_option maxRecDepth 100000 in
set_option maxHeartbeats 2000000 in
theorem predecessor_nn (w : World) {p : Value} (h : Nn w p) (t z : Int) : Calls Try.prog 19 #[p, .int .i64 t, .int .i64 z] w fun e w' => e = .returned (.tuple #[stv 0 0 0, .int .i64 1]) ∧ Below w.heap.size w w' := by
  have t1 := Sb.new w 0 0 0
  have b1 := below_new w (.cells #[.int .i64 0, .int .u64 0, .int .i64 0] 44)
  obtain ⟨w1, hw1⟩ : ∃ w1, w.alloc (.cells #[.int .i64 0, .int .u64 0, .int .i64 0] 44) = w1 := ⟨_, rfl⟩
  rw [hw1] at t1 b1
  have CH := Lib.hid (check_nn w1 (h.below b1) t)
  obtain ⟨Wa, Wb, Wc, c0, f0, hWa, c1, f1, hWb, c2, f2, hWc, hT, hB, _⟩ := set_step t1 0 0 0 b1 (Nat.le_refl _)
  have FN := Lib.hid (And.intro hT hB)
  clear h t1 b1 hT hB
  go_enter Try.func19, Try.ntmps19
  go_wp2_with (go_at_call 34; refine CH.out.mono ?_; rintro e w1 ⟨rfl, rfl⟩)
  refine bodyPost_ret (results_cell2 rfl rfl (FN.out).1.load) rfl ?_
  exact ⟨rfl, FN.out.2⟩
set_option maxRecDepth 100000 in
set_option maxHeartbeats 2000000 in
theorem nexts_nn (w : World) {p : Value} (h : Nn w p) (z v : Int) : Calls Try.prog 25 #[p, .int .i64 z, .int .u64 v] w fun e w' => e = .returned (.tuple #[.int .i64 0, .int .i64 1]) ∧ Below w.heap.size w w' := by
  have CC := Lib.hid (cell_nn w h z)
  have FN : Hid (∀ W, Below w.heap.size w W → ∃ W1 Wa Wb Wc, W.alloc (.cells #[.int .i64 0, .int .i64 0, .int .i64 0] 35) = W1 ∧
      W1.cell? ⟨W.heap.size, 0, none⟩ = some (.int .i64 0) ∧ W1.frozen? ⟨W.heap.size, 0, none⟩ = false ∧ W1.setCell ⟨W.heap.size, 0, none⟩ (.int .i64 0) = Wa ∧
      Wa.cell? ⟨W.heap.size, 1, none⟩ = some (.int .i64 0) ∧ Wa.frozen? ⟨W.heap.size, 1, none⟩ = false ∧ Wa.setCell ⟨W.heap.size, 1, none⟩ (.int .i64 0) = Wb ∧
      Wb.cell? ⟨W.heap.size, 2, none⟩ = some (.int .i64 0) ∧ Wb.frozen? ⟨W.heap.size, 2, none⟩ = false ∧ Wb.setCell ⟨W.heap.size, 2, none⟩ (.int .i64 0) = Wc ∧
      Below w.heap.size w Wc) := Lib.hid (fun W hb => by
    have t1 := Ce.new W 0 0 0
    have b1 := below_on hb (Nat.le_refl _) (below_new W (.cells #[.int .i64 0, .int .i64 0, .int .i64 0] 35))
    obtain ⟨Wa, Wb, Wc, c0, f0, hWa, c1, f1, hWb, c2, f2, hWc, hT, hB, _⟩ := set_cell t1 0 0 0 b1 hb.size
    exact ⟨_, Wa, Wb, Wc, rfl, c0, f0, hWa, c1, f1, hWb, c2, f2, hWc, hB⟩)
  clear h
  go_enter Try.func25, Try.ntmps25
  go_wp2_with (go_at_call 15; refine CC.out.mono ?_; rintro e w1 ⟨rfl, hb1⟩; obtain ⟨W1, Wa, Wb, Wc, hW1, c0, f0, hWa, c1, f1, hWb, c2, f2, hWc, hB⟩ := FN.out w1 hb1; have HB := Lib.hid hB; clear hB hb1)
  go_ret2
  exact ⟨rfl, HB.out⟩

end Go.Proofs.Ytonapehlhkoplaa
