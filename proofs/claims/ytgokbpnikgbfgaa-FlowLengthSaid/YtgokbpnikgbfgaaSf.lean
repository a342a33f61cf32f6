/-
  What Cell, Lowest, Predecessor and Next of package states return at any argument. Nothing that was there has changed. Conditions: those that each theorem states.
  What the reference's Of does: it returns the cell of each state of a valid table, in new memory, or the error. Nothing that was there has changed. Condition: a slice can hold the norms.
  What Cells, Has, First and Ahead of the reference do, and begin and step of the laws. Nothing that was there has changed. Conditions: those that each theorem states.
  Flows as mathematics: what is read from the end of some bits, what the symbols' bits are, and that reading inverts them. Conditions: those that each theorem states.
  The mathematics of the predecessors: each state has one for each symbol with states, and the other way round. Conditions: those that each theorem states.
  The mathematics of encoding symbols from the last to the first: the states and the bits. Conditions: those that each theorem states.
  The cells of a valid table are a machine whose symbols have predecessors. Conditions: those that each theorem states.
-/
import Derived.Test.YtgokbpnikgbfgaaSe
import Derived.Deep.RegionHeld3
import Derived.Deep.RegionLaw
import Derived.Test.YtgokbpnikgbfgaaQb
namespace Go.Proofs.Ytgokbpnikgbfgaa
open Go.RowKit Go.Shelf

section
variable {y s : Nat} {l : List Int}
theorem cls_s (hv : Vt y l) (hse : 2 ^ y = s) : (cls y l (spl s l)).length = s := by rw [← hse]; exact vt_clen hv
theorem cle_bad {C : List (Nat × Nat × Nat)} {z : Int} (h : z < 0 ∨ (C.length : Int) ≤ z) : cle C z = 21 ∧ cla C z = (0, 0, 0) := by
  refine ⟨by unfold cle; rw [if_pos h], ?_⟩
  unfold cla
  split
  · rfl
  · rw [List.getElem?_eq_none (by omega)]; rfl
theorem cle_ok {C : List (Nat × Nat × Nat)} {t : Nat} {c : Nat × Nat × Nat} (h : C[t]? = some c) : cle C (t : Int) = 0 ∧ cla C (t : Int) = c := by
  have hl := (List.getElem?_eq_some_iff.1 h).1
  refine ⟨by unfold cle; rw [if_neg (by omega)], ?_⟩
  unfold cla
  rw [if_neg (by omega), Int.toNat_natCast, h]; rfl
end

theorem addr_zero (a : Addr) : a.add 0 = a := by unfold Addr.add; rw [if_pos rfl]
theorem rn_at {w : World} {ad : Addr} {k : List Nat} {j i : Nat} (h : Rn w (some ad) k) (hj : k[j]? = some i) : w.cell? (ad.add j) = some (.int .i64 (i : Int)) := by
  obtain ⟨ad', e, hc⟩ := h j (nv i) (by rw [List.getElem?_map, hj]; rfl)
  injection e with e
  subst e
  exact hc
/-- What Cell returns. -/
def Tc (C : List (Nat × Nat × Nat)) (z : Int) : Value := .tuple #[cev ((cla C z).1 : Int) ((cla C z).2.1 : Int) ((cla C z).2.2 : Int), .int .i64 (cle C z)]
/-- What Lowest returns. -/
def Tl (C : List (Nat × Nat × Nat)) (z : Int) : Value := .tuple #[.int .i64 (lwa C z : Int), .int .i64 (lwe C z)]
set_option maxRecDepth 100000 in
set_option maxHeartbeats 2000000 in
theorem lowest_any (w : World) {B b gc go y s N : Nat} {l : List Int} {V : Nat → Value} (h : Cd w B b gc go y s N l V) (hN : l.length = N) (hv : Vt y l) (hse : 2 ^ y = s) (z : Int) :
    Calls Try.prog 51 #[.pointer (some ⟨b, 0, none⟩), .int .i64 z] w fun e w' => e = .returned (Tl (cls y l (spl s l)) z) ∧ w' = w := by
  by_cases hz : z < 0 ∨ nos l z.toNat = 0
  · have OW := Lib.hid (own_bad w h hN hv hse z hz)
    have HE : Hid (Tl (cls y l (spl s l)) z = .tuple #[.int .i64 0, .int .i64 2]) := Lib.hid (by
      have e : (cls y l (spl s l)).findIdx? (isz z) = none := fst_none (fun j d hd => by
        rw [← hse] at hd
        have := vt_gone hv hz hd
        unfold isz
        exact decide_eq_false this)
      unfold Tl lwa lwe
      rw [e]; rfl)
    rw [HE.out]
    clear h hN hv hse hz HE
    go_enter Try.func51, Try.ntmps51
    go_wp2_with (go_at_call 71; refine OW.out.mono ?_; rintro e w1 ⟨rfl, rfl⟩)
    go_ret2
    exact ⟨rfl, rfl⟩
  · obtain ⟨x, rfl⟩ : ∃ x : Nat, z = (x : Int) := ⟨z.toNat, by omega⟩
    rw [Int.toNat_natCast] at hz
    obtain ⟨n, hn⟩ : ∃ n, nos l x = n := ⟨_, rfl⟩
    have hn1 : 1 ≤ n := by omega
    have OW := Lib.hid (own_ok w h hN hv hse x hn hn1)
    obtain ⟨i, hi, hf⟩ := vt_low hv (x := x) (by omega)
    rw [hse] at hi hf
    have HE : Hid (Tl (cls y l (spl s l)) (x : Int) = .tuple #[.int .i64 (i : Int), .int .i64 0]) := Lib.hid (by
      unfold Tl lwa lwe
      rw [hf]; rfl)
    rw [HE.out]
    have HI : Hid ((pls 0 (spl s l) (x : Int))[0]? = some i) := Lib.hid hi
    clear h hN hv hse hz HE hf hi hn
    go_enter Try.func51, Try.ntmps51
    go_wp2_with (go_at_call 71; refine OW.out.mono ?_; rintro e w1 ⟨ad, c, rfl, hR, rfl⟩; have ci := rn_at hR HI.out; rw [addr_zero] at ci; clear hR)
    go_ret2
    exact ⟨rfl, rfl⟩

/-- What Predecessor returns. -/
def Tp (C : List (Nat × Nat × Nat)) (t z : Int) : Value := .tuple #[stv ((pra C t z).1 : Int) ((pra C t z).2.1 : Int) ((pra C t z).2.2 : Int), .int .i64 (pre C t z)]
set_option maxRecDepth 100000 in
set_option maxHeartbeats 2000000 in
theorem predecessor_far (w : World) {B b gc go y s N : Nat} {l : List Int} {V : Nat → Value} (h : Cd w B b gc go y s N l V) (hv : Vt y l) (hse : 2 ^ y = s) (t z : Int) (ht : t < 0 ∨ (s : Int) ≤ t) :
    Calls Try.prog 52 #[.pointer (some ⟨b, 0, none⟩), .int .i64 t, .int .i64 z] w fun e w' => e = .returned (Tp (cls y l (spl s l)) t z) ∧ Below w.heap.size w w' := by
  have hs1 : 1 ≤ s := by rw [← hse]; exact Nat.one_le_two_pow
  have hC := cls_s hv hse
  have t1 := Sb.new w 0 0 0
  have b1 := below_new w (.cells #[.int .i64 0, .int .u64 0, .int .i64 0] 80)
  obtain ⟨w1, hw1⟩ : ∃ w1, w.alloc (.cells #[.int .i64 0, .int .u64 0, .int .i64 0] 80) = w1 := ⟨_, rfl⟩
  rw [hw1] at t1 b1
  have CH := chk_any w1 (h.blk.below b1) (by omega) t
  rw [if_pos ht] at CH
  have CH := Lib.hid CH
  have HE : Hid (Tp (cls y l (spl s l)) t z = .tuple #[stv 0 0 0, .int .i64 21]) := Lib.hid (by
    unfold Tp pra pre
    rw [hC, if_pos ht, if_pos ht]; rfl)
  rw [HE.out]
  obtain ⟨Wa, Wb, Wc, c0, f0, hWa, c1, f1, hWb, c2, f2, hWc, hT, hB, _⟩ := set_step t1 0 0 0 b1 (Nat.le_refl _)
  have FN := Lib.hid (And.intro hT hB)
  clear h hv hse t1 b1 ht hT hB HE hC
  go_enter Try.func52, Try.ntmps52
  go_wp2_with (go_at_call 72; refine CH.out.mono ?_; rintro e w1 ⟨rfl, rfl⟩)
  refine bodyPost_ret (results_cell2 rfl rfl (FN.out).1.load) rfl ?_
  exact ⟨rfl, FN.out.2⟩

set_option maxRecDepth 100000 in
set_option maxHeartbeats 2000000 in
theorem predecessor_bad (w : World) {B b gc go y s N : Nat} {l : List Int} {V : Nat → Value} (h : Cd w B b gc go y s N l V) (hN : l.length = N) (hv : Vt y l) (hse : 2 ^ y = s) (t z : Int) (ht : ¬ (t < 0 ∨ (s : Int) ≤ t)) (hz : z < 0 ∨ nos l z.toNat = 0) :
    Calls Try.prog 52 #[.pointer (some ⟨b, 0, none⟩), .int .i64 t, .int .i64 z] w fun e w' => e = .returned (Tp (cls y l (spl s l)) t z) ∧ Below w.heap.size w w' := by
  have hs1 : 1 ≤ s := by rw [← hse]; exact Nat.one_le_two_pow
  have hC := cls_s hv hse
  have t1 := Sb.new w 0 0 0
  have b1 := below_new w (.cells #[.int .i64 0, .int .u64 0, .int .i64 0] 80)
  obtain ⟨w1, hw1⟩ : ∃ w1, w.alloc (.cells #[.int .i64 0, .int .u64 0, .int .i64 0] 80) = w1 := ⟨_, rfl⟩
  rw [hw1] at t1 b1
  have h1 := h.same (W' := w1) (fun k _ hk => b1.block k hk)
  have CH := chk_any w1 h1.blk (by omega) t
  rw [if_neg ht] at CH
  have CH := Lib.hid CH
  have OW := Lib.hid (own_bad w1 h1 hN hv hse z hz)
  have HE : Hid (Tp (cls y l (spl s l)) t z = .tuple #[stv 0 0 0, .int .i64 2]) := Lib.hid (by
    have e : (cls y l (spl s l)).findIdx? (hit z t) = none := fst_none (fun j d hd => by
      rw [← hse] at hd
      exact hit_no (vt_gone hv hz hd))
    unfold Tp pra pre
    rw [hC, if_neg ht, if_neg ht, e]; rfl)
  rw [HE.out]
  obtain ⟨Wa, Wb, Wc, c0, f0, hWa, c1, f1, hWb, c2, f2, hWc, hT, hB, _⟩ := set_step t1 0 0 0 b1 (Nat.le_refl _)
  have FN := Lib.hid (And.intro hT hB)
  clear h h1 hv hse t1 b1 ht hz hT hB HE hC
  go_enter Try.func52, Try.ntmps52
  go_wp2_with (first
    | (go_at_call 72; refine CH.out.mono ?_; rintro e w1 ⟨rfl, rfl⟩)
    | (go_at_call 71; refine OW.out.mono ?_; rintro e w1 ⟨rfl, rfl⟩))
  refine bodyPost_ret (results_cell2 rfl rfl (FN.out).1.load) rfl ?_
  exact ⟨rfl, FN.out.2⟩

set_option maxRecDepth 100000 in
set_option maxHeartbeats 4000000 in
theorem predecessor_ok (w : World) {B b gc go y s N : Nat} {l : List Int} {V : Nat → Value} (h : Cd w B b gc go y s N l V) (hN : l.length = N) (hv : Vt y l) (hse : 2 ^ y = s) (t x : Nat) (ht : t < s) (hz : 1 ≤ nos l x) :
    Calls Try.prog 52 #[.pointer (some ⟨b, 0, none⟩), .int .i64 (t : Int), .int .i64 (x : Int)] w fun e w' => e = .returned (Tp (cls y l (spl s l)) (t : Int) (x : Int)) ∧ Below w.heap.size w w' := by
  have hs1 : 1 ≤ s := by rw [← hse]; exact Nat.one_le_two_pow
  have hs5 : s ≤ 512 := by rw [← hse]; exact hv.size
  have hC := cls_s hv hse
  obtain ⟨n, hn⟩ : ∃ n, nos l x = n := ⟨_, rfl⟩
  have hn1 : 1 ≤ n := by omega
  have hns : n ≤ s := by
    rw [← hn, hv.nos, ← hse]
    have := List.count_le_length (a := x) (l := spl (2 ^ y) l)
    rwa [spl_len] at this
  have t1 := Sb.new w 0 0 0
  have b1 := below_new w (.cells #[.int .i64 0, .int .u64 0, .int .i64 0] 80)
  obtain ⟨w1, hw1⟩ : ∃ w1, w.alloc (.cells #[.int .i64 0, .int .u64 0, .int .i64 0] 80) = w1 := ⟨_, rfl⟩
  rw [hw1] at t1 b1
  have h1 := h.same (W' := w1) (fun k _ hk => b1.block k hk)
  have CH := chk_any w1 h1.blk (by omega) (t : Int)
  rw [if_neg (by omega)] at CH
  have CH := Lib.hid CH
  have OW := Lib.hid (own_ok w1 h1 hN hv hse x hn hn1)
  obtain ⟨S, hS⟩ : ∃ S, s + t = S := ⟨_, rfl⟩
  have PL : Hid (∀ W, Calls Try.prog 73 #[.int .i64 (S : Int), .int .i64 (n : Int)] W fun e w' => ∃ k i c, e = .returned (.int .i64 ((k : Nat) : Int)) ∧ k < n ∧ (pls 0 (spl s l) (x : Int))[k]? = some i ∧ i < s ∧ (cls y l (spl s l))[i]? = some c ∧ c.1 = x ∧ c.2.1 ≤ 9 ∧ c.2.2 ≤ t ∧ Hid (t < c.2.2 + 2 ^ c.2.1 ∧ (cls y l (spl s l)).findIdx? (hit (x : Int) (t : Int)) = some i) ∧ w' = W) := Lib.hid (fun W => by
    refine (place_ok W S n hn1 (by omega) (by omega)).mono ?_
    rintro e w' ⟨X, rfl, ⟨j, hj⟩, q1, q2, rfl⟩
    obtain ⟨i, c, r1, r2, r3, r4, r5, r6, r7, r8⟩ := vt_place hv (x := x) (t := t) (j := j) (X := X) hz (by rw [hse]; exact ht) (by rw [hse, hS]; exact hj) (by omega) (by omega)
    rw [hse, hn] at r1
    rw [hse] at r2 r3 r8
    exact ⟨X - n, i, c, rfl, by omega, r1, r2, r3, r4, r5, r6, Lib.hid ⟨r7, r8⟩, rfl⟩)
  have HE : Hid (∀ (i : Nat) (c : Nat × Nat × Nat), (cls y l (spl s l))[i]? = some c → c.2.2 ≤ t → (cls y l (spl s l)).findIdx? (hit (x : Int) (t : Int)) = some i → Tp (cls y l (spl s l)) (t : Int) (x : Int) = .tuple #[stv (i : Int) ((t - c.2.2 : Nat) : Int) (c.2.1 : Int), .int .i64 0]) := Lib.hid (fun i c hc hct hf => by
    unfold Tp pra pre
    rw [hC, if_neg (by omega), if_neg (by omega), hf]
    simp only [hc, Option.getD_some, Option.isSome_some, if_true]
    have e : ((t : Int) - (c.2.2 : Int)).toNat = t - c.2.2 := by omega
    rw [e])
  have hcel := Lib.hid (ro_below h.cel b1)
  have d1 := h1.blk.c1
  have CE := Ce.new w1 0 0 0
  have b2 := below_on b1 (Nat.le_refl _) (below_new w1 (.cells #[.int .i64 0, .int .i64 0, .int .i64 0] 68))
  have lw := t1.lt
  have T2 := t1.below (below_new w1 (.cells #[.int .i64 0, .int .i64 0, .int .i64 0] 68))
  obtain ⟨w2, hw2⟩ : ∃ w2, w1.alloc (.cells #[.int .i64 0, .int .i64 0, .int .i64 0] 68) = w2 := ⟨_, rfl⟩
  rw [hw2] at CE b2 T2
  have FN : Hid (∀ (i x p q v : Nat), ∃ Wa Wb Wc Wd We Wf,
      w2.cell? ⟨w1.heap.size, 0, none⟩ = some (.int .i64 0) ∧ w2.frozen? ⟨w1.heap.size, 0, none⟩ = false ∧ w2.setCell ⟨w1.heap.size, 0, none⟩ (.int .i64 (x : Int)) = Wa ∧
      Wa.cell? ⟨w1.heap.size, 1, none⟩ = some (.int .i64 0) ∧ Wa.frozen? ⟨w1.heap.size, 1, none⟩ = false ∧ Wa.setCell ⟨w1.heap.size, 1, none⟩ (.int .i64 (p : Int)) = Wb ∧
      Wb.cell? ⟨w1.heap.size, 2, none⟩ = some (.int .i64 0) ∧ Wb.frozen? ⟨w1.heap.size, 2, none⟩ = false ∧ Wb.setCell ⟨w1.heap.size, 2, none⟩ (.int .i64 (q : Int)) = Wc ∧
      Wc.cell? ⟨w1.heap.size, 1, none⟩ = some (.int .i64 (p : Int)) ∧ Wc.cell? ⟨w1.heap.size, 2, none⟩ = some (.int .i64 (q : Int)) ∧
      Wc.cell? ⟨w.heap.size, 0, none⟩ = some (.int .i64 0) ∧ Wc.frozen? ⟨w.heap.size, 0, none⟩ = false ∧ Wc.setCell ⟨w.heap.size, 0, none⟩ (.int .i64 (i : Int)) = Wd ∧
      Wd.cell? ⟨w.heap.size, 1, none⟩ = some (.int .u64 0) ∧ Wd.frozen? ⟨w.heap.size, 1, none⟩ = false ∧ Wd.setCell ⟨w.heap.size, 1, none⟩ (.int .u64 (v : Int)) = We ∧
      We.cell? ⟨w.heap.size, 2, none⟩ = some (.int .i64 0) ∧ We.frozen? ⟨w.heap.size, 2, none⟩ = false ∧ We.setCell ⟨w.heap.size, 2, none⟩ (.int .i64 (p : Int)) = Wf ∧
      Sb Wf w.heap.size i v p ∧ Below w.heap.size w Wf) := Lib.hid (fun i x p q v => by
    obtain ⟨Wa, Wb, Wc, c0, f0, hWa, c1, f1, hWb, c2, f2, hWc, hT, hB, hK⟩ := set_cell CE (x : Int) (p : Int) (q : Int) b2 (by have := b1.size; exact this)
    have T3 := T2.same (hK w.heap.size (by omega))
    obtain ⟨Wd, We, Wf, g0, k0, hWd, g1, k1, hWe, g2, k2, hWf, hT', hB', _⟩ := set_step T3 (i : Int) (v : Int) (p : Int) hB (Nat.le_refl _)
    exact ⟨Wa, Wb, Wc, Wd, We, Wf, c0, f0, hWa, c1, f1, hWb, c2, f2, hWc, hT.c1, hT.c2, g0, k0, hWd, g1, k1, hWe, g2, k2, hWf, hT', hB'⟩)
  have est : (s : Int) + (t : Int) = (S : Int) := by omega
  have hS5 : S ≤ 1024 := by omega
  clear h h1 hN hv hse t1 b1 hz hC b2 CE T2 hn hS
  go_enter Try.func52, Try.ntmps52
  go_wp2_with (first
    | (go_at_call 72; refine CH.out.mono ?_; rintro e w1 ⟨rfl, rfl⟩)
    | (go_at_call 71; refine OW.out.mono ?_; rintro e w1 ⟨ad, cc, rfl, hR, rfl⟩; have HR := Lib.hid hR; clear hR)
    | (go_at_call 73; refine (PL.out _).mono ?_; rintro e w1 ⟨k, i, ⟨x', p, q⟩, rfl, hkn, hpk, his, hci, rfl, hp9, hqt, hH, rfl⟩; simp only at hp9 hqt; have ck := rn_at HR.out hpk; obtain ⟨a0, a1, a2⟩ := row_at hcel.out hci; simp only [nw] at a0 a1 a2; obtain ⟨v, hv⟩ : ∃ v, t - q = v := ⟨_, rfl⟩; obtain ⟨Wa, Wb, Wc, Wd, We, Wf, c0, f0, hWa, c1, f1, hWb, c2, f2, hWc, e1, e2, g0, k0, hWd, g1, k1, hWe, g2, k2, hWf, hT, hB⟩ := FN.out i x' p q v; have ev : (t : Int) - (q : Int) = (v : Int) := (by omega); have hvb : v ≤ 1024 := (by omega); have HF := Lib.hid (And.intro hT hB); have HX : Hid (Tp (cls y l (spl s l)) (t : Int) (x' : Int) = .tuple #[stv (i : Int) (v : Int) (p : Int), .int .i64 0]) := Lib.hid (by rw [← hv]; exact HE.out i (x', p, q) hci hqt hH.out.2); have wi : IntKind.i64.wrap (i : Int) = (i : Int) := IntWalk.i64_in _ (by omega); have wk : IntKind.i64.wrap (k : Int) = (k : Int) := IntWalk.i64_in _ (by omega); clear hT hB hv hpk hci hqt HE FN HR))
  rw [HX.out]
  refine bodyPost_ret (results_cell2 rfl rfl (HF.out).1.load) rfl ?_
  exact ⟨rfl, HF.out.2⟩
/-- Predecessor at any argument. -/
theorem predecessor_any (w : World) {B b gc go y s N : Nat} {l : List Int} {V : Nat → Value} (h : Cd w B b gc go y s N l V) (hN : l.length = N) (hv : Vt y l) (hse : 2 ^ y = s) (t z : Int) :
    Calls Try.prog 52 #[.pointer (some ⟨b, 0, none⟩), .int .i64 t, .int .i64 z] w fun e w' => e = .returned (Tp (cls y l (spl s l)) t z) ∧ Below w.heap.size w w' := by
  by_cases ht : t < 0 ∨ (s : Int) ≤ t
  · exact predecessor_far w h hv hse t z ht
  · by_cases hz : z < 0 ∨ nos l z.toNat = 0
    · exact predecessor_bad w h hN hv hse t z ht hz
    · obtain ⟨t', rfl⟩ : ∃ t' : Nat, t = (t' : Int) := ⟨t.toNat, by omega⟩
      obtain ⟨x, rfl⟩ : ∃ x : Nat, z = (x : Int) := ⟨z.toNat, by omega⟩
      rw [Int.toNat_natCast] at hz
      exact predecessor_ok w h hN hv hse t' x (by omega) (by omega)

/-- What Next returns. -/
def nxa (C : List (Nat × Nat × Nat)) (z : Int) (v : Nat) : Nat := if cle C z = 0 then (cla C z).2.2 + v % 2 ^ (cla C z).2.1 else 0
def Tn (C : List (Nat × Nat × Nat)) (z : Int) (v : Nat) : Value := .tuple #[.int .i64 (nxa C z v : Int), .int .i64 (cle C z)]
theorem cla_small {y s : Nat} {l : List Int} (hv : Vt y l) (hse : 2 ^ y = s) (z : Int) : (cla (cls y l (spl s l)) z).1 ≤ 256 ∧ (cla (cls y l (spl s l)) z).2.1 ≤ 9 ∧ (cla (cls y l (spl s l)) z).2.2 ≤ 512 ∧ (cla (cls y l (spl s l)) z).2.2 + 2 ^ (cla (cls y l (spl s l)) z).2.1 ≤ 513 := by
  unfold cla
  split
  · simp
  · cases h : (cls y l (spl s l))[z.toNat]? with
    | none => simp
    | some c =>
      rw [Option.getD_some]
      have hi := (List.getElem?_eq_some_iff.1 h).1
      rw [cls_s hv hse, ← hse] at hi
      rw [← hse] at h
      obtain ⟨x, n, X, b1, b2, b3, b4, b5, b6⟩ := vt_cell hv hi
      rw [b4] at h
      injection h with h
      subst h
      have h1 := hv.len
      have h2 := hv.log
      have h3 := bts_le y X
      have h4 := b5.fits
      have h5 := hv.size
      have h6 : 0 < 2 ^ bts y X := Nat.two_pow_pos _
      simp only
      exact ⟨by omega, by omega, by omega, by omega⟩
/-- Receivers without a table. -/
theorem lowest_nn (w : World) {p : Value} (h : Nn w p) (z : Int) : Calls Try.prog 51 #[p, .int .i64 z] w fun e w' => e = .returned (.tuple #[.int .i64 0, .int .i64 1]) ∧ w' = w := by
  have OW := Lib.hid (own_nn w h z)
  clear h
  go_enter Try.func51, Try.ntmps51
  go_wp2_with (go_at_call 71; refine OW.out.mono ?_; rintro e w1 ⟨rfl, rfl⟩)
  go_ret2
  exact ⟨rfl, rfl⟩
set_option maxRecDepth 100000 in
set_option maxHeartbeats 2000000 in
theorem predecessor_nn (w : World) {p : Value} (h : Nn w p) (t z : Int) : Calls Try.prog 52 #[p, .int .i64 t, .int .i64 z] w fun e w' => e = .returned (.tuple #[stv 0 0 0, .int .i64 1]) ∧ Below w.heap.size w w' := by
  have t1 := Sb.new w 0 0 0
  have b1 := below_new w (.cells #[.int .i64 0, .int .u64 0, .int .i64 0] 80)
  obtain ⟨w1, hw1⟩ : ∃ w1, w.alloc (.cells #[.int .i64 0, .int .u64 0, .int .i64 0] 80) = w1 := ⟨_, rfl⟩
  rw [hw1] at t1 b1
  have CH := Lib.hid (check_nn w1 (h.below b1) t)
  obtain ⟨Wa, Wb, Wc, c0, f0, hWa, c1, f1, hWb, c2, f2, hWc, hT, hB, _⟩ := set_step t1 0 0 0 b1 (Nat.le_refl _)
  have FN := Lib.hid (And.intro hT hB)
  clear h t1 b1 hT hB
  go_enter Try.func52, Try.ntmps52
  go_wp2_with (go_at_call 72; refine CH.out.mono ?_; rintro e w1 ⟨rfl, rfl⟩)
  refine bodyPost_ret (results_cell2 rfl rfl (FN.out).1.load) rfl ?_
  exact ⟨rfl, FN.out.2⟩
end Go.Proofs.Ytgokbpnikgbfgaa

namespace Go.Proofs.Ytgokbpnikgbfgaa
open Go.RowKit Go.Shelf

theorem siz_pow {b D : Nat} (hb : b ≤ 9) (hD : 2 ^ b = D) : siz (b : Int) = D := by
  unfold siz
  rw [if_neg (by omega), Int.toNat_natCast, hD]
theorem log2_half {V : Nat} (h : 2 ≤ V) : (V / 2).log2 + 1 = V.log2 := by
  conv => rhs; rw [Nat.log2_def]
  rw [if_pos h]

set_option maxRecDepth 100000 in
set_option maxHeartbeats 4000000 in
theorem ofc_bad (w : World) (y : Int) (A : Option Addr) (l : List Int) (N c : Nat) (hN : l.length = N) (hb : N ≤ 1000000) (hv : vt y l 256 9 = false) (hR : Ri w A l) :
    Calls Try.prog 28 #[tb y A N c] w fun e w' => e = .returned (.tuple #[.slice none 0 0, .int .i64 13]) ∧ Below w.heap.size w w' := by
  have b1 : Below w.heap.size w (w.alloc (.cells #[.int .i64 y, .slice A N c] 24)) := (Below.refl _ w).alloc (Nat.le_refl _) _
  have t1 := Tb.new w y A N c
  obtain ⟨w1, hw1⟩ : ∃ w1, w.alloc (.cells #[.int .i64 y, .slice A N c] 24) = w1 := ⟨_, rfl⟩
  rw [hw1] at b1 t1
  have c0 := t1.c0
  have c1 := t1.c1
  have SP : Hid (Calls Try.prog 47 #[tb y A N c] w1 fun e w' => e = .returned (.tuple #[.slice none 0 0, .int .i64 13]) ∧ Below w1.heap.size w1 w') := Lib.hid (of_bad w1 y A l N c hN hb hv (hR.below b1))
  have B1 := Lib.hid b1
  clear b1 t1 hR hN hv
  go_enter Try.func28, Try.ntmps28
  go_wp2_with (go_at_call 47; refine SP.out.mono ?_; rintro e w2 ⟨rfl, hb2⟩; have B2 := Lib.hid (below_on B1.out (Nat.le_refl _) hb2); clear hb2)
  go_ret2
  exact ⟨rfl, B2.out⟩

set_option maxRecDepth 100000 in
set_option maxHeartbeats 4000000 in
theorem ofc_ok (w : World) (y : Nat) (A : Option Addr) (l : List Int) (N c : Nat) (hN : l.length = N) (hv : Vt y l) (hR : Ri w A l) :
    Calls Try.prog 28 #[tb y A N c] w (OutC w.heap.size w (cex (y : Int) l) 0) := by
  have hN2 : N ≤ 256 := by rw [← hN]; exact hv.len
  have hy9 := hv.log
  have b1 : Below w.heap.size w (w.alloc (.cells #[.int .i64 (y : Int), .slice A N c] 24)) := (Below.refl _ w).alloc (Nat.le_refl _) _
  have t1 := Tb.new w (y : Int) A N c
  obtain ⟨w1, hw1⟩ : ∃ w1, w.alloc (.cells #[.int .i64 (y : Int), .slice A N c] 24) = w1 := ⟨_, rfl⟩
  rw [hw1] at b1 t1
  have c0 := t1.c0
  have c1 := t1.c1
  obtain ⟨s, hse⟩ : ∃ s, 2 ^ y = s := ⟨_, rfl⟩
  have hs5 : s ≤ 512 := by rw [← hse]; exact hv.size
  have hs1 : 1 ≤ s := by rw [← hse]; exact Nat.one_le_two_pow
  have SP := Lib.hid (of_ok w1 y s A l N c hN hv hse (hR.below b1))
  have HL : Hid ((spl s l).length = s) := Lib.hid (spl_len s l)
  have HCE : Hid (cex (y : Int) l = cls y l (spl s l)) := Lib.hid (by rw [cex_ok hv, hse])
  have HV : Hid (∀ i x, (spl s l)[i]? = some x → ∃ z n, l[x]? = some z ∧ -1 ≤ z ∧ sts z = ((n : Nat) : Int) ∧ xof l (spl s l) i = n + ((spl s l).take i).count x ∧ Num y n (xof l (spl s l) i)) := Lib.hid (fun i x hx => by
    rw [← hse] at hx ⊢
    obtain ⟨z, n, h1, h2, h3, h4⟩ := vt_norm hv hx
    refine ⟨z, n, h1, h2, h3, ?_, ?_⟩
    · unfold xof; rw [hx, Option.getD_some, h4]
    · have := hv.num hx; rwa [h4] at this)
  have B1 := Lib.hid b1
  have T1 := Lib.hid t1
  have R1 := Lib.hid (hR.below b1)
  have HS := Lib.hid hse
  have HN := Lib.hid hN
  obtain ⟨K, hK⟩ : ∃ K, spl s l = K := ⟨_, rfl⟩
  rw [hK] at SP HL HCE HV
  rw [HCE.out]
  clear b1 t1 hR hN hv hse hK HCE
  go_enter Try.func28, Try.ntmps28
  go_wp2_with (go_at_call 47; refine SP.out.mono ?_; rintro e w2 ⟨g, rfl, ho2, hb2⟩; have O2 := Lib.hid ho2; have B2 := Lib.hid hb2; have T2 := Lib.hid (T1.out.below hb2); have R2 := Lib.hid (R1.out.below hb2); clear hb2 ho2)
  clear c0 c1 SP
  have LW : Hid (w.heap.size ≤ w2.heap.size) := Lib.hid (Nat.le_trans B1.out.size B2.out.size)
  go_loopw [6, 7] (fun v p wr => ∃ (i c' : Nat) (A' : Option Addr), i ≤ s ∧ p = .int .i64 (i : Int) ∧ v = .slice A' i c' ∧ Hid (wr.ownsRow w2.heap.size 68 3 (.slice A' i c') i (flat3 ((cls y l K).take i))) ∧ Hid (Below w2.heap.size w2 wr)) (fun _ p _ => s - (intOf p).toNat)
  case atStart => exact ⟨0, 0, none, Nat.zero_le _, rfl, rfl, Lib.hid (ro_nil _ _ _ _), Lib.hid (Below.refl _ _)⟩
  case round =>
    obtain ⟨i, c', A', hi, rfl, rfl, HO, HB⟩ := hrel
    by_cases hlt : i < s
    · obtain ⟨x, hx⟩ : ∃ x, K[i]? = some x := ⟨_, List.getElem?_eq_getElem (by rw [HL.out]; exact hlt)⟩
      have HO2 := Lib.hid (own_below O2.out HB.out)
      have ci : wr.cell? ⟨g, i, none⟩ = some (.int .i64 (x : Int)) := by rw [HO2.out.cellAt i (by omega), List.getElem?_map, hx]; rfl
      have HX := Lib.hid hx
      have wi : IntKind.i64.wrap (i : Int) = (i : Int) := IntWalk.i64_in _ (by omega)
      clear hx
      go_wp2
      go_loopw [8, 9] (fun kk p wq => ∃ j k : Nat, j ≤ i ∧ k ≤ j ∧ p = .int .i64 (j : Int) ∧ kk = .int .i64 (k : Int) ∧ Hid ((K.take j).count x = k) ∧ ∃ d, wq = wr.drewN d) (fun _ p _ => i - (intOf p).toNat)
      case atStart => exact ⟨0, 0, Nat.zero_le _, Nat.le_refl _, rfl, rfl, Lib.hid (by simp), 0, rfl⟩
      case round =>
        obtain ⟨j, k, hj, hk, rfl, rfl, HA, d, rfl⟩ := hrel
        by_cases hji : j < i
        · obtain ⟨u, hu⟩ : ∃ u, K[j]? = some u := ⟨_, List.getElem?_eq_getElem (by rw [HL.out]; omega)⟩
          have cj : wr.cell? ⟨g, j, none⟩ = some (.int .i64 (u : Int)) := by rw [HO2.out.cellAt j (by omega), List.getElem?_map, hu]; rfl
          have wj : IntKind.i64.wrap (j : Int) = (j : Int) := IntWalk.i64_in _ (by omega)
          by_cases hux : u = x
          · subst hux
            have HC : Hid ((K.take (j + 1)).count u = k + 1) := Lib.hid (by rw [take_succ_get hu, List.count_append, HA.out]; simp)
            clear hu
            go_wp2
            go_quiet (fail)
            go_wp2
            exact ⟨⟨j + 1, k + 1, by omega, by omega, by simp, by simp, HC, d + nq, rfl⟩, by simp [intOf]; omega⟩
          · have HC : Hid ((K.take (j + 1)).count x = k) := Lib.hid (by rw [take_succ_get hu, List.count_append, HA.out, List.count_singleton]; simp [hux])
            have hue : ((u : Int) == (x : Int)) = false := by simp; omega
            clear hu
            go_wp2
            go_quiet (fail)
            go_wp2
            exact ⟨⟨j + 1, k, by omega, by omega, by simp, rfl, HC, d + nq, rfl⟩, by simp [intOf]; omega⟩
        · have hjI : j = i := by omega
          obtain ⟨z, n, hz, hz1, hzn, hX, hNum⟩ := HV.out i x HX.out
          obtain ⟨X, hXX⟩ : ∃ X, xof l K i = X := ⟨_, rfl⟩
          rw [hXX] at hX hNum
          have hkn : n + k = X := by rw [hX, ← HA.out, hjI]
          have q1 := hNum.base
          have q2 := hNum.log
          have q3 := hNum.high
          have q4 := hNum.pos
          have q5 := hNum.lo
          have q6 := hNum.hi
          have q7 := hNum.le
          have q8 := bts_le y X
          obtain ⟨b, hb⟩ : ∃ b, bts y X = b := ⟨_, rfl⟩
          obtain ⟨U, hU⟩ : ∃ U, bse y X = U := ⟨_, rfl⟩
          obtain ⟨D, hD⟩ : ∃ D, 2 ^ b = D := ⟨_, rfl⟩
          have hbG : b + X.log2 = y := by rw [← hb]; unfold bts; omega
          rw [hb, hD, hU, HS.out] at q1
          rw [hb, hD, HS.out, Nat.add_mul, Nat.one_mul] at q3
          rw [hb] at q8
          rw [HS.out] at q7
          obtain ⟨P, hP⟩ : ∃ P, X * D = P := ⟨_, rfl⟩
          rw [hP] at q1 q3
          have HC : Hid (cel y l K i = (x, b, U)) := Lib.hid (by unfold cel; rw [HX.out, hXX, Option.getD_some, hb, hU])
          have hxN : x < N := by rw [← HN.out]; exact (List.getElem?_eq_some_iff.1 hz).1
          obtain ⟨ad, rfl, hcz⟩ := R2.out x (iv z) (by rw [List.getElem?_map, hz]; rfl)
          have wx : IntKind.i64.wrap (x : Int) = (x : Int) := IntWalk.i64_in _ (by omega)
          have eX : (n : Int) + (k : Int) = (X : Int) := by omega
          have eM : (X : Int) * (D : Int) = (P : Int) := by rw [← hP]; exact (Int.natCast_mul X D).symm
          have eU : (P : Int) - (s : Int) = (U : Int) := by omega
          have hPb : P ≤ 2000 := by omega
          have hUb : U ≤ 2000 := by omega
          have hXb : X ≤ 2000 := by omega
          have wP : IntKind.i64.wrap (P : Int) = (P : Int) := IntWalk.i64_in _ (by omega)
          have wU : IntKind.i64.wrap (U : Int) = (U : Int) := IntWalk.i64_in _ (by omega)
          have hz2 : z ≤ 512 := by unfold sts at hzn; split at hzn <;> omega
          obtain ⟨W, hW⟩ : ∃ W, wr.drewN d = W := ⟨_, rfl⟩
          have BW : Hid (Below w2.heap.size w2 W) := Lib.hid (by rw [← hW]; exact below_drewN' HB.out d)
          have OW : Hid (W.ownsRow w2.heap.size 68 3 (.slice A' i c') i (flat3 ((cls y l K).take i))) := Lib.hid (by rw [← hW]; exact HO.out)
          have ci' : W.cell? ⟨g, i, none⟩ = some (.int .i64 (x : Int)) := by rw [← hW]; exact ci
          have tW := T2.out.below BW.out
          have a0 := tW.c0
          have a1 := tW.c1
          have az : W.cell? (ad.add x) = some (.int .i64 z) := (BW.out.cell (cell_lt hcz)).trans hcz
          have SA : Hid (∀ W', Calls Try.prog 36 #[.int .i64 z] W' fun e w' => e = .returned (.int .i64 (n : Int)) ∧ w' = W') := Lib.hid (fun W' => by
            have := rstates_any W' z
            rwa [hzn] at this)
          have SZ : Hid (∀ W', Calls Try.prog 37 #[.int .i64 (b : Int)] W' fun e w' => e = .returned (.int .i64 (D : Int)) ∧ w' = W') := Lib.hid (fun W' => by
            have := size_any W' (b : Int)
            rwa [siz_pow (by omega) hD] at this)
          have HG : Hid (y = b + X.log2) := Lib.hid hbG.symm
          rw [hW]
          have X1 : 1 ≤ X := by omega
          have wX : IntKind.i64.wrap (X : Int) = (X : Int) := IntWalk.i64_in _ (by omega)
          clear hz hz1 hzn hX hNum hXX hkn hb hU hD hP hbG hcz tW hW ci HO HB HA hj hk hjI q1 q2 q3 q4 q5 q6 q7 hPb
          go_wp2
          go_region_held3 (fun W' => W'.cell? ⟨w.heap.size, 1, none⟩ = some (.slice (some ad) N c) ∧ W'.cell? (ad.add x) = some (.int .i64 z) ∧ W'.cell? ⟨g, i, none⟩ = some (.int .i64 (x : Int))) (first | exact ⟨a1, az, ci'⟩) (first
            | (go_at_call 36; refine (SA.out _).mono ?_; rintro e w' ⟨rfl, rfl⟩))
          all_goals
            go_wp2
            go_loop [11, 12] (fun t p => ∃ t0 V : Nat, 1 ≤ V ∧ V ≤ 2000 ∧ t0 ≤ 9 ∧ t = .int .i64 (t0 : Int) ∧ p = .int .i64 (V : Int) ∧ Hid (t0 = b + V.log2)) (fun _ p => (intOf p).toNat)
            case atStart => exact ⟨y, X, X1, hXb, hy9, rfl, rfl, HG⟩
            case round =>
              obtain ⟨t0, V, hV1, hV2, ht9, rfl, rfl, HT⟩ := hrel
              by_cases hgt : 1 < V
              · have HT2 : Hid (t0 - 1 = b + (V / 2).log2 ∧ 1 ≤ t0) := Lib.hid (by
                  have h1 := HT.out
                  have h2 := log2_half (V := V) (by omega)
                  omega)
                have ht1 : 1 ≤ t0 := HT2.out.2
                go_wp2
                exact ⟨⟨t0 - 1, V / 2, by omega, by omega, by omega, by simp; omega, by simp, Lib.hid HT2.out.1⟩, by simp [intOf]; omega⟩
              · have hV : V = 1 := by omega
                subst hV
                have ht : t0 = b := by have := HT.out; rw [this]; rfl
                subst ht
                obtain ⟨W5, hW5⟩ : ∃ W5, W.drew = W5 := ⟨_, rfl⟩
                have B5 : Hid (Below w2.heap.size w2 W5) := Lib.hid (by rw [← hW5]; exact BW.out.drew)
                have O5 : Hid (W5.ownsRow w2.heap.size 68 3 (.slice A' i c') i (flat3 ((cls y l K).take i))) := Lib.hid (by rw [← hW5]; exact OW.out)
                have ci5 : W5.drew.cell? ⟨g, i, none⟩ = some (.int .i64 (x : Int)) := by rw [← hW5]; exact ci'
                have L6 : Hid (((W5.alloc (.cells #[.int .i64 (x : Int), .int .i64 (t0 : Int), .int .i64 (U : Int)] 68)).drew).heap[W5.heap.size]? = some (.cells #[.int .i64 (x : Int), .int .i64 (t0 : Int), .int .i64 (U : Int)] 68 (0, 0))) := Lib.hid (World.alloc_heap_new W5 _)
                have B6 : Hid (Below w2.heap.size w2 ((W5.alloc (.cells #[.int .i64 (x : Int), .int .i64 (t0 : Int), .int .i64 (U : Int)] 68)).drew)) := Lib.hid (B5.out.alloc B5.out.size _).drew
                have O6 : Hid (((W5.alloc (.cells #[.int .i64 (x : Int), .int .i64 (t0 : Int), .int .i64 (U : Int)] 68)).drew).ownsRow w2.heap.size 68 3 (.slice A' i c') i (flat3 ((cls y l K).take i))) := Lib.hid (ro_below O5.out ((Below.refl _ W5).alloc (Nat.le_refl _) _).drew)
                have ci6 : ((W5.alloc (.cells #[.int .i64 (x : Int), .int .i64 (t0 : Int), .int .i64 (U : Int)] 68)).drew).cell? ⟨g, i, none⟩ = some (.int .i64 (x : Int)) := by
                  have h1 : W5.cell? ⟨g, i, none⟩ = some (.int .i64 (x : Int)) := ci5
                  exact (((Below.refl W5.heap.size W5).alloc (Nat.le_refl _) (.cells #[.int .i64 (x : Int), .int .i64 (t0 : Int), .int .i64 (U : Int)] 68)).drew.cell (cell_lt h1)).trans h1
                have HG7 : Hid (∀ w7, ((W5.alloc (.cells #[.int .i64 (x : Int), .int .i64 (t0 : Int), .int .i64 (U : Int)] 68)).drew).grownBy w7 (Value.slice A' i c').ownBlock → w7.cell? ⟨g, i, none⟩ = some (.int .i64 (x : Int))) := Lib.hid (fun w7 hg7 => by
                  rw [← ci6]
                  refine World.cell?_of_block (hg7.block g (cell_lt ci6) (fun e => ?_))
                  have h1 := own_ge O6.out e.symm
                  have h2 : g < w2.heap.size := own_lt O2.out rfl
                  omega)
                have HQ : Hid (flat3 ((cls y l K).take i) ++ [.int .i64 (x : Int), .int .i64 (t0 : Int), .int .i64 (U : Int)] = flat3 ((cls y l K).take (i + 1))) := Lib.hid (by
                  have h1 : (cls y l K)[i]? = some (x, t0, U) := by rw [cls_get (by rw [HL.out]; exact hlt), HC.out]
                  rw [take_succ_get h1, flat3_append]; rfl)
                obtain ⟨i0, hi0, hz0, hz1', hz2'⟩ := info_parts cel_info
                have HI := Lib.hid (And.intro hi0 (And.intro hz0 (And.intro hz1' hz2')))
                clear HT hgt hi0 hz0 hz1' hz2'
                go_wp2
                clear hW5
                go_region_held3 (fun W' => W'.cell? ⟨g, i, none⟩ = some (.int .i64 (x : Int))) (first | exact ci5 | exact ci6 | exact ci7) (first
                  | (go_at_call 37; refine (SZ.out _).mono ?_; rintro e w' ⟨rfl, rfl⟩)
                  | (refine step_append_lies _ rfl (.tmp 63) (.tmp 77) 51 rfl w2.heap.size 68 i0 (.agg #[.int .i64 0, .int .i64 0, .int .i64 0]) 3 24 und_cells HI.out.1 HI.out.2.1 HI.out.2.2.1 HI.out.2.2.2 rfl (by decide) (.slice A' i c') i (flat3 ((cls y l K).take i)) (by simp [Act.eval]) O6.out ⟨W5.heap.size, 0, none⟩ 1 1 [.int .i64 (x : Int), .int .i64 (t0 : Int), .int .i64 (U : Int)] (by simp [Act.eval]) rfl (World.news_of_block L6.out) (by simp [Value.oneCell']) (by decide) (by unfold maxLen; omega) (by omega) B6.out.size (W5.heap.size + 1) (by simp) ?_; intro g7 c7 w7 ho7 hg7 hl7 _; have O7 := Lib.hid ho7; have B7 : Hid (Below w2.heap.size w2 w7) := Lib.hid (B6.out.grown hg7 B6.out.size (fun _ e => own_ge O6.out e)); have ci7 : w7.cell? ⟨g, i, none⟩ = some (.int .i64 (x : Int)) := HG7.out w7 hg7; clear ho7 hg7 hl7))
                all_goals
                  go_wp2
                  exact ⟨⟨i + 1, c7, some ⟨g7, 0, none⟩, by omega, by simp, rfl, Lib.hid (by rw [← HQ.out]; exact O7.out), B7⟩, by simp [intOf]; omega⟩
    · have HE : Hid ((cls y l K).take i = cls y l K ∧ (cls y l K).length = i) := Lib.hid ⟨List.take_of_length_le (by rw [cls_len, HL.out]; omega), by rw [cls_len, HL.out]; omega⟩
      go_wp2
      go_ret2
      refine ⟨A', i, c', rfl, HE.out.2.symm, by omega, ?_, below_on B1.out (Nat.le_refl _) (below_on B2.out (Nat.le_refl _) HB.out)⟩
      have h1 := HO.out
      rw [HE.out.1] at h1
      exact ro_base h1 LW.out

theorem ofc_u (w : World) (y : Int) (A : Option Addr) (l : List Int) (N c : Nat) (hN : l.length = N) (hb : N ≤ 1000000) (hR : Ri w A l) :
    Calls Try.prog 28 #[tb y A N c] w (OutC w.heap.size w (cex y l) (err (vt y l 256 9))) := by
  have hX := cex_len y l
  cases hv : vt y l 256 9 with
  | false =>
    rw [cex_bad hv] at hX ⊢
    refine (ofc_bad w y A l N c hN hb hv hR).mono ?_
    rintro e w' ⟨rfl, hb'⟩
    exact outC_mk hX (ro_nil _ _ _ _) hb'
  | true =>
    obtain ⟨n, rfl, hv2⟩ := vt_iff.1 hv
    exact ofc_ok w n A l N c hN hv2 hR

end Go.Proofs.Ytgokbpnikgbfgaa

namespace Go.Proofs.Ytgokbpnikgbfgaa
open Go.RowKit Go.Shelf

/-- A row of cells whose numbers are small. -/
structure Rc (w : World) (g s cp : Nat) (C : List (Nat × Nat × Nat)) : Prop where
  own : w.ownsRow 0 68 3 (.slice (some ⟨g, 0, none⟩) s cp) s (flat3 C)
  len : C.length = s
  le : s ≤ 512
  small : ∀ (i : Nat) (c : Nat × Nat × Nat), C[i]? = some c → c.1 ≤ 256 ∧ c.2.1 ≤ 9 ∧ c.2.2 ≤ 512

theorem Rc.below {w w' : World} {g s cp : Nat} {C : List (Nat × Nat × Nat)} (h : Rc w g s cp C) (hb : Below w.heap.size w w') : Rc w' g s cp C := ⟨ro_below h.own hb, h.len, h.le, h.small⟩
theorem cls_small {y s : Nat} {l : List Int} (hv : Vt y l) (hse : 2 ^ y = s) (i : Nat) (c : Nat × Nat × Nat) (hc : (cls y l (spl s l))[i]? = some c) : c.1 ≤ 256 ∧ c.2.1 ≤ 9 ∧ c.2.2 ≤ 512 := by
  have h1 := cla_small hv hse (i : Int)
  rw [(cle_ok hc).2] at h1
  exact ⟨h1.1, h1.2.1, h1.2.2.1⟩
/-- What the reference's Of returns of a valid table. -/
theorem of_rc (w : World) (y s : Nat) (A : Option Addr) (l : List Int) (N c : Nat) (hN : l.length = N) (hv : Vt y l) (hse : 2 ^ y = s) (hR : Ri w A l) :
    Calls Try.prog 28 #[tb y A N c] w fun e w' => ∃ g cp, e = .returned (.tuple #[.slice (some ⟨g, 0, none⟩) s cp, .int .i64 0]) ∧ Rc w' g s cp (cls y l (spl s l)) ∧ Below w.heap.size w w' := by
  have OF := ofc_ok w y A l N c hN hv hR
  rw [cex_ok hv, hse] at OF
  refine OF.mono ?_
  rintro e w2 ⟨A', r, c', rfl, hr, _, ho2, hb2⟩
  have hs1 : 1 ≤ s := by rw [← hse]; exact Nat.one_le_two_pow
  have hs5 : s ≤ 512 := by rw [← hse]; exact hv.size
  rw [cls_s hv hse] at hr
  subst hr
  obtain ⟨g, rfl⟩ := ro_some (by omega) ho2
  exact ⟨g, c', rfl, ⟨ro_base ho2 (Nat.zero_le _), cls_s hv hse, hs5, cls_small hv hse⟩, hb2⟩
/-- Whether a symbol has states. -/
def hsb (l : List Int) (z : Int) : Bool := decide (0 ≤ z) && (match l[z.toNat]? with | some u => decide (u ≠ 0) | none => false)
theorem hsb_pos {y : Nat} {l : List Int} (hv : Vt y l) {z : Int} (h : hsb l z = true) : ∃ x : Nat, z = (x : Int) ∧ 1 ≤ nos l x ∧ x < l.length := by
  unfold hsb at h
  rw [Bool.and_eq_true, decide_eq_true_iff] at h
  obtain ⟨h0, h1⟩ := h
  refine ⟨z.toNat, by omega, ?_⟩
  cases hu : l[z.toNat]? with
  | none => rw [hu] at h1; cases h1
  | some u =>
    rw [hu] at h1
    simp only [decide_eq_true_iff] at h1
    refine ⟨?_, (List.getElem?_eq_some_iff.1 hu).1⟩
    have h2 : -1 ≤ u := by
      have := List.all_eq_true.1 hv.ok u (List.mem_of_getElem? hu)
      simpa using this
    unfold nos
    rw [hu]
    simp only
    unfold sts
    split <;> omega
set_option maxRecDepth 100000 in
set_option maxHeartbeats 2000000 in
theorem has_any (w : World) (y : Int) (A : Option Addr) (l : List Int) (N c : Nat) (z : Int) (hN : l.length = N) (hN2 : N ≤ 1000000) (hR : Ri w A l) :
    Calls Try.prog 38 #[tb y A N c, .int .i64 z] w fun e w' => e = .returned (.bool (hsb l z)) ∧ Below w.heap.size w w' := by
  have b1 := below_new w (.cells #[.int .i64 y, .slice A N c] 24)
  have t1 := Tb.new w y A N c
  obtain ⟨w1, hw1⟩ : ∃ w1, w.alloc (.cells #[.int .i64 y, .slice A N c] 24) = w1 := ⟨_, rfl⟩
  rw [hw1] at b1 t1
  have c0 := t1.c0
  have c1 := t1.c1
  have hR1 := hR.below b1
  have B1 := Lib.hid b1
  by_cases h0 : z < 0
  · have k0 : decide (0 ≤ z) = false := decide_eq_false (by omega)
    have HH : Hid (hsb l z = false) := Lib.hid (by unfold hsb; rw [k0]; rfl)
    rw [HH.out]
    clear b1 t1 hR hR1 hN HH
    go_enter Try.func38, Try.ntmps38
    go_wp2
    go_ret
    exact ⟨rfl, B1.out⟩
  · have k0 : decide (0 ≤ z) = true := decide_eq_true (by omega)
    obtain ⟨x, rfl⟩ : ∃ x : Nat, z = (x : Int) := ⟨z.toNat, by omega⟩
    by_cases h1 : x < N
    · obtain ⟨u, hu⟩ : ∃ u, l[x]? = some u := ⟨_, List.getElem?_eq_getElem (by omega)⟩
      obtain ⟨ad, rfl, hc⟩ := hR1 x (iv u) (by rw [List.getElem?_map, hu]; rfl)
      simp only [iv] at hc
      obtain ⟨R, hRR⟩ : ∃ R, hsb l (x : Int) = R := ⟨_, rfl⟩
      have hne : (u != 0) = R := by
        rw [← hRR]
        unfold hsb
        rw [k0, Int.toNat_natCast, hu]
        simp only [Bool.true_and]
        by_cases h2 : u = 0
        · subst h2; rfl
        · simp [h2]
      rw [hRR]
      have k1 : decide ((x : Int) < (N : Int)) = true := decide_eq_true (by omega)
      have wx : IntKind.i64.wrap (x : Int) = (x : Int) := IntWalk.i64_in _ (by omega)
      clear b1 t1 hR hR1 hN hu hRR
      go_enter Try.func38, Try.ntmps38
      go_wp2
      go_ret
      exact ⟨rfl, B1.out⟩
    · have k1 : decide ((x : Int) < (N : Int)) = false := decide_eq_false (by omega)
      have HH : Hid (hsb l (x : Int) = false) := Lib.hid (by unfold hsb; rw [Int.toNat_natCast, List.getElem?_eq_none (by omega)]; simp)
      rw [HH.out]
      clear b1 t1 hR hR1 hN HH
      go_enter Try.func38, Try.ntmps38
      go_wp2
      go_ret
      exact ⟨rfl, B1.out⟩

end Go.Proofs.Ytgokbpnikgbfgaa

namespace Go.Proofs.Ytgokbpnikgbfgaa
open Bt (bitsOf val unp pack closed endOf bitsOf_len val_bitsOf bitsOf_val val_lt)

/-- The last n bits: their number, and the bits ahead of them. -/
def lst (L : List Bool) (n : Nat) : Option (Nat × List Bool) := if L.length < n then none else some (val (L.drop (L.length - n)), L.take (L.length - n))

theorem lst_app (P : List Bool) {v n : Nat} (h : v < 2 ^ n) : lst (P ++ bitsOf v n) n = some (v, P) := by
  have hl : (P ++ bitsOf v n).length = P.length + n := by rw [List.length_append, bitsOf_len]
  rw [lst, if_neg (by omega), hl, Nat.add_sub_cancel, List.drop_left, List.take_left, val_bitsOf, Nat.mod_eq_of_lt h]
theorem lst_inv {L R : List Bool} {v n : Nat} (h : lst L n = some (v, R)) : L = R ++ bitsOf v n ∧ v < 2 ^ n := by
  unfold lst at h
  split at h
  · cases h
  · rename_i hl
    injection h with h
    injection h with hv hR
    have hd : (L.drop (L.length - n)).length = n := by rw [List.length_drop]; omega
    have e := bitsOf_val (L.drop (L.length - n))
    rw [hd, hv] at e
    refine ⟨by rw [e, ← hR, List.take_append_drop], ?_⟩
    have h2 := val_lt (L.drop (L.length - n))
    rw [hd, hv] at h2
    exact h2
theorem lst_pre {L R : List Bool} {v n : Nat} (P : List Bool) (h : lst L n = some (v, R)) : lst (P ++ L) n = some (v, P ++ R) := by
  obtain ⟨rfl, h2⟩ := lst_inv h
  rw [← List.append_assoc, lst_app _ h2]
theorem lst_none {L : List Bool} {n : Nat} (h : L.length < n) : lst L n = none := by rw [lst, if_pos h]

/-- A state's cell: the symbol, the bits, the base. -/
def cg (C : List (Nat × Nat × Nat)) (i : Nat) : Nat × Nat × Nat := C[i]?.getD (0, 0, 0)
theorem cg_of {C : List (Nat × Nat × Nat)} {i : Nat} {c : Nat × Nat × Nat} (h : C[i]? = some c) : cg C i = c := by rw [cg, h, Option.getD_some]

/-- k symbols from the states a and b on. -/
def fgo (C : List (Nat × Nat × Nat)) : Nat → Nat → Nat → List Bool → Option (List Nat × List Bool)
  | 0, _, _, L => some ([], L)
  | k + 1, a, b, L =>
    if 2 ≤ k then match lst L (cg C a).2.1 with
      | none => none
      | some (v, L') => (fgo C k b ((cg C a).2.2 + v) L').map fun q => ((cg C a).1 :: q.1, q.2)
    else (fgo C k b a L).map fun q => ((cg C a).1 :: q.1, q.2)
/-- n symbols, and the bits that are left. -/
def fdx (C : List (Nat × Nat × Nat)) (y : Nat) (L : List Bool) (n : Nat) : Option (List Nat × List Bool) :=
  if n = 0 then some ([], L) else match lst L y with
    | none => none
    | some (a, L1) => if n = 1 then fgo C 1 a 0 L1 else match lst L1 y with
      | none => none
      | some (c, L2) => fgo C n a c L2
/-- n symbols, no bits left. -/
def fdc (C : List (Nat × Nat × Nat)) (y : Nat) (L : List Bool) (n : Nat) : Option (List Nat) := match fdx C y L n with
  | some (o, []) => some o
  | _ => none

theorem fgo_pre (C : List (Nat × Nat × Nat)) (P : List Bool) : ∀ (k a b : Nat) (L : List Bool) (o : List Nat) (R : List Bool), fgo C k a b L = some (o, R) → fgo C k a b (P ++ L) = some (o, P ++ R) := by
  intro k
  induction k with
  | zero => intro a b L o R h; rw [fgo] at h ⊢; cases h; rfl
  | succ k ih =>
    intro a b L o R h
    rw [fgo] at h ⊢
    split
    · rename_i h2
      rw [if_pos h2] at h
      cases hl : lst L (cg C a).2.1 with
      | none => rw [hl] at h; cases h
      | some p =>
        obtain ⟨v, L'⟩ := p
        rw [hl] at h
        rw [lst_pre P hl]
        simp only [Option.map_eq_some_iff] at h ⊢
        obtain ⟨q, hq, he⟩ := h
        cases he
        exact ⟨_, ih _ _ _ _ _ hq, rfl⟩
    · rename_i h2
      rw [if_neg h2] at h
      simp only [Option.map_eq_some_iff] at h ⊢
      obtain ⟨q, hq, he⟩ := h
      cases he
      exact ⟨_, ih _ _ _ _ _ hq, rfl⟩
theorem fdx_pre {C : List (Nat × Nat × Nat)} {y : Nat} {L : List Bool} {n : Nat} {o : List Nat} {R : List Bool} (P : List Bool) (h : fdx C y L n = some (o, R)) : fdx C y (P ++ L) n = some (o, P ++ R) := by
  unfold fdx at h ⊢
  split
  · rename_i h0
    rw [if_pos h0] at h
    cases h; rfl
  · rename_i h0
    rw [if_neg h0] at h
    cases hl : lst L y with
    | none => rw [hl] at h; cases h
    | some p =>
      obtain ⟨a, L1⟩ := p
      rw [hl] at h
      rw [lst_pre P hl]
      dsimp only at h ⊢
      split
      · rename_i h1
        rw [if_pos h1] at h
        exact fgo_pre C P _ _ _ _ _ _ h
      · rename_i h1
        rw [if_neg h1] at h
        cases hl2 : lst L1 y with
        | none => rw [hl2] at h; cases h
        | some p =>
          obtain ⟨c, L2⟩ := p
          rw [hl2] at h
          rw [lst_pre P hl2]
          dsimp only at h ⊢
          exact fgo_pre C P _ _ _ _ _ _ h

/-- The cells of a machine of 2^y states: every cell leads to states. -/
structure Mch (C : List (Nat × Nat × Nat)) (y : Nat) : Prop where
  len : C.length = 2 ^ y
  fit : ∀ (i x p q : Nat), C[i]? = some (x, p, q) → p ≤ y ∧ q + 2 ^ p ≤ 2 ^ y
/-- A symbol with states: its lowest state, and a predecessor of each state. -/
structure Sy (C : List (Nat × Nat × Nat)) (y x : Nat) : Prop where
  low : ∃ (p q : Nat), C[lwa C (x : Int)]? = some (x, p, q)
  pred : ∀ t : Nat, t < 2 ^ y → ∃ (i v p q : Nat), pra C (t : Int) (x : Int) = (i, v, p) ∧ C[i]? = some (x, p, q) ∧ t = q + v ∧ v < 2 ^ p

theorem Mch.lt {C : List (Nat × Nat × Nat)} {y i : Nat} {c : Nat × Nat × Nat} (h : Mch C y) (hc : C[i]? = some c) : i < 2 ^ y := by
  rw [← h.len]; exact (List.getElem?_eq_some_iff.1 hc).1
theorem Mch.cell {C : List (Nat × Nat × Nat)} {y i : Nat} (h : Mch C y) (hi : i < 2 ^ y) : C[i]? = some (cg C i) ∧ (cg C i).2.1 ≤ y ∧ (cg C i).2.2 + 2 ^ (cg C i).2.1 ≤ 2 ^ y := by
  have e : C[i]? = some (cg C i) := by rw [cg, List.getElem?_eq_getElem (by rw [h.len]; exact hi), Option.getD_some]
  exact ⟨e, h.fit i _ _ _ e⟩

/-- What is read are symbols of cells, and just so many. -/
theorem fgo_syms {C : List (Nat × Nat × Nat)} {y : Nat} (h : Mch C y) : ∀ (k a b : Nat) (L : List Bool) (o : List Nat) (R : List Bool), (1 ≤ k → a < 2 ^ y) → (2 ≤ k → b < 2 ^ y) → fgo C k a b L = some (o, R) → o.length = k ∧ ∀ x ∈ o, ∃ (i p q : Nat), C[i]? = some (x, p, q) := by
  intro k
  induction k with
  | zero => intro a b L o R _ _ h; rw [fgo] at h; cases h; exact ⟨rfl, fun x hx => by cases hx⟩
  | succ k ih =>
    intro a b L o R ha hb hf
    obtain ⟨e, e1, e2⟩ := h.cell (ha (by omega))
    rw [fgo] at hf
    split at hf
    · rename_i h2
      cases hl : lst L (cg C a).2.1 with
      | none => rw [hl] at hf; cases hf
      | some p =>
        obtain ⟨v, L'⟩ := p
        rw [hl] at hf
        simp only [Option.map_eq_some_iff] at hf
        obtain ⟨q, hq, he⟩ := hf
        cases he
        obtain ⟨_, hv⟩ := lst_inv hl
        obtain ⟨g1, g2⟩ := ih _ _ _ _ _ (fun _ => hb (by omega)) (fun _ => by omega) hq
        refine ⟨by simp [g1], fun x hx => ?_⟩
        rcases List.mem_cons.1 hx with rfl | hx
        · exact ⟨a, _, _, e⟩
        · exact g2 x hx
    · rename_i h2
      simp only [Option.map_eq_some_iff] at hf
      obtain ⟨q, hq, he⟩ := hf
      cases he
      obtain ⟨g1, g2⟩ := ih _ _ _ _ _ (fun _ => hb (by omega)) (fun h9 => by omega) hq
      refine ⟨by simp [g1], fun x hx => ?_⟩
      rcases List.mem_cons.1 hx with rfl | hx
      · exact ⟨a, _, _, e⟩
      · exact g2 x hx
theorem fdx_syms {C : List (Nat × Nat × Nat)} {y : Nat} (h : Mch C y) {L R : List Bool} {n : Nat} {o : List Nat} (hf : fdx C y L n = some (o, R)) : o.length = n ∧ ∀ x ∈ o, ∃ (i p q : Nat), C[i]? = some (x, p, q) := by
  unfold fdx at hf
  split at hf
  · rename_i h0
    cases hf
    exact ⟨h0.symm, fun x hx => by cases hx⟩
  · cases hl : lst L y with
    | none => rw [hl] at hf; cases hf
    | some p =>
      obtain ⟨a, L1⟩ := p
      rw [hl] at hf
      dsimp only at hf
      obtain ⟨_, ha⟩ := lst_inv hl
      split at hf
      · rename_i h1
        subst h1
        exact fgo_syms h _ _ _ _ _ _ (fun _ => ha) (fun h9 => by omega) hf
      · cases hl2 : lst L1 y with
        | none => rw [hl2] at hf; cases hf
        | some p =>
          obtain ⟨c, L2⟩ := p
          rw [hl2] at hf
          dsimp only at hf
          exact fgo_syms h _ _ _ _ _ _ (fun _ => ha) (fun _ => (lst_inv hl2).2) hf

/-- The states of the first two symbols, and the bits of the rest: each of the last two symbols has its lowest state. -/
def fen (C : List (Nat × Nat × Nat)) : List Nat → Nat × Nat × List Bool
  | [] => (0, 0, [])
  | a :: r => if r.length < 2 then (lwa C (a : Int), (fen C r).1, []) else
    ((pra C ((fen C r).2.1 : Int) (a : Int)).1, (fen C r).1, (fen C r).2.2 ++ bitsOf (pra C ((fen C r).2.1 : Int) (a : Int)).2.1 (pra C ((fen C r).2.1 : Int) (a : Int)).2.2)
/-- The bits of a flow. -/
def fbs (C : List (Nat × Nat × Nat)) (y : Nat) (ss : List Nat) : List Bool :=
  (fen C ss).2.2 ++ ((if 2 ≤ ss.length then bitsOf (fen C ss).2.1 y else []) ++ (if 1 ≤ ss.length then bitsOf (fen C ss).1 y else []))

theorem fen_ok {C : List (Nat × Nat × Nat)} {y : Nat} (h : Mch C y) : ∀ ss : List Nat, (∀ x ∈ ss, Sy C y x) →
    (1 ≤ ss.length → (fen C ss).1 < 2 ^ y ∧ ss.head? = some (cg C (fen C ss).1).1) ∧ (2 ≤ ss.length → (fen C ss).2.1 < 2 ^ y) ∧
    (∀ P, fgo C ss.length (fen C ss).1 (fen C ss).2.1 (P ++ (fen C ss).2.2) = some (ss, P)) ∧ (fen C ss).2.2.length ≤ y * (ss.length - 2) := by
  intro ss
  induction ss with
  | nil => intro _; exact ⟨fun h => by simp at h, fun h => by simp at h, fun P => by simp [fgo, fen], by simp [fen]⟩
  | cons a r ih =>
    intro hs
    obtain ⟨g1, g2, g3, g4⟩ := ih (fun x hx => hs x (List.mem_cons_of_mem _ hx))
    have hsa := hs a (List.mem_cons_self ..)
    by_cases hr : r.length < 2
    · obtain ⟨p, q, hlo⟩ := hsa.low
      have e : fen C (a :: r) = (lwa C (a : Int), (fen C r).1, []) := by rw [fen, if_pos hr]
      have hc := cg_of hlo
      have he : (fen C r).2.2 = [] := by
        have : (fen C r).2.2.length ≤ 0 := by
          have := g4
          rw [show r.length - 2 = 0 by omega, Nat.mul_zero] at this
          exact this
        exact List.eq_nil_of_length_eq_zero (by omega)
      rw [e]
      refine ⟨fun _ => ⟨h.lt hlo, by simp [hc]⟩, fun h9 => (g1 (by simp at h9; omega)).1, fun P => ?_, by simp⟩
      rw [List.length_cons, fgo, if_neg (by omega)]
      match r, g1, g2, g3, he with
      | [], _, _, _, _ => simp [fgo, hc]
      | [b], g1, _, g3, he =>
        have h3 := (g1 (by simp)).2
        simp only [List.head?_cons, Option.some.injEq] at h3
        rw [List.length_singleton, fgo, if_neg (by omega)]
        simp [fgo, hc, ← h3]
      | _ :: _ :: _, _, _, _, _ => simp at hr; omega
    · have hr2 : 2 ≤ r.length := by omega
      obtain ⟨i, v, p, q, hp, hci, ht, hv⟩ := hsa.pred _ (g2 hr2)
      have e : fen C (a :: r) = (i, (fen C r).1, (fen C r).2.2 ++ bitsOf v p) := by rw [fen, if_neg hr, hp]
      have hc := cg_of hci
      rw [e]
      refine ⟨fun _ => ⟨h.lt hci, by simp [hc]⟩, fun _ => (g1 (by omega)).1, fun P => ?_, ?_⟩
      · dsimp only
        rw [List.length_cons, fgo, if_pos hr2, hc]
        dsimp only
        rw [← List.append_assoc, lst_app _ hv]
        dsimp only
        rw [← ht, g3]
        rfl
      · dsimp only
        have hpy := (h.fit _ _ _ _ hci).1
        rw [List.length_append, bitsOf_len, List.length_cons]
        have e3 : r.length + 1 - 2 = (r.length - 2) + 1 := by omega
        rw [e3, Nat.mul_add, Nat.mul_one]
        omega

theorem fbs_two (C : List (Nat × Nat × Nat)) (y : Nat) {ss : List Nat} (h : 2 ≤ ss.length) : fbs C y ss = ((fen C ss).2.2 ++ bitsOf (fen C ss).2.1 y) ++ bitsOf (fen C ss).1 y := by
  unfold fbs
  simp only [if_pos h, if_pos (show 1 ≤ ss.length by omega), List.append_assoc]
theorem fbs_one (C : List (Nat × Nat × Nat)) (y : Nat) {ss : List Nat} (h : ss.length = 1) : fbs C y ss = (fen C ss).2.2 ++ bitsOf (fen C ss).1 y := by
  unfold fbs
  simp only [if_neg (show ¬ 2 ≤ ss.length by omega), if_pos (show 1 ≤ ss.length by omega), List.nil_append]
theorem fbs_nil (C : List (Nat × Nat × Nat)) (y : Nat) : fbs C y [] = [] := by simp [fbs, fen]

theorem fdx_fbs {C : List (Nat × Nat × Nat)} {y : Nat} (h : Mch C y) {ss : List Nat} (hs : ∀ x ∈ ss, Sy C y x) (P : List Bool) : fdx C y (P ++ fbs C y ss) ss.length = some (ss, P) := by
  obtain ⟨g1, g2, g3, g4⟩ := fen_ok h ss hs
  by_cases h0 : ss.length = 0
  · obtain rfl := List.eq_nil_of_length_eq_zero h0
    simp [fbs_nil, fdx]
  · have ha := (g1 (by omega)).1
    unfold fdx
    rw [if_neg h0]
    by_cases h1 : ss.length = 1
    · rw [fbs_one C y h1, ← List.append_assoc, lst_app _ ha]
      dsimp only
      rw [if_pos h1]
      have := g3 P
      rw [h1, fgo, if_neg (by omega)] at this
      rw [fgo, if_neg (by omega)]
      simpa [fgo] using this
    · rw [fbs_two C y (by omega), ← List.append_assoc, ← List.append_assoc, lst_app _ ha]
      dsimp only
      rw [if_neg h1, lst_app _ (g2 (by omega))]
      dsimp only
      exact g3 P
theorem fdc_fbs {C : List (Nat × Nat × Nat)} {y : Nat} (h : Mch C y) {ss : List Nat} (hs : ∀ x ∈ ss, Sy C y x) : fdc C y (fbs C y ss) ss.length = some ss := by
  have := fdx_fbs h hs []
  rw [List.nil_append] at this
  rw [fdc, this]
theorem fbs_len {C : List (Nat × Nat × Nat)} {y : Nat} (h : Mch C y) {ss : List Nat} (hs : ∀ x ∈ ss, Sy C y x) : (fbs C y ss).length ≤ y * ss.length := by
  obtain ⟨_, _, _, g4⟩ := fen_ok h ss hs
  by_cases h2 : 2 ≤ ss.length
  · rw [fbs_two C y h2, List.length_append, List.length_append, bitsOf_len, bitsOf_len]
    obtain ⟨k, hk⟩ : ∃ k, ss.length = k + 2 := ⟨ss.length - 2, by omega⟩
    rw [hk, show k + 2 - 2 = k by omega] at g4
    rw [hk, Nat.mul_add]
    omega
  · by_cases h1 : ss.length = 1
    · rw [fbs_one C y h1, List.length_append, bitsOf_len, h1, Nat.mul_one]
      rw [h1, show 1 - 2 = 0 from rfl, Nat.mul_zero] at g4
      omega
    · obtain rfl := List.eq_nil_of_length_eq_zero (show ss.length = 0 by omega)
      simp [fbs_nil]
/-- A bit more ahead of a flow, or one less: no symbols. -/
theorem fdc_more {C : List (Nat × Nat × Nat)} {y : Nat} (h : Mch C y) {ss : List Nat} (hs : ∀ x ∈ ss, Sy C y x) (b : Bool) : fdc C y (b :: fbs C y ss) ss.length = none := by
  have := fdx_fbs h hs [b]
  rw [List.singleton_append] at this
  rw [fdc, this]
theorem fdc_less {C : List (Nat × Nat × Nat)} {y : Nat} (h : Mch C y) {ss : List Nat} (hs : ∀ x ∈ ss, Sy C y x) {b : Bool} {L : List Bool} (hL : fbs C y ss = b :: L) : fdc C y L ss.length = none := by
  have h1 := fdx_fbs h hs []
  rw [List.nil_append, hL] at h1
  unfold fdc
  cases h2 : fdx C y L ss.length with
  | none => rfl
  | some p =>
    obtain ⟨o, R⟩ := p
    have h3 := fdx_pre [b] h2
    rw [List.singleton_append, h1] at h3
    injection h3 with h3
    injection h3 with _ h3
    simp at h3

/-- What Decode returns: the error and the symbols. -/
def fdR (y : Int) (l : List Int) (D : List UInt8) (n : Int) : Nat × List Nat :=
  if vt y l 256 9 = false then (13, []) else if n < 0 ∨ 131072 < n then (2, []) else match endOf D with
    | none => (14, [])
    | some e => match fdc (cls y.toNat l (spl (2 ^ y.toNat) l)) y.toNat ((unp D).take e) n.toNat with
      | none => (14, [])
      | some o => (0, o)

end Go.Proofs.Ytgokbpnikgbfgaa

namespace Go.Proofs.Ytgokbpnikgbfgaa
open Go.RowKit Go.Shelf

theorem halves {n : Nat} (hn : 1 ≤ n) : ∀ X : Nat, n ≤ X → ∃ j, n ≤ X / 2 ^ j ∧ X / 2 ^ j < 2 * n := by
  intro X
  induction X using Nat.strongRecOn with
  | ind X ih =>
    intro h
    rcases Nat.lt_or_ge X (2 * n) with h1 | h1
    · exact ⟨0, by simpa using h, by simpa using h1⟩
    · obtain ⟨j, h2, h3⟩ := ih (X / 2) (by omega) (by omega)
      refine ⟨j + 1, ?_, ?_⟩
      · rw [Nat.pow_succ', ← Nat.div_div_eq_div_mul]; exact h2
      · rw [Nat.pow_succ', ← Nat.div_div_eq_div_mul]; exact h3
section
variable {y s : Nat} {l : List Int}
theorem nos_le (hv : Vt y l) (hse : 2 ^ y = s) (x : Nat) : nos l x ≤ s := by
  rw [hv.nos, ← hse]
  have := List.count_le_length (a := x) (l := spl (2 ^ y) l)
  rwa [spl_len] at this
theorem span_of (hv : Vt y l) (hse : 2 ^ y = s) {i : Nat} {x p q : Nat} (hc : (cls y l (spl s l))[i]? = some (x, p, q)) : q + 2 ^ p ≤ s ∧ p ≤ 9 ∧ x ≤ 256 ∧ x < l.length ∧ 1 ≤ nos l x := by
  have hi := (List.getElem?_eq_some_iff.1 hc).1
  rw [cls_s hv hse, ← hse] at hi
  rw [← hse] at hc
  obtain ⟨x', n, X, b1, b2, b3, b4, b5, b6⟩ := vt_cell hv hi
  rw [b4] at hc
  injection hc with hc
  injection hc with hx hc
  injection hc with hp hq
  subst hx hp hq
  have h1 := hv.len
  have h2 := hv.log
  have h3 := bts_le y X
  have h4 := b5.fits
  have h5 := b5.pos
  exact ⟨by omega, by omega, by omega, b6, by omega⟩
end

end Go.Proofs.Ytgokbpnikgbfgaa

namespace Go.Proofs.Ytgokbpnikgbfgaa
open Go.RowKit Go.Shelf

section
variable {y s : Nat} {l m : List Int}
theorem back_pr (hv : Vt y l) (hse : 2 ^ y = s) {x t : Nat} (hx : 1 ≤ nos l x) (ht : t < s) : ∃ i p q, i < s ∧ (cls y l (spl s l))[i]? = some (x, p, q) ∧ p ≤ 9 ∧ q ≤ t ∧ t < q + 2 ^ p ∧ pra (cls y l (spl s l)) (t : Int) (x : Int) = (i, t - q, p) ∧ pre (cls y l (spl s l)) (t : Int) (x : Int) = 0 := by
  have hle := nos_le hv hse x
  obtain ⟨j, h1, h2⟩ := halves hx (s + t) (by omega)
  obtain ⟨i, c, r1, r2, r3, r4, r5, r6, r7, r8⟩ := vt_place hv (x := x) (t := t) (j := j) hx (by rw [hse]; exact ht) (by rw [hse]) h1 h2
  obtain ⟨x', p, q⟩ := c
  simp only at r4 r5 r6 r7
  subst r4
  rw [hse] at r2 r3 r8
  refine ⟨i, p, q, r2, r3, r5, r6, r7, ?_, ?_⟩
  · unfold pra
    rw [cls_s hv hse, if_neg (by omega), r8]
    simp only [r3, Option.getD_some]
    have e : ((t : Int) - (q : Int)).toNat = t - q := by omega
    rw [e]
  · unfold pre
    rw [cls_s hv hse, if_neg (by omega), r8]
    rfl
end

end Go.Proofs.Ytgokbpnikgbfgaa

namespace Go.Proofs.Ytgokbpnikgbfgaa
open Go.RowKit Go.Shelf
open Bt (bitsOf val unp pack closed endOf bitsOf_len)

/-- The cells of a table. -/
def CC (y : Nat) (l : List Int) : List (Nat × Nat × Nat) := cls y l (spl (2 ^ y) l)
section
variable {y : Nat} {l : List Int}
theorem vt_mch (hv : Vt y l) : Mch (CC y l) y := by
  refine ⟨vt_clen hv, fun i x p q hc => ?_⟩
  have h := span_of hv rfl hc
  refine ⟨?_, h.1⟩
  have h2 : 2 ^ p ≤ 2 ^ y := by omega
  exact (Nat.pow_le_pow_iff_right (by decide)).1 h2
theorem vt_sy (hv : Vt y l) {x : Nat} (hx : 1 ≤ nos l x) : Sy (CC y l) y x := by
  unfold CC
  refine ⟨?_, fun t ht => ?_⟩
  · obtain ⟨i, _, hf⟩ := vt_low hv hx
    obtain ⟨⟨x', p, q⟩, hc, hp, _⟩ := fst_get hf
    have e : lwa (cls y l (spl (2 ^ y) l)) (x : Int) = i := by unfold lwa; rw [hf]; rfl
    have ex : x' = x := by
      unfold isz at hp
      simp only [decide_eq_true_iff] at hp
      omega
    subst ex
    exact ⟨p, q, by rw [e]; exact hc⟩
  · obtain ⟨i, p, q, h1, h2, h3, h4, h5, h6, h7⟩ := back_pr hv rfl hx ht
    exact ⟨i, t - q, p, q, h6, h2, by omega, by omega⟩
theorem sy_of (hv : Vt y l) {x : Nat} (h : ∃ (i p q : Nat), (CC y l)[i]? = some (x, p, q)) : 1 ≤ nos l x ∧ x < l.length ∧ x ≤ 256 := by
  obtain ⟨i, p, q, hc⟩ := h
  have h := span_of hv rfl hc
  exact ⟨h.2.2.2.2, h.2.2.2.1, h.2.2.1⟩
theorem hsb_of {x : Nat} (hx : 1 ≤ nos l x) : hsb l (x : Int) = true := by
  unfold nos at hx
  unfold hsb
  rw [decide_eq_true (by omega), Int.toNat_natCast, Bool.true_and]
  cases hu : l[x]? with
  | none => simp [hu] at hx
  | some u =>
    rw [hu] at hx
    simp only at hx ⊢
    refine decide_eq_true ?_
    rintro rfl
    have : sts 0 = 0 := rfl
    omega
end

/-- All symbols have states. -/
def hasA (l : List Int) (m : List Int) : Bool := m.all (hsb l)
theorem hasA_nat {y : Nat} {l m : List Int} (hv : Vt y l) (h : hasA l m = true) : ∃ ss : List Nat, m = ss.map (fun n : Nat => (n : Int)) ∧ (∀ x ∈ ss, 1 ≤ nos l x) ∧ ∀ x ∈ ss, x ≤ 256 := by
  induction m with
  | nil => exact ⟨[], rfl, (fun x hx => by cases hx), (fun x hx => by cases hx)⟩
  | cons z m ih =>
    unfold hasA at h
    rw [List.all_cons, Bool.and_eq_true] at h
    obtain ⟨ss, e, h1, h2⟩ := ih h.2
    obtain ⟨x, rfl, hx, hl⟩ := hsb_pos hv h.1
    have hlen := hv.len
    refine ⟨x :: ss, by rw [List.map_cons, e], fun u hu => ?_, fun u hu => ?_⟩
    · rcases List.mem_cons.1 hu with rfl | hu
      · exact hx
      · exact h1 u hu
    · rcases List.mem_cons.1 hu with rfl | hu
      · omega
      · exact h2 u hu
theorem hasA_of {l : List Int} {ss : List Nat} (h : ∀ x ∈ ss, 1 ≤ nos l x) : hasA l (ss.map (fun n : Nat => (n : Int))) = true := by
  unfold hasA
  rw [List.all_eq_true]
  intro z hz
  obtain ⟨x, hx, rfl⟩ := List.mem_map.1 hz
  exact hsb_of (h x hx)
theorem nat_inj {ss tt : List Nat} (h : ss.map (fun n : Nat => (n : Int)) = tt.map (fun n : Nat => (n : Int))) : ss = tt :=
  (List.map_inj_right (fun a b e => by exact Int.ofNat.inj e)).1 h

/-- The bytes of a flow. -/
def fby (y : Nat) (l : List Int) (ss : List Nat) : List UInt8 := closed (fbs (CC y l) y ss)

theorem fdR_bad {y : Int} {l : List Int} (D : List UInt8) (n : Int) (h : vt y l 256 9 = false) : fdR y l D n = (13, []) := by rw [fdR, if_pos h]
theorem fdR_arg {y : Int} {l : List Int} (D : List UInt8) {n : Int} (h : vt y l 256 9 = true) (hn : n < 0 ∨ 131072 < n) : fdR y l D n = (2, []) := by rw [fdR, if_neg (by rw [h]; decide), if_pos hn]
theorem fdR_ok {y : Nat} {l : List Int} (D : List UInt8) {n : Nat} (h : Vt y l) (hn : n ≤ 131072) : fdR (y : Int) l D (n : Int) = match endOf D with
    | none => (14, [])
    | some e => match fdc (CC y l) y ((unp D).take e) n with
      | none => (14, [])
      | some o => (0, o) := by
  have hv : vt (y : Int) l 256 9 = true := vt_iff.2 ⟨y, rfl, h⟩
  rw [fdR, if_neg (by rw [hv]; decide), if_neg (by omega), Int.toNat_natCast, Int.toNat_natCast]
  rfl

theorem unp_closed (L : List Bool) : (unp (closed L)).take L.length = L := by
  obtain ⟨z, hz, hz2, _⟩ := Bt.unp_pack (L ++ [true])
  rw [closed, hz, List.append_assoc, List.take_left]
/-- What Decode returns of the bytes of a closed stream. -/
theorem fdR_closed {y : Nat} {l : List Int} (L : List Bool) {n : Nat} (h : Vt y l) (hn : n ≤ 131072) : fdR (y : Int) l (closed L) (n : Int) = match fdc (CC y l) y L n with
      | none => (14, [])
      | some o => (0, o) := by
  rw [fdR_ok _ h hn, Bt.endOf_closed]
  dsimp only
  rw [unp_closed]

section
variable {y : Nat} {l : List Int} {ss : List Nat}
theorem sy_all (hv : Vt y l) (hs : ∀ x ∈ ss, 1 ≤ nos l x) : ∀ x ∈ ss, Sy (CC y l) y x := fun x hx => vt_sy hv (hs x hx)
/-- Decode of Encode. -/
theorem fdR_back (hv : Vt y l) (hs : ∀ x ∈ ss, 1 ≤ nos l x) (hn : ss.length ≤ 131072) : fdR (y : Int) l (fby y l ss) (ss.length : Int) = (0, ss) := by
  rw [fby, fdR_closed _ hv hn, fdc_fbs (vt_mch hv) (sy_all hv hs)]
theorem fdR_more (hv : Vt y l) (hs : ∀ x ∈ ss, 1 ≤ nos l x) (hn : ss.length ≤ 131072) (b : Bool) : fdR (y : Int) l (closed (b :: fbs (CC y l) y ss)) (ss.length : Int) = (14, []) := by
  rw [fdR_closed _ hv hn, fdc_more (vt_mch hv) (sy_all hv hs)]
theorem fdR_less (hv : Vt y l) (hs : ∀ x ∈ ss, 1 ≤ nos l x) (hn : ss.length ≤ 131072) {b : Bool} {L : List Bool} (hL : fbs (CC y l) y ss = b :: L) : fdR (y : Int) l (closed L) (ss.length : Int) = (14, []) := by
  rw [fdR_closed _ hv hn, fdc_less (vt_mch hv) (sy_all hv hs) hL]
theorem fbs_le (hv : Vt y l) (hs : ∀ x ∈ ss, 1 ≤ nos l x) : (fbs (CC y l) y ss).length ≤ y * ss.length := fbs_len (vt_mch hv) (sy_all hv hs)
/-- Different symbols, different flows. -/
theorem fby_inj {tt : List Nat} (hv : Vt y l) (hs : ∀ x ∈ ss, 1 ≤ nos l x) (ht : ∀ x ∈ tt, 1 ≤ nos l x) (hl : ss.length = tt.length) (hn : ss.length ≤ 131072) (h : fby y l ss = fby y l tt) : ss = tt := by
  have h1 := fdR_back hv hs hn
  have h2 := fdR_back hv ht (by omega)
  rw [h, hl, h2] at h1
  injection h1 with _ h1
  exact h1.symm
/-- What has been decoded are symbols with states. -/
theorem fdR_syms {D : List UInt8} {n : Int} {y' : Int} {o : List Nat} (h : fdR y' l D n = (0, o)) : ∃ y : Nat, y' = (y : Int) ∧ Vt y l ∧ (o.length : Int) = n ∧ o.length ≤ 131072 ∧ (∀ x ∈ o, 1 ≤ nos l x) ∧ ∀ x ∈ o, x ≤ 256 := by
  cases hv : vt y' l 256 9 with
  | false => rw [fdR_bad D n hv] at h; cases h
  | true =>
    obtain ⟨y, rfl, hvt⟩ := vt_iff.1 hv
    by_cases hn : n < 0 ∨ 131072 < n
    · rw [fdR_arg D hv hn] at h; cases h
    · obtain ⟨k, rfl⟩ : ∃ k : Nat, n = (k : Int) := ⟨n.toNat, by omega⟩
      rw [fdR_ok D hvt (by omega)] at h
      split at h
      · cases h
      · split at h
        · cases h
        · rename_i o' ho
          injection h with _ h
          subst h
          unfold fdc at ho
          split at ho
          · rename_i o2 hx
            cases ho
            obtain ⟨e1, e2⟩ := fdx_syms (vt_mch hvt) hx
            refine ⟨y, rfl, hvt, by rw [e1], by omega, fun x hx => (sy_of hvt (e2 x hx)).1, fun x hx => (sy_of hvt (e2 x hx)).2.2⟩
          · cases ho
theorem fdR_err {D : List UInt8} {n : Int} {y' : Int} {e : Nat} {o : List Nat} (h : fdR y' l D n = (e, o)) (he : e ≠ 0) : o = [] ∧ (e = 13 ∨ e = 2 ∨ e = 14) := by
  unfold fdR at h
  split at h
  · cases h; exact ⟨rfl, .inl rfl⟩
  · split at h
    · cases h; exact ⟨rfl, .inr (.inl rfl)⟩
    · split at h
      · cases h; exact ⟨rfl, .inr (.inr rfl)⟩
      · split at h
        · cases h; exact ⟨rfl, .inr (.inr rfl)⟩
        · cases h; exact absurd rfl he
end

/-- What Encode returns: the error and the bytes. -/
def feR (y : Int) (l : List Int) (m : List Int) : Nat × List UInt8 :=
  if vt y l 256 9 = false then (13, []) else if 131072 < m.length ∨ hasA l m = false then (2, []) else (0, fby y.toNat l (m.map Int.toNat))
theorem feR_bad {y : Int} {l : List Int} (m : List Int) (h : vt y l 256 9 = false) : feR y l m = (13, []) := by rw [feR, if_pos h]
theorem feR_arg {y : Int} {l : List Int} {m : List Int} (h : vt y l 256 9 = true) (hm : 131072 < m.length ∨ hasA l m = false) : feR y l m = (2, []) := by rw [feR, if_neg (by rw [h]; decide), if_pos hm]
theorem feR_ok {y : Nat} {l : List Int} {ss : List Nat} (h : Vt y l) (hs : ∀ x ∈ ss, 1 ≤ nos l x) (hn : ss.length ≤ 131072) : feR (y : Int) l (ss.map (fun n : Nat => (n : Int))) = (0, fby y l ss) := by
  have hv : vt (y : Int) l 256 9 = true := vt_iff.2 ⟨y, rfl, h⟩
  rw [feR, if_neg (by rw [hv]; decide), if_neg (by rw [hasA_of hs, List.length_map]; simp; omega), Int.toNat_natCast, List.map_map]
  congr 2
  conv => rhs; rw [← List.map_id ss]
  exact List.map_congr_left (fun x _ => by simp)

end Go.Proofs.Ytgokbpnikgbfgaa
