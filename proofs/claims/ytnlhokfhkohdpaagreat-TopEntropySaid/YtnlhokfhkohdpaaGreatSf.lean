/-
  What Cell, Lowest, Predecessor and Next of package states return at any argument. Nothing that was there has changed. Conditions: those that each theorem states.
  What the reference's Of does: it returns the cell of each state of a valid table, in new memory, or the error. Nothing that was there has changed. Condition: a slice can hold the norms.
  What Cells, Has, First and Ahead of the reference do, and begin and step of the laws. Nothing that was there has changed. Conditions: those that each theorem states.
  Flows as mathematics: what is read from the end of some bits, what the symbols' bits are, and that reading inverts them. Conditions: those that each theorem states.
  The mathematics of the predecessors: each state has one for each symbol with states, and the other way round. Conditions: those that each theorem states.
  The mathematics of encoding symbols from the last to the first: the states and the bits. Conditions: those that each theorem states.
  The cells of a valid table are a machine whose symbols have predecessors. Conditions: those that each theorem states.
-/
import Derived.Test.YtnlhokfhkohdpaaGreatSe
import Derived.Deep.RegionHeld3
import Derived.Deep.RegionLaw
import Derived.Test.YtnlhokfhkohdpaaGreatQb
namespace Go.Proofs.YtnlhokfhkohdpaaGreat
open Go.RowKit Go.Shelf

section
variable {y s : Nat} {l : List Int}
theorem cls_s (hv : Vt y l) (hse : 2 ^ y = s) : (cls y l (spl s l)).length = s := by rw [← hse]; exact vt_clen hv
theorem cle_bad {C : List (Nat × Nat × Nat)} {z : Int} (h : z < 0 ∨ (C.length : Int) ≤ z) : cle C z = 21 ∧ cla C z = (0, 0, 0) := by
  refine ⟨by unfold cle; rw [if_pos h], ?_⟩
  unfold cla
  split
  · rfl
  · rw [List.getElem?_eq_none (by omega)]; rfl
theorem cle_ok {C : List (Nat × Nat × Nat)} {t : Nat} {c : Nat × Nat × Nat} (h : C[t]? = some c) : cle C (t : Int) = 0 ∧ cla C (t : Int) = c := by
  have hl := (List.getElem?_eq_some_iff.1 h).1
  refine ⟨by unfold cle; rw [if_neg (by omega)], ?_⟩
  unfold cla
  rw [if_neg (by omega), Int.toNat_natCast, h]; rfl
end

theorem addr_zero (a : Addr) : a.add 0 = a := by unfold Addr.add; rw [if_pos rfl]
theorem rn_at {w : World} {ad : Addr} {k : List Nat} {j i : Nat} (h : Rn w (some ad) k) (hj : k[j]? = some i) : w.cell? (ad.add j) = some (.int .i64 (i : Int)) := by
  obtain ⟨ad', e, hc⟩ := h j (nv i) (by rw [List.getElem?_map, hj]; rfl)
  injection e with e
  subst e
  exact hc
/-- What Cell returns. -/
def Tc (C : List (Nat × Nat × Nat)) (z : Int) : Value := .tuple #[cev ((cla C z).1 : Int) ((cla C z).2.1 : Int) ((cla C z).2.2 : Int), .int .i64 (cle C z)]
/-- What Lowest returns. -/
def Tl (C : List (Nat × Nat × Nat)) (z : Int) : Value := .tuple #[.int .i64 (lwa C z : Int), .int .i64 (lwe C z)]
set_option maxRecDepth 100000 in
set_option maxHeartbeats 2000000 in
theorem lowest_any (w : World) {B b gc go y s N : Nat} {l : List Int} {V : Nat → Value} (h : Cd w B b gc go y s N l V) (hN : l.length = N) (hv : Vt y l) (hse : 2 ^ y = s) (z : Int) :
    Calls Tryz.prog 68 #[.pointer (some ⟨b, 0, none⟩), .int .i64 z] w fun e w' => e = .returned (Tl (cls y l (spl s l)) z) ∧ w' = w := by
  by_cases hz : z < 0 ∨ nos l z.toNat = 0
  · have OW := Lib.hid (own_bad w h hN hv hse z hz)
    have HE : Hid (Tl (cls y l (spl s l)) z = .tuple #[.int .i64 0, .int .i64 2]) := Lib.hid (by
      have e : (cls y l (spl s l)).findIdx? (isz z) = none := fst_none (fun j d hd => by
        rw [← hse] at hd
        have := vt_gone hv hz hd
        unfold isz
        exact decide_eq_false this)
      unfold Tl lwa lwe
      rw [e]; rfl)
    rw [HE.out]
    clear h hN hv hse hz HE
    go_enter Tryz.func68, Tryz.ntmps68
    go_wp2_with (go_at_call 92; refine OW.out.mono ?_; rintro e w1 ⟨rfl, rfl⟩)
    go_ret2
    exact ⟨rfl, rfl⟩
  · obtain ⟨x, rfl⟩ : ∃ x : Nat, z = (x : Int) := ⟨z.toNat, by omega⟩
    rw [Int.toNat_natCast] at hz
    obtain ⟨n, hn⟩ : ∃ n, nos l x = n := ⟨_, rfl⟩
    have hn1 : 1 ≤ n := by omega
    have OW := Lib.hid (own_ok w h hN hv hse x hn hn1)
    obtain ⟨i, hi, hf⟩ := vt_low hv (x := x) (by omega)
    rw [hse] at hi hf
    have HE : Hid (Tl (cls y l (spl s l)) (x : Int) = .tuple #[.int .i64 (i : Int), .int .i64 0]) := Lib.hid (by
      unfold Tl lwa lwe
      rw [hf]; rfl)
    rw [HE.out]
    have HI : Hid ((pls 0 (spl s l) (x : Int))[0]? = some i) := Lib.hid hi
    clear h hN hv hse hz HE hf hi hn
    go_enter Tryz.func68, Tryz.ntmps68
    go_wp2_with (go_at_call 92; refine OW.out.mono ?_; rintro e w1 ⟨ad, c, rfl, hR, rfl⟩; have ci := rn_at hR HI.out; rw [addr_zero] at ci; clear hR)
    go_ret2
    exact ⟨rfl, rfl⟩

/-- What Predecessor returns. -/
def Tp (C : List (Nat × Nat × Nat)) (t z : Int) : Value := .tuple #[stv ((pra C t z).1 : Int) ((pra C t z).2.1 : Int) ((pra C t z).2.2 : Int), .int .i64 (pre C t z)]
set_option maxRecDepth 100000 in
set_option maxHeartbeats 2000000 in
theorem predecessor_far (w : World) {B b gc go y s N : Nat} {l : List Int} {V : Nat → Value} (h : Cd w B b gc go y s N l V) (hv : Vt y l) (hse : 2 ^ y = s) (t z : Int) (ht : t < 0 ∨ (s : Int) ≤ t) :
    Calls Tryz.prog 69 #[.pointer (some ⟨b, 0, none⟩), .int .i64 t, .int .i64 z] w fun e w' => e = .returned (Tp (cls y l (spl s l)) t z) ∧ Below w.heap.size w w' := by
  have hs1 : 1 ≤ s := by rw [← hse]; exact Nat.one_le_two_pow
  have hC := cls_s hv hse
  have t1 := Sb.new w 0 0 0
  have b1 := below_new w (.cells #[.int .i64 0, .int .u64 0, .int .i64 0] 81)
  obtain ⟨w1, hw1⟩ : ∃ w1, w.alloc (.cells #[.int .i64 0, .int .u64 0, .int .i64 0] 81) = w1 := ⟨_, rfl⟩
  rw [hw1] at t1 b1
  have CH := chk_any w1 (h.blk.below b1) (by omega) t
  rw [if_pos ht] at CH
  have CH := Lib.hid CH
  have HE : Hid (Tp (cls y l (spl s l)) t z = .tuple #[stv 0 0 0, .int .i64 21]) := Lib.hid (by
    unfold Tp pra pre
    rw [hC, if_pos ht, if_pos ht]; rfl)
  rw [HE.out]
  obtain ⟨Wa, Wb, Wc, c0, f0, hWa, c1, f1, hWb, c2, f2, hWc, hT, hB, _⟩ := set_step t1 0 0 0 b1 (Nat.le_refl _)
  have FN := Lib.hid (And.intro hT hB)
  clear h hv hse t1 b1 ht hT hB HE hC
  go_enter Tryz.func69, Tryz.ntmps69
  go_wp2_with (go_at_call 93; refine CH.out.mono ?_; rintro e w1 ⟨rfl, rfl⟩)
  refine bodyPost_ret (results_cell2 rfl rfl (FN.out).1.load) rfl ?_
  exact ⟨rfl, FN.out.2⟩

set_option maxRecDepth 100000 in
set_option maxHeartbeats 2000000 in
theorem predecessor_bad (w : World) {B b gc go y s N : Nat} {l : List Int} {V : Nat → Value} (h : Cd w B b gc go y s N l V) (hN : l.length = N) (hv : Vt y l) (hse : 2 ^ y = s) (t z : Int) (ht : ¬ (t < 0 ∨ (s : Int) ≤ t)) (hz : z < 0 ∨ nos l z.toNat = 0) :
    Calls Tryz.prog 69 #[.pointer (some ⟨b, 0, none⟩), .int .i64 t, .int .i64 z] w fun e w' => e = .returned (Tp (cls y l (spl s l)) t z) ∧ Below w.heap.size w w' := by
  have hs1 : 1 ≤ s := by rw [← hse]; exact Nat.one_le_two_pow
  have hC := cls_s hv hse
  have t1 := Sb.new w 0 0 0
  have b1 := below_new w (.cells #[.int .i64 0, .int .u64 0, .int .i64 0] 81)
  obtain ⟨w1, hw1⟩ : ∃ w1, w.alloc (.cells #[.int .i64 0, .int .u64 0, .int .i64 0] 81) = w1 := ⟨_, rfl⟩
  rw [hw1] at t1 b1
  have h1 := h.same (W' := w1) (fun k _ hk => b1.block k hk)
  have CH := chk_any w1 h1.blk (by omega) t
  rw [if_neg ht] at CH
  have CH := Lib.hid CH
  have OW := Lib.hid (own_bad w1 h1 hN hv hse z hz)
  have HE : Hid (Tp (cls y l (spl s l)) t z = .tuple #[stv 0 0 0, .int .i64 2]) := Lib.hid (by
    have e : (cls y l (spl s l)).findIdx? (hit z t) = none := fst_none (fun j d hd => by
      rw [← hse] at hd
      exact hit_no (vt_gone hv hz hd))
    unfold Tp pra pre
    rw [hC, if_neg ht, if_neg ht, e]; rfl)
  rw [HE.out]
  obtain ⟨Wa, Wb, Wc, c0, f0, hWa, c1, f1, hWb, c2, f2, hWc, hT, hB, _⟩ := set_step t1 0 0 0 b1 (Nat.le_refl _)
  have FN := Lib.hid (And.intro hT hB)
  clear h h1 hv hse t1 b1 ht hz hT hB HE hC
  go_enter Tryz.func69, Tryz.ntmps69
  go_wp2_with (first
    | (go_at_call 93; refine CH.out.mono ?_; rintro e w1 ⟨rfl, rfl⟩)
    | (go_at_call 92; refine OW.out.mono ?_; rintro e w1 ⟨rfl, rfl⟩))
  refine bodyPost_ret (results_cell2 rfl rfl (FN.out).1.load) rfl ?_
  exact ⟨rfl, FN.out.2⟩

set_option maxRecDepth 100000 in
set_option maxHeartbeats 4000000 in
theorem predecessor_ok (w : World) {B b gc go y s N : Nat} {l : List Int} {V : Nat → Value} (h : Cd w B b gc go y s N l V) (hN : l.length = N) (hv : Vt y l) (hse : 2 ^ y = s) (t x : Nat) (ht : t < s) (hz : 1 ≤ nos l x) :
    Calls Tryz.prog 69 #[.pointer (some ⟨b, 0, none⟩), .int .i64 (t : Int), .int .i64 (x : Int)] w fun e w' => e = .returned (Tp (cls y l (spl s l)) (t : Int) (x : Int)) ∧ Below w.heap.size w w' := by
  have hs1 : 1 ≤ s := by rw [← hse]; exact Nat.one_le_two_pow
  have hs5 : s ≤ 512 := by rw [← hse]; exact hv.size
  have hC := cls_s hv hse
  obtain ⟨n, hn⟩ : ∃ n, nos l x = n := ⟨_, rfl⟩
  have hn1 : 1 ≤ n := by omega
  have hns : n ≤ s := by
    rw [← hn, hv.nos, ← hse]
    have := List.count_le_length (a := x) (l := spl (2 ^ y) l)
    rwa [spl_len] at this
  have t1 := Sb.new w 0 0 0
  have b1 := below_new w (.cells #[.int .i64 0, .int .u64 0, .int .i64 0] 81)
  obtain ⟨w1, hw1⟩ : ∃ w1, w.alloc (.cells #[.int .i64 0, .int .u64 0, .int .i64 0] 81) = w1 := ⟨_, rfl⟩
  rw [hw1] at t1 b1
  have h1 := h.same (W' := w1) (fun k _ hk => b1.block k hk)
  have CH := chk_any w1 h1.blk (by omega) (t : Int)
  rw [if_neg (by omega)] at CH
  have CH := Lib.hid CH
  have OW := Lib.hid (own_ok w1 h1 hN hv hse x hn hn1)
  obtain ⟨S, hS⟩ : ∃ S, s + t = S := ⟨_, rfl⟩
  have PL : Hid (∀ W, Calls Tryz.prog 94 #[.int .i64 (S : Int), .int .i64 (n : Int)] W fun e w' => ∃ k i c, e = .returned (.int .i64 ((k : Nat) : Int)) ∧ k < n ∧ (pls 0 (spl s l) (x : Int))[k]? = some i ∧ i < s ∧ (cls y l (spl s l))[i]? = some c ∧ c.1 = x ∧ c.2.1 ≤ 9 ∧ c.2.2 ≤ t ∧ Hid (t < c.2.2 + 2 ^ c.2.1 ∧ (cls y l (spl s l)).findIdx? (hit (x : Int) (t : Int)) = some i) ∧ w' = W) := Lib.hid (fun W => by
    refine (place_ok W S n hn1 (by omega) (by omega)).mono ?_
    rintro e w' ⟨X, rfl, ⟨j, hj⟩, q1, q2, rfl⟩
    obtain ⟨i, c, r1, r2, r3, r4, r5, r6, r7, r8⟩ := vt_place hv (x := x) (t := t) (j := j) (X := X) hz (by rw [hse]; exact ht) (by rw [hse, hS]; exact hj) (by omega) (by omega)
    rw [hse, hn] at r1
    rw [hse] at r2 r3 r8
    exact ⟨X - n, i, c, rfl, by omega, r1, r2, r3, r4, r5, r6, Lib.hid ⟨r7, r8⟩, rfl⟩)
  have HE : Hid (∀ (i : Nat) (c : Nat × Nat × Nat), (cls y l (spl s l))[i]? = some c → c.2.2 ≤ t → (cls y l (spl s l)).findIdx? (hit (x : Int) (t : Int)) = some i → Tp (cls y l (spl s l)) (t : Int) (x : Int) = .tuple #[stv (i : Int) ((t - c.2.2 : Nat) : Int) (c.2.1 : Int), .int .i64 0]) := Lib.hid (fun i c hc hct hf => by
    unfold Tp pra pre
    rw [hC, if_neg (by omega), if_neg (by omega), hf]
    simp only [hc, Option.getD_some, Option.isSome_some, if_true]
    have e : ((t : Int) - (c.2.2 : Int)).toNat = t - c.2.2 := by omega
    rw [e])
  have hcel := Lib.hid (ro_below h.cel b1)
  have d1 := h1.blk.c1
  have CE := Ce.new w1 0 0 0
  have b2 := below_on b1 (Nat.le_refl _) (below_new w1 (.cells #[.int .i64 0, .int .i64 0, .int .i64 0] 139))
  have lw := t1.lt
  have T2 := t1.below (below_new w1 (.cells #[.int .i64 0, .int .i64 0, .int .i64 0] 139))
  obtain ⟨w2, hw2⟩ : ∃ w2, w1.alloc (.cells #[.int .i64 0, .int .i64 0, .int .i64 0] 139) = w2 := ⟨_, rfl⟩
  rw [hw2] at CE b2 T2
  have FN : Hid (∀ (i x p q v : Nat), ∃ Wa Wb Wc Wd We Wf,
      w2.cell? ⟨w1.heap.size, 0, none⟩ = some (.int .i64 0) ∧ w2.frozen? ⟨w1.heap.size, 0, none⟩ = false ∧ w2.setCell ⟨w1.heap.size, 0, none⟩ (.int .i64 (x : Int)) = Wa ∧
      Wa.cell? ⟨w1.heap.size, 1, none⟩ = some (.int .i64 0) ∧ Wa.frozen? ⟨w1.heap.size, 1, none⟩ = false ∧ Wa.setCell ⟨w1.heap.size, 1, none⟩ (.int .i64 (p : Int)) = Wb ∧
      Wb.cell? ⟨w1.heap.size, 2, none⟩ = some (.int .i64 0) ∧ Wb.frozen? ⟨w1.heap.size, 2, none⟩ = false ∧ Wb.setCell ⟨w1.heap.size, 2, none⟩ (.int .i64 (q : Int)) = Wc ∧
      Wc.cell? ⟨w1.heap.size, 1, none⟩ = some (.int .i64 (p : Int)) ∧ Wc.cell? ⟨w1.heap.size, 2, none⟩ = some (.int .i64 (q : Int)) ∧
      Wc.cell? ⟨w.heap.size, 0, none⟩ = some (.int .i64 0) ∧ Wc.frozen? ⟨w.heap.size, 0, none⟩ = false ∧ Wc.setCell ⟨w.heap.size, 0, none⟩ (.int .i64 (i : Int)) = Wd ∧
      Wd.cell? ⟨w.heap.size, 1, none⟩ = some (.int .u64 0) ∧ Wd.frozen? ⟨w.heap.size, 1, none⟩ = false ∧ Wd.setCell ⟨w.heap.size, 1, none⟩ (.int .u64 (v : Int)) = We ∧
      We.cell? ⟨w.heap.size, 2, none⟩ = some (.int .i64 0) ∧ We.frozen? ⟨w.heap.size, 2, none⟩ = false ∧ We.setCell ⟨w.heap.size, 2, none⟩ (.int .i64 (p : Int)) = Wf ∧
      Sb Wf w.heap.size i v p ∧ Below w.heap.size w Wf) := Lib.hid (fun i x p q v => by
    obtain ⟨Wa, Wb, Wc, c0, f0, hWa, c1, f1, hWb, c2, f2, hWc, hT, hB, hK⟩ := set_cell CE (x : Int) (p : Int) (q : Int) b2 (by have := b1.size; exact this)
    have T3 := T2.same (hK w.heap.size (by omega))
    obtain ⟨Wd, We, Wf, g0, k0, hWd, g1, k1, hWe, g2, k2, hWf, hT', hB', _⟩ := set_step T3 (i : Int) (v : Int) (p : Int) hB (Nat.le_refl _)
    exact ⟨Wa, Wb, Wc, Wd, We, Wf, c0, f0, hWa, c1, f1, hWb, c2, f2, hWc, hT.c1, hT.c2, g0, k0, hWd, g1, k1, hWe, g2, k2, hWf, hT', hB'⟩)
  have est : (s : Int) + (t : Int) = (S : Int) := by omega
  have hS5 : S ≤ 1024 := by omega
  clear h h1 hN hv hse t1 b1 hz hC b2 CE T2 hn hS
  go_enter Tryz.func69, Tryz.ntmps69
  go_wp2_with (first
    | (go_at_call 93; refine CH.out.mono ?_; rintro e w1 ⟨rfl, rfl⟩)
    | (go_at_call 92; refine OW.out.mono ?_; rintro e w1 ⟨ad, cc, rfl, hR, rfl⟩; have HR := Lib.hid hR; clear hR)
    | (go_at_call 94; refine (PL.out _).mono ?_; rintro e w1 ⟨k, i, ⟨x', p, q⟩, rfl, hkn, hpk, his, hci, rfl, hp9, hqt, hH, rfl⟩; simp only at hp9 hqt; have ck := rn_at HR.out hpk; obtain ⟨a0, a1, a2⟩ := row_at hcel.out hci; simp only [nw] at a0 a1 a2; obtain ⟨v, hv⟩ : ∃ v, t - q = v := ⟨_, rfl⟩; obtain ⟨Wa, Wb, Wc, Wd, We, Wf, c0, f0, hWa, c1, f1, hWb, c2, f2, hWc, e1, e2, g0, k0, hWd, g1, k1, hWe, g2, k2, hWf, hT, hB⟩ := FN.out i x' p q v; have ev : (t : Int) - (q : Int) = (v : Int) := (by omega); have hvb : v ≤ 1024 := (by omega); have HF := Lib.hid (And.intro hT hB); have HX : Hid (Tp (cls y l (spl s l)) (t : Int) (x' : Int) = .tuple #[stv (i : Int) (v : Int) (p : Int), .int .i64 0]) := Lib.hid (by rw [← hv]; exact HE.out i (x', p, q) hci hqt hH.out.2); have wi : IntKind.i64.wrap (i : Int) = (i : Int) := IntWalk.i64_in _ (by omega); have wk : IntKind.i64.wrap (k : Int) = (k : Int) := IntWalk.i64_in _ (by omega); clear hT hB hv hpk hci hqt HE FN HR))
  rw [HX.out]
  refine bodyPost_ret (results_cell2 rfl rfl (HF.out).1.load) rfl ?_
  exact ⟨rfl, HF.out.2⟩
/-- Predecessor at any argument. -/
theorem predecessor_any (w : World) {B b gc go y s N : Nat} {l : List Int} {V : Nat → Value} (h : Cd w B b gc go y s N l V) (hN : l.length = N) (hv : Vt y l) (hse : 2 ^ y = s) (t z : Int) :
    Calls Tryz.prog 69 #[.pointer (some ⟨b, 0, none⟩), .int .i64 t, .int .i64 z] w fun e w' => e = .returned (Tp (cls y l (spl s l)) t z) ∧ Below w.heap.size w w' := by
  by_cases ht : t < 0 ∨ (s : Int) ≤ t
  · exact predecessor_far w h hv hse t z ht
  · by_cases hz : z < 0 ∨ nos l z.toNat = 0
    · exact predecessor_bad w h hN hv hse t z ht hz
    · obtain ⟨t', rfl⟩ : ∃ t' : Nat, t = (t' : Int) := ⟨t.toNat, by omega⟩
      obtain ⟨x, rfl⟩ : ∃ x : Nat, z = (x : Int) := ⟨z.toNat, by omega⟩
      rw [Int.toNat_natCast] at hz
      exact predecessor_ok w h hN hv hse t' x (by omega) (by omega)

/-- What Next returns. -/
def nxa (C : List (Nat × Nat × Nat)) (z : Int) (v : Nat) : Nat := if cle C z = 0 then (cla C z).2.2 + v % 2 ^ (cla C z).2.1 else 0
def Tn (C : List (Nat × Nat × Nat)) (z : Int) (v : Nat) : Value := .tuple #[.int .i64 (nxa C z v : Int), .int .i64 (cle C z)]
theorem cla_small {y s : Nat} {l : List Int} (hv : Vt y l) (hse : 2 ^ y = s) (z : Int) : (cla (cls y l (spl s l)) z).1 ≤ 256 ∧ (cla (cls y l (spl s l)) z).2.1 ≤ 9 ∧ (cla (cls y l (spl s l)) z).2.2 ≤ 512 ∧ (cla (cls y l (spl s l)) z).2.2 + 2 ^ (cla (cls y l (spl s l)) z).2.1 ≤ 513 := by
  unfold cla
  split
  · simp
  · cases h : (cls y l (spl s l))[z.toNat]? with
    | none => simp
    | some c =>
      rw [Option.getD_some]
      have hi := (List.getElem?_eq_some_iff.1 h).1
      rw [cls_s hv hse, ← hse] at hi
      rw [← hse] at h
      obtain ⟨x, n, X, b1, b2, b3, b4, b5, b6⟩ := vt_cell hv hi
      rw [b4] at h
      injection h with h
      subst h
      have h1 := hv.len
      have h2 := hv.log
      have h3 := bts_le y X
      have h4 := b5.fits
      have h5 := hv.size
      have h6 : 0 < 2 ^ bts y X := Nat.two_pow_pos _
      simp only
      exact ⟨by omega, by omega, by omega, by omega⟩
/-- Receivers without a table. -/
theorem lowest_nn (w : World) {p : Value} (h : Nn w p) (z : Int) : Calls Tryz.prog 68 #[p, .int .i64 z] w fun e w' => e = .returned (.tuple #[.int .i64 0, .int .i64 1]) ∧ w' = w := by
  have OW := Lib.hid (own_nn w h z)
  clear h
  go_enter Tryz.func68, Tryz.ntmps68
  go_wp2_with (go_at_call 92; refine OW.out.mono ?_; rintro e w1 ⟨rfl, rfl⟩)
  go_ret2
  exact ⟨rfl, rfl⟩
set_option maxRecDepth 100000 in
set_option maxHeartbeats 2000000 in
theorem predecessor_nn (w : World) {p : Value} (h : Nn w p) (t z : Int) : Calls Tryz.prog 69 #[p, .int .i64 t, .int .i64 z] w fun e w' => e = .returned (.tuple #[stv 0 0 0, .int .i64 1]) ∧ Below w.heap.size w w' := by
  have t1 := Sb.new w 0 0 0
  have b1 := below_new w (.cells #[.int .i64 0, .int .u64 0, .int .i64 0] 81)
  obtain ⟨w1, hw1⟩ : ∃ w1, w.alloc (.cells #[.int .i64 0, .int .u64 0, .int .i64 0] 81) = w1 := ⟨_, rfl⟩
  rw [hw1] at t1 b1
  have CH := Lib.hid (check_nn w1 (h.below b1) t)
  obtain ⟨Wa, Wb, Wc, c0, f0, hWa, c1, f1, hWb, c2, f2, hWc, hT, hB, _⟩ := set_step t1 0 0 0 b1 (Nat.le_refl _)
  have FN := Lib.hid (And.intro hT hB)
  clear h t1 b1 hT hB
  go_enter Tryz.func69, Tryz.ntmps69
  go_wp2_with (go_at_call 93; refine CH.out.mono ?_; rintro e w1 ⟨rfl, rfl⟩)
  refine bodyPost_ret (results_cell2 rfl rfl (FN.out).1.load) rfl ?_
  exact ⟨rfl, FN.out.2⟩
end Go.Proofs.YtnlhokfhkohdpaaGreat

namespace Go.Proofs.YtnlhokfhkohdpaaGreat
open Go.RowKit Go.Shelf

theorem siz_pow {b D : Nat} (hb : b ≤ 9) (hD : 2 ^ b = D) : siz (b : Int) = D := by
  unfold siz
  rw [if_neg (by omega), Int.toNat_natCast, hD]
theorem log2_half {V : Nat} (h : 2 ≤ V) : (V / 2).log2 + 1 = V.log2 := by
  conv => rhs; rw [Nat.log2_def]
  rw [if_pos h]

end Go.Proofs.YtnlhokfhkohdpaaGreat

namespace Go.Proofs.YtnlhokfhkohdpaaGreat
open Go.RowKit Go.Shelf

/-- A row of cells whose numbers are small. -/
structure Rc (w : World) (g s cp : Nat) (C : List (Nat × Nat × Nat)) : Prop where
  own : w.ownsRow 0 139 3 (.slice (some ⟨g, 0, none⟩) s cp) s (flat3 C)
  len : C.length = s
  le : s ≤ 512
  small : ∀ (i : Nat) (c : Nat × Nat × Nat), C[i]? = some c → c.1 ≤ 256 ∧ c.2.1 ≤ 9 ∧ c.2.2 ≤ 512

theorem Rc.below {w w' : World} {g s cp : Nat} {C : List (Nat × Nat × Nat)} (h : Rc w g s cp C) (hb : Below w.heap.size w w') : Rc w' g s cp C := ⟨ro_below h.own hb, h.len, h.le, h.small⟩
theorem cls_small {y s : Nat} {l : List Int} (hv : Vt y l) (hse : 2 ^ y = s) (i : Nat) (c : Nat × Nat × Nat) (hc : (cls y l (spl s l))[i]? = some c) : c.1 ≤ 256 ∧ c.2.1 ≤ 9 ∧ c.2.2 ≤ 512 := by
  have h1 := cla_small hv hse (i : Int)
  rw [(cle_ok hc).2] at h1
  exact ⟨h1.1, h1.2.1, h1.2.2.1⟩
/-- Whether a symbol has states. -/
def hsb (l : List Int) (z : Int) : Bool := decide (0 ≤ z) && (match l[z.toNat]? with | some u => decide (u ≠ 0) | none => false)
theorem hsb_pos {y : Nat} {l : List Int} (hv : Vt y l) {z : Int} (h : hsb l z = true) : ∃ x : Nat, z = (x : Int) ∧ 1 ≤ nos l x ∧ x < l.length := by
  unfold hsb at h
  rw [Bool.and_eq_true, decide_eq_true_iff] at h
  obtain ⟨h0, h1⟩ := h
  refine ⟨z.toNat, by omega, ?_⟩
  cases hu : l[z.toNat]? with
  | none => rw [hu] at h1; cases h1
  | some u =>
    rw [hu] at h1
    simp only [decide_eq_true_iff] at h1
    refine ⟨?_, (List.getElem?_eq_some_iff.1 hu).1⟩
    have h2 : -1 ≤ u := by
      have := List.all_eq_true.1 hv.ok u (List.mem_of_getElem? hu)
      simpa using this
    unfold nos
    rw [hu]
    simp only
    unfold sts
    split <;> omega
end Go.Proofs.YtnlhokfhkohdpaaGreat

namespace Go.Proofs.YtnlhokfhkohdpaaGreat
open Bt (bitsOf val unp pack closed endOf bitsOf_len val_bitsOf bitsOf_val val_lt)

/-- The last n bits: their number, and the bits ahead of them. -/
def lst (L : List Bool) (n : Nat) : Option (Nat × List Bool) := if L.length < n then none else some (val (L.drop (L.length - n)), L.take (L.length - n))

theorem lst_app (P : List Bool) {v n : Nat} (h : v < 2 ^ n) : lst (P ++ bitsOf v n) n = some (v, P) := by
  have hl : (P ++ bitsOf v n).length = P.length + n := by rw [List.length_append, bitsOf_len]
  rw [lst, if_neg (by omega), hl, Nat.add_sub_cancel, List.drop_left, List.take_left, val_bitsOf, Nat.mod_eq_of_lt h]
theorem lst_inv {L R : List Bool} {v n : Nat} (h : lst L n = some (v, R)) : L = R ++ bitsOf v n ∧ v < 2 ^ n := by
  unfold lst at h
  split at h
  · cases h
  · rename_i hl
    injection h with h
    injection h with hv hR
    have hd : (L.drop (L.length - n)).length = n := by rw [List.length_drop]; omega
    have e := bitsOf_val (L.drop (L.length - n))
    rw [hd, hv] at e
    refine ⟨by rw [e, ← hR, List.take_append_drop], ?_⟩
    have h2 := val_lt (L.drop (L.length - n))
    rw [hd, hv] at h2
    exact h2
theorem lst_pre {L R : List Bool} {v n : Nat} (P : List Bool) (h : lst L n = some (v, R)) : lst (P ++ L) n = some (v, P ++ R) := by
  obtain ⟨rfl, h2⟩ := lst_inv h
  rw [← List.append_assoc, lst_app _ h2]
theorem lst_none {L : List Bool} {n : Nat} (h : L.length < n) : lst L n = none := by rw [lst, if_pos h]

/-- A state's cell: the symbol, the bits, the base. -/
def cg (C : List (Nat × Nat × Nat)) (i : Nat) : Nat × Nat × Nat := C[i]?.getD (0, 0, 0)
theorem cg_of {C : List (Nat × Nat × Nat)} {i : Nat} {c : Nat × Nat × Nat} (h : C[i]? = some c) : cg C i = c := by rw [cg, h, Option.getD_some]

/-- k symbols from the states a and b on. -/
def fgo (C : List (Nat × Nat × Nat)) : Nat → Nat → Nat → List Bool → Option (List Nat × List Bool)
  | 0, _, _, L => some ([], L)
  | k + 1, a, b, L =>
    if 2 ≤ k then match lst L (cg C a).2.1 with
      | none => none
      | some (v, L') => (fgo C k b ((cg C a).2.2 + v) L').map fun q => ((cg C a).1 :: q.1, q.2)
    else (fgo C k b a L).map fun q => ((cg C a).1 :: q.1, q.2)
/-- n symbols, and the bits that are left. -/
def fdx (C : List (Nat × Nat × Nat)) (y : Nat) (L : List Bool) (n : Nat) : Option (List Nat × List Bool) :=
  if n = 0 then some ([], L) else match lst L y with
    | none => none
    | some (a, L1) => if n = 1 then fgo C 1 a 0 L1 else match lst L1 y with
      | none => none
      | some (c, L2) => fgo C n a c L2
/-- n symbols, no bits left. -/
def fdc (C : List (Nat × Nat × Nat)) (y : Nat) (L : List Bool) (n : Nat) : Option (List Nat) := match fdx C y L n with
  | some (o, []) => some o
  | _ => none

theorem fgo_pre (C : List (Nat × Nat × Nat)) (P : List Bool) : ∀ (k a b : Nat) (L : List Bool) (o : List Nat) (R : List Bool), fgo C k a b L = some (o, R) → fgo C k a b (P ++ L) = some (o, P ++ R) := by
  intro k
  induction k with
  | zero => intro a b L o R h; rw [fgo] at h ⊢; cases h; rfl
  | succ k ih =>
    intro a b L o R h
    rw [fgo] at h ⊢
    split
    · rename_i h2
      rw [if_pos h2] at h
      cases hl : lst L (cg C a).2.1 with
      | none => rw [hl] at h; cases h
      | some p =>
        obtain ⟨v, L'⟩ := p
        rw [hl] at h
        rw [lst_pre P hl]
        simp only [Option.map_eq_some_iff] at h ⊢
        obtain ⟨q, hq, he⟩ := h
        cases he
        exact ⟨_, ih _ _ _ _ _ hq, rfl⟩
    · rename_i h2
      rw [if_neg h2] at h
      simp only [Option.map_eq_some_iff] at h ⊢
      obtain ⟨q, hq, he⟩ := h
      cases he
      exact ⟨_, ih _ _ _ _ _ hq, rfl⟩
theorem fdx_pre {C : List (Nat × Nat × Nat)} {y : Nat} {L : List Bool} {n : Nat} {o : List Nat} {R : List Bool} (P : List Bool) (h : fdx C y L n = some (o, R)) : fdx C y (P ++ L) n = some (o, P ++ R) := by
  unfold fdx at h ⊢
  split
  · rename_i h0
    rw [if_pos h0] at h
    cases h; rfl
  · rename_i h0
    rw [if_neg h0] at h
    cases hl : lst L y with
    | none => rw [hl] at h; cases h
    | some p =>
      obtain ⟨a, L1⟩ := p
      rw [hl] at h
      rw [lst_pre P hl]
      dsimp only at h ⊢
      split
      · rename_i h1
        rw [if_pos h1] at h
        exact fgo_pre C P _ _ _ _ _ _ h
      · rename_i h1
        rw [if_neg h1] at h
        cases hl2 : lst L1 y with
        | none => rw [hl2] at h; cases h
        | some p =>
          obtain ⟨c, L2⟩ := p
          rw [hl2] at h
          rw [lst_pre P hl2]
          dsimp only at h ⊢
          exact fgo_pre C P _ _ _ _ _ _ h

/-- The cells of a machine of 2^y states: every cell leads to states. -/
structure Mch (C : List (Nat × Nat × Nat)) (y : Nat) : Prop where
  len : C.length = 2 ^ y
  fit : ∀ (i x p q : Nat), C[i]? = some (x, p, q) → p ≤ y ∧ q + 2 ^ p ≤ 2 ^ y
/-- A symbol with states: its lowest state, and a predecessor of each state. -/
structure Sy (C : List (Nat × Nat × Nat)) (y x : Nat) : Prop where
  low : ∃ (p q : Nat), C[lwa C (x : Int)]? = some (x, p, q)
  pred : ∀ t : Nat, t < 2 ^ y → ∃ (i v p q : Nat), pra C (t : Int) (x : Int) = (i, v, p) ∧ C[i]? = some (x, p, q) ∧ t = q + v ∧ v < 2 ^ p

theorem Mch.lt {C : List (Nat × Nat × Nat)} {y i : Nat} {c : Nat × Nat × Nat} (h : Mch C y) (hc : C[i]? = some c) : i < 2 ^ y := by
  rw [← h.len]; exact (List.getElem?_eq_some_iff.1 hc).1
theorem Mch.cell {C : List (Nat × Nat × Nat)} {y i : Nat} (h : Mch C y) (hi : i < 2 ^ y) : C[i]? = some (cg C i) ∧ (cg C i).2.1 ≤ y ∧ (cg C i).2.2 + 2 ^ (cg C i).2.1 ≤ 2 ^ y := by
  have e : C[i]? = some (cg C i) := by rw [cg, List.getElem?_eq_getElem (by rw [h.len]; exact hi), Option.getD_some]
  exact ⟨e, h.fit i _ _ _ e⟩

/-- What is read are symbols of cells, and just so many. -/
theorem fgo_syms {C : List (Nat × Nat × Nat)} {y : Nat} (h : Mch C y) : ∀ (k a b : Nat) (L : List Bool) (o : List Nat) (R : List Bool), (1 ≤ k → a < 2 ^ y) → (2 ≤ k → b < 2 ^ y) → fgo C k a b L = some (o, R) → o.length = k ∧ ∀ x ∈ o, ∃ (i p q : Nat), C[i]? = some (x, p, q) := by
  intro k
  induction k with
  | zero => intro a b L o R _ _ h; rw [fgo] at h; cases h; exact ⟨rfl, fun x hx => by cases hx⟩
  | succ k ih =>
    intro a b L o R ha hb hf
    obtain ⟨e, e1, e2⟩ := h.cell (ha (by omega))
    rw [fgo] at hf
    split at hf
    · rename_i h2
      cases hl : lst L (cg C a).2.1 with
      | none => rw [hl] at hf; cases hf
      | some p =>
        obtain ⟨v, L'⟩ := p
        rw [hl] at hf
        simp only [Option.map_eq_some_iff] at hf
        obtain ⟨q, hq, he⟩ := hf
        cases he
        obtain ⟨_, hv⟩ := lst_inv hl
        obtain ⟨g1, g2⟩ := ih _ _ _ _ _ (fun _ => hb (by omega)) (fun _ => by omega) hq
        refine ⟨by simp [g1], fun x hx => ?_⟩
        rcases List.mem_cons.1 hx with rfl | hx
        · exact ⟨a, _, _, e⟩
        · exact g2 x hx
    · rename_i h2
      simp only [Option.map_eq_some_iff] at hf
      obtain ⟨q, hq, he⟩ := hf
      cases he
      obtain ⟨g1, g2⟩ := ih _ _ _ _ _ (fun _ => hb (by omega)) (fun h9 => by omega) hq
      refine ⟨by simp [g1], fun x hx => ?_⟩
      rcases List.mem_cons.1 hx with rfl | hx
      · exact ⟨a, _, _, e⟩
      · exact g2 x hx
theorem fdx_syms {C : List (Nat × Nat × Nat)} {y : Nat} (h : Mch C y) {L R : List Bool} {n : Nat} {o : List Nat} (hf : fdx C y L n = some (o, R)) : o.length = n ∧ ∀ x ∈ o, ∃ (i p q : Nat), C[i]? = some (x, p, q) := by
  unfold fdx at hf
  split at hf
  · rename_i h0
    cases hf
    exact ⟨h0.symm, fun x hx => by cases hx⟩
  · cases hl : lst L y with
    | none => rw [hl] at hf; cases hf
    | some p =>
      obtain ⟨a, L1⟩ := p
      rw [hl] at hf
      dsimp only at hf
      obtain ⟨_, ha⟩ := lst_inv hl
      split at hf
      · rename_i h1
        subst h1
        exact fgo_syms h _ _ _ _ _ _ (fun _ => ha) (fun h9 => by omega) hf
      · cases hl2 : lst L1 y with
        | none => rw [hl2] at hf; cases hf
        | some p =>
          obtain ⟨c, L2⟩ := p
          rw [hl2] at hf
          dsimp only at hf
          exact fgo_syms h _ _ _ _ _ _ (fun _ => ha) (fun _ => (lst_inv hl2).2) hf

/-- The states of the first two symbols, and the bits of the rest: each of the last two symbols has its lowest state. -/
def fen (C : List (Nat × Nat × Nat)) : List Nat → Nat × Nat × List Bool
  | [] => (0, 0, [])
  | a :: r => if r.length < 2 then (lwa C (a : Int), (fen C r).1, []) else
    ((pra C ((fen C r).2.1 : Int) (a : Int)).1, (fen C r).1, (fen C r).2.2 ++ bitsOf (pra C ((fen C r).2.1 : Int) (a : Int)).2.1 (pra C ((fen C r).2.1 : Int) (a : Int)).2.2)
/-- The bits of a flow. -/
def fbs (C : List (Nat × Nat × Nat)) (y : Nat) (ss : List Nat) : List Bool :=
  (fen C ss).2.2 ++ ((if 2 ≤ ss.length then bitsOf (fen C ss).2.1 y else []) ++ (if 1 ≤ ss.length then bitsOf (fen C ss).1 y else []))

theorem fen_ok {C : List (Nat × Nat × Nat)} {y : Nat} (h : Mch C y) : ∀ ss : List Nat, (∀ x ∈ ss, Sy C y x) →
    (1 ≤ ss.length → (fen C ss).1 < 2 ^ y ∧ ss.head? = some (cg C (fen C ss).1).1) ∧ (2 ≤ ss.length → (fen C ss).2.1 < 2 ^ y) ∧
    (∀ P, fgo C ss.length (fen C ss).1 (fen C ss).2.1 (P ++ (fen C ss).2.2) = some (ss, P)) ∧ (fen C ss).2.2.length ≤ y * (ss.length - 2) := by
  intro ss
  induction ss with
  | nil => intro _; exact ⟨fun h => by simp at h, fun h => by simp at h, fun P => by simp [fgo, fen], by simp [fen]⟩
  | cons a r ih =>
    intro hs
    obtain ⟨g1, g2, g3, g4⟩ := ih (fun x hx => hs x (List.mem_cons_of_mem _ hx))
    have hsa := hs a (List.mem_cons_self ..)
    by_cases hr : r.length < 2
    · obtain ⟨p, q, hlo⟩ := hsa.low
      have e : fen C (a :: r) = (lwa C (a : Int), (fen C r).1, []) := by rw [fen, if_pos hr]
      have hc := cg_of hlo
      have he : (fen C r).2.2 = [] := by
        have : (fen C r).2.2.length ≤ 0 := by
          have := g4
          rw [show r.length - 2 = 0 by omega, Nat.mul_zero] at this
          exact this
        exact List.eq_nil_of_length_eq_zero (by omega)
      rw [e]
      refine ⟨fun _ => ⟨h.lt hlo, by simp [hc]⟩, fun h9 => (g1 (by simp at h9; omega)).1, fun P => ?_, by simp⟩
      rw [List.length_cons, fgo, if_neg (by omega)]
      match r, g1, g2, g3, he with
      | [], _, _, _, _ => simp [fgo, hc]
      | [b], g1, _, g3, he =>
        have h3 := (g1 (by simp)).2
        simp only [List.head?_cons, Option.some.injEq] at h3
        rw [List.length_singleton, fgo, if_neg (by omega)]
        simp [fgo, hc, ← h3]
      | _ :: _ :: _, _, _, _, _ => simp at hr; omega
    · have hr2 : 2 ≤ r.length := by omega
      obtain ⟨i, v, p, q, hp, hci, ht, hv⟩ := hsa.pred _ (g2 hr2)
      have e : fen C (a :: r) = (i, (fen C r).1, (fen C r).2.2 ++ bitsOf v p) := by rw [fen, if_neg hr, hp]
      have hc := cg_of hci
      rw [e]
      refine ⟨fun _ => ⟨h.lt hci, by simp [hc]⟩, fun _ => (g1 (by omega)).1, fun P => ?_, ?_⟩
      · dsimp only
        rw [List.length_cons, fgo, if_pos hr2, hc]
        dsimp only
        rw [← List.append_assoc, lst_app _ hv]
        dsimp only
        rw [← ht, g3]
        rfl
      · dsimp only
        have hpy := (h.fit _ _ _ _ hci).1
        rw [List.length_append, bitsOf_len, List.length_cons]
        have e3 : r.length + 1 - 2 = (r.length - 2) + 1 := by omega
        rw [e3, Nat.mul_add, Nat.mul_one]
        omega

theorem fbs_two (C : List (Nat × Nat × Nat)) (y : Nat) {ss : List Nat} (h : 2 ≤ ss.length) : fbs C y ss = ((fen C ss).2.2 ++ bitsOf (fen C ss).2.1 y) ++ bitsOf (fen C ss).1 y := by
  unfold fbs
  simp only [if_pos h, if_pos (show 1 ≤ ss.length by omega), List.append_assoc]
theorem fbs_one (C : List (Nat × Nat × Nat)) (y : Nat) {ss : List Nat} (h : ss.length = 1) : fbs C y ss = (fen C ss).2.2 ++ bitsOf (fen C ss).1 y := by
  unfold fbs
  simp only [if_neg (show ¬ 2 ≤ ss.length by omega), if_pos (show 1 ≤ ss.length by omega), List.nil_append]
theorem fbs_nil (C : List (Nat × Nat × Nat)) (y : Nat) : fbs C y [] = [] := by simp [fbs, fen]

theorem fdx_fbs {C : List (Nat × Nat × Nat)} {y : Nat} (h : Mch C y) {ss : List Nat} (hs : ∀ x ∈ ss, Sy C y x) (P : List Bool) : fdx C y (P ++ fbs C y ss) ss.length = some (ss, P) := by
  obtain ⟨g1, g2, g3, g4⟩ := fen_ok h ss hs
  by_cases h0 : ss.length = 0
  · obtain rfl := List.eq_nil_of_length_eq_zero h0
    simp [fbs_nil, fdx]
  · have ha := (g1 (by omega)).1
    unfold fdx
    rw [if_neg h0]
    by_cases h1 : ss.length = 1
    · rw [fbs_one C y h1, ← List.append_assoc, lst_app _ ha]
      dsimp only
      rw [if_pos h1]
      have := g3 P
      rw [h1, fgo, if_neg (by omega)] at this
      rw [fgo, if_neg (by omega)]
      simpa [fgo] using this
    · rw [fbs_two C y (by omega), ← List.append_assoc, ← List.append_assoc, lst_app _ ha]
      dsimp only
      rw [if_neg h1, lst_app _ (g2 (by omega))]
      dsimp only
      exact g3 P
theorem fdc_fbs {C : List (Nat × Nat × Nat)} {y : Nat} (h : Mch C y) {ss : List Nat} (hs : ∀ x ∈ ss, Sy C y x) : fdc C y (fbs C y ss) ss.length = some ss := by
  have := fdx_fbs h hs []
  rw [List.nil_append] at this
  rw [fdc, this]
theorem fbs_len {C : List (Nat × Nat × Nat)} {y : Nat} (h : Mch C y) {ss : List Nat} (hs : ∀ x ∈ ss, Sy C y x) : (fbs C y ss).length ≤ y * ss.length := by
  obtain ⟨_, _, _, g4⟩ := fen_ok h ss hs
  by_cases h2 : 2 ≤ ss.length
  · rw [fbs_two C y h2, List.length_append, List.length_append, bitsOf_len, bitsOf_len]
    obtain ⟨k, hk⟩ : ∃ k, ss.length = k + 2 := ⟨ss.length - 2, by omega⟩
    rw [hk, show k + 2 - 2 = k by omega] at g4
    rw [hk, Nat.mul_add]
    omega
  · by_cases h1 : ss.length = 1
    · rw [fbs_one C y h1, List.length_append, bitsOf_len, h1, Nat.mul_one]
      rw [h1, show 1 - 2 = 0 from rfl, Nat.mul_zero] at g4
      omega
    · obtain rfl := List.eq_nil_of_length_eq_zero (show ss.length = 0 by omega)
      simp [fbs_nil]
/-- A bit more ahead of a flow, or one less: no symbols. -/
theorem fdc_more {C : List (Nat × Nat × Nat)} {y : Nat} (h : Mch C y) {ss : List Nat} (hs : ∀ x ∈ ss, Sy C y x) (b : Bool) : fdc C y (b :: fbs C y ss) ss.length = none := by
  have := fdx_fbs h hs [b]
  rw [List.singleton_append] at this
  rw [fdc, this]
theorem fdc_less {C : List (Nat × Nat × Nat)} {y : Nat} (h : Mch C y) {ss : List Nat} (hs : ∀ x ∈ ss, Sy C y x) {b : Bool} {L : List Bool} (hL : fbs C y ss = b :: L) : fdc C y L ss.length = none := by
  have h1 := fdx_fbs h hs []
  rw [List.nil_append, hL] at h1
  unfold fdc
  cases h2 : fdx C y L ss.length with
  | none => rfl
  | some p =>
    obtain ⟨o, R⟩ := p
    have h3 := fdx_pre [b] h2
    rw [List.singleton_append, h1] at h3
    injection h3 with h3
    injection h3 with _ h3
    simp at h3

/-- What Decode returns: the error and the symbols. -/
def fdR (y : Int) (l : List Int) (D : List UInt8) (n : Int) : Nat × List Nat :=
  if vt y l 256 9 = false then (13, []) else if n < 0 ∨ 131072 < n then (2, []) else match endOf D with
    | none => (14, [])
    | some e => match fdc (cls y.toNat l (spl (2 ^ y.toNat) l)) y.toNat ((unp D).take e) n.toNat with
      | none => (14, [])
      | some o => (0, o)

end Go.Proofs.YtnlhokfhkohdpaaGreat

namespace Go.Proofs.YtnlhokfhkohdpaaGreat
open Go.RowKit Go.Shelf

theorem halves {n : Nat} (hn : 1 ≤ n) : ∀ X : Nat, n ≤ X → ∃ j, n ≤ X / 2 ^ j ∧ X / 2 ^ j < 2 * n := by
  intro X
  induction X using Nat.strongRecOn with
  | ind X ih =>
    intro h
    rcases Nat.lt_or_ge X (2 * n) with h1 | h1
    · exact ⟨0, by simpa using h, by simpa using h1⟩
    · obtain ⟨j, h2, h3⟩ := ih (X / 2) (by omega) (by omega)
      refine ⟨j + 1, ?_, ?_⟩
      · rw [Nat.pow_succ', ← Nat.div_div_eq_div_mul]; exact h2
      · rw [Nat.pow_succ', ← Nat.div_div_eq_div_mul]; exact h3
section
variable {y s : Nat} {l : List Int}
theorem nos_le (hv : Vt y l) (hse : 2 ^ y = s) (x : Nat) : nos l x ≤ s := by
  rw [hv.nos, ← hse]
  have := List.count_le_length (a := x) (l := spl (2 ^ y) l)
  rwa [spl_len] at this
theorem span_of (hv : Vt y l) (hse : 2 ^ y = s) {i : Nat} {x p q : Nat} (hc : (cls y l (spl s l))[i]? = some (x, p, q)) : q + 2 ^ p ≤ s ∧ p ≤ 9 ∧ x ≤ 256 ∧ x < l.length ∧ 1 ≤ nos l x := by
  have hi := (List.getElem?_eq_some_iff.1 hc).1
  rw [cls_s hv hse, ← hse] at hi
  rw [← hse] at hc
  obtain ⟨x', n, X, b1, b2, b3, b4, b5, b6⟩ := vt_cell hv hi
  rw [b4] at hc
  injection hc with hc
  injection hc with hx hc
  injection hc with hp hq
  subst hx hp hq
  have h1 := hv.len
  have h2 := hv.log
  have h3 := bts_le y X
  have h4 := b5.fits
  have h5 := b5.pos
  exact ⟨by omega, by omega, by omega, b6, by omega⟩
end

end Go.Proofs.YtnlhokfhkohdpaaGreat

namespace Go.Proofs.YtnlhokfhkohdpaaGreat
open Go.RowKit Go.Shelf

section
variable {y s : Nat} {l m : List Int}
theorem back_pr (hv : Vt y l) (hse : 2 ^ y = s) {x t : Nat} (hx : 1 ≤ nos l x) (ht : t < s) : ∃ i p q, i < s ∧ (cls y l (spl s l))[i]? = some (x, p, q) ∧ p ≤ 9 ∧ q ≤ t ∧ t < q + 2 ^ p ∧ pra (cls y l (spl s l)) (t : Int) (x : Int) = (i, t - q, p) ∧ pre (cls y l (spl s l)) (t : Int) (x : Int) = 0 := by
  have hle := nos_le hv hse x
  obtain ⟨j, h1, h2⟩ := halves hx (s + t) (by omega)
  obtain ⟨i, c, r1, r2, r3, r4, r5, r6, r7, r8⟩ := vt_place hv (x := x) (t := t) (j := j) hx (by rw [hse]; exact ht) (by rw [hse]) h1 h2
  obtain ⟨x', p, q⟩ := c
  simp only at r4 r5 r6 r7
  subst r4
  rw [hse] at r2 r3 r8
  refine ⟨i, p, q, r2, r3, r5, r6, r7, ?_, ?_⟩
  · unfold pra
    rw [cls_s hv hse, if_neg (by omega), r8]
    simp only [r3, Option.getD_some]
    have e : ((t : Int) - (q : Int)).toNat = t - q := by omega
    rw [e]
  · unfold pre
    rw [cls_s hv hse, if_neg (by omega), r8]
    rfl
end

end Go.Proofs.YtnlhokfhkohdpaaGreat

namespace Go.Proofs.YtnlhokfhkohdpaaGreat
open Go.RowKit Go.Shelf
open Bt (bitsOf val unp pack closed endOf bitsOf_len)

/-- The cells of a table. -/
def CC (y : Nat) (l : List Int) : List (Nat × Nat × Nat) := cls y l (spl (2 ^ y) l)
section
variable {y : Nat} {l : List Int}
theorem vt_mch (hv : Vt y l) : Mch (CC y l) y := by
  refine ⟨vt_clen hv, fun i x p q hc => ?_⟩
  have h := span_of hv rfl hc
  refine ⟨?_, h.1⟩
  have h2 : 2 ^ p ≤ 2 ^ y := by omega
  exact (Nat.pow_le_pow_iff_right (by decide)).1 h2
theorem vt_sy (hv : Vt y l) {x : Nat} (hx : 1 ≤ nos l x) : Sy (CC y l) y x := by
  unfold CC
  refine ⟨?_, fun t ht => ?_⟩
  · obtain ⟨i, _, hf⟩ := vt_low hv hx
    obtain ⟨⟨x', p, q⟩, hc, hp, _⟩ := fst_get hf
    have e : lwa (cls y l (spl (2 ^ y) l)) (x : Int) = i := by unfold lwa; rw [hf]; rfl
    have ex : x' = x := by
      unfold isz at hp
      simp only [decide_eq_true_iff] at hp
      omega
    subst ex
    exact ⟨p, q, by rw [e]; exact hc⟩
  · obtain ⟨i, p, q, h1, h2, h3, h4, h5, h6, h7⟩ := back_pr hv rfl hx ht
    exact ⟨i, t - q, p, q, h6, h2, by omega, by omega⟩
theorem sy_of (hv : Vt y l) {x : Nat} (h : ∃ (i p q : Nat), (CC y l)[i]? = some (x, p, q)) : 1 ≤ nos l x ∧ x < l.length ∧ x ≤ 256 := by
  obtain ⟨i, p, q, hc⟩ := h
  have h := span_of hv rfl hc
  exact ⟨h.2.2.2.2, h.2.2.2.1, h.2.2.1⟩
theorem hsb_of {x : Nat} (hx : 1 ≤ nos l x) : hsb l (x : Int) = true := by
  unfold nos at hx
  unfold hsb
  rw [decide_eq_true (by omega), Int.toNat_natCast, Bool.true_and]
  cases hu : l[x]? with
  | none => simp [hu] at hx
  | some u =>
    rw [hu] at hx
    simp only at hx ⊢
    refine decide_eq_true ?_
    rintro rfl
    have : sts 0 = 0 := rfl
    omega
end

/-- All symbols have states. -/
def hasA (l : List Int) (m : List Int) : Bool := m.all (hsb l)
theorem hasA_nat {y : Nat} {l m : List Int} (hv : Vt y l) (h : hasA l m = true) : ∃ ss : List Nat, m = ss.map (fun n : Nat => (n : Int)) ∧ (∀ x ∈ ss, 1 ≤ nos l x) ∧ ∀ x ∈ ss, x ≤ 256 := by
  induction m with
  | nil => exact ⟨[], rfl, (fun x hx => by cases hx), (fun x hx => by cases hx)⟩
  | cons z m ih =>
    unfold hasA at h
    rw [List.all_cons, Bool.and_eq_true] at h
    obtain ⟨ss, e, h1, h2⟩ := ih h.2
    obtain ⟨x, rfl, hx, hl⟩ := hsb_pos hv h.1
    have hlen := hv.len
    refine ⟨x :: ss, by rw [List.map_cons, e], fun u hu => ?_, fun u hu => ?_⟩
    · rcases List.mem_cons.1 hu with rfl | hu
      · exact hx
      · exact h1 u hu
    · rcases List.mem_cons.1 hu with rfl | hu
      · omega
      · exact h2 u hu
theorem hasA_of {l : List Int} {ss : List Nat} (h : ∀ x ∈ ss, 1 ≤ nos l x) : hasA l (ss.map (fun n : Nat => (n : Int))) = true := by
  unfold hasA
  rw [List.all_eq_true]
  intro z hz
  obtain ⟨x, hx, rfl⟩ := List.mem_map.1 hz
  exact hsb_of (h x hx)
theorem nat_inj {ss tt : List Nat} (h : ss.map (fun n : Nat => (n : Int)) = tt.map (fun n : Nat => (n : Int))) : ss = tt :=
  (List.map_inj_right (fun a b e => by exact Int.ofNat.inj e)).1 h

/-- The bytes of a flow. -/
def fby (y : Nat) (l : List Int) (ss : List Nat) : List UInt8 := closed (fbs (CC y l) y ss)

theorem fdR_bad {y : Int} {l : List Int} (D : List UInt8) (n : Int) (h : vt y l 256 9 = false) : fdR y l D n = (13, []) := by rw [fdR, if_pos h]
theorem fdR_arg {y : Int} {l : List Int} (D : List UInt8) {n : Int} (h : vt y l 256 9 = true) (hn : n < 0 ∨ 131072 < n) : fdR y l D n = (2, []) := by rw [fdR, if_neg (by rw [h]; decide), if_pos hn]
theorem fdR_ok {y : Nat} {l : List Int} (D : List UInt8) {n : Nat} (h : Vt y l) (hn : n ≤ 131072) : fdR (y : Int) l D (n : Int) = match endOf D with
    | none => (14, [])
    | some e => match fdc (CC y l) y ((unp D).take e) n with
      | none => (14, [])
      | some o => (0, o) := by
  have hv : vt (y : Int) l 256 9 = true := vt_iff.2 ⟨y, rfl, h⟩
  rw [fdR, if_neg (by rw [hv]; decide), if_neg (by omega), Int.toNat_natCast, Int.toNat_natCast]
  rfl

theorem unp_closed (L : List Bool) : (unp (closed L)).take L.length = L := by
  obtain ⟨z, hz, hz2, _⟩ := Bt.unp_pack (L ++ [true])
  rw [closed, hz, List.append_assoc, List.take_left]
/-- What Decode returns of the bytes of a closed stream. -/
theorem fdR_closed {y : Nat} {l : List Int} (L : List Bool) {n : Nat} (h : Vt y l) (hn : n ≤ 131072) : fdR (y : Int) l (closed L) (n : Int) = match fdc (CC y l) y L n with
      | none => (14, [])
      | some o => (0, o) := by
  rw [fdR_ok _ h hn, Bt.endOf_closed]
  dsimp only
  rw [unp_closed]

section
variable {y : Nat} {l : List Int} {ss : List Nat}
theorem sy_all (hv : Vt y l) (hs : ∀ x ∈ ss, 1 ≤ nos l x) : ∀ x ∈ ss, Sy (CC y l) y x := fun x hx => vt_sy hv (hs x hx)
/-- Decode of Encode. -/
theorem fdR_back (hv : Vt y l) (hs : ∀ x ∈ ss, 1 ≤ nos l x) (hn : ss.length ≤ 131072) : fdR (y : Int) l (fby y l ss) (ss.length : Int) = (0, ss) := by
  rw [fby, fdR_closed _ hv hn, fdc_fbs (vt_mch hv) (sy_all hv hs)]
theorem fdR_more (hv : Vt y l) (hs : ∀ x ∈ ss, 1 ≤ nos l x) (hn : ss.length ≤ 131072) (b : Bool) : fdR (y : Int) l (closed (b :: fbs (CC y l) y ss)) (ss.length : Int) = (14, []) := by
  rw [fdR_closed _ hv hn, fdc_more (vt_mch hv) (sy_all hv hs)]
theorem fdR_less (hv : Vt y l) (hs : ∀ x ∈ ss, 1 ≤ nos l x) (hn : ss.length ≤ 131072) {b : Bool} {L : List Bool} (hL : fbs (CC y l) y ss = b :: L) : fdR (y : Int) l (closed L) (ss.length : Int) = (14, []) := by
  rw [fdR_closed _ hv hn, fdc_less (vt_mch hv) (sy_all hv hs) hL]
theorem fbs_le (hv : Vt y l) (hs : ∀ x ∈ ss, 1 ≤ nos l x) : (fbs (CC y l) y ss).length ≤ y * ss.length := fbs_len (vt_mch hv) (sy_all hv hs)
/-- Different symbols, different flows. -/
theorem fby_inj {tt : List Nat} (hv : Vt y l) (hs : ∀ x ∈ ss, 1 ≤ nos l x) (ht : ∀ x ∈ tt, 1 ≤ nos l x) (hl : ss.length = tt.length) (hn : ss.length ≤ 131072) (h : fby y l ss = fby y l tt) : ss = tt := by
  have h1 := fdR_back hv hs hn
  have h2 := fdR_back hv ht (by omega)
  rw [h, hl, h2] at h1
  injection h1 with _ h1
  exact h1.symm
/-- What has been decoded are symbols with states. -/
theorem fdR_syms {D : List UInt8} {n : Int} {y' : Int} {o : List Nat} (h : fdR y' l D n = (0, o)) : ∃ y : Nat, y' = (y : Int) ∧ Vt y l ∧ (o.length : Int) = n ∧ o.length ≤ 131072 ∧ (∀ x ∈ o, 1 ≤ nos l x) ∧ ∀ x ∈ o, x ≤ 256 := by
  cases hv : vt y' l 256 9 with
  | false => rw [fdR_bad D n hv] at h; cases h
  | true =>
    obtain ⟨y, rfl, hvt⟩ := vt_iff.1 hv
    by_cases hn : n < 0 ∨ 131072 < n
    · rw [fdR_arg D hv hn] at h; cases h
    · obtain ⟨k, rfl⟩ : ∃ k : Nat, n = (k : Int) := ⟨n.toNat, by omega⟩
      rw [fdR_ok D hvt (by omega)] at h
      split at h
      · cases h
      · split at h
        · cases h
        · rename_i o' ho
          injection h with _ h
          subst h
          unfold fdc at ho
          split at ho
          · rename_i o2 hx
            cases ho
            obtain ⟨e1, e2⟩ := fdx_syms (vt_mch hvt) hx
            refine ⟨y, rfl, hvt, by rw [e1], by omega, fun x hx => (sy_of hvt (e2 x hx)).1, fun x hx => (sy_of hvt (e2 x hx)).2.2⟩
          · cases ho
theorem fdR_err {D : List UInt8} {n : Int} {y' : Int} {e : Nat} {o : List Nat} (h : fdR y' l D n = (e, o)) (he : e ≠ 0) : o = [] ∧ (e = 13 ∨ e = 2 ∨ e = 14) := by
  unfold fdR at h
  split at h
  · cases h; exact ⟨rfl, .inl rfl⟩
  · split at h
    · cases h; exact ⟨rfl, .inr (.inl rfl)⟩
    · split at h
      · cases h; exact ⟨rfl, .inr (.inr rfl)⟩
      · split at h
        · cases h; exact ⟨rfl, .inr (.inr rfl)⟩
        · cases h; exact absurd rfl he
end

/-- What Encode returns: the error and the bytes. -/
def feR (y : Int) (l : List Int) (m : List Int) : Nat × List UInt8 :=
  if vt y l 256 9 = false then (13, []) else if 131072 < m.length ∨ hasA l m = false then (2, []) else (0, fby y.toNat l (m.map Int.toNat))
theorem feR_bad {y : Int} {l : List Int} (m : List Int) (h : vt y l 256 9 = false) : feR y l m = (13, []) := by rw [feR, if_pos h]
theorem feR_arg {y : Int} {l : List Int} {m : List Int} (h : vt y l 256 9 = true) (hm : 131072 < m.length ∨ hasA l m = false) : feR y l m = (2, []) := by rw [feR, if_neg (by rw [h]; decide), if_pos hm]
theorem feR_ok {y : Nat} {l : List Int} {ss : List Nat} (h : Vt y l) (hs : ∀ x ∈ ss, 1 ≤ nos l x) (hn : ss.length ≤ 131072) : feR (y : Int) l (ss.map (fun n : Nat => (n : Int))) = (0, fby y l ss) := by
  have hv : vt (y : Int) l 256 9 = true := vt_iff.2 ⟨y, rfl, h⟩
  rw [feR, if_neg (by rw [hv]; decide), if_neg (by rw [hasA_of hs, List.length_map]; simp; omega), Int.toNat_natCast, List.map_map]
  congr 2
  conv => rhs; rw [← List.map_id ss]
  exact List.map_congr_left (fun x _ => by simp)

end Go.Proofs.YtnlhokfhkohdpaaGreat
