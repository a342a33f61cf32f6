/-
  What flow's stepOf returns: the step from a state of the symbol to the given state, or, where there is none, the symbol's lowest state; or the error. Nothing that was there has changed. Conditions: the Coder is one of a valid table; the state is one of it.
  What flow's Encode returns: the bytes that feR says, or the error. Nothing that was there has changed. Conditions: at most 100000 norms and 1000000 symbols.
-/
import Derived.Test.YtnlhokfhkohdpaaGreatSf
import Derived.Test.YtnlhokfhkohdpaaGreatSh
import Derived.Test.YtnlhokfhkohdpaaGreatSc
import Derived.Test.YtnlhokfhkohdpaaGreatSg
import Derived.Deep.RegionHeld3
namespace Go.Proofs.YtnlhokfhkohdpaaGreat
open Go.RowKit Go.Shelf

theorem new_step {w W : World} (hb : Below w.heap.size w W) (x p q : Int) : ∃ W1 Wa Wb Wc, W.alloc (.cells #[.int .i64 0, .int .u64 0, .int .i64 0] 81) = W1 ∧
    W1.cell? ⟨W.heap.size, 0, none⟩ = some (.int .i64 0) ∧ W1.frozen? ⟨W.heap.size, 0, none⟩ = false ∧ W1.setCell ⟨W.heap.size, 0, none⟩ (.int .i64 x) = Wa ∧
    Wa.cell? ⟨W.heap.size, 1, none⟩ = some (.int .u64 0) ∧ Wa.frozen? ⟨W.heap.size, 1, none⟩ = false ∧ Wa.setCell ⟨W.heap.size, 1, none⟩ (.int .u64 p) = Wb ∧
    Wb.cell? ⟨W.heap.size, 2, none⟩ = some (.int .i64 0) ∧ Wb.frozen? ⟨W.heap.size, 2, none⟩ = false ∧ Wb.setCell ⟨W.heap.size, 2, none⟩ (.int .i64 q) = Wc ∧
    Sb Wc W.heap.size x p q ∧ Below W.heap.size W Wc ∧ Below w.heap.size w Wc := by
  have t1 := Sb.new W 0 0 0
  have b1 := below_new W (.cells #[.int .i64 0, .int .u64 0, .int .i64 0] 81)
  obtain ⟨Wa, Wb, Wc, c0, f0, hWa, c1, f1, hWb, c2, f2, hWc, hT, hB, _⟩ := set_step t1 x p q b1 (Nat.le_refl _)
  exact ⟨_, Wa, Wb, Wc, rfl, c0, f0, hWa, c1, f1, hWb, c2, f2, hWc, hT, hB, below_on hb (Nat.le_refl _) hB⟩

/-- The step to the state t with the symbol z; without bits where it is the last one of its lane. -/
def sot (C : List (Nat × Nat × Nat)) (lastOne : Bool) (t z : Int) : Nat × Nat × Nat := if lastOne then (lwa C z, 0, 0) else pra C t z
/-- Whether there is one. -/
def spe (l : List Int) (z : Int) : Int := if hsb l z then 0 else 2

theorem hsb_no {l : List Int} {z : Int} (h : hsb l z = false) : z < 0 ∨ nos l z.toNat = 0 := by
  by_cases h0 : z < 0
  · exact .inl h0
  · refine .inr ?_
    by_cases h1 : 1 ≤ nos l z.toNat
    · have := hsb_of h1
      rw [show ((z.toNat : Nat) : Int) = z by omega, h] at this
      cases this
    · omega
theorem low_err {y : Nat} {l : List Int} (hv : Vt y l) (z : Int) : lwe (CC y l) z = spe l z := by
  unfold lwe spe CC
  cases hz : hsb l z with
  | true =>
    obtain ⟨x, rfl, hx, _⟩ := hsb_pos hv hz
    obtain ⟨i, _, hf⟩ := vt_low hv hx
    rw [hf]; rfl
  | false =>
    rw [fst_none (fun j d hd => by
      have := vt_gone hv (hsb_no hz) hd
      unfold isz
      exact decide_eq_false this)]
    rfl
theorem pre_err {y s : Nat} {l : List Int} (hv : Vt y l) (hse : 2 ^ y = s) {t : Nat} (ht : t < s) (z : Int) : pre (CC y l) (t : Int) z = spe l z := by
  unfold spe CC
  rw [hse]
  cases hz : hsb l z with
  | true =>
    obtain ⟨x, rfl, hx, _⟩ := hsb_pos hv hz
    obtain ⟨i, p, q, _, _, _, _, _, _, h⟩ := back_pr hv hse hx ht
    exact h
  | false =>
    unfold pre
    rw [cls_s hv hse, if_neg (by omega), fst_none (fun j d hd => by
      rw [← hse] at hd
      exact hit_no (vt_gone hv (hsb_no hz) hd))]
    rfl

set_option maxRecDepth 100000 in
set_option maxHeartbeats 1000000 in
theorem step_of (w : World) {B b y s N : Nat} {l : List Int} (h : Cdr w B b y s N l) (hN : l.length = N) (hv : Vt y l) (hse : 2 ^ y = s) (t : Nat) (ht : t < s) (z : Int) (lastOne : Bool) :
    Calls Tryz.prog 33 #[.pointer (some ⟨b, 0, none⟩), .int .i64 z, .int .i64 (t : Int), .bool lastOne] w fun e w' => e = .returned (.tuple #[stv ((sot (CC y l) lastOne (t : Int) z).1 : Int) ((sot (CC y l) lastOne (t : Int) z).2.1 : Int) ((sot (CC y l) lastOne (t : Int) z).2.2 : Int), .int .i64 (spe l z)]) ∧ Below w.heap.size w w' := by
  obtain ⟨gc, go, V, h⟩ := h
  have t1 := Sb.new w 0 0 0
  have b1 := below_new w (.cells #[.int .i64 0, .int .u64 0, .int .i64 0] 81)
  obtain ⟨w1, hw1⟩ : ∃ w1, w.alloc (.cells #[.int .i64 0, .int .u64 0, .int .i64 0] 81) = w1 := ⟨_, rfl⟩
  rw [hw1] at t1 b1
  have h1 := h.same (W' := w1) (fun k _ hk => b1.block k hk)
  have hcc : cls y l (spl s l) = CC y l := by rw [← hse]; rfl
  cases lastOne with
  | true =>
    have LO := lowest_any w1 h1 hN hv hse z
    rw [hcc] at LO
    unfold Tl at LO
    rw [low_err hv z] at LO
    obtain ⟨i, hi⟩ : ∃ i, lwa (CC y l) z = i := ⟨_, rfl⟩
    have hst : sot (CC y l) true (t : Int) z = (i, 0, 0) := by rw [sot, if_pos rfl, hi]
    rw [hst]
    rw [hi] at LO
    have LO := Lib.hid LO
    obtain ⟨Wa, Wb, Wc, c0, f0, hWa, c1, f1, hWb, c2, f2, hWc, hT, hB, _⟩ := set_step t1 (i : Int) 0 0 b1 (Nat.le_refl _)
    have FN := Lib.hid (And.intro hT hB)
    obtain ⟨E, hE⟩ : ∃ E, spe l z = E := ⟨_, rfl⟩
    rw [hE] at LO ⊢
    clear h h1 hN hv hse ht t1 b1 hcc hi hst hT hB hE
    go_enter Tryz.func33, Tryz.ntmps33
    go_wp2_with (go_at_call 68; refine LO.out.mono ?_; rintro e w1 ⟨rfl, rfl⟩)
    refine bodyPost_ret (results_cell2 rfl rfl (FN.out).1.load) rfl ?_
    exact ⟨rfl, FN.out.2⟩
  | false =>
    have PR := predecessor_any w1 h1 hN hv hse (t : Int) z
    rw [hcc] at PR
    unfold Tp at PR
    rw [pre_err hv hse ht z] at PR
    obtain ⟨⟨i, v, p⟩, hi⟩ : ∃ i, pra (CC y l) (t : Int) z = i := ⟨_, rfl⟩
    have hst : sot (CC y l) false (t : Int) z = (i, v, p) := by rw [sot, if_neg (by decide), hi]
    rw [hst]
    rw [hi] at PR
    have PR := Lib.hid PR
    have T1 := Lib.hid t1
    have B1 := Lib.hid b1
    obtain ⟨E, hE⟩ : ∃ E, spe l z = E := ⟨_, rfl⟩
    rw [hE] at PR ⊢
    clear h h1 hN hv hse ht t1 b1 hcc hi hst hE
    go_enter Tryz.func33, Tryz.ntmps33
    go_wp2_with (go_at_call 69; refine PR.out.mono ?_; rintro e w2 ⟨rfl, hb2⟩; obtain ⟨Wa, Wb, Wc, c0, f0, hWa, c1, f1, hWb, c2, f2, hWc, hT, hB, _⟩ := set_step (T1.out.below hb2) (i : Int) (v : Int) (p : Int) (below_on B1.out (Nat.le_refl _) hb2) (Nat.le_refl _); have FN := Lib.hid (And.intro hT hB); clear hb2 hT hB)
    refine bodyPost_ret (results_cell2 rfl rfl (FN.out).1.load) rfl ?_
    exact ⟨rfl, FN.out.2⟩

end Go.Proofs.YtnlhokfhkohdpaaGreat

namespace Go.Proofs.YtnlhokfhkohdpaaGreat
open Go.RowKit Go.Shelf
open Bt (Wr WrBlk bitsOf closed)

attribute [local go_sem] Oper.semAt_some

/-- What Encode leaves: the error and the bytes, in new memory. -/
def Eres (w : World) (R : Nat × List UInt8) (e : Ending) (w' : World) : Prop :=
  ∃ (A1 : Option Addr) (n1 c1 : Nat), e = .returned (.tuple #[.slice A1 n1 c1, .int .i64 (R.1 : Int)]) ∧ Below w.heap.size w w' ∧ w'.ownsRow w.heap.size 5 1 (.slice A1 n1 c1) n1 (R.2.map Bt.byt)

theorem boxed_same {W W' : World} {B : Nat} {t : TypeId} {v : Value} (h : Boxed W B t v) (hb : W'.heap[B]? = W.heap[B]?) : Boxed W' B t v := hb.trans h
theorem boxed_bel {W W' : World} {B : Nat} {t : TypeId} {v : Value} (h : Boxed W B t v) (hb : Below W.heap.size W W') : Boxed W' B t v := (hb.block B h.lt).trans h
theorem fen_lt {C : List (Nat × Nat × Nat)} {y : Nat} (h : Mch C y) {ss : List Nat} (hs : ∀ x ∈ ss, Sy C y x) : (fen C ss).1 < 2 ^ y ∧ (fen C ss).2.1 < 2 ^ y ∧ (fen C ss).2.2.length ≤ y * ss.length ∧ (ss.length < 2 → (fen C ss).2.2 = []) := by
  obtain ⟨g1, g2, _, g4⟩ := fen_ok h ss hs
  have h0 := Nat.two_pow_pos y
  refine ⟨?_, ?_, Nat.le_trans g4 (Nat.mul_le_mul_left _ (by omega)), fun h2 => ?_⟩
  · match ss, g1 with
    | [], _ => simpa [fen] using h0
    | _ :: _, g1 => exact (g1 (by simp)).1
  · match ss, g2 with
    | [], _ => simpa [fen] using h0
    | [a], _ => simpa [fen] using h0
    | _ :: _ :: _, g2 => exact g2 (by simp)
  · rw [show ss.length - 2 = 0 by omega, Nat.mul_zero] at g4
    exact List.eq_nil_of_length_eq_zero (by omega)
/-- One symbol more. -/
theorem fen_step {y : Nat} {l : List Int} (hv : Vt y l) {r : List Nat} (hr : ∀ x ∈ r, 1 ≤ nos l x) {x : Nat} (hx : 1 ≤ nos l x) :
    ∃ (i v p : Nat), sot (CC y l) (decide (r.length < 2)) ((fen (CC y l) r).2.1 : Int) (x : Int) = (i, v, p) ∧ i < 2 ^ y ∧ v < 2 ^ p ∧ p ≤ 9 ∧ fen (CC y l) (x :: r) = (i, (fen (CC y l) r).1, (fen (CC y l) r).2.2 ++ bitsOf v p) := by
  have hM := vt_mch hv
  obtain ⟨l1, l2, l3, l4⟩ := fen_lt hM (sy_all hv hr)
  have hsx := vt_sy hv hx
  by_cases h2 : r.length < 2
  · obtain ⟨p, q, hlo⟩ := hsx.low
    refine ⟨lwa (CC y l) (x : Int), 0, 0, by rw [sot, if_pos (decide_eq_true h2)], hM.lt hlo, by decide, by decide, ?_⟩
    rw [fen, if_pos h2, l4 h2]
    rfl
  · obtain ⟨i, v, p, q, hp, hci, ht, hv2⟩ := hsx.pred _ l2
    refine ⟨i, v, p, by rw [sot, if_neg (by simpa using h2), hp], hM.lt hci, hv2, Nat.le_trans (hM.fit _ _ _ _ hci).1 hv.log, ?_⟩
    rw [fen, if_neg h2, hp]

theorem hasA_bad {l m : List Int} {z : Int} (h : z ∈ m) (hz : hsb l z = false) : hasA l m = false := by
  cases hA : hasA l m with
  | false => rfl
  | true =>
    unfold hasA at hA
    rw [List.all_eq_true] at hA
    rw [hA z h] at hz
    cases hz
/-- An array of two states. -/
def Ab (W : World) (b c0 c1 : Nat) : Prop := W.heap[b]? = some (.cells #[.int .i64 (c0 : Int), .int .i64 (c1 : Int)] 75 (0, 0))
section
variable {W W' : World} {b c0 c1 : Nat}
theorem Ab.lt (h : Ab W b c0 c1) : b < W.heap.size := (Array.getElem?_eq_some_iff.1 h).1
theorem Ab.e0 (h : Ab W b c0 c1) : W.cell? ⟨b, 0, none⟩ = some (.int .i64 (c0 : Int)) := by rw [cell_of_row W b 0 _ _ _ h]; rfl
theorem Ab.e1 (h : Ab W b c0 c1) : W.cell? ⟨b, 1, none⟩ = some (.int .i64 (c1 : Int)) := by rw [cell_of_row W b 1 _ _ _ h]; rfl
theorem Ab.free (h : Ab W b c0 c1) (i : Nat) : W.frozen? ⟨b, i, none⟩ = false := by
  unfold Ab at h
  simp [World.frozen?, h]
theorem Ab.same (h : Ab W b c0 c1) (hb : W'.heap[b]? = W.heap[b]?) : Ab W' b c0 c1 := hb.trans h
theorem Ab.set0 (h : Ab W b c0 c1) (z : Nat) : Ab (W.setCell ⟨b, 0, none⟩ (.int .i64 (z : Int))) b z c1 := by
  unfold Ab at h ⊢
  simp [World.setCell, Array.getElem?_modify, h]
theorem Ab.set1 (h : Ab W b c0 c1) (z : Nat) : Ab (W.setCell ⟨b, 1, none⟩ (.int .i64 (z : Int))) b c0 z := by
  unfold Ab at h ⊢
  simp [World.setCell, Array.getElem?_modify, h]
end

/-- The two states, by the parity of the number of symbols that are left. -/
def cu0 (p : Nat) (F : Nat × Nat × List Bool) : Nat := if p % 2 = 0 then F.1 else F.2.1
def cu1 (p : Nat) (F : Nat × Nat × List Bool) : Nat := if p % 2 = 0 then F.2.1 else F.1
/-- The symbols behind the first k. -/
def rst (m : List Int) (k : Nat) : List Nat := (m.drop k).map Int.toNat
/-- What Encode's first loop holds on to. -/
def EnP (k4 k5 x xa D : Nat) (l m : List Int) (nm : Nat) (C : List (Nat × Nat × Nat)) (j : Nat) (W : World) : Prop :=
  Boxed W k4 22 (.slice none 0 0) ∧ Boxed W k5 29 (.int .i64 0) ∧ hasA l (m.drop (nm - j)) = true ∧ Ab W xa (cu0 (nm - j) (fen C (rst m (nm - j)))) (cu1 (nm - j) (fen C (rst m (nm - j)))) ∧
    ∃ v, Wr W x v (fen C (rst m (nm - j))).2.2 ∧ ∀ g, v.ownBlock = some g → D + 2 ≤ g
def EnX (k4 k5 : Nat) (l m : List Int) (c : Code) (W : World) : Prop := c = .ret ∧ Boxed W k4 22 (.slice none 0 0) ∧ Boxed W k5 29 (.int .i64 2) ∧ hasA l m = false
abbrev EnS (k4 k5 x xa D : Nat) : Nat → Prop := fun k => k = k4 ∨ k = k5 ∨ k = x ∨ k = xa ∨ D + 2 ≤ k

theorem enp_next {k4 k5 xw xa D nm j i x i' u t o : Nat} {l m : List Int} {C : List (Nat × Nat × Nat)} {z : Int} {ss : List Nat} {L L2 : List Bool} {v : Value} {W W' : World} (hz : hsb l z = true) (hdr : m.drop i = z :: m.drop (i + 1)) (hA : hasA l (m.drop (i + 1)) = true) (hxz : z = (x : Int))
    (hrs : rst m (i + 1) = ss) (hF2 : fen C (x :: ss) = (i', u, L2)) (hij : nm - (j + 1) = i) (h4 : Boxed W' k4 22 (.slice none 0 0)) (h5 : Boxed W' k5 29 (.int .i64 0))
    (hab : Ab W xa (cu0 (i + 1) (u, t, L)) (cu1 (i + 1) (u, t, L))) (ho : i % 2 = o) (hW : W.setCell ⟨xa, o, none⟩ (.int .i64 (i' : Int)) = W') (hw : Wr W' xw v L2) (hr : ∀ g, v.ownBlock = some g → D + 2 ≤ g) : EnP k4 k5 xw xa D l m nm C (j + 1) W' := by
  have er : rst m i = x :: ss := by
    unfold rst at hrs ⊢
    rw [hdr, List.map_cons, hrs, hxz]
    rfl
  unfold EnP
  rw [hij, er, hF2]
  refine ⟨h4, h5, ?_, ?_, v, hw, hr⟩
  · unfold hasA at hA ⊢
    rw [hdr, List.all_cons, hz, hA]
    rfl
  · unfold cu0 cu1 at hab ⊢
    rw [← hW]
    rcases Nat.mod_two_eq_zero_or_one i with h | h
    · rw [if_neg (by omega), if_neg (by omega)] at hab
      rw [if_pos h, if_pos h]
      have : o = 0 := by omega
      subst this
      exact hab.set0 _
    · rw [if_pos (by omega), if_pos (by omega)] at hab
      rw [if_neg (by omega), if_neg (by omega)]
      have : o = 1 := by omega
      subst this
      exact hab.set1 _
/-- The bits of the first j of the states that are written last. -/
def bk2 (y n2 a c j : Nat) : List Bool := if n2 = 2 then (if 1 ≤ j then bitsOf c y else []) ++ (if 2 ≤ j then bitsOf a y else []) else (if 1 ≤ j then bitsOf a y else [])
theorem bk2_zero (y n2 a c : Nat) : bk2 y n2 a c 0 = [] := by
  unfold bk2
  split <;> rfl
theorem bk2_all (y nm a c : Nat) {n2 : Nat} (h : min 2 nm = n2) : bk2 y n2 a c n2 = (if 2 ≤ nm then bitsOf c y else []) ++ (if 1 ≤ nm then bitsOf a y else []) := by
  unfold bk2
  by_cases h2 : 2 ≤ nm
  · have : n2 = 2 := by omega
    subst this
    rw [if_pos rfl, if_pos (by omega), if_pos (by omega), if_pos h2, if_pos (by omega)]
  · rw [if_neg (by omega), if_neg h2, List.nil_append]
    by_cases h1 : 1 ≤ nm
    · rw [if_pos (by omega), if_pos h1]
    · rw [if_neg (by omega), if_neg h1]
theorem bk2_step {y n2 a c j : Nat} (hn : n2 ≤ 2) (hj : j < n2) : ∃ e : Nat, (([(a : Int), (c : Int)]).take n2)[n2 - 1 - j]? = some (e : Int) ∧ (e = a ∨ e = c) ∧ bk2 y n2 a c (j + 1) = bk2 y n2 a c j ++ bitsOf e y := by
  have h : (n2 = 1 ∧ j = 0) ∨ (n2 = 2 ∧ j = 0) ∨ (n2 = 2 ∧ j = 1) := by omega
  rcases h with ⟨rfl, rfl⟩ | ⟨rfl, rfl⟩ | ⟨rfl, rfl⟩
  · exact ⟨a, rfl, .inl rfl, by simp [bk2]⟩
  · exact ⟨c, rfl, .inr rfl, by simp [bk2]⟩
  · exact ⟨a, rfl, .inl rfl, by simp [bk2]⟩
theorem bk2_len (y n2 a c j : Nat) : (bk2 y n2 a c j).length ≤ 2 * y := by
  unfold bk2
  split <;> (try rw [List.length_append]) <;> (repeat' split) <;> simp [Bt.bitsOf_len] <;> omega
theorem ab_ri {W : World} {b a c : Nat} (h : Ab W b a c) (n : Nat) : Ri W (some ⟨b, 0, none⟩) (([(a : Int), (c : Int)]).take n) := by
  have h2 : Rv W (some ⟨b, 0, none⟩) (([(a : Int), (c : Int)]).map iv) := by
    intro j v hj
    match j, hj with
    | 0, hj => exact ⟨_, rfl, by rw [show v = .int .i64 (a : Int) by simpa [iv] using hj.symm]; exact h.e0⟩
    | 1, hj => exact ⟨_, rfl, by rw [show v = .int .i64 (c : Int) by simpa [iv] using hj.symm]; exact h.e1⟩
    | j + 2, hj => simp at hj
  show Rv _ _ _
  rw [List.map_take]
  exact h2.take n
/-- What Encode's second loop holds on to. -/
def EnP2 (x D : Nat) (v0 : Value) (L : List Bool) (y n2 a c j : Nat) (W : World) : Prop := ∃ v, Wr W x v (L ++ bk2 y n2 a c j) ∧ ∀ g, v.ownBlock = some g → some g = v0.ownBlock ∨ D + 2 ≤ g
abbrev EnS2 (x D : Nat) (v0 : Value) : Nat → Prop := fun k => k = x ∨ some k = v0.ownBlock ∨ D + 2 ≤ k
theorem chg_of_bt {S : Nat → Prop} {a b : World} {x : Nat} {R : Option Nat} (h : Bt.Chg a b x R) (hx : S x) (hR : ∀ g, R = some g → S g) : Chg S a b :=
  ⟨h.os, h.tape, h.output, h.size, fun k hk hn => h.block k hk (fun e => hn (by rw [e]; exact hx)) (fun e => hn (hR k e.symm))⟩
theorem EnP.alike {k4 k5 x xa D : Nat} {l m : List Int} {nm : Nat} {C : List (Nat × Nat × Nat)} {j : Nat} {W W' : World} (h4 : k4 < D) (h5 : k5 < D) (hx : x < D) (ha : xa < D) (hal : Alike D W W') (h : EnP k4 k5 x xa D l m nm C j W) : EnP k4 k5 x xa D l m nm C j W' := by
  obtain ⟨h1, h2, h3, h6, v, h7, h8⟩ := h
  exact ⟨boxed_same h1 (hal _ (by omega) (by omega)), boxed_same h2 (hal _ (by omega) (by omega)), h3, h6.same (hal _ (by omega) (by omega)), v, h7.same (hal _ (by omega) (by omega)) (fun g e => hal _ (by have := h8 g e; omega) (by have := h8 g e; omega)), h8⟩

theorem results_cells {fn : Func} {a b : Tmp} {t u : TypeId} (h : fn.results = #[.cell a t, .cell b u]) {tmps : Array Value} {P : Program} {w : World} {ad bd : Addr} {v z : Value} (hp : tmps.getD a undef = .pointer (some ad)) (hq : tmps.getD b undef = .pointer (some bd)) (hl : (loadVar t ad).run P w = .ok v w) (hm : (loadVar u bd).run P w = .ok z w) :
    (results fn tmps).run P w = .ok (.tuple #[v, z]) w := by
  have hp' : tmps[a]?.getD undef = .pointer (some ad) := by simpa using hp
  have hq' : tmps[b]?.getD undef = .pointer (some bd) := by simpa using hq
  simp [results, h, hp', hq', asAddr]
  rw [hl]
  simp [Result.andThen]
  rw [hm]
theorem load_bytes {W : World} {b : Nat} {v : Value} (h : Boxed W b 22 v) : (loadVar 22 ⟨b, 0, none⟩).run Tryz.prog W = .ok v W := by
  have c := h.cell
  simp [loadVar, go_sem, c]
theorem load_err {W : World} {b : Nat} {v : Value} (h : Boxed W b 29 v) : (loadVar 29 ⟨b, 0, none⟩).run Tryz.prog W = .ok v W := by
  have c := h.cell
  simp [loadVar, go_sem, c]
theorem new_nil (w : World) : ∃ W1 W2, w.alloc (.cells #[.pointer none] 68) = W1 ∧ W1.cell? ⟨w.heap.size, 0, none⟩ = some (.pointer none) ∧ W1.frozen? ⟨w.heap.size, 0, none⟩ = false ∧
    W1.setCell ⟨w.heap.size, 0, none⟩ (.pointer none) = W2 ∧ Below w.heap.size w W2 := by
  have h := Boxed.new w 68 (.pointer none)
  exact ⟨_, _, rfl, h.cell, h.frozen, rfl, (below_new w _).setCell (p := ⟨w.heap.size, 0, none⟩) (Nat.le_refl _) _⟩
theorem onlyN_normal {Q : Exit → Act → World → Prop} {a : Act} {w : World} (h : Q .normal a w) : onlyN Q .normal a w := h
/-- A region that draws its order, in a round: walked as one that holds S. -/
theorem wpIn_region_held {P : Program} {S : World → Prop} {id l m : Nat} {Q : Exit → Act → World → Prop} {a : Act} {w : World} {os : Array Oper} (hm : P.follows .mixedOrders = true) (hd : noDefer os = true) (hS : S w.drew)
    (h : S w.drew → wpAnyH P .any os (onlyN Q) S os.size (Array.replicate os.size false) a w.drew) : (Code.region id os true).wpIn (Fence.wide.inRound l) m P Q a w :=
  Code.wpIn_mono onlyN_le (wpIn_region_any hm (any_in_round l m hd _ _ _ _ (wpAny_of_held _ _ _ _ (h hS))))
/-- A Coder's pointer that is stored into a new variable. -/
theorem new_ptr (w : World) (b : Nat) : ∃ W1 W2, w.alloc (.cells #[.pointer none] 68) = W1 ∧ W1.cell? ⟨w.heap.size, 0, none⟩ = some (.pointer none) ∧ W1.frozen? ⟨w.heap.size, 0, none⟩ = false ∧
    W1.setCell ⟨w.heap.size, 0, none⟩ (.pointer (some ⟨b, 0, none⟩)) = W2 ∧ Boxed W2 w.heap.size 68 (.pointer (some ⟨b, 0, none⟩)) ∧ Below w.heap.size w W2 := by
  have h := Boxed.new w 68 (.pointer none)
  exact ⟨_, _, rfl, h.cell, h.frozen, rfl, h.set _, (below_new w _).setCell (p := ⟨w.heap.size, 0, none⟩) (Nat.le_refl _) _⟩

set_option maxRecDepth 100000 in
set_option maxHeartbeats 4000000 in
theorem fenc_in (w : World) (y s : Nat) (A : Option Addr) (l : List Int) (N cap : Nat) (hN : l.length = N) (hv : Vt y l) (hse : 2 ^ y = s) (hR : Ri w A l) (M : Option Addr) (m : List Int) (nm cm : Nat) (hM : m.length = nm) (hnm : nm ≤ 131072) (hRM : Ri w M m) :
    CallsIn Fence.wide 8 Tryz.prog 13 #[tb (y : Int) A N cap, .slice M nm cm] w (Eres w (feR (y : Int) l m)) := by
  refine callsIn_of_wp_marks Tryz.func13 rfl trivial ?_ rfl
  simp only [Tryz.ntmps13, List.size_toArray, List.length_cons, List.length_nil, Nat.reduceAdd, Nat.reduceSub, Array.replicate_succ, Array.replicate_zero, List.push_toArray, List.append_toArray, List.nil_append, List.cons_append]
  refine wpIn_wide.2 ?_
  have t0 : Tb ((((w.alloc (.cells #[.int .i64 (y : Int), .slice A N cap] 28)).alloc (.cells #[.slice M nm cm] 24)).alloc (.cells #[.slice none 0 0] 22)).alloc (.cells #[.int .i64 0] 29)) w.heap.size (y : Int) A N cap :=
    (((Tb.new w (y : Int) A N cap).same (Below.heap_alloc _ _ _ (by simp))).same (Below.heap_alloc _ _ _ (by simp; omega))).same (Below.heap_alloc _ _ _ (by simp; omega))
  have x1 := ((Boxed.new (w.alloc (.cells #[.int .i64 (y : Int), .slice A N cap] 28)) 24 (.slice M nm cm)).alloc (.cells #[.slice none 0 0] 22)).alloc (.cells #[.int .i64 0] 29)
  rw [World.size_alloc] at x1
  have x2 := (Boxed.new ((w.alloc (.cells #[.int .i64 (y : Int), .slice A N cap] 28)).alloc (.cells #[.slice M nm cm] 24)) 22 (.slice none 0 0)).alloc (.cells #[.int .i64 0] 29)
  rw [World.size_alloc, World.size_alloc] at x2
  have x3 := Boxed.new (((w.alloc (.cells #[.int .i64 (y : Int), .slice A N cap] 28)).alloc (.cells #[.slice M nm cm] 24)).alloc (.cells #[.slice none 0 0] 22)) 29 (.int .i64 0)
  rw [World.size_alloc, World.size_alloc, World.size_alloc] at x3
  have b1 : Below w.heap.size w ((((w.alloc (.cells #[.int .i64 (y : Int), .slice A N cap] 28)).alloc (.cells #[.slice M nm cm] 24)).alloc (.cells #[.slice none 0 0] 22)).alloc (.cells #[.int .i64 0] 29)) :=
    ((((Below.refl _ w).alloc (Nat.le_refl _) _).alloc (by simp) _).alloc (by simp; omega) _).alloc (by simp; omega) _
  obtain ⟨w1, hw1⟩ : ∃ w1, ((((w.alloc (.cells #[.int .i64 (y : Int), .slice A N cap] 28)).alloc (.cells #[.slice M nm cm] 24)).alloc (.cells #[.slice none 0 0] 22)).alloc (.cells #[.int .i64 0] 29)) = w1 := ⟨_, rfl⟩
  rw [hw1] at t0 x1 x2 x3 b1
  have c0 := t0.c0
  have c1 := t0.c1
  have NW := Lib.hid (new_ok w1 y s A l N cap hN hv hse (hR.below b1))
  have B1 := Lib.hid b1
  have X1 := Lib.hid x1
  have X2 := Lib.hid x2
  have X3 := Lib.hid x3
  have HNM := Lib.hid hM
  have RM := Lib.hid hRM
  have HV := Lib.hid hv
  have HN := Lib.hid hN
  have HSE := Lib.hid hse
  clear t0 x1 x2 x3 b1 hR hRM hv hN hse hM
  have kn : decide ((131072 : Int) < (nm : Int)) = false := decide_eq_false (by omega)
  go_upto_region 6 with (go_at_call 31; refine NW.out.mono ?_; rintro e w2 ⟨b, rfl, hc2, hb2⟩; have C2 := Lib.hid hc2; have D12 := Lib.hid hb2; obtain ⟨w3, w4, hw3, k0, f0, hw4, hx4, hb4⟩ := new_ptr w2 b; have X4 := Lib.hid hx4; have D24 := Lib.hid hb4; have e1 := (boxed_same X1.out ((below_on hb2 (Nat.le_refl _) hb4).block _ X1.out.lt)).cell; clear hc2 hb2 hx4 hb4)
  clear c0 c1 k0 f0
  obtain ⟨w5, hw5⟩ : ∃ W, w4.alloc (.cells #[.int .u8 0, .int .i64 0, .slice none 0 0] 74) = W := ⟨_, rfl⟩
  obtain ⟨w6, hw6⟩ : ∃ W, w5.alloc (.cells #[.int .i64 0, .int .i64 0] 75) = W := ⟨_, rfl⟩
  have BK := Lib.hid (callsIn_wide.1 (backw_in 8 M nm cm w6))
  have e6 : w6.cell? ⟨w.heap.size + 1, 0, none⟩ = some (.slice M nm cm) := by rw [← hw6, ← hw5]; exact ((((Below.refl _ w4).alloc (Nat.le_refl _) _).alloc (by simp) _).cell (cell_lt e1)).trans e1
  obtain ⟨w7, hw7⟩ : ∃ W, w6.alloc (.cells #[.slice M nm cm] 24) = W := ⟨_, rfl⟩
  rw [hw7] at BK
  go_wp2_with (go_at_call 32; refine BK.out.mono ?_; rintro e w7 ⟨rfl, rfl⟩)
  have z1 : w1.heap.size = w.heap.size + 4 := by rw [← hw1]; simp
  have z5 : w5.heap.size = w4.heap.size + 1 := by rw [← hw5]; simp
  have z6 : w6.heap.size = w5.heap.size + 1 := by rw [← hw6]; simp
  have z7 : w7.heap.size = w6.heap.size + 1 := by rw [← hw7]; simp
  have z2 := D12.out.size
  have z4 := X4.out.lt
  have b47 : Below w4.heap.size w4 w7 := by
    rw [← hw7, ← hw6, ← hw5]
    exact (((Below.refl _ w4).alloc (Nat.le_refl _) _).alloc (by simp) _).alloc (by simp; omega) _
  have b17 : Below w1.heap.size w1 w7 := below_on (below_on D12.out (Nat.le_refl _) D24.out) (Nat.le_refl _) b47
  have b07 : Below w.heap.size w w7 := below_on B1.out (Nat.le_refl _) b17
  have b27 : Below w2.heap.size w2 w7 := below_on D24.out (Nat.le_refl _) b47
  have p1 := boxed_same X1.out (b17.block _ X1.out.lt)
  have p4 := boxed_same X2.out (b17.block _ X2.out.lt)
  have p5 := boxed_same X3.out (b17.block _ X3.out.lt)
  have pc := boxed_same X4.out (b47.block _ X4.out.lt)
  have pB : Boxed w7 w6.heap.size 24 (.slice M nm cm) := by rw [← hw7]; exact Boxed.new _ _ _
  have pa : Ab w7 w5.heap.size 0 0 := by
    have h : Ab w6 w5.heap.size 0 0 := by rw [← hw6]; exact World.alloc_heap_new w5 _
    rw [← hw7]
    exact h.same (Below.heap_alloc _ _ _ (by omega))
  have pw : Wr w7 w4.heap.size (.slice none 0 0) [] := by
    have h : Wr w5 w4.heap.size (.slice none 0 0) [] := by rw [← hw5]; exact ⟨[], 0, 0, World.alloc_heap_new w4 _, by decide, Bt.Str.nil, World.ownsRow_nil _ _ _ _⟩
    refine h.same ?_ (fun g e => by cases e)
    rw [← hw7, ← hw6]
    exact (Below.heap_alloc _ _ _ (by simp; omega)).trans (Below.heap_alloc _ _ _ (by omega))
  have H0 : EnP (w.heap.size + 1 + 1) (w.heap.size + 1 + 1 + 1) w4.heap.size w5.heap.size w7.heap.size l m nm (CC y l) 0 w7 := by
    have e0 : m.drop (nm - 0) = [] := List.drop_eq_nil_of_le (by rw [HNM.out, Nat.sub_zero]; exact Nat.le_refl _)
    unfold EnP rst
    rw [e0]
    refine ⟨p4, p5, rfl, ?_, _, pw, fun g e => by cases e⟩
    unfold cu0 cu1
    simpa [fen] using pa
  have SZ := Lib.hid (And.intro z1 (And.intro z5 (And.intro z6 (And.intro z7 (And.intro z2 z4)))))
  have HC : Hid (∀ W, (∀ k, w1.heap.size ≤ k → k < w2.heap.size → W.heap[k]? = w7.heap[k]?) → Cdr W w1.heap.size b y s N l) := Lib.hid (fun W h => C2.out.same (fun k h1 h2 => (h k h1 h2).trans (b27.block k h2)))
  have F7 := Lib.hid (And.intro p1 (And.intro pc (And.intro pB b07)))
  clear p1 p4 p5 pc pB pa pw b47 b17 b07 b27 z1 z5 z6 z7 z2 z4 hw1 hw3 hw4 hw5 hw6 hw7 e1 e6 X1 X2 X3 X4 NW C2 D24 D12 BK kn
  have BL : Hid (∀ W, Chg (EnS (w.heap.size + 1 + 1) (w.heap.size + 1 + 1 + 1) w4.heap.size w5.heap.size w7.heap.size) w7 W → Below w.heap.size w W) := Lib.hid (fun W hc => F7.out.2.2.2.trans (hc.new (by have := SZ.out; omega) (fun k (e : _ ∨ _) => by have := SZ.out; omega)))
  refine (wpIn_wide (n := 8)).1 ?_
  refine range_s rfl (by decide) (gf := 67) (lb := #[.pointer (some ⟨w6.heap.size, 0, none⟩)]) rfl trivial (enters_of Tryz.func67 (by kernel_rfl) rfl)
    (N := nm) (enc := bkAt m nm) (Kp := KpB M m nm cm w6.heap.size) (fun _ => rfl) (backw_hands 7 (by decide) M m nm cm _ HNM.out (by omega))
    (EnS (w.heap.size + 1 + 1) (w.heap.size + 1 + 1 + 1) w4.heap.size w5.heap.size w7.heap.size) (fun (e : _ ∨ _) => by have := SZ.out; omega) (fun (e : _ ∨ _) => by have := SZ.out; omega)
    (EnP (w.heap.size + 1 + 1) (w.heap.size + 1 + 1 + 1) w4.heap.size w5.heap.size w7.heap.size l m nm (CC y l)) (EnX (w.heap.size + 1 + 1) (w.heap.size + 1 + 1 + 1) l m)
    (fun j W W' hal hp => hp.alike (by have := SZ.out; omega) (by have := SZ.out; omega) (by have := SZ.out; omega) (by have := SZ.out; omega) hal)
    (fun c W W' hal hp => ⟨hp.1, boxed_same hp.2.1 (hal _ (by have := SZ.out; omega) (by have := SZ.out; omega)), boxed_same hp.2.2.1 (hal _ (by have := SZ.out; omega) (by have := SZ.out; omega)), hp.2.2.2⟩)
    (fun j W hc _ => ⟨boxed_chg F7.out.2.2.1 hc (fun (e : _ ∨ _) => by have := SZ.out; omega), RM.out.below (BL.out W hc)⟩) H0
    (fun j => { tmps := #[tb (y : Int) A N cap, .slice M nm cm, .pointer (some ⟨w.heap.size, 0, none⟩), .pointer (some ⟨w.heap.size + 1, 0, none⟩), .pointer (some ⟨w.heap.size + 1 + 1, 0, none⟩), .pointer (some ⟨w.heap.size + 1 + 1 + 1, 0, none⟩), .pointer (some ⟨w2.heap.size, 0, none⟩), .int .i64 0,
        .pointer (some ⟨w4.heap.size, 0, none⟩), .pointer (some ⟨w5.heap.size, 0, none⟩), .int .i64 ((nm - 1 - j : Nat) : Int), .int .i64 (m[nm - 1 - j]?.getD 0), undef, undef, undef, undef,
        .tuple #[.pointer (some ⟨b, 0, none⟩), .int .i64 0], .agg #[.int .i64 (y : Int), .slice A N cap], .tuple #[.pointer (some ⟨b, 0, none⟩), .int .i64 0], .pointer (some ⟨b, 0, none⟩), .int .i64 0, .int .i64 0, .bool false, undef, .slice M nm cm, .int .i64 (nm : Int), .bool false, .slice M nm cm,
        .func (Fn.func 67) #[] #[.pointer (some ⟨w6.heap.size, 0, none⟩)], .int .i64 ((nm - 1 - j : Nat) : Int), .int .i64 (m[nm - 1 - j]?.getD 0), undef, undef, undef, undef, undef, undef, undef, undef, undef, undef, undef, undef, undef, undef, undef, undef, undef, undef, undef, undef, undef, undef, undef, undef, undef, undef, undef, undef, undef, undef, undef, undef, undef, undef, undef, undef, undef, undef, undef, undef, undef], defers := [] }) ?assign ?body ?done ?stop
  case assign =>
    intro lp j W2 K _ hK
    simp only [bkAt]
    gi_wp2
    exact hK
  case body =>
    intro lp j W2 hj hg2 hs2 hp2
    obtain ⟨hp4, hp5, hpA, hpa, v, hpw, hpr⟩ := hp2
    obtain ⟨i, hi⟩ : ∃ i, nm - 1 - j = i := ⟨_, rfl⟩
    have hij : nm - j = i + 1 := by omega
    have hij1 : nm - (j + 1) = i := by omega
    have hin : i < nm := by omega
    obtain ⟨z, hz⟩ : ∃ z, m[i]? = some z := ⟨_, List.getElem?_eq_getElem (by rw [HNM.out]; omega)⟩
    have hdr : m.drop i = z :: m.drop (i + 1) := by
      have h9 : i < m.length := by rw [HNM.out]; omega
      rw [List.drop_eq_getElem_cons h9]
      rw [List.getElem?_eq_getElem h9] at hz
      injection hz with hz
      rw [hz]
    rw [hij] at hpA hpa hpw
    obtain ⟨ss, hss, hx1, _⟩ := hasA_nat HV.out hpA
    have hrs : rst m (i + 1) = ss := by
      unfold rst
      rw [hss, List.map_map]
      conv => rhs; rw [← List.map_id ss]
      exact List.map_congr_left (fun x _ => by simp)
    have hsl : ss.length = j := by
      have := congrArg List.length hss
      rw [List.length_drop, List.length_map, HNM.out] at this
      omega
    rw [hrs] at hpa hpw
    obtain ⟨l1, l2, l3, l4⟩ := fen_lt (vt_mch HV.out) (sy_all HV.out hx1)
    rw [HSE.out] at l1 l2
    obtain ⟨t, ht⟩ : ∃ t, (fen (CC y l) ss).2.1 = t := ⟨_, rfl⟩
    obtain ⟨u, hu⟩ : ∃ u, (fen (CC y l) ss).1 = u := ⟨_, rfl⟩
    obtain ⟨L, hL⟩ : ∃ L, (fen (CC y l) ss).2.2 = L := ⟨_, rfl⟩
    have hFt : fen (CC y l) ss = (u, t, L) := by rw [← ht, ← hu, ← hL]
    rw [hFt] at l1 l2 l3 l4 hpa hpw
    simp only at l1 l2 l3 l4 hpw
    have hcd : Cdr W2 w1.heap.size b y s N l := HC.out W2 (fun k h1 h2 => hg2.block k (by have := SZ.out; omega) (fun (e : _ ∨ _) => by have := SZ.out; omega))
    obtain ⟨⟨i', v', p'⟩, hst⟩ : ∃ q, sot (CC y l) (decide (j < 2)) (t : Int) z = q := ⟨_, rfl⟩
    obtain ⟨E, hE⟩ : ∃ E, spe l z = E := ⟨_, rfl⟩
    obtain ⟨o, ho⟩ : ∃ o, i % 2 = o := ⟨_, rfl⟩
    have ho2 : o < 2 := by omega
    have hoo : o = 0 ∨ o = 1 := by omega
    have ho3 : (o : Int) < 2 := by omega
    have t2 : (i : Int).tmod 2 = (o : Int) := by
      rw [Int.tmod_eq_emod_of_nonneg (Int.natCast_nonneg _), ← ho]
      omega
    obtain ⟨i2, hi2⟩ : ∃ i2, i + 2 = i2 := ⟨_, rfl⟩
    have wi2 : IntKind.i64.wrap ((i : Int) + 2) = (i2 : Int) := by
      rw [show (i : Int) + 2 = (i2 : Int) by omega]
      exact IntWalk.i64_in _ (by omega)
    have kk : decide ((nm : Int) ≤ (i2 : Int)) = decide (j < 2) := by
      by_cases h : j < 2
      · rw [decide_eq_true h, decide_eq_true (by omega)]
      · rw [decide_eq_false h, decide_eq_false (by omega)]
    have kn2 : decide (nm ≤ i2) = decide (j < 2) := by
      by_cases h : j < 2
      · rw [decide_eq_true h, decide_eq_true (by omega)]
      · rw [decide_eq_false h, decide_eq_false (by omega)]
    obtain ⟨lo, hlo⟩ : ∃ lo, decide (j < 2) = lo := ⟨_, rfl⟩
    rw [hlo] at kk kn2
    have SO : Hid (∀ W, Below W2.heap.size W2 W → Calls Tryz.prog 33 #[.pointer (some ⟨b, 0, none⟩), .int .i64 z, .int .i64 (t : Int), .bool lo] W fun e w' => e = .returned (.tuple #[stv (i' : Int) (v' : Int) (p' : Int), .int .i64 E]) ∧ Below W.heap.size W w') := Lib.hid (fun W hb => by
      have := step_of W (hcd.below hb) HN.out HV.out HSE.out t l2 z lo
      rw [← hlo, hst, hE, hlo] at this
      exact this)
    have HSS : Hid (∀ W, Below W2.heap.size W2 W → W.cell? ⟨w2.heap.size, 0, none⟩ = some (.pointer (some ⟨b, 0, none⟩)) ∧ W.cell? ⟨w5.heap.size, o, none⟩ = some (.int .i64 (t : Int)) ∧ W.cell? ⟨w.heap.size + 1, 0, none⟩ = some (.slice M nm cm)) := Lib.hid (fun W hb => by
      refine ⟨(boxed_bel (boxed_chg F7.out.2.1 hg2 (fun (e : _ ∨ _) => by have := SZ.out; omega)) hb).cell, ?_, (boxed_bel (boxed_chg F7.out.1 hg2 (fun (e : _ ∨ _) => by have := SZ.out; omega)) hb).cell⟩
      have hab := hpa.same (hb.block _ hpa.lt)
      rcases hoo with e | e
      · have := hab.e0
        unfold cu0 at this
        rw [if_neg (by omega)] at this
        rw [e]; exact this
      · have := hab.e1
        unfold cu1 at this
        rw [if_pos (by omega)] at this
        rw [e]; exact this)
    have hi9 : i ≤ 131072 := by omega
    have wi : IntKind.i64.wrap (i : Int) = (i : Int) := IntWalk.i64_in _ (by omega)
    have HP := Lib.hid (And.intro hp4 (And.intro hp5 hpr))
    have HPW := Lib.hid hpw
    have HPA := Lib.hid hpa
    have HST := Lib.hid (And.intro hst (And.intro hlo (And.intro hFt (And.intro hrs (And.intro hsl hx1)))))
    have HDR := Lib.hid (And.intro hdr hpA)
    have HEE := Lib.hid hE
    have HIJ := Lib.hid (And.intro hi (And.intro hij (And.intro hij1 ho)))
    have HG2 := Lib.hid (And.intro hg2 hs2)
    have HLL := Lib.hid (And.intro l1 (And.intro l2 l3))
    have HHO := Lib.hid hoo
    simp only [hi, hz, Option.getD_some]
    clear hp4 hp5 hpA hpa hpw hpr hg2 hs2 hdr hss hrs hsl hx1 l1 l2 l3 l4 ht hu hL hFt hcd hst hlo hE hz hi hij hij1 ho hoo hi2
    gi_wp2
    have bW : Below W2.heap.size W2 W2.drew := below_drewN' (Below.refl _ W2) 1
    refine wpIn_region_held (S := fun W => W.cell? ⟨w2.heap.size, 0, none⟩ = some (.pointer (some ⟨b, 0, none⟩)) ∧ W.cell? ⟨w5.heap.size, o, none⟩ = some (.int .i64 (t : Int)) ∧ W.cell? ⟨w.heap.size + 1, 0, none⟩ = some (.slice M nm cm)) (by kernel_rfl) (by kernel_rfl) (by exact HSS.out _ bW) (fun hHeld => ?_)
    refine wpAnyH_take (i := 1) (oi := { dst := some 33, op := Op.move (Operand.tmp 11), type := 3, pos := "flow.go:29", after := #[], guard := none }) (v := ?_) rfl (by kernel_rfl) (by kernel_rfl) (by kernel_rfl) (fun _ _ _ h => h) (Or.inl ⟨by rfl, ?_⟩) (by assumption) ?_
    rotate_left
    · intro w hSw; (try dsimp only at hSw); go_simp; all_goals (with_reducible rfl)
    (try simp only [Act.put, List.setIfInBounds_toArray, List.set_cons_zero, List.set_cons_succ])
    refine wpAnyH_take (i := 2) (oi := { dst := some 34, op := Op.move (Operand.tmp 10), type := 3, pos := "flow.go:29", after := #[], guard := none }) (v := ?_) rfl (by kernel_rfl) (by kernel_rfl) (by kernel_rfl) (fun _ _ _ h => h) (Or.inl ⟨by rfl, ?_⟩) (by assumption) ?_
    rotate_left
    · intro w hSw; (try dsimp only at hSw); go_simp; all_goals (with_reducible rfl)
    (try simp only [Act.put, List.setIfInBounds_toArray, List.set_cons_zero, List.set_cons_succ])
    refine wpAnyH_take (i := 6) (oi := { dst := some 38, op := Op.move (Operand.tmp 10), type := 3, pos := "flow.go:29", after := #[], guard := none }) (v := ?_) rfl (by kernel_rfl) (by kernel_rfl) (by kernel_rfl) (fun _ _ _ h => h) (Or.inl ⟨by rfl, ?_⟩) (by assumption) ?_
    rotate_left
    · intro w hSw; (try dsimp only at hSw); go_simp; all_goals (with_reducible rfl)
    (try simp only [Act.put, List.setIfInBounds_toArray, List.set_cons_zero, List.set_cons_succ])
    refine wpAnyH_take (i := 0) (oi := { dst := some 32, op := Op.load 68 (Operand.tmp 6), type := 68, pos := "flow.go:29", after := #[], guard := none }) (v := ?_) rfl (by kernel_rfl) (by kernel_rfl) (by kernel_rfl) (fun _ _ _ h => h) (Or.inl ⟨by rfl, ?_⟩) (by assumption) ?_
    rotate_left
    · intro w hSw; (try dsimp only at hSw); go_simp; all_goals (with_reducible rfl)
    (try simp only [Act.put, List.setIfInBounds_toArray, List.set_cons_zero, List.set_cons_succ])
    refine wpAnyH_take (i := 8) (oi := { dst := some 40, op := Op.load 24 (Operand.tmp 3), type := 24, pos := "flow.go:29", after := #[], guard := none }) (v := ?_) rfl (by kernel_rfl) (by kernel_rfl) (by kernel_rfl) (fun _ _ _ h => h) (Or.inl ⟨by rfl, ?_⟩) (by assumption) ?_
    rotate_left
    · intro w hSw; (try dsimp only at hSw); go_simp; all_goals (with_reducible rfl)
    (try simp only [Act.put, List.setIfInBounds_toArray, List.set_cons_zero, List.set_cons_succ])
    refine wpAnyH_take (i := 3) (oi := { dst := some 35, op := Op.binOp BinOp.rem 3 (Operand.tmp 34) (Operand.const (Value.int IntKind.i64 2)) 3, type := 3, pos := "flow.go:29", after := #[{ on := 2, ground := Ground.data }], guard := none }) (v := ?_) rfl (by kernel_rfl) (by kernel_rfl) (by kernel_rfl) (fun _ _ _ h => h) (Or.inl ⟨by rfl, ?_⟩) (by assumption) ?_
    rotate_left
    · intro w hSw; (try dsimp only at hSw); go_simp; all_goals (with_reducible rfl)
    (try simp only [Act.put, List.setIfInBounds_toArray, List.set_cons_zero, List.set_cons_succ])
    refine wpAnyH_take (i := 4) (oi := { dst := some 36, op := Op.indexAddr 75 (Operand.tmp 9) (Operand.tmp 35), type := 0, pos := "flow.go:29", after := #[{ on := 3, ground := Ground.data }], guard := none }) (v := ?_) rfl (by kernel_rfl) (by kernel_rfl) (by kernel_rfl) (fun _ _ _ h => h) (Or.inl ⟨by rfl, ?_⟩) (by assumption) ?_
    rotate_left
    · intro w hSw; (try dsimp only at hSw); go_simp; all_goals (with_reducible rfl)
    (try simp only [Act.put, List.setIfInBounds_toArray, List.set_cons_zero, List.set_cons_succ])
    refine wpAnyH_take (i := 5) (oi := { dst := some 37, op := Op.load 3 (Operand.tmp 36), type := 3, pos := "flow.go:29", after := #[{ on := 4, ground := Ground.data }], guard := none }) (v := ?_) rfl (by kernel_rfl) (by kernel_rfl) (by kernel_rfl) (fun _ _ _ h => h) (Or.inl ⟨by rfl, ?_⟩) (by assumption) ?_
    rotate_left
    · intro w hSw; (try dsimp only at hSw); go_simp; all_goals (with_reducible rfl)
    (try simp only [Act.put, List.setIfInBounds_toArray, List.set_cons_zero, List.set_cons_succ])
    refine wpAnyH_take (i := 7) (oi := { dst := some 39, op := Op.binOp BinOp.add 3 (Operand.tmp 38) (Operand.const (Value.int IntKind.i64 2)) 3, type := 3, pos := "flow.go:29", after := #[{ on := 6, ground := Ground.data }], guard := none }) (v := ?_) rfl (by kernel_rfl) (by kernel_rfl) (by kernel_rfl) (fun _ _ _ h => h) (Or.inl ⟨by rfl, ?_⟩) (by assumption) ?_
    rotate_left
    · intro w hSw; (try dsimp only at hSw); go_simp; all_goals (with_reducible rfl)
    (try simp only [Act.put, List.setIfInBounds_toArray, List.set_cons_zero, List.set_cons_succ])
    refine wpAnyH_take (i := 9) (oi := { dst := some 41, op := Op.call { callee := Callee.builtin Builtin.len, args := #[Operand.tmp 40], argTypes := #[24] }, type := 3, pos := "flow.go:29", after := #[{ on := 8, ground := Ground.data }], guard := none }) (v := ?_) rfl (by kernel_rfl) (by kernel_rfl) (by kernel_rfl) (fun _ _ _ h => h) (Or.inl ⟨by rfl, ?_⟩) (by assumption) ?_
    rotate_left
    · intro w hSw; (try dsimp only at hSw); go_simp; all_goals (with_reducible rfl)
    (try simp only [Act.put, List.setIfInBounds_toArray, List.set_cons_zero, List.set_cons_succ])
    refine wpAnyH_take (i := 10) (oi := { dst := some 42, op := Op.binOp BinOp.geq 3 (Operand.tmp 39) (Operand.tmp 41) 3, type := 4, pos := "flow.go:29", after := #[{ on := 7, ground := Ground.data }, { on := 9, ground := Ground.data }], guard := none }) (v := ?_) rfl (by kernel_rfl) (by kernel_rfl) (by kernel_rfl) (fun _ _ _ h => h) (Or.inl ⟨by rfl, ?_⟩) (by assumption) ?_
    rotate_left
    · intro w hSw; (try dsimp only at hSw); go_simp; all_goals (with_reducible rfl)
    (try simp only [Act.put, List.setIfInBounds_toArray, List.set_cons_zero, List.set_cons_succ])
    refine wpAnyH_ready (rs := [11, 15]) (by kernel_rfl) (by simp) ?_
    refine AllReadyH.cons (o := { dst := some 43, op := Op.call { callee := Callee.value (Operand.func 33), args := #[Operand.tmp 32, Operand.tmp 33, Operand.tmp 37, Operand.tmp 42], argTypes := #[68, 3, 3, 4] }, type := 82, pos := "flow.go:29", after := #[{ on := 0, ground := Ground.data }, { on := 1, ground := Ground.data }, { on := 5, ground := Ground.data }, { on := 10, ground := Ground.data }], guard := none }) rfl (fun K hK => ?_) ?_
    · go_simp
      refine (SO.out _ bW).mono ?_
      rintro e W3 ⟨rfl, hb3⟩
      have bW := below_on bW (Nat.le_refl _) hb3
      clear hb3
      go_wp2_with fail
      refine hK.out _ _ (by exact HSS.out _ bW) (fun hHeld => ?_)
      clear hK K
      (try simp only [Act.put, List.setIfInBounds_toArray, List.set_cons_zero, List.set_cons_succ])
      refine wpAnyH_take (i := 12) (oi := { dst := some 31, op := Op.move (Operand.tmp 43), type := 82, pos := "flow.go:29", after := #[{ on := 11, ground := Ground.data }], guard := none }) (v := ?_) rfl (by kernel_rfl) (by kernel_rfl) (by kernel_rfl) (fun _ _ _ h => h) (Or.inl ⟨by rfl, ?_⟩) (by assumption) ?_
      rotate_left
      · intro w hSw; (try dsimp only at hSw); go_simp; all_goals (with_reducible rfl)
      (try simp only [Act.put, List.setIfInBounds_toArray, List.set_cons_zero, List.set_cons_succ])
      refine wpAnyH_take (i := 13) (oi := { dst := some 44, op := Op.extract (Operand.tmp 31) 0, type := 81, pos := "flow.go:29", after := #[{ on := 12, ground := Ground.data }], guard := none }) (v := ?_) rfl (by kernel_rfl) (by kernel_rfl) (by kernel_rfl) (fun _ _ _ h => h) (Or.inl ⟨by rfl, ?_⟩) (by assumption) ?_
      rotate_left
      · intro w hSw; (try dsimp only at hSw); go_simp; all_goals (with_reducible rfl)
      (try simp only [Act.put, List.setIfInBounds_toArray, List.set_cons_zero, List.set_cons_succ])
      refine wpAnyH_take (i := 14) (oi := { dst := some 45, op := Op.extract (Operand.tmp 31) 1, type := 29, pos := "flow.go:29", after := #[{ on := 12, ground := Ground.data }, { on := 16, ground := Ground.gcOnly Departure.lateStores }], guard := none }) (v := ?_) rfl (by kernel_rfl) (by kernel_rfl) (by kernel_rfl) (fun _ _ _ h => h) (Or.inl ⟨by rfl, ?_⟩) (by assumption) ?_
      rotate_left
      · intro w hSw; (try dsimp only at hSw); go_simp; all_goals (with_reducible rfl)
      (try simp only [Act.put, List.setIfInBounds_toArray, List.set_cons_zero, List.set_cons_succ])
      obtain ⟨W1, Wa, Wb, Wc, hW1, k0, f0, hWa, k1, f1, hWb, k2, f2, hWc, hS, hBS, hB⟩ := new_step bW (i' : Int) (v' : Int) (p' : Int)
      have FS := Lib.hid (And.intro hS hB)
      have bWs := Lib.hid bW.size
      have bW := bW.alloc bW.size (.cells #[.int .i64 0, .int .u64 0, .int .i64 0] 81)
      rw [hW1] at bW
      refine wpAnyH_ready (rs := [15]) (by kernel_rfl) (by simp) ?_
      refine AllReadyH.cons (o := { dst := some 12, op := Op.alloc 81, type := 0, pos := "flow.go:29", after := #[], guard := none }) rfl (fun K hK => ?_) AllReadyH.nil
      go_simp
      refine hK.out _ _ (by exact HSS.out _ bW) (fun hHeld => ?_)
      clear hK K
      (try simp only [Act.put, List.setIfInBounds_toArray, List.set_cons_zero, List.set_cons_succ])
      have bW := hB
      clear hS hBS hB
      refine wpAnyH_ready (rs := [16]) (by kernel_rfl) (by simp) ?_
      refine AllReadyH.cons (o := { dst := none, op := Op.store 81 (Operand.tmp 12) (Operand.tmp 44), type := 0, pos := "flow.go:29", after := #[{ on := 15, ground := Ground.data }, { on := 13, ground := Ground.data }, { on := 11, ground := Ground.chain }, { on := 0, ground := Ground.phase }, { on := 1, ground := Ground.phase }, { on := 2, ground := Ground.phase }, { on := 3, ground := Ground.phase }, { on := 4, ground := Ground.phase }, { on := 5, ground := Ground.phase }, { on := 6, ground := Ground.phase }, { on := 7, ground := Ground.phase }, { on := 8, ground := Ground.phase }, { on := 9, ground := Ground.phase }, { on := 10, ground := Ground.phase }, { on := 11, ground := Ground.phase }, { on := 12, ground := Ground.phase }, { on := 13, ground := Ground.phase }, { on := 14, ground := Ground.textOnly Departure.lateStores }, { on := 15, ground := Ground.phase }], guard := none }) rfl (fun K hK => ?_) AllReadyH.nil
      go_simp
      refine hK.out _ _ (by exact HSS.out _ bW) (fun hHeld => ?_)
      clear hK K
      (try simp only [Act.put, List.setIfInBounds_toArray, List.set_cons_zero, List.set_cons_succ])
      refine wpAnyH_take (i := 17) (oi := { dst := some 13, op := Op.assign (Operand.tmp 45), type := 29, pos := "flow.go:29", after := #[{ on := 14, ground := Ground.data }, { on := 16, ground := Ground.chain }, { on := 0, ground := Ground.phase }, { on := 1, ground := Ground.phase }, { on := 2, ground := Ground.phase }, { on := 3, ground := Ground.phase }, { on := 4, ground := Ground.phase }, { on := 5, ground := Ground.phase }, { on := 6, ground := Ground.phase }, { on := 7, ground := Ground.phase }, { on := 8, ground := Ground.phase }, { on := 9, ground := Ground.phase }, { on := 10, ground := Ground.phase }, { on := 11, ground := Ground.phase }, { on := 12, ground := Ground.phase }, { on := 13, ground := Ground.phase }, { on := 14, ground := Ground.phase }, { on := 15, ground := Ground.phase }, { on := 16, ground := Ground.phase }], guard := none }) (v := ?_) rfl (by kernel_rfl) (by kernel_rfl) (by kernel_rfl) (fun _ _ _ h => h) (Or.inl ⟨by rfl, ?_⟩) (by assumption) ?_
      rotate_left
      · intro w hSw; (try dsimp only at hSw); go_simp; all_goals (with_reducible rfl)
      (try simp only [Act.put, List.setIfInBounds_toArray, List.set_cons_zero, List.set_cons_succ])
      refine wpAnyH_done (by kernel_rfl) ?_ _
      refine onlyN_normal ?_
      have y0 := FS.out.1.c0
      have y1 := FS.out.1.c1
      have y2 := FS.out.1.c2
      obtain ⟨bh1, bh2, bh3⟩ := hHeld
      have AC := Lib.hid (HPA.out.same (bW.block _ HPA.out.lt))
      have af := AC.out.free o
      have BW := Lib.hid bW
      clear bW
      cases hz0 : hsb l z with
      | false =>
        have e2 : E = 2 := by rw [← HEE.out, spe, hz0]; rfl
        subst e2
        have q4 := boxed_bel HP.out.1 BW.out
        have q5 := boxed_bel HP.out.2.1 BW.out
        have c4 := q4.cell
        have f4 := q4.frozen
        obtain ⟨Wd, hWd⟩ : ∃ Wd, Wc.setCell ⟨w.heap.size + 1 + 1, 0, none⟩ (.slice none 0 0) = Wd := ⟨_, rfl⟩
        have r4 : Boxed Wd (w.heap.size + 1 + 1) 22 (.slice none 0 0) := by rw [← hWd]; exact q4.set _
        have r5 : Boxed Wd (w.heap.size + 1 + 1 + 1) 29 (.int .i64 0) := by rw [← hWd]; exact Boxed.other q5 (by omega) _
        have c5 := r5.cell
        have f5 := r5.frozen
        have CD : Hid (Chg (EnS (w.heap.size + 1 + 1) (w.heap.size + 1 + 1 + 1) w4.heap.size w5.heap.size w7.heap.size) W2 Wd) := Lib.hid (by rw [← hWd]; exact Chg.set (Chg.of_below BW.out) ⟨w.heap.size + 1 + 1, 0, none⟩ (.inl rfl) _)
        have R4 := Lib.hid r4
        have R5 := Lib.hid r5
        have HA : Hid (hasA l m = false) := Lib.hid (hasA_bad (List.mem_of_mem_drop (i := i) (by rw [HDR.out.1]; exact List.mem_cons_self ..)) hz0)
        clear q4 q5 r4 r5 y0 y1 y2 hz0
        gi_wp2
        exact ⟨CD.out.set ⟨w.heap.size + 1 + 1 + 1, 0, none⟩ (.inr (.inl rfl)) _, rfl, Boxed.other R4.out (by omega) _, R5.out.set _, HA.out⟩
      | true =>
        have e0 : E = 0 := by rw [← HEE.out, spe, hz0]; rfl
        subst e0
        obtain ⟨x, hxz, hxn, _⟩ := hsb_pos HV.out hz0
        obtain ⟨i9, v9, p9, g1, g2, g3, g4, g5⟩ := fen_step HV.out HST.out.2.2.2.2.2 hxn
        rw [HST.out.2.2.2.2.1, HST.out.2.2.1] at g1
        simp only at g1
        rw [← hxz, HST.out.1] at g1
        injection g1 with g1 g6
        injection g6 with g6 g7
        subst g1 g6 g7
        rw [HST.out.2.2.1] at g5
        simp only at g5
        rw [HSE.out] at g2
        have hL40 : L.length ≤ 1099511627776 := by
          have h1 := HLL.out.2.2
          have h2 : y * ss.length ≤ 9 * 131072 := Nat.mul_le_mul HV.out.log (by have := HST.out.2.2.2.2.1; omega)
          omega
        have PU := Lib.hid (Bt.put_ok (HPW.out.below BW.out) hL40 v' p' (by omega) g3)
        have GF := Lib.hid (And.intro g2 g5)
        have HZ := Lib.hid hz0
        have HXZ := Lib.hid hxz
        have SBI : Hid (∀ W5, Bt.Chg Wc W5 w4.heap.size v.ownBlock → W5.cell? ⟨W3.heap.size, 0, none⟩ = some (.int .i64 (i' : Int)) ∧ W5.cell? ⟨w5.heap.size, o, none⟩ = some (.int .i64 (t : Int)) ∧ Ab W5 w5.heap.size (cu0 (i + 1) (u, t, L)) (cu1 (i + 1) (u, t, L)) ∧ Boxed W5 (w.heap.size + 1 + 1) 22 (.slice none 0 0) ∧ Boxed W5 (w.heap.size + 1 + 1 + 1) 29 (.int .i64 0)) := Lib.hid (fun W5 hc => by
          have hsb : W2.heap.size ≤ W3.heap.size := by have := bWs.out; omega
          have hlt := HPW.out.lt
          have h1 := FS.out.1.same (hc.block _ FS.out.1.lt (by omega) (fun e => by have := HPW.out.row_lt e.symm; omega))
          have h2 : W5.heap[w5.heap.size]? = Wc.heap[w5.heap.size]? := hc.block _ AC.out.lt (by have := SZ.out; omega) (fun e => by have := HP.out.2.2 _ e.symm; have := SZ.out; omega)
          have b4 := boxed_bel HP.out.1 BW.out
          have b5 := boxed_bel HP.out.2.1 BW.out
          exact ⟨h1.c0, (World.cell?_of_block h2).trans bh2, AC.out.same h2, boxed_same b4 (hc.block _ b4.lt (by have := SZ.out; omega) (fun e => by have := HP.out.2.2 _ e.symm; have := SZ.out; omega)), boxed_same b5 (hc.block _ b5.lt (by have := SZ.out; omega) (fun e => by have := HP.out.2.2 _ e.symm; have := SZ.out; omega))⟩)
        have hi9 : i' ≤ 512 := by have := HV.out.size; have := HSE.out; omega
        clear y0 af bh1 bh2 bh3 g2 g3 g4 g5 hL40 hz0 hxz
        gi_wp2_with fail
        refine ⟨trivial, (CallsIn.inRound _ (callsIn_wide.2 PU.out)).mono ?_⟩
        rintro e W5 ⟨rfl, v5, hw5, hc5, hn5⟩
        obtain ⟨d0, d1, d2, d4, d5⟩ := SBI.out W5 hc5
        have d3 := d2.free o
        have D2 := Lib.hid d2
        have D45 := Lib.hid (And.intro d4 d5)
        have HW5 := Lib.hid hw5
        have HC5 := Lib.hid hc5
        have HN5 := Lib.hid hn5
        obtain ⟨Wf, hWf⟩ : ∃ Wf, W5.setCell ⟨w5.heap.size, o, none⟩ (.int .i64 (i' : Int)) = Wf := ⟨_, rfl⟩
        have HWF := Lib.hid hWf
        clear d2 d4 d5 hw5 hc5 hn5 SBI PU y1 y2
        gi_wp2
        refine ⟨?_, enp_next (v := v5) HZ.out HDR.out.1 HDR.out.2 HXZ.out HST.out.2.2.2.1 GF.out.2 HIJ.out.2.2.1 ?_ ?_ D2.out HIJ.out.2.2.2 HWF.out ?_ ?_⟩
        · rw [← HWF.out]
          exact ((Chg.of_below BW.out).trans (chg_of_bt HC5.out (.inr (.inr (.inl rfl))) (fun g e => .inr (.inr (.inr (.inr (HP.out.2.2 g e))))))).set ⟨w5.heap.size, o, none⟩ (.inr (.inr (.inr (.inl rfl)))) _
        · rw [← HWF.out]
          exact boxed_same D45.out.1 (Below.heap_setCell _ _ _ _ (by show w.heap.size + 1 + 1 ≠ w5.heap.size; have := SZ.out; omega))
        · rw [← HWF.out]
          exact boxed_same D45.out.2 (Below.heap_setCell _ _ _ _ (by show w.heap.size + 1 + 1 + 1 ≠ w5.heap.size; have := SZ.out; omega))
        · rw [← HWF.out]
          have hrow : ∀ g, v5.ownBlock = some g → w7.heap.size + 2 ≤ g := fun g e => by
            rcases HN5.out with h | ⟨g', h, h2⟩
            · exact HP.out.2.2 g (h ▸ e)
            · rw [h] at e
              injection e with e
              have := BW.out.size
              have := HG2.out.2
              omega
          exact HW5.out.same (Below.heap_setCell _ _ _ _ (by show w4.heap.size ≠ w5.heap.size; have := SZ.out; omega)) (fun g e => Below.heap_setCell _ _ _ _ (by show g ≠ w5.heap.size; have := hrow g e; have := SZ.out; omega))
        · intro g e
          rcases HN5.out with h | ⟨g', h, h2⟩
          · exact HP.out.2.2 g (h ▸ e)
          · rw [h] at e
            injection e with e
            have := BW.out.size
            have := HG2.out.2
            omega
    · refine AllReadyH.cons (o := { dst := some 12, op := Op.alloc 81, type := 0, pos := "flow.go:29", after := #[], guard := none }) rfl (fun K hK => ?_) AllReadyH.nil
      go_simp
      have bW := (below_new W2 (.cells #[.int .i64 0, .int .u64 0, .int .i64 0] 81))
      have s1 := Sb.new W2 0 0 0
      have bW := below_drewN' bW 1
      have s1 : Sb ((W2.alloc (.cells #[.int .i64 0, .int .u64 0, .int .i64 0] 81)).drewN 1) W2.heap.size 0 0 0 := s1
      obtain ⟨W1, hW1⟩ : ∃ W1, (W2.alloc (.cells #[.int .i64 0, .int .u64 0, .int .i64 0] 81)).drew = W1 := ⟨_, rfl⟩
      have bW : Below W2.heap.size W2 W1 := by rw [← hW1]; exact bW
      have S1 : Hid (Sb W1 W2.heap.size 0 0 0) := Lib.hid (by rw [← hW1]; exact s1)
      clear s1
      rw [hW1]
      clear hW1
      refine hK.out _ _ (by exact HSS.out _ bW) (fun hHeld => ?_)
      clear hK K
      (try simp only [Act.put, List.setIfInBounds_toArray, List.set_cons_zero, List.set_cons_succ])
      refine wpAnyH_ready (rs := [11]) (by kernel_rfl) (by simp) ?_
      refine AllReadyH.cons (o := { dst := some 43, op := Op.call { callee := Callee.value (Operand.func 33), args := #[Operand.tmp 32, Operand.tmp 33, Operand.tmp 37, Operand.tmp 42], argTypes := #[68, 3, 3, 4] }, type := 82, pos := "flow.go:29", after := #[{ on := 0, ground := Ground.data }, { on := 1, ground := Ground.data }, { on := 5, ground := Ground.data }, { on := 10, ground := Ground.data }], guard := none }) rfl (fun K hK => ?_) AllReadyH.nil
      go_simp
      refine (SO.out _ bW).mono ?_
      rintro e W3 ⟨rfl, hb3⟩
      have bW := below_on bW (Nat.le_refl _) hb3
      obtain ⟨Wa, Wb, Wc, k0, f0, hWa, k1, f1, hWb, k2, f2, hWc, hS, hB, _⟩ := set_step (S1.out.below hb3) (i' : Int) (v' : Int) (p' : Int) bW (Nat.le_refl _)
      have FS := Lib.hid (And.intro hS hB)
      clear hb3
      go_wp2_with fail
      refine hK.out _ _ (by exact HSS.out _ bW) (fun hHeld => ?_)
      clear hK K
      (try simp only [Act.put, List.setIfInBounds_toArray, List.set_cons_zero, List.set_cons_succ])
      have bW := hB
      clear hS hB
      refine wpAnyH_take (i := 12) (oi := { dst := some 31, op := Op.move (Operand.tmp 43), type := 82, pos := "flow.go:29", after := #[{ on := 11, ground := Ground.data }], guard := none }) (v := ?_) rfl (by kernel_rfl) (by kernel_rfl) (by kernel_rfl) (fun _ _ _ h => h) (Or.inl ⟨by rfl, ?_⟩) (by assumption) ?_
      rotate_left
      · intro w hSw; (try dsimp only at hSw); go_simp; all_goals (with_reducible rfl)
      (try simp only [Act.put, List.setIfInBounds_toArray, List.set_cons_zero, List.set_cons_succ])
      refine wpAnyH_take (i := 13) (oi := { dst := some 44, op := Op.extract (Operand.tmp 31) 0, type := 81, pos := "flow.go:29", after := #[{ on := 12, ground := Ground.data }], guard := none }) (v := ?_) rfl (by kernel_rfl) (by kernel_rfl) (by kernel_rfl) (fun _ _ _ h => h) (Or.inl ⟨by rfl, ?_⟩) (by assumption) ?_
      rotate_left
      · intro w hSw; (try dsimp only at hSw); go_simp; all_goals (with_reducible rfl)
      (try simp only [Act.put, List.setIfInBounds_toArray, List.set_cons_zero, List.set_cons_succ])
      refine wpAnyH_take (i := 14) (oi := { dst := some 45, op := Op.extract (Operand.tmp 31) 1, type := 29, pos := "flow.go:29", after := #[{ on := 12, ground := Ground.data }, { on := 16, ground := Ground.gcOnly Departure.lateStores }], guard := none }) (v := ?_) rfl (by kernel_rfl) (by kernel_rfl) (by kernel_rfl) (fun _ _ _ h => h) (Or.inl ⟨by rfl, ?_⟩) (by assumption) ?_
      rotate_left
      · intro w hSw; (try dsimp only at hSw); go_simp; all_goals (with_reducible rfl)
      (try simp only [Act.put, List.setIfInBounds_toArray, List.set_cons_zero, List.set_cons_succ])
      refine wpAnyH_ready (rs := [16]) (by kernel_rfl) (by simp) ?_
      refine AllReadyH.cons (o := { dst := none, op := Op.store 81 (Operand.tmp 12) (Operand.tmp 44), type := 0, pos := "flow.go:29", after := #[{ on := 15, ground := Ground.data }, { on := 13, ground := Ground.data }, { on := 11, ground := Ground.chain }, { on := 0, ground := Ground.phase }, { on := 1, ground := Ground.phase }, { on := 2, ground := Ground.phase }, { on := 3, ground := Ground.phase }, { on := 4, ground := Ground.phase }, { on := 5, ground := Ground.phase }, { on := 6, ground := Ground.phase }, { on := 7, ground := Ground.phase }, { on := 8, ground := Ground.phase }, { on := 9, ground := Ground.phase }, { on := 10, ground := Ground.phase }, { on := 11, ground := Ground.phase }, { on := 12, ground := Ground.phase }, { on := 13, ground := Ground.phase }, { on := 14, ground := Ground.textOnly Departure.lateStores }, { on := 15, ground := Ground.phase }], guard := none }) rfl (fun K hK => ?_) AllReadyH.nil
      go_simp
      refine hK.out _ _ (by exact HSS.out _ bW) (fun hHeld => ?_)
      clear hK K
      (try simp only [Act.put, List.setIfInBounds_toArray, List.set_cons_zero, List.set_cons_succ])
      refine wpAnyH_take (i := 17) (oi := { dst := some 13, op := Op.assign (Operand.tmp 45), type := 29, pos := "flow.go:29", after := #[{ on := 14, ground := Ground.data }, { on := 16, ground := Ground.chain }, { on := 0, ground := Ground.phase }, { on := 1, ground := Ground.phase }, { on := 2, ground := Ground.phase }, { on := 3, ground := Ground.phase }, { on := 4, ground := Ground.phase }, { on := 5, ground := Ground.phase }, { on := 6, ground := Ground.phase }, { on := 7, ground := Ground.phase }, { on := 8, ground := Ground.phase }, { on := 9, ground := Ground.phase }, { on := 10, ground := Ground.phase }, { on := 11, ground := Ground.phase }, { on := 12, ground := Ground.phase }, { on := 13, ground := Ground.phase }, { on := 14, ground := Ground.phase }, { on := 15, ground := Ground.phase }, { on := 16, ground := Ground.phase }], guard := none }) (v := ?_) rfl (by kernel_rfl) (by kernel_rfl) (by kernel_rfl) (fun _ _ _ h => h) (Or.inl ⟨by rfl, ?_⟩) (by assumption) ?_
      rotate_left
      · intro w hSw; (try dsimp only at hSw); go_simp; all_goals (with_reducible rfl)
      (try simp only [Act.put, List.setIfInBounds_toArray, List.set_cons_zero, List.set_cons_succ])
      refine wpAnyH_done (by kernel_rfl) ?_ _
      refine onlyN_normal ?_
      have y0 := FS.out.1.c0
      have y1 := FS.out.1.c1
      have y2 := FS.out.1.c2
      obtain ⟨bh1, bh2, bh3⟩ := hHeld
      have AC := Lib.hid (HPA.out.same (bW.block _ HPA.out.lt))
      have af := AC.out.free o
      have BW := Lib.hid bW
      clear bW
      cases hz0 : hsb l z with
      | false =>
        have e2 : E = 2 := by rw [← HEE.out, spe, hz0]; rfl
        subst e2
        have q4 := boxed_bel HP.out.1 BW.out
        have q5 := boxed_bel HP.out.2.1 BW.out
        have c4 := q4.cell
        have f4 := q4.frozen
        obtain ⟨Wd, hWd⟩ : ∃ Wd, Wc.setCell ⟨w.heap.size + 1 + 1, 0, none⟩ (.slice none 0 0) = Wd := ⟨_, rfl⟩
        have r4 : Boxed Wd (w.heap.size + 1 + 1) 22 (.slice none 0 0) := by rw [← hWd]; exact q4.set _
        have r5 : Boxed Wd (w.heap.size + 1 + 1 + 1) 29 (.int .i64 0) := by rw [← hWd]; exact Boxed.other q5 (by omega) _
        have c5 := r5.cell
        have f5 := r5.frozen
        have CD : Hid (Chg (EnS (w.heap.size + 1 + 1) (w.heap.size + 1 + 1 + 1) w4.heap.size w5.heap.size w7.heap.size) W2 Wd) := Lib.hid (by rw [← hWd]; exact Chg.set (Chg.of_below BW.out) ⟨w.heap.size + 1 + 1, 0, none⟩ (.inl rfl) _)
        have R4 := Lib.hid r4
        have R5 := Lib.hid r5
        have HA : Hid (hasA l m = false) := Lib.hid (hasA_bad (List.mem_of_mem_drop (i := i) (by rw [HDR.out.1]; exact List.mem_cons_self ..)) hz0)
        clear q4 q5 r4 r5 y0 y1 y2 hz0
        gi_wp2
        exact ⟨CD.out.set ⟨w.heap.size + 1 + 1 + 1, 0, none⟩ (.inr (.inl rfl)) _, rfl, Boxed.other R4.out (by omega) _, R5.out.set _, HA.out⟩
      | true =>
        have e0 : E = 0 := by rw [← HEE.out, spe, hz0]; rfl
        subst e0
        obtain ⟨x, hxz, hxn, _⟩ := hsb_pos HV.out hz0
        obtain ⟨i9, v9, p9, g1, g2, g3, g4, g5⟩ := fen_step HV.out HST.out.2.2.2.2.2 hxn
        rw [HST.out.2.2.2.2.1, HST.out.2.2.1] at g1
        simp only at g1
        rw [← hxz, HST.out.1] at g1
        injection g1 with g1 g6
        injection g6 with g6 g7
        subst g1 g6 g7
        rw [HST.out.2.2.1] at g5
        simp only at g5
        rw [HSE.out] at g2
        have hL40 : L.length ≤ 1099511627776 := by
          have h1 := HLL.out.2.2
          have h2 : y * ss.length ≤ 9 * 131072 := Nat.mul_le_mul HV.out.log (by have := HST.out.2.2.2.2.1; omega)
          omega
        have PU := Lib.hid (Bt.put_ok (HPW.out.below BW.out) hL40 v' p' (by omega) g3)
        have GF := Lib.hid (And.intro g2 g5)
        have HZ := Lib.hid hz0
        have HXZ := Lib.hid hxz
        have SBI : Hid (∀ W5, Bt.Chg Wc W5 w4.heap.size v.ownBlock → W5.cell? ⟨W2.heap.size, 0, none⟩ = some (.int .i64 (i' : Int)) ∧ W5.cell? ⟨w5.heap.size, o, none⟩ = some (.int .i64 (t : Int)) ∧ Ab W5 w5.heap.size (cu0 (i + 1) (u, t, L)) (cu1 (i + 1) (u, t, L)) ∧ Boxed W5 (w.heap.size + 1 + 1) 22 (.slice none 0 0) ∧ Boxed W5 (w.heap.size + 1 + 1 + 1) 29 (.int .i64 0)) := Lib.hid (fun W5 hc => by
          have hsb : W2.heap.size ≤ W2.heap.size := Nat.le_refl _
          have hlt := HPW.out.lt
          have h1 := FS.out.1.same (hc.block _ FS.out.1.lt (by omega) (fun e => by have := HPW.out.row_lt e.symm; omega))
          have h2 : W5.heap[w5.heap.size]? = Wc.heap[w5.heap.size]? := hc.block _ AC.out.lt (by have := SZ.out; omega) (fun e => by have := HP.out.2.2 _ e.symm; have := SZ.out; omega)
          have b4 := boxed_bel HP.out.1 BW.out
          have b5 := boxed_bel HP.out.2.1 BW.out
          exact ⟨h1.c0, (World.cell?_of_block h2).trans bh2, AC.out.same h2, boxed_same b4 (hc.block _ b4.lt (by have := SZ.out; omega) (fun e => by have := HP.out.2.2 _ e.symm; have := SZ.out; omega)), boxed_same b5 (hc.block _ b5.lt (by have := SZ.out; omega) (fun e => by have := HP.out.2.2 _ e.symm; have := SZ.out; omega))⟩)
        have hi9 : i' ≤ 512 := by have := HV.out.size; have := HSE.out; omega
        clear y0 af bh1 bh2 bh3 g2 g3 g4 g5 hL40 hz0 hxz
        gi_wp2_with fail
        refine ⟨trivial, (CallsIn.inRound _ (callsIn_wide.2 PU.out)).mono ?_⟩
        rintro e W5 ⟨rfl, v5, hw5, hc5, hn5⟩
        obtain ⟨d0, d1, d2, d4, d5⟩ := SBI.out W5 hc5
        have d3 := d2.free o
        have D2 := Lib.hid d2
        have D45 := Lib.hid (And.intro d4 d5)
        have HW5 := Lib.hid hw5
        have HC5 := Lib.hid hc5
        have HN5 := Lib.hid hn5
        obtain ⟨Wf, hWf⟩ : ∃ Wf, W5.setCell ⟨w5.heap.size, o, none⟩ (.int .i64 (i' : Int)) = Wf := ⟨_, rfl⟩
        have HWF := Lib.hid hWf
        clear d2 d4 d5 hw5 hc5 hn5 SBI PU y1 y2
        gi_wp2
        refine ⟨?_, enp_next (v := v5) HZ.out HDR.out.1 HDR.out.2 HXZ.out HST.out.2.2.2.1 GF.out.2 HIJ.out.2.2.1 ?_ ?_ D2.out HIJ.out.2.2.2 HWF.out ?_ ?_⟩
        · rw [← HWF.out]
          exact ((Chg.of_below BW.out).trans (chg_of_bt HC5.out (.inr (.inr (.inl rfl))) (fun g e => .inr (.inr (.inr (.inr (HP.out.2.2 g e))))))).set ⟨w5.heap.size, o, none⟩ (.inr (.inr (.inr (.inl rfl)))) _
        · rw [← HWF.out]
          exact boxed_same D45.out.1 (Below.heap_setCell _ _ _ _ (by show w.heap.size + 1 + 1 ≠ w5.heap.size; have := SZ.out; omega))
        · rw [← HWF.out]
          exact boxed_same D45.out.2 (Below.heap_setCell _ _ _ _ (by show w.heap.size + 1 + 1 + 1 ≠ w5.heap.size; have := SZ.out; omega))
        · rw [← HWF.out]
          have hrow : ∀ g, v5.ownBlock = some g → w7.heap.size + 2 ≤ g := fun g e => by
            rcases HN5.out with h | ⟨g', h, h2⟩
            · exact HP.out.2.2 g (h ▸ e)
            · rw [h] at e
              injection e with e
              have := BW.out.size
              have := HG2.out.2
              omega
          exact HW5.out.same (Below.heap_setCell _ _ _ _ (by show w4.heap.size ≠ w5.heap.size; have := SZ.out; omega)) (fun g e => Below.heap_setCell _ _ _ _ (by show g ≠ w5.heap.size; have := hrow g e; have := SZ.out; omega))
        · intro g e
          rcases HN5.out with h | ⟨g', h, h2⟩
          · exact HP.out.2.2 g (h ▸ e)
          · rw [h] at e
            injection e with e
            have := BW.out.size
            have := HG2.out.2
            omega
  case done =>
    intro W2 hK hg2 hs2 hp2
    obtain ⟨hp4, hp5, hpA, hpa, v, hpw, hpr⟩ := hp2
    rw [Nat.sub_self] at hpA hpa hpw
    rw [List.drop_zero] at hpA
    obtain ⟨ss, hss, hx1, _⟩ := hasA_nat HV.out hpA
    have hrs : rst m 0 = ss := by
      unfold rst
      rw [List.drop_zero, hss, List.map_map]
      conv => rhs; rw [← List.map_id ss]
      exact List.map_congr_left (fun x _ => by simp)
    have hsl : ss.length = nm := by
      have := congrArg List.length hss
      rw [List.length_map, HNM.out] at this
      omega
    have hfe : feR (y : Int) l m = (0, fby y l ss) := by rw [hss]; exact feR_ok HV.out hx1 (by omega)
    rw [hrs] at hpa hpw
    obtain ⟨l1, l2, l3, l4⟩ := fen_lt (vt_mch HV.out) (sy_all HV.out hx1)
    rw [HSE.out] at l1 l2
    obtain ⟨c, hc⟩ : ∃ c, (fen (CC y l) ss).2.1 = c := ⟨_, rfl⟩
    obtain ⟨a, ha⟩ : ∃ a, (fen (CC y l) ss).1 = a := ⟨_, rfl⟩
    obtain ⟨L, hL⟩ : ∃ L, (fen (CC y l) ss).2.2 = L := ⟨_, rfl⟩
    have hF : fen (CC y l) ss = (a, c, L) := by rw [← hc, ← ha, ← hL]
    rw [hF] at l1 l2 l3 hpa hpw
    simp only at l1 l2 l3 hpw
    have hpa : Ab W2 w5.heap.size a c := hpa
    have hfb : fby y l ss = closed (L ++ ((if 2 ≤ nm then bitsOf c y else []) ++ (if 1 ≤ nm then bitsOf a y else []))) := by
      unfold fby fbs
      rw [hF, hsl]
    have hL40 : L.length ≤ 2000000 := by
      have h2 : y * ss.length ≤ 9 * 131072 := Nat.mul_le_mul HV.out.log (by omega)
      omega
    have hs5 : s ≤ 512 := by have := HV.out.size; have := HSE.out; omega
    obtain ⟨n2, hn2⟩ : ∃ n2, min 2 nm = n2 := ⟨_, rfl⟩
    have hmin : min (2 : Int) (nm : Int) = (n2 : Int) := by omega
    have hn22 : n2 ≤ 2 := by omega
    have hn23 : (n2 : Int) ≤ 2 := by omega
    have e1 := (boxed_chg F7.out.1 hg2 (fun (e : _ ∨ _) => by have := SZ.out; omega)).cell
    have BK := Lib.hid (callsIn_wide.1 (backw_in 8 (some ⟨w5.heap.size, 0, none⟩) n2 2 W2))
    obtain ⟨W3, hW3⟩ : ∃ W, W2.alloc (.cells #[.slice (some ⟨w5.heap.size, 0, none⟩) n2 2] 24) = W := ⟨_, rfl⟩
    rw [hW3] at BK
    have HB := Lib.hid (BL.out W2 hg2)
    have HCW : Hid (∀ W, (∀ k, w1.heap.size ≤ k → k < w2.heap.size → W.heap[k]? = W2.heap[k]?) → Cdr W w1.heap.size b y s N l) := Lib.hid (fun W h => HC.out W (fun k h1 h2 => (h k h1 h2).trans (hg2.block k (by have := SZ.out; omega) (fun (e : _ ∨ _) => by have := SZ.out; omega))))
    have PC := Lib.hid (boxed_chg F7.out.2.1 hg2 (fun (e : _ ∨ _) => by have := SZ.out; omega))
    have P4 := Lib.hid hp4
    have P5 := Lib.hid hp5
    have PA := Lib.hid hpa
    have PW := Lib.hid (And.intro hpw hpr)
    have HK := Lib.hid hK
    have HS2 := Lib.hid hs2
    have HFE := Lib.hid (And.intro hfe hfb)
    have HN2 := Lib.hid hn2
    have hLs := Lib.hid (And.intro l1 (And.intro l2 (And.intro hL40 hs5)))
    clear hK hg2 hs2 hp4 hp5 hpA hpa hpw hpr hss hx1 hrs hsl hfe l1 l2 l3 l4 hc ha hL hF hfb hL40 hs5 hn2
    go_wp2_with (go_at_call 32; refine BK.out.mono ?_; rintro e W3 ⟨rfl, rfl⟩)
    have z3 : W3.heap.size = W2.heap.size + 1 := by rw [← hW3]; simp
    have b3 : Below W2.heap.size W2 W3 := by rw [← hW3]; exact below_new W2 _
    have n3 : Boxed W3 W2.heap.size 24 (.slice (some ⟨w5.heap.size, 0, none⟩) n2 2) := by rw [← hW3]; exact Boxed.new _ _ _
    have B3 := Lib.hid b3
    have N3 := Lib.hid n3
    have SZ3 := Lib.hid z3
    have ROW : Hid (∀ g, v.ownBlock = some g → w7.heap.size + 2 ≤ g ∧ g < W2.heap.size) := Lib.hid (fun g e => ⟨PW.out.2 g e, PW.out.1.row_lt e⟩)
    have XLT : Hid (w4.heap.size < W2.heap.size ∧ w5.heap.size < W2.heap.size ∧ w7.heap.size < W2.heap.size) := Lib.hid ⟨PW.out.1.lt, PA.out.lt, by have := HS2.out; omega⟩
    have NS : Hid (∀ k, k < w7.heap.size + 2 → k ≠ w4.heap.size → ¬ EnS2 w4.heap.size W3.heap.size v k) := Lib.hid (fun k hk h1 (e : _ ∨ _) => by
      rcases e with e | e | e
      · exact h1 e
      · have := (ROW.out k e.symm).1
        omega
      · have := HS2.out; have := SZ3.out; omega)
    have NS2 : Hid (∀ k, W2.heap.size ≤ k → k < W3.heap.size + 2 → ¬ EnS2 w4.heap.size W3.heap.size v k) := Lib.hid (fun k hk h1 (e : _ ∨ _) => by
      rcases e with e | e | e
      · have := XLT.out.1; omega
      · have := (ROW.out k e.symm).2; omega
      · omega)
    have KB : Hid (∀ W, Chg (EnS2 w4.heap.size W3.heap.size v) W3 W → (∀ k, k < w7.heap.size + 2 → k ≠ w4.heap.size → W.heap[k]? = W2.heap[k]?) ∧ W.heap[W2.heap.size]? = W3.heap[W2.heap.size]?) := Lib.hid (fun W hc => ⟨fun k h1 h2 => (hc.block k (by have := HS2.out; have := SZ3.out; omega) (NS.out k h1 h2)).trans (B3.out.block k (by have := HS2.out; omega)), hc.block _ (by have := SZ3.out; omega) (NS2.out _ (Nat.le_refl _) (by have := SZ3.out; omega))⟩)
    have H20 : EnP2 w4.heap.size W3.heap.size v L y n2 a c 0 W3 := ⟨v, by rw [bk2_zero, List.append_nil]; exact PW.out.1.below B3.out, fun g e => .inl e.symm⟩
    clear hW3 z3 b3 n3 e1 BK
    refine (wpIn_wide (n := 8)).1 ?_
    refine range_s rfl (by decide) (gf := 67) (lb := #[.pointer (some ⟨W2.heap.size, 0, none⟩)]) rfl trivial (enters_of Tryz.func67 (by kernel_rfl) rfl)
      (N := n2) (enc := bkAt (([(a : Int), (c : Int)]).take n2) n2) (Kp := KpB (some ⟨w5.heap.size, 0, none⟩) (([(a : Int), (c : Int)]).take n2) n2 2 W2.heap.size) (fun _ => rfl) (backw_hands 7 (by decide) _ _ n2 2 _ (by simp; omega) (by omega))
      (EnS2 w4.heap.size W3.heap.size v) (NS2.out _ (by have := SZ3.out; omega) (by omega)) (NS2.out _ (by have := SZ3.out; omega) (by omega))
      (EnP2 w4.heap.size W3.heap.size v L y n2 a c) (fun _ _ => False)
      (fun j W W' hal hp => by
        obtain ⟨v', h1, h2⟩ := hp
        refine ⟨v', h1.same (hal _ (by have := XLT.out; have := SZ3.out; omega) (by have := XLT.out; have := SZ3.out; omega)) (fun g e => ?_), h2⟩
        rcases h2 g e with h3 | h3
        · have := ROW.out g h3.symm
          exact hal _ (by have := SZ3.out; omega) (by have := SZ3.out; omega)
        · exact hal _ (by omega) (by omega))
      (fun _ _ _ _ h => h)
      (fun j W hc _ => ⟨boxed_same N3.out (KB.out W hc).2, ab_ri (PA.out.same ((KB.out W hc).1 _ (by have := SZ.out; omega) (by have := SZ.out; omega))) n2⟩) H20
      (fun j => { tmps := #[tb (y : Int) A N cap, .slice M nm cm, .pointer (some ⟨w.heap.size, 0, none⟩), .pointer (some ⟨w.heap.size + 1, 0, none⟩), .pointer (some ⟨w.heap.size + 1 + 1, 0, none⟩), .pointer (some ⟨w.heap.size + 1 + 1 + 1, 0, none⟩), .pointer (some ⟨w2.heap.size, 0, none⟩), .int .i64 0,
        .pointer (some ⟨w4.heap.size, 0, none⟩), .pointer (some ⟨w5.heap.size, 0, none⟩), undef, undef, undef, undef, undef, .int .i64 ((([(a : Int), (c : Int)]).take n2)[n2 - 1 - j]?.getD 0),
        .tuple #[.pointer (some ⟨b, 0, none⟩), .int .i64 0], .agg #[.int .i64 (y : Int), .slice A N cap], .tuple #[.pointer (some ⟨b, 0, none⟩), .int .i64 0], .pointer (some ⟨b, 0, none⟩), .int .i64 0, .int .i64 0, .bool false, undef, .slice M nm cm, .int .i64 (nm : Int), .bool false, .slice M nm cm,
        .func (Fn.func 67) #[] #[.pointer (some ⟨w6.heap.size, 0, none⟩)], undef, undef, undef, undef, undef, undef, undef, undef, undef, undef, undef, undef, undef, undef, undef, undef, undef, undef, undef, undef, undef, undef, undef, undef, undef, undef, undef, undef, undef, undef, .slice M nm cm, .int .i64 (nm : Int), .int .i64 (n2 : Int), .slice (some ⟨w5.heap.size, 0, none⟩) n2 2, .func (Fn.func 67) #[] #[.pointer (some ⟨W2.heap.size, 0, none⟩)],
        .int .i64 ((n2 - 1 - j : Nat) : Int), .int .i64 ((([(a : Int), (c : Int)]).take n2)[n2 - 1 - j]?.getD 0), undef, undef, undef, undef, undef, undef], defers := [] }) ?assign2 ?body2 ?done2 ?stop2
    case assign2 =>
      intro lp j W4 K _ hK
      simp only [bkAt]
      gi_wp2
      exact hK
    case stop2 =>
      intro cd W4 hK hg hs hp
      exact hp.elim
    case body2 =>
      intro lp j W4 hj hg hs hp
      obtain ⟨v4, hw4, hr4⟩ := hp
      obtain ⟨e, he, hea, hbk⟩ := bk2_step (y := y) (a := a) (c := c) hn22 hj
      have hes : e < s := by have := hLs.out; rcases hea with h | h <;> omega
      have he5 : e ≤ 512 := by have := hLs.out; omega
      have KW := KB.out W4 hg
      have pc := boxed_same PC.out (KW.1 _ (by have := SZ.out; omega) (by have := SZ.out; omega))
      have pcc := pc.cell
      obtain ⟨gc, go, V, hcd⟩ := HCW.out W4 (fun k h1 h2 => KW.1 k (by have := SZ.out; omega) (by have := SZ.out; omega))
      have LG := Lib.hid (log_any W4 hcd.blk)
      have hy9 : y ≤ 9 := HV.out.log
      have PU := Lib.hid (Bt.put_ok hw4 (by have h1 := bk2_len y n2 a c j; have h2 := hLs.out; rw [List.length_append]; omega) e y (by omega) (by rw [HSE.out]; exact hes))
      have we : IntKind.u64.wrap (e : Int) = (e : Int) := Int.emod_eq_of_lt (by omega) (by show (e : Int) < 18446744073709551616; omega)
      have HR4 := Lib.hid hr4
      have HBK := Lib.hid hbk
      have HG := Lib.hid (And.intro hg hs)
      have HW4 := Lib.hid hw4
      simp only [he, Option.getD_some]
      clear hg hs hw4 hr4 hea he hbk KW pc hcd
      gi_wp2_with fail
      refine ⟨trivial, (CallsIn.inRound _ (callsIn_wide.2 LG.out)).mono ?_⟩
      rintro e9 W4 ⟨rfl, rfl⟩
      gi_wp2_with fail
      refine ⟨trivial, (CallsIn.inRound _ (callsIn_wide.2 PU.out)).mono ?_⟩
      rintro e9 W5 ⟨rfl, v5, hw5, hc5, hn5⟩
      have HW5 := Lib.hid hw5
      have HC5 := Lib.hid hc5
      have HN5 := Lib.hid hn5
      clear hw5 hc5 hn5 pcc
      gi_wp2
      refine ⟨chg_of_bt HC5.out (.inl rfl) (fun g e => .inr (HR4.out g e)), v5, ?_, fun g e => ?_⟩
      · rw [HBK.out, ← List.append_assoc]
        exact HW5.out
      · rcases HN5.out with h | ⟨g', h, h2⟩
        · exact HR4.out g (h ▸ e)
        · rw [h] at e
          injection e with e
          have := HG.out.2
          exact .inr (by omega)
    case done2 =>
      intro W4 hK2 hg hs hp
      obtain ⟨v4, hw4, hr4⟩ := hp
      have hln : (L ++ bk2 y n2 a c n2).length ≤ 1099511627776 := by have h1 := bk2_len y n2 a c n2; have h2 := hLs.out; have h3 := HV.out.log; rw [List.length_append]; omega
      rw [bk2_all y nm a c HN2.out] at hw4 hln
      have CL := Bt.close_any hw4 hln
      rw [← HFE.out.2] at CL
      obtain ⟨F, hF⟩ : ∃ F, fby y l ss = F := ⟨_, rfl⟩
      rw [hF] at CL
      have CL := Lib.hid CL
      have KW := KB.out W4 hg
      have P44 := Lib.hid (boxed_same P4.out (KW.1 _ (by have := SZ.out; omega) (by have := SZ.out; omega)))
      have P45 := Lib.hid (boxed_same P5.out (KW.1 _ (by have := SZ.out; omega) (by have := SZ.out; omega)))
      have HK4 : Hid (W4.heap[w7.heap.size]? = some (.deferred (some []))) := Lib.hid ((KW.1 _ (by omega) (by have := SZ.out; omega)).trans HK.out)
      have HK5 := Lib.hid hK2
      have B4 : Hid (Below w.heap.size w W4) := Lib.hid ((HB.out.trans (B3.out.mono HB.out.size)).trans (hg.new (Nat.le_trans HB.out.size B3.out.size) (fun k (e : _ ∨ _) => by
        rcases e with e | e | e
        · have := SZ.out; omega
        · have := (ROW.out k e.symm).1; have := SZ.out; omega
        · have := SZ3.out; have := HB.out.size; omega)))
      have HFF := Lib.hid hF
      have LT4 : Hid (w7.heap.size < W3.heap.size ∧ W3.heap.size < W4.heap.size) := Lib.hid ⟨by have := XLT.out; have := SZ3.out; omega, by omega⟩
      clear hK2 hg hs hw4 hr4 hln hF KW
      go_wp2_with (go_at_call 36; refine CL.out.mono ?_; rintro e W5 ⟨A5, c5, rfl, ho5, hb5⟩; have q4 := boxed_bel P44.out hb5; have c4 := q4.cell; have f4 := q4.frozen; obtain ⟨Wd, hWd⟩ : ∃ Wd, W5.setCell ⟨w.heap.size + 1 + 1, 0, none⟩ (.slice A5 F.length c5) = Wd := ⟨_, rfl⟩; have r4 : Boxed Wd (w.heap.size + 1 + 1) 22 (.slice A5 F.length c5) := (by rw [← hWd]; exact q4.set _); have r5 : Boxed Wd (w.heap.size + 1 + 1 + 1) 29 (.int .i64 0) := (by rw [← hWd]; exact Boxed.other (boxed_bel P45.out hb5) (by omega) _); have c5' := r5.cell; have f5' := r5.frozen; have R4 := Lib.hid r4; have R5 := Lib.hid r5; have O5 := Lib.hid ho5; have B5 := Lib.hid hb5; have HWD := Lib.hid hWd; clear q4 r4 r5 ho5 hb5)
      obtain ⟨We, hWe⟩ : ∃ We, Wd.setCell ⟨w.heap.size + 1 + 1 + 1, 0, none⟩ (.int .i64 0) = We := ⟨_, rfl⟩
      rw [hWe]
      have re4 : Boxed We (w.heap.size + 1 + 1) 22 (.slice A5 F.length c5) := by rw [← hWe]; exact Boxed.other R4.out (by omega) _
      have re5 : Boxed We (w.heap.size + 1 + 1 + 1) 29 (.int .i64 0) := by rw [← hWe]; exact R5.out.set _
      have hbk : ∀ k, k ≠ w.heap.size + 1 + 1 → k ≠ w.heap.size + 1 + 1 + 1 → We.heap[k]? = W5.heap[k]? := fun k h1 h2 => by
        rw [← hWe, ← HWD.out]
        exact (Below.heap_setCell _ _ _ _ h2).trans (Below.heap_setCell _ _ _ _ h1)
      have k1 : We.heap[W3.heap.size]? = some (.deferred (some [])) := (hbk _ (by have := LT4.out; have := SZ.out; omega) (by have := LT4.out; have := SZ.out; omega)).trans ((B5.out.block _ LT4.out.2).trans HK5.out)
      have k2 : We.heap[w7.heap.size]? = some (.deferred (some [])) := (hbk _ (by have := SZ.out; omega) (by have := SZ.out; omega)).trans ((B5.out.block _ (by have := LT4.out; omega)).trans HK4.out)
      have BE : Below w.heap.size w We := by
        rw [← hWe, ← HWD.out]
        exact ((below_on B4.out (Nat.le_refl _) B5.out).setCell (p := ⟨w.heap.size + 1 + 1, 0, none⟩) (by show w.heap.size ≤ w.heap.size + 1 + 1; omega) _).setCell (p := ⟨w.heap.size + 1 + 1 + 1, 0, none⟩) (by show w.heap.size ≤ w.heap.size + 1 + 1 + 1; omega) _
      have oe : We.ownsRow W4.heap.size 5 1 (.slice A5 F.length c5) F.length (F.map Bt.byt) := ro_same O5.out (fun g e => hbk g (by have := own_ge O5.out e; have := LT4.out; have := SZ.out; omega) (by have := own_ge O5.out e; have := LT4.out; have := SZ.out; omega))
      refine ⟨by simp, .inl ⟨_, _, rfl, run_takeDeferred k1, ?_⟩⟩
      refine ⟨by simp, .inl ⟨_, _, rfl, run_takeDeferred ((World.putObj_heap_other (by have := LT4.out; omega)).trans k2), ?_⟩⟩
      have qe4 : Boxed ((We.putObj W3.heap.size (.deferred none)).putObj w7.heap.size (.deferred none)) (w.heap.size + 1 + 1) 22 (.slice A5 F.length c5) := boxed_same (boxed_same re4 (World.putObj_heap_other (by have := LT4.out; have := SZ.out; omega))) (World.putObj_heap_other (by have := SZ.out; omega))
      have qe5 : Boxed ((We.putObj W3.heap.size (.deferred none)).putObj w7.heap.size (.deferred none)) (w.heap.size + 1 + 1 + 1) 29 (.int .i64 0) := boxed_same (boxed_same re5 (World.putObj_heap_other (by have := LT4.out; have := SZ.out; omega))) (World.putObj_heap_other (by have := SZ.out; omega))
      have BF := below_put (below_put BE W3.heap.size (by have := LT4.out; have := SZ.out; omega) (.deferred none)) w7.heap.size (by have := SZ.out; omega) (.deferred none)
      have of : ((We.putObj W3.heap.size (.deferred none)).putObj w7.heap.size (.deferred none)).ownsRow W4.heap.size 5 1 (.slice A5 F.length c5) F.length (F.map Bt.byt) := ro_same oe (fun g e => (World.putObj_heap_other (by have := own_ge oe e; have := LT4.out; omega)).trans (World.putObj_heap_other (by have := own_ge oe e; have := LT4.out; omega)))
      generalize (We.putObj W3.heap.size (.deferred none)).putObj w7.heap.size (.deferred none) = Wz at qe4 qe5 BF of ⊢
      refine ⟨_, results_cells rfl rfl rfl (load_bytes qe4) (load_err qe5), ?_⟩
      rw [HFE.out.1, HFF.out]
      exact ⟨_, _, _, rfl, BF, Bt.own_base of B4.out.size⟩
  case stop =>
    rintro c W2 hK hg2 hs2 ⟨rfl, hp4, hp5, hA⟩
    have HK := Lib.hid hK
    have HB := Lib.hid (BL.out W2 hg2)
    have P4 := Lib.hid hp4
    have P5 := Lib.hid hp5
    have HA : Hid (feR (y : Int) l m = (2, [])) := Lib.hid (feR_arg (vt_iff.2 ⟨y, rfl, HV.out⟩) (.inr hA))
    clear hK hg2 hp4 hp5 hA
    gi_wp2
    refine ⟨by simp, .inl ⟨_, _, rfl, run_takeDeferred HK.out, ?_⟩⟩
    have q4 : Boxed (W2.putObj w7.heap.size (.deferred none)) (w.heap.size + 1 + 1) 22 (.slice none 0 0) := boxed_same P4.out (World.putObj_heap_other (by have := SZ.out; omega))
    have q5 : Boxed (W2.putObj w7.heap.size (.deferred none)) (w.heap.size + 1 + 1 + 1) 29 (.int .i64 2) := boxed_same P5.out (World.putObj_heap_other (by have := SZ.out; omega))
    have BD := below_put HB.out w7.heap.size (by have := SZ.out; omega) (.deferred none)
    generalize W2.putObj w7.heap.size (.deferred none) = Wd at q4 q5 BD ⊢
    refine ⟨_, results_cells rfl rfl rfl (load_bytes q4) (load_err q5), ?_⟩
    rw [HA.out]
    exact ⟨none, 0, 0, rfl, BD, World.ownsRow_nil _ _ _ _⟩

set_option maxRecDepth 100000 in
set_option maxHeartbeats 4000000 in
theorem fenc_bad (w : World) (y : Int) (A : Option Addr) (l : List Int) (N cap : Nat) (hN : l.length = N) (hb : N ≤ 100000) (hR : Ri w A l) (M : Option Addr) (nm cm : Nat) (hv : vt y l 256 9 = false) :
    Calls Tryz.prog 13 #[tb y A N cap, .slice M nm cm] w (Eres w (13, [])) := by
  have t0 : Tb ((((w.alloc (.cells #[.int .i64 y, .slice A N cap] 28)).alloc (.cells #[.slice M nm cm] 24)).alloc (.cells #[.slice none 0 0] 22)).alloc (.cells #[.int .i64 0] 29)) w.heap.size y A N cap :=
    (((Tb.new w y A N cap).same (Below.heap_alloc _ _ _ (by simp))).same (Below.heap_alloc _ _ _ (by simp; omega))).same (Below.heap_alloc _ _ _ (by simp; omega))
  have x1 := ((Boxed.new (w.alloc (.cells #[.int .i64 y, .slice A N cap] 28)) 24 (.slice M nm cm)).alloc (.cells #[.slice none 0 0] 22)).alloc (.cells #[.int .i64 0] 29)
  rw [World.size_alloc] at x1
  have x2 := (Boxed.new ((w.alloc (.cells #[.int .i64 y, .slice A N cap] 28)).alloc (.cells #[.slice M nm cm] 24)) 22 (.slice none 0 0)).alloc (.cells #[.int .i64 0] 29)
  rw [World.size_alloc, World.size_alloc] at x2
  have x3 := Boxed.new (((w.alloc (.cells #[.int .i64 y, .slice A N cap] 28)).alloc (.cells #[.slice M nm cm] 24)).alloc (.cells #[.slice none 0 0] 22)) 29 (.int .i64 0)
  rw [World.size_alloc, World.size_alloc, World.size_alloc] at x3
  have b1 : Below w.heap.size w ((((w.alloc (.cells #[.int .i64 y, .slice A N cap] 28)).alloc (.cells #[.slice M nm cm] 24)).alloc (.cells #[.slice none 0 0] 22)).alloc (.cells #[.int .i64 0] 29)) :=
    ((((Below.refl _ w).alloc (Nat.le_refl _) _).alloc (by simp) _).alloc (by simp; omega) _).alloc (by simp; omega) _
  obtain ⟨w1, hw1⟩ : ∃ w1, ((((w.alloc (.cells #[.int .i64 y, .slice A N cap] 28)).alloc (.cells #[.slice M nm cm] 24)).alloc (.cells #[.slice none 0 0] 22)).alloc (.cells #[.int .i64 0] 29)) = w1 := ⟨_, rfl⟩
  rw [hw1] at t0 x1 x2 x3 b1
  have c0 := t0.c0
  have c1 := t0.c1
  have NW := Lib.hid (new_bad w1 y A l N cap hN (by omega) hv (hR.below b1))
  have B1 := Lib.hid b1
  have X2 := Lib.hid x2
  have X3 := Lib.hid x3
  clear t0 x1 x2 x3 b1 hR hN hv
  go_enter Tryz.func13, Tryz.ntmps13
  go_wp2_with (go_at_call 31; refine NW.out.mono ?_; rintro e w2 ⟨rfl, hb2⟩; obtain ⟨w3, w4, hw3, k0, f0, hw4, hb4⟩ := new_nil w2; have hb24 := below_on hb2 (Nat.le_refl _) hb4; have x4 := boxed_bel X2.out hb24; have c4 := x4.cell; have f4 := x4.frozen; obtain ⟨w5, hw5⟩ : ∃ W, w4.setCell ⟨w.heap.size + 1 + 1, 0, none⟩ (.slice none 0 0) = W := ⟨_, rfl⟩; have x5 : Boxed w5 (w.heap.size + 1 + 1) 22 (.slice none 0 0) := (by rw [← hw5]; exact x4.set _); have x6 : Boxed w5 (w.heap.size + 1 + 1 + 1) 29 (.int .i64 0) := (by rw [← hw5]; exact Boxed.other (boxed_bel X3.out hb24) (by omega) _); have c5 := x6.cell; have f5 := x6.frozen; have BE : Hid (Below w.heap.size w w5) := Lib.hid (by rw [← hw5]; exact (below_on B1.out (Nat.le_refl _) hb24).setCell (p := ⟨w.heap.size + 1 + 1, 0, none⟩) (by show w.heap.size ≤ w.heap.size + 1 + 1; omega) _); have X5 := Lib.hid x5; have X6 := Lib.hid x6; clear hb2 hb4 hb24 x4 x5 x6)
  refine bodyPost_ret (results_cells rfl rfl rfl (load_bytes (Boxed.other X5.out (by omega) _)) (load_err (X6.out.set _))) rfl ?_
  exact ⟨none, 0, 0, rfl, BE.out.setCell (p := ⟨w.heap.size + 1 + 1 + 1, 0, none⟩) (by show w.heap.size ≤ w.heap.size + 1 + 1 + 1; omega) _, World.ownsRow_nil _ _ _ _⟩

set_option maxRecDepth 100000 in
set_option maxHeartbeats 4000000 in
theorem fenc_many (w : World) (y s : Nat) (A : Option Addr) (l : List Int) (N cap : Nat) (hN : l.length = N) (hv : Vt y l) (hse : 2 ^ y = s) (hR : Ri w A l) (M : Option Addr) (nm cm : Nat) (hnm : 131072 < nm) (hnb : nm ≤ 1000000) :
    Calls Tryz.prog 13 #[tb (y : Int) A N cap, .slice M nm cm] w (Eres w (2, [])) := by
  have t0 : Tb ((((w.alloc (.cells #[.int .i64 (y : Int), .slice A N cap] 28)).alloc (.cells #[.slice M nm cm] 24)).alloc (.cells #[.slice none 0 0] 22)).alloc (.cells #[.int .i64 0] 29)) w.heap.size (y : Int) A N cap :=
    (((Tb.new w (y : Int) A N cap).same (Below.heap_alloc _ _ _ (by simp))).same (Below.heap_alloc _ _ _ (by simp; omega))).same (Below.heap_alloc _ _ _ (by simp; omega))
  have x1 := ((Boxed.new (w.alloc (.cells #[.int .i64 (y : Int), .slice A N cap] 28)) 24 (.slice M nm cm)).alloc (.cells #[.slice none 0 0] 22)).alloc (.cells #[.int .i64 0] 29)
  rw [World.size_alloc] at x1
  have x2 := (Boxed.new ((w.alloc (.cells #[.int .i64 (y : Int), .slice A N cap] 28)).alloc (.cells #[.slice M nm cm] 24)) 22 (.slice none 0 0)).alloc (.cells #[.int .i64 0] 29)
  rw [World.size_alloc, World.size_alloc] at x2
  have x3 := Boxed.new (((w.alloc (.cells #[.int .i64 (y : Int), .slice A N cap] 28)).alloc (.cells #[.slice M nm cm] 24)).alloc (.cells #[.slice none 0 0] 22)) 29 (.int .i64 0)
  rw [World.size_alloc, World.size_alloc, World.size_alloc] at x3
  have b1 : Below w.heap.size w ((((w.alloc (.cells #[.int .i64 (y : Int), .slice A N cap] 28)).alloc (.cells #[.slice M nm cm] 24)).alloc (.cells #[.slice none 0 0] 22)).alloc (.cells #[.int .i64 0] 29)) :=
    ((((Below.refl _ w).alloc (Nat.le_refl _) _).alloc (by simp) _).alloc (by simp; omega) _).alloc (by simp; omega) _
  obtain ⟨w1, hw1⟩ : ∃ w1, ((((w.alloc (.cells #[.int .i64 (y : Int), .slice A N cap] 28)).alloc (.cells #[.slice M nm cm] 24)).alloc (.cells #[.slice none 0 0] 22)).alloc (.cells #[.int .i64 0] 29)) = w1 := ⟨_, rfl⟩
  rw [hw1] at t0 x1 x2 x3 b1
  have c0 := t0.c0
  have c1 := t0.c1
  have NW := Lib.hid (new_ok w1 y s A l N cap hN hv hse (hR.below b1))
  have B1 := Lib.hid b1
  have X1 := Lib.hid x1
  have X2 := Lib.hid x2
  have X3 := Lib.hid x3
  have kn : decide ((131072 : Int) < (nm : Int)) = true := decide_eq_true (by omega)
  clear t0 x1 x2 x3 b1 hR hN hv hse
  go_enter Tryz.func13, Tryz.ntmps13
  go_wp2_with (go_at_call 31; refine NW.out.mono ?_; rintro e w2 ⟨b, rfl, _, hb2⟩; obtain ⟨w3, w4, hw3, k0, f0, hw4, _, hb4⟩ := new_ptr w2 b; have hb24 := below_on hb2 (Nat.le_refl _) hb4; have e1 := (boxed_bel X1.out hb24).cell; have x4 := boxed_bel X2.out hb24; have c4 := x4.cell; have f4 := x4.frozen; obtain ⟨w5, hw5⟩ : ∃ W, w4.setCell ⟨w.heap.size + 1 + 1, 0, none⟩ (.slice none 0 0) = W := ⟨_, rfl⟩; have x5 : Boxed w5 (w.heap.size + 1 + 1) 22 (.slice none 0 0) := (by rw [← hw5]; exact x4.set _); have x6 : Boxed w5 (w.heap.size + 1 + 1 + 1) 29 (.int .i64 0) := (by rw [← hw5]; exact Boxed.other (boxed_bel X3.out hb24) (by omega) _); have c5 := x6.cell; have f5 := x6.frozen; have BE : Hid (Below w.heap.size w w5) := Lib.hid (by rw [← hw5]; exact (below_on B1.out (Nat.le_refl _) hb24).setCell (p := ⟨w.heap.size + 1 + 1, 0, none⟩) (by show w.heap.size ≤ w.heap.size + 1 + 1; omega) _); have X5 := Lib.hid x5; have X6 := Lib.hid x6; clear hb2 hb4 hb24 x4 x5 x6)
  refine bodyPost_ret (results_cells rfl rfl rfl (load_bytes (Boxed.other X5.out (by omega) _)) (load_err (X6.out.set _))) rfl ?_
  exact ⟨none, 0, 0, rfl, BE.out.setCell (p := ⟨w.heap.size + 1 + 1 + 1, 0, none⟩) (by show w.heap.size ≤ w.heap.size + 1 + 1 + 1; omega) _, World.ownsRow_nil _ _ _ _⟩

/-- Encode, at any arguments. -/
theorem fenc_any (w : World) (y : Int) (A : Option Addr) (l : List Int) (N cap : Nat) (hN : l.length = N) (hb : N ≤ 100000) (_ : N ≤ cap) (hR : Ri w A l) (M : Option Addr) (m : List Int) (nm cm : Nat) (hM : m.length = nm) (hb5 : nm ≤ 1000000) (_ : nm ≤ cm) (hRM : Ri w M m) :
    Calls Tryz.prog 13 #[tb y A N cap, .slice M nm cm] w (Eres w (feR y l m)) := by
  cases hv : vt y l 256 9 with
  | false =>
    rw [feR_bad m hv]
    exact fenc_bad w y A l N cap hN hb hR M nm cm hv
  | true =>
    obtain ⟨k, rfl, hvt⟩ := vt_iff.1 hv
    by_cases hn : 131072 < nm
    · rw [feR_arg hv (.inl (by omega))]
      exact fenc_many w k _ A l N cap hN hvt rfl hR M nm cm hn hb5
    · exact callsIn_wide.1 (fenc_in w k _ A l N cap hN hvt rfl hR M m nm cm hM (by omega) hRM)


end Go.Proofs.YtnlhokfhkohdpaaGreat
