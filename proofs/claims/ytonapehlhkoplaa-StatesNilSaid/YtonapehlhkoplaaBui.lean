/-
  What cells.Build does: it returns the cell of each state of a valid table, in new memory, or the error. Nothing that was there has changed. Condition: a slice can hold the norms.
-/
import Derived.Test.YtonapehlhkoplaaRw3
namespace Go.Proofs.Ytonapehlhkoplaa
open Go.RowKit Go.Shelf Go.Maps

set_option maxRecDepth 100000 in
set_option maxHeartbeats 4000000 in
theorem build_ok (w : World) (y s : Nat) (A : Option Addr) (l : List Int) (N c : Nat) (hN : l.length = N) (hv : Vt y l) (hse : 2 ^ y = s) (hR : Ri w A l) :
    Calls Try.prog 30 #[tb y A N c] w fun e w' => ∃ g, e = .returned (.tuple #[.slice (some ⟨g, 0, none⟩) s s, .int .i64 0]) ∧ w'.ownsRow w.heap.size 35 3 (.slice (some ⟨g, 0, none⟩) s s) s (flat3 (cls y l (spl s l))) ∧ Below w.heap.size w w' := by
  have hN2 : N ≤ 256 := by rw [← hN]; exact hv.len
  have hy9 := hv.log
  have hs5 : s ≤ 512 := by rw [← hse]; exact hv.size
  have hs1 : 1 ≤ s := by rw [← hse]; exact Nat.one_le_two_pow
  have b1 : Below w.heap.size w (w.alloc (.cells #[.int .i64 (y : Int), .slice A N c] 24)) := (Below.refl _ w).alloc (Nat.le_refl _) _
  have t1 := Tb.new w (y : Int) A N c
  obtain ⟨w1, hw1⟩ : ∃ w1, w.alloc (.cells #[.int .i64 (y : Int), .slice A N c] 24) = w1 := ⟨_, rfl⟩
  rw [hw1] at b1 t1
  have c0 := t1.c0
  have c1 := t1.c1
  have SP : Hid (Calls Try.prog 29 #[tb y A N c] w1 fun e w' => ∃ g, e = .returned (.tuple #[.slice (some ⟨g, 0, none⟩) s s, .int .i64 0]) ∧ w'.ownsRow w1.heap.size 3 1 (.slice (some ⟨g, 0, none⟩) s s) s ((spl s l).map nv) ∧ Below w1.heap.size w1 w') := Lib.hid (spread_ok w1 y s A l N c hN hv hse (hR.below b1))
  have B1 := Lib.hid b1
  have T1 := Lib.hid t1
  have HL : Hid ((cls y l (spl s l)).length = s ∧ (spl s l).length = s) := Lib.hid ⟨by rw [cls_len, spl_len], spl_len s l⟩
  have HA : Hid (∀ ad, A = some ad → ad.block < w.heap.size) := Lib.hid (fun ad e => by
    obtain ⟨z0, hz0⟩ : ∃ z0, l[0]? = some z0 := ⟨_, List.getElem?_eq_getElem (by have := hv.pos; omega)⟩
    obtain ⟨ad', e', hc⟩ := hR 0 (iv z0) (by rw [List.getElem?_map, hz0]; rfl)
    rw [e] at e'
    injection e' with e'
    have := cell_lt hc
    rw [addr_add_block, ← e'] at this
    exact this)
  obtain ⟨K, hK⟩ : ∃ K, spl s l = K := ⟨_, rfl⟩
  have HV : Hid (∀ i x, K[i]? = some x → ∃ z n, l[x]? = some z ∧ -1 ≤ z ∧ sts z = ((n : Nat) : Int) ∧ xof l K i = n + (K.take i).count x ∧ Num y n (xof l K i)) := Lib.hid (fun i x hx => by
    rw [← hK, ← hse] at hx ⊢
    obtain ⟨z, n, h1, h2, h3, h4⟩ := vt_norm hv hx
    refine ⟨z, n, h1, h2, h3, ?_, ?_⟩
    · unfold xof; rw [hx, Option.getD_some, h4]
    · have := hv.num hx; rwa [h4] at this)
  have HR := Lib.hid hR
  have HN := Lib.hid hN
  rw [hK] at SP HL ⊢
  have HM := fun (W : World) => make_cells s (by omega) W
  clear b1 t1 hR hN hv hse hK
  go_enter Try.func30, Try.ntmps30
  go_wp2_with (first
    | (go_at_call 29; refine SP.out.mono ?_; rintro e w2 ⟨g2, rfl, ho2, hb2⟩; have O2 := Lib.hid ho2; have B2 := Lib.hid (below_on B1.out (Nat.le_refl _) hb2); have q2 := T1.out.below hb2; have a0 := q2.c0; have a1 := q2.c1; have T2 := Lib.hid q2; clear ho2 hb2 q2)
    | (go_at_call 44; refine (builder_any w2 (y : Int) A N c).mono ?_; rintro e w3 ⟨bt, bm, b, rfl, hb0, hbl, hb3⟩; have O3 := Lib.hid (own_below O2.out hb3); have L3 := Lib.hid hb0; have B3 := Lib.hid (below_on B2.out (Nat.le_refl _) hb3); have D3 := Lib.hid hbl; clear hb0 hbl hb3; obtain ⟨w4, hmk, ho4, hb4⟩ := HM w3; have O4 := Lib.hid ho4; have B4 := Lib.hid hb4; clear ho4 hb4))
  obtain ⟨g, hg⟩ : ∃ g, w3.heap.size = g := ⟨_, rfl⟩
  rw [hg] at O4 hmk B4
  simp only [hg]
  have HG := Lib.hid hg
  have G2 : Hid (g2 < w2.heap.size) := Lib.hid (own_lt O2.out rfl)
  have G3 : Hid (g2 < g ∧ b < g ∧ bt < g ∧ bm < g) := Lib.hid ⟨by rw [← hg]; exact own_lt O3.out rfl, by rw [← hg]; exact D3.out.mp.lt, by rw [← hg]; exact D3.out.tab.lt, by rw [← hg]; exact D3.out.box.lt⟩
  have S0 : Hid (∃ m, BSt w4 w4 w.heap.size bt bm b g 0 y A N c l K s m) := Lib.hid ⟨_, D3.out.below (by rw [HG.out]; exact B4.out), fun x => by simp, by
      have e := prt_zero (cls y l K)
      rw [HL.out.1] at e
      rw [e]
      exact ro_base O4.out (by rw [← HG.out]; exact B3.out.size), Chg.refl _ _, by have := G3.out; omega⟩
  have O5 : Hid (w4.ownsRow 0 3 1 (.slice (some ⟨g2, 0, none⟩) s s) s (K.map nv)) := Lib.hid (own_zero (own_below O3.out (by rw [HG.out]; exact B4.out)))
  have B5 : Hid (Below w.heap.size w w4) := Lib.hid (below_on B3.out (Nat.le_refl _) (by rw [HG.out]; exact B4.out))
  have LB : Hid (w.heap.size ≤ b ∧ w.heap.size ≤ g ∧ g2 < b) := Lib.hid ⟨by have := L3.out; have := B2.out.size; omega, by rw [← HG.out]; exact B3.out.size, by have := G2.out; have := L3.out; omega⟩
  clear a0 a1 T2 hmk O4 O3 O2 D3 B2 B3 L3 hg c0 c1 SP T1 B1 G2 HM
  go_loopw [25] (fun p wr => ∃ i : Nat, i ≤ s ∧ p = .int .i64 (i : Int) ∧ Hid (∃ m, BSt w4 wr w.heap.size bt bm b g i y A N c l K s m)) (fun p _ => s - (intOf p).toNat)
  case atStart => exact ⟨0, Nat.zero_le _, rfl, S0⟩
  case round =>
    obtain ⟨i, hi, rfl, HS⟩ := hrel
    clear S0
    by_cases hlt : i < s
    · obtain ⟨m, hs⟩ := HS.out
      obtain ⟨x, hx⟩ : ∃ x, K[i]? = some x := ⟨_, List.getElem?_eq_getElem (by rw [HL.out.2]; exact hlt)⟩
      have hk5 : wr.ownsRow 0 3 1 (.slice (some ⟨g2, 0, none⟩) s s) s (K.map nv) := own_same O5.out (fun g' e => by
        injection e with e
        subst e
        exact hs.chg.block g2 (own_lt O5.out rfl) (fun e => by have := G3.out; have := LB.out; omega))
      have cx : wr.cell? ⟨g2, i, none⟩ = some (.int .i64 (x : Int)) := by rw [hk5.cellAt i (by omega), List.getElem?_map, hx]; rfl
      obtain ⟨z, n, hz, hz1, hzn, hX, hNum⟩ := HV.out i x hx
      obtain ⟨k, hkc⟩ : ∃ k, (K.take i).count x = k := ⟨_, rfl⟩
      obtain ⟨X, hXX⟩ : ∃ X, xof l K i = X := ⟨_, rfl⟩
      rw [hkc, hXX] at hX
      rw [hXX] at hNum
      have hRr : Ri wr A l := Rv.same HR.out (fun ad e => by
        have h1 := HA.out ad e
        rw [hs.chg.block ad.block (by have := B5.out.size; omega) (fun e => by have := LB.out; omega)]
        exact B5.out.block _ h1)
      have CB := Lib.hid (builder1_any wr bt bm b i y A N c m l x k n X z hs.bld hRr (fun ad e h => by have := HA.out ad e; have := LB.out; omega) (by omega) HN.out hN2 hy9 hz hz1 hzn (by rw [hs.cnt x]; exact hkc) hX.symm hNum)
      have HC : Hid (cel y l K i = (x, bts y X, bse y X)) := Lib.hid (by unfold cel; rw [hx, hXX]; rfl)
      have HS1 := Lib.hid hs
      have HX := Lib.hid hx
      have HK := Lib.hid hkc
      obtain ⟨p, hp⟩ : ∃ p, bts y X = p := ⟨_, rfl⟩
      obtain ⟨q, hq⟩ : ∃ q, bse y X = q := ⟨_, rfl⟩
      rw [hp, hq] at CB HC
      have wi : IntKind.i64.wrap (i : Int) = (i : Int) := IntWalk.i64_in _ (by omega)
      clear hs hx hk5 hz hz1 hzn hX hNum hkc hXX hRr HS hp hq
      go_wp2_with (go_at_call 49; refine CB.out.mono ?_; rintro e w7 ⟨rfl, h7, c7⟩; obtain ⟨o7, s7⟩ := HS1.out.next HX.out HK.out HC.out h7 c7; obtain ⟨u0, u1, u2, e0, f0, e1, f1, e2, f2⟩ := row_for o7 hlt x p; obtain ⟨Wa, hWa⟩ : ∃ Wa, w7.setCell ⟨g, i * 3, none⟩ (.int .i64 (x : Int)) = Wa := ⟨_, rfl⟩; rw [hWa] at e1 f1 e2 f2 s7; obtain ⟨Wb, hWb⟩ : ∃ Wb, Wa.setCell ⟨g, i * 3 + 1, none⟩ (.int .i64 (p : Int)) = Wb := ⟨_, rfl⟩; rw [hWb] at e2 f2 s7; have S7 := Lib.hid s7; clear s7 o7 h7 c7)
      exact ⟨⟨i + 1, by omega, by simp, Lib.hid ⟨_, S7.out⟩⟩, by simp [intOf]; omega⟩
    · obtain ⟨m, hs⟩ := HS.out
      have hiS : i = s := by omega
      subst hiS
      have HE : Hid (wr.ownsRow w.heap.size 35 3 (.slice (some ⟨g, 0, none⟩) i i) i (flat3 (cls y l K))) := Lib.hid (by
        have := hs.own
        have e := prt_all (cls y l K)
        rw [HL.out.1] at e
        rwa [e] at this)
      have HB : Hid (Below w.heap.size w wr) := Lib.hid ⟨hs.chg.os.trans B5.out.os, hs.chg.tape.trans B5.out.tape, hs.chg.output.trans B5.out.output, Nat.le_trans B5.out.size hs.chg.size, fun k hk => (hs.chg.block k (Nat.lt_of_lt_of_le hk B5.out.size) (fun e => by have := LB.out; omega)).trans (B5.out.block k hk)⟩
      clear hs HS
      go_wp2
      go_ret2
      exact ⟨g, rfl, HE.out, HB.out⟩

set_option maxRecDepth 100000 in
set_option maxHeartbeats 4000000 in
theorem build_bad (w : World) (y : Int) (A : Option Addr) (l : List Int) (N c : Nat) (hN : l.length = N) (hb : N ≤ 1000000) (hv : vt y l 256 9 = false) (hR : Ri w A l) :
    Calls Try.prog 30 #[tb y A N c] w fun e w' => e = .returned (.tuple #[.slice none 0 0, .int .i64 13]) ∧ Below w.heap.size w w' := by
  have b1 : Below w.heap.size w (w.alloc (.cells #[.int .i64 y, .slice A N c] 24)) := (Below.refl _ w).alloc (Nat.le_refl _) _
  have t1 := Tb.new w y A N c
  obtain ⟨w1, hw1⟩ : ∃ w1, w.alloc (.cells #[.int .i64 y, .slice A N c] 24) = w1 := ⟨_, rfl⟩
  rw [hw1] at b1 t1
  have c0 := t1.c0
  have c1 := t1.c1
  have SP : Hid (Calls Try.prog 29 #[tb y A N c] w1 fun e w' => e = .returned (.tuple #[.slice none 0 0, .int .i64 13]) ∧ Below w1.heap.size w1 w') := Lib.hid (spread_bad w1 y A l N c hN hb hv (hR.below b1))
  have B1 := Lib.hid b1
  clear b1 t1 hR hN hv
  go_enter Try.func30, Try.ntmps30
  go_wp2_with (go_at_call 29; refine SP.out.mono ?_; rintro e w2 ⟨rfl, hb2⟩; have B2 := Lib.hid (below_on B1.out (Nat.le_refl _) hb2); clear hb2)
  go_ret2
  exact ⟨rfl, B2.out⟩

/-- The cells of any table: none where it is not valid. -/
def cex (y : Int) (l : List Int) : List (Nat × Nat × Nat) := if vt y l 256 9 then cls y.toNat l (spl (2 ^ y.toNat) l) else []
theorem cex_len (y : Int) (l : List Int) : (cex y l).length ≤ 512 := by
  unfold cex
  split
  · rename_i h
    obtain ⟨n, rfl, hv⟩ := vt_iff.1 h
    rw [cls_len, spl_len, Int.toNat_natCast]
    exact hv.size
  · exact Nat.zero_le _
theorem cex_ok {y : Nat} {l : List Int} (h : Vt y l) : cex (y : Int) l = cls y l (spl (2 ^ y) l) := by
  unfold cex
  rw [if_pos (vt_iff.2 ⟨y, rfl, h⟩), Int.toNat_natCast]
theorem cex_bad {y : Int} {l : List Int} (h : vt y l 256 9 = false) : cex y l = [] := by
  unfold cex
  rw [if_neg (by simp [h])]
theorem ro_nil (W : World) (B : Nat) (e : TypeId) (z : Nat) : W.ownsRow B e z (.slice none 0 0) 0 [] := ⟨by simp, .inl ⟨rfl, rfl⟩⟩
/-- What a function returns that returns cells and an error. -/
def OutC (B : Nat) (w : World) (C : List (Nat × Nat × Nat)) (e0 : Int) (e : Ending) (w' : World) : Prop :=
  ∃ A' r c', e = .returned (.tuple #[.slice A' r c', .int .i64 e0]) ∧ r = C.length ∧ r ≤ 512 ∧ w'.ownsRow B 35 3 (.slice A' r c') r (flat3 C) ∧ Below w.heap.size w w'
theorem outC_mk {B : Nat} {w w' : World} {C : List (Nat × Nat × Nat)} {e0 : Int} {A' : Option Addr} {r c' : Nat} (hX : C.length ≤ 512) (ho : w'.ownsRow B 35 3 (.slice A' r c') r (flat3 C)) (hb : Below w.heap.size w w') : OutC B w C e0 (.returned (.tuple #[.slice A' r c', .int .i64 e0])) w' := by
  have := ho.1
  rw [flat3_len] at this
  exact ⟨A', r, c', rfl, by omega, by omega, ho, hb⟩
theorem build_u (w : World) (y : Int) (A : Option Addr) (l : List Int) (N c : Nat) (hN : l.length = N) (hb : N ≤ 1000000) (hR : Ri w A l) :
    Calls Try.prog 30 #[tb y A N c] w (OutC w.heap.size w (cex y l) (err (vt y l 256 9))) := by
  have hX := cex_len y l
  cases hv : vt y l 256 9 with
  | false =>
    rw [cex_bad hv] at hX ⊢
    refine (build_bad w y A l N c hN hb hv hR).mono ?_
    rintro e w' ⟨rfl, hb'⟩
    exact outC_mk hX (ro_nil _ _ _ _) hb'
  | true =>
    obtain ⟨n, rfl, hv2⟩ := vt_iff.1 hv
    rw [cex_ok hv2] at hX ⊢
    refine (build_ok w n _ A l N c hN hv2 rfl hR).mono ?_
    rintro e w' ⟨g, rfl, ho, hb'⟩
    exact outC_mk hX ho hb'

end Go.Proofs.Ytonapehlhkoplaa
