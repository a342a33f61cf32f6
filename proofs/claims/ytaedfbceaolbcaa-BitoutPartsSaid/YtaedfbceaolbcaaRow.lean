/-
  Rows of calls of Put in memory; what the reference's All and the laws' own put do with them. Conditions: at most 200 calls; fewer than 2^39 bits before.
-/
import Derived.Test.YtaedfbceaolbcaaRfA
namespace Go.Proofs.Ytaedfbceaolbcaa
open Go.RowKit

/-- The calls ls lie at A. -/
def RdP (w : World) (A : Option Addr) (ls : List (Nat × Int)) : Prop :=
  ∀ (j q : Nat) (z : Int), ls[j]? = some (q, z) → ∃ ad, A = some ad ∧ w.cell? (ad.add (j * 2)) = some (.int .u64 (q : Int)) ∧ w.cell? (ad.add (j * 2 + 1)) = some (.int .i64 z)
/-- The values are of their kind. -/
def WfP (ls : List (Nat × Int)) : Prop := ∀ (j q : Nat) (z : Int), ls[j]? = some (q, z) → q < 18446744073709551616

theorem RdP.below {w w' : World} {A : Option Addr} {ls : List (Nat × Int)} (h : RdP w A ls) (hb : Below w.heap.size w w') : RdP w' A ls := by
  intro j q z hj
  obtain ⟨ad, hA, h1, h2⟩ := h j q z hj
  exact ⟨ad, hA, (hb.cell (cell_lt h1)).trans h1, (hb.cell (cell_lt h2)).trans h2⟩

theorem RdP.drewN {w : World} {A : Option Addr} {ls : List (Nat × Int)} (h : RdP w A ls) (d : Nat) : RdP (w.drewN d) A ls := h

theorem RdP.cut {w : World} {A : Option Addr} {ls : List (Nat × Int)} (h : RdP w A ls) (i j : Nat) : RdP w (A.map (·.add (i * 2))) ((ls.drop i).take j) := by
  intro k q z hk
  have hkj : k < j := by
    rcases Nat.lt_or_ge k j with h1 | h1
    · exact h1
    · rw [List.getElem?_eq_none (by simp; omega)] at hk; cases hk
  rw [List.getElem?_take_of_lt hkj, List.getElem?_drop] at hk
  obtain ⟨ad, rfl, h1, h2⟩ := h _ _ _ hk
  refine ⟨ad.add (i * 2), rfl, ?_, ?_⟩
  · rw [addr_add_add, show i * 2 + k * 2 = (i + k) * 2 by omega]; exact h1
  · rw [addr_add_add, show i * 2 + (k * 2 + 1) = (i + k) * 2 + 1 by omega]; exact h2

theorem RdP.take {w : World} {A : Option Addr} {ls : List (Nat × Int)} (h : RdP w A ls) (j : Nat) : RdP w A (ls.take j) := by
  intro k q z hk
  have hkj : k < j := by
    rcases Nat.lt_or_ge k j with h1 | h1
    · exact h1
    · rw [List.getElem?_eq_none (by simp; omega)] at hk; cases hk
  rw [List.getElem?_take_of_lt hkj] at hk
  exact h _ _ _ hk

theorem WfP.take {ls : List (Nat × Int)} (h : WfP ls) (j : Nat) : WfP (ls.take j) := by
  intro k q z hk
  have hkj : k < j := by
    rcases Nat.lt_or_ge k j with h1 | h1
    · exact h1
    · rw [List.getElem?_eq_none (by simp; omega)] at hk; cases hk
  rw [List.getElem?_take_of_lt hkj] at hk
  exact h _ _ _ hk

theorem WfP.drop {ls : List (Nat × Int)} (h : WfP ls) (j : Nat) : WfP (ls.drop j) := by
  intro k q z hk
  rw [List.getElem?_drop] at hk
  exact h _ _ _ hk

theorem putc_yes {w : World} {x : Nat} {v : Value} {l : List Bool} (h : Wr w x v l) (hs : l.length ≤ 1099511627776) (q : Nat) (n : Int) (hm : may q n = true) :
    Calls Try.prog 21 #[.pointer (some ⟨x, 0, none⟩), .int .u64 (q : Int), .int .i64 n] w (PutPost w x v (l ++ bitsOf q n.toNat)) := by
  simp [may] at hm
  obtain ⟨n, rfl⟩ := Int.eq_ofNat_of_zero_le hm.1.1
  exact put_ok h hs q n (by omega) hm.2
theorem putc_no {w : World} {x : Nat} (q : Nat) (n : Int) (hm : may q n = false) :
    Calls Try.prog 21 #[.pointer (some ⟨x, 0, none⟩), .int .u64 (q : Int), .int .i64 n] w fun e w' => e = .returned (.int .i64 2) ∧ w = w' := by
  by_cases h : n < 0 ∨ 64 < n
  · exact put_arg w x q n h
  · obtain ⟨n, rfl⟩ := Int.eq_ofNat_of_zero_le (show 0 ≤ n by omega)
    refine put_bit w x q n (by omega) ?_
    have hm' : may q n = decide (q < 2 ^ n) := by simp [may]; omega
    have h2 : may q n = false := hm
    rw [hm'] at h2
    have := of_decide_eq_false h2
    omega

theorem may_q (w : World) (q : Nat) (n : Int) (hq : q < 18446744073709551616) : Calls Try.prog 22 #[.int .u64 (q : Int), .int .i64 n] w fun e w' => e = .returned (.bool (may q n)) ∧ w' = w :=
  (may_any w q n hq).mono fun _ _ h => ⟨h.1, h.2.symm⟩

theorem below_dr {w wr w4 : World} {d : Nat} (h : Below w.heap.size w wr) (k : Below (wr.drewN d).heap.size (wr.drewN d) w4) : Below w.heap.size w w4 := below_on (below_drewN' h d) (Nat.le_refl _) k
theorem own_dr {wr w4 : World} {base d n : Nat} {e : TypeId} {v : Value} {xs : List Value} (h : wr.ownsRow base e 1 v n xs) (k : Below (wr.drewN d).heap.size (wr.drewN d) w4) : w4.ownsRow base e 1 v n xs :=
  own_same h fun g hg => k.block g (own_lt h hg)

/-- append in a region that draws its order. -/
theorem step_append_vals {t e : TypeId} (ht : Try.prog.underlying t = some (.slice e)) {z : Value} (hinfo : (Try.prog.info? e).map (fun i => (i.zero, i.size, i.bytes)) = some (some z, 1, 1)) (hzs : z.cells.size = 1)
    {w : World} {ops : Array Oper} {o : Oper} {a : Act} {K : Act → World → Prop} {Q : Exit → Act → World → Prop} {E : Prop} (hgd : o.guard = none) (s x : Operand)
    (ho : o.op = .call { callee := .builtin .append, args := #[s, x], argTypes := #[t, t] })
    (base : Nat) (v : Value) (n : Nat) (xs : List Value) (hs : a.eval s = v) (hown : w.ownsRow base e 1 v n xs) (A : Option Addr) (ys : List Value) (h1 : ∀ u ∈ ys, u.oneCell' = true) (m c : Nat) (hm : ys.length = m) (hx : a.eval x = .slice A m c) (hR : Rv w A ys)
    (hb : n + m ≤ 140737488355328) (hbase : base ≤ w.heap.size)
    (h : ∀ v' w', w'.ownsRow base e 1 v' (n + m) (xs ++ ys) → w.grownBy w' v.ownBlock → (v'.ownBlock = v.ownBlock ∨ v'.ownBlock = some w.heap.size) → K (a.put o.dst v') w') :
    if Region.wanted o (yielded ops a.tmps) = true then Oper.wp Try.prog o a w K Q else E := by
  subst hm
  have hw : Region.wanted o (yielded ops a.tmps) = true := by simp [Region.wanted, hgd]
  rw [if_pos hw]
  obtain ⟨v', w', hrun, h2, h3, h4⟩ := run_append_vals ht hinfo hzs w o.type base v n xs hown A ys h1 c hR hb hbase
  unfold Oper.wp
  simp [execOp, ho, resolve, invoke, builtin, hs, hx, hrun, Result.andThen]
  exact h v' w' h2 h3 h4

set_option maxRecDepth 100000 in
set_option maxHeartbeats 4000000 in
theorem all_any (w : World) (A : Option Addr) (ls : List (Nat × Int)) (N cap : Nat) (hN : ls.length = N) (hs : N ≤ 200) (hR : RdP w A ls) (hW : WfP ls) :
    Calls Try.prog 14 #[.slice A N cap] w (GotB w (allB ls)) := by
  have HN := Lib.hid hN
  have HR := Lib.hid hR
  have HW := Lib.hid hW
  clear hN hR hW
  go_enter Try.func14, Try.ntmps14
  go_wp2_with fail
  go_loopw [3, 4] (fun o b wr => (∃ (i m c : Nat) (B : Option Addr), i ≤ N ∧ o = .slice B m c ∧ b = .int .i64 (i : Int) ∧ Hid ((allB (ls.take i)).length = m) ∧ Hid (wr.ownsRow w.heap.size 4 1 (.slice B m c) m ((allB (ls.take i)).map Value.bool)) ∧ Hid (Below w.heap.size w wr))) (fun _ b _ => N - (intOf b).toNat)
  case atStart => exact ⟨0, 0, 0, none, by omega, rfl, rfl, Lib.hid rfl, Lib.hid (World.ownsRow_nil _ _ _ _), Lib.hid (Below.refl _ _)⟩
  case round =>
    obtain ⟨j, m, c, B, hj, rfl, rfl, HM, HO, HB⟩ := hrel
    by_cases hlt : j < N
    · obtain ⟨⟨q, z⟩, hqz⟩ : ∃ y, ls[j]? = some y := ⟨_, List.getElem?_eq_getElem (by rw [HN.out]; exact hlt)⟩
      obtain ⟨aL, haL, e0, e1⟩ := (HR.out.below HB.out) j q z hqz
      subst haL
      have e2 : wr.cell? { block := (aL.add (j * 2)).block, off := (aL.add (j * 2)).off + 1 } = some (.int .i64 z) := by rw [← addr_add_add] at e1; exact e1
      have hq64 := HW.out j q z hqz
      have MY := Lib.hid (fun W => may_q W q z hq64)
      have HT := Lib.hid (allB_take hqz)
      have HM2 : Hid (m ≤ 12800) := Lib.hid (by have h1 := allB_len (ls.take j); rw [HM.out, List.length_take] at h1; omega)
      clear hqz
      by_cases hmy : may q z = true
      · rw [hmy] at MY
        have BT := Lib.hid (fun W => bits_any W q z.toNat hq64 (by simp [may] at hmy; omega))
        have hz0 : ((z.toNat : Nat) : Int) = z := by simp [may] at hmy; omega
        rw [hz0] at BT
        simp only [hmy, if_true] at HT
        have HL64 : Hid ((bitsOf q z.toNat).length ≤ 64) := Lib.hid (by rw [bitsOf_len]; simp [may] at hmy; omega)
        obtain ⟨bs, hbs⟩ : ∃ bs, bitsOf q z.toNat = bs := ⟨_, rfl⟩
        rw [hbs] at BT HT HL64
        obtain ⟨k, hk⟩ : ∃ k, bs.length = k := ⟨_, rfl⟩
        have HK := Lib.hid hk
        rw [hk] at HL64
        clear hmy hz0 hbs hk hq64
        go_wp2_with fail
        go_quiet ((go_at_call 22; refine Calls.quiet_of_same (MY.out _)))
        go_wp2_with fail
        go_region_law (first
          | (refine step_append_vals Try.underlying32 bool_info rfl rfl (.tmp 22) (.tmp 33) rfl w.heap.size (.slice B m c) m _ (by simp [Act.eval]) O4.out A4 (bs.map Value.bool) (bool_one bs) k c4 (by rw [List.length_map]; exact HK.out) (by simp [Act.eval]) R4.out (by have := HL64.out; have := HM2.out; omega) B4.out.size ?_; intro v5 w5 ho5 hg5 _; obtain ⟨A5, c5, rfl, _⟩ := own_form ho5; have B5 := Lib.hid (B4.out.grown hg5 B4.out.size (fun j ej => (O4.out.lt j ej).1)); have O5 := Lib.hid ho5; clear ho5 hg5)
          | (go_simp; go_at_call 23; refine (BT.out _).mono ?_; rintro e w4 ⟨A4, c4, rfl, ho4, hb4⟩; rw [HK.out] at ho4 ⊢; have R4 := Lib.hid (Rv.of_own ho4); have O4 := Lib.hid (own_dr HO.out hb4); have B4 := Lib.hid (below_dr HB.out hb4); clear ho4 hb4))
        all_goals (go_wp2_with fail; exact ⟨⟨j + 1, m + k, c5, A5, by omega, rfl, by simp, Lib.hid (by rw [HT.out, List.length_append, HM.out, HK.out]), Lib.hid (by rw [HT.out, List.map_append]; exact O5.out), B5⟩, by simp [intOf]; omega⟩)
      · have hmy' : may q z = false := by simpa using hmy
        rw [hmy'] at MY
        simp only [hmy', Bool.false_eq_true, if_false, List.append_nil] at HT
        clear hmy hmy' hq64
        go_wp2_with fail
        go_quiet ((go_at_call 22; refine Calls.quiet_of_same (MY.out _)))
        go_wp2_with fail
        exact ⟨⟨j + 1, m, c, B, by omega, rfl, by simp, Lib.hid (by rw [HT.out]; exact HM.out), Lib.hid (by rw [HT.out]; exact HO.out), Lib.hid (below_drewN' HB.out _)⟩, by simp [intOf]; omega⟩
    · have hje : j = N := by omega
      subst hje
      have e : ls.take j = ls := List.take_of_length_le (by rw [HN.out]; exact Nat.le_refl _)
      rw [e] at HM HO
      clear hlt hj e
      go_wp2
      go_ret
      exact ⟨B, c, by rw [HM.out]; rfl, by rw [HM.out]; exact HO.out, HB.out⟩

/-- The law's own put has made the calls. -/
def PutsPost (w : World) (x : Nat) (v : Value) (L : List Bool) (e : Ending) (w' : World) : Prop :=
  e = .returned (.bool true) ∧ ∃ v', Wr w' x v' L ∧ Chg w w' x v.ownBlock ∧ New w v.ownBlock v'.ownBlock

theorem Wr.drewN {w : World} {x : Nat} {v : Value} {l : List Bool} (h : Wr w x v l) (d : Nat) : Wr (w.drewN d) x v l := h
theorem Chg.drewN {w a : World} {x : Nat} {R : Option Nat} (h : Chg w a x R) (d : Nat) : Chg w (a.drewN d) x R := ⟨h.os, h.tape, h.output, h.size, h.block⟩
theorem Chg.of_drewN {w a : World} {x d : Nat} {R : Option Nat} (h : Chg (w.drewN d) a x R) : Chg w a x R := ⟨h.os, h.tape, h.output, h.size, h.block⟩

set_option maxRecDepth 100000 in
set_option maxHeartbeats 4000000 in
theorem puts_any {w : World} {x : Nat} {v : Value} {l : List Bool} (h : Wr w x v l) (hs : l.length ≤ 549755813888) (A : Option Addr) (ls : List (Nat × Int)) (N cap : Nat) (hN : ls.length = N) (hN2 : N ≤ 200) (B0 : Nat) (hx : B0 ≤ x) (hv : ∀ g, v.ownBlock = some g → B0 ≤ g)
    (hR : ∀ W, Below B0 w W → RdP W A ls) (hW : WfP ls) :
    Calls Try.prog 12 #[.pointer (some ⟨x, 0, none⟩), .slice A N cap] w (PutsPost w x v (l ++ allB ls)) := by
  have HN := Lib.hid hN
  have HW := Lib.hid hW
  have HS := Lib.hid hs
  have HR : Hid (∀ wr, Chg w wr x v.ownBlock → RdP wr A ls) := Lib.hid (fun wr hc => hR wr (hc.below (Nat.le_of_lt (Nat.lt_of_le_of_lt hx h.lt)) hx hv))
  have H0 := Lib.hid h
  clear hN hR hW hs hx hv h
  go_enter Try.func12, Try.ntmps12
  go_wp2_with fail
  go_loopw [5] (fun b wr => (∃ (i : Nat) (v' : Value), i ≤ N ∧ b = .int .i64 (i : Int) ∧ Hid (Wr wr x v' (l ++ allB (ls.take i))) ∧ Hid (Chg w wr x v.ownBlock) ∧ Hid (New w v.ownBlock v'.ownBlock))) (fun b _ => N - (intOf b).toNat)
  case atStart => exact ⟨0, v, by omega, rfl, Lib.hid (by simpa [allB] using H0.out), Lib.hid (Chg.refl _ _ _), Lib.hid (New.refl _ _)⟩
  case round =>
    obtain ⟨j, v', hj, rfl, HWR, HC, HNW⟩ := hrel
    by_cases hlt : j < N
    · obtain ⟨⟨q, z⟩, hqz⟩ : ∃ y, ls[j]? = some y := ⟨_, List.getElem?_eq_getElem (by rw [HN.out]; exact hlt)⟩
      obtain ⟨aL, haL, e0, e1⟩ := (HR.out _ HC.out) j q z hqz
      subst haL
      have e2 : wr.cell? { block := (aL.add (j * 2)).block, off := (aL.add (j * 2)).off + 1 } = some (.int .i64 z) := by rw [← addr_add_add] at e1; exact e1
      have hq64 := HW.out j q z hqz
      have MY := Lib.hid (fun W => may_q W q z hq64)
      have HT := Lib.hid (allB_take hqz)
      have HL : Hid ((l ++ allB (ls.take j)).length ≤ 1099511627776) := Lib.hid (by have h1 := allB_len (ls.take j); rw [List.length_take] at h1; rw [List.length_append]; have := HS.out; omega)
      clear hqz
      by_cases hmy : may q z = true
      · rw [hmy] at MY
        have PT := Lib.hid (fun d => putc_yes (HWR.out.drewN d) HL.out q z hmy)
        simp only [hmy, if_true] at HT
        clear hmy hq64
        go_wp2_with fail
        go_quiet ((go_at_call 22; refine Calls.quiet_of_same (MY.out _)))
        go_wp2_with fail
        go_region_law (first
          | (go_simp; go_at_call 21; refine (PT.out _).mono ?_; rintro e w4 ⟨rfl, v4, hw4, hc4, hn4⟩; have W4 := Lib.hid hw4; have C4 := Lib.hid hc4; have N4 := Lib.hid hn4; clear hw4 hc4 hn4))
        all_goals (go_wp2_with fail; exact ⟨⟨j + 1, v4, by omega, by simp, Lib.hid (by rw [HT.out, ← List.append_assoc]; exact W4.out), Lib.hid (HC.out.trans C4.out.of_drewN HNW.out), Lib.hid (HNW.out.trans (b := wr) N4.out HC.out.size)⟩, by simp [intOf]; omega⟩)
      · have hmy' : may q z = false := by simpa using hmy
        rw [hmy'] at MY
        have PT := Lib.hid (fun W => putc_no (w := W) (x := x) q z hmy')
        simp only [hmy', Bool.false_eq_true, if_false, List.append_nil] at HT
        clear hmy hmy' hq64
        go_wp2_with fail
        go_quiet ((go_at_call 22; refine Calls.quiet_of_same (MY.out _)))
        go_wp2_with fail
        go_region_law (first
          | (go_simp; go_at_call 21; refine (PT.out _).mono ?_; rintro e w4 ⟨rfl, rfl⟩))
        all_goals (go_wp2_with fail; exact ⟨⟨j + 1, v', by omega, by simp, Lib.hid (by rw [HT.out]; exact HWR.out), Lib.hid (HC.out.drewN _), HNW⟩, by simp [intOf]; omega⟩)
    · have hje : j = N := by omega
      subst hje
      have e : ls.take j = ls := List.take_of_length_le (by rw [HN.out]; exact Nat.le_refl _)
      rw [e] at HWR
      clear hlt hj e
      go_wp2
      go_ret
      exact ⟨rfl, v', HWR.out, HC.out, HNW.out⟩

end Go.Proofs.Ytaedfbceaolbcaa
