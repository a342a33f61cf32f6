/-
  RingClones returns true for every input, and each argument reads afterwards as it read before. Condition: the package's sizes are what the program's text lays.
-/
import Derived.Deep.RegionLaw
import Derived.Deep.CutRange
import Derived.Test.YteogpmapbeogpaaDoorTwa
import Derived.Test.YteogpmapbeogpaaDoorWrk
namespace Go.Proofs.YteogpmapbeogpaaDoor.ringClones
open Go.ChangeShapes Go.WideShapes Go.ChangeAt Go.RowKit

abbrev tval (a b : Ac) : Value := .agg #[.int .i64 a.wh, .slice a.B a.M a.cm, .int .i64 a.ofs, .int .i64 a.nn, .int .i64 b.wh, .slice b.B b.M b.cm, .int .i64 b.ofs, .int .i64 b.nn]
abbrev tobj (a b : Ac) : Obj := .cells #[.int .i64 a.wh, .slice a.B a.M a.cm, .int .i64 a.ofs, .int .i64 a.nn, .int .i64 b.wh, .slice b.B b.M b.cm, .int .i64 b.ofs, .int .i64 b.nn] 48
theorem Tw.new (W : World) (a b : Ac) : Tw (W.alloc (tobj a b)) W.heap.size a b := World.alloc_heap_new W _

set_option maxRecDepth 100000 in
set_option maxHeartbeats 4000000 in
theorem walk_else (z : Int) (AL : Option Addr) (ls : List Ac) (N cl : Nat) (a b : Ac) (o : Int) (w : World) (hg : Gl w) (hN : ls.length = N) (hRA : RdA w AL ls) (hz : z < 1 ∨ 300 < z ∨ fw ls 20 = false ∨ fw [a, b] 2 = false) :
    Calls Tryd.prog 5 #[.int .i64 z, .slice AL N cl, tval a b, .int .i64 o] w fun e w' => e = .returned (.bool true) ∧ Below w.heap.size w w' := by
  have b1 := lit_bel w (tobj a b)
  have t1 := Tw.new w a b
  obtain ⟨w1, hw1⟩ : ∃ w1, w.alloc (tobj a b) = w1 := ⟨_, rfl⟩
  rw [hw1] at b1 t1
  have WK := Lib.hid (works_any w1 (hg.bel b1))
  have F1 := Lib.hid (few_any w1 AL ls N cl 20 hN (fun _ => by omega) (hRA.below b1))
  have F2 := Lib.hid (few_any w1 (some ⟨w.heap.size, 0, none⟩) [a, b] 2 2 2 rfl (fun _ => by omega) t1.rd)
  have s2 := fun W => two_all w.heap.size W
  have B1 := Lib.hid b1
  obtain ⟨f1, hf1⟩ : ∃ f, fw ls 20 = f := ⟨_, rfl⟩
  obtain ⟨f2, hf2⟩ : ∃ f, fw [a, b] 2 = f := ⟨_, rfl⟩
  obtain ⟨q1, e1⟩ : ∃ q, decide (z < 1) = q := ⟨_, rfl⟩
  obtain ⟨q2, e2⟩ : ∃ q, decide (300 < z) = q := ⟨_, rfl⟩
  have hor : q1 = true ∨ q2 = true ∨ f1 = false ∨ f2 = false := by
    rw [← e1, ← e2, ← hf1, ← hf2]
    simp only [decide_eq_true_eq]
    exact hz
  rw [hf1] at F1
  rw [hf2] at F2
  clear hz hf1 hf2 b1 t1 hRA hN
  cases q1 with
  | true =>
    go_enter Tryd.func5, Tryd.ntmps5
    go_wp2_with (go_at_call 12; refine WK.out.mono ?_; rintro e w9 ⟨rfl, hb⟩; have HB := Lib.hid (below_on B1.out (Nat.le_refl _) hb); clear hb)
    go_ret
    exact ⟨rfl, HB.out⟩
  | false =>
    cases q2 with
    | true =>
      go_enter Tryd.func5, Tryd.ntmps5
      go_wp2_with (go_at_call 12; refine WK.out.mono ?_; rintro e w9 ⟨rfl, hb⟩; have HB := Lib.hid (below_on B1.out (Nat.le_refl _) hb); clear hb)
      go_ret
      exact ⟨rfl, HB.out⟩
    | false =>
      cases f1 with
      | false =>
        go_enter Tryd.func5, Tryd.ntmps5
        go_wp2_with (first
          | (go_at_call 11; (with_reducible refine F1.out.mono ?_); rintro e w1 ⟨rfl, rfl⟩)
          | (go_at_call 12; refine WK.out.mono ?_; rintro e w9 ⟨rfl, hb⟩; have HB := Lib.hid (below_on B1.out (Nat.le_refl _) hb); clear hb))
        go_ret
        exact ⟨rfl, HB.out⟩
      | true =>
        obtain rfl : f2 = false := by simpa using hor
        go_enter Tryd.func5, Tryd.ntmps5
        go_wp2_with (first
          | (go_at_call 11; (with_reducible refine F1.out.mono ?_); rintro e w1 ⟨rfl, rfl⟩)
          | (go_at_call 11; (with_reducible refine F2.out.mono ?_); rintro e w1 ⟨rfl, rfl⟩)
          | (go_at_call 12; refine WK.out.mono ?_; rintro e w9 ⟨rfl, hb⟩; have HB := Lib.hid (below_on B1.out (Nat.le_refl _) hb); clear hb))
        go_ret
        exact ⟨rfl, HB.out⟩

/-- Ring and reference, once the new reference's ring is stored over the one before. -/
theorem step_done {w W w7 Wc : World} {lim wb n t c x x3 t3 : Nat} {A A3 : Option Addr} {v v3 : Value} {L3 : List UInt8} {u0 u1 u2 : Value} (ha : At w w7 x3 v3 lim L3 t3) (hr : Rd w7 A3 L3) (hg : Chg (Fp x v) W w7) (hf : ∀ k, Fp x3 v3 k → Fp x v k ∨ W.heap.size ≤ k) (ho : Cb W wb lim A n c t) (hnb : ¬ Fp x v wb) (hwb : w.heap.size ≤ wb)
    (hW : ((w7.setCell ⟨wb, 0, none⟩ u0).setCell ⟨wb, 1, none⟩ u1).setCell ⟨wb, 2, none⟩ u2 = Wc) : At w Wc x3 v3 lim L3 t3 ∧ Rd Wc A3 L3 ∧ ¬ Fp x3 v3 wb := by
  have keep : ∀ g, g ≠ wb → Wc.heap[g]? = w7.heap[g]? := fun g hg => by
    rw [← hW, Below.heap_setCell _ _ _ _ hg, Below.heap_setCell _ _ _ _ hg, Below.heap_setCell _ _ _ _ hg]
  have hnw : ¬ Fp x3 v3 wb := fun hk => (hf wb hk).elim hnb (fun h => by have := ho.lt; omega)
  refine ⟨⟨ha.rg.same (fun k hk => keep k (fun e => hnw (e ▸ hk))), ?_, ha.own⟩, rd_apart (ho.same (hg.block wb ho.lt hnb)) hr keep, hnw⟩
  rw [← hW]
  exact ((ha.bel.setCell (p := ⟨wb, 0, none⟩) hwb _).setCell (p := ⟨wb, 1, none⟩) hwb _).setCell (p := ⟨wb, 2, none⟩) hwb _

/-- Behind the clone and the first of the two calls: the ring, its clone, the reference's rings. -/
structure St7 (w W : World) (lim wb : Nat) (x : Nat) (v : Value) (L6 : List UInt8) (t6 : Nat) (y : Nat) (u : Value) (L : List UInt8) (t : Nat) (bx : Nat) (A6 : Option Addr) (n6 c6 : Nat) (A : Option Addr) (n c : Nat) (a b : Ac) : Prop where
  ax : At w W x v lim L6 t6
  ay : At w W y u lim L t
  cx : Cb W bx lim A6 n6 c6 t6
  rx : Rd W A6 L6
  cb : Cb W wb lim A n c t
  ra : Rd W A L
  tw : Tw W w.heap.size a b
  d : ∀ k, Fp x v k → ¬ Fp y u k
  ox : Out A6 L6 (Fp y u)
  nx : ¬ Fp y u bx
theorem st7 {w w5 w6 : World} {lim wb x y n c t x6 n6 c6 t6 : Nat} {v u v6 : Value} {L L6 : List UInt8} {A A6 : Option Addr} {a b : Ac} (ay : At w w5 y u lim L t) (d : ∀ k, Fp y u k → ¬ Fp x v k) (cb : Cb w5 wb lim A n c t) (nb : ¬ Fp x v wb) (ou : Out A L (Fp x v)) (oy : Out A L (Fp y u)) (ra : Rd w5 A L) (tw : Tw w5 w.heap.size a b) (nt : ¬ Fp x v w.heap.size)
    (ha : At w w6 x6 v6 lim L6 t6) (hr : Rd w6 A6 L6) (hg : Chg (Fp x v) w5 w6) (hf : ∀ k, Fp x6 v6 k → Fp x v k ∨ w5.heap.size ≤ k) (on : (A6 = A ∧ L6 = L) ∨ ∀ ad, A6 = some ad → w5.heap.size ≤ ad.block) :
    St7 w (w6.alloc (.cells #[.int .i64 (lim : Int), .slice A6 n6 c6, .int .i64 (t6 : Int)] 31)) lim wb x6 v6 L6 t6 y u L t w6.heap.size A6 n6 c6 A n c a b := by
  have lb := lit_bel w6 (.cells #[.int .i64 (lim : Int), .slice A6 n6 c6, .int .i64 (t6 : Int)] 31)
  have fy : ∀ k, Fp y u k → k < w5.heap.size := fun k hk => ay.rg.fp_lt hk
  have sz := hg.size
  refine ⟨ha.below lb, ?_, Cb.new w6 lim A6 n6 c6 t6, hr.below lb, ?_, (rd_chg ra hg ou).below lb, ?_, ?_, ?_, ?_⟩
  · exact At.below ⟨ay.rg.chg hg d, ha.bel, ay.own⟩ lb
  · exact (cb.same (hg.block wb cb.lt nb)).same (lb.block wb (Nat.lt_of_lt_of_le cb.lt sz))
  · exact (tw.same (hg.block _ tw.lt nt)).same (lb.block _ (Nat.lt_of_lt_of_le tw.lt sz))
  · intro k hk hy
    rcases hf k hk with h | h
    · exact d k hy h
    · have := fy k hy; omega
  · intro hm ad e hy
    rcases on with ⟨rfl, rfl⟩ | h
    · exact oy hm ad e hy
    · have h7 := h ad e; have h8 := fy _ hy; omega
  · intro hy
    have := fy _ hy
    omega
/-- Behind both calls. -/
structure St9 (w W : World) (lim : Nat) (x : Nat) (v : Value) (L6 : List UInt8) (t6 : Nat) (y : Nat) (u : Value) (L8 : List UInt8) (t8 : Nat) (bx : Nat) (A6 : Option Addr) (n6 c6 : Nat) (bY : Nat) (A8 : Option Addr) (n8 c8 : Nat) : Prop where
  ax : At w W x v lim L6 t6
  ay : At w W y u lim L8 t8
  cx : Cb W bx lim A6 n6 c6 t6
  cy : Cb W bY lim A8 n8 c8 t8
  rx : Rd W A6 L6
  ry : Rd W A8 L8
theorem St9.below {w W W' : World} {lim x t6 y t8 bx n6 c6 bY n8 c8 : Nat} {v u : Value} {L6 L8 : List UInt8} {A6 A8 : Option Addr} (h : St9 w W lim x v L6 t6 y u L8 t8 bx A6 n6 c6 bY A8 n8 c8) (hb : Below W.heap.size W W') : St9 w W' lim x v L6 t6 y u L8 t8 bx A6 n6 c6 bY A8 n8 c8 :=
  ⟨h.ax.below hb, h.ay.below hb, h.cx.same (hb.block _ h.cx.lt), h.cy.same (hb.block _ h.cy.lt), h.rx.below hb, h.ry.below hb⟩
theorem st9 {w W w8 : World} {lim wb x t6 y t bx n6 c6 n c y8 n8 c8 t8 : Nat} {v u u8 : Value} {L6 L L8 : List UInt8} {A6 A A8 : Option Addr} {a b : Ac} (h : St7 w W lim wb x v L6 t6 y u L t bx A6 n6 c6 A n c a b)
    (ha : At w w8 y8 u8 lim L8 t8) (hr : Rd w8 A8 L8) (hg : Chg (Fp y u) W w8) :
    St9 w (w8.alloc (.cells #[.int .i64 (lim : Int), .slice A8 n8 c8, .int .i64 (t8 : Int)] 31)) lim x v L6 t6 y8 u8 L8 t8 bx A6 n6 c6 w8.heap.size A8 n8 c8 := by
  have lb := lit_bel w8 (.cells #[.int .i64 (lim : Int), .slice A8 n8 c8, .int .i64 (t8 : Int)] 31)
  exact ⟨At.below ⟨h.ax.rg.chg hg h.d, ha.bel, h.ax.own⟩ lb, ha.below lb, (h.cx.same (hg.block _ h.cx.lt h.nx)).same (lb.block _ (Nat.lt_of_lt_of_le h.cx.lt hg.size)), Cb.new w8 lim A8 n8 c8 t8, (rd_chg h.rx hg h.ox).below lb, hr.below lb⟩

set_option maxRecDepth 100000 in
set_option maxHeartbeats 8000000 in
theorem walk_ok (lim : Nat) (AL : Option Addr) (ls : List Ac) (N cl : Nat) (a b : Ac) (o : Int) (w : World) (hg : Gl w) (hN : ls.length = N) (hRA : RdA w AL ls) (hOK : ∀ a ∈ ls, AcOk w a) (oa : AcOk w a) (ob : AcOk w b) (h1 : 1 ≤ lim) (h2 : lim ≤ 300) (hf1 : fw ls 20 = true) (hf2 : fw [a, b] 2 = true) :
    Calls Tryd.prog 5 #[.int .i64 (lim : Int), .slice AL N cl, tval a b, .int .i64 o] w fun e w' => e = .returned (.bool true) ∧ Below w.heap.size w w' := by
  have b1 := lit_bel w (tobj a b)
  have t1 := Tw.new w a b
  obtain ⟨w1, hw1⟩ : ∃ w1, w.alloc (tobj a b) = w1 := ⟨_, rfl⟩
  rw [hw1] at b1 t1
  have F1 := Lib.hid (few_any w1 AL ls N cl 20 hN (fun _ => by omega) (hRA.below b1))
  have F2 := Lib.hid (few_any w1 (some ⟨w.heap.size, 0, none⟩) [a, b] 2 2 2 rfl (fun _ => by omega) t1.rd)
  rw [hf1] at F1
  rw [hf2] at F2
  have s2 := fun W => two_all w.heap.size W
  have e1 : decide ((lim : Int) < 1) = false := decide_eq_false (by omega)
  have e2 : decide (300 < (lim : Int)) = false := decide_eq_false (by omega)
  have hf3 := hf1
  unfold fw at hf3
  rw [Bool.and_eq_true, decide_eq_true_iff, hN] at hf3
  have hN2 : N ≤ 20 := by omega
  have HAL : Hid (∀ a ∈ ls, okA a = true) := Lib.hid (fun a ha => List.all_eq_true.1 hf3.2 a ha)
  have KAB : Hid (okA a = true ∧ okA b = true) := Lib.hid (by
    unfold fw at hf2
    rw [Bool.and_eq_true] at hf2
    have := hf2.2
    simpa using this)
  have NW : Hid (Calls Tryd.prog 13 #[.int .i64 (lim : Int), .slice none 0 0] w1 fun e w' => ∃ x v, e = .returned (.tuple #[.pointer (some ⟨x, 0, none⟩), .int .i64 0]) ∧ At w w' x v lim [] 0 ∧ Below w1.heap.size w1 w' ∧ ∀ k, Fp x v k → w1.heap.size ≤ k) := Lib.hid (by
    have := at_new hg b1 lim h1 (by omega) none [] 0 0 rfl (Nat.le_refl _) (by omega) (Rv.nil _ _)
    rwa [fin_short (Nat.zero_le _)] at this)
  have RN : Hid (∀ W, Calls Tryd.prog 14 #[.int .i64 (lim : Int), .slice none 0 0] W fun e w' => ∃ A' n' c', e = .returned (.tuple #[rv lim A' n' c' 0, .int .i64 0]) ∧ RfPost W [] A' n' c' w') := Lib.hid (fun W => by
    have := rnew_ok W lim h1 (by omega) none [] 0 0 rfl (by omega) (Rv.nil _ _)
    rwa [fin_short (Nat.zero_le _)] at this)
  have HG := Lib.hid hg
  have HN := Lib.hid hN
  have HRA := Lib.hid hRA
  have HOK := Lib.hid hOK
  have OAB := Lib.hid (And.intro oa ob)
  have B1 := Lib.hid b1
  have T1 := Lib.hid t1
  clear hf1 hf2 hf3 hg hN hRA hOK oa ob b1 t1
  go_enter Tryd.func5, Tryd.ntmps5
  go_wp2_with (first
    | (go_at_call 11; (with_reducible refine F1.out.mono ?_); rintro e w1 ⟨rfl, rfl⟩)
    | (go_at_call 11; (with_reducible refine F2.out.mono ?_); rintro e w1 ⟨rfl, rfl⟩)
    | (go_at_call 13; refine NW.out.mono ?_; rintro e w2 ⟨x, v, rfl, ha2, hb2, hf2⟩; have A2 := Lib.hid ha2; have B2 := Lib.hid hb2; have F2' := Lib.hid hf2; clear ha2 hb2 hf2)
    | (go_at_call 14; refine (RN.out w2).mono ?_; rintro e w3 ⟨A', n', c', rfl, hp3⟩; have P3 := Lib.hid hp3; clear hp3))
  obtain ⟨W4, hW4⟩ : ∃ W4, w3.alloc (.cells #[.int .i64 (lim : Int), .slice A' n' c', .int .i64 0] 31) = W4 := ⟨_, rfl⟩
  have b4 : Below w3.heap.size w3 W4 := by rw [← hW4]; exact lit_bel w3 _
  have C4 : Hid (Cb W4 w3.heap.size lim A' n' c' 0) := Lib.hid (by rw [← hW4]; exact Cb.new w3 lim A' n' c' 0)
  have A4 : Hid (At w W4 x v lim [] 0) := Lib.hid ((A2.out.below P3.out.2.2.2.1).below b4)
  have T4 : Hid (Tw W4 w.heap.size a b) := Lib.hid (((T1.out.same (B2.out.block _ T1.out.lt)).same (P3.out.2.2.2.1.block _ (Nat.lt_of_lt_of_le T1.out.lt B2.out.size))).same (b4.block _ (Nat.lt_of_lt_of_le T1.out.lt (Nat.le_trans B2.out.size P3.out.2.2.2.1.size))))
  have Q4 : Hid (n' = 0 ∧ n' ≤ c' ∧ ¬ Fp x v w3.heap.size ∧ ¬ Fp x v w.heap.size ∧ w.heap.size < w3.heap.size) := Lib.hid ⟨P3.out.1.symm, P3.out.2.1, fun hk => by have h7 := A2.out.rg.fp_lt hk; have h8 := P3.out.2.2.2.1.size; omega, fun hk => by have h7 := F2'.out _ hk; have h8 := T1.out.lt; omega, by have h7 := T1.out.lt; have h8 := B2.out.size; have h9 := P3.out.2.2.2.1.size; omega⟩
  obtain ⟨wb, hwb⟩ : ∃ wb, w3.heap.size = wb := ⟨_, rfl⟩
  rw [hwb] at C4 Q4
  simp only [hW4, hwb]
  clear hW4 hwb b4 A2 B2 F2' P3 T1 B1
  have hwb0 : w.heap.size ≤ wb := by have := Q4.out; omega
  go_loopw [9, 13] (fun rp u wr => ∃ (i x n c t : Nat) (v : Value) (L : List UInt8) (A' : Option Addr), i ≤ N ∧ rp = .pointer (some ⟨x, 0, none⟩) ∧ u = .int .i64 (i : Int) ∧ n ≤ 300 * i ∧ t ≤ 300 * i ∧ Hid (At w wr x v lim L t) ∧ Hid (Cb wr wb lim A' n c t) ∧ Hid (Rd wr A' L) ∧ Hid (L.length = n ∧ n ≤ c) ∧ Hid (¬ Fp x v wb) ∧ Hid (Out A' L (Fp x v)) ∧ Hid (Tw wr w.heap.size a b ∧ ¬ Fp x v w.heap.size)) (fun _ u _ => N - (intOf u).toNat)
  case atStart => exact ⟨0, x, n', c', 0, v, [], A', Nat.zero_le _, rfl, rfl, by have := Q4.out; omega, by omega, A4, C4, Lib.hid (Rv.nil _ _), Lib.hid ⟨Q4.out.1.symm, Q4.out.2.1⟩, Lib.hid Q4.out.2.2.1, Lib.hid (fun hm => absurd rfl hm), Lib.hid ⟨T4.out, Q4.out.2.2.2.1⟩⟩
  case round =>
    obtain ⟨i, x, n, c, t, v, L, A', hi, rfl, rfl, hn, ht, AT, CB, RT, NL, NB, OU, TW⟩ := hrel
    have p0 := CB.out.c0
    have p1 := CB.out.c1
    have p2 := CB.out.c2
    by_cases hlt : i < N
    · obtain ⟨ac, hac⟩ : ∃ a, ls[i]? = some a := ⟨_, List.getElem?_eq_getElem (by rw [HN.out]; exact hlt)⟩
      have hma := List.mem_of_getElem? hac
      obtain ⟨ad, hAL, q0, q1, q2, q3⟩ := (HRA.out.below AT.out.bel).at hac
      subst hAL
      have AC : Hid (Calls Tryd.prog 16 #[.pointer (some ⟨x, 0, none⟩), rv lim A' n c t, ac.val] wr.drew (AcPost w wr.drew x v L A' lim n t)) := Lib.hid (act_any (AT.out.dr 1) A' n c NL.out.1 NL.out.2 (by omega) (Rv.same RT.out (fun _ _ => rfl)) (by omega) ac (HAL.out ac hma) (HOK.out ac hma))
      obtain ⟨wh, B, Ma, cm, ofs, nn⟩ := ac
      simp only at q0 q1 q2 q3
      have wi : IntKind.i64.wrap (i : Int) = (i : Int) := IntWalk.i64_in _ (by omega)
      clear hac hma
      go_upto_region 8 with fail
      go_region_law ((go_simp; go_at_call 16; refine AC.out.mono ?_; rintro e w7 ⟨x3, v3, L3, t3, A3, n3, c3, rfl, ha7, hl7, hc7, hr7, hn7, ht7, hg7, hf7, ho7, _⟩; have tq : Cb w7 wb lim A' n c t := CB.out.same (hg7.block _ CB.out.lt NB.out); have d0 := tq.c0; have f0 := tq.free 0; obtain ⟨Wa, hWa⟩ : ∃ Wa, w7.setCell ⟨wb, 0, none⟩ (.int .i64 (lim : Int)) = Wa := ⟨_, rfl⟩; have ka : Cb Wa wb lim A' n c t := (by rw [← hWa]; exact tq.set0 lim); have d1 := ka.c1; have f1 := ka.free 1; obtain ⟨Wb, hWb⟩ : ∃ Wb, Wa.setCell ⟨wb, 1, none⟩ (.slice A3 n3 c3) = Wb := ⟨_, rfl⟩; have kb : Cb Wb wb lim A3 n3 c3 t := (by rw [← hWb]; exact ka.set1 A3 n3 c3); have d2 := kb.c2; have f2 := kb.free 2; obtain ⟨Wc, hWc⟩ : ∃ Wc, Wb.setCell ⟨wb, 2, none⟩ (.int .i64 (t3 : Int)) = Wc := ⟨_, rfl⟩; have kc : Cb Wc wb lim A3 n3 c3 t3 := (by rw [← hWc]; exact kb.set2 t3); have KC := Lib.hid kc; have FN := Lib.hid (step_done ha7 hr7 hg7 hf7 CB.out NB.out hwb0 (by rw [hWa, hWb, hWc] : ((w7.setCell ⟨wb, 0, none⟩ (.int .i64 (lim : Int))).setCell ⟨wb, 1, none⟩ (.slice A3 n3 c3)).setCell ⟨wb, 2, none⟩ (.int .i64 (t3 : Int)) = Wc)); have TC : Hid (Tw Wc w.heap.size a b ∧ ¬ Fp x3 v3 w.heap.size) := Lib.hid ⟨TW.out.1.same (by rw [← hWc, ← hWb, ← hWa, Below.heap_setCell _ _ _ _ (by show w.heap.size ≠ wb; have := Q4.out; omega), Below.heap_setCell _ _ _ _ (by show w.heap.size ≠ wb; have := Q4.out; omega), Below.heap_setCell _ _ _ _ (by show w.heap.size ≠ wb; have := Q4.out; omega)]; exact hg7.block _ TW.out.1.lt TW.out.2), fun hk => (hf7 _ hk).elim TW.out.2 (fun h => by have h9 := TW.out.1.lt; have h8 : wr.drew.heap.size = wr.heap.size := rfl; omega)⟩; have LL : Hid (L3.length = n3 ∧ n3 ≤ c3) := Lib.hid ⟨hl7, hc7⟩; have O7 := Lib.hid (ho7 OU.out); have hle : n3 ≤ n + 300 ∧ t3 ≤ t + 300 := ⟨hn7, ht7⟩; clear ha7 hl7 hc7 hr7 hn7 ht7 hg7 hf7 ho7 tq ka kb kc))
      all_goals
        go_wp2_with fail
        exact ⟨⟨i + 1, x3, n3, c3, t3, v3, L3, A3, by omega, rfl, by simp, by omega, by omega, Lib.hid FN.out.1, KC, Lib.hid FN.out.2.1, LL, Lib.hid FN.out.2.2, O7, TC⟩, by simp [intOf]; omega⟩
    · have CL := Lib.hid (clone_any AT.out.rg)
      clear p0 p1 p2 A4 C4 T4
      obtain ⟨bb, hbb⟩ : ∃ bb : Bool, bb = bb := ⟨true, rfl⟩
      clear hbb bb
      go_wp2_with (first
        | (go_at_call 22; refine CL.out.mono ?_; rintro e w5 ⟨y, u, rfl, hg5, hb5, hf5⟩; have AY := Lib.hid (At.new AT.out.bel hg5 hb5 hf5); have A5 := Lib.hid (AT.out.below hb5); have C5 := Lib.hid (CB.out.same (W' := w5) (hb5.block _ CB.out.lt)); have R5 := Lib.hid (RT.out.below hb5); have T5 := Lib.hid (TW.out.1.same (W' := w5) (hb5.block _ TW.out.1.lt)); have D5 : Hid (∀ k, Fp y u k → ¬ Fp x v k) := Lib.hid (fun k h7 h8 => by have h9 := hf5 k h7; have h10 := AT.out.rg.fp_lt h8; omega); have OY : Hid (Out A' L (Fp y u)) := Lib.hid (fun hm ad e hy => by have h9 := hf5 _ hy; have h10 := rd_lt RT.out hm ad e; omega); have i0 := C5.out.c0; have i1 := C5.out.c1; have i2 := C5.out.c2; have j0 := T5.out.cell 0; have j1 := T5.out.cell 1; have j2 := T5.out.cell 2; have j3 := T5.out.cell 3; simp only [Ac.cells, List.cons_append, List.nil_append, List.getElem?_cons_zero, List.getElem?_cons_succ] at j0 j1 j2 j3; have AC1 := Lib.hid (act_any A5.out A' n c NL.out.1 NL.out.2 (by omega) R5.out (by omega) a KAB.out.1 OAB.out.1); clear hg5 hb5 hf5)
        | (go_at_call 16; (with_reducible refine AC1.out.mono ?_); rintro e w6 ⟨x6, v6, L6, t6, A6, n6, c6, rfl, ha6, hl6, hc6, hr6, hn6, ht6, hg6, hf6, ho6, hx6⟩; have S7 := Lib.hid (st7 (n6 := n6) (c6 := c6) AY.out D5.out C5.out NB.out OU.out OY.out R5.out T5.out TW.out.2 ha6 hr6 hg6 hf6 hx6); obtain ⟨W7, hW7⟩ : ∃ W7, w6.alloc (.cells #[.int .i64 (lim : Int), .slice A6 n6 c6, .int .i64 (t6 : Int)] 31) = W7 := ⟨_, rfl⟩; rw [hW7] at S7; have L7 : Hid (L6.length = n6 ∧ n6 ≤ c6) := Lib.hid ⟨hl6, hc6⟩; have k0 := S7.out.cb.c0; have k1 := S7.out.cb.c1; have k2 := S7.out.cb.c2; have l4 := S7.out.tw.cell 4; have l5 := S7.out.tw.cell 5; have l6 := S7.out.tw.cell 6; have l7 := S7.out.tw.cell 7; simp only [Ac.cells, List.cons_append, List.nil_append, List.getElem?_cons_zero, List.getElem?_cons_succ] at l4 l5 l6 l7; have AC2 := Lib.hid (act_any S7.out.ay A' n c NL.out.1 NL.out.2 (by omega) S7.out.ra (by omega) b KAB.out.2 OAB.out.2); clear ha6 hl6 hc6 hr6 hg6 hf6 ho6 hx6)
        | (go_at_call 16; refine AC2.out.mono ?_; rintro e w8 ⟨y8, u8, L8, t8, A8, n8, c8, rfl, ha8, hl8, hc8, hr8, hn8, ht8, hg8, hf8, ho8, hx8⟩; have S9 := Lib.hid (st9 (n8 := n8) (c8 := c8) S7.out ha8 hr8 hg8); obtain ⟨W9, hW9⟩ : ∃ W9, w8.alloc (.cells #[.int .i64 (lim : Int), .slice A8 n8 c8, .int .i64 (t8 : Int)] 31) = W9 := ⟨_, rfl⟩; rw [hW9] at S9; have L9 : Hid (L8.length = n8 ∧ n8 ≤ c8) := Lib.hid ⟨hl8, hc8⟩; have g0 := S9.out.cx.c0; have g1 := S9.out.cx.c1; have g2 := S9.out.cx.c2; have g3 := S9.out.cy.c0; have g4 := S9.out.cy.c1; have g5 := S9.out.cy.c2; obtain ⟨bb, hbb⟩ : ∃ bb, (L6 == L8) = bb := ⟨_, rfl⟩; have hb2 : (L8 == L6) = bb := (by rw [← hbb]; exact Bool.eq_iff_iff.2 ⟨fun h => by rw [beq_iff_eq] at h ⊢; exact h.symm, fun h => by rw [beq_iff_eq] at h ⊢; exact h.symm⟩); have hbx : (bb != bb) = false := (by cases bb <;> rfl); have HBB := Lib.hid (And.intro hbb hb2); have SM := Lib.hid (rsame_any W9 lim lim A6 A8 L6 L8 n6 n8 c6 c8 t6 t8 L7.out.1 L9.out.1 S9.out.rx S9.out.ry bb (by rw [decide_eq_true rfl, Bool.true_and]; exact hbb)); clear ha8 hl8 hc8 hr8 hg8 hf8 ho8 hx8 hbb hb2)
        | (go_at_call 23; refine SM.out.mono ?_; rintro e w10 ⟨rfl, hb10⟩; have S10 := Lib.hid (S9.out.below hb10); have IS1 := Lib.hid (is_any S10.out.ax A6 n6 c6 L7.out.1 S10.out.rx 1); have h0 := S10.out.cx.c0; have h1' := S10.out.cx.c1; have h2' := S10.out.cx.c2; clear hb10)
        | (go_at_call 15; refine (num_any _ _).mono ?_; rintro e wn ⟨rfl, rfl⟩)
        | (go_at_call 17; (with_reducible refine IS1.out.mono ?_); rintro e w11 ⟨rfl, hb11⟩; have S11 := Lib.hid (S10.out.below hb11); have IS2 := Lib.hid (is_any S11.out.ay A8 n8 c8 L9.out.1 S11.out.ry 1); have m0 := S11.out.cy.c0; have m1 := S11.out.cy.c1; have m2 := S11.out.cy.c2; clear hb11)
        | (go_at_call 17; refine IS2.out.mono ?_; rintro e w12 ⟨rfl, hb12⟩; have S12 := Lib.hid (S11.out.below hb12); have EQ1 := Lib.hid (equal_rings S12.out.ax.rg S12.out.ay.rg bb (by rw [decide_eq_true rfl, Bool.true_and]; exact HBB.out.1)); clear hb12)
        | (go_at_call 24; (with_reducible refine EQ1.out.mono ?_); rintro e w13 ⟨rfl, hb13⟩; have S13 := Lib.hid (S12.out.below hb13); have EQ2 := Lib.hid (equal_rings S13.out.ay.rg S13.out.ax.rg bb (by rw [decide_eq_true rfl, Bool.true_and]; exact HBB.out.2)); clear hb13)
        | (go_at_call 24; (with_reducible refine EQ2.out.mono ?_); rintro e w14 ⟨rfl, hb14⟩; have S14 := Lib.hid (S13.out.below hb14); have LA := Lib.hid (at_last S14.out.ax (lim : Int) L6 n6 (by have h7 := S14.out.ax.rg.len; unfold lst; rw [if_neg (by omega), Int.toNat_natCast]; exact fin_short h7) L7.out.1); clear hb14)
        | (go_at_call 25; refine LA.out.mono ?_; rintro e w15 ⟨A15, c15, rfl, hc15, _, ho15, ha15, hb15⟩; have A15' := Lib.hid ha15; have O15 := Lib.hid ho15; have BZ := Lib.hid ha15.bel; clear ho15 ha15 hb15))
      have hn6 : n6 ≤ 300 := by have h7 := L7.out.1; have h8 := A15'.out.rg.len; omega
      by_cases hoo : o < 1 ∨ 134217728 < o
      · refine (new_bad w15 (HG.out.bel BZ.out) o hoo _).mono ?_
        rintro e w15 ⟨rfl, rfl⟩
        go_wp2_with (first
          | (go_at_call 15; refine (num_any _ _).mono ?_; rintro e wn ⟨rfl, rfl⟩)
          | (go_at_call 12; refine (works_any _ (HG.out.bel BZ.out)).mono ?_; rintro e w19 ⟨rfl, hb⟩; have HB := Lib.hid (below_on BZ.out (Nat.le_refl _) hb); clear hb))
        go_ret
        exact ⟨rfl, HB.out⟩
      · obtain ⟨q, rfl⟩ : ∃ q : Nat, o = (q : Int) := ⟨o.toNat, by omega⟩
        refine (at_new HG.out BZ.out q (by omega) (by omega) A15 L6 n6 c15 L7.out.1 hc15 (by omega) (Rv.of_own O15.out)).mono ?_
        rintro e w16 ⟨x16, v16, rfl, ha16, hb16, _⟩
        have EQ3 := Lib.hid (equal_rings ha16.rg (A15'.out.below hb16).rg _ rfl)
        have B16 := Lib.hid ha16.bel
        by_cases hq : q = lim
        · subst hq
          have hfe : fin q L6 = L6 := fin_short A15'.out.rg.len
          rw [hfe, decide_eq_true rfl, beq_self_eq_true, Bool.and_self] at EQ3
          clear ha16 hb16
          go_wp2_with (first
            | (go_at_call 15; refine (num_any _ _).mono ?_; rintro e wn ⟨rfl, rfl⟩)
            | (go_at_call 24; refine EQ3.out.mono ?_; rintro e w17 ⟨rfl, hb17⟩; have B17 := Lib.hid (below_on B16.out (Nat.le_refl _) hb17); clear hb17)
            | (go_at_call 12; refine (works_any _ (HG.out.bel B17.out)).mono ?_; rintro e w19 ⟨rfl, hb⟩; have HB := Lib.hid (below_on B17.out (Nat.le_refl _) hb); clear hb))
          go_ret
          exact ⟨rfl, HB.out⟩
        · rw [decide_eq_false hq, Bool.false_and] at EQ3
          have hql : ((q : Int) == (lim : Int)) = false := by simp; omega
          have hql2 : (q == lim) = false := by simp [hq]
          clear ha16 hb16
          go_wp2_with (first
            | (go_at_call 15; refine (num_any _ _).mono ?_; rintro e wn ⟨rfl, rfl⟩)
            | (go_at_call 24; refine EQ3.out.mono ?_; rintro e w17 ⟨rfl, hb17⟩; have B17 := Lib.hid (below_on B16.out (Nat.le_refl _) hb17); clear hb17)
            | (go_at_call 12; refine (works_any _ (HG.out.bel B17.out)).mono ?_; rintro e w19 ⟨rfl, hb⟩; have HB := Lib.hid (below_on B17.out (Nat.le_refl _) hb); clear hb))
          go_ret
          exact ⟨rfl, HB.out⟩

theorem walk (z : Int) (AL : Option Addr) (ls : List Ac) (cl : Nat) (a b : Ac) (o : Int) (w : World) (hg : Gl w) (_ : (Lit.int .i64 z).wf = true) (hRA : RdA w AL ls) (hOK : ∀ a ∈ ls, AcOk w a) (_ : ls.length ≤ cl) (oa : AcOk w a) (ob : AcOk w b) (_ : (Lit.int .i64 o).wf = true) :
    Calls Tryd.prog 5 #[.int .i64 z, .slice AL ls.length cl, tval a b, .int .i64 o] w fun e w' => e = .returned (.bool true) ∧ Below w.heap.size w w' := by
  by_cases h1 : z < 1 ∨ 300 < z
  · exact walk_else z AL ls _ cl a b o w hg rfl hRA (h1.imp id .inl)
  · cases hf1 : fw ls 20 with
    | false => exact walk_else z AL ls _ cl a b o w hg rfl hRA (.inr (.inr (.inl hf1)))
    | true =>
      cases hf2 : fw [a, b] 2 with
      | false => exact walk_else z AL ls _ cl a b o w hg rfl hRA (.inr (.inr (.inr hf2)))
      | true =>
        obtain ⟨lim, rfl⟩ : ∃ lim : Nat, z = (lim : Int) := ⟨z.toNat, by omega⟩
        exact walk_ok lim AL ls _ cl a b o w hg rfl hRA hOK oa ob (by omega) (by omega) hf1 hf2

set_option maxRecDepth 100000 in
theorem lifted (os : Os) (started : os.Started) (H : Type) (enc : TypeId × Value → H) :
    ReturnsInHanded {} Tryd.checked os 5 .any (fun w args => (Rows.ringClonesSpec.pre enc Tryd.prog Tryd.f5 [] false w args ∧ laidMetH Tryd.prog laidS w) ∧ sizedMet enc Tryd.prog Tryd.f5 (OpenSpec.ofChange Rows.ringClonesSpec) false w args) (Rows.ringClonesSpec.post enc Tryd.prog Tryd.f5 false true false false) := by
  refine returnsInHanded_of_change_and (C := Tryd.checked) (X := fun w _ => laidMetH Tryd.prog laidS w) (fun _ _ _ hh h => h.of_heap hh) ownB started (by kernel_rfl) Tryd.func5
    (ChangeSpec.witness_shaped (enc := enc) (C := Tryd.checked) (os := os) (X := fun w _ => laidMetH Tryd.prog laidS w) false (World.doorLaid Tryd.prog 400 os) #[.int .i64 0, .slice none 0 0, .agg #[.int .i64 0, .slice none 0 0, .int .i64 0, .int .i64 0, .int .i64 0, .slice none 0 0, .int .i64 0, .int .i64 0], .int .i64 0] 8 rfl (World.shaped_of_RefB (by kernel_rfl) (by kernel_rfl)) (by kernel_rfl) (by kernel_rfl) (by kernel_rfl) (door_met os _)) ?_
  intro W base args ds gs before hval0 hW _ hsz0 hL _
  have hgl := gl_of_laid hL
  have hsz : (DataW.weightsEach Tryd.prog (Tryd.f5.params.toList ++ Rows.ringClonesSpec.plain.varTypes Tryd.prog) (ds ++ gs)).all (· ≤ reachBytes) = true := hsz0
  clear hsz0
  have hval : ∀ (j : Nat) t v, Tryd.f5.params[j]? = some t → args[j]? = some v → Value.okWide Tryd.prog W .any base t v := hval0
  have hW' := hW
  obtain ⟨p, q, hA0, hV, rfl, hfz, hnd⟩ := hW
  have hA : DataW.TrodAll enc Tryd.prog W 0 (fun _ => true) true Tryd.f5.params.toList args.toList ds p := hA0
  rw [Tryd.params5] at hA hval hsz
  obtain ⟨v0, vs0, d0, ds0, p0, q0, hargs, rfl, rfl, h0, r0⟩ := trodAll_cons hA
  obtain ⟨v1, vs1, d1, ds1, p1, q1, rfl, rfl, rfl, h1, r1⟩ := trodAll_cons r0
  obtain ⟨v2, vs2, d2, ds2, p2, q2, rfl, rfl, rfl, h2, r2⟩ := trodAll_cons r1
  obtain ⟨v3, vs3, d3, ds3, p3, q3, rfl, rfl, rfl, h3, r3⟩ := trodAll_cons r2
  obtain ⟨rfl, rfl, rfl⟩ := trodAll_nil r3
  obtain rfl : args = #[v0, v1, v2, v3] := by cases args; simp_all
  obtain ⟨rfl, rfl⟩ := trodVars_none hV
  obtain ⟨a0, rfl, rfl, rfl, w0⟩ := open_int Tryd.underlying3 (hval 0 3 v0 rfl rfl) h0
  obtain ⟨a1, len1, cap1, rfl⟩ := okWide_slice Tryd.underlying23 (hval 1 23 v1 rfl rfl)
  have k1 := h1
  have lt1 : ∀ x ∈ p1, x.block < W.heap.size := by obtain ⟨m, hm⟩ := k1; exact DataW.trod_lt m _ _ _ hm
  obtain ⟨l1, rfl, hc1, ra1, ok1⟩ := open_acts h1
  obtain ⟨cs2, rfl, hcs2⟩ := okWide_array und_two (hval 2 48 v2 rfl rfl)
  have k2 := h2
  have lt2 : ∀ x ∈ p2, x.block < W.heap.size := by obtain ⟨m, hm⟩ := k2; exact DataW.trod_lt m _ _ _ hm
  obtain ⟨x2, y2, rfl, ox2, oy2⟩ := open_two hcs2 h2
  obtain ⟨a3, rfl, rfl, rfl, w3⟩ := open_int Tryd.underlying3 (hval 3 3 v3 rfl rfl) h3
  clear hA0 hval0
  refine (walk a0 a1 l1 cap1 x2 y2 a3 W hgl w0 ra1 ok1 hc1 ox2 oy2 w3).mono fun e W' ⟨he, bel⟩ => ?_
  subst he
  exact ⟨_, rfl, _, _, _, [], _, [], hW', trodAll_mk1 (shut_bool Tryd.underlying4 _), (trodAll_cons_mk (shut_int Tryd.underlying3 w0) (trodAll_cons_mk (Below.trod laidOut (by kernel_rfl) (of_decide_eq_true (by kernel_rfl)) k1 bel lt1) (trodAll_cons_mk (Below.trod laidOut (by kernel_rfl) (of_decide_eq_true (by kernel_rfl)) k2 bel lt2) (trodAll_cons_mk (shut_int Tryd.underlying3 w3) trodAll_mk0)))), rfl, bel.frame _, fun h => by cases h⟩

theorem row_proved : Rows.RingClonesSaid :=
  OpenClaim.holds_of_wide 5 Tryd.f5 rfl rfl rfl rfl rfl rfl rfl ⟨rfl, rfl, rfl, rfl, rfl⟩ rfl rfl rfl rfl rfl (by kernel_rfl) Tryd.func5 (by kernel_rfl)
    (of_decide_eq_true (by kernel_rfl)) (by unfold Func.isWrapper; rw [if_neg (by decide +kernel)]; exact ⟨rfl, rfl⟩)
    (fun os started H enc _ => lifted os started H enc)

theorem proved : Rows.RingClonesCardSaid :=
  Claim7.holds_tied_plain_at .later [] [.data] true Rows.ringClonesCard.stood.harness false
    row_proved (fun _ h => by cases h) (by kernel_rfl) (fun _ h => by cases h) ringClones_row_tie rfl ⟨rfl, rfl⟩ (by kernel_rfl) rfl
    (fun f fn hf hfn => by
      obtain rfl : f = 5 := Option.some.inj ((show Tryd.prog.funcNamed "portmanteau/portmanteaulaw06.RingClones" = some 5 by kernel_rfl).symm.trans hf) |>.symm
      obtain rfl : fn = Tryd.f5 := (Option.some.inj (Tryd.func5.symm.trans hfn)).symm
      exact ⟨by kernel_rfl, fun j t ht => by
        rw [Tryd.params5] at ht
        have hall : ∀ t ∈ [3, 23, 48, 3], Tryd.prog.wantsStandIn t = false := by
          intro t ht
          simp only [List.mem_cons, List.not_mem_nil, or_false] at ht
          rcases ht with rfl | rfl | rfl | rfl
          all_goals kernel_rfl
        refine hall t ?_
        rw [← Array.getElem?_toList] at ht
        exact List.mem_of_getElem? ht⟩)
    (by kernel_rfl)

#print axioms proved

end Go.Proofs.YteogpmapbeogpaaDoor.ringClones
