/-
  What the reference's Backward, Last and Decode do: the symbols that fdR says, or the error. Conditions: at most 300 norms and 500 bytes.
  What the reference's Decode does: the symbols that fdR says, or the error. Conditions: at most 300 norms and 500 bytes.
-/
import Derived.Test.YtgokbpnikgbfgaaSf
import Derived.Test.YtgokbpnikgbfgaaQc
import Derived.Deep.CutRange
import Derived.Deep.DeepCutAuto
namespace Go.Proofs.Ytgokbpnikgbfgaa
open Go.RowKit Go.Shelf
open Bt (unp unp_len val endOf Rf)

/-- The reference's reader has the bits L ahead of it. -/
def Rl (w : World) (y g : Nat) (L : List Bool) : Prop := (g < w.heap.size ∧ L.length ≤ 4000) ∧ ∃ A c k, k + L.length ≤ 4000 ∧ Rf w y g A c L k

theorem Rl.lt {w : World} {y g : Nat} {L : List Bool} (h : Rl w y g L) : y < w.heap.size := by
  obtain ⟨_, A, c, k, _, h2⟩ := h
  exact h2.lt
theorem Rl.below {w w' : World} {y g : Nat} {L : List Bool} (h : Rl w y g L) (hb : Below w.heap.size w w') : Rl w' y g L := by
  obtain ⟨⟨h1, hg⟩, A, c, k, hk, h2⟩ := h
  exact ⟨⟨Nat.lt_of_lt_of_le h1 hb.size, hg⟩, A, c, k, hk, h2.below hb⟩
theorem Rl.grown {w w' : World} {y g : Nat} {L : List Bool} {r : Option Nat} (h : Rl w y g L) (hb : w.grownBy w' r) (hy : some y ≠ r) (hg : some g ≠ r) : Rl w' y g L := by
  obtain ⟨⟨h0, h1⟩, A, c, k, hk, h2⟩ := h
  exact ⟨⟨Nat.lt_of_lt_of_le h0 hb.size, h1⟩, A, c, k, hk, h2.same hb.size (hb.block y h2.lt hy) (fun ad e => hb.block g h0 hg)⟩
theorem Rl.cell {w : World} {y g : Nat} {L : List Bool} (h : Rl w y g L) : ∃ A c, w.cell? ⟨y, 0, none⟩ = some (.slice A L.length c) := by
  obtain ⟨_, A, c, k, _, h2⟩ := h
  exact ⟨A, c, h2.cell0⟩
theorem rl_made {w w' : World} {l : List Bool} {y : Nat} (h : Bt.RMade w l y w') (hl : l.length ≤ 4000) : ∃ g, Rl w' y g l ∧ w.heap.size ≤ y ∧ w.heap.size ≤ g ∧ Below w.heap.size w w' := by
  obtain ⟨g, A, c, hr, hb, hy, hg⟩ := h
  cases A with
  | none => exact ⟨y, ⟨⟨hr.lt, hl⟩, none, c, 0, by omega, ⟨hr.blk, hr.rd, hr.cap, fun ad e => by cases e⟩⟩, hy, hy, hb⟩
  | some a => exact ⟨g, ⟨⟨(hr.ne a rfl).2.2, hl⟩, some a, c, 0, by omega, hr⟩, hy, hg, hb⟩

/-- Bits have been read, or there were too few. -/
def LsR (L : List Bool) (n : Nat) (V : Nat) (L' : List Bool) (er : Int) : Prop := (lst L n = some (V, L') ∧ er = 0) ∨ (lst L n = none ∧ V = 0 ∧ er = 14)
theorem last_u {w : World} {y g : Nat} {L : List Bool} (h : Rl w y g L) (n : Nat) (hn : n ≤ 64) :
    Calls Try.prog 29 #[.pointer (some ⟨y, 0, none⟩), .int .i64 (n : Int)] w fun e w' => ∃ (V : Nat) (L' : List Bool) (er : Int), e = .returned (.tuple #[.int .u64 (V : Int), .int .i64 er]) ∧
      LsR L n V L' er ∧ Rl w' y g L' ∧ w.grownBy w' (some y) := by
  obtain ⟨⟨h0, h1⟩, A, c, k, hk, h2⟩ := h
  by_cases hl : n ≤ L.length
  · refine (Bt.last_ok h2 (by omega) (by omega) n hn hl).mono ?_
    rintro e w' ⟨rfl, ⟨A1, c1, h3⟩, hg⟩
    refine ⟨_, _, 0, rfl, .inl ⟨by rw [lst, if_neg (by omega)], rfl⟩, ⟨⟨Nat.lt_of_lt_of_le h0 hg.size, ?_⟩, A1, c1, k + n, ?_, h3⟩, hg⟩
    · rw [List.length_take]; omega
    · rw [List.length_take]; omega
  · have hr : Bt.chk (n : Int) L.length 14 = 14 := by rw [Bt.chk, if_neg (by omega), if_pos (by omega)]
    refine (Bt.last_err h2 (n : Int) 14 hr (by decide)).mono ?_
    rintro e w' ⟨rfl, rfl⟩
    exact ⟨0, L, 14, rfl, .inr ⟨lst_none (by omega), rfl, rfl⟩, ⟨⟨h0, h1⟩, A, c, k, hk, h2⟩, ⟨rfl, rfl, rfl, Nat.le_refl _, fun i _ _ => rfl⟩⟩
theorem LsR.lt {L L' : List Bool} {n V : Nat} {er : Int} (h : LsR L n V L' er) : V < 2 ^ n := by
  rcases h with ⟨h, _⟩ | ⟨_, rfl, _⟩
  · exact (lst_inv h).2
  · exact Nat.two_pow_pos n

theorem rback_n (w : World) (A : Option Addr) (D : List UInt8) (N cap : Nat) (hN : D.length = N) (hs : N ≤ 500) (hR : Bt.Rd w A D) (he : endOf D = none) :
    Calls Try.prog 19 #[.slice A N cap] w fun r w' => r = .returned (.tuple #[.pointer none, .int .i64 14]) ∧ Below w.heap.size w w' := by
  rcases List.eq_nil_or_concat D with rfl | ⟨F, b, rfl⟩
  · subst hN
    exact Bt.rback_none w A cap
  · rw [List.concat_eq_append] at hN hR he
    have hb : b.toNat = 0 := by
      unfold endOf at he
      rw [List.getLast?_concat] at he
      dsimp only at he
      split at he
      · rename_i h; exact h
      · cases he
    exact Bt.rback_zero w A F b N cap (by rw [List.length_append] at hN; exact hN) hs hR hb

/-- What a function returns that returns symbols and an error. -/
def Fres (w : World) (R : Nat × List Nat) (e : Ending) (w' : World) : Prop :=
  ∃ (A1 : Option Addr) (n1 c1 : Nat), e = .returned (.tuple #[.slice A1 n1 c1, .int .i64 (R.1 : Int)]) ∧ Below w.heap.size w w' ∧ w'.ownsRow w.heap.size 3 1 (.slice A1 n1 c1) n1 (R.2.map nv)
theorem Fres.none {w w' : World} {k : Nat} {z : Int} (hz : z = (k : Int)) (hb : Below w.heap.size w w') : Fres w (k, []) (.returned (.tuple #[.slice none 0 0, .int .i64 z])) w' := by
  subst hz
  exact ⟨_, _, _, rfl, hb, World.ownsRow_nil _ _ _ _⟩

/-- What the loop over the symbols holds on to. -/
def Fl (w0 w2 wr : World) (yy g : Nat) (C : List (Nat × Nat × Nat)) (Rz : Option (List Nat × List Bool)) (k a b m : Nat) (A' : Option Addr) (c' : Nat) : Prop :=
  ∃ (out : List Nat) (L : List Bool), Rl wr yy g L ∧ Below w0.heap.size w0 wr ∧ w2.grownBy wr (some yy) ∧ wr.ownsRow w2.heap.size 3 1 (.slice A' m c') m (out.map nv) ∧ (fgo C k a b L).map (fun q => (out ++ q.1, q.2)) = Rz

theorem fgo_short {C : List (Nat × Nat × Nat)} {k a b : Nat} {L : List Bool} (h : ¬ 2 ≤ k) : fgo C (k + 1) a b L = (fgo C k b a L).map fun q => ((cg C a).1 :: q.1, q.2) := by rw [fgo, if_neg h]
theorem fgo_long {C : List (Nat × Nat × Nat)} {k a b v : Nat} {L L' : List Bool} (h : 2 ≤ k) (hl : lst L (cg C a).2.1 = some (v, L')) : fgo C (k + 1) a b L = (fgo C k b ((cg C a).2.2 + v) L').map fun q => ((cg C a).1 :: q.1, q.2) := by rw [fgo, if_pos h, hl]
theorem fgo_stop {C : List (Nat × Nat × Nat)} {k a b : Nat} {L : List Bool} (h : 2 ≤ k) (hl : lst L (cg C a).2.1 = none) : fgo C (k + 1) a b L = none := by rw [fgo, if_pos h, hl]
theorem map_snoc (o : Option (List Nat × List Bool)) (out : List Nat) (x : Nat) : (o.map fun q => (x :: q.1, q.2)).map (fun q => (out ++ q.1, q.2)) = o.map (fun q => ((out ++ [x]) ++ q.1, q.2)) := by
  cases o with
  | none => rfl
  | some q => simp

end Go.Proofs.Ytgokbpnikgbfgaa

namespace Go.Proofs.Ytgokbpnikgbfgaa
open Go.RowKit Go.Shelf
open Bt (unp unp_len val endOf Rf)

theorem fl_app {w0 w2 w4 w6 : World} {y g b n1 c1 : Nat} {L : List Bool} {A1 : Option Addr} {xs : List Value} {o : Obj} (h : Rl w4 y g L) (hw : Below w0.heap.size w0 w4) (h02 : w0.heap.size ≤ b) (hg4 : w2.grownBy w4 (some y)) (hb : b = w2.heap.size) (hy : y < b) (hgl : g < b)
    (ho : w4.ownsRow b 3 1 (.slice A1 n1 c1) n1 xs) (hg6 : (w4.alloc o).grownBy w6 (Value.ownBlock (.slice A1 n1 c1))) : Rl w6 y g L ∧ Below w0.heap.size w0 w6 ∧ w2.grownBy w6 (some y) := by
  subst hb
  have bn : Below w4.heap.size w4 (w4.alloc o) := (Below.refl _ w4).alloc (Nat.le_refl _) _
  refine ⟨(h.below bn).grown hg6 (fun e => ?_) (fun e => ?_), ?_, ?_⟩
  · have := (ho.lt y e.symm).1; omega
  · have := (ho.lt g e.symm).1; omega
  · have b5 := below_on hw (Nat.le_refl _) bn
    exact b5.grown hg6 b5.size (fun j ej => Nat.le_trans h02 (ho.lt j ej).1)
  · refine ⟨hg6.os.trans (bn.os.trans hg4.os), hg6.tape.trans (bn.tape.trans hg4.tape), hg6.output.trans (bn.output.trans hg4.output), Nat.le_trans hg4.size (Nat.le_trans bn.size hg6.size), fun i hi hne => ?_⟩
    have e1 := hg6.block i (Nat.lt_of_lt_of_le hi (Nat.le_trans hg4.size bn.size)) (fun e => by have := (ho.lt i e.symm).1; omega)
    have e2 := bn.block i (Nat.lt_of_lt_of_le hi hg4.size)
    exact (e1.trans e2).trans (hg4.block i hi hne)
theorem int_grown {w4 w5 : World} {y b n1 c1 : Nat} {A1 : Option Addr} {xs : List Value} (ho : w4.ownsRow b 3 1 (.slice A1 n1 c1) n1 xs) (hg : w4.grownBy w5 (some y)) (hy : y < b) : w5.ownsRow b 3 1 (.slice A1 n1 c1) n1 xs :=
  ro_same ho (fun j ej => hg.block j (ro_lt ho ej) (fun e => by injection e with e; have := (ho.lt j ej).1; omega))
theorem below_grown {w0 w w' : World} {y : Nat} (h : Below w0.heap.size w0 w) (hg : w.grownBy w' (some y)) (hy : w0.heap.size ≤ y) : Below w0.heap.size w0 w' := h.grown hg h.size (fun j ej => by cases ej; exact hy)

set_option maxRecDepth 100000 in
set_option maxHeartbeats 1000000 in
theorem rdec_bad (w : World) (y : Int) (A : Option Addr) (l : List Int) (N cap : Nat) (hN : l.length = N) (h3 : N ≤ 300) (hR : Ri w A l) (B : Option Addr) (nb cb : Nat) (n : Int) (hv : vt y l 256 9 = false) :
    Calls Try.prog 14 #[tb y A N cap, .slice B nb cb, .int .i64 n] w (Fres w (13, [])) := by
  have b1 := below_new w (.cells #[.int .i64 y, .slice A N cap] 24)
  have t1 := Tb.new w y A N cap
  obtain ⟨w1, hw1⟩ : ∃ w1, w.alloc (.cells #[.int .i64 y, .slice A N cap] 24) = w1 := ⟨_, rfl⟩
  rw [hw1] at b1 t1
  have c0 := t1.c0
  have c1 := t1.c1
  have OF := Lib.hid (ofc_bad w1 y A l N cap hN (by omega) hv (hR.below b1))
  have B1 := Lib.hid b1
  clear b1 t1 hR hN hv
  go_enter Try.func14, Try.ntmps14
  go_wp2_with (go_at_call 28; refine OF.out.mono ?_; rintro e w2 ⟨rfl, hb2⟩; have B2 := Lib.hid (below_on B1.out (Nat.le_refl _) hb2); clear hb2)
  go_ret2
  exact Fres.none rfl B2.out

set_option maxRecDepth 100000 in
set_option maxHeartbeats 1000000 in
theorem rdec_arg (w : World) (y : Nat) (A : Option Addr) (l : List Int) (N cap : Nat) (hN : l.length = N) (hR : Ri w A l) (B : Option Addr) (nb cb : Nat) (n : Int) (hv : Vt y l) (hn : n < 0 ∨ 131072 < n) :
    Calls Try.prog 14 #[tb (y : Int) A N cap, .slice B nb cb, .int .i64 n] w (Fres w (2, [])) := by
  have b1 := below_new w (.cells #[.int .i64 (y : Int), .slice A N cap] 24)
  have t1 := Tb.new w (y : Int) A N cap
  obtain ⟨w1, hw1⟩ : ∃ w1, w.alloc (.cells #[.int .i64 (y : Int), .slice A N cap] 24) = w1 := ⟨_, rfl⟩
  rw [hw1] at b1 t1
  have c0 := t1.c0
  have c1 := t1.c1
  have OF := Lib.hid (of_rc w1 y _ A l N cap hN hv rfl (hR.below b1))
  have B1 := Lib.hid b1
  clear b1 t1 hR hN hv
  by_cases h0 : n < 0
  · have d0 : decide (n < 0) = true := decide_eq_true h0
    clear hn
    go_enter Try.func14, Try.ntmps14
    go_wp2_with (go_at_call 28; refine OF.out.mono ?_; rintro e w2 ⟨g, cp, rfl, _, hb2⟩; have B2 := Lib.hid (below_on B1.out (Nat.le_refl _) hb2); clear hb2)
    go_ret2
    exact Fres.none rfl B2.out
  · have d0 : decide (n < 0) = false := decide_eq_false h0
    have d1 : decide (131072 < n) = true := decide_eq_true (by omega)
    clear hn
    go_enter Try.func14, Try.ntmps14
    go_wp2_with (go_at_call 28; refine OF.out.mono ?_; rintro e w2 ⟨g, cp, rfl, _, hb2⟩; have B2 := Lib.hid (below_on B1.out (Nat.le_refl _) hb2); clear hb2)
    go_ret2
    exact Fres.none rfl B2.out

set_option maxRecDepth 100000 in
set_option maxHeartbeats 1000000 in
theorem rdec_open (w : World) (y : Nat) (A : Option Addr) (l : List Int) (N cap : Nat) (hN : l.length = N) (hR : Ri w A l) (B : Option Addr) (D : List UInt8) (nb cb : Nat) (hD : D.length = nb) (hb5 : nb ≤ 500) (hRB : Bt.Rd w B D) (n : Int) (hv : Vt y l) (hn : 0 ≤ n ∧ n ≤ 131072) (he : endOf D = none) :
    Calls Try.prog 14 #[tb (y : Int) A N cap, .slice B nb cb, .int .i64 n] w (Fres w (14, [])) := by
  have b1 := below_new w (.cells #[.int .i64 (y : Int), .slice A N cap] 24)
  have t1 := Tb.new w (y : Int) A N cap
  obtain ⟨w1, hw1⟩ : ∃ w1, w.alloc (.cells #[.int .i64 (y : Int), .slice A N cap] 24) = w1 := ⟨_, rfl⟩
  rw [hw1] at b1 t1
  have c0 := t1.c0
  have c1 := t1.c1
  have OF := Lib.hid (of_rc w1 y _ A l N cap hN hv rfl (hR.below b1))
  have BK : Hid (∀ W, Below w.heap.size w W → Calls Try.prog 19 #[.slice B nb cb] W fun r w' => r = .returned (.tuple #[.pointer none, .int .i64 14]) ∧ Below W.heap.size W w') := Lib.hid (fun W hb => rback_n W B D nb cb hD hb5 (Bt.Rv.below hRB hb) he)
  have B1 := Lib.hid b1
  have d0 : decide (n < 0) = false := decide_eq_false (by omega)
  have d1 : decide (131072 < n) = false := decide_eq_false (by omega)
  clear b1 t1 hR hN hv hRB hD hn he
  go_enter Try.func14, Try.ntmps14
  go_wp2_with (first
    | (go_at_call 28; refine OF.out.mono ?_; rintro e w2 ⟨g, cp, rfl, _, hb2⟩; have B2 := Lib.hid (below_on B1.out (Nat.le_refl _) hb2); clear hb2)
    | (go_at_call 19; refine (BK.out _ B2.out).mono ?_; rintro e w3 ⟨rfl, hb3⟩; have B3 := Lib.hid (below_on B2.out (Nat.le_refl _) hb3); clear hb3))
  go_ret2
  exact Fres.none rfl B3.out

set_option maxRecDepth 100000 in
set_option maxHeartbeats 2000000 in
theorem rdec_good (w : World) (y : Nat) (A : Option Addr) (l : List Int) (N cap : Nat) (hN : l.length = N) (hR : Ri w A l) (B : Option Addr) (D : List UInt8) (nb cb : Nat) (hD : D.length = nb) (hb5 : nb ≤ 500) (hRB : Bt.Rd w B D) (nn : Nat) (hv : Vt y l) (hn : nn ≤ 131072) (e0 : Nat) (he : endOf D = some e0) (R : Nat × List Nat) (hRR : fdR (y : Int) l D (nn : Int) = R) :
    Calls Try.prog 14 #[tb (y : Int) A N cap, .slice B nb cb, .int .i64 (nn : Int)] w (Fres w R) := by
  have hy9 := hv.log
  have b1 := below_new w (.cells #[.int .i64 (y : Int), .slice A N cap] 24)
  have t1 := Tb.new w (y : Int) A N cap
  have SZ1 : Hid ((w.alloc (.cells #[.int .i64 (y : Int), .slice A N cap] 24)).heap.size = w.heap.size + 1) := Lib.hid (World.size_alloc _ _)
  obtain ⟨w1, hw1⟩ : ∃ w1, w.alloc (.cells #[.int .i64 (y : Int), .slice A N cap] 24) = w1 := ⟨_, rfl⟩
  rw [hw1] at b1 t1 SZ1
  have c0 := t1.c0
  have c1 := t1.c1
  obtain ⟨s, hse⟩ : ∃ s, 2 ^ y = s := ⟨_, rfl⟩
  have hs5 : s ≤ 512 := by rw [← hse]; exact hv.size
  have OF := Lib.hid (of_rc w1 y s A l N cap hN hv hse (hR.below b1))
  obtain ⟨L0, hL0⟩ : ∃ L0, (unp D).take e0 = L0 := ⟨_, rfl⟩
  have hL4 : L0.length ≤ 4000 := by rw [← hL0, List.length_take, unp_len]; omega
  have BK : Hid (∀ W, Below w.heap.size w W → Calls Try.prog 19 #[.slice B nb cb] W fun r w' => ∃ y, r = .returned (.tuple #[.pointer (some ⟨y, 0, none⟩), .int .i64 0]) ∧ Bt.RMade W L0 y w') := Lib.hid (fun W hb => by
    rw [← hL0]
    exact Bt.rback_ok W B D nb cb hD hb5 (Bt.Rv.below hRB hb) e0 he)
  have MC := Lib.hid (vt_mch hv)
  have CE : Hid (cls y l (spl s l) = CC y l) := Lib.hid (by rw [← hse]; rfl)
  obtain ⟨C, hC⟩ : ∃ C, CC y l = C := ⟨_, rfl⟩
  rw [hC] at MC CE
  rw [CE.out] at OF
  obtain ⟨Rz, hRz⟩ : ∃ Rz, fdx C y L0 nn = Rz := ⟨_, rfl⟩
  have FN : Hid (Rz = none → R = (14, [])) := Lib.hid (fun h => by rw [← hRR, fdR_ok D hv hn, he]; dsimp only; rw [hL0, hC, fdc, hRz, h])
  have FS : Hid (∀ o L, Rz = some (o, L) → R = if L = [] then (0, o) else (14, [])) := Lib.hid (fun o L h => by
    rw [← hRR, fdR_ok D hv hn, he]
    dsimp only
    rw [hL0, hC, fdc, hRz, h]
    cases L with
    | nil => rfl
    | cons b L => rfl)
  have HRZ := Lib.hid hRz
  have HSE := Lib.hid hse
  have B1 := Lib.hid b1
  have T1 := Lib.hid t1
  have d0 : decide ((nn : Int) < 0) = false := decide_eq_false (by omega)
  have d1 : decide ((131072 : Int) < (nn : Int)) = false := decide_eq_false (by omega)
  clear b1 t1 hR hN hv hRB hD he hL0 hRR hC hRz hse
  go_enter Try.func14, Try.ntmps14
  go_upto_region 10 with (first
    | (go_at_call 28; refine OF.out.mono ?_; rintro e w2 ⟨gc, cp, rfl, hrc, hb2⟩; have B2 := Lib.hid (below_on B1.out (Nat.le_refl _) hb2); have RC2 := Lib.hid hrc; have T2 := Lib.hid (T1.out.below hb2); clear hb2 hrc)
    | (go_at_call 19; refine (BK.out _ B2.out).mono ?_; rintro e w3 ⟨yy, rfl, hm⟩; obtain ⟨g, hr3, hyw, hgw, hb3⟩ := rl_made hm hL4; have R3 := Lib.hid hr3; have HYW : Hid (w2.heap.size ≤ yy ∧ w2.heap.size ≤ g ∧ yy < w3.heap.size ∧ g < w3.heap.size) := Lib.hid ⟨hyw, hgw, hr3.lt, hr3.1.1⟩; have B23 := Lib.hid hb3; have T3 := Lib.hid (T2.out.below hb3); have u0 := T3.out.c0; clear hm hr3 hyw hgw hb3))
  have HB0 : Hid (w.heap.size < w2.heap.size) := Lib.hid T2.out.lt
  clear OF BK c0 c1
  have hs1 : 0 < s := by rw [← HSE.out]; exact Nat.two_pow_pos y
  by_cases hn0 : nn = 0
  · have k0 : decide ((0 : Int) < (nn : Int)) = false := decide_eq_false (by omega)
    have k0n : decide (0 < nn) = false := decide_eq_false (by omega)
    have k1n : decide (1 < nn) = false := decide_eq_false (by omega)
    have k1 : decide ((1 : Int) < (nn : Int)) = false := decide_eq_false (by omega)
    have S0 : Hid (Fl w2 w3 w3 yy g C Rz nn 0 0 0 none 0) := Lib.hid ⟨[], L0, R3.out, B23.out, ⟨rfl, rfl, rfl, Nat.le_refl _, fun i _ _ => rfl⟩, World.ownsRow_nil _ _ _ _, by rw [← HRZ.out, hn0]; rfl⟩
    have hav : 0 < s := hs1
    have hcv : 0 < s := hs1
    clear hn0
    go_wp2_with fail
    go_loopw [14, 15, 16, 17] (fun a b o p wr => ∃ (i av cv c' : Nat) (A' : Option Addr), i ≤ nn ∧ av < s ∧ cv < s ∧ a = .int .i64 (av : Int) ∧ b = .int .i64 (cv : Int) ∧ o = .slice A' i c' ∧ p = .int .i64 (i : Int) ∧ Hid (Fl w2 w3 wr yy g C Rz (nn - i) av cv i A' c')) (fun _ _ _ p _ => nn - (intOf p).toNat)
    case atStart => exact ⟨0, 0, 0, 0, none, Nat.zero_le _, hav, hcv, rfl, rfl, rfl, rfl, S0⟩
    case round =>
      obtain ⟨i, av, cv, c', A', hi, hav, hcv, rfl, rfl, rfl, rfl, HS⟩ := hrel
      obtain ⟨out, L, hrl, hbw, hgw, ho, hf⟩ := HS.out
      clear S0
      by_cases hlt : i < nn
      · obtain ⟨k, hk⟩ : ∃ k, nn - i = k + 1 := ⟨nn - i - 1, by omega⟩
        rw [hk] at hf
        have hmc := MC.out.cell (i := av) (by rw [HSE.out]; exact hav)
        obtain ⟨⟨x, p, q⟩, hcg⟩ : ∃ c, cg C av = c := ⟨_, rfl⟩
        rw [hcg] at hmc
        obtain ⟨hca, hpy, hqs⟩ := hmc
        simp only at hpy hqs
        have hsm := RC2.out.small av _ hca
        obtain ⟨a0, a1, a2⟩ := row_at (RC2.out.below hbw).own hca
        simp only [nw] at a0 a1 a2
        have hx2 : x ≤ 256 := hsm.1
        have hp9 : p ≤ 9 := hsm.2.1
        have hq5 : q ≤ 512 := hsm.2.2
        have RL := Lib.hid hrl
        have BW := Lib.hid hbw
        have GW := Lib.hid hgw
        have OW := Lib.hid ho
        have HF := Lib.hid hf
        have HCG := Lib.hid hcg
        have HQS := Lib.hid hqs
        have HCA := Lib.hid hca
        have HKK := Lib.hid hk
        have B4 : Hid (Below wr.heap.size wr (wr.alloc (.cells #[.int .i64 (x : Int)] 3))) := Lib.hid ((Below.refl _ _).alloc (Nat.le_refl _) _)
        have HB4 : Hid (w3.heap.size ≤ (wr.alloc (.cells #[.int .i64 (x : Int)] 3)).heap.size) := Lib.hid (Nat.le_trans hgw.size B4.out.size)
        have H23 : Hid (w2.heap.size ≤ w3.heap.size) := Lib.hid B23.out.size
        by_cases h2 : i + 2 < nn
        · have k2 : decide ((i : Int) + 2 < (nn : Int)) = true := decide_eq_true (by omega)
          clear HS hrl hbw hgw ho hf hcg hqs hsm hpy hca hk
          go_upto_region 24 with (first
            | (at_builtin; refine wpList_append_vals Try.underlying22 int_info rfl rfl _ _ rfl w3.heap.size (.slice A' i c') i (out.map nv) rfl (own_below OW.out B4.out) (some ⟨wr.heap.size, 0, none⟩) [.int .i64 (x : Int)] (by simp [Value.oneCell']) 1 1 rfl rfl (Bt.rv_one _ _ _) (by omega) (by omega) HB4.out ?_; intro v6 w6 ho6 hg6 _; obtain ⟨A6, c6, rfl, _⟩ := own_form ho6; have N6 := Lib.hid (fl_app RL.out BW.out H23.out GW.out rfl HYW.out.2.2.1 HYW.out.2.2.2 OW.out hg6); have O6 : Hid (w6.ownsRow w3.heap.size 3 1 (.slice A6 (i + 1) c6) (i + 1) ((out ++ [x]).map nv)) := Lib.hid (by (rw [List.map_append]; exact ho6)); obtain ⟨f0, f1, f2⟩ := row_at (RC2.out.below N6.out.2.1).own HCA.out; simp only [nw] at f0 f1 f2; clear ho6 hg6)
            | (go_at_call 29; refine (last_u N6.out.1 p (by omega)).mono ?_; rintro e w7 ⟨V, L7, er, rfl, hv7, hr7, hg7⟩; have HV := Lib.hid hv7; have R7 := Lib.hid hr7; have G7 := Lib.hid (Bt.grown_trans N6.out.2.2 hg7); have B7 := Lib.hid (below_grown N6.out.2.1 hg7 HYW.out.1); have O7 := Lib.hid (int_grown O6.out hg7 HYW.out.2.2.1); obtain ⟨g0, g1, g2⟩ := row_at (RC2.out.below B7.out).own HCA.out; simp only [nw] at g0 g1 g2; clear hv7 hr7 hg7))
          have hVp := HV.out.lt
          have HVP : Hid (q + V < s) := Lib.hid (by have := HQS.out; have h3 := HSE.out; omega)
          have hV5 : q + V ≤ 511 := by have := HVP.out; omega
          clear hVp
          by_cases her : er = 0
          · subst her
            have hl7 : Hid (lst L p = some (V, L7)) := Lib.hid (by rcases HV.out with ⟨h1, _⟩ | ⟨_, _, h2⟩; exact h1; exact absurd h2 (by decide))
            have hqv : (q : Int) + (V : Int) = ((q + V : Nat) : Int) := by omega
            obtain ⟨qv, hqv2⟩ : ∃ qv, q + V = qv := ⟨_, rfl⟩
            rw [hqv2] at hqv
            have HQV := Lib.hid hqv2
            have hV6 : V ≤ 511 := by omega
            clear HV hqv2
            go_wp2
            refine ⟨⟨i + 1, cv, qv, c6, A6, by omega, hcv, by rw [← HQV.out]; exact HVP.out, rfl, rfl, rfl, by simp, Lib.hid ⟨out ++ [x], L7, R7.out, B7.out, G7.out, O7.out, ?_⟩⟩, by simp [intOf]; omega⟩
            rw [← HF.out, show nn - (i + 1) = k by have := HKK.out; omega]
            rw [fgo_long (v := V) (L' := L7) (by have := HKK.out; omega) (by rw [HCG.out]; exact hl7.out), HCG.out, map_snoc]
            dsimp only
            rw [HQV.out]
          · have hne : (er != 0) = true := by simpa using her
            have HE : Hid (R = (14, []) ∧ er = 14) := Lib.hid (by
              rcases HV.out with ⟨_, h⟩ | ⟨h1, _, h2⟩
              · exact absurd h her
              · refine ⟨FN.out ?_, h2⟩
                rw [← HF.out, fgo_stop (by have := HKK.out; omega) (by rw [HCG.out]; exact h1)]
                rfl)
            have BE : Hid (Below w.heap.size w w7) := Lib.hid (below_on B2.out (Nat.le_refl _) B7.out)
            clear HV her
            go_wp2
            go_ret2
            rw [HE.out.1]
            exact Fres.none HE.out.2 BE.out
        · have k2 : decide ((i : Int) + 2 < (nn : Int)) = false := decide_eq_false (by omega)
          clear HS hrl hbw hgw ho hf hcg hqs hsm hpy hca hk
          go_wp2_with (at_builtin; refine wpList_append_vals Try.underlying22 int_info rfl rfl _ _ rfl w3.heap.size (.slice A' i c') i (out.map nv) rfl (own_below OW.out B4.out) (some ⟨wr.heap.size, 0, none⟩) [.int .i64 (x : Int)] (by simp [Value.oneCell']) 1 1 rfl rfl (Bt.rv_one _ _ _) (by omega) (by omega) HB4.out ?_; intro v6 w6 ho6 hg6 _; obtain ⟨A6, c6, rfl, _⟩ := own_form ho6; have N6 := Lib.hid (fl_app RL.out BW.out H23.out GW.out rfl HYW.out.2.2.1 HYW.out.2.2.2 OW.out hg6); have O6 : Hid (w6.ownsRow w3.heap.size 3 1 (.slice A6 (i + 1) c6) (i + 1) ((out ++ [x]).map nv)) := Lib.hid (by (rw [List.map_append]; exact ho6)); clear ho6 hg6)
          refine ⟨⟨i + 1, cv, av, c6, A6, by omega, hcv, hav, rfl, rfl, rfl, by simp, Lib.hid ⟨out ++ [x], L, N6.out.1, N6.out.2.1, N6.out.2.2, O6.out, ?_⟩⟩, by simp [intOf]; omega⟩
          rw [← HF.out, show nn - (i + 1) = k by have := HKK.out; omega, fgo_short (by have := HKK.out; omega), HCG.out, map_snoc]
      · have hin : i = nn := by omega
        subst hin
        rw [Nat.sub_self, fgo] at hf
        simp only [Option.map_some, List.append_nil] at hf
        obtain ⟨Ar, cr, hcell⟩ := hrl.cell
        obtain ⟨M, hM⟩ : ∃ M, L.length = M := ⟨_, rfl⟩
        rw [hM] at hcell
        have hM4 : M ≤ 4000 := by rw [← hM]; exact hrl.1.2
        have BE : Hid (Below w.heap.size w wr) := Lib.hid (below_on B2.out (Nat.le_refl _) hbw)
        have hW : w.heap.size ≤ w3.heap.size := Nat.le_trans B2.out.size B23.out.size
        have OW := Lib.hid (Bt.own_base ho hW)
        have HF := Lib.hid (FS.out _ _ hf.symm)
        by_cases hM0 : M = 0
        · subst hM0
          have HR0 : Hid (R = (0, out)) := Lib.hid (by rw [HF.out, if_pos (List.eq_nil_of_length_eq_zero hM)])
          clear HS hrl hbw hgw ho hf hM HF
          go_wp2
          go_ret2
          rw [HR0.out]
          exact ⟨_, _, _, rfl, BE.out, OW.out⟩
        · have kM : decide ((0 : Int) < (M : Int)) = true := decide_eq_true (by omega)
          have HR0 : Hid (R = (14, [])) := Lib.hid (by rw [HF.out, if_neg (fun e => hM0 (by rw [← hM, e]; rfl))])
          clear HS hrl hbw hgw ho hf hM HF
          go_wp2
          go_ret2
          rw [HR0.out]
          exact Fres.none rfl BE.out
  · have k0 : decide ((0 : Int) < (nn : Int)) = true := decide_eq_true (by omega)
    have k0n : decide (0 < nn) = true := decide_eq_true (by omega)
    have k0p : 0 < nn := by omega
    have LS := Lib.hid (last_u R3.out y (by omega))
    by_cases hn1 : nn = 1
    · have k1 : decide ((1 : Int) < (nn : Int)) = false := decide_eq_false (by omega)
      have k1n : decide (1 < nn) = false := decide_eq_false (by omega)
      have HN1 := Lib.hid hn1
      clear hn1 hn0
      go_upto_region 12 with (go_at_call 29; refine LS.out.mono ?_; rintro e w4 ⟨V, L1, er, rfl, hv4, hr4, hg4⟩; have HV := Lib.hid hv4; have R4 := Lib.hid hr4; have G4 := Lib.hid hg4; have T4 := Lib.hid (T3.out.same (hg4.block _ T3.out.lt (fun e => by (injection e with e; have h1 := HYW.out; have h2 := HB0.out; omega)))); have v0 := T4.out.c0; clear hv4 hr4 hg4)
      by_cases her : er = 0
      · subst her
        have hl1 : Hid (lst L0 y = some (V, L1)) := Lib.hid (by rcases HV.out with ⟨h1, _⟩ | ⟨_, _, h2⟩; exact h1; exact absurd h2 (by decide))
        have S0 : Hid (Fl w2 w3 w4 yy g C Rz nn V 0 0 none 0) := Lib.hid ⟨[], L1, R4.out, below_grown B23.out G4.out HYW.out.1, G4.out, World.ownsRow_nil _ _ _ _, by rw [← HRZ.out, HN1.out, fdx, if_neg (by decide), hl1.out]; dsimp only; rw [if_pos rfl]; cases fgo C 1 V 0 L1 <;> simp⟩
        have hav : V < s := by rw [← HSE.out]; exact HV.out.lt
        have hcv : 0 < s := hs1
        have hav5 : V ≤ 511 := by omega
        clear LS
        go_wp2_with fail
        go_loopw [14, 15, 16, 17] (fun a b o p wr => ∃ (i av cv c' : Nat) (A' : Option Addr), i ≤ nn ∧ av < s ∧ cv < s ∧ a = .int .i64 (av : Int) ∧ b = .int .i64 (cv : Int) ∧ o = .slice A' i c' ∧ p = .int .i64 (i : Int) ∧ Hid (Fl w2 w3 wr yy g C Rz (nn - i) av cv i A' c')) (fun _ _ _ p _ => nn - (intOf p).toNat)
        case atStart => exact ⟨0, V, 0, 0, none, Nat.zero_le _, hav, hcv, rfl, rfl, rfl, rfl, S0⟩
        case round =>
          obtain ⟨i, av, cv, c', A', hi, hav, hcv, rfl, rfl, rfl, rfl, HS⟩ := hrel
          obtain ⟨out, L, hrl, hbw, hgw, ho, hf⟩ := HS.out
          clear S0
          by_cases hlt : i < nn
          · obtain ⟨k, hk⟩ : ∃ k, nn - i = k + 1 := ⟨nn - i - 1, by omega⟩
            rw [hk] at hf
            have hmc := MC.out.cell (i := av) (by rw [HSE.out]; exact hav)
            obtain ⟨⟨x, p, q⟩, hcg⟩ : ∃ c, cg C av = c := ⟨_, rfl⟩
            rw [hcg] at hmc
            obtain ⟨hca, hpy, hqs⟩ := hmc
            simp only at hpy hqs
            have hsm := RC2.out.small av _ hca
            obtain ⟨a0, a1, a2⟩ := row_at (RC2.out.below hbw).own hca
            simp only [nw] at a0 a1 a2
            have hx2 : x ≤ 256 := hsm.1
            have hp9 : p ≤ 9 := hsm.2.1
            have hq5 : q ≤ 512 := hsm.2.2
            have RL := Lib.hid hrl
            have BW := Lib.hid hbw
            have GW := Lib.hid hgw
            have OW := Lib.hid ho
            have HF := Lib.hid hf
            have HCG := Lib.hid hcg
            have HQS := Lib.hid hqs
            have HCA := Lib.hid hca
            have HKK := Lib.hid hk
            have B4 : Hid (Below wr.heap.size wr (wr.alloc (.cells #[.int .i64 (x : Int)] 3))) := Lib.hid ((Below.refl _ _).alloc (Nat.le_refl _) _)
            have HB4 : Hid (w3.heap.size ≤ (wr.alloc (.cells #[.int .i64 (x : Int)] 3)).heap.size) := Lib.hid (Nat.le_trans hgw.size B4.out.size)
            have H23 : Hid (w2.heap.size ≤ w3.heap.size) := Lib.hid B23.out.size
            by_cases h2 : i + 2 < nn
            · have k2 : decide ((i : Int) + 2 < (nn : Int)) = true := decide_eq_true (by omega)
              clear HS hrl hbw hgw ho hf hcg hqs hsm hpy hca hk
              go_upto_region 24 with (first
                | (at_builtin; refine wpList_append_vals Try.underlying22 int_info rfl rfl _ _ rfl w3.heap.size (.slice A' i c') i (out.map nv) rfl (own_below OW.out B4.out) (some ⟨wr.heap.size, 0, none⟩) [.int .i64 (x : Int)] (by simp [Value.oneCell']) 1 1 rfl rfl (Bt.rv_one _ _ _) (by omega) (by omega) HB4.out ?_; intro v6 w6 ho6 hg6 _; obtain ⟨A6, c6, rfl, _⟩ := own_form ho6; have N6 := Lib.hid (fl_app RL.out BW.out H23.out GW.out rfl HYW.out.2.2.1 HYW.out.2.2.2 OW.out hg6); have O6 : Hid (w6.ownsRow w3.heap.size 3 1 (.slice A6 (i + 1) c6) (i + 1) ((out ++ [x]).map nv)) := Lib.hid (by (rw [List.map_append]; exact ho6)); obtain ⟨f0, f1, f2⟩ := row_at (RC2.out.below N6.out.2.1).own HCA.out; simp only [nw] at f0 f1 f2; clear ho6 hg6)
                | (go_at_call 29; refine (last_u N6.out.1 p (by omega)).mono ?_; rintro e w7 ⟨V, L7, er, rfl, hv7, hr7, hg7⟩; have HV := Lib.hid hv7; have R7 := Lib.hid hr7; have G7 := Lib.hid (Bt.grown_trans N6.out.2.2 hg7); have B7 := Lib.hid (below_grown N6.out.2.1 hg7 HYW.out.1); have O7 := Lib.hid (int_grown O6.out hg7 HYW.out.2.2.1); obtain ⟨g0, g1, g2⟩ := row_at (RC2.out.below B7.out).own HCA.out; simp only [nw] at g0 g1 g2; clear hv7 hr7 hg7))
              have hVp := HV.out.lt
              have HVP : Hid (q + V < s) := Lib.hid (by have := HQS.out; have h3 := HSE.out; omega)
              have hV5 : q + V ≤ 511 := by have := HVP.out; omega
              clear hVp
              by_cases her : er = 0
              · subst her
                have hl7 : Hid (lst L p = some (V, L7)) := Lib.hid (by rcases HV.out with ⟨h1, _⟩ | ⟨_, _, h2⟩; exact h1; exact absurd h2 (by decide))
                have hqv : (q : Int) + (V : Int) = ((q + V : Nat) : Int) := by omega
                obtain ⟨qv, hqv2⟩ : ∃ qv, q + V = qv := ⟨_, rfl⟩
                rw [hqv2] at hqv
                have HQV := Lib.hid hqv2
                have hV6 : V ≤ 511 := by omega
                clear HV hqv2
                go_wp2
                refine ⟨⟨i + 1, cv, qv, c6, A6, by omega, hcv, by rw [← HQV.out]; exact HVP.out, rfl, rfl, rfl, by simp, Lib.hid ⟨out ++ [x], L7, R7.out, B7.out, G7.out, O7.out, ?_⟩⟩, by simp [intOf]; omega⟩
                rw [← HF.out, show nn - (i + 1) = k by have := HKK.out; omega]
                rw [fgo_long (v := V) (L' := L7) (by have := HKK.out; omega) (by rw [HCG.out]; exact hl7.out), HCG.out, map_snoc]
                dsimp only
                rw [HQV.out]
              · have hne : (er != 0) = true := by simpa using her
                have HE : Hid (R = (14, []) ∧ er = 14) := Lib.hid (by
                  rcases HV.out with ⟨_, h⟩ | ⟨h1, _, h2⟩
                  · exact absurd h her
                  · refine ⟨FN.out ?_, h2⟩
                    rw [← HF.out, fgo_stop (by have := HKK.out; omega) (by rw [HCG.out]; exact h1)]
                    rfl)
                have BE : Hid (Below w.heap.size w w7) := Lib.hid (below_on B2.out (Nat.le_refl _) B7.out)
                clear HV her
                go_wp2
                go_ret2
                rw [HE.out.1]
                exact Fres.none HE.out.2 BE.out
            · have k2 : decide ((i : Int) + 2 < (nn : Int)) = false := decide_eq_false (by omega)
              clear HS hrl hbw hgw ho hf hcg hqs hsm hpy hca hk
              go_wp2_with (at_builtin; refine wpList_append_vals Try.underlying22 int_info rfl rfl _ _ rfl w3.heap.size (.slice A' i c') i (out.map nv) rfl (own_below OW.out B4.out) (some ⟨wr.heap.size, 0, none⟩) [.int .i64 (x : Int)] (by simp [Value.oneCell']) 1 1 rfl rfl (Bt.rv_one _ _ _) (by omega) (by omega) HB4.out ?_; intro v6 w6 ho6 hg6 _; obtain ⟨A6, c6, rfl, _⟩ := own_form ho6; have N6 := Lib.hid (fl_app RL.out BW.out H23.out GW.out rfl HYW.out.2.2.1 HYW.out.2.2.2 OW.out hg6); have O6 : Hid (w6.ownsRow w3.heap.size 3 1 (.slice A6 (i + 1) c6) (i + 1) ((out ++ [x]).map nv)) := Lib.hid (by (rw [List.map_append]; exact ho6)); clear ho6 hg6)
              refine ⟨⟨i + 1, cv, av, c6, A6, by omega, hcv, hav, rfl, rfl, rfl, by simp, Lib.hid ⟨out ++ [x], L, N6.out.1, N6.out.2.1, N6.out.2.2, O6.out, ?_⟩⟩, by simp [intOf]; omega⟩
              rw [← HF.out, show nn - (i + 1) = k by have := HKK.out; omega, fgo_short (by have := HKK.out; omega), HCG.out, map_snoc]
          · have hin : i = nn := by omega
            subst hin
            rw [Nat.sub_self, fgo] at hf
            simp only [Option.map_some, List.append_nil] at hf
            obtain ⟨Ar, cr, hcell⟩ := hrl.cell
            obtain ⟨M, hM⟩ : ∃ M, L.length = M := ⟨_, rfl⟩
            rw [hM] at hcell
            have hM4 : M ≤ 4000 := by rw [← hM]; exact hrl.1.2
            have BE : Hid (Below w.heap.size w wr) := Lib.hid (below_on B2.out (Nat.le_refl _) hbw)
            have hW : w.heap.size ≤ w3.heap.size := Nat.le_trans B2.out.size B23.out.size
            have OW := Lib.hid (Bt.own_base ho hW)
            have HF := Lib.hid (FS.out _ _ hf.symm)
            by_cases hM0 : M = 0
            · subst hM0
              have HR0 : Hid (R = (0, out)) := Lib.hid (by rw [HF.out, if_pos (List.eq_nil_of_length_eq_zero hM)])
              clear HS hrl hbw hgw ho hf hM HF
              go_wp2
              go_ret2
              rw [HR0.out]
              exact ⟨_, _, _, rfl, BE.out, OW.out⟩
            · have kM : decide ((0 : Int) < (M : Int)) = true := decide_eq_true (by omega)
              have HR0 : Hid (R = (14, [])) := Lib.hid (by rw [HF.out, if_neg (fun e => hM0 (by rw [← hM, e]; rfl))])
              clear HS hrl hbw hgw ho hf hM HF
              go_wp2
              go_ret2
              rw [HR0.out]
              exact Fres.none rfl BE.out
      · have hne : (er != 0) = true := by simpa using her
        have HE : Hid (R = (14, []) ∧ er = 14) := Lib.hid (by
          rcases HV.out with ⟨_, h⟩ | ⟨h1, _, h2⟩; exact absurd h her; exact ⟨FN.out (by rw [← HRZ.out, HN1.out, fdx, if_neg (by decide), h1]), h2⟩)
        clear her
        go_wp2
        go_ret2
        rw [HE.out.1]
        exact Fres.none HE.out.2 (below_grown (below_on B2.out (Nat.le_refl _) B23.out) G4.out (by have h1 := HYW.out; have h2 := HB0.out; omega))
    · have k1 : decide ((1 : Int) < (nn : Int)) = true := decide_eq_true (by omega)
      have k1n : decide (1 < nn) = true := decide_eq_true (by omega)
      have HN1 := Lib.hid (And.intro hn0 hn1)
      clear hn1 hn0
      go_upto_region 12 with (go_at_call 29; refine LS.out.mono ?_; rintro e w4 ⟨V, L1, er, rfl, hv4, hr4, hg4⟩; have HV := Lib.hid hv4; have R4 := Lib.hid hr4; have G4 := Lib.hid hg4; have T4 := Lib.hid (T3.out.same (hg4.block _ T3.out.lt (fun e => by (injection e with e; have h1 := HYW.out; have h2 := HB0.out; omega)))); have v0 := T4.out.c0; clear hv4 hr4 hg4)
      by_cases her : er = 0
      · subst her
        have hl1 : Hid (lst L0 y = some (V, L1)) := Lib.hid (by rcases HV.out with ⟨h1, _⟩ | ⟨_, _, h2⟩; exact h1; exact absurd h2 (by decide))
        have hav : V < s := by rw [← HSE.out]; exact HV.out.lt
        have hav5 : V ≤ 511 := by omega
        have LS2 := Lib.hid (last_u R4.out y (by omega))
        clear LS HV
        go_upto_region 14 with (go_at_call 29; refine LS2.out.mono ?_; rintro e w5 ⟨V2, L2, er, rfl, hv5, hr5, hg5⟩; have HV := Lib.hid hv5; have R5 := Lib.hid hr5; have G5 := Lib.hid (Bt.grown_trans G4.out hg5); clear hv5 hr5 hg5)
        by_cases her : er = 0
        · subst her
          have hl2 : Hid (lst L1 y = some (V2, L2)) := Lib.hid (by rcases HV.out with ⟨h1, _⟩ | ⟨_, _, h2⟩; exact h1; exact absurd h2 (by decide))
          have S0 : Hid (Fl w2 w3 w5 yy g C Rz nn V V2 0 none 0) := Lib.hid ⟨[], L2, R5.out, below_grown B23.out G5.out HYW.out.1, G5.out, World.ownsRow_nil _ _ _ _, by rw [← HRZ.out, fdx, if_neg HN1.out.1, hl1.out]; dsimp only; rw [if_neg HN1.out.2, hl2.out]; dsimp only; cases fgo C nn V V2 L2 <;> simp⟩
          have hcv : V2 < s := by rw [← HSE.out]; exact HV.out.lt
          have hcv5 : V2 ≤ 511 := by omega
          clear LS2
          go_wp2_with fail
          go_loopw [14, 15, 16, 17] (fun a b o p wr => ∃ (i av cv c' : Nat) (A' : Option Addr), i ≤ nn ∧ av < s ∧ cv < s ∧ a = .int .i64 (av : Int) ∧ b = .int .i64 (cv : Int) ∧ o = .slice A' i c' ∧ p = .int .i64 (i : Int) ∧ Hid (Fl w2 w3 wr yy g C Rz (nn - i) av cv i A' c')) (fun _ _ _ p _ => nn - (intOf p).toNat)
          case atStart => exact ⟨0, V, V2, 0, none, Nat.zero_le _, hav, hcv, rfl, rfl, rfl, rfl, S0⟩
          case round =>
            obtain ⟨i, av, cv, c', A', hi, hav, hcv, rfl, rfl, rfl, rfl, HS⟩ := hrel
            obtain ⟨out, L, hrl, hbw, hgw, ho, hf⟩ := HS.out
            clear S0
            by_cases hlt : i < nn
            · obtain ⟨k, hk⟩ : ∃ k, nn - i = k + 1 := ⟨nn - i - 1, by omega⟩
              rw [hk] at hf
              have hmc := MC.out.cell (i := av) (by rw [HSE.out]; exact hav)
              obtain ⟨⟨x, p, q⟩, hcg⟩ : ∃ c, cg C av = c := ⟨_, rfl⟩
              rw [hcg] at hmc
              obtain ⟨hca, hpy, hqs⟩ := hmc
              simp only at hpy hqs
              have hsm := RC2.out.small av _ hca
              obtain ⟨a0, a1, a2⟩ := row_at (RC2.out.below hbw).own hca
              simp only [nw] at a0 a1 a2
              have hx2 : x ≤ 256 := hsm.1
              have hp9 : p ≤ 9 := hsm.2.1
              have hq5 : q ≤ 512 := hsm.2.2
              have RL := Lib.hid hrl
              have BW := Lib.hid hbw
              have GW := Lib.hid hgw
              have OW := Lib.hid ho
              have HF := Lib.hid hf
              have HCG := Lib.hid hcg
              have HQS := Lib.hid hqs
              have HCA := Lib.hid hca
              have HKK := Lib.hid hk
              have B4 : Hid (Below wr.heap.size wr (wr.alloc (.cells #[.int .i64 (x : Int)] 3))) := Lib.hid ((Below.refl _ _).alloc (Nat.le_refl _) _)
              have HB4 : Hid (w3.heap.size ≤ (wr.alloc (.cells #[.int .i64 (x : Int)] 3)).heap.size) := Lib.hid (Nat.le_trans hgw.size B4.out.size)
              have H23 : Hid (w2.heap.size ≤ w3.heap.size) := Lib.hid B23.out.size
              by_cases h2 : i + 2 < nn
              · have k2 : decide ((i : Int) + 2 < (nn : Int)) = true := decide_eq_true (by omega)
                clear HS hrl hbw hgw ho hf hcg hqs hsm hpy hca hk
                go_upto_region 24 with (first
                  | (at_builtin; refine wpList_append_vals Try.underlying22 int_info rfl rfl _ _ rfl w3.heap.size (.slice A' i c') i (out.map nv) rfl (own_below OW.out B4.out) (some ⟨wr.heap.size, 0, none⟩) [.int .i64 (x : Int)] (by simp [Value.oneCell']) 1 1 rfl rfl (Bt.rv_one _ _ _) (by omega) (by omega) HB4.out ?_; intro v6 w6 ho6 hg6 _; obtain ⟨A6, c6, rfl, _⟩ := own_form ho6; have N6 := Lib.hid (fl_app RL.out BW.out H23.out GW.out rfl HYW.out.2.2.1 HYW.out.2.2.2 OW.out hg6); have O6 : Hid (w6.ownsRow w3.heap.size 3 1 (.slice A6 (i + 1) c6) (i + 1) ((out ++ [x]).map nv)) := Lib.hid (by (rw [List.map_append]; exact ho6)); obtain ⟨f0, f1, f2⟩ := row_at (RC2.out.below N6.out.2.1).own HCA.out; simp only [nw] at f0 f1 f2; clear ho6 hg6)
                  | (go_at_call 29; refine (last_u N6.out.1 p (by omega)).mono ?_; rintro e w7 ⟨V, L7, er, rfl, hv7, hr7, hg7⟩; have HV := Lib.hid hv7; have R7 := Lib.hid hr7; have G7 := Lib.hid (Bt.grown_trans N6.out.2.2 hg7); have B7 := Lib.hid (below_grown N6.out.2.1 hg7 HYW.out.1); have O7 := Lib.hid (int_grown O6.out hg7 HYW.out.2.2.1); obtain ⟨g0, g1, g2⟩ := row_at (RC2.out.below B7.out).own HCA.out; simp only [nw] at g0 g1 g2; clear hv7 hr7 hg7))
                have hVp := HV.out.lt
                have HVP : Hid (q + V < s) := Lib.hid (by have := HQS.out; have h3 := HSE.out; omega)
                have hV5 : q + V ≤ 511 := by have := HVP.out; omega
                clear hVp
                by_cases her : er = 0
                · subst her
                  have hl7 : Hid (lst L p = some (V, L7)) := Lib.hid (by rcases HV.out with ⟨h1, _⟩ | ⟨_, _, h2⟩; exact h1; exact absurd h2 (by decide))
                  have hqv : (q : Int) + (V : Int) = ((q + V : Nat) : Int) := by omega
                  obtain ⟨qv, hqv2⟩ : ∃ qv, q + V = qv := ⟨_, rfl⟩
                  rw [hqv2] at hqv
                  have HQV := Lib.hid hqv2
                  have hV6 : V ≤ 511 := by omega
                  clear HV hqv2
                  go_wp2
                  refine ⟨⟨i + 1, cv, qv, c6, A6, by omega, hcv, by rw [← HQV.out]; exact HVP.out, rfl, rfl, rfl, by simp, Lib.hid ⟨out ++ [x], L7, R7.out, B7.out, G7.out, O7.out, ?_⟩⟩, by simp [intOf]; omega⟩
                  rw [← HF.out, show nn - (i + 1) = k by have := HKK.out; omega]
                  rw [fgo_long (v := V) (L' := L7) (by have := HKK.out; omega) (by rw [HCG.out]; exact hl7.out), HCG.out, map_snoc]
                  dsimp only
                  rw [HQV.out]
                · have hne : (er != 0) = true := by simpa using her
                  have HE : Hid (R = (14, []) ∧ er = 14) := Lib.hid (by
                    rcases HV.out with ⟨_, h⟩ | ⟨h1, _, h2⟩
                    · exact absurd h her
                    · refine ⟨FN.out ?_, h2⟩
                      rw [← HF.out, fgo_stop (by have := HKK.out; omega) (by rw [HCG.out]; exact h1)]
                      rfl)
                  have BE : Hid (Below w.heap.size w w7) := Lib.hid (below_on B2.out (Nat.le_refl _) B7.out)
                  clear HV her
                  go_wp2
                  go_ret2
                  rw [HE.out.1]
                  exact Fres.none HE.out.2 BE.out
              · have k2 : decide ((i : Int) + 2 < (nn : Int)) = false := decide_eq_false (by omega)
                clear HS hrl hbw hgw ho hf hcg hqs hsm hpy hca hk
                go_wp2_with (at_builtin; refine wpList_append_vals Try.underlying22 int_info rfl rfl _ _ rfl w3.heap.size (.slice A' i c') i (out.map nv) rfl (own_below OW.out B4.out) (some ⟨wr.heap.size, 0, none⟩) [.int .i64 (x : Int)] (by simp [Value.oneCell']) 1 1 rfl rfl (Bt.rv_one _ _ _) (by omega) (by omega) HB4.out ?_; intro v6 w6 ho6 hg6 _; obtain ⟨A6, c6, rfl, _⟩ := own_form ho6; have N6 := Lib.hid (fl_app RL.out BW.out H23.out GW.out rfl HYW.out.2.2.1 HYW.out.2.2.2 OW.out hg6); have O6 : Hid (w6.ownsRow w3.heap.size 3 1 (.slice A6 (i + 1) c6) (i + 1) ((out ++ [x]).map nv)) := Lib.hid (by (rw [List.map_append]; exact ho6)); clear ho6 hg6)
                refine ⟨⟨i + 1, cv, av, c6, A6, by omega, hcv, hav, rfl, rfl, rfl, by simp, Lib.hid ⟨out ++ [x], L, N6.out.1, N6.out.2.1, N6.out.2.2, O6.out, ?_⟩⟩, by simp [intOf]; omega⟩
                rw [← HF.out, show nn - (i + 1) = k by have := HKK.out; omega, fgo_short (by have := HKK.out; omega), HCG.out, map_snoc]
            · have hin : i = nn := by omega
              subst hin
              rw [Nat.sub_self, fgo] at hf
              simp only [Option.map_some, List.append_nil] at hf
              obtain ⟨Ar, cr, hcell⟩ := hrl.cell
              obtain ⟨M, hM⟩ : ∃ M, L.length = M := ⟨_, rfl⟩
              rw [hM] at hcell
              have hM4 : M ≤ 4000 := by rw [← hM]; exact hrl.1.2
              have BE : Hid (Below w.heap.size w wr) := Lib.hid (below_on B2.out (Nat.le_refl _) hbw)
              have hW : w.heap.size ≤ w3.heap.size := Nat.le_trans B2.out.size B23.out.size
              have OW := Lib.hid (Bt.own_base ho hW)
              have HF := Lib.hid (FS.out _ _ hf.symm)
              by_cases hM0 : M = 0
              · subst hM0
                have HR0 : Hid (R = (0, out)) := Lib.hid (by rw [HF.out, if_pos (List.eq_nil_of_length_eq_zero hM)])
                clear HS hrl hbw hgw ho hf hM HF
                go_wp2
                go_ret2
                rw [HR0.out]
                exact ⟨_, _, _, rfl, BE.out, OW.out⟩
              · have kM : decide ((0 : Int) < (M : Int)) = true := decide_eq_true (by omega)
                have HR0 : Hid (R = (14, [])) := Lib.hid (by rw [HF.out, if_neg (fun e => hM0 (by rw [← hM, e]; rfl))])
                clear HS hrl hbw hgw ho hf hM HF
                go_wp2
                go_ret2
                rw [HR0.out]
                exact Fres.none rfl BE.out
        · have hne : (er != 0) = true := by simpa using her
          have HE : Hid (R = (14, []) ∧ er = 14) := Lib.hid (by
            rcases HV.out with ⟨_, h⟩ | ⟨h1, _, h2⟩; exact absurd h her; exact ⟨FN.out (by rw [← HRZ.out, fdx, if_neg HN1.out.1, hl1.out]; dsimp only; rw [if_neg HN1.out.2, h1]), h2⟩)
          clear her
          go_wp2
          go_ret2
          rw [HE.out.1]
          exact Fres.none HE.out.2 (below_grown (below_on B2.out (Nat.le_refl _) B23.out) G5.out (by have h1 := HYW.out; have h2 := HB0.out; omega))
      · have hne : (er != 0) = true := by simpa using her
        have HE : Hid (R = (14, []) ∧ er = 14) := Lib.hid (by
          rcases HV.out with ⟨_, h⟩ | ⟨h1, _, h2⟩; exact absurd h her; exact ⟨FN.out (by rw [← HRZ.out, fdx, if_neg HN1.out.1, h1]), h2⟩)
        clear her
        go_wp2
        go_ret2
        rw [HE.out.1]
        exact Fres.none HE.out.2 (below_grown (below_on B2.out (Nat.le_refl _) B23.out) G4.out (by have h1 := HYW.out; have h2 := HB0.out; omega))

/-- Decode of the reference, at any arguments. -/
theorem rdecode_any (w : World) (y : Int) (A : Option Addr) (l : List Int) (N cap : Nat) (hN : l.length = N) (h3 : N ≤ 300) (hR : Ri w A l) (B : Option Addr) (D : List UInt8) (nb cb : Nat) (hD : D.length = nb) (hb5 : nb ≤ 500) (hRB : Bt.Rd w B D) (n : Int) :
    Calls Try.prog 14 #[tb y A N cap, .slice B nb cb, .int .i64 n] w (Fres w (fdR y l D n)) := by
  cases hv : vt y l 256 9 with
  | false =>
    rw [fdR_bad D n hv]
    exact rdec_bad w y A l N cap hN h3 hR B nb cb n hv
  | true =>
    obtain ⟨k, rfl, hvt⟩ := vt_iff.1 hv
    by_cases hn : n < 0 ∨ 131072 < n
    · rw [fdR_arg D hv hn]
      exact rdec_arg w k A l N cap hN hR B nb cb n hvt hn
    · obtain ⟨nn, rfl⟩ : ∃ nn : Nat, n = (nn : Int) := ⟨n.toNat, by omega⟩
      cases he : endOf D with
      | none =>
        rw [fdR_ok D hvt (by omega), he]
        exact rdec_open w k A l N cap hN hR B D nb cb hD hb5 hRB _ hvt (by omega) he
      | some e => exact rdec_good w k A l N cap hN hR B D nb cb hD hb5 hRB nn hvt (by omega) e he _ rfl

end Go.Proofs.Ytgokbpnikgbfgaa
