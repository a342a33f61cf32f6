/-
  What describable, Encode and BitLen do: the description of a valid table with Log 1 or more, or the error. Conditions: at most 1000 norms.
-/
import Derived.Test.YtpjbjbohbdlciaaStr
import Derived.Test.YtpjbjbohbdlciaaMay
namespace Go.Proofs.Ytpjbjbohbdlciaa
open Go.RowKit Go.Shelf

set_option maxRecDepth 100000 in
set_option maxHeartbeats 1000000 in
theorem describable_any (w : World) (y : Int) (A : Option Addr) (l : List Int) (N cap : Nat) (hN : l.length = N) (hb : N ≤ 1000) (hR : Ri w A l) (m : Bool) (hm : may y l = m) :
    Calls Try.prog 28 #[tb y A N cap] w fun e w' => e = .returned (.bool m) ∧ Below w.heap.size w w' := by
  have b1 : Below w.heap.size w (w.alloc (.cells #[.int .i64 y, .slice A N cap] 24)) := (Below.refl _ w).alloc (Nat.le_refl _) _
  have t1 := Tb.new w y A N cap
  obtain ⟨w1, hw1⟩ : ∃ w1, w.alloc (.cells #[.int .i64 y, .slice A N cap] 24) = w1 := ⟨_, rfl⟩
  rw [hw1] at b1 t1
  have c0 := t1.c0
  have c1 := t1.c1
  have B1 := Lib.hid b1
  unfold may at hm
  by_cases hy : 0 < y
  · have hd : decide (0 < y) = true := decide_eq_true hy
    have CK := Lib.hid (check_any w1 y 256 9 A l N cap hN (by omega) (hR.below b1))
    rw [hd, Bool.true_and] at hm
    rw [hm] at CK
    clear b1 t1 hR hN hm
    cases m with
    | true =>
      go_enter Try.func28, Try.ntmps28
      go_wp2_with (go_at_call 48; refine CK.out.mono ?_; rintro e w2 ⟨rfl, hb2⟩; have B2 := Lib.hid (below_on B1.out (Nat.le_refl _) hb2); have hz : err true = 0 := rfl; rw [hz]; clear hb2)
      go_ret
      exact ⟨rfl, B2.out⟩
    | false =>
      go_enter Try.func28, Try.ntmps28
      go_wp2_with (go_at_call 48; refine CK.out.mono ?_; rintro e w2 ⟨rfl, hb2⟩; have B2 := Lib.hid (below_on B1.out (Nat.le_refl _) hb2); have hz : err false = 13 := rfl; rw [hz]; clear hb2)
      go_ret
      exact ⟨rfl, B2.out⟩
  · have hd : decide (0 < y) = false := decide_eq_false hy
    rw [hd, Bool.false_and] at hm
    subst hm
    clear b1 t1 hR hN
    go_enter Try.func28, Try.ntmps28
    go_wp2
    go_ret
    exact ⟨rfl, B1.out⟩

/-- The bytes of a slice in new memory. -/
def Bys (w w' : World) (A : Option Addr) (n c : Nat) (X : List UInt8) : Prop := n = X.length ∧ w'.ownsRow w.heap.size 5 1 (.slice A n c) n (X.map Bt.byt) ∧ Below w.heap.size w w'
/-- What Encode leaves: some bytes and an error. -/
def EncP (w : World) (X : List UInt8) (er : Int) (q : Ending) (w' : World) : Prop := ∃ A n c, q = .returned (.tuple #[.slice A n c, .int .i64 er]) ∧ Bys w w' A n c X

set_option maxRecDepth 100000 in
set_option maxHeartbeats 1000000 in
theorem encode_no (w : World) (y : Int) (A : Option Addr) (l : List Int) (N cap : Nat) (hN : l.length = N) (hb : N ≤ 1000) (hR : Ri w A l) (hm : may y l = false) :
    Calls Try.prog 13 #[tb y A N cap] w (EncP w [] 13) := by
  have b1 : Below w.heap.size w (w.alloc (.cells #[.int .i64 y, .slice A N cap] 24)) := (Below.refl _ w).alloc (Nat.le_refl _) _
  have t1 := Tb.new w y A N cap
  obtain ⟨w1, hw1⟩ : ∃ w1, w.alloc (.cells #[.int .i64 y, .slice A N cap] 24) = w1 := ⟨_, rfl⟩
  rw [hw1] at b1 t1
  have c0 := t1.c0
  have c1 := t1.c1
  have DS := Lib.hid (describable_any w1 y A l N cap hN hb (hR.below b1) false hm)
  have B1 := Lib.hid b1
  clear b1 t1 hR hN hm
  go_enter Try.func13, Try.ntmps13
  go_wp2_with (go_at_call 28; refine DS.out.mono ?_; rintro e w2 ⟨rfl, hb2⟩; have B2 := Lib.hid (below_on B1.out (Nat.le_refl _) hb2); clear hb2)
  go_ret2
  exact ⟨none, 0, 0, rfl, rfl, World.ownsRow_nil _ _ _ _, B2.out⟩

set_option maxRecDepth 100000 in
set_option maxHeartbeats 1000000 in
theorem encode_ok (w : World) (y : Nat) (A : Option Addr) (l : List Int) (N cap : Nat) (hN : l.length = N) (hc : N ≤ cap) (hR : Ri w A l) (hv : Vt y l) (h1 : 1 ≤ y) :
    Calls Try.prog 13 #[tb (y : Int) A N cap] w (EncP w (Bt.pack (descr y l)) 0) := by
  have hN2 : N ≤ 256 := by rw [← hN]; exact hv.len
  have b1 : Below w.heap.size w (w.alloc (.cells #[.int .i64 (y : Int), .slice A N cap] 24)) := (Below.refl _ w).alloc (Nat.le_refl _) _
  have t1 := Tb.new w (y : Int) A N cap
  obtain ⟨w1, hw1⟩ : ∃ w1, w.alloc (.cells #[.int .i64 (y : Int), .slice A N cap] 24) = w1 := ⟨_, rfl⟩
  rw [hw1] at b1 t1
  have c0 := t1.c0
  have c1 := t1.c1
  have DS := Lib.hid (describable_any w1 (y : Int) A l N cap hN (by omega) (hR.below b1) true (may_iff.2 ⟨y, rfl, h1, hv⟩))
  have ST := Lib.hid (fun W (hb : Below w1.heap.size w1 W) => stream_any W y A l N cap hN hc hv h1 ((hR.below b1).below hb))
  have hlen := descr_len hv
  obtain ⟨L, hL⟩ : ∃ L, descr y l = L := ⟨_, rfl⟩
  rw [hL] at ST hlen ⊢
  have T1 := Lib.hid t1
  have B1 := Lib.hid b1
  clear b1 t1 hR hN hv hL
  go_enter Try.func13, Try.ntmps13
  go_wp2_with (first
    | (go_at_call 28; refine DS.out.mono ?_; rintro e w2 ⟨rfl, hb2⟩; have B2 := Lib.hid hb2; have t2 := T1.out.below hb2; have d0 := t2.c0; have d1 := t2.c1; clear hb2 t2)
    | (go_at_call 29; refine (ST.out _ B2.out).mono ?_; rintro e w3 ⟨x, rfl, v3, h3⟩; have A3 := Lib.hid h3; clear h3)
    | (go_at_call 30; refine (Bt.bytes_any A3.out.wr (by omega)).mono ?_; rintro e w4 ⟨A4, c4, rfl, ho4, hb4⟩; have O4 := Lib.hid ho4; have B4 := Lib.hid hb4; clear ho4 hb4))
  go_ret2
  refine ⟨A4, _, c4, rfl, rfl, ?_, below_on (below_on (below_on B1.out (Nat.le_refl _) B2.out) (Nat.le_refl _) A3.out.bel) (Nat.le_refl _) B4.out⟩
  exact Bt.own_base O4.out (Nat.le_trans (Nat.le_trans B1.out.size B2.out.size) A3.out.bel.size)

set_option maxRecDepth 100000 in
set_option maxHeartbeats 1000000 in
theorem bitlen_no (w : World) (y : Int) (A : Option Addr) (l : List Int) (N cap : Nat) (hN : l.length = N) (hb : N ≤ 1000) (hR : Ri w A l) (hm : may y l = false) :
    Calls Try.prog 15 #[tb y A N cap] w fun e w' => e = .returned (.int .i64 0) ∧ Below w.heap.size w w' := by
  have b1 : Below w.heap.size w (w.alloc (.cells #[.int .i64 y, .slice A N cap] 24)) := (Below.refl _ w).alloc (Nat.le_refl _) _
  have t1 := Tb.new w y A N cap
  obtain ⟨w1, hw1⟩ : ∃ w1, w.alloc (.cells #[.int .i64 y, .slice A N cap] 24) = w1 := ⟨_, rfl⟩
  rw [hw1] at b1 t1
  have c0 := t1.c0
  have c1 := t1.c1
  have DS := Lib.hid (describable_any w1 y A l N cap hN hb (hR.below b1) false hm)
  have B1 := Lib.hid b1
  clear b1 t1 hR hN hm
  go_enter Try.func15, Try.ntmps15
  go_wp2_with (go_at_call 28; refine DS.out.mono ?_; rintro e w2 ⟨rfl, hb2⟩; have B2 := Lib.hid (below_on B1.out (Nat.le_refl _) hb2); clear hb2)
  go_ret
  exact ⟨rfl, B2.out⟩

set_option maxRecDepth 100000 in
set_option maxHeartbeats 1000000 in
theorem bitlen_ok (w : World) (y : Nat) (A : Option Addr) (l : List Int) (N cap : Nat) (hN : l.length = N) (hc : N ≤ cap) (hR : Ri w A l) (hv : Vt y l) (h1 : 1 ≤ y) (n : Nat) (hn : (descr y l).length = n) :
    Calls Try.prog 15 #[tb (y : Int) A N cap] w fun e w' => e = .returned (.int .i64 (n : Int)) ∧ Below w.heap.size w w' := by
  have hN2 : N ≤ 256 := by rw [← hN]; exact hv.len
  have b1 : Below w.heap.size w (w.alloc (.cells #[.int .i64 (y : Int), .slice A N cap] 24)) := (Below.refl _ w).alloc (Nat.le_refl _) _
  have t1 := Tb.new w (y : Int) A N cap
  obtain ⟨w1, hw1⟩ : ∃ w1, w.alloc (.cells #[.int .i64 (y : Int), .slice A N cap] 24) = w1 := ⟨_, rfl⟩
  rw [hw1] at b1 t1
  have c0 := t1.c0
  have c1 := t1.c1
  have DS := Lib.hid (describable_any w1 (y : Int) A l N cap hN (by omega) (hR.below b1) true (may_iff.2 ⟨y, rfl, h1, hv⟩))
  have ST := Lib.hid (fun W (hb : Below w1.heap.size w1 W) => stream_any W y A l N cap hN hc hv h1 ((hR.below b1).below hb))
  have hlen := descr_len hv
  have LN : Hid (∀ W x v, Bt.Wr W x v (descr y l) → Calls Try.prog 32 #[.pointer (some ⟨x, 0, none⟩)] W fun e w' => e = .returned (.int .i64 (n : Int)) ∧ ∃ d, w' = W.drewN d) := Lib.hid (fun W x v h => by
    have := Bt.len_any h (by omega)
    rw [hn] at this
    exact this)
  have T1 := Lib.hid t1
  have B1 := Lib.hid b1
  clear b1 t1 hR hN hv hn hlen
  go_enter Try.func15, Try.ntmps15
  go_wp2_with (first
    | (go_at_call 28; refine DS.out.mono ?_; rintro e w2 ⟨rfl, hb2⟩; have B2 := Lib.hid hb2; have t2 := T1.out.below hb2; have d0 := t2.c0; have d1 := t2.c1; clear hb2 t2)
    | (go_at_call 29; refine (ST.out _ B2.out).mono ?_; rintro e w3 ⟨x, rfl, v3, h3⟩; have A3 := Lib.hid h3; clear h3)
    | (go_at_call 32; refine (LN.out _ _ _ A3.out.wr).mono ?_; rintro e w4 ⟨rfl, d, rfl⟩))
  go_ret
  exact ⟨rfl, below_drewN' (below_on (below_on B1.out (Nat.le_refl _) B2.out) (Nat.le_refl _) A3.out.bel) _⟩

end Go.Proofs.Ytpjbjbohbdlciaa
