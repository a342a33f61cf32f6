/-
  The laws' helpers: the reference's May, puts, reads and known. Nothing that was there has changed. Conditions: those that each theorem states.
-/
import Derived.Test.YtpjbjbohbdlciaaEcd
import Derived.Test.YtpjbjbohbdlciaaDcr
import Derived.Test.YtpjbjbohbdlciaaThc
import Derived.Test.YtpjbjbohbdlciaaSam
import Derived.Test.YtpjbjbohbdlciaaQRfA
namespace Go.Proofs.Ytpjbjbohbdlciaa
open Go.RowKit Go.Shelf
open Bt (unp)

theorem Rv.lit (w : World) (t : TypeId) (l : List Value) : Rv (w.alloc (.cells l.toArray t)) (some ⟨w.heap.size, 0, none⟩) l := by
  intro j v hj
  refine ⟨_, rfl, ?_⟩
  have e : (Addr.add ⟨w.heap.size, 0, none⟩ j) = ⟨w.heap.size, j, none⟩ := by
    unfold Addr.add
    by_cases h0 : j = 0
    · rw [if_pos h0, h0]
    · rw [if_neg h0]; simp
  rw [e, cell_of_row _ _ j _ _ _ (World.alloc_heap_new w _)]
  simpa using hj

theorem below_new (w : World) (o : Obj) : Below w.heap.size w (w.alloc o) := (Below.refl _ w).alloc (Nat.le_refl _) _

set_option maxRecDepth 100000 in
set_option maxHeartbeats 1000000 in
theorem rmay_any (w : World) (y : Int) (A : Option Addr) (l : List Int) (N cap : Nat) (hN : l.length = N) (hb : N ≤ 100000) (hR : Ri w A l) (m : Bool) (hm : may y l = m) :
    Calls Try.prog 14 #[tb y A N cap] w fun e w' => e = .returned (.bool m) ∧ Below w.heap.size w w' := by
  have b1 := below_new w (.cells #[.int .i64 y, .slice A N cap] 24)
  have t1 := Tb.new w y A N cap
  obtain ⟨w1, hw1⟩ : ∃ w1, w.alloc (.cells #[.int .i64 y, .slice A N cap] 24) = w1 := ⟨_, rfl⟩
  rw [hw1] at b1 t1
  have c0 := t1.c0
  have c1 := t1.c1
  have B1 := Lib.hid b1
  have T1 := Lib.hid t1
  have MY := Lib.hid (may_any w1 y 256 9 A l N cap hN (by omega) (hR.below b1))
  unfold may at hm
  cases hv : vt y l 256 9 with
  | false =>
    rw [hv, Bool.and_false] at hm
    subst hm
    rw [hv] at MY
    clear b1 t1 hR hN hv
    go_enter Try.func14, Try.ntmps14
    go_wp2_with (go_at_call 31; refine MY.out.mono ?_; rintro e w2 ⟨rfl, hb2⟩; have B2 := Lib.hid (below_on B1.out (Nat.le_refl _) hb2); have hz : err false = 13 := rfl; rw [hz]; clear hb2)
    go_ret
    exact ⟨rfl, B2.out⟩
  | true =>
    rw [hv, Bool.and_true] at hm
    rw [hv] at MY
    clear b1 t1 hR hN hv
    go_enter Try.func14, Try.ntmps14
    go_wp2_with (go_at_call 31; refine MY.out.mono ?_; rintro e w2 ⟨rfl, hb2⟩; have B2 := Lib.hid (below_on B1.out (Nat.le_refl _) hb2); have hz : err true = 0 := rfl; have t2 := T1.out.below hb2; have d0 := t2.c0; rw [hz]; clear hb2 t2)
    go_ret
    exact ⟨rfl, B2.out⟩

/-- What Bytes and slices say of one another. -/
theorem bys_rd {w w' : World} {A : Option Addr} {n c : Nat} {X : List UInt8} (h : Bys w w' A n c X) : Bt.Rd w' A X := by
  obtain ⟨rfl, ho, _⟩ := h
  exact Bt.Rv.of_own ho

theorem elem_u8 : Try.prog.elem 26 = 5 := by kernel_rfl
theorem und_u8 : Try.prog.underlying 26 = some (.slice (Try.prog.elem 26)) := by rw [elem_u8]; exact Try.underlying26
theorem size_u8 (w : World) : (sizeOf 5).run Try.prog w = .ok 1 w := by
  obtain ⟨i0, hi, hz0, hz1, hz2⟩ := info_parts byte_info
  simp [sizeOf, typeInfo, hi, hz1]
theorem bslice_hi (A : Option Addr) (N c n : Nat) (h : n ≤ c) (W : World) : (Instr.slice 26 (.slice A N c) none (some (.int .i64 (n : Int))) none).run Try.prog W = .ok (.slice A n c) W := by
  rw [run_slice_h _ _ _ _ _ und_u8 _ _ (by omega) (by omega), elem_u8, size_u8]
  simp [Result.andThen, sliced]
  intro _
  cases A with
  | none => rfl
  | some a => simp [Addr.add]

theorem own_cap {w : World} {base n c : Nat} {e : TypeId} {A : Option Addr} {xs : List Value} (h : w.ownsRow base e 1 (.slice A n c) n xs) : n ≤ c := by
  rcases h.2 with ⟨_, hn⟩ | ⟨g, c', cur, hv, _, _, hc, _⟩
  · omega
  · cases hv; exact hc
/-- A number as a uint, and its rest. -/
theorem uint_mod (z : Int) (n : Nat) (hn : 1 ≤ n) : ∃ U j : Nat, IntKind.u64.wrap z = (U : Int) ∧ U < 18446744073709551616 ∧ (U : Int).tmod (n : Int) = (j : Int) ∧ j < n := by
  have e : IntKind.u64.wrap z = z % 18446744073709551616 := by simp [IntKind.wrap, IntKind.bits, IntKind.signed]
  have h0 := Int.emod_nonneg z (show (18446744073709551616 : Int) ≠ 0 by decide)
  have h1 := Int.emod_lt_of_pos z (show (0 : Int) < 18446744073709551616 by decide)
  obtain ⟨U, hU⟩ := Int.eq_ofNat_of_zero_le h0
  refine ⟨U, U % n, by rw [e, hU], by omega, ?_, Nat.mod_lt _ hn⟩
  rw [Int.tmod_eq_emod_of_nonneg (by omega)]
  exact (Int.natCast_emod U n).symm

set_option maxRecDepth 100000 in
set_option maxHeartbeats 1000000 in
theorem puts_ok (w : World) (y : Nat) (A : Option Addr) (l : List Int) (N cap : Nat) (hN : l.length = N) (hc : N ≤ cap) (hR : Ri w A l) (hv : Vt y l) (h1 : 1 ≤ y) (A2 : Option Addr) (X : List UInt8) (n c : Nat) (hn : X.length = n) (hX : Bt.pack (descr y l) = X) (hR2 : Bt.Rd w A2 X) :
    Calls Try.prog 27 #[tb (y : Int) A N cap, .slice A2 n c] w fun e w' => e = .returned (.bool true) ∧ Below w.heap.size w w' := by
  have b1 := below_new w (.cells #[.int .i64 (y : Int), .slice A N cap] 24)
  have t1 := Tb.new w (y : Int) A N cap
  obtain ⟨w1, hw1⟩ : ∃ w1, w.alloc (.cells #[.int .i64 (y : Int), .slice A N cap] 24) = w1 := ⟨_, rfl⟩
  rw [hw1] at b1 t1
  have c0 := t1.c0
  have c1 := t1.c1
  have B1 := Lib.hid b1
  have EN := Lib.hid (encode_ok w1 y A l N cap hN hc (hR.below b1) hv h1)
  rw [hX] at EN
  have R2 : Hid (Bt.Rd w1 A2 X) := Lib.hid (Bt.Rv.below hR2 b1)
  have HN := Lib.hid hn
  clear b1 t1 hR hN hv hX hR2 hn
  go_enter Try.func27, Try.ntmps27
  go_wp2_with (first
    | (go_at_call 13; refine EN.out.mono ?_; rintro e w2 ⟨A3, n3, c3, rfl, hb3⟩; have B3 := Lib.hid hb3)
    | (go_at_call 17; refine (Bt.same_n _ A3 A2 X X n3 n B3.out.1.symm HN.out c3 c (bys_rd B3.out) (Bt.Rv.below R2.out B3.out.2.2) rfl).mono ?_; rintro e w3 ⟨rfl, rfl⟩))
  go_ret
  exact ⟨rfl, below_on B1.out (Nat.le_refl _) B3.out.2.2⟩

/-- A new cursor that a call has made is read. -/
theorem decode_new {w w1 : World} {c : Nat} {A : Option Addr} {cap : Nat} {l : List UInt8} {k : Nat} {R : Nat × Nat × List Int × Nat} {q : Ending} {w' : World} (hb : Below w.heap.size w w1) (hc : w.heap.size ≤ c) (h : DecP w1 c A cap l k R q w') : Below w.heap.size w w' := by
  obtain ⟨A1, n1, c1, _, _, hg, _⟩ := h
  exact hb.grown hg hb.size (fun j ej => by cases ej; exact hc)

set_option maxRecDepth 100000 in
set_option maxHeartbeats 1000000 in
theorem reads_any (w : World) (A : Option Addr) (D : List UInt8) (n cap : Nat) (hn : D.length = n) (hs : n ≤ 100000) (hR : Bt.Rd w A D) (sy lg : Int) (e : Nat) (he : (dcd (unp D) sy lg).1 = e) :
    Calls Try.prog 25 #[.slice A n cap, .int .i64 sy, .int .i64 lg] w fun q w' => q = .returned (.int .i64 (e : Int)) ∧ Below w.heap.size w w' := by
  have NW := Lib.hid (Nm.new_n w A D n cap hn (by omega) (bt_nm hR))
  have HE := Lib.hid he
  have HN := Lib.hid hn
  clear hR he hn
  go_enter Try.func25, Try.ntmps25
  go_wp2_with (first
    | (go_at_call 19; refine NW.out.mono ?_; rintro q w1 ⟨c, A1, cap1, rfl, hcw, hcur, hb⟩; have CU := Lib.hid hcur; have HC := Lib.hid hcw; have B1 := Lib.hid hb; clear hcur hcw hb)
    | (go_at_call 20; refine (decode_any CU.out (by have := HN.out; omega) sy lg).mono ?_; intro q w2 hd; have B2 := Lib.hid (decode_new B1.out HC.out hd); rw [List.drop_zero, dcd_take] at hd; obtain ⟨A2, n2, c2, rfl, _⟩ := hd; rw [HE.out]))
  go_ret
  exact ⟨rfl, below_on B2.out (Nat.le_refl _) (below_new _ _)⟩

theorem rd1 (w : World) (b : UInt8) (z : Int) (hz : z = (b.toNat : Int)) : Bt.Rd (w.alloc (.cells #[.int .u8 z] 5)) (some ⟨w.heap.size, 0, none⟩) [b] := by
  subst hz
  exact Rv.lit w _ [Bt.byt b]

theorem vt_a : Vt 1 [1, 1] := ⟨by decide, by decide, by decide, by decide, by decide, by decide⟩
theorem vt_b : Vt 2 [4] := ⟨by decide, by decide, by decide, by decide, by decide, by decide⟩
theorem pk_a : Bt.pack (descr 1 [1, 1]) = [0xe0] := by
  have e : enc (2 ^ 1) [1, 1] = code 2 4 ++ (code 2 3 ++ []) := by rw [enc_cons _ (by decide), enc_cons _ (by decide), enc_nil]; rfl
  rw [descr, e]
  decide +kernel
theorem pk_b : Bt.pack (descr 2 [4]) = [0x71] := by
  have e : enc (2 ^ 2) [4] = code 5 6 ++ [] := by rw [enc_cons _ (by decide), enc_nil]; rfl
  rw [descr, e]
  decide +kernel
theorem rd_c : (dcd (unp [0x0f]) 256 9).1 = 13 := by decide +kernel
theorem rd_d : (dcd (unp []) 256 9).1 = 3 := by decide +kernel

set_option maxRecDepth 100000 in
set_option maxHeartbeats 2000000 in
theorem known_any (w : World) : Calls Try.prog 12 #[] w fun e w' => e = .returned (.bool true) ∧ Below w.heap.size w w' := by
  have PA : Hid (Calls Try.prog 27 #[tb 1 (some ⟨w.heap.size, 0, none⟩) 2 2, .slice (some ⟨w.heap.size + 1, 0, none⟩) 1 1] ((w.alloc (.cells #[.int .i64 1, .int .i64 1] 3)).alloc (.cells #[.int .u8 224] 5)) fun e w' => e = .returned (.bool true) ∧ Below ((w.alloc (.cells #[.int .i64 1, .int .i64 1] 3)).alloc (.cells #[.int .u8 224] 5)).heap.size ((w.alloc (.cells #[.int .i64 1, .int .i64 1] 3)).alloc (.cells #[.int .u8 224] 5)) w') := Lib.hid (by
    have h1 : Ri (w.alloc (.cells #[.int .i64 1, .int .i64 1] 3)) (some ⟨w.heap.size, 0, none⟩) [1, 1] := Rv.lit w _ [iv 1, iv 1]
    have h2 := rd1 (w.alloc (.cells #[.int .i64 1, .int .i64 1] 3)) 0xe0 224 (by decide)
    rw [World.size_alloc] at h2
    exact puts_ok _ 1 _ [1, 1] 2 2 rfl (by decide) (h1.below (below_new _ _)) vt_a (by decide) _ [0xe0] 1 1 rfl pk_a h2)
  have PB : Hid (∀ w : World, Calls Try.prog 27 #[tb 2 (some ⟨w.heap.size, 0, none⟩) 1 1, .slice (some ⟨w.heap.size + 1, 0, none⟩) 1 1] ((w.alloc (.cells #[.int .i64 4] 3)).alloc (.cells #[.int .u8 113] 5)) fun e w' => e = .returned (.bool true) ∧ Below ((w.alloc (.cells #[.int .i64 4] 3)).alloc (.cells #[.int .u8 113] 5)).heap.size ((w.alloc (.cells #[.int .i64 4] 3)).alloc (.cells #[.int .u8 113] 5)) w') := Lib.hid (fun w => by
    have h1 : Ri (w.alloc (.cells #[.int .i64 4] 3)) (some ⟨w.heap.size, 0, none⟩) [4] := Rv.lit w _ [iv 4]
    have h2 := rd1 (w.alloc (.cells #[.int .i64 4] 3)) 0x71 113 (by decide)
    rw [World.size_alloc] at h2
    exact puts_ok _ 2 _ [4] 1 1 rfl (by decide) (h1.below (below_new _ _)) vt_b (by decide) _ [0x71] 1 1 rfl pk_b h2)
  have RC : Hid (∀ w : World, Calls Try.prog 25 #[.slice (some ⟨w.heap.size, 0, none⟩) 1 1, .int .i64 256, .int .i64 9] (w.alloc (.cells #[.int .u8 15] 5)) fun q w' => q = .returned (.int .i64 13) ∧ Below w.heap.size w w') := Lib.hid (fun w => by
    refine (reads_any (w.alloc (.cells #[.int .u8 15] 5)) (some ⟨w.heap.size, 0, none⟩) [0x0f] 1 1 rfl (by decide) (rd1 w 0x0f 15 (by decide)) 256 9 13 rd_c).mono ?_
    rintro q w' ⟨rfl, hb⟩
    exact ⟨rfl, below_on (below_new _ _) (Nat.le_refl _) hb⟩)
  have RD : Hid (∀ w : World, Calls Try.prog 25 #[.slice none 0 0, .int .i64 256, .int .i64 9] w fun q w' => q = .returned (.int .i64 3) ∧ Below w.heap.size w w') := Lib.hid (fun w => reads_any w none [] 0 0 rfl (by decide) (Bt.Rv.nil _ _) 256 9 3 rd_d)
  go_enter Try.func12, Try.ntmps12
  go_wp2_with (first
    | (go_at_call 27; (with_reducible refine PA.out.mono ?_); rintro e w1 ⟨rfl, hb1⟩; have B1 := Lib.hid (below_on (below_on (below_new w _) (Nat.le_refl _) (below_new _ _)) (Nat.le_refl _) hb1); clear hb1)
    | (go_at_call 27; (with_reducible refine (PB.out _).mono ?_); rintro e w2 ⟨rfl, hb2⟩; have B2 := Lib.hid (below_on B1.out (Nat.le_refl _) (below_on (below_on (below_new _ _) (Nat.le_refl _) (below_new _ _)) (Nat.le_refl _) hb2)); clear hb2)
    | (go_at_call 25; (with_reducible refine (RC.out _).mono ?_); rintro e w3 ⟨rfl, hb3⟩; have B3 := Lib.hid (below_on B2.out (Nat.le_refl _) hb3); clear hb3)
    | (go_at_call 25; (with_reducible refine (RD.out _).mono ?_); rintro e w4 ⟨rfl, hb4⟩; have B4 := Lib.hid (below_on B3.out (Nat.le_refl _) hb4); clear hb4))
  go_ret
  exact ⟨rfl, B4.out⟩

end Go.Proofs.Ytpjbjbohbdlciaa
