/-
  Proved: the law DescPads returns true for all tables and bits: a bit 1 behind the last bit of a description, ahead of the byte boundary, gives ErrBits. No condition.
-/
import Derived.BigQuiet
import Derived.Deep.QuietTactic
import Derived.Test.YtpjbjbohbdlciaaFrm
import Derived.Test.YtpjbjbohbdlciaaQRfB
namespace Go.Proofs.Ytpjbjbohbdlciaa.descPads
open Go.ChangeShapes Go.WideShapes Go.ChangeAt Go.RowKit

set_option maxRecDepth 100000 in
set_option maxHeartbeats 1000000 in
theorem walk_long (y : Int) (A : Option Addr) (N cap : Nat) (which : Int) (w : World) (h : 300 < N) :
    Calls Try.prog 10 #[tb y A N cap, .int .i64 which] w fun e w' => e = .returned (.bool true) ∧ Below w.heap.size w w' := by
  have hd : decide ((300 : Int) < (N : Int)) = true := decide_eq_true (by omega)
  have b1 := below_new w (.cells #[.int .i64 y, .slice A N cap] 24)
  have t1 := Tb.new w y A N cap
  obtain ⟨w1, hw1⟩ : ∃ w1, w.alloc (.cells #[.int .i64 y, .slice A N cap] 24) = w1 := ⟨_, rfl⟩
  rw [hw1] at b1 t1
  have c0 := t1.c0
  have c1 := t1.c1
  have B0 := Lib.hid b1
  clear b1 t1
  go_enter Try.func10, Try.ntmps10
  go_wp2_with (go_at_call 12; refine (known_any _).mono ?_; rintro e w9 ⟨rfl, hb9⟩; have B9 := Lib.hid (below_on B0.out (Nat.le_refl _) hb9); clear hb9)
  go_ret
  exact ⟨rfl, B9.out⟩

set_option maxRecDepth 100000 in
set_option maxHeartbeats 1000000 in
theorem walk_bad (y : Int) (A : Option Addr) (l : List Int) (N cap : Nat) (which : Int) (w : World) (hN : l.length = N) (h : N ≤ 300) (hv : may y l = false) (hR : Ri w A l) :
    Calls Try.prog 10 #[tb y A N cap, .int .i64 which] w fun e w' => e = .returned (.bool true) ∧ Below w.heap.size w w' := by
  have hd : decide ((300 : Int) < (N : Int)) = false := decide_eq_false (by omega)
  have b1 := below_new w (.cells #[.int .i64 y, .slice A N cap] 24)
  have t1 := Tb.new w y A N cap
  obtain ⟨w1, hw1⟩ : ∃ w1, w.alloc (.cells #[.int .i64 y, .slice A N cap] 24) = w1 := ⟨_, rfl⟩
  rw [hw1] at b1 t1
  have c0 := t1.c0
  have c1 := t1.c1
  have MY := Lib.hid (rmay_any w1 y A l N cap hN (by omega) (hR.below b1) false hv)
  have B0 := Lib.hid b1
  have T1 := Lib.hid t1
  clear b1 t1 hR hN hv
  go_enter Try.func10, Try.ntmps10
  go_wp2_with (first
    | (go_at_call 14; refine MY.out.mono ?_; rintro e w2 ⟨rfl, hb2⟩; have B2 := Lib.hid (below_on B0.out (Nat.le_refl _) hb2); have B12 := Lib.hid hb2; have t2 := T1.out.below hb2; have d0 := t2.c0; have d1 := t2.c1; clear hb2 t2)
    | (go_at_call 12; refine (known_any _).mono ?_; rintro e w9 ⟨rfl, hb9⟩; have B9 := Lib.hid (below_on B2.out (Nat.le_refl _) hb9); clear hb9))
  go_ret
  exact ⟨rfl, B9.out⟩

set_option maxRecDepth 100000 in
set_option maxHeartbeats 1000000 in
theorem walk_whole (y : Nat) (A : Option Addr) (l : List Int) (N cap : Nat) (which : Int) (w : World) (hN : l.length = N) (hc : N ≤ cap) (hv : Vt y l) (h1 : 1 ≤ y) (h : N ≤ 300) (hR : Ri w A l) (h8 : (descr y l).length % 8 = 0) :
    Calls Try.prog 10 #[tb (y : Int) A N cap, .int .i64 which] w fun e w' => e = .returned (.bool true) ∧ Below w.heap.size w w' := by
  have hN2 : N ≤ 256 := by rw [← hN]; exact hv.len
  have hy9 := hv.log
  have hd : decide ((300 : Int) < (N : Int)) = false := decide_eq_false (by omega)
  have b1 := below_new w (.cells #[.int .i64 (y : Int), .slice A N cap] 24)
  have t1 := Tb.new w (y : Int) A N cap
  obtain ⟨w1, hw1⟩ : ∃ w1, w.alloc (.cells #[.int .i64 (y : Int), .slice A N cap] 24) = w1 := ⟨_, rfl⟩
  rw [hw1] at b1 t1
  have c0 := t1.c0
  have c1 := t1.c1
  have hR1 := hR.below b1
  have MY := Lib.hid (rmay_any w1 (y : Int) A l N cap hN (by omega) hR1 true (may_iff.2 ⟨y, rfl, h1, hv⟩))
  have EN : Hid (∀ W, Below w1.heap.size w1 W → Calls Try.prog 13 #[tb (y : Int) A N cap] W (EncP W (Bt.pack (descr y l)) 0)) := Lib.hid (fun W hb => encode_ok W y A l N cap hN hc (hR1.below hb) hv h1)
  have hdl := descr_len hv
  have hpl := Bt.pack_len (descr y l)
  have hd4 : 4 ≤ (descr y l).length := by rw [descr, List.length_append, Bt.bitsOf_len]; omega
  obtain ⟨X0, hX0⟩ : ∃ X0, Bt.pack (descr y l) = X0 := ⟨_, rfl⟩
  rw [hX0] at EN hpl
  obtain ⟨n0, hn0⟩ : ∃ n0, X0.length = n0 := ⟨_, rfl⟩
  rw [hn0] at hpl
  have hn1 : 1 ≤ n0 := by omega
  have hn3 : n0 ≤ 400 := by omega
  have HNX := Lib.hid hn0
  have B0 := Lib.hid b1
  have T1 := Lib.hid t1
  obtain ⟨nn, hnn⟩ : ∃ nn, (descr y l).length = nn := ⟨_, rfl⟩
  rw [hnn] at hpl hd4
  have BL : Hid (∀ W, Below w1.heap.size w1 W → Calls Try.prog 15 #[tb (y : Int) A N cap] W fun e w' => e = .returned (.int .i64 (nn : Int)) ∧ Below W.heap.size W w') := Lib.hid (fun W hb => bitlen_ok W y A l N cap hN hc (hR1.below hb) hv h1 nn hnn)
  have f1 : decide ((nn : Int) < 1) = false := decide_eq_false (by omega)
  have f2 : ((nn : Int) + 7) / 8 = (n0 : Int) := by omega
  have f3 : ((nn : Int) + 7).tdiv 8 = (n0 : Int) := by rw [Int.tdiv_eq_ediv_of_nonneg (by omega)]; exact f2
  have f4 : ((n0 : Int) != (n0 : Int)) = false := by simp
  have f5 : nn ≤ 4000 := by omega
  have g1 : (nn : Int) % 8 = 0 := by omega
  have g2 : (nn : Int).tmod 8 = 0 := by rw [Int.tmod_eq_emod_of_nonneg (by omega)]; exact g1
  clear b1 t1 hR hR1 hN hv hX0 hn0 hpl hdl hd4 h1 h8 hnn
  go_enter Try.func10, Try.ntmps10
  go_wp2_with (first
    | (go_at_call 14; refine MY.out.mono ?_; rintro e w2 ⟨rfl, hb2⟩; have B2 := Lib.hid (below_on B0.out (Nat.le_refl _) hb2); have B12 := Lib.hid hb2; have t2 := T1.out.below hb2; have d0 := t2.c0; have d1 := t2.c1; clear hb2 t2)
    | (go_at_call 13; refine (EN.out w2 B12.out).mono ?_; rintro e w3 ⟨A3, n3, c3, rfl, hb3⟩; obtain rfl : n0 = n3 := (hb3.1.trans HNX.out).symm; have Y3 := Lib.hid hb3; have B13 := Lib.hid (below_on B12.out (Nat.le_refl _) hb3.2.2); have B3 := Lib.hid (below_on B2.out (Nat.le_refl _) hb3.2.2); have t3 := T1.out.below B13.out; have e0 := t3.c0; have e1 := t3.c1; clear hb3 t3)
    | (go_at_call 15; refine (BL.out _ B13.out).mono ?_; rintro e w4 ⟨rfl, hb4⟩; have B14 := Lib.hid (below_on B13.out (Nat.le_refl _) hb4); have B4 := Lib.hid (below_on B3.out (Nat.le_refl _) hb4); have HB4 := Lib.hid hb4; clear hb4)
    | (go_at_call 12; refine (known_any _).mono ?_; rintro e w9 ⟨rfl, hb9⟩; have B9 := Lib.hid (below_on B4.out (Nat.le_refl _) hb9); clear hb9))
  go_ret
  exact ⟨rfl, B9.out⟩

set_option maxRecDepth 100000 in
set_option maxHeartbeats 1000000 in
theorem walk_pad (y : Nat) (A : Option Addr) (l : List Int) (N cap : Nat) (which : Int) (w : World) (hN : l.length = N) (hc : N ≤ cap) (hv : Vt y l) (h1 : 1 ≤ y) (h : N ≤ 300) (hR : Ri w A l) (h8 : (descr y l).length % 8 ≠ 0) :
    Calls Try.prog 10 #[tb (y : Int) A N cap, .int .i64 which] w fun e w' => e = .returned (.bool true) ∧ Below w.heap.size w w' := by
  have hN2 : N ≤ 256 := by rw [← hN]; exact hv.len
  have hy9 := hv.log
  have hd : decide ((300 : Int) < (N : Int)) = false := decide_eq_false (by omega)
  have b1 := below_new w (.cells #[.int .i64 (y : Int), .slice A N cap] 24)
  have t1 := Tb.new w (y : Int) A N cap
  obtain ⟨w1, hw1⟩ : ∃ w1, w.alloc (.cells #[.int .i64 (y : Int), .slice A N cap] 24) = w1 := ⟨_, rfl⟩
  rw [hw1] at b1 t1
  have c0 := t1.c0
  have c1 := t1.c1
  have hR1 := hR.below b1
  have MY := Lib.hid (rmay_any w1 (y : Int) A l N cap hN (by omega) hR1 true (may_iff.2 ⟨y, rfl, h1, hv⟩))
  have EN : Hid (∀ W, Below w1.heap.size w1 W → Calls Try.prog 13 #[tb (y : Int) A N cap] W (EncP W (Bt.pack (descr y l)) 0)) := Lib.hid (fun W hb => encode_ok W y A l N cap hN hc (hR1.below hb) hv h1)
  have hdl := descr_len hv
  have hpl := Bt.pack_len (descr y l)
  have hd4 : 4 ≤ (descr y l).length := by rw [descr, List.length_append, Bt.bitsOf_len]; omega
  obtain ⟨X0, hX0⟩ : ∃ X0, Bt.pack (descr y l) = X0 := ⟨_, rfl⟩
  rw [hX0] at EN hpl
  obtain ⟨n0, hn0⟩ : ∃ n0, X0.length = n0 := ⟨_, rfl⟩
  rw [hn0] at hpl
  have hn1 : 1 ≤ n0 := by omega
  have hn3 : n0 ≤ 400 := by omega
  have HNX := Lib.hid hn0
  have B0 := Lib.hid b1
  have T1 := Lib.hid t1
  obtain ⟨nn, hnn⟩ : ∃ nn, (descr y l).length = nn := ⟨_, rfl⟩
  rw [hnn] at hpl hd4
  have BL : Hid (∀ W, Below w1.heap.size w1 W → Calls Try.prog 15 #[tb (y : Int) A N cap] W fun e w' => e = .returned (.int .i64 (nn : Int)) ∧ Below W.heap.size W w') := Lib.hid (fun W hb => bitlen_ok W y A l N cap hN hc (hR1.below hb) hv h1 nn hnn)
  have f1 : decide ((nn : Int) < 1) = false := decide_eq_false (by omega)
  have f2 : ((nn : Int) + 7) / 8 = (n0 : Int) := by omega
  have f3 : ((nn : Int) + 7).tdiv 8 = (n0 : Int) := by rw [Int.tdiv_eq_ediv_of_nonneg (by omega)]; exact f2
  have f4 : ((n0 : Int) != (n0 : Int)) = false := by simp
  have f5 : nn ≤ 4000 := by omega
  obtain ⟨cc, hcc⟩ : ∃ cc, nn % 8 = cc := ⟨_, rfl⟩
  obtain ⟨g, hg⟩ : ∃ g, 8 - cc = g := ⟨_, rfl⟩
  have g1 : (nn : Int) % 8 = (cc : Int) := by omega
  have g2 : (nn : Int).tmod 8 = (cc : Int) := by rw [Int.tmod_eq_emod_of_nonneg (by omega)]; exact g1
  have g3 : ((cc : Int) == 0) = false := by simp; omega
  have g4 : 8 - (cc : Int) = (g : Int) := by omega
  obtain ⟨U, j, hU, hU6, hj, hjn⟩ := uint_mod which g (by omega)
  obtain ⟨k, hk⟩ : ∃ k, cc + j = k := ⟨_, rfl⟩
  have g5 : (cc : Int) + (j : Int) = (k : Int) := by omega
  have hk8 : k < 8 := by omega
  have hcc8 : cc < 8 := by omega
  obtain ⟨F, p, c, hst, hc8⟩ := Bt.str_ex _ (descr y l) rfl
  have hsl := hst.len
  obtain rfl : cc = c := by omega
  have hpk := hst.pack hc8
  rw [hX0, Bt.tl, if_neg (by omega)] at hpk
  have hdp := dcd_pad h1 hv hst (by omega) hc8 k (by omega) hk8
  obtain ⟨P2, hP2⟩ : ∃ P2, 2 ^ k = P2 := ⟨_, rfl⟩
  have hP8 : P2 ≤ 128 := by rw [← hP2]; exact Nat.pow_le_pow_right (n := 2) (by decide) (show k ≤ 7 by omega)
  rw [hP2] at hdp
  obtain ⟨Q, hQ⟩ : ∃ Q, p + P2 = Q := ⟨_, rfl⟩
  rw [hQ] at hdp
  have hQ2 := hdp.1
  obtain ⟨m, hm⟩ : ∃ m, F.length = m := ⟨_, rfl⟩
  have hn0m : n0 = m + 1 := by rw [← hn0, hpk, List.length_append, hm]; rfl
  have g6 : (n0 : Int) - 1 = (m : Int) := by omega
  have g7 : (p : Int) + (P2 : Int) = (Q : Int) := by omega
  have hpi : (2 : Int) ^ k = (P2 : Int) := by rw [← hP2]; exact (Int.natCast_pow 2 k).symm
  have hp8 : p < 256 := by omega
  have RD : Hid (∀ W A3 c3, Bt.Rd W A3 (F ++ [UInt8.ofNat Q]) → Calls Try.prog 25 #[.slice A3 (m + 1) c3, .int .i64 256, .int .i64 9] W fun q w' => q = .returned (.int .i64 14) ∧ Below W.heap.size W w') := Lib.hid (fun W A3 c3 hr =>
    reads_any W A3 _ (m + 1) c3 (by rw [List.length_append, hm]; rfl) (by omega) hr 256 9 14 (by rw [hdp.2]))
  have HPK : Hid (X0 = F ++ [UInt8.ofNat p] ∧ F.length = m ∧ n0 = m + 1) := Lib.hid ⟨hpk, hm, hn0m⟩
  clear b1 t1 hR hR1 hN hv hX0 hn0 hpl hdl hd4 h1 h8 hnn hcc hg hst hsl hpk hdp hQ hm hk
  go_enter Try.func10, Try.ntmps10
  go_upto_region 10 with (first
    | (go_at_call 14; refine MY.out.mono ?_; rintro e w2 ⟨rfl, hb2⟩; have B2 := Lib.hid (below_on B0.out (Nat.le_refl _) hb2); have B12 := Lib.hid hb2; have t2 := T1.out.below hb2; have d0 := t2.c0; have d1 := t2.c1; clear hb2 t2)
    | (go_at_call 13; refine (EN.out w2 B12.out).mono ?_; rintro e w3 ⟨A3, n3, c3, rfl, hb3⟩; obtain rfl : n0 = n3 := (hb3.1.trans HNX.out).symm; have Y3 := Lib.hid hb3; have B13 := Lib.hid (below_on B12.out (Nat.le_refl _) hb3.2.2); have B3 := Lib.hid (below_on B2.out (Nat.le_refl _) hb3.2.2); have t3 := T1.out.below B13.out; have e0 := t3.c0; have e1 := t3.c1; clear hb3 t3)
    | (go_at_call 15; refine (BL.out _ B13.out).mono ?_; rintro e w4 ⟨rfl, hb4⟩; have B14 := Lib.hid (below_on B13.out (Nat.le_refl _) hb4); have B4 := Lib.hid (below_on B3.out (Nat.le_refl _) hb4); have HB4 := Lib.hid hb4; clear hb4))
  have O4 : w4.ownsRow w2.heap.size 5 1 (.slice A3 (m + 1) c3) (m + 1) ((F ++ [UInt8.ofNat p]).map Bt.byt) := by
    have h5 := own_below Y3.out.2.1 HB4.out
    rw [HPK.out.1, HPK.out.2.2] at h5
    exact h5
  obtain ⟨gg, rfl⟩ : ∃ gg, A3 = some ⟨gg, 0, none⟩ := by
    rcases O4.2 with ⟨_, h0⟩ | ⟨gg, _, _, hv, _⟩
    · omega
    · cases hv; exact ⟨gg, rfl⟩
  have cl : w4.cell? ⟨gg, m, none⟩ = some (.int .u8 (p : Int)) := by
    rw [O4.cellAt m (by omega), List.getElem?_map, List.getElem?_append_right (by rw [HPK.out.2.1]; exact Nat.le_refl _), HPK.out.2.1, Nat.sub_self]
    simp only [List.getElem?_cons_zero, Option.map_some]
    rw [Bt.byt_of hp8]
  have fz := O4.frozenAt m
  have hmn : m < n0 := by omega
  have s5 := O4.stored m (.int .u8 (Q : Int))
  have x1 : IntKind.u8.wrap (2 ^ k) = (P2 : Int) := by rw [hpi]; simp [IntKind.wrap, IntKind.bits, IntKind.signed]; omega
  have x2 : IntKind.u8.wrap (2 ^ min k 64) = (P2 : Int) := by rw [Nat.min_eq_left (by omega)]; exact x1
  have x3 : IntKind.u8.wrap (Q : Int) = (Q : Int) := by simp [IntKind.wrap, IntKind.bits, IntKind.signed]; omega
  have x4 : ((2 : Int) ^ k % 256) = (P2 : Int) := by rw [hpi]; omega
  have x5 : ((2 : Int) ^ min k 64 % 256) = (P2 : Int) := by rw [Nat.min_eq_left (by omega)]; exact x4
  have x6 : (Q : Int) % 256 = (Q : Int) := by omega
  have S5 := Lib.hid s5
  have kb : decide ((k : Int) < 0) = false := decide_eq_false (by omega)
  have hx : IntKind.i64.wrap (m : Int) = (m : Int) := IntWalk.i64_in _ (by omega)
  have R5 : Hid (Bt.Rd (w4.setCell ⟨gg, m, none⟩ (.int .u8 (Q : Int))) (some ⟨gg, 0, none⟩) (F ++ [UInt8.ofNat Q])) := Lib.hid (by
    have h5 := Bt.Rv.of_own s5.1
    rw [← HPK.out.2.1, Bt.set_last F _ (UInt8.ofNat Q) (by rw [Bt.byt_of hQ2]) (UInt8.ofNat p), HPK.out.2.1] at h5
    exact h5)
  have B5 : Hid (Below w.heap.size w (w4.setCell ⟨gg, m, none⟩ (.int .u8 (Q : Int)))) := Lib.hid (B4.out.setCell (by (have h1 := (O4.lt gg rfl).1; have h2 := B2.out.size; show w.heap.size ≤ gg; omega)) _)
  clear s5 hP2 hpi
  go_region
  go_wp2_with (first
    | (go_at_call 25; refine (RD.out (w4.setCell ⟨gg, m, none⟩ (.int .u8 (Q : Int))).drew (some ⟨gg, 0, none⟩) c3 (fun j v hj => R5.out j v hj)).mono ?_; rintro e w6 ⟨rfl, hb6⟩; have B6 := Lib.hid (below_on B5.out.drew (Nat.le_refl _) hb6); clear hb6)
    | (go_at_call 12; refine (known_any _).mono ?_; rintro e w9 ⟨rfl, hb9⟩; have B9 := Lib.hid (below_on B6.out (Nat.le_refl _) hb9); clear hb9))
  go_ret
  exact ⟨rfl, B9.out⟩

theorem walk (y : Int) (A : Option Addr) (l : List Int) (cap : Nat) (which : Int) (w : World) (hR : Ri w A l) (_ : ∀ z ∈ l, -9223372036854775808 ≤ z ∧ z ≤ 9223372036854775807) (hc : l.length ≤ cap) (_ : (Lit.int IntKind.i64 which).wf = true) :
    Calls Try.prog 10 #[tb y A l.length cap, .int .i64 which] w fun e w' => e = .returned (.bool true) ∧ Below w.heap.size w w' := by
  by_cases h : 300 < l.length
  · exact walk_long y A _ cap which w h
  · cases hv : may y l with
    | false => exact walk_bad y A l _ cap which w rfl (by omega) hv hR
    | true =>
      obtain ⟨n, rfl, h1, hv2⟩ := may_iff.1 hv
      by_cases h8 : (descr n l).length % 8 = 0
      · exact walk_whole n A l _ cap which w rfl hc hv2 h1 (by omega) hR h8
      · exact walk_pad n A l _ cap which w rfl hc hv2 h1 (by omega) hR h8
set_option maxRecDepth 100000 in
theorem lifted (os : Os) (started : os.Started) (H : Type) (enc : TypeId × Value → H) :
    ReturnsInHanded {} Try.checked os 10 .any (Rows.descPadsSpec.pre6 enc Try.prog Try.f10 Rows.descPadsRow.domain false) (Rows.descPadsSpec.post enc Try.prog Try.f10 false true false false) := by
  refine returnsInHanded_of_change_sized (C := Try.checked) ownB started (by kernel_rfl) Try.func10
    (ChangeSpec.witness6 (enc := enc) (C := Try.checked) false ⟨#[], #[.agg #[.int .i64 0, .slice none 0 0], .int .i64 0], []⟩ 8 (by kernel_rfl) (by kernel_rfl) (by kernel_rfl) (by kernel_rfl)) ?_
  intro W base args ds gs before hval0 hW _ hsz0 _
  have hsz : (DataW.weightsEach Try.prog (Try.f10.params.toList ++ Rows.descPadsSpec.plain.varTypes Try.prog) (ds ++ gs)).all (· ≤ reachBytes) = true := hsz0
  clear hsz0
  have hval : ∀ (j : Nat) t v, Try.f10.params[j]? = some t → args[j]? = some v → Value.okWide Try.prog W .any base t v := hval0
  have hW' := hW
  obtain ⟨p, q, hA0, hV, rfl, hfz, hnd⟩ := hW
  have hA : DataW.TrodAll enc Try.prog W 0 (fun _ => true) true Try.f10.params.toList args.toList ds p := hA0
  rw [Try.params10] at hA hval hsz
  obtain ⟨v0, vs0, d0, ds0, p0, q0, hargs, rfl, rfl, h0, r0⟩ := trodAll_cons hA
  obtain ⟨v1, vs1, d1, ds1, p1, q1, rfl, rfl, rfl, h1, r1⟩ := trodAll_cons r0
  obtain ⟨rfl, rfl, rfl⟩ := trodAll_nil r1
  obtain rfl : args = #[v0, v1] := by cases args; simp_all
  obtain ⟨rfl, rfl⟩ := trodVars_none hV
  obtain ⟨cs0, rfl, hcs0⟩ := okWide_struct Try.underlying24 (hval 0 24 v0 rfl rfl)
  have k0 := h0
  have lt0 : ∀ x ∈ p0, x.block < W.heap.size := by obtain ⟨m, hm⟩ := k0; exact DataW.trod_lt m _ _ _ hm
  obtain ⟨y0, a0, len0, cap0, l0, rfl, rfl, hc0, ri0, wi0⟩ := open_tab hcs0 h0
  obtain ⟨a1, rfl, rfl, rfl, w1⟩ := open_int Try.underlying3 (hval 1 3 v1 rfl rfl) h1
  clear hA0 hval0
  refine (walk y0 a0 l0 cap0 a1 W ri0 wi0 hc0 w1).mono fun e W' ⟨he, bel⟩ => ?_
  subst he
  exact ⟨_, rfl, _, _, _, [], _, [], hW', trodAll_mk1 (shut_bool Try.underlying4 _), (trodAll_cons_mk (Below.trod laidOut (by kernel_rfl) (of_decide_eq_true (by kernel_rfl)) k0 bel lt0) (trodAll_cons_mk (shut_int Try.underlying3 w1) trodAll_mk0)), rfl, bel.frame _, fun h => by cases h⟩

theorem proved : Rows.DescPadsSaid :=
  OpenClaim.holds_of_wide 10 Try.f10 rfl rfl rfl rfl rfl rfl rfl ⟨rfl, rfl, rfl, rfl, rfl⟩ rfl rfl rfl rfl rfl (by kernel_rfl) Try.func10 (by kernel_rfl)
    (of_decide_eq_true (by kernel_rfl)) (by unfold Func.isWrapper; rw [if_neg (by decide +kernel)]; exact ⟨rfl, rfl⟩)
    (fun os started H enc _ => lifted os started H enc)

#print axioms proved

end Go.Proofs.Ytpjbjbohbdlciaa.descPads
