/-
  What Decode does: the table, the place of the cursor and the error that dcd says. Condition: at most 10^6 bytes.
-/
import Derived.Test.YtpjbjbohbdlciaaTbl
import Derived.Test.YtpjbjbohbdlciaaRMPek
import Derived.Test.YtpjbjbohbdlciaaQUni
namespace Go.Proofs.Ytpjbjbohbdlciaa
open Go.RowKit Go.Shelf
open Bt (unp unp_len)

theorem nm_bt {w : World} {A : Option Addr} {l : List UInt8} (h : Nm.Rd w A l) : Bt.Rd w A l := by
  intro j v hj
  rw [List.getElem?_map] at hj
  obtain ⟨b, hb, rfl⟩ := Option.map_eq_some_iff.1 hj
  exact h j b hb
theorem bt_nm {w : World} {A : Option Addr} {l : List UInt8} (h : Bt.Rd w A l) : Nm.Rd w A l := fun j b hj => h j (Bt.byt b) (by rw [List.getElem?_map, hj]; rfl)

theorem al_u {w : World} {r x : Nat} {A : Option Addr} {c : Nat} {D : List UInt8} {s : Nat} {er : Int} (h : Dr w r x A c D s er) (hD : D.length ≤ 1000) :
    Calls Try.prog 42 #[.pointer (some ⟨r, 0, none⟩)] w fun q w' => ∃ (n s2 : Nat) (er2 : Int), q = .returned (.int .i64 (n : Int)) ∧
      ((er ≠ 0 ∧ n = 0 ∧ er2 = er) ∨ (er = 0 ∧ tk (unp D) s (8 * ((s + 7) / 8) - s) = 0 ∧ n = (s + 7) / 8 ∧ er2 = 0) ∨ (er = 0 ∧ tk (unp D) s (8 * ((s + 7) / 8) - s) ≠ 0 ∧ n = 0 ∧ er2 = 14)) ∧ n ≤ D.length ∧ Left w r x A c D s2 er2 w' := by
  by_cases h0 : er = 0
  · subst h0
    by_cases hz : tk (unp D) s (8 * ((s + 7) / 8) - s) = 0
    · have hle := h.le
      refine (align_ok h hD _ rfl hz).mono ?_
      rintro q w' ⟨rfl, hl⟩
      exact ⟨_, _, 0, rfl, .inr (.inl ⟨rfl, hz, rfl, rfl⟩), by omega, hl⟩
    · refine (align_bad h hD _ rfl hz).mono ?_
      rintro q w' ⟨rfl, hl⟩
      exact ⟨0, s, 14, rfl, .inr (.inr ⟨rfl, hz, rfl, rfl⟩), by omega, hl⟩
  · refine (align_err h h0).mono ?_
    rintro q w' ⟨rfl, rfl⟩
    exact ⟨0, s, er, rfl, .inl ⟨h0, rfl, rfl⟩, by omega, Left.refl h⟩

theorem TableP.u {w : World} {r x : Nat} {A : Option Addr} {c : Nat} {D : List UInt8} {Rz : Rs} {q : Ending} {w' : World} (h : TableP w r x A c D Rz q w') :
    ∃ (Y : Int) (A1 : Option Addr) (n1 c1 s : Nat) (er : Int), q = .returned (tb Y A1 n1 c1) ∧ Left w r x A c D s er w' ∧
      ((∃ e : Nat, Rz = .bad e ∧ er = (e : Int) ∧ e ≠ 0) ∨ (∃ out, Rz = .ok out s ∧ er = 0 ∧ Y = ((tk (unp D) 0 4 + 1 : Nat) : Int) ∧ w'.ownsRow w.heap.size 3 1 (.slice A1 n1 c1) n1 (out.map iv))) := by
  obtain ⟨Y, A1, n1, c1, rfl, h⟩ := h
  cases Rz with
  | ok out s => exact ⟨Y, A1, n1, c1, s, 0, rfl, h.1, .inr ⟨out, rfl, rfl, h.2.1, h.2.2⟩⟩
  | bad e =>
    obtain ⟨h0, s, hl⟩ := h
    exact ⟨Y, A1, n1, c1, s, (e : Int), rfl, hl, .inl ⟨e, rfl, rfl, h0⟩⟩

/-- What Decode leaves. -/
def DecP (w : World) (c : Nat) (A : Option Addr) (cap : Nat) (l : List UInt8) (k : Nat) (R : Nat × Nat × List Int × Nat) (q : Ending) (w' : World) : Prop :=
  ∃ (A1 : Option Addr) (n1 c1 : Nat), q = .returned (.tuple #[tb (R.2.1 : Int) A1 n1 c1, .int .i64 (R.1 : Int)]) ∧ Nm.Cur w' c A cap l (k + R.2.2.2) ∧ w.grownBy w' (some c) ∧ w'.ownsRow w.heap.size 3 1 (.slice A1 n1 c1) n1 (R.2.2.1.map iv)

theorem grown_newer {T : Nat → Prop} {w a b : World} {row : Option Nat} (h : w.grownBy a row) (k : Chg T a b) (hT : ∀ k, T k → w.heap.size ≤ k) : w.grownBy b row :=
  ⟨k.os.trans h.os, k.tape.trans h.tape, k.output.trans h.output, Nat.le_trans h.size k.size, fun i hi hne => (k.block i (Nat.lt_of_lt_of_le hi h.size) (fun e => by have := hT i e; omega)).trans (h.block i hi hne)⟩

set_option maxRecDepth 100000 in
set_option maxHeartbeats 400000 in
theorem decode_nil (w : World) (sy lg : Int) : Calls Try.prog 20 #[.pointer none, .int .i64 sy, .int .i64 lg] w fun q w' => q = .returned (.tuple #[tb 0 none 0 0, .int .i64 1]) ∧ Below w.heap.size w w' := by
  have t1 := Tb.new w 0 none 0 0
  have b1 : Below w.heap.size w (w.alloc (.cells #[.int .i64 0, .slice none 0 0] 24)) := (Below.refl _ w).alloc (Nat.le_refl _) _
  obtain ⟨w1, hw1⟩ : ∃ w1, w.alloc (.cells #[.int .i64 0, .slice none 0 0] 24) = w1 := ⟨_, rfl⟩
  rw [hw1] at t1 b1
  have c0 := t1.c0
  have c1 := t1.c1
  have f0 := t1.free 0
  have r2 := t1.set0 0
  obtain ⟨w2, hw2⟩ : ∃ w2, w1.setCell ⟨w.heap.size, 0, none⟩ (.int .i64 0) = w2 := ⟨_, rfl⟩
  rw [hw2] at r2
  have d1 := r2.c1
  have f1 := r2.free 1
  have r3 := r2.set1 none 0 0
  obtain ⟨w3, hw3⟩ : ∃ w3, w2.setCell ⟨w.heap.size, 1, none⟩ (.slice none 0 0) = w3 := ⟨_, rfl⟩
  rw [hw3] at r3
  have R3 := Lib.hid r3
  have B3 : Hid (Below w.heap.size w w3) := Lib.hid (by
    rw [← hw3, ← hw2]
    exact (b1.setCell (Nat.le_refl _) _).setCell (Nat.le_refl _) _)
  clear t1 b1 r2 r3
  go_enter Try.func20, Try.ntmps20
  go_wp2
  refine bodyPost_ret (results_cell2 rfl rfl R3.out.load) rfl ?_
  exact ⟨rfl, B3.out⟩

set_option maxRecDepth 100000 in
set_option maxHeartbeats 4000000 in
theorem decode_any {w : World} {c : Nat} {A : Option Addr} {cap : Nat} {l : List UInt8} {k : Nat} (h : Nm.Cur w c A cap l k) (hs : l.length ≤ 1000000) (sy lg : Int) :
    Calls Try.prog 20 #[.pointer (some ⟨c, 0, none⟩), .int .i64 sy, .int .i64 lg] w (DecP w c A cap l k (dcd (unp ((l.drop k).take 385)) sy lg)) := by
  have hle := h.le
  obtain ⟨D, hDD⟩ : ∃ D, (l.drop k).take 385 = D := ⟨_, rfl⟩
  obtain ⟨N, hN⟩ : ∃ N, D.length = N := ⟨_, rfl⟩
  have hDl : N ≤ 385 ∧ k + N ≤ l.length := by rw [← hN, ← hDD, List.length_take, List.length_drop]; omega
  obtain ⟨RR, hRd⟩ : ∃ RR, dcd (unp D) sy lg = RR := ⟨_, rfl⟩
  obtain ⟨s1, hs1⟩ : ∃ s1, min sy 256 = s1 := ⟨_, rfl⟩
  obtain ⟨l1, hl1⟩ : ∃ l1, min lg 9 = l1 := ⟨_, rfl⟩
  obtain ⟨Rz, hRz⟩ : ∃ Rz, dcp (unp D) s1 l1 = Rz := ⟨_, rfl⟩
  have HRD : Hid (RR = dfin (unp D) Rz) := Lib.hid (by rw [← hRd, dcd, hs1, hl1, hRz])
  rw [hDD, hRd]
  have t1 := Tb.new w 0 none 0 0
  have b1 : Below w.heap.size w (w.alloc (.cells #[.int .i64 0, .slice none 0 0] 24)) := (Below.refl _ w).alloc (Nat.le_refl _) _
  obtain ⟨w1, hw1⟩ : ∃ w1, w.alloc (.cells #[.int .i64 0, .slice none 0 0] 24) = w1 := ⟨_, rfl⟩
  rw [hw1] at t1 b1
  have SZ1 : Hid (w1.heap.size = w.heap.size + 1) := Lib.hid (by rw [← hw1, World.size_alloc])
  have PK : Hid (Calls Try.prog 39 #[.pointer (some ⟨c, 0, none⟩), .int .i64 385] w1 (Nm.Got w1 D)) := Lib.hid (by
    have := Nm.peek_any (h.below b1) (by omega) 385
    rw [show (385 : Int).toNat = 385 from rfl, hDD] at this
    exact this)
  have TB : Hid (∀ W r x A c, Dr W r x A c D 0 0 → Calls Try.prog 40 #[.pointer (some ⟨r, 0, none⟩), .int .i64 s1, .int .i64 l1] W (TableP W r x A c D Rz)) := Lib.hid (fun W r x A c hW => table_any hW (by omega) s1 l1 (by omega) (by omega) Rz hRz)
  have H := Lib.hid h
  have HN := Lib.hid hN
  have HDL := Lib.hid hDl
  have T1 := Lib.hid t1
  have B1 := Lib.hid b1
  have hcl : Hid (c < w.heap.size) := Lib.hid h.blk.lt
  clear h hDD hN hDl hRd hRz t1 b1 hle
  go_enter Try.func20, Try.ntmps20
  go_upto_region 4 with (first
    | (go_at_call 39; refine PK.out.mono ?_; rintro q w2 ⟨v2, rfl, hv2⟩; obtain ⟨A2, c2, rfl, hrd2, hb2⟩ := hv2.rd; have RD2 := Lib.hid hrd2; have B2 := Lib.hid (below_on B1.out (Nat.le_refl _) hb2); have B21 := Lib.hid hb2; clear hv2 hrd2 hb2)
    | (go_at_call 38; refine (Bt.newf_any w2 A2 D D.length c2 rfl (by have := HN.out; have := HDL.out; omega) (nm_bt RD2.out)).mono ?_; rintro q w3 ⟨x, rfl, A3, c3, hr3⟩; have R3 := Lib.hid hr3; have B3 := Lib.hid (below_on B2.out (Nat.le_refl _) hr3.bel); clear hr3))
  have hsz3 := B3.out.size
  have hsz2 := B2.out.size
  have hw21 := B21.out.size
  obtain ⟨r, hr⟩ : ∃ r, w3.heap.size = r := ⟨_, rfl⟩
  have b4 : Below w3.heap.size w3 (w3.alloc (.cells #[.pointer (some ⟨x, 0, none⟩), .int .i64 0] 69)) := (Below.refl _ w3).alloc (Nat.le_refl _) _
  have d4 : Dr (w3.alloc (.cells #[.pointer (some ⟨x, 0, none⟩), .int .i64 0] 69)) r x A3 c3 D 0 0 := by
    refine ⟨?_, R3.out.sp.below b4, ?_, fun ad e => ?_, by omega⟩
    · rw [← hr]; exact World.alloc_heap_new w3 _
    · have := R3.out.sp.lt; omega
    · have := (R3.out.sp.ne ad e).2; omega
  have t14 : Tb (w3.alloc (.cells #[.pointer (some ⟨x, 0, none⟩), .int .i64 0] 69)) w.heap.size 0 none 0 0 := ((T1.out.below B21.out).below R3.out.bel).below b4
  have bw4 : Below w.heap.size w (w3.alloc (.cells #[.pointer (some ⟨x, 0, none⟩), .int .i64 0] 69)) := below_on B3.out (Nat.le_refl _) b4
  have sz4 : (w3.alloc (.cells #[.pointer (some ⟨x, 0, none⟩), .int .i64 0] 69)).heap.size = r + 1 := by rw [World.size_alloc, hr]
  obtain ⟨w4, hw4⟩ : ∃ w4, w3.alloc (.cells #[.pointer (some ⟨x, 0, none⟩), .int .i64 0] 69) = w4 := ⟨_, rfl⟩
  rw [hw4] at b4 d4 t14 bw4 sz4
  have AP : Hid (w.heap.size < r ∧ w.heap.size < x ∧ ∀ ad, A3 = some ad → w.heap.size < ad.block) := Lib.hid (by
    have h1 := R3.out.ge
    have h2 := SZ1.out
    have h3 := R3.out.bel.size
    exact ⟨by omega, by omega, fun ad e => by have := R3.out.row ad e; omega⟩)
  have D4 := Lib.hid d4
  have T4 := Lib.hid t14
  have B4 := Lib.hid bw4
  have SZ4 := Lib.hid sz4
  have BY : Hid (∀ W (n : Nat), Below w.heap.size w W → n ≤ D.length → Calls Try.prog 41 #[.pointer (some ⟨c, 0, none⟩), .int .i64 (n : Int)] W fun q w' => ∃ v, q = .returned (.tuple #[v, .int .i64 0]) ∧ Nm.Cur w' c A cap l (k + n) ∧ W.grownBy w' (some c)) := Lib.hid (fun W n hb hn => by
    have h1 := HN.out
    have h2 := HDL.out
    have hc0 := Nm.cutE_ok (n := (n : Int)) (m := l.length - k) (by omega) (by omega)
    refine (Nm.bytes_any (H.out.below (hb.mono (Nat.le_refl _))) (by omega) (n : Int)).mono ?_
    rintro q w' ⟨v, rfl, hcur, hg, _⟩
    rw [hc0, if_pos rfl, Int.toNat_natCast] at hcur
    exact ⟨v, by rw [hc0], hcur, hg⟩)
  clear b4 d4 t14 bw4 sz4 hsz3 hsz2 hw21 PK R3 T1 RD2 B21 B2
  go_upto_region 7 with (first
    | (go_at_call 40; refine (TB.out _ r x A3 c3 D4.out).mono ?_; intro q w5 ht; obtain ⟨Y, A5, n5, c5, s5, er5, rfl, hl5, hc5⟩ := ht.u; have L5 := Lib.hid hl5; have HC5 := Lib.hid hc5; have B5 : Hid (Below w.heap.size w w5) := Lib.hid (B4.out.trans (hl5.2.new B4.out.size (fun j hj => by (have h1 := AP.out; rcases hj with e | e <;> omega)))); have T5 := Lib.hid (T4.out.same (hl5.2.block _ T4.out.lt (by (have h1 := AP.out; rintro (e | e) <;> omega)))); have b6 : Below w5.heap.size w5 (w5.alloc (.cells #[.int .i64 Y, .slice A5 n5 c5] 24)) := (Below.refl _ w5).alloc (Nat.le_refl _) _; have D6 := Lib.hid (hl5.1.below b6); have T6 := Lib.hid (T5.out.below b6); have T96 := Lib.hid (Tb.new w5 Y A5 n5 c5); have B6 := Lib.hid (below_on B5.out (Nat.le_refl _) b6); have C6 : Hid (Chg (two r x) w4 (w5.alloc (.cells #[.int .i64 Y, .slice A5 n5 c5] 24))) := Lib.hid (hl5.2.below b6); obtain ⟨b9, hb9⟩ : ∃ b9, w5.heap.size = b9 := ⟨_, rfl⟩; obtain ⟨w6, hw6⟩ : ∃ w6, w5.alloc (.cells #[.int .i64 Y, .slice A5 n5 c5] 24) = w6 := ⟨_, rfl⟩; rw [hw6] at D6 T6 T96 B6 C6 b6; rw [hb9] at T96; have B56 := Lib.hid b6; have HB9 : Hid (r < b9 ∧ x < b9 ∧ w.heap.size < b9 ∧ w5.heap.size = b9) := Lib.hid (by (have h1 := hl5.1.lt; have h2 := hl5.1.sp.lt; have h3 := AP.out; omega)); clear ht hl5 hc5 b6)
    | (go_at_call 42; refine (al_u D6.out (by have := HN.out; have := HDL.out; omega)).mono ?_; rintro q w7 ⟨n7, s7, er7, rfl, ha, hn7, hl7⟩; have L7 := Lib.hid hl7; have HA := Lib.hid ha; have HN7 := Lib.hid hn7; have B7 : Hid (Below w.heap.size w w7) := Lib.hid (B6.out.trans (hl7.2.new B6.out.size (fun j hj => by (have h1 := AP.out; rcases hj with e | e <;> omega)))); have T7 := Lib.hid (T6.out.same (hl7.2.block _ T6.out.lt (by (have h1 := AP.out; rintro (e | e) <;> omega)))); have T97 := Lib.hid (T96.out.same (hl7.2.block _ T96.out.lt (by (have h1 := HB9.out; rintro (e | e) <;> omega)))); clear ha hn7 hl7)
    | (go_at_call 41; refine (BY.out _ _ B7.out HN7.out).mono ?_; rintro q w8 ⟨v8, rfl, hcur8, hg8⟩; have CU8 := Lib.hid hcur8; have G8 := Lib.hid hg8; have D8 := Lib.hid (L7.out.1.grown hg8 (fun g hg => by (cases hg; have h1 := AP.out; have h2 := hcl.out; exact ⟨by omega, by omega, fun ad e => by have := h1.2.2 ad e; omega⟩))); have T8 := Lib.hid (T7.out.same (hg8.block _ T7.out.lt (by have := hcl.out; simp; omega))); have T98 := Lib.hid (T97.out.same (hg8.block _ T97.out.lt (by have := hcl.out; have := HB9.out; simp; omega))); clear hcur8 hg8)
    | (go_at_call 43; refine (keep_any D8.out 0 er7 (by split <;> first | (symm; assumption) | rfl)).mono ?_; rintro q w9 ⟨rfl, hl9⟩; have L9 := Lib.hid hl9; have T9 := Lib.hid (T8.out.same (hl9.2.block _ T8.out.lt (by (have h1 := AP.out; rintro (e | e) <;> omega)))); have T99 := Lib.hid (T98.out.same (hl9.2.block _ T98.out.lt (by (have h1 := HB9.out; rintro (e | e) <;> omega)))); clear hl9))
  have FE : Hid (er7 ≠ 0 → ∃ e : Nat, er7 = (e : Int) ∧ RR = (e, 0, [], 0) ∧ n7 = 0) := Lib.hid (fun h0 => by
    have hR := HRD.out
    rcases HC5.out with ⟨e, h1, h2, h3⟩ | ⟨out, h1, h2, h3, h4⟩
    · rcases HA.out with ⟨g1, g2, g3⟩ | ⟨g1, _⟩ | ⟨g1, _⟩
      · exact ⟨e, by rw [g3, h2], by rw [hR, h1]; rfl, g2⟩
      · exact absurd (h2.symm.trans g1) (by omega)
      · exact absurd (h2.symm.trans g1) (by omega)
    · rcases HA.out with ⟨g1, _⟩ | ⟨_, _, _, g4⟩ | ⟨_, g2, g3, g4⟩
      · exact absurd h2 g1
      · exact absurd g4 h0
      · exact ⟨14, g4, by rw [hR, h1, dfin, if_neg g2], g3⟩)
  have FG : Hid (er7 = 0 → ∃ out, RR = (0, tk (unp D) 0 4 + 1, out, n7) ∧ Y = ((tk (unp D) 0 4 + 1 : Nat) : Int) ∧ w5.ownsRow w4.heap.size 3 1 (.slice A5 n5 c5) n5 (out.map iv)) := Lib.hid (fun h0 => by
    have hR := HRD.out
    rcases HC5.out with ⟨e, h1, h2, h3⟩ | ⟨out, h1, h2, h3, h4⟩
    · rcases HA.out with ⟨g1, g2, g3⟩ | ⟨g1, _⟩ | ⟨g1, _⟩
      · exact absurd (g3.symm.trans h0) g1
      · exact absurd (h2.symm.trans g1) (by omega)
      · exact absurd (h2.symm.trans g1) (by omega)
    · rcases HA.out with ⟨g1, _⟩ | ⟨_, g2, g3, _⟩ | ⟨_, _, _, g4⟩
      · exact absurd h2 g1
      · exact ⟨out, by rw [hR, h1, dfin, if_pos g2, g3], h3, h4⟩
      · exact absurd (g4.symm.trans h0) (by decide))
  have GG : Hid (∀ (S : Nat → Prop) w', (∀ j, S j → w.heap.size ≤ j) → Chg S w9 w' → w.grownBy w' (some c) ∧ Nm.Cur w' c A cap l (k + n7)) := Lib.hid (fun S w' hS hc => by
    have h1 := AP.out
    have g8 : w.grownBy w8 (some c) := Bt.grown_trans (Bt.grown_of_below B7.out (some c)) G8.out
    have g9 : w.grownBy w9 (some c) := grown_newer g8 L9.out.2 (fun j hj => by rcases hj with e | e <;> omega)
    have g10 := grown_newer g9 hc hS
    refine ⟨g10, ?_⟩
    have hcw := hcl.out
    have s8 := g8.size
    have s9 := L9.out.2.size
    have k9 : w9.heap[c]? = w8.heap[c]? := L9.out.2.block c (by omega) (by rintro (e | e) <;> omega)
    have k10 : w'.heap[c]? = w9.heap[c]? := hc.block c (by omega) (fun e => by have := hS c e; omega)
    exact ⟨(k10.trans k9).trans CU8.out.blk, H.out.rd.grown_cur H.out.blk g10, CU8.out.le, CU8.out.cap, CU8.out.small⟩)
  have k9 := L9.out.1.c1
  have i9 := T9.out.c0
  have i91 := T9.out.c1
  have f9 := T9.out.free 0
  clear HC5 HA HRD BY TB
  by_cases h0 : er7 = 0
  · subst h0
    have F := Lib.hid (FG.out rfl)
    clear FG FE
    have j9 := T99.out.c0
    have j91 := T99.out.c1
    have r10 := T9.out.set0 Y
    obtain ⟨w10, hw10⟩ : ∃ w10, w9.setCell ⟨w.heap.size, 0, none⟩ (.int .i64 Y) = w10 := ⟨_, rfl⟩
    rw [hw10] at r10
    have i10 := r10.c1
    have f10 := r10.free 1
    have r11 := r10.set1 A5 n5 c5
    obtain ⟨w11, hw11⟩ : ∃ w11, w10.setCell ⟨w.heap.size, 1, none⟩ (.slice A5 n5 c5) = w11 := ⟨_, rfl⟩
    rw [hw11] at r11
    have R11 := Lib.hid r11
    have HW := Lib.hid (And.intro hw10 hw11)
    clear r10 r11
    go_wp2
    refine bodyPost_ret (results_cell2 rfl rfl R11.out.load) rfl ?_
    have cc : Chg (fun j => j = w.heap.size) w9 w11 := by
      obtain ⟨h6, h7⟩ := HW.out
      rw [← h7, ← h6]
      exact ((Chg.refl (fun j => j = w.heap.size) w9).set ⟨w.heap.size, 0, none⟩ rfl _).set ⟨w.heap.size, 1, none⟩ rfl _
    have gg := GG.out _ w11 (fun j hj => by omega) cc
    obtain ⟨out, hRR, hY, ho⟩ := F.out
    refine ⟨A5, n5, c5, by rw [hRR, hY]; rfl, by rw [hRR]; exact gg.2, gg.1, ?_⟩
    rw [hRR]
    have hs4 := SZ4.out
    have hap := AP.out
    have hb9 := HB9.out
    have hcw := hcl.out
    have hgr : ∀ g, Value.ownBlock (.slice A5 n5 c5) = some g → w4.heap.size ≤ g := fun g hg => (ho.lt g hg).1
    have o7 := own_chg L7.out.2 (own_below ho B56.out) (fun g hg => by have := hgr g hg; have := D4.out.lt; have := D4.out.sp.lt; rintro (e | e) <;> omega)
    have o8 : w8.ownsRow w4.heap.size 3 1 (.slice A5 n5 c5) n5 (out.map iv) := own_same o7 (fun g hg => G8.out.block g (own_lt o7 hg) (by have := hgr g hg; simp; omega))
    have o9 := own_chg L9.out.2 o8 (fun g hg => by have := hgr g hg; have := D4.out.lt; have := D4.out.sp.lt; rintro (e | e) <;> omega)
    have o11 := own_chg cc o9 (fun g hg => by have := hgr g hg; omega)
    exact Bt.own_base (b := w.heap.size) o11 (by omega)
  · have hne : (er7 != 0) = true := by simpa using h0
    have r10 := T9.out.set0 0
    obtain ⟨w10, hw10⟩ : ∃ w10, w9.setCell ⟨w.heap.size, 0, none⟩ (.int .i64 0) = w10 := ⟨_, rfl⟩
    rw [hw10] at r10
    have i10 := r10.c1
    have f10 := r10.free 1
    have r11 := r10.set1 none 0 0
    obtain ⟨w11, hw11⟩ : ∃ w11, w10.setCell ⟨w.heap.size, 1, none⟩ (.slice none 0 0) = w11 := ⟨_, rfl⟩
    rw [hw11] at r11
    have R11 := Lib.hid r11
    have HW := Lib.hid (And.intro hw10 hw11)
    clear r10 r11
    have F := Lib.hid (FE.out h0)
    have CC : Hid (Chg (fun j => j = w.heap.size) w9 w11) := Lib.hid (by
      obtain ⟨h6, h7⟩ := HW.out
      rw [← h7, ← h6]
      exact ((Chg.refl (fun j => j = w.heap.size) w9).set ⟨w.heap.size, 0, none⟩ rfl _).set ⟨w.heap.size, 1, none⟩ rfl _)
    have k11 : w11.cell? ⟨r, 1, none⟩ = some (.int .i64 er7) := (World.cell?_of_block (a := ⟨r, 1, none⟩) (show w11.heap[r]? = w9.heap[r]? from CC.out.block r L9.out.1.lt (by have := AP.out; omega))).trans k9
    clear FG FE h0
    go_wp2
    go_region
    go_wp2
    all_goals refine bodyPost_ret (results_cell2 rfl rfl (show (loadVar 24 ⟨w.heap.size, 0, none⟩).run Try.prog w11.drew = .ok (tb 0 none 0 0) w11.drew from Tb.load R11.out)) rfl ?_
    all_goals (
      have gg := GG.out _ w11.drew (fun j hj => by omega) (CC.out.drew 1)
      obtain ⟨e, he, hRR, hn⟩ := F.out
      refine ⟨none, 0, 0, by rw [hRR, he]; rfl, ?_, gg.1, ?_⟩
      · rw [hRR]
        have := gg.2
        rw [hn] at this
        exact this
      · rw [hRR]; exact World.ownsRow_nil _ _ _ _)

end Go.Proofs.Ytpjbjbohbdlciaa
