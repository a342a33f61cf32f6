/-
  What the helper ask of the laws does: it makes one call on a cursor; its answer is that of the function askR. Condition: at most 2.8 * 10^14 bytes; the numbers are ints.
-/
import Derived.Test.YtnbohkiimbooaaaAid
import Derived.Test.YtnbohkiimbooaaaMRst
namespace Go.Proofs.Ytnbohkiimbooaaa
open Go.RowKit Go.Shelf

/-- The answer of a call on a cursor: the number, the bytes, the error, the offset behind it. -/
structure AskR where
  val : Nat
  bytes : List UInt8
  err : Nat
  off : Nat

/-- The error of a read of n bytes where m are left. -/
def cutN (n : Int) (m : Nat) : Nat := if n < 0 then 2 else if (m : Int) < n then 3 else 0
theorem cutN_eq (n : Int) (m : Nat) : cutE n m = (cutN n m : Int) := by
  unfold cutE cutN
  split
  · rfl
  · split <;> rfl

/-- The answer of a call of the kind q (with the number n) on a cursor over l, k bytes of which have been read. -/
def askR (l : List UInt8) (k : Nat) (q n : Int) : AskR :=
  if q = 1 then ⟨(headB (l.drop k)).1, [], (headB (l.drop k)).2, if (headB (l.drop k)).2 = 0 then k + 1 else k⟩
  else if q = 2 then ⟨(wordB (l.drop k)).1, [], (wordB (l.drop k)).2, if (wordB (l.drop k)).2 = 0 then k + 4 else k⟩
  else if q = 3 then ⟨(gv (l.drop k)).val, [], (gv (l.drop k)).err, if (gv (l.drop k)).err = 0 then k + (gv (l.drop k)).len else k⟩
  else if q = 4 then ⟨(numB (gv (l.drop k)) n).1, [], (numB (gv (l.drop k)) n).2, if (numB (gv (l.drop k)) n).2 = 0 then k + (gv (l.drop k)).len else k⟩
  else if q = 5 then ⟨0, if cutN n (l.length - k) = 0 then (l.drop k).take n.toNat else [], cutN n (l.length - k), if cutN n (l.length - k) = 0 then k + n.toNat else k⟩
  else ⟨0, [], if k < l.length then 4 else 0, k⟩

def AskPost (w : World) (c : Nat) (A : Option Addr) (cap : Nat) (l : List UInt8) (r : AskR) (e : Ending) (w' : World) : Prop :=
  ∃ A' c', e = .returned (.tuple #[.int .u64 (r.val : Int), .slice A' r.bytes.length c', .int .i64 (r.err : Int)]) ∧ Rd w' A' r.bytes ∧ Cur w' c A cap l r.off ∧ w.grownBy w' (some c)

theorem rn_off {err : Nat} {a b : Nat} : (if (err : Int) = 0 then a else b) = if err = 0 then a else b := by
  by_cases h : err = 0
  · rw [if_pos h, if_pos (by omega)]
  · rw [if_neg h, if_neg (by omega)]

section
variable {w : World} {c : Nat} {A : Option Addr} {cap : Nat} {l : List UInt8} {k : Nat}

set_option maxHeartbeats 400000 in
theorem ask_1 (h : Cur w c A cap l k) (n : Int) : Calls Try.prog 29 #[.pointer (some ⟨c, 0, none⟩), .agg #[.int .i64 1, .int .i64 n]] w (AskPost w c A cap l (askR l k 1 n)) := by
  obtain ⟨R, hR⟩ : ∃ R, askR l k 1 n = R := ⟨_, rfl⟩
  have HX := Lib.hid (byte_any (h.alloc (.cells #[.int .i64 1, .int .i64 n] 51)))
  have hb : (headB (l.drop k)).1 < 256 := by
    cases l.drop k with
    | nil => simp [headB]
    | cons b s => simp only [headB]; exact b.toNat_lt
  rw [hR]
  have HR := Lib.hid hR
  clear h hR
  generalize hq : headB (l.drop k) = r at *
  have HQ := Lib.hid hq
  clear hq
  go_enter Try.func29, Try.ntmps29
  go_wp2_with fail
  refine HX.out.mono ?_
  rintro e w1 ⟨rfl, hc, hg⟩
  rw [rn_off] at hc
  have HC := Lib.hid hc
  have HG := Lib.hid (grown_trans (World.grownBy_alloc w _ (some c)) hg)
  clear hc hg
  go_wp2
  go_ret3
  rw [← HR.out]
  simp only [askR, if_true, HQ.out]
  exact ⟨none, 0, rfl, Rd.nil _ _, HC.out, HG.out⟩

set_option maxHeartbeats 400000 in
theorem ask_2 (h : Cur w c A cap l k) (n : Int) : Calls Try.prog 29 #[.pointer (some ⟨c, 0, none⟩), .agg #[.int .i64 2, .int .i64 n]] w (AskPost w c A cap l (askR l k 2 n)) := by
  obtain ⟨R, hR⟩ : ∃ R, askR l k 2 n = R := ⟨_, rfl⟩
  have HX := Lib.hid (word_any (h.alloc (.cells #[.int .i64 2, .int .i64 n] 51)))
  have hb : (wordB (l.drop k)).1 < 4294967296 := by
    unfold wordB
    split
    · simp
    · have h1 := wv_lt ((l.drop k).take 4)
      have h2 : 256 ^ ((l.drop k).take 4).length ≤ 256 ^ 4 := Nat.pow_le_pow_right (by omega) (by simp; omega)
      have h3 : (256 : Nat) ^ 4 = 4294967296 := by decide
      simp only; omega
  rw [hR]
  have HR := Lib.hid hR
  clear h hR
  generalize hq : wordB (l.drop k) = r at *
  have HQ := Lib.hid hq
  clear hq
  go_enter Try.func29, Try.ntmps29
  go_wp2_with fail
  refine HX.out.mono ?_
  rintro e w1 ⟨rfl, hc, hg⟩
  rw [rn_off] at hc
  have HC := Lib.hid hc
  have HG := Lib.hid (grown_trans (World.grownBy_alloc w _ (some c)) hg)
  clear hc hg
  go_wp2
  go_ret3
  rw [← HR.out]
  simp only [askR, HQ.out, show ((2 : Int) = 1) = False by simp, if_false, if_true]
  exact ⟨none, 0, rfl, Rd.nil _ _, HC.out, HG.out⟩

set_option maxHeartbeats 400000 in
theorem ask_3 (h : Cur w c A cap l k) (n : Int) : Calls Try.prog 29 #[.pointer (some ⟨c, 0, none⟩), .agg #[.int .i64 3, .int .i64 n]] w (AskPost w c A cap l (askR l k 3 n)) := by
  obtain ⟨R, hR⟩ : ∃ R, askR l k 3 n = R := ⟨_, rfl⟩
  have HX := Lib.hid (varint_any (h.alloc (.cells #[.int .i64 3, .int .i64 n] 51)))
  rw [hR]
  have HR := Lib.hid hR
  clear h hR
  generalize hq : gv (l.drop k) = r at *
  have HQ := Lib.hid hq
  clear hq
  go_enter Try.func29, Try.ntmps29
  go_wp2_with fail
  refine HX.out.mono ?_
  rintro e w1 ⟨rfl, hc, hg⟩
  rw [rn_off] at hc
  have HC := Lib.hid hc
  have HG := Lib.hid (grown_trans (World.grownBy_alloc w _ (some c)) hg)
  clear hc hg
  go_wp2
  go_ret3
  rw [← HR.out]
  simp only [askR, HQ.out, show ((3 : Int) = 1) = False by simp, show ((3 : Int) = 2) = False by simp, if_false, if_true]
  exact ⟨none, 0, rfl, Rd.nil _ _, HC.out, HG.out⟩

set_option maxHeartbeats 400000 in
theorem ask_4 (h : Cur w c A cap l k) (n : Int) (hn : n ≤ 9223372036854775807) : Calls Try.prog 29 #[.pointer (some ⟨c, 0, none⟩), .agg #[.int .i64 4, .int .i64 n]] w (AskPost w c A cap l (askR l k 4 n)) := by
  obtain ⟨R, hR⟩ : ∃ R, askR l k 4 n = R := ⟨_, rfl⟩
  have HX := Lib.hid (number_any (h.alloc (.cells #[.int .i64 4, .int .i64 n] 51)) n hn)
  have hb : (numB (gv (l.drop k)) n).1 ≤ 4611686018427387903 := by
    have := gv_val_le (l.drop k)
    unfold numB
    split
    · split
      · simp
      · exact this
    · simp
  rw [hR]
  have HR := Lib.hid hR
  clear h hR
  generalize hq : gv (l.drop k) = r at *
  generalize hq2 : numB r n = r2 at *
  have HQ := Lib.hid hq
  have HQ2 := Lib.hid hq2
  clear hq hq2 hn
  go_enter Try.func29, Try.ntmps29
  go_wp2_with fail
  refine HX.out.mono ?_
  rintro e w1 ⟨rfl, hc, hg⟩
  rw [rn_off] at hc
  have HC := Lib.hid hc
  have HG := Lib.hid (grown_trans (World.grownBy_alloc w _ (some c)) hg)
  clear hc hg
  go_wp2
  go_ret3
  rw [← HR.out]
  simp only [askR, HQ.out, HQ2.out, show ((4 : Int) = 1) = False by simp, show ((4 : Int) = 2) = False by simp, show ((4 : Int) = 3) = False by simp, if_false, if_true]
  exact ⟨none, 0, rfl, Rd.nil _ _, HC.out, HG.out⟩

set_option maxHeartbeats 400000 in
theorem ask_5 (h : Cur w c A cap l k) (hs : l.length ≤ 281474976710000) (n : Int) : Calls Try.prog 29 #[.pointer (some ⟨c, 0, none⟩), .agg #[.int .i64 5, .int .i64 n]] w (AskPost w c A cap l (askR l k 5 n)) := by
  obtain ⟨R, hR⟩ : ∃ R, askR l k 5 n = R := ⟨_, rfl⟩
  have HX := Lib.hid (bytes_any (h.alloc (.cells #[.int .i64 5, .int .i64 n] 51)) hs n)
  rw [hR]
  have HR := Lib.hid hR
  clear h hR hs
  go_enter Try.func29, Try.ntmps29
  go_wp2_with fail
  refine HX.out.mono ?_
  rintro e w1 ⟨v, rfl, hc, hg, hbad, hok⟩
  rw [cutN_eq, rn_off] at hc
  rw [cutN_eq] at hbad hok ⊢
  have hg' := grown_trans (World.grownBy_alloc w _ (some c)) hg
  have fin : ∃ A' c', v = .slice A' R.bytes.length c' ∧ Rd w1 A' R.bytes ∧ R.val = 0 ∧ R.err = cutN n (l.length - k) ∧ Cur w1 c A cap l R.off := by
    rw [← HR.out]
    simp only [askR, show ((5 : Int) = 1) = False by simp, show ((5 : Int) = 2) = False by simp, show ((5 : Int) = 3) = False by simp, show ((5 : Int) = 4) = False by simp, if_false, if_true]
    by_cases h0 : cutN n (l.length - k) = 0
    · obtain ⟨A', c', hv, ho⟩ := hok (by rw [h0]; rfl)
      rw [if_pos h0] at hc
      rw [if_pos h0, if_pos h0]
      exact ⟨A', c', hv, Rd.of_own ho, trivial, trivial, hc⟩
    · rw [if_neg h0] at hc
      rw [if_neg h0, if_neg h0]
      exact ⟨none, 0, hbad (by omega), Rd.nil _ _, trivial, trivial, hc⟩
  obtain ⟨A', c', rfl, h1, h2, h3, h4⟩ := fin
  have H := Lib.hid (And.intro h1 (And.intro h2 (And.intro h3 (And.intro h4 hg'))))
  clear h1 h2 h3 h4 hg hg' hc hbad hok
  generalize cutN n (l.length - k) = ce at *
  go_wp2
  go_ret3
  obtain ⟨h1, h2, h3, h4, h5⟩ := H.out
  refine ⟨A', c', ?_, h1, h4, h5⟩
  rw [h2, h3]
  rfl

set_option maxHeartbeats 400000 in
theorem ask_0 (h : Cur w c A cap l k) (q n : Int) (h1 : (q == 1) = false) (h2 : (q == 2) = false) (h3 : (q == 3) = false) (h4 : (q == 4) = false) (h5 : (q == 5) = false) : Calls Try.prog 29 #[.pointer (some ⟨c, 0, none⟩), .agg #[.int .i64 q, .int .i64 n]] w (AskPost w c A cap l (askR l k q n)) := by
  obtain ⟨R, hR⟩ : ∃ R, askR l k q n = R := ⟨_, rfl⟩
  have HX := Lib.hid (end_any (h.alloc (.cells #[.int .i64 q, .int .i64 n] 51)))
  have HC := Lib.hid (h.alloc (.cells #[.int .i64 q, .int .i64 n] 51))
  rw [hR]
  have e : R = ⟨0, [], if k < l.length then 4 else 0, k⟩ := by
    rw [← hR, askR, if_neg (beq_eq_false_iff_ne.1 h1), if_neg (beq_eq_false_iff_ne.1 h2), if_neg (beq_eq_false_iff_ne.1 h3), if_neg (beq_eq_false_iff_ne.1 h4), if_neg (beq_eq_false_iff_ne.1 h5)]
  have HE := Lib.hid e
  have ev : (if k < l.length then (4 : Int) else 0) = ((if k < l.length then 4 else 0 : Nat) : Int) := by split <;> rfl
  rw [ev] at HX
  clear h hR e ev
  generalize (if k < l.length then 4 else 0 : Nat) = z at *
  go_enter Try.func29, Try.ntmps29
  go_wp2_with fail
  refine HX.out.mono ?_
  rintro e w1 ⟨rfl, d, rfl⟩
  go_wp2
  go_ret3
  rw [HE.out]
  exact ⟨none, 0, rfl, Rd.nil _ _, HC.out.drewN d, grown_drewN (World.grownBy_alloc w _ (some c)) d⟩

theorem ask_any (h : Cur w c A cap l k) (hs : l.length ≤ 281474976710000) (q n : Int) (hn : n ≤ 9223372036854775807) :
    Calls Try.prog 29 #[.pointer (some ⟨c, 0, none⟩), .agg #[.int .i64 q, .int .i64 n]] w (AskPost w c A cap l (askR l k q n)) := by
  by_cases h1 : q = 1
  · subst h1; exact ask_1 h n
  by_cases h2 : q = 2
  · subst h2; exact ask_2 h n
  by_cases h3 : q = 3
  · subst h3; exact ask_3 h n
  by_cases h4 : q = 4
  · subst h4; exact ask_4 h n hn
  by_cases h5 : q = 5
  · subst h5; exact ask_5 h hs n
  exact ask_0 h q n (beq_eq_false_iff_ne.2 h1) (beq_eq_false_iff_ne.2 h2) (beq_eq_false_iff_ne.2 h3) (beq_eq_false_iff_ne.2 h4) (beq_eq_false_iff_ne.2 h5)

end

end Go.Proofs.Ytnbohkiimbooaaa
