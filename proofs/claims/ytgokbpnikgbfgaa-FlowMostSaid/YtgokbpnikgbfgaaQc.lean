/-
  What the reference's helpers do: Same, May, Bits. Conditions: the numbers are of their kinds.
  What the reference's Bits, Row and Value do. Conditions: the numbers are of their kinds; at most 200 bytes (Row) and 64 bits (Value).
  What the reference's readers do: Forward, First, Last. Conditions: at most 200 bytes.
  What the reference's Backward and Peek do. Conditions: at most 200 bytes.
  What the reference's Bytes, Close and SameBits do. Condition: at most 20000 bits.
  What the reference's Close and SameBits do; a Writer that a call has made. Conditions: at most 19000 bits (Close).
-/
import Derived.Test.YtgokbpnikgbfgaaQa
import Derived.Laws.IdiomStrings
import Derived.Test.YtgokbpnikgbfgaaQb
import Derived.Deep.DeepCutAuto
import Derived.Deep.Cut
namespace Go.Proofs.Ytgokbpnikgbfgaa.Bt
open Go.RowKit

theorem conv_bytes (w : World) (A : Option Addr) (l : List UInt8) (c : Nat) (h : Rd w A l) : (convert 25 9 (.slice A l.length c)).run Try.prog w = .ok (.string ⟨l.toArray⟩) w := by
  cases A with
  | none =>
    have hl : l = [] := by
      rcases l with _ | ⟨b, l⟩
      · rfl
      · obtain ⟨ad, e, _⟩ := h 0 (byt b) rfl
        cases e
    subst hl
    rw [run_convert_bytes_string w _ _ 5 _ _ _ Try.underlying25 Try.underlying5 Try.underlying9]
    simp [Conv.bytesToString]
    rfl
  | some ad =>
    refine run_convert_bytes_back w 25 9 5 ad c l Try.underlying25 Try.underlying5 Try.underlying9 (fun j hj => ?_)
    obtain ⟨ad', e, hc⟩ := h j (byt l[j]) (by rw [List.getElem?_map, List.getElem?_eq_getElem hj]; rfl)
    cases e
    exact hc

def sameB (l m : List UInt8) : Bool := decide (l = m)

set_option maxHeartbeats 400000 in
theorem same_any (w : World) (A B : Option Addr) (l m : List UInt8) (c d : Nat) (hA : Rd w A l) (hB : Rd w B m) :
    Calls Try.prog 20 #[.slice A l.length c, .slice B m.length d] w fun e w' => e = .returned (.bool (sameB l m)) ∧ w = w' := by
  have h1 := conv_bytes w A l c hA
  have h2 := conv_bytes w B m d hB
  obtain ⟨s, hs⟩ : ∃ s : ByteArray, ⟨l.toArray⟩ = s := ⟨_, rfl⟩
  obtain ⟨t, ht⟩ : ∃ s : ByteArray, ⟨m.toArray⟩ = s := ⟨_, rfl⟩
  rw [hs] at h1
  rw [ht] at h2
  have HS := Lib.hid hs
  have HT := Lib.hid ht
  obtain ⟨n1, hn1⟩ : ∃ n, l.length = n := ⟨_, rfl⟩
  obtain ⟨n2, hn2⟩ : ∃ n, m.length = n := ⟨_, rfl⟩
  rw [hn1] at h1 ⊢
  rw [hn2] at h2 ⊢
  clear hs ht hn1 hn2 hA hB
  go_enter Try.func20, Try.ntmps20
  go_wp2
  go_ret
  refine ⟨?_, rfl⟩
  have e : (s.toList == t.toList) = sameB l m := by
    rw [ByteArray.toList_eq, ByteArray.toList_eq, ← HS.out, ← HT.out]
    simp only [sameB]
    by_cases h : l = m <;> simp [h]
  simp only [Array.getD, List.size_toArray, List.length_cons, List.length_nil]
  simpa using e

theorem same_b (w : World) (A B : Option Addr) (l m : List UInt8) (n n' : Nat) (hn : l.length = n) (hn' : m.length = n') (c d : Nat) (hA : Rd w A l) (hB : Rd w B m) (r : Bool) (h : sameB l m = r) :
    Calls Try.prog 20 #[.slice A n c, .slice B n' d] w fun e w' => e = .returned (.bool r) ∧ w = w' := by
  subst hn hn' h
  exact same_any w A B l m c d hA hB
theorem same_n (w : World) (A B : Option Addr) (l m : List UInt8) (n n' : Nat) (hn : l.length = n) (hn' : m.length = n') (c d : Nat) (hA : Rd w A l) (hB : Rd w B m) (h : l = m) :
    Calls Try.prog 20 #[.slice A n c, .slice B n' d] w fun e w' => e = .returned (.bool true) ∧ w = w' :=
  same_b w A B l m n n' hn hn' c d hA hB true (by simp [sameB, h])

/-- A slice in new memory that holds the bits l. -/
def GotB (w : World) (l : List Bool) (e : Ending) (w' : World) : Prop :=
  ∃ A c, e = .returned (.slice A l.length c) ∧ w'.ownsRow w.heap.size 4 1 (.slice A l.length c) l.length (l.map Value.bool) ∧ Below w.heap.size w w'

set_option maxRecDepth 100000 in
set_option maxHeartbeats 1000000 in
theorem bits_any (w : World) (q n : Nat) (hq : q < 18446744073709551616) (hn : n ≤ 64) : Calls Try.prog 58 #[.int .u64 (q : Int), .int .i64 (n : Int)] w (GotB w (bitsOf q n)) := by
  have H0 : Hid (q = q / 2 ^ 0) := Lib.hid (by simp)
  go_enter Try.func58, Try.ntmps58
  go_wp2_with fail
  go_loopw [0, 5, 6] (fun a o b wr => (∃ (i z c : Nat) (A : Option Addr), i ≤ n ∧ a = .int .u64 (z : Int) ∧ o = .slice A i c ∧ b = .int .i64 (i : Int) ∧ z < 18446744073709551616 ∧ Hid (z = q / 2 ^ i) ∧ Hid (wr.ownsRow w.heap.size 4 1 (.slice A i c) i ((bitsOf q i).map Value.bool)) ∧ Hid (Below w.heap.size w wr))) (fun _ _ b _ => n - (intOf b).toNat)
  case atStart => exact ⟨0, q, 0, none, by omega, rfl, rfl, rfl, hq, H0, Lib.hid (World.ownsRow_nil _ _ _ _), Lib.hid (Below.refl _ _)⟩
  case round =>
    obtain ⟨i, z, c, A, hi, rfl, rfl, rfl, hz, HZ, HO, HB⟩ := hrel
    by_cases hlt : i < n
    · have OA := Lib.hid (own_below HO.out ((Below.refl _ _).alloc (Nat.le_refl _) (.cells #[.bool ((z : Int) % 2 == 1)] 4)))
      have BA := Lib.hid (HB.out.alloc HB.out.size (.cells #[.bool ((z : Int) % 2 == 1)] 4))
      go_wp2_with (at_builtin; refine wpList_append_vals Try.underlying41 bool_info rfl rfl _ _ rfl w.heap.size (.slice A i c) i _ rfl OA.out (some ⟨wr.heap.size, 0, none⟩) [.bool ((z : Int) % 2 == 1)] (by simp [Value.oneCell']) 1 1 rfl rfl (rv_one _ _ _) (by omega) BA.out.size ?_; intro v1 w1 ho1 hg1 _; obtain ⟨A1, c1, rfl, _⟩ := own_form ho1; have HB1 := Lib.hid (BA.out.grown hg1 BA.out.size (fun j ej => (OA.out.lt j ej).1)); have O1 := Lib.hid ho1; clear ho1 hg1)
      refine ⟨⟨i + 1, z / 2, c1, A1, by omega, by simp, rfl, by simp, by omega, Lib.hid ?_, Lib.hid ?_, HB1⟩, by simp [intOf]; omega⟩
      · rw [HZ.out, Nat.pow_succ, Nat.div_div_eq_div_mul]
      · have h1 := O1.out
        rw [bitsOf_succ, List.map_append, ← HZ.out]
        rw [show ((z : Int) % 2 == 1) = decide (z % 2 = 1) by by_cases h : z % 2 = 1 <;> simp [h] <;> omega] at h1
        exact h1
    · have hie : i = n := by omega
      subst hie
      clear hlt hi
      go_wp2
      go_ret
      exact ⟨A, c, by simp [bitsOf_len], by rw [bitsOf_len]; exact HO.out, HB.out⟩

end Go.Proofs.Ytgokbpnikgbfgaa.Bt

namespace Go.Proofs.Ytgokbpnikgbfgaa.Bt
open Go.RowKit

theorem GotB.on {w a w' : World} {l : List Bool} {e : Ending} (h : GotB a l e w') (hb : Below w.heap.size w a) : GotB w l e w' := by
  obtain ⟨A, c, rfl, ho, hb2⟩ := h
  exact ⟨A, c, rfl, own_base ho hb.size, below_on hb (Nat.le_refl _) hb2⟩

theorem bits8 (w : World) (q : Nat) (hq : q < 256) : Calls Try.prog 58 #[.int .u64 (q : Int), .int .i64 8] w fun e w' => ∃ A c, e = .returned (.slice A 8 c) ∧ w'.ownsRow w.heap.size 4 1 (.slice A 8 c) 8 ((bitsOf q 8).map Value.bool) ∧ Below w.heap.size w w' := by
  refine (bits_any w q 8 (by omega) (by decide)).mono ?_
  rintro e w' ⟨A, c, rfl, ho, hb⟩
  rw [bitsOf_len] at ho
  exact ⟨A, c, by rw [bitsOf_len], ho, hb⟩

theorem unp_take {D : List UInt8} {i : Nat} {b : UInt8} (h : D[i]? = some b) : unp (D.take (i + 1)) = unp (D.take i) ++ bitsOf b.toNat 8 := by
  obtain ⟨hi, e⟩ := List.getElem?_eq_some_iff.1 h
  rw [List.take_succ_eq_append_getElem hi, unp_app, e, unp, unp, List.append_nil]

set_option maxRecDepth 100000 in
set_option maxHeartbeats 4000000 in
theorem row_any (w : World) (A : Option Addr) (D : List UInt8) (N cap : Nat) (hN : D.length = N) (hs : N ≤ 500) (hR : Rd w A D) :
    Calls Try.prog 39 #[.slice A N cap] w (GotB w (unp D)) := by
  have HN := Lib.hid hN
  have HR := Lib.hid hR
  clear hN hR
  go_enter Try.func39, Try.ntmps39
  go_wp2_with fail
  go_loopw [3, 4] (fun o b wr => (∃ (i m c : Nat) (B : Option Addr), i ≤ N ∧ o = .slice B m c ∧ b = .int .i64 (i : Int) ∧ m = 8 * i ∧ Hid (wr.ownsRow w.heap.size 4 1 (.slice B m c) m ((unp (D.take i)).map Value.bool)) ∧ Hid (Below w.heap.size w wr))) (fun _ b _ => N - (intOf b).toNat)
  case atStart => exact ⟨0, 0, 0, none, by omega, rfl, rfl, rfl, Lib.hid (World.ownsRow_nil _ _ _ _), Lib.hid (Below.refl _ _)⟩
  case round =>
    obtain ⟨i, m, c, B, hi, rfl, rfl, hm, HO, HB⟩ := hrel
    by_cases hlt : i < N
    · obtain ⟨b, hb⟩ : ∃ b, D[i]? = some b := ⟨_, List.getElem?_eq_getElem (by rw [HN.out]; exact hlt)⟩
      obtain ⟨ad, hA, hc⟩ := (HR.out.below HB.out) i (byt b) (by rw [List.getElem?_map, hb]; rfl)
      subst hA
      have HU := Lib.hid (unp_take hb)
      have BT := Lib.hid (fun W => bits8 W b.toNat b.toNat_lt)
      have hb8 := b.toNat_lt
      simp only [byt] at hc
      obtain ⟨y, hy⟩ : ∃ y, b.toNat = y := ⟨_, rfl⟩
      rw [hy] at HU hc hb8
      simp only [hy] at BT
      clear hy hb
      have hms : m ≤ 4000 := by omega
      have HM := Lib.hid hm
      clear hm
      go_wp2_with (first
        | (at_builtin; refine wpList_append_vals Try.underlying41 bool_info rfl rfl _ _ rfl w.heap.size (.slice B m c) m _ rfl O4.out A4 ((bitsOf y 8).map Value.bool) (bool_one _) 8 c4 (by rw [List.length_map, bitsOf_len]) rfl R4.out (by omega) B4.out.size ?_; intro v5 w5 ho5 hg5 _; obtain ⟨A5, c5, rfl, _⟩ := own_form ho5; have B5 := Lib.hid (B4.out.grown hg5 B4.out.size (fun j ej => (O4.out.lt j ej).1)); have O5 := Lib.hid ho5; clear ho5 hg5)
        | (go_at_call 58; refine (BT.out _).mono ?_; rintro e w4 ⟨A4, c4, rfl, ho4, hb4⟩; have R4 := Lib.hid (Rv.of_own ho4); have O4 := Lib.hid (own_below HO.out hb4); have B4 := Lib.hid (below_on HB.out (Nat.le_refl _) hb4); clear ho4 hb4))
      exact ⟨⟨i + 1, m + 8, c5, A5, by omega, rfl, by simp, by have := HM.out; omega, Lib.hid (by rw [HU.out, List.map_append]; exact O5.out), B5⟩, by simp [intOf]; omega⟩
    · have hie : N = i := by omega
      subst hie
      have e : D.take N = D := List.take_of_length_le (by rw [HN.out]; exact Nat.le_refl _)
      rw [e] at HO
      have hl : (unp D).length = m := by rw [unp_len, HN.out]; omega
      have HLn := Lib.hid hl
      clear hlt hi e hm hl
      go_wp2
      go_ret
      exact ⟨B, c, by rw [HLn.out]; rfl, by rw [HLn.out]; exact HO.out, HB.out⟩

theorem val_drop {l : List Bool} {i : Nat} {b : Bool} (h : l[i]? = some b) : val (l.drop i) = (if b then 1 else 0) + 2 * val (l.drop (i + 1)) := by
  obtain ⟨hi, e⟩ := List.getElem?_eq_some_iff.1 h
  rw [List.drop_eq_getElem_cons hi, val, e]

set_option maxRecDepth 100000 in
set_option maxHeartbeats 4000000 in
theorem rvalue_any (w : World) (A : Option Addr) (l : List Bool) (N cap : Nat) (hN : l.length = N) (hs : N ≤ 64) (hR : Rb w A l) :
    Calls Try.prog 48 #[.slice A N cap] w fun e w' => e = .returned (.int .u64 (val l : Int)) ∧ w = w' := by
  have HN := Lib.hid hN
  have HR := Lib.hid hR
  obtain ⟨R, hRR⟩ : ∃ R, val l = R := ⟨_, rfl⟩
  rw [hRR]
  have HRR := Lib.hid hRR
  clear hN hR hRR
  go_enter Try.func48, Try.ntmps48
  go_wp2_with fail
  go_loopw [3, 4] (fun a b wr => (∃ (j v : Nat), j ≤ N ∧ a = .int .u64 (v : Int) ∧ b = .int .i64 ((j : Int) - 1) ∧ Hid (val (l.drop j) = v)) ∧ w = wr) (fun _ b _ => (intOf b + 1).toNat)
  case atStart => exact ⟨⟨N, 0, by omega, rfl, rfl, Lib.hid (by rw [List.drop_of_length_le (by rw [HN.out]; exact Nat.le_refl _)]; rfl)⟩, rfl⟩
  case round =>
    obtain ⟨⟨j, v, hj, rfl, rfl, HV⟩, hw⟩ := hrel
    subst hw
    by_cases h0 : j = 0
    · subst h0
      have hv : v = R := by rw [← HV.out, ← HRR.out]; rfl
      subst hv
      go_wp2
      go_ret
      exact ⟨rfl, rfl⟩
    · obtain ⟨i, hij⟩ : ∃ i, j = i + 1 := ⟨j - 1, by omega⟩
      have hji : (j : Int) - 1 = (i : Int) := by omega
      have hlt : i < N := by omega
      obtain ⟨b, hb⟩ : ∃ b, l[i]? = some b := ⟨_, List.getElem?_eq_getElem (by rw [HN.out]; exact hlt)⟩
      obtain ⟨ad, hA, hc⟩ := HR.out i (.bool b) (by rw [List.getElem?_map, hb]; rfl)
      subst hA
      have hvd := val_drop hb
      rw [← hij, HV.out] at hvd
      have hv63 : v < 9223372036854775808 := by
        have h1 := val_lt (l.drop j)
        rw [HV.out, List.length_drop, HN.out] at h1
        have h2 : 2 ^ (N - j) ≤ 2 ^ 63 := Nat.pow_le_pow_right (by decide) (by omega)
        omega
      have HVD := Lib.hid hvd
      rw [hji]
      clear hb hvd
      cases b
      · go_wp2_with fail
        exact ⟨⟨⟨i, 2 * v, by omega, by simp, by simp, Lib.hid (by rw [HVD.out]; simp)⟩, by trivial⟩, by simp [intOf] <;> omega⟩
      · go_wp2_with fail
        exact ⟨⟨⟨i, 2 * v + 1, by omega, by simp, by simp, Lib.hid (by rw [HVD.out]; simp; omega)⟩, by trivial⟩, by simp [intOf] <;> omega⟩

end Go.Proofs.Ytgokbpnikgbfgaa.Bt

namespace Go.Proofs.Ytgokbpnikgbfgaa.Bt
open Go.RowKit

/-- The block of a reference's reader: the unread bits l, and how many were read. -/
structure Rf (w : World) (y g : Nat) (A : Option Addr) (c : Nat) (l : List Bool) (n : Nat) : Prop where
  blk : w.heap[y]? = some (.cells #[.slice A l.length c, .int .i64 (n : Int)] 43 (0, 0))
  rd : Rb w A l
  cap : l.length ≤ c
  ne : ∀ ad, A = some ad → ad.block = g ∧ g ≠ y ∧ g < w.heap.size

section
variable {w w' : World} {y g : Nat} {A : Option Addr} {c : Nat} {l : List Bool} {n : Nat}
theorem Rf.lt (h : Rf w y g A c l n) : y < w.heap.size := (Array.getElem?_eq_some_iff.1 h.blk).1
theorem Rf.cell0 (h : Rf w y g A c l n) : w.cell? ⟨y, 0, none⟩ = some (.slice A l.length c) := by rw [cell_of_row w y 0 _ _ _ h.blk]; rfl
theorem Rf.cell1 (h : Rf w y g A c l n) : w.cell? ⟨y, 1, none⟩ = some (.int .i64 (n : Int)) := by rw [cell_of_row w y 1 _ _ _ h.blk]; rfl
theorem Rf.free (h : Rf w y g A c l n) (i : Nat) : w.frozen? ⟨y, i, none⟩ = false := by simp [World.frozen?, h.blk]
theorem Rf.same (h : Rf w y g A c l n) (hs : w.heap.size ≤ w'.heap.size) (hb : w'.heap[y]? = w.heap[y]?) (hr : ∀ ad, A = some ad → w'.heap[g]? = w.heap[g]?) : Rf w' y g A c l n :=
  ⟨hb.trans h.blk, h.rd.same (fun ad e => by rw [(h.ne ad e).1]; exact hr ad e), h.cap, fun ad e => ⟨(h.ne ad e).1, (h.ne ad e).2.1, Nat.lt_of_lt_of_le (h.ne ad e).2.2 hs⟩⟩
theorem Rf.below (h : Rf w y g A c l n) (hb : Below w.heap.size w w') : Rf w' y g A c l n :=
  h.same hb.size (hb.block _ h.lt) fun ad e => hb.block _ (h.ne ad e).2.2
theorem Rf.drewN (h : Rf w y g A c l n) (d : Nat) : Rf (w.drewN d) y g A c l n := ⟨h.blk, h.rd, h.cap, h.ne⟩
/-- The reader's two words are stored anew. -/
theorem Rf.set (h : Rf w y g A c l n) (A' : Option Addr) (c' : Nat) (l' : List Bool) (n' : Nat) (m : Nat) (z : Int) (hm : l'.length = m) (hz : z = (n' : Int)) (hrd : Rb w A' l') (hc : l'.length ≤ c') (hA : ∀ ad, A' = some ad → ∃ ad0, A = some ad0 ∧ ad.block = ad0.block) :
    Rf ((w.setCell ⟨y, 0, none⟩ (.slice A' m c')).setCell ⟨y, 1, none⟩ (.int .i64 z)) y g A' c' l' n' ∧ w.grownBy ((w.setCell ⟨y, 0, none⟩ (.slice A' m c')).setCell ⟨y, 1, none⟩ (.int .i64 z)) (some y) := by
  subst hm hz
  have hg : w.grownBy ((w.setCell ⟨y, 0, none⟩ (.slice A' l'.length c')).setCell ⟨y, 1, none⟩ (.int .i64 (n' : Int))) (some y) := grown_trans (grown_setCell _ _ _ _) (grown_setCell _ _ _ _)
  have hne : ∀ ad, A' = some ad → ad.block = g ∧ g ≠ y ∧ g < w.heap.size := by
    intro ad e
    obtain ⟨ad0, e0, hb⟩ := hA ad e
    have := h.ne ad0 e0
    exact ⟨hb.trans this.1, this.2⟩
  refine ⟨⟨?_, hrd.same (fun ad e => hg.block _ (by rw [(hne ad e).1]; exact (hne ad e).2.2) (by rw [(hne ad e).1]; simpa using (hne ad e).2.1)), hc, fun ad e => ⟨(hne ad e).1, (hne ad e).2.1, Nat.lt_of_lt_of_le (hne ad e).2.2 hg.size⟩⟩, hg⟩
  simp [World.setCell, Array.getElem?_modify, h.blk]
end

/-- A reference's reader that a call has made; w0's memory is unchanged. -/
def Rq (w0 w : World) (y g : Nat) (l : List Bool) (n : Nat) : Prop := (∃ A c, Rf w y g A c l n) ∧ Below w0.heap.size w0 w ∧ w0.heap.size ≤ y

theorem elem_bool : Try.prog.elem 41 = 4 := by kernel_rfl
theorem und_bool : Try.prog.underlying 41 = some (.slice (Try.prog.elem 41)) := by rw [elem_bool]; exact Try.underlying41
theorem size_bool (w : World) : (sizeOf 4).run Try.prog w = .ok 1 w := by
  obtain ⟨i0, hi, hz0, hz1, hz2⟩ := info_parts bool_info
  simp [sizeOf, typeInfo, hi, hz1]

/-- Where the rest of a slice begins. -/
def off (A : Option Addr) (c n : Nat) : Option Addr := if c = n then A else A.map (·.add n)
theorem off_rb {w : World} {A : Option Addr} {l : List Bool} {c n : Nat} (h : Rb w A l) (hc : l.length ≤ c) : Rb w (off A c n) (l.drop n) := by
  unfold off
  by_cases hcn : c = n
  · rw [if_pos hcn, List.drop_of_length_le (by omega)]
    exact Rv.nil _ _
  · rw [if_neg hcn]
    have := Rv.cut h n l.length
    rw [List.take_of_length_le (by simp)] at this
    rw [← List.map_drop] at this
    exact this
theorem off_block {A : Option Addr} {c n : Nat} : ∀ ad, off A c n = some ad → ∃ ad0, A = some ad0 ∧ ad.block = ad0.block := by
  intro ad e
  unfold off at e
  split at e
  · exact ⟨ad, e, rfl⟩
  · cases A with
    | none => cases e
    | some a0 =>
      simp at e
      exact ⟨a0, rfl, by rw [← e, addr_add_block]⟩

theorem slice_hi (A : Option Addr) (N c n : Nat) (h : n ≤ c) (W : World) : (Instr.slice 41 (.slice A N c) none (some (.int .i64 (n : Int))) none).run Try.prog W = .ok (.slice A n c) W := by
  rw [run_slice_h _ _ _ _ _ und_bool _ _ (by omega) (by omega), elem_bool, size_bool]
  simp [Result.andThen, sliced]
  intro _
  cases A with
  | none => rfl
  | some a => simp [Addr.add]
theorem slice_lo (A : Option Addr) (N c n : Nat) (h : n ≤ N) (W : World) : (Instr.slice 41 (.slice A N c) (some (.int .i64 (n : Int))) none none).run Try.prog W = .ok (.slice (off A c n) (N - n) (c - n)) W := by
  rw [run_slice_l _ _ _ _ _ und_bool _ _ (by omega) (by omega), elem_bool, size_bool]
  simp [Result.andThen, sliced, off]

set_option maxHeartbeats 1000000 in
theorem last_err {w : World} {y g : Nat} {A : Option Addr} {c : Nat} {l : List Bool} {k : Nat} (h : Rf w y g A c l k) (n : Int) (r : Int) (hr : chk n l.length 14 = r) (hr0 : r ≠ 0) :
    Calls Try.prog 29 #[.pointer (some ⟨y, 0, none⟩), .int .i64 n] w fun e w' => e = .returned (.tuple #[.int .u64 0, .int .i64 r]) ∧ w = w' := by
  have c0 := h.cell0
  obtain ⟨N, hN⟩ : ∃ N, l.length = N := ⟨_, rfl⟩
  rw [hN] at c0 hr
  clear h hN
  by_cases h1 : n < 0
  · obtain rfl : r = 2 := by rw [← hr]; simp [chk, h1]
    have hd : decide (n < 0) = true := decide_eq_true h1
    clear hr
    go_enter Try.func29, Try.ntmps29
    go_wp2
    go_ret2
    exact ⟨rfl, rfl⟩
  · have hd : decide (n < 0) = false := decide_eq_false h1
    by_cases h2 : 64 < n
    · obtain rfl : r = 2 := by rw [← hr]; simp [chk, h2]
      have hd2 : decide (64 < n) = true := decide_eq_true h2
      clear hr
      go_enter Try.func29, Try.ntmps29
      go_wp2
      go_ret2
      exact ⟨rfl, rfl⟩
    · have hd2 : decide (64 < n) = false := decide_eq_false h2
      have h3 : (N : Int) < n := by
        rcases Int.lt_or_le (N : Int) n with h | h
        · exact h
        · exfalso
          apply hr0
          rw [← hr, chk, if_neg (by omega), if_neg (by omega)]
      obtain rfl : r = 14 := by rw [← hr, chk, if_neg (by omega), if_pos h3]
      have hd3 : decide ((N : Int) < n) = true := decide_eq_true h3
      clear hr
      go_enter Try.func29, Try.ntmps29
      go_wp2
      go_ret2
      exact ⟨rfl, rfl⟩

/-- Bits have been read: the value V; what is left. -/
def RTook (w : World) (y g : Nat) (V : Nat) (l : List Bool) (k : Nat) (r : Ending) (w' : World) : Prop :=
  r = .returned (.tuple #[.int .u64 (V : Int), .int .i64 0]) ∧ (∃ A c, Rf w' y g A c l k) ∧ w.grownBy w' (some y)

theorem lcell_set {w : World} {y g : Nat} {A : Option Addr} {c : Nat} {l : List Bool} {k : Nat} (h : Rf w y g A c l k) (v : Value) : (w.setCell ⟨y, 0, none⟩ v).cell? ⟨y, 1, none⟩ = some (.int .i64 (k : Int)) ∧ (w.setCell ⟨y, 0, none⟩ v).frozen? ⟨y, 1, none⟩ = false := by
  refine ⟨?_, ?_⟩
  · simp [World.cell?, World.setCell, Array.getElem?_modify, h.blk]
  · simp [World.frozen?, World.setCell, Array.getElem?_modify, h.blk]

theorem Rf.set' {w : World} {y g : Nat} {A : Option Addr} {c : Nat} {l : List Bool} {k : Nat} (h : Rf w y g A c l k) (d : Nat) (A' : Option Addr) (c' : Nat) (l' : List Bool) (n' : Nat) (m : Nat) (z : Int) (hm : l'.length = m) (hz : z = (n' : Int)) (hrd : Rb w A' l') (hc : l'.length ≤ c') (hA : ∀ ad, A' = some ad → ∃ ad0, A = some ad0 ∧ ad.block = ad0.block) :
    Rf (((w.drewN d).setCell ⟨y, 0, none⟩ (.slice A' m c')).setCell ⟨y, 1, none⟩ (.int .i64 z)) y g A' c' l' n' ∧ w.grownBy (((w.drewN d).setCell ⟨y, 0, none⟩ (.slice A' m c')).setCell ⟨y, 1, none⟩ (.int .i64 z)) (some y) := by
  have := h.set A' c' l' n' m z hm hz hrd hc hA
  exact ⟨⟨this.1.blk, this.1.rd, this.1.cap, this.1.ne⟩, ⟨this.2.os, this.2.tape, this.2.output, this.2.size, this.2.block⟩⟩

set_option maxRecDepth 100000 in
set_option maxHeartbeats 2000000 in
theorem last_ok {w : World} {y g : Nat} {A : Option Addr} {c : Nat} {l : List Bool} {k : Nat} (h : Rf w y g A c l k) (hk : k ≤ 8796093022208) (hls : l.length ≤ 8796093022208) (n : Nat) (hn : n ≤ 64) (hl : n ≤ l.length) :
    Calls Try.prog 29 #[.pointer (some ⟨y, 0, none⟩), .int .i64 (n : Int)] w (RTook w y g (val (l.drop (l.length - n))) (l.take (l.length - n)) (k + n)) := by
  have c0 := h.cell0
  have c1 := h.cell1
  have f0 := h.free 0
  have f1 := h.free 1
  have H := Lib.hid h
  have hcap := h.cap
  obtain ⟨N, hN⟩ : ∃ N, l.length = N := ⟨_, rfl⟩
  rw [hN] at c0 hl hcap hls ⊢
  have HN := Lib.hid hN
  obtain ⟨f, hf⟩ : ∃ f, N - n = f := ⟨_, rfl⟩
  rw [hf]
  have s1 := fun W => slice_hi A N c f (by omega) W
  have s2 := fun W => slice_lo A N c f (by omega) W
  rw [show N - f = n by omega] at s2
  obtain ⟨B, hB⟩ : ∃ B, off A c f = B := ⟨_, rfl⟩
  simp only [hB] at s2
  have RB : Hid (Rb w B (l.drop f)) := Lib.hid (by rw [← hB]; exact off_rb h.rd h.cap)
  have VL := Lib.hid (fun (d cc : Nat) => rvalue_any (w.drewN d) B (l.drop f) n cc (by rw [List.length_drop, hN]; omega) hn RB.out)
  obtain ⟨V, hV⟩ : ∃ V, val (l.drop f) = V := ⟨_, rfl⟩
  simp only [hV] at VL
  rw [hV]
  have HT : Hid ((l.take f).length = f ∧ Rb w A (l.take f) ∧ f ≤ c) := Lib.hid ⟨by rw [List.length_take, hN]; omega, by have := Rv.take h.rd f; rw [← List.map_take] at this; exact this, by omega⟩
  have hd : decide ((n : Int) < 0) = false := decide_eq_false (by omega)
  have hd2 : decide ((64 : Int) < (n : Int)) = false := decide_eq_false (by omega)
  have hd3 : decide ((N : Int) < (n : Int)) = false := decide_eq_false (by omega)
  have ef : (N : Int) - (n : Int) = (f : Int) := by omega
  have ew0 : IntKind.i64.wrap (f : Int) = (f : Int) := IntWalk.i64_in _ (by omega)
  have ew : IntKind.i64.wrap ((N : Int) - (n : Int)) = (f : Int) := by rw [ef]; exact ew0
  have c1' := fun d v => (lcell_set (h.drewN d) v).1
  have f1' := fun d v => (lcell_set (h.drewN d) v).2
  clear h hN hB hV hf ef
  go_enter Try.func29, Try.ntmps29
  go_wp2_with fail
  go_quiet ((go_at_call 48; refine Calls.quiet_of_same ((VL.out _ _).mono fun _ _ h => ⟨h.1, h.2.symm⟩)))
  go_wp2_with fail
  go_region
  all_goals go_wp2_with fail
  all_goals go_ret2
  all_goals exact ⟨rfl, (fun x => ⟨⟨_, _, x.1⟩, x.2⟩) (H.out.set' _ A c (l.take f) (k + n) f ((k : Int) + (n : Int)) HT.out.1 (by simp) HT.out.2.1 (by rw [HT.out.1]; exact HT.out.2.2) (fun ad e => ⟨ad, e, rfl⟩))⟩

/-- A new reader of the reference. -/
def RMade (w : World) (l : List Bool) (y : Nat) (w' : World) : Prop := ∃ g A c, Rf w' y g A c l 0 ∧ Below w.heap.size w w' ∧ w.heap.size ≤ y ∧ w.heap.size ≤ g

theorem rmade_mk {w w1 : World} {l l' : List Bool} {A : Option Addr} {n c c' : Nat} (ho : w1.ownsRow w.heap.size 4 1 (.slice A n c) n (l.map Value.bool)) (hb : Below w.heap.size w w1) (hl : ∃ r, l = l' ++ r) (m : Nat) (hm : l'.length = m) (hc : l'.length ≤ c') :
    RMade w l' w1.heap.size (w1.alloc (.cells #[.slice A m c', .int .i64 0] 43)) := by
  subst hm
  obtain ⟨r, rfl⟩ := hl
  have hlt : ∀ ad, A = some ad → w.heap.size ≤ ad.block ∧ ad.block < w1.heap.size := by
    intro ad e
    subst e
    have h1 : Value.ownBlock (.slice (some ad) n c) = some ad.block := rfl
    exact ⟨(ho.lt _ h1).1, own_lt ho h1⟩
  have hb2 : Below w1.heap.size w1 (w1.alloc (.cells #[.slice A l'.length c', .int .i64 0] 43)) := (Below.refl _ _).alloc (Nat.le_refl _) _
  have hrd : Rb w1 A l' := by
    have := Rv.take (Rv.of_own ho) l'.length
    rw [← List.map_take, List.take_left] at this
    exact this
  refine ⟨(A.map (·.block)).getD w1.heap.size, A, c', ⟨heap_alloc_new w1 _, hrd.below hb2, hc, fun ad e => ?_⟩, below_on hb (Nat.le_refl _) hb2, hb.size, ?_⟩
  · subst e
    have := hlt ad rfl
    refine ⟨rfl, ?_, ?_⟩
    · simp; omega
    · rw [World.size_alloc]; simp; omega
  · cases A with
    | none => exact hb.size
    | some ad => exact (hlt ad rfl).1

end Go.Proofs.Ytgokbpnikgbfgaa.Bt

namespace Go.Proofs.Ytgokbpnikgbfgaa.Bt
open Go.RowKit

theorem bitsOf_get : ∀ (n v t : Nat), t < n → (bitsOf v n)[t]? = some (decide (v / 2 ^ t % 2 = 1))
  | 0, v, t, h => by omega
  | n + 1, v, 0, h => by rw [bitsOf]; simp
  | n + 1, v, t + 1, h => by
    rw [bitsOf, List.getElem?_cons_succ, bitsOf_get n (v / 2) t (by omega), Nat.div_div_eq_div_mul, Nat.pow_succ, Nat.mul_comm 2]

theorem end_bits {D : List UInt8} {e : Nat} (h : endOf D = some e) : (unp D)[e]? = some true ∧ ∀ i, e < i → i < 8 * D.length → (unp D)[i]? = some false := by
  obtain ⟨F, b, rfl, hb, rfl, _⟩ := endOf_some h
  have hlog : b.toNat.log2 < 8 := (Nat.log2_lt hb).2 b.toNat_lt
  have hu : unp (F ++ [b]) = unp F ++ bitsOf b.toNat 8 := by rw [unp_app, unp, unp, List.append_nil]
  have key : ∀ t, t < 8 → (unp (F ++ [b]))[8 * F.length + t]? = some (decide (b.toNat / 2 ^ t % 2 = 1)) := by
    intro t ht
    rw [hu, List.getElem?_append_right (by rw [unp_len]; omega), unp_len, Nat.add_sub_cancel_left, bitsOf_get 8 _ t ht]
  refine ⟨?_, fun i h1 h2 => ?_⟩
  · rw [key _ hlog]
    have h1 : 2 ^ b.toNat.log2 ≤ b.toNat := Nat.log2_self_le hb
    have h2 : b.toNat < 2 ^ (b.toNat.log2 + 1) := Nat.lt_log2_self
    have h3 : b.toNat / 2 ^ b.toNat.log2 = 1 := by
      rw [Nat.pow_succ] at h2
      exact Nat.div_eq_of_lt_le (by omega) (by omega)
    rw [h3]
    rfl
  · rw [List.length_append] at h2
    simp at h2
    obtain ⟨t, rfl⟩ : ∃ t, i = 8 * F.length + t := ⟨i - 8 * F.length, by omega⟩
    rw [key t (by omega)]
    have h3 : b.toNat / 2 ^ t = 0 := by
      refine Nat.div_eq_of_lt (Nat.lt_of_lt_of_le Nat.lt_log2_self ?_)
      exact Nat.pow_le_pow_right (by decide) (by omega)
    rw [h3]
    rfl

set_option maxHeartbeats 1000000 in
theorem rback_none (w : World) (A : Option Addr) (cap : Nat) :
    Calls Try.prog 19 #[.slice A 0 cap] w fun r w' => r = .returned (.tuple #[.pointer none, .int .i64 14]) ∧ Below w.heap.size w w' := by
  have RW := Lib.hid (row_any w A [] 0 cap rfl (by decide) (Rv.nil _ _))
  go_enter Try.func19, Try.ntmps19
  go_wp2_with fail
  refine RW.out.mono ?_
  rintro e w1 ⟨A1, c1, rfl, ho, hb⟩
  have B1 := Lib.hid hb
  clear ho hb RW
  go_wp2
  go_ret2
  exact ⟨rfl, B1.out⟩

set_option maxHeartbeats 1000000 in
theorem rback_zero (w : World) (A : Option Addr) (F : List UInt8) (b : UInt8) (N cap : Nat) (hN : F.length + 1 = N) (hs : N ≤ 500) (hR : Rd w A (F ++ [b])) (hb : b.toNat = 0) :
    Calls Try.prog 19 #[.slice A N cap] w fun r w' => r = .returned (.tuple #[.pointer none, .int .i64 14]) ∧ Below w.heap.size w w' := by
  have hlen : (F ++ [b]).length = N := by rw [List.length_append]; exact hN
  have RW := Lib.hid (row_any w A (F ++ [b]) N cap hlen hs hR)
  obtain ⟨ad, rfl⟩ := Rv.some_of hR (by simp)
  have hc := last_cell hR
  rw [hb] at hc
  have hlt := cell_lt hc
  obtain ⟨M, hM⟩ : ∃ M, F.length = M := ⟨_, rfl⟩
  rw [hM] at hc hN hlt
  subst hN
  have HC := Lib.hid hc
  have HLT := Lib.hid hlt
  clear hR hM hlen hc hlt
  go_enter Try.func19, Try.ntmps19
  go_wp2_with fail
  refine RW.out.mono ?_
  rintro e w1 ⟨A1, c1, rfl, ho, hb⟩
  have B1 := Lib.hid hb
  have hc1 := (hb.cell HLT.out).trans HC.out
  clear ho hb RW
  go_wp2
  go_ret2
  exact ⟨rfl, B1.out⟩

set_option maxRecDepth 100000 in
set_option maxHeartbeats 4000000 in
theorem rback_ok (w : World) (A : Option Addr) (D : List UInt8) (N cap : Nat) (hN : D.length = N) (hs : N ≤ 500) (hR : Rd w A D) (e : Nat) (he : endOf D = some e) :
    Calls Try.prog 19 #[.slice A N cap] w fun r w' => ∃ y, r = .returned (.tuple #[.pointer (some ⟨y, 0, none⟩), .int .i64 0]) ∧ RMade w ((unp D).take e) y w' := by
  have RW := Lib.hid (row_any w A D N cap hN hs hR)
  have EB := Lib.hid (end_bits he)
  obtain ⟨F, b, hD, hb, hbe, hlt⟩ := endOf_some he
  subst hD
  obtain ⟨ad, rfl⟩ := Rv.some_of hR (by simp)
  have hc := last_cell hR
  have hclt := cell_lt hc
  have hF : F.length = N - 1 := by rw [List.length_append] at hN; simp at hN; omega
  rw [hF] at hc hclt
  obtain ⟨N1, hN1⟩ : ∃ N1, N - 1 = N1 := ⟨_, rfl⟩
  rw [hN1] at hc hclt
  have hN0 : 0 < N := by rw [List.length_append] at hN; simp at hN; omega
  have hsub : (N : Int) - 1 = (N1 : Int) := by omega
  have hn1 : N1 < N := by omega
  obtain ⟨yb, hyb⟩ : ∃ y, b.toNat = y := ⟨_, rfl⟩
  rw [hyb] at hc hb
  have hyz : ((yb : Int) == 0) = false := by simpa using hb
  have hNz : ((N : Int) == 0) = false := by simp; omega
  obtain ⟨D, hDD⟩ : ∃ D, F ++ [b] = D := ⟨_, rfl⟩
  rw [hDD] at RW EB hN hlt ⊢
  obtain ⟨K, hK⟩ : ∃ K, (unp D).length = K := ⟨_, rfl⟩
  have hKN : K = 8 * N := by rw [← hK, unp_len, hN]
  have heK : e < K := by rw [hKN, ← hN]; exact hlt
  have hKs : K ≤ 4000 := by omega
  have HK := Lib.hid hK
  have HKD : Hid (K = 8 * D.length) := Lib.hid (by rw [hN]; exact hKN)
  have HC := Lib.hid hc
  have HCL := Lib.hid hclt
  clear hR hF hN1 hc hclt hbe hDD hK hKN hN hlt he hb hyb
  go_enter Try.func19, Try.ntmps19
  go_wp2_with fail
  refine RW.out.mono ?_
  rintro q w1 ⟨A1, c1, rfl, ho, hb⟩
  rw [HK.out] at ho ⊢
  obtain ⟨_, _, hv, hle⟩ := own_form ho
  cases hv
  have O1 := Lib.hid ho
  have B1 := Lib.hid hb
  have hc1 := (hb.cell HCL.out).trans HC.out
  have s1 := fun (j : Nat) (h : j ≤ c1) (n : Nat) W => slice_hi A1 n c1 j h W
  have HS1 := Lib.hid s1
  clear ho hb RW s1
  go_wp2_with fail
  clear hc1 hyz hNz
  go_loopw [4] (fun o wr => (∃ j : Nat, e < j ∧ j ≤ K ∧ o = .slice A1 j c1) ∧ w1 = wr) (fun o _ => match o with | .slice _ j _ => j | _ => 0)
  case atStart => exact ⟨⟨K, heK, Nat.le_refl _, rfl⟩, rfl⟩
  case round =>
    obtain ⟨⟨j, hj1, hj2, rfl⟩, hw⟩ := hrel
    subst hw
    obtain ⟨i, hi⟩ : ∃ i, j - 1 = i := ⟨_, rfl⟩
    have hij : (j : Int) - 1 = (i : Int) := by omega
    have hilt : i < j := by omega
    have sl := HS1.out i (by omega) j
    by_cases hie : i = e
    · have hb := EB.out.1
      rw [← hie] at hb
      obtain ⟨ad1, hA1, hc1⟩ := Rv.of_own O1.out i (.bool true) (by rw [List.getElem?_map, hb]; rfl)
      subst hA1
      have HIE := Lib.hid hie
      clear hb hie hi
      go_wp2_with fail
      go_ret2
      refine ⟨_, rfl, ?_⟩
      have hlt : ((unp D).take e).length = e := by rw [List.length_take, HK.out]; omega
      have := rmade_mk (l' := (unp D).take e) O1.out B1.out ⟨(unp D).drop e, (List.take_append_drop e _).symm⟩ e hlt (c' := c1) (by rw [hlt]; omega)
      rw [← HIE.out] at this ⊢
      exact this
    · have hb := EB.out.2 i (by omega) (by rw [← HKD.out]; omega)
      obtain ⟨ad1, hA1, hc1⟩ := Rv.of_own O1.out i (.bool false) (by rw [List.getElem?_map, hb]; rfl)
      subst hA1
      clear hb
      go_wp2_with fail
      exact ⟨⟨⟨i, by omega, by omega, rfl⟩, by trivial⟩, by first | omega | (simp; omega)⟩

end Go.Proofs.Ytgokbpnikgbfgaa.Bt

namespace Go.Proofs.Ytgokbpnikgbfgaa.Bt
open Go.RowKit

theorem str_idx {F : List UInt8} {p c i : Nat} {l : List Bool} (h : Str F p c (l.take i)) (hi : i ≤ l.length) : i = 8 * F.length + c := by
  have := h.len
  rw [List.length_take, Nat.min_eq_left hi] at this
  exact this

theorem str_step {F : List UInt8} {p c i : Nat} {l : List Bool} (h : Str F p c (l.take i)) (hc : c < 8) (b : Bool) (hb : l[i]? = some b) :
    ∃ F' p' c', Str F' p' c' (l.take (i + 1)) ∧ c' < 8 ∧ F' ++ tl p' c' = F ++ [UInt8.ofNat (p + 2 ^ c * b.toNat)] := by
  obtain ⟨hi, e⟩ := List.getElem?_eq_some_iff.1 hb
  have h1 := h.add b.toNat 1
  have e1 : bitsOf b.toNat 1 = [b] := by cases b <;> rfl
  have e2 : b.toNat % 2 ^ 1 = b.toNat := by cases b <;> rfl
  rw [e1, e2] at h1
  rw [List.take_succ_eq_append_getElem hi, e]
  by_cases h7 : c = 7
  · subst h7
    exact ⟨_, 0, 0, h1.full, by decide, by simp [tl]⟩
  · exact ⟨F, _, c + 1, h1, by omega, by simp [tl]⟩

theorem own_some {w : World} {base n c : Nat} {e : TypeId} {A : Option Addr} {xs : List Value} (h : w.ownsRow base e 1 (.slice A (n + 1) c) (n + 1) xs) : ∃ g, A = some ⟨g, 0, none⟩ := by
  rcases h.2 with ⟨_, h1⟩ | ⟨g, _, _, h1, _⟩
  · cases h1
  · injection h1 with h1
    exact ⟨g, h1⟩

theorem lit_cell (W : World) (c t : Nat) (hc : c < 8) (ht : 2 ^ c = t) : (W.alloc (.cells #[.int .u8 1, .int .u8 2, .int .u8 4, .int .u8 8, .int .u8 16, .int .u8 32, .int .u8 64, .int .u8 128] 5)).cell? ⟨W.heap.size, c, none⟩ = some (.int .u8 (t : Int)) := by
  rw [cell_of_row _ W.heap.size c _ _ _ (heap_alloc_new W _)]
  subst ht
  have : c = 0 ∨ c = 1 ∨ c = 2 ∨ c = 3 ∨ c = 4 ∨ c = 5 ∨ c = 6 ∨ c = 7 := by omega
  rcases this with rfl | rfl | rfl | rfl | rfl | rfl | rfl | rfl <;> rfl

/-- What the loop of Bytes holds on to. -/
def RowRel (w wr : World) (l : List Bool) (i : Nat) (v : Value) (m : Nat) : Prop :=
  ∃ F p c, Str F p c (l.take i) ∧ c < 8 ∧ (F ++ tl p c).length = m ∧ wr.ownsRow w.heap.size 5 1 v m ((F ++ tl p c).map byt)

theorem set_last (F : List UInt8) (u : Value) (b : UInt8) (hb : byt b = u) (a : UInt8) : ((F ++ [a]).map byt).set F.length u = (F ++ [b]).map byt := by
  subst hb
  simp

theorem row_set {w W : World} {g NF cp : Nat} {F : List UInt8} {a : UInt8} (hF : F.length = NF) (ho : W.ownsRow w.heap.size 5 1 (.slice (some ⟨g, 0, none⟩) (NF + 1) cp) (NF + 1) ((F ++ [a]).map byt)) (hb : Below w.heap.size w W) (o : Obj) (u : UInt8) (z : Int) (hz : byt u = .int .u8 z) :
    (((W.alloc o).setCell ⟨g, NF, none⟩ (.int .u8 z)).drew).ownsRow w.heap.size 5 1 (.slice (some ⟨g, 0, none⟩) (NF + 1) cp) (NF + 1) ((F ++ [u]).map byt) ∧ Below w.heap.size w (((W.alloc o).setCell ⟨g, NF, none⟩ (.int .u8 z)).drew) := by
  have h1 := (own_below ho ((Below.refl _ _).alloc (Nat.le_refl _) o)).stored NF (.int .u8 z)
  rw [← hF, set_last F _ u hz a, hF] at h1
  have hg : w.heap.size ≤ g := (ho.lt g rfl).1
  have h2 : Below w.heap.size w ((W.alloc o).setCell ⟨g, NF, none⟩ (.int .u8 z)) := (hb.alloc hb.size o).grown h1.2 (by simp; have := hb.size; omega) (fun j ej => by cases ej; exact hg)
  exact ⟨h1.1, ⟨h2.os, h2.tape, h2.output, h2.size, h2.block⟩⟩

set_option maxRecDepth 100000 in
set_option maxHeartbeats 4000000 in
theorem refBytes_any (w : World) (A : Option Addr) (l : List Bool) (N cap : Nat) (hN : l.length = N) (hs : N ≤ 20000) (hR : Rb w A l) :
    Calls Try.prog 40 #[.slice A N cap] w (Got w (pack l)) := by
  have HN := Lib.hid hN
  have HR := Lib.hid hR
  clear hN hR
  go_enter Try.func40, Try.ntmps40
  go_wp2_with fail
  go_loopw [3, 4] (fun o b wr => (∃ (i m c : Nat) (B : Option Addr), i ≤ N ∧ o = .slice B m c ∧ b = .int .i64 (i : Int) ∧ Hid (RowRel w wr l i (.slice B m c) m) ∧ Hid (Below w.heap.size w wr))) (fun _ b _ => N - (intOf b).toNat)
  case atStart => exact ⟨0, 0, 0, none, by omega, rfl, rfl, Lib.hid ⟨[], 0, 0, Str.nil, by decide, rfl, World.ownsRow_nil _ _ _ _⟩, Lib.hid (Below.refl _ _)⟩
  case round =>
    obtain ⟨i, m, cp, B, hi, rfl, rfl, HRR, HB⟩ := hrel
    by_cases hlt : i < N
    · obtain ⟨F, p, c, hst, hc, hm, ho⟩ := HRR.out
      have hi8 := str_idx hst (by rw [HN.out]; exact hi)
      obtain ⟨b, hb⟩ : ∃ b, l[i]? = some b := ⟨_, List.getElem?_eq_getElem (by rw [HN.out]; exact hlt)⟩
      have SS := Lib.hid (str_step hst hc b hb)
      obtain ⟨aL, haL, e0⟩ := HR.out i (.bool b) (by rw [List.getElem?_map, hb]; rfl)
      subst haL
      have hp := hst.lt
      obtain ⟨t, ht⟩ : ∃ t, 2 ^ c = t := ⟨_, rfl⟩
      have ht8 : t ≤ 128 := by rw [← ht]; exact Nat.pow_le_pow_right (by decide) (show c ≤ 7 by omega)
      rw [ht] at hp SS
      have HT := Lib.hid ht
      have E0 := Lib.hid e0
      obtain ⟨NF, hNF⟩ : ∃ NF, F.length = NF := ⟨_, rfl⟩
      have HNF := Lib.hid hNF
      rw [hNF] at hi8
      have hNs : NF ≤ 20000 := by omega
      have hdiv : (i : Int) / 8 = (NF : Int) := by omega
      have hmod : (i : Int) % 8 = (c : Int) := by omega
      have HP8 := Lib.hid hp
      clear ht hst hb e0 HRR hi8 hNF hp
      by_cases h0 : c = 0
      · subst h0
        have hp0 : p = 0 := by have h1 := HT.out; have h2 := HP8.out; simp at h1; omega
        subst hp0
        have O1 := Lib.hid ho
        have HM : Hid (m = NF) := Lib.hid (by rw [← hm]; simp [tl, HNF.out])
        clear ho hm
        have OA := Lib.hid (own_below O1.out ((Below.refl _ _).alloc (Nat.le_refl _) (.cells #[.int .u8 0] 5)))
        have BA := Lib.hid (HB.out.alloc HB.out.size (.cells #[.int .u8 0] 5))
        have hmm : m ≤ 20000 := by rw [HM.out]; exact hNs
        go_upto_region 7 with (at_builtin; refine wpList_append_vals Try.underlying25 byte_info rfl rfl _ _ rfl w.heap.size (.slice B m cp) m _ rfl OA.out (some ⟨wr.heap.size, 0, none⟩) [.int .u8 0] (by simp [Value.oneCell']) 1 1 rfl rfl (rv_one _ _ _) (by omega) BA.out.size ?_; intro v1 w1 ho1 hg1 _; obtain ⟨A1, c1, rfl, _⟩ := own_form ho1; have B1 := Lib.hid (BA.out.grown hg1 BA.out.size (fun j ej => (OA.out.lt j ej).1)); have P1 := Lib.hid ho1; clear ho1 hg1)
        have ho2 : w1.ownsRow w.heap.size 5 1 (.slice A1 (NF + 1) c1) (NF + 1) ((F ++ [UInt8.ofNat 0]).map byt) := by
          have h1 := P1.out
          rw [HM.out] at h1
          simpa [tl, byt] using h1
        have hm1 : NF = m := HM.out.symm
        subst hm1
        clear HM P1 OA O1 BA HB hmm
        have hmod0 : (i : Int) % 8 = 0 := hmod
        clear hmod
        have e3 : w1.cell? (aL.add i) = some (.bool b) := (B1.out.cell (cell_lt E0.out)).trans E0.out
        obtain ⟨g, hg⟩ := own_some ho2
        subst hg
        have cl : w1.cell? ⟨g, NF, none⟩ = some (.int .u8 (0 : Int)) := by
          rw [ho2.cellAt NF (by omega), List.getElem?_map, List.getElem?_append_right (by rw [HNF.out]; exact Nat.le_refl _), HNF.out, Nat.sub_self]
          simp only [List.getElem?_cons_zero, Option.map_some]
          rw [byt_of (show 0 < 256 by have := HP8.out; omega)]; rfl
        have O2 := Lib.hid ho2
        clear ho2
        cases b with
        | false =>
          clear cl
          go_wp2_with fail
          obtain ⟨F', p', c', s1, s2, s3⟩ := SS.out
          simp only [Bool.toNat_false, Nat.mul_zero, Nat.add_zero] at s3
          exact ⟨⟨i + 1, NF + 1, _, _, by omega, rfl, by simp, Lib.hid ⟨F', p', c', s1, s2, by rw [s3]; simp [HNF.out], by rw [s3]; exact O2.out⟩, B1⟩, by simp [intOf]; omega⟩
        | true =>
          have glt : g < w1.heap.size := own_lt O2.out rfl
          have cl2 : (w1.alloc (.cells #[.int .u8 1, .int .u8 2, .int .u8 4, .int .u8 8, .int .u8 16, .int .u8 32, .int .u8 64, .int .u8 128] 5)).cell? ⟨g, NF, none⟩ = some (.int .u8 (0)) := by rw [World.cell?_alloc_lt _ _ _ glt]; exact cl
          have cl3 := lit_cell w1 0 t (by omega) HT.out
          have fz : (w1.alloc (.cells #[.int .u8 1, .int .u8 2, .int .u8 4, .int .u8 8, .int .u8 16, .int .u8 32, .int .u8 64, .int .u8 128] 5)).frozen? ⟨g, NF, none⟩ = false := (own_below O2.out ((Below.refl _ _).alloc (Nat.le_refl _) (.cells #[.int .u8 1, .int .u8 2, .int .u8 4, .int .u8 8, .int .u8 16, .int .u8 32, .int .u8 64, .int .u8 128] 5))).frozenAt NF
          have hpt : t ≤ 255 := by omega
          clear glt
          go_wp2_with fail
          go_region
          go_wp2_with fail
          obtain ⟨F', p', c', s1, s2, s3⟩ := SS.out
          simp only [Bool.toNat_true, Nat.mul_one] at s3
          have RS := row_set HNF.out O2.out B1.out (.cells #[.int .u8 1, .int .u8 2, .int .u8 4, .int .u8 8, .int .u8 16, .int .u8 32, .int .u8 64, .int .u8 128] 5) (UInt8.ofNat (0 + t)) ((t : Int)) (by rw [byt_of (by omega)]; simp)
          exact ⟨⟨i + 1, NF + 1, _, _, by omega, rfl, by simp, Lib.hid ⟨F', p', c', s1, s2, by rw [s3]; simp [HNF.out], by rw [s3]; exact RS.1⟩, Lib.hid RS.2⟩, by simp [intOf]; omega⟩
      · have ho2 : wr.ownsRow w.heap.size 5 1 (.slice B m cp) m ((F ++ [UInt8.ofNat p]).map byt) := by
          have e : tl p c = [UInt8.ofNat p] := by rw [tl, if_neg h0]
          rw [← e]; exact ho
        have hm2 : m = NF + 1 := by rw [← hm, tl, if_neg h0]; simp [HNF.out]
        subst hm2
        clear ho hm
        have hne : ((c : Int) == 0) = false := by simp; omega
        go_upto_region 7 with fail
        have e3 : wr.cell? (aL.add i) = some (.bool b) := (HB.out.cell (cell_lt E0.out)).trans E0.out
        obtain ⟨g, hg⟩ := own_some ho2
        subst hg
        have cl : wr.cell? ⟨g, NF, none⟩ = some (.int .u8 ((p : Int) : Int)) := by
          rw [ho2.cellAt NF (by omega), List.getElem?_map, List.getElem?_append_right (by rw [HNF.out]; exact Nat.le_refl _), HNF.out, Nat.sub_self]
          simp only [List.getElem?_cons_zero, Option.map_some]
          rw [byt_of (show p < 256 by have := HP8.out; omega)]
        have O2 := Lib.hid ho2
        clear ho2
        cases b with
        | false =>
          clear cl
          go_wp2_with fail
          obtain ⟨F', p', c', s1, s2, s3⟩ := SS.out
          simp only [Bool.toNat_false, Nat.mul_zero, Nat.add_zero] at s3
          exact ⟨⟨i + 1, NF + 1, _, _, by omega, rfl, by simp, Lib.hid ⟨F', p', c', s1, s2, by rw [s3]; simp [HNF.out], by rw [s3]; exact O2.out⟩, HB⟩, by simp [intOf]; omega⟩
        | true =>
          have glt : g < wr.heap.size := own_lt O2.out rfl
          have cl2 : (wr.alloc (.cells #[.int .u8 1, .int .u8 2, .int .u8 4, .int .u8 8, .int .u8 16, .int .u8 32, .int .u8 64, .int .u8 128] 5)).cell? ⟨g, NF, none⟩ = some (.int .u8 ((p : Int))) := by rw [World.cell?_alloc_lt _ _ _ glt]; exact cl
          have cl3 := lit_cell wr c t (by omega) HT.out
          have fz : (wr.alloc (.cells #[.int .u8 1, .int .u8 2, .int .u8 4, .int .u8 8, .int .u8 16, .int .u8 32, .int .u8 64, .int .u8 128] 5)).frozen? ⟨g, NF, none⟩ = false := (own_below O2.out ((Below.refl _ _).alloc (Nat.le_refl _) (.cells #[.int .u8 1, .int .u8 2, .int .u8 4, .int .u8 8, .int .u8 16, .int .u8 32, .int .u8 64, .int .u8 128] 5))).frozenAt NF
          have hpt : p + t ≤ 255 := by have := HP8.out; omega
          clear glt
          go_wp2_with fail
          go_region
          go_wp2_with fail
          obtain ⟨F', p', c', s1, s2, s3⟩ := SS.out
          simp only [Bool.toNat_true, Nat.mul_one] at s3
          have RS := row_set HNF.out O2.out HB.out (.cells #[.int .u8 1, .int .u8 2, .int .u8 4, .int .u8 8, .int .u8 16, .int .u8 32, .int .u8 64, .int .u8 128] 5) (UInt8.ofNat (p + t)) ((p : Int) + (t : Int)) (by rw [byt_of (by omega)]; simp)
          exact ⟨⟨i + 1, NF + 1, _, _, by omega, rfl, by simp, Lib.hid ⟨F', p', c', s1, s2, by rw [s3]; simp [HNF.out], by rw [s3]; exact RS.1⟩, Lib.hid RS.2⟩, by simp [intOf]; omega⟩
    · have hie : i = N := by omega
      subst hie
      have e : l.take i = l := List.take_of_length_le (by rw [HN.out]; exact Nat.le_refl _)
      have H1 : Hid (∃ F p c, Str F p c l ∧ c < 8 ∧ (F ++ tl p c).length = m ∧ wr.ownsRow w.heap.size 5 1 (.slice B m cp) m ((F ++ tl p c).map byt)) := Lib.hid (by
        obtain ⟨F, p, c, h1, h2, h3, h4⟩ := HRR.out
        rw [e] at h1
        exact ⟨F, p, c, h1, h2, h3, h4⟩)
      clear hlt hi e HRR
      go_wp2
      go_ret
      obtain ⟨F, p, c, h1, h2, h3, h4⟩ := H1.out
      refine ⟨B, cp, ?_, ?_, HB.out⟩
      · rw [h1.pack h2, h3]; rfl
      · rw [h1.pack h2, h3]; exact h4

end Go.Proofs.Ytgokbpnikgbfgaa.Bt

namespace Go.Proofs.Ytgokbpnikgbfgaa.Bt
open Go.RowKit

set_option maxHeartbeats 1000000 in
theorem refClose_any (w : World) (A : Option Addr) (l : List Bool) (N cap : Nat) (hN : l.length = N) (hs : N ≤ 19000) (hR : Rb w A l) :
    Calls Try.prog 21 #[.slice A N cap] w (Got w (closed l)) := by
  have HN := Lib.hid hN
  have HR := Lib.hid hR
  have O0 := Lib.hid (World.ownsRow_nil w w.heap.size 4 1)
  clear hN hR
  go_enter Try.func21, Try.ntmps21
  go_wp2_with (first
    | (at_builtin; refine wpList_append_vals Try.underlying41 bool_info rfl rfl _ _ rfl w.heap.size (.slice none 0 0) 0 [] rfl O0.out A (l.map Value.bool) (bool_one l) N cap (by rw [List.length_map]; exact HN.out) rfl HR.out (by omega) (Nat.le_refl _) ?_; intro v1 w1 ho1 hg1 _; rw [Nat.zero_add, List.nil_append] at ho1; obtain ⟨A1, c1, rfl, _⟩ := own_form ho1; have HB1 := Lib.hid ((Below.refl w.heap.size w).grown hg1 (Nat.le_refl _) (fun j ej => by cases ej)); have BA := Lib.hid (HB1.out.alloc HB1.out.size (.cells #[.bool true] 4)); have OA := Lib.hid (own_below ho1 ((Below.refl _ _).alloc (Nat.le_refl _) (.cells #[.bool true] 4))); clear ho1 hg1)
    | (at_builtin; refine wpList_append_vals Try.underlying41 bool_info rfl rfl _ _ rfl w.heap.size (.slice A1 N c1) N (l.map Value.bool) rfl OA.out (some ⟨w1.heap.size, 0, none⟩) [.bool true] (by simp [Value.oneCell']) 1 1 rfl rfl (rv_one _ _ _) (by omega) BA.out.size ?_; intro v2 w2 ho2 hg2 _; obtain ⟨A2, c2, rfl, _⟩ := own_form ho2; have HB2 := Lib.hid (BA.out.grown hg2 BA.out.size (fun j ej => (OA.out.lt j ej).1)); have O2 := Lib.hid ho2; clear ho2 hg2)
    | (go_at_call 40; refine (refBytes_any _ _ (l ++ [true]) _ _ (by rw [List.length_append, HN.out]; rfl) (by omega) (by have h1 := Rv.of_own O2.out; rw [show l.map Value.bool ++ [Value.bool true] = (l ++ [true]).map Value.bool by simp] at h1; exact h1)).mono ?_; intro e w3 hg3; obtain ⟨A3, c3, rfl, ho3, hb3⟩ := hg3.on HB2.out; have H3 := Lib.hid (And.intro ho3 hb3); clear ho3 hb3 hg3))
  go_ret
  exact ⟨A3, c3, rfl, H3.out⟩

end Go.Proofs.Ytgokbpnikgbfgaa.Bt
