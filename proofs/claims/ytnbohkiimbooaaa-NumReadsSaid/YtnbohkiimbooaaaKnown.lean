/-
  The helpers of the laws: reads returns the error of Varint for some bytes; known, the chapter's examples, returns true. Nothing that was there has changed. Conditions: none (known); at most 1000 bytes (reads).
-/
import Derived.Test.YtnbohkiimbooaaaMNum
namespace Go.Proofs.Ytnbohkiimbooaaa
open Go.RowKit Go.Shelf

theorem same_n (w : World) (A B : Option Addr) (l m : List UInt8) (n n' : Nat) (hn : l.length = n) (hn' : m.length = n') (c d : Nat) (hA : Rd w A l) (hB : Rd w B m) (h : l = m) :
    Calls Try.prog 13 #[.slice A n c, .slice B n' d] w fun e w' => e = .returned (.bool true) ∧ w = w' := by
  subst hn hn'
  exact same_eq w A B l m c d hA hB h

theorem new_n (w : World) (A : Option Addr) (l : List UInt8) (n cap : Nat) (hn : l.length = n) (hs : n ≤ 281474976710000) (hR : Rd w A l) : Calls Try.prog 21 #[.slice A n cap] w (NewC w l) := by
  subst hn
  exact new_any w A l cap hs hR

set_option maxHeartbeats 400000 in
theorem reads_n (w : World) (A : Option Addr) (l : List UInt8) (n cap : Nat) (hn : l.length = n) (hs : n ≤ 1000) (hR : Rd w A l) :
    Calls Try.prog 34 #[.slice A n cap] w fun e w' => e = .returned (.int .i64 ((gv l).err : Int)) ∧ Below w.heap.size w w' := by
  have HX := Lib.hid (new_n w A l n cap hn (by omega) hR)
  obtain ⟨r, hr⟩ : ∃ r, gv l = r := ⟨_, rfl⟩
  rw [hr]
  have HR := Lib.hid hr
  clear hn hR hr
  go_enter Try.func34, Try.ntmps34
  go_wp2_with fail
  refine HX.out.mono ?_
  rintro e w1 ⟨c, A', cap', rfl, hcw, hcur, hb⟩
  have HV := Lib.hid (varint_any hcur)
  have HB := Lib.hid hb
  have HCW := Lib.hid hcw
  clear hb hcur hcw
  rw [List.drop_zero, HR.out] at HV
  go_wp2_with fail
  refine HV.out.mono ?_
  rintro e w2 ⟨rfl, hc, hg⟩
  have hb2 : Below w.heap.size w w2 := HB.out.grown hg HB.out.size (fun j ej => by cases ej; exact HCW.out)
  have HB2 := Lib.hid hb2
  clear hc hg hb2
  go_wp2
  go_ret
  exact ⟨rfl, HB2.out⟩

theorem below_on {B : Nat} {w a b : World} (h : Below B w a) (hB : B ≤ w.heap.size) (k : Below a.heap.size a b) : Below B w b := h.trans (k.mono (Nat.le_trans hB h.size))

/-- The bytes of a slice literal. -/
theorem lit_rd (w : World) (l : List UInt8) (C : Array Value) (hC : C = (l.map byt).toArray) (hl : l.length ≤ 1000) : Rd (w.alloc (.cells C 5)) (some ⟨w.heap.size, 0, none⟩) l :=
  Rd.of_own (lit_own w l C hC hl)


set_option maxRecDepth 100000 in
set_option maxHeartbeats 2000000 in
theorem known_any (w : World) : Calls Try.prog 19 #[] w fun e w' => e = .returned (.bool true) ∧ Below w.heap.size w w' := by
  go_enter Try.func19, Try.ntmps19
  go_wp2_with fail
  refine (putVarint_any w none [] 0 300 (by omega) (by omega) (by simp) (Rd.nil _ _)).mono ?_
  rintro e w1 ⟨v, rfl, hv⟩
  obtain ⟨A1, c1, rfl, hR1, hb1⟩ := hv.rd
  have e1 : vi (Int.toNat 300) = [172, 2] := by decide +kernel
  rw [List.nil_append, e1] at hR1 hv
  simp only [List.nil_append, e1, List.length_cons, List.length_nil]
  have HR1 := Lib.hid hR1
  have HB1 := Lib.hid hb1
  clear hR1 hb1 hv e1
  go_wp2_with fail
  refine (new_n _ _ [10] _ _ rfl (by simp) (lit_rd w1 [10] _ rfl (by simp))).mono ?_
  rintro e w2 ⟨c, A2, cap2, rfl, hcw, hcur, hb⟩
  have HN := Lib.hid (number_any hcur 9 (by omega))
  have hb12 : Below w1.heap.size w1 w2 := below_on ((Below.refl _ _).alloc (Nat.le_refl _) _) (Nat.le_refl _) hb
  have hcw1 : w1.heap.size ≤ c := by simp at hcw; omega
  have HB12 := Lib.hid hb12
  have HC := Lib.hid hcw1
  clear hb hcw hcur hb12 hcw1
  go_wp2_with fail
  refine HN.out.mono ?_
  rintro e w3 ⟨rfl, _, hg⟩
  have e2 : numB (gv (List.drop 0 [10])) 9 = (0, 18) := by decide +kernel
  rw [e2]
  have hb13 : Below w1.heap.size w1 w3 := HB12.out.grown hg HB12.out.size (fun j ej => by cases ej; exact HC.out)
  have HB13 := Lib.hid hb13
  clear hg HN e2 hb13 HB12 HC
  go_wp2_with fail
  refine (same_n _ _ _ [172, 2] [172, 2] _ _ rfl rfl _ _ (HR1.out.below (HB13.out.alloc HB13.out.size _)) (lit_rd _ [172, 2] _ rfl (by simp)) rfl).mono ?_
  rintro e w4 ⟨rfl, rfl⟩
  have HB4 := Lib.hid (below_on HB1.out (Nat.le_refl _) (HB13.out.alloc HB13.out.size (.cells #[.int .u8 172, .int .u8 2] 5)))
  clear HB13 HR1 HB1
  go_wp2_with fail
  refine (putWord_any _ none [] 0 1 (by omega) (by omega) (by simp) (Rd.nil _ _)).mono ?_
  rintro e w5 ⟨v, rfl, hv⟩
  obtain ⟨A5, c5, rfl, hR5, hb5⟩ := hv.rd
  have e5 : wd (Int.toNat 1) = [1, 0, 0, 0] := by decide +kernel
  rw [List.nil_append, e5] at hR5
  simp only [List.nil_append, e5, List.length_cons, List.length_nil]
  have HR5 := Lib.hid hR5
  have HB5 := Lib.hid (below_on HB4.out (Nat.le_refl _) hb5)
  clear hR5 hb5 hv e5 HB4
  go_wp2_with fail
  refine (same_n _ _ _ [1, 0, 0, 0] [1, 0, 0, 0] _ _ rfl rfl _ _ (HR5.out.below ((Below.refl _ _).alloc (Nat.le_refl _) _)) (lit_rd _ [1, 0, 0, 0] _ rfl (by simp)) rfl).mono ?_
  rintro e w6 ⟨rfl, rfl⟩
  have HB6 := Lib.hid (HB5.out.alloc HB5.out.size (.cells #[.int .u8 1, .int .u8 0, .int .u8 0, .int .u8 0] 5))
  clear HB5 HR5
  go_wp2_with fail
  refine (size_any _ 127 (by omega) (by omega)).mono ?_
  rintro e w7 ⟨rfl, hb⟩
  have he : (vi (Int.toNat 127)).length = 1 := by decide +kernel
  rw [he]
  have HB7 := Lib.hid (below_on HB6.out (Nat.le_refl _) hb)
  clear hb he HB6
  go_wp2_with fail
  refine (size_any _ 128 (by omega) (by omega)).mono ?_
  rintro e w8 ⟨rfl, hb⟩
  have he : (vi (Int.toNat 128)).length = 2 := by decide +kernel
  rw [he]
  have HB8 := Lib.hid (below_on HB7.out (Nat.le_refl _) hb)
  clear hb he HB7
  go_wp2_with fail
  refine (reads_n _ _ [128, 0] _ _ rfl (by simp) (lit_rd _ [128, 0] _ rfl (by simp))).mono ?_
  rintro e w9 ⟨rfl, hb⟩
  have he : (gv [128, 0]).err = 5 := by decide +kernel
  rw [he]
  have HB9 := Lib.hid (below_on (HB8.out.alloc HB8.out.size _) (Nat.le_refl _) hb)
  clear hb he HB8
  go_wp2_with fail
  refine (reads_n _ _ [128] _ _ rfl (by simp) (lit_rd _ [128] _ rfl (by simp))).mono ?_
  rintro e w10 ⟨rfl, hb⟩
  have he : (gv [128]).err = 3 := by decide +kernel
  rw [he]
  have HB10 := Lib.hid (below_on (HB9.out.alloc HB9.out.size _) (Nat.le_refl _) hb)
  clear hb he HB9
  go_wp2_with fail
  refine (reads_n _ _ [128, 128, 128, 128, 128, 128, 128, 128, 128] _ _ rfl (by simp) (lit_rd _ [128, 128, 128, 128, 128, 128, 128, 128, 128] _ rfl (by simp))).mono ?_
  rintro e w11 ⟨rfl, hb⟩
  have he : (gv [128, 128, 128, 128, 128, 128, 128, 128, 128]).err = 18 := by decide +kernel
  rw [he]
  have HB11 := Lib.hid (below_on (HB10.out.alloc HB10.out.size _) (Nat.le_refl _) hb)
  clear hb he HB10
  go_wp2
  go_ret
  exact ⟨rfl, HB11.out⟩

end Go.Proofs.Ytnbohkiimbooaaa
