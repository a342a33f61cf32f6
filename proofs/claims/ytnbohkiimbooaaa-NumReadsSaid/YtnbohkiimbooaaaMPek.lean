/-
  What the methods Peek and Rest of a cursor do: a copy of the next bytes, n at most, or of all that are left, in new memory; for a nil cursor an empty slice. The cursor stays as it was. Condition: n is an int; at most 2.8 * 10^14 bytes.
-/
import Derived.Test.YtnbohkiimbooaaaMWrd
import Derived.StillTailTactics
import Derived.IntWalk
namespace Go.Proofs.Ytnbohkiimbooaaa
open Go.RowKit Go.Shelf

set_option maxHeartbeats 400000 in
theorem peek_nil (w : World) (n : Int) : Calls Try.prog 31 #[.pointer none, .int .i64 n] w fun e w' => e = .returned (.slice none 0 0) ∧ w = w' := by
  go_enter Try.func31, Try.ntmps31
  go_wp2
  go_ret
  exact ⟨rfl, rfl⟩

set_option maxHeartbeats 1000000 in
theorem peek_any {w : World} {c : Nat} {A : Option Addr} {cap : Nat} {l : List UInt8} {k : Nat} (h : Cur w c A cap l k) (hs : l.length ≤ 281474976710000) (n : Int) :
    Calls Try.prog 31 #[.pointer (some ⟨c, 0, none⟩), .int .i64 n] w (Got w ((l.drop k).take n.toNat)) := by
  have hle := h.le
  have hcap := h.cap
  have h1 := h.blk.cell1
  have h2 := h.blk.cell0
  have H := Lib.hid h
  obtain ⟨M, hM⟩ : ∃ M, l.length = k + M := ⟨l.length - k, by omega⟩
  rw [hM] at hle hcap h2 hs
  have HM := Lib.hid hM
  clear h hM hle
  have HL : Hid (∀ d, Calls Try.prog 26 #[.pointer (some ⟨c, 0, none⟩)] (w.drewN d) fun e w' => e = .returned (.int .i64 (M : Int)) ∧ ∃ m, w' = (w.drewN d).drewN m) := by
    refine Lib.hid fun d => ?_
    have := left_any (H.out.drewN d).blk H.out.le H.out.small
    rw [HM.out, show (((k + M : Nat) : Int) - (k : Int)) = (M : Int) by omega] at this
    exact this
  obtain ⟨m, hm, hmM⟩ : ∃ m : Nat, (l.drop k).take n.toNat = (l.drop k).take m ∧ m ≤ M ∧ (n < 0 ∧ m = 0 ∨ 0 ≤ n ∧ n ≤ (M : Int) ∧ n = (m : Int) ∨ (M : Int) < n ∧ m = M) := by
    by_cases h1 : n < 0
    · exact ⟨0, by rw [show n.toNat = 0 by omega], by omega, .inl ⟨h1, rfl⟩⟩
    · by_cases h2 : n ≤ (M : Int)
      · exact ⟨n.toNat, rfl, by omega, .inr (.inl ⟨by omega, h2, by omega⟩)⟩
      · refine ⟨M, ?_, by omega, .inr (.inr ⟨by omega, rfl⟩)⟩
        have := HM.out
        rw [List.take_of_length_le (by simp; omega), List.take_of_length_le (by simp; omega)]
  rw [hm]
  obtain ⟨hmM, hcase⟩ := hmM
  have hsl : ((l.drop k).take m).length = m := by have := HM.out; simp; omega
  obtain ⟨s, hss⟩ : ∃ s, (l.drop k).take m = s := ⟨_, rfl⟩
  have HS := Lib.hid hss
  rw [hss] at hsl ⊢
  have HSL := Lib.hid hsl
  clear hm hss hsl
  rcases hcase with ⟨hn, rfl⟩ | ⟨hn, hn2, rfl⟩ | ⟨hn, rfl⟩
  · go_enter Try.func31, Try.ntmps31
    go_wp2
    go_quiet ((go_at_call 26; exact Calls.quiet_of (HL.out _)))
    go_wp2
    refine wp_region_still_tail 10 (by kernel_rfl) (by kernel_rfl) ?_
    obtain ⟨w2, hw2⟩ : ∃ w2, (w.drewN nq).drew = w2 := ⟨_, rfl⟩
    change wpStill _ _ (w.drewN nq).drew (fun a' => wpList _ _ _ _ a' (w.drewN nq).drew) _ _
    rw [hw2]
    have r1 : w2.cell? ⟨c, 1, none⟩ = some (.int .i64 (k : Int)) := by rw [← hw2]; exact h1
    have r2 : w2.cell? ⟨c, 0, none⟩ = some (.slice A (k + M) cap) := by rw [← hw2]; exact h2
    have r3 : Rd w2 A l := by rw [← hw2]; exact H.out.rd
    have r4 : Below w.heap.size w w2 := by rw [← hw2]; exact (below_drewN' (Below.refl _ _) nq).drew
    have R3 := Lib.hid r3
    have R4 := Lib.hid r4
    clear hw2 r3 r4 h1 h2
    have hkc : k ≤ cap := by omega
    have hkm : k + 0 ≤ cap := by omega
    simp only [List.take_succ_cons, List.take_zero, List.drop_succ_cons, List.drop_zero]
    by_cases hck : cap = k
    · repeat still_step
      refine wpStill_nil ?_
      have hm0 : 0 = 0 := by omega
      have hs0 : s = [] := List.eq_nil_of_length_eq_zero (HSL.out.trans hm0)
      have HE := Lib.hid (fun cc => extend_n w2 A s 0 cc 0 HSL.out (by omega) (by omega) (by omega) (by rw [hs0]; exact Rd.nil _ _))
      clear hs0 hm0
      go_wp2_with fail
      refine (HE.out _).mono ?_
      rintro e w3 ⟨rfl, hown, hb⟩
      have HO := Lib.hid hown
      have HB := Lib.hid hb
      clear hown hb
      go_wp2
      go_ret
      exact ⟨_, rfl, OwnB.mk (own_mono HO.out R4.out.size) (below_on R4.out (Nat.le_refl _) HB.out)⟩
    · repeat still_step
      refine wpStill_nil ?_
      have HE := Lib.hid (fun cc => extend_n w2 (A.map (·.add k)) s 0 cc 0 HSL.out (by omega) (by omega) (by omega) (by rw [← HS.out]; exact R3.out.cut k 0))
      go_wp2_with fail
      refine (HE.out _).mono ?_
      rintro e w3 ⟨rfl, hown, hb⟩
      have HO := Lib.hid hown
      have HB := Lib.hid hb
      clear hown hb
      go_wp2
      go_ret
      exact ⟨_, rfl, OwnB.mk (own_mono HO.out R4.out.size) (below_on R4.out (Nat.le_refl _) HB.out)⟩
  · go_enter Try.func31, Try.ntmps31
    go_wp2
    go_quiet ((go_at_call 26; exact Calls.quiet_of (HL.out _)))
    go_wp2
    refine wp_region_still_tail 10 (by kernel_rfl) (by kernel_rfl) ?_
    obtain ⟨w2, hw2⟩ : ∃ w2, (w.drewN nq).drew = w2 := ⟨_, rfl⟩
    change wpStill _ _ (w.drewN nq).drew (fun a' => wpList _ _ _ _ a' (w.drewN nq).drew) _ _
    rw [hw2]
    have r1 : w2.cell? ⟨c, 1, none⟩ = some (.int .i64 (k : Int)) := by rw [← hw2]; exact h1
    have r2 : w2.cell? ⟨c, 0, none⟩ = some (.slice A (k + M) cap) := by rw [← hw2]; exact h2
    have r3 : Rd w2 A l := by rw [← hw2]; exact H.out.rd
    have r4 : Below w.heap.size w w2 := by rw [← hw2]; exact (below_drewN' (Below.refl _ _) nq).drew
    have R3 := Lib.hid r3
    have R4 := Lib.hid r4
    clear hw2 r3 r4 h1 h2
    have hkc : k ≤ cap := by omega
    have hkm : k + m ≤ cap := by omega
    simp only [List.take_succ_cons, List.take_zero, List.drop_succ_cons, List.drop_zero]
    by_cases hck : cap = k
    · have x1 : IntKind.i64.wrap ((k : Int) + (m : Int)) = (k : Int) + (m : Int) := IntWalk.i64_in _ (by omega)
      have x2 : (0 : Int) ≤ (k : Int) + (m : Int) := by omega
      have x3 : ((k : Int) + (m : Int)).toNat = k + m := by omega
      have x4 : (k : Int) + (m : Int) ≤ (k : Int) := by omega
      repeat still_step
      refine wpStill_nil ?_
      clear x1 x2 x3 x4
      have hm0 : m = 0 := by omega
      have hs0 : s = [] := List.eq_nil_of_length_eq_zero (HSL.out.trans hm0)
      have HE := Lib.hid (fun cc => extend_n w2 A s m cc 0 HSL.out (by omega) (by omega) (by omega) (by rw [hs0]; exact Rd.nil _ _))
      clear hs0 hm0
      go_wp2_with fail
      refine (HE.out _).mono ?_
      rintro e w3 ⟨rfl, hown, hb⟩
      have HO := Lib.hid hown
      have HB := Lib.hid hb
      clear hown hb
      go_wp2
      go_ret
      exact ⟨_, rfl, OwnB.mk (own_mono HO.out R4.out.size) (below_on R4.out (Nat.le_refl _) HB.out)⟩
    · have x1 : IntKind.i64.wrap ((k : Int) + (m : Int)) = (k : Int) + (m : Int) := IntWalk.i64_in _ (by omega)
      have x2 : (0 : Int) ≤ (k : Int) + (m : Int) := by omega
      have x3 : ((k : Int) + (m : Int)).toNat = k + m := by omega
      have x4 : (k : Int) + (m : Int) ≤ (cap : Int) := by omega
      repeat still_step
      refine wpStill_nil ?_
      clear x1 x2 x3 x4
      have HE := Lib.hid (fun cc => extend_n w2 (A.map (·.add k)) s m cc 0 HSL.out (by omega) (by omega) (by omega) (by rw [← HS.out]; exact R3.out.cut k m))
      go_wp2_with fail
      refine (HE.out _).mono ?_
      rintro e w3 ⟨rfl, hown, hb⟩
      have HO := Lib.hid hown
      have HB := Lib.hid hb
      clear hown hb
      go_wp2
      go_ret
      exact ⟨_, rfl, OwnB.mk (own_mono HO.out R4.out.size) (below_on R4.out (Nat.le_refl _) HB.out)⟩
  · go_enter Try.func31, Try.ntmps31
    go_wp2
    go_quiet ((go_at_call 26; exact Calls.quiet_of (HL.out _)))
    go_wp2
    refine wp_region_still_tail 10 (by kernel_rfl) (by kernel_rfl) ?_
    obtain ⟨w2, hw2⟩ : ∃ w2, (w.drewN nq).drew = w2 := ⟨_, rfl⟩
    change wpStill _ _ (w.drewN nq).drew (fun a' => wpList _ _ _ _ a' (w.drewN nq).drew) _ _
    rw [hw2]
    have r1 : w2.cell? ⟨c, 1, none⟩ = some (.int .i64 (k : Int)) := by rw [← hw2]; exact h1
    have r2 : w2.cell? ⟨c, 0, none⟩ = some (.slice A (k + m) cap) := by rw [← hw2]; exact h2
    have r3 : Rd w2 A l := by rw [← hw2]; exact H.out.rd
    have r4 : Below w.heap.size w w2 := by rw [← hw2]; exact (below_drewN' (Below.refl _ _) nq).drew
    have R3 := Lib.hid r3
    have R4 := Lib.hid r4
    clear hw2 r3 r4 h1 h2
    have hkc : k ≤ cap := by omega
    have hkm : k + m ≤ cap := by omega
    simp only [List.take_succ_cons, List.take_zero, List.drop_succ_cons, List.drop_zero]
    by_cases hck : cap = k
    · have x1 : IntKind.i64.wrap ((k : Int) + (m : Int)) = (k : Int) + (m : Int) := IntWalk.i64_in _ (by omega)
      have x2 : (0 : Int) ≤ (k : Int) + (m : Int) := by omega
      have x3 : ((k : Int) + (m : Int)).toNat = k + m := by omega
      have x4 : (k : Int) + (m : Int) ≤ (k : Int) := by omega
      repeat still_step
      refine wpStill_nil ?_
      clear x1 x2 x3 x4
      have hm0 : m = 0 := by omega
      have hs0 : s = [] := List.eq_nil_of_length_eq_zero (HSL.out.trans hm0)
      have HE := Lib.hid (fun cc => extend_n w2 A s m cc 0 HSL.out (by omega) (by omega) (by omega) (by rw [hs0]; exact Rd.nil _ _))
      clear hs0 hm0
      go_wp2_with fail
      refine (HE.out _).mono ?_
      rintro e w3 ⟨rfl, hown, hb⟩
      have HO := Lib.hid hown
      have HB := Lib.hid hb
      clear hown hb
      go_wp2
      go_ret
      exact ⟨_, rfl, OwnB.mk (own_mono HO.out R4.out.size) (below_on R4.out (Nat.le_refl _) HB.out)⟩
    · have x1 : IntKind.i64.wrap ((k : Int) + (m : Int)) = (k : Int) + (m : Int) := IntWalk.i64_in _ (by omega)
      have x2 : (0 : Int) ≤ (k : Int) + (m : Int) := by omega
      have x3 : ((k : Int) + (m : Int)).toNat = k + m := by omega
      have x4 : (k : Int) + (m : Int) ≤ (cap : Int) := by omega
      repeat still_step
      refine wpStill_nil ?_
      clear x1 x2 x3 x4
      have HE := Lib.hid (fun cc => extend_n w2 (A.map (·.add k)) s m cc 0 HSL.out (by omega) (by omega) (by omega) (by rw [← HS.out]; exact R3.out.cut k m))
      go_wp2_with fail
      refine (HE.out _).mono ?_
      rintro e w3 ⟨rfl, hown, hb⟩
      have HO := Lib.hid hown
      have HB := Lib.hid hb
      clear hown hb
      go_wp2
      go_ret
      exact ⟨_, rfl, OwnB.mk (own_mono HO.out R4.out.size) (below_on R4.out (Nat.le_refl _) HB.out)⟩

end Go.Proofs.Ytnbohkiimbooaaa
