/-
  What the reference's Bits, Row and Value do. Conditions: the numbers are of their kinds; at most 200 bytes (Row) and 64 bits (Value).
-/
import Derived.Test.YtpjbjbohbdlciaaQRfA
import Derived.Test.YtpjbjbohbdlciaaQUni
import Derived.Deep.DeepCutAuto
namespace Go.Proofs.Ytpjbjbohbdlciaa.Bt
open Go.RowKit

theorem GotB.on {w a w' : World} {l : List Bool} {e : Ending} (h : GotB a l e w') (hb : Below w.heap.size w a) : GotB w l e w' := by
  obtain ⟨A, c, rfl, ho, hb2⟩ := h
  exact ⟨A, c, rfl, own_base ho hb.size, below_on hb (Nat.le_refl _) hb2⟩

theorem bits8 (w : World) (q : Nat) (hq : q < 256) : Calls Try.prog 33 #[.int .u64 (q : Int), .int .i64 8] w fun e w' => ∃ A c, e = .returned (.slice A 8 c) ∧ w'.ownsRow w.heap.size 4 1 (.slice A 8 c) 8 ((bitsOf q 8).map Value.bool) ∧ Below w.heap.size w w' := by
  refine (bits_any w q 8 (by omega) (by decide)).mono ?_
  rintro e w' ⟨A, c, rfl, ho, hb⟩
  rw [bitsOf_len] at ho
  exact ⟨A, c, by rw [bitsOf_len], ho, hb⟩

theorem unp_take {D : List UInt8} {i : Nat} {b : UInt8} (h : D[i]? = some b) : unp (D.take (i + 1)) = unp (D.take i) ++ bitsOf b.toNat 8 := by
  obtain ⟨hi, e⟩ := List.getElem?_eq_some_iff.1 h
  rw [List.take_succ_eq_append_getElem hi, unp_app, e, unp, unp, List.append_nil]

set_option maxRecDepth 100000 in
set_option maxHeartbeats 4000000 in
theorem row_any (w : World) (A : Option Addr) (D : List UInt8) (N cap : Nat) (hN : D.length = N) (hs : N ≤ 500) (hR : Rd w A D) :
    Calls Try.prog 65 #[.slice A N cap] w (GotB w (unp D)) := by
  have HN := Lib.hid hN
  have HR := Lib.hid hR
  clear hN hR
  go_enter Try.func65, Try.ntmps65
  go_wp2_with fail
  go_loopw [3, 4] (fun o b wr => (∃ (i m c : Nat) (B : Option Addr), i ≤ N ∧ o = .slice B m c ∧ b = .int .i64 (i : Int) ∧ m = 8 * i ∧ Hid (wr.ownsRow w.heap.size 4 1 (.slice B m c) m ((unp (D.take i)).map Value.bool)) ∧ Hid (Below w.heap.size w wr))) (fun _ b _ => N - (intOf b).toNat)
  case atStart => exact ⟨0, 0, 0, none, by omega, rfl, rfl, rfl, Lib.hid (World.ownsRow_nil _ _ _ _), Lib.hid (Below.refl _ _)⟩
  case round =>
    obtain ⟨i, m, c, B, hi, rfl, rfl, hm, HO, HB⟩ := hrel
    by_cases hlt : i < N
    · obtain ⟨b, hb⟩ : ∃ b, D[i]? = some b := ⟨_, List.getElem?_eq_getElem (by rw [HN.out]; exact hlt)⟩
      obtain ⟨ad, hA, hc⟩ := (HR.out.below HB.out) i (byt b) (by rw [List.getElem?_map, hb]; rfl)
      subst hA
      have HU := Lib.hid (unp_take hb)
      have BT := Lib.hid (fun W => bits8 W b.toNat b.toNat_lt)
      have hb8 := b.toNat_lt
      simp only [byt] at hc
      obtain ⟨y, hy⟩ : ∃ y, b.toNat = y := ⟨_, rfl⟩
      rw [hy] at HU hc hb8
      simp only [hy] at BT
      clear hy hb
      have hms : m ≤ 4000 := by omega
      have HM := Lib.hid hm
      clear hm
      go_wp2_with (first
        | (at_builtin; refine wpList_append_vals Try.underlying32 bool_info rfl rfl _ _ rfl w.heap.size (.slice B m c) m _ rfl O4.out A4 ((bitsOf y 8).map Value.bool) (bool_one _) 8 c4 (by rw [List.length_map, bitsOf_len]) rfl R4.out (by omega) B4.out.size ?_; intro v5 w5 ho5 hg5 _; obtain ⟨A5, c5, rfl, _⟩ := own_form ho5; have B5 := Lib.hid (B4.out.grown hg5 B4.out.size (fun j ej => (O4.out.lt j ej).1)); have O5 := Lib.hid ho5; clear ho5 hg5)
        | (go_at_call 33; refine (BT.out _).mono ?_; rintro e w4 ⟨A4, c4, rfl, ho4, hb4⟩; have R4 := Lib.hid (Rv.of_own ho4); have O4 := Lib.hid (own_below HO.out hb4); have B4 := Lib.hid (below_on HB.out (Nat.le_refl _) hb4); clear ho4 hb4))
      exact ⟨⟨i + 1, m + 8, c5, A5, by omega, rfl, by simp, by have := HM.out; omega, Lib.hid (by rw [HU.out, List.map_append]; exact O5.out), B5⟩, by simp [intOf]; omega⟩
    · have hie : N = i := by omega
      subst hie
      have e : D.take N = D := List.take_of_length_le (by rw [HN.out]; exact Nat.le_refl _)
      rw [e] at HO
      have hl : (unp D).length = m := by rw [unp_len, HN.out]; omega
      have HLn := Lib.hid hl
      clear hlt hi e hm hl
      go_wp2
      go_ret
      exact ⟨B, c, by rw [HLn.out]; rfl, by rw [HLn.out]; exact HO.out, HB.out⟩

theorem val_drop {l : List Bool} {i : Nat} {b : Bool} (h : l[i]? = some b) : val (l.drop i) = (if b then 1 else 0) + 2 * val (l.drop (i + 1)) := by
  obtain ⟨hi, e⟩ := List.getElem?_eq_some_iff.1 h
  rw [List.drop_eq_getElem_cons hi, val, e]

set_option maxRecDepth 100000 in
set_option maxHeartbeats 4000000 in
theorem rvalue_any (w : World) (A : Option Addr) (l : List Bool) (N cap : Nat) (hN : l.length = N) (hs : N ≤ 64) (hR : Rb w A l) :
    Calls Try.prog 66 #[.slice A N cap] w fun e w' => e = .returned (.int .u64 (val l : Int)) ∧ w = w' := by
  have HN := Lib.hid hN
  have HR := Lib.hid hR
  obtain ⟨R, hRR⟩ : ∃ R, val l = R := ⟨_, rfl⟩
  rw [hRR]
  have HRR := Lib.hid hRR
  clear hN hR hRR
  go_enter Try.func66, Try.ntmps66
  go_wp2_with fail
  go_loopw [3, 4] (fun a b wr => (∃ (j v : Nat), j ≤ N ∧ a = .int .u64 (v : Int) ∧ b = .int .i64 ((j : Int) - 1) ∧ Hid (val (l.drop j) = v)) ∧ w = wr) (fun _ b _ => (intOf b + 1).toNat)
  case atStart => exact ⟨⟨N, 0, by omega, rfl, rfl, Lib.hid (by rw [List.drop_of_length_le (by rw [HN.out]; exact Nat.le_refl _)]; rfl)⟩, rfl⟩
  case round =>
    obtain ⟨⟨j, v, hj, rfl, rfl, HV⟩, hw⟩ := hrel
    subst hw
    by_cases h0 : j = 0
    · subst h0
      have hv : v = R := by rw [← HV.out, ← HRR.out]; rfl
      subst hv
      go_wp2
      go_ret
      exact ⟨rfl, rfl⟩
    · obtain ⟨i, hij⟩ : ∃ i, j = i + 1 := ⟨j - 1, by omega⟩
      have hji : (j : Int) - 1 = (i : Int) := by omega
      have hlt : i < N := by omega
      obtain ⟨b, hb⟩ : ∃ b, l[i]? = some b := ⟨_, List.getElem?_eq_getElem (by rw [HN.out]; exact hlt)⟩
      obtain ⟨ad, hA, hc⟩ := HR.out i (.bool b) (by rw [List.getElem?_map, hb]; rfl)
      subst hA
      have hvd := val_drop hb
      rw [← hij, HV.out] at hvd
      have hv63 : v < 9223372036854775808 := by
        have h1 := val_lt (l.drop j)
        rw [HV.out, List.length_drop, HN.out] at h1
        have h2 : 2 ^ (N - j) ≤ 2 ^ 63 := Nat.pow_le_pow_right (by decide) (by omega)
        omega
      have HVD := Lib.hid hvd
      rw [hji]
      clear hb hvd
      cases b
      · go_wp2_with fail
        exact ⟨⟨⟨i, 2 * v, by omega, by simp, by simp, Lib.hid (by rw [HVD.out]; simp)⟩, by trivial⟩, by simp [intOf] <;> omega⟩
      · go_wp2_with fail
        exact ⟨⟨⟨i, 2 * v + 1, by omega, by simp, by simp, Lib.hid (by rw [HVD.out]; simp; omega)⟩, by trivial⟩, by simp [intOf] <;> omega⟩

end Go.Proofs.Ytpjbjbohbdlciaa.Bt
