/-
  What the inner step nextVarint of a cursor does: it reads a varint as the function gv says; after an error the cursor stands somewhere in its bytes. Condition: at most 3 * 10^14 bytes.
-/
import Derived.Test.YtnbohkiimbooaaaCurA
import Derived.Test.YtnbohkiimbooaaaGv
namespace Go.Proofs.Ytnbohkiimbooaaa
open Go.RowKit Go.Shelf

/-- A varint has been read, or not: r says what. -/
def ReadV (w : World) (c : Nat) (A : Option Addr) (cap : Nat) (l : List UInt8) (k : Nat) (r : VRes) (e : Ending) (w' : World) : Prop :=
  ∃ k', e = .returned (.tuple #[.int .u64 (r.val : Int), .int .i64 (r.err : Int)]) ∧ Cur w' c A cap l k' ∧ w.grownBy w' (some c) ∧ (r.err = 0 → k' = k + r.len)

theorem andNot_low (b : UInt8) : bits BinOp.andNot IntKind.u8 (b.toNat : Int) 128 = ((b.toNat % 128 : Nat) : Int) := by
  have h := u8_andNot_nat b.toNat 128 (by have := b.toNat_lt; omega) (by omega)
  rw [show (255 - 128 : Nat) = 127 by rfl, nat_mask7] at h
  exact h

theorem wrap_u64_mod (n : Int) : IntKind.u64.wrap n = n % 18446744073709551616 := by simp [IntKind.wrap, IntKind.bits, IntKind.signed]
theorem pow_128 (j : Nat) : 2 ^ (7 * j) = 128 ^ j := by rw [Nat.pow_mul]

theorem join_step (acc y j : Nat) (h : acc < 128 ^ j) (hy : y < 128) (hj : j < 9) :
    bits BinOp.or IntKind.u64 (acc : Int) (IntKind.u64.wrap ((y : Int) * 2 ^ (7 * j))) = ((acc + y * 128 ^ j : Nat) : Int) := by
  have hp : 128 ^ (j + 1) ≤ 128 ^ 9 := Nat.pow_le_pow_right (by omega) (by omega)
  have h9 : (128 : Nat) ^ 9 = 9223372036854775808 := by decide
  have hs := step_lt h hy
  have e : ((y : Int) * 2 ^ (7 * j)) = ((y * 128 ^ j : Nat) : Int) := by rw [← pow_128]; simp
  have hw : IntKind.u64.wrap ((y * 128 ^ j : Nat) : Int) = ((y * 128 ^ j : Nat) : Int) := by
    have : y * 128 ^ j < 18446744073709551616 := by omega
    rw [wrap_u64_mod]
    generalize y * 128 ^ j = z at *
    omega
  rw [e, hw, bits_or_u64_nat _ _ (by omega) (by omega)]
  congr 1
  rw [Nat.or_comm, nat_join (7 * j) _ _ (by rw [pow_128]; exact Nat.mul_mod_left _ _) (by rw [pow_128]; exact h), Nat.add_comm]

set_option maxRecDepth 100000 in
set_option maxHeartbeats 2000000 in
theorem nextVarint_any {w : World} {c : Nat} {A : Option Addr} {cap : Nat} {l : List UInt8} {k : Nat} (h : Cur w c A cap l k) :
    Calls Try.prog 43 #[.pointer (some ⟨c, 0, none⟩)] w (ReadV w c A cap l k (gv (l.drop k))) := by
  obtain ⟨r, hr⟩ : ∃ r, gv (l.drop k) = r := ⟨_, rfl⟩
  rw [hr]
  have HR := Lib.hid hr
  have H := Lib.hid h
  clear hr h
  go_enter Try.func43, Try.ntmps43
  go_wp2
  go_loopw [4, 8] (fun v i wr => ∃ j acc : Nat, j ≤ 9 ∧ i = .int .i64 (j : Int) ∧ v = .int .u64 (acc : Int) ∧ Hid (acc < 128 ^ j) ∧ Hid (Cur wr c A cap l (k + j)) ∧ Hid (w.grownBy wr (some c)) ∧ Hid (gv (l.drop k) = gvF (9 - j) j acc (l.drop (k + j)))) (fun _ i _ => 9 - (intOf i).toNat)
  case atStart => exact ⟨0, 0, by omega, rfl, rfl, Lib.hid (by simp), H, Lib.hid (World.grownBy.refl _ _), Lib.hid rfl⟩
  case round =>
    obtain ⟨j, acc, hj, rfl, rfl, hacc, hc, hg, hx⟩ := hrel
    by_cases h9 : j < 9
    · by_cases hk : k + j < l.length
      · obtain ⟨b, hb⟩ : ∃ b, l[k + j]? = some b := ⟨_, List.getElem?_eq_getElem hk⟩
        have HB := Lib.hid (nextByte_ok hc.out b hb)
        have HBB := Lib.hid hb
        clear hb hk
        obtain ⟨V, hV⟩ : ∃ V, acc + b.toNat % 128 * 128 ^ j = V := ⟨_, rfl⟩
        have hjs : bits BinOp.or IntKind.u64 (acc : Int) (IntKind.u64.wrap ((b.toNat : Int) % 128 * 2 ^ (7 * j))) = (V : Int) := by
          have := join_step acc (b.toNat % 128) j hacc.out (by omega) h9
          rw [hV] at this
          rw [show ((b.toNat : Int) % 128) = ((b.toNat % 128 : Nat) : Int) by omega]
          exact this
        have hV2 : V < 128 ^ (j + 1) := by rw [← hV]; exact step_lt hacc.out (by omega)
        have hx2 := hx.out
        have hbl : l.drop (k + j) = b :: l.drop (k + j + 1) := by
          have hk := (List.getElem?_eq_some_iff.1 HBB.out).1
          rw [List.drop_eq_getElem_cons hk, (List.getElem?_eq_some_iff.1 HBB.out).2]
        rw [hbl, show 9 - j = (8 - j) + 1 by omega, HR.out] at hx2
        have HX2 := Lib.hid hx2
        have HV := Lib.hid hV
        have HV2 := Lib.hid hV2
        clear hx2 hV hV2 hbl hx hacc
        have ha := andNot_low b
        by_cases hlt : b.toNat < 128
        · go_wp2_with fail
          refine HB.out.mono ?_
          rintro e w1 ⟨rfl, hc1, hg1⟩
          have HC1 := Lib.hid hc1
          have HG1 := Lib.hid (grown_trans hg.out hg1)
          clear hc1 hg1
          have hE : r = gvEnd j V b := by rw [HX2.out, gvF_last hlt, HV.out]
          have HE := Lib.hid hE
          clear hE
          by_cases hp : 0 < j ∧ b.toNat = 0
          · obtain ⟨hj0, hb0⟩ := hp
            have hb0' : ((b.toNat : Int) == 0) = true := by rw [beq_iff_eq]; omega
            have HP := Lib.hid hb0
            clear hb0
            go_wp2_with fail
            refine (checkVarint_padded _ _).mono ?_
            rintro e w2 ⟨rfl, rfl⟩
            go_wp2
            go_ret2
            have : r = ⟨0, 5, j + 1⟩ := by rw [HE.out, gvEnd, if_pos ⟨hj0, HP.out⟩]
            subst this
            exact ⟨_, rfl, HC1.out, HG1.out, fun h => by simp at h⟩
          · have HP := Lib.hid hp
            have hpf : ∀ W, Calls Try.prog 58 #[.int .u64 (V : Int), .bool false] W (fun e w' => e = .returned (.tuple #[.int .u64 (r.val : Int), .int .i64 (r.err : Int)]) ∧ W = w' ∧ (r.err = 0 → r.len = j + 1)) := by
              intro W
              have he := HE.out
              rw [gvEnd, if_neg hp] at he
              by_cases hm : 4611686018427387903 < V
              · rw [if_pos hm] at he
                subst he
                exact (checkVarint_big W V (by omega)).mono fun e w' ⟨h1, h2⟩ => ⟨h1, h2, fun h => by simp at h⟩
              · rw [if_neg hm] at he
                subst he
                exact (checkVarint_ok W V (by omega)).mono fun e w' ⟨h1, h2⟩ => ⟨h1, h2, fun _ => rfl⟩
            have HPF := Lib.hid hpf
            clear hpf hp
            by_cases hj0 : 0 < j
            · have hb0' : ((b.toNat : Int) == 0) = false := by
                rw [beq_eq_false_iff_ne]
                have := HP.out
                omega
              go_wp2_with fail
              refine (HPF.out _).mono ?_
              rintro e w2 ⟨rfl, rfl, hz⟩
              have HZ := Lib.hid hz
              clear hz
              go_wp2
              go_ret2
              exact ⟨_, rfl, HC1.out, HG1.out, fun h => by rw [HZ.out h]; omega⟩
            · go_wp2_with fail
              refine (HPF.out _).mono ?_
              rintro e w2 ⟨rfl, rfl, hz⟩
              have HZ := Lib.hid hz
              clear hz
              go_wp2
              go_ret2
              exact ⟨_, rfl, HC1.out, HG1.out, fun h => by rw [HZ.out h]; omega⟩
        · go_wp2_with fail
          refine HB.out.mono ?_
          rintro e w1 ⟨rfl, hc1, hg1⟩
          have HC1 := Lib.hid hc1
          have HG1 := Lib.hid (grown_trans hg.out hg1)
          clear hc1 hg1
          have hE : r = gvF (8 - j) (j + 1) V (l.drop (k + j + 1)) := by rw [HX2.out, gvF_on (by omega), HV.out]
          have HE := Lib.hid hE
          clear hE
          go_wp2
          refine ⟨⟨j + 1, V, by omega, by simp, rfl, HV2, HC1, HG1, Lib.hid ?_⟩, by simp [intOf]; omega⟩
          rw [HR.out, HE.out, show 9 - (j + 1) = 8 - j by omega]
          rfl
      · have HB := Lib.hid (nextByte_short hc.out (by omega))
        go_wp2_with fail
        refine HB.out.mono ?_
        rintro e w1 ⟨rfl, d, rfl⟩
        have hE : r = ⟨0, 3, j⟩ := by
          rw [← HR.out, hx.out, List.drop_eq_nil_of_le (by omega), show 9 - j = (8 - j) + 1 by omega, gvF_none]
        have HE := Lib.hid hE
        clear hE
        go_wp2
        go_ret2
        have he := HE.out
        subst he
        exact ⟨k + j, rfl, hc.out.drewN d, grown_drewN hg.out d, fun h => by simp at h⟩
    · have hj9 : j = 9 := by omega
      subst hj9
      have hE : r = ⟨0, 18, 9⟩ := by rw [← HR.out, hx.out]; rfl
      have HE := Lib.hid hE
      clear hE
      go_wp2
      go_ret2
      have he := HE.out
      subst he
      exact ⟨k + 9, rfl, hc.out, hg.out, fun h => by simp at h⟩

end Go.Proofs.Ytnbohkiimbooaaa
