/-
  What the reference's Of does: it returns the checksum of the document. Nothing that was there has changed. Condition: fewer than 2^40 bytes.
-/
import Derived.Test.YtcmfejehlkbmoaaOf
namespace Go.Proofs.Ytcmfejehlkbmoaa
open Go.RowKit

/-- The bytes of the group at i from its j-th on. -/
def tl (l : List UInt8) (i j : Nat) : Nat := le ((l.drop (i + j)).take (8 - j))

theorem tl_lt (l : List UInt8) (i j : Nat) : tl l i j < 256 ^ (8 - j) :=
  Nat.lt_of_lt_of_le (le_lt _) (Nat.pow_le_pow_right (n := 256) (by decide) (by simp; omega))
theorem tl_8 (l : List UInt8) (i : Nat) : tl l i 8 = 0 := by simp [tl, le]
theorem tl_0 (l : List UInt8) (k : Nat) : tl l (8 * k) 0 = grp l k := rfl
theorem tl_in {l : List UInt8} {i j : Nat} {b : UInt8} (hj : j < 8) (h : l[i + j]? = some b) : tl l i j = 256 * tl l i (j + 1) + b.toNat := by
  have hlt : i + j < l.length := (List.getElem?_eq_some_iff.1 h).1
  have hb : l[i + j] = b := (List.getElem?_eq_some_iff.1 h).2
  unfold tl
  rw [List.drop_eq_getElem_cons hlt, show 8 - j = (8 - (j + 1)) + 1 by omega, List.take_succ_cons, le, hb, Nat.add_comm, Nat.add_assoc]
theorem tl_out {l : List UInt8} {i j : Nat} (h : l.length ≤ i + j) : tl l i j = 0 ∧ tl l i (j + 1) = 0 := by
  unfold tl
  rw [List.drop_of_length_le h, List.drop_of_length_le (by omega)]
  simp [le]

set_option maxRecDepth 100000 in
set_option maxHeartbeats 4000000 in
theorem rof_any (w : World) (A : Option Addr) (l : List UInt8) (N c : Nat) (hN : l.length = N) (hs : N ≤ 1099511627776) (hR : Rd w A l) :
    Calls Try.prog 13 #[.slice A N c] w fun e w' => e = .returned (.int .u64 (chk l : Int)) ∧ w' = w := by
  obtain ⟨R, hRR⟩ : ∃ R, chk l = R := ⟨_, rfl⟩
  rw [hRR]
  have HR := Lib.hid hRR
  have HN := Lib.hid hN
  have HRD := Lib.hid hR
  clear hRR hN hR
  go_enter Try.func13, Try.ntmps13
  go_wp2
  go_loop [3, 4] (fun v i => ∃ k : Nat, k ≤ grps N ∧ i = .int .i64 ((8 * k : Nat) : Int) ∧ v = .int .u64 (rn K3 l k : Int)) (fun _ i => N + 8 - (intOf i).toNat)
  case atStart => exact ⟨0, Nat.zero_le _, rfl, rfl⟩
  case round =>
    obtain ⟨k, hk, rfl, rfl⟩ := hrel
    have hh : rn K3 l k < M64 := rn_lt (by decide) _ _
    obtain ⟨h, hhe⟩ : ∃ h, rn K3 l k = h := ⟨_, rfl⟩
    have HH := Lib.hid hhe
    rw [hhe] at hh ⊢
    obtain ⟨i, hi⟩ : ∃ i, 8 * k = i := ⟨_, rfl⟩
    have HI := Lib.hid hi
    rw [hi]
    have HK := Lib.hid hk
    clear hhe hi hk
    by_cases hlt : i < N
    · have HL : Hid (k < grps N) := Lib.hid (by have := HI.out; unfold grps; omega)
      go_wp2
      go_loop [5, 6] (fun v p => ∃ j : Nat, j ≤ 8 ∧ p = .int .i64 ((j : Int) - 1) ∧ v = .int .u64 (tl l i j : Int)) (fun _ p => (intOf p + 1).toNat)
      case atStart => exact ⟨8, by omega, by simp, by rw [tl_8]; rfl⟩
      case round =>
        obtain ⟨j, hj, rfl, rfl⟩ := hrel
        rcases j with _ | j
        · -- the group's number
          have HG : Hid (tl l i 0 = grp l k) := Lib.hid (by rw [← HI.out]; exact tl_0 l k)
          obtain ⟨v, hv⟩ : ∃ v, tl l i 0 = v := ⟨_, rfl⟩
          obtain ⟨x1, x2⟩ := step_eq (v := v) hh
          have ha : h ^^^ (v * K1 % M64) < M64 := xor_lt64 hh (Nat.mod_lt _ (by decide))
          obtain ⟨u, hu⟩ : ∃ u, v * K1 % M64 = u := ⟨_, rfl⟩
          rw [hu] at x1 x2 ha
          obtain ⟨a, hae⟩ : ∃ a, h ^^^ u = a := ⟨_, rfl⟩
          rw [hae] at x2 ha
          have HS : Hid (rn K3 l (k + 1) = rot a * K2 % M64) := Lib.hid (by rw [rn, HH.out, ← HG.out, hv, step, hu, hae])
          have HT := Lib.hid (turned_any w a ha)
          obtain ⟨q, hq⟩ : ∃ q, rot a = q := ⟨_, rfl⟩
          rw [hq] at HS HT
          have x3 : IntKind.u64.wrap ((q : Int) * 15485907386658061715) = ((q * K2 % M64 : Nat) : Int) := by rw [wrap_u64_mod]; unfold K2 M64; omega
          obtain ⟨t, ht⟩ : ∃ t, q * K2 % M64 = t := ⟨_, rfl⟩
          rw [ht] at x3 HS
          rw [hv]
          clear hu hae hq ht hv ha HG
          go_wp2_with (go_at_call 20; refine HT.out.mono ?_; rintro e w' ⟨rfl, rfl⟩)
          refine ⟨⟨k + 1, HL.out, by have := HI.out; simp; omega, by rw [HS.out]⟩, by simp [intOf]; omega⟩
        · rw [show (((j + 1 : Nat) : Int) - 1) = (j : Int) by omega]
          have hV : tl l i (j + 1) < 72057594037927936 := Nat.lt_of_lt_of_le (tl_lt l i (j + 1)) (Nat.pow_le_pow_right (n := 256) (by decide) (show 8 - (j + 1) ≤ 7 by omega))
          by_cases hin : i + j < N
          · obtain ⟨b, hb⟩ : ∃ b, l[i + j]? = some b := ⟨_, List.getElem?_eq_getElem (by rw [HN.out]; exact hin)⟩
            have HV := Lib.hid (tl_in (by omega) hb)
            obtain ⟨ad, hA, hc⟩ := HRD.out (i + j) (byt b) (by rw [List.getElem?_map, hb]; rfl)
            have hyl := b.toNat_lt
            obtain ⟨y, hy⟩ : ∃ y, b.toNat = y := ⟨_, rfl⟩
            obtain ⟨V, hVe⟩ : ∃ V, tl l i (j + 1) = V := ⟨_, rfl⟩
            simp only [byt] at hc
            rw [hy] at HV hc hyl
            rw [hVe] at HV hV
            simp only [hVe]
            clear hb hy hVe
            have hj8 : j < 8 := by omega
            clear hj
            subst hA
            go_wp2
            exact ⟨⟨j, by omega, rfl, by rw [HV.out]; simp⟩, by simp [intOf]⟩
          · obtain ⟨z0, z1⟩ := tl_out (l := l) (i := i) (j := j) (by rw [HN.out]; omega)
            have HZ := Lib.hid z0
            rw [z1]
            clear z0 z1 hV
            have hj8 : j < 8 := by omega
            clear hj
            go_wp2
            exact ⟨⟨j, by omega, rfl, by rw [HZ.out]; rfl⟩, by simp [intOf]⟩
    · have HE : Hid (chk l = fin h N) := Lib.hid (by
        have : k = grps N := by have := HI.out; have := HK.out; unfold grps at *; omega
        unfold chk
        rw [HN.out, ← this, HH.out])
      obtain ⟨f1, F2, F3, F4⟩ := end_facts hh (show N < M64 by unfold M64; omega)
      have hae : h ^^^ N < M64 := xor_lt64 hh (by unfold M64; omega)
      obtain ⟨a, ha⟩ : ∃ a, h ^^^ N = a := ⟨_, rfl⟩
      rw [ha] at f1 hae
      have f2 := F2 a hae
      have hbe := mix29_lt hae
      obtain ⟨b, hbb⟩ : ∃ b, mix29 a = b := ⟨_, rfl⟩
      rw [hbb] at f2
      have f3 := F3 b
      have hce : b * K1 % M64 < M64 := Nat.mod_lt _ (by decide)
      obtain ⟨c, hc⟩ : ∃ c, b * K1 % M64 = c := ⟨_, rfl⟩
      rw [hc] at f3 hce
      have f4 := F4 c hce
      have HF : Hid (R = mix32 c) := Lib.hid (by rw [← HR.out, HE.out, fin, ha, hbb, hc])
      obtain ⟨d, hd⟩ : ∃ d, mix32 c = d := ⟨_, rfl⟩
      rw [hd] at f4 HF
      have fl : IntKind.u64.wrap (N : Int) = (N : Int) := IntWalk.u64_in _ (by omega)
      have ha2 : a < 18446744073709551616 := hae
      have hc2 : c < 18446744073709551616 := hce
      clear F2 F3 F4 hae ha hbe hbb hce hc hd HE
      go_wp2
      go_ret
      exact ⟨by rw [HF.out]; rfl, rfl⟩

end Go.Proofs.Ytcmfejehlkbmoaa
