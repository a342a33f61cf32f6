/-
  Proved: the law BitoutBytes returns true for all bytes and all calls: bytes written in 8 bits each are returned unchanged by Bytes, also when further bits follow. No condition.
-/
import Derived.Test.YtaedfbceaolbcaaFrm
namespace Go.Proofs.Ytaedfbceaolbcaa.bitoutBytes
open Go.ChangeShapes Go.WideShapes Go.ChangeAt Go.RowKit

theorem byts_app (k V : Nat) : ∀ F : List UInt8, byts (F.length + k) (num F + 256 ^ F.length * V) = F ++ byts k V
  | [] => by simp [num]
  | b :: F => by
    have hb := b.toNat_lt
    rw [List.length_cons, show F.length + 1 + k = (F.length + k) + 1 by omega, byts, num]
    have e0 : b.toNat + 256 * num F + 256 ^ (F.length + 1) * V = b.toNat + 256 * (num F + 256 ^ F.length * V) := by
      rw [Nat.pow_succ, Nat.mul_add, Nat.mul_comm (256 ^ F.length) 256, Nat.mul_assoc, Nat.add_assoc]
    rw [e0, Nat.add_mul_mod_self_left, Nat.add_mul_div_left _ _ (by decide), Nat.div_eq_of_lt (show b.toNat < 256 from hb), Nat.zero_add, byts_app k V F, Nat.mod_eq_of_lt (show b.toNat < 256 from hb)]
    simp

theorem pack_app (F : List UInt8) (m : List Bool) : pack (unp F ++ m) = F ++ pack m := by
  rw [pack, pack, val_app, val_unp, unp_len, List.length_append, unp_len, Nat.pow_mul, show (8 * F.length + m.length + 7) / 8 = F.length + (m.length + 7) / 8 by omega]
  exact byts_app _ _ F

theorem pack_unp (F : List UInt8) : pack (unp F) = F := by
  have := pack_app F []
  rw [List.append_nil] at this
  rw [this]
  simp [pack, byts]

theorem unp_take {l : List UInt8} {i : Nat} {b : UInt8} (h : l[i]? = some b) : unp (l.take (i + 1)) = unp (l.take i) ++ bitsOf b.toNat 8 := by
  obtain ⟨hi, e⟩ := List.getElem?_eq_some_iff.1 h
  rw [List.take_succ_eq_append_getElem hi, unp_app, e, unp, unp, List.append_nil]

set_option maxHeartbeats 1000000 in
theorem walk_big (A : Option Addr) (N cap : Nat) (q n : Int) (w : World) (hN : 200 < N) :
    Calls Try.prog 8 #[.slice A N cap, .int .u64 q, .int .i64 n] w fun e w' => e = .returned (.bool true) ∧ Below w.heap.size w w' := by
  have hd : decide ((200 : Int) < (N : Int)) = true := decide_eq_true (by omega)
  go_enter Try.func8, Try.ntmps8
  go_wp2_with fail
  refine (known_any _).mono ?_
  rintro e w1 ⟨rfl, hb1⟩
  have HB1 := Lib.hid hb1
  clear hb1
  go_wp2
  go_ret
  exact ⟨rfl, HB1.out⟩

set_option maxHeartbeats 1000000 in
theorem walk_not (A : Option Addr) (N cap : Nat) (q : Nat) (n : Int) (w : World) (hN : N ≤ 200) (hq : q < 18446744073709551616) (hm : may q n = false) :
    Calls Try.prog 8 #[.slice A N cap, .int .u64 (q : Int), .int .i64 n] w fun e w' => e = .returned (.bool true) ∧ Below w.heap.size w w' := by
  have hd : decide ((200 : Int) < (N : Int)) = false := decide_eq_false (by omega)
  have MY := Lib.hid (may_any w q n hq)
  rw [hm] at MY
  clear hm
  go_enter Try.func8, Try.ntmps8
  go_wp2_with fail
  refine MY.out.mono ?_
  rintro e w1 ⟨rfl, rfl⟩
  go_wp2_with fail
  refine (known_any _).mono ?_
  rintro e w1 ⟨rfl, hb1⟩
  have HB1 := Lib.hid hb1
  clear hb1
  go_wp2
  go_ret
  exact ⟨rfl, HB1.out⟩

set_option maxRecDepth 100000 in
set_option maxHeartbeats 4000000 in
theorem walk_small (A : Option Addr) (l : List UInt8) (N cap : Nat) (q n : Nat) (w : World) (hN : l.length = N) (hN2 : N ≤ 200) (hR : Rd w A l) (hq : q < 18446744073709551616) (hn : n ≤ 64) (hm : may q n = true) :
    Calls Try.prog 8 #[.slice A N cap, .int .u64 (q : Int), .int .i64 (n : Int)] w fun e w' => e = .returned (.bool true) ∧ Below w.heap.size w w' := by
  have A0 := Lib.hid (At.new w w (Below.refl _ _))
  have PT := Lib.hid (fun (W : World) (v : Value) (h : At w W w.heap.size v (unp l)) => putc_yes h.wr (by rw [unp_len]; omega) q n hm)
  have MY := Lib.hid (may_any w q n hq)
  rw [hm] at MY
  have hd : decide ((200 : Int) < (N : Int)) = false := decide_eq_false (by omega)
  have HN := Lib.hid hN
  have HR := Lib.hid hR
  obtain ⟨K, hK⟩ : ∃ K, (n + 7) / 8 = K := ⟨_, rfl⟩
  have hK2 : ((n : Int) + 7) / 8 = (K : Int) := by omega
  have HPK : Hid (pack (unp l ++ bitsOf q n) = l ++ pack (bitsOf q n)) := Lib.hid (pack_app _ _)
  have HPL : Hid ((l ++ pack (bitsOf q n)).length = N + K) := Lib.hid (by rw [List.length_append, pack_len, bitsOf_len, hN, hK])
  have HLU : Hid ((unp l).length = 8 * N) := Lib.hid (by rw [unp_len, hN])
  have HKs : Hid (K ≤ 8) := Lib.hid (by omega)
  clear hN hR hm hK
  go_enter Try.func8, Try.ntmps8
  go_wp2_with fail
  refine MY.out.mono ?_
  rintro e w1 ⟨rfl, rfl⟩
  clear MY hd
  go_wp2_with fail
  go_loopw [8] (fun b wr => (∃ (i : Nat) (v' : Value), i ≤ N ∧ b = .int .i64 (i : Int) ∧ Hid (At w wr w.heap.size v' (unp (l.take i))))) (fun b _ => N - (intOf b).toNat)
  case atStart => exact ⟨0, _, by omega, rfl, A0⟩
  case round =>
    obtain ⟨i, v', hi, rfl, HA⟩ := hrel
    by_cases hlt : i < N
    · obtain ⟨b, hb⟩ : ∃ b, l[i]? = some b := ⟨_, List.getElem?_eq_getElem (by rw [HN.out]; exact hlt)⟩
      obtain ⟨aL, haL, e0⟩ := (HR.out.below HA.out.bel) i (byt b) (by rw [List.getElem?_map, hb]; rfl)
      subst haL
      have HT := Lib.hid (unp_take hb)
      have hbl := b.toNat_lt
      have PB := Lib.hid (putc_yes HA.out.wr (by rw [unp_len, List.length_take]; omega) b.toNat 8 (by simp [may]; omega))
      clear hb
      go_wp2_with fail
      refine PB.out.mono ?_
      rintro e w1 ⟨rfl, v1, hw1, hc1, hn1⟩
      have A1 := Lib.hid (HA.out.chg hw1 hc1 hn1)
      clear hw1 hc1 hn1
      go_wp2_with fail
      exact ⟨⟨i + 1, v1, by omega, by simp, Lib.hid (by rw [HT.out]; exact A1.out)⟩, by simp [intOf]; omega⟩
    · have hie : i = N := by omega
      subst hie
      have e : l.take i = l := List.take_of_length_le (by rw [HN.out]; exact Nat.le_refl _)
      rw [e] at HA
      clear hlt hi e
      go_wp2_with fail
      refine (len_r HA.out.wr (by rw [HLU.out]; omega) (8 * (i : Int)) (by rw [HLU.out]; simp)).mono ?_
      rintro e w2 ⟨rfl, d2, rfl⟩
      have A2 := Lib.hid (HA.out.dr d2)
      clear HA
      go_wp2_with fail
      refine (bytes_r A2.out.wr (by rw [HLU.out]; omega) l i (pack_unp l) HN.out).mono ?_
      rintro e w3 ⟨A3, c3, rfl, hr3, _, hb3⟩
      have A3' := Lib.hid (A2.out.on hb3)
      have R3 := Lib.hid hr3
      clear A2 hr3 hb3
      go_wp2_with fail
      refine (same_n _ _ _ l l _ _ HN.out HN.out _ _ R3.out (HR.out.below A3'.out.bel) rfl).mono ?_
      rintro e w4 ⟨rfl, rfl⟩
      clear R3
      go_wp2_with fail
      refine (PT.out _ _ A3'.out).mono ?_
      rintro e w5 ⟨rfl, v5, hw5, hc5, hn5⟩
      have A5 := Lib.hid (A3'.out.chg hw5 hc5 hn5)
      clear A3' hw5 hc5 hn5 PT
      rw [Int.toNat_natCast] at A5
      go_wp2_with fail
      refine (bytes_any A5.out.wr (by rw [List.length_append, HLU.out, bitsOf_len]; omega)).mono ?_
      rw [HPK.out]
      rintro e w6 ⟨A6, c6, rfl, ho6, hb6⟩
      rw [HPL.out] at ho6 ⊢
      have hcap : i + K ≤ c6 := by
        obtain ⟨_, _, e, h⟩ := own_form ho6
        injection e with _ _ e
        omega
      have R6 : Hid (Rd w6 A6 l) := Lib.hid (by
        have h1 := Rv.of_own ho6
        rw [List.map_append] at h1
        have h2 := h1.take (l.map byt).length
        rwa [List.take_left] at h2)
      have A6' := Lib.hid (A5.out.on hb6)
      clear A5 ho6 hb6
      go_wp2_with fail
      refine (same_n _ _ _ l l _ _ HN.out HN.out _ _ R6.out (HR.out.below A6'.out.bel) rfl).mono ?_
      rintro e w7 ⟨rfl, rfl⟩
      clear R6
      go_wp2_with fail
      refine (known_any _).mono ?_
      rintro e w8 ⟨rfl, hb8⟩
      have HB8 := Lib.hid (below_on A6'.out.bel (Nat.le_refl _) hb8)
      clear hb8 A6'
      go_wp2
      go_ret
      exact ⟨rfl, HB8.out⟩

theorem walk (A : Option Addr) (l : List UInt8) (cap : Nat) (q n : Int) (w : World) (hR : Rd w A l) (_hs : l.length ≤ 140737488351232) (_hc : l.length ≤ cap) (wq : (Lit.int .u64 q).wf = true) (_wn : (Lit.int .i64 n).wf = true) :
    Calls Try.prog 8 #[.slice A l.length cap, .int .u64 q, .int .i64 n] w fun e w' => e = .returned (.bool true) ∧ Below w.heap.size w w' := by
  have hq := bounds_u64 wq
  obtain ⟨q, rfl⟩ := Int.eq_ofNat_of_zero_le hq.1
  by_cases h : 200 < l.length
  · exact walk_big A _ cap q n w h
  · by_cases hm : may q n = true
    · have hm' := hm
      simp [may] at hm'
      obtain ⟨n, rfl⟩ := Int.eq_ofNat_of_zero_le hm'.1.1
      exact walk_small A l _ cap q n w rfl (by omega) hR (by omega) (by omega) hm
    · exact walk_not A _ cap q n w (by omega) (by omega) (by simpa using hm)

set_option maxRecDepth 100000 in
theorem lifted (os : Os) (started : os.Started) (H : Type) (enc : TypeId × Value → H) :
    ReturnsInHanded {} Try.checked os 8 .any (Rows.bitoutBytesSpec.pre6 enc Try.prog Try.f8 Rows.bitoutBytesRow.domain false) (Rows.bitoutBytesSpec.post enc Try.prog Try.f8 false true false false) := by
  refine returnsInHanded_of_change_sized (C := Try.checked) ownB started (by kernel_rfl) Try.func8
    (ChangeSpec.witness6 (enc := enc) (C := Try.checked) false ⟨#[], #[.slice none 0 0, .int .u64 0, .int .i64 0], []⟩ 8 (by kernel_rfl) (by kernel_rfl) (by kernel_rfl) (by kernel_rfl)) ?_
  intro W base args ds gs before hval0 hW _ hsz0 _
  have hsz : (DataW.weightsEach Try.prog (Try.f8.params.toList ++ Rows.bitoutBytesSpec.plain.varTypes Try.prog) (ds ++ gs)).all (· ≤ reachBytes) = true := hsz0
  clear hsz0
  have hval : ∀ (j : Nat) t v, Try.f8.params[j]? = some t → args[j]? = some v → Value.okWide Try.prog W .any base t v := hval0
  have hW' := hW
  obtain ⟨p, q, hA0, hV, rfl, hfz, hnd⟩ := hW
  have hA : DataW.TrodAll enc Try.prog W 0 (fun _ => true) true Try.f8.params.toList args.toList ds p := hA0
  rw [Try.params8] at hA hval hsz
  obtain ⟨v0, vs0, d0, ds0, p0, q0, hargs, rfl, rfl, h0, r0⟩ := trodAll_cons hA
  obtain ⟨v1, vs1, d1, ds1, p1, q1, rfl, rfl, rfl, h1, r1⟩ := trodAll_cons r0
  obtain ⟨v2, vs2, d2, ds2, p2, q2, rfl, rfl, rfl, h2, r2⟩ := trodAll_cons r1
  obtain ⟨rfl, rfl, rfl⟩ := trodAll_nil r2
  obtain rfl : args = #[v0, v1, v2] := by cases args; simp_all
  obtain ⟨rfl, rfl⟩ := trodVars_none hV
  obtain ⟨a0, len0, cap0, rfl⟩ := okWide_slice Try.underlying26 (hval 0 26 v0 rfl rfl)
  have k0 := h0
  have lt0 : ∀ x ∈ p0, x.block < W.heap.size := by obtain ⟨m, hm⟩ := k0; exact DataW.trod_lt m _ _ _ hm
  obtain ⟨l0, rfl, hc0, rd0, hd0⟩ := open_bytes h0
  have hs0 : l0.length ≤ 140737488351232 := by
    rcases hd0 with ⟨h, _⟩ | ⟨es, sp, rfl, h⟩
    · omega
    · have := sized_slice hsz (j := 0) (t := 26) (e := 5) rfl rfl Try.underlying26
      rw [bytes_byte] at this
      simp only [reachBytes] at this
      omega
  obtain ⟨a1, rfl, rfl, rfl, w1⟩ := open_int Try.underlying40 (hval 1 40 v1 rfl rfl) h1
  obtain ⟨a2, rfl, rfl, rfl, w2⟩ := open_int Try.underlying3 (hval 2 3 v2 rfl rfl) h2
  clear hA0 hval0
  refine (walk a0 l0 cap0 a1 a2 W rd0 hs0 hc0 w1 w2).mono fun e W' ⟨he, bel⟩ => ?_
  subst he
  exact ⟨_, rfl, _, _, _, [], _, [], hW', trodAll_mk1 (shut_bool Try.underlying4 _), (trodAll_cons_mk (Below.trod laidOut (by kernel_rfl) (of_decide_eq_true (by kernel_rfl)) k0 bel lt0) (trodAll_cons_mk (shut_int Try.underlying40 w1) (trodAll_cons_mk (shut_int Try.underlying3 w2) trodAll_mk0))), rfl, bel.frame _, fun h => by cases h⟩

theorem proved : Rows.BitoutBytesSaid :=
  OpenClaim.holds_of_wide 8 Try.f8 rfl rfl rfl rfl rfl rfl rfl ⟨rfl, rfl, rfl, rfl, rfl⟩ rfl rfl rfl rfl rfl (by kernel_rfl) Try.func8 (by kernel_rfl)
    (of_decide_eq_true (by kernel_rfl)) (by unfold Func.isWrapper; rw [if_neg (by decide +kernel)]; exact ⟨rfl, rfl⟩)
    (fun os started H enc _ => lifted os started H enc)

#print axioms proved

end Go.Proofs.Ytaedfbceaolbcaa.bitoutBytes
