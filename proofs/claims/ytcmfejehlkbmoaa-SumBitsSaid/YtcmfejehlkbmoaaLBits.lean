/-
  Proved: the law SumBits returns true for all bytes and every number: inverting one bit changes the checksum. No condition.
-/
import Derived.Test.YtcmfejehlkbmoaaStr
import Derived.Test.YtcmfejehlkbmoaaTel
namespace Go.Proofs.Ytcmfejehlkbmoaa.sumBits
open Go.ChangeShapes Go.WideShapes Go.ChangeAt Go.RowKit


set_option maxHeartbeats 1000000 in
theorem walk_a (A : Option Addr) (NA ca : Nat) (bit : Int) (w : World) (h : NA = 0) :
    Calls Try.prog 6 #[.slice A NA ca, .int .i64 bit] w fun e w' => e = .returned (.bool true) ∧ Below w.heap.size w w' := by
  subst h
  go_enter Try.func6, Try.ntmps6
  go_wp2_with fail
  refine (known_any _).mono ?_
  rintro e w1 ⟨rfl, hb1⟩
  have HB1 := Lib.hid hb1
  clear hb1
  go_wp2
  go_ret
  exact ⟨rfl, HB1.out⟩


set_option maxHeartbeats 1000000 in
theorem walk_b (A : Option Addr) (NA ca : Nat) (bit : Int) (w : World) (h : 4000 < NA) :
    Calls Try.prog 6 #[.slice A NA ca, .int .i64 bit] w fun e w' => e = .returned (.bool true) ∧ Below w.heap.size w w' := by
  have h0 : ((NA : Int) == 0) = false := by simp; omega
  have hd : decide ((4000 : Int) < (NA : Int)) = true := decide_eq_true (by omega)
  go_enter Try.func6, Try.ntmps6
  go_wp2_with fail
  refine (known_any _).mono ?_
  rintro e w1 ⟨rfl, hb1⟩
  have HB1 := Lib.hid hb1
  clear hb1
  go_wp2
  go_ret
  exact ⟨rfl, HB1.out⟩


set_option maxRecDepth 100000 in
set_option maxHeartbeats 8000000 in
theorem walk_c (A : Option Addr) (a : List UInt8) (NA ca : Nat) (bit : Int) (w : World) (hNA : a.length = NA) (hN0 : 0 < NA) (hN : NA ≤ 4000) (hca : NA ≤ ca) (hRA : Rd w A a) :
    Calls Try.prog 6 #[.slice A NA ca, .int .i64 bit] w fun e w' => e = .returned (.bool true) ∧ Below w.heap.size w w' := by
  have h0 : ((NA : Int) == 0) = false := by simp; omega
  have hd : decide ((4000 : Int) < (NA : Int)) = false := decide_eq_false (by omega)
  have HA := Lib.hid hNA
  have RA := Lib.hid hRA
  obtain ⟨U, hU⟩ := Int.eq_ofNat_of_zero_le (show 0 ≤ IntKind.u64.wrap bit by rw [wrap_u64_mod]; omega)
  have hUl : U < 18446744073709551616 := by have := wrap_u64_mod bit; omega
  obtain ⟨M, hM⟩ : ∃ M, 8 * NA = M := ⟨_, rfl⟩
  have hM0 : 0 < M := by omega
  have hMl : M ≤ 32000 := by omega
  obtain ⟨k, hk⟩ : ∃ k, U % M = k := ⟨_, rfl⟩
  have hkM : k < M := by rw [← hk]; exact Nat.mod_lt _ hM0
  have eM : (8 : Int) * (NA : Int) = (M : Int) := by omega
  have eM2 : IntKind.u64.wrap (M : Int) = (M : Int) := IntWalk.u64_in _ (by omega)
  have ek : (U : Int) % (M : Int) = (k : Int) := by rw [← hk]; rfl
  obtain ⟨i, hi⟩ : ∃ i, k / 8 = i := ⟨_, rfl⟩
  obtain ⟨t, ht⟩ : ∃ t, k % 8 = t := ⟨_, rfl⟩
  have hiN : i < NA := by omega
  have ht8 : t < 8 := by omega
  have ei : (k : Int) / 8 = (i : Int) := by omega
  have et : (k : Int) % 8 = (t : Int) := by omega
  clear hNA hRA hk hi ht hM
  go_enter Try.func6, Try.ntmps6
  go_wp2_with (first | (at_builtin; refine wpList_append_vals Try.underlying22 byte_info rfl rfl _ _ rfl w.heap.size (.slice none 0 0) 0 [] rfl (World.ownsRow_nil w w.heap.size 5 1) A (a.map byt) (byt_one a) NA ca (by rw [List.length_map]; exact HA.out) rfl RA.out (by omega) (Nat.le_refl _) ?_; intro v1 w1 ho hg he; rw [Nat.zero_add, List.nil_append] at ho; obtain ⟨A1, c1, rfl, hc1⟩ := own_form ho; have B1 := Lib.hid ((Below.refl w.heap.size w).grown hg (Nat.le_refl _) (fun j ej => by cases ej)); have E1 := Lib.hid he; have O1 := Lib.hid ho; clear ho hg he))
  obtain ⟨g, rfl⟩ := own_some hN0 O1.out
  obtain ⟨b, hb⟩ : ∃ b, a[i]? = some b := ⟨_, List.getElem?_eq_getElem (by rw [HA.out]; exact hiN)⟩
  have hc : w1.cell? ⟨g, i, none⟩ = some (byt b) := by
    rw [O1.out.cellAt i (by omega), List.getElem?_map, hb]
    rfl
  have hf : w1.frozen? ⟨g, i, none⟩ = false := O1.out.frozenAt i
  have hy := b.toNat_lt
  have hp : 2 ^ t < 256 := Nat.pow_lt_pow_right (a := 2) (by decide) (show t < 8 by omega)
  have x1 : IntKind.u8.wrap ((2 : Int) ^ t) = ((2 ^ t : Nat) : Int) := by
    have : ((2 : Int) ^ t) = ((2 ^ t : Nat) : Int) := by simp
    rw [this]
    generalize 2 ^ t = p at hp
    simp [IntKind.wrap, IntKind.bits, IntKind.signed]
    omega
  have x2 := u8_xor_nat b.toNat (2 ^ t) hy hp
  have hz : b.toNat ^^^ 2 ^ t < 256 := Nat.xor_lt_two_pow (n := 8) hy hp
  have hfl : b.toNat ^^^ 2 ^ t ≠ b.toNat := flip_ne
  obtain ⟨v, hv⟩ : ∃ v : UInt8, v.toNat = b.toNat ^^^ 2 ^ t := ⟨UInt8.ofNat (b.toNat ^^^ 2 ^ t), by rw [UInt8.toNat_ofNat', Nat.mod_eq_of_lt hz]⟩
  have hne : b ≠ v := fun e => hfl (by rw [← hv, e])
  have HC : Hid (chk a ≠ chk (a.set i v)) := Lib.hid (chk_set hb hne (by rw [HA.out]; unfold M64; omega))
  have ST := O1.out.stored i (byt v)
  rw [← List.map_set] at ST
  have HST := Lib.hid ST
  rw [← hv] at x2
  obtain ⟨y, hye⟩ : ∃ y, b.toNat = y := ⟨_, rfl⟩
  obtain ⟨z, hze⟩ : ∃ z, v.toNat = z := ⟨_, rfl⟩
  obtain ⟨p, hpe⟩ : ∃ p, 2 ^ t = p := ⟨_, rfl⟩
  simp only [byt] at hc HST
  rw [hye] at hc x2
  rw [hze] at x2 HST
  rw [hpe] at x1 x2
  have HLS : Hid ((a.set i v).length = NA) := Lib.hid (by rw [List.length_set]; exact HA.out)
  clear hb hy hp hz hfl hv hne ST hye hze hpe
  go_region
  obtain ⟨w2, hw2⟩ : ∃ w2, (w1.setCell ⟨g, i, none⟩ (.int .u8 (z : Int))).drew = w2 := ⟨_, rfl⟩
  have B2 : Hid (Below w.heap.size w w2) := Lib.hid (by
    rw [← hw2]
    exact (B1.out.grown HST.out.2 B1.out.size (fun j e => by cases e; exact row_new E1.out rfl)).drew)
  have R2 : Hid (Rd w2 (some ⟨g, 0, none⟩) (a.set i v)) := Lib.hid (by rw [← hw2]; exact Rv.of_own HST.out.1)
  rw [hw2]
  have OF1 := Lib.hid (of_any w2 A a NA ca HA.out hca (by omega) (RA.out.below B2.out))
  have OF2 := Lib.hid (fun (W : World) (hb : Below w2.heap.size w2 W) => of_any W (some ⟨g, 0, none⟩) (a.set i v) NA c1 HLS.out hc1 (by omega) (R2.out.below hb))
  obtain ⟨d1, hd1⟩ : ∃ d1, chk a = d1 := ⟨_, rfl⟩
  obtain ⟨d2, hd2⟩ : ∃ d2, chk (a.set i v) = d2 := ⟨_, rfl⟩
  rw [hd1] at OF1 HC
  rw [hd2] at OF2 HC
  have hq : (d1 != d2) = true := by simpa using HC.out
  have hq2 : ((d1 : Int) != (d2 : Int)) = true := by
    have := HC.out
    simp
    omega
  clear hw2 hd1 hd2 HST O1 E1 hc hf x1 x2
  go_wp2_with fail
  refine OF1.out.mono ?_
  rintro e w3 ⟨rfl, hb⟩
  have B3 := Lib.hid hb
  clear hb
  go_wp2_with fail
  refine (OF2.out w3 B3.out).mono ?_
  rintro e w4 ⟨rfl, hb⟩
  have B4 := Lib.hid (below_on B3.out (Nat.le_refl _) hb)
  clear hb
  go_wp2_with fail
  refine (known_any _).mono ?_
  rintro e w5 ⟨rfl, hbk⟩
  have BK := Lib.hid (below_on B2.out (Nat.le_refl _) (below_on B4.out (Nat.le_refl _) hbk))
  clear hbk
  go_wp2
  go_ret
  exact ⟨rfl, BK.out⟩

theorem walk (A : Option Addr) (a : List UInt8) (ca : Nat) (bit : Int) (w : World) (hRA : Rd w A a) (_ : a.length ≤ 140737488351232) (hca : a.length ≤ ca) (_ : (Lit.int .i64 bit).wf = true) :
    Calls Try.prog 6 #[.slice A a.length ca, .int .i64 bit] w fun e w' => e = .returned (.bool true) ∧ Below w.heap.size w w' := by
  by_cases h0 : a.length = 0
  · exact walk_a A _ ca bit w h0
  · by_cases h1 : 4000 < a.length
    · exact walk_b A _ ca bit w h1
    · exact walk_c A a _ ca bit w rfl (by omega) (by omega) hca hRA

set_option maxRecDepth 100000 in
theorem lifted (os : Os) (started : os.Started) (H : Type) (enc : TypeId × Value → H) :
    ReturnsInHanded {} Try.checked os 6 .any (Rows.sumBitsSpec.pre6 enc Try.prog Try.f6 Rows.sumBitsRow.domain false) (Rows.sumBitsSpec.post enc Try.prog Try.f6 false true false false) := by
  refine returnsInHanded_of_change_sized (C := Try.checked) ownB started (by kernel_rfl) Try.func6
    (ChangeSpec.witness6 (enc := enc) (C := Try.checked) false ⟨#[], #[.slice none 0 0, .int .i64 0], []⟩ 8 (by kernel_rfl) (by kernel_rfl) (by kernel_rfl) (by kernel_rfl)) ?_
  intro W base args ds gs before hval0 hW _ hsz0 _
  have hsz : (DataW.weightsEach Try.prog (Try.f6.params.toList ++ Rows.sumBitsSpec.plain.varTypes Try.prog) (ds ++ gs)).all (· ≤ reachBytes) = true := hsz0
  clear hsz0
  have hval : ∀ (j : Nat) t v, Try.f6.params[j]? = some t → args[j]? = some v → Value.okWide Try.prog W .any base t v := hval0
  have hW' := hW
  obtain ⟨p, q, hA0, hV, rfl, hfz, hnd⟩ := hW
  have hA : DataW.TrodAll enc Try.prog W 0 (fun _ => true) true Try.f6.params.toList args.toList ds p := hA0
  rw [Try.params6] at hA hval hsz
  obtain ⟨v0, vs0, d0, ds0, p0, q0, hargs, rfl, rfl, h0, r0⟩ := trodAll_cons hA
  obtain ⟨v1, vs1, d1, ds1, p1, q1, rfl, rfl, rfl, h1, r1⟩ := trodAll_cons r0
  obtain ⟨rfl, rfl, rfl⟩ := trodAll_nil r1
  obtain rfl : args = #[v0, v1] := by cases args; simp_all
  obtain ⟨rfl, rfl⟩ := trodVars_none hV
  obtain ⟨a0, len0, cap0, rfl⟩ := okWide_slice Try.underlying22 (hval 0 22 v0 rfl rfl)
  have k0 := h0
  have lt0 : ∀ x ∈ p0, x.block < W.heap.size := by obtain ⟨m, hm⟩ := k0; exact DataW.trod_lt m _ _ _ hm
  obtain ⟨l0, rfl, hc0, rd0, hd0⟩ := open_bytes h0
  have hs0 : l0.length ≤ 140737488351232 := by
    rcases hd0 with ⟨h, _⟩ | ⟨es, sp, rfl, h⟩
    · omega
    · have := sized_slice hsz (j := 0) (t := 22) (e := 5) rfl rfl Try.underlying22
      rw [bytes_byte] at this
      simp only [reachBytes] at this
      omega
  obtain ⟨a1, rfl, rfl, rfl, w1⟩ := open_int Try.underlying3 (hval 1 3 v1 rfl rfl) h1
  clear hA0 hval0
  refine (walk a0 l0 cap0 a1 W rd0 hs0 hc0 w1).mono fun e W' ⟨he, bel⟩ => ?_
  subst he
  exact ⟨_, rfl, _, _, _, [], _, [], hW', trodAll_mk1 (shut_bool Try.underlying4 _), (trodAll_cons_mk (Below.trod laidOut (by kernel_rfl) (of_decide_eq_true (by kernel_rfl)) k0 bel lt0) (trodAll_cons_mk (shut_int Try.underlying3 w1) trodAll_mk0)), rfl, bel.frame _, fun h => by cases h⟩

theorem proved : Rows.SumBitsSaid :=
  OpenClaim.holds_of_wide 6 Try.f6 rfl rfl rfl rfl rfl rfl rfl ⟨rfl, rfl, rfl, rfl, rfl⟩ rfl rfl rfl rfl rfl (by kernel_rfl) Try.func6 (by kernel_rfl)
    (of_decide_eq_true (by kernel_rfl)) (by unfold Func.isWrapper; rw [if_neg (by decide +kernel)]; exact ⟨rfl, rfl⟩)
    (fun os started H enc _ => lifted os started H enc)

#print axioms proved

end Go.Proofs.Ytcmfejehlkbmoaa.sumBits
