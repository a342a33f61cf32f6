/-
  Proved: the law BitinBackward returns true for all bytes and all sequences of calls: which bytes are a closed stream, and the results of Peek, Take and Skip on a Backward reader, are those of the reference. No condition.
-/
import Derived.Test.YtckboifdkagacaaRfP
import Derived.Deep.CutRange
namespace Go.Proofs.Ytckboifdkagacaa.bitinBackward
open Go.ChangeShapes Go.WideShapes Go.ChangeAt Go.RowKit

/-- The reference's reader before place e of D. -/
def RfE (w : World) (y g : Nat) (D : List UInt8) (e : Nat) : Prop := ∃ A c k, k + e ≤ 1600 ∧ Rf w y g A c ((unp D).take e) k
theorem RfE.other {w w' : World} {y g x : Nat} {D : List UInt8} {s : Nat} (h : RfE w y g D s) (hy : y ≠ x) (hgx : g ≠ x) (hg : w.grownBy w' (some x)) : RfE w' y g D s := by
  obtain ⟨A, c, k, hk, h⟩ := h
  exact ⟨A, c, k, hk, h.same hg.size (hg.block y h.lt (by simpa using hy)) fun ad e => hg.block g (h.ne ad e).2.2 (by simpa using hgx)⟩
theorem RfE.below {w w' : World} {y g : Nat} {D : List UInt8} {s : Nat} (h : RfE w y g D s) (hb : Below w.heap.size w w') : RfE w' y g D s := by
  obtain ⟨A, c, k, hk, h⟩ := h
  exact ⟨A, c, k, hk, h.below hb⟩
theorem RfE.drewN {w : World} {y g : Nat} {D : List UInt8} {s : Nat} (h : RfE w y g D s) (d : Nat) : RfE (w.drewN d) y g D s := by
  obtain ⟨A, c, k, hk, h⟩ := h
  exact ⟨A, c, k, hk, h.drewN d⟩

theorem last_u {w : World} {y g : Nat} {D : List UInt8} {e : Nat} (h : RfE w y g D e) (he : e ≤ 8 * D.length) (n : Int) (r : Int) (hr : chk n e 14 = r) (V : Nat) (hV : bval D n e = V) (e' : Nat) (hs' : bpos n e = e') :
    Calls Try.prog 24 #[.pointer (some ⟨y, 0, none⟩), .int .i64 n] w fun q w' => q = .returned (.tuple #[.int .u64 (V : Int), .int .i64 r]) ∧ RfE w' y g D e' ∧ w.grownBy w' (some y) := by
  obtain ⟨A, c, k, hk, h⟩ := h
  have hl : ((unp D).take e).length = e := by rw [List.length_take, unp_len]; omega
  subst hV hs'
  unfold bval bpos
  rw [hr]
  by_cases h0 : r = 0
  · subst h0
    have hn := chk_ok hr (by decide)
    obtain ⟨n, rfl⟩ := Int.eq_ofNat_of_zero_le hn.1
    refine (last_ok h (by omega) (by rw [hl]; omega) n (by omega) (by rw [hl]; omega)).mono ?_
    rintro q w' ⟨rfl, ⟨A', c', h'⟩, hg⟩
    rw [hl, List.take_take, Nat.min_eq_left (by omega)] at h'
    have hv : val (((unp D).take e).drop (((unp D).take e).length - n)) = cut D (e - n) n := by
      rw [hl, cut, List.drop_take, show e - (e - n) = n by omega]
    rw [hv]
    exact ⟨rfl, ⟨A', c', k + n, by simp; omega, h'⟩, hg⟩
  · rw [if_neg h0, if_neg h0]
    refine (last_err h n r (by rw [hl]; exact hr) h0).mono ?_
    rintro q w' ⟨rfl, rfl⟩
    exact ⟨rfl, ⟨A, c, k, hk, h⟩, World.grownBy.refl _ _⟩

theorem rpeek_u {w : World} {y g : Nat} {D : List UInt8} {e : Nat} (h : RfE w y g D e) (he : e ≤ 8 * D.length) (n : Int) (m : Nat) (hm : min n.toNat 64 = m) (V : Nat) (hV : pk D e m = V) :
    Calls Try.prog 23 #[.pointer (some ⟨y, 0, none⟩), .int .i64 n] w (PkPost w V) := by
  obtain ⟨A, c, k, hk, h⟩ := h
  have := rpeek_any h (by rw [List.length_take]; omega) n m hm
  rw [rpk_eq D e m he, hV] at this
  exact this

theorem rback_n (w : World) (A : Option Addr) (D : List UInt8) (N cap : Nat) (hN : D.length = N) (hs : N ≤ 200) (hR : Rd w A D) (he : endOf D = none) :
    Calls Try.prog 21 #[.slice A N cap] w fun r w' => r = .returned (.tuple #[.pointer none, .int .i64 14]) ∧ Below w.heap.size w w' := by
  unfold endOf at he
  split at he
  · rename_i h0
    have hD : D = [] := List.getLast?_eq_none_iff.1 h0
    subst hD
    obtain rfl : N = 0 := by rw [← hN]; rfl
    exact rback_none w A cap
  · rename_i b hb
    split at he
    · rename_i h0
      obtain ⟨F, rfl⟩ := List.getLast?_eq_some_iff.1 hb
      exact rback_zero w A F b N cap (by rw [List.length_append] at hN; exact hN) hs hR h0
    · cases he


set_option maxHeartbeats 1000000 in
theorem walk_a (A : Option Addr) (N cap : Nat) (B : Option Addr) (K cb : Nat) (w : World) (hN : 200 < N) :
    Calls Try.prog 4 #[.slice A N cap, .slice B K cb] w fun e w' => e = .returned (.bool true) ∧ Below w.heap.size w w' := by
  have hd : decide ((200 : Int) < (N : Int)) = true := decide_eq_true (by omega)
  go_enter Try.func4, Try.ntmps4
  go_wp2_with fail
  refine (known_any _).mono ?_
  rintro e w1 ⟨rfl, hb1⟩
  have HB1 := Lib.hid hb1
  clear hb1
  go_wp2
  go_ret
  exact ⟨rfl, HB1.out⟩


set_option maxHeartbeats 1000000 in
theorem walk_b (A : Option Addr) (N cap : Nat) (B : Option Addr) (K cb : Nat) (w : World) (hN : N ≤ 200) (hK : 60 < K) :
    Calls Try.prog 4 #[.slice A N cap, .slice B K cb] w fun e w' => e = .returned (.bool true) ∧ Below w.heap.size w w' := by
  have hd : decide ((200 : Int) < (N : Int)) = false := decide_eq_false (by omega)
  have hd1 : decide ((60 : Int) < (K : Int)) = true := decide_eq_true (by omega)
  go_enter Try.func4, Try.ntmps4
  go_wp2_with fail
  refine (known_any _).mono ?_
  rintro e w1 ⟨rfl, hb1⟩
  have HB1 := Lib.hid hb1
  clear hb1
  go_wp2
  go_ret
  exact ⟨rfl, HB1.out⟩


set_option maxRecDepth 100000 in
set_option maxHeartbeats 16000000 in
theorem walk_small (A : Option Addr) (D : List UInt8) (N cap : Nat) (B : Option Addr) (ls : List Int) (K cb : Nat) (w : World) (hN : D.length = N) (hN2 : N ≤ 200) (hR : Rd w A D) (hK : ls.length = K) (hK2 : K ≤ 60) (hI : Ri w B ls) (wi : ∀ z ∈ ls, -9223372036854775808 ≤ z ∧ z ≤ 9223372036854775807) :
    Calls Try.prog 4 #[.slice A N cap, .slice B K cb] w fun e w' => e = .returned (.bool true) ∧ Below w.heap.size w w' := by
  have HN := Lib.hid hN
  have HR := Lib.hid hR
  have HK := Lib.hid hK
  have HI := Lib.hid hI
  have HWI := Lib.hid wi
  have hd : decide ((200 : Int) < (N : Int)) = false := decide_eq_false (by omega)
  have hd1 : decide ((60 : Int) < (K : Int)) = false := decide_eq_false (by omega)
  clear hN hR hK hI wi
  rcases he : endOf D with _ | e
  · have HE := Lib.hid he
    clear he
    go_enter Try.func4, Try.ntmps4
    go_wp2_with fail
    refine (newb_n _ _ D N cap HN.out (by omega) HR.out HE.out).mono ?_
    rintro q w1 ⟨rfl, rfl⟩
    go_wp2_with fail
    refine (rback_n _ _ D N cap HN.out hN2 HR.out HE.out).mono ?_
    rintro q w2 ⟨rfl, hb2⟩
    have B2 := Lib.hid hb2
    clear hb2
    go_wp2_with fail
    refine (known_any _).mono ?_
    rintro q wk ⟨rfl, hb⟩
    have HB := Lib.hid (below_on B2.out (Nat.le_refl _) hb)
    clear hb
    go_wp2
    go_ret
    exact ⟨rfl, HB.out⟩
  · have HE := Lib.hid he
    have hlt : e < 8 * D.length := by obtain ⟨_, _, _, _, _, h⟩ := endOf_some he; exact h
    have LE0 : Hid (e ≤ 8 * D.length ∧ e ≤ 1600) := Lib.hid (by have := HN.out; omega)
    clear he hlt
    go_enter Try.func4, Try.ntmps4
    go_wp2_with fail
    refine (newb_s _ _ D N cap HN.out (by omega) HR.out e HE.out).mono ?_
    rintro q w1 ⟨x, rfl, Ak, ck, h1⟩
    have K1 := Lib.hid h1
    have R1 := Lib.hid (HR.out.below h1.bel)
    clear h1
    go_wp2_with fail
    refine (rback_ok _ _ D N cap HN.out hN2 R1.out e HE.out).mono ?_
    rintro q w2 ⟨y, rfl, g, A2, c2, h2, hb2, hy2, hg2⟩
    have K2 := Lib.hid (K1.out.on hb2)
    have Q2 : Hid (RfE w2 y g D e) := Lib.hid ⟨A2, c2, 0, by have := LE0.out; omega, h2⟩
    have SP : Hid (Sep x Ak y none) := Lib.hid ⟨by have := K1.out.sp.lt; omega, (fun ad e => by have := (K1.out.sp.ne ad e).2; omega), (fun ad e => by cases e)⟩
    have SQ : Hid (y ≠ x ∧ g ≠ x ∧ w.heap.size ≤ y) := Lib.hid ⟨by have := K1.out.sp.lt; omega, by have := K1.out.sp.lt; omega, by have := K1.out.bel.size; omega⟩
    clear h2 hb2 hy2 hg2 K1 R1
    go_wp2_with fail
    go_loopw [9] (fun b wr => ∃ (i ee : Nat), i ≤ K ∧ b = .int .i64 (i : Int) ∧ Hid (Rr w wr x 69 Ak ck D 0 ee) ∧ Hid (RfE wr y g D ee) ∧ Hid (ee ≤ 8 * D.length)) (fun b _ => K - (intOf b).toNat)
    case atStart => exact ⟨0, e, by omega, rfl, K2, Q2, Lib.hid LE0.out.1⟩
    case round =>
      clear K2 Q2
      obtain ⟨i, ee, hi, rfl, HKK, HQ, LE⟩ := hrel
      by_cases hlt : i < K
      · obtain ⟨z, hz⟩ : ∃ z, ls[i]? = some z := ⟨_, List.getElem?_eq_getElem (by rw [HK.out]; exact hlt)⟩
        have hzb := HWI.out z (List.mem_of_getElem? hz)
        obtain ⟨bL, hbL, _⟩ := HI.out i (.int .i64 z) (by rw [List.getElem?_map, hz]; rfl)
        subst hbL
        have hcell : ∀ w', Below w.heap.size w w' → w'.cell? (bL.add i) = some (.int .i64 z) := fun w' hb' => (HI.out.below hb').cells i _ (by rw [List.getElem?_map, hz]; rfl)
        have HC := Lib.hid hcell
        have e0 := HC.out wr HKK.out.bel
        obtain ⟨m, hm⟩ : ∃ m, min z.toNat 64 = m := ⟨_, rfl⟩
        obtain ⟨P, hP⟩ : ∃ P, pk D ee m = P := ⟨_, rfl⟩
        have PKP := Lib.hid (fun (W : World) (h : Rr w W x 69 Ak ck D 0 ee) => peek_r h.sp LE.out (by rw [HN.out]; omega) z m hm P hP)
        have PKR := Lib.hid (fun (W : World) (h : RfE W y g D ee) => rpeek_u h LE.out z m hm P hP)
        have HZB := Lib.hid hzb
        clear hz hcell hm hP hzb
        go_upto_region 12 with fail
        go_cut [71] from 53 to 129 (fun t wx => t = .bool false ∧ Hid (Rr w wx x 69 Ak ck D 0 ee) ∧ Hid (RfE wx y g D ee))
        case first =>
          go_region_law (first
            | (go_simp; go_at_call 23; refine (PKR.out _ Q6.out).mono ?_; rintro q w7 ⟨rfl, hb7⟩; have K7 := Lib.hid (K6.out.on hb7); have Q7 := Lib.hid (Q6.out.below hb7); have e7 := HC.out w7 K7.out.bel; clear hb7)
            | (go_simp; go_at_call 22; refine (PKP.out _ K6.out).mono ?_; rintro q w7 ⟨rfl, hb7⟩; have K7 := Lib.hid (K6.out.on hb7); have Q7 := Lib.hid (Q6.out.below hb7); have e7 := HC.out w7 K7.out.bel; clear hb7)
            | (go_simp; go_at_call 22; refine (PKP.out _ (HKK.out.dr _)).mono ?_; rintro q w6 ⟨rfl, hb6⟩; have K6 := Lib.hid (HKK.out.on (below_of_dr hb6)); have Q6 := Lib.hid (HQ.out.below (below_of_dr hb6)); have e6 := HC.out w6 K6.out.bel; clear hb6)
            | (go_simp; go_at_call 23; refine (PKR.out _ (HQ.out.drewN _)).mono ?_; rintro q w6 ⟨rfl, hb6⟩; have K6 := Lib.hid (HKK.out.on (below_of_dr hb6)); have Q6 := Lib.hid (HQ.out.below (below_of_dr hb6)); have e6 := HC.out w6 K6.out.bel; clear hb6))
          all_goals (go_wp2_with fail; go_meet; exact ⟨rfl, K7, Q7⟩)
        case rest =>
          obtain ⟨rfl, K3, Q3⟩ := hcut
          clear HKK HQ PKP PKR e0
          have e3 := HC.out wc K3.out.bel
          by_cases h100 : 100 < z
          · have hd100 : decide (100 < z) = true := decide_eq_true h100
            obtain ⟨z1, hz1⟩ : ∃ z1, z - 100 = z1 := ⟨_, rfl⟩
            have hz2 := HZB.out
            obtain ⟨r, hr⟩ : ∃ r, chk z1 ee 14 = r := ⟨_, rfl⟩
            obtain ⟨V, hV⟩ : ∃ V, bval D z1 ee = V := ⟨_, rfl⟩
            obtain ⟨e1, he1⟩ : ∃ e1, bpos z1 ee = e1 := ⟨_, rfl⟩
            have E1 := Lib.hid (And.intro hr (And.intro hV he1))
            have L1 : Hid (e1 ≤ 8 * D.length) := Lib.hid (by have := bpos_le z1 ee; have := LE.out; rw [he1] at *; omega)
            have L2 : Hid (e1 ≤ 8796093022208) := Lib.hid (by have := L1.out; rw [HN.out] at this; omega)
            clear hr hV he1
            go_wp2_with fail
            refine (last_u Q3.out LE.out z1 r E1.out.1 V E1.out.2.1 e1 E1.out.2.2).mono ?_
            rintro q w4 ⟨rfl, hq4, hg4⟩
            have K4 := Lib.hid (K3.out.other SP.out SQ.out.2.2 hg4)
            have Q4 := Lib.hid hq4
            have e4 := HC.out w4 K4.out.bel
            clear hq4 hg4 K3 Q3 e3
            go_wp2_with fail
            refine (skip_u K4.out LE.out (by rw [HN.out]; omega) z1 r E1.out.1 e1 E1.out.2.2).mono ?_
            rintro q w5 ⟨rfl, hr5, hg5⟩
            have K5 := Lib.hid hr5
            have Q5 := Lib.hid (Q4.out.other SQ.out.1 SQ.out.2.1 hg5)
            clear hr5 hg5 K4 Q4 e4 hz1
            obtain ⟨A5, c5, k5, _, hq5⟩ := Q5.out
            have q0 := hq5.cell0
            rw [show ((unp D).take e1).length = e1 by rw [List.length_take, unp_len]; have := L1.out; omega] at q0
            have LF := Lib.hid (fun d => bleft_any (K5.out.sp.drewN d) L2.out)
            clear hq5
            go_wp2_with fail
            go_quiet ((go_at_call 27; exact Calls.quiet_of (LF.out _)))
            go_wp2_with fail
            exact ⟨⟨i + 1, e1, by omega, by simp, Lib.hid (K5.out.dr _), Lib.hid (Q5.out.drewN _), L1⟩, by simp [intOf]; omega⟩
          · have hd100 : decide (100 < z) = false := decide_eq_false h100
            obtain ⟨r, hr⟩ : ∃ r, chk z ee 14 = r := ⟨_, rfl⟩
            obtain ⟨V, hV⟩ : ∃ V, bval D z ee = V := ⟨_, rfl⟩
            obtain ⟨e1, he1⟩ : ∃ e1, bpos z ee = e1 := ⟨_, rfl⟩
            have E1 := Lib.hid (And.intro hr (And.intro hV he1))
            have L1 : Hid (e1 ≤ 8 * D.length) := Lib.hid (by have := bpos_le z ee; have := LE.out; rw [he1] at *; omega)
            have L2 : Hid (e1 ≤ 8796093022208) := Lib.hid (by have := L1.out; rw [HN.out] at this; omega)
            clear hr hV he1
            go_wp2_with fail
            refine (btake_u K3.out LE.out (by rw [HN.out]; omega) z r E1.out.1 V E1.out.2.1 e1 E1.out.2.2).mono ?_
            rintro q w4 ⟨rfl, hr4, hg4⟩
            have K4 := Lib.hid hr4
            have Q4 := Lib.hid (Q3.out.other SQ.out.1 SQ.out.2.1 hg4)
            have e4 := HC.out w4 K4.out.bel
            clear hr4 hg4 K3 Q3 e3
            go_wp2_with fail
            refine (last_u Q4.out LE.out z r E1.out.1 V E1.out.2.1 e1 E1.out.2.2).mono ?_
            rintro q w5 ⟨rfl, hq5, hg5⟩
            have K5 := Lib.hid (K4.out.other SP.out SQ.out.2.2 hg5)
            have Q5 := Lib.hid hq5
            clear hq5 hg5 K4 Q4 e4
            obtain ⟨A5, c5, k5, _, hq5⟩ := Q5.out
            have q0 := hq5.cell0
            rw [show ((unp D).take e1).length = e1 by rw [List.length_take, unp_len]; have := L1.out; omega] at q0
            have LF := Lib.hid (fun d => bleft_any (K5.out.sp.drewN d) L2.out)
            clear hq5
            go_wp2_with fail
            go_quiet ((go_at_call 27; exact Calls.quiet_of (LF.out _)))
            go_wp2_with fail
            exact ⟨⟨i + 1, e1, by omega, by simp, Lib.hid (K5.out.dr _), Lib.hid (Q5.out.drewN _), L1⟩, by simp [intOf]; omega⟩
      · have hie : K = i := by omega
        subst hie
        clear hlt hi
        go_wp2_with fail
        refine (known_any _).mono ?_
        rintro q wk ⟨rfl, hb⟩
        have HB := Lib.hid (below_on HKK.out.bel (Nat.le_refl _) hb)
        clear hb
        go_wp2
        go_ret
        exact ⟨rfl, HB.out⟩

theorem walk (A : Option Addr) (D : List UInt8) (cap : Nat) (B : Option Addr) (ls : List Int) (cb : Nat) (w : World) (hR : Rd w A D) (_hs : D.length ≤ 140737488351232) (_hc : D.length ≤ cap) (hI : Ri w B ls) (wi : ∀ z ∈ ls, -9223372036854775808 ≤ z ∧ z ≤ 9223372036854775807) (_hd : ls.length ≤ cb) :
    Calls Try.prog 4 #[.slice A D.length cap, .slice B ls.length cb] w fun e w' => e = .returned (.bool true) ∧ Below w.heap.size w w' := by
  by_cases h : 200 < D.length
  · exact walk_a A _ cap B _ cb w h
  by_cases h2 : 60 < ls.length
  · exact walk_b A _ cap B _ cb w (by omega) h2
  exact walk_small A D _ cap B ls _ cb w rfl (by omega) hR rfl (by omega) hI wi

set_option maxRecDepth 100000 in
theorem lifted (os : Os) (started : os.Started) (H : Type) (enc : TypeId × Value → H) :
    ReturnsInHanded {} Try.checked os 4 .any (Rows.bitinBackwardSpec.pre6 enc Try.prog Try.f4 Rows.bitinBackwardRow.domain false) (Rows.bitinBackwardSpec.post enc Try.prog Try.f4 false true false false) := by
  refine returnsInHanded_of_change_sized (C := Try.checked) ownB started (by kernel_rfl) Try.func4
    (ChangeSpec.witness6 (enc := enc) (C := Try.checked) false ⟨#[], #[.slice none 0 0, .slice none 0 0], []⟩ 8 (by kernel_rfl) (by kernel_rfl) (by kernel_rfl) (by kernel_rfl)) ?_
  intro W base args ds gs before hval0 hW _ hsz0 _
  have hsz : (DataW.weightsEach Try.prog (Try.f4.params.toList ++ Rows.bitinBackwardSpec.plain.varTypes Try.prog) (ds ++ gs)).all (· ≤ reachBytes) = true := hsz0
  clear hsz0
  have hval : ∀ (j : Nat) t v, Try.f4.params[j]? = some t → args[j]? = some v → Value.okWide Try.prog W .any base t v := hval0
  have hW' := hW
  obtain ⟨p, q, hA0, hV, rfl, hfz, hnd⟩ := hW
  have hA : DataW.TrodAll enc Try.prog W 0 (fun _ => true) true Try.f4.params.toList args.toList ds p := hA0
  rw [Try.params4] at hA hval hsz
  obtain ⟨v0, vs0, d0, ds0, p0, q0, hargs, rfl, rfl, h0, r0⟩ := trodAll_cons hA
  obtain ⟨v1, vs1, d1, ds1, p1, q1, rfl, rfl, rfl, h1, r1⟩ := trodAll_cons r0
  obtain ⟨rfl, rfl, rfl⟩ := trodAll_nil r1
  obtain rfl : args = #[v0, v1] := by cases args; simp_all
  obtain ⟨rfl, rfl⟩ := trodVars_none hV
  obtain ⟨a0, len0, cap0, rfl⟩ := okWide_slice Try.underlying22 (hval 0 22 v0 rfl rfl)
  have k0 := h0
  have lt0 : ∀ x ∈ p0, x.block < W.heap.size := by obtain ⟨m, hm⟩ := k0; exact DataW.trod_lt m _ _ _ hm
  obtain ⟨l0, rfl, hc0, rd0, hd0⟩ := open_bytes h0
  have hs0 : l0.length ≤ 140737488351232 := by
    rcases hd0 with ⟨h, _⟩ | ⟨es, sp, rfl, h⟩
    · omega
    · have := sized_slice hsz (j := 0) (t := 22) (e := 5) rfl rfl Try.underlying22
      rw [bytes_byte] at this
      simp only [reachBytes] at this
      omega
  obtain ⟨a1, len1, cap1, rfl⟩ := okWide_slice Try.underlying23 (hval 1 23 v1 rfl rfl)
  have k1 := h1
  have lt1 : ∀ x ∈ p1, x.block < W.heap.size := by obtain ⟨m, hm⟩ := k1; exact DataW.trod_lt m _ _ _ hm
  obtain ⟨l1, rfl, hc1, ri1, wi1⟩ := open_intl h1
  clear hA0 hval0
  refine (walk a0 l0 cap0 a1 l1 cap1 W rd0 hs0 hc0 ri1 wi1 hc1).mono fun e W' ⟨he, bel⟩ => ?_
  subst he
  exact ⟨_, rfl, _, _, _, [], _, [], hW', trodAll_mk1 (shut_bool Try.underlying4 _), (trodAll_cons_mk (Below.trod laidOut (by kernel_rfl) (of_decide_eq_true (by kernel_rfl)) k0 bel lt0) (trodAll_cons_mk (Below.trod laidOut (by kernel_rfl) (of_decide_eq_true (by kernel_rfl)) k1 bel lt1) trodAll_mk0)), rfl, bel.frame _, fun h => by cases h⟩

theorem proved : Rows.BitinBackwardSaid :=
  OpenClaim.holds_of_wide 4 Try.f4 rfl rfl rfl rfl rfl rfl rfl ⟨rfl, rfl, rfl, rfl, rfl⟩ rfl rfl rfl rfl rfl (by kernel_rfl) Try.func4 (by kernel_rfl)
    (of_decide_eq_true (by kernel_rfl)) (by unfold Func.isWrapper; rw [if_neg (by decide +kernel)]; exact ⟨rfl, rfl⟩)
    (fun os started H enc _ => lifted os started H enc)

#print axioms proved

end Go.Proofs.Ytckboifdkagacaa.bitinBackward
