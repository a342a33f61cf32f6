/-
  Proved: the law BitinForward returns true for all bytes and all sequences of calls: the results of Take and Align on a Forward reader, and At and Left after each, are those of the reference. No condition.
-/
import Derived.Test.YtckboifdkagacaaRfR
namespace Go.Proofs.Ytckboifdkagacaa.bitinForward
open Go.ChangeShapes Go.WideShapes Go.ChangeAt Go.RowKit

theorem Rf.other {w w' : World} {y g x : Nat} {A : Option Addr} {c : Nat} {l : List Bool} {n : Nat} (h : Rf w y g A c l n) (hy : y ≠ x) (hgx : g ≠ x) (hg : w.grownBy w' (some x)) : Rf w' y g A c l n :=
  h.same hg.size (hg.block y h.lt (by simpa using hy)) fun ad e => hg.block g (h.ne ad e).2.2 (by simpa using hgx)

/-- The reference's reader at place s of D. -/
def RfD (w : World) (y g : Nat) (D : List UInt8) (s : Nat) : Prop := ∃ A c, Rf w y g A c ((unp D).drop s) s
theorem RfD.other {w w' : World} {y g x : Nat} {D : List UInt8} {s : Nat} (h : RfD w y g D s) (hy : y ≠ x) (hgx : g ≠ x) (hg : w.grownBy w' (some x)) : RfD w' y g D s := by
  obtain ⟨A, c, h⟩ := h
  exact ⟨A, c, Rf.other h hy hgx hg⟩
theorem RfD.below {w w' : World} {y g : Nat} {D : List UInt8} {s : Nat} (h : RfD w y g D s) (hb : Below w.heap.size w w') : RfD w' y g D s := by
  obtain ⟨A, c, h⟩ := h
  exact ⟨A, c, h.below hb⟩
theorem RfD.drewN {w : World} {y g : Nat} {D : List UInt8} {s : Nat} (h : RfD w y g D s) (d : Nat) : RfD (w.drewN d) y g D s := by
  obtain ⟨A, c, h⟩ := h
  exact ⟨A, c, h.drewN d⟩

theorem first_u {w : World} {y g : Nat} {D : List UInt8} {s M : Nat} (h : RfD w y g D s) (hM : M = 8 * D.length) (hs : s ≤ M) (hMs : M ≤ 10000) (n : Int) (r : Int) (hr : chk n (M - s) 3 = r) (V : Nat) (hV : fval D n s M = V) (s' : Nat) (hs' : fpos n s M = s') :
    Calls Try.prog 17 #[.pointer (some ⟨y, 0, none⟩), .int .i64 n] w fun q w' => q = .returned (.tuple #[.int .u64 (V : Int), .int .i64 r]) ∧ RfD w' y g D s' ∧ w.grownBy w' (some y) := by
  obtain ⟨A, c, h⟩ := h
  have hl : ((unp D).drop s).length = M - s := by rw [List.length_drop, unp_len, hM]
  subst hV hs'
  unfold fval fpos
  rw [hr]
  by_cases h0 : r = 0
  · subst h0
    have hn := chk_ok hr (by decide)
    obtain ⟨n, rfl⟩ := Int.eq_ofNat_of_zero_le hn.1
    refine (first_ok h (by omega) n (by omega) (by rw [hl]; omega)).mono ?_
    rintro q w' ⟨rfl, ⟨A', c', h'⟩, hg⟩
    rw [List.drop_drop] at h'
    exact ⟨rfl, ⟨A', c', h'⟩, hg⟩
  · rw [if_neg h0, if_neg h0]
    refine (first_err h n r (by rw [hl]; exact hr) h0).mono ?_
    rintro q w' ⟨rfl, rfl⟩
    exact ⟨rfl, ⟨A, c, h⟩, World.grownBy.refl _ _⟩


set_option maxHeartbeats 1000000 in
theorem walk_a (A : Option Addr) (N cap : Nat) (B : Option Addr) (K cb : Nat) (w : World) (hN : 200 < N) :
    Calls Try.prog 3 #[.slice A N cap, .slice B K cb] w fun e w' => e = .returned (.bool true) ∧ Below w.heap.size w w' := by
  have hd : decide ((200 : Int) < (N : Int)) = true := decide_eq_true (by omega)
  go_enter Try.func3, Try.ntmps3
  go_wp2_with fail
  refine (known_any _).mono ?_
  rintro e w1 ⟨rfl, hb1⟩
  have HB1 := Lib.hid hb1
  clear hb1
  go_wp2
  go_ret
  exact ⟨rfl, HB1.out⟩


set_option maxHeartbeats 1000000 in
theorem walk_b (A : Option Addr) (N cap : Nat) (B : Option Addr) (K cb : Nat) (w : World) (hN : N ≤ 200) (hK : 60 < K) :
    Calls Try.prog 3 #[.slice A N cap, .slice B K cb] w fun e w' => e = .returned (.bool true) ∧ Below w.heap.size w w' := by
  have hd : decide ((200 : Int) < (N : Int)) = false := decide_eq_false (by omega)
  have hd1 : decide ((60 : Int) < (K : Int)) = true := decide_eq_true (by omega)
  go_enter Try.func3, Try.ntmps3
  go_wp2_with fail
  refine (known_any _).mono ?_
  rintro e w1 ⟨rfl, hb1⟩
  have HB1 := Lib.hid hb1
  clear hb1
  go_wp2
  go_ret
  exact ⟨rfl, HB1.out⟩


set_option maxRecDepth 100000 in
set_option maxHeartbeats 16000000 in
theorem walk_small (A : Option Addr) (D : List UInt8) (N cap : Nat) (B : Option Addr) (ls : List Int) (K cb : Nat) (w : World) (hN : D.length = N) (hN2 : N ≤ 200) (hR : Rd w A D) (hK : ls.length = K) (hK2 : K ≤ 60) (hI : Ri w B ls) :
    Calls Try.prog 3 #[.slice A N cap, .slice B K cb] w fun e w' => e = .returned (.bool true) ∧ Below w.heap.size w w' := by
  have HN := Lib.hid hN
  have HR := Lib.hid hR
  have HK := Lib.hid hK
  have HI := Lib.hid hI
  have hd : decide ((200 : Int) < (N : Int)) = false := decide_eq_false (by omega)
  have hd1 : decide ((60 : Int) < (K : Int)) = false := decide_eq_false (by omega)
  clear hN hR hK hI
  go_enter Try.func3, Try.ntmps3
  obtain ⟨M, hM⟩ : ∃ M, 8 * N = M := ⟨_, rfl⟩
  have hMs : M ≤ 1600 := by omega
  have HM : Hid (M = 8 * D.length) := Lib.hid (by rw [HN.out]; exact hM.symm)
  have HMN := Lib.hid hM
  clear hM
  go_wp2_with fail
  refine (newf_r _ _ D N cap HN.out (by omega) HR.out M HMN.out).mono ?_
  rintro q w1 ⟨x, rfl, Af, cf, h1⟩
  have F1 := Lib.hid h1
  have R1 := Lib.hid (HR.out.below h1.bel)
  clear h1
  go_wp2_with fail
  refine (rforward_any _ _ D N cap HN.out hN2 R1.out).mono ?_
  rintro q w2 ⟨y, rfl, g, A2, c2, h2, hb2, hy2, hg2⟩
  have F2 := Lib.hid (F1.out.on hb2)
  have Q2 : Hid (RfD w2 y g D 0) := Lib.hid ⟨A2, c2, h2⟩
  have SP : Hid (Sep x Af y none) := Lib.hid ⟨by have := F1.out.sp.lt; omega, (fun ad e => by have := (F1.out.sp.ne ad e).2; omega), (fun ad e => by cases e)⟩
  have SQ : Hid (y ≠ x ∧ g ≠ x ∧ w.heap.size ≤ y) := Lib.hid ⟨by have := F1.out.sp.lt; omega, by have := F1.out.sp.lt; omega, by have := F1.out.bel.size; omega⟩
  clear h2 hb2 hy2 hg2 F1 R1
  go_wp2_with fail
  go_loopw [7] (fun b wr => ∃ (i s : Nat), i ≤ K ∧ s ≤ M ∧ b = .int .i64 (i : Int) ∧ Hid (Rr w wr x 68 Af cf D s M) ∧ Hid (RfD wr y g D s)) (fun b _ => K - (intOf b).toNat)
  case atStart => exact ⟨0, 0, by omega, by omega, rfl, F2, Q2⟩
  case round =>
    clear F2 Q2
    obtain ⟨i, s, hi, hs, rfl, HF, HQ⟩ := hrel
    by_cases hlt : i < K
    · obtain ⟨z, hz⟩ : ∃ z, ls[i]? = some z := ⟨_, List.getElem?_eq_getElem (by rw [HK.out]; exact hlt)⟩
      obtain ⟨bL, hbL, _⟩ := HI.out i (.int .i64 z) (by rw [List.getElem?_map, hz]; rfl)
      subst hbL
      have hcell : ∀ w', Below w.heap.size w w' → w'.cell? (bL.add i) = some (.int .i64 z) := fun w' hb' => (HI.out.below hb').cells i _ (by rw [List.getElem?_map, hz]; rfl)
      have HC := Lib.hid hcell
      have e0 := HC.out wr HF.out.bel
      clear hz hcell
      by_cases h99 : z = 99
      · subst h99
        obtain ⟨k, hk⟩ : ∃ k, (s + 7) / 8 = k := ⟨_, rfl⟩
        obtain ⟨m, hm⟩ : ∃ m, 8 * k - s = m := ⟨_, rfl⟩
        have hm8 : m < 8 := by omega
        have hsm : s + m = 8 * k := by omega
        have hkN : k ≤ N := by have := HMN.out; omega
        have hml : m ≤ ((unp D).drop s).length := by rw [List.length_drop, unp_len, ← HM.out]; have := HMN.out; omega
        have hm2 : ∀ i, i < m → (s + i) % 8 ≠ 0 := fun i h => by omega
        by_cases hc : cut D s (8 * k - s) = 0
        · have AG := Lib.hid (align_good HF.out.sp (by rw [HN.out]; omega) k hk (by rw [HN.out]; exact hkN) hc)
          rw [hm] at hc
          have WG := Lib.hid (fun (W : World) (h : RfD W y g D s) => (show Calls Try.prog 15 #[.pointer (some ⟨y, 0, none⟩)] W fun q w' => q = .returned (.tuple #[.int .i64 (k : Int), .int .i64 0]) ∧ RfD w' y g D (8 * k) ∧ W.grownBy w' (some y) by
            obtain ⟨A', c', h⟩ := h
            refine (whole_good h (by omega) k m hk hsm hml hc).mono ?_
            rintro q w' ⟨rfl, ⟨A', c', h'⟩, hg⟩
            rw [List.drop_drop, hsm] at h'
            exact ⟨rfl, ⟨A', c', h'⟩, hg⟩))
          have L5 : Hid (8 * k ≤ M) := Lib.hid (by have := HMN.out; omega)
          clear hk hm hsm hkN hml hm2 hc hm8
          go_wp2_with fail
          refine AG.out.mono ?_
          rintro q w4 ⟨rfl, hs4, hg4⟩
          have F4 := Lib.hid (HF.out.step hs4 hg4)
          have Q4 := Lib.hid (HQ.out.other SQ.out.1 SQ.out.2.1 hg4)
          clear hs4 hg4 AG HF HQ
          go_wp2_with fail
          refine (WG.out _ Q4.out).mono ?_
          rintro q w5 ⟨rfl, hq5, hg5⟩
          have F5 := Lib.hid (F4.out.other SP.out SQ.out.2.2 hg5)
          have Q5 := Lib.hid hq5
          clear hq5 hg5 WG F4 Q4
          obtain ⟨A5, c5, hq5⟩ := Q5.out
          have q0 := hq5.cell0
          have q1 := hq5.cell1
          rw [show ((unp D).drop (8 * k)).length = M - (8 * k) by rw [List.length_drop, unp_len, ← HM.out]] at q0
          have AT := Lib.hid (fun d => at_any (F5.out.sp.drewN d))
          have LF := Lib.hid (fun d => fleft_any (F5.out.sp.drewN d) (M - (8 * k)) (by have := L5.out; omega) (by omega))
          obtain ⟨LL, hLL⟩ : ∃ LL, M - (8 * k) = LL := ⟨_, rfl⟩
          rw [hLL] at q0
          simp only [hLL] at LF
          clear hq5 hLL
          go_wp2_with fail
          go_quiet ((first
            | (go_at_call 18; exact Calls.quiet_of (AT.out _))
            | (go_at_call 19; exact Calls.quiet_of (LF.out _))))
          go_wp2_with fail
          exact ⟨⟨i + 1, (8 * k), by omega, by have := L5.out; omega, by simp, Lib.hid (F5.out.dr _), Lib.hid (Q5.out.drewN _)⟩, by simp [intOf]; omega⟩
        · have AG := Lib.hid (align_bad HF.out.sp (by rw [HN.out]; omega) k hk (by rw [HN.out]; exact hkN) hc)
          rw [hm] at hc
          have WG := Lib.hid (fun (W : World) (h : RfD W y g D s) => (show Calls Try.prog 15 #[.pointer (some ⟨y, 0, none⟩)] W fun q w' => q = .returned (.tuple #[.int .i64 0, .int .i64 14]) ∧ W = w' by
            obtain ⟨A', c', h⟩ := h
            exact whole_bad h (by omega) m hm8 hm2 hml hc))
          have L5 : Hid (s ≤ M) := Lib.hid hs
          clear hk hm hsm hkN hml hm2 hc hm8
          go_wp2_with fail
          refine AG.out.mono ?_
          rintro q w4 ⟨rfl, hb4⟩
          have F5 := Lib.hid (HF.out.on hb4)
          have Q5 := Lib.hid (HQ.out.below hb4)
          clear hb4 AG HF HQ
          go_wp2_with fail
          refine (WG.out _ Q5.out).mono ?_
          rintro q w5 ⟨rfl, rfl⟩
          clear WG
          obtain ⟨A5, c5, hq5⟩ := Q5.out
          have q0 := hq5.cell0
          have q1 := hq5.cell1
          rw [show ((unp D).drop s).length = M - s by rw [List.length_drop, unp_len, ← HM.out]] at q0
          have AT := Lib.hid (fun d => at_any (F5.out.sp.drewN d))
          have LF := Lib.hid (fun d => fleft_any (F5.out.sp.drewN d) (M - s) (by have := L5.out; omega) (by omega))
          obtain ⟨LL, hLL⟩ : ∃ LL, M - s = LL := ⟨_, rfl⟩
          rw [hLL] at q0
          simp only [hLL] at LF
          clear hq5 hLL
          go_wp2_with fail
          go_quiet ((first
            | (go_at_call 18; exact Calls.quiet_of (AT.out _))
            | (go_at_call 19; exact Calls.quiet_of (LF.out _))))
          go_wp2_with fail
          exact ⟨⟨i + 1, s, by omega, by have := L5.out; omega, by simp, Lib.hid (F5.out.dr _), Lib.hid (Q5.out.drewN _)⟩, by simp [intOf]; omega⟩
      · have hz99 : (z == 99) = false := by simpa using h99
        clear h99
        obtain ⟨r, hr⟩ : ∃ r, chk z (M - s) 3 = r := ⟨_, rfl⟩
        obtain ⟨V, hV⟩ : ∃ V, fval D z s M = V := ⟨_, rfl⟩
        obtain ⟨s1, hs1⟩ : ∃ s1, fpos z s M = s1 := ⟨_, rfl⟩
        have E1 := Lib.hid (And.intro hr (And.intro hV hs1))
        have L5 : Hid (s1 ≤ M) := Lib.hid (by have := fpos_le z s M hs; rw [hs1] at this; exact this.2)
        clear hr hV hs1
        go_wp2_with fail
        refine (ftake_u HF.out hs (Nat.le_of_eq HM.out) (by rw [HN.out]; omega) z r E1.out.1 V E1.out.2.1 s1 E1.out.2.2).mono ?_
        rintro q w4 ⟨rfl, hr4, hg4⟩
        have F4 := Lib.hid hr4
        have Q4 := Lib.hid (HQ.out.other SQ.out.1 SQ.out.2.1 hg4)
        have e4 := HC.out w4 F4.out.bel
        clear hr4 hg4 HF HQ
        go_wp2_with fail
        refine (first_u Q4.out HM.out hs (by omega) z r E1.out.1 V E1.out.2.1 s1 E1.out.2.2).mono ?_
        rintro q w5 ⟨rfl, hq5, hg5⟩
        have F5 := Lib.hid (F4.out.other SP.out SQ.out.2.2 hg5)
        have Q5 := Lib.hid hq5
        clear hq5 hg5 F4 Q4
        obtain ⟨A5, c5, hq5⟩ := Q5.out
        have q0 := hq5.cell0
        have q1 := hq5.cell1
        rw [show ((unp D).drop s1).length = M - s1 by rw [List.length_drop, unp_len, ← HM.out]] at q0
        have AT := Lib.hid (fun d => at_any (F5.out.sp.drewN d))
        have LF := Lib.hid (fun d => fleft_any (F5.out.sp.drewN d) (M - s1) (by have := L5.out; omega) (by omega))
        obtain ⟨LL, hLL⟩ : ∃ LL, M - s1 = LL := ⟨_, rfl⟩
        rw [hLL] at q0
        simp only [hLL] at LF
        clear hq5 hLL
        go_wp2_with fail
        go_quiet ((first
          | (go_at_call 18; exact Calls.quiet_of (AT.out _))
          | (go_at_call 19; exact Calls.quiet_of (LF.out _))))
        go_wp2_with fail
        exact ⟨⟨i + 1, s1, by omega, by have := L5.out; omega, by simp, Lib.hid (F5.out.dr _), Lib.hid (Q5.out.drewN _)⟩, by simp [intOf]; omega⟩
    · have hie : K = i := by omega
      subst hie
      clear hlt hi
      go_wp2_with fail
      refine (known_any _).mono ?_
      rintro q wk ⟨rfl, hb⟩
      have HB := Lib.hid (below_on HF.out.bel (Nat.le_refl _) hb)
      clear hb
      go_wp2
      go_ret
      exact ⟨rfl, HB.out⟩

theorem walk (A : Option Addr) (D : List UInt8) (cap : Nat) (B : Option Addr) (ls : List Int) (cb : Nat) (w : World) (hR : Rd w A D) (_hs : D.length ≤ 140737488351232) (_hc : D.length ≤ cap) (hI : Ri w B ls) (_wi : ∀ z ∈ ls, -9223372036854775808 ≤ z ∧ z ≤ 9223372036854775807) (_hd : ls.length ≤ cb) :
    Calls Try.prog 3 #[.slice A D.length cap, .slice B ls.length cb] w fun e w' => e = .returned (.bool true) ∧ Below w.heap.size w w' := by
  by_cases h : 200 < D.length
  · exact walk_a A _ cap B _ cb w h
  by_cases h2 : 60 < ls.length
  · exact walk_b A _ cap B _ cb w (by omega) h2
  exact walk_small A D _ cap B ls _ cb w rfl (by omega) hR rfl (by omega) hI

set_option maxRecDepth 100000 in
theorem lifted (os : Os) (started : os.Started) (H : Type) (enc : TypeId × Value → H) :
    ReturnsInHanded {} Try.checked os 3 .any (Rows.bitinForwardSpec.pre6 enc Try.prog Try.f3 Rows.bitinForwardRow.domain false) (Rows.bitinForwardSpec.post enc Try.prog Try.f3 false true false false) := by
  refine returnsInHanded_of_change_sized (C := Try.checked) ownB started (by kernel_rfl) Try.func3
    (ChangeSpec.witness6 (enc := enc) (C := Try.checked) false ⟨#[], #[.slice none 0 0, .slice none 0 0], []⟩ 8 (by kernel_rfl) (by kernel_rfl) (by kernel_rfl) (by kernel_rfl)) ?_
  intro W base args ds gs before hval0 hW _ hsz0 _
  have hsz : (DataW.weightsEach Try.prog (Try.f3.params.toList ++ Rows.bitinForwardSpec.plain.varTypes Try.prog) (ds ++ gs)).all (· ≤ reachBytes) = true := hsz0
  clear hsz0
  have hval : ∀ (j : Nat) t v, Try.f3.params[j]? = some t → args[j]? = some v → Value.okWide Try.prog W .any base t v := hval0
  have hW' := hW
  obtain ⟨p, q, hA0, hV, rfl, hfz, hnd⟩ := hW
  have hA : DataW.TrodAll enc Try.prog W 0 (fun _ => true) true Try.f3.params.toList args.toList ds p := hA0
  rw [Try.params3] at hA hval hsz
  obtain ⟨v0, vs0, d0, ds0, p0, q0, hargs, rfl, rfl, h0, r0⟩ := trodAll_cons hA
  obtain ⟨v1, vs1, d1, ds1, p1, q1, rfl, rfl, rfl, h1, r1⟩ := trodAll_cons r0
  obtain ⟨rfl, rfl, rfl⟩ := trodAll_nil r1
  obtain rfl : args = #[v0, v1] := by cases args; simp_all
  obtain ⟨rfl, rfl⟩ := trodVars_none hV
  obtain ⟨a0, len0, cap0, rfl⟩ := okWide_slice Try.underlying22 (hval 0 22 v0 rfl rfl)
  have k0 := h0
  have lt0 : ∀ x ∈ p0, x.block < W.heap.size := by obtain ⟨m, hm⟩ := k0; exact DataW.trod_lt m _ _ _ hm
  obtain ⟨l0, rfl, hc0, rd0, hd0⟩ := open_bytes h0
  have hs0 : l0.length ≤ 140737488351232 := by
    rcases hd0 with ⟨h, _⟩ | ⟨es, sp, rfl, h⟩
    · omega
    · have := sized_slice hsz (j := 0) (t := 22) (e := 5) rfl rfl Try.underlying22
      rw [bytes_byte] at this
      simp only [reachBytes] at this
      omega
  obtain ⟨a1, len1, cap1, rfl⟩ := okWide_slice Try.underlying23 (hval 1 23 v1 rfl rfl)
  have k1 := h1
  have lt1 : ∀ x ∈ p1, x.block < W.heap.size := by obtain ⟨m, hm⟩ := k1; exact DataW.trod_lt m _ _ _ hm
  obtain ⟨l1, rfl, hc1, ri1, wi1⟩ := open_intl h1
  clear hA0 hval0
  refine (walk a0 l0 cap0 a1 l1 cap1 W rd0 hs0 hc0 ri1 wi1 hc1).mono fun e W' ⟨he, bel⟩ => ?_
  subst he
  exact ⟨_, rfl, _, _, _, [], _, [], hW', trodAll_mk1 (shut_bool Try.underlying4 _), (trodAll_cons_mk (Below.trod laidOut (by kernel_rfl) (of_decide_eq_true (by kernel_rfl)) k0 bel lt0) (trodAll_cons_mk (Below.trod laidOut (by kernel_rfl) (of_decide_eq_true (by kernel_rfl)) k1 bel lt1) trodAll_mk0)), rfl, bel.frame _, fun h => by cases h⟩

theorem proved : Rows.BitinForwardSaid :=
  OpenClaim.holds_of_wide 3 Try.f3 rfl rfl rfl rfl rfl rfl rfl ⟨rfl, rfl, rfl, rfl, rfl⟩ rfl rfl rfl rfl rfl (by kernel_rfl) Try.func3 (by kernel_rfl)
    (of_decide_eq_true (by kernel_rfl)) (by unfold Func.isWrapper; rw [if_neg (by decide +kernel)]; exact ⟨rfl, rfl⟩)
    (fun os started H enc _ => lifted os started H enc)

#print axioms proved

end Go.Proofs.Ytckboifdkagacaa.bitinForward
