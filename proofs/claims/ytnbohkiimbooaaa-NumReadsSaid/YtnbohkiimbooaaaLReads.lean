/-
  Proved: the law NumReads returns true for all bytes and calls: each call on a cursor gives the expected result, offset and remaining bytes. No condition.
-/
import Derived.Test.YtnbohkiimbooaaaStp
import Derived.Test.YtnbohkiimbooaaaFrC
import Derived.Deep.RegionHeld3
import Derived.IntWalk
namespace Go.Proofs.Ytnbohkiimbooaaa.numReads
open Go.ChangeShapes Go.WideShapes Go.ChangeAt Go.RowKit
set_option linter.unusedVariables false

theorem rd_own {w : World} {base n c : Nat} {A : Option Addr} {l : List UInt8} (hn : l.length = n) (h : w.ownsRow base 5 1 (.slice A n c) n (l.map byt)) : Rd w A l := by
  subst hn
  exact Rd.of_own h

set_option maxHeartbeats 1000000 in
theorem walk_big (A : Option Addr) (N : Nat) (cap : Nat) (AL : Option Addr) (P capL : Nat) (w : World) (hP : 200 < P) :
    Calls Try.prog 5 #[.slice A N cap, .slice AL P capL] w fun e w' => e = .returned (.bool true) ∧ Below w.heap.size w w' := by
  have hPd : decide ((200 : Int) < (P : Int)) = true := decide_eq_true (by omega)
  go_enter Try.func5, Try.ntmps5
  go_wp2_with fail
  refine (known_any _).mono ?_
  rintro e w7 ⟨rfl, hb7⟩
  have HB7 := Lib.hid hb7
  clear hb7
  go_wp2
  go_ret
  exact ⟨rfl, HB7.out⟩

set_option maxRecDepth 100000 in
set_option maxHeartbeats 8000000 in
theorem walk_small (A : Option Addr) (l : List UInt8) (cap : Nat) (AL : Option Addr) (ls : List (Int × Int)) (capL : Nat) (w : World) (hR : Rd w A l) (hs : l.length ≤ 140737488351232) (hc : l.length ≤ cap) (hRC : RdC w AL ls) (hP2 : ls.length ≤ 200) (hwf : ∀ (j : Nat) (q z : Int), ls[j]? = some (q, z) → z ≤ 9223372036854775807) :
    Calls Try.prog 5 #[.slice A l.length cap, .slice AL ls.length capL] w fun e w' => e = .returned (.bool true) ∧ Below w.heap.size w w' := by
  have OW := Lib.hid (own_any w A l cap (by omega) hR)
  have HR := Lib.hid hR
  have HRC := Lib.hid hRC
  have HWF := Lib.hid hwf
  clear hR hRC hwf
  obtain ⟨N, hN⟩ : ∃ N, l.length = N := ⟨_, rfl⟩
  obtain ⟨P, hP⟩ : ∃ P, ls.length = P := ⟨_, rfl⟩
  rw [hP] at hP2 ⊢
  have HP := Lib.hid hP
  rw [hN] at hs hc OW ⊢
  have HN := Lib.hid hN
  have HS := Lib.hid hs
  have HC := Lib.hid hc
  clear hN hP
  have hPd : decide ((200 : Int) < (P : Int)) = false := decide_eq_false (by omega)
  go_enter Try.func5, Try.ntmps5
  go_wp2_with fail
  refine OW.out.mono ?_
  rintro e w1 ⟨v1, rfl, A1, c1, rfl, ho1, hb1⟩
  have HB1 := Lib.hid hb1
  have NW := Lib.hid (new_any w1 A1 l c1 (by have := HN.out; have := HS.out; omega) (Rd.of_own ho1))
  rw [HN.out] at NW ⊢
  clear ho1 hb1
  go_wp2_with fail
  refine NW.out.mono ?_
  rintro e w2 ⟨c, A2, cap2, rfl, hcw, hcur, hb2⟩
  have HB2 := Lib.hid (below_on HB1.out (Nat.le_refl _) hb2)
  have HCW := Lib.hid (Nat.le_trans HB1.out.size hcw)
  have HC2 := Lib.hid hcur
  clear hcw hcur hb2 HB1 NW OW
  go_wp2_with fail
  go_loopw [6, 7] (fun v i wr => ∃ j off : Nat, j ≤ P ∧ i = .int .i64 (j : Int) ∧ v = .int .i64 (off : Int) ∧ Hid (Cur wr c A2 cap2 l off) ∧ Hid (Below w.heap.size w wr)) (fun _ i _ => P - (intOf i).toNat)
  case atStart => exact ⟨0, 0, by omega, rfl, rfl, HC2, HB2⟩
  case round =>
    obtain ⟨j, off, hj, rfl, rfl, hcc, hbx⟩ := hrel
    by_cases hlt : j < P
    · obtain ⟨⟨q, z⟩, hqz⟩ : ∃ y, ls[j]? = some y := ⟨_, List.getElem?_eq_getElem (by rw [HP.out]; exact hlt)⟩
      obtain ⟨aL, haL, e0, e1⟩ := (HRC.out.below hbx.out) j q z hqz
      subst haL
      have e2 : wr.cell? { block := (aL.add (j * 2)).block, off := (aL.add (j * 2)).off + 1 } = some (.int .i64 z) := by rw [← addr_add_add] at e1; exact e1
      have HZ := Lib.hid (HWF.out j q z hqz)
      have HLS : Hid (l.length ≤ 281474976710000) := Lib.hid (by have := HS.out; have := HN.out; omega)
      have AD := Lib.hid (ask_any hcc.out HLS.out q z HZ.out)
      have ST := Lib.hid (fun (W : World) (h : Rd W A l) => step_any (w := W) (A := A) (cap := cap) (l := l) (N := N) (k := off) HN.out h HS.out HC.out (by have := hcc.out.le; have := HN.out; omega) q z HZ.out)
      obtain ⟨R, hRE⟩ : ∃ R, askR l off q z = R := ⟨_, rfl⟩
      rw [hRE] at AD
      simp only [hRE] at ST
      obtain ⟨val, bytes, err, T⟩ := R
      have HQZ := Lib.hid hqz
      clear hRE hqz
      go_wp2_with fail
      refine AD.out.mono ?_
      rintro e w7 ⟨A7, c7, rfl, hrd7, hcd7, hg7⟩
      simp only at hrd7 hcd7 ⊢
      have hb7 := hbx.out.grown hg7 hbx.out.size (fun i ei => by cases ei; exact HCW.out)
      obtain ⟨aL', haL', f0, f1⟩ := (HRC.out.below hb7) j q z HQZ.out
      injection haL' with haL'
      subst haL'
      have f2 : w7.cell? { block := (aL.add (j * 2)).block, off := (aL.add (j * 2)).off + 1 } = some (.int .i64 z) := by rw [← addr_add_add] at f1; exact f1
      have HC7 := Lib.hid hcd7
      have HR7 := Lib.hid hrd7
      have HB7 := Lib.hid hb7
      clear e0 e1 e2 hrd7 hcd7 hg7 hb7 hcc hbx AD
      go_wp2_with fail
      refine (ST.out w7 (HR.out.below HB7.out)).mono ?_
      rintro e w8 ⟨A8, c8, rfl, hrd8, hb8⟩
      simp only at hrd8 ⊢
      have HC8 := Lib.hid (HC7.out.below hb8)
      have HR78 := Lib.hid (HR7.out.below hb8)
      have HR8 := Lib.hid hrd8
      have HB8 := Lib.hid (below_on HB7.out (Nat.le_refl _) hb8)
      have hTN : T ≤ N := by have := HC8.out.le; have := HN.out; omega
      obtain ⟨B, hBl⟩ : ∃ B, bytes.length = B := ⟨_, rfl⟩
      rw [hBl]
      have HBL := Lib.hid hBl
      clear hrd8 hb8 HC7 HR7 HB7 ST f0 f1 f2 HZ HQZ hBl
      by_cases hck : cap = T
      · have hNc : N = cap := by omega
        subst hck
        subst hNc
        clear hTN hc hs
        obtain ⟨M, hM⟩ : ∃ M, (l.drop N).length = M := ⟨_, rfl⟩
        have HDL := Lib.hid hM
        clear hM
        have HAT := Lib.hid (at_any (w := w8.drew) (HC8.out.drewN 1).blk)
        have HLF := Lib.hid (left_any (w := w8.drew) (HC8.out.drewN 1).blk (HC8.out.drewN 1).le (HC8.out.drewN 1).small)
        rw [HN.out] at HLF
        have RST := Lib.hid (fun d => rest_any (w := w8.drewN d) (HC8.out.drewN d) HLS.out)
        have HS1 := Lib.hid (same_n w8.drew A7 A8 bytes bytes B B HBL.out HBL.out c7 c8 (HR78.out.drewN 1) (HR8.out.drewN 1) rfl)
        have HBD := Lib.hid (HB8.out.drew)
        have x0 : IntKind.i64.wrap 0 = 0 := IntWalk.i64_in _ (by omega)
        go_wp2_with fail
        go_region_held3 (fun _ => True) (trivial) (first
          | (go_at_call 13; refine HS1.out.mono ?_; rintro e w4 ⟨rfl, rfl⟩)
          | (go_at_call 25; refine HAT.out.mono ?_; rintro e w4 ⟨rfl, rfl⟩)
          | (go_at_call 26; refine HLF.out.mono ?_; rintro e w4 ⟨rfl, d4, rfl⟩)
          | (go_at_call 13; refine (same_n _ _ _ (l.drop N) (l.drop N) _ _ HDL.out (by rw [List.length_drop]; have := HN.out; omega) _ _ HR9.out (by rw [List.drop_eq_nil_of_le (by have := HN.out; omega)]; exact Rd.nil _ _) rfl).mono ?_; rintro e w10 ⟨rfl, rfl⟩)
          | (go_at_call 27; refine (RST.out (1 + d4)).mono ?_; rintro e w9 ⟨v9, rfl, A9, c9, rfl, ho9, hb9⟩; rw [HDL.out] at ho9 ⊢; have HR9 : Hid (Rd w9 A9 (l.drop N)) := Lib.hid (rd_own HDL.out ho9); have HB9 := Lib.hid (below_on (below_drewN' HB8.out (1 + d4)) (Nat.le_refl _) hb9); have HC9 := Lib.hid ((HC8.out.drewN (1 + d4)).below hb9); clear ho9 hb9))
        all_goals (clear x0; go_wp2; exact ⟨⟨j + 1, N, by omega, by simp, rfl, HC9, HB9⟩, by simp [intOf]; omega⟩)
      · have hTc : T ≤ cap := by omega
        obtain ⟨M, hM⟩ : ∃ M, (l.drop T).length = M := ⟨_, rfl⟩
        have HDL := Lib.hid hM
        have HMT : Hid (N - T = M) := Lib.hid (by rw [← hM, List.length_drop]; have := HN.out; omega)
        clear hM
        have HAT := Lib.hid (at_any (w := w8.drew) (HC8.out.drewN 1).blk)
        have HLF := Lib.hid (left_any (w := w8.drew) (HC8.out.drewN 1).blk (HC8.out.drewN 1).le (HC8.out.drewN 1).small)
        rw [HN.out] at HLF
        have RST := Lib.hid (fun d => rest_any (w := w8.drewN d) (HC8.out.drewN d) HLS.out)
        have HS1 := Lib.hid (same_n w8.drew A7 A8 bytes bytes B B HBL.out HBL.out c7 c8 (HR78.out.drewN 1) (HR8.out.drewN 1) rfl)
        have HBD := Lib.hid (HB8.out.drew)
        have x1 : IntKind.i64.wrap ((N : Int) - (T : Int)) = (N : Int) - (T : Int) := IntWalk.i64_in _ (by omega)
        have x2 : (0 : Int) ≤ (T : Int) := by omega
        have x3 : (T : Int) ≤ (N : Int) := by omega
        have x4 : (N : Int) ≤ (cap : Int) := by omega
        have x5 : (T : Int) ≤ (cap : Int) := by omega
        go_wp2_with fail
        go_region_held3 (fun _ => True) (trivial) (first
          | (go_at_call 13; refine HS1.out.mono ?_; rintro e w4 ⟨rfl, rfl⟩)
          | (go_at_call 25; refine HAT.out.mono ?_; rintro e w4 ⟨rfl, rfl⟩)
          | (go_at_call 26; refine HLF.out.mono ?_; rintro e w4 ⟨rfl, d4, rfl⟩)
          | (go_at_call 13; refine (same_n _ _ _ (l.drop T) (l.drop T) _ _ HDL.out (by rw [List.length_drop]; have := HN.out; omega) _ _ HR9.out (by have h1 := (HR.out.below HB9.out).cut T (l.length - T); rw [List.take_of_length_le (by simp)] at h1; exact h1) rfl).mono ?_; rintro e w10 ⟨rfl, rfl⟩)
          | (go_at_call 27; refine (RST.out (1 + d4)).mono ?_; rintro e w9 ⟨v9, rfl, A9, c9, rfl, ho9, hb9⟩; rw [HDL.out] at ho9 ⊢; have HR9 : Hid (Rd w9 A9 (l.drop T)) := Lib.hid (rd_own HDL.out ho9); have HB9 := Lib.hid (below_on (below_drewN' HB8.out (1 + d4)) (Nat.le_refl _) hb9); have HC9 := Lib.hid ((HC8.out.drewN (1 + d4)).below hb9); clear ho9 hb9))
        all_goals (clear x1 x2 x3 x4 x5; go_wp2; exact ⟨⟨j + 1, T, by omega, by simp, rfl, HC9, HB9⟩, by simp [intOf]; omega⟩)
    · have hje : j = P := by omega
      subst hje
      clear hlt hj
      go_wp2_with fail
      refine (known_any _).mono ?_
      rintro e w7 ⟨rfl, hb7⟩
      have HB7 := Lib.hid (below_on hbx.out (Nat.le_refl _) hb7)
      clear hb7
      go_wp2
      go_ret
      exact ⟨rfl, HB7.out⟩

theorem walk (A : Option Addr) (l : List UInt8) (cap : Nat) (AL : Option Addr) (ls : List (Int × Int)) (capL : Nat) (w : World) (hR : Rd w A l) (hs : l.length ≤ 140737488351232) (hc : l.length ≤ cap) (hRC : RdC w AL ls) (hwf : ∀ (j : Nat) (q z : Int), ls[j]? = some (q, z) → z ≤ 9223372036854775807) :
    Calls Try.prog 5 #[.slice A l.length cap, .slice AL ls.length capL] w fun e w' => e = .returned (.bool true) ∧ Below w.heap.size w w' := by
  by_cases hP : 200 < ls.length
  · exact walk_big A _ cap AL _ capL w hP
  · exact walk_small A l cap AL ls capL w hR hs hc hRC (by omega) hwf

set_option maxRecDepth 100000 in
theorem lifted (os : Os) (started : os.Started) (H : Type) (enc : TypeId × Value → H) :
    ReturnsInHanded {} Try.checked os 5 .any (Rows.numReadsSpec.pre6 enc Try.prog Try.f5 Rows.numReadsRow.domain false) (Rows.numReadsSpec.post enc Try.prog Try.f5 false true false false) := by
  refine returnsInHanded_of_change_sized (C := Try.checked) ownB started (by kernel_rfl) Try.func5
    (ChangeSpec.witness6 (enc := enc) (C := Try.checked) false ⟨#[], #[.slice none 0 0, .slice none 0 0], []⟩ 8 (by kernel_rfl) (by kernel_rfl) (by kernel_rfl) (by kernel_rfl)) ?_
  intro W base args ds gs before hval0 hW _ hsz0 _
  have hsz : (DataW.weightsEach Try.prog (Try.f5.params.toList ++ Rows.numReadsSpec.plain.varTypes Try.prog) (ds ++ gs)).all (· ≤ reachBytes) = true := hsz0
  clear hsz0
  have hval : ∀ (j : Nat) t v, Try.f5.params[j]? = some t → args[j]? = some v → Value.okWide Try.prog W .any base t v := hval0
  have hW' := hW
  obtain ⟨p, q, hA0, hV, rfl, hfz, hnd⟩ := hW
  have hA : DataW.TrodAll enc Try.prog W 0 (fun _ => true) true Try.f5.params.toList args.toList ds p := hA0
  rw [Try.params5] at hA hval hsz
  obtain ⟨v0, vs0, d0, ds0, p0, q0, hargs, rfl, rfl, h0, r0⟩ := trodAll_cons hA
  obtain ⟨v1, vs1, d1, ds1, p1, q1, rfl, rfl, rfl, h1, r1⟩ := trodAll_cons r0
  obtain ⟨rfl, rfl, rfl⟩ := trodAll_nil r1
  obtain rfl : args = #[v0, v1] := by cases args; simp_all
  obtain ⟨rfl, rfl⟩ := trodVars_none hV
  obtain ⟨a0, len0, cap0, rfl⟩ := okWide_slice Try.underlying22 (hval 0 22 v0 rfl rfl)
  have k0 := h0
  have lt0 : ∀ x ∈ p0, x.block < W.heap.size := by obtain ⟨m, hm⟩ := k0; exact DataW.trod_lt m _ _ _ hm
  obtain ⟨l0, rfl, hc0, rd0, hd0⟩ := open_bytes h0
  have hs0 : l0.length ≤ 140737488351232 := by
    rcases hd0 with ⟨h, _⟩ | ⟨es, sp, rfl, h⟩
    · omega
    · have := sized_slice hsz (j := 0) (t := 22) (e := 5) rfl rfl Try.underlying22
      rw [bytes_byte] at this
      simp only [reachBytes] at this
      omega
  obtain ⟨a1, len1, cap1, rfl⟩ := okWide_slice Try.underlying47 (hval 1 47 v1 rfl rfl)
  have k1 := h1
  have lt1 : ∀ x ∈ p1, x.block < W.heap.size := by obtain ⟨m, hm⟩ := k1; exact DataW.trod_lt m _ _ _ hm
  obtain ⟨l1, rfl, rc1, wf1⟩ := open_calls h1
  clear hA0 hval0
  refine (walk a0 l0 cap0 a1 l1 cap1 W rd0 hs0 hc0 rc1 wf1).mono fun e W' ⟨he, bel⟩ => ?_
  subst he
  exact ⟨_, rfl, _, _, _, [], _, [], hW', trodAll_mk1 (shut_bool Try.underlying4 _), (trodAll_cons_mk (Below.trod laidOut (by kernel_rfl) (of_decide_eq_true (by kernel_rfl)) k0 bel lt0) (trodAll_cons_mk (Below.trod laidOut (by kernel_rfl) (of_decide_eq_true (by kernel_rfl)) k1 bel lt1) trodAll_mk0)), rfl, bel.frame _, fun h => by cases h⟩

theorem proved : Rows.NumReadsSaid :=
  OpenClaim.holds_of_wide 5 Try.f5 rfl rfl rfl rfl rfl rfl rfl ⟨rfl, rfl, rfl, rfl, rfl⟩ rfl rfl rfl rfl rfl (by kernel_rfl) Try.func5 (by kernel_rfl)
    (of_decide_eq_true (by kernel_rfl)) (by unfold Func.isWrapper; rw [if_neg (by decide +kernel)]; exact ⟨rfl, rfl⟩)
    (fun os started H enc _ => lifted os started H enc)

#print axioms proved

end Go.Proofs.Ytnbohkiimbooaaa.numReads
