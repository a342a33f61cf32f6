/-
  RingBounds returns true for every input, and each argument reads afterwards as it read before. Condition: the package's sizes are what the program's text lays.
-/
import Derived.Test.YtibighlkgbgjdaaDoorFrm
namespace Go.Proofs.YtibighlkgbgjdaaDoor.ringBounds
open Go.ChangeShapes Go.WideShapes Go.ChangeAt Go.RowKit

set_option maxRecDepth 100000 in
set_option maxHeartbeats 2000000 in
theorem walk_else (z : Int) (b : Bool) (c : Int) (w : World) (hg : Gl w) (hz : ¬ (0 ≤ z ∧ z ≤ 3)) :
    Calls Tryd.prog 9 #[.int .i64 z, .bool b, .int .u8 c] w fun e w' => e = .returned (.bool true) ∧ Below w.heap.size w w' := by
  have e0 : (z == 0) = false := by simp; omega
  have e1 : (z == 1) = false := by simp; omega
  have e2 : (z == 2) = false := by simp; omega
  have e3 : (z == 3) = false := by simp; omega
  have WK := Lib.hid (works_any w hg)
  clear hz
  cases b
  all_goals
    go_enter Tryd.func9, Tryd.ntmps9
    go_wp2_with (go_at_call 12; refine WK.out.mono ?_; rintro e w1 ⟨rfl, hb⟩; have HB := Lib.hid hb; clear hb)
    go_ret
    exact ⟨rfl, HB.out⟩

theorem lit_new (w : World) (hg : Gl w) (lim : Nat) (h1 : 1 ≤ lim) (h2 : lim ≤ 134217728) (m : List UInt8) (M : Nat) (hM : m.length = M) (hMl : M ≤ 1099511627776) (xs : Array Value) (hx : (m.map byt).toArray = xs) :
    Calls Tryd.prog 13 #[.int .i64 (lim : Int), .slice (some ⟨w.heap.size, 0, none⟩) M M] (w.alloc (.cells xs 5)) fun e w' => ∃ x v, e = .returned (.tuple #[.pointer (some ⟨x, 0, none⟩), .int .i64 0]) ∧ At w w' x v lim (fin lim m) 0 := by
  subst hx
  exact (at_new hg (lit_bel w _) lim h1 h2 _ m M M hM (Nat.le_refl _) hMl (lit_rv w (m.map byt) 5)).mono fun _ _ ⟨x, v, e, a, _, _⟩ => ⟨x, v, e, a⟩

set_option maxRecDepth 100000 in
set_option maxHeartbeats 4000000 in
theorem w00 (b : UInt8) (w : World) (hg : Gl w) :
    Calls Tryd.prog 9 #[.int .i64 0, .bool false, byt b] w fun e w' => e = .returned (.bool true) ∧ Below w.heap.size w w' := by
  have HG := Lib.hid hg
  clear hg
  go_enter Tryd.func9, Tryd.ntmps9
  have N1 := Lib.hid (at_new HG.out (Below.refl _ w) 1 (by decide) (by decide) none [] 0 0 rfl (Nat.le_refl _) (by decide) (Rv.nil _ _))
  go_wp2_with fail
  refine N1.out.mono ?_
  rintro e w1 ⟨x, v, rfl, a, _, _⟩
  have AA := Lib.hid a
  clear a N1
  go_wp2_with fail
  refine (works_any _ (HG.out.bel AA.out.bel)).mono ?_
  rintro e wk ⟨rfl, hbk⟩
  have BK := Lib.hid (below_on AA.out.bel (Nat.le_refl _) hbk)
  clear hbk
  go_wp2
  go_ret
  exact ⟨rfl, BK.out⟩

set_option maxRecDepth 100000 in
set_option maxHeartbeats 4000000 in
theorem w01 (b : UInt8) (w : World) (hg : Gl w) :
    Calls Tryd.prog 9 #[.int .i64 0, .bool true, byt b] w fun e w' => e = .returned (.bool true) ∧ Below w.heap.size w w' := by
  have HG := Lib.hid hg
  clear hg
  go_enter Tryd.func9, Tryd.ntmps9
  have N1 := Lib.hid (new_bad w HG.out 0 (by decide) (.slice none 0 0))
  have WG : Hid (Gl w ∧ Below w.heap.size w w) := Lib.hid ⟨HG.out, Below.refl _ w⟩
  go_wp2_with fail
  refine N1.out.mono ?_
  rintro e w ⟨rfl, rfl⟩
  go_wp2_with fail
  refine (works_any _ WG.out.1).mono ?_
  rintro e wk ⟨rfl, hbk⟩
  have BK := Lib.hid (below_on WG.out.2 (Nat.le_refl _) hbk)
  clear hbk
  go_wp2
  go_ret
  exact ⟨rfl, BK.out⟩

set_option maxRecDepth 100000 in
set_option maxHeartbeats 4000000 in
theorem w10 (b : UInt8) (w : World) (hg : Gl w) :
    Calls Tryd.prog 9 #[.int .i64 1, .bool false, byt b] w fun e w' => e = .returned (.bool true) ∧ Below w.heap.size w w' := by
  have HG := Lib.hid hg
  clear hg
  go_enter Tryd.func9, Tryd.ntmps9
  have N1 := Lib.hid (lit_new w HG.out 134217728 (by decide) (by decide) [b] 1 rfl (by decide) #[byt b] rfl)
  rw [show fin 134217728 [b] = [b] from fin_short (by simp)] at N1
  go_wp2_with fail
  refine N1.out.mono ?_
  rintro e w1 ⟨x, v, rfl, a⟩
  have AA := Lib.hid a
  have LE := Lib.hid a.rg.len_any
  clear a N1
  go_wp2_with fail
  refine LE.out.mono ?_
  rintro e w1 ⟨rfl, rfl⟩
  go_wp2_with fail
  refine (works_any _ (HG.out.bel AA.out.bel)).mono ?_
  rintro e wk ⟨rfl, hbk⟩
  have BK := Lib.hid (below_on AA.out.bel (Nat.le_refl _) hbk)
  clear hbk
  go_wp2
  go_ret
  exact ⟨rfl, BK.out⟩

set_option maxRecDepth 100000 in
set_option maxHeartbeats 4000000 in
theorem w11 (b : UInt8) (w : World) (hg : Gl w) :
    Calls Tryd.prog 9 #[.int .i64 1, .bool true, byt b] w fun e w' => e = .returned (.bool true) ∧ Below w.heap.size w w' := by
  have HG := Lib.hid hg
  clear hg
  go_enter Tryd.func9, Tryd.ntmps9
  have N1 := Lib.hid (new_bad (w.alloc (.cells #[byt b] 5)) (HG.out.bel (lit_bel w _)) 134217729 (by decide) (.slice (some ⟨w.heap.size, 0, none⟩) 1 1))
  have WG : Hid (Gl (w.alloc (.cells #[byt b] 5)) ∧ Below w.heap.size w (w.alloc (.cells #[byt b] 5))) := Lib.hid ⟨HG.out.bel (lit_bel w _), lit_bel w _⟩
  go_wp2_with fail
  refine N1.out.mono ?_
  rintro e w1 ⟨rfl, rfl⟩
  go_wp2_with fail
  refine (works_any _ WG.out.1).mono ?_
  rintro e wk ⟨rfl, hbk⟩
  have BK := Lib.hid (below_on WG.out.2 (Nat.le_refl _) hbk)
  clear hbk
  go_wp2
  go_ret
  exact ⟨rfl, BK.out⟩

set_option maxRecDepth 100000 in
set_option maxHeartbeats 4000000 in
theorem w21 (b : UInt8) (w : World) (hg : Gl w) :
    Calls Tryd.prog 9 #[.int .i64 2, .bool true, byt b] w fun e w' => e = .returned (.bool true) ∧ Below w.heap.size w w' := by
  have HG := Lib.hid hg
  clear hg
  go_enter Tryd.func9, Tryd.ntmps9
  have N1 := Lib.hid (lit_new w HG.out 9 (by decide) (by decide) [b] 1 rfl (by decide) #[byt b] rfl)
  rw [show fin 9 [b] = [b] from fin_short (by simp)] at N1
  go_wp2_with fail
  refine N1.out.mono ?_
  rintro e w1 ⟨x, v, rfl, a⟩
  have A1 := Lib.hid a
  clear a N1
  have CP := Lib.hid (at_bad A1.out 1 131073 2 (by show obj 1 1 131073 = 2; decide +kernel) (by decide))
  go_wp2_with fail
  refine CP.out.mono ?_
  rintro e w2 ⟨rfl, a, _⟩
  have AA := Lib.hid a
  have LE := Lib.hid a.rg.len_any
  have TO := Lib.hid a.rg.total_any
  clear a CP A1
  go_wp2_with fail
  refine LE.out.mono ?_
  rintro e w2 ⟨rfl, rfl⟩
  go_wp2_with fail
  refine TO.out.mono ?_
  rintro e w2 ⟨rfl, rfl⟩
  go_wp2_with fail
  refine (works_any _ (HG.out.bel AA.out.bel)).mono ?_
  rintro e wk ⟨rfl, hbk⟩
  have BK := Lib.hid (below_on AA.out.bel (Nat.le_refl _) hbk)
  clear hbk
  go_wp2
  go_ret
  exact ⟨rfl, BK.out⟩

theorem cyc_one (b : UInt8) (n j : Nat) (h : j < n) : (cyc [b] n)[j]? = some b := by
  rw [cyc_get _ h]
  simp [Nat.mod_one]

set_option maxRecDepth 100000 in
set_option maxHeartbeats 4000000 in
theorem w20 (b : UInt8) (w : World) (hg : Gl w) :
    Calls Tryd.prog 9 #[.int .i64 2, .bool false, byt b] w fun e w' => e = .returned (.bool true) ∧ Below w.heap.size w w' := by
  have HG := Lib.hid hg
  clear hg
  go_enter Tryd.func9, Tryd.ntmps9
  have N1 := Lib.hid (lit_new w HG.out 9 (by decide) (by decide) [b] 1 rfl (by decide) #[byt b] rfl)
  rw [show fin 9 [b] = [b] from fin_short (by simp)] at N1
  go_wp2_with fail
  refine N1.out.mono ?_
  rintro e w1 ⟨x, v, rfl, a⟩
  have A1 := Lib.hid a
  clear a N1
  have CP := Lib.hid (at_copy A1.out 1 131072 (by decide) (by simp) (by decide) (by decide) (cyc [b] 131072) rfl (fin 9 ([b] ++ cyc [b] 131072)) rfl)
  have FL : Hid ((fin 9 ([b] ++ cyc [b] 131072)).length = 9) := Lib.hid (by rw [fin_len, List.length_append, cyc_len]; rfl)
  obtain ⟨T, hT⟩ : ∃ T, cyc [b] 131072 = T := ⟨_, rfl⟩
  have HT := Lib.hid hT
  rw [hT] at CP FL
  clear hT
  go_wp2_with fail
  refine CP.out.mono ?_
  rintro e w2 ⟨A, c, v2, rfl, a, hc, ho, _, _, _⟩
  have AA := Lib.hid a
  have LE := Lib.hid a.rg.len_any
  have TO := Lib.hid a.rg.total_any
  rw [FL.out] at LE
  rcases ho.2 with ⟨_, hn⟩ | ⟨g, cp, cur, hv, _⟩
  · exact absurd hn (by decide)
  injection hv with hA
  subst hA
  have R := Rv.of_own ho
  have c0 : w2.cell? ⟨g, 0, none⟩ = some (byt b) := by
    obtain ⟨ad, e, h⟩ := R 0 (byt b) (by rw [List.getElem?_map, ← HT.out, cyc_one _ _ _ (by decide)]; rfl)
    cases e
    exact h
  have c1 : w2.cell? ⟨g, 131071, none⟩ = some (byt b) := by
    obtain ⟨ad, e, h⟩ := R 131071 (byt b) (by rw [List.getElem?_map, ← HT.out, cyc_one _ _ _ (by decide)]; rfl)
    cases e
    exact h
  clear a CP A1 ho R
  go_wp2_with fail
  refine LE.out.mono ?_
  rintro e w2 ⟨rfl, rfl⟩
  go_wp2_with fail
  refine TO.out.mono ?_
  rintro e w2 ⟨rfl, rfl⟩
  go_wp2_with fail
  refine (works_any _ (HG.out.bel AA.out.bel)).mono ?_
  rintro e wk ⟨rfl, hbk⟩
  have BK := Lib.hid (below_on AA.out.bel (Nat.le_refl _) hbk)
  clear hbk
  go_wp2
  go_ret
  exact ⟨rfl, BK.out⟩

set_option maxRecDepth 100000 in
set_option maxHeartbeats 4000000 in
theorem w31 (b : UInt8) (w : World) (hg : Gl w) :
    Calls Tryd.prog 9 #[.int .i64 3, .bool true, byt b] w fun e w' => e = .returned (.bool true) ∧ Below w.heap.size w w' := by
  have HG := Lib.hid hg
  clear hg
  go_enter Tryd.func9, Tryd.ntmps9
  have N1 := Lib.hid (lit_new w HG.out 3 (by decide) (by decide) [b, 1, 2, 3] 4 rfl (by decide) #[byt b, .int .u8 1, .int .u8 2, .int .u8 3] rfl)
  rw [show fin 3 [b, 1, 2, 3] = [1, 2, 3] from rfl] at N1
  go_wp2_with fail
  refine N1.out.mono ?_
  rintro e w1 ⟨x, v, rfl, a⟩
  have A1 := Lib.hid a
  clear a N1
  have CP := Lib.hid (at_bad A1.out 4 2 15 (by decide +kernel) (by decide))
  go_wp2_with fail
  refine CP.out.mono ?_
  rintro e w2 ⟨rfl, a, _⟩
  have A2 := Lib.hid a
  have LA := Lib.hid (at_last a 9 [1, 2, 3] 3 rfl rfl)
  clear a CP A1
  go_wp2_with fail
  refine LA.out.mono ?_
  rintro e w3 ⟨AL, cL, rfl, _, cv, _, a3, _⟩
  have AA := Lib.hid a3
  clear a3 LA A2
  go_wp2_with fail
  refine (works_any _ (HG.out.bel AA.out.bel)).mono ?_
  rintro e wk ⟨rfl, hbk⟩
  have BK := Lib.hid (below_on AA.out.bel (Nat.le_refl _) hbk)
  clear hbk
  go_wp2
  go_ret
  exact ⟨rfl, BK.out⟩

set_option maxRecDepth 100000 in
set_option maxHeartbeats 4000000 in
theorem w30 (b : UInt8) (w : World) (hg : Gl w) :
    Calls Tryd.prog 9 #[.int .i64 3, .bool false, byt b] w fun e w' => e = .returned (.bool true) ∧ Below w.heap.size w w' := by
  have HG := Lib.hid hg
  clear hg
  go_enter Tryd.func9, Tryd.ntmps9
  have N1 := Lib.hid (lit_new w HG.out 3 (by decide) (by decide) [b, 1, 2, 3] 4 rfl (by decide) #[byt b, .int .u8 1, .int .u8 2, .int .u8 3] rfl)
  rw [show fin 3 [b, 1, 2, 3] = [1, 2, 3] from rfl] at N1
  go_wp2_with fail
  refine N1.out.mono ?_
  rintro e w1 ⟨x, v, rfl, a⟩
  have A1 := Lib.hid a
  clear a N1
  have CP := Lib.hid (at_copy A1.out 3 2 (by decide) (by decide) (by decide) (by decide) [1, 2] (by decide +kernel) [3, 1, 2] rfl)
  go_wp2_with fail
  refine CP.out.mono ?_
  rintro e w2 ⟨A, c, v2, rfl, a, hc, ho, _, _, _⟩
  have A2 := Lib.hid a
  have cv := conv_len w2 A [1, 2] 2 c rfl (Rv.of_own ho)
  have LA := Lib.hid (at_last a 9 [3, 1, 2] 3 rfl rfl)
  clear a CP A1 ho
  go_wp2_with fail
  refine LA.out.mono ?_
  rintro e w3 ⟨AL, cL, rfl, _, cv2, _, a3, _⟩
  have AA := Lib.hid a3
  clear a3 LA A2 cv
  go_wp2_with fail
  refine (works_any _ (HG.out.bel AA.out.bel)).mono ?_
  rintro e wk ⟨rfl, hbk⟩
  have BK := Lib.hid (below_on AA.out.bel (Nat.le_refl _) hbk)
  clear hbk
  go_wp2
  go_ret
  exact ⟨rfl, BK.out⟩

theorem walk (z : Int) (b : Bool) (c : Int) (w : World) (hg : Gl w) (hz : (Lit.int IntKind.i64 z).wf = true) (hc : (Lit.int IntKind.u8 c).wf = true) :
    Calls Tryd.prog 9 #[.int .i64 z, .bool b, .int .u8 c] w fun e w' => e = .returned (.bool true) ∧ Below w.heap.size w w' := by
  have _ := hz
  by_cases h : 0 ≤ z ∧ z ≤ 3
  · have hb := bounds_u8 hc
    obtain ⟨x, hx⟩ : ∃ x : UInt8, (x.toNat : Int) = c := ⟨UInt8.ofNat c.toNat, by rw [UInt8.toNat_ofNat', Nat.mod_eq_of_lt (by omega)]; omega⟩
    rw [← hx]
    have h4 : z = 0 ∨ z = 1 ∨ z = 2 ∨ z = 3 := by omega
    rcases h4 with rfl | rfl | rfl | rfl <;> cases b
    · exact w00 x w hg
    · exact w01 x w hg
    · exact w10 x w hg
    · exact w11 x w hg
    · exact w20 x w hg
    · exact w21 x w hg
    · exact w30 x w hg
    · exact w31 x w hg
  · exact walk_else z b c w hg h

set_option maxRecDepth 100000 in
theorem lifted (os : Os) (started : os.Started) (H : Type) (enc : TypeId × Value → H) :
    ReturnsInHanded {} Tryd.checked os 9 .any (fun w args => (Rows.ringBoundsSpec.pre enc Tryd.prog Tryd.f9 [] false w args ∧ laidMetH Tryd.prog laidS w) ∧ sizedMet enc Tryd.prog Tryd.f9 (OpenSpec.ofChange Rows.ringBoundsSpec) false w args) (Rows.ringBoundsSpec.post enc Tryd.prog Tryd.f9 false true false false) := by
  refine returnsInHanded_of_change_and (C := Tryd.checked) (X := fun w _ => laidMetH Tryd.prog laidS w) (fun _ _ _ hh h => h.of_heap hh) ownB started (by kernel_rfl) Tryd.func9
    (ChangeSpec.witness_shaped (enc := enc) (C := Tryd.checked) (os := os) (X := fun w _ => laidMetH Tryd.prog laidS w) false (World.doorLaid Tryd.prog 400 os) #[.int .i64 0, .bool false, .int .u8 0] 8 rfl (World.shaped_of_RefB (by kernel_rfl) (by kernel_rfl)) (by kernel_rfl) (by kernel_rfl) (by kernel_rfl) (door_met os _)) ?_
  intro W base args ds gs before hval0 hW _ hsz0 hL _
  have hgl := gl_of_laid hL
  have hsz : (DataW.weightsEach Tryd.prog (Tryd.f9.params.toList ++ Rows.ringBoundsSpec.plain.varTypes Tryd.prog) (ds ++ gs)).all (· ≤ reachBytes) = true := hsz0
  clear hsz0
  have hval : ∀ (j : Nat) t v, Tryd.f9.params[j]? = some t → args[j]? = some v → Value.okWide Tryd.prog W .any base t v := hval0
  have hW' := hW
  obtain ⟨p, q, hA0, hV, rfl, hfz, hnd⟩ := hW
  have hA : DataW.TrodAll enc Tryd.prog W 0 (fun _ => true) true Tryd.f9.params.toList args.toList ds p := hA0
  rw [Tryd.params9] at hA hval hsz
  obtain ⟨v0, vs0, d0, ds0, p0, q0, hargs, rfl, rfl, h0, r0⟩ := trodAll_cons hA
  obtain ⟨v1, vs1, d1, ds1, p1, q1, rfl, rfl, rfl, h1, r1⟩ := trodAll_cons r0
  obtain ⟨v2, vs2, d2, ds2, p2, q2, rfl, rfl, rfl, h2, r2⟩ := trodAll_cons r1
  obtain ⟨rfl, rfl, rfl⟩ := trodAll_nil r2
  obtain rfl : args = #[v0, v1, v2] := by cases args; simp_all
  obtain ⟨rfl, rfl⟩ := trodVars_none hV
  obtain ⟨a0, rfl, rfl, rfl, w0⟩ := open_int Tryd.underlying3 (hval 0 3 v0 rfl rfl) h0
  obtain ⟨a1, rfl, rfl, rfl⟩ := open_bool Tryd.underlying4 (hval 1 4 v1 rfl rfl) h1
  obtain ⟨a2, rfl, rfl, rfl, w2⟩ := open_int Tryd.underlying5 (hval 2 5 v2 rfl rfl) h2
  clear hA0 hval0
  refine (walk a0 a1 a2 W hgl w0  w2).mono fun e W' ⟨he, bel⟩ => ?_
  subst he
  exact ⟨_, rfl, _, _, _, [], _, [], hW', trodAll_mk1 (shut_bool Tryd.underlying4 _), (trodAll_cons_mk (shut_int Tryd.underlying3 w0) (trodAll_cons_mk (shut_bool Tryd.underlying4 _) (trodAll_cons_mk (shut_int Tryd.underlying5 w2) trodAll_mk0))), rfl, bel.frame _, fun h => by cases h⟩

theorem row_proved : Rows.RingBoundsSaid :=
  OpenClaim.holds_of_wide 9 Tryd.f9 rfl rfl rfl rfl rfl rfl rfl ⟨rfl, rfl, rfl, rfl, rfl⟩ rfl rfl rfl rfl rfl (by kernel_rfl) Tryd.func9 (by kernel_rfl)
    (of_decide_eq_true (by kernel_rfl)) (by unfold Func.isWrapper; rw [if_neg (by decide +kernel)]; exact ⟨rfl, rfl⟩)
    (fun os started H enc _ => lifted os started H enc)

theorem proved : Rows.RingBoundsCardSaid :=
  Claim7.holds_tied_plain_at .later [] [.data] true Rows.ringBoundsCard.stood.harness false
    row_proved (fun _ h => by cases h) (by kernel_rfl) (fun _ h => by cases h) ringBounds_row_tie rfl ⟨rfl, rfl⟩ (by kernel_rfl) rfl
    (fun f fn hf hfn => by
      obtain rfl : f = 9 := Option.some.inj ((show Tryd.prog.funcNamed "portmanteau/portmanteaulaw06.RingBounds" = some 9 by kernel_rfl).symm.trans hf) |>.symm
      obtain rfl : fn = Tryd.f9 := (Option.some.inj (Tryd.func9.symm.trans hfn)).symm
      exact ⟨by kernel_rfl, fun j t ht => by
        rw [Tryd.params9] at ht
        have hall : ∀ t ∈ [3, 4, 5], Tryd.prog.wantsStandIn t = false := by
          intro t ht
          simp only [List.mem_cons, List.not_mem_nil, or_false] at ht
          rcases ht with rfl | rfl | rfl
          all_goals kernel_rfl
        refine hall t ?_
        rw [← Array.getElem?_toList] at ht
        exact List.mem_of_getElem? ht⟩)
    (by kernel_rfl)

#print axioms proved

end Go.Proofs.YtibighlkgbgjdaaDoor.ringBounds
