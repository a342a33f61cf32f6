/-
  RingNone returns true for every input, and each argument reads afterwards as it read before. Condition: the package's sizes are what the program's text lays.
-/
import Derived.Test.YtibighlkgbgjdaaDoorOpn
import Derived.Test.YtibighlkgbgjdaaDoorOvr
namespace Go.Proofs.YtibighlkgbgjdaaDoor.ringNone
open Go.ChangeShapes Go.WideShapes Go.ChangeAt Go.RowKit

/-- A ring that is none. -/
structure Non (w : World) (p : Option Addr) : Prop where
  no : ∀ W, Below w.heap.size w W → Calls Tryd.prog 36 #[.pointer p] W fun e w' => e = .returned (.bool true) ∧ w' = W
  len : ∀ W, Below w.heap.size w W → Calls Tryd.prog 29 #[.pointer p] W fun e w' => e = .returned (.int .i64 0) ∧ w' = W
  size : ∀ W, Below w.heap.size w W → Calls Tryd.prog 28 #[.pointer p] W fun e w' => e = .returned (.int .i64 0) ∧ w' = W
  total : ∀ W, Below w.heap.size w W → Calls Tryd.prog 30 #[.pointer p] W fun e w' => e = .returned (.int .i64 0) ∧ w' = W

theorem Non.below {w w' : World} {p : Option Addr} (h : Non w p) (hb : Below w.heap.size w w') : Non w' p :=
  ⟨fun W hW => h.no W (below_on hb (Nat.le_refl _) hW), fun W hW => h.len W (below_on hb (Nat.le_refl _) hW), fun W hW => h.size W (below_on hb (Nat.le_refl _) hW), fun W hW => h.total W (below_on hb (Nat.le_refl _) hW)⟩
theorem non_nil (w : World) : Non w none := ⟨fun W _ => none_nil W, fun W _ => len_nil W, fun W _ => size_nil W, fun W _ => total_nil W⟩
theorem non_zero (w : World) : Non (w.alloc (.cells #[.int .i64 0, .slice none 0 0, .int .i64 0, .int .i64 0] 57)) (some ⟨w.heap.size, 0, none⟩) := by
  have hb : Rb (w.alloc (.cells #[.int .i64 0, .slice none 0 0, .int .i64 0, .int .i64 0] 57)) w.heap.size 0 (.slice none 0 0) 0 0 := Rb.new w 0
  exact ⟨fun W hW => none_zero (hb.same (hW.block _ hb.lt)), fun W hW => len_ok (hb.same (hW.block _ hb.lt)), fun W hW => size_ok (hb.same (hW.block _ hb.lt)), fun W hW => total_ok (hb.same (hW.block _ hb.lt))⟩

/-- The argument's block. -/
def Ab (w : World) (b : Nat) (wh : Int) (A : Option Addr) (n c : Nat) (ofs nn : Int) : Prop := w.heap[b]? = some (.cells #[.int .i64 wh, .slice A n c, .int .i64 ofs, .int .i64 nn] 38 (0, 0))
section
variable {w w' : World} {b : Nat} {wh : Int} {A : Option Addr} {n c : Nat} {ofs nn : Int}
theorem Ab.lt (h : Ab w b wh A n c ofs nn) : b < w.heap.size := (Array.getElem?_eq_some_iff.1 h).1
theorem Ab.c0 (h : Ab w b wh A n c ofs nn) : w.cell? ⟨b, 0, none⟩ = some (.int .i64 wh) := by rw [cell_of_row w b 0 _ _ _ h]; rfl
theorem Ab.c1 (h : Ab w b wh A n c ofs nn) : w.cell? ⟨b, 1, none⟩ = some (.slice A n c) := by rw [cell_of_row w b 1 _ _ _ h]; rfl
theorem Ab.c2 (h : Ab w b wh A n c ofs nn) : w.cell? ⟨b, 2, none⟩ = some (.int .i64 ofs) := by rw [cell_of_row w b 2 _ _ _ h]; rfl
theorem Ab.c3 (h : Ab w b wh A n c ofs nn) : w.cell? ⟨b, 3, none⟩ = some (.int .i64 nn) := by rw [cell_of_row w b 3 _ _ _ h]; rfl
theorem Ab.below (h : Ab w b wh A n c ofs nn) (hb : Below w.heap.size w w') : Ab w' b wh A n c ofs nn := (hb.block b h.lt).trans h
theorem Ab.new (w : World) (wh : Int) (A : Option Addr) (n c : Nat) (ofs nn : Int) : Ab (w.alloc (.cells #[.int .i64 wh, .slice A n c, .int .i64 ofs, .int .i64 nn] 38)) w.heap.size wh A n c ofs nn := World.alloc_heap_new w _
end

/-- What the law holds on to. -/
structure St (w W : World) (p : Option Addr) (b : Nat) (wh : Int) (A : Option Addr) (n c : Nat) (ofs nn : Int) (y : Nat) (u : Value) : Prop where
  non : Non W p
  ab : Ab W b wh A n c ofs nn
  at_ : At w W y u 3 [] 0
theorem St.below {w W W' : World} {p : Option Addr} {b : Nat} {wh : Int} {A : Option Addr} {n c : Nat} {ofs nn : Int} {y : Nat} {u : Value} (h : St w W p b wh A n c ofs nn y u) (hb : Below W.heap.size W W') : St w W' p b wh A n c ofs nn y u := ⟨h.non.below hb, h.ab.below hb, h.at_.below hb⟩

set_option maxRecDepth 100000 in
set_option maxHeartbeats 8000000 in
theorem walk_x (zero : Bool) (wh : Int) (A : Option Addr) (n c : Nat) (ofs nn : Int) (w : World) (hg : Gl w) :
    Calls Tryd.prog 6 #[.agg #[.int .i64 wh, .slice A n c, .int .i64 ofs, .int .i64 nn], .bool zero] w fun e w' => e = .returned (.bool true) ∧ Below w.heap.size w w' := by
  have HG := Lib.hid hg
  obtain ⟨w1, hw1⟩ : ∃ w1, w.alloc (.cells #[.int .i64 wh, .slice A n c, .int .i64 ofs, .int .i64 nn] 38) = w1 := ⟨_, rfl⟩
  have a1 : Ab w1 w.heap.size wh A n c ofs nn := by rw [← hw1]; exact Ab.new w wh A n c ofs nn
  have g1 : Below w.heap.size w w1 := by rw [← hw1]; exact lit_bel w _
  have s1 : w1.heap.size = w.heap.size + 1 := by rw [← hw1]; simp
  have l0 := a1.c0
  have l1 := a1.c1
  have l2 := a1.c2
  have l3 := a1.c3
  obtain ⟨w2, hw2⟩ : ∃ w2, w1.alloc (.cells #[.int .i64 wh, .slice A n c, .int .i64 ofs, .int .i64 nn] 38) = w2 := ⟨_, rfl⟩
  have a2 : Ab w2 w1.heap.size wh A n c ofs nn := by rw [← hw2]; exact Ab.new w1 wh A n c ofs nn
  have g2 : Below w1.heap.size w1 w2 := by rw [← hw2]; exact lit_bel w1 _
  have FW := Lib.hid (few_one w2 w1.heap.size wh A n c ofs nn a2.c0 a2.c1 a2.c3)
  rw [s1] at FW
  have X2 := Lib.hid (a1.below g2)
  have G2 := Lib.hid (below_on g1 (Nat.le_refl _) g2)
  clear hg a1 g1 a2 g2
  go_enter Tryd.func6, Tryd.ntmps6
  go_wp2_with fail
  refine FW.out.mono ?_
  rintro e w2 ⟨⟨bb, rfl⟩, rfl⟩
  clear FW hw1 hw2 l0 l1 l2 l3
  cases bb
  · go_wp2_with fail
    refine (works_any _ (HG.out.bel G2.out)).mono ?_
    rintro e wk ⟨rfl, hbk⟩
    have BK := Lib.hid (below_on G2.out (Nat.le_refl _) hbk)
    clear hbk
    go_wp2
    go_ret
    exact ⟨rfl, BK.out⟩
  · cases zero
    · have NN := Lib.hid (non_nil w2)
      go_wp2_with fail
      refine (at_new HG.out G2.out 3 (by decide) (by decide) none [] 0 0 rfl (Nat.le_refl _) (by decide) (Rv.nil _ _)).mono ?_
      rintro e w4 ⟨y, u, rfl, a4, b4, _⟩
      rw [show fin 3 ([] : List UInt8) = [] by simp [fin]] at a4
      have S4 : Hid (St w w4 none w.heap.size wh A n c ofs nn y u) := Lib.hid ⟨NN.out.below b4, X2.out.below b4, a4⟩
      have l2 := S4.out.ab.c2
      have l3 := S4.out.ab.c3
      clear a4 b4 NN X2
      go_wp2_with fail
      refine (copy_err none ofs nn 1 (by decide) (fun W hW => obj_none (S4.out.non.no W hW) _ _)).mono ?_
      rintro e w5 ⟨rfl, b5⟩
      have S5 := Lib.hid (S4.out.below b5)
      have k1 := S5.out.ab.c1
      have k2 := S5.out.ab.c2
      have k3 := S5.out.ab.c3
      clear b5 S4 l2 l3
      go_wp2_with fail
      refine (byte_none (S5.out.non.no w5 (Below.refl _ _)) _).mono ?_
      rintro e w5 ⟨rfl, rfl⟩
      go_wp2_with fail
      refine (num_any _ _).mono ?_
      rintro e w5 ⟨rfl, rfl⟩
      go_wp2_with fail
      refine (num_any _ _).mono ?_
      rintro e w5 ⟨rfl, rfl⟩
      go_wp2_with fail
      refine (add_none (S5.out.non.no w5 (Below.refl _ _)) _).mono ?_
      rintro e w5 ⟨rfl, rfl⟩
      go_wp2_with fail
      refine (num_any _ _).mono ?_
      rintro e w5 ⟨rfl, rfl⟩
      go_wp2_with fail
      refine (last_nil none nn (fun W hW => S5.out.non.len W hW)).mono ?_
      rintro e w6 ⟨A6, c6, rfl, _, _, b6⟩
      have S6 := Lib.hid (S5.out.below b6)
      clear b6 S5 k1 k2 k3
      simp only [List.length_nil]
      go_wp2_with fail
      refine (over_none none (fun W hW => S6.out.non.len W hW)).mono ?_
      rintro e w7 ⟨rfl, b7⟩
      have S7 := Lib.hid (S6.out.below b7)
      clear b7 S6
      go_wp2_with fail
      refine (S7.out.non.size w7 (Below.refl _ _)).mono ?_
      rintro e w7 ⟨rfl, rfl⟩
      go_wp2_with fail
      refine (S7.out.non.len w7 (Below.refl _ _)).mono ?_
      rintro e w7 ⟨rfl, rfl⟩
      go_wp2_with fail
      refine (S7.out.non.total w7 (Below.refl _ _)).mono ?_
      rintro e w7 ⟨rfl, rfl⟩
      go_wp2_with fail
      refine (clone_none (S7.out.non.no w7 (Below.refl _ _))).mono ?_
      rintro e w7 ⟨rfl, rfl⟩
      go_wp2_with fail
      refine (equal_none (S7.out.non.no w7 (Below.refl _ _)) true (none_nil w7)).mono ?_
      rintro e w7 ⟨rfl, rfl⟩
      go_wp2_with fail
      refine (equal_none (S7.out.non.no w7 (Below.refl _ _)) false S7.out.at_.rg.none_any).mono ?_
      rintro e w7 ⟨rfl, rfl⟩
      go_wp2_with fail
      refine (works_any _ (HG.out.bel S7.out.at_.bel)).mono ?_
      rintro e wk ⟨rfl, hbk⟩
      have BK := Lib.hid (below_on S7.out.at_.bel (Nat.le_refl _) hbk)
      clear hbk
      go_wp2
      go_ret
      exact ⟨rfl, BK.out⟩
    · have NN := Lib.hid (non_zero w2)
      have X3 := Lib.hid (X2.out.below (lit_bel w2 (.cells #[.int .i64 0, .slice none 0 0, .int .i64 0, .int .i64 0] 57)))
      have G3 := Lib.hid (below_on G2.out (Nat.le_refl _) (lit_bel w2 (.cells #[.int .i64 0, .slice none 0 0, .int .i64 0, .int .i64 0] 57)))
      go_wp2_with fail
      refine (at_new HG.out G3.out 3 (by decide) (by decide) none [] 0 0 rfl (Nat.le_refl _) (by decide) (Rv.nil _ _)).mono ?_
      rintro e w4 ⟨y, u, rfl, a4, b4, _⟩
      rw [show fin 3 ([] : List UInt8) = [] by simp [fin]] at a4
      have S4 : Hid (St w w4 (some ⟨w2.heap.size, 0, none⟩) w.heap.size wh A n c ofs nn y u) := Lib.hid ⟨NN.out.below b4, X3.out.below b4, a4⟩
      have l2 := S4.out.ab.c2
      have l3 := S4.out.ab.c3
      clear a4 b4 NN X2 X3
      go_wp2_with fail
      refine (copy_err (some ⟨w2.heap.size, 0, none⟩) ofs nn 1 (by decide) (fun W hW => obj_none (S4.out.non.no W hW) _ _)).mono ?_
      rintro e w5 ⟨rfl, b5⟩
      have S5 := Lib.hid (S4.out.below b5)
      have k1 := S5.out.ab.c1
      have k2 := S5.out.ab.c2
      have k3 := S5.out.ab.c3
      clear b5 S4 l2 l3
      go_wp2_with fail
      refine (byte_none (S5.out.non.no w5 (Below.refl _ _)) _).mono ?_
      rintro e w5 ⟨rfl, rfl⟩
      go_wp2_with fail
      refine (num_any _ _).mono ?_
      rintro e w5 ⟨rfl, rfl⟩
      go_wp2_with fail
      refine (num_any _ _).mono ?_
      rintro e w5 ⟨rfl, rfl⟩
      go_wp2_with fail
      refine (add_none (S5.out.non.no w5 (Below.refl _ _)) _).mono ?_
      rintro e w5 ⟨rfl, rfl⟩
      go_wp2_with fail
      refine (num_any _ _).mono ?_
      rintro e w5 ⟨rfl, rfl⟩
      go_wp2_with fail
      refine (last_nil (some ⟨w2.heap.size, 0, none⟩) nn (fun W hW => S5.out.non.len W hW)).mono ?_
      rintro e w6 ⟨A6, c6, rfl, _, _, b6⟩
      have S6 := Lib.hid (S5.out.below b6)
      clear b6 S5 k1 k2 k3
      simp only [List.length_nil]
      go_wp2_with fail
      refine (over_none (some ⟨w2.heap.size, 0, none⟩) (fun W hW => S6.out.non.len W hW)).mono ?_
      rintro e w7 ⟨rfl, b7⟩
      have S7 := Lib.hid (S6.out.below b7)
      clear b7 S6
      go_wp2_with fail
      refine (S7.out.non.size w7 (Below.refl _ _)).mono ?_
      rintro e w7 ⟨rfl, rfl⟩
      go_wp2_with fail
      refine (S7.out.non.len w7 (Below.refl _ _)).mono ?_
      rintro e w7 ⟨rfl, rfl⟩
      go_wp2_with fail
      refine (S7.out.non.total w7 (Below.refl _ _)).mono ?_
      rintro e w7 ⟨rfl, rfl⟩
      go_wp2_with fail
      refine (clone_none (S7.out.non.no w7 (Below.refl _ _))).mono ?_
      rintro e w7 ⟨rfl, rfl⟩
      go_wp2_with fail
      refine (equal_none (S7.out.non.no w7 (Below.refl _ _)) true (none_nil w7)).mono ?_
      rintro e w7 ⟨rfl, rfl⟩
      go_wp2_with fail
      refine (equal_none (S7.out.non.no w7 (Below.refl _ _)) false S7.out.at_.rg.none_any).mono ?_
      rintro e w7 ⟨rfl, rfl⟩
      go_wp2_with fail
      refine (works_any _ (HG.out.bel S7.out.at_.bel)).mono ?_
      rintro e wk ⟨rfl, hbk⟩
      have BK := Lib.hid (below_on S7.out.at_.bel (Nat.le_refl _) hbk)
      clear hbk
      go_wp2
      go_ret
      exact ⟨rfl, BK.out⟩

theorem walk (wh : Int) (A : Option Addr) (n c : Nat) (ofs nn : Int) (zero : Bool) (w : World) (hg : Gl w) :
    Calls Tryd.prog 6 #[.agg #[.int .i64 wh, .slice A n c, .int .i64 ofs, .int .i64 nn], .bool zero] w fun e w' => e = .returned (.bool true) ∧ Below w.heap.size w w' := walk_x zero wh A n c ofs nn w hg

set_option maxRecDepth 100000 in
theorem lifted (os : Os) (started : os.Started) (H : Type) (enc : TypeId × Value → H) :
    ReturnsInHanded {} Tryd.checked os 6 .any (fun w args => (Rows.ringNoneSpec.pre enc Tryd.prog Tryd.f6 [] false w args ∧ laidMetH Tryd.prog laidS w) ∧ sizedMet enc Tryd.prog Tryd.f6 (OpenSpec.ofChange Rows.ringNoneSpec) false w args) (Rows.ringNoneSpec.post enc Tryd.prog Tryd.f6 false true false false) := by
  refine returnsInHanded_of_change_and (C := Tryd.checked) (X := fun w _ => laidMetH Tryd.prog laidS w) (fun _ _ _ hh h => h.of_heap hh) ownB started (by kernel_rfl) Tryd.func6
    (ChangeSpec.witness_shaped (enc := enc) (C := Tryd.checked) (os := os) (X := fun w _ => laidMetH Tryd.prog laidS w) false (World.doorLaid Tryd.prog 400 os) #[.agg #[.int .i64 0, .slice none 0 0, .int .i64 0, .int .i64 0], .bool false] 8 rfl (World.shaped_of_RefB (by kernel_rfl) (by kernel_rfl)) (by kernel_rfl) (by kernel_rfl) (by kernel_rfl) (door_met os _)) ?_
  intro W base args ds gs before hval0 hW _ hsz0 hL _
  have hgl := gl_of_laid hL
  have hsz : (DataW.weightsEach Tryd.prog (Tryd.f6.params.toList ++ Rows.ringNoneSpec.plain.varTypes Tryd.prog) (ds ++ gs)).all (· ≤ reachBytes) = true := hsz0
  clear hsz0
  have hval : ∀ (j : Nat) t v, Tryd.f6.params[j]? = some t → args[j]? = some v → Value.okWide Tryd.prog W .any base t v := hval0
  have hW' := hW
  obtain ⟨p, q, hA0, hV, rfl, hfz, hnd⟩ := hW
  have hA : DataW.TrodAll enc Tryd.prog W 0 (fun _ => true) true Tryd.f6.params.toList args.toList ds p := hA0
  rw [Tryd.params6] at hA hval hsz
  obtain ⟨v0, vs0, d0, ds0, p0, q0, hargs, rfl, rfl, h0, r0⟩ := trodAll_cons hA
  obtain ⟨v1, vs1, d1, ds1, p1, q1, rfl, rfl, rfl, h1, r1⟩ := trodAll_cons r0
  obtain ⟨rfl, rfl, rfl⟩ := trodAll_nil r1
  obtain rfl : args = #[v0, v1] := by cases args; simp_all
  obtain ⟨rfl, rfl⟩ := trodVars_none hV
  obtain ⟨cs0, rfl, hcs0⟩ := okWide_struct Tryd.underlying38 (hval 0 38 v0 rfl rfl)
  have k0 := h0
  have lt0 : ∀ x ∈ p0, x.block < W.heap.size := by obtain ⟨m, hm⟩ := k0; exact DataW.trod_lt m _ _ _ hm
  obtain ⟨wh0, A0, n0, c0, of0, nn0, rfl⟩ := open_act hcs0 h0
  obtain ⟨a1, rfl, rfl, rfl⟩ := open_bool Tryd.underlying4 (hval 1 4 v1 rfl rfl) h1
  clear hA0 hval0
  refine (walk wh0 A0 n0 c0 of0 nn0 a1 W hgl  ).mono fun e W' ⟨he, bel⟩ => ?_
  subst he
  exact ⟨_, rfl, _, _, _, [], _, [], hW', trodAll_mk1 (shut_bool Tryd.underlying4 _), (trodAll_cons_mk (Below.trod laidOut (by kernel_rfl) (of_decide_eq_true (by kernel_rfl)) k0 bel lt0) (trodAll_cons_mk (shut_bool Tryd.underlying4 _) trodAll_mk0)), rfl, bel.frame _, fun h => by cases h⟩

theorem row_proved : Rows.RingNoneSaid :=
  OpenClaim.holds_of_wide 6 Tryd.f6 rfl rfl rfl rfl rfl rfl rfl ⟨rfl, rfl, rfl, rfl, rfl⟩ rfl rfl rfl rfl rfl (by kernel_rfl) Tryd.func6 (by kernel_rfl)
    (of_decide_eq_true (by kernel_rfl)) (by unfold Func.isWrapper; rw [if_neg (by decide +kernel)]; exact ⟨rfl, rfl⟩)
    (fun os started H enc _ => lifted os started H enc)

theorem proved : Rows.RingNoneCardSaid :=
  Claim7.holds_tied_plain_at .later [] [.data] true Rows.ringNoneCard.stood.harness false
    row_proved (fun _ h => by cases h) (by kernel_rfl) (fun _ h => by cases h) ringNone_row_tie rfl ⟨rfl, rfl⟩ (by kernel_rfl) rfl
    (fun f fn hf hfn => by
      obtain rfl : f = 6 := Option.some.inj ((show Tryd.prog.funcNamed "portmanteau/portmanteaulaw06.RingNone" = some 6 by kernel_rfl).symm.trans hf) |>.symm
      obtain rfl : fn = Tryd.f6 := (Option.some.inj (Tryd.func6.symm.trans hfn)).symm
      exact ⟨by kernel_rfl, fun j t ht => by
        rw [Tryd.params6] at ht
        have hall : ∀ t ∈ [38, 4], Tryd.prog.wantsStandIn t = false := by
          intro t ht
          simp only [List.mem_cons, List.not_mem_nil, or_false] at ht
          rcases ht with rfl | rfl
          all_goals kernel_rfl
        refine hall t ?_
        rw [← Array.getElem?_toList] at ht
        exact List.mem_of_getElem? ht⟩)
    (by kernel_rfl)

#print axioms proved

end Go.Proofs.YtibighlkgbgjdaaDoor.ringNone
