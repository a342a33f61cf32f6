/-
  Proved: the law DescReads returns true for all bytes and bounds: the table, the cursor's place and the error of Decode are those of the reference. No condition.
-/
import Derived.BigQuiet
import Derived.Deep.QuietTactic
import Derived.Test.YtpjbjbohbdlciaaFrm
import Derived.Test.YtpjbjbohbdlciaaRfi
namespace Go.Proofs.Ytpjbjbohbdlciaa.descReads
open Go.ChangeShapes Go.WideShapes Go.ChangeAt Go.RowKit

theorem dcd_bad {B : List Bool} {sy lg : Int} {E Y M : Nat} {RL : List Int} (h : dcd B sy lg = (E, Y, RL, M)) (hE : E ≠ 0) : Y = 0 ∧ RL = [] := by
  unfold dcd at h
  cases hR : dcp B (min sy 256) (min lg 9) with
  | bad e => rw [hR, dfin] at h; cases h; exact ⟨rfl, rfl⟩
  | ok out s =>
    rw [hR, dfin] at h
    split at h
    · cases h; exact absurd rfl hE
    · cases h; exact ⟨rfl, rfl⟩

set_option maxRecDepth 100000 in
set_option maxHeartbeats 1000000 in
theorem walk_long (A : Option Addr) (N cap : Nat) (sy lg : Int) (w : World) (h : 500 < N) :
    Calls Try.prog 4 #[.slice A N cap, .int .i64 sy, .int .i64 lg] w fun e w' => e = .returned (.bool true) ∧ Below w.heap.size w w' := by
  have hd : decide ((500 : Int) < (N : Int)) = true := decide_eq_true (by omega)
  have B0 := Lib.hid (Below.refl w.heap.size w)
  go_enter Try.func4, Try.ntmps4
  go_wp2_with (first
    | (go_at_call 12; refine (known_any _).mono ?_; rintro e w9 ⟨rfl, hb9⟩; have B9 := Lib.hid (below_on B0.out (Nat.le_refl _) hb9); clear hb9))
  go_ret
  exact ⟨rfl, B9.out⟩

set_option maxRecDepth 100000 in
set_option maxHeartbeats 1000000 in
theorem walk_err (A : Option Addr) (D : List UInt8) (N cap : Nat) (sy lg : Int) (w : World) (hN : D.length = N) (hR : Bt.Rd w A D) (h : N ≤ 500) (E M : Nat) (hk : dcd (Bt.unp D) sy lg = (E, 0, [], M)) (hE : E ≠ 0) :
    Calls Try.prog 4 #[.slice A N cap, .int .i64 sy, .int .i64 lg] w fun e w' => e = .returned (.bool true) ∧ Below w.heap.size w w' := by
  have hd : decide ((500 : Int) < (N : Int)) = false := decide_eq_false (by omega)
  have NW := Lib.hid (Nm.new_n w A D N cap hN (by omega) (bt_nm hR))
  have GT : Hid (∀ W, Below w.heap.size w W → Calls Try.prog 21 #[.slice A N cap, .int .i64 0, .int .i64 sy, .int .i64 lg] W (RGp W (E, 0, [], M))) := Lib.hid (fun W hb => rget_any W A D N cap hN (by omega) (Bt.Rv.below hR hb) sy lg _ hk)
  have hne : ((E : Int) != 0) = true := by simpa using hE
  have DC : Hid (∀ W c A6 cap6, Nm.Cur W c A6 cap6 D 0 → Calls Try.prog 20 #[.pointer (some ⟨c, 0, none⟩), .int .i64 sy, .int .i64 lg] W fun q w' => ∃ A7 n7 c7, q = .returned (.tuple #[tb 0 A7 n7 c7, .int .i64 (E : Int)]) ∧ Nm.Cur w' c A6 cap6 D M ∧ W.grownBy w' (some c) ∧ w'.ownsRow W.heap.size 3 1 (.slice A7 n7 c7) n7 (([] : List Int).map iv)) := Lib.hid (fun W c A6 cap6 hcu => by
    have hd7 := decode_any hcu (by omega) sy lg
    rw [List.drop_zero, dcd_take, hk] at hd7
    refine hd7.mono ?_
    rintro q w' ⟨A7, n7, c7, rfl, hcur7, hg7, ho7⟩
    exact ⟨A7, n7, c7, rfl, by simpa using hcur7, hg7, ho7⟩)
  have SM : Hid (∀ W A7 n7 c7, (([] : List Int).length = n7) → Ri W A7 [] → Calls Try.prog 22 #[tb 0 A7 n7 c7, tb 0 none 0 0] W fun e w' => e = .returned (.bool true) ∧ Below W.heap.size W w') := Lib.hid (fun W A7 n7 c7 hl hr => rsame_any W 0 0 A7 none [] [] n7 c7 0 0 hl rfl (by rw [← hl]; decide) hr (Rv.nil _ _))
  clear hR hN hk
  go_enter Try.func4, Try.ntmps4
  go_wp2_with (first
    | (go_at_call 19; refine NW.out.mono ?_; rintro q w6 ⟨c, A6, cap6, rfl, hcw, hcur, hb6⟩; have CU := Lib.hid hcur; have HC := Lib.hid hcw; have B6 := Lib.hid hb6; clear hcur hcw hb6)
    | (go_at_call 20; refine (DC.out _ _ _ _ CU.out).mono ?_; rintro q w7 ⟨A7, n7, c7, rfl, hcur7, hg7, ho7⟩; have CU7 := Lib.hid hcur7; have B7 : Hid (Below w.heap.size w w7) := Lib.hid (B6.out.grown hg7 B6.out.size (fun j ej => by (cases ej; exact HC.out))); have bn := below_new w7 (.cells #[.int .i64 0, .slice A7 n7 c7] 24); have S8 := Lib.hid (Tb.new w7 0 A7 n7 c7); have R7 : Hid (Ri (w7.alloc (.cells #[.int .i64 0, .slice A7 n7 c7] 24)) A7 []) := Lib.hid (Rv.below (Rv.of_own ho7) bn); have hl7 : Hid (([] : List Int).length = n7) := Lib.hid (by (have := ho7.1; simp only [List.length_map, Nat.mul_one] at this; exact this)); have B8 := Lib.hid (below_on B7.out (Nat.le_refl _) bn); have CU8 := Lib.hid (CU7.out.below bn); obtain ⟨b8, hb8⟩ : ∃ b8, w7.heap.size = b8 := ⟨_, rfl⟩; obtain ⟨w8, hw8⟩ : ∃ w8, w7.alloc (.cells #[.int .i64 0, .slice A7 n7 c7] 24) = w8 := ⟨_, rfl⟩; rw [hw8] at S8 R7 B8 CU8; rw [hb8] at S8; clear hcur7 hg7 ho7 bn)
    | (go_at_call 21; refine (GT.out w8 B8.out).mono ?_; rintro q w9 ⟨A9, n9, c9, M9, rfl, hM9, hb9, ho9⟩; have HM9 := Lib.hid hM9; have bn := below_new w9 (.cells #[.int .i64 0, .slice A9 n9 c9] 24); have bm := below_on hb9 (Nat.le_refl _) bn; have S10 := Lib.hid (Tb.new w9 0 A9 n9 c9); have R10 : Hid (Ri (w9.alloc (.cells #[.int .i64 0, .slice A9 n9 c9] 24)) A9 []) := Lib.hid (Rv.below (Rv.of_own ho9) bn); have hl9 : Hid (([] : List Int).length = n9) := Lib.hid (by (have := ho9.1; simp only [List.length_map, Nat.mul_one] at this; exact this)); have B10 := Lib.hid (below_on B8.out (Nat.le_refl _) bm); have CU10 := Lib.hid (CU8.out.below bm); have S9 := Lib.hid (S8.out.below bm); have R9 := Lib.hid (R7.out.below bm); obtain ⟨b10, hb10⟩ : ∃ b10, w9.heap.size = b10 := ⟨_, rfl⟩; obtain ⟨w10, hw10⟩ : ∃ w10, w9.alloc (.cells #[.int .i64 0, .slice A9 n9 c9] 24) = w10 := ⟨_, rfl⟩; rw [hw10] at S10 R10 B10 CU10 S9 R9; rw [hb10] at S10; have u0 := S9.out.c0; have u1 := S9.out.c1; have v0 := S10.out.c0; have v1 := S10.out.c1; clear hM9 hb9 ho9 bn bm)
    | (go_at_call 22; refine (SM.out _ _ _ _ hl7.out R9.out).mono ?_; rintro e wa ⟨rfl, hba⟩; have BA := Lib.hid (below_on B10.out (Nat.le_refl _) hba); have CUA := Lib.hid (CU10.out.below hba); clear hba)
    | (go_at_call 12; refine (known_any _).mono ?_; rintro e w9 ⟨rfl, hb9⟩; have B9 := Lib.hid (below_on BA.out (Nat.le_refl _) hb9); clear hb9))
  go_ret
  exact ⟨rfl, B9.out⟩

set_option maxRecDepth 100000 in
set_option maxHeartbeats 1000000 in
theorem walk_ok (A : Option Addr) (D : List UInt8) (N cap : Nat) (sy lg : Int) (w : World) (hN : D.length = N) (hR : Bt.Rd w A D) (h : N ≤ 500) (y : Nat) (l : List Int) (M : Nat) (hll : l.length ≤ 100000) (hk : dcd (Bt.unp D) sy lg = (0, y, l, M)) :
    Calls Try.prog 4 #[.slice A N cap, .int .i64 sy, .int .i64 lg] w fun e w' => e = .returned (.bool true) ∧ Below w.heap.size w w' := by
  have hd : decide ((500 : Int) < (N : Int)) = false := decide_eq_false (by omega)
  have NW := Lib.hid (Nm.new_n w A D N cap hN (by omega) (bt_nm hR))
  have GT : Hid (∀ W, Below w.heap.size w W → Calls Try.prog 21 #[.slice A N cap, .int .i64 0, .int .i64 sy, .int .i64 lg] W (RGp W (0, y, l, M))) := Lib.hid (fun W hb => rget_any W A D N cap hN (by omega) (Bt.Rv.below hR hb) sy lg _ hk)
  have DC : Hid (∀ W c A6 cap6, Nm.Cur W c A6 cap6 D 0 → Calls Try.prog 20 #[.pointer (some ⟨c, 0, none⟩), .int .i64 sy, .int .i64 lg] W fun q w' => ∃ A7 n7 c7, q = .returned (.tuple #[tb (y : Int) A7 n7 c7, .int .i64 0]) ∧ Nm.Cur w' c A6 cap6 D M ∧ W.grownBy w' (some c) ∧ w'.ownsRow W.heap.size 3 1 (.slice A7 n7 c7) n7 ((l : List Int).map iv)) := Lib.hid (fun W c A6 cap6 hcu => by
    have hd7 := decode_any hcu (by omega) sy lg
    rw [List.drop_zero, dcd_take, hk] at hd7
    refine hd7.mono ?_
    rintro q w' ⟨A7, n7, c7, rfl, hcur7, hg7, ho7⟩
    exact ⟨A7, n7, c7, rfl, by simpa using hcur7, hg7, ho7⟩)
  have SM : Hid (∀ W A7 n7 c7 A9 n9 c9, l.length = n7 → Ri W A7 l → l.length = n9 → Ri W A9 l → Calls Try.prog 22 #[tb (y : Int) A7 n7 c7, tb (y : Int) A9 n9 c9] W fun e w' => e = .returned (.bool true) ∧ Below W.heap.size W w') := Lib.hid (fun W A7 n7 c7 A9 n9 c9 hl hr hl2 hr2 => by
    have h7 := rsame_any W (y : Int) (y : Int) A7 A9 l l n7 c7 n9 c9 hl hl2 (by omega) hr hr2
    rw [show sam (y : Int) (y : Int) l l = true by simp [sam]] at h7
    exact h7)
  clear hR hN hk
  go_enter Try.func4, Try.ntmps4
  go_wp2_with (first
    | (go_at_call 19; refine NW.out.mono ?_; rintro q w6 ⟨c, A6, cap6, rfl, hcw, hcur, hb6⟩; have CU := Lib.hid hcur; have HC := Lib.hid hcw; have B6 := Lib.hid hb6; clear hcur hcw hb6)
    | (go_at_call 20; refine (DC.out _ _ _ _ CU.out).mono ?_; rintro q w7 ⟨A7, n7, c7, rfl, hcur7, hg7, ho7⟩; have CU7 := Lib.hid hcur7; have B7 : Hid (Below w.heap.size w w7) := Lib.hid (B6.out.grown hg7 B6.out.size (fun j ej => by (cases ej; exact HC.out))); have bn := below_new w7 (.cells #[.int .i64 (y : Int), .slice A7 n7 c7] 24); have S8 := Lib.hid (Tb.new w7 (y : Int) A7 n7 c7); have R7 : Hid (Ri (w7.alloc (.cells #[.int .i64 (y : Int), .slice A7 n7 c7] 24)) A7 l) := Lib.hid (Rv.below (Rv.of_own ho7) bn); have hl7 : Hid ((l : List Int).length = n7) := Lib.hid (by (have := ho7.1; simp only [List.length_map, Nat.mul_one] at this; exact this)); have B8 := Lib.hid (below_on B7.out (Nat.le_refl _) bn); have CU8 := Lib.hid (CU7.out.below bn); obtain ⟨b8, hb8⟩ : ∃ b8, w7.heap.size = b8 := ⟨_, rfl⟩; obtain ⟨w8, hw8⟩ : ∃ w8, w7.alloc (.cells #[.int .i64 (y : Int), .slice A7 n7 c7] 24) = w8 := ⟨_, rfl⟩; rw [hw8] at S8 R7 B8 CU8; rw [hb8] at S8; clear hcur7 hg7 ho7 bn)
    | (go_at_call 21; refine (GT.out w8 B8.out).mono ?_; rintro q w9 ⟨A9, n9, c9, M9, rfl, hM9, hb9, ho9⟩; obtain rfl : M9 = (M : Int) := hM9 rfl; have bn := below_new w9 (.cells #[.int .i64 (y : Int), .slice A9 n9 c9] 24); have bm := below_on hb9 (Nat.le_refl _) bn; have S10 := Lib.hid (Tb.new w9 (y : Int) A9 n9 c9); have R10 : Hid (Ri (w9.alloc (.cells #[.int .i64 (y : Int), .slice A9 n9 c9] 24)) A9 l) := Lib.hid (Rv.below (Rv.of_own ho9) bn); have hl9 : Hid ((l : List Int).length = n9) := Lib.hid (by (have := ho9.1; simp only [List.length_map, Nat.mul_one] at this; exact this)); have B10 := Lib.hid (below_on B8.out (Nat.le_refl _) bm); have CU10 := Lib.hid (CU8.out.below bm); have S9 := Lib.hid (S8.out.below bm); have R9 := Lib.hid (R7.out.below bm); obtain ⟨b10, hb10⟩ : ∃ b10, w9.heap.size = b10 := ⟨_, rfl⟩; obtain ⟨w10, hw10⟩ : ∃ w10, w9.alloc (.cells #[.int .i64 (y : Int), .slice A9 n9 c9] 24) = w10 := ⟨_, rfl⟩; rw [hw10] at S10 R10 B10 CU10 S9 R9; rw [hb10] at S10; have u0 := S9.out.c0; have u1 := S9.out.c1; have v0 := S10.out.c0; have v1 := S10.out.c1; clear hM9 hb9 ho9 bn bm)
    | (go_at_call 22; refine (SM.out _ _ _ _ _ _ _ hl7.out R9.out hl9.out R10.out).mono ?_; rintro e wa ⟨rfl, hba⟩; have BA := Lib.hid (below_on B10.out (Nat.le_refl _) hba); have CUA := Lib.hid (CU10.out.below hba); clear hba)
    | (go_at_call 23; refine (Nm.at_any CUA.out.blk).mono ?_; rintro e wc ⟨rfl, rfl⟩)
    | (go_at_call 12; refine (known_any _).mono ?_; rintro e w9 ⟨rfl, hb9⟩; have B9 := Lib.hid (below_on BA.out (Nat.le_refl _) hb9); clear hb9))
  go_ret
  exact ⟨rfl, B9.out⟩

theorem walk (A : Option Addr) (D : List UInt8) (cap : Nat) (sy lg : Int) (w : World) (hR : Bt.Rd w A D) (_ : D.length ≤ 140737488351232) (_ : D.length ≤ cap) (_ : (Lit.int IntKind.i64 sy).wf = true) (_ : (Lit.int IntKind.i64 lg).wf = true) :
    Calls Try.prog 4 #[.slice A D.length cap, .int .i64 sy, .int .i64 lg] w fun e w' => e = .returned (.bool true) ∧ Below w.heap.size w w' := by
  by_cases h : 500 < D.length
  · exact walk_long A _ cap sy lg w h
  · obtain ⟨⟨E, Y, RL, M⟩, hk⟩ : ∃ R, dcd (Bt.unp D) sy lg = R := ⟨_, rfl⟩
    by_cases hE : E = 0
    · subst hE
      have hv := (dcd_once hk).2.1.len
      exact walk_ok A D _ cap sy lg w rfl hR (by omega) Y RL M (by omega) hk
    · obtain ⟨rfl, rfl⟩ := dcd_bad hk hE
      exact walk_err A D _ cap sy lg w rfl hR (by omega) E M hk hE
set_option maxRecDepth 100000 in
theorem lifted (os : Os) (started : os.Started) (H : Type) (enc : TypeId × Value → H) :
    ReturnsInHanded {} Try.checked os 4 .any (Rows.descReadsSpec.pre6 enc Try.prog Try.f4 Rows.descReadsRow.domain false) (Rows.descReadsSpec.post enc Try.prog Try.f4 false true false false) := by
  refine returnsInHanded_of_change_sized (C := Try.checked) ownB started (by kernel_rfl) Try.func4
    (ChangeSpec.witness6 (enc := enc) (C := Try.checked) false ⟨#[], #[.slice none 0 0, .int .i64 0, .int .i64 0], []⟩ 8 (by kernel_rfl) (by kernel_rfl) (by kernel_rfl) (by kernel_rfl)) ?_
  intro W base args ds gs before hval0 hW _ hsz0 _
  have hsz : (DataW.weightsEach Try.prog (Try.f4.params.toList ++ Rows.descReadsSpec.plain.varTypes Try.prog) (ds ++ gs)).all (· ≤ reachBytes) = true := hsz0
  clear hsz0
  have hval : ∀ (j : Nat) t v, Try.f4.params[j]? = some t → args[j]? = some v → Value.okWide Try.prog W .any base t v := hval0
  have hW' := hW
  obtain ⟨p, q, hA0, hV, rfl, hfz, hnd⟩ := hW
  have hA : DataW.TrodAll enc Try.prog W 0 (fun _ => true) true Try.f4.params.toList args.toList ds p := hA0
  rw [Try.params4] at hA hval hsz
  obtain ⟨v0, vs0, d0, ds0, p0, q0, hargs, rfl, rfl, h0, r0⟩ := trodAll_cons hA
  obtain ⟨v1, vs1, d1, ds1, p1, q1, rfl, rfl, rfl, h1, r1⟩ := trodAll_cons r0
  obtain ⟨v2, vs2, d2, ds2, p2, q2, rfl, rfl, rfl, h2, r2⟩ := trodAll_cons r1
  obtain ⟨rfl, rfl, rfl⟩ := trodAll_nil r2
  obtain rfl : args = #[v0, v1, v2] := by cases args; simp_all
  obtain ⟨rfl, rfl⟩ := trodVars_none hV
  obtain ⟨a0, len0, cap0, rfl⟩ := okWide_slice Try.underlying26 (hval 0 26 v0 rfl rfl)
  have k0 := h0
  have lt0 : ∀ x ∈ p0, x.block < W.heap.size := by obtain ⟨m, hm⟩ := k0; exact DataW.trod_lt m _ _ _ hm
  obtain ⟨l0, rfl, hc0, rd0, hd0⟩ := open_bytes h0
  have hs0 : l0.length ≤ 140737488351232 := by
    rcases hd0 with ⟨h, _⟩ | ⟨es, sp, rfl, h⟩
    · omega
    · have := sized_slice hsz (j := 0) (t := 26) (e := 5) rfl rfl Try.underlying26
      rw [bytes_byte] at this
      simp only [reachBytes] at this
      omega
  obtain ⟨a1, rfl, rfl, rfl, w1⟩ := open_int Try.underlying3 (hval 1 3 v1 rfl rfl) h1
  obtain ⟨a2, rfl, rfl, rfl, w2⟩ := open_int Try.underlying3 (hval 2 3 v2 rfl rfl) h2
  clear hA0 hval0
  refine (walk a0 l0 cap0 a1 a2 W rd0 hs0 hc0 w1 w2).mono fun e W' ⟨he, bel⟩ => ?_
  subst he
  exact ⟨_, rfl, _, _, _, [], _, [], hW', trodAll_mk1 (shut_bool Try.underlying4 _), (trodAll_cons_mk (Below.trod laidOut (by kernel_rfl) (of_decide_eq_true (by kernel_rfl)) k0 bel lt0) (trodAll_cons_mk (shut_int Try.underlying3 w1) (trodAll_cons_mk (shut_int Try.underlying3 w2) trodAll_mk0))), rfl, bel.frame _, fun h => by cases h⟩

theorem proved : Rows.DescReadsSaid :=
  OpenClaim.holds_of_wide 4 Try.f4 rfl rfl rfl rfl rfl rfl rfl ⟨rfl, rfl, rfl, rfl, rfl⟩ rfl rfl rfl rfl rfl (by kernel_rfl) Try.func4 (by kernel_rfl)
    (of_decide_eq_true (by kernel_rfl)) (by unfold Func.isWrapper; rw [if_neg (by decide +kernel)]; exact ⟨rfl, rfl⟩)
    (fun os started H enc _ => lifted os started H enc)

#print axioms proved

end Go.Proofs.Ytpjbjbohbdlciaa.descReads
