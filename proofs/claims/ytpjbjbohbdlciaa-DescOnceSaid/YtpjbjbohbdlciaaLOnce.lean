/-
  Proved: the law DescOnce returns true for all bytes and bounds: a table that is read from any bytes is valid and within the bounds, and its description consists of just the bytes that were read. No condition.
-/
import Derived.BigQuiet
import Derived.Deep.QuietTactic
import Derived.Test.YtpjbjbohbdlciaaFrm
namespace Go.Proofs.Ytpjbjbohbdlciaa.descOnce
open Go.ChangeShapes Go.WideShapes Go.ChangeAt Go.RowKit

set_option maxRecDepth 100000 in
set_option maxHeartbeats 1000000 in
theorem walk_long (A : Option Addr) (N cap : Nat) (sy lg : Int) (w : World) (h : 500 < N) :
    Calls Try.prog 6 #[.slice A N cap, .int .i64 sy, .int .i64 lg] w fun e w' => e = .returned (.bool true) ∧ Below w.heap.size w w' := by
  have hd : decide ((500 : Int) < (N : Int)) = true := decide_eq_true (by omega)
  have B0 := Lib.hid (Below.refl w.heap.size w)
  go_enter Try.func6, Try.ntmps6
  go_wp2_with (first
    | (go_at_call 12; refine (known_any _).mono ?_; rintro e w9 ⟨rfl, hb9⟩; have B9 := Lib.hid (below_on B0.out (Nat.le_refl _) hb9); clear hb9))
  go_ret
  exact ⟨rfl, B9.out⟩

set_option maxRecDepth 100000 in
set_option maxHeartbeats 1000000 in
theorem walk_err (A : Option Addr) (D : List UInt8) (N cap : Nat) (sy lg : Int) (w : World) (hN : D.length = N) (_ : N ≤ cap) (hR : Bt.Rd w A D) (h : N ≤ 500) (E Y : Nat) (RL : List Int) (M : Nat) (hk : dcd (Bt.unp D) sy lg = (E, Y, RL, M)) (hE : E ≠ 0) :
    Calls Try.prog 6 #[.slice A N cap, .int .i64 sy, .int .i64 lg] w fun e w' => e = .returned (.bool true) ∧ Below w.heap.size w w' := by
  have hd : decide ((500 : Int) < (N : Int)) = false := decide_eq_false (by omega)
  have NW := Lib.hid (Nm.new_n w A D N cap hN (by omega) (bt_nm hR))
  have hne : ((E : Int) != 0) = true := by simpa using hE
  have DC : Hid (∀ W c A6 cap6, Nm.Cur W c A6 cap6 D 0 → Calls Try.prog 20 #[.pointer (some ⟨c, 0, none⟩), .int .i64 sy, .int .i64 lg] W fun q w' => ∃ A7 n7 c7, q = .returned (.tuple #[tb (Y : Int) A7 n7 c7, .int .i64 (E : Int)]) ∧ Nm.Cur w' c A6 cap6 D M ∧ W.grownBy w' (some c) ∧ w'.ownsRow W.heap.size 3 1 (.slice A7 n7 c7) n7 ((RL : List Int).map iv)) := Lib.hid (fun W c A6 cap6 hcu => by
    have hd7 := decode_any hcu (by omega) sy lg
    rw [List.drop_zero, dcd_take, hk] at hd7
    refine hd7.mono ?_
    rintro q w' ⟨A7, n7, c7, rfl, hcur7, hg7, ho7⟩
    exact ⟨A7, n7, c7, rfl, by simpa using hcur7, hg7, ho7⟩)
  clear hR hN hk
  go_enter Try.func6, Try.ntmps6
  go_wp2_with (first
    | (go_at_call 19; refine NW.out.mono ?_; rintro q w6 ⟨c, A6, cap6, rfl, hcw, hcur, hb6⟩; have CU := Lib.hid hcur; have HC := Lib.hid hcw; have B6 := Lib.hid hb6; clear hcur hcw hb6)
    | (go_at_call 20; refine (DC.out _ _ _ _ CU.out).mono ?_; rintro q w7 ⟨A7, n7, c7, rfl, hcur7, hg7, ho7⟩; have CU7 := Lib.hid hcur7; have B7 : Hid (Below w.heap.size w w7) := Lib.hid (B6.out.grown hg7 B6.out.size (fun j ej => by (cases ej; exact HC.out))); have bn := below_new w7 (.cells #[.int .i64 (Y : Int), .slice A7 n7 c7] 24); have S8 := Lib.hid (Tb.new w7 (Y : Int) A7 n7 c7); have R7 : Hid (Ri (w7.alloc (.cells #[.int .i64 (Y : Int), .slice A7 n7 c7] 24)) A7 RL) := Lib.hid (Rv.below (Rv.of_own ho7) bn); have hl7 : Hid ((RL : List Int).length = n7) := Lib.hid (by (have := ho7.1; simp only [List.length_map, Nat.mul_one] at this; exact this)); have hc7 := Lib.hid (own_cap ho7); have B8 := Lib.hid (below_on B7.out (Nat.le_refl _) bn); have CU8 := Lib.hid (CU7.out.below bn); obtain ⟨b8, hb8⟩ : ∃ b8, w7.heap.size = b8 := ⟨_, rfl⟩; obtain ⟨w8, hw8⟩ : ∃ w8, w7.alloc (.cells #[.int .i64 (Y : Int), .slice A7 n7 c7] 24) = w8 := ⟨_, rfl⟩; rw [hw8] at S8 R7 B8 CU8; rw [hb8] at S8; have u0 := S8.out.c0; have u1 := S8.out.c1; clear hcur7 hg7 ho7 bn)
    | (go_at_call 12; refine (known_any _).mono ?_; rintro e w9 ⟨rfl, hb9⟩; have B9 := Lib.hid (below_on B8.out (Nat.le_refl _) hb9); clear hb9))
  go_ret
  exact ⟨rfl, B9.out⟩

set_option maxRecDepth 100000 in
set_option maxHeartbeats 1000000 in
theorem walk_ok (A : Option Addr) (D : List UInt8) (N cap : Nat) (sy lg : Int) (w : World) (hN : D.length = N) (hc : N ≤ cap) (hR : Bt.Rd w A D) (h : N ≤ 500) (y : Nat) (l : List Int) (M : Nat) (hk : dcd (Bt.unp D) sy lg = (0, y, l, M)) :
    Calls Try.prog 6 #[.slice A N cap, .int .i64 sy, .int .i64 lg] w fun e w' => e = .returned (.bool true) ∧ Below w.heap.size w w' := by
  have hd : decide ((500 : Int) < (N : Int)) = false := decide_eq_false (by omega)
  have NW := Lib.hid (Nm.new_n w A D N cap hN (by omega) (bt_nm hR))
  obtain ⟨h1, hv, hls, hly, hM, hpk⟩ := dcd_once hk
  have hl256 := hv.len
  have HR := Lib.hid hR
  have EN : Hid (∀ W A7 n7 c7, Ri W A7 l → l.length = n7 → n7 ≤ c7 → Calls Try.prog 13 #[tb (y : Int) A7 n7 c7] W (EncP W (D.take M) 0)) := Lib.hid (fun W A7 n7 c7 hr hl hc => by
    have := encode_ok W y A7 l n7 c7 hl hc hr hv h1
    rw [hpk] at this
    exact this)
  have MY : Hid (∀ W A7 n7 c7, Ri W A7 l → l.length = n7 → Calls Try.prog 14 #[tb (y : Int) A7 n7 c7] W fun e w' => e = .returned (.bool true) ∧ Below W.heap.size W w') := Lib.hid (fun W A7 n7 c7 hr hl => rmay_any W (y : Int) A7 l n7 c7 hl (by omega) hr true (may_iff.2 ⟨y, rfl, h1, hv⟩))
  have DC : Hid (∀ W c A6 cap6, Nm.Cur W c A6 cap6 D 0 → Calls Try.prog 20 #[.pointer (some ⟨c, 0, none⟩), .int .i64 sy, .int .i64 lg] W fun q w' => ∃ A7 n7 c7, q = .returned (.tuple #[tb (y : Int) A7 n7 c7, .int .i64 0]) ∧ Nm.Cur w' c A6 cap6 D M ∧ W.grownBy w' (some c) ∧ w'.ownsRow W.heap.size 3 1 (.slice A7 n7 c7) n7 ((l : List Int).map iv)) := Lib.hid (fun W c A6 cap6 hcu => by
    have hd7 := decode_any hcu (by omega) sy lg
    rw [List.drop_zero, dcd_take, hk] at hd7
    refine hd7.mono ?_
    rintro q w' ⟨A7, n7, c7, rfl, hcur7, hg7, ho7⟩
    exact ⟨A7, n7, c7, rfl, by simpa using hcur7, hg7, ho7⟩)
  have hdl : decide ((y : Int) ≤ lg) = true := decide_eq_true hly
  have SL := bslice_hi A N cap M (by omega)
  have hMN : M ≤ N := by omega
  have HM : Hid ((D.take M).length = M) := Lib.hid (by rw [List.length_take]; omega)
  have HLS : Hid (((l.length : Nat) : Int) ≤ sy) := Lib.hid hls
  clear hR hN hk hv hpk hls hl256
  go_enter Try.func6, Try.ntmps6
  go_wp2_with (first
    | (go_at_call 19; refine NW.out.mono ?_; rintro q w6 ⟨c, A6, cap6, rfl, hcw, hcur, hb6⟩; have CU := Lib.hid hcur; have HC := Lib.hid hcw; have B6 := Lib.hid hb6; clear hcur hcw hb6)
    | (go_at_call 20; refine (DC.out _ _ _ _ CU.out).mono ?_; rintro q w7 ⟨A7, n7, c7, rfl, hcur7, hg7, ho7⟩; have CU7 := Lib.hid hcur7; have B7 : Hid (Below w.heap.size w w7) := Lib.hid (B6.out.grown hg7 B6.out.size (fun j ej => by (cases ej; exact HC.out))); have bn := below_new w7 (.cells #[.int .i64 (y : Int), .slice A7 n7 c7] 24); have S8 := Lib.hid (Tb.new w7 (y : Int) A7 n7 c7); have R7 : Hid (Ri (w7.alloc (.cells #[.int .i64 (y : Int), .slice A7 n7 c7] 24)) A7 l) := Lib.hid (Rv.below (Rv.of_own ho7) bn); have hl7 : Hid ((l : List Int).length = n7) := Lib.hid (by (have := ho7.1; simp only [List.length_map, Nat.mul_one] at this; exact this)); have hc7 := Lib.hid (own_cap ho7); have B8 := Lib.hid (below_on B7.out (Nat.le_refl _) bn); have CU8 := Lib.hid (CU7.out.below bn); obtain ⟨b8, hb8⟩ : ∃ b8, w7.heap.size = b8 := ⟨_, rfl⟩; obtain ⟨w8, hw8⟩ : ∃ w8, w7.alloc (.cells #[.int .i64 (y : Int), .slice A7 n7 c7] 24) = w8 := ⟨_, rfl⟩; rw [hw8] at S8 R7 B8 CU8; rw [hb8] at S8; have u0 := S8.out.c0; have u1 := S8.out.c1; have hds : decide ((n7 : Int) ≤ sy) = true := decide_eq_true (by (have := HLS.out; rw [hl7.out] at this; exact this)); clear hcur7 hg7 ho7 bn)
    | (go_at_call 13; refine (EN.out w8 _ _ _ R7.out hl7.out hc7.out).mono ?_; rintro e wa ⟨A3, n3, c3, rfl, hba⟩; obtain rfl : M = n3 := (hba.1.trans HM.out).symm; have YA := Lib.hid hba; have BA := Lib.hid (below_on B8.out (Nat.le_refl _) hba.2.2); have ta := S8.out.below hba.2.2; have v0 := ta.c0; have v1 := ta.c1; have RA := Lib.hid (R7.out.below hba.2.2); have CUA := Lib.hid (CU8.out.below hba.2.2); have TA := Lib.hid ta; clear hba ta)
    | (go_at_call 14; refine (MY.out wa _ _ _ RA.out hl7.out).mono ?_; rintro e wb ⟨rfl, hbb⟩; have BB := Lib.hid (below_on BA.out (Nat.le_refl _) hbb); have HBB := Lib.hid hbb; have tb2 := TA.out.below hbb; have x0 := tb2.c0; have x1 := tb2.c1; have CUB := Lib.hid (CUA.out.below hbb); clear hbb tb2)
    | (go_at_call 23; refine (Nm.at_any CUB.out.blk).mono ?_; rintro e wc ⟨rfl, rfl⟩)
    | (go_at_call 17; refine (Bt.same_n wb _ _ (D.take M) (D.take M) M M HM.out HM.out _ _ (Bt.Rv.below (bys_rd YA.out) HBB.out) (by (have h5 := Bt.Rv.take (Bt.Rv.below HR.out BB.out) M; rw [← List.map_take] at h5; exact h5)) rfl).mono ?_; rintro e wc ⟨rfl, rfl⟩)
    | (go_at_call 12; refine (known_any _).mono ?_; rintro e w9 ⟨rfl, hb9⟩; have B9 := Lib.hid (below_on BB.out (Nat.le_refl _) hb9); clear hb9))
  go_ret
  exact ⟨rfl, B9.out⟩

theorem walk (A : Option Addr) (D : List UInt8) (cap : Nat) (sy lg : Int) (w : World) (hR : Bt.Rd w A D) (_ : D.length ≤ 140737488351232) (hc : D.length ≤ cap) (_ : (Lit.int IntKind.i64 sy).wf = true) (_ : (Lit.int IntKind.i64 lg).wf = true) :
    Calls Try.prog 6 #[.slice A D.length cap, .int .i64 sy, .int .i64 lg] w fun e w' => e = .returned (.bool true) ∧ Below w.heap.size w w' := by
  by_cases h : 500 < D.length
  · exact walk_long A _ cap sy lg w h
  · obtain ⟨⟨E, Y, RL, M⟩, hk⟩ : ∃ R, dcd (Bt.unp D) sy lg = R := ⟨_, rfl⟩
    by_cases hE : E = 0
    · subst hE
      exact walk_ok A D _ cap sy lg w rfl hc hR (by omega) Y RL M hk
    · exact walk_err A D _ cap sy lg w rfl hc hR (by omega) E Y RL M hk hE
set_option maxRecDepth 100000 in
theorem lifted (os : Os) (started : os.Started) (H : Type) (enc : TypeId × Value → H) :
    ReturnsInHanded {} Try.checked os 6 .any (Rows.descOnceSpec.pre6 enc Try.prog Try.f6 Rows.descOnceRow.domain false) (Rows.descOnceSpec.post enc Try.prog Try.f6 false true false false) := by
  refine returnsInHanded_of_change_sized (C := Try.checked) ownB started (by kernel_rfl) Try.func6
    (ChangeSpec.witness6 (enc := enc) (C := Try.checked) false ⟨#[], #[.slice none 0 0, .int .i64 0, .int .i64 0], []⟩ 8 (by kernel_rfl) (by kernel_rfl) (by kernel_rfl) (by kernel_rfl)) ?_
  intro W base args ds gs before hval0 hW _ hsz0 _
  have hsz : (DataW.weightsEach Try.prog (Try.f6.params.toList ++ Rows.descOnceSpec.plain.varTypes Try.prog) (ds ++ gs)).all (· ≤ reachBytes) = true := hsz0
  clear hsz0
  have hval : ∀ (j : Nat) t v, Try.f6.params[j]? = some t → args[j]? = some v → Value.okWide Try.prog W .any base t v := hval0
  have hW' := hW
  obtain ⟨p, q, hA0, hV, rfl, hfz, hnd⟩ := hW
  have hA : DataW.TrodAll enc Try.prog W 0 (fun _ => true) true Try.f6.params.toList args.toList ds p := hA0
  rw [Try.params6] at hA hval hsz
  obtain ⟨v0, vs0, d0, ds0, p0, q0, hargs, rfl, rfl, h0, r0⟩ := trodAll_cons hA
  obtain ⟨v1, vs1, d1, ds1, p1, q1, rfl, rfl, rfl, h1, r1⟩ := trodAll_cons r0
  obtain ⟨v2, vs2, d2, ds2, p2, q2, rfl, rfl, rfl, h2, r2⟩ := trodAll_cons r1
  obtain ⟨rfl, rfl, rfl⟩ := trodAll_nil r2
  obtain rfl : args = #[v0, v1, v2] := by cases args; simp_all
  obtain ⟨rfl, rfl⟩ := trodVars_none hV
  obtain ⟨a0, len0, cap0, rfl⟩ := okWide_slice Try.underlying26 (hval 0 26 v0 rfl rfl)
  have k0 := h0
  have lt0 : ∀ x ∈ p0, x.block < W.heap.size := by obtain ⟨m, hm⟩ := k0; exact DataW.trod_lt m _ _ _ hm
  obtain ⟨l0, rfl, hc0, rd0, hd0⟩ := open_bytes h0
  have hs0 : l0.length ≤ 140737488351232 := by
    rcases hd0 with ⟨h, _⟩ | ⟨es, sp, rfl, h⟩
    · omega
    · have := sized_slice hsz (j := 0) (t := 26) (e := 5) rfl rfl Try.underlying26
      rw [bytes_byte] at this
      simp only [reachBytes] at this
      omega
  obtain ⟨a1, rfl, rfl, rfl, w1⟩ := open_int Try.underlying3 (hval 1 3 v1 rfl rfl) h1
  obtain ⟨a2, rfl, rfl, rfl, w2⟩ := open_int Try.underlying3 (hval 2 3 v2 rfl rfl) h2
  clear hA0 hval0
  refine (walk a0 l0 cap0 a1 a2 W rd0 hs0 hc0 w1 w2).mono fun e W' ⟨he, bel⟩ => ?_
  subst he
  exact ⟨_, rfl, _, _, _, [], _, [], hW', trodAll_mk1 (shut_bool Try.underlying4 _), (trodAll_cons_mk (Below.trod laidOut (by kernel_rfl) (of_decide_eq_true (by kernel_rfl)) k0 bel lt0) (trodAll_cons_mk (shut_int Try.underlying3 w1) (trodAll_cons_mk (shut_int Try.underlying3 w2) trodAll_mk0))), rfl, bel.frame _, fun h => by cases h⟩

theorem proved : Rows.DescOnceSaid :=
  OpenClaim.holds_of_wide 6 Try.f6 rfl rfl rfl rfl rfl rfl rfl ⟨rfl, rfl, rfl, rfl, rfl⟩ rfl rfl rfl rfl rfl (by kernel_rfl) Try.func6 (by kernel_rfl)
    (of_decide_eq_true (by kernel_rfl)) (by unfold Func.isWrapper; rw [if_neg (by decide +kernel)]; exact ⟨rfl, rfl⟩)
    (fun os started H enc _ => lifted os started H enc)

#print axioms proved

end Go.Proofs.Ytpjbjbohbdlciaa.descOnce
