/-
  Proved: the law NormNormals returns true for all counts and Logs: Normalize returns exactly the reference's normalized table, or the error. No condition.
-/
import Derived.Test.YtkojdhmgefggjaaFrm
import Derived.Test.YtkojdhmgefggjaaRfn
import Derived.Test.YtkojdhmgefggjaaRfo
namespace Go.Proofs.Ytkojdhmgefggjaa.normNormals
open Go.ChangeShapes Go.WideShapes Go.ChangeAt Go.RowKit

set_option maxRecDepth 100000 in
set_option maxHeartbeats 2000000 in
theorem walk_long (A : Option Addr) (N cap : Nat) (z : Int) (w : World) (h : 300 < N) :
    Calls Try.prog 4 #[.slice A N cap, .int .i64 z] w fun e w' => e = .returned (.bool true) ∧ Below w.heap.size w w' := by
  have hd : decide ((300 : Int) < (N : Int)) = true := decide_eq_true (by omega)
  have KN := Lib.hid (known_any w)
  go_enter Try.func4, Try.ntmps4
  go_wp2_with (go_at_call 12; refine KN.out.mono ?_; rintro e w1 ⟨rfl, hb1⟩; have B1 := Lib.hid hb1; clear hb1)
  go_ret
  exact ⟨rfl, B1.out⟩

theorem same_yes (y : Int) (l : List Int) : sam y y l l = true := by simp [sam]

/-- Two tables that calls have made are the same. -/
theorem same_at {w1 w2 w2a : World} {y : Int} {A A2 : Option Addr} {l : List Int} {n c c2 : Nat} (hn : l.length = n) (hb : n ≤ 1000000000) (h1 : Ri w1 A l) (h12 : Below w1.heap.size w1 w2) (h2 : Ri w2 A2 l) (h2a : Below w2.heap.size w2 w2a) :
    Calls Try.prog 17 #[tb y A n c, tb y A2 n c2] w2a fun e w' => e = .returned (.bool true) ∧ Below w2a.heap.size w2a w' := by
  have := rsame_any w2a y y A A2 l l n c n c2 hn hn hb ((h1.below h12).below h2a) (h2.below h2a)
  rw [same_yes] at this
  exact this

set_option maxRecDepth 100000 in
set_option maxHeartbeats 2000000 in
theorem walk_eq (A : Option Addr) (N cap : Nat) (z : Int) (w : World) (h : N ≤ 300) (y e0 : Int) (l : List Int) (n : Nat) (hn : l.length = n) (hnb : n ≤ 1000000000)
    (NA : ∀ W, Below w.heap.size w W → Calls Try.prog 15 #[.slice A N cap, .int .i64 z] W fun e w' => ∃ A1 c1, e = .returned (.tuple #[tb y A1 n c1, .int .i64 e0]) ∧ Ri w' A1 l ∧ Below W.heap.size W w')
    (NB : ∀ W, Below w.heap.size w W → Calls Try.prog 16 #[.slice A N cap, .int .i64 z] W fun e w' => ∃ A2 c2, e = .returned (.tuple #[tb y A2 n c2, .int .i64 e0]) ∧ Ri w' A2 l ∧ Below W.heap.size W w') :
    Calls Try.prog 4 #[.slice A N cap, .int .i64 z] w fun e w' => e = .returned (.bool true) ∧ Below w.heap.size w w' := by
  have hd : decide ((300 : Int) < (N : Int)) = false := decide_eq_false (by omega)
  have H1 := Lib.hid (NA w (Below.refl _ _))
  have H2 : Hid (∀ w1 o, Below w.heap.size w w1 → Calls Try.prog 16 #[.slice A N cap, .int .i64 z] (w1.alloc o) fun e w' => ∃ A2 c2, e = .returned (.tuple #[tb y A2 n c2, .int .i64 e0]) ∧ Ri w' A2 l ∧ Below (w1.alloc o).heap.size (w1.alloc o) w') := Lib.hid (fun w1 o hb => by
    have ba : Below w1.heap.size w1 (w1.alloc o) := (Below.refl _ _).alloc (Nat.le_refl _) _
    exact NB (w1.alloc o) (below_on hb (Nat.le_refl _) ba))
  have HN := Lib.hid hn
  clear hn NA NB
  go_enter Try.func4, Try.ntmps4
  go_wp2_with (first
    | (go_at_call 15; refine H1.out.mono ?_; rintro e w1 ⟨A1, c1, rfl, hr1, hb1⟩; have R1 := Lib.hid hr1; have B1 := Lib.hid hb1; clear hr1 hb1)
    | (go_at_call 16; refine (H2.out w1 _ B1.out).mono ?_; rintro e w2 ⟨A2, c2, rfl, hr2, hb2⟩; have R2 := Lib.hid hr2; have q0 := (Tb.new w1 y A1 n c1).below hb2; have B2 := Lib.hid (below_on ((Below.refl _ w1).alloc (Nat.le_refl _) _) (Nat.le_refl _) hb2); have q1 := q0.c0; have q2 := q0.c1; have q3 := (q0.below ((Below.refl _ w2).alloc (Nat.le_refl _) (.cells #[.int .i64 y, .slice A2 n c2] 24))); have q4 := q3.c0; have q5 := q3.c1; clear hr2 hb2 q0 q3)
    | (go_at_call 17; refine (same_at HN.out hnb R1.out B2.out R2.out ((Below.refl _ w2).alloc (Nat.le_refl _) _)).mono ?_; rintro e w3 ⟨rfl, hb3⟩; have B3 := Lib.hid (below_on (below_on (below_on B1.out (Nat.le_refl _) B2.out) (Nat.le_refl _) ((Below.refl _ w2).alloc (Nat.le_refl _) _)) (Nat.le_refl _) hb3); clear hb3)
    | (go_at_call 12; refine (known_any _).mono ?_; rintro e w4 ⟨rfl, hb4⟩; have B4 := Lib.hid (below_on B3.out (Nat.le_refl _) hb4); clear hb4))
  go_ret
  exact ⟨rfl, B4.out⟩

theorem walk (A : Option Addr) (l : List Int) (cap : Nat) (z : Int) (w : World) (hR : Ri w A l) (_ : ∀ z ∈ l, -9223372036854775808 ≤ z ∧ z ≤ 9223372036854775807) (_ : l.length ≤ cap) (_ : (Lit.int .i64 z).wf = true) :
    Calls Try.prog 4 #[.slice A l.length cap, .int .i64 z] w fun e w' => e = .returned (.bool true) ∧ Below w.heap.size w w' := by
  by_cases h : 300 < l.length
  · exact walk_long A _ cap z w h
  · by_cases hg : good l z
    · obtain ⟨k, lg, rfl, hk, rfl, hgd⟩ := gd_of hg (by omega)
      rw [List.length_map] at h ⊢
      have hRn : ∀ W, Below w.heap.size w W → Rn W A k := fun W hb => by
        have := hR.below hb
        unfold Ri at this
        rw [ri_nats] at this
        exact this
      have hL : (nrm k (2 ^ lg)).length = lst k + 1 := by simp [nrm]
      refine walk_eq A k.length cap lg w (by omega) lg 0 (nrm k (2 ^ lg)) (lst k + 1) hL (by have := lst_lt hgd.pos; omega) (fun W hb => ?_) (fun W hb => ?_)
      · refine (normalize_ok W A k k.length cap lg (2 ^ lg) rfl hgd.len (hRn W hb) hgd.tot hgd.pos hgd.log rfl hgd.use).mono ?_
        rintro e w' ⟨g, rfl, ho, hb'⟩
        exact ⟨_, _, rfl, Rv.of_own ho, hb'⟩
      · refine (rnormal_ok W A k k.length cap lg (2 ^ lg) rfl hgd (hRn W hb)).mono ?_
        rintro e w' ⟨g, c', rfl, hr, hb'⟩
        exact ⟨_, _, rfl, hr, hb'⟩
    · refine walk_eq A l.length cap z w (by omega) 0 2 [] 0 rfl (by omega) (fun W hb => ?_) (fun W hb => ?_)
      · refine (normalize_bad W A l l.length cap z rfl (by omega) (hR.below hb) hg).mono ?_
        rintro e w' ⟨rfl, hb'⟩
        exact ⟨none, 0, rfl, Rv.nil _ _, hb'⟩
      · refine (rnormal_bad W A l l.length cap z rfl (by omega) (hR.below hb) hg).mono ?_
        rintro e w' ⟨rfl, hb'⟩
        exact ⟨none, 0, rfl, Rv.nil _ _, hb'⟩

set_option maxRecDepth 100000 in
theorem lifted (os : Os) (started : os.Started) (H : Type) (enc : TypeId × Value → H) :
    ReturnsInHanded {} Try.checked os 4 .any (Rows.normNormalsSpec.pre6 enc Try.prog Try.f4 Rows.normNormalsRow.domain false) (Rows.normNormalsSpec.post enc Try.prog Try.f4 false true false false) := by
  refine returnsInHanded_of_change_sized (C := Try.checked) ownB started (by kernel_rfl) Try.func4
    (ChangeSpec.witness6 (enc := enc) (C := Try.checked) false ⟨#[], #[.slice none 0 0, .int .i64 0], []⟩ 8 (by kernel_rfl) (by kernel_rfl) (by kernel_rfl) (by kernel_rfl)) ?_
  intro W base args ds gs before hval0 hW _ hsz0 _
  have hsz : (DataW.weightsEach Try.prog (Try.f4.params.toList ++ Rows.normNormalsSpec.plain.varTypes Try.prog) (ds ++ gs)).all (· ≤ reachBytes) = true := hsz0
  clear hsz0
  have hval : ∀ (j : Nat) t v, Try.f4.params[j]? = some t → args[j]? = some v → Value.okWide Try.prog W .any base t v := hval0
  have hW' := hW
  obtain ⟨p, q, hA0, hV, rfl, hfz, hnd⟩ := hW
  have hA : DataW.TrodAll enc Try.prog W 0 (fun _ => true) true Try.f4.params.toList args.toList ds p := hA0
  rw [Try.params4] at hA hval hsz
  obtain ⟨v0, vs0, d0, ds0, p0, q0, hargs, rfl, rfl, h0, r0⟩ := trodAll_cons hA
  obtain ⟨v1, vs1, d1, ds1, p1, q1, rfl, rfl, rfl, h1, r1⟩ := trodAll_cons r0
  obtain ⟨rfl, rfl, rfl⟩ := trodAll_nil r1
  obtain rfl : args = #[v0, v1] := by cases args; simp_all
  obtain ⟨rfl, rfl⟩ := trodVars_none hV
  obtain ⟨a0, len0, cap0, rfl⟩ := okWide_slice Try.underlying22 (hval 0 22 v0 rfl rfl)
  have k0 := h0
  have lt0 : ∀ x ∈ p0, x.block < W.heap.size := by obtain ⟨m, hm⟩ := k0; exact DataW.trod_lt m _ _ _ hm
  obtain ⟨l0, rfl, hc0, ri0, wi0⟩ := open_intl h0
  obtain ⟨a1, rfl, rfl, rfl, w1⟩ := open_int Try.underlying3 (hval 1 3 v1 rfl rfl) h1
  clear hA0 hval0
  refine (walk a0 l0 cap0 a1 W ri0 wi0 hc0 w1).mono fun e W' ⟨he, bel⟩ => ?_
  subst he
  exact ⟨_, rfl, _, _, _, [], _, [], hW', trodAll_mk1 (shut_bool Try.underlying4 _), (trodAll_cons_mk (Below.trod laidOut (by kernel_rfl) (of_decide_eq_true (by kernel_rfl)) k0 bel lt0) (trodAll_cons_mk (shut_int Try.underlying3 w1) trodAll_mk0)), rfl, bel.frame _, fun h => by cases h⟩

theorem proved : Rows.NormNormalsSaid :=
  OpenClaim.holds_of_wide 4 Try.f4 rfl rfl rfl rfl rfl rfl rfl ⟨rfl, rfl, rfl, rfl, rfl⟩ rfl rfl rfl rfl rfl (by kernel_rfl) Try.func4 (by kernel_rfl)
    (of_decide_eq_true (by kernel_rfl)) (by unfold Func.isWrapper; rw [if_neg (by decide +kernel)]; exact ⟨rfl, rfl⟩)
    (fun os started H enc _ => lifted os started H enc)

#print axioms proved

end Go.Proofs.Ytkojdhmgefggjaa.normNormals
