/-
  Proved: the law NumPeeks returns true for all bytes and numbers: Peek returns the next bytes without moving the cursor, and a copy of them. No condition.
-/
import Derived.Test.YtpelndjfamdjlaaLPeeksB
import Derived.Test.YtpelndjfamdjlaaLPeeksX
namespace Go.Proofs.Ytpelndjfamdjlaa.numPeeks
open Go.ChangeShapes Go.WideShapes Go.ChangeAt Go.RowKit

theorem walk (A : Option Addr) (l : List UInt8) (cap : Nat) (skip n : Int) (w : World) (hR : Rd w A l) (hs : l.length ≤ 140737488351232) (hc : l.length ≤ cap) (_ws : (Lit.int .i64 skip).wf = true) (_wn : (Lit.int .i64 n).wf = true) :
    Calls Try.prog 6 #[.slice A l.length cap, .int .i64 skip, .int .i64 n] w fun e w' => e = .returned (.bool true) ∧ Below w.heap.size w w' := by
  by_cases h1 : 0 < skip
  · by_cases h2 : skip ≤ (l.length : Int)
    · obtain ⟨k, rfl⟩ := Int.eq_ofNat_of_zero_le (show 0 ≤ skip by omega)
      by_cases hck : cap = k
      · subst hck
        by_cases h3 : n < 0
        · exact walk_c1x A l cap n w hR hs hc (by omega) (by omega) h3
        · by_cases h4 : n = 0
          · subst h4
            exact walk_c2x A l cap w hR hs hc (by omega) (by omega)
          · exact walk_c3x A l cap n w hR hs hc (by omega) (by omega) (by omega)
      · by_cases h3 : n < 0
        · exact walk_c1y A l cap k n 0 (l.length - k) w hR hs hc (by omega) (by omega) (by omega) hck h3 rfl
        · by_cases h4 : n ≤ ((l.length - k : Nat) : Int)
          · obtain ⟨m, rfl⟩ := Int.eq_ofNat_of_zero_le (show 0 ≤ n by omega)
            exact walk_c2y A l cap k m (l.length - k) w hR hs hc (by omega) (by omega) (by omega) hck (by omega)
          · exact walk_c3y A l cap k n _ (l.length - k) w hR hs hc (by omega) (by omega) (by omega) hck (by omega) rfl
    · have hz1 : decide (0 < skip) = true := decide_eq_true h1
      have hz2 : decide (skip ≤ (l.length : Int)) = false := decide_eq_false h2
      by_cases h3 : n < 0
      · exact walk_b1 A l cap skip n 0 l.length w hR hs hc (by omega) hz1 hz2 h3 rfl
      · by_cases h4 : n ≤ (l.length : Int)
        · obtain ⟨m, rfl⟩ := Int.eq_ofNat_of_zero_le (show 0 ≤ n by omega)
          exact walk_b2 A l cap skip m l.length w hR hs hc (by omega) hz1 hz2 (by omega)
        · exact walk_b3 A l cap skip n _ l.length w hR hs hc (by omega) hz1 hz2 (by omega) rfl
  · have hz1 : decide (0 < skip) = false := decide_eq_false h1
    by_cases h3 : n < 0
    · exact walk_a1 A l cap skip n 0 l.length w hR hs hc (by omega) hz1 h3 rfl
    · by_cases h4 : n ≤ (l.length : Int)
      · obtain ⟨m, rfl⟩ := Int.eq_ofNat_of_zero_le (show 0 ≤ n by omega)
        exact walk_a2 A l cap skip m l.length w hR hs hc (by omega) hz1 (by omega)
      · exact walk_a3 A l cap skip n _ l.length w hR hs hc (by omega) hz1 (by omega) rfl

set_option maxRecDepth 100000 in
theorem lifted (os : Os) (started : os.Started) (H : Type) (enc : TypeId × Value → H) :
    ReturnsInHanded {} Try.checked os 6 .any (Rows.numPeeksSpec.pre6 enc Try.prog Try.f6 Rows.numPeeksRow.domain false) (Rows.numPeeksSpec.post enc Try.prog Try.f6 false true false false) := by
  refine returnsInHanded_of_change_sized (C := Try.checked) ownB started (by kernel_rfl) Try.func6
    (ChangeSpec.witness6 (enc := enc) (C := Try.checked) false ⟨#[], #[.slice none 0 0, .int .i64 0, .int .i64 0], []⟩ 8 (by kernel_rfl) (by kernel_rfl) (by kernel_rfl) (by kernel_rfl)) ?_
  intro W base args ds gs before hval0 hW _ hsz0 _
  have hsz : (DataW.weightsEach Try.prog (Try.f6.params.toList ++ Rows.numPeeksSpec.plain.varTypes Try.prog) (ds ++ gs)).all (· ≤ reachBytes) = true := hsz0
  clear hsz0
  have hval : ∀ (j : Nat) t v, Try.f6.params[j]? = some t → args[j]? = some v → Value.okWide Try.prog W .any base t v := hval0
  have hW' := hW
  obtain ⟨p, q, hA0, hV, rfl, hfz, hnd⟩ := hW
  have hA : DataW.TrodAll enc Try.prog W 0 (fun _ => true) true Try.f6.params.toList args.toList ds p := hA0
  rw [Try.params6] at hA hval hsz
  obtain ⟨v0, vs0, d0, ds0, p0, q0, hargs, rfl, rfl, h0, r0⟩ := trodAll_cons hA
  obtain ⟨v1, vs1, d1, ds1, p1, q1, rfl, rfl, rfl, h1, r1⟩ := trodAll_cons r0
  obtain ⟨v2, vs2, d2, ds2, p2, q2, rfl, rfl, rfl, h2, r2⟩ := trodAll_cons r1
  obtain ⟨rfl, rfl, rfl⟩ := trodAll_nil r2
  obtain rfl : args = #[v0, v1, v2] := by cases args; simp_all
  obtain ⟨rfl, rfl⟩ := trodVars_none hV
  obtain ⟨a0, len0, cap0, rfl⟩ := okWide_slice Try.underlying22 (hval 0 22 v0 rfl rfl)
  have k0 := h0
  have lt0 : ∀ x ∈ p0, x.block < W.heap.size := by obtain ⟨m, hm⟩ := k0; exact DataW.trod_lt m _ _ _ hm
  obtain ⟨l0, rfl, hc0, rd0, hd0⟩ := open_bytes h0
  have hs0 : l0.length ≤ 140737488351232 := by
    rcases hd0 with ⟨h, _⟩ | ⟨es, sp, rfl, h⟩
    · omega
    · have := sized_slice hsz (j := 0) (t := 22) (e := 5) rfl rfl Try.underlying22
      rw [bytes_byte] at this
      simp only [reachBytes] at this
      omega
  obtain ⟨a1, rfl, rfl, rfl, w1⟩ := open_int Try.underlying3 (hval 1 3 v1 rfl rfl) h1
  obtain ⟨a2, rfl, rfl, rfl, w2⟩ := open_int Try.underlying3 (hval 2 3 v2 rfl rfl) h2
  clear hA0 hval0
  refine (walk a0 l0 cap0 a1 a2 W rd0 hs0 hc0 w1 w2).mono fun e W' ⟨he, bel⟩ => ?_
  subst he
  exact ⟨_, rfl, _, _, _, [], _, [], hW', trodAll_mk1 (shut_bool Try.underlying4 _), (trodAll_cons_mk (Below.trod laidOut (by kernel_rfl) (of_decide_eq_true (by kernel_rfl)) k0 bel lt0) (trodAll_cons_mk (shut_int Try.underlying3 w1) (trodAll_cons_mk (shut_int Try.underlying3 w2) trodAll_mk0))), rfl, bel.frame _, fun h => by cases h⟩

theorem proved : Rows.NumPeeksSaid :=
  OpenClaim.holds_of_wide 6 Try.f6 rfl rfl rfl rfl rfl rfl rfl ⟨rfl, rfl, rfl, rfl, rfl⟩ rfl rfl rfl rfl rfl (by kernel_rfl) Try.func6 (by kernel_rfl)
    (of_decide_eq_true (by kernel_rfl)) (by unfold Func.isWrapper; rw [if_neg (by decide +kernel)]; exact ⟨rfl, rfl⟩)
    (fun os started H enc _ => lifted os started H enc)

#print axioms proved
end Go.Proofs.Ytpelndjfamdjlaa.numPeeks
