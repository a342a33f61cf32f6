/-
  Proved: the law NumSubs returns true for all bytes, numbers and calls: the cursor that Sub returns behaves like a new cursor over the next n bytes, and the first cursor then stands after them; or Sub fails. No condition.
-/
import Derived.Test.YtpelndjfamdjlaaLSubsB
import Derived.Test.YtpelndjfamdjlaaLSubsX
import Derived.Test.YtpelndjfamdjlaaFrC
namespace Go.Proofs.Ytpelndjfamdjlaa.numSubs
open Go.ChangeShapes Go.WideShapes Go.ChangeAt Go.RowKit

set_option maxHeartbeats 1000000 in
theorem walk_big (A : Option Addr) (N : Nat) (cap : Nat) (skip n : Int) (AL : Option Addr) (P capL : Nat) (w : World) (hP : 200 < P) :
    Calls Try.prog 7 #[.slice A N cap, .int .i64 skip, .int .i64 n, .slice AL P capL] w fun e w' => e = .returned (.bool true) ∧ Below w.heap.size w w' := by
  have hPd : decide ((200 : Int) < (P : Int)) = true := decide_eq_true (by omega)
  go_enter Try.func7, Try.ntmps7
  go_wp2_with fail
  refine (known_any _).mono ?_
  rintro e w7 ⟨rfl, hb7⟩
  have HB7 := Lib.hid hb7
  clear hb7
  go_wp2
  go_ret
  exact ⟨rfl, HB7.out⟩

theorem walk (A : Option Addr) (l : List UInt8) (cap : Nat) (skip n : Int) (AL : Option Addr) (ls : List (Int × Int)) (capL : Nat) (w : World) (hR : Rd w A l) (hs : l.length ≤ 140737488351232) (hc : l.length ≤ cap) (_ws : (Lit.int .i64 skip).wf = true) (_wn : (Lit.int .i64 n).wf = true) (hRC : RdC w AL ls) (hwf : ∀ (j : Nat) (q z : Int), ls[j]? = some (q, z) → z ≤ 9223372036854775807) :
    Calls Try.prog 7 #[.slice A l.length cap, .int .i64 skip, .int .i64 n, .slice AL ls.length capL] w fun e w' => e = .returned (.bool true) ∧ Below w.heap.size w w' := by
  by_cases hP : 200 < ls.length
  · exact walk_big A _ cap skip n AL _ capL w hP
  have hP2 : ls.length ≤ 200 := by omega
  by_cases h1 : 0 < skip
  · by_cases h2 : skip ≤ (l.length : Int)
    · obtain ⟨k, rfl⟩ := Int.eq_ofNat_of_zero_le (show 0 ≤ skip by omega)
      have hk0 : 0 < k := by omega
      have hkl : k ≤ l.length := by omega
      by_cases h3 : n < 0
      · exact walk_c1 A l cap k n AL ls capL w hR hs hc hRC hP2 hwf hk0 hkl h3
      · by_cases h4 : (l.length : Int) - (k : Int) < n
        · exact walk_c2 A l cap k n AL ls capL w hR hs hc hRC hP2 hwf hk0 hkl (by omega) h4
        · obtain ⟨m, rfl⟩ := Int.eq_ofNat_of_zero_le (show 0 ≤ n by omega)
          by_cases h5 : cap = k + m
          · subst h5
            exact walk_c3x A l k m _ AL ls capL w hR hs hRC hP2 hwf hk0 hkl rfl (by omega)
          · exact walk_c3y A l cap k m _ (l.length - (k + m)) AL ls capL w hR hs hc hRC hP2 hwf hk0 hkl rfl (by omega) h5
    · have hz1 : decide (0 < skip) = true := decide_eq_true h1
      have hz2 : decide (skip ≤ (l.length : Int)) = false := decide_eq_false h2
      by_cases h3 : n < 0
      · exact walk_b1 A l cap skip n AL ls capL w hR hs hc hRC hP2 hwf hz1 hz2 h3
      · by_cases h4 : (l.length : Int) - ((0 : Nat) : Int) < n
        · exact walk_b2 A l cap skip n AL ls capL w hR hs hc hRC hP2 hwf hz1 hz2 (by omega) h4
        · obtain ⟨m, rfl⟩ := Int.eq_ofNat_of_zero_le (show 0 ≤ n by omega)
          by_cases h5 : cap = m
          · subst h5
            exact walk_b3x A l skip cap _ AL ls capL w hR hs hRC hP2 hwf hz1 hz2 (Nat.zero_add _) (by omega)
          · exact walk_b3y A l cap skip m _ (l.length - m) AL ls capL w hR hs hc hRC hP2 hwf hz1 hz2 (Nat.zero_add _) (by omega) h5
  · have hz1 : decide (0 < skip) = false := decide_eq_false h1
    by_cases h3 : n < 0
    · exact walk_a1 A l cap skip n AL ls capL w hR hs hc hRC hP2 hwf hz1 h3
    · by_cases h4 : (l.length : Int) - ((0 : Nat) : Int) < n
      · exact walk_a2 A l cap skip n AL ls capL w hR hs hc hRC hP2 hwf hz1 (by omega) h4
      · obtain ⟨m, rfl⟩ := Int.eq_ofNat_of_zero_le (show 0 ≤ n by omega)
        by_cases h5 : cap = m
        · subst h5
          exact walk_a3x A l skip cap _ AL ls capL w hR hs hRC hP2 hwf hz1 (Nat.zero_add _) (by omega)
        · exact walk_a3y A l cap skip m _ (l.length - m) AL ls capL w hR hs hc hRC hP2 hwf hz1 (Nat.zero_add _) (by omega) h5

set_option maxRecDepth 100000 in
theorem lifted (os : Os) (started : os.Started) (H : Type) (enc : TypeId × Value → H) :
    ReturnsInHanded {} Try.checked os 7 .any (Rows.numSubsSpec.pre6 enc Try.prog Try.f7 Rows.numSubsRow.domain false) (Rows.numSubsSpec.post enc Try.prog Try.f7 false true false false) := by
  refine returnsInHanded_of_change_sized (C := Try.checked) ownB started (by kernel_rfl) Try.func7
    (ChangeSpec.witness6 (enc := enc) (C := Try.checked) false ⟨#[], #[.slice none 0 0, .int .i64 0, .int .i64 0, .slice none 0 0], []⟩ 8 (by kernel_rfl) (by kernel_rfl) (by kernel_rfl) (by kernel_rfl)) ?_
  intro W base args ds gs before hval0 hW _ hsz0 _
  have hsz : (DataW.weightsEach Try.prog (Try.f7.params.toList ++ Rows.numSubsSpec.plain.varTypes Try.prog) (ds ++ gs)).all (· ≤ reachBytes) = true := hsz0
  clear hsz0
  have hval : ∀ (j : Nat) t v, Try.f7.params[j]? = some t → args[j]? = some v → Value.okWide Try.prog W .any base t v := hval0
  have hW' := hW
  obtain ⟨p, q, hA0, hV, rfl, hfz, hnd⟩ := hW
  have hA : DataW.TrodAll enc Try.prog W 0 (fun _ => true) true Try.f7.params.toList args.toList ds p := hA0
  rw [Try.params7] at hA hval hsz
  obtain ⟨v0, vs0, d0, ds0, p0, q0, hargs, rfl, rfl, h0, r0⟩ := trodAll_cons hA
  obtain ⟨v1, vs1, d1, ds1, p1, q1, rfl, rfl, rfl, h1, r1⟩ := trodAll_cons r0
  obtain ⟨v2, vs2, d2, ds2, p2, q2, rfl, rfl, rfl, h2, r2⟩ := trodAll_cons r1
  obtain ⟨v3, vs3, d3, ds3, p3, q3, rfl, rfl, rfl, h3, r3⟩ := trodAll_cons r2
  obtain ⟨rfl, rfl, rfl⟩ := trodAll_nil r3
  obtain rfl : args = #[v0, v1, v2, v3] := by cases args; simp_all
  obtain ⟨rfl, rfl⟩ := trodVars_none hV
  obtain ⟨a0, len0, cap0, rfl⟩ := okWide_slice Try.underlying22 (hval 0 22 v0 rfl rfl)
  have k0 := h0
  have lt0 : ∀ x ∈ p0, x.block < W.heap.size := by obtain ⟨m, hm⟩ := k0; exact DataW.trod_lt m _ _ _ hm
  obtain ⟨l0, rfl, hc0, rd0, hd0⟩ := open_bytes h0
  have hs0 : l0.length ≤ 140737488351232 := by
    rcases hd0 with ⟨h, _⟩ | ⟨es, sp, rfl, h⟩
    · omega
    · have := sized_slice hsz (j := 0) (t := 22) (e := 5) rfl rfl Try.underlying22
      rw [bytes_byte] at this
      simp only [reachBytes] at this
      omega
  obtain ⟨a1, rfl, rfl, rfl, w1⟩ := open_int Try.underlying3 (hval 1 3 v1 rfl rfl) h1
  obtain ⟨a2, rfl, rfl, rfl, w2⟩ := open_int Try.underlying3 (hval 2 3 v2 rfl rfl) h2
  obtain ⟨a3, len3, cap3, rfl⟩ := okWide_slice Try.underlying47 (hval 3 47 v3 rfl rfl)
  have k3 := h3
  have lt3 : ∀ x ∈ p3, x.block < W.heap.size := by obtain ⟨m, hm⟩ := k3; exact DataW.trod_lt m _ _ _ hm
  obtain ⟨l3, rfl, rc3, wf3⟩ := open_calls h3
  clear hA0 hval0
  refine (walk a0 l0 cap0 a1 a2 a3 l3 cap3 W rd0 hs0 hc0 w1 w2 rc3 wf3).mono fun e W' ⟨he, bel⟩ => ?_
  subst he
  exact ⟨_, rfl, _, _, _, [], _, [], hW', trodAll_mk1 (shut_bool Try.underlying4 _), (trodAll_cons_mk (Below.trod laidOut (by kernel_rfl) (of_decide_eq_true (by kernel_rfl)) k0 bel lt0) (trodAll_cons_mk (shut_int Try.underlying3 w1) (trodAll_cons_mk (shut_int Try.underlying3 w2) (trodAll_cons_mk (Below.trod laidOut (by kernel_rfl) (of_decide_eq_true (by kernel_rfl)) k3 bel lt3) trodAll_mk0)))), rfl, bel.frame _, fun h => by cases h⟩

theorem proved : Rows.NumSubsSaid :=
  OpenClaim.holds_of_wide 7 Try.f7 rfl rfl rfl rfl rfl rfl rfl ⟨rfl, rfl, rfl, rfl, rfl⟩ rfl rfl rfl rfl rfl (by kernel_rfl) Try.func7 (by kernel_rfl)
    (of_decide_eq_true (by kernel_rfl)) (by unfold Func.isWrapper; rw [if_neg (by decide +kernel)]; exact ⟨rfl, rfl⟩)
    (fun os started H enc _ => lifted os started H enc)

#print axioms proved

end Go.Proofs.Ytpelndjfamdjlaa.numSubs
