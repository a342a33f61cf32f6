/-
  Proved: the law TallyRuns returns true for all bytes: IsRun recognizes byte slices of one repeated value. No condition.
-/
import Derived.Test.YtbbkmmdlpmpaeaaFrm
import Derived.Test.YtbbkmmdlpmpaeaaRfA
namespace Go.Proofs.Ytbbkmmdlpmpaeaa.tallyRuns
open Go.ChangeShapes Go.WideShapes Go.ChangeAt Go.RowKit


set_option maxHeartbeats 1000000 in
theorem walk_a (A : Option Addr) (N cap : Nat) (w : World) (h : 700 < N) :
    Calls Try.prog 4 #[.slice A N cap] w fun e w' => e = .returned (.bool true) ∧ Below w.heap.size w w' := by
  have hd : decide ((700 : Int) < (N : Int)) = true := decide_eq_true (by omega)
  go_enter Try.func4, Try.ntmps4
  go_wp2_with fail
  refine (works_any _).mono ?_
  rintro e wk ⟨rfl, hbk⟩
  have BK := Lib.hid hbk
  clear hbk
  go_wp2
  go_ret
  exact ⟨rfl, BK.out⟩


/-- All of the first i bytes are b. -/
def allb (b : UInt8) (l : List UInt8) (i : Nat) : Bool := (l.take i).all (· == b)
theorem allb_succ {b x : UInt8} {l : List UInt8} {i : Nat} (h : l[i]? = some x) : allb b l (i + 1) = (allb b l i && x == b) := by
  unfold allb; rw [take_succ_get h, List.all_append]; simp
theorem beq_cast (z y : Nat) : ((z : Int) == (y : Int)) = (z == y) := by rw [Bool.eq_iff_iff]; simp; omega
theorem allb_all {b : UInt8} {l : List UInt8} : allb b (b :: l) (l.length + 1) = runb (b :: l) := by
  unfold allb; rw [List.take_of_length_le (by simp), List.all_cons]; simp [runb]


set_option maxRecDepth 100000 in
set_option maxHeartbeats 1000000 in
theorem walk_nil (A : Option Addr) (cap : Nat) (w : World)  :
    Calls Try.prog 4 #[.slice A 0 cap] w fun e w' => e = .returned (.bool true) ∧ Below w.heap.size w w' := by
  have HI := Lib.hid (isrun_any w A [] 0 cap rfl (by omega) (Rv.nil _ _))
  rw [show runb [] = false from rfl, show runv [] = 0 from rfl] at HI
  have B0 : Hid (Below w.heap.size w w) := Lib.hid (Below.refl _ _)
  go_enter Try.func4, Try.ntmps4
  go_wp2_with (first
    | (go_at_call 17; refine HI.out.mono ?_; rintro e w' ⟨rfl, rfl⟩))
  go_loop [5, 6] (fun t p => t = .bool false ∧ p = .int .i64 0) (fun _ _ => 0)
  case atStart => exact ⟨rfl, rfl⟩
  case round =>
    obtain ⟨rfl, rfl⟩ := hrel
    go_wp2_with (first
    | (go_at_call 13; refine (works_any _).mono ?_; rintro e wk ⟨rfl, hbk⟩; have BK := Lib.hid (below_on B0.out (Nat.le_refl _) hbk); clear hbk))
    go_ret
    exact ⟨rfl, BK.out⟩


set_option maxRecDepth 100000 in
set_option maxHeartbeats 1000000 in
theorem walk_b (A : Option Addr) (b : UInt8) (l : List UInt8) (N cap : Nat) (w : World) (h : N ≤ 700) (hN : (b :: l).length = N) (hR : Rd w A (b :: l)) :
    Calls Try.prog 4 #[.slice A N cap] w fun e w' => e = .returned (.bool true) ∧ Below w.heap.size w w' := by
  have hd : decide ((700 : Int) < (N : Int)) = false := decide_eq_false (by omega)
  have h1 : 1 ≤ N := by simp at hN; omega
  have hd0 : decide ((0 : Int) < (N : Int)) = true := decide_eq_true (by omega)
  have HI := Lib.hid (isrun_any w A (b :: l) N cap hN (by omega) hR)
  obtain ⟨ad, rfl, hc0⟩ := hR 0 (byt b) rfl
  have hc0' : w.cell? ad = some (.int .u8 (b.toNat : Int)) := by simpa [Addr.add] using hc0
  have HN := Lib.hid hN
  have HR := Lib.hid hR
  have hbl := b.toNat_lt
  have HV : Hid (runv (b :: l) = if runb (b :: l) then b.toNat else 0) := Lib.hid rfl
  obtain ⟨y, hy⟩ : ∃ y, b.toNat = y := ⟨_, rfl⟩
  rw [hy] at hbl hc0' HV
  have HY := Lib.hid hy
  obtain ⟨V, hV⟩ : ∃ V, runv (b :: l) = V := ⟨_, rfl⟩
  obtain ⟨T, hT⟩ : ∃ T, runb (b :: l) = T := ⟨_, rfl⟩
  rw [hV, hT] at HI HV
  have HT := Lib.hid hT
  clear hV hT hc0 hN hR hy
  go_enter Try.func4, Try.ntmps4
  go_wp2_with (first
    | (go_at_call 17; refine HI.out.mono ?_; rintro e w' ⟨rfl, rfl⟩))
  go_loopw [5, 6] (fun t p wr => ∃ i d : Nat, i ≤ N ∧ t = .bool (allb b (b :: l) i) ∧ p = .int .i64 (i : Int) ∧ Hid (wr = w'.drewN d)) (fun _ p _ => N - (intOf p).toNat)
  case atStart => exact ⟨0, 0, Nat.zero_le _, by simp [allb]; omega, rfl, Lib.hid rfl⟩
  case round =>
    obtain ⟨i, d, hi, rfl, rfl, HW⟩ := hrel
    by_cases hlt : i < N
    · obtain ⟨x, hx⟩ : ∃ x, (b :: l)[i]? = some x := ⟨_, List.getElem?_eq_getElem (by rw [HN.out]; exact hlt)⟩
      have hcx := HR.out.cells i (byt x) (by rw [List.getElem?_map, hx]; rfl)
      have hc : wr.cell? (ad.add i) = some (.int .u8 (x.toNat : Int)) := by rw [HW.out]; exact hcx
      have hc1 : wr.cell? ad = some (.int .u8 (y : Int)) := by rw [HW.out]; exact hc0'
      have HS := Lib.hid (allb_succ (b := b) hx)
      have hxb : (x == b) = (x.toNat == y) := by
        rw [← HY.out, Bool.eq_iff_iff]
        simp [UInt8.toNat_inj]
      rw [hxb] at HS
      have hxl := x.toNat_lt
      obtain ⟨z, hz⟩ : ∃ z, x.toNat = z := ⟨_, rfl⟩
      rw [hz] at HS hc hxl
      clear hx hcx hxb hz
      cases hq : allb b (b :: l) i with
      | true =>
        rw [hq] at HS
        go_wp2
        go_quiet (fail)
        go_wp2
        refine ⟨⟨i + 1, d + nq, by omega, by rw [HS.out]; simp [beq_cast], by simp, Lib.hid (by rw [HW.out, World.drewN_drewN])⟩, by simp [intOf]; omega⟩
      | false =>
        rw [hq] at HS
        go_wp2
        go_quiet (fail)
        go_wp2
        refine ⟨⟨i + 1, d + nq, by omega, by rw [HS.out]; simp, by simp, Lib.hid (by rw [HW.out, World.drewN_drewN])⟩, by simp [intOf]; omega⟩
    · have hE : allb b (b :: l) i = T := by
        have h9 := HN.out
        simp at h9
        rw [show i = l.length + 1 by omega, allb_all]
        exact HT.out
      rw [hE]
      have hc1 : wr.cell? ad = some (.int .u8 (y : Int)) := by rw [HW.out]; exact hc0'
      have B0 : Hid (Below w'.heap.size w' wr) := Lib.hid (by rw [HW.out]; exact below_drewN' (Below.refl _ _) d)
      clear hE
      cases T with
      | true =>
        have hv : V = y := by have := HV.out; simpa using this
        subst hv
        go_wp2_with (first
    | (go_at_call 13; refine (works_any _).mono ?_; rintro e wk ⟨rfl, hbk⟩; have BK := Lib.hid (below_on B0.out (Nat.le_refl _) hbk); clear hbk))
        go_ret
        exact ⟨by simp, BK.out⟩
      | false =>
        have hv : V = 0 := by have := HV.out; simpa using this
        subst hv
        go_wp2_with (first
    | (go_at_call 13; refine (works_any _).mono ?_; rintro e wk ⟨rfl, hbk⟩; have BK := Lib.hid (below_on B0.out (Nat.le_refl _) hbk); clear hbk))
        go_ret
        exact ⟨by simp, BK.out⟩


theorem walk (A : Option Addr) (l : List UInt8) (cap : Nat) (w : World) (hR : Rd w A l) (_hs : l.length ≤ 140737488351232) (_hc : l.length ≤ cap) :
    Calls Try.prog 4 #[.slice A l.length cap] w fun e w' => e = .returned (.bool true) ∧ Below w.heap.size w w' := by
  by_cases h : 700 < l.length
  · exact walk_a A _ cap w h
  · rcases l with _ | ⟨b, l⟩
    · exact walk_nil A cap w
    · exact walk_b A b l _ cap w (by omega) rfl hR

set_option maxRecDepth 100000 in
theorem lifted (os : Os) (started : os.Started) (H : Type) (enc : TypeId × Value → H) :
    ReturnsInHanded {} Try.checked os 4 .any (Rows.tallyRunsSpec.pre6 enc Try.prog Try.f4 Rows.tallyRunsRow.domain false) (Rows.tallyRunsSpec.post enc Try.prog Try.f4 false true false false) := by
  refine returnsInHanded_of_change_sized (C := Try.checked) ownB started (by kernel_rfl) Try.func4
    (ChangeSpec.witness6 (enc := enc) (C := Try.checked) false ⟨#[], #[.slice none 0 0], []⟩ 8 (by kernel_rfl) (by kernel_rfl) (by kernel_rfl) (by kernel_rfl)) ?_
  intro W base args ds gs before hval0 hW _ hsz0 _
  have hsz : (DataW.weightsEach Try.prog (Try.f4.params.toList ++ Rows.tallyRunsSpec.plain.varTypes Try.prog) (ds ++ gs)).all (· ≤ reachBytes) = true := hsz0
  clear hsz0
  have hval : ∀ (j : Nat) t v, Try.f4.params[j]? = some t → args[j]? = some v → Value.okWide Try.prog W .any base t v := hval0
  have hW' := hW
  obtain ⟨p, q, hA0, hV, rfl, hfz, hnd⟩ := hW
  have hA : DataW.TrodAll enc Try.prog W 0 (fun _ => true) true Try.f4.params.toList args.toList ds p := hA0
  rw [Try.params4] at hA hval hsz
  obtain ⟨v0, vs0, d0, ds0, p0, q0, hargs, rfl, rfl, h0, r0⟩ := trodAll_cons hA
  obtain ⟨rfl, rfl, rfl⟩ := trodAll_nil r0
  obtain rfl : args = #[v0] := by cases args; simp_all
  obtain ⟨rfl, rfl⟩ := trodVars_none hV
  obtain ⟨a0, len0, cap0, rfl⟩ := okWide_slice Try.underlying22 (hval 0 22 v0 rfl rfl)
  have k0 := h0
  have lt0 : ∀ x ∈ p0, x.block < W.heap.size := by obtain ⟨m, hm⟩ := k0; exact DataW.trod_lt m _ _ _ hm
  obtain ⟨l0, rfl, hc0, rd0, hd0⟩ := open_bytes h0
  have hs0 : l0.length ≤ 140737488351232 := by
    rcases hd0 with ⟨h, _⟩ | ⟨es, sp, rfl, h⟩
    · omega
    · have := sized_slice hsz (j := 0) (t := 22) (e := 5) rfl rfl Try.underlying22
      rw [bytes_byte] at this
      simp only [reachBytes] at this
      omega
  clear hA0 hval0
  refine (walk a0 l0 cap0 W rd0 hs0 hc0).mono fun e W' ⟨he, bel⟩ => ?_
  subst he
  exact ⟨_, rfl, _, _, _, [], _, [], hW', trodAll_mk1 (shut_bool Try.underlying4 _), (trodAll_cons_mk (Below.trod laidOut (by kernel_rfl) (of_decide_eq_true (by kernel_rfl)) k0 bel lt0) trodAll_mk0), rfl, bel.frame _, fun h => by cases h⟩

theorem proved : Rows.TallyRunsSaid :=
  OpenClaim.holds_of_wide 4 Try.f4 rfl rfl rfl rfl rfl rfl rfl ⟨rfl, rfl, rfl, rfl, rfl⟩ rfl rfl rfl rfl rfl (by kernel_rfl) Try.func4 (by kernel_rfl)
    (of_decide_eq_true (by kernel_rfl)) (by unfold Func.isWrapper; rw [if_neg (by decide +kernel)]; exact ⟨rfl, rfl⟩)
    (fun os started H enc _ => lifted os started H enc)

#print axioms proved

end Go.Proofs.Ytbbkmmdlpmpaeaa.tallyRuns
