/-
  Proved: the law NormShares returns true for all counts and Logs: the number of states of a symbol is less than its share plus 1; exactly the symbols whose share is below 1 have the norm -1; without such symbols it is greater than the share minus 1. No condition.
-/
import Derived.Test.YtkojdhmgefggjaaFrm
import Derived.Test.YtkojdhmgefggjaaRfo
import Derived.Test.YtkojdhmgefggjaaShr
namespace Go.Proofs.Ytkojdhmgefggjaa.normShares
open Go.ChangeShapes Go.WideShapes Go.ChangeAt Go.RowKit

set_option maxRecDepth 100000 in
set_option maxHeartbeats 2000000 in
theorem states_any (w : World) (n : Int) : Calls Try.prog 20 #[.int .i64 n] w fun e w' => e = .returned (.int .i64 (sts n)) ∧ w' = w := by
  by_cases h : n = -1
  · subst h
    go_enter Try.func20, Try.ntmps20
    go_wp2
    go_ret
    exact ⟨rfl, rfl⟩
  · have e1 : (n == -1) = false := by simp [h]
    have e2 : sts n = n := by unfold sts; rw [if_neg h]
    rw [e2]
    go_enter Try.func20, Try.ntmps20
    go_wp2
    go_ret
    exact ⟨rfl, rfl⟩

set_option maxRecDepth 100000 in
set_option maxHeartbeats 2000000 in
theorem walk_long (A : Option Addr) (N cap : Nat) (z : Int) (w : World) (h : 300 < N) :
    Calls Try.prog 8 #[.slice A N cap, .int .i64 z] w fun e w' => e = .returned (.bool true) ∧ Below w.heap.size w w' := by
  have hd : decide ((300 : Int) < (N : Int)) = true := decide_eq_true (by omega)
  have KN := Lib.hid (known_any w)
  go_enter Try.func8, Try.ntmps8
  go_wp2_with (go_at_call 12; refine KN.out.mono ?_; rintro e w1 ⟨rfl, hb1⟩; have B1 := Lib.hid hb1; clear hb1)
  go_ret
  exact ⟨rfl, B1.out⟩

set_option maxRecDepth 100000 in
set_option maxHeartbeats 2000000 in
theorem walk_bad (A : Option Addr) (l : List Int) (N cap : Nat) (z : Int) (w : World) (h : N ≤ 300) (hN : l.length = N) (hR : Ri w A l) (hg : ¬ good l z) :
    Calls Try.prog 8 #[.slice A N cap, .int .i64 z] w fun e w' => e = .returned (.bool true) ∧ Below w.heap.size w w' := by
  have hd : decide ((300 : Int) < (N : Int)) = false := decide_eq_false (by omega)
  have H1 := Lib.hid (normalize_bad w A l N cap z hN (by omega) hR hg)
  clear hN hR hg
  go_enter Try.func8, Try.ntmps8
  go_wp2_with (first
    | (go_at_call 15; refine H1.out.mono ?_; rintro e w1 ⟨rfl, hb1⟩; have B1 := Lib.hid (below_on hb1 (Nat.le_refl _) ((Below.refl _ w1).alloc (Nat.le_refl _) (.cells #[.int .i64 0, .slice none 0 0] 24))); clear hb1)
    | (go_at_call 12; refine (known_any _).mono ?_; rintro e w2 ⟨rfl, hb2⟩; have B2 := Lib.hid (below_on B1.out (Nat.le_refl _) hb2); clear hb2))
  go_ret
  exact ⟨rfl, B2.out⟩

/-- Whether one of the first i symbols is rare. -/
def rr (k : List Nat) (s T i : Nat) : Bool := (List.range i).any (fun j => decide (0 < cn k j) && decide (cn k j * s < T))
theorem rr_succ (k : List Nat) (s T i : Nat) : rr k s T (i + 1) = (rr k s T i || (decide (0 < cn k i) && decide (cn k i * s < T))) := by
  unfold rr
  rw [List.range_succ, List.any_append]
  simp
theorem rr_of {k : List Nat} {s T i N : Nat} (hi : i < N) (h0 : 0 < cn k i) (h : cn k i * s < T) : rr k s T N = true := by
  unfold rr
  rw [List.any_eq_true]
  exact ⟨i, List.mem_range.2 hi, by simp [h0, h]⟩
theorem rr_no {k : List Nat} {s T N i : Nat} (h : rr k s T N = false) (hi : i < N) (h0 : 0 < cn k i) : T ≤ cn k i * s := by
  rcases Nat.lt_or_ge (cn k i * s) T with h1 | h1
  · rw [rr_of hi h0 h1] at h; cases h
  · exact h1
/-- What the law asks of one symbol, in numbers. -/
theorem one {k : List Nat} {lg s T : Nat} (hg : Gd k lg s) (hT : tot k = T) {i : Nat} (hi : i < k.length) :
    (cn k i = 0 → nm k s i = 0) ∧ (0 < cn k i → cn k i * s < T → nm k s i = -1 ∧ sts (nm k s i) = 1) ∧
    (0 < cn k i → ¬ cn k i * s < T → nm k s i ≠ -1) ∧ (0 < cn k i → 1 ≤ sts (nm k s i) ∧ sts (nm k s i) ≤ 1024 ∧ (sts (nm k s i)) * (T : Int) - ((cn k i * s : Nat) : Int) < (T : Int)) ∧
    (rr k s T k.length = false → 0 < cn k i → -(T : Int) < (sts (nm k s i)) * (T : Int) - ((cn k i * s : Nat) : Int)) := by
  subst hT
  refine ⟨fun h => by unfold nm; rw [if_pos h], fun h h1 => ?_, fun h h1 => ?_, fun h => ?_, fun hr h => ?_⟩
  · have e : nm k s i = -1 := by unfold nm; rw [if_neg (by omega), if_pos h1]
    rw [e]; exact ⟨rfl, rfl⟩
  · have hu : i ∈ usy k := usy_mem.2 ⟨hi, h⟩
    have := (fin_pos hg i hu).1
    unfold nm
    rw [if_neg (by omega), if_neg h1]
    omega
  · have hu : i ∈ usy k := usy_mem.2 ⟨hi, h⟩
    have h1 := fin_pos hg i hu
    have h2 := (cl_fin hg i hu).hi
    rw [sts_fin hg hu]
    refine ⟨h1.1, h1.2, ?_⟩
    have h3 : (fin k s i - 1) * (tot k : Int) = fin k s i * (tot k : Int) - (tot k : Int) := by rw [Int.sub_mul]; omega
    unfold shr at h2
    omega
  · have hu : i ∈ usy k := usy_mem.2 ⟨hi, h⟩
    have h2 := lo_fin hg (fun j hj => rr_no hr (usy_mem.1 hj).1 (usy_mem.1 hj).2) i hu
    rw [sts_fin hg hu]
    have h3 : (fin k s i + 1) * (tot k : Int) = fin k s i * (tot k : Int) + (tot k : Int) := by rw [Int.add_mul]; omega
    unfold shr at h2
    omega

set_option maxRecDepth 100000 in
set_option maxHeartbeats 16000000 in
theorem walk_ok (A : Option Addr) (k : List Nat) (N cap lg s L T : Nat) (w : World) (h : N ≤ 300) (hN : k.length = N) (hR : Rn w A k) (hg : Gd k lg s) (hL : lst k + 1 = L) (hT : tot k = T) :
    Calls Try.prog 8 #[.slice A N cap, .int .i64 (lg : Int)] w fun e w' => e = .returned (.bool true) ∧ Below w.heap.size w w' := by
  have hd : decide ((300 : Int) < (N : Int)) = false := decide_eq_false (by omega)
  have H1 := Lib.hid (normalize_ok w A k N cap lg s hN (by omega) hR hg.tot hg.pos hg.log hg.pow hg.use)
  have hLN : L ≤ N := by have := lst_lt hg.pos; omega
  have hL0 : 0 < L := by omega
  rw [hL] at H1
  have hs5 : s ≤ 512 := by rw [← hg.pow]; exact pow_le hg.log
  have hTb : T ≤ 1099511627776 := by rw [← hT]; exact hg.tot
  have hT0 : 0 < T := by rw [← hT]; exact nus_tot hg.pos
  obtain ⟨u, hu⟩ : ∃ u, nus k = u := ⟨_, rfl⟩
  have CT : Hid (∀ W, Rn W A k → Calls Try.prog 21 #[.slice A N cap] W fun e w' => e = .returned (.tuple #[.int .i64 (T : Int), .int .i64 (u : Int), .bool true]) ∧ w' = W) := Lib.hid (fun W hW => by
    have h1 := rcounts_any W A (k.map (fun n : Nat => (n : Int))) N cap (by rw [List.length_map]; exact hN) (by omega) (by show Rv _ _ _; rw [ri_nats]; exact hW)
    have hmp : (k.map (fun n : Nat => (n : Int))).map Int.toNat = k := by rw [List.map_map]; exact (List.map_congr_left (g := id) (fun x _ => by simp)).trans (List.map_id k)
    have hfi : fine (k.map (fun n : Nat => (n : Int))) = true := by
      unfold fine
      rw [hmp, Bool.and_eq_true, decide_eq_true_iff, List.all_eq_true]
      exact ⟨fun z hz => by obtain ⟨x, _, rfl⟩ := List.mem_map.1 hz; simp, hg.tot⟩
    rw [srv_yes (s := T) (u := u) hfi (by rw [hmp]; exact hT) (by rw [hmp]; exact hu), decide_eq_true (show (0 : Int) < (u : Int) by have := hg.pos; omega)] at h1
    exact h1)
  have SZ : Hid (∀ W, Calls Try.prog 22 #[.int .i64 (lg : Int)] W fun e w' => e = .returned (.int .i64 (s : Int)) ∧ w' = W) := Lib.hid (fun W => by
    have h1 := size_any W (lg : Int)
    have hlg := hg.log
    have e : siz (lg : Int) = s := by unfold siz; rw [if_neg (by omega)]; simpa using hg.pow
    rw [e] at h1
    exact h1)
  have ONE : Hid (∀ i, i < N → _) := Lib.hid (fun i hi => one hg hT (i := i) (by rw [hN]; exact hi))
  have HN := Lib.hid hN
  have HR := Lib.hid hR
  have HL := Lib.hid hL
  have HCN : Hid (∀ i, cn k i ≤ T) := Lib.hid (fun i => by rw [← hT]; exact cn_le i)
  clear hN hR hg hL hT hu
  go_enter Try.func8, Try.ntmps8
  go_wp2_with (first
    | (go_at_call 15; refine H1.out.mono ?_; rintro e w1 ⟨g, rfl, ho1, hb1⟩; have O1 := Lib.hid ho1; have B1 := Lib.hid hb1; have RC := Lib.hid ((HR.out.below hb1).below ((Below.refl _ w1).alloc (Nat.le_refl _) (.cells #[.int .i64 (lg : Int), .slice (some ⟨g, 0, none⟩) L L] 24))); clear ho1 hb1)
    | (go_at_call 21; refine (CT.out _ RC.out).mono ?_; rintro e w' ⟨rfl, rfl⟩)
    | (go_at_call 22; refine (SZ.out _).mono ?_; rintro e w' ⟨rfl, rfl⟩))
  have b2 : Below w1.heap.size w1 (w1.alloc (.cells #[.int .i64 (lg : Int), .slice (some ⟨g, 0, none⟩) L L] 24)) := (Below.refl _ w1).alloc (Nat.le_refl _) _
  have t2 := Tb.new w1 lg (some ⟨g, 0, none⟩) L L
  have o2 := own_below O1.out b2
  generalize w1.alloc (.cells #[.int .i64 (lg : Int), .slice (some ⟨g, 0, none⟩) L L] 24) = w2 at b2 t2 o2 RC ⊢
  have B2 := Lib.hid (below_on B1.out (Nat.le_refl _) b2)
  have t1 := t2.c1
  have O2 := Lib.hid o2
  obtain ⟨tbk, htbk⟩ : ∃ b, w1.heap.size = b := ⟨_, rfl⟩
  rw [htbk] at t1
  simp only [htbk]
  clear b2 t2 o2 htbk CT SZ H1
  have CEL : Hid (∀ i, i < L → w2.cell? ⟨g, i, none⟩ = some (.int .i64 (nm k s i))) := Lib.hid (fun i hi => by
    rw [O2.out.cellAt i (by omega), List.getElem?_map]
    unfold nrm
    rw [List.getElem?_map, HL.out, List.getElem?_range hi]
    rfl)
  have CNT : Hid (∀ i, i < N → ∃ ad, A = some ad ∧ w2.cell? (ad.add i) = some (.int .i64 (cn k i : Int))) := Lib.hid (fun i hi => by
    obtain ⟨x, hx⟩ : ∃ x, k[i]? = some x := ⟨_, List.getElem?_eq_getElem (by rw [HN.out]; exact hi)⟩
    obtain ⟨ad, e, hc⟩ := RC.out i (nv x) (by rw [List.getElem?_map, hx]; rfl)
    refine ⟨ad, e, ?_⟩
    have : cn k i = x := by unfold cn; rw [hx]; rfl
    rw [this]
    exact hc)
  go_loop [11, 12] (fun q p => ∃ (i : Nat) (b : Bool), i ≤ N ∧ p = .int .i64 (i : Int) ∧ q = .bool b ∧ Hid (rr k s T i = b)) (fun _ p => N - (intOf p).toNat)
  case atStart => exact ⟨0, false, Nat.zero_le _, rfl, rfl, Lib.hid (by simp [rr])⟩
  case round =>
    obtain ⟨i, b, hi, rfl, rfl, HB⟩ := hrel
    by_cases hlt : i < N
    · obtain ⟨ad, rfl, hci⟩ := CNT.out i hlt
      have HRS := Lib.hid (rr_succ k s T i)
      have hxT := HCN.out i
      obtain ⟨x, hx⟩ : ∃ x, cn k i = x := ⟨_, rfl⟩
      rw [hx] at hci HRS hxT
      rw [HB.out] at HRS
      clear hx
      cases b with
      | true =>
        have HF : Hid (rr k s T (i + 1) = true) := Lib.hid (by rw [HRS.out]; rfl)
        clear HRS
        go_wp2
        exact ⟨⟨i + 1, true, by omega, by simp, rfl, HF⟩, by simp [intOf]; omega⟩
      | false =>
        by_cases hx0 : x = 0
        · subst hx0
          have HF : Hid (rr k s T (i + 1) = false) := Lib.hid (by rw [HRS.out]; simp)
          simp only [Int.natCast_zero] at hci
          clear HRS
          go_wp2
          exact ⟨⟨i + 1, false, by omega, by simp, rfl, HF⟩, by simp [intOf]; omega⟩
        · have hx1 : 0 < x := by omega
          have dx : decide ((0 : Int) < (x : Int)) = true := decide_eq_true (by omega)
          have hXb : x * s ≤ 562949953421312 := Nat.mul_le_mul (show x ≤ 1099511627776 by omega) hs5
          obtain ⟨X, hX⟩ : ∃ X, x * s = X := ⟨_, rfl⟩
          have e1 : (x : Int) * (s : Int) = (X : Int) := by rw [← hX]; exact (Int.natCast_mul x s).symm
          rw [hX] at HRS hXb
          by_cases hXT : X < T
          · have HF : Hid (rr k s T (i + 1) = true) := Lib.hid (by rw [HRS.out]; simp [hx1, hXT])
            have dX : decide ((X : Int) < (T : Int)) = true := decide_eq_true (by omega)
            clear HRS hX hx0
            go_wp2
            exact ⟨⟨i + 1, true, by omega, by simp, rfl, HF⟩, by simp [intOf]; omega⟩
          · have HF : Hid (rr k s T (i + 1) = false) := Lib.hid (by rw [HRS.out]; simp [hXT])
            have dX : decide ((X : Int) < (T : Int)) = false := decide_eq_false (by omega)
            clear HRS hX hx0
            go_wp2
            exact ⟨⟨i + 1, false, by omega, by simp, rfl, HF⟩, by simp [intOf]; omega⟩
    · have hiN : N = i := by omega
      subst hiN
      go_wp2
      go_loopw [13] (fun p wr => ∃ j : Nat, j ≤ L ∧ p = .int .i64 (j : Int) ∧ ∃ d, wr = w2.drewN d) (fun p _ => L - (intOf p).toNat)
      case atStart => exact ⟨0, Nat.zero_le _, rfl, 0, rfl⟩
      case round =>
        obtain ⟨j, hj, rfl, d, rfl⟩ := hrel
        by_cases hjl : j < L
        · have hjN : j < N := by omega
          obtain ⟨ad, rfl, hcj⟩ := CNT.out j hjN
          have cnj := CEL.out j hjl
          obtain ⟨q1, q2, q3, q4, q5⟩ := ONE.out j hjN
          rw [HN.out, HB.out] at q5
          have hxT := HCN.out j
          have HRJ : Hid (0 < cn k j → cn k j * s < T → b = true) := Lib.hid (fun h0 h1 => by rw [← HB.out]; exact rr_of hjN h0 h1)
          have lj : decide ((j : Int) < (N : Int)) = true := decide_eq_true (by omega)
          have ll : decide ((j : Int) < (L : Int)) = true := decide_eq_true (by omega)
          have wj : IntKind.i64.wrap (j : Int) = (j : Int) := IntWalk.i64_in _ (by omega)
          have hwT : IntKind.i64.wrap (-(T : Int)) = -(T : Int) := IntWalk.i64_in _ (by omega)
          obtain ⟨x, hx⟩ : ∃ x, cn k j = x := ⟨_, rfl⟩
          obtain ⟨a, ha⟩ : ∃ a, nm k s j = a := ⟨_, rfl⟩
          rw [hx] at hcj q1 q2 q3 q4 q5 hxT HRJ
          rw [ha] at cnj q1 q2 q3 q4 q5
          obtain ⟨n, hn⟩ : ∃ n, sts a = n := ⟨_, rfl⟩
          rw [hn] at q2 q4 q5
          have SA : Hid (∀ W, Calls Try.prog 20 #[.int .i64 a] W fun e w' => e = .returned (.int .i64 n) ∧ w' = W) := Lib.hid (fun W => by rw [← hn]; exact states_any W a)
          have HNA := Lib.hid hn
          clear hx ha hn
          by_cases hx0 : x = 0
          · subst hx0
            obtain rfl := q1 rfl
            have hn0 : n = 0 := by rw [← HNA.out]; rfl
            subst hn0
            simp only [Int.natCast_zero] at hcj
            have dT : decide ((0 : Int) ≤ -(T : Int)) = false := decide_eq_false (by omega)
            have hTp : 0 < T := hT0
            clear q1 q2 q3 q4 q5 HRJ HNA
            cases b with
            | true =>
              go_wp2_with (go_at_call 20; refine (SA.out _).mono ?_; rintro e w' ⟨rfl, rfl⟩)
              go_quiet (fail)
              go_wp2
              exact ⟨⟨j + 1, by omega, by simp, _, rfl⟩, by simp [intOf]; omega⟩
            | false =>
              go_wp2_with (go_at_call 20; refine (SA.out _).mono ?_; rintro e w' ⟨rfl, rfl⟩)
              go_quiet (fail)
              go_wp2
              exact ⟨⟨j + 1, by omega, by simp, _, rfl⟩, by simp [intOf]; omega⟩
          · have hx1 : 0 < x := by omega
            have dx : decide ((0 : Int) < (x : Int)) = true := decide_eq_true (by omega)
            obtain ⟨r1, r2, r3⟩ := q4 hx1
            have hXb : x * s ≤ 562949953421312 := Nat.mul_le_mul (show x ≤ 1099511627776 by omega) hs5
            obtain ⟨X, hX⟩ : ∃ X, x * s = X := ⟨_, rfl⟩
            have e1 : (x : Int) * (s : Int) = (X : Int) := by rw [← hX]; exact (Int.natCast_mul x s).symm
            have hPb : 0 ≤ n * (T : Int) ∧ n * (T : Int) ≤ 1125899906842624 := by
              have h4 := Int.mul_le_mul r2 (show (T : Int) ≤ 1099511627776 by omega) (by omega) (by omega)
              have h5 := Int.mul_nonneg (show 0 ≤ n by omega) (show (0 : Int) ≤ (T : Int) by omega)
              omega
            obtain ⟨P, hP⟩ : ∃ P, n * (T : Int) = P := ⟨_, rfl⟩
            rw [hX] at hXb r3 q2 q3 q5 HRJ
            rw [hP] at hPb r3 q5
            have dO : decide ((T : Int) ≤ P - (X : Int)) = false := decide_eq_false (by omega)
            have hwX : IntKind.i64.wrap (X : Int) = (X : Int) := IntWalk.i64_in _ (by omega)
            by_cases hXT : X < T
            · obtain ⟨rfl, rfl⟩ := q2 hx1 hXT
              obtain rfl := HRJ.out hx1 hXT
              have dX : decide ((X : Int) < (T : Int)) = true := decide_eq_true (by omega)
              clear q1 q2 q3 q4 q5 HRJ hX hx0 r1 r2 r3 HNA
              go_wp2_with (go_at_call 20; refine (SA.out _).mono ?_; rintro e w' ⟨rfl, rfl⟩)
              go_quiet (fail)
              go_wp2
              exact ⟨⟨j + 1, by omega, by simp, _, rfl⟩, by simp [intOf]; omega⟩
            · have dX : decide ((X : Int) < (T : Int)) = false := decide_eq_false (by omega)
              have ha1 := q3 hx1 hXT
              have dA : (a == -1) = false := by simp [ha1]
              cases b with
              | true =>
                clear q1 q2 q3 q4 q5 HRJ hX hx0 r1 r2 r3 HNA ha1
                go_wp2_with (go_at_call 20; refine (SA.out _).mono ?_; rintro e w' ⟨rfl, rfl⟩)
                go_quiet (fail)
                go_wp2
                exact ⟨⟨j + 1, by omega, by simp, _, rfl⟩, by simp [intOf]; omega⟩
              | false =>
                have r5 := q5 rfl hx1
                have dN : decide (P - (X : Int) ≤ -(T : Int)) = false := decide_eq_false (by omega)
                clear q1 q2 q3 q4 q5 HRJ hX hx0 r1 r2 r3 HNA ha1
                go_wp2_with (go_at_call 20; refine (SA.out _).mono ?_; rintro e w' ⟨rfl, rfl⟩)
                go_quiet (fail)
                go_wp2
                exact ⟨⟨j + 1, by omega, by simp, _, rfl⟩, by simp [intOf]; omega⟩
        · have hjL : L = j := by omega
          subst hjL
          have ll : decide ((L : Int) < (L : Int)) = false := decide_eq_false (by omega)
          by_cases hLN2 : L < N
          · have lj : decide ((L : Int) < (N : Int)) = true := decide_eq_true (by omega)
            go_wp2_with (go_at_call 12; refine (known_any _).mono ?_; rintro e w3 ⟨rfl, hb3⟩; have B3 := Lib.hid (below_on (below_drewN' B2.out d) (Nat.le_refl _) hb3); clear hb3)
            go_ret
            exact ⟨rfl, B3.out⟩
          · have lj : decide ((L : Int) < (N : Int)) = false := decide_eq_false (by omega)
            go_wp2_with (go_at_call 12; refine (known_any _).mono ?_; rintro e w3 ⟨rfl, hb3⟩; have B3 := Lib.hid (below_on (below_drewN' B2.out d) (Nat.le_refl _) hb3); clear hb3)
            go_ret
            exact ⟨rfl, B3.out⟩

theorem walk (A : Option Addr) (l : List Int) (cap : Nat) (z : Int) (w : World) (hR : Ri w A l) (_ : ∀ z ∈ l, -9223372036854775808 ≤ z ∧ z ≤ 9223372036854775807) (_ : l.length ≤ cap) (_ : (Lit.int .i64 z).wf = true) :
    Calls Try.prog 8 #[.slice A l.length cap, .int .i64 z] w fun e w' => e = .returned (.bool true) ∧ Below w.heap.size w w' := by
  by_cases h : 300 < l.length
  · exact walk_long A _ cap z w h
  · by_cases hg : good l z
    · obtain ⟨k, lg, rfl, hk, rfl, hgd⟩ := gd_of hg (by omega)
      rw [List.length_map] at h ⊢
      unfold Ri at hR
      rw [ri_nats] at hR
      exact walk_ok A k k.length cap lg _ _ _ w (by omega) rfl hR hgd rfl rfl
    · exact walk_bad A l _ cap z w (by omega) rfl hR hg

set_option maxRecDepth 100000 in
theorem lifted (os : Os) (started : os.Started) (H : Type) (enc : TypeId × Value → H) :
    ReturnsInHanded {} Try.checked os 8 .any (Rows.normSharesSpec.pre6 enc Try.prog Try.f8 Rows.normSharesRow.domain false) (Rows.normSharesSpec.post enc Try.prog Try.f8 false true false false) := by
  refine returnsInHanded_of_change_sized (C := Try.checked) ownB started (by kernel_rfl) Try.func8
    (ChangeSpec.witness6 (enc := enc) (C := Try.checked) false ⟨#[], #[.slice none 0 0, .int .i64 0], []⟩ 8 (by kernel_rfl) (by kernel_rfl) (by kernel_rfl) (by kernel_rfl)) ?_
  intro W base args ds gs before hval0 hW _ hsz0 _
  have hsz : (DataW.weightsEach Try.prog (Try.f8.params.toList ++ Rows.normSharesSpec.plain.varTypes Try.prog) (ds ++ gs)).all (· ≤ reachBytes) = true := hsz0
  clear hsz0
  have hval : ∀ (j : Nat) t v, Try.f8.params[j]? = some t → args[j]? = some v → Value.okWide Try.prog W .any base t v := hval0
  have hW' := hW
  obtain ⟨p, q, hA0, hV, rfl, hfz, hnd⟩ := hW
  have hA : DataW.TrodAll enc Try.prog W 0 (fun _ => true) true Try.f8.params.toList args.toList ds p := hA0
  rw [Try.params8] at hA hval hsz
  obtain ⟨v0, vs0, d0, ds0, p0, q0, hargs, rfl, rfl, h0, r0⟩ := trodAll_cons hA
  obtain ⟨v1, vs1, d1, ds1, p1, q1, rfl, rfl, rfl, h1, r1⟩ := trodAll_cons r0
  obtain ⟨rfl, rfl, rfl⟩ := trodAll_nil r1
  obtain rfl : args = #[v0, v1] := by cases args; simp_all
  obtain ⟨rfl, rfl⟩ := trodVars_none hV
  obtain ⟨a0, len0, cap0, rfl⟩ := okWide_slice Try.underlying22 (hval 0 22 v0 rfl rfl)
  have k0 := h0
  have lt0 : ∀ x ∈ p0, x.block < W.heap.size := by obtain ⟨m, hm⟩ := k0; exact DataW.trod_lt m _ _ _ hm
  obtain ⟨l0, rfl, hc0, ri0, wi0⟩ := open_intl h0
  obtain ⟨a1, rfl, rfl, rfl, w1⟩ := open_int Try.underlying3 (hval 1 3 v1 rfl rfl) h1
  clear hA0 hval0
  refine (walk a0 l0 cap0 a1 W ri0 wi0 hc0 w1).mono fun e W' ⟨he, bel⟩ => ?_
  subst he
  exact ⟨_, rfl, _, _, _, [], _, [], hW', trodAll_mk1 (shut_bool Try.underlying4 _), (trodAll_cons_mk (Below.trod laidOut (by kernel_rfl) (of_decide_eq_true (by kernel_rfl)) k0 bel lt0) (trodAll_cons_mk (shut_int Try.underlying3 w1) trodAll_mk0)), rfl, bel.frame _, fun h => by cases h⟩

theorem proved : Rows.NormSharesSaid :=
  OpenClaim.holds_of_wide 8 Try.f8 rfl rfl rfl rfl rfl rfl rfl ⟨rfl, rfl, rfl, rfl, rfl⟩ rfl rfl rfl rfl rfl (by kernel_rfl) Try.func8 (by kernel_rfl)
    (of_decide_eq_true (by kernel_rfl)) (by unfold Func.isWrapper; rw [if_neg (by decide +kernel)]; exact ⟨rfl, rfl⟩)
    (fun os started H enc _ => lifted os started H enc)

#print axioms proved

end Go.Proofs.Ytkojdhmgefggjaa.normShares
