/-
  What Add does: the sums of two valid histograms in new memory, or the error. Nothing that was there has changed. No condition.
-/
import Derived.Test.YtdlhfcapfbbjjaaPls
namespace Go.Proofs.Ytdlhfcapfbbjjaa
open Go.RowKit

/-- The two answers of a sum. -/
def PlsV (k m : List Nat) (N : Nat) (w : World) (V : Value) (E : Int) (w' : World) : Prop :=
  (ok (psum k m) = true ∧ E = 0 ∧ ∃ A' c', V = .slice A' N c' ∧ N ≤ c' ∧ w'.ownsRow w.heap.size 3 1 (.slice A' N c') N ((padd k m).map nv)) ∨
  (ok (psum k m) = false ∧ V = .slice none 0 0 ∧ E = 2)

theorem pls_v {k m : List Nat} {N : Nat} {w : World} {e : Ending} {w' : World} (h : PlsR k m N w e w') : ∃ V E, e = .returned (.tuple #[V, .int .i64 E]) ∧ PlsV k m N w V E w' := by
  rcases h with ⟨h1, A', c', rfl, h2, h3⟩ | ⟨h1, rfl⟩
  · exact ⟨_, _, rfl, .inl ⟨h1, rfl, A', c', rfl, h2, h3⟩⟩
  · exact ⟨_, _, rfl, .inr ⟨h1, rfl, rfl⟩⟩
theorem pls_mono {k m : List Nat} {N : Nat} {w w1 : World} {V : Value} {E : Int} {w' : World} (h : PlsV k m N w1 V E w') (hw : w.heap.size ≤ w1.heap.size) : PlsV k m N w V E w' := by
  rcases h with ⟨h1, h2, A', c', h3, h4, h5⟩ | h
  · exact .inl ⟨h1, h2, A', c', h3, h4, own_mono h5 hw⟩
  · exact .inr h

theorem plus_v (w : World) (A : Option Addr) (k : List Nat) (N c T G : Nat) (hk : k.length = N) (hv : Vld k) (A2 : Option Addr) (m : List Nat) (M c2 T2 G2 : Nat) (hm : m.length = M) (hv2 : Vld m) (hMN : M ≤ N) (hR : Rn w A k) (hR2 : Rn w A2 m) :
    Calls Try.prog 45 #[.agg #[.slice A N c, .int .i64 (T : Int), .int .i64 (G : Int)], hst A2 M c2 T2 G2] w fun e w' => ∃ V E, e = .returned (.tuple #[V, .int .i64 E]) ∧ PlsV k m N w V E w' ∧ Below w.heap.size w w' :=
  (callsIn_wide.1 (plus_in 6 (Nat.le_refl _) A k N c T G hk hv A2 m M c2 T2 G2 hm hv2 hMN w hR hR2)).mono fun e w' h => by
    obtain ⟨V, E, h1, h2⟩ := pls_v h.1
    exact ⟨V, E, h1, h2, h.2⟩

set_option maxRecDepth 100000 in
set_option maxHeartbeats 1000000 in
theorem access2_no (w : World) (A : Option Addr) (l : List Int) (N c gf : Nat) (lb : Array Value) (hN : l.length = N) (hR : Ri w A l) (hok : ok l = false) :
    Calls Try.prog 42 #[.slice A N c, .func (.func gf) #[] lb] w fun e w' => e = .returned (.tuple #[.slice none 0 0, .int .i64 2]) ∧ w' = w := by
  have HC := Lib.hid (check_any w A l N c hN hR)
  rw [hok] at HC
  simp only [Bool.false_eq_true, if_false] at HC
  clear hN hR
  go_enter Try.func42, Try.ntmps42
  go_wp2
  refine wp_scope_fwd 0 rfl ?_
  go_wp2_with (go_at_call 20; refine HC.out.mono ?_; rintro e w' ⟨rfl, rfl⟩)
  go_step3
  refine And.intro rfl ?_
  go_wp2
  rw [Exit.noGoto_ret]
  go_ret2
  exact ⟨rfl, rfl⟩

set_option maxRecDepth 100000 in
set_option maxHeartbeats 1000000 in
theorem add11 (w : World) (A : Option Addr) (k : List Nat) (N c T G : Nat) (hk : k.length = N) (hv : Vld k) (A2 : Option Addr) (m : List Nat) (M c2 T2 G2 : Nat) (hm : m.length = M) (hv2 : Vld m) (hMN : M ≤ N) (hR : Rn w A k) (hR2 : Rn w A2 m) (bl : Nat) (hb : Hb w bl A N c T G) :
    Calls Try.prog 44 #[hst A2 M c2 T2 G2, .pointer (some ⟨bl, 0, none⟩)] w fun e w' => ∃ V E, e = .returned (.tuple #[V, .int .i64 E]) ∧ PlsV k m N w V E w' ∧ Below w.heap.size w w' := by
  have B1 : Hid (Below w.heap.size w (w.alloc (.cells #[.slice A2 M c2, nv T2, nv G2] 62))) := Lib.hid ((Below.refl _ w).alloc (Nat.le_refl _) _)
  have HM := Lib.hid (plus_v _ A k N c T G hk hv A2 m M c2 T2 G2 hm hv2 hMN (hR.below B1.out) (hR2.below B1.out))
  have q := hb.same (B1.out.block _ hb.lt)
  have c0 := q.c0
  have c1 := q.c1
  have c2' := q.c2
  clear hk hv hm hv2 hR hR2 q
  go_enter Try.func44, Try.ntmps44
  go_wp2_with (go_at_call 45; refine HM.out.mono ?_; rintro e w1 ⟨V, E, rfl, hp, hb1⟩; have B2 := Lib.hid (below_on B1.out (Nat.le_refl _) hb1); have P2 := Lib.hid (pls_mono hp B1.out.size); clear hb1 hp)
  go_ret2
  exact ⟨V, E, rfl, P2.out, B2.out⟩

set_option maxRecDepth 100000 in
set_option maxHeartbeats 1000000 in
theorem acc2_in (w : World) (A : Option Addr) (k : List Nat) (N c T G : Nat) (hk : k.length = N) (hv : Vld k) (A2 : Option Addr) (m : List Nat) (M c2 : Nat) (hm : m.length = M) (hMc : M ≤ c2) (hv2 : Vld m) (hMN : M ≤ N) (hR : Rn w A k) (hR2 : Rn w A2 m) (bl : Nat) (hb : Hb w bl A N c T G) :
    Calls Try.prog 42 #[.slice A2 M c2, .func (.func 44) #[] #[.pointer (some ⟨bl, 0, none⟩)]] w fun e w' => ∃ V E, e = .returned (.tuple #[V, .int .i64 E]) ∧ PlsV k m N w V E w' ∧ Below w.heap.size w w' := by
  have HC := Lib.hid (check_any w A2 (m.map (fun n : Nat => (n : Int))) M c2 (by rw [List.length_map]; exact hm) (by show Rv _ _ _; rw [ri_nats]; exact hR2))
  rw [ok_of_vld hv2] at HC
  simp only [if_true] at HC
  have HI := Lib.hid (callsIn_wide.1 (inspect_in 6 (Nat.le_refl _) A2 m M c2 hm hMc hv2 w hR2))
  have HG : Hid (∀ w1, Below w.heap.size w w1 → _) := Lib.hid (fun w1 hb1 => add11 w1 A k N c T G hk hv A2 m M M (tot m) (gre m) hm hv2 hMN (hR.below hb1) (hR2.below hb1) bl (hb.same (hb1.block _ hb.lt)))
  clear hk hv hm hv2 hR hR2 hb
  go_enter Try.func42, Try.ntmps42
  go_wp2
  refine wp_scope_fwd 0 rfl ?_
  go_wp2_with (first
    | (go_at_call 20; refine HC.out.mono ?_; rintro e w' ⟨rfl, rfl⟩)
    | (go_at_call 54; refine HI.out.mono ?_; rintro e w1 ⟨rfl, hb1⟩; have B1 := Lib.hid hb1; clear hb1)
    | (go_at_call 44; refine (HG.out _ B1.out).mono ?_; rintro e w2 ⟨V, E, rfl, hp, hb2⟩; have B2 := Lib.hid (below_on B1.out (Nat.le_refl _) hb2); have P2 := Lib.hid (pls_mono hp B1.out.size); clear hb2 hp))
  rw [jump_ret]
  go_ret2
  exact ⟨V, E, rfl, P2.out, B2.out⟩


set_option maxRecDepth 100000 in
set_option maxHeartbeats 1000000 in
theorem add1_yes (w : World) (A : Option Addr) (k : List Nat) (N : Nat) (hk : k.length = N) (hv : Vld k) (A2 : Option Addr) (m : List Nat) (M c2 : Nat) (hm : m.length = M) (hMc : M ≤ c2) (hv2 : Vld m) (hMN : M ≤ N) (hR : Rn w A k) (hR2 : Rn w A2 m) (bb : Nat) (hb : Boxed w bb 26 (.slice A2 M c2)) :
    Calls Try.prog 43 #[hst A N N (tot k) (gre k), .pointer (some ⟨bb, 0, none⟩)] w fun e w' => ∃ V E, e = .returned (.tuple #[V, .int .i64 E]) ∧ PlsV k m N w V E w' ∧ Below w.heap.size w w' := by
  have B1 : Hid (Below w.heap.size w (w.alloc (.cells #[.slice A N N, nv (tot k), nv (gre k)] 62))) := Lib.hid ((Below.refl _ w).alloc (Nat.le_refl _) _)
  have HM := Lib.hid (acc2_in _ A k N N (tot k) (gre k) hk hv A2 m M c2 hm hMc hv2 hMN (hR.below B1.out) (hR2.below B1.out) w.heap.size (Hb.new w A N N (tot k) (gre k)))
  have c0 := (hb.alloc (.cells #[.slice A N N, nv (tot k), nv (gre k)] 62)).cell
  clear hk hv hm hv2 hR hR2
  go_enter Try.func43, Try.ntmps43
  go_wp2_with (go_at_call 42; refine HM.out.mono ?_; rintro e w2 ⟨V, E, rfl, hp, hb2⟩; have P2 := Lib.hid (pls_mono hp B1.out.size); clear hp; have B2 := Lib.hid (below_on B1.out (Nat.le_refl _) hb2); clear hb2)
  go_ret2
  exact ⟨V, E, rfl, P2.out, B2.out⟩

set_option maxRecDepth 100000 in
set_option maxHeartbeats 1000000 in
theorem acc2_yes (w : World) (A : Option Addr) (k : List Nat) (N c : Nat) (hk : k.length = N) (hNc : N ≤ c) (hv : Vld k) (A2 : Option Addr) (m : List Nat) (M c2 : Nat) (hm : m.length = M) (hMc : M ≤ c2) (hv2 : Vld m) (hMN : M ≤ N) (hR : Rn w A k) (hR2 : Rn w A2 m) (bb : Nat) (hb : Boxed w bb 26 (.slice A2 M c2)) :
    Calls Try.prog 42 #[.slice A N c, .func (.func 43) #[] #[.pointer (some ⟨bb, 0, none⟩)]] w fun e w' => ∃ V E, e = .returned (.tuple #[V, .int .i64 E]) ∧ PlsV k m N w V E w' ∧ Below w.heap.size w w' := by
  have HC := Lib.hid (check_any w A (k.map (fun n : Nat => (n : Int))) N c (by rw [List.length_map]; exact hk) (by show Rv _ _ _; rw [ri_nats]; exact hR))
  rw [ok_of_vld hv] at HC
  simp only [if_true] at HC
  have HI := Lib.hid (callsIn_wide.1 (inspect_in 6 (Nat.le_refl _) A k N c hk hNc hv w hR))
  have HG : Hid (∀ w1, Below w.heap.size w w1 → _) := Lib.hid (fun w1 hb1 => add1_yes w1 A k N hk hv A2 m M c2 hm hMc hv2 hMN (hR.below hb1) (hR2.below hb1) bb ((hb1.block _ hb.lt).trans hb))
  clear hk hv hm hv2 hR hR2 hb
  go_enter Try.func42, Try.ntmps42
  go_wp2
  refine wp_scope_fwd 0 rfl ?_
  go_wp2_with (first
    | (go_at_call 20; refine HC.out.mono ?_; rintro e w' ⟨rfl, rfl⟩)
    | (go_at_call 54; refine HI.out.mono ?_; rintro e w1 ⟨rfl, hb1⟩; have B1 := Lib.hid hb1; clear hb1)
    | (go_at_call 43; refine (HG.out _ B1.out).mono ?_; rintro e w2 ⟨V, E, rfl, hp, hb2⟩; have P2 := Lib.hid (pls_mono hp B1.out.size); clear hp; have B2 := Lib.hid (below_on B1.out (Nat.le_refl _) hb2); clear hb2))
  rw [jump_ret]
  go_ret2
  exact ⟨V, E, rfl, P2.out, B2.out⟩


set_option maxRecDepth 100000 in
set_option maxHeartbeats 1000000 in
theorem add1_no (w : World) (A : Option Addr) (k : List Nat) (N : Nat)  (A2 : Option Addr) (m : List Int) (M c2 : Nat) (hm : m.length = M) (hv2 : ok m = false) (hR2 : Ri w A2 m) (bb : Nat) (hb : Boxed w bb 26 (.slice A2 M c2)) :
    Calls Try.prog 43 #[hst A N N (tot k) (gre k), .pointer (some ⟨bb, 0, none⟩)] w fun e w' => e = .returned (.tuple #[.slice none 0 0, .int .i64 2]) ∧ Below w.heap.size w w' := by
  have B1 : Hid (Below w.heap.size w (w.alloc (.cells #[.slice A N N, nv (tot k), nv (gre k)] 62))) := Lib.hid ((Below.refl _ w).alloc (Nat.le_refl _) _)
  have HM := Lib.hid (access2_no _ A2 m M c2 44 #[.pointer (some ⟨w.heap.size, 0, none⟩)] hm (hR2.below B1.out) hv2)
  have c0 := (hb.alloc (.cells #[.slice A N N, nv (tot k), nv (gre k)] 62)).cell
  clear  hm hv2 hR2
  go_enter Try.func43, Try.ntmps43
  go_wp2_with (go_at_call 42; refine HM.out.mono ?_; rintro e w2 ⟨rfl, hw2⟩; have hb2 := Below.refl w2.heap.size w2; rw [hw2] at hb2; have B2 := Lib.hid (below_on B1.out (Nat.le_refl _) hb2); clear hb2)
  go_ret2
  exact ⟨rfl, B2.out⟩

set_option maxRecDepth 100000 in
set_option maxHeartbeats 1000000 in
theorem acc2_no (w : World) (A : Option Addr) (k : List Nat) (N c : Nat) (hk : k.length = N) (hNc : N ≤ c) (hv : Vld k) (A2 : Option Addr) (m : List Int) (M c2 : Nat) (hm : m.length = M) (hv2 : ok m = false) (hR : Rn w A k) (hR2 : Ri w A2 m) (bb : Nat) (hb : Boxed w bb 26 (.slice A2 M c2)) :
    Calls Try.prog 42 #[.slice A N c, .func (.func 43) #[] #[.pointer (some ⟨bb, 0, none⟩)]] w fun e w' => e = .returned (.tuple #[.slice none 0 0, .int .i64 2]) ∧ Below w.heap.size w w' := by
  have HC := Lib.hid (check_any w A (k.map (fun n : Nat => (n : Int))) N c (by rw [List.length_map]; exact hk) (by show Rv _ _ _; rw [ri_nats]; exact hR))
  rw [ok_of_vld hv] at HC
  simp only [if_true] at HC
  have HI := Lib.hid (callsIn_wide.1 (inspect_in 6 (Nat.le_refl _) A k N c hk hNc hv w hR))
  have HG : Hid (∀ w1, Below w.heap.size w w1 → _) := Lib.hid (fun w1 hb1 => add1_no w1 A k N A2 m M c2 hm hv2 (hR2.below hb1) bb ((hb1.block _ hb.lt).trans hb))
  clear hk hv hm hv2 hR hR2 hb
  go_enter Try.func42, Try.ntmps42
  go_wp2
  refine wp_scope_fwd 0 rfl ?_
  go_wp2_with (first
    | (go_at_call 20; refine HC.out.mono ?_; rintro e w' ⟨rfl, rfl⟩)
    | (go_at_call 54; refine HI.out.mono ?_; rintro e w1 ⟨rfl, hb1⟩; have B1 := Lib.hid hb1; clear hb1)
    | (go_at_call 43; refine (HG.out _ B1.out).mono ?_; rintro e w2 ⟨rfl, hb2⟩; have B2 := Lib.hid (below_on B1.out (Nat.le_refl _) hb2); clear hb2))
  rw [jump_ret]
  go_ret2
  exact ⟨rfl, B2.out⟩


set_option maxRecDepth 100000 in
set_option maxHeartbeats 1000000 in
theorem add_yes (w : World) (A : Option Addr) (k : List Nat) (N c : Nat) (hk : k.length = N) (hNc : N ≤ c) (hv : Vld k) (A2 : Option Addr) (m : List Nat) (M c2 : Nat) (hm : m.length = M) (hMc : M ≤ c2) (hv2 : Vld m) (hMN : M ≤ N) (hR : Rn w A k) (hR2 : Rn w A2 m) :
    Calls Try.prog 28 #[.slice A N c, .slice A2 M c2] w fun e w' => ∃ V E, e = .returned (.tuple #[V, .int .i64 E]) ∧ PlsV k m N w V E w' ∧ Below w.heap.size w w' := by
  obtain ⟨W0, hW0⟩ : ∃ W0, w.alloc (.cells #[.slice A2 M c2] 26) = W0 := ⟨_, rfl⟩
  have b0 : Boxed W0 w.heap.size 26 (.slice A2 M c2) := by rw [← hW0]; exact Boxed.new w _ _
  have g0 : Below w.heap.size w W0 := by rw [← hW0]; exact (Below.refl _ w).alloc (Nat.le_refl _) _
  have cc := b0.cell
  have B1 : Hid (Below w.heap.size w W0) := Lib.hid g0
  have HM := Lib.hid (acc2_yes W0 A k N c hk hNc hv A2 m M c2 hm hMc hv2 (by omega) (hR.below g0) (hR2.below g0) w.heap.size b0)
  clear hk hv hm hv2 hR hR2 b0 g0
  go_enter Try.func28, Try.ntmps28
  go_wp2_with (go_at_call 42; refine HM.out.mono ?_; rintro e w2 ⟨V, E, rfl, hp, hb2⟩; have P2 := Lib.hid (pls_mono hp B1.out.size); clear hp; have B2 := Lib.hid (below_on B1.out (Nat.le_refl _) hb2); clear hb2)
  go_ret2
  exact ⟨V, E, rfl, P2.out, B2.out⟩


set_option maxRecDepth 100000 in
set_option maxHeartbeats 1000000 in
theorem add_yes_s (w : World) (A : Option Addr) (k : List Nat) (N c : Nat) (hk : k.length = N) (hNc : N ≤ c) (hv : Vld k) (A2 : Option Addr) (m : List Nat) (M c2 : Nat) (hm : m.length = M) (hMc : M ≤ c2) (hv2 : Vld m) (hMN : M < N) (hR : Rn w A k) (hR2 : Rn w A2 m) :
    Calls Try.prog 28 #[.slice A2 M c2, .slice A N c] w fun e w' => ∃ V E, e = .returned (.tuple #[V, .int .i64 E]) ∧ PlsV k m N w V E w' ∧ Below w.heap.size w w' := by
  have b00 := Boxed.new w 26 (.slice A N c)
  have cc := b00.cell
  have ff := b00.frozen
  obtain ⟨W0, hW0⟩ : ∃ W0, (w.alloc (.cells #[.slice A N c] 26)).setCell ⟨w.heap.size, 0, none⟩ (.slice A2 M c2) = W0 := ⟨_, rfl⟩
  have b0 : Boxed W0 w.heap.size 26 (.slice A2 M c2) := by rw [← hW0]; exact b00.set _
  have g0 : Below w.heap.size w W0 := by rw [← hW0]; exact ((Below.refl _ w).alloc (Nat.le_refl _) _).setCell (p := ⟨w.heap.size, 0, none⟩) (Nat.le_refl _) _
  have B1 : Hid (Below w.heap.size w W0) := Lib.hid g0
  have HM := Lib.hid (acc2_yes W0 A k N c hk hNc hv A2 m M c2 hm hMc hv2 (by omega) (hR.below g0) (hR2.below g0) w.heap.size b0)
  clear hk hv hm hv2 hR hR2 b0 g0
  go_enter Try.func28, Try.ntmps28
  go_wp2_with (go_at_call 42; refine HM.out.mono ?_; rintro e w2 ⟨V, E, rfl, hp, hb2⟩; have P2 := Lib.hid (pls_mono hp B1.out.size); clear hp; have B2 := Lib.hid (below_on B1.out (Nat.le_refl _) hb2); clear hb2)
  go_ret2
  exact ⟨V, E, rfl, P2.out, B2.out⟩


set_option maxRecDepth 100000 in
set_option maxHeartbeats 1000000 in
theorem add_no2 (w : World) (A : Option Addr) (k : List Nat) (N c : Nat) (hk : k.length = N) (hNc : N ≤ c) (hv : Vld k) (A2 : Option Addr) (m : List Int) (M c2 : Nat) (hm : m.length = M) (hv2 : ok m = false) (hMN : M ≤ N) (hR : Rn w A k) (hR2 : Ri w A2 m) :
    Calls Try.prog 28 #[.slice A N c, .slice A2 M c2] w fun e w' => e = .returned (.tuple #[.slice none 0 0, .int .i64 2]) ∧ Below w.heap.size w w' := by
  obtain ⟨W0, hW0⟩ : ∃ W0, w.alloc (.cells #[.slice A2 M c2] 26) = W0 := ⟨_, rfl⟩
  have b0 : Boxed W0 w.heap.size 26 (.slice A2 M c2) := by rw [← hW0]; exact Boxed.new w _ _
  have g0 : Below w.heap.size w W0 := by rw [← hW0]; exact (Below.refl _ w).alloc (Nat.le_refl _) _
  have cc := b0.cell
  have B1 : Hid (Below w.heap.size w W0) := Lib.hid g0
  have HM := Lib.hid (acc2_no W0 A k N c hk hNc hv A2 m M c2 hm hv2 (hR.below g0) (hR2.below g0) w.heap.size b0)
  clear hk hv hm hv2 hR hR2 b0 g0
  go_enter Try.func28, Try.ntmps28
  go_wp2_with (go_at_call 42; refine HM.out.mono ?_; rintro e w2 ⟨rfl, hb2⟩; have B2 := Lib.hid (below_on B1.out (Nat.le_refl _) hb2); clear hb2)
  go_ret2
  exact ⟨rfl, B2.out⟩


set_option maxRecDepth 100000 in
set_option maxHeartbeats 1000000 in
theorem add_no2_s (w : World) (A : Option Addr) (k : List Nat) (N c : Nat) (hk : k.length = N) (hNc : N ≤ c) (hv : Vld k) (A2 : Option Addr) (m : List Int) (M c2 : Nat) (hm : m.length = M) (hv2 : ok m = false) (hMN : M < N) (hR : Rn w A k) (hR2 : Ri w A2 m) :
    Calls Try.prog 28 #[.slice A2 M c2, .slice A N c] w fun e w' => e = .returned (.tuple #[.slice none 0 0, .int .i64 2]) ∧ Below w.heap.size w w' := by
  have b00 := Boxed.new w 26 (.slice A N c)
  have cc := b00.cell
  have ff := b00.frozen
  obtain ⟨W0, hW0⟩ : ∃ W0, (w.alloc (.cells #[.slice A N c] 26)).setCell ⟨w.heap.size, 0, none⟩ (.slice A2 M c2) = W0 := ⟨_, rfl⟩
  have b0 : Boxed W0 w.heap.size 26 (.slice A2 M c2) := by rw [← hW0]; exact b00.set _
  have g0 : Below w.heap.size w W0 := by rw [← hW0]; exact ((Below.refl _ w).alloc (Nat.le_refl _) _).setCell (p := ⟨w.heap.size, 0, none⟩) (Nat.le_refl _) _
  have B1 : Hid (Below w.heap.size w W0) := Lib.hid g0
  have HM := Lib.hid (acc2_no W0 A k N c hk hNc hv A2 m M c2 hm hv2 (hR.below g0) (hR2.below g0) w.heap.size b0)
  clear hk hv hm hv2 hR hR2 b0 g0
  go_enter Try.func28, Try.ntmps28
  go_wp2_with (go_at_call 42; refine HM.out.mono ?_; rintro e w2 ⟨rfl, hb2⟩; have B2 := Lib.hid (below_on B1.out (Nat.le_refl _) hb2); clear hb2)
  go_ret2
  exact ⟨rfl, B2.out⟩


set_option maxRecDepth 100000 in
set_option maxHeartbeats 1000000 in
theorem add_no1 (w : World) (A : Option Addr) (k : List Int) (N c : Nat) (hk : k.length = N) (hv : ok k = false) (A2 : Option Addr) (M c2 : Nat) (hMN : M ≤ N) (hR : Ri w A k) :
    Calls Try.prog 28 #[.slice A N c, .slice A2 M c2] w fun e w' => e = .returned (.tuple #[.slice none 0 0, .int .i64 2]) ∧ Below w.heap.size w w' := by
  obtain ⟨W0, hW0⟩ : ∃ W0, w.alloc (.cells #[.slice A2 M c2] 26) = W0 := ⟨_, rfl⟩
  have b0 : Boxed W0 w.heap.size 26 (.slice A2 M c2) := by rw [← hW0]; exact Boxed.new w _ _
  have g0 : Below w.heap.size w W0 := by rw [← hW0]; exact (Below.refl _ w).alloc (Nat.le_refl _) _
  have cc := b0.cell
  have B1 : Hid (Below w.heap.size w W0) := Lib.hid g0
  have HM := Lib.hid (access2_no W0 A k N c 43 #[.pointer (some ⟨w.heap.size, 0, none⟩)] hk (hR.below g0) hv)
  clear hk hv hR b0 g0
  go_enter Try.func28, Try.ntmps28
  go_wp2_with (go_at_call 42; refine HM.out.mono ?_; rintro e w2 ⟨rfl, hw2⟩; have hb2 := Below.refl w2.heap.size w2; rw [hw2] at hb2; have B2 := Lib.hid (below_on B1.out (Nat.le_refl _) hb2); clear hb2)
  go_ret2
  exact ⟨rfl, B2.out⟩


set_option maxRecDepth 100000 in
set_option maxHeartbeats 1000000 in
theorem add_no1_s (w : World) (A : Option Addr) (k : List Int) (N c : Nat) (hk : k.length = N) (hv : ok k = false) (A2 : Option Addr) (M c2 : Nat) (hMN : M < N) (hR : Ri w A k) :
    Calls Try.prog 28 #[.slice A2 M c2, .slice A N c] w fun e w' => e = .returned (.tuple #[.slice none 0 0, .int .i64 2]) ∧ Below w.heap.size w w' := by
  have b00 := Boxed.new w 26 (.slice A N c)
  have cc := b00.cell
  have ff := b00.frozen
  obtain ⟨W0, hW0⟩ : ∃ W0, (w.alloc (.cells #[.slice A N c] 26)).setCell ⟨w.heap.size, 0, none⟩ (.slice A2 M c2) = W0 := ⟨_, rfl⟩
  have b0 : Boxed W0 w.heap.size 26 (.slice A2 M c2) := by rw [← hW0]; exact b00.set _
  have g0 : Below w.heap.size w W0 := by rw [← hW0]; exact ((Below.refl _ w).alloc (Nat.le_refl _) _).setCell (p := ⟨w.heap.size, 0, none⟩) (Nat.le_refl _) _
  have B1 : Hid (Below w.heap.size w W0) := Lib.hid g0
  have HM := Lib.hid (access2_no W0 A k N c 43 #[.pointer (some ⟨w.heap.size, 0, none⟩)] hk (hR.below g0) hv)
  clear hk hv hR b0 g0
  go_enter Try.func28, Try.ntmps28
  go_wp2_with (go_at_call 42; refine HM.out.mono ?_; rintro e w2 ⟨rfl, hw2⟩; have hb2 := Below.refl w2.heap.size w2; rw [hw2] at hb2; have B2 := Lib.hid (below_on B1.out (Nat.le_refl _) hb2); clear hb2)
  go_ret2
  exact ⟨rfl, B2.out⟩

end Go.Proofs.Ytdlhfcapfbbjjaa
