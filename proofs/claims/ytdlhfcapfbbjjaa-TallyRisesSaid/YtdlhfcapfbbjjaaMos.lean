/-
  What histogram.mostFrequent does: it returns the first symbol with the greatest count, or the error. Nothing that was there has changed. Condition: the counts are valid, the histogram is theirs.
-/
import Derived.Test.YtdlhfcapfbbjjaaDis
import Derived.Test.YtdlhfcapfbbjjaaRnd
namespace Go.Proofs.Ytdlhfcapfbbjjaa
open Go.RowKit Go.Shelf

attribute [local go_sem] Oper.semAt_some

/-- The first used symbol with count G, and the error. -/
def mfv (k : List Nat) (G : Nat) : Nat := match (usd 0 k).find? (fun p => p.2 == G) with | some p => p.1 | none => 0
def mfe (k : List Nat) (G : Nat) : Int := match (usd 0 k).find? (fun p => p.2 == G) with | some _ => 0 | none => 22

theorem mf_some {k : List Nat} {G j : Nat} (hj : j < (usd 0 k).length) (hc : cnt k j = G) (hb : ∀ i, i < j → cnt k i ≠ G) : mfv k G = sym k j ∧ mfe k G = 0 := by
  have e := (usd_at hj).1
  have : (usd 0 k).find? (fun p => p.2 == G) = some (sym k j, cnt k j) := by
    rw [List.find?_eq_some_iff_getElem]
    refine ⟨by simp [hc], j, hj, ?_, fun i hi => ?_⟩
    · rw [List.getElem?_eq_getElem hj] at e
      exact Option.some.inj e
    · have hi2 : i < (usd 0 k).length := by omega
      have e2 := (usd_at hi2).1
      rw [List.getElem?_eq_getElem hi2] at e2
      rw [Option.some.inj e2]
      simp [hb i hi]
  unfold mfv mfe
  rw [this]
  exact ⟨rfl, rfl⟩
theorem mf_none {k : List Nat} {G : Nat} (hb : ∀ i, i < (usd 0 k).length → cnt k i ≠ G) : mfv k G = 0 ∧ mfe k G = 22 := by
  have : (usd 0 k).find? (fun p => p.2 == G) = none := by
    rw [List.find?_eq_none]
    intro p hp
    obtain ⟨i, hi, rfl⟩ := List.getElem_of_mem hp
    have e2 := (usd_at hi).1
    rw [List.getElem?_eq_getElem hi] at e2
    rw [Option.some.inj e2]
    simp [hb i hi]
  unfold mfv mfe
  rw [this]
  exact ⟨rfl, rfl⟩

def MfP (b G : Nat) (k : List Nat) (j : Nat) (W : World) : Prop := Boxed W (b + 1) 3 (.int .i64 0) ∧ Boxed W (b + 1 + 1) 35 (.int .i64 22) ∧ ∀ i, i < j → cnt k i ≠ G
def MfX (b G : Nat) (k : List Nat) (c : Code) (W : World) : Prop := c = .exit 0 ∧ Boxed W (b + 1) 3 (nv (mfv k G)) ∧ Boxed W (b + 1 + 1) 35 (.int .i64 (mfe k G))

set_option maxRecDepth 100000 in
set_option maxHeartbeats 1000000 in
theorem most_in (n : Nat) (hn : 6 ≤ n) (A : Option Addr) (k : List Nat) (N c T G : Nat) (hk : k.length = N) (hv : Vld k) (w : World) (hR : Rn w A k) :
    CallsIn Fence.wide n Try.prog 41 #[hst A N c T G] w fun e w' => e = .returned (.tuple #[nv (mfv k G), .int .i64 (mfe k G)]) ∧ Below w.heap.size w w' := by
  refine callsIn_of_wp_marks Try.func41 rfl trivial ?_ rfl
  simp only [Try.ntmps41, List.size_toArray, List.length_cons, List.length_nil, Nat.reduceAdd, Nat.reduceSub, Array.replicate_succ, Array.replicate_zero, List.push_toArray, List.append_toArray, List.nil_append, List.cons_append]
  have hfw : ∀ f, Fence.wide.fn f := fun _ => trivial
  have h1 : 1 ≤ n := by omega
  have hmx : Try.prog.follows .mixedOrders = true := by kernel_rfl
  gi_wp2
  refine wpIn_wide.2 (wp_scope_straight (wpIn_wide (n := n).1 ?_))
  gi_wp2
  refine wpIn_wide.2 (wp_label ?_)
  gi_wp2_with (gi_at_call 55; refine (used_in (n - 1) _ _ _ _).mono ?_; rintro e w' ⟨rfl, rfl⟩)
  have b0 : Hb ((((w.alloc (.cells #[.slice A N c, nv T, nv G] 62)).alloc (.cells #[.int .i64 0] 3)).alloc (.cells #[.int .i64 22] 35)).alloc (.cells #[.slice A N c] 60)) w.heap.size A N c T G :=
    (((Hb.new w A N c T G).same (Below.heap_alloc _ _ _ (by simp))).same (Below.heap_alloc _ _ _ (by simp; omega))).same (Below.heap_alloc _ _ _ (by simp; omega))
  have b1 : Boxed ((((w.alloc (.cells #[.slice A N c, nv T, nv G] 62)).alloc (.cells #[.int .i64 0] 3)).alloc (.cells #[.int .i64 22] 35)).alloc (.cells #[.slice A N c] 60)) (w.heap.size + 1) 3 (.int .i64 0) := by
    have := ((Boxed.new (w.alloc (.cells #[.slice A N c, nv T, nv G] 62)) 3 (.int .i64 0)).alloc (.cells #[.int .i64 22] 35)).alloc (.cells #[.slice A N c] 60)
    rwa [World.size_alloc] at this
  have b2 : Boxed ((((w.alloc (.cells #[.slice A N c, nv T, nv G] 62)).alloc (.cells #[.int .i64 0] 3)).alloc (.cells #[.int .i64 22] 35)).alloc (.cells #[.slice A N c] 60)) (w.heap.size + 1 + 1) 35 (.int .i64 22) := by
    have := (Boxed.new ((w.alloc (.cells #[.slice A N c, nv T, nv G] 62)).alloc (.cells #[.int .i64 0] 3)) 35 (.int .i64 22)).alloc (.cells #[.slice A N c] 60)
    rwa [World.size_alloc, World.size_alloc] at this
  have b3 : Boxed ((((w.alloc (.cells #[.slice A N c, nv T, nv G] 62)).alloc (.cells #[.int .i64 0] 3)).alloc (.cells #[.int .i64 22] 35)).alloc (.cells #[.slice A N c] 60)) (w.heap.size + 1 + 1 + 1) 60 (.slice A N c) := by
    have := Boxed.new (((w.alloc (.cells #[.slice A N c, nv T, nv G] 62)).alloc (.cells #[.int .i64 0] 3)).alloc (.cells #[.int .i64 22] 35)) 60 (.slice A N c)
    rwa [World.size_alloc, World.size_alloc, World.size_alloc] at this
  have g1 : Below w.heap.size w ((((w.alloc (.cells #[.slice A N c, nv T, nv G] 62)).alloc (.cells #[.int .i64 0] 3)).alloc (.cells #[.int .i64 22] 35)).alloc (.cells #[.slice A N c] 60)) :=
    ((((Below.refl _ w).alloc (Nat.le_refl _) _).alloc (by simp) _).alloc (by simp; omega) _).alloc (by simp; omega) _
  generalize (((w.alloc (.cells #[.slice A N c, nv T, nv G] 62)).alloc (.cells #[.int .i64 0] 3)).alloc (.cells #[.int .i64 22] 35)).alloc (.cells #[.slice A N c] 60) = W1 at b0 b1 b2 b3 g1 ⊢
  have lt3 := b3.lt
  have new : ∀ W, Chg (fun x => x = w.heap.size + 1 ∨ x = w.heap.size + 1 + 1) W1 W → Below w.heap.size w W := fun W hc => g1.trans (hc.new (by omega) (fun k (e : _ ∨ _) => by omega))
  refine range_s rfl h1 (gf := 61) (lb := #[.pointer (some ⟨w.heap.size + 1 + 1 + 1, 0, none⟩)]) rfl trivial (enters_of Try.func61 (by kernel_rfl) rfl)
    (N := (usd 0 k).length) (enc := symAt k) (Kp := KpU A k N c (w.heap.size + 1 + 1 + 1)) (fun _ => rfl) (used1_hands (n - 1) (by omega) A k N c _ hk (by have := hv.1; omega) hv)
    (fun x => x = w.heap.size + 1 ∨ x = w.heap.size + 1 + 1) (fun (e : _ ∨ _) => by omega) (fun (e : _ ∨ _) => by omega) (MfP w.heap.size G k) (MfX w.heap.size G k)
    (fun j W W' hal hp => ⟨(hal _ (by omega) (by omega)).trans hp.1, (hal _ (by omega) (by omega)).trans hp.2.1, hp.2.2⟩) (fun j W W' hal hp => ⟨hp.1, (hal _ (by omega) (by omega)).trans hp.2.1, (hal _ (by omega) (by omega)).trans hp.2.2⟩)
    (fun j W hc _ => ⟨boxed_chg b3 hc (fun (e : _ ∨ _) => by omega), hR.below (new W hc)⟩) ⟨b1, b2, fun i hi => by omega⟩
    (fun j => { tmps := #[hst A N c T G, Value.pointer (some ⟨w.heap.size, 0, none⟩), Value.int .i64 0, Value.int .i64 0, Value.pointer (some ⟨w.heap.size + 1, 0, none⟩), Value.pointer (some ⟨w.heap.size + 1 + 1, 0, none⟩), nv (sym k j), nv (cnt k j), Value.pointer (some ⟨w.heap.size, 0, none⟩), Value.slice A N c,
          Value.func (Fn.func 61) #[] #[Value.pointer (some ⟨w.heap.size + 1 + 1 + 1, 0, none⟩)], nv (sym k j), nv (cnt k j),
          undef, undef, undef, undef, undef, undef, undef], defers := [] }) ?assign ?body ?done ?stop
  case assign =>
    intro l' j W2 K _ hK
    simp only [symAt]
    gi_wp2
    exact hK
  case body =>
    intro l' j W2 hj hg2 hs2 hp2
    have hd : 1 ≤ n - 1 - 1 := by omega
    have c2 := (b0.same (hg2.block _ (by omega) (fun (e : _ ∨ _) => by omega))).c2
    obtain ⟨hp1, hp3, hp4⟩ := hp2
    have d1 := hp1.cell
    have f1 := hp1.frozen
    have HX : Hid (cnt k j = G → mfv k G = sym k j ∧ mfe k G = 0) := Lib.hid (fun h => mf_some hj h hp4)
    obtain ⟨x, hxe⟩ : ∃ x, cnt k j = x := ⟨_, rfl⟩
    obtain ⟨s, hse⟩ : ∃ s, sym k j = s := ⟨_, rfl⟩
    rw [hxe, hse] at HX
    simp only [hxe, hse, nv]
    have HN : Hid (x ≠ G → ∀ i, i < j + 1 → cnt k i ≠ G) := Lib.hid (fun h i hi => by
      rcases Nat.lt_or_ge i j with h2 | h2
      · exact hp4 i h2
      · rw [show i = j by omega, hxe]; exact h)
    obtain ⟨W3, hW3⟩ : ∃ W3, W2.setCell ⟨w.heap.size + 1, 0, none⟩ (.int .i64 (s : Int)) = W3 := ⟨_, rfl⟩
    have q1 : Boxed W3 (w.heap.size + 1) 3 (.int .i64 (s : Int)) := by rw [← hW3]; exact hp1.set _
    have q2 : Boxed W3 (w.heap.size + 1 + 1) 35 (.int .i64 22) := by rw [← hW3]; exact Boxed.other hp3 (by omega) _
    have d2 := q2.cell
    have f2 := q2.frozen
    have C3 : Hid (Chg (fun x => x = w.heap.size + 1 ∨ x = w.heap.size + 1 + 1) W2 W3) := Lib.hid (by rw [← hW3]; exact Chg.set (Chg.refl _ _) ⟨w.heap.size + 1, 0, none⟩ (.inl rfl) _)
    have HP := Lib.hid (And.intro hp1 hp3)
    have HQ := Lib.hid (And.intro q1 q2)
    clear hp1 hp3 hp4 q1 q2 hg2 hxe hse
    by_cases hxG : x = G
    · subst hxG
      obtain ⟨e1, e2⟩ := HX.out rfl
      have E1 := Lib.hid e1
      have E2 := Lib.hid e2
      clear e1 e2
      gi_wp2
      refine And.intro (C3.out.set ⟨w.heap.size + 1 + 1, 0, none⟩ (.inr rfl) _) ?_
      refine And.intro rfl ?_
      rw [E1.out, E2.out]
      exact ⟨Boxed.other HQ.out.1 (by omega) _, HQ.out.2.set _⟩
    · have hne : ((x : Int) == (G : Int)) = false := by simp; omega
      gi_wp2
      exact ⟨Chg.refl _ _, HP.out.1, HP.out.2, HN.out hxG⟩
  case done =>
    intro W2 hK hg2 hs2 hp2
    obtain ⟨hp1, hp3, hp4⟩ := hp2
    obtain ⟨e1, e2⟩ := mf_none hp4
    have c1 : W2.cell? ⟨w.heap.size + 1, 0, none⟩ = some (nv (mfv k G)) := by rw [e1]; exact hp1.cell
    have c2 : W2.cell? ⟨w.heap.size + 1 + 1, 0, none⟩ = some (.int .i64 (mfe k G)) := by rw [e2]; exact hp3.cell
    have HK := Lib.hid hK
    have HB : Hid (Below w.heap.size w W2) := Lib.hid (new W2 hg2)
    clear hK hg2 hp1 hp3 hp4 e1 e2
    gi_wp2
    gi_region
    gi_wp2
    rw [Exit.noGoto_ret]
    refine ⟨by simp, .inl ⟨_, _, rfl, run_takeDeferred (show W2.drew.heap[W1.heap.size]? = _ from HK.out), ?_⟩⟩
    exact ⟨_, results_tmp2 rfl _ _ _, rfl, below_put HB.out.drew _ (by omega) _⟩
  case stop =>
    rintro c W2 hK hg2 hs2 ⟨rfl, hp1, hp3⟩
    have c1 := hp1.cell
    have c2 := hp3.cell
    have HK := Lib.hid hK
    have HB : Hid (Below w.heap.size w W2) := Lib.hid (new W2 hg2)
    clear hK hg2 hp1 hp3
    gi_wp2
    gi_region
    gi_wp2
    rw [Exit.noGoto_ret]
    refine ⟨by simp, .inl ⟨_, _, rfl, run_takeDeferred (show W2.drew.heap[W1.heap.size]? = _ from HK.out), ?_⟩⟩
    exact ⟨_, results_tmp2 rfl _ _ _, rfl, below_put HB.out.drew _ (by omega) _⟩

end Go.Proofs.Ytdlhfcapfbbjjaa
