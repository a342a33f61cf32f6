/-
  What list.distinct does: it returns the number of used symbols. Nothing that was there has changed. Condition: the counts are valid.
-/
import Derived.Test.YtdlhfcapfbbjjaaIns
namespace Go.Proofs.Ytdlhfcapfbbjjaa
open Go.RowKit Go.Shelf

attribute [local go_sem] Oper.semAt_some

theorem below_put {B : Nat} {w W : World} (h : Below B w W) (l : Nat) (hl : B ≤ l) (o : Obj) : Below B w (W.putObj l o) :=
  ⟨h.os, h.tape, h.output, by rw [World.putObj_size]; exact h.size, fun i hi => by rw [World.putObj_heap_other (by omega)]; exact h.block i hi⟩

set_option maxRecDepth 100000 in
set_option maxHeartbeats 2000000 in
theorem distinct_in (n : Nat) (hn : 6 ≤ n) (A : Option Addr) (k : List Nat) (N c : Nat) (hk : k.length = N) (hv : Vld k) (w : World) (hR : Rn w A k) :
    CallsIn Fence.wide n Try.prog 39 #[.slice A N c] w fun e w' => e = .returned (nv (usd 0 k).length) ∧ Below w.heap.size w w' := by
  refine callsIn_of_wp_marks Try.func39 rfl trivial ?_ rfl
  simp only [Try.ntmps39, List.size_toArray, List.length_cons, List.length_nil, Nat.reduceAdd, Nat.reduceSub, Array.replicate_succ, Array.replicate_zero, List.push_toArray, List.append_toArray, List.nil_append, List.cons_append]
  have hfw : ∀ f, Fence.wide.fn f := fun _ => trivial
  have h1 : 1 ≤ n := by omega
  gi_wp2_with (gi_at_call 55; refine (used_in (n - 1) _ _ _ _).mono ?_; rintro e w' ⟨rfl, rfl⟩)
  have b0 : Boxed ((w.alloc (.cells #[.int .i64 0] 3)).alloc (.cells #[.slice A N c] 60)) w.heap.size 3 (.int .i64 0) := (Boxed.new w _ _).alloc _
  have b1 : Boxed ((w.alloc (.cells #[.int .i64 0] 3)).alloc (.cells #[.slice A N c] 60)) (w.heap.size + 1) 60 (.slice A N c) := by
    have := Boxed.new (w.alloc (.cells #[.int .i64 0] 3)) 60 (.slice A N c)
    rwa [World.size_alloc] at this
  have g1 : Below w.heap.size w ((w.alloc (.cells #[.int .i64 0] 3)).alloc (.cells #[.slice A N c] 60)) :=
    ((Below.refl _ w).alloc (Nat.le_refl _) _).alloc (by simp) _
  generalize (w.alloc (.cells #[.int .i64 0] 3)).alloc (.cells #[.slice A N c] 60) = W1 at b0 b1 g1 ⊢
  have lt1 := b1.lt
  refine range_s rfl h1 (gf := 61) (lb := #[.pointer (some ⟨w.heap.size + 1, 0, none⟩)]) rfl trivial (enters_of Try.func61 (by kernel_rfl) rfl)
    (N := (usd 0 k).length) (enc := symAt k) (Kp := KpU A k N c (w.heap.size + 1)) (fun _ => rfl) (used1_hands (n - 1) (by omega) A k N c _ hk (by have := hv.1; omega) hv)
    (fun x => x = w.heap.size) (Nat.ne_of_gt (by omega)) (Nat.ne_of_gt (by omega)) (fun j W => Boxed W w.heap.size 3 (nv j)) (fun _ _ => False)
    (fun j W W' hal hp => (hal _ (by omega) (by omega)).trans hp) (fun _ _ _ _ h => h)
    (fun j W hc _ => ⟨boxed_chg b1 hc (Nat.ne_of_gt (by omega)), hR.below (g1.trans (hc.new (by omega) (fun k (e : k = _) => by omega)))⟩) b0
    (fun j => { tmps := #[Value.slice A N c, undef, Value.int .i64 0, Value.pointer (some ⟨w.heap.size, 0, none⟩), Value.slice A N c,
          Value.func (Fn.func 61) #[] #[Value.pointer (some ⟨w.heap.size + 1, 0, none⟩)], nv (sym k j), nv (cnt k j),
          undef, undef, undef], defers := [] }) ?assign ?body ?done ?stop
  case assign =>
    intro l' j W2 K _ hK
    simp only [symAt]
    gi_wp2
    simpa using hK
  case body =>
    intro l' j W2 hj hg2 hs2 hp2
    have hd : 1 ≤ n - 1 - 1 := by omega
    have c1 := hp2.cell
    have f1 := hp2.frozen
    simp only [nv] at c1
    have hj2 : j ≤ 256 := by have := usd_len 0 k; have := hv.1; omega
    have HP := Lib.hid hp2
    clear hp2 hg2
    gi_wp2
    refine ⟨Chg.set (Chg.refl (fun x => x = w.heap.size) W2) ⟨w.heap.size, 0, none⟩ rfl _, ?_⟩
    exact HP.out.set _
  case done =>
    intro W2 hK hg2 hs2 hp2
    have c1 := hp2.cell
    have HK := Lib.hid hK
    have HB : Hid (Below w.heap.size w W2) := Lib.hid (g1.trans (hg2.new (by omega) (fun k (e : k = _) => by omega)))
    clear hK hg2 hp2
    gi_wp2
    refine ⟨by simp, .inl ⟨_, _, rfl, run_takeDeferred HK.out, ?_⟩⟩
    exact ⟨_, results_tmp rfl _ _ _, rfl, below_put HB.out _ (by omega) _⟩
  case stop => exact fun _ _ _ _ _ h => h.elim

end Go.Proofs.Ytdlhfcapfbbjjaa
