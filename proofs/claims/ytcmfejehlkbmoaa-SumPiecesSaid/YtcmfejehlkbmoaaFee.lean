/-
  What sum.feed does: it passes the groups of a slice to update at a Sum, in order. Conditions: the slice holds its bytes while the Sum changes; it is shorter than 2^62.
-/
import Derived.Test.YtcmfejehlkbmoaaFed
namespace Go.Proofs.Ytcmfejehlkbmoaa
open Go.RowKit Go.Shelf

attribute [local go_sem] Oper.semAt_some

/-- The state of a Sum's block behind j groups. -/
def fedAt (h : Nat) (l : List UInt8) (r : List UInt8) (s : Nat) (j : Nat) (o : Option Obj) : Prop := o = some (sumObj (rn h l j) r s)

set_option maxRecDepth 100000 in
set_option maxHeartbeats 2000000 in
theorem feed_in (n : Nat) (hn : 9 ≤ n) (A : Option Addr) (l : List UInt8) (N c : Nat) (hl : l.length = N) (hNc : N ≤ c) (hN : N ≤ 4611686018427387904) {w : World} {x h : Nat} {r : List UInt8} {s : Nat} (H : Sb w x h r s)
    (hRd : ∀ h' W, w.grownBy W (some x) → Sb W x h' r s → Rd W A l) :
    CallsIn Fence.wide n Try.prog 22 #[.slice A N c, .func (.func 23) #[.pointer (some ⟨x, 0, none⟩)] #[]] w fun e w' => e = .returned (.tuple #[]) ∧ w.grownBy w' (some x) ∧ Sb w' x (rn h l (grps N)) r s := by
  refine callsIn_of_wp_marks Try.func22 rfl trivial ?_ rfl
  simp only [Try.ntmps22, List.size_toArray, List.length_cons, List.length_nil, Nat.reduceAdd, Nat.reduceSub, Array.replicate_succ, Array.replicate_zero, List.push_toArray, List.append_toArray, List.nil_append, List.cons_append]
  have hfw : ∀ f, Fence.wide.fn f := fun _ => trivial
  have hx := H.lt
  have h1 : 1 ≤ n := by omega
  gi_wp2_with (gi_at_call 24; refine (groups_in (n - 1) _ _ _ _).mono ?_; rintro e w' ⟨rfl, rfl⟩)
  have b0 : Boxed ((w.alloc (.cells #[.func (.func 23) #[.pointer (some ⟨x, 0, none⟩)] #[]] 47)).alloc (.cells #[.slice A N c] 22)) w.heap.size 47 (.func (.func 23) #[.pointer (some ⟨x, 0, none⟩)] #[]) :=
    (Boxed.new w _ _).alloc _
  have b1 : Boxed ((w.alloc (.cells #[.func (.func 23) #[.pointer (some ⟨x, 0, none⟩)] #[]] 47)).alloc (.cells #[.slice A N c] 22)) (w.heap.size + 1) 22 (.slice A N c) := by
    have := Boxed.new (w.alloc (.cells #[.func (.func 23) #[.pointer (some ⟨x, 0, none⟩)] #[]] 47)) 22 (.slice A N c)
    rwa [World.size_alloc] at this
  have g1 : w.grownBy ((w.alloc (.cells #[.func (.func 23) #[.pointer (some ⟨x, 0, none⟩)] #[]] 47)).alloc (.cells #[.slice A N c] 22)) none :=
    grown_trans (World.grownBy_alloc _ _ _) (World.grownBy_alloc _ _ _)
  generalize (w.alloc (.cells #[.func (.func 23) #[.pointer (some ⟨x, 0, none⟩)] #[]] 47)).alloc (.cells #[.slice A N c] 22) = W1 at b0 b1 g1 ⊢
  have hs1 := g1.size
  have hx1 : W1.heap[x]? = w.heap[x]? := g1.block x (by omega) (by simp)
  have toSb : ∀ {j : Nat} {W : World}, fedAt h l r s j W.heap[x]? → Sb W x (rn h l j) r s := fun hp => ⟨H.len, rn_lt H.hlt _ _, hp⟩
  refine range_x rfl h1 (gf := 26) (lb := #[.pointer (some ⟨w.heap.size + 1, 0, none⟩)]) rfl trivial (enters_of Try.func26 (by kernel_rfl) rfl)
    (x := x) (N := grps N) (enc := numAt l) (Pp := fedAt h l r s) (by omega) (fun _ => rfl)
    (groups1_hands (n - 1) (by omega) A l N c hl hNc hN x (fedAt h l r s) W1 (by omega) (w.heap.size + 1) b1 (fun j W hW hp => hRd _ W (grown_trans (grown_none g1 x) hW) (toSb hp))) (by rw [hx1]; exact H.blk)
    (fun j => { tmps := #[Value.slice A N c, Value.func (Fn.func 23) #[Value.pointer (some ⟨x, 0, none⟩)] #[], undef, Value.pointer (some ⟨w.heap.size, 0, none⟩), .int .u64 (grp l j : Int), Value.slice A N c,
        Value.func (Fn.func 26) #[] #[Value.pointer (some ⟨w.heap.size + 1, 0, none⟩)], .int .u64 (grp l j : Int), undef, undef, undef], defers := [] }) ?assign ?body ?done
  case assign =>
    intro l' j W2 K _ hK
    simp only [numAt]
    gi_wp2
    exact hK
  case body =>
    intro l' j W2 hj hg2 hp2
    have hd : 1 ≤ n - 1 - 1 := by omega
    have c0 := (b0.kept hg2 (by simp; omega)).cell
    have HU := Lib.hid (update_any (toSb hp2) (grp l j))
    obtain ⟨G, hG⟩ : ∃ G, grp l j = G := ⟨_, rfl⟩
    rw [hG] at HU
    simp only [hG]
    have HS : Hid (step (rn h l j) G = rn h l (j + 1)) := Lib.hid (by rw [rn, hG])
    clear hG
    gi_wp2_with (gi_at_call 23; refine (CallsIn.inRound l' (callsIn_wide.2 HU.out)).mono ?_; rintro e w' ⟨rfl, hb3, hg3⟩)
    rw [HS.out] at hb3
    exact hb3.blk
  case done =>
    intro D W2 hD hK hg2 hp2
    gi_wp2
    refine ⟨by simp, .inl ⟨_, _, rfl, run_takeDeferred hK, ?_⟩⟩
    refine ⟨_, results_none rfl _ _ _, rfl, grown_put (grown_trans (grown_none g1 x) hg2) D (by omega) _, (toSb hp2).same ?_⟩
    exact World.putObj_heap_other (by omega)

theorem feed_any (A : Option Addr) (l : List UInt8) (N c : Nat) (hl : l.length = N) (hNc : N ≤ c) (hN : N ≤ 4611686018427387904) {w : World} {x h : Nat} {r : List UInt8} {s : Nat} (H : Sb w x h r s)
    (hRd : ∀ h' W, w.grownBy W (some x) → Sb W x h' r s → Rd W A l) :
    Calls Try.prog 22 #[.slice A N c, .func (.func 23) #[.pointer (some ⟨x, 0, none⟩)] #[]] w fun e w' => e = .returned (.tuple #[]) ∧ w.grownBy w' (some x) ∧ Sb w' x (rn h l (grps N)) r s :=
  callsIn_wide.1 (feed_in 9 (Nat.le_refl _) A l N c hl hNc hN H hRd)

end Go.Proofs.Ytcmfejehlkbmoaa
