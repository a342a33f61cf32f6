/-
  What sum.groups, the function that it returns, and sum.feed do: the groups of a slice are handed on as numbers, in order; feed passes each to update at a Sum. Conditions: the slice holds its bytes while the Sum changes; it is shorter than 2^62.
-/
import Derived.RangeFuncCalls
import Derived.Shelf.RegionOpen
import Derived.Test.YtcmfejehlkbmoaaChu
import Derived.Test.YtcmfejehlkbmoaaSm
namespace Go.Proofs.Ytcmfejehlkbmoaa
open Go.RowKit Go.Shelf

attribute [local go_sem] Oper.semAt_some

set_option maxHeartbeats 400000 in
theorem groups_in (n : Nat) (A : Option Addr) (N c : Nat) (w : World) :
    CallsIn Fence.wide n Try.prog 24 #[.slice A N c] w fun e w' => e = .returned (.func (.func 26) #[] #[.pointer (some ⟨w.heap.size, 0, none⟩)]) ∧ w' = w.alloc (.cells #[.slice A N c] 22) := by
  refine callsIn_of_wp Try.func24 rfl trivial ?_ rfl
  simp only [Try.ntmps24, List.size_toArray, List.length_cons, List.length_nil, Nat.reduceAdd, Nat.reduceSub, Array.replicate_succ, Array.replicate_zero, List.push_toArray, List.append_toArray, List.nil_append, List.cons_append]
  gi_wp2
  go_ret
  exact ⟨rfl, rfl⟩

def numAt (l : List UInt8) (j : Nat) : Array Value := #[.int .u64 (grp l j : Int)]

theorem chunk_rd {w : World} {A : Option Addr} {l : List UInt8} (h : Rd w A l) (j : Nat) : Rd w (A.map (·.add (8 * j))) ((l.drop (8 * j)).take 8) := by
  have := Rv.cut h (8 * j) 8
  rw [← List.map_drop, ← List.map_take] at this
  exact this

theorem round_wide {n m l f : Nat} {tmps : Array Value} {assign body : Code} {w : World} {P : Program} {R : Ending → World → Prop} (l' : Nat) (h : RoundIn Fence.wide n P l f tmps assign body w R) : RoundIn (Fence.wide.inRound l') m P l f tmps assign body w R :=
  ⟨h.1, fun c cs _ => h.2 c cs (by simp [Fence.room, Fence.wide])⟩

set_option maxRecDepth 100000 in
set_option maxHeartbeats 2000000 in
theorem groups1_hands (n : Nat) (hn : 6 ≤ n) (A : Option Addr) (l : List UInt8) (N c : Nat) (hl : l.length = N) (hNc : N ≤ c) (hN : N ≤ 4611686018427387904) (x : Nat) (Pp : Nat → Option Obj → Prop) (w : World) (hx : x < w.heap.size) (Bb : Nat) (hBb : Boxed w Bb 22 (.slice A N c))
    (hRd : ∀ j W, w.grownBy W (some x) → Pp j W.heap[x]? → Rd W A l) :
    Hands Fence.wide n Try.prog 26 #[.pointer (some ⟨Bb, 0, none⟩)] x (grps N) (numAt l) Pp w := by
  intro l0 W hW hY h0
  refine callsIn_of_wp_marks Try.func26 rfl trivial ?_ rfl
  simp only [Try.ntmps26, List.size_toArray, List.length_cons, List.length_nil, Nat.reduceAdd, Nat.reduceSub, Array.replicate_succ, Array.replicate_zero, List.push_toArray, List.append_toArray, List.nil_append, List.cons_append]
  have hfw : ∀ f, Fence.wide.fn f := fun _ => trivial
  have hsz := hW.size
  have bb := hBb.kept hW (by simp)
  have cb := bb.cell
  have cb2 : (W.alloc (.cells #[.func (.yield l0) #[] #[]] 52)).cell? ⟨Bb, 0, none⟩ = some (.slice A N c) := (bb.alloc _).cell
  have h1 : 1 ≤ n := by omega
  gi_wp2_with (gi_at_call 27; refine (chunk_in (n - 1) _ _ _ _).mono ?_; rintro e w' ⟨rfl, rfl⟩)
  have b0 : Boxed (((W.alloc (.cells #[.func (.yield l0) #[] #[]] 52)).alloc (.cells #[.slice A N c] 22)).alloc (.cells #[.int .i64 8] 3)) W.heap.size 52 (.func (.yield l0) #[] #[]) :=
    ((Boxed.new W _ _).alloc _).alloc _
  have b1 : Boxed (((W.alloc (.cells #[.func (.yield l0) #[] #[]] 52)).alloc (.cells #[.slice A N c] 22)).alloc (.cells #[.int .i64 8] 3)) (W.heap.size + 1) 22 (.slice A N c) := by
    have := (Boxed.new (W.alloc (.cells #[.func (.yield l0) #[] #[]] 52)) 22 (.slice A N c)).alloc (.cells #[.int .i64 8] 3)
    rwa [World.size_alloc] at this
  have b2 : Boxed (((W.alloc (.cells #[.func (.yield l0) #[] #[]] 52)).alloc (.cells #[.slice A N c] 22)).alloc (.cells #[.int .i64 8] 3)) (W.heap.size + 1 + 1) 3 (.int .i64 8) := by
    have := Boxed.new ((W.alloc (.cells #[.func (.yield l0) #[] #[]] 52)).alloc (.cells #[.slice A N c] 22)) 3 (.int .i64 8)
    rwa [World.size_alloc, World.size_alloc] at this
  have g1 : W.grownBy (((W.alloc (.cells #[.func (.yield l0) #[] #[]] 52)).alloc (.cells #[.slice A N c] 22)).alloc (.cells #[.int .i64 8] 3)) none :=
    grown_trans (grown_trans (World.grownBy_alloc _ _ _) (World.grownBy_alloc _ _ _)) (World.grownBy_alloc _ _ _)
  generalize ((W.alloc (.cells #[.func (.yield l0) #[] #[]] 52)).alloc (.cells #[.slice A N c] 22)).alloc (.cells #[.int .i64 8] 3) = W1 at b0 b1 b2 g1 ⊢
  have hs1 := g1.size
  have hx1 : W1.heap[x]? = W.heap[x]? := g1.block x (by omega) (by simp)
  refine range_x rfl h1 (gf := 29) (lb := #[.pointer (some ⟨W.heap.size + 1, 0, none⟩), .pointer (some ⟨W.heap.size + 1 + 1, 0, none⟩)]) rfl trivial (enters_of Try.func29 (by kernel_rfl) rfl)
    (x := x) (N := grps N) (enc := chunkAt A N) (Pp := Pp) (by omega) (fun _ => rfl) (chunk1_hands (n - 1) (by omega) A N c hNc hN x Pp W1 (W.heap.size + 1) (W.heap.size + 1 + 1) b1 b2 (by omega) (by omega)) (by rw [hx1]; exact h0)
    (fun j => { tmps := #[Value.func (Fn.yield l0) #[] #[], Value.pointer (some ⟨Bb, 0, none⟩), Value.pointer (some ⟨W.heap.size, 0, none⟩), .slice (A.map (·.add (8 * j))) (min 8 (N - 8 * j)) (min 8 (N - 8 * j)), Value.slice A N c,
        Value.func (Fn.func 29) #[] #[Value.pointer (some ⟨W.heap.size + 1, 0, none⟩), Value.pointer (some ⟨W.heap.size + 1 + 1, 0, none⟩)], .slice (A.map (·.add (8 * j))) (min 8 (N - 8 * j)) (min 8 (N - 8 * j)), undef, undef, undef, undef, undef], defers := [] }) ?assign ?body ?done
  case assign =>
    intro l' j W2 K _ hK
    simp only [chunkAt]
    gi_wp2
    exact hK
  case body =>
    intro l' j W2 hj hg2 hp2
    have hd : 1 ≤ n - 1 - 1 := by omega
    have hmx : Try.prog.follows .mixedOrders = true := by kernel_rfl
    have c0 := (b0.kept hg2 (by simp; omega)).cell
    have hgW : w.grownBy W2 (some x) := grown_trans (grown_none hW x) (grown_trans (grown_none g1 x) hg2)
    have hgY : W.grownBy W2 (some x) := grown_trans (grown_none g1 x) hg2
    have rd := chunk_rd (hRd j W2 hgW hp2) j
    have hlen : ((l.drop (8 * j)).take 8).length = min 8 (N - 8 * j) := by simp [hl]
    obtain ⟨m, hm⟩ : ∃ m, min 8 (N - 8 * j) = m := ⟨_, rfl⟩
    obtain ⟨B, hB⟩ : ∃ B, A.map (·.add (8 * j)) = B := ⟨_, rfl⟩
    rw [hm] at hlen
    rw [hB] at rd
    have HI := Lib.hid (fun d => integer_any (W2.drewN d) B _ m m hlen (by omega) rd)
    have HY := fun d => hY j (W2.drewN d) hj (grown_drewN hgY d) hp2
    simp only [hm, hB]
    clear hm hB rd hlen
    obtain ⟨G, hG⟩ : ∃ G, le (List.take 8 (List.drop (8 * j) l)) = G := ⟨_, rfl⟩
    rw [hG] at HI
    have hY1 := HY 1
    unfold numAt grp at hY1
    rw [hG] at hY1
    obtain ⟨fn, tmps, assign, body, hy, hR⟩ := hY1
    have HR := Lib.hid hR
    clear hG hR HY hY
    gi_wp2
    gi_region_with_o (first | (gi_at_call 28; refine (CallsIn.inRound l' (callsIn_wide.2 (HI.out 1))).mono ?_; rintro e w' ⟨rfl, rfl⟩) | (refine (round_wide l' HR.out).mono ?_; rintro e w' ⟨rfl, hg3, hp3⟩))
    all_goals gi_wp2
    all_goals exact ⟨grown_trans (grown_drewN (World.grownBy.refl W2 (some x)) 1) hg3, hp3⟩
  case done =>
    intro D W2 hD hK hg2 hp2
    gi_wp2
    refine ⟨by simp, .inl ⟨_, _, rfl, run_takeDeferred hK, ?_⟩⟩
    refine ⟨_, results_none rfl _ _ _, ⟨_, rfl⟩, grown_put (grown_trans (grown_none g1 x) hg2) D (by omega) _, ?_⟩
    rw [World.putObj_heap_other (by omega)]
    exact hp2

end Go.Proofs.Ytcmfejehlkbmoaa
