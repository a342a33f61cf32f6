/-
  What beside and the function that it returns do: that function hands on the pieces of two buffers that hold equally many bytes. Conditions: while the rounds run, the two buffers' blocks and the two variables lie there.
-/
import Derived.RegionIn
import Derived.Shelf.RegionOpen
import Derived.RangeFuncCalls
import Derived.Test.YteogpmapbeogpaaDoorAt
namespace Go.Proofs.YteogpmapbeogpaaDoor
open Go.RowKit Go.Shelf

attribute [local go_sem] Oper.semAt_some

/-- Where the stretch of a distance starts, and how long it is. -/
def sS (n o d : Nat) : Nat := if d ≤ o then o - d else o + n - d
def sM (n o d : Nat) : Nat := min (sS n o d + d) n - sS n o d
def sB (A : Option Addr) (n o d : Nat) : Option Addr := A.map (·.add (sS n o d))
/-- The distance of piece j. -/
def dst (n o o' : Nat) : Nat → Nat
  | 0 => n
  | j + 1 => dst n o o' j - min (sM n o (dst n o o' j)) (sM n o' (dst n o o' j))
def pM (n o o' j : Nat) : Nat := min (sM n o (dst n o o' j)) (sM n o' (dst n o o' j))

theorem sM_pos {n o d : Nat} (ho : o ≤ n) (hd : d ≤ n) (hd0 : 0 < d) : 0 < sM n o d ∧ sM n o d ≤ d ∧ sS n o d + sM n o d ≤ n := by
  unfold sM sS
  split <;> omega
theorem dst_le (n o o' : Nat) : ∀ j, dst n o o' j ≤ n
  | 0 => Nat.le_refl _
  | j + 1 => Nat.le_trans (Nat.sub_le _ _) (dst_le n o o' j)
theorem dst_down {n o o' : Nat} (ho : o ≤ n) (ho' : o' ≤ n) : ∀ j, dst n o o' j ≤ n - j
  | 0 => Nat.le_refl _
  | j + 1 => by
    have h := dst_down ho ho' j
    have hl := dst_le n o o' j
    unfold dst
    rcases Nat.eq_zero_or_pos (dst n o o' j) with h0 | h0
    · rw [h0]; omega
    · have h1 := sM_pos ho hl h0
      have h2 := sM_pos ho' hl h0
      omega
theorem least_zero : ∀ (k : Nat) (f : Nat → Nat), f k = 0 → ∃ N, f N = 0 ∧ ∀ j, j < N → 0 < f j
  | 0, f, h => ⟨0, h, fun j hj => by omega⟩
  | k + 1, f, h => by
    rcases Nat.eq_zero_or_pos (f 0) with h0 | h0
    · exact ⟨0, h0, fun j hj => by omega⟩
    · obtain ⟨N, h1, h2⟩ := least_zero k (fun j => f (j + 1)) h
      refine ⟨N + 1, h1, fun j hj => ?_⟩
      rcases j with _ | j
      · exact h0
      · exact h2 j (by omega)
theorem dst_end {n o o' : Nat} (ho : o ≤ n) (ho' : o' ≤ n) : ∃ N, dst n o o' N = 0 ∧ ∀ j, j < N → 0 < dst n o o' j := least_zero n _ (by have := dst_down ho ho' n; omega)

/-- Piece j of two buffers. -/
def pieceAt (A A' : Option Addr) (n o o' j : Nat) : Array Value := #[.slice (sB A n o (dst n o o' j)) (pM n o o' j) (pM n o o' j), .slice (sB A' n o' (dst n o o' j)) (pM n o o' j) (pM n o o' j)]

/-- What the function reads. -/
def KpB (x y lim lim' n c c' o o' t t' : Nat) (A A' : Option Addr) (Bx1 Bx2 : Nat) (W : World) : Prop :=
  Bx W Bx1 77 (.pointer (some ⟨x, 0, none⟩)) ∧ Bx W Bx2 77 (.pointer (some ⟨y, 0, none⟩)) ∧ Rb W x lim (.slice A n c) o t ∧ Rb W y lim' (.slice A' n c') o' t'

theorem or_bool {e : Ending} {P Q : Prop} (h : (e = .returned (.bool true) ∧ P) ∨ (e = .returned (.bool false) ∧ Q)) : ∃ b, e = .returned (.bool b) ∧ ((b = true ∧ P) ∨ (b = false ∧ Q)) := by
  rcases h with ⟨h, p⟩ | ⟨h, q⟩
  · exact ⟨true, h, .inl ⟨rfl, p⟩⟩
  · exact ⟨false, h, .inr ⟨rfl, q⟩⟩

set_option maxHeartbeats 400000 in
theorem beside_in (m : Nat) (p q : Option Addr) (w : World) :
    CallsIn Fence.wide m Tryd.prog 48 #[.pointer p, .pointer q] w fun e w' => e = .returned (.func (.func 50) #[] #[.pointer (some ⟨w.heap.size, 0, none⟩), .pointer (some ⟨w.heap.size + 1, 0, none⟩)]) ∧
      w' = (w.alloc (.cells #[.pointer p] 77)).alloc (.cells #[.pointer q] 77) := by
  refine callsIn_of_wp Tryd.func48 rfl trivial ?_ rfl
  simp only [Tryd.ntmps48, List.size_toArray, List.length_cons, List.length_nil, Nat.reduceAdd, Nat.reduceSub, Array.replicate_succ, Array.replicate_zero, List.push_toArray, List.append_toArray, List.nil_append, List.cons_append]
  gi_wp2
  go_ret
  exact ⟨rfl, rfl⟩

set_option maxRecDepth 100000 in
set_option maxHeartbeats 1000000 in
theorem beside1_hands (m : Nat) (hm : 2 ≤ m) (x y lim lim' n c c' o o' t t' : Nat) (A A' : Option Addr) (b1 b2 : Nat) (hn : n ≤ 134217728) (ho : o ≤ n) (ho' : o' ≤ n) (hc : n ≤ c) (hc' : n ≤ c') (N : Nat) (hN : dst n o o' N = 0) (hNp : ∀ j, j < N → 0 < dst n o o' j) :
    Hands Fence.wide m Tryd.prog 50 #[.pointer (some ⟨b1, 0, none⟩), .pointer (some ⟨b2, 0, none⟩)] N (pieceAt A A' n o o') (KpB x y lim lim' n c c' o o' t t' A A' b1 b2) := by
  intro l I X W hI hX hKp hY h0
  refine callsIn_of_wp Tryd.func50 rfl trivial ?_ rfl
  simp only [Tryd.ntmps50, List.size_toArray, List.length_cons, List.length_nil, Nat.reduceAdd, Nat.reduceSub, Array.replicate_succ, Array.replicate_zero, List.push_toArray, List.append_toArray, List.nil_append, List.cons_append]
  have hfw : ∀ f, Fence.wide.fn f := fun _ => trivial
  have h1m : 1 ≤ m := by omega
  have hmix : Tryd.prog.follows .mixedOrders = true := by kernel_rfl
  have HY := Lib.hid hY
  have HK := Lib.hid hKp
  have HII := Lib.hid hI
  have HXX := Lib.hid hX
  have HN0 := Lib.hid hN
  have HNP := Lib.hid hNp
  have k0 := hKp 0 W h0
  have c0 := k0.1.cell
  have c1 := k0.2.2.1.c1
  clear hY hKp hI hX hN hNp k0
  gi_wp2
  clear c0 c1
  gi_loopw [4] (fun p wr => ∃ j d : Nat, j ≤ N ∧ p = .int .i64 (d : Int) ∧ Hid (d = dst n o o' j) ∧ Hid (I j wr))
    (fun p _ => (intOf p).toNat)
  case atStart => exact ⟨0, n, Nat.zero_le _, rfl, Lib.hid rfl, Lib.hid h0⟩
  case round =>
    obtain ⟨j, d, hj, rfl, HD, HI⟩ := hrel
    have hdn : d ≤ n := by rw [HD.out]; exact dst_le n o o' j
    by_cases hd0 : 0 < d
    · have hjN : j < N := by
        rcases Nat.lt_or_ge j N with h | h
        · exact h
        · have e : j = N := by omega
          rw [HD.out, e, HN0.out] at hd0
          omega
      obtain ⟨q1, q2, q3⟩ := sM_pos ho hdn hd0
      obtain ⟨r1, r2, r3⟩ := sM_pos ho' hdn hd0
      obtain ⟨u1, u2, u3, u4⟩ := HK.out j wr HI.out
      have c0 := u1.cell
      have c1 := u2.cell
      obtain ⟨mm, hmm⟩ : ∃ mm, sM n o d = mm := ⟨_, rfl⟩
      obtain ⟨mr, hmr⟩ : ∃ mr, sM n o' d = mr := ⟨_, rfl⟩
      obtain ⟨BB, hBB⟩ : ∃ BB, sB A n o d = BB := ⟨_, rfl⟩
      obtain ⟨BR, hBR⟩ : ∃ BR, sB A' n o' d = BR := ⟨_, rfl⟩
      have S1 := Lib.hid fun q => stretch_walk (W := wr.drewN q) (s := sS n o d) (m := sM n o d) u3.c1 u3.c2 ho hdn hd0 hn hc rfl rfl q1 q3
      have S2 := Lib.hid fun q => stretch_walk (W := wr.drewN q) (s := sS n o' d) (m := sM n o' d) u4.c1 u4.c2 ho' hdn hd0 hn hc' rfl rfl r1 r3
      unfold StrPost at S1 S2
      have e1 : A.map (·.add (sS n o d)) = BB := hBB
      have e2 : A'.map (·.add (sS n o' d)) = BR := hBR
      simp only [e1, hmm] at S1
      simp only [e2, hmr] at S2
      obtain ⟨k, hk⟩ : ∃ k, min mm mr = k := ⟨_, rfl⟩
      have hk0 : 0 < k := by omega
      have hkd : k ≤ d := by omega
      have PA : Hid (pieceAt A A' n o o' j = #[.slice BB k k, .slice BR k k] ∧ dst n o o' (j + 1) = d - k) := Lib.hid (by
        unfold pieceAt pM
        conv => rhs; unfold dst
        rw [← HD.out, hBB, hBR, hmm, hmr, hk]
        exact ⟨rfl, rfl⟩)
      have s1 := fun W => slice_hm BB mm mm k (by omega) W
      have s2 := fun W => slice_hm BR mr mr k (by omega) W
      obtain ⟨zk, hzk⟩ : ∃ zk : Int, zk = (k : Int) := ⟨_, rfl⟩
      simp only [← hzk] at s1 s2
      have ck : (zk = (mm : Int) ∧ ¬ ((mr : Int) < (mm : Int))) ∨ (zk = (mr : Int) ∧ (mr : Int) < (mm : Int)) := by omega
      have hmb : mm ≤ 134217728 := by omega
      have hrb : mr ≤ 134217728 := by omega
      have HZ : Hid (zk = (k : Int)) := Lib.hid hzk
      have H2 : Hid (∀ q, I j (wr.drewN q).drew) := Lib.hid fun q => HII.out j (wr.drewN q) 1 (HII.out j wr q HI.out)
      clear HI HK HD hBB hBR hmm hmr e1 e2 hk u1 u2 u3 u4 q1 q2 q3 r1 r2 r3 hzk HN0 HNP HII
      gi_wp2
      refine wpIn_wide.2 ?_
      go_quiet ((first | (go_at_call 42; with_reducible exact Calls.quiet_of (S1.out _)) | (go_at_call 42; with_reducible exact Calls.quiet_of (S2.out _))))
      have HI2 := Lib.hid (H2.out nq)
      clear S1 S2 c0 c1 H2
      generalize wr.drewN nq = wq at HI2 ⊢
      have HI3 : I j wq.drew := HI2.out
      obtain ⟨fn, tmps, assign, body, hy, hR⟩ := HY.out j wq.drew hjN HI3
      rw [PA.out.1] at hy
      have HR := Lib.hid hR
      clear hR HI3 HI2
      rcases ck with ⟨rfl, hck⟩ | ⟨rfl, hck⟩
      all_goals
        gi_wp2
        gi_region_with_o (refine HR.out.mono ?_; rintro e W3 hIX; obtain ⟨bb, rfl, hbb⟩ := or_bool hIX; clear hIX)
        all_goals first
          | (rcases hbb with ⟨rfl, hI3⟩ | ⟨rfl, hX3⟩)
          | skip
        all_goals first
          | (have H3 := Lib.hid hI3
             clear hI3
             gi_wp2
             refine ⟨⟨j + 1, d - k, hjN, ?_, Lib.hid PA.out.2.symm, H3⟩, ?_⟩
             · have := HZ.out; congr 1; omega
             · have := HZ.out; simp [intOf]; omega)
          | (have H3 := Lib.hid hX3
             clear hX3
             gi_wp2
             refine bodyPost_ret (results_none rfl _ _ _) rfl ?_
             exact ⟨⟨_, rfl⟩, .inr H3.out⟩)
    · have e : d = 0 := by omega
      have ej : j = N := by
        rcases Nat.lt_or_ge j N with h | h
        · have := HNP.out j h
          rw [← HD.out] at this
          omega
        · omega
      rw [ej] at HI
      subst e
      gi_wp2
      go_end0
      exact ⟨⟨_, rfl⟩, .inl HI.out⟩

end Go.Proofs.YteogpmapbeogpaaDoor
