/-
  What slices.Chunk at eight bytes and the function that it returns do: that function hands on the groups of the slice, in order. Conditions: the variables that it captures hold the slice and 8; the slice is shorter than 2^62.
-/
import Derived.RegionIn
import Derived.Test.YtcmfejehlkbmoaaRng
namespace Go.Proofs.Ytcmfejehlkbmoaa
open Go.RowKit Go.Shelf

attribute [local go_sem] Oper.semAt_some

theorem und_b : Try.prog.underlying 22 = some (.slice (Try.prog.elem 22)) := by kernel_rfl
theorem elem_b : Try.prog.elem 22 = 5 := by kernel_rfl
theorem size_b (W : World) : (sizeOf 5).run Try.prog W = .ok 1 W := by
  obtain ⟨i0, hi, _, hz1, _⟩ := info_parts byte_info
  simp [sizeOf, typeInfo, hi, hz1]

theorem grown_drew {a w : World} {row : Option Nat} (h : a.grownBy w row) : a.grownBy w.drew row := ⟨h.os, h.tape, h.output, h.size, h.block⟩

/-- Where the rest of a slice begins. -/
def off (A : Option Addr) (c n : Nat) : Option Addr := if c = n then A else A.map (·.add n)

theorem slice_hi (A : Option Addr) (N c n : Nat) (h : n ≤ c) (W : World) : (Instr.slice 22 (.slice A N c) none (some (.int .i64 (n : Int))) none).run Try.prog W = .ok (.slice A n c) W := by
  rw [run_slice_h _ _ _ _ _ und_b _ _ (by omega) (by omega), elem_b, size_b]
  simp [Result.andThen, sliced]
  intro _
  cases A with
  | none => rfl
  | some a => simp [Addr.add]
theorem slice_lo (A : Option Addr) (N c n : Nat) (h : n ≤ N) (W : World) : (Instr.slice 22 (.slice A N c) (some (.int .i64 (n : Int))) none none).run Try.prog W = .ok (.slice (off A c n) (N - n) (c - n)) W := by
  rw [run_slice_l _ _ _ _ _ und_b _ _ (by omega) (by omega), elem_b, size_b]
  simp [Result.andThen, sliced, off]
theorem slice_mid (A : Option Addr) (N c i m : Nat) (hm : 0 < m) (h : i + m ≤ c) (W : World) :
    (Instr.slice 22 (.slice A N c) (some (.int .i64 (i : Int))) (some (.int .i64 ((i : Int) + (m : Int)))) (some (.int .i64 ((i : Int) + (m : Int))))).run Try.prog W = .ok (.slice (A.map (·.add i)) m m) W := by
  rw [run_slice_lhm _ _ _ _ _ und_b _ _ _ _ _ _ (by omega) (by omega) (by omega) (by omega), elem_b, size_b]
  have e : ((i : Int) + (m : Int)).toNat = i + m := by omega
  simp [Result.andThen, sliced, e]
  intro h0
  omega

theorem off_rd {w : World} {A : Option Addr} {l : List UInt8} {c n : Nat} (h : Rd w A l) (hc : l.length ≤ c) : Rd w (off A c n) (l.drop n) := by
  unfold off
  by_cases hcn : c = n
  · rw [if_pos hcn, List.drop_of_length_le (by omega)]
    exact Rv.nil _ _
  · rw [if_neg hcn]
    have := Rv.cut h n l.length
    rw [List.take_of_length_le (by simp), ← List.map_drop] at this
    exact this
theorem off_block {A : Option Addr} {c n : Nat} : ∀ ad, off A c n = some ad → ∃ ad0, A = some ad0 ∧ ad.block = ad0.block := by
  intro ad e
  unfold off at e
  split at e
  · exact ⟨ad, e, rfl⟩
  · cases A with
    | none => cases e
    | some a0 =>
      simp at e
      exact ⟨a0, rfl, by rw [← e, addr_add_block]⟩

/-- Group j of a slice. -/
def chunkAt (A : Option Addr) (N j : Nat) : Array Value := #[.slice (A.map (·.add (8 * j))) (min 8 (N - 8 * j)) (min 8 (N - 8 * j))]

set_option maxHeartbeats 400000 in
theorem chunk_in (n : Nat) (A : Option Addr) (N c : Nat) (w : World) :
    CallsIn Fence.wide n Try.prog 27 #[.slice A N c, .int .i64 8] w fun e w' => e = .returned (.func (.func 29) #[] #[.pointer (some ⟨w.heap.size, 0, none⟩), .pointer (some ⟨w.heap.size + 1, 0, none⟩)]) ∧
      w' = (w.alloc (.cells #[.slice A N c] 22)).alloc (.cells #[.int .i64 8] 3) := by
  refine callsIn_of_wp Try.func27 rfl trivial ?_ rfl
  simp only [Try.ntmps27, List.size_toArray, List.length_cons, List.length_nil, Nat.reduceAdd, Nat.reduceSub, Array.replicate_succ, Array.replicate_zero, List.push_toArray, List.append_toArray, List.nil_append, List.cons_append]
  gi_wp2
  go_ret
  exact ⟨rfl, rfl⟩

set_option maxRecDepth 100000 in
set_option maxHeartbeats 2000000 in
theorem chunk1_hands (n : Nat) (hn : 1 ≤ n) (A : Option Addr) (N c : Nat) (hNc : N ≤ c) (hN : N ≤ 4611686018427387904) (x : Nat) (Pp : Nat → Option Obj → Prop) (w : World) (Bs Bn : Nat) (hBs : Boxed w Bs 22 (.slice A N c)) (hBn : Boxed w Bn 3 (.int .i64 8)) (hxs : Bs ≠ x) (hxn : Bn ≠ x) :
    Hands Fence.wide n Try.prog 29 #[.pointer (some ⟨Bs, 0, none⟩), .pointer (some ⟨Bn, 0, none⟩)] x (grps N) (chunkAt A N) Pp w := by
  intro l W hW hY h0
  refine callsIn_of_wp Try.func29 rfl trivial ?_ rfl
  simp only [Try.ntmps29, List.size_toArray, List.length_cons, List.length_nil, Nat.reduceAdd, Nat.reduceSub, Array.replicate_succ, Array.replicate_zero, List.push_toArray, List.append_toArray, List.nil_append, List.cons_append]
  have BS := Lib.hid (hBs.kept hW (by simp))
  have BN := Lib.hid (hBn.kept hW (by simp))
  have HY := Lib.hid hY
  clear hY hBs hBn hW
  gi_wp2
  gi_loopw [4] (fun p wr => ∃ j : Nat, j ≤ grps N ∧ p = .int .i64 ((8 * j : Nat) : Int) ∧ Hid (W.grownBy wr (some x)) ∧ Hid (Pp j wr.heap[x]?))
    (fun p _ => N + 8 - (intOf p).toNat)
  case atStart =>
    exact ⟨0, Nat.zero_le _, rfl, Lib.hid (World.grownBy.refl _ _), Lib.hid h0⟩
  case round =>
    obtain ⟨j, hj, rfl, HG, HP⟩ := hrel
    have cs := (BS.out.kept HG.out (by simpa using hxs)).cell
    have cn := (BN.out.kept HG.out (by simpa using hxn)).cell
    have HJ := Lib.hid hj
    obtain ⟨i, hi⟩ : ∃ i, 8 * j = i := ⟨_, rfl⟩
    have HI := Lib.hid hi
    rw [hi]
    clear hj hi
    by_cases hlt : i < N
    · have HL : Hid (j < grps N) := Lib.hid (by have := HI.out; unfold grps; omega)
      obtain ⟨fn, tmps, assign, body, hy, hR⟩ := HY.out j wr.drew HL.out (grown_drew HG.out) HP.out
      obtain ⟨m, hm⟩ : ∃ m, min 8 (N - i) = m := ⟨_, rfl⟩
      have hm0 : 0 < m := by omega
      have hmN : i + m ≤ N := by omega
      have HM : Hid (m = 8 ∨ i + m = N) := Lib.hid (by omega)
      have HM8 : Hid (m ≤ 8) := Lib.hid (by omega)
      unfold chunkAt at hy
      rw [HI.out, hm] at hy
      have s1 := fun W => slice_lo A N c i (by omega) W
      have s2 := fun W => slice_mid A N c i m hm0 (by omega) W
      obtain ⟨B, hB⟩ : ∃ B, off A c i = B := ⟨_, rfl⟩
      simp only [hB] at s1
      obtain ⟨B', hB'⟩ : ∃ B', A.map (·.add i) = B' := ⟨_, rfl⟩
      simp only [hB'] at s2
      rw [hB'] at hy
      have HN : Hid ((if ((N - i : Nat) : Int) < 8 then ((N - i : Nat) : Int) else 8) = (m : Int)) := Lib.hid (by split <;> omega)
      have HR := Lib.hid hR
      clear hR hB hB' hm
      gi_wp2
      gi_region
      rw [HN.out]
      clear s1
      gi_wp2
      refine HR.out.mono ?_
      rintro e W3 ⟨rfl, hg3, hp3⟩
      have G3 := Lib.hid (grown_trans (grown_drew HG.out) hg3)
      have P3 := Lib.hid hp3
      have cs3 := (BS.out.kept G3.out (by simpa using hxs)).cell
      have cn3 := (BN.out.kept G3.out (by simpa using hxn)).cell
      clear hg3 hp3 hy s2
      gi_wp2
      refine ⟨⟨j + 1, HL.out, by have := HI.out; simp; omega, G3, P3⟩, ?_⟩
      simp [intOf]
      omega
    · have HE : Hid (j = grps N) := Lib.hid (by have := HI.out; have := HJ.out; unfold grps at *; omega)
      gi_wp2
      go_end0
      exact ⟨⟨_, rfl⟩, HG.out, by rw [← HE.out]; exact HP.out⟩

end Go.Proofs.Ytcmfejehlkbmoaa
