/-
  What the method Write of Sum does: the Sum has then received the bytes, too. Nothing but the Sum's block and new memory changes. Conditions: the slice does not lie in the Sum; fewer than 2^40 bytes in all.
-/
import Derived.Laws.CopyOwn
import Derived.Test.YtcmfejehlkbmoaaFee
namespace Go.Proofs.Ytcmfejehlkbmoaa
open Go.RowKit

/-- Block x is a Sum that has received the bytes l. -/
def Su (w : World) (x : Nat) (l : List UInt8) : Prop :=
  ∃ r, Sb w x (rn K3 l (l.length / 8)) r l.length ∧ r.take (l.length % 8) = l.drop (8 * (l.length / 8))

theorem ne_of_get {m : List UInt8} {j : Nat} {v : Value} (h : (m.map byt)[j]? = some v) : m ≠ [] := by
  rintro rfl
  simp at h
theorem rd_same {w w' : World} {A : Option Addr} {m : List UInt8} (h : Rd w A m) (hk : m ≠ [] → ∀ ad, A = some ad → w'.heap[ad.block]? = w.heap[ad.block]?) : Rd w' A m := by
  intro j v hj
  obtain ⟨ad, e, hc⟩ := h j v hj
  exact ⟨ad, e, by rw [← hc]; exact World.cell?_of_block (by rw [addr_add_block]; exact hk (ne_of_get hj) ad e)⟩
theorem rd_lt {w : World} {A : Option Addr} {m : List UInt8} (h : Rd w A m) (hm : m ≠ []) : ∀ ad, A = some ad → ad.block < w.heap.size := by
  intro ad e
  rcases m with _ | ⟨b, m⟩
  · exact absurd rfl hm
  · obtain ⟨ad', e', hc⟩ := h 0 (byt b) rfl
    rw [e] at e'
    cases e'
    have := cell_lt hc
    rwa [addr_add_block] at this

set_option maxHeartbeats 400000 in
theorem kept_any {w : World} {x h : Nat} {r : List UInt8} {s : Nat} (H : Sb w x h r s) (hs : s ≤ 1099511627776) (k : Nat) (hk : s % 8 = k) :
    Calls Try.prog 21 #[.pointer (some ⟨x, 0, none⟩)] w fun e w' => e = .returned (.int .i64 (k : Int)) ∧ w' = w := by
  have c9 := H.cell9
  have HE : Hid ((s : Int) % 8 = (k : Int)) := Lib.hid (by omega)
  clear H hk
  go_enter Try.func21, Try.ntmps21
  go_wp2
  go_ret
  exact ⟨by rw [← HE.out]; rfl, rfl⟩

theorem und_a : Try.prog.underlying 42 = some (.array (Try.prog.arrayLen 42) (Try.prog.elem 42)) := by kernel_rfl
theorem len_a : Try.prog.arrayLen 42 = 8 := by kernel_rfl
theorem elem_a : Try.prog.elem 42 = 5 := by kernel_rfl

theorem arr_lo (x k : Nat) (hk : k < 8) (W : World) : (Instr.sliceAt 42 (.pointer (some ⟨x, 1, none⟩)) (some (.int .i64 (k : Int))) none none).run Try.prog W = .ok (.slice (some ⟨x, 1 + k, none⟩) (8 - k) (8 - k)) W := by
  rw [run_sliceAt_array_l _ _ _ und_a _ _ (by omega) (by rw [len_a]; omega), elem_a, size_b, len_a]
  have h8 : ¬ (8 = k) := by omega
  simp [Result.andThen, slicedAt, h8, Addr.add]
  try omega
theorem arr_all (x : Nat) (W : World) : (Instr.sliceAt 42 (.pointer (some ⟨x, 1, none⟩)) none none none).run Try.prog W = .ok (.slice (some ⟨x, 1, none⟩) 8 8) W := by
  rw [run_sliceAt_array_all _ _ _ und_a, elem_a, size_b, len_a]
  simp [Result.andThen, slicedAt, Addr.add]
theorem arr_hi (x k : Nat) (hk : k ≤ 8) (W : World) : (Instr.sliceAt 42 (.pointer (some ⟨x, 1, none⟩)) none (some (.int .i64 (k : Int))) none).run Try.prog W = .ok (.slice (some ⟨x, 1, none⟩) k 8) W := by
  rw [run_sliceAt_array_h _ _ _ und_a _ _ (by omega) (by rw [len_a]; omega), elem_a, size_b, len_a]
  simp [Result.andThen, slicedAt, Addr.add]

theorem size_one : (Try.prog.info? 5).map (·.size) = some 1 := by
  obtain ⟨i0, hi, _, hz1, _⟩ := info_parts byte_info
  rw [hi]
  simp [hz1]

theorem grown_setRow (w : World) (g : Nat) (cs : Array Value) : w.grownBy (w.setRow g cs) (some g) :=
  ⟨rfl, rfl, rfl, by simp [World.setRow], fun k _ hne => setRow_other w g k cs (fun e => hne (by rw [e]))⟩

/-- copy into the array of a Sum, from place k on. -/
theorem copy_rest {w : World} {x h : Nat} {r : List UInt8} {s : Nat} (H : Sb w x h r s) (k : Nat) (hk : k ≤ 8) (B : Option Addr) (m : List UInt8) (M c : Nat) (hM : m.length = M) (hR : Rd w B m) (n : Nat) (hn : min M (8 - k) = n) :
    ∃ w', (Builtin.copy_ #[22, 22] 3 #[.slice (some ⟨x, 1 + k, none⟩) (8 - k) (8 - k), .slice B M c]).run Try.prog w = .ok (.int .i64 (n : Int)) w' ∧
      Sb w' x h (r.take k ++ (m.take n ++ r.drop (k + n))) s ∧ w.grownBy w' (some x) := by
  have hl := H.len
  by_cases h0 : n = 0
  · refine ⟨w, ?_, ?_, World.grownBy.refl _ _⟩
    · have := run_copy_none (P := Try.prog) w 22 22 3 5 (some ⟨x, 1 + k, none⟩) B (8 - k) (8 - k) M c Try.underlying22 size_one (by rw [← h0, ← hn])
      rw [this, h0]
      try rfl
    · rw [h0, List.take_zero, List.nil_append, Nat.add_zero, List.take_append_drop]
      exact H
  · obtain ⟨ad, rfl⟩ := hR.some_of (fun e => h0 (by rw [← hn, ← hM, List.map_eq_nil_iff.1 e]; simp))
    have hb := H.blk
    unfold sumObj at hb
    have hcs : ((m.take n).map byt).length = n := by simp; omega
    have := run_copy_row (P := Try.prog) w 22 22 3 5 x (1 + k) (8 - k) (8 - k) ad M c _ _ ((m.take n).map byt) Try.underlying22 size_one hb (by rw [hcs, ← hn])
      (by
        intro j v hj
        rw [List.map_take] at hj
        exact (hR.take n).cells j v hj) (by rw [hcs]; simp [hl]; try omega) (byt_one _)
    rw [hcs] at this
    refine ⟨_, this, ⟨?_, H.hlt, ?_⟩, grown_setRow _ _ _⟩
    · simp [hl]; omega
    · rw [setRow_heap w x _ _ _ _ hb]
      unfold sumObj
      congr 2
      have e1 : List.take (1 + k) (Value.int .u64 ((h ^^^ K3 : Nat) : Int) :: (r.map byt ++ [.int .i64 (s : Int)])) = Value.int .u64 ((h ^^^ K3 : Nat) : Int) :: (r.take k).map byt := by
        rw [Nat.add_comm, List.take_succ_cons, List.take_append_of_le_length (by simp [hl]; omega), List.map_take]
      have e2 : List.drop (1 + k + n) (Value.int .u64 ((h ^^^ K3 : Nat) : Int) :: (r.map byt ++ [.int .i64 (s : Int)])) = (r.drop (k + n)).map byt ++ [.int .i64 (s : Int)] := by
        rw [show 1 + k + n = (k + n) + 1 by omega, List.drop_succ_cons, List.drop_append_of_le_length (by simp [hl]; omega), List.map_drop]
      rw [e1, e2]
      simp [List.append_assoc]

set_option maxRecDepth 100000 in
set_option maxHeartbeats 2000000 in
theorem write_b {w : World} {x h : Nat} {r : List UInt8} {s : Nat} (H : Sb w x h r s) (B : Option Addr) (m : List UInt8) (M c : Nat) (hM : m.length = M) (hs : s + M ≤ 1099511627776) (hR : Rd w B m) (hB : m ≠ [] → ∀ ad, B = some ad → ad.block ≠ x) (k : Nat) (hk : s % 8 = k) (hk0 : 0 < k) (hkM : k + M < 8) :
    Calls Try.prog 15 #[.pointer (some ⟨x, 0, none⟩), .slice B M c] w fun e w' => e = .returned (.tuple #[]) ∧ w.grownBy w' (some x) ∧ Sb w' x h (r.take k ++ (m ++ r.drop (k + M))) (s + M) := by
  have c9 := H.cell9
  have f9 := H.free 9
  have KP := Lib.hid (kept_any H (by omega) k hk)
  have H1 := H.set9 (s + M)
  have G1 := Lib.hid (grown_setCell w x 9 (.int .i64 ((s + M : Nat) : Int)))
  have R1 : Rd (w.setCell ⟨x, 9, none⟩ (.int .i64 ((s + M : Nat) : Int))) B m := rd_same hR fun hm ad e => Below.heap_setCell _ _ _ _ (hB hm ad e)
  obtain ⟨w1, hw1⟩ : ∃ w1, w.setCell ⟨x, 9, none⟩ (.int .i64 ((s + M : Nat) : Int)) = w1 := ⟨_, rfl⟩
  rw [hw1] at H1 G1 R1
  have hw1' : w.setCell ⟨x, 9, none⟩ (.int .i64 ((s : Int) + (M : Int))) = w1 := hw1
  obtain ⟨w2, hc, hs2, hg2⟩ := copy_rest H1 k (by omega) B m M c hM R1 M (by omega)
  have HS := Lib.hid hs2
  have HG := Lib.hid hg2
  have s1 := fun W => arr_lo x k (by omega) W
  have hd0 : decide ((0 : Int) < (k : Int)) = true := decide_eq_true (by omega)
  have hd1 : decide ((k : Int) + (M : Int) < 8) = true := decide_eq_true (by omega)
  have HT : Hid (m.take M = m) := Lib.hid (List.take_of_length_le (by omega))
  clear H H1 R1 hR hB hs2 hg2 hw1 hM hk
  go_enter Try.func15, Try.ntmps15
  go_wp2_with (go_at_call 21; refine KP.out.mono ?_; rintro e w' ⟨rfl, rfl⟩)
  refine bodyPost_ret (results_none rfl _ _ _) rfl ?_
  rw [HT.out] at HS
  exact ⟨rfl, grown_trans G1.out HG.out, HS.out⟩

end Go.Proofs.Ytcmfejehlkbmoaa
