/-
  What tally.Histogram does: it returns the histogram of the concatenation of its arguments. Nothing that was there has changed. Condition: at most 2^31 bytes.
-/
import Derived.Laws.Tables
import Derived.Test.YtdlhfcapfbbjjaaChk
import Derived.Test.YtdlhfcapfbbjjaaIns
namespace Go.Proofs.Ytdlhfcapfbbjjaa
open Go.RowKit

/-- One byte counted. -/
def hinc (h : List Nat) (b : UInt8) : List Nat := h.set b.toNat (h[b.toNat]?.getD 0 + 1)
/-- The histogram of some bytes. -/
def hs (l : List UInt8) : List Nat := l.foldl hinc (List.replicate 256 0)
theorem hs_append (l m : List UInt8) : hs (l ++ m) = m.foldl hinc (hs l) := by rw [hs, List.foldl_append, hs]
theorem hs_snoc (l : List UInt8) (b : UInt8) : hs (l ++ [b]) = hinc (hs l) b := by rw [hs_append]; rfl
theorem hinc_len (h : List Nat) (b : UInt8) : (hinc h b).length = h.length := by simp [hinc]
theorem foldl_hinc_len (l : List UInt8) (h : List Nat) : (l.foldl hinc h).length = h.length := by
  induction l generalizing h with
  | nil => rfl
  | cons b l ih => rw [List.foldl_cons, ih, hinc_len]
theorem hs_len (l : List UInt8) : (hs l).length = 256 := by rw [hs, foldl_hinc_len, List.length_replicate]
theorem foldl_hinc_le (l : List UInt8) (h : List Nat) (c : Nat) (hc : ∀ x ∈ h, x ≤ c) : ∀ x ∈ l.foldl hinc h, x ≤ c + l.length := by
  induction l generalizing h c with
  | nil => simpa using hc
  | cons b l ih =>
    intro x hx
    have := ih (hinc h b) (c + 1) (fun y hy => by
      rcases List.mem_or_eq_of_mem_set hy with hy | rfl
      · have := hc y hy; omega
      · cases hg : h[b.toNat]? with
        | none => simp
        | some z => have := hc z (List.mem_of_getElem? hg); simp; omega) x hx
    simp; omega
theorem hs_le (l : List UInt8) : ∀ x ∈ hs l, x ≤ l.length := by
  have := foldl_hinc_le l (List.replicate 256 0) 0 (fun x hx => by rw [List.eq_of_mem_replicate hx]; exact Nat.le_refl _)
  intro x hx
  have h2 := this x hx
  omega

/-- An array of 256 counts. -/
def Ab (W : World) (b : Nat) (h : List Nat) : Prop := h.length = 256 ∧ W.heap[b]? = some (.cells (h.map nv).toArray 58 (0, 0))
section
variable {W W' : World} {b : Nat} {h : List Nat}
theorem Ab.lt (H : Ab W b h) : b < W.heap.size := (Array.getElem?_eq_some_iff.1 H.2).1
theorem Ab.cell (H : Ab W b h) {i x : Nat} (hi : h[i]? = some x) : W.cell? ⟨b, i, none⟩ = some (.int .i64 (x : Int)) := by
  rw [cell_of_row W b i _ _ _ H.2, List.getElem?_toArray, List.getElem?_map, hi]; rfl
theorem Ab.free (H : Ab W b h) (i : Nat) : W.frozen? ⟨b, i, none⟩ = false := by
  have := H.2
  simp [World.frozen?, this]
theorem Ab.set (H : Ab W b h) (i x : Nat) : Ab (W.setCell ⟨b, i, none⟩ (.int .i64 (x : Int))) b (h.set i x) := by
  refine ⟨by rw [List.length_set]; exact H.1, ?_⟩
  have hb := H.2
  simp [World.setCell, Array.getElem?_modify, hb, List.map_set]
theorem Ab.rn (H : Ab W b h) : Rn W (some ⟨b, 0, none⟩) h := by
  intro j v hj
  refine ⟨_, rfl, ?_⟩
  rw [List.getElem?_map] at hj
  obtain ⟨x, hx, rfl⟩ := Option.map_eq_some_iff.1 hj
  have e : (Addr.add ⟨b, 0, none⟩ j) = ⟨b, j, none⟩ := by
    unfold Addr.add
    by_cases h0 : j = 0
    · rw [if_pos h0, h0]
    · rw [if_neg h0]; simp
  rw [e]
  exact H.cell hx
end

/-- The slices of a slice of slices: where each lies, its bytes, its capacity. -/
def RdR (w : World) (A : Option Addr) (ls : List (Option Addr × List UInt8 × Nat)) : Prop :=
  ∀ j B m c, ls[j]? = some (B, m, c) → ∃ ad, A = some ad ∧ w.cell? (ad.add j) = some (.slice B m.length c) ∧ m.length ≤ c ∧ Rd w B m
/-- All bytes of the first i slices. -/
def flt (ls : List (Option Addr × List UInt8 × Nat)) (i : Nat) : List UInt8 := ((ls.take i).map (·.2.1)).flatten
theorem flt_zero (ls : List (Option Addr × List UInt8 × Nat)) : flt ls 0 = [] := by simp [flt]
theorem flt_succ {ls : List (Option Addr × List UInt8 × Nat)} {i : Nat} {B : Option Addr} {m : List UInt8} {c : Nat} (h : ls[i]? = some (B, m, c)) : flt ls (i + 1) = flt ls i ++ m := by
  unfold flt; rw [take_succ_get h]; simp
theorem flt_le (ls : List (Option Addr × List UInt8 × Nat)) (i : Nat) : (flt ls i).length ≤ (flt ls ls.length).length := by
  have : flt ls ls.length = flt ls i ++ ((ls.drop i).map (·.2.1)).flatten := by
    unfold flt
    rw [List.take_length, ← List.flatten_append, ← List.map_append, List.take_append_drop]
  rw [this]; simp

theorem zero_arr : Try.zeroCells58 = ((List.replicate 256 0).map nv).toArray := by kernel_rfl
theorem arr_und : Try.prog.underlying 58 = some (.array 256 3) := by kernel_rfl
theorem arr_size : (Try.prog.info? 58).map (·.size) = some 256 := by kernel_rfl
theorem arr_index {h : List Nat} {s x : Nat} (hl : h.length = 256) (hx : h[s]? = some x) (W : World) : (Instr.index 58 (.agg (h.map nv).toArray) (.int .i64 (s : Int))).run Try.prog W = .ok (.int .i64 (x : Int)) W := by
  have hs : s < 256 := by have := (List.getElem?_eq_some_iff.1 hx).1; omega
  have e : (h.map nv)[s]? = some (.int .i64 (x : Int)) := by rw [List.getElem?_map, hx]; rfl
  have hl' : s < (h.map nv).length := by rw [List.length_map]; omega
  have e2 : (h.map nv)[s] = .int .i64 (x : Int) := (List.getElem?_eq_some_iff.1 e).2
  simp [Instr.index, run_underlying arr_und, asIntOf, part, go_sem, hs, hl, Result.andThen] at e2 ⊢
  exact e2
theorem Ab.load {W : World} {b : Nat} {h : List Nat} (H : Ab W b h) : (loadVar 58 ⟨b, 0, none⟩).run Try.prog W = .ok (.agg (h.map nv).toArray) W :=
  run_loadVar_row W b 58 58 _ (0, 0) _ H.2 arr_und rfl (by rw [arr_size]; simp [H.1])

set_option maxRecDepth 100000 in
set_option maxHeartbeats 1000000 in
theorem histogram_any (w : World) (A : Option Addr) (ls : List (Option Addr × List UInt8 × Nat)) (N c : Nat) (hN : ls.length = N) (hNN : N ≤ 1048576) (hb : (flt ls N).length ≤ 2147483648) (hR : RdR w A ls) :
    Calls Try.prog 15 #[.slice A N c] w fun e w' => e = .returned (.slice (some ⟨w.heap.size, 0, none⟩) 256 256) ∧ Ab w' w.heap.size (hs (flt ls N)) ∧ Below w.heap.size w w' := by
  go_enter Try.func15, Try.ntmps15
  have A0 : Hid (Ab (w.alloc (.cells Try.zeroCells58 58)) w.heap.size (hs (flt ls 0))) := Lib.hid ⟨hs_len _, by rw [flt_zero, zero_arr]; exact World.alloc_heap_new w _⟩
  have B0 : Hid (Below w.heap.size w (w.alloc (.cells Try.zeroCells58 58))) := Lib.hid ((Below.refl _ w).alloc (Nat.le_refl _) _)
  have HN := Lib.hid hN
  have HR := Lib.hid hR
  have HBT := Lib.hid hb
  clear hN hR hb
  go_wp2
  go_loopw [12] (fun p wr => ∃ i : Nat, i ≤ N ∧ p = .int .i64 (i : Int) ∧ Hid (Ab wr w.heap.size (hs (flt ls i))) ∧ Hid (Below w.heap.size w wr)) (fun p _ => N - (intOf p).toNat)
  case atStart => exact ⟨0, Nat.zero_le _, rfl, A0, B0⟩
  case round =>
    obtain ⟨i, hi, rfl, HA, HB⟩ := hrel
    by_cases hlt : i < N
    · obtain ⟨B, m, cc, hrow⟩ : ∃ B m cc, ls[i]? = some (B, m, cc) := ⟨_, _, _, List.getElem?_eq_getElem (by rw [HN.out]; exact hlt)⟩
      obtain ⟨ad, rfl, hcell, hmc, hrd⟩ := HR.out i B m cc hrow
      have HF := Lib.hid (flt_succ hrow)
      have HL := Lib.hid (flt_le ls (i + 1))
      obtain ⟨M, hM⟩ : ∃ M, m.length = M := ⟨_, rfl⟩
      rw [hM] at hcell hmc
      have HM := Lib.hid hM
      have RM := Lib.hid hrd
      have c0 : wr.cell? (ad.add i) = some (.slice B M cc) := (HB.out.cell (cell_lt hcell)).trans hcell
      have hMb : M ≤ 2147483648 := by
        have h1 := HL.out
        have h2 := HBT.out
        rw [HF.out, List.length_append, hM, HN.out] at h1
        omega
      clear hrow hcell hM hrd
      go_wp2
      go_loopw [18] (fun p wr => ∃ j : Nat, j ≤ M ∧ p = .int .i64 (j : Int) ∧ Hid (Ab wr w.heap.size (hs (flt ls i ++ m.take j))) ∧ Hid (Below w.heap.size w wr)) (fun p _ => M - (intOf p).toNat)
      case atStart => exact ⟨0, Nat.zero_le _, rfl, Lib.hid (by simpa using HA.out), HB⟩
      case round =>
        obtain ⟨j, hj, rfl, HA2, HB2⟩ := hrel
        by_cases hlj : j < M
        · obtain ⟨x, hx⟩ : ∃ x, m[j]? = some x := ⟨_, List.getElem?_eq_getElem (by rw [HM.out]; exact hlj)⟩
          obtain ⟨ad2, rfl, hc2⟩ := RM.out j (byt x) (by rw [List.getElem?_map, hx]; rfl)
          have c2 : wr.cell? (ad2.add j) = some (byt x) := (HB2.out.cell (cell_lt hc2)).trans hc2
          have HS : Hid (hs (flt ls i ++ m.take (j + 1)) = hinc (hs (flt ls i ++ m.take j)) x) := Lib.hid (by rw [take_succ_get hx, ← List.append_assoc, hs_snoc])
          have hxl := x.toNat_lt
          have hle := hs_le (flt ls i ++ m.take j)
          obtain ⟨h, hh⟩ : ∃ h, hs (flt ls i ++ m.take j) = h := ⟨_, rfl⟩
          rw [hh] at HA2 HS hle
          unfold hinc at HS
          obtain ⟨y, hy⟩ : ∃ y, x.toNat = y := ⟨_, rfl⟩
          simp only [byt] at c2
          rw [hy] at HS c2 hxl
          obtain ⟨z, hz⟩ : ∃ z, h[y]? = some z := ⟨_, List.getElem?_eq_getElem (by rw [HA2.out.1]; omega)⟩
          have c3 := HA2.out.cell hz
          have f3 := HA2.out.free y
          have hzb : z ≤ 2147483648 := by
            have h1 := hle z (List.mem_of_getElem? hz)
            have h2 := HL.out
            have h3 := HBT.out
            rw [HF.out, List.length_append, HM.out, HN.out] at h2
            rw [List.length_append, List.length_take] at h1
            omega
          rw [hz] at HS
          have HX := Lib.hid hx
          clear hx hc2 hle hh hy hz
          go_wp2
          refine ⟨⟨j + 1, by omega, by simp, Lib.hid (by rw [HS.out]; exact HA2.out.set y (z + 1)), Lib.hid (HB2.out.setCell (p := ⟨w.heap.size, y, none⟩) (Nat.le_refl _) _)⟩, by simp [intOf]; omega⟩
        · have HE : Hid (flt ls (i + 1) = flt ls i ++ m.take j) := Lib.hid (by rw [HF.out, List.take_of_length_le (by rw [HM.out]; omega)])
          go_wp2
          refine ⟨⟨i + 1, by omega, by simp, Lib.hid (by rw [HE.out]; exact HA2.out), HB2⟩, by simp [intOf]; omega⟩
    · have HE : Hid (flt ls N = flt ls i) := Lib.hid (by rw [show N = i by omega])
      have hld := HA.out.load
      have hle := hs_le (flt ls i)
      obtain ⟨h, hh⟩ : ∃ h, hs (flt ls i) = h := ⟨_, rfl⟩
      rw [hh] at HA hld hle
      have HH := Lib.hid hh
      have HLE := Lib.hid hle
      have hlen := HA.out.1
      clear hh hle
      go_wp2
      simp only [Oper.wp, execOp, Act.eval, Instr.loadAt, Instr.sureAddr, Sem.run_bind, Sem.run_pure, Result.andThen]
      simp [hld, Oper.upon]
      clear hld
      go_wp2
      go_loopw [30] (fun p wr => ∃ i : Nat, i ≤ 256 ∧ p = .int .i64 (i : Int) ∧ Hid (Ab wr w.heap.size h) ∧ Hid (Below w.heap.size w wr)) (fun p _ => 256 - (intOf p).toNat)
      case atStart => exact ⟨0, Nat.zero_le _, rfl, HA, HB⟩
      case round =>
        clear HA HB
        obtain ⟨s, hs, rfl, HA, HB⟩ := hrel
        by_cases hsl : s < 256
        · obtain ⟨x, hx⟩ : ∃ x, h[s]? = some x := ⟨_, List.getElem?_eq_getElem (by omega)⟩
          have hxb : x ≤ 2147483648 := by
            have h1 := HLE.out x (List.mem_of_getElem? hx)
            have h2 := HBT.out
            rw [HE.out] at h2
            omega
          have ix := fun W => arr_index (h := h) hlen hx W
          have f3 := HA.out.free s
          have c3 := HA.out.cell hx
          have HSET : Hid (h.set s x = h) := Lib.hid (by
            refine List.ext_getElem? fun q => ?_
            rw [List.getElem?_set]
            split
            · next e => subst e; rw [if_pos (by omega), hx]
            · rfl)
          clear hx
          go_wp2
          exact ⟨⟨s + 1, by omega, by simp, Lib.hid (by have := HA.out.set s x; rw [HSET.out] at this; exact this), Lib.hid (HB.out.setCell (p := ⟨w.heap.size, s, none⟩) (Nat.le_refl _) _)⟩, by simp [intOf]; omega⟩
        · go_wp2
          go_ret
          exact ⟨rfl, by rw [HE.out, HH.out]; exact HA.out, HB.out⟩

end Go.Proofs.Ytdlhfcapfbbjjaa
