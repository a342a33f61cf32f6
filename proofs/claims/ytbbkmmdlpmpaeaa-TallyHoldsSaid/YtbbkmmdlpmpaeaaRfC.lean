/-
  What the reference's Counts does: the histogram of some bytes, in new memory. Slices of bytes cut, and turned into strings. Conditions: at most 2^31 bytes.
-/
import Derived.StillTailTactics
import Derived.Laws.IdiomStrings
import Derived.Laws.BytesString
import Derived.Test.YtbbkmmdlpmpaeaaRfB
namespace Go.Proofs.Ytbbkmmdlpmpaeaa
open Go.RowKit

theorem conv_bytes (w : World) (A : Option Addr) (l : List UInt8) (N c : Nat) (hN : l.length = N) (h : Rd w A l) : (convert 22 9 (.slice A N c)).run Try.prog w = .ok (.string ⟨l.toArray⟩) w := by
  subst hN
  cases A with
  | none =>
    have hl : l = [] := by
      rcases l with _ | ⟨b, l⟩
      · rfl
      · obtain ⟨ad, e, _⟩ := h 0 (byt b) rfl
        cases e
    subst hl
    rw [run_convert_bytes_string w _ _ 5 _ _ _ Try.underlying22 Try.underlying5 Try.underlying9]
    simp [Conv.bytesToString]
    rfl
  | some ad =>
    refine run_convert_bytes_back w 22 9 5 ad c l Try.underlying22 Try.underlying5 Try.underlying9 (fun j hj => ?_)
    obtain ⟨ad', e, hc⟩ := h j (byt l[j]) (by rw [List.getElem?_map, List.getElem?_eq_getElem hj]; rfl)
    cases e
    exact hc

theorem und_b : Try.prog.underlying 22 = some (.slice (Try.prog.elem 22)) := by kernel_rfl
theorem elem_b : Try.prog.elem 22 = 5 := by kernel_rfl
theorem size_b (W : World) : (sizeOf 5).run Try.prog W = .ok 1 W := by
  obtain ⟨i0, hi, _, hz1, _⟩ := info_parts byte_info
  simp [sizeOf, typeInfo, hi, hz1]
/-- Where the rest of a slice begins. -/
def off (A : Option Addr) (c n : Nat) : Option Addr := if c = n then A else A.map (·.add n)
theorem slice_hi (A : Option Addr) (N c n : Nat) (h : n ≤ c) (W : World) : (Instr.slice 22 (.slice A N c) none (some (.int .i64 (n : Int))) none).run Try.prog W = .ok (.slice A n c) W := by
  rw [run_slice_h _ _ _ _ _ und_b _ _ (by omega) (by omega), elem_b, size_b]
  simp [Result.andThen, sliced]
  intro _
  cases A with
  | none => rfl
  | some a => simp [Addr.add]
theorem slice_lo (A : Option Addr) (N c n : Nat) (h : n ≤ N) (W : World) : (Instr.slice 22 (.slice A N c) (some (.int .i64 (n : Int))) none none).run Try.prog W = .ok (.slice (off A c n) (N - n) (c - n)) W := by
  rw [run_slice_l _ _ _ _ _ und_b _ _ (by omega) (by omega), elem_b, size_b]
  simp [Result.andThen, sliced, off]
theorem slice_cut (A : Option Addr) (N c i m : Nat) (h : i + m ≤ c) (W : World) :
    (Instr.slice 22 (.slice A N c) (some (.int .i64 (i : Int))) (some (.int .i64 ((i : Int) + (m : Int)))) none).run Try.prog W = .ok (.slice (off A c i) m (c - i)) W := by
  rw [run_slice_lh _ _ _ _ _ und_b _ _ _ _ (by omega) (by omega) (by omega), elem_b, size_b]
  have e : ((i : Int) + (m : Int)).toNat = i + m := by omega
  simp [Result.andThen, sliced, e, off]
theorem off_rd {w : World} {A : Option Addr} {l : List UInt8} {c n : Nat} (h : Rd w A l) (hc : l.length ≤ c) : Rd w (off A c n) (l.drop n) := by
  unfold off
  by_cases hcn : c = n
  · rw [if_pos hcn, List.drop_of_length_le (by omega)]
    exact Rv.nil _ _
  · rw [if_neg hcn]
    have := Rv.cut h n l.length
    rw [List.take_of_length_le (by simp), ← List.map_drop] at this
    exact this
theorem cut_rd {w : World} {A : Option Addr} {l : List UInt8} {c n k : Nat} (h : Rd w A l) (hc : l.length ≤ c) : Rd w (off A c n) ((l.drop n).take k) := by
  have := Rv.take (off_rd (n := n) h hc) k
  rw [← List.map_take] at this
  exact this

theorem made_ints (n : Nat) : (madeCells (Value.int .i64 0).cells (n * 1)).toList = (List.replicate n 0).map nv := by
  refine List.ext_getElem? fun j => ?_
  simp only [madeCells, Nat.mul_one, Value.cells]
  rcases Nat.lt_or_ge j n with h | h
  · simp [h, Nat.mod_one]
  · simp [h]
theorem make_ints (n : Nat) (hn : n ≤ 100000) (W : World) : ∃ w1, (Instr.makeSlice 26 (.int .i64 (n : Int)) (.int .i64 (n : Int))).run Try.prog W = .ok (.slice (some ⟨W.heap.size, 0, none⟩) n n) w1 ∧
    w1.ownsRow W.heap.size 3 1 (.slice (some ⟨W.heap.size, 0, none⟩) n n) n ((List.replicate n 0).map nv) ∧ Below W.heap.size W w1 := by
  obtain ⟨i0, hi, hz0, hz1, hz2⟩ := info_parts int_info
  obtain ⟨w1, h1, h2, h3⟩ := run_makeSlice_full (P := Try.prog) W W.heap.size 26 3 i0 (.int .i64 0) 1 Try.underlying26 hi hz0 hz1 .i64 .i64 n (by omega) (by rw [hz2]; omega) (by unfold maxLen; omega) (Nat.le_refl _)
  rw [made_ints] at h2
  exact ⟨w1, h1, h2, (Below.refl _ _).grown h3 (Nat.le_refl _) (fun k e => by cases e)⟩

set_option maxRecDepth 100000 in
set_option maxHeartbeats 1000000 in
theorem rcounts_any (w : World) (A : Option Addr) (l : List UInt8) (N c : Nat) (hN : l.length = N) (hb : N ≤ 1000000) (hR : Rd w A l) :
    Calls Try.prog 16 #[.slice A N c] w fun e w' => e = .returned (.slice (some ⟨w.heap.size, 0, none⟩) 256 256) ∧ w'.ownsRow w.heap.size 3 1 (.slice (some ⟨w.heap.size, 0, none⟩) 256 256) 256 ((hs l).map nv) ∧ Below w.heap.size w w' := by
  have HN := Lib.hid hN
  have HR := Lib.hid hR
  obtain ⟨w1, hmk, ho1, hb1⟩ := make_ints 256 (by omega) w
  have mk : (Instr.makeSlice 26 (.int .i64 256) (.int .i64 256)).run Try.prog w = .ok (.slice (some ⟨w.heap.size, 0, none⟩) 256 256) w1 := hmk
  have O1 := Lib.hid ho1
  have B1 := Lib.hid hb1
  clear hN hR hmk ho1 hb1
  go_enter Try.func16, Try.ntmps16
  go_wp2
  clear mk
  go_loopw [4] (fun p wr => ∃ i : Nat, i ≤ N ∧ p = .int .i64 (i : Int) ∧ Hid (wr.ownsRow w.heap.size 3 1 (.slice (some ⟨w.heap.size, 0, none⟩) 256 256) 256 ((hs (l.take i)).map nv)) ∧ Hid (Below w.heap.size w wr)) (fun p _ => N - (intOf p).toNat)
  case atStart => exact ⟨0, Nat.zero_le _, rfl, O1, B1⟩
  case round =>
    obtain ⟨i, hi, rfl, HO, HB⟩ := hrel
    by_cases hlt : i < N
    · obtain ⟨x, hx⟩ : ∃ x, l[i]? = some x := ⟨_, List.getElem?_eq_getElem (by rw [HN.out]; exact hlt)⟩
      obtain ⟨ad, rfl, hc⟩ := HR.out i (byt x) (by rw [List.getElem?_map, hx]; rfl)
      have hc2 := (HB.out.cell (cell_lt hc)).trans hc
      have HS : Hid (hs (l.take (i + 1)) = hinc (hs (l.take i)) x) := Lib.hid (by rw [take_succ_get hx, hs_snoc])
      have hle := hs_le (l.take i)
      have hln := hs_len (l.take i)
      obtain ⟨h, hh⟩ : ∃ h, hs (l.take i) = h := ⟨_, rfl⟩
      rw [hh] at HO HS hle hln
      unfold hinc at HS
      have hxl := x.toNat_lt
      obtain ⟨y, hy⟩ : ∃ y, x.toNat = y := ⟨_, rfl⟩
      simp only [byt] at hc2
      rw [hy] at HS hc2 hxl
      obtain ⟨z, hz⟩ : ∃ z, h[y]? = some z := ⟨_, List.getElem?_eq_getElem (by omega)⟩
      have hzb : z ≤ 1000000 := by
        have h1 := hle z (List.mem_of_getElem? hz)
        rw [List.length_take] at h1
        omega
      have c3 : wr.cell? ⟨w.heap.size, y, none⟩ = some (.int .i64 (z : Int)) := by rw [HO.out.cellAt y (by omega), List.getElem?_map, hz]; rfl
      have f3 := HO.out.frozenAt y
      rw [hz] at HS
      clear hx hc hle hln hh hy hz
      go_wp2
      refine wp_region_still_tail 17 (by kernel_rfl) (by kernel_rfl) ?_
      change wpStill _ _ wr.drew (fun a' => wpList _ _ _ _ a' wr.drew) _ _
      obtain ⟨w2, hw2⟩ : ∃ w2, wr.drew = w2 := ⟨_, rfl⟩
      rw [hw2]
      replace hc2 : w2.cell? (ad.add i) = some (.int .u8 (y : Int)) := by rw [← hw2]; exact hc2
      replace c3 : w2.cell? ⟨w.heap.size, y, none⟩ = some (.int .i64 (z : Int)) := by rw [← hw2]; exact c3
      replace f3 : w2.frozen? ⟨w.heap.size, y, none⟩ = false := by rw [← hw2]; exact f3
      have HO2 : Hid (w2.ownsRow w.heap.size 3 1 (.slice (some ⟨w.heap.size, 0, none⟩) 256 256) 256 (h.map nv)) := Lib.hid (by rw [← hw2]; exact HO.out)
      have HB2 : Hid (Below w.heap.size w w2) := Lib.hid (by rw [← hw2]; exact HB.out.drew)
      clear hw2 HO HB
      simp only [List.take_succ_cons, List.take_zero, List.drop_succ_cons, List.drop_zero]
      have wy : IntKind.i64.wrap (y : Int) = (y : Int) := IntWalk.i64_in _ (by omega)
      have wz : IntKind.i64.wrap ((z : Int) + 1) = (z : Int) + 1 := IntWalk.i64_in _ (by omega)
      have hdd : 0 ≤ (y : Int) ∧ (y : Int) < 256 := by omega
      repeat still_step
      refine wpStill_nil ?_
      go_wp2
      refine ⟨⟨i + 1, by omega, by simp, Lib.hid ?_, Lib.hid (HB2.out.setCell (p := ⟨w.heap.size, y, none⟩) (Nat.le_refl _) _)⟩, by simp [intOf]; omega⟩
      rw [HS.out, List.map_set, show min (2147483648 : Int) ((z : Int) + 1) = ((z + 1 : Nat) : Int) by omega]
      exact (HO2.out.stored y _).1
    · have HE : Hid (l.take i = l) := Lib.hid (List.take_of_length_le (by rw [HN.out]; omega))
      go_wp2
      go_ret
      exact ⟨rfl, by rw [HE.out] at HO; exact HO.out, HB.out⟩

end Go.Proofs.Ytbbkmmdlpmpaeaa
