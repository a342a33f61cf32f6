/-
  What the reference's readers do: Forward, First, Last. Conditions: at most 200 bytes.
-/
import Derived.Test.YtpjbjbohbdlciaaQRfV
namespace Go.Proofs.Ytpjbjbohbdlciaa.Bt
open Go.RowKit

/-- The block of a reference's reader: the unread bits l, and how many were read. -/
structure Rf (w : World) (y g : Nat) (A : Option Addr) (c : Nat) (l : List Bool) (n : Nat) : Prop where
  blk : w.heap[y]? = some (.cells #[.slice A l.length c, .int .i64 (n : Int)] 106 (0, 0))
  rd : Rb w A l
  cap : l.length ≤ c
  ne : ∀ ad, A = some ad → ad.block = g ∧ g ≠ y ∧ g < w.heap.size

section
variable {w w' : World} {y g : Nat} {A : Option Addr} {c : Nat} {l : List Bool} {n : Nat}
theorem Rf.lt (h : Rf w y g A c l n) : y < w.heap.size := (Array.getElem?_eq_some_iff.1 h.blk).1
theorem Rf.cell0 (h : Rf w y g A c l n) : w.cell? ⟨y, 0, none⟩ = some (.slice A l.length c) := by rw [cell_of_row w y 0 _ _ _ h.blk]; rfl
theorem Rf.cell1 (h : Rf w y g A c l n) : w.cell? ⟨y, 1, none⟩ = some (.int .i64 (n : Int)) := by rw [cell_of_row w y 1 _ _ _ h.blk]; rfl
theorem Rf.free (h : Rf w y g A c l n) (i : Nat) : w.frozen? ⟨y, i, none⟩ = false := by simp [World.frozen?, h.blk]
theorem Rf.same (h : Rf w y g A c l n) (hs : w.heap.size ≤ w'.heap.size) (hb : w'.heap[y]? = w.heap[y]?) (hr : ∀ ad, A = some ad → w'.heap[g]? = w.heap[g]?) : Rf w' y g A c l n :=
  ⟨hb.trans h.blk, h.rd.same (fun ad e => by rw [(h.ne ad e).1]; exact hr ad e), h.cap, fun ad e => ⟨(h.ne ad e).1, (h.ne ad e).2.1, Nat.lt_of_lt_of_le (h.ne ad e).2.2 hs⟩⟩
theorem Rf.below (h : Rf w y g A c l n) (hb : Below w.heap.size w w') : Rf w' y g A c l n :=
  h.same hb.size (hb.block _ h.lt) fun ad e => hb.block _ (h.ne ad e).2.2
theorem Rf.drewN (h : Rf w y g A c l n) (d : Nat) : Rf (w.drewN d) y g A c l n := ⟨h.blk, h.rd, h.cap, h.ne⟩
/-- The reader's two words are stored anew. -/
theorem Rf.set (h : Rf w y g A c l n) (A' : Option Addr) (c' : Nat) (l' : List Bool) (n' : Nat) (m : Nat) (z : Int) (hm : l'.length = m) (hz : z = (n' : Int)) (hrd : Rb w A' l') (hc : l'.length ≤ c') (hA : ∀ ad, A' = some ad → ∃ ad0, A = some ad0 ∧ ad.block = ad0.block) :
    Rf ((w.setCell ⟨y, 0, none⟩ (.slice A' m c')).setCell ⟨y, 1, none⟩ (.int .i64 z)) y g A' c' l' n' ∧ w.grownBy ((w.setCell ⟨y, 0, none⟩ (.slice A' m c')).setCell ⟨y, 1, none⟩ (.int .i64 z)) (some y) := by
  subst hm hz
  have hg : w.grownBy ((w.setCell ⟨y, 0, none⟩ (.slice A' l'.length c')).setCell ⟨y, 1, none⟩ (.int .i64 (n' : Int))) (some y) := grown_trans (grown_setCell _ _ _ _) (grown_setCell _ _ _ _)
  have hne : ∀ ad, A' = some ad → ad.block = g ∧ g ≠ y ∧ g < w.heap.size := by
    intro ad e
    obtain ⟨ad0, e0, hb⟩ := hA ad e
    have := h.ne ad0 e0
    exact ⟨hb.trans this.1, this.2⟩
  refine ⟨⟨?_, hrd.same (fun ad e => hg.block _ (by rw [(hne ad e).1]; exact (hne ad e).2.2) (by rw [(hne ad e).1]; simpa using (hne ad e).2.1)), hc, fun ad e => ⟨(hne ad e).1, (hne ad e).2.1, Nat.lt_of_lt_of_le (hne ad e).2.2 hg.size⟩⟩, hg⟩
  simp [World.setCell, Array.getElem?_modify, h.blk]
end

/-- A reference's reader that a call has made; w0's memory is unchanged. -/
def Rq (w0 w : World) (y g : Nat) (l : List Bool) (n : Nat) : Prop := (∃ A c, Rf w y g A c l n) ∧ Below w0.heap.size w0 w ∧ w0.heap.size ≤ y

theorem elem_bool : Try.prog.elem 32 = 4 := by kernel_rfl
theorem und_bool : Try.prog.underlying 32 = some (.slice (Try.prog.elem 32)) := by rw [elem_bool]; exact Try.underlying32
theorem size_bool (w : World) : (sizeOf 4).run Try.prog w = .ok 1 w := by
  obtain ⟨i0, hi, hz0, hz1, hz2⟩ := info_parts bool_info
  simp [sizeOf, typeInfo, hi, hz1]

/-- Where the rest of a slice begins. -/
def off (A : Option Addr) (c n : Nat) : Option Addr := if c = n then A else A.map (·.add n)
theorem off_rb {w : World} {A : Option Addr} {l : List Bool} {c n : Nat} (h : Rb w A l) (hc : l.length ≤ c) : Rb w (off A c n) (l.drop n) := by
  unfold off
  by_cases hcn : c = n
  · rw [if_pos hcn, List.drop_of_length_le (by omega)]
    exact Rv.nil _ _
  · rw [if_neg hcn]
    have := Rv.cut h n l.length
    rw [List.take_of_length_le (by simp)] at this
    rw [← List.map_drop] at this
    exact this
theorem off_block {A : Option Addr} {c n : Nat} : ∀ ad, off A c n = some ad → ∃ ad0, A = some ad0 ∧ ad.block = ad0.block := by
  intro ad e
  unfold off at e
  split at e
  · exact ⟨ad, e, rfl⟩
  · cases A with
    | none => cases e
    | some a0 =>
      simp at e
      exact ⟨a0, rfl, by rw [← e, addr_add_block]⟩

theorem slice_hi (A : Option Addr) (N c n : Nat) (h : n ≤ c) (W : World) : (Instr.slice 32 (.slice A N c) none (some (.int .i64 (n : Int))) none).run Try.prog W = .ok (.slice A n c) W := by
  rw [run_slice_h _ _ _ _ _ und_bool _ _ (by omega) (by omega), elem_bool, size_bool]
  simp [Result.andThen, sliced]
  intro _
  cases A with
  | none => rfl
  | some a => simp [Addr.add]
theorem slice_lo (A : Option Addr) (N c n : Nat) (h : n ≤ N) (W : World) : (Instr.slice 32 (.slice A N c) (some (.int .i64 (n : Int))) none none).run Try.prog W = .ok (.slice (off A c n) (N - n) (c - n)) W := by
  rw [run_slice_l _ _ _ _ _ und_bool _ _ (by omega) (by omega), elem_bool, size_bool]
  simp [Result.andThen, sliced, off]

set_option maxHeartbeats 1000000 in
theorem first_err {w : World} {y g : Nat} {A : Option Addr} {c : Nat} {l : List Bool} {k : Nat} (h : Rf w y g A c l k) (n : Int) (r : Int) (hr : chk n l.length 3 = r) (hr0 : r ≠ 0) :
    Calls Try.prog 45 #[.pointer (some ⟨y, 0, none⟩), .int .i64 n] w fun e w' => e = .returned (.tuple #[.int .u64 0, .int .i64 r]) ∧ w = w' := by
  have c0 := h.cell0
  obtain ⟨N, hN⟩ : ∃ N, l.length = N := ⟨_, rfl⟩
  rw [hN] at c0 hr
  clear h hN
  by_cases h1 : n < 0
  · obtain rfl : r = 2 := by rw [← hr]; simp [chk, h1]
    have hd : decide (n < 0) = true := decide_eq_true h1
    clear hr
    go_enter Try.func45, Try.ntmps45
    go_wp2
    go_ret2
    exact ⟨rfl, rfl⟩
  · have hd : decide (n < 0) = false := decide_eq_false h1
    by_cases h2 : 64 < n
    · obtain rfl : r = 2 := by rw [← hr]; simp [chk, h2]
      have hd2 : decide (64 < n) = true := decide_eq_true h2
      clear hr
      go_enter Try.func45, Try.ntmps45
      go_wp2
      go_ret2
      exact ⟨rfl, rfl⟩
    · have hd2 : decide (64 < n) = false := decide_eq_false h2
      have h3 : (N : Int) < n := by
        rcases Int.lt_or_le (N : Int) n with h | h
        · exact h
        · exfalso
          apply hr0
          rw [← hr, chk, if_neg (by omega), if_neg (by omega)]
      obtain rfl : r = 3 := by rw [← hr, chk, if_neg (by omega), if_pos h3]
      have hd3 : decide ((N : Int) < n) = true := decide_eq_true h3
      clear hr
      go_enter Try.func45, Try.ntmps45
      go_wp2
      go_ret2
      exact ⟨rfl, rfl⟩

/-- Bits have been read: the value V; what is left. -/
def RTook (w : World) (y g : Nat) (V : Nat) (l : List Bool) (k : Nat) (r : Ending) (w' : World) : Prop :=
  r = .returned (.tuple #[.int .u64 (V : Int), .int .i64 0]) ∧ (∃ A c, Rf w' y g A c l k) ∧ w.grownBy w' (some y)

set_option maxRecDepth 100000 in
set_option maxHeartbeats 2000000 in
theorem first_ok {w : World} {y g : Nat} {A : Option Addr} {c : Nat} {l : List Bool} {k : Nat} (h : Rf w y g A c l k) (hk : k ≤ 8796093022208) (n : Nat) (hn : n ≤ 64) (hl : n ≤ l.length) :
    Calls Try.prog 45 #[.pointer (some ⟨y, 0, none⟩), .int .i64 (n : Int)] w (RTook w y g (val (l.take n)) (l.drop n) (k + n)) := by
  have c0 := h.cell0
  have c1 := h.cell1
  have f0 := h.free 0
  have f1 := h.free 1
  have H := Lib.hid h
  have hcap := h.cap
  obtain ⟨N, hN⟩ : ∃ N, l.length = N := ⟨_, rfl⟩
  rw [hN] at c0 hl hcap
  have HN := Lib.hid hN
  have s1 := fun W => slice_hi A N c n (by omega) W
  have s2 := fun W => slice_lo A N c n hl W
  have VL := Lib.hid (fun (cc : Nat) => rvalue_any w A (l.take n) n cc (by rw [List.length_take, hN]; omega) hn (by have := Rv.take h.rd n; rw [← List.map_take] at this; exact this))
  obtain ⟨B, hB⟩ : ∃ B, off A c n = B := ⟨_, rfl⟩
  simp only [hB] at s2
  have RB : Hid (Rb w B (l.drop n) ∧ ∀ ad, B = some ad → ∃ ad0, A = some ad0 ∧ ad.block = ad0.block) := Lib.hid (by rw [← hB]; exact ⟨off_rb h.rd h.cap, off_block⟩)
  obtain ⟨V, hV⟩ : ∃ V, val (l.take n) = V := ⟨_, rfl⟩
  simp only [hV] at VL
  rw [hV]
  have hd : decide ((n : Int) < 0) = false := decide_eq_false (by omega)
  have hd2 : decide ((64 : Int) < (n : Int)) = false := decide_eq_false (by omega)
  have hd3 : decide ((N : Int) < (n : Int)) = false := decide_eq_false (by omega)
  clear h hN hB hV
  go_enter Try.func45, Try.ntmps45
  go_wp2_with fail
  refine (VL.out _).mono ?_
  rintro e w1 ⟨rfl, rfl⟩
  clear VL
  go_wp2_with fail
  go_ret2
  exact ⟨rfl, (fun x => ⟨⟨_, _, x.1⟩, x.2⟩) (H.out.set B (c - n) (l.drop n) (k + n) (N - n) _ (by rw [List.length_drop, HN.out]) (by simp) RB.out.1 (by rw [List.length_drop, HN.out]; omega) RB.out.2)⟩

/-- A new reader of the reference. -/
def RMade (w : World) (l : List Bool) (y : Nat) (w' : World) : Prop := ∃ g A c, Rf w' y g A c l 0 ∧ Below w.heap.size w w' ∧ w.heap.size ≤ y ∧ w.heap.size ≤ g

theorem rmade_mk {w w1 : World} {l l' : List Bool} {A : Option Addr} {n c c' : Nat} (ho : w1.ownsRow w.heap.size 4 1 (.slice A n c) n (l.map Value.bool)) (hb : Below w.heap.size w w1) (hl : ∃ r, l = l' ++ r) (m : Nat) (hm : l'.length = m) (hc : l'.length ≤ c') :
    RMade w l' w1.heap.size (w1.alloc (.cells #[.slice A m c', .int .i64 0] 106)) := by
  subst hm
  obtain ⟨r, rfl⟩ := hl
  have hlt : ∀ ad, A = some ad → w.heap.size ≤ ad.block ∧ ad.block < w1.heap.size := by
    intro ad e
    subst e
    have h1 : Value.ownBlock (.slice (some ad) n c) = some ad.block := rfl
    exact ⟨(ho.lt _ h1).1, own_lt ho h1⟩
  have hb2 : Below w1.heap.size w1 (w1.alloc (.cells #[.slice A l'.length c', .int .i64 0] 106)) := (Below.refl _ _).alloc (Nat.le_refl _) _
  have hrd : Rb w1 A l' := by
    have := Rv.take (Rv.of_own ho) l'.length
    rw [← List.map_take, List.take_left] at this
    exact this
  refine ⟨(A.map (·.block)).getD w1.heap.size, A, c', ⟨heap_alloc_new w1 _, hrd.below hb2, hc, fun ad e => ?_⟩, below_on hb (Nat.le_refl _) hb2, hb.size, ?_⟩
  · subst e
    have := hlt ad rfl
    refine ⟨rfl, ?_, ?_⟩
    · simp; omega
    · rw [World.size_alloc]; simp; omega
  · cases A with
    | none => exact hb.size
    | some ad => exact (hlt ad rfl).1

set_option maxHeartbeats 1000000 in
theorem rforward_any (w : World) (A : Option Addr) (D : List UInt8) (N cap : Nat) (hN : D.length = N) (hs : N ≤ 500) (hR : Rd w A D) :
    Calls Try.prog 44 #[.slice A N cap] w fun r w' => ∃ y, r = .returned (.pointer (some ⟨y, 0, none⟩)) ∧ RMade w (unp D) y w' := by
  have RW := Lib.hid (row_any w A D N cap hN hs hR)
  obtain ⟨K, hK⟩ : ∃ K, (unp D).length = K := ⟨_, rfl⟩
  have HK := Lib.hid hK
  clear hN hR hK
  go_enter Try.func44, Try.ntmps44
  go_wp2_with fail
  refine RW.out.mono ?_
  rintro e w1 ⟨A1, c1, rfl, ho, hb⟩
  rw [HK.out] at ho ⊢
  obtain ⟨_, _, hv, hle⟩ := own_form ho
  cases hv
  have O1 := Lib.hid (And.intro ho hle)
  have B1 := Lib.hid hb
  clear ho hb RW hle
  go_wp2
  go_ret
  exact ⟨_, rfl, rmade_mk O1.out.1 B1.out ⟨[], by simp⟩ K HK.out (by rw [HK.out]; exact O1.out.2)⟩

/-- The bits that are skipped are all 0. -/
theorem val_zero : ∀ l : List Bool, val l = 0 ↔ ∀ (i : Nat) (b : Bool), l[i]? = some b → b = false
  | [] => by simp [val]
  | x :: l => by
    have ih := val_zero l
    rw [val]
    constructor
    · intro h i b hb
      rcases i with _ | i
      · simp at hb
        subst hb
        cases x
        · rfl
        · simp at h
      · simp at hb
        exact ih.1 (by omega) i b hb
    · intro h
      have h0 := h 0 x rfl
      subst h0
      have h1 : val l = 0 := ih.2 fun i b hb => h (i + 1) b (by simpa using hb)
      simp [h1]

/-- Align of the reference: it moves. -/
def WGood (w : World) (y g : Nat) (k : Nat) (l : List Bool) (r : Ending) (w' : World) : Prop :=
  r = .returned (.tuple #[.int .i64 (k : Int), .int .i64 0]) ∧ (∃ A c, Rf w' y g A c l (8 * k)) ∧ w.grownBy w' (some y)

set_option maxRecDepth 100000 in
set_option maxHeartbeats 4000000 in
theorem whole_good {w : World} {y g : Nat} {A : Option Addr} {c : Nat} {l : List Bool} {s : Nat} (h : Rf w y g A c l s) (hs : s ≤ 8796093022208) (k m : Nat) (hk : (s + 7) / 8 = k) (hm : s + m = 8 * k) (hl : m ≤ l.length) (hz : val (l.take m) = 0) :
    Calls Try.prog 47 #[.pointer (some ⟨y, 0, none⟩)] w (WGood w y g k (l.drop m)) := by
  have c0 := h.cell0
  have c1 := h.cell1
  have f0 := h.free 0
  have f1 := h.free 1
  have H := Lib.hid h
  have hcap := h.cap
  have HZ := Lib.hid ((val_zero _).1 hz)
  obtain ⟨N, hN⟩ : ∃ N, l.length = N := ⟨_, rfl⟩
  rw [hN] at c0 hl hcap
  have HN := Lib.hid hN
  have s2 := fun W => slice_lo A N c m hl W
  obtain ⟨B, hB⟩ : ∃ B, off A c m = B := ⟨_, rfl⟩
  simp only [hB] at s2
  have RB : Hid (Rb w B (l.drop m) ∧ ∀ ad, B = some ad → ∃ ad0, A = some ad0 ∧ ad.block = ad0.block) := Lib.hid (by rw [← hB]; exact ⟨off_rb h.rd h.cap, off_block⟩)
  have HM := Lib.hid hm
  have HKK := Lib.hid hk
  have hm8 : m < 8 := by omega
  clear h hN hB hz hk hm
  go_enter Try.func47, Try.ntmps47
  go_wp2_with fail
  go_loopw [4] (fun b wr => (∃ i : Nat, i ≤ m ∧ b = .int .i64 (i : Int)) ∧ w = wr) (fun b _ => m - (intOf b).toNat)
  case atStart => exact ⟨⟨0, by omega, rfl⟩, rfl⟩
  case round =>
    obtain ⟨⟨i, hi, rfl⟩, hw⟩ := hrel
    subst hw
    by_cases hlt : i < m
    · obtain ⟨b, hb⟩ : ∃ b, l[i]? = some b := ⟨_, List.getElem?_eq_getElem (by rw [HN.out]; omega)⟩
      have hbf : b = false := HZ.out i b (by rw [List.getElem?_take_of_lt hlt]; exact hb)
      subst hbf
      obtain ⟨ad, hA, hc⟩ := H.out.rd i (.bool false) (by rw [List.getElem?_map, hb]; rfl)
      subst hA
      have hmod : (((s : Int) + (i : Int)) % 8 != 0) = true := by have := HM.out; simp; omega
      have hiN : i < N := by omega
      clear hb
      go_wp2_with fail
      exact ⟨⟨⟨i + 1, by omega, by simp⟩, by trivial⟩, by simp [intOf]; omega⟩
    · have hie : m = i := by omega
      subst hie
      have hmod : (((s : Int) + (m : Int)) % 8 != 0) = false := by have := HM.out; simp; omega
      have HDV : Hid (((s : Int) + (m : Int)) / 8 = (k : Int)) := Lib.hid (by have := HM.out; omega)
      clear hlt hi
      go_wp2_with fail
      go_ret2
      exact ⟨by rw [← HDV.out]; rfl, (fun x => ⟨⟨_, _, x.1⟩, x.2⟩) (H.out.set B (c - m) (l.drop m) (8 * k) (N - m) ((s : Int) + (m : Int)) (by rw [List.length_drop, HN.out]) (by have := HM.out; omega) RB.out.1 (by rw [List.length_drop, HN.out]; omega) RB.out.2)⟩

set_option maxRecDepth 100000 in
set_option maxHeartbeats 4000000 in
theorem whole_bad {w : World} {y g : Nat} {A : Option Addr} {c : Nat} {l : List Bool} {s : Nat} (h : Rf w y g A c l s) (hs : s ≤ 8796093022208) (m : Nat) (hm : m < 8) (hm2 : ∀ i, i < m → (s + i) % 8 ≠ 0) (hl : m ≤ l.length) (hz : val (l.take m) ≠ 0) :
    Calls Try.prog 47 #[.pointer (some ⟨y, 0, none⟩)] w fun e w' => e = .returned (.tuple #[.int .i64 0, .int .i64 14]) ∧ w = w' := by
  have c0 := h.cell0
  have c1 := h.cell1
  have H := Lib.hid h
  have hcap := h.cap
  have HZ := Lib.hid hz
  obtain ⟨N, hN⟩ : ∃ N, l.length = N := ⟨_, rfl⟩
  rw [hN] at c0 hl hcap
  have HN := Lib.hid hN
  have HM2 := Lib.hid hm2
  clear h hN hz hm2
  go_enter Try.func47, Try.ntmps47
  go_wp2_with fail
  go_loopw [4] (fun b wr => (∃ i : Nat, i ≤ m ∧ b = .int .i64 (i : Int) ∧ Hid (∀ j, j < i → l[j]? = some false)) ∧ w = wr) (fun b _ => m - (intOf b).toNat)
  case atStart => exact ⟨⟨0, by omega, rfl, Lib.hid (fun j h => by omega)⟩, rfl⟩
  case round =>
    obtain ⟨⟨i, hi, rfl, HF⟩, hw⟩ := hrel
    subst hw
    have hlt : i < m := by
      rcases Nat.lt_or_ge i m with h | h
      · exact h
      · exfalso
        apply HZ.out
        refine (val_zero _).2 fun j b hb => ?_
        have hjm : j < m := by
          rcases Nat.lt_or_ge j m with h1 | h1
          · exact h1
          · rw [List.getElem?_eq_none (by simp; omega)] at hb; cases hb
        rw [List.getElem?_take_of_lt hjm, HF.out j (by omega)] at hb
        cases hb
        rfl
    obtain ⟨b, hb⟩ : ∃ b, l[i]? = some b := ⟨_, List.getElem?_eq_getElem (by rw [HN.out]; omega)⟩
    obtain ⟨ad, hA, hc⟩ := H.out.rd i (.bool b) (by rw [List.getElem?_map, hb]; rfl)
    subst hA
    have hmod : (((s : Int) + (i : Int)) % 8 != 0) = true := by have := HM2.out i hlt; simp; omega
    have hiN : i < N := by omega
    have HBB := Lib.hid hb
    clear hb
    cases b
    · go_wp2_with fail
      exact ⟨⟨⟨i + 1, by omega, by simp, Lib.hid (fun j hj => by
        by_cases hji : j = i
        · rw [hji]; exact HBB.out
        · exact HF.out j (by omega))⟩, by trivial⟩, by simp [intOf]; omega⟩
    · go_wp2
      go_ret2
      exact ⟨rfl, rfl⟩

end Go.Proofs.Ytpjbjbohbdlciaa.Bt
