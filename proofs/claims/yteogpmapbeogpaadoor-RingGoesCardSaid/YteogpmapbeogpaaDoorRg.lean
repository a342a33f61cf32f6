/-
  A ring in memory, and what its methods that only read do: none, reaches, stretch, Size, Len, Total. Conditions: a distance within the contents, for stretch.
-/
import Derived.Laws.CopyOwn
import Derived.Deep.QuietTactic
import Derived.BigQuiet
import Derived.RegionTactic
import Derived.Lib.SliceRun
import Derived.Test.YteogpmapbeogpaaDoorRng
import Derived.Test.YteogpmapbeogpaaDoorScp
import Derived.Test.YteogpmapbeogpaaDoorMth
namespace Go.Proofs.YteogpmapbeogpaaDoor
open Go.RowKit

/-- The block of a ring. -/
def Rb (w : World) (x lim : Nat) (v : Value) (o t : Nat) : Prop :=
  w.heap[x]? = some (.cells #[.int .i64 (lim : Int), v, .int .i64 (o : Int), .int .i64 (t : Int)] 57 (0, 0))

section
variable {w w' : World} {x lim o t : Nat} {v : Value}
theorem Rb.lt (h : Rb w x lim v o t) : x < w.heap.size := (Array.getElem?_eq_some_iff.1 h).1
theorem Rb.c0 (h : Rb w x lim v o t) : w.cell? ⟨x, 0, none⟩ = some (.int .i64 (lim : Int)) := by rw [cell_of_row w x 0 _ _ _ h]; rfl
theorem Rb.c1 (h : Rb w x lim v o t) : w.cell? ⟨x, 1, none⟩ = some v := by rw [cell_of_row w x 1 _ _ _ h]; rfl
theorem Rb.c2 (h : Rb w x lim v o t) : w.cell? ⟨x, 2, none⟩ = some (.int .i64 (o : Int)) := by rw [cell_of_row w x 2 _ _ _ h]; rfl
theorem Rb.c3 (h : Rb w x lim v o t) : w.cell? ⟨x, 3, none⟩ = some (.int .i64 (t : Int)) := by rw [cell_of_row w x 3 _ _ _ h]; rfl
theorem Rb.free (h : Rb w x lim v o t) (i : Nat) : w.frozen? ⟨x, i, none⟩ = false := by
  unfold Rb at h
  simp [World.frozen?, h]
theorem Rb.same (h : Rb w x lim v o t) (hb : w'.heap[x]? = w.heap[x]?) : Rb w' x lim v o t := hb.trans h
theorem Rb.set1 (h : Rb w x lim v o t) (v' : Value) : Rb (w.setCell ⟨x, 1, none⟩ v') x lim v' o t := by
  unfold Rb at h ⊢
  simp [World.setCell, Array.getElem?_modify, h]
theorem Rb.set2 (h : Rb w x lim v o t) (o' : Nat) : Rb (w.setCell ⟨x, 2, none⟩ (.int .i64 (o' : Int))) x lim v o' t := by
  unfold Rb at h ⊢
  simp [World.setCell, Array.getElem?_modify, h]
theorem Rb.set3 (h : Rb w x lim v o t) (t' : Nat) : Rb (w.setCell ⟨x, 3, none⟩ (.int .i64 (t' : Int))) x lim v o t' := by
  unfold Rb at h ⊢
  simp [World.setCell, Array.getElem?_modify, h]
/-- A row of bytes is never the ring's block. -/
theorem Rb.row_ne (h : Rb w x lim v o t) {base n : Nat} {u : Value} {xs : List Value} (ho : w.ownsRow base 5 1 u n xs) : u.ownBlock ≠ some x := by
  intro he
  rcases ho.2 with ⟨rfl, _⟩ | ⟨g, cp, cur, rfl, _, hh, _⟩
  · cases he
  · injection he with he
    have he' : g = x := he
    subst he'
    unfold Rb at h
    rw [h] at hh
    simp at hh
end

/-- The blocks of a ring. -/
def Fp (x : Nat) (v : Value) : Nat → Prop := fun k => k = x ∨ v.ownBlock = some k

/-- Block x is a ring of size lim with the contents l and the total t; v is its slice. -/
structure Rg (w : World) (x : Nat) (v : Value) (lim : Nat) (l : List UInt8) (t : Nat) : Prop where
  one : 1 ≤ lim
  most : lim ≤ 134217728
  is : ∃ p o, Rb w x lim v o t ∧ w.ownsRow 0 5 1 v p.length (p.map byt) ∧ p.length ≤ lim ∧ o ≤ p.length ∧ o < lim ∧ (p.length < lim → o = 0) ∧ rot o p = l

section
variable {w w' : World} {x lim t : Nat} {v : Value} {l : List UInt8}
theorem Rg.lt (h : Rg w x v lim l t) : x < w.heap.size := by
  obtain ⟨p, o, hb, _⟩ := h.is
  exact hb.lt
theorem Rg.row_lt (h : Rg w x v lim l t) {g : Nat} (hg : v.ownBlock = some g) : g < w.heap.size := by
  obtain ⟨p, o, _, ho, _⟩ := h.is
  exact own_lt ho hg
theorem Rg.fp_lt (h : Rg w x v lim l t) {k : Nat} (hk : Fp x v k) : k < w.heap.size := by
  rcases hk with rfl | hk
  · exact h.lt
  · exact h.row_lt hk
theorem Rg.len (h : Rg w x v lim l t) : l.length ≤ lim := by
  obtain ⟨p, o, _, _, hp, ho, _, _, rfl⟩ := h.is
  rw [rot_len ho]
  exact hp
theorem Rg.same (h : Rg w x v lim l t) (hk : ∀ k, Fp x v k → w'.heap[k]? = w.heap[k]?) : Rg w' x v lim l t := by
  obtain ⟨p, o, hb, ho, hr⟩ := h.is
  exact ⟨h.one, h.most, p, o, hb.same (hk _ (.inl rfl)), own_same ho fun g hg => hk g (.inr hg), hr⟩
theorem Rg.below (h : Rg w x v lim l t) (hb : Below w.heap.size w w') : Rg w' x v lim l t := h.same fun k hk => hb.block k (h.fp_lt hk)
theorem Rg.drewN (h : Rg w x v lim l t) (d : Nat) : Rg (w.drewN d) x v lim l t := h.same fun _ _ => rfl
theorem Rg.chg {S : Nat → Prop} (h : Rg w x v lim l t) (hc : Chg S w w') (hS : ∀ k, Fp x v k → ¬ S k) : Rg w' x v lim l t := h.same fun k hk => hc.block k (h.fp_lt hk) (hS k hk)
end

set_option maxHeartbeats 400000 in
theorem none_no {w : World} {x lim o t : Nat} {v : Value} (h : Rb w x lim v o t) (h1 : 1 ≤ lim) :
    Calls Tryd.prog 36 #[.pointer (some ⟨x, 0, none⟩)] w fun e w' => e = .returned (.bool false) ∧ w' = w := by
  have c0 := h.c0
  have hz : ((lim : Int) == 0) = false := by simp; omega
  clear h
  go_enter Tryd.func36, Tryd.ntmps36
  go_wp2
  go_ret
  exact ⟨rfl, rfl⟩
set_option maxHeartbeats 400000 in
theorem none_zero {w : World} {x o t : Nat} {v : Value} (h : Rb w x 0 v o t) :
    Calls Tryd.prog 36 #[.pointer (some ⟨x, 0, none⟩)] w fun e w' => e = .returned (.bool true) ∧ w' = w := by
  have c0 := h.c0
  clear h
  go_enter Tryd.func36, Tryd.ntmps36
  go_wp2
  go_ret
  exact ⟨rfl, rfl⟩
set_option maxHeartbeats 400000 in
theorem none_nil (w : World) : Calls Tryd.prog 36 #[.pointer none] w fun e w' => e = .returned (.bool true) ∧ w' = w := by
  go_enter Tryd.func36, Tryd.ntmps36
  go_wp2
  go_ret
  exact ⟨rfl, rfl⟩

set_option maxHeartbeats 400000 in
theorem reaches_any {w : World} {x lim o t n c : Nat} {A : Option Addr} (h : Rb w x lim (.slice A n c) o t) (d : Int) (b : Bool) (hb : decide (1 ≤ d ∧ d ≤ (n : Int)) = b) :
    Calls Tryd.prog 45 #[.pointer (some ⟨x, 0, none⟩), .int .i64 d] w fun e w' => e = .returned (.bool b) ∧ w' = w := by
  have c1 := h.c1
  clear h
  rcases Int.lt_or_le d 1 with h1 | h1
  · have hd : decide (1 ≤ d) = false := decide_eq_false (by omega)
    obtain rfl : b = false := by rw [← hb]; exact decide_eq_false (by omega)
    clear hb
    go_enter Tryd.func45, Tryd.ntmps45
    go_wp2
    go_ret
    exact ⟨rfl, rfl⟩
  · have hd : decide (1 ≤ d) = true := decide_eq_true h1
    have hd2 : decide (d ≤ (n : Int)) = b := by rw [← hb]; simp [h1]
    clear hb
    go_enter Tryd.func45, Tryd.ntmps45
    go_wp2
    go_ret
    exact ⟨rfl, rfl⟩

theorem und_b : Tryd.prog.underlying 22 = some (.slice (Tryd.prog.elem 22)) := by kernel_rfl
theorem elem_b : Tryd.prog.elem 22 = 5 := by kernel_rfl
theorem size_b (W : World) : (sizeOf 5).run Tryd.prog W = .ok 1 W := by
  obtain ⟨i0, hi, _, hz1, _⟩ := info_parts byte_info
  simp [sizeOf, typeInfo, hi, hz1]
theorem size_one : (Tryd.prog.info? 5).map (·.size) = some 1 := by
  obtain ⟨i0, hi, _, hz1, _⟩ := info_parts byte_info
  rw [hi]
  simp [hz1]

/-- Where the rest of a slice begins. -/
def off (A : Option Addr) (c n : Nat) : Option Addr := if c = n then A else A.map (·.add n)
theorem slice_lo (A : Option Addr) (N c n : Nat) (h : n ≤ N) (W : World) : (Instr.slice 22 (.slice A N c) (some (.int .i64 (n : Int))) none none).run Tryd.prog W = .ok (.slice (off A c n) (N - n) (c - n)) W := by
  rw [run_slice_l _ _ _ _ _ und_b _ _ (by omega) (by omega), elem_b, size_b]
  simp [Result.andThen, sliced, off]
theorem slice_hm (A : Option Addr) (N c n : Nat) (h : n ≤ c) (W : World) : (Instr.slice 22 (.slice A N c) none (some (.int .i64 (n : Int))) (some (.int .i64 (n : Int)))).run Tryd.prog W = .ok (.slice A n n) W := by
  rw [run_slice_hm _ _ _ _ _ und_b _ _ _ _ (by omega) (by omega) (by omega), elem_b, size_b]
  simp [Result.andThen, sliced]
  intro _
  cases A with
  | none => rfl
  | some a => simp [Addr.add]
theorem slice_mid (A : Option Addr) (N c i m : Nat) (h : i + m ≤ c) (hm : 0 < m) (e : Int) (he : e = ((i + m : Nat) : Int)) (W : World) :
    (Instr.slice 22 (.slice A N c) (some (.int .i64 (i : Int))) (some (.int .i64 e)) (some (.int .i64 e))).run Tryd.prog W = .ok (.slice (A.map (·.add i)) m m) W := by
  subst he
  rw [run_slice_lhm _ _ _ _ _ und_b _ _ _ _ _ _ (by omega) (by omega) (by omega) (by omega), elem_b, size_b]
  have e2 : ((i : Int) + (m : Int)).toNat = i + m := by omega
  simp [Result.andThen, sliced, e2]
  intro h0
  omega
theorem off_rd {w : World} {A : Option Addr} {l : List UInt8} {c n : Nat} (h : Rd w A l) (hc : l.length ≤ c) : Rd w (off A c n) (l.drop n) := by
  unfold off
  by_cases hcn : c = n
  · rw [if_pos hcn, List.drop_of_length_le (by omega)]
    exact Rv.nil _ _
  · rw [if_neg hcn]
    have := Rv.cut h n l.length
    rw [List.take_of_length_le (by simp), ← List.map_drop] at this
    exact this
theorem off_block {A : Option Addr} {c n : Nat} : ∀ ad, off A c n = some ad → ∃ ad0, A = some ad0 ∧ ad.block = ad0.block := by
  intro ad e
  unfold off at e
  split at e
  · exact ⟨ad, e, rfl⟩
  · cases A with
    | none => cases e
    | some a0 =>
      simp at e
      exact ⟨a0, rfl, by rw [← e, addr_add_block]⟩

def StrPost (W : World) (B : Option Addr) (m : Nat) (e : Ending) (w' : World) : Prop := e = .returned (.slice B m m) ∧ ∃ q, w' = W.drewN q

set_option maxRecDepth 100000 in
set_option maxHeartbeats 2000000 in
theorem stretch_walk {W : World} {x n o d s m c : Nat} {A : Option Addr} (c1 : W.cell? ⟨x, 1, none⟩ = some (.slice A n c)) (c2 : W.cell? ⟨x, 2, none⟩ = some (.int .i64 (o : Int))) (hop : o ≤ n) (hd : d ≤ n) (hd0 : 0 < d) (hn : n ≤ 134217728) (hc : n ≤ c) (hs : s = if d ≤ o then o - d else o + n - d) (hm : m = min (s + d) n - s) (e2 : 0 < m) (e4 : s + m ≤ n) :
    Calls Tryd.prog 42 #[.pointer (some ⟨x, 0, none⟩), .int .i64 (d : Int)] W (StrPost W (A.map (·.add s)) m) := by
  have HM : Hid (s + m = min (s + d) n) := Lib.hid (by omega)
  by_cases hdo : d ≤ o
  · rw [if_pos hdo] at hs
    have HS : Hid (o + n - d - n = s ∧ o + n - d - n + d - (o + n - d - n) = m) := Lib.hid (by omega)
    have hge : decide ((n : Int) ≤ (o : Int) + (n : Int) - (d : Int)) = true := decide_eq_true (by omega)
    clear hs hm
    go_enter Tryd.func42, Tryd.ntmps42
    go_wp2
    go_quiet (fail)
    go_wp2
    go_ret
    refine ⟨?_, _, rfl⟩
    have h1 := HS.out.1
    have h2 := HS.out.2
    simp only [h1] at h2
    simp [h1, h2]
  · rw [if_neg hdo] at hs
    have HS : Hid (o + n - d = s ∧ n - (o + n - d) = m) := Lib.hid (by omega)
    have hge : decide ((n : Int) ≤ (o : Int) + (n : Int) - (d : Int)) = false := decide_eq_false (by omega)
    clear hs hm
    go_enter Tryd.func42, Tryd.ntmps42
    go_wp2
    go_quiet (fail)
    go_wp2
    all_goals
      go_ret
      refine ⟨?_, _, rfl⟩
      have h1 := HS.out.1
      have h2 := HS.out.2
      have h3 := HM.out
      simp only [h1] at h2 ⊢
      try simp only [h2]
      try (rw [show ((o : Int) + (n : Int)).toNat - s = m by omega])
      try rfl

/-- What stretch hands back. -/
theorem stretch_any {w : World} {x lim t : Nat} {v : Value} {l : List UInt8} (h : Rg w x v lim l t) (d : Nat) (hd : d ≤ l.length) (hd0 : 0 < d) :
    ∃ B m, 0 < m ∧ m ≤ d ∧ Rd w B ((l.drop (l.length - d)).take m) ∧ (∀ ad, B = some ad → v.ownBlock = some ad.block) ∧
      ∀ W : World, W.heap = w.heap → Calls Tryd.prog 42 #[.pointer (some ⟨x, 0, none⟩), .int .i64 (d : Int)] W fun e w' => e = .returned (.slice B m m) ∧ ∃ q, w' = W.drewN q := by
  have hlim := h.most
  obtain ⟨p, o, hb, ho, hp, hop, hol, hz, hr⟩ := h.is
  obtain ⟨A, c, rfl, hc⟩ := own_form ho
  have hll : l.length = p.length := by rw [← hr, rot_len hop]
  rw [hll] at hd
  obtain ⟨s, hs⟩ : ∃ s, s = if d ≤ o then o - d else o + p.length - d := ⟨_, rfl⟩
  obtain ⟨m, hm⟩ : ∃ m, m = min (s + d) p.length - s := ⟨_, rfl⟩
  obtain ⟨e1, e2, e3, e4⟩ := stretch_eq rfl hop hd hd0 hs hm
  refine ⟨A.map (·.add s), m, e2, e3, ?_, ?_, ?_⟩
  · rw [hll, ← hr, ← e1]
    have := (Rv.of_own ho).cut s m
    rw [← List.map_drop, ← List.map_take] at this
    exact this
  · intro ad e
    rcases ho.2 with ⟨e', _⟩ | ⟨g, c', cur, e', _⟩
    · injection e' with e'
      rw [e'] at e
      cases e
    · injection e' with e'
      rw [e'] at e ⊢
      simp at e
      rw [← e, addr_add_block]
      rfl
  · intro W hW
    have hbW : Rb W x lim (.slice A p.length c) o t := hb.same (by rw [hW])
    exact stretch_walk hbW.c1 hbW.c2 hop hd hd0 (by omega) hc hs hm e2 e4

end Go.Proofs.YteogpmapbeogpaaDoor
