/-
  Words for ints and norms in a row; a table as a value and as a block. No condition beyond those that each theorem states.
-/
import Derived.Test.YtpjbjbohbdlciaaRng
namespace Go.Proofs.Ytpjbjbohbdlciaa
open Go.RowKit Go.Shelf

abbrev iv (z : Int) : Value := .int .i64 z
abbrev nv (n : Nat) : Value := .int .i64 (n : Int)
abbrev Ri (w : World) (A : Option Addr) (l : List Int) : Prop := Rv w A (l.map iv)
abbrev Rn (w : World) (A : Option Addr) (k : List Nat) : Prop := Rv w A (k.map nv)
theorem ri_nats (k : List Nat) : (k.map (fun n : Nat => (n : Int))).map iv = k.map nv := by rw [List.map_map]; rfl
theorem take_succ_get {α : Type} {l : List α} {i : Nat} {z : α} (h : l[i]? = some z) : l.take (i + 1) = l.take i ++ [z] := by
  rw [List.take_add_one, h]; rfl

/-- A table as a value and as a block. -/
abbrev tb (z : Int) (A : Option Addr) (n c : Nat) : Value := .agg #[.int .i64 z, .slice A n c]
def Tb (W : World) (b : Nat) (z : Int) (A : Option Addr) (n c : Nat) : Prop := W.heap[b]? = some (.cells #[.int .i64 z, .slice A n c] 24 (0, 0))
section
variable {W W' : World} {b : Nat} {z : Int} {A : Option Addr} {n c : Nat}
theorem Tb.lt (h : Tb W b z A n c) : b < W.heap.size := (Array.getElem?_eq_some_iff.1 h).1
theorem Tb.c0 (h : Tb W b z A n c) : W.cell? ⟨b, 0, none⟩ = some (.int .i64 z) := by rw [cell_of_row W b 0 _ _ _ h]; rfl
theorem Tb.c1 (h : Tb W b z A n c) : W.cell? ⟨b, 1, none⟩ = some (.slice A n c) := by rw [cell_of_row W b 1 _ _ _ h]; rfl
theorem Tb.free (h : Tb W b z A n c) (i : Nat) : W.frozen? ⟨b, i, none⟩ = false := by
  have : W.heap[b]? = _ := h
  simp [World.frozen?, this]
theorem Tb.same (h : Tb W b z A n c) (hb : W'.heap[b]? = W.heap[b]?) : Tb W' b z A n c := hb.trans h
theorem Tb.below (h : Tb W b z A n c) (hb : Below W.heap.size W W') : Tb W' b z A n c := hb.block b h.lt |>.trans h
theorem Tb.set0 (h : Tb W b z A n c) (y : Int) : Tb (W.setCell ⟨b, 0, none⟩ (.int .i64 y)) b y A n c := by
  have hb : W.heap[b]? = _ := h
  unfold Tb
  simp [World.setCell, Array.getElem?_modify, hb]
theorem Tb.set1 (h : Tb W b z A n c) (A' : Option Addr) (n' c' : Nat) : Tb (W.setCell ⟨b, 1, none⟩ (.slice A' n' c')) b z A' n' c' := by
  have hb : W.heap[b]? = _ := h
  unfold Tb
  simp [World.setCell, Array.getElem?_modify, hb]
theorem Tb.new (W : World) (z : Int) (A : Option Addr) (n c : Nat) : Tb (W.alloc (.cells #[.int .i64 z, .slice A n c] 24)) W.heap.size z A n c := World.alloc_heap_new W _
theorem Tb.load (h : Tb W b z A n c) : (loadVar 24 ⟨b, 0, none⟩).run Try.prog W = .ok (tb z A n c) W := by
  have c0 := h.c0
  have c1 := h.c1
  simp [loadVar, go_sem, c0, c1]
end


theorem pow_le {lg : Nat} (h : lg ≤ 9) : 2 ^ lg ≤ 512 := by
  have := Nat.pow_le_pow_right (show 0 < 2 by decide) h
  rw [show (2 : Nat) ^ 9 = 512 by decide] at this
  exact this
theorem pow_wrap {lg s : Nat} (hs : 2 ^ lg = s) (h : s ≤ 512) : wrap64 (2 ^ lg) = (s : Int) := by
  have : (2 : Int) ^ lg = (s : Int) := by rw [← hs]; exact (Int.natCast_pow 2 lg).symm
  rw [this]
  unfold wrap64
  omega


/-- What Size returns. -/
def siz (z : Int) : Nat := if z < 0 ∨ 20 < z then 0 else 2 ^ z.toNat

set_option maxRecDepth 100000 in
set_option maxHeartbeats 1000000 in
theorem size_any (w : World) (z : Int) : Calls Try.prog 34 #[.int .i64 z] w fun e w' => e = .returned (nv (siz z)) ∧ w' = w := by
  obtain ⟨R, hRR⟩ : ∃ R, siz z = R := ⟨_, rfl⟩
  rw [hRR]
  have HR := Lib.hid hRR
  clear hRR
  by_cases h0 : z < 0
  · have HE : Hid (R = 0) := Lib.hid (by rw [← HR.out, siz, if_pos (.inl h0)])
    go_enter Try.func34, Try.ntmps34
    go_wp2
    go_ret
    exact ⟨by rw [HE.out]; rfl, rfl⟩
  · by_cases h1 : 20 < z
    · have HE : Hid (R = 0) := Lib.hid (by rw [← HR.out, siz, if_pos (.inr h1)])
      go_enter Try.func34, Try.ntmps34
      go_wp2
      go_ret
      exact ⟨by rw [HE.out]; rfl, rfl⟩
    · obtain ⟨x, rfl⟩ : ∃ x : Nat, z = (x : Int) := ⟨z.toNat, by omega⟩
      have HE : Hid (R = 2 ^ x) := Lib.hid (by rw [← HR.out, siz, if_neg (by omega)]; simp)
      have hx : x ≤ 20 := by omega
      clear HR
      go_enter Try.func34, Try.ntmps34
      go_wp2
      go_loop [3, 4] (fun t p => ∃ i s : Nat, i ≤ x ∧ p = .int .i64 (i : Int) ∧ t = .int .i64 (s : Int) ∧ s ≤ 1048576 ∧ Hid (s = 2 ^ i)) (fun _ p => x - (intOf p).toNat)
      case atStart => exact ⟨0, 1, Nat.zero_le _, rfl, rfl, by omega, Lib.hid rfl⟩
      case round =>
        obtain ⟨i, s, hi, rfl, rfl, hs, HA⟩ := hrel
        by_cases hlt : i < x
        · have hs2 : 2 * s ≤ 1048576 := by
            have h2 : 2 ^ (i + 1) ≤ 2 ^ 20 := Nat.pow_le_pow_right (by decide) (by omega)
            rw [Nat.pow_succ, ← HA.out, show (2 : Nat) ^ 20 = 1048576 by decide] at h2
            omega
          go_wp2
          exact ⟨⟨i + 1, 2 * s, by omega, by simp, by simp, hs2, Lib.hid (by rw [HA.out, Nat.pow_succ]; omega)⟩, by simp [intOf]; omega⟩
        · have HF : Hid (s = R) := Lib.hid (by rw [HA.out, HE.out, show i = x by omega])
          go_wp2
          go_ret
          exact ⟨by rw [← HF.out]; rfl, rfl⟩

end Go.Proofs.Ytpjbjbohbdlciaa
