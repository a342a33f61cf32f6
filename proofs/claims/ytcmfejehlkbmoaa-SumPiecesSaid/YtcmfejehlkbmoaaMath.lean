/-
  The checksum of the document as mathematics: the groups of a list of bytes, the step, the end, and the facts about them that the walks and the laws use. Nothing of the program is named. No condition beyond those that each theorem states.
-/
namespace Go.Proofs.Ytcmfejehlkbmoaa

abbrev M64 : Nat := 18446744073709551616
abbrev K1 : Nat := 11400714819323198485
abbrev K2 : Nat := 15485907386658061715
abbrev K3 : Nat := 18397679294719823053

/-- The number of some bytes, the lowest first. -/
def le : List UInt8 → Nat
  | [] => 0
  | b :: l => b.toNat + 256 * le l

/-- Rotated left by 31 bits. -/
def rot (h : Nat) : Nat := h * 2147483648 % M64 + h / 8589934592
/-- One group. -/
def step (h w : Nat) : Nat := rot (h ^^^ (w * K1 % M64)) * K2 % M64
/-- Group k of the bytes. -/
def grp (l : List UInt8) (k : Nat) : Nat := le ((l.drop (8 * k)).take 8)
/-- Behind k groups. -/
def rn (h : Nat) (l : List UInt8) : Nat → Nat
  | 0 => h
  | k + 1 => step (rn h l k) (grp l k)
/-- The last four steps. -/
def mix29 (h : Nat) : Nat := h ^^^ h / 536870912
def mix32 (h : Nat) : Nat := h ^^^ h / 4294967296
def fin (h n : Nat) : Nat := mix32 (mix29 (h ^^^ n) * K1 % M64)
/-- How many groups. -/
abbrev grps (n : Nat) : Nat := (n + 7) / 8
/-- The checksum. -/
def chk (l : List UInt8) : Nat := fin (rn K3 l (grps l.length)) l.length

theorem le_lt : ∀ l : List UInt8, le l < 256 ^ l.length
  | [] => by simp [le]
  | b :: l => by
    have h := le_lt l
    have hb := b.toNat_lt
    rw [le, List.length_cons, Nat.pow_succ]
    omega

theorem le_lt64 {l : List UInt8} (h : l.length ≤ 8) : le l < M64 :=
  Nat.lt_of_lt_of_le (le_lt l) (Nat.pow_le_pow_right (n := 256) (by decide) h)

theorem le_append (l m : List UInt8) : le (l ++ m) = le l + 256 ^ l.length * le m := by
  induction l with
  | nil => simp [le]
  | cons b l ih => rw [List.cons_append, le, ih, le, List.length_cons, Nat.pow_succ, Nat.mul_add, Nat.mul_comm (256 ^ l.length) 256, Nat.mul_assoc, Nat.add_assoc]

theorem le_inj : ∀ {l m : List UInt8}, l.length = m.length → le l = le m → l = m
  | [], [], _, _ => rfl
  | b :: l, c :: m, hl, h => by
    rw [le, le] at h
    have hb := b.toNat_lt
    have hc := c.toNat_lt
    have e1 : b.toNat = c.toNat := by omega
    have e2 : le l = le m := by omega
    rw [le_inj (by simpa using hl) e2, UInt8.toNat_inj.1 e1]
  | [], _ :: _, hl, _ => by simp at hl
  | _ :: _, [], hl, _ => by simp at hl

theorem grp_lt (l : List UInt8) (k : Nat) : grp l k < M64 := le_lt64 (by simp; omega)

theorem rot_lt {h : Nat} (hh : h < M64) : rot h < M64 := by
  unfold rot M64 at *
  have : h * 2147483648 % 18446744073709551616 = (h % 8589934592) * 2147483648 := by omega
  omega
theorem xor_lt64 {a b : Nat} (ha : a < M64) (hb : b < M64) : a ^^^ b < M64 := by
  have := Nat.xor_lt_two_pow (x := a) (y := b) (n := 64) (by unfold M64 at ha; omega) (by unfold M64 at hb; omega)
  unfold M64; omega
theorem step_lt (h w : Nat) : step h w < M64 := Nat.mod_lt _ (by decide)
theorem rn_lt {h : Nat} (hh : h < M64) (l : List UInt8) : ∀ k, rn h l k < M64
  | 0 => hh
  | _ + 1 => step_lt _ _
theorem mix29_lt {h : Nat} (hh : h < M64) : mix29 h < M64 := xor_lt64 hh (Nat.lt_of_le_of_lt (Nat.div_le_self _ _) hh)
theorem mix32_lt {h : Nat} (hh : h < M64) : mix32 h < M64 := xor_lt64 hh (Nat.lt_of_le_of_lt (Nat.div_le_self _ _) hh)
theorem fin_lt (h n : Nat) : fin h n < M64 := mix32_lt (Nat.mod_lt _ (by decide))
theorem chk_lt (l : List UInt8) : chk l < M64 := fin_lt _ _

theorem grp_append {l : List UInt8} (m : List UInt8) {k : Nat} (h : 8 * k + 8 ≤ l.length) : grp (l ++ m) k = grp l k := by
  unfold grp
  rw [List.drop_append_of_le_length (by omega), List.take_append_of_le_length (by simp; omega)]

theorem rn_append {l : List UInt8} (m : List UInt8) (h : Nat) : ∀ {k : Nat}, 8 * k ≤ l.length → rn h (l ++ m) k = rn h l k
  | 0, _ => rfl
  | k + 1, hk => by rw [rn, rn, rn_append m h (by omega), grp_append m (by omega)]

theorem grp_shift {l : List UInt8} (m : List UInt8) {p : Nat} (h : l.length = 8 * p) (k : Nat) : grp (l ++ m) (p + k) = grp m k := by
  unfold grp
  rw [show 8 * (p + k) = l.length + 8 * k by omega, List.drop_length_add_append]

theorem rn_shift {l : List UInt8} (m : List UInt8) {p : Nat} (h : l.length = 8 * p) (s : Nat) : ∀ k, rn s (l ++ m) (p + k) = rn (rn s l p) m k
  | 0 => by rw [Nat.add_zero, rn, rn_append m s (by omega)]
  | k + 1 => by rw [← Nat.add_assoc, rn, rn, rn_shift m h s k, grp_shift m h]

/-- One group alone. -/
theorem rn_one (h : Nat) {g : List UInt8} (hg : g.length ≤ 8) : rn h g 1 = step h (le g) := by
  rw [rn, rn, grp, Nat.mul_zero, List.drop_zero, List.take_of_length_le hg]

/-- In front of whole groups, more groups. -/
theorem rn_take (h : Nat) (l : List UInt8) {k n : Nat} (hk : 8 * k ≤ n) : rn h (l.take n) k = rn h l k := by
  by_cases hn : n ≤ l.length
  · conv => rhs; rw [← List.take_append_drop n l]
    exact (rn_append _ h (by simp; omega)).symm
  · rw [List.take_of_length_le (by omega)]

end Go.Proofs.Ytcmfejehlkbmoaa
