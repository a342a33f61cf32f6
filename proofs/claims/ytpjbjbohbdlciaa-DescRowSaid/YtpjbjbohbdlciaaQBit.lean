/-
  Bit streams as lists of booleans, their numbers and their bytes, and the facts about them that the walks and the laws use. Plain mathematics: nothing of the program is named. No condition beyond those that each theorem states.
-/

namespace Go.Proofs.Ytpjbjbohbdlciaa.Bt


/-- The low n bits of v, the lowest first. -/
def bitsOf : Nat → Nat → List Bool
  | _, 0 => []
  | v, n + 1 => decide (v % 2 = 1) :: bitsOf (v / 2) n

/-- The number with these bits, the lowest first. -/
def val : List Bool → Nat
  | [] => 0
  | b :: l => (if b then 1 else 0) + 2 * val l

/-- n bytes of V, the lowest first. -/
def byts : Nat → Nat → List UInt8
  | 0, _ => []
  | n + 1, V => UInt8.ofNat (V % 256) :: byts n (V / 256)

/-- The number of some bytes. -/
def num : List UInt8 → Nat
  | [] => 0
  | b :: F => b.toNat + 256 * num F

/-- The bytes of a stream, padded with zeros. -/
def pack (l : List Bool) : List UInt8 := byts ((l.length + 7) / 8) (val l)

/-- The bytes of a closed stream. -/
def closed (l : List Bool) : List UInt8 := pack (l ++ [true])

theorem bitsOf_len : ∀ (n v : Nat), (bitsOf v n).length = n
  | 0, _ => rfl
  | n + 1, v => by rw [bitsOf, List.length_cons, bitsOf_len n]

theorem bitsOf_succ (n v : Nat) : bitsOf v (n + 1) = bitsOf v n ++ [decide (v / 2 ^ n % 2 = 1)] := by
  induction n generalizing v with
  | zero => simp [bitsOf]
  | succ n ih =>
    rw [bitsOf, ih, bitsOf, List.cons_append, Nat.div_div_eq_div_mul, Nat.pow_succ, Nat.mul_comm 2]

theorem bitsOf_add (a b v : Nat) : bitsOf v (a + b) = bitsOf v a ++ bitsOf (v / 2 ^ a) b := by
  induction a generalizing v with
  | zero => simp [bitsOf]
  | succ a ih =>
    rw [show a + 1 + b = (a + b) + 1 by omega, bitsOf, ih, bitsOf, List.cons_append, Nat.div_div_eq_div_mul, Nat.pow_succ, Nat.mul_comm 2]

theorem bitsOf_low (a : Nat) : ∀ v x : Nat, bitsOf (v + 2 ^ a * x) a = bitsOf v a := by
  induction a with
  | zero => intro v x; rfl
  | succ a ih =>
    intro v x
    rw [bitsOf, bitsOf]
    have e1 : (v + 2 ^ (a + 1) * x) % 2 = v % 2 := by
      rw [Nat.pow_succ, Nat.mul_assoc, Nat.mul_left_comm, Nat.add_mul_mod_self_left]
    have e2 : (v + 2 ^ (a + 1) * x) / 2 = v / 2 + 2 ^ a * x := by
      rw [Nat.pow_succ, Nat.mul_assoc, Nat.mul_left_comm, Nat.add_mul_div_left _ _ (by decide)]
    rw [e1, e2, ih]

theorem bitsOf_mod (a v : Nat) : bitsOf (v % 2 ^ a) a = bitsOf v a := by
  have := bitsOf_low a (v % 2 ^ a) (v / 2 ^ a)
  rw [Nat.mod_add_div] at this
  exact this.symm

/-- The bits of p, c of them, and behind them a bits of x. -/
theorem bitsOf_join {p c : Nat} (x a : Nat) (hp : p < 2 ^ c) : bitsOf (p + 2 ^ c * x) (c + a) = bitsOf p c ++ bitsOf x a := by
  rw [bitsOf_add, bitsOf_low, Nat.add_mul_div_left _ _ (Nat.two_pow_pos c), Nat.div_eq_of_lt hp, Nat.zero_add]

theorem val_bitsOf (n : Nat) : ∀ v, val (bitsOf v n) = v % 2 ^ n := by
  induction n with
  | zero => intro v; simp [bitsOf, val, Nat.mod_one]
  | succ n ih =>
    intro v
    rw [bitsOf, val, ih, Nat.pow_succ, Nat.mul_comm (2 ^ n) 2, Nat.mod_mul]
    by_cases h : v % 2 = 1
    · simp [h]
    · have : v % 2 = 0 := by omega
      simp [this]

theorem val_app : ∀ a b : List Bool, val (a ++ b) = val a + 2 ^ a.length * val b
  | [], b => by simp [val]
  | x :: a, b => by
    rw [List.cons_append, val, val, val_app a b, List.length_cons, Nat.pow_succ, Nat.mul_add, Nat.mul_comm (2 ^ a.length) 2, Nat.mul_assoc, Nat.add_assoc]

theorem val_lt : ∀ l : List Bool, val l < 2 ^ l.length
  | [] => by simp [val]
  | x :: l => by
    have := val_lt l
    rw [val, List.length_cons, Nat.pow_succ]
    split <;> omega

theorem bitsOf_val : ∀ l : List Bool, bitsOf (val l) l.length = l
  | [] => rfl
  | x :: l => by
    rw [List.length_cons, bitsOf, val]
    have e2 : ((if x then 1 else 0) + 2 * val l) / 2 = val l := by split <;> omega
    rw [e2, bitsOf_val l]
    congr 1
    cases x <;> simp <;> omega

theorem val_inj {l m : List Bool} (hl : l.length = m.length) (h : val l = val m) : l = m := by
  rw [← bitsOf_val l, ← bitsOf_val m, hl, h]

theorem byts_len : ∀ n V, (byts n V).length = n
  | 0, _ => rfl
  | n + 1, V => by rw [byts, List.length_cons, byts_len n]

theorem num_byts (n : Nat) : ∀ V, num (byts n V) = V % 256 ^ n := by
  induction n with
  | zero => intro V; simp [byts, num, Nat.mod_one]
  | succ n ih =>
    intro V
    rw [byts, num, ih, Nat.pow_succ, Nat.mul_comm (256 ^ n) 256, Nat.mod_mul, UInt8.toNat_ofNat']
    rw [Nat.mod_mod_of_dvd _ (by decide)]

theorem byts_num : ∀ (F : List UInt8) (p : Nat), byts (F.length + 1) (num F + 256 ^ F.length * p) = F ++ [UInt8.ofNat (p % 256)]
  | [], p => by simp [byts, num]
  | b :: F, p => by
    have hb := b.toNat_lt
    rw [List.length_cons, byts, num]
    have e0 : b.toNat + 256 * num F + 256 ^ (F.length + 1) * p = b.toNat + 256 * (num F + 256 ^ F.length * p) := by
      rw [Nat.pow_succ, Nat.mul_add, Nat.mul_comm (256 ^ F.length) 256, Nat.mul_assoc, Nat.add_assoc]
    rw [e0, Nat.add_mul_mod_self_left, Nat.add_mul_div_left _ _ (by decide), Nat.div_eq_of_lt (show b.toNat < 256 from hb), Nat.zero_add, byts_num F p, Nat.mod_eq_of_lt (show b.toNat < 256 from hb)]
    simp

theorem byts_num0 : ∀ F : List UInt8, byts F.length (num F) = F
  | [] => rfl
  | b :: F => by
    have hb := b.toNat_lt
    rw [List.length_cons, byts, num, Nat.add_mul_mod_self_left, Nat.add_mul_div_left _ _ (by decide), Nat.div_eq_of_lt (show b.toNat < 256 from hb), Nat.zero_add, byts_num0 F, Nat.mod_eq_of_lt (show b.toNat < 256 from hb)]
    simp

/-- The bits of some bytes. -/
def unp : List UInt8 → List Bool
  | [] => []
  | b :: F => bitsOf b.toNat 8 ++ unp F

theorem unp_len : ∀ F : List UInt8, (unp F).length = 8 * F.length
  | [] => rfl
  | b :: F => by rw [unp, List.length_append, bitsOf_len, unp_len F, List.length_cons]; omega

theorem unp_app : ∀ F G : List UInt8, unp (F ++ G) = unp F ++ unp G
  | [], G => rfl
  | b :: F, G => by rw [List.cons_append, unp, unp, unp_app F G, List.append_assoc]

theorem val_unp : ∀ F : List UInt8, val (unp F) = num F
  | [] => rfl
  | b :: F => by
    have hb := b.toNat_lt
    rw [unp, val_app, val_bitsOf, bitsOf_len, val_unp F, num, Nat.mod_eq_of_lt (show b.toNat < 2 ^ 8 from hb)]

/-- The stream l as the bytes F and c bits that wait, with the number p. -/
structure Str (F : List UInt8) (p c : Nat) (l : List Bool) : Prop where
  eq : l = unp F ++ bitsOf p c
  lt : p < 2 ^ c

theorem Str.nil : Str [] 0 0 [] := ⟨rfl, by decide⟩

theorem Str.len {F : List UInt8} {p c : Nat} {l : List Bool} (h : Str F p c l) : l.length = 8 * F.length + c := by
  rw [h.eq, List.length_append, unp_len, bitsOf_len]

theorem Str.add {F : List UInt8} {p c : Nat} {l : List Bool} (h : Str F p c l) (v a : Nat) : Str F (p + 2 ^ c * (v % 2 ^ a)) (c + a) (l ++ bitsOf v a) := by
  refine ⟨?_, ?_⟩
  · rw [bitsOf_join _ _ h.lt, bitsOf_mod, h.eq, List.append_assoc]
  · have h1 : v % 2 ^ a + 1 ≤ 2 ^ a := Nat.mod_lt _ (Nat.two_pow_pos a)
    have h2 : 2 ^ c * (v % 2 ^ a + 1) ≤ 2 ^ c * 2 ^ a := Nat.mul_le_mul_left _ h1
    have h3 := h.lt
    rw [Nat.mul_add, Nat.mul_one] at h2
    rw [Nat.pow_add]
    omega

theorem Str.full {F : List UInt8} {p : Nat} {l : List Bool} (h : Str F p 8 l) : Str (F ++ [UInt8.ofNat p]) 0 0 l := by
  refine ⟨?_, by decide⟩
  have hp := h.lt
  rw [h.eq, unp_app, unp, unp, UInt8.toNat_ofNat', Nat.mod_eq_of_lt hp]
  simp [bitsOf]

/-- What waits, as bytes. -/
def tl (p c : Nat) : List UInt8 := if c = 0 then [] else [UInt8.ofNat p]

theorem Str.pack {F : List UInt8} {p c : Nat} {l : List Bool} (h : Str F p c l) (hc : c < 8) : pack l = F ++ tl p c := by
  have hv : val l = num F + 256 ^ F.length * p := by
    have hp := h.lt
    rw [h.eq, val_app, val_unp, val_bitsOf, unp_len, Nat.pow_mul, Nat.mod_eq_of_lt hp]
  unfold Proofs.Ytpjbjbohbdlciaa.Bt.pack
  rw [h.len, hv, tl]
  by_cases h0 : c = 0
  · subst h0
    have hp : p = 0 := by have := h.lt; simpa using this
    subst hp
    rw [if_pos rfl, show (8 * F.length + 0 + 7) / 8 = F.length by omega, Nat.mul_zero, Nat.add_zero, byts_num0, List.append_nil]
  · have hp : p < 256 := Nat.lt_of_lt_of_le h.lt (Nat.pow_le_pow_right (by decide) (show c ≤ 8 by omega))
    rw [if_neg h0, show (8 * F.length + c + 7) / 8 = F.length + 1 by omega, byts_num, Nat.mod_eq_of_lt hp]

theorem Str.closed {F : List UInt8} {p c : Nat} {l : List Bool} (h : Str F p c l) (hc : c < 8) : closed l = F ++ [UInt8.ofNat (p + 2 ^ c)] := by
  have h1 := h.add 1 1
  have e : bitsOf 1 1 = [true] := by decide
  rw [e] at h1
  simp only [Nat.reducePow, Nat.reduceMod, Nat.mul_one] at h1
  unfold Proofs.Ytpjbjbohbdlciaa.Bt.closed
  by_cases h8 : c = 7
  · subst h8
    have := h1.full
    rw [this.pack (by decide), tl]
    simp
  · rw [h1.pack (by omega), tl, if_neg (by omega)]

theorem pack_len (l : List Bool) : (pack l).length = (l.length + 7) / 8 := byts_len _ _

theorem num_pack (l : List Bool) : num (pack l) = val l := by
  rw [pack, num_byts, Nat.mod_eq_of_lt]
  have := val_lt l
  rw [show (256 : Nat) = 2 ^ 8 by decide, ← Nat.pow_mul]
  exact Nat.lt_of_lt_of_le this (Nat.pow_le_pow_right (by decide) (by omega))

theorem closed_inj {l m : List Bool} (h : closed l = closed m) : l = m := by
  have h1 : val (l ++ [true]) = val (m ++ [true]) := by rw [← num_pack, ← num_pack]; exact congrArg num h
  rw [val_app, val_app] at h1
  simp only [val, if_true, Nat.mul_zero, Nat.add_zero, Nat.mul_one] at h1
  have a1 := val_lt l
  have a2 := val_lt m
  have hl : l.length = m.length := by
    rcases Nat.lt_trichotomy l.length m.length with hlt | he | hlt
    · have : 2 ^ (l.length + 1) ≤ 2 ^ m.length := Nat.pow_le_pow_right (by decide) hlt
      rw [Nat.pow_succ] at this
      omega
    · exact he
    · have : 2 ^ (m.length + 1) ≤ 2 ^ l.length := Nat.pow_le_pow_right (by decide) hlt
      rw [Nat.pow_succ] at this
      omega
  refine val_inj hl ?_
  rw [hl] at h1
  omega

/-- A value fits into n bits. -/
def may (v : Nat) (n : Int) : Bool := decide (0 ≤ n) && decide (n ≤ 64) && decide (v < 2 ^ n.toNat)

/-- The bits of the valid calls. -/
def allB : List (Nat × Int) → List Bool
  | [] => []
  | (v, n) :: l => (if may v n then bitsOf v n.toNat else []) ++ allB l

theorem allB_app : ∀ a b, allB (a ++ b) = allB a ++ allB b
  | [], b => rfl
  | (v, n) :: a, b => by rw [List.cons_append, allB, allB, allB_app a b, List.append_assoc]

theorem allB_len : ∀ a, (allB a).length ≤ 64 * a.length
  | [] => by simp [allB]
  | (v, n) :: a => by
    have := allB_len a
    rw [allB, List.length_append, List.length_cons]
    split
    · rename_i h
      simp [may] at h
      rw [bitsOf_len]; omega
    · simp; omega

theorem allB_one (v : Nat) (n : Int) : allB [(v, n)] = if may v n then bitsOf v n.toNat else [] := by simp [allB]

theorem allB_take {ls : List (Nat × Int)} {j : Nat} {v : Nat} {n : Int} (h : ls[j]? = some (v, n)) : allB (ls.take (j + 1)) = allB (ls.take j) ++ (if may v n then bitsOf v n.toNat else []) := by
  obtain ⟨hj, e⟩ := List.getElem?_eq_some_iff.1 h
  rw [List.take_succ_eq_append_getElem hj, allB_app, e, allB_one]

end Go.Proofs.Ytpjbjbohbdlciaa.Bt
