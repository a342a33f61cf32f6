/-
  What the method Word of a cursor does: the word in the next four bytes, and the cursor behind them; or ErrShort, ErrNil, and the cursor where it was. Condition: at most 3 * 10^14 bytes.
-/
import Derived.Test.YtnbohkiimbooaaaMSub
import Derived.Test.YtnbohkiimbooaaaReadU32
namespace Go.Proofs.Ytnbohkiimbooaaa
open Go.RowKit Go.Shelf

/-- The number that bytes make, the least significant one first. -/
def wv : List UInt8 → Nat
  | [] => 0
  | b :: s => b.toNat + 256 * wv s

theorem wv_snoc (s : List UInt8) (b : UInt8) : wv (s ++ [b]) = wv s + b.toNat * 256 ^ s.length := by
  induction s with
  | nil => simp [wv]
  | cons a s ih =>
    simp only [List.cons_append, wv, ih, List.length_cons, Nat.pow_succ, Nat.mul_add]
    have : 256 * (b.toNat * 256 ^ s.length) = b.toNat * (256 ^ s.length * 256) := by
      rw [Nat.mul_comm 256, Nat.mul_assoc]
    omega

theorem wv_lt (s : List UInt8) : wv s < 256 ^ s.length := by
  induction s with
  | nil => simp [wv]
  | cons a s ih =>
    simp only [wv, List.length_cons, Nat.pow_succ]
    have := a.toNat_lt
    omega

theorem pow_256 (j : Nat) : 2 ^ (8 * j) = 256 ^ j := by rw [Nat.pow_mul]

theorem join_word (acc y j : Nat) (h : acc < 256 ^ j) (hy : y < 256) (hj : j < 4) :
    bits BinOp.or IntKind.u32 (acc : Int) (IntKind.u32.wrap ((y : Int) * 2 ^ (8 * j))) = ((acc + y * 256 ^ j : Nat) : Int) := by
  have hp : 256 ^ (j + 1) ≤ 256 ^ 4 := Nat.pow_le_pow_right (by omega) (by omega)
  have h4 : (256 : Nat) ^ 4 = 4294967296 := by decide
  have hs : acc + y * 256 ^ j < 256 ^ (j + 1) := by
    rw [Nat.pow_succ]
    have : y * 256 ^ j ≤ 255 * 256 ^ j := Nat.mul_le_mul_right _ (by omega)
    omega
  have e : ((y : Int) * 2 ^ (8 * j)) = ((y * 256 ^ j : Nat) : Int) := by rw [← pow_256]; simp
  have hw : IntKind.u32.wrap ((y * 256 ^ j : Nat) : Int) = ((y * 256 ^ j : Nat) : Int) := by
    have : y * 256 ^ j < 4294967296 := by omega
    rw [IntKind.wrap_u32]
    generalize y * 256 ^ j = z at *
    omega
  rw [e, hw, u32_or_nat _ _ (by omega) (by omega)]
  congr 1
  rw [Nat.or_comm, nat_join (8 * j) _ _ (by rw [pow_256]; exact Nat.mul_mod_left _ _) (by rw [pow_256]; exact h), Nat.add_comm]

/-- The word at the head of s, or that there is none. -/
def wordB (s : List UInt8) : Nat × Nat := if s.length < 4 then (0, 3) else (wv (s.take 4), 0)

set_option maxRecDepth 100000 in
set_option maxHeartbeats 1000000 in
theorem word1_any {w : World} {c : Nat} {A : Option Addr} {cap : Nat} {l : List UInt8} {k B : Nat} (h : Cur w c A cap l k) (hB : w.cell? ⟨B, 0, none⟩ = some (.pointer (some ⟨c, 0, none⟩))) :
    Calls Try.prog 39 #[.pointer (some ⟨B, 0, none⟩)] w (TakePost w c A cap l (k + 4) (OkIs (.int .u32 ((wordB (l.drop k)).1 : Int)) ((wordB (l.drop k)).2 : Int))) := by
  have hle := h.le
  by_cases hsh : (l.length : Int) - (k : Int) < 4
  · have HX := Lib.hid (next_short h 4 (by omega) hsh)
    have H := Lib.hid h
    have hd : wordB (l.drop k) = (0, 3) := by rw [wordB, if_pos (by simp; omega)]
    rw [hd]
    clear h hsh hd hle
    go_enter Try.func39, Try.ntmps39
    go_wp2_with fail
    refine HX.out.mono ?_
    rintro e w1 ⟨rfl, d, rfl⟩
    go_wp2
    go_ret2
    exact ⟨_, _, rfl, ⟨k, H.out.drewN d, fun h => by simp at h⟩, grown_drewN (World.grownBy.refl _ _) d, rfl, rfl⟩
  · have HX := Lib.hid (next_ok h 4 (by omega) (by omega))
    have hd : wordB (l.drop k) = (wv ((l.drop k).take 4), 0) := by rw [wordB, if_neg (by simp; omega)]
    have hln : ((l.drop k).take 4).length = 4 := by simp; omega
    rw [hd]
    obtain ⟨s, hss⟩ : ∃ s, (l.drop k).take 4 = s := ⟨_, rfl⟩
    have HSS := Lib.hid hss
    rw [hss] at hln ⊢
    have HL := Lib.hid hln
    clear h hsh hd hle hln hss
    go_enter Try.func39, Try.ntmps39
    go_wp2_with fail
    refine HX.out.mono ?_
    rintro e w1 ⟨A', c', rfl, hrd, hcur, hg⟩
    have hrd' : Rd w1 A' s := by rw [← HSS.out]; exact hrd
    have HRD := Lib.hid hrd'
    have HC := Lib.hid hcur
    have HG := Lib.hid hg
    clear hrd hrd' hcur hg
    have h4 : Int.toNat 4 = 4 := rfl
    rw [h4]
    clear h4
    go_wp2
    go_loop [5, 18] (fun v i => ∃ j : Nat, j ≤ 4 ∧ i = .int .i64 (j : Int) ∧ v = .int .u32 ((wv (s.take j) : Nat) : Int)) (fun _ i => 4 - (intOf i).toNat)
    case atStart => exact ⟨0, by omega, rfl, rfl⟩
    case round =>
      obtain ⟨j, hj, rfl, rfl⟩ := hrel
      by_cases hlt : j < 4
      · have hjs : j < s.length := by rw [HL.out]; exact hlt
        obtain ⟨ad, hA, hcell⟩ := HRD.out j s[j] (List.getElem?_eq_getElem hjs)
        subst hA
        obtain ⟨b, hb⟩ : ∃ b, s[j] = b := ⟨_, rfl⟩
        rw [hb] at hcell
        have hbl := b.toNat_lt
        have hst : wv (s.take (j + 1)) = wv (s.take j) + b.toNat * 256 ^ j := by
          rw [List.take_succ_eq_append_getElem hjs, hb, wv_snoc, List.length_take, Nat.min_eq_left (by omega)]
        have hacc : wv (s.take j) < 256 ^ j := by
          have := wv_lt (s.take j)
          rw [List.length_take, Nat.min_eq_left (by omega)] at this
          exact this
        have hjo := join_word (wv (s.take j)) b.toNat j hacc (by omega) hlt
        rw [← hst] at hjo
        obtain ⟨a0, ha0⟩ : ∃ a0, wv (s.take j) = a0 := ⟨_, rfl⟩
        obtain ⟨a1, ha1⟩ : ∃ a1, wv (s.take (j + 1)) = a1 := ⟨_, rfl⟩
        rw [ha0, ha1] at hjo
        rw [ha0]
        have HA1 := Lib.hid ha1
        clear ha0 ha1 hacc hst hb
        have HJ := Lib.hid hjo
        clear hjo
        go_wp2
        refine ⟨⟨j + 1, by omega, by simp, ?_⟩, by simp [intOf]; omega⟩
        rw [HA1.out, ← HJ.out, IntKind.wrap_u32]
      · have hj4 : j = 4 := by omega
        subst hj4
        have e4 : s.take 4 = s := List.take_of_length_le (by rw [HL.out]; exact Nat.le_refl _)
        rw [e4]
        clear e4
        go_wp2
        go_ret2
        exact ⟨_, _, rfl, ⟨_, HC.out, fun _ => rfl⟩, HG.out, rfl, rfl⟩

set_option maxHeartbeats 400000 in
theorem word_any {w : World} {c : Nat} {A : Option Addr} {cap : Nat} {l : List UInt8} {k : Nat} (h : Cur w c A cap l k) :
    Calls Try.prog 22 #[.pointer (some ⟨c, 0, none⟩)] w (RN w c A cap l k (.int .u32 ((wordB (l.drop k)).1 : Int)) ((wordB (l.drop k)).2 : Int) 4) := by
  have hmf : ∀ (fn : Fn) (first cap : Array Value) (w : World), (Instr.makeFunc fn first cap).run Try.prog w = .ok (.func fn first cap) w := fun _ _ _ _ => rfl
  have hcl := h.blk.lt
  have hT : ∀ W, Below (w.alloc (.cells #[.pointer (some ⟨c, 0, none⟩)] 36)).heap.size (w.alloc (.cells #[.pointer (some ⟨c, 0, none⟩)] 36)) W → W.heap.size = (w.alloc (.cells #[.pointer (some ⟨c, 0, none⟩)] 36)).heap.size + 3 →
      Calls Try.prog 39 #[.pointer (some ⟨w.heap.size, 0, none⟩)] W (TakePost W c A cap l (k + 4) (OkIs (.int .u32 ((wordB (l.drop k)).1 : Int)) ((wordB (l.drop k)).2 : Int))) := by
    intro W hb _
    refine word1_any ((h.alloc _).below hb) ?_
    rw [hb.cell (by simp)]; simp [go_sem]
  have HX := Lib.hid (read_u32_any (h.alloc (.cells #[.pointer (some ⟨c, 0, none⟩)] 36)) _ _ _ hT)
  clear h hT
  generalize wordB (l.drop k) = r at *
  go_enter Try.func22, Try.ntmps22
  go_wp2_with fail
  refine HX.out.mono ?_
  intro e w1 h1
  have h2 := rn_of_read h1
  obtain ⟨rfl, hc, hg⟩ := h2
  have HC := Lib.hid hc
  have HG := Lib.hid hg
  clear hc hg h1
  go_wp2
  go_ret2
  exact ⟨rfl, HC.out, HG.out⟩

set_option maxHeartbeats 400000 in
theorem word_nil (w : World) : Calls Try.prog 22 #[.pointer none] w fun e w' => e = .returned (.tuple #[.int .u32 0, .int .i64 1]) ∧ Below w.heap.size w w' := by
  have hmf : ∀ (fn : Fn) (first cap : Array Value) (w : World), (Instr.makeFunc fn first cap).run Try.prog w = .ok (.func fn first cap) w := fun _ _ _ _ => rfl
  go_enter Try.func22, Try.ntmps22
  go_wp2_with fail
  refine (read_u32_nil _ _).mono ?_
  rintro e w1 ⟨rfl, hb⟩
  go_wp2
  go_ret2
  exact ⟨rfl, ((Below.refl _ _).alloc (Nat.le_refl _) _).trans (hb.mono (by simp))⟩

end Go.Proofs.Ytnbohkiimbooaaa
