/-
  What the reference's get, norms and Get do: the numbers, the norms and the table that rd, dec and dcd say, or the error. Conditions: those that each theorem states.
-/
import Derived.Test.YtpjbjbohbdlciaaRfd
import Derived.Test.YtpjbjbohbdlciaaQRfR
import Derived.Test.YtpjbjbohbdlciaaNst
import Derived.Test.YtpjbjbohbdlciaaTbl
import Derived.Test.YtpjbjbohbdlciaaSam
import Derived.Deep.CutRange
import Derived.Deep.DeepCutAuto
namespace Go.Proofs.Ytpjbjbohbdlciaa
open Go.RowKit Go.Shelf
open Bt (unp unp_len val Rf)

/-- The reference's reader stands at s of the bits B. -/
def Rs3 (w : World) (y g : Nat) (B : List Bool) (s : Nat) : Prop := (s ≤ B.length ∧ g < w.heap.size) ∧ ∃ A c, Rf w y g A c (B.drop s) s

theorem Rs3.below {w w' : World} {y g s : Nat} {B : List Bool} (h : Rs3 w y g B s) (hb : Below w.heap.size w w') : Rs3 w' y g B s := by
  obtain ⟨⟨h1, hg⟩, A, c, h2⟩ := h
  exact ⟨⟨h1, Nat.lt_of_lt_of_le hg hb.size⟩, A, c, h2.below hb⟩
theorem Rs3.grown {w w' : World} {y g s : Nat} {B : List Bool} {r : Option Nat} (h : Rs3 w y g B s) (hb : w.grownBy w' r) (hy : some y ≠ r) (hg : some g ≠ r) : Rs3 w' y g B s := by
  obtain ⟨⟨h1, h0⟩, A, c, h2⟩ := h
  exact ⟨⟨h1, Nat.lt_of_lt_of_le h0 hb.size⟩, A, c, h2.same hb.size (hb.block y h2.lt hy) (fun ad e => hb.block g h0 hg)⟩
theorem Rs3.lt {w : World} {y g s : Nat} {B : List Bool} (h : Rs3 w y g B s) : y < w.heap.size := by
  obtain ⟨_, A, c, h2⟩ := h
  exact h2.lt

theorem first_u {w : World} {y g s : Nat} {B : List Bool} (h : Rs3 w y g B s) (hB : B.length ≤ 10000) (n : Nat) (hn : n ≤ 64) :
    Calls Try.prog 45 #[.pointer (some ⟨y, 0, none⟩), .int .i64 (n : Int)] w fun e w' => ∃ (V s' : Nat) (er : Int), e = .returned (.tuple #[.int .u64 (V : Int), .int .i64 er]) ∧
      ((s + n ≤ B.length ∧ V = tk B s n ∧ s' = s + n ∧ er = 0) ∨ (B.length < s + n ∧ V = 0 ∧ s' = s ∧ er = 3)) ∧ Rs3 w' y g B s' ∧ w.grownBy w' (some y) := by
  obtain ⟨⟨h1, h0⟩, A, c, h2⟩ := h
  by_cases hl : s + n ≤ B.length
  · refine (Bt.first_ok h2 (by omega) n hn (by rw [List.length_drop]; omega)).mono ?_
    rintro e w' ⟨rfl, ⟨A1, c1, h3⟩, hg⟩
    rw [List.drop_drop] at h3
    exact ⟨_, s + n, 0, rfl, .inl ⟨hl, rfl, rfl, rfl⟩, ⟨⟨hl, Nat.lt_of_lt_of_le h0 hg.size⟩, A1, c1, h3⟩, hg⟩
  · have hr : Bt.chk (n : Int) (B.drop s).length 3 = 3 := by
      rw [Bt.chk, if_neg (by omega), if_pos (by rw [List.length_drop]; omega)]
    refine (Bt.first_err h2 (n : Int) 3 hr (by decide)).mono ?_
    rintro e w' ⟨rfl, rfl⟩
    exact ⟨0, s, 3, rfl, .inr ⟨by omega, rfl, rfl, rfl⟩, ⟨⟨h1, h0⟩, A, c, h2⟩, ⟨rfl, rfl, rfl, Nat.le_refl _, fun i _ _ => rfl⟩⟩

/-- A number has been read, or there were too few bits. -/
def GetR (B : List Bool) (s m : Nat) (V : Int) (s' : Nat) (er : Int) : Prop :=
  (∃ v : Nat, V = (v : Int) ∧ rd B s m = some (v, s') ∧ er = 0) ∨ (rd B s m = none ∧ er = 3)

set_option maxRecDepth 100000 in
set_option maxHeartbeats 1000000 in
theorem get_u {w : World} {y g s : Nat} {B : List Bool} (h : Rs3 w y g B s) (hB : B.length ≤ 10000) (m : Nat) (h2 : 2 ≤ m) (h5 : m ≤ 514) :
    Calls Try.prog 67 #[.pointer (some ⟨y, 0, none⟩), .int .i64 (m : Int)] w fun e w' => ∃ (V : Int) (s' : Nat) (er : Int), e = .returned (.tuple #[.int .i64 V, .int .i64 er]) ∧
      GetR B s m V s' er ∧ Rs3 w' y g B s' ∧ w.grownBy w' (some y) := by
  obtain ⟨b, hb⟩ : ∃ b, wid m = b := ⟨_, rfl⟩
  obtain ⟨u, hu⟩ : ∃ u, sho m = u := ⟨_, rfl⟩
  obtain ⟨P, hP⟩ : ∃ P, 2 ^ b = P := ⟨_, rfl⟩
  have hg9 : b ≤ 9 := by rw [← hb]; exact wid_le h5
  have hsum := sho_add m
  have hlo := wid_lo h2
  rw [hb, hP] at hsum hlo
  rw [hu] at hsum
  have hP5 : P ≤ 512 := by rw [← hP]; exact pow_le hg9
  have hue : 2 * (P : Int) - (m : Int) = (u : Int) := by omega
  have hu5 : u ≤ 1024 := by omega
  have LS := Lib.hid (least_any w m b h2 h5 hb)
  have SZ := Lib.hid (size_nat w b P (by omega) hP)
  have FB := Lib.hid (first_u h hB b (by omega))
  have H1 : Hid (∀ W s1, Rs3 W y g B s1 → Calls Try.prog 45 #[.pointer (some ⟨y, 0, none⟩), .int .i64 1] W fun e w' => ∃ (V s' : Nat) (er : Int), e = .returned (.tuple #[.int .u64 (V : Int), .int .i64 er]) ∧
      ((s1 + 1 ≤ B.length ∧ V = tk B s1 1 ∧ s' = s1 + 1 ∧ er = 0) ∨ (B.length < s1 + 1 ∧ V = 0 ∧ s' = s1 ∧ er = 3)) ∧ Rs3 w' y g B s' ∧ W.grownBy w' (some y)) := Lib.hid (fun W s1 hW => first_u hW hB 1 (by decide))
  have HBU : Hid (wid m = b ∧ sho m = u ∧ 2 ^ b = P) := Lib.hid ⟨hb, hu, hP⟩
  clear h hb hu hsum hlo hB hP
  go_enter Try.func67, Try.ntmps67
  go_upto_region 4 with (first
    | (go_at_call 56; refine LS.out.mono ?_; rintro e w ⟨rfl, rfl⟩)
    | (go_at_call 34; refine SZ.out.mono ?_; rintro e w ⟨rfl, rfl⟩)
    | (go_at_call 45; refine FB.out.mono ?_; rintro e w1 ⟨V1, s1, er1, rfl, hf1, hr1, hg1⟩; have F1 := Lib.hid hf1; have R1 := Lib.hid hr1; have G1 := Lib.hid hg1; clear hf1 hr1 hg1))
  have hV1 : V1 ≤ 511 := by
    rcases F1.out with ⟨_, rfl, _⟩ | ⟨_, rfl, _⟩
    · have := tk_lt B s b
      have h2 := HBU.out.2.2
      omega
    · decide
  by_cases he1 : er1 = 0
  · subst he1
    have F1' : Hid (s + b ≤ B.length ∧ V1 = tk B s b ∧ s1 = s + b) := Lib.hid (by
      rcases F1.out with ⟨h1, h2, h3, _⟩ | ⟨_, _, _, h4⟩
      · exact ⟨h1, h2, h3⟩
      · exact absurd h4 (by decide))
    by_cases hlt : V1 < u
    · have hd : decide ((V1 : Int) < (u : Int)) = true := decide_eq_true (by omega)
      have HG : Hid (GetR B s m (V1 : Int) s1 0) := Lib.hid (.inl ⟨V1, rfl, by
        obtain ⟨a1, a2, a3⟩ := F1'.out
        obtain ⟨b1, b2, b3⟩ := HBU.out
        rw [rd, b1, b2, if_neg (by omega), ← a2, if_pos hlt, a3], rfl⟩)
      clear F1 F1' H1
      go_wp2
      go_ret2
      exact ⟨_, s1, 0, rfl, HG.out, R1.out, G1.out⟩
    · have hd : decide ((V1 : Int) < (u : Int)) = false := decide_eq_false (by omega)
      clear F1
      go_wp2_with (go_at_call 45; refine (H1.out _ _ R1.out).mono ?_; rintro e w2 ⟨V2, s2, er2, rfl, hf2, hr2, hg2⟩; have F2 := Lib.hid hf2; have R2 := Lib.hid hr2; have G2 := Lib.hid (Bt.grown_trans G1.out hg2); have hV2 : V2 ≤ 1 := (by rcases hf2 with ⟨_, rfl, _⟩ | ⟨_, rfl, _⟩; (exact Nat.le_of_lt_succ (tk_lt B s1 1)); (exact Nat.zero_le _)); clear hf2 hr2 hg2)
      go_ret2
      refine ⟨_, s2, er2, rfl, ?_, R2.out, G2.out⟩
      obtain ⟨a1, a2, a3⟩ := F1'.out
      obtain ⟨b1, b2, b3⟩ := HBU.out
      rcases F2.out with ⟨d1, d2, d3, d4⟩ | ⟨d1, d2, d3, d4⟩
      · refine .inl ⟨2 * V1 + V2 - u, ?_, ?_, d4⟩
        · omega
        · rw [rd, b1, b2, if_neg (by omega), ← a2, if_neg hlt, if_neg (by omega), ← a3, ← d2, d3]
      · exact .inr ⟨by rw [rd, b1, b2, if_neg (by omega), ← a2, if_neg hlt, if_pos (by omega)], d4⟩
  · have hne : (er1 != 0) = true := by simpa using he1
    have HG : Hid (GetR B s m (V1 : Int) s1 er1) := Lib.hid (.inr (by
      obtain ⟨b1, b2, b3⟩ := HBU.out
      rcases F1.out with ⟨_, _, _, h4⟩ | ⟨h1, _, _, h4⟩
      · exact absurd h4 he1
      · exact ⟨by rw [rd, b1, if_pos h1], h4⟩))
    clear F1 H1 he1
    go_wp2
    go_ret2
    exact ⟨_, s1, er1, rfl, HG.out, R1.out, G1.out⟩

end Go.Proofs.Ytpjbjbohbdlciaa
