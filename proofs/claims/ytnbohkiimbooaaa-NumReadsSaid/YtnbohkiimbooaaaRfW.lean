/-
  What the reference's GetWord does: the word at an offset, the next offset and no error, or the error. Conditions: the offset lies within the bytes; at most 2^47 bytes.
-/
import Derived.Test.YtnbohkiimbooaaaAsk
namespace Go.Proofs.Ytnbohkiimbooaaa
open Go.RowKit Go.Shelf

theorem wv_drop (s : List UInt8) (j : Nat) (b : UInt8) (h : s[j]? = some b) : wv (s.drop j) = b.toNat + 256 * wv (s.drop (j + 1)) := by
  obtain ⟨hj, e⟩ := List.getElem?_eq_some_iff.1 h
  rw [List.drop_eq_getElem_cons hj, wv, e]

/-- Three plain results, and the world as it was. -/
def Ret3 (w : World) (v0 v1 v2 : Value) (e : Ending) (w' : World) : Prop := e = .returned (.tuple #[v0, v1, v2]) ∧ w = w'

section
variable {w : World} {A : Option Addr} {cap : Nat} {l : List UInt8} {N k : Nat}

set_option maxHeartbeats 400000 in
theorem getWord_short (_hs : N ≤ 140737488351232) (_hk : k ≤ N) (hn : N < k + 4) : Calls Try.prog 47 #[.slice A N cap, .int .i64 (k : Int)] w (Ret3 w (.int .u32 0) (.int .i64 (k : Int)) (.int .i64 3)) := by
  have hd : decide ((N : Int) - (k : Int) < 4) = true := decide_eq_true (by omega)
  go_enter Try.func47, Try.ntmps47
  go_wp2
  go_ret3
  exact ⟨rfl, rfl⟩

set_option maxRecDepth 100000 in
set_option maxHeartbeats 1000000 in
theorem getWord_ok (s : List UInt8) (hs : N ≤ 140737488351232) (hn : k + 4 ≤ N) (hN : l.length = N) (hR : Rd w A l) (hsl : s.length = 4) (hsv : s = (l.drop k).take 4) : Calls Try.prog 47 #[.slice A N cap, .int .i64 (k : Int)] w (Ret3 w (.int .u32 (wv s : Int)) (.int .i64 ((k : Int) + 4)) (.int .i64 0)) := by
  have hd : decide ((N : Int) - (k : Int) < 4) = false := decide_eq_false (by omega)
  have hcells : ∀ j b, s[j]? = some b → ∃ ad, A = some ad ∧ w.cell? (ad.add (k + j)) = some (byt b) := by
    intro j b hj
    have hj4 : j < 4 := by have := (List.getElem?_eq_some_iff.1 hj).1; omega
    rw [hsv, List.getElem?_take_of_lt hj4, List.getElem?_drop] at hj
    exact hR _ _ hj
  have hlt : ∀ j, wv (s.drop j) < 256 ^ (4 - j) := by
    intro j
    have := wv_lt (s.drop j)
    rwa [List.length_drop, hsl] at this
  have HC := Lib.hid hcells
  have HL := Lib.hid hlt
  have HSL := Lib.hid hsl
  have HW : Hid (wv (s.drop 4) = 0) := Lib.hid (by rw [List.drop_eq_nil_of_le (by omega)]; rfl)
  have HW0 : Hid (wv (s.drop 0) = wv s) := Lib.hid (by rw [List.drop_zero])
  obtain ⟨V, hV⟩ : ∃ V, wv s = V := ⟨_, rfl⟩
  rw [hV] at HW0 ⊢
  clear hcells hlt hsl hsv hV hN hR
  go_enter Try.func47, Try.ntmps47
  go_wp2_with fail
  go_loopw [7, 8] (fun v i wr => ((∃ j : Nat, j < 4 ∧ i = .int .i64 (j : Int) ∧ ∃ U : Nat, Hid (wv (s.drop (j + 1)) = U) ∧ v = .int .u32 (U : Int)) ∨ (i = .int .i64 (-1) ∧ v = .int .u32 (V : Int))) ∧ w = wr) (fun _ i _ => (intOf i + 1).toNat)
  case atStart => exact ⟨.inl ⟨3, by omega, rfl, 0, HW, rfl⟩, rfl⟩
  case round =>
    obtain ⟨hrel, hw⟩ := hrel
    subst hw
    rcases hrel with ⟨j, hj, rfl, U, hU, rfl⟩ | ⟨rfl, rfl⟩
    · obtain ⟨b, hb⟩ : ∃ b, s[j]? = some b := ⟨_, List.getElem?_eq_getElem (by rw [HSL.out]; omega)⟩
      obtain ⟨ad, rfl, hcell⟩ := HC.out j b hb
      have hbl := b.toNat_lt
      have hst := wv_drop s j b hb
      rw [hU.out] at hst
      have h1 := HL.out j
      rw [hst] at h1
      have h2 : 256 ^ (4 - j) ≤ 256 ^ 4 := Nat.pow_le_pow_right (by omega) (by omega)
      have h3 : (256 : Nat) ^ 4 = 4294967296 := by decide
      have h4 : b.toNat + 256 * U < 4294967296 := by omega
      have h5 : (256 : Int) * (U : Int) < 4294967296 := by omega
      have h6 : (256 : Int) * (U : Int) + (b.toNat : Int) < 4294967296 := by omega
      have HST := Lib.hid hst
      have H6 := Lib.hid h6
      clear h1 h2 h3 h4 hst hb hU
      go_wp2_with fail
      refine ⟨⟨?_, by trivial⟩, ?_⟩
      · cases j with
        | zero => exact .inr ⟨by simp, by rw [show (256 : Int) * (U : Int) + (b.toNat : Int) = (V : Int) by have := HST.out; have := HW0.out; omega]⟩
        | succ j => exact .inl ⟨j, by omega, by simp, 256 * U + b.toNat, Lib.hid (by have := HST.out; omega), by simp⟩
      · simp [intOf]
    · go_wp2
      go_ret3
      exact ⟨rfl, rfl⟩

end

end Go.Proofs.Ytnbohkiimbooaaa
