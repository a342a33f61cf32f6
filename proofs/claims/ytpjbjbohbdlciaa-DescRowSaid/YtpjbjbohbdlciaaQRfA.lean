/-
  What the reference's helpers do: Same, May, Bits. Conditions: the numbers are of their kinds.
-/
import Derived.Test.YtpjbjbohbdlciaaQWr
import Derived.Laws.IdiomStrings
namespace Go.Proofs.Ytpjbjbohbdlciaa.Bt
open Go.RowKit

theorem conv_bytes (w : World) (A : Option Addr) (l : List UInt8) (c : Nat) (h : Rd w A l) : (convert 26 9 (.slice A l.length c)).run Try.prog w = .ok (.string ⟨l.toArray⟩) w := by
  cases A with
  | none =>
    have hl : l = [] := by
      rcases l with _ | ⟨b, l⟩
      · rfl
      · obtain ⟨ad, e, _⟩ := h 0 (byt b) rfl
        cases e
    subst hl
    rw [run_convert_bytes_string w _ _ 5 _ _ _ Try.underlying26 Try.underlying5 Try.underlying9]
    simp [Conv.bytesToString]
    rfl
  | some ad =>
    refine run_convert_bytes_back w 26 9 5 ad c l Try.underlying26 Try.underlying5 Try.underlying9 (fun j hj => ?_)
    obtain ⟨ad', e, hc⟩ := h j (byt l[j]) (by rw [List.getElem?_map, List.getElem?_eq_getElem hj]; rfl)
    cases e
    exact hc

def sameB (l m : List UInt8) : Bool := decide (l = m)

set_option maxHeartbeats 400000 in
theorem same_any (w : World) (A B : Option Addr) (l m : List UInt8) (c d : Nat) (hA : Rd w A l) (hB : Rd w B m) :
    Calls Try.prog 17 #[.slice A l.length c, .slice B m.length d] w fun e w' => e = .returned (.bool (sameB l m)) ∧ w = w' := by
  have h1 := conv_bytes w A l c hA
  have h2 := conv_bytes w B m d hB
  obtain ⟨s, hs⟩ : ∃ s : ByteArray, ⟨l.toArray⟩ = s := ⟨_, rfl⟩
  obtain ⟨t, ht⟩ : ∃ s : ByteArray, ⟨m.toArray⟩ = s := ⟨_, rfl⟩
  rw [hs] at h1
  rw [ht] at h2
  have HS := Lib.hid hs
  have HT := Lib.hid ht
  obtain ⟨n1, hn1⟩ : ∃ n, l.length = n := ⟨_, rfl⟩
  obtain ⟨n2, hn2⟩ : ∃ n, m.length = n := ⟨_, rfl⟩
  rw [hn1] at h1 ⊢
  rw [hn2] at h2 ⊢
  clear hs ht hn1 hn2 hA hB
  go_enter Try.func17, Try.ntmps17
  go_wp2
  go_ret
  refine ⟨?_, rfl⟩
  have e : (s.toList == t.toList) = sameB l m := by
    rw [ByteArray.toList_eq, ByteArray.toList_eq, ← HS.out, ← HT.out]
    simp only [sameB]
    by_cases h : l = m <;> simp [h]
  simp only [Array.getD, List.size_toArray, List.length_cons, List.length_nil]
  simpa using e

theorem same_b (w : World) (A B : Option Addr) (l m : List UInt8) (n n' : Nat) (hn : l.length = n) (hn' : m.length = n') (c d : Nat) (hA : Rd w A l) (hB : Rd w B m) (r : Bool) (h : sameB l m = r) :
    Calls Try.prog 17 #[.slice A n c, .slice B n' d] w fun e w' => e = .returned (.bool r) ∧ w = w' := by
  subst hn hn' h
  exact same_any w A B l m c d hA hB
theorem same_n (w : World) (A B : Option Addr) (l m : List UInt8) (n n' : Nat) (hn : l.length = n) (hn' : m.length = n') (c d : Nat) (hA : Rd w A l) (hB : Rd w B m) (h : l = m) :
    Calls Try.prog 17 #[.slice A n c, .slice B n' d] w fun e w' => e = .returned (.bool true) ∧ w = w' :=
  same_b w A B l m n n' hn hn' c d hA hB true (by simp [sameB, h])

/-- A slice in new memory that holds the bits l. -/
def GotB (w : World) (l : List Bool) (e : Ending) (w' : World) : Prop :=
  ∃ A c, e = .returned (.slice A l.length c) ∧ w'.ownsRow w.heap.size 4 1 (.slice A l.length c) l.length (l.map Value.bool) ∧ Below w.heap.size w w'

set_option maxRecDepth 100000 in
set_option maxHeartbeats 1000000 in
theorem bits_any (w : World) (q n : Nat) (hq : q < 18446744073709551616) (hn : n ≤ 64) : Calls Try.prog 33 #[.int .u64 (q : Int), .int .i64 (n : Int)] w (GotB w (bitsOf q n)) := by
  have H0 : Hid (q = q / 2 ^ 0) := Lib.hid (by simp)
  go_enter Try.func33, Try.ntmps33
  go_wp2_with fail
  go_loopw [0, 5, 6] (fun a o b wr => (∃ (i z c : Nat) (A : Option Addr), i ≤ n ∧ a = .int .u64 (z : Int) ∧ o = .slice A i c ∧ b = .int .i64 (i : Int) ∧ z < 18446744073709551616 ∧ Hid (z = q / 2 ^ i) ∧ Hid (wr.ownsRow w.heap.size 4 1 (.slice A i c) i ((bitsOf q i).map Value.bool)) ∧ Hid (Below w.heap.size w wr))) (fun _ _ b _ => n - (intOf b).toNat)
  case atStart => exact ⟨0, q, 0, none, by omega, rfl, rfl, rfl, hq, H0, Lib.hid (World.ownsRow_nil _ _ _ _), Lib.hid (Below.refl _ _)⟩
  case round =>
    obtain ⟨i, z, c, A, hi, rfl, rfl, rfl, hz, HZ, HO, HB⟩ := hrel
    by_cases hlt : i < n
    · have OA := Lib.hid (own_below HO.out ((Below.refl _ _).alloc (Nat.le_refl _) (.cells #[.bool ((z : Int) % 2 == 1)] 4)))
      have BA := Lib.hid (HB.out.alloc HB.out.size (.cells #[.bool ((z : Int) % 2 == 1)] 4))
      go_wp2_with (at_builtin; refine wpList_append_vals Try.underlying32 bool_info rfl rfl _ _ rfl w.heap.size (.slice A i c) i _ rfl OA.out (some ⟨wr.heap.size, 0, none⟩) [.bool ((z : Int) % 2 == 1)] (by simp [Value.oneCell']) 1 1 rfl rfl (rv_one _ _ _) (by omega) BA.out.size ?_; intro v1 w1 ho1 hg1 _; obtain ⟨A1, c1, rfl, _⟩ := own_form ho1; have HB1 := Lib.hid (BA.out.grown hg1 BA.out.size (fun j ej => (OA.out.lt j ej).1)); have O1 := Lib.hid ho1; clear ho1 hg1)
      refine ⟨⟨i + 1, z / 2, c1, A1, by omega, by simp, rfl, by simp, by omega, Lib.hid ?_, Lib.hid ?_, HB1⟩, by simp [intOf]; omega⟩
      · rw [HZ.out, Nat.pow_succ, Nat.div_div_eq_div_mul]
      · have h1 := O1.out
        rw [bitsOf_succ, List.map_append, ← HZ.out]
        rw [show ((z : Int) % 2 == 1) = decide (z % 2 = 1) by by_cases h : z % 2 = 1 <;> simp [h] <;> omega] at h1
        exact h1
    · have hie : i = n := by omega
      subst hie
      clear hlt hi
      go_wp2
      go_ret
      exact ⟨A, c, by simp [bitsOf_len], by rw [bitsOf_len]; exact HO.out, HB.out⟩

end Go.Proofs.Ytpjbjbohbdlciaa.Bt
