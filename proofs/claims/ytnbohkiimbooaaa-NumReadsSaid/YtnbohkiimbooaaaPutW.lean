/-
  What num.PutWord does: the bytes with the four bytes of the word behind them, in new memory; nothing that was there has changed. And the reference's small helpers: Own (a copy), Word (the four bytes), Same (two byte slices are equal). Conditions: the word is a uint32; fewer than 2^47 - 300 bytes.
-/
import Derived.Test.YtnbohkiimbooaaaPutV
namespace Go.Proofs.Ytnbohkiimbooaaa
open Go.RowKit Go.Shelf

/-- The four bytes of a word. -/
def wd (n : Nat) : List UInt8 := [UInt8.ofNat (n % 256), UInt8.ofNat (n / 256 % 256), UInt8.ofNat (n / 65536 % 256), UInt8.ofNat (n / 16777216 % 256)]
theorem wd_len (n : Nat) : (wd n).length = 4 := rfl

theorem byte_mod (n : Nat) : ((UInt8.ofNat (n % 256)).toNat : Int) = (n : Int) % 256 := by
  rw [UInt8.toNat_ofNat', Nat.mod_eq_of_lt (by omega)]; omega

theorem wd_step (q k : Nat) (h : k < 4) : (wd q).take (k + 1) = (wd q).take k ++ [UInt8.ofNat (q / 2 ^ (8 * k) % 256)] := by
  rcases (show k = 0 ∨ k = 1 ∨ k = 2 ∨ k = 3 by omega) with rfl | rfl | rfl | rfl <;> simp [wd]

set_option maxRecDepth 100000 in
set_option maxHeartbeats 1000000 in
theorem putWord_any (w : World) (A : Option Addr) (l : List UInt8) (cap : Nat) (q : Int) (h0 : 0 ≤ q) (hq : q < 4294967296) (hs : l.length ≤ 140737488355000) (hR : Rd w A l) :
    Calls Try.prog 14 #[.slice A l.length cap, .int .u32 q] w (Got w (l ++ wd q.toNat)) := by
  obtain ⟨q, rfl⟩ := Int.eq_ofNat_of_zero_le h0
  rw [Int.toNat_natCast]
  obtain ⟨i0, hi, hz0, hz1, hz2⟩ := info_parts byte_info
  have HX := Lib.hid (extend_any w A l cap 4 (by omega) (by omega) (by omega) hR)
  go_enter Try.func14, Try.ntmps14
  go_wp2_with fail
  refine HX.out.mono ?_
  rintro e w1 ⟨rfl, hrow0, hb0⟩
  go_wp2_with fail
  go_loopw [5, 9] (fun v i wr => ∃ k : Nat, k ≤ 4 ∧ i = .int .i64 (k : Int) ∧ wr.ownsRow w.heap.size 5 1 v (l ++ (wd q).take k).length ((l ++ (wd q).take k).map byt) ∧ Below w.heap.size w wr) (fun _ i _ => 4 - (intOf i).toNat)
  case atStart =>
    refine ⟨0, by omega, rfl, ?_, hb0⟩
    simpa using hrow0
  case round =>
    obtain ⟨k, hk, rfl, hown, hB⟩ := hrel
    have hlen : (l ++ (wd q).take k).length + 1 ≤ 140737488355200 := by simp [wd_len]; omega
    obtain ⟨P, hP⟩ : ∃ P, l ++ (wd q).take k = P := ⟨_, rfl⟩
    rw [hP] at hown hlen
    have HP := Lib.hid hP
    clear hP
    by_cases hlt : k < 4
    · clear hq h0 hs hR HX hrow0 hb0
      go_wp2_with (at_builtin; refine wpList_append_own _ rfl _ _ 22 rfl w.heap.size 5 i0 (.int .u8 0) 1 1 Try.underlying22 hi hz0 hz1 hz2 rfl (by decide) _ _ _ rfl (hown.alloc _) ⟨wr.heap.size, 0, none⟩ 1 1 [.int .u8 ((q : Int) / 2 ^ (8 * k) % 256)] rfl rfl (cell_one_new _ _ _) (by simp [Value.oneCell']) (by unfold maxLen; omega) (by omega) (by have := hB.size; simp; omega) ?_; intro v' w1 hown' hgrow _)
      go_roundw
      case rel =>
        refine ⟨k + 1, by omega, by go_num, ?_, ?_⟩
        · have e : l ++ (wd q).take (k + 1) = P ++ [UInt8.ofNat (q / 2 ^ (8 * k) % 256)] := by rw [← HP.out, wd_step q k (by omega), List.append_assoc]
          rw [e]
          simp only [List.length_append, List.length_cons, List.length_nil, List.map_append, List.map_cons, List.map_nil]
          rw [show byt (UInt8.ofNat (q / 2 ^ (8 * k) % 256)) = .int .u8 ((q : Int) / 2 ^ (8 * k) % 256) by simp only [byt]; rw [byte_mod]; simp]
          exact hown'
        · exact (hB.alloc hB.size _).grown hgrow (by have := hB.size; simp; omega) (fun j ej => (hown.lt j ej).1)
      case measure => simp [intOf]; omega
    · have hk4 : k = 4 := by omega
      subst hk4
      go_wp2
      go_ret
      have e : P = l ++ wd q := by rw [← HP.out]; rfl
      rw [e] at hown
      exact ⟨_, rfl, OwnB.mk hown hB⟩

end Go.Proofs.Ytnbohkiimbooaaa
