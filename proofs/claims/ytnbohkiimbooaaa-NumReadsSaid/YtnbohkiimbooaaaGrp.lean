/-
  What num.groups and the function that it returns do: that function hands out the bytes of the varint of n, in order, as long as it is asked to go on. Condition: n is a uint64.
-/
import Derived.RangeFuncBox
import Derived.RangeFuncNested
import Derived.RangeFuncLeaves
import Derived.Shelf.Abstract
import Derived.WalkKit
import Derived.OwnWalkIn
import Derived.TacticsInMore
import Derived.LoopNIn
import Derived.LoopIn
import Derived.Maps.AppendAt
import Derived.Test.YtnbohkiimbooaaaProg
import Derived.Test.YtnbohkiimbooaaaBase
import Derived.Test.YtnbohkiimbooaaaVi
namespace Go.Proofs.Ytnbohkiimbooaaa
open Go.RowKit Go.Shelf

attribute [local go_sem] Oper.semAt_some

set_option maxHeartbeats 400000 in
theorem groups_in (F : Fence) (n : Nat) (h36 : F.fn 36) (hro : F.round = none) (m : Int) (w : World) :
    CallsIn F n Try.prog 36 #[.int .u64 m] w fun e w' => e = .returned (.func (.func 52) #[] #[.pointer (some ⟨w.heap.size, 0, none⟩)]) ∧ w' = w.alloc (.cells #[.int .u64 m] 24) := by
  refine callsIn_of_wp Try.func36 rfl h36 ?_ hro
  simp only [Try.ntmps36, List.size_toArray, List.length_cons, List.length_nil, Nat.reduceAdd, Nat.reduceSub, Array.replicate_succ, Array.replicate_zero, List.push_toArray, List.append_toArray, List.nil_append, List.cons_append]
  gi_wp2
  go_ret
  exact ⟨rfl, rfl⟩

theorem nat_or_128 : ∀ a, a < 256 → a ||| 128 = a % 128 + 128 := by decide +kernel
theorem or_high (m : Nat) : bits BinOp.or IntKind.u8 ((m : Int) % 256) 128 = ((UInt8.ofNat (m % 128 + 128)).toNat : Int) := by
  rw [byte_high]
  have h := u8_or_nat (m % 256) 128 (by omega) (by omega)
  rw [nat_or_128 _ (by omega)] at h
  rw [show ((m : Int) % 256) = ((m % 256 : Nat) : Int) by omega]
  rw [show ((128 : Int)) = ((128 : Nat) : Int) by rfl, h]
  omega

set_option maxRecDepth 100000 in
set_option maxHeartbeats 1000000 in
theorem groups1_in (F : Fence) (n : Nat) (h52 : F.fn 52) (hro : F.round = none) (hn : 1 ≤ n) (l Bn n₀ : Nat) (q : Nat) (hq : q < 18446744073709551616) (J Jx : List UInt8 → World → Prop)
    (hY : ∀ pre x W, J pre W → pre.length < 10 → YieldAt F (n - 1) Try.prog l #[byt x] W fun e W' =>
      (e = .returned (.bool true) ∧ J (pre ++ [x]) W' ∧ Below n₀ W W') ∨ (e = .returned (.bool false) ∧ Jx (pre ++ [x]) W'))
    (W : World) (hBn : W.cell? ⟨Bn, 0, none⟩ = some (.int .u64 q)) (h0 : J [] W) :
    CallsIn F n Try.prog 52 #[.func (.yield l) #[] #[], .pointer (some ⟨Bn, 0, none⟩)] W fun e W' => (∃ v, e = .returned v) ∧
      ((∃ ys, ys = vi q ∧ J ys W') ∨ (∃ pre, pre <+: vi q ∧ Jx pre W')) := by
  refine callsIn_of_wp Try.func52 rfl h52 ?_ hro
  simp only [Try.ntmps52, List.size_toArray, List.length_cons, List.length_nil, Nat.reduceAdd, Nat.reduceSub, Array.replicate_succ, Array.replicate_zero, List.push_toArray, List.append_toArray, List.nil_append, List.cons_append]
  gi_wp2
  gi_loopw [3] (fun p wr => ∃ (pre : List UInt8) (m f : Nat), p = .int .u64 (m : Int) ∧ pre.length + f = 9 ∧ m < 128 ^ (f + 1) ∧ m < 18446744073709551616 ∧ vi q = pre ++ viF (f + 1) m ∧ J pre wr)
    (fun p _ => (intOf p).toNat)
  case atStart =>
    exact ⟨[], q, 9, rfl, rfl, by omega, hq, rfl, h0⟩
  case round =>
    obtain ⟨pre, m, f, rfl, hlen, hm, hm64, hx, hJs⟩ := hrel
    have HX := Lib.hid hx
    have HL := Lib.hid hlen
    clear hx hlen
    by_cases hb : 128 ≤ m
    · obtain ⟨fn, tmps, assign, body, hy, hR⟩ := hY pre (UInt8.ofNat (m % 128 + 128)) wr hJs (by have := HL.out; omega)
      have hy' : Sem.run Try.prog (Instr.yield l #[Value.int IntKind.u8 (bits BinOp.or IntKind.u8 ((m : Int) % 256) 128)]) wr = Result.ok (Next.round l fn tmps assign body) wr := by
        rw [or_high m]; exact hy
      clear hy
      have hd : decide ((128 : Int) ≤ (m : Int)) = true := by simp; omega
      gi_wp2
      refine hR.mono ?_
      rintro e W3 (⟨rfl, hJ3, hk3⟩ | ⟨rfl, hJx3⟩)
      · gi_wp2
        have hf : f ≠ 0 := by rintro rfl; simp at hm; omega
        obtain ⟨f', rfl⟩ : ∃ f', f = f' + 1 := ⟨f - 1, by omega⟩
        refine ⟨⟨pre ++ [UInt8.ofNat (m % 128 + 128)], m / 128, f', by simp, ?_, ?_, by omega, ?_, hJ3⟩, ?_⟩
        · have := HL.out; simp; omega
        · exact Nat.div_lt_of_lt_mul (by rw [Nat.pow_succ] at hm; omega)
        · rw [HX.out, viF_big hb]; simp
        · simp [intOf]; omega
      · gi_wp2
        refine bodyPost_ret (results_none rfl _ _ _) rfl ?_
        refine ⟨⟨_, rfl⟩, .inr ⟨pre ++ [UInt8.ofNat (m % 128 + 128)], ?_, hJx3⟩⟩
        rw [HX.out, viF_big hb]
        exact ⟨viF f (m / 128), by simp⟩
    · obtain ⟨fn, tmps, assign, body, hy, hR⟩ := hY pre (UInt8.ofNat m) wr hJs (by have := HL.out; omega)
      have hy' : Sem.run Try.prog (Instr.yield l #[Value.int IntKind.u8 (m : Int)]) wr = Result.ok (Next.round l fn tmps assign body) wr := by
        rw [show (m : Int) = ((UInt8.ofNat m).toNat : Int) by rw [byte_low (by omega)]]; exact hy
      clear hy
      have hd : decide ((128 : Int) ≤ (m : Int)) = false := by simp; omega
      gi_wp2
      refine hR.mono ?_
      have he : vi q = pre ++ [UInt8.ofNat m] := by rw [HX.out, viF_small (by omega)]
      have HE := Lib.hid he
      clear he
      rintro e W3 (⟨rfl, hJ3, hk3⟩ | ⟨rfl, hJx3⟩)
      · gi_wp2
        go_end0
        exact ⟨⟨_, rfl⟩, .inl ⟨_, HE.out.symm, hJ3⟩⟩
      · gi_wp2
        go_end0
        exact ⟨⟨_, rfl⟩, .inr ⟨_, by rw [HE.out]; exact List.prefix_refl _, hJx3⟩⟩

end Go.Proofs.Ytnbohkiimbooaaa
