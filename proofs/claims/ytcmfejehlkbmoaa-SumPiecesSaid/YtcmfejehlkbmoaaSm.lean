/-
  What the small functions of package sum and of the reference do: a rotation, the number of a group, one step of the checksum at a Sum. Conditions: the numbers are in their ranges; a group has at most eight bytes.
-/
import Derived.WalkKit
import Derived.Test.YtcmfejehlkbmoaaBase
namespace Go.Proofs.Ytcmfejehlkbmoaa
open Go.RowKit

/-- The block of a Sum: the checksum's state h, the bytes of the array, the number of bytes received. -/
def sumObj (h : Nat) (r : List UInt8) (s : Nat) : Obj := .cells (Value.int .u64 ((h ^^^ K3 : Nat) : Int) :: (r.map byt ++ [.int .i64 (s : Int)])).toArray 44 (0, 0)

structure Sb (w : World) (x h : Nat) (r : List UInt8) (s : Nat) : Prop where
  len : r.length = 8
  hlt : h < M64
  blk : w.heap[x]? = some (sumObj h r s)

section
variable {w w' : World} {x h s : Nat} {r : List UInt8}
theorem Sb.lt (H : Sb w x h r s) : x < w.heap.size := (Array.getElem?_eq_some_iff.1 H.blk).1
theorem Sb.cell0 (H : Sb w x h r s) : w.cell? ⟨x, 0, none⟩ = some (.int .u64 ((h ^^^ K3 : Nat) : Int)) := by rw [cell_of_row w x 0 _ _ _ H.blk]; rfl
theorem Sb.cellr (H : Sb w x h r s) {j : Nat} {b : UInt8} (hj : r[j]? = some b) : w.cell? ⟨x, 1 + j, none⟩ = some (byt b) := by
  have hl : j < r.length := (List.getElem?_eq_some_iff.1 hj).1
  rw [cell_of_row w x (1 + j) _ _ _ H.blk, List.getElem?_toArray, Nat.add_comm, List.getElem?_cons_succ, List.getElem?_append_left (by simpa using hl), List.getElem?_map, hj]
  rfl
theorem Sb.cell9 (H : Sb w x h r s) : w.cell? ⟨x, 9, none⟩ = some (.int .i64 (s : Int)) := by
  rw [cell_of_row w x 9 _ _ _ H.blk, List.getElem?_toArray, List.getElem?_cons_succ, List.getElem?_append_right (by simp [H.len])]
  simp [H.len]
theorem Sb.free (H : Sb w x h r s) (i : Nat) : w.frozen? ⟨x, i, none⟩ = false := by
  have := H.blk
  unfold sumObj at this
  simp [World.frozen?, this]
theorem Sb.same (H : Sb w x h r s) (hb : w'.heap[x]? = w.heap[x]?) : Sb w' x h r s := ⟨H.len, H.hlt, hb.trans H.blk⟩
theorem Sb.set0 (H : Sb w x h r s) {h' : Nat} (hh : h' < M64) : Sb (w.setCell ⟨x, 0, none⟩ (.int .u64 ((h' ^^^ K3 : Nat) : Int))) x h' r s := by
  refine ⟨H.len, hh, ?_⟩
  have hb := H.blk
  unfold sumObj at hb ⊢
  simp [World.setCell, Array.getElem?_modify, hb]
theorem Sb.set9 (H : Sb w x h r s) (s' : Nat) : Sb (w.setCell ⟨x, 9, none⟩ (.int .i64 (s' : Int))) x h r s' := by
  refine ⟨H.len, H.hlt, ?_⟩
  have hb := H.blk
  unfold sumObj at hb ⊢
  have e : 9 = (r.map byt).length + 1 := by simp [H.len]
  simp [World.setCell, Array.getElem?_modify, hb]
  rw [List.set_append_right _ _ (by simp [H.len])]
  simp [H.len]
end

theorem xor_k3 {h : Nat} (hh : h < M64) : bits BinOp.xor IntKind.u64 ((h ^^^ K3 : Nat) : Int) 18397679294719823053 = (h : Int) := by
  have h3 : K3 < M64 := by decide
  have := u64_xor_nat (h ^^^ K3) K3 (xor_lt64 hh h3) h3
  rw [show ((K3 : Nat) : Int) = 18397679294719823053 from rfl] at this
  rw [this, Nat.xor_assoc, Nat.xor_self, Nat.xor_zero]

theorem or_add {a b : Nat} (n : Nat) (hb : b < 2 ^ n) : (2 ^ n * a) ||| b = 2 ^ n * a + b := (Nat.two_pow_add_eq_or_of_lt hb a).symm

theorem wrap_u64_mod (n : Int) : IntKind.u64.wrap n = n % 18446744073709551616 := by simp [IntKind.wrap, IntKind.bits, IntKind.signed]
theorem rot_or {a : Nat} (ha : a < M64) : bits BinOp.or IntKind.u64 (IntKind.u64.wrap ((a : Int) * 2147483648)) ((a : Int) / 8589934592) = (rot a : Int) := by
  unfold M64 at ha
  obtain ⟨q, hq⟩ : ∃ q, a / 8589934592 = q := ⟨_, rfl⟩
  have e1 : IntKind.u64.wrap ((a : Int) * 2147483648) = ((2 ^ 31 * (a % 8589934592) : Nat) : Int) := by
    rw [wrap_u64_mod]
    omega
  have e2 : ((a : Int) / 8589934592) = (q : Int) := by omega
  rw [e1, e2, u64_or_nat _ _ (by omega) (by omega), or_add 31 (by omega)]
  unfold rot M64
  omega

theorem rot_add {a : Nat} (ha : a < M64) : IntKind.u64.wrap (IntKind.u64.wrap ((a : Int) * 2147483648) + IntKind.u64.wrap ((a : Int) / 8589934592)) = (rot a : Int) := by
  unfold M64 at ha
  rw [wrap_u64_mod, wrap_u64_mod, wrap_u64_mod]
  unfold rot M64
  omega

set_option maxHeartbeats 1000000 in
theorem rotl_any (w : World) (a : Nat) (ha : a < M64) :
    Calls Try.prog 25 #[.int .u64 (a : Int), .int .i64 31] w fun e w' => e = .returned (.int .u64 (rot a : Int)) ∧ w = w' := by
  have HX := Lib.hid (rot_or ha)
  have h31 : bits BinOp.and IntKind.u64 31 63 = 31 := by decide +kernel
  clear ha
  go_enter Try.func25, Try.ntmps25
  go_wp2
  go_ret
  exact ⟨by rw [← HX.out]; rfl, rfl⟩

set_option maxHeartbeats 1000000 in
theorem turned_any (w : World) (a : Nat) (ha : a < M64) :
    Calls Try.prog 20 #[.int .u64 (a : Int)] w fun e w' => e = .returned (.int .u64 (rot a : Int)) ∧ w = w' := by
  have HX := Lib.hid (rot_add ha)
  clear ha
  go_enter Try.func20, Try.ntmps20
  go_wp2
  go_ret
  exact ⟨by rw [← HX.out]; rfl, rfl⟩

theorem le_snoc (l : List UInt8) (b : UInt8) : le (l ++ [b]) = le l + 2 ^ (8 * l.length) * b.toNat := by
  rw [le_append, le, le, Nat.mul_zero, Nat.add_zero, show (256 : Nat) = 2 ^ 8 from rfl, ← Nat.pow_mul]

theorem le_or {v b k : Nat} (hv : v < 256 ^ k) (hb : b < 256) (hk : k < 8) : bits BinOp.or IntKind.u64 (v : Int) (IntKind.u64.wrap ((b : Int) * 2 ^ (8 * k))) = ((v + 2 ^ (8 * k) * b : Nat) : Int) := by
  have hp : (2 : Nat) ^ (8 * k) * 256 ≤ 18446744073709551616 := by
    rw [show (256 : Nat) = 2 ^ 8 from rfl, ← Nat.pow_add]
    exact Nat.pow_le_pow_right (n := 2) (by decide) (show 8 * k + 8 ≤ 64 by omega)
  have hpp : 0 < 2 ^ (8 * k) := Nat.two_pow_pos _
  have h256 : 256 ^ k = 2 ^ (8 * k) := by rw [show (256 : Nat) = 2 ^ 8 from rfl, ← Nat.pow_mul]
  rw [h256] at hv
  have h3 : 2 ^ (8 * k) * b < 2 ^ (8 * k) * 256 := (Nat.mul_lt_mul_left hpp).2 hb
  have e3 : ((b : Int) * 2 ^ (8 * k)) = ((2 ^ (8 * k) * b : Nat) : Int) := by
    rw [Int.natCast_mul, Int.natCast_pow, Int.mul_comm]; rfl
  rw [e3, IntWalk.u64_in _ (by omega), u64_or_nat _ _ (by omega) (by omega), Nat.or_comm, or_add _ hv, Nat.add_comm]

set_option maxRecDepth 100000 in
set_option maxHeartbeats 1000000 in
theorem integer_any (w : World) (A : Option Addr) (l : List UInt8) (N c : Nat) (hN : l.length = N) (h8 : N ≤ 8) (hR : Rd w A l) :
    Calls Try.prog 28 #[.slice A N c] w fun e w' => e = .returned (.int .u64 (le l : Int)) ∧ w' = w := by
  obtain ⟨R, hRR⟩ : ∃ R, le l = R := ⟨_, rfl⟩
  rw [hRR]
  have HR := Lib.hid hRR
  have HN := Lib.hid hN
  clear hRR hN
  go_enter Try.func28, Try.ntmps28
  go_wp2
  go_loop [3, 8] (fun v i => ∃ k : Nat, k ≤ N ∧ i = .int .i64 (k : Int) ∧ v = .int .u64 (le (l.take k) : Int)) (fun _ i => N - (intOf i).toNat)
  case atStart => exact ⟨0, Nat.zero_le _, rfl, rfl⟩
  case round =>
    obtain ⟨k, hk, rfl, rfl⟩ := hrel
    obtain ⟨V, hV⟩ : ∃ V, le (l.take k) = V := ⟨_, rfl⟩
    have HV := Lib.hid hV
    rw [hV]
    clear hV
    by_cases hlt : k < N
    · obtain ⟨b, hb⟩ : ∃ b, l[k]? = some b := ⟨_, List.getElem?_eq_getElem (by rw [HN.out]; exact hlt)⟩
      obtain ⟨ad, rfl, hc⟩ := hR k (byt b) (by rw [List.getElem?_map, hb]; rfl)
      have e1 : l.take (k + 1) = l.take k ++ [b] := by rw [List.take_add_one, hb]; rfl
      have HX := Lib.hid (le_or (v := V) (b := b.toNat) (k := k) (by
        have := le_lt (l.take k)
        rw [HV.out, List.length_take, HN.out, Nat.min_eq_left (by omega)] at this
        exact this) b.toNat_lt (by omega))
      have HS : Hid (V + 2 ^ (8 * k) * b.toNat = le (l.take (k + 1))) := Lib.hid (by
        rw [e1, le_snoc, List.length_take, HN.out, Nat.min_eq_left (by omega), HV.out])
      obtain ⟨y, hy⟩ : ∃ y, b.toNat = y := ⟨_, rfl⟩
      simp only [byt] at hc
      have hyl : y < 256 := by rw [← hy]; exact b.toNat_lt
      have hyw : IntKind.u64.wrap (y : Int) = (y : Int) := IntWalk.u64_in _ (by omega)
      rw [hy] at HX HS hc
      clear hb e1 hy
      go_wp2
      refine ⟨⟨k + 1, by omega, by simp, ?_⟩, by simp [intOf]; omega⟩
      rw [← HS.out, ← HX.out]
    · have hkn : k = N := by omega
      subst hkn
      have HE := Lib.hid (HR.out.symm.trans (by rw [← HV.out, List.take_of_length_le (by rw [HN.out]; omega)] : le l = V))
      clear hlt
      go_wp2
      go_ret
      exact ⟨by rw [HE.out]; rfl, rfl⟩

theorem step_eq {h v : Nat} (hh : h < M64) :
    IntKind.u64.wrap ((v : Int) * 11400714819323198485) = ((v * K1 % M64 : Nat) : Int) ∧ bits BinOp.xor IntKind.u64 (h : Int) ((v * K1 % M64 : Nat) : Int) = ((h ^^^ (v * K1 % M64) : Nat) : Int) := by
  refine ⟨by rw [wrap_u64_mod]; unfold K1 M64; omega, ?_⟩
  exact u64_xor_nat _ _ hh (Nat.mod_lt _ (by decide))

set_option maxHeartbeats 1000000 in
theorem update_any {w : World} {x h : Nat} {r : List UInt8} {s : Nat} (H : Sb w x h r s) (v : Nat) :
    Calls Try.prog 23 #[.pointer (some ⟨x, 0, none⟩), .int .u64 (v : Int)] w fun e w' => e = .returned (.tuple #[]) ∧ Sb w' x (step h v) r s ∧ w.grownBy w' (some x) := by
  have c0 := H.cell0
  have f0 := H.free 0
  have x0 := xor_k3 H.hlt
  have HH := Lib.hid H
  obtain ⟨x1, x2⟩ := step_eq (v := v) H.hlt
  have ha : h ^^^ (v * K1 % M64) < M64 := xor_lt64 H.hlt (Nat.mod_lt _ (by decide))
  obtain ⟨u, hu⟩ : ∃ u, v * K1 % M64 = u := ⟨_, rfl⟩
  rw [hu] at x1 x2 ha
  obtain ⟨a, hae⟩ : ∃ a, h ^^^ u = a := ⟨_, rfl⟩
  rw [hae] at x2 ha
  have HS : Hid (step h v = rot a * K2 % M64) := Lib.hid (by rw [step, hu, hae])
  have HR := Lib.hid (rotl_any w a ha)
  obtain ⟨q, hq⟩ : ∃ q, rot a = q := ⟨_, rfl⟩
  rw [hq] at HS HR
  have x3 : IntKind.u64.wrap ((q : Int) * 15485907386658061715) = ((q * K2 % M64 : Nat) : Int) := by rw [wrap_u64_mod]; unfold K2 M64; omega
  obtain ⟨t, ht⟩ : ∃ t, q * K2 % M64 = t := ⟨_, rfl⟩
  have htl : t < M64 := by rw [← ht]; exact Nat.mod_lt _ (by decide)
  rw [ht] at x3 HS
  have x4 : bits BinOp.xor IntKind.u64 (t : Int) 18397679294719823053 = ((t ^^^ K3 : Nat) : Int) := u64_xor_nat _ K3 htl (by decide)
  have HT := Lib.hid htl
  obtain ⟨m, hm⟩ : ∃ m, h ^^^ K3 = m := ⟨_, rfl⟩
  rw [hm] at c0 x0
  obtain ⟨m', hm'⟩ : ∃ m', t ^^^ K3 = m' := ⟨_, rfl⟩
  have HM := Lib.hid hm'
  rw [hm'] at x4
  clear H hu hae hq ht hm hm' ha htl
  go_enter Try.func23, Try.ntmps23
  go_wp2_with fail
  refine HR.out.mono ?_
  rintro e w1 ⟨rfl, rfl⟩
  go_wp2_with fail
  go_end0
  rw [HS.out, ← HM.out]
  exact ⟨rfl, HH.out.set0 HT.out, grown_setCell _ _ _ _⟩

end Go.Proofs.Ytcmfejehlkbmoaa
