/-
  What push of a ring's buffer does: the contents are then the last bytes of the former contents and the new bytes. Conditions: the bytes do not lie in the ring's own blocks.
-/
import Derived.BigRegion
import Derived.Laws.MakeOwn
import Derived.Test.YteogpmapbeogpaaDoorRg
namespace Go.Proofs.YteogpmapbeogpaaDoor
open Go.RowKit

/-- The row of v' is that of v or new. -/
def New (w : World) (v v' : Value) : Prop := ∀ k, v'.ownBlock = some k → v.ownBlock = some k ∨ w.heap.size ≤ k
theorem New.refl (w : World) (v : Value) : New w v v := fun _ h => .inl h
theorem New.trans {a b : World} {u v z : Value} (h : New a u v) (k : New b v z) (hs : a.heap.size ≤ b.heap.size) : New a u z := by
  intro j hj
  rcases k j hj with e | e
  · exact h j e
  · exact .inr (by omega)
/-- A step within a ring that has changed. -/
theorem Chg.fp {a b c : World} {x : Nat} {u v : Value} (h : Chg (Fp x u) a b) (k : Chg (Fp x v) b c) (hn : New a u v) : Chg (Fp x u) a c := by
  refine ⟨k.os.trans h.os, k.tape.trans h.tape, k.output.trans h.output, Nat.le_trans h.size k.size, fun i hi hx => ?_⟩
  refine (k.block i (Nat.lt_of_lt_of_le hi h.size) ?_).trans (h.block i hi hx)
  rintro (e | e)
  · exact hx (.inl e)
  · rcases hn i e with e | e
    · exact hx (.inr e)
    · omega
theorem Chg.of_row {w w' : World} {x : Nat} {v : Value} (h : w.grownBy w' v.ownBlock) : Chg (Fp x v) w w' := ⟨h.os, h.tape, h.output, h.size, fun k hk hn => h.block k hk (fun e => hn (.inr e.symm))⟩
theorem Chg.of_self {w w' : World} {x : Nat} {v : Value} (h : w.grownBy w' (some x)) : Chg (Fp x v) w w' := ⟨h.os, h.tape, h.output, h.size, fun k hk hn => h.block k hk (fun e => hn (.inl (by injection e)))⟩

/-- Bytes at A lie outside the blocks S. -/
def Out (A : Option Addr) (m : List UInt8) (S : Nat → Prop) : Prop := m ≠ [] → ∀ ad, A = some ad → ¬ S ad.block

theorem ne_of_get {m : List UInt8} {j : Nat} {v : Value} (h : (m.map byt)[j]? = some v) : m ≠ [] := by
  rintro rfl
  simp at h
theorem rd_lt {w : World} {A : Option Addr} {m : List UInt8} (h : Rd w A m) (hm : m ≠ []) : ∀ ad, A = some ad → ad.block < w.heap.size := by
  intro ad e
  rcases m with _ | ⟨b, m⟩
  · exact absurd rfl hm
  · obtain ⟨ad', e', hc⟩ := h 0 (byt b) rfl
    rw [e] at e'
    cases e'
    have := cell_lt hc
    rwa [addr_add_block] at this
theorem rd_chg {w w' : World} {A : Option Addr} {m : List UInt8} {S : Nat → Prop} (h : Rd w A m) (hc : Chg S w w') (ho : Out A m S) : Rd w' A m := by
  intro j v hj
  obtain ⟨ad, e, hh⟩ := h j v hj
  have hm := ne_of_get hj
  exact ⟨ad, e, by rw [← hh]; exact World.cell?_of_block (by rw [addr_add_block]; exact hc.block _ (rd_lt h hm ad e) (ho hm ad e))⟩
theorem Out.drop {A : Option Addr} {m : List UInt8} {S : Nat → Prop} (h : Out A m S) (c n : Nat) : Out (off A c n) (m.drop n) S := by
  intro hm ad e
  obtain ⟨ad0, e0, hb⟩ := off_block ad e
  rw [hb]
  exact h (fun e => hm (by rw [e]; simp)) ad0 e0
theorem Out.take {A : Option Addr} {m : List UInt8} {S : Nat → Prop} (h : Out A m S) (n : Nat) : Out A (m.take n) S := fun hm ad e => h (fun e => hm (by rw [e]; simp)) ad e
theorem Out.mono {A : Option Addr} {m : List UInt8} {S T : Nat → Prop} (h : Out A m S) (hs : ∀ ad, A = some ad → m ≠ [] → T ad.block → S ad.block) : Out A m T := fun hm ad e ht => h hm ad e (hs ad e hm ht)

/-- make([]byte, n, K). -/
theorem make_bytes (n K : Nat) (h : n ≤ K) (hK : K ≤ 1099511627776) (W : World) : ∃ w1 xs, (Instr.makeSlice 22 (.int .i64 (n : Int)) (.int .i64 (K : Int))).run Tryd.prog W = .ok (.slice (some ⟨W.heap.size, 0, none⟩) n K) w1 ∧
    w1.ownsRow W.heap.size 5 1 (.slice (some ⟨W.heap.size, 0, none⟩) n K) n xs ∧ Below W.heap.size W w1 := by
  obtain ⟨i0, hi, hz0, hz1, hz2⟩ := info_parts byte_info
  have hr := run_make (P := Tryd.prog) W 22 5 i0 (.int .u8 0) Tryd.underlying22 hi hz0 .i64 .i64 n K (by omega) (by omega) (by rw [hz2]; omega) (by omega)
  simp only [Int.toNat_natCast] at hr
  have hsz : (madeCells (Value.int .u8 0).cells (K * i0.size)).size = K * 1 := by rw [size_madeCells, hz1]
  refine ⟨_, (madeCells (Value.int .u8 0).cells (K * i0.size)).toList.take (n * 1), hr, ⟨?_, .inr ⟨W.heap.size, K, _, rfl, Nat.le_refl _, World.alloc_heap_new W _, h, by unfold maxLen; omega, hsz, rfl⟩⟩, (Below.refl _ _).alloc (Nat.le_refl _) _⟩
  rw [List.length_take, Array.length_toList, hsz]
  omega

theorem grown_setRow (w : World) (g : Nat) (cs : Array Value) : w.grownBy (w.setRow g cs) (some g) :=
  ⟨rfl, rfl, rfl, by simp [World.setRow], fun k _ hne => setRow_other w g k cs (fun e => hne (by rw [e]))⟩

/-- copy into a row of the call's own, from place o on. -/
theorem copy_own {w : World} {base n c : Nat} {A : Option Addr} {xs : List Value} (ho : w.ownsRow base 5 1 (.slice A n c) n xs) (o : Nat) (hon : o ≤ n) (B : Option Addr) (m : List UInt8) (M cm : Nat) (hM : m.length = M) (hR : Rd w B m) (k : Nat) (hk : min M (n - o) = k) :
    ∃ w', (Builtin.copy_ #[22, 22] 3 #[.slice (off A c o) (n - o) (c - o), .slice B M cm]).run Tryd.prog w = .ok (.int .i64 (k : Int)) w' ∧
      w'.ownsRow base 5 1 (.slice A n c) n (xs.take o ++ ((m.take k).map byt ++ xs.drop (o + k))) ∧ w.grownBy w' (Value.slice A n c).ownBlock := by
  have hlen := ho.1
  rw [Nat.mul_one] at hlen
  by_cases h0 : k = 0
  · refine ⟨w, ?_, ?_, World.grownBy.refl _ _⟩
    · have := run_copy_none (P := Tryd.prog) w 22 22 3 5 (off A c o) B (n - o) (c - o) M cm Tryd.underlying22 size_one (by rw [← h0, ← hk])
      rw [this, h0]
      rfl
    · rw [h0, List.take_zero, List.map_nil, List.nil_append, Nat.add_zero, List.take_append_drop]
      exact ho
  · obtain ⟨bd, rfl⟩ := hR.some_of (fun e => h0 (by rw [← hk, ← hM, List.map_eq_nil_iff.1 e]; simp))
    rcases ho.2 with ⟨_, hn⟩ | ⟨g, c', cur, hv, hg, hh, hnc, hcm, hs, ht⟩
    · omega
    · injection hv with hA _ hcc
      subst hA hcc
      have hoc : off (some ⟨g, 0, none⟩) c o = some ⟨g, o, none⟩ := by
        unfold off
        rw [if_neg (by omega)]
        simp [Addr.add]
        rcases Nat.eq_zero_or_pos o with h | h
        · simp [h]
        · simp [Nat.ne_of_gt h]
      have hcs : ((m.take k).map byt).length = k := by simp; omega
      have := run_copy_row (P := Tryd.prog) w 22 22 3 5 g o (n - o) (c - o) bd M cm cur _ ((m.take k).map byt) Tryd.underlying22 size_one hh (by rw [hcs, ← hk])
        (by
          intro j v hj
          rw [List.map_take] at hj
          exact (hR.take k).cells j v hj) (by rw [hcs, hs]; omega) (byt_one _)
      rw [hcs] at this
      rw [hoc]
      refine ⟨_, this, ⟨?_, .inr ⟨g, c, _, rfl, hg, setRow_heap w g _ _ _ _ hh, hnc, hcm, ?_, ?_⟩⟩, grown_setRow _ _ _⟩
      · simp; omega
      · simp; omega
      · have hx : xs = cur.toList.take n := by rw [← ht, Nat.mul_one]
        have hcl : cur.toList.length = c := by simp [hs]
        rw [hx, Nat.mul_one]
        simp only [List.append_assoc]
        rw [List.take_append, List.take_take, Nat.min_eq_right hon, List.length_take, hcl, Nat.min_eq_left (by omega), List.take_append, hcs, List.take_of_length_le (l := (m.take k).map byt) (by omega), List.take_take, Nat.min_eq_left hon, List.drop_take, show n - o - k = n - (o + k) by omega]

end Go.Proofs.YteogpmapbeogpaaDoor
