/-
  append(x, make([]int, k)...) for a row x of the call's own that is not empty: k zeros behind it. Conditions: k is at most 3, fewer than a million ints.
-/
import Derived.Test.YtnlhokfhkohdpaaGreatSa
namespace Go.Proofs.YtnlhokfhkohdpaaGreat.De
open Go.RowKit

theorem int_info : (Tryz.prog.info? 3).map (fun i => (i.zero, i.size, i.bytes)) = some (some (.int .i64 0), 1, 8) := by kernel_rfl

theorem zeros_cells : ∀ k : Nat, k ≤ 3 → Builtin.zeroCells (Value.cells (.int .i64 0)) k = (List.replicate k (Value.int .i64 0)).toArray := by
  intro k _
  have e : (Value.cells (.int .i64 0)) = #[Value.int .i64 0] := rfl
  rw [e]
  apply Array.ext
  · simp [Builtin.zeroCells]
  · intro i h1 h2
    simp [Builtin.zeroCells, Nat.mod_one]

theorem arr3 (xs Z : List Value) (R : Array Value) : xs.toArray ++ (Z.toArray ++ R) = (xs ++ Z).toArray ++ R := by
  apply Array.ext'
  simp

theorem run_append_zeros (w : World) (ty : TypeId) (base : Nat) (A : Option Addr) (n c : Nat) (xs : List Value) (hown : w.ownsRow base 3 1 (.slice A n c) n xs) (h1 : 1 ≤ n) (k : Nat) (hk : k ≤ 3) (hb : n ≤ 1000000) (hbase : base ≤ w.heap.size) :
    ∃ v' w', (Builtin.append_ #[24, 3] ty #[.slice A n c, .int .i64 (k : Int)]).run Tryz.prog w = .ok v' w' ∧ w'.ownsRow base 3 1 v' (n + k) (xs ++ List.replicate k (.int .i64 0)) ∧ w.grownBy w' (Value.ownBlock (.slice A n c)) ∧
      (v'.ownBlock = Value.ownBlock (.slice A n c) ∨ v'.ownBlock = some w.heap.size) := by
  obtain ⟨i0, hi, hz0, hz1, hz2⟩ := info_parts int_info
  have hu := Tryz.underlying24
  have hui := Tryz.underlying3
  have hxl := hown.1
  rw [Nat.mul_one] at hxl
  have hzc := zeros_cells k hk
  have hw : IntKind.i64.wrap (k : Int) = (k : Int) := IntWalk.i64_in _ (by omega)
  have hk0 : ¬ ((k : Int) < 0) := by omega
  have hkb : ¬ (281474976710656 < (k : Int) * 8) := by omega
  obtain ⟨Z, hZ⟩ : ∃ Z, List.replicate k (Value.int .i64 0) = Z := ⟨_, rfl⟩
  have hZl : Z.length = k := by rw [← hZ, List.length_replicate]
  have hZ1 : ∀ u ∈ Z, u.oneCell' = true := by
    intro u hu
    rw [← hZ] at hu
    rw [List.eq_of_mem_replicate hu]
    rfl
  have hnw : (if k * i0.size = 0 then (#[] : Array Value) else Builtin.zeroCells (Value.cells (.int .i64 0)) k) = Z.toArray := by
    rw [hzc, hZ]
    split
    · rename_i h
      rw [hz1, Nat.mul_one] at h
      rw [h] at hZl
      rw [List.eq_nil_of_length_eq_zero hZl]
    · rfl
  rw [hZ] at hzc ⊢
  rcases hown.2 with ⟨_, h0⟩ | ⟨g, cap, cur, hv, hbg, hg, hnc, hcm, hcs, htake⟩
  · omega
  · cases hv
    rw [Nat.mul_one] at hcs htake
    by_cases hroom : n + k ≤ c
    · by_cases hkz : k = 0
      · subst hkz
        obtain rfl : Z = [] := List.eq_nil_of_length_eq_zero hZl
        have hw0 : IntKind.i64.wrap 0 = 0 := by decide
        refine ⟨.slice (some ⟨g, 0, none⟩) (n + 0) c, w, ?_, by simpa using hown, World.grownBy.refl _ _, .inl rfl⟩
        simp [Builtin.append_, run_underlying hu, run_underlying hui, sizeOf, typeInfo, hi, hz2, hnc, asInt, asIntOf, storeCells, hw0]
      · have hst := run_storeCells_at Tryz.prog g n 3 Z 0 cur w hg (by rw [hZl, hcs]; omega) hZ1
        simp only [Nat.add_zero] at hst
        obtain ⟨C, hC⟩ : ∃ C, (cur.toList.take n ++ Z ++ cur.toList.drop (n + Z.length)).toArray = C := ⟨_, rfl⟩
        rw [hC] at hst
        refine ⟨.slice (some ⟨g, 0, none⟩) (n + k) c, w.setRow g C, ?_, ⟨by rw [List.length_append, hxl, hZl]; omega, .inr ⟨g, c, C, rfl, hbg, setRow_heap w g cur C 3 _ hg, hroom, hcm, ?_, ?_⟩⟩, ⟨rfl, rfl, rfl, by simp, fun j _ hj => setRow_other w g j C (fun e => hj (by simp [Value.ownBlock, e]))⟩, .inl rfl⟩
        · simp [Builtin.append_, run_underlying hu, run_underlying hui, sizeOf, typeInfo, zeroValue, hi, hz0, hw, hk0, hkb, hz1, hz2, hroom, Addr.add_lit, asInt, asIntOf, hkz, hzc, hst]
        · rw [← hC]
          simp only [List.size_toArray, List.length_append, List.length_take, List.length_drop, Array.length_toList]
          omega
        · rw [← hC, Nat.mul_one, htake, show n + k = (xs ++ Z).length by rw [List.length_append, hxl, hZl]]
          exact List.take_left
    · have hfo := run_firstCells_some (P := Tryz.prog) w.drew i0.size n ⟨g, 0, none⟩ n c xs (by rw [hz1, Nat.mul_one]; exact hxl) (by simpa using hown.cells (g := g) rfl)
      rw [hz1] at hfo
      have hge := grownCap_ge w (n + k) c 3
      have hcm2 : grownCap w (n + k) c 3 ≤ maxLen := grownCap_le_maxLen w (n + k) c 3 (by unfold maxLen; omega)
      have h63' : ¬ (9223372036854775807 < ((n : Int) + (k : Int))) := by omega
      have h48 := growslice_fits (need := n + k) (old := c) (bytes := 8) (by omega) (by omega)
      have h48' : ¬ (281474976710656 < Builtin.nextslicecap (n + k) c * 8) := by omega
      have hkz : k ≠ 0 := by omega
      refine ⟨.slice (some ⟨w.heap.size, 0, none⟩) (n + k) (grownCap w (n + k) c 3), w.drew.alloc (.cells (xs.toArray ++ Z.toArray ++ Builtin.zeroCells (Value.cells (.int .i64 0)) (grownCap w (n + k) c 3 - (n + k))) 3), ?_,
        ⟨by rw [List.length_append, hxl, hZl]; omega, .inr ⟨w.heap.size, _, _, rfl, hbase, heap_alloc_new w.drew _, hge, hcm2, ?_, ?_⟩⟩, ⟨rfl, rfl, rfl, by simp, fun j hj _ => Below.heap_alloc _ _ _ hj⟩, .inr rfl⟩
      · simp [Builtin.append_, run_underlying hu, run_underlying hui, sizeOf, typeInfo, zeroValue, hi, hz0, hw, hk0, hkb, hz1, hz2, hroom, h63', h48', Question.forced, hfo, newRow, grownCap, asInt, asIntOf, hkz, hzc]
        rw [arr3]
      · simp only [Array.size_append, List.size_toArray, size_zeroCells, hxl, hZl, Nat.mul_one]
        have : (Value.cells (.int .i64 0)).size = 1 := rfl
        rw [this]
        omega
      · simp only [Array.toList_append, List.append_assoc]
        rw [← List.append_assoc, Nat.mul_one]
        have : n + k = (xs ++ Z).length := by rw [List.length_append, hxl, hZl]
        rw [this]
        exact List.take_left

/-- The same, as a step of a walk. -/
theorem wpList_append_zeros {w : World} {ops : Array Oper} {rest : List Oper} {o : Oper} {a : Act} {Q : Exit → Act → World → Prop} (hw : Region.wanted o (yielded ops a.tmps) = true) (s x : Operand)
    (ho : o.op = .call { callee := .builtin .append, args := #[s, x], argTypes := #[24, 3] })
    (base : Nat) (A : Option Addr) (n c : Nat) (xs : List Value) (hs : a.eval s = .slice A n c) (hown : w.ownsRow base 3 1 (.slice A n c) n xs) (h1 : 1 ≤ n) (k : Nat) (hk : k ≤ 3) (hx : a.eval x = .int .i64 (k : Int))
    (hb : n ≤ 1000000) (hbase : base ≤ w.heap.size)
    (h : ∀ v' w', w'.ownsRow base 3 1 v' (n + k) (xs ++ List.replicate k (.int .i64 0)) → w.grownBy w' (Value.ownBlock (.slice A n c)) → (v'.ownBlock = Value.ownBlock (.slice A n c) ∨ v'.ownBlock = some w.heap.size) → wpList Tryz.prog ops Q rest (a.put o.dst v') w') : wpList Tryz.prog ops Q (o :: rest) a w := by
  refine wpList_step fun K hK => ?_
  rw [if_pos hw]
  obtain ⟨v', w', hrun, h2, h3, h4⟩ := run_append_zeros w o.type base A n c xs hown h1 k hk hb hbase
  unfold Oper.wp
  simp [execOp, ho, resolve, invoke, builtin, hs, hx, hrun, Result.andThen]
  exact hK _ _ (h v' w' h2 h3 h4)

end Go.Proofs.YtnlhokfhkohdpaaGreat.De
