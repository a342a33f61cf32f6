/-
  What division.norms does: the norms of the symbols up to the last one that occurs, in new memory. Nothing that was there has changed. Condition: the division is settled; its last symbol is its greatest.
-/
import Derived.Test.YtkojdhmgefggjaaSet
namespace Go.Proofs.Ytkojdhmgefggjaa
open Go.RowKit Go.Shelf

theorem int_info : (Try.prog.info? 3).map (fun i => (i.zero, i.size, i.bytes)) = some (some (.int .i64 0), 1, 8) := by kernel_rfl
theorem made_ints (n : Nat) : (madeCells (Value.int .i64 0).cells (n * 1)).toList = (List.replicate n 0).map iv := by
  refine List.ext_getElem? fun j => ?_
  simp only [madeCells, Nat.mul_one, Value.cells]
  rcases Nat.lt_or_ge j n with h | h
  · simp [h, Nat.mod_one]
  · simp [h]
theorem make_ints (n : Nat) (hn : n ≤ 10000000) (W : World) : ∃ w1, (Instr.makeSlice 22 (.int .i64 (n : Int)) (.int .i64 (n : Int))).run Try.prog W = .ok (.slice (some ⟨W.heap.size, 0, none⟩) n n) w1 ∧
    w1.ownsRow W.heap.size 3 1 (.slice (some ⟨W.heap.size, 0, none⟩) n n) n ((List.replicate n 0).map iv) ∧ Below W.heap.size W w1 := by
  obtain ⟨i0, hi, hz0, hz1, hz2⟩ := info_parts int_info
  obtain ⟨w1, h1, h2, h3⟩ := run_makeSlice_full (P := Try.prog) W W.heap.size 22 3 i0 (.int .i64 0) 1 Try.underlying22 hi hz0 hz1 .i64 .i64 n (by omega) (by rw [hz2]; omega) (by unfold maxLen; omega) (Nat.le_refl _)
  rw [made_ints] at h2
  exact ⟨w1, h1, h2, (Below.refl _ _).grown h3 (Nat.le_refl _) (fun k e => by cases e)⟩

/-- The norms of the symbols below L, those of V only. -/
def nml (L : Nat) (val : Nat → Int) (V : List Nat) : List Int := (List.range L).map (fun i => if i ∈ V then val i else 0)
theorem nml_len (L : Nat) (val : Nat → Int) (V : List Nat) : (nml L val V).length = L := by simp [nml]
theorem nml_nil (L : Nat) (val : Nat → Int) : nml L val [] = List.replicate L 0 := by
  refine List.ext_getElem? fun j => ?_
  rcases Nat.lt_or_ge j L with h | h
  · simp [nml, h]
  · simp [nml, h]
theorem nml_set {L : Nat} {val : Nat → Int} {V : List Nat} {i : Nat} : (nml L val V).set i (val i) = nml L val (V ++ [i]) := by
  refine List.ext_getElem? fun j => ?_
  rw [List.getElem?_set]
  rcases Nat.lt_or_ge j L with h | h
  · by_cases hij : i = j
    · subst hij
      simp [nml, h]
    · have : ¬ j = i := fun e => hij e.symm
      simp [nml, h, hij, this]
  · have h2 : (nml L val (V ++ [i]))[j]? = none := List.getElem?_eq_none (by rw [nml_len]; exact h)
    rw [h2]
    split
    · rw [if_neg (by rw [nml_len]; omega)]
    · exact List.getElem?_eq_none (by rw [nml_len]; exact h)
/-- A settled symbol's norm. -/
def nval (sh st : Nat → Int) (T : Nat) (i : Nat) : Int := if sh i < (T : Int) then -1 else st i

set_option maxRecDepth 100000 in
set_option maxHeartbeats 2000000 in
theorem norms_any (w : World) (B b g n c l : Nat) (U : List Nat) (sh st : Nat → Int) (T : Nat) (lf : Int) (hd : Dv w B b (.slice (some ⟨g, 0, none⟩) n c) U sh st T lf) (hU : U.length = n) (hn0 : 0 < n) (hnb : n ≤ 512) (hl : U[n - 1]? = some l) (hle : ∀ i ∈ U, i ≤ l) (hlb : l ≤ 1000000) :
    Calls Try.prog 29 #[.pointer (some ⟨b, 0, none⟩)] w fun e w' => ∃ g', e = .returned (.slice (some ⟨g', 0, none⟩) (l + 1) (l + 1)) ∧ w'.ownsRow w.heap.size 3 1 (.slice (some ⟨g', 0, none⟩) (l + 1) (l + 1)) (l + 1) ((nml (l + 1) (nval sh st T) U).map iv) ∧ Below w.heap.size w w' := by
  have c0 := hd.c0
  have c1 := hd.c1
  have ow := hd.own
  rw [hU] at ow
  obtain ⟨f0, f1, f2⟩ := flat_get (sh := sh) (st := st) hl
  have p0 : w.cell? ⟨g, (n - 1) * 3, none⟩ = some (.int .i64 (l : Int)) := by rw [ow.cellAt _ (by omega)]; exact f0
  have p1 : w.cell? ⟨g, (n - 1) * 3 + 1, none⟩ = some (.int .i64 (sh l)) := by rw [ow.cellAt _ (by omega)]; exact f1
  have p2 : w.cell? ⟨g, (n - 1) * 3 + 2, none⟩ = some (.int .i64 (st l)) := by rw [ow.cellAt _ (by omega)]; exact f2
  have hn1 : (n : Int) - 1 = ((n - 1 : Nat) : Int) := by omega
  obtain ⟨n1, hn1e⟩ : ∃ n1, n - 1 = n1 := ⟨_, rfl⟩
  rw [hn1e] at p0 p1 p2 hn1
  have hn1b : n1 < n := by omega
  have wn : IntKind.i64.wrap ((n : Int) - 1) = (n1 : Int) := by rw [hn1]; exact IntWalk.i64_in _ (by omega)
  have wn1 : IntKind.i64.wrap (n1 : Int) = (n1 : Int) := IntWalk.i64_in _ (by omega)
  have bz : Below w.heap.size w (w.alloc (.cells #[.int .i64 0, .int .i64 0, .int .i64 0] 54)) := (Below.refl _ w).alloc (Nat.le_refl _) _
  have z0 := (bz.cell (cell_lt c0)).trans c0
  have q0 := (bz.cell (cell_lt p0)).trans p0
  have q1 := (bz.cell (cell_lt p1)).trans p1
  have q2 := (bz.cell (cell_lt p2)).trans p2
  clear bz
  have HU := Lib.hid hU
  have HD := Lib.hid hd
  have HL := Lib.hid hl
  have HLE := Lib.hid hle
  clear hd ow f0 f1 f2 hU hl hle hn1e
  go_enter Try.func29, Try.ntmps29
  go_wp2
  go_region
  have g1 : Below w.heap.size w (w.alloc (.cells #[.int .i64 (l : Int), .int .i64 (sh l), .int .i64 (st l)] 54)).drew := ((Below.refl _ w).alloc (Nat.le_refl _) _).drew
  have x0 : (w.alloc (.cells #[.int .i64 (l : Int), .int .i64 (sh l), .int .i64 (st l)] 54)).drew.cell? ⟨w.heap.size, 0, none⟩ = some (.int .i64 (l : Int)) := by
    show (w.alloc _).cell? _ = _
    rw [cell_of_row _ _ 0 _ _ _ (World.alloc_heap_new w _)]; rfl
  generalize (w.alloc (.cells #[.int .i64 (l : Int), .int .i64 (sh l), .int .i64 (st l)] 54)).drew = w1 at g1 x0 ⊢
  obtain ⟨w2, hmk, ho2, hb2⟩ := make_ints (l + 1) (by omega) w1
  have mk : (Instr.makeSlice 22 (.int .i64 ((l : Int) + 1)) (.int .i64 ((l : Int) + 1))).run Try.prog w1 = .ok (.slice (some ⟨w1.heap.size, 0, none⟩) (l + 1) (l + 1)) w2 := hmk
  have G2 := Lib.hid (below_on g1 (Nat.le_refl _) hb2)
  have d0 := (G2.out.cell (cell_lt c0)).trans c0
  obtain ⟨gg, hgg⟩ : ∃ gg, w1.heap.size = gg := ⟨_, rfl⟩
  rw [hgg] at mk ho2
  have hggl : w.heap.size ≤ gg := by have := g1.size; omega
  have O2 : Hid (w2.ownsRow w.heap.size 3 1 (.slice (some ⟨gg, 0, none⟩) (l + 1) (l + 1)) (l + 1) ((nml (l + 1) (nval sh st T) []).map iv)) := Lib.hid (by
    rw [nml_nil]
    refine ⟨ho2.1, ?_⟩
    rcases ho2.2 with h | ⟨g', c', cur, e1, e2, e3⟩
    · exact .inl h
    · exact .inr ⟨g', c', cur, e1, by omega, e3⟩)
  clear hmk ho2 hb2 hgg g1 p0 p1 p2 q0 q1 q2 z0 wn wn1 hn1
  go_wp2
  go_loopw [28] (fun p wr => ∃ j : Nat, j ≤ n ∧ p = .int .i64 (j : Int) ∧ Hid (wr.ownsRow w.heap.size 3 1 (.slice (some ⟨gg, 0, none⟩) (l + 1) (l + 1)) (l + 1) ((nml (l + 1) (nval sh st T) (U.take j)).map iv)) ∧ Hid (Below w.heap.size w wr)) (fun p _ => n - (intOf p).toNat)
  case atStart => exact ⟨0, Nat.zero_le _, rfl, by simpa using O2, G2⟩
  case round =>
    obtain ⟨j, hj, rfl, HO, HB⟩ := hrel
    clear mk O2 G2 d0 x0
    by_cases hlt : j < n
    · obtain ⟨i, hi⟩ : ∃ i, U[j]? = some i := ⟨_, List.getElem?_eq_getElem (by rw [HU.out]; exact hlt)⟩
      obtain ⟨f0, f1, f2⟩ := flat_get (sh := sh) (st := st) hi
      have hil := HLE.out i (List.mem_of_getElem? hi)
      have dr := HD.out.same (W' := wr) (fun g' e => HB.out.block _ (by rcases e with rfl | e; exact HD.out.lt; exact own_lt3 HD.out.own e))
      have ow := dr.own
      rw [HU.out] at ow
      have HSE : Hid (nml (l + 1) (nval sh st T) (U.take (j + 1)) = (nml (l + 1) (nval sh st T) (U.take j)).set i (nval sh st T i)) := Lib.hid (by rw [take_succ_get hi, nml_set])
      obtain ⟨a, ha⟩ : ∃ a, sh i = a := ⟨_, rfl⟩
      obtain ⟨x, hx⟩ : ∃ x, st i = x := ⟨_, rfl⟩
      rw [ha] at f1
      rw [hx] at f2
      have c0r : wr.cell? ⟨g, j * 3, none⟩ = some (.int .i64 (i : Int)) := by rw [ow.cellAt _ (by omega)]; exact f0
      have c1r : wr.cell? ⟨g, j * 3 + 1, none⟩ = some (.int .i64 a) := by rw [ow.cellAt _ (by omega)]; exact f1
      have c2r : wr.cell? ⟨g, j * 3 + 2, none⟩ = some (.int .i64 x) := by rw [ow.cellAt _ (by omega)]; exact f2
      have HV : Hid (nval sh st T i = if a < (T : Int) then -1 else x) := Lib.hid (by unfold nval; rw [ha, hx])
      obtain ⟨R, hR⟩ : ∃ R, nml (l + 1) (nval sh st T) (U.take j) = R := ⟨_, rfl⟩
      have hRl : R.length = l + 1 := by rw [← hR, nml_len]
      rw [hR] at HO HSE
      obtain ⟨z, hz⟩ : ∃ z, R[i]? = some z := ⟨_, List.getElem?_eq_getElem (by omega)⟩
      obtain ⟨wp, hwp⟩ : ∃ wp, wr.alloc (.cells #[.int .i64 (i : Int), .int .i64 a, .int .i64 x] 54) = wp := ⟨_, rfl⟩
      have bp : Below wr.heap.size wr wp := by rw [← hwp]; exact (Below.refl _ wr).alloc (Nat.le_refl _) _
      have np : wp.heap[wr.heap.size]? = some (.cells #[.int .i64 (i : Int), .int .i64 a, .int .i64 x] 54 (0, 0)) := by rw [← hwp]; exact World.alloc_heap_new wr _
      have op := own_below HO.out bp
      have s0 : wp.cell? ⟨wr.heap.size, 0, none⟩ = some (.int .i64 (i : Int)) := by rw [cell_of_row _ _ 0 _ _ _ np]; rfl
      have s2 : wp.cell? ⟨wr.heap.size, 2, none⟩ = some (.int .i64 x) := by rw [cell_of_row _ _ 2 _ _ _ np]; rfl
      have cz : wp.cell? ⟨gg, i, none⟩ = some (.int .i64 z) := by rw [op.cellAt i (by omega), List.getElem?_map, hz]; rfl
      have fz := op.frozenAt i
      obtain ⟨wq, hwq⟩ : ∃ wq, wp.setCell ⟨gg, i, none⟩ (.int .i64 x) = wq := ⟨_, rfl⟩
      have hggr : gg < wr.heap.size := own_lt HO.out rfl
      have oq : wq.ownsRow w.heap.size 3 1 (.slice (some ⟨gg, 0, none⟩) (l + 1) (l + 1)) (l + 1) ((R.set i x).map iv) := by rw [← hwq, List.map_set]; exact (op.stored i _).1
      have nq : wq.heap[wr.heap.size]? = some (.cells #[.int .i64 (i : Int), .int .i64 a, .int .i64 x] 54 (0, 0)) := by rw [← hwq, Below.heap_setCell _ ⟨gg, i, none⟩ _ _ (by show wr.heap.size ≠ gg; omega)]; exact np
      have t0 : wq.cell? ⟨wr.heap.size, 0, none⟩ = some (.int .i64 (i : Int)) := by rw [cell_of_row _ _ 0 _ _ _ nq]; rfl
      have t1 : wq.cell? ⟨wr.heap.size, 1, none⟩ = some (.int .i64 a) := by rw [cell_of_row _ _ 1 _ _ _ nq]; rfl
      have bq : Below w.heap.size w wq := by rw [← hwq]; exact (below_on HB.out (Nat.le_refl _) bp).setCell (p := ⟨gg, i, none⟩) hggl _
      have e1 := (bq.cell (cell_lt c1)).trans c1
      have cq : wq.cell? ⟨gg, i, none⟩ = some (.int .i64 x) := by rw [oq.cellAt i (by omega), List.getElem?_map, List.getElem?_set_self (by omega)]; rfl
      have fq := oq.frozenAt i
      have BQ := Lib.hid bq
      have OQ := Lib.hid oq
      clear f0 f1 f2 hi dr ow ha hx hR hz np nq bp op oq bq hRl
      by_cases hra : a < (T : Int)
      · have HF : Hid (nval sh st T i = -1) := Lib.hid (by rw [HV.out, if_pos hra])
        go_wp2
        go_region
        all_goals
          go_wp2
          exact ⟨⟨j + 1, by omega, by simp, Lib.hid (by rw [HSE.out, HF.out, ← List.set_set x, List.map_set]; exact (OQ.out.stored i _).1), Lib.hid ((BQ.out.setCell (p := ⟨gg, i, none⟩) hggl _).drew)⟩, by simp [intOf]; omega⟩
      · have HF : Hid (nval sh st T i = x) := Lib.hid (by rw [HV.out, if_neg hra])
        go_wp2
        go_region
        all_goals
          go_wp2
          exact ⟨⟨j + 1, by omega, by simp, Lib.hid (by rw [HSE.out, HF.out]; exact OQ.out), Lib.hid BQ.out.drew⟩, by simp [intOf]; omega⟩
    · have HE : Hid (U.take j = U) := Lib.hid (List.take_of_length_le (by rw [HU.out]; omega))
      rw [HE.out] at HO
      go_wp2
      go_ret
      exact ⟨gg, rfl, HO.out, HB.out⟩

end Go.Proofs.Ytkojdhmgefggjaa
