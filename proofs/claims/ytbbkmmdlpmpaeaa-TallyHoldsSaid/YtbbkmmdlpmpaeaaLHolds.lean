/-
  Proved: the law TallyHolds returns true for all arguments: the cost of a histogram is not negative and depends neither on the order of symbols nor on unused ones; 2^a symbols that occur 2^b times each cost a bits per occurrence; the histogram of a concatenation is the sum of its parts. No condition.
-/
import Derived.BigRegion
import Derived.Deep.RegionLaw
import Derived.Deep.CutRange
import Derived.Test.YtbbkmmdlpmpaeaaFrm
import Derived.Test.YtbbkmmdlpmpaeaaHld
namespace Go.Proofs.Ytbbkmmdlpmpaeaa.tallyHolds
open Go.ChangeShapes Go.WideShapes Go.ChangeAt Go.RowKit


set_option maxRecDepth 100000 in
set_option maxHeartbeats 1000000 in
theorem walk_a1 (A : Option Addr) (N c : Nat) (t : Int) (X : Option Addr) (M cx : Nat) (u a b : Int) (w : World) (h : 200 < N) :
    Calls Try.prog 12 #[.slice A N c, .int .u8 t, .slice X M cx, .int .u8 u, .int .u8 a, .int .u8 b] w fun e w' => e = .returned (.bool true) ∧ Below w.heap.size w w' := by
  have hd : decide ((200 : Int) < (N : Int)) = true := decide_eq_true (by omega)
  go_enter Try.func12, Try.ntmps12
  go_wp2_with fail
  refine (works_any _).mono ?_
  rintro e wk ⟨rfl, hbk⟩
  have BK := Lib.hid hbk
  clear hbk
  go_wp2
  go_ret
  exact ⟨rfl, BK.out⟩


set_option maxRecDepth 100000 in
set_option maxHeartbeats 1000000 in
theorem walk_a2 (A : Option Addr) (N c : Nat) (t : Int) (X : Option Addr) (M cx : Nat) (u a b : Int) (w : World) (h0 : N ≤ 200) (h : 400 < M) :
    Calls Try.prog 12 #[.slice A N c, .int .u8 t, .slice X M cx, .int .u8 u, .int .u8 a, .int .u8 b] w fun e w' => e = .returned (.bool true) ∧ Below w.heap.size w w' := by
  have hd0 : decide ((200 : Int) < (N : Int)) = false := decide_eq_false (by omega)
  have hd : decide ((400 : Int) < (M : Int)) = true := decide_eq_true (by omega)
  go_enter Try.func12, Try.ntmps12
  go_wp2_with fail
  refine (works_any _).mono ?_
  rintro e wk ⟨rfl, hbk⟩
  have BK := Lib.hid hbk
  clear hbk
  go_wp2
  go_ret
  exact ⟨rfl, BK.out⟩


set_option maxRecDepth 100000 in
set_option maxHeartbeats 1000000 in
theorem walk_a3 (A : Option Addr) (N c : Nat) (t : Int) (X : Option Addr) (M cx : Nat) (u a b : Int) (w : World) (h0 : N ≤ 200) (h1 : M ≤ 400) (h : 8 < a) :
    Calls Try.prog 12 #[.slice A N c, .int .u8 t, .slice X M cx, .int .u8 u, .int .u8 a, .int .u8 b] w fun e w' => e = .returned (.bool true) ∧ Below w.heap.size w w' := by
  have hd0 : decide ((200 : Int) < (N : Int)) = false := decide_eq_false (by omega)
  have hd1 : decide ((400 : Int) < (M : Int)) = false := decide_eq_false (by omega)
  have hd : decide ((8 : Int) < a) = true := decide_eq_true (by omega)
  go_enter Try.func12, Try.ntmps12
  go_wp2_with fail
  refine (works_any _).mono ?_
  rintro e wk ⟨rfl, hbk⟩
  have BK := Lib.hid hbk
  clear hbk
  go_wp2
  go_ret
  exact ⟨rfl, BK.out⟩


set_option maxRecDepth 100000 in
set_option maxHeartbeats 1000000 in
theorem walk_a4 (A : Option Addr) (N c : Nat) (t : Int) (X : Option Addr) (M cx : Nat) (u a b : Int) (w : World) (h0 : N ≤ 200) (h1 : M ≤ 400) (h2 : ¬ 8 < a) (h : 20 < b) :
    Calls Try.prog 12 #[.slice A N c, .int .u8 t, .slice X M cx, .int .u8 u, .int .u8 a, .int .u8 b] w fun e w' => e = .returned (.bool true) ∧ Below w.heap.size w w' := by
  have hd0 : decide ((200 : Int) < (N : Int)) = false := decide_eq_false (by omega)
  have hd1 : decide ((400 : Int) < (M : Int)) = false := decide_eq_false (by omega)
  have hd2 : decide ((8 : Int) < a) = false := decide_eq_false (by omega)
  have hd : decide ((20 : Int) < b) = true := decide_eq_true (by omega)
  go_enter Try.func12, Try.ntmps12
  go_wp2_with fail
  refine (works_any _).mono ?_
  rintro e wk ⟨rfl, hbk⟩
  have BK := Lib.hid hbk
  clear hbk
  go_wp2
  go_ret
  exact ⟨rfl, BK.out⟩


/-- A histogram of one slice of bytes, that lies in the cell of some block. -/
theorem hist_one (w : World) (B : Option Addr) (m : List UInt8) (n cc : Nat) (hm : m.length = n) (hn : n ≤ 400) (hc : n ≤ cc) (hR : Rd w B m) (W : World) (hb : Below w.heap.size w W) (g : Nat) (hg : W.cell? ⟨g, 0, none⟩ = some (.slice B n cc)) :
    Calls Try.prog 15 #[.slice (some ⟨g, 0, none⟩) 1 1] W fun e w' => ∃ q, e = .returned (.slice (some ⟨q, 0, none⟩) 256 256) ∧ Rn w' (some ⟨q, 0, none⟩) (hs m) ∧ Below W.heap.size W w' := by
  have ef : ∀ B : Option Addr, flt [(B, m, cc)] 1 = m := fun _ => by simp [flt]
  have rr : RdR W (some ⟨g, 0, none⟩) [(B, m, cc)] := by
    intro j B' m' c' hj
    rcases j with _ | j
    · simp at hj
      obtain ⟨rfl, rfl, rfl⟩ := hj
      exact ⟨_, rfl, by rw [hm]; simpa [Addr.add] using hg, by omega, hR.below hb⟩
    · simp at hj
  have h := histogram_any W _ _ 1 1 rfl (by decide) (by rw [ef]; omega) rr
  rw [ef] at h
  exact h.mono fun e w' h => ⟨_, h.1, h.2.1.rn, h.2.2⟩
theorem lit_bel (w : World) (o : Obj) : Below w.heap.size w (w.alloc o) := (Below.refl _ w).alloc (Nat.le_refl _) _
theorem bel1 (w : World) (o : Obj) : Below w.heap.size w (w.alloc o).drew := (lit_bel w o).drew
theorem bel2 (w : World) (o o2 : Obj) : Below w.heap.size w ((w.alloc o).alloc o2).drew := ((lit_bel w o).alloc (lit_bel w o).size _).drew
theorem cell_1 (w : World) (v : Value) (t : TypeId) : (w.alloc (.cells #[v] t)).drew.cell? ⟨w.heap.size, 0, none⟩ = some v := (Boxed.new w t v).cell
theorem cell_2a (w : World) (v : Value) (t : TypeId) (o : Obj) : ((w.alloc (.cells #[v] t)).alloc o).drew.cell? ⟨w.heap.size, 0, none⟩ = some v := ((Boxed.new w t v).alloc o).cell
theorem cell_2b (w : World) (v : Value) (t : TypeId) (o : Obj) : ((w.alloc o).alloc (.cells #[v] t)).drew.cell? ⟨w.heap.size + 1, 0, none⟩ = some v := by
  have := (Boxed.new (w.alloc o) t v).cell
  rw [World.size_alloc] at this
  exact this
theorem keep_2a {w W' : World} {v : Value} {t : TypeId} {o : Obj} (hb : Below ((w.alloc (.cells #[v] t)).alloc o).drew.heap.size ((w.alloc (.cells #[v] t)).alloc o).drew W') : W'.cell? ⟨w.heap.size, 0, none⟩ = some v :=
  (hb.cell (cell_lt (cell_2a w v t o))).trans (cell_2a w v t o)
theorem keep_2b {w W' : World} {v : Value} {t : TypeId} {o : Obj} (hb : Below ((w.alloc o).alloc (.cells #[v] t)).drew.heap.size ((w.alloc o).alloc (.cells #[v] t)).drew W') : W'.cell? ⟨w.heap.size + 1, 0, none⟩ = some v :=
  (hb.cell (cell_lt (cell_2b w v t o))).trans (cell_2b w v t o)
theorem islice_hi (A : Option Addr) (N c n : Nat) (h : n ≤ c) (W : World) : (Instr.slice 26 (.slice A N c) none (some (.int .i64 (n : Int))) none).run Try.prog W = .ok (.slice A n c) W := by
  rw [run_slice_h _ _ _ _ _ und_il _ _ (by omega) (by omega), elem_il, size_int]
  simp [Result.andThen, sliced]
  intro _
  cases A with
  | none => rfl
  | some a => simp [Addr.add]
theorem islice_lo (A : Option Addr) (N c n : Nat) (h : n ≤ N) (W : World) : (Instr.slice 26 (.slice A N c) (some (.int .i64 (n : Int))) none none).run Try.prog W = .ok (.slice (off A c n) (N - n) (c - n)) W := by
  rw [run_slice_l _ _ _ _ _ und_il _ _ (by omega) (by omega), elem_il, size_int]
  simp [Result.andThen, sliced, off]
theorem off_rn {w : World} {A : Option Addr} {l : List Nat} {c n : Nat} (h : Rn w A l) (hc : l.length ≤ c) : Rn w (off A c n) (l.drop n) := by
  unfold off
  by_cases hcn : c = n
  · rw [if_pos hcn, List.drop_of_length_le (by omega)]
    exact Rv.nil _ _
  · rw [if_neg hcn]
    have := Rv.cut h n l.length
    rw [List.take_of_length_le (by simp), ← List.map_drop] at this
    exact this
/-- append of a row of the call's own and any values, as a step of a region that draws its order. -/
theorem step_append_vals {bt : Nat} {t e : TypeId} (ht : Try.prog.underlying t = some (.slice e)) {z : Value} (hinfo : (Try.prog.info? e).map (fun i => (i.zero, i.size, i.bytes)) = some (some z, 1, bt)) (hzs : z.cells.size = 1)
    {w : World} {ops : Array Oper} {o : Oper} {a : Act} {K : Act → World → Prop} {Q : Exit → Act → World → Prop} {E : Prop} (hgd : o.guard = none) (s x : Operand)
    (ho : o.op = .call { callee := .builtin .append, args := #[s, x], argTypes := #[t, t] })
    (base : Nat) (v : Value) (n : Nat) (xs : List Value) (hs : a.eval s = v) (hown : w.ownsRow base e 1 v n xs) (A : Option Addr) (ys : List Value) (h1 : ∀ u ∈ ys, u.oneCell' = true) (m c : Nat) (hm : ys.length = m) (hx : a.eval x = .slice A m c) (hR : Rv w A ys)
    (hb : n + m ≤ 140737488355328) (hbt : (n + m) * bt ≤ 140737488355328) (hbase : base ≤ w.heap.size)
    (h : ∀ v' w', w'.ownsRow base e 1 v' (n + m) (xs ++ ys) → w.grownBy w' v.ownBlock → (v'.ownBlock = v.ownBlock ∨ v'.ownBlock = some w.heap.size) → K (a.put o.dst v') w') :
    if Region.wanted o (yielded ops a.tmps) = true then Oper.wp Try.prog o a w K Q else E := by
  subst hm
  have hw : Region.wanted o (yielded ops a.tmps) = true := by simp [Region.wanted, hgd]
  rw [if_pos hw]
  obtain ⟨v', w', hrun, h2, h3, h4⟩ := run_append_vals ht hinfo hzs w o.type base v n xs hown A ys h1 c hR hb hbt hbase
  unfold Oper.wp
  simp [execOp, ho, resolve, invoke, builtin, hs, hx, hrun, Result.andThen]
  exact h v' w' h2 h3 h4
theorem rep_set {n x i : Nat} (h : i < n) : (List.replicate i x ++ List.replicate (n - i) 0).set i x = List.replicate (i + 1) x ++ List.replicate (n - (i + 1)) 0 := by
  rw [List.set_append_right _ _ (by simp), List.length_replicate, Nat.sub_self, show n - i = (n - (i + 1)) + 1 by omega, List.replicate_succ, List.set_cons_zero, List.replicate_succ', List.append_assoc]
  rfl
theorem new_cell (W : World) (v : Value) (t : TypeId) : (W.alloc (.cells #[v] t)).cell? ⟨W.heap.size, 0, none⟩ = some v := (Boxed.new W t v).cell


set_option maxRecDepth 100000 in
set_option maxHeartbeats 4000000 in
theorem walk_b (A : Option Addr) (l : List Int) (N c t : Nat) (X : Option Addr) (m : List UInt8) (M cx u a b : Nat) (w : World) (h0 : N ≤ 200) (h1 : M ≤ 400) (h2 : a ≤ 8) (h3 : b ≤ 20) (ht : t < 256) (hu : u < 256) (hN : l.length = N) (hNc : N ≤ c) (hR : Ri w A l) (hM : m.length = M) (hMc : M ≤ cx) (hX : Rd w X m) :
    Calls Try.prog 12 #[.slice A N c, .int .u8 (t : Int), .slice X M cx, .int .u8 (u : Int), .int .u8 (a : Int), .int .u8 (b : Int)] w fun e w' => e = .returned (.bool true) ∧ Below w.heap.size w w' := by
  have hd0 : decide ((200 : Int) < (N : Int)) = false := decide_eq_false (by omega)
  have hd1 : decide ((400 : Int) < (M : Int)) = false := decide_eq_false (by omega)
  have hd2 : decide ((8 : Int) < (a : Int)) = false := decide_eq_false (by omega)
  have hd3 : decide ((20 : Int) < (b : Int)) = false := decide_eq_false (by omega)
  obtain ⟨at_, hat⟩ : ∃ at_, min u M = at_ := ⟨_, rfl⟩
  have hatM : at_ ≤ M := by omega
  have hmin : min (u : Int) (M : Int) = (at_ : Int) := by omega
  have s1 := fun W => slice_hi X M cx at_ (by omega) W
  have s2 := fun W => slice_lo X M cx at_ hatM W
  have H1 := Lib.hid (hist_one w X (m.take at_) at_ cx (by rw [List.length_take]; omega) (by omega) (by omega) (by have := Rv.take hX at_; rw [← List.map_take] at this; exact this))
  have H2 := Lib.hid (hist_one w (off X cx at_) (m.drop at_) (M - at_) (cx - at_) (by rw [List.length_drop]; omega) (by omega) (by omega) (off_rd hX (by omega)))
  have H3 := Lib.hid (hist_one w X m M cx hM h1 hMc hX)
  have HN := Lib.hid hN
  have HM := Lib.hid hM
  have HR := Lib.hid hR
  clear hN hM hR hX hat
  go_enter Try.func12, Try.ntmps12
  go_wp2_with fail
  go_cut [14, 15] from 53 to 62 (fun x y wx => ∃ q1 q2, x = .slice (some ⟨q1, 0, none⟩) 256 256 ∧ y = .slice (some ⟨q2, 0, none⟩) 256 256 ∧ Hid (Rn wx (some ⟨q1, 0, none⟩) (hs (m.take at_))) ∧ Hid (Rn wx (some ⟨q2, 0, none⟩) (hs (m.drop at_))) ∧ Hid (Below w.heap.size w wx))
  case first =>
    go_region_law (first
      | (have HQ := QB; go_simp; go_at_call 15; refine (H1.out _ (by first | exact B6.out | exact B6.out.alloc B6.out.size _) _ (by first | exact new_cell _ _ _ | exact kA.out)).mono ?_; rintro e w7 ⟨qa, rfl, hqa, hb7⟩; have QA := Lib.hid hqa; have Q9 : Hid (Rn w7 (some ⟨qb, 0, none⟩) (hs (m.drop at_))) := Lib.hid (by first | exact QB.out.below hb7 | exact (QB.out.below (lit_bel _ _)).below hb7); have B7 : Hid (Below w.heap.size w w7) := Lib.hid (by first | exact below_on B6.out (Nat.le_refl _) hb7 | exact below_on (B6.out.alloc B6.out.size _) (Nat.le_refl _) hb7); clear hqa hb7)
      | (have HQ := QA; go_simp; go_at_call 15; refine (H2.out _ (by first | exact B6.out | exact B6.out.alloc B6.out.size _) _ (by first | exact new_cell _ _ _ | exact kB.out)).mono ?_; rintro e w7 ⟨qb, rfl, hqb, hb7⟩; have QB := Lib.hid hqb; have Q9 : Hid (Rn w7 (some ⟨qa, 0, none⟩) (hs (m.take at_))) := Lib.hid (by first | exact QA.out.below hb7 | exact (QA.out.below (lit_bel _ _)).below hb7); have B7 : Hid (Below w.heap.size w w7) := Lib.hid (by first | exact below_on B6.out (Nat.le_refl _) hb7 | exact below_on (B6.out.alloc B6.out.size _) (Nat.le_refl _) hb7); clear hqb hb7)
      | (go_simp; go_at_call 15; refine (H1.out _ (by first | exact bel1 _ _ | exact bel2 _ _ _) _ (by first | exact cell_1 _ _ _ | exact cell_2a _ _ _ _ | exact cell_2b _ _ _ _)).mono ?_; rintro e w6 ⟨qa, rfl, hqa, hb6⟩; have QA := Lib.hid hqa; have B6 : Hid (Below w.heap.size w w6) := Lib.hid (by first | exact below_on (bel1 _ _) (Nat.le_refl _) hb6 | exact below_on (bel2 _ _ _) (Nat.le_refl _) hb6); first | (have kB := Lib.hid (keep_2b (v := .slice (off X cx at_) (M - at_) (cx - at_)) hb6)) | (have kB := Lib.hid (keep_2a (v := .slice (off X cx at_) (M - at_) (cx - at_)) hb6)) | skip; clear hqa hb6)
      | (go_simp; go_at_call 15; refine (H2.out _ (by first | exact bel1 _ _ | exact bel2 _ _ _) _ (by first | exact cell_1 _ _ _ | exact cell_2a _ _ _ _ | exact cell_2b _ _ _ _)).mono ?_; rintro e w6 ⟨qb, rfl, hqb, hb6⟩; have QB := Lib.hid hqb; have B6 : Hid (Below w.heap.size w w6) := Lib.hid (by first | exact below_on (bel1 _ _) (Nat.le_refl _) hb6 | exact below_on (bel2 _ _ _) (Nat.le_refl _) hb6); first | (have kA := Lib.hid (keep_2b (v := .slice X at_ cx) hb6)) | (have kA := Lib.hid (keep_2a (v := .slice X at_ cx) hb6)) | skip; clear hqb hb6))
    all_goals (go_wp2_with fail; go_meet; first | exact ⟨qa, qb, rfl, rfl, Q9, QB, B7⟩ | exact ⟨qa, qb, rfl, rfl, QA, Q9, B7⟩)
  case rest =>
    obtain ⟨q1, q2, rfl, rfl, R1, R2, BC⟩ := hcut
    clear H1 H2 s1 s2
    have HA := Lib.hid (add_all wc (some ⟨q1, 0, none⟩) ((hs (m.take at_)).map (fun n : Nat => (n : Int))) 256 256 (by rw [List.length_map, hs_len]) (by omega) (by show Rv _ _ _; rw [ri_nats]; exact R1.out) (some ⟨q2, 0, none⟩) ((hs (m.drop at_)).map (fun n : Nat => (n : Int))) 256 256 (by rw [List.length_map, hs_len]) (by omega) (by show Rv _ _ _; rw [ri_nats]; exact R2.out))
    rw [hs_asum (by rw [List.length_take, List.length_drop]; have := HM.out; omega), List.take_append_drop] at HA
    clear R1 R2
    go_wp2_with fail
    refine HA.out.mono ?_
    rintro e w8 ⟨⟨A8, c8, rfl, hl8, ho8⟩, hb8⟩
    rw [hs_len] at ho8
    simp only [hs_len]
    have B8 := Lib.hid (below_on BC.out (Nat.le_refl _) hb8)
    have R8 : Hid (Rn w8 A8 (hs m)) := Lib.hid (Rv.of_own ho8)
    clear ho8 hb8 hl8 HA BC
    go_wp2_with fail
    refine (num_any _ _).mono ?_
    rintro e w8 ⟨rfl, rfl⟩
    go_wp2_with fail
    refine (H3.out _ (B8.out.alloc B8.out.size _) _ (new_cell _ _ _)).mono ?_
    rintro e w9 ⟨q3, rfl, hr9, hb9⟩
    have B9 := Lib.hid (below_on (B8.out.alloc B8.out.size _) (Nat.le_refl _) hb9)
    have R9 : Hid (Rn w9 (some ⟨q3, 0, none⟩) (hs m)) := Lib.hid hr9
    have R8' : Hid (Rn w9 A8 (hs m)) := Lib.hid ((R8.out.below (lit_bel _ _)).below hb9)
    clear hr9 hb9 R8 H3
    have HL9 : Hid (((hs m).map (fun n : Nat => (n : Int))).length = 256) := Lib.hid (by rw [List.length_map, hs_len])
    go_wp2_with fail
    refine (same_any w9 A8 ((hs m).map (fun n : Nat => (n : Int))) 256 c8 HL9.out (by omega) (by show Rv _ _ _; rw [ri_nats]; exact R8'.out) _ ((hs m).map (fun n : Nat => (n : Int))) 256 256 HL9.out (by show Rv _ _ _; rw [ri_nats]; exact R9.out)).mono ?_
    rw [show decide ((hs m).map (fun n : Nat => (n : Int)) = (hs m).map (fun n : Nat => (n : Int))) = true from decide_eq_true rfl]
    rintro e w10 ⟨rfl, hw10⟩
    have B10 : Hid (Below w.heap.size w w10) := Lib.hid (by obtain ⟨d, rfl⟩ := hw10; exact below_drewN' B9.out d)
    clear hw10 R9 R8' HL9 B9 B8
    obtain ⟨Pa, Pb, V1, V2, hPa1, hPa2, hPb2, hV1b, hV2b, pa, pb, v1, v2, hV⟩ := nums h2 h3
    have HV := Lib.hid hV
    have PB := Lib.hid pb
    have HI : Hid (∀ W, Calls Try.prog 23 #[.int .i64 (V2 : Int), .int .i64 0, .int .i64 (wrap64 (wrap64 (256 * (a : Int) * (2 : Int) ^ a) * (2 : Int) ^ b))] W fun e w' => e = .returned (.bool true) ∧ w' = W) := Lib.hid (fun W => by
      have h := is_any W (V2 : Int) 0 (wrap64 (wrap64 (256 * (a : Int) * (2 : Int) ^ a) * (2 : Int) ^ b))
      rw [v1, v2] at h
      rw [v1, v2]
      rw [show ((V2 : Int) == (V2 : Int) && (0 : Int) == 0) = true by simp] at h
      exact h)
    clear hV pb v1 v2
    obtain ⟨w11, mk, ho11, hb11⟩ := make_ints Pa (Nat.le_trans hPa2 (by decide)) w10
    rw [← pa] at mk
    clear pa
    have O11 := Lib.hid ho11
    have B11 := Lib.hid (below_on B10.out (Nat.le_refl _) hb11)
    have LE10 : Hid (w.heap.size ≤ w10.heap.size) := Lib.hid B10.out.size
    clear ho11 hb11 B10
    go_wp2_with fail
    clear mk
    go_loopw [19] (fun p wr => ∃ i : Nat, i ≤ Pa ∧ p = .int .i64 (i : Int) ∧ Hid (wr.ownsRow w10.heap.size 3 1 (.slice (some ⟨w10.heap.size, 0, none⟩) Pa Pa) Pa ((List.replicate i Pb ++ List.replicate (Pa - i) 0).map nv)) ∧ Hid (Below w.heap.size w wr)) (fun p _ => Pa - (intOf p).toNat)
    case atStart => exact ⟨0, Nat.zero_le _, rfl, Lib.hid (by simpa using O11.out), B11⟩
    case round =>
      obtain ⟨i, hi, rfl, HO, HB⟩ := hrel
      by_cases hlt : i < Pa
      · have hg : (List.replicate i Pb ++ List.replicate (Pa - i) 0)[i]? = some 0 := by
          rw [List.getElem?_append_right (by simp), List.length_replicate, Nat.sub_self, List.getElem?_replicate, if_pos (by omega)]
        have c3 : wr.cell? ⟨w10.heap.size, i, none⟩ = some (.int .i64 0) := by rw [HO.out.cellAt i (by omega), List.getElem?_map, hg]; rfl
        have f3 := HO.out.frozenAt i
        have HS := Lib.hid (rep_set (n := Pa) (x := Pb) hlt)
        clear hg
        go_wp2_with fail
        exact ⟨⟨i + 1, by omega, by simp, Lib.hid (by rw [← HS.out, List.map_set, PB.out]; exact (HO.out.stored i _).1), Lib.hid (HB.out.setCell (p := ⟨w10.heap.size, i, none⟩) LE10.out _)⟩, by simp [intOf]; omega⟩
      · have HE : Hid (List.replicate i Pb ++ List.replicate (Pa - i) 0 = List.replicate Pa Pb) := Lib.hid (by rw [show i = Pa by omega, Nat.sub_self]; simp)
        have RE : Hid (Rn wr (some ⟨w10.heap.size, 0, none⟩) (List.replicate Pa Pb)) := Lib.hid (by have := Rv.of_own HO.out; rw [HE.out] at this; exact this)
        have HC := Lib.hid (cost_yes wr (some ⟨w10.heap.size, 0, none⟩) (List.replicate Pa Pb) Pa Pa (by simp) (Nat.le_refl _) ⟨by simp; omega, fun x hx => by rw [List.eq_of_mem_replicate hx]; omega⟩ RE.out)
        rw [HV.out] at HC
        clear HE RE HO
        go_wp2_with fail
        refine HC.out.mono ?_
        rintro e w12 ⟨rfl, hb12⟩
        have B12 := Lib.hid (below_on HB.out (Nat.le_refl _) hb12)
        clear hb12 HC HB
        simp only [nv]
        go_wp2_with (first
    | (go_at_call 23; refine (HI.out _).mono ?_; rintro e w12 ⟨rfl, rfl⟩))
        have HCK := Lib.hid (check_any w12 A l N c HN.out (HR.out.below B12.out))
        cases hok : ok l with
        | false =>
          rw [hok] at HCK
          simp only [Bool.false_eq_true, if_false] at HCK
          refine HCK.out.mono ?_
          rintro e w12 ⟨rfl, rfl⟩
          go_wp2_with (first
    | (go_at_call 19; refine (num_any _ _).mono ?_; rintro e w' ⟨rfl, rfl⟩)
    | (go_at_call 23; refine (is_any _ _ _ _).mono ?_; rintro e w' ⟨rfl, rfl⟩)
    | (go_at_call 13; refine (works_any _).mono ?_; rintro e wk ⟨rfl, hbk⟩; have BK := Lib.hid (below_on B12.out (Nat.le_refl _) hbk); clear hbk))
          go_ret
          exact ⟨rfl, BK.out⟩
        | true =>
          rw [hok] at HCK
          simp only [if_true] at HCK
          obtain ⟨k, hlk, hv⟩ := ok_nats hok
          have hk : k.length = N := by have := HN.out; rw [hlk, List.length_map] at this; exact this
          have RK : Hid (Rn w A k) := Lib.hid (by show Rv _ _ _; rw [← ri_nats, ← hlk]; exact HR.out)
          have HKL := Lib.hid hk
          have HVK := Lib.hid hv
          clear hlk hok hk hv HR HN
          obtain ⟨r, hr⟩ : ∃ r, t % max 1 N = r := ⟨_, rfl⟩
          have hrN : r ≤ N := by
            have h9 : t % max 1 N < max 1 N := Nat.mod_lt _ (by omega)
            omega
          have hrem : (t : Int) % max 1 (N : Int) = (r : Int) := by rw [← hr, Int.natCast_emod, show ((max 1 N : Nat) : Int) = max 1 (N : Int) by omega]
          have hnz : ¬ max (1 : Int) (N : Int) = 0 := by omega
          have sl1 := fun W => islice_lo A N c r hrN W
          have sl2 := fun W => islice_hi A N c r (by omega) W
          clear hr
          refine HCK.out.mono ?_
          rintro e w12 ⟨rfl, rfl⟩
          go_wp2_with (first
    | (go_at_call 19; refine (num_any _ _).mono ?_; rintro e w12 ⟨rfl, rfl⟩))
          have OE : Hid ((w12.alloc (.cells #[] 3)).drew.ownsRow w12.heap.size 3 1 (.slice (some ⟨w12.heap.size, 0, none⟩) 0 0) 0 []) := Lib.hid (own_empty w12)
          have BE : Hid (Below w12.heap.size w12 (w12.alloc (.cells #[] 3)).drew) := Lib.hid (bel1 w12 _)
          have RE : Hid (Rn (w12.alloc (.cells #[] 3)).drew (off A c r) (k.drop r)) := Lib.hid (off_rn (RK.out.below (below_on B12.out (Nat.le_refl _) BE.out)) (by rw [HKL.out]; exact hNc))
          have LE1 : Hid (((k.drop r).map nv).length = N - r) := Lib.hid (by rw [List.length_map, List.length_drop, HKL.out])
          have LE2 : Hid (((k.take r).map nv).length = r) := Lib.hid (by rw [List.length_map, List.length_take, HKL.out]; omega)
          simp only [hrem]
          clear hrem
          go_cut [23] from 121 to 129 (fun x wx => ∃ A14 c14, x = .slice A14 N c14 ∧ N ≤ c14 ∧ Hid (wx.ownsRow w12.heap.size 3 1 (.slice A14 N c14) N ((k.drop r ++ k.take r).map nv)) ∧ Hid (Below w12.heap.size w12 wx))
          case first =>
            go_region_law (first
              | (refine step_append_vals Try.underlying26 int_info rfl rfl (.tmp 125) (.tmp 128) rfl w12.heap.size (.slice A13 (N - r) c13) (N - r) ((k.drop r).map nv) (by simp [Act.eval]) O13.out A ((k.take r).map nv) (nv_one _) r c LE2.out (by simp [Act.eval]) R13.out (by omega) (by omega) B13.out.size ?_; intro v14 w14 ho hg he; rw [Nat.sub_add_cancel hrN, ← List.map_append] at ho; obtain ⟨A14, c14, rfl, hc14⟩ := own_form ho; have B14 := Lib.hid (B13.out.grown hg B13.out.size (fun j ej => own_ge O13.out ej)); have O14 := Lib.hid ho; clear ho hg he)
              | (refine step_append_vals Try.underlying26 int_info rfl rfl (.tmp 121) (.tmp 124) rfl w12.heap.size (.slice (some ⟨w12.heap.size, 0, none⟩) 0 0) 0 [] (by simp [Act.eval]) OE.out (off A c r) ((k.drop r).map nv) (nv_one _) (N - r) (c - r) LE1.out (by simp [Act.eval]) RE.out (by omega) (by omega) BE.out.size ?_; intro v13 w13 ho hg he; rw [Nat.zero_add, List.nil_append] at ho; obtain ⟨A13, c13, rfl, hc13⟩ := own_form ho; have B13 := Lib.hid (BE.out.grown hg BE.out.size (fun j ej => by cases ej; exact Nat.le_refl _)); have O13 := Lib.hid ho; have R13 : Hid (Rv w13 A ((k.take r).map nv)) := Lib.hid (by rw [List.map_take]; exact Rv.take (RK.out.below (below_on B12.out (Nat.le_refl _) B13.out)) r); clear ho hg he))
            all_goals (go_wp2_with fail; go_meet; exact ⟨A14, c14, rfl, hc14, O14, B14⟩)
          case rest =>
            obtain ⟨A14, c14, rfl, hc14, O14, B14⟩ := hcut
            clear OE BE RE LE1 LE2 sl1 sl2
            have HPM : Hid ((k.drop r ++ k.take r).Perm k) := Lib.hid (rot_perm k r)
            go_wp2_with fail
            go_loopw [24] (fun p wr => ∃ (i : Nat) (T : List Nat), i ≤ N ∧ p = .int .i64 (i : Int) ∧ Hid (T.Perm k) ∧ Hid (wr.ownsRow w12.heap.size 3 1 (.slice A14 N c14) N (T.map nv)) ∧ Hid (Below w12.heap.size w12 wr)) (fun p _ => N - (intOf p).toNat)
            case atStart => exact ⟨0, _, Nat.zero_le _, rfl, HPM, O14, B14⟩
            case round =>
              obtain ⟨i, T, hi, rfl, HP, HO, HB⟩ := hrel
              by_cases hlt : i < N / 2
              · obtain ⟨g, rfl⟩ := own_some (by omega) HO.out
                obtain ⟨j, hj⟩ : ∃ j, N - 1 - i = j := ⟨_, rfl⟩
                have hjN : j < N := by omega
                have hTl : T.length = N := by rw [HP.out.length_eq]; exact HKL.out
                obtain ⟨x, hx⟩ : ∃ x, T[i]? = some x := ⟨_, List.getElem?_eq_getElem (by omega)⟩
                obtain ⟨y, hy⟩ : ∃ y, T[j]? = some y := ⟨_, List.getElem?_eq_getElem (by omega)⟩
                have cx1 : wr.cell? ⟨g, i, none⟩ = some (.int .i64 (x : Int)) := by rw [HO.out.cellAt i (by omega), List.getElem?_map, hx]; rfl
                have cy1 : wr.cell? ⟨g, j, none⟩ = some (.int .i64 (y : Int)) := by rw [HO.out.cellAt j (by omega), List.getElem?_map, hy]; rfl
                have fx := HO.out.frozenAt i
                have fy := HO.out.frozenAt j
                have hij : (N : Int) - 1 - (i : Int) = (j : Int) := by omega
                have GE : Hid (w12.heap.size ≤ g) := Lib.hid (own_ge HO.out rfl)
                have HSW := Lib.hid (swap_perm hx hy)
                have hd9 : decide ((i : Int) < (N : Int) / 2) = true := decide_eq_true (by omega)
                have HOS : Hid (((wr.setCell ⟨g, i, none⟩ (.int .i64 (y : Int))).setCell ⟨g, j, none⟩ (.int .i64 (x : Int))).ownsRow w12.heap.size 3 1 (.slice (some ⟨g, 0, none⟩) N c14) N (((T.set i y).set j x).map nv)) := Lib.hid (by rw [List.map_set, List.map_set]; exact ((HO.out.stored i _).1.stored j _).1)
                have HBS : Hid (Below w12.heap.size w12 ((wr.setCell ⟨g, i, none⟩ (.int .i64 (y : Int))).setCell ⟨g, j, none⟩ (.int .i64 (x : Int)))) := Lib.hid ((HB.out.setCell (p := ⟨g, i, none⟩) GE.out _).setCell (p := ⟨g, j, none⟩) GE.out _)
                clear hj hx hy hTl
                go_wp2_with fail
                go_region
                go_wp2_with fail
                exact ⟨⟨i + 1, (T.set i y).set j x, by omega, by simp, Lib.hid (HSW.out.trans HP.out), Lib.hid HOS.out, Lib.hid HBS.out.drew⟩, by simp [intOf]; omega⟩
              · have hd9 : decide ((i : Int) < (N : Int) / 2) = false := decide_eq_false (by omega)
                have BW : Hid (Below w.heap.size w wr) := Lib.hid (below_on B12.out (Nat.le_refl _) HB.out)
                have HC1 := Lib.hid (cost_yes wr A k N c HKL.out hNc HVK.out (RK.out.below BW.out))
                have HVT : Hid (Vld (T ++ [0, 0, 0])) := Lib.hid ⟨by rw [List.length_append, HP.out.length_eq, HKL.out]; simp; omega, fun x hx => by
                  rcases List.mem_append.1 hx with hx | hx
                  · exact HVK.out.2 x (HP.out.mem_iff.1 hx)
                  · simp at hx; omega⟩
                have HCE : Hid (cst (T ++ [0, 0, 0]) = cst k) := Lib.hid (by rw [cst_zeros, cst_perm HP.out])
                have HLT : Hid ((T ++ [0, 0, 0]).length = N + 3) := Lib.hid (by rw [List.length_append, HP.out.length_eq, HKL.out]; rfl)
                have HON : Hid ((usd 0 k).length ≤ 1 → cst k = 0) := Lib.hid (fun h => cst_one h)
                have HGE : Hid (∀ g, (Value.slice A14 N c14).ownBlock = some g → w12.heap.size ≤ g) := Lib.hid (fun g e => own_ge HO.out e)
                have HDD : Hid (∀ W, Below w.heap.size w W → _) := Lib.hid (fun W hb => distinct_yes W A k N c HKL.out hNc HVK.out (RK.out.below hb))
                obtain ⟨C, hC⟩ : ∃ C, cst k = C := ⟨_, rfl⟩
                obtain ⟨U, hU⟩ : ∃ U, (usd 0 k).length = U := ⟨_, rfl⟩
                rw [hC] at HC1 HCE HON
                rw [hU] at HON
                simp only [hU, nv] at HDD
                simp only [nv] at HC1
                clear hC hU RK
                go_wp2_with fail
                refine HC1.out.mono ?_
                rintro e w15 ⟨rfl, hb15⟩
                have O15 : Hid ((w15.alloc (.cells #[.int .i64 0, .int .i64 0, .int .i64 0] 3)).ownsRow w12.heap.size 3 1 (.slice A14 N c14) N (T.map nv)) := Lib.hid (own_below (own_below HO.out hb15) (lit_bel _ _))
                have B15 : Hid (Below w12.heap.size w12 (w15.alloc (.cells #[.int .i64 0, .int .i64 0, .int .i64 0] 3))) := Lib.hid (below_on HB.out (Nat.le_refl _) (below_on hb15 (Nat.le_refl _) (lit_bel _ _)))
                have L15 : Hid (Rv (w15.alloc (.cells #[.int .i64 0, .int .i64 0, .int .i64 0] 3)) (some ⟨w15.heap.size, 0, none⟩) ([0, 0, 0].map nv)) := Lib.hid (lit_rv w15 ([0, 0, 0].map nv) 3)
                clear hb15 HC1 HO HB BW
                go_wp2_with (first
                  | (at_builtin; refine wpList_append_vals Try.underlying26 int_info rfl rfl _ _ rfl w12.heap.size (.slice A14 N c14) N (T.map nv) rfl O15.out (some ⟨w15.heap.size, 0, none⟩) ([0, 0, 0].map nv) (nv_one _) 3 3 rfl rfl L15.out (by omega) (by omega) B15.out.size ?_; intro v16 w16 ho hg he; rw [← List.map_append] at ho; obtain ⟨A16, c16, rfl, hc16⟩ := own_form ho; have B16 := Lib.hid (B15.out.grown hg B15.out.size HGE.out); have R16 : Hid (Rn w16 A16 (T ++ [0, 0, 0])) := Lib.hid (Rv.of_own ho); clear ho hg he)
                  | fail)
                have HC2 := Lib.hid (cost_yes w16 A16 (T ++ [0, 0, 0]) (N + 3) c16 HLT.out hc16 HVT.out R16.out)
                rw [HCE.out] at HC2
                simp only [nv] at HC2
                refine HC2.out.mono ?_
                rintro e w17 ⟨rfl, hb17⟩
                have B17 : Hid (Below w.heap.size w w17) := Lib.hid (below_on B12.out (Nat.le_refl _) (below_on B16.out (Nat.le_refl _) hb17))
                clear hb17 HC2 R16 B16 O15 B15 L15
                go_wp2_with fail
                refine (HDD.out _ B17.out).mono ?_
                rintro e w18 ⟨rfl, hb18⟩
                have B18 : Hid (Below w.heap.size w w18) := Lib.hid (below_on B17.out (Nat.le_refl _) hb18)
                clear hb18 B17 HDD
                have hC0 : (0 : Int) ≤ (C : Int) := by omega
                by_cases hU1 : 1 < U
                · have hdU : decide ((1 : Int) < (U : Int)) = true := decide_eq_true (by omega)
                  go_wp2_with (first
    | (go_at_call 19; refine (num_any _ _).mono ?_; rintro e w18 ⟨rfl, rfl⟩)
    | (go_at_call 13; refine (works_any _).mono ?_; rintro e wk ⟨rfl, hbk⟩; have BK := Lib.hid (below_on B18.out (Nat.le_refl _) hbk); clear hbk))
                  go_ret
                  exact ⟨by simp, BK.out⟩
                · have hC9 := HON.out (by omega)
                  subst hC9
                  have hdU : decide ((1 : Int) < (U : Int)) = false := decide_eq_false (by omega)
                  go_wp2_with (first
    | (go_at_call 19; refine (num_any _ _).mono ?_; rintro e w18 ⟨rfl, rfl⟩)
    | (go_at_call 13; refine (works_any _).mono ?_; rintro e wk ⟨rfl, hbk⟩; have BK := Lib.hid (below_on B18.out (Nat.le_refl _) hbk); clear hbk))
                  go_ret
                  exact ⟨by simp, BK.out⟩


theorem walk (A : Option Addr) (l : List Int) (c : Nat) (t : Int) (X : Option Addr) (m : List UInt8) (cx : Nat) (u a b : Int) (w : World) (hR : Ri w A l) (_ : ∀ z ∈ l, -9223372036854775808 ≤ z ∧ z ≤ 9223372036854775807) (hc : l.length ≤ c) (wt : (Lit.int .u8 t).wf = true) (hX : Rd w X m) (_ : m.length ≤ 140737488351232) (hcx : m.length ≤ cx) (wu : (Lit.int .u8 u).wf = true) (wa : (Lit.int .u8 a).wf = true) (wb : (Lit.int .u8 b).wf = true) :
    Calls Try.prog 12 #[.slice A l.length c, .int .u8 t, .slice X m.length cx, .int .u8 u, .int .u8 a, .int .u8 b] w fun e w' => e = .returned (.bool true) ∧ Below w.heap.size w w' := by
  have bt := bounds_u8 wt
  have bu := bounds_u8 wu
  have ba := bounds_u8 wa
  have bb := bounds_u8 wb
  by_cases h0 : 200 < l.length
  · exact walk_a1 A _ c t X _ cx u a b w h0
  · by_cases h1 : 400 < m.length
    · exact walk_a2 A _ c t X _ cx u a b w (by omega) h1
    · by_cases h2 : 8 < a
      · exact walk_a3 A _ c t X _ cx u a b w (by omega) (by omega) h2
      · by_cases h3 : 20 < b
        · exact walk_a4 A _ c t X _ cx u a b w (by omega) (by omega) h2 h3
        · obtain ⟨t', rfl⟩ := Int.eq_ofNat_of_zero_le bt.1
          obtain ⟨u', rfl⟩ := Int.eq_ofNat_of_zero_le bu.1
          obtain ⟨a', rfl⟩ := Int.eq_ofNat_of_zero_le ba.1
          obtain ⟨b', rfl⟩ := Int.eq_ofNat_of_zero_le bb.1
          exact walk_b A l _ c t' X m _ cx u' a' b' w (by omega) (by omega) (by omega) (by omega) (by omega) (by omega) rfl hc hR rfl hcx hX

set_option maxRecDepth 100000 in
theorem lifted (os : Os) (started : os.Started) (H : Type) (enc : TypeId × Value → H) :
    ReturnsInHanded {} Try.checked os 12 .any (Rows.tallyHoldsSpec.pre6 enc Try.prog Try.f12 Rows.tallyHoldsRow.domain false) (Rows.tallyHoldsSpec.post enc Try.prog Try.f12 false true false false) := by
  refine returnsInHanded_of_change_sized (C := Try.checked) ownB started (by kernel_rfl) Try.func12
    (ChangeSpec.witness6 (enc := enc) (C := Try.checked) false ⟨#[], #[.slice none 0 0, .int .u8 0, .slice none 0 0, .int .u8 0, .int .u8 0, .int .u8 0], []⟩ 8 (by kernel_rfl) (by kernel_rfl) (by kernel_rfl) (by kernel_rfl)) ?_
  intro W base args ds gs before hval0 hW _ hsz0 _
  have hsz : (DataW.weightsEach Try.prog (Try.f12.params.toList ++ Rows.tallyHoldsSpec.plain.varTypes Try.prog) (ds ++ gs)).all (· ≤ reachBytes) = true := hsz0
  clear hsz0
  have hval : ∀ (j : Nat) t v, Try.f12.params[j]? = some t → args[j]? = some v → Value.okWide Try.prog W .any base t v := hval0
  have hW' := hW
  obtain ⟨p, q, hA0, hV, rfl, hfz, hnd⟩ := hW
  have hA : DataW.TrodAll enc Try.prog W 0 (fun _ => true) true Try.f12.params.toList args.toList ds p := hA0
  rw [Try.params12] at hA hval hsz
  obtain ⟨v0, vs0, d0, ds0, p0, q0, hargs, rfl, rfl, h0, r0⟩ := trodAll_cons hA
  obtain ⟨v1, vs1, d1, ds1, p1, q1, rfl, rfl, rfl, h1, r1⟩ := trodAll_cons r0
  obtain ⟨v2, vs2, d2, ds2, p2, q2, rfl, rfl, rfl, h2, r2⟩ := trodAll_cons r1
  obtain ⟨v3, vs3, d3, ds3, p3, q3, rfl, rfl, rfl, h3, r3⟩ := trodAll_cons r2
  obtain ⟨v4, vs4, d4, ds4, p4, q4, rfl, rfl, rfl, h4, r4⟩ := trodAll_cons r3
  obtain ⟨v5, vs5, d5, ds5, p5, q5, rfl, rfl, rfl, h5, r5⟩ := trodAll_cons r4
  obtain ⟨rfl, rfl, rfl⟩ := trodAll_nil r5
  obtain rfl : args = #[v0, v1, v2, v3, v4, v5] := by cases args; simp_all
  obtain ⟨rfl, rfl⟩ := trodVars_none hV
  obtain ⟨a0, len0, cap0, rfl⟩ := okWide_slice Try.underlying26 (hval 0 26 v0 rfl rfl)
  have k0 := h0
  have lt0 : ∀ x ∈ p0, x.block < W.heap.size := by obtain ⟨m, hm⟩ := k0; exact DataW.trod_lt m _ _ _ hm
  obtain ⟨l0, rfl, hc0, ri0, wi0⟩ := open_intl h0
  obtain ⟨a1, rfl, rfl, rfl, w1⟩ := open_int Try.underlying5 (hval 1 5 v1 rfl rfl) h1
  obtain ⟨a2, len2, cap2, rfl⟩ := okWide_slice Try.underlying22 (hval 2 22 v2 rfl rfl)
  have k2 := h2
  have lt2 : ∀ x ∈ p2, x.block < W.heap.size := by obtain ⟨m, hm⟩ := k2; exact DataW.trod_lt m _ _ _ hm
  obtain ⟨l2, rfl, hc2, rd2, hd2⟩ := open_bytes h2
  have hs2 : l2.length ≤ 140737488351232 := by
    rcases hd2 with ⟨h, _⟩ | ⟨es, sp, rfl, h⟩
    · omega
    · have := sized_slice hsz (j := 2) (t := 22) (e := 5) rfl rfl Try.underlying22
      rw [bytes_byte] at this
      simp only [reachBytes] at this
      omega
  obtain ⟨a3, rfl, rfl, rfl, w3⟩ := open_int Try.underlying5 (hval 3 5 v3 rfl rfl) h3
  obtain ⟨a4, rfl, rfl, rfl, w4⟩ := open_int Try.underlying5 (hval 4 5 v4 rfl rfl) h4
  obtain ⟨a5, rfl, rfl, rfl, w5⟩ := open_int Try.underlying5 (hval 5 5 v5 rfl rfl) h5
  clear hA0 hval0
  refine (walk a0 l0 cap0 a1 a2 l2 cap2 a3 a4 a5 W ri0 wi0 hc0 w1 rd2 hs2 hc2 w3 w4 w5).mono fun e W' ⟨he, bel⟩ => ?_
  subst he
  exact ⟨_, rfl, _, _, _, [], _, [], hW', trodAll_mk1 (shut_bool Try.underlying4 _), (trodAll_cons_mk (Below.trod laidOut (by kernel_rfl) (of_decide_eq_true (by kernel_rfl)) k0 bel lt0) (trodAll_cons_mk (shut_int Try.underlying5 w1) (trodAll_cons_mk (Below.trod laidOut (by kernel_rfl) (of_decide_eq_true (by kernel_rfl)) k2 bel lt2) (trodAll_cons_mk (shut_int Try.underlying5 w3) (trodAll_cons_mk (shut_int Try.underlying5 w4) (trodAll_cons_mk (shut_int Try.underlying5 w5) trodAll_mk0)))))), rfl, bel.frame _, fun h => by cases h⟩

theorem proved : Rows.TallyHoldsSaid :=
  OpenClaim.holds_of_wide 12 Try.f12 rfl rfl rfl rfl rfl rfl rfl ⟨rfl, rfl, rfl, rfl, rfl⟩ rfl rfl rfl rfl rfl (by kernel_rfl) Try.func12 (by kernel_rfl)
    (of_decide_eq_true (by kernel_rfl)) (by unfold Func.isWrapper; rw [if_neg (by decide +kernel)]; exact ⟨rfl, rfl⟩)
    (fun os started H enc _ => lifted os started H enc)

#print axioms proved

end Go.Proofs.Ytbbkmmdlpmpaeaa.tallyHolds
