/-
  What the laws' helper act does where it clones the ring. No condition.
-/
import Derived.Test.YteogpmapbeogpaaDoorRff
import Derived.Test.YteogpmapbeogpaaDoorRow
namespace Go.Proofs.YteogpmapbeogpaaDoor
open Go.RowKit

theorem results_tct {fn : Func} {a b d : Tmp} {t : TypeId} (h : fn.results = #[.tmp b, .cell a t, .tmp d]) {tmps : Array Value} {P : Program} {w : World} {ad : Addr} {v : Value} (hp : tmps.getD a undef = .pointer (some ad)) (hl : (loadVar t ad).run P w = .ok v w) :
    (results fn tmps).run P w = .ok (.tuple #[tmps.getD b undef, v, tmps.getD d undef]) w := by
  have hp' : tmps[a]?.getD undef = .pointer (some ad) := by simpa using hp
  simp [results, h, hp', asAddr, hl]

/-- The block of one of the laws' calls. -/
def Xb (w : World) (b : Nat) (wh : Int) (A : Option Addr) (n c : Nat) (ofs nn : Int) : Prop := w.heap[b]? = some (.cells #[.int .i64 wh, .slice A n c, .int .i64 ofs, .int .i64 nn] 38 (0, 0))
section
variable {w w' : World} {b : Nat} {wh : Int} {A : Option Addr} {n c : Nat} {ofs nn : Int}
theorem Xb.lt (h : Xb w b wh A n c ofs nn) : b < w.heap.size := (Array.getElem?_eq_some_iff.1 h).1
theorem Xb.c0 (h : Xb w b wh A n c ofs nn) : w.cell? ⟨b, 0, none⟩ = some (.int .i64 wh) := by rw [cell_of_row w b 0 _ _ _ h]; rfl
theorem Xb.c1 (h : Xb w b wh A n c ofs nn) : w.cell? ⟨b, 1, none⟩ = some (.slice A n c) := by rw [cell_of_row w b 1 _ _ _ h]; rfl
theorem Xb.c2 (h : Xb w b wh A n c ofs nn) : w.cell? ⟨b, 2, none⟩ = some (.int .i64 ofs) := by rw [cell_of_row w b 2 _ _ _ h]; rfl
theorem Xb.c3 (h : Xb w b wh A n c ofs nn) : w.cell? ⟨b, 3, none⟩ = some (.int .i64 nn) := by rw [cell_of_row w b 3 _ _ _ h]; rfl
theorem Xb.same (h : Xb w b wh A n c ofs nn) (hb : w'.heap[b]? = w.heap[b]?) : Xb w' b wh A n c ofs nn := hb.trans h
theorem Xb.new (w : World) (wh : Int) (A : Option Addr) (n c : Nat) (ofs nn : Int) : Xb (w.alloc (.cells #[.int .i64 wh, .slice A n c, .int .i64 ofs, .int .i64 nn] 38)) w.heap.size wh A n c ofs nn := World.alloc_heap_new w _
end

/-- The three blocks that act makes first: the reference's ring, the call, the second result. -/
theorem act_start (w : World) (lim : Nat) (A : Option Addr) (n c t : Nat) (wh : Int) (B : Option Addr) (M cm : Nat) (ofs nn : Int) (w1 : World)
    (hw1 : ((w.alloc (.cells #[.int .i64 (lim : Int), .slice A n c, .int .i64 (t : Int)] 31)).alloc (.cells #[.int .i64 wh, .slice B M cm, .int .i64 ofs, .int .i64 nn] 38)).alloc (.cells #[.int .i64 0, .slice none 0 0, .int .i64 0] 31) = w1) :
    Below w.heap.size w w1 ∧ w1.heap.size = w.heap.size + 3 ∧ Cb w1 w.heap.size lim A n c t ∧ Xb w1 (w.heap.size + 1) wh B M cm ofs nn ∧ Cb w1 (w.heap.size + 1 + 1) 0 none 0 0 0 := by
  subst hw1
  refine ⟨(((Below.refl _ w).alloc (Nat.le_refl _) _).alloc (by simp) _).alloc (by simp; omega) _, by simp, ((Cb.new w lim A n c t).same (Below.heap_alloc _ _ _ (by simp))).same (Below.heap_alloc _ _ _ (by simp; omega)), ?_, ?_⟩
  · have := (Xb.new (w.alloc (.cells #[.int .i64 (lim : Int), .slice A n c, .int .i64 (t : Int)] 31)) wh B M cm ofs nn).same (Below.heap_alloc _ (.cells #[.int .i64 0, .slice none 0 0, .int .i64 0] 31) _ (by simp))
    rwa [World.size_alloc] at this
  · have := Cb.new ((w.alloc (.cells #[.int .i64 (lim : Int), .slice A n c, .int .i64 (t : Int)] 31)).alloc (.cells #[.int .i64 wh, .slice B M cm, .int .i64 ofs, .int .i64 nn] 38)) 0 none 0 0 0
    rwa [World.size_alloc, World.size_alloc] at this

/-- What is left once the second result's block is written over the clone. -/
theorem act_fin {w w1 w7 Wc : World} {y lim' t' : Nat} {u : Value} {l' : List UInt8} {u0 u1 u2 : Value} (hb : Below w.heap.size w w1) (hs : w1.heap.size = w.heap.size + 3) (h : Rg w7 y u lim' l' t') (h4 : Below w1.drew.heap.size w1.drew w7) (h5 : ∀ k, Fp y u k → w1.drew.heap.size ≤ k)
    (hW : ((w7.setCell ⟨w.heap.size + 1 + 1, 0, none⟩ u0).setCell ⟨w.heap.size + 1 + 1, 1, none⟩ u1).setCell ⟨w.heap.size + 1 + 1, 2, none⟩ u2 = Wc) : Rg Wc y u lim' l' t' ∧ Below w.heap.size w Wc ∧ ∀ k, Fp y u k → w.heap.size ≤ k := by
  have hz : w1.drew.heap.size = w1.heap.size := rfl
  rw [hz] at h4 h5
  have b7 : Below w.heap.size w w7 := ⟨h4.os.trans hb.os, h4.tape.trans hb.tape, h4.output.trans hb.output, Nat.le_trans hb.size h4.size, fun k hk => (h4.block k (Nat.lt_of_lt_of_le hk hb.size)).trans (hb.block k hk)⟩
  have keep : ∀ g, g ≠ w.heap.size + 1 + 1 → Wc.heap[g]? = w7.heap[g]? := fun g hg => by
    rw [← hW, Below.heap_setCell _ _ _ _ hg, Below.heap_setCell _ _ _ _ hg, Below.heap_setCell _ _ _ _ hg]
  refine ⟨h.same (fun k hk => keep _ (by have := h5 k hk; omega)), ?_, fun k hk => by have := h5 k hk; omega⟩
  rw [← hW]
  exact ((b7.setCell (p := ⟨w.heap.size + 1 + 1, 0, none⟩) (by show _ ≤ w.heap.size + 1 + 1; omega) _).setCell (p := ⟨w.heap.size + 1 + 1, 1, none⟩) (by show _ ≤ w.heap.size + 1 + 1; omega) _).setCell (p := ⟨w.heap.size + 1 + 1, 2, none⟩) (by show _ ≤ w.heap.size + 1 + 1; omega) _

set_option maxRecDepth 100000 in
set_option maxHeartbeats 4000000 in
theorem act_clone {w : World} {x lim' t' : Nat} {v : Value} {l' : List UInt8} (hr : Rg w x v lim' l' t') (lim : Nat) (A : Option Addr) (n c t : Nat) (wh : Int) (B : Option Addr) (M cm : Nat) (ofs nn : Int) (hwh : wh < 0 ∨ 5 < wh) :
    Calls Tryd.prog 16 #[.pointer (some ⟨x, 0, none⟩), rv lim A n c t, .agg #[.int .i64 wh, .slice B M cm, .int .i64 ofs, .int .i64 nn]] w fun e w' => ∃ y u, e = .returned (.tuple #[.pointer (some ⟨y, 0, none⟩), rv lim A n c t, .bool true]) ∧ Rg w' y u lim' l' t' ∧ Below w.heap.size w w' ∧ ∀ k, Fp y u k → w.heap.size ≤ k := by
  obtain ⟨w1, hw1⟩ : ∃ w1, ((w.alloc (.cells #[.int .i64 (lim : Int), .slice A n c, .int .i64 (t : Int)] 31)).alloc (.cells #[.int .i64 wh, .slice B M cm, .int .i64 ofs, .int .i64 nn] 38)).alloc (.cells #[.int .i64 0, .slice none 0 0, .int .i64 0] 31) = w1 := ⟨_, rfl⟩
  obtain ⟨g1, z1, p1, x1, q1⟩ := act_start w lim A n c t wh B M cm ofs nn w1 hw1
  have c0 := x1.c0
  have e0 : (wh == 0) = false := by simp; omega
  have e1 : (wh == 1) = false := by simp; omega
  have e2 : (wh == 2) = false := by simp; omega
  have e3 : (wh == 3) = false := by simp; omega
  have e4 : (wh == 4) = false := by simp; omega
  have e5 : (wh == 5) = false := by simp; omega
  have CL := Lib.hid (clone_any (w := w1.drew) ((hr.below g1).same (fun _ _ => rfl)))
  have P1 := Lib.hid p1
  have Q1 := Lib.hid q1
  have G1 := Lib.hid g1
  clear hr hwh g1 p1 x1 q1
  go_enter Tryd.func16, Tryd.ntmps16
  go_wp2_with fail
  clear hw1 c0 e0 e1 e2 e3 e4 e5
  refine wp_region_noPanic ?_
  refine wp_region_held_drew (S := fun W => W.cell? ⟨w.heap.size, 0, none⟩ = some (.int .i64 (lim : Int)) ∧ W.cell? ⟨w.heap.size, 1, none⟩ = some (.slice A n c) ∧ W.cell? ⟨w.heap.size, 2, none⟩ = some (.int .i64 (t : Int))) (by kernel_rfl) (by exact ⟨P1.out.c0, P1.out.c1, P1.out.c2⟩) (fun hHeld => ?_)
  refine wpAnyH_take (i := 0) (oi := { dst := some 81, op := Op.move (Operand.tmp 0), type := 26, pos := "law.go:51", after := #[], guard := none }) (v := ?_) rfl (by kernel_rfl) (by kernel_rfl) (by kernel_rfl) (fun _ _ _ h => h) (Or.inl ⟨by rfl, ?_⟩) (by assumption) ?_
  rotate_left
  · intro w hSw; (try dsimp only at hSw); go_simp; all_goals (with_reducible rfl)
  (try simp only [Act.put, List.setIfInBounds_toArray, List.set_cons_zero, List.set_cons_succ])
  refine wpAnyH_take (i := 2) (oi := { dst := some 83, op := Op.load 31 (Operand.tmp 4), type := 31, pos := "law.go:51", after := #[{ on := 3, ground := Ground.gcOnly Departure.lateStores }], guard := none }) (v := ?_) rfl (by kernel_rfl) (by kernel_rfl) (by kernel_rfl) (fun _ _ _ h => h) (Or.inl ⟨by rfl, ?_⟩) (by assumption) ?_
  rotate_left
  · intro w hSw; (try dsimp only at hSw); go_simp; all_goals (with_reducible rfl)
  (try simp only [Act.put, List.setIfInBounds_toArray, List.set_cons_zero, List.set_cons_succ])
  refine wpAnyH_ready (rs := [1]) (by kernel_rfl) (by simp) ?_
  refine AllReadyH.cons (o := { dst := some 82, op := Op.call { callee := Callee.value (Operand.func 22), args := #[Operand.tmp 81], argTypes := #[26] }, type := 26, pos := "law.go:51", after := #[{ on := 0, ground := Ground.data }], guard := none }) rfl (fun K hK => ?_) AllReadyH.nil
  go_simp
  refine CL.out.mono ?_
  rintro e w7 ⟨y, u, rfl, hg7, hb7, hf7⟩
  have p7 : Cb w7 w.heap.size lim A n c t := (P1.out : Cb w1.drew _ _ _ _ _ _).same (hb7.block _ (by have := P1.out.lt; simpa using this))
  have q7 : Cb w7 (w.heap.size + 1 + 1) 0 none 0 0 0 := (Q1.out : Cb w1.drew _ _ _ _ _ _).same (hb7.block _ (by have := Q1.out.lt; simpa using this))
  have d0 := q7.c0
  have f0 := q7.free 0
  obtain ⟨Wa, hWa⟩ : ∃ Wa, w7.setCell ⟨w.heap.size + 1 + 1, 0, none⟩ (.int .i64 (lim : Int)) = Wa := ⟨_, rfl⟩
  have qa : Cb Wa (w.heap.size + 1 + 1) lim none 0 0 0 := by rw [← hWa]; exact q7.set0 lim
  have d1 := qa.c1
  have f1 := qa.free 1
  obtain ⟨Wb, hWb⟩ : ∃ Wb, Wa.setCell ⟨w.heap.size + 1 + 1, 1, none⟩ (.slice A n c) = Wb := ⟨_, rfl⟩
  have qb : Cb Wb (w.heap.size + 1 + 1) lim A n c 0 := by rw [← hWb]; exact qa.set1 A n c
  have d2 := qb.c2
  have f2 := qb.free 2
  obtain ⟨Wc, hWc⟩ : ∃ Wc, Wb.setCell ⟨w.heap.size + 1 + 1, 2, none⟩ (.int .i64 (t : Int)) = Wc := ⟨_, rfl⟩
  have qc : Cb Wc (w.heap.size + 1 + 1) lim A n c t := by rw [← hWc]; exact qb.set2 t
  have FN := Lib.hid (act_fin (w := w) (w1 := w1) G1.out z1 hg7 hb7 hf7 (by rw [hWa, hWb, hWc] : ((w7.setCell ⟨w.heap.size + 1 + 1, 0, none⟩ (.int .i64 (lim : Int))).setCell ⟨w.heap.size + 1 + 1, 1, none⟩ (.slice A n c)).setCell ⟨w.heap.size + 1 + 1, 2, none⟩ (.int .i64 (t : Int)) = Wc))
  have pc : Cb Wc w.heap.size lim A n c t := by rw [← hWc, ← hWb, ← hWa]; exact ((p7.same (Below.heap_setCell _ _ _ _ (by show _ ≠ w.heap.size + 1 + 1; omega))).same (Below.heap_setCell _ _ _ _ (by show _ ≠ w.heap.size + 1 + 1; omega))).same (Below.heap_setCell _ _ _ _ (by show _ ≠ w.heap.size + 1 + 1; omega))
  have P7 := Lib.hid p7
  have PC := Lib.hid pc
  have QC := Lib.hid qc
  clear p7 q7 qa qb qc pc hg7 hb7 hf7
  refine hK.out _ _ (by exact ⟨P7.out.c0, P7.out.c1, P7.out.c2⟩) (fun hHeld => ?_)
  clear hK K
  (try simp only [Act.put, List.setIfInBounds_toArray, List.set_cons_zero, List.set_cons_succ])
  refine wpAnyH_take (i := 3) (oi := { dst := some 6, op := Op.assign (Operand.tmp 82), type := 26, pos := "law.go:51", after := #[{ on := 1, ground := Ground.data }, { on := 1, ground := Ground.chain }, { on := 0, ground := Ground.phase }, { on := 1, ground := Ground.phase }, { on := 2, ground := Ground.textOnly Departure.lateStores }], guard := none }) (v := ?_) rfl (by kernel_rfl) (by kernel_rfl) (by kernel_rfl) (fun _ _ _ h => h) (Or.inl ⟨by rfl, ?_⟩) (by assumption) ?_
  rotate_left
  · intro w hSw; (try dsimp only at hSw); go_simp; all_goals (with_reducible rfl)
  (try simp only [Act.put, List.setIfInBounds_toArray, List.set_cons_zero, List.set_cons_succ])
  refine wpAnyH_ready (rs := [4]) (by kernel_rfl) (by simp) ?_
  refine AllReadyH.cons (o := { dst := none, op := Op.store 31 (Operand.tmp 7) (Operand.tmp 83), type := 0, pos := "law.go:51", after := #[{ on := 2, ground := Ground.data }, { on := 3, ground := Ground.chain }, { on := 0, ground := Ground.phase }, { on := 1, ground := Ground.phase }, { on := 2, ground := Ground.phase }, { on := 3, ground := Ground.phase }], guard := none }) rfl (fun K hK => ?_) AllReadyH.nil
  go_simp
  refine hK.out _ _ (by exact ⟨PC.out.c0, PC.out.c1, PC.out.c2⟩) (fun hHeld => ?_)
  clear hK K
  (try simp only [Act.put, List.setIfInBounds_toArray, List.set_cons_zero, List.set_cons_succ])
  refine wpAnyH_take (i := 5) (oi := { dst := some 8, op := Op.assign (Operand.const (Value.bool true)), type := 4, pos := "law.go:51", after := #[{ on := 4, ground := Ground.chain }, { on := 0, ground := Ground.phase }, { on := 1, ground := Ground.phase }, { on := 2, ground := Ground.phase }, { on := 3, ground := Ground.phase }, { on := 4, ground := Ground.phase }], guard := none }) (v := ?_) rfl (by kernel_rfl) (by kernel_rfl) (by kernel_rfl) (fun _ _ _ h => h) (Or.inl ⟨by rfl, ?_⟩) (by assumption) ?_
  rotate_left
  · intro w hSw; (try dsimp only at hSw); go_simp; all_goals (with_reducible rfl)
  (try simp only [Act.put, List.setIfInBounds_toArray, List.set_cons_zero, List.set_cons_succ])
  refine wpAnyH_done (by kernel_rfl) ?_ _
  refine NoPanic.normal ?_
  go_wp2
  refine bodyPost_ret (results_tct rfl rfl QC.out.load) rfl ?_
  exact ⟨y, u, rfl, FN.out⟩
end Go.Proofs.YteogpmapbeogpaaDoor
