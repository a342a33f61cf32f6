/-
  What tally.inspect does: it returns the histogram of valid counts: the counts, their total and the greatest of them. Nothing that was there has changed. Condition: the counts are valid.
-/
import Derived.RangeFuncCalls
import Derived.Shelf.RegionOpen
import Derived.Test.YtdlhfcapfbbjjaaUsd
namespace Go.Proofs.Ytdlhfcapfbbjjaa
open Go.RowKit Go.Shelf

attribute [local go_sem] Oper.semAt_some

/-- A histogram as a value. -/
abbrev hst (A : Option Addr) (N c t g : Nat) : Value := .agg #[.slice A N c, nv t, nv g]
/-- A histogram's block. -/
def Hb (W : World) (b : Nat) (A : Option Addr) (N c t g : Nat) : Prop := W.heap[b]? = some (.cells #[.slice A N c, nv t, nv g] 62 (0, 0))

section
variable {W W' : World} {b : Nat} {A : Option Addr} {N c t g : Nat}
theorem Hb.lt (h : Hb W b A N c t g) : b < W.heap.size := (Array.getElem?_eq_some_iff.1 h).1
theorem Hb.c0 (h : Hb W b A N c t g) : W.cell? ⟨b, 0, none⟩ = some (.slice A N c) := by rw [cell_of_row W b 0 _ _ _ h]; rfl
theorem Hb.c1 (h : Hb W b A N c t g) : W.cell? ⟨b, 1, none⟩ = some (.int .i64 (t : Int)) := by rw [cell_of_row W b 1 _ _ _ h]; rfl
theorem Hb.c2 (h : Hb W b A N c t g) : W.cell? ⟨b, 2, none⟩ = some (.int .i64 (g : Int)) := by rw [cell_of_row W b 2 _ _ _ h]; rfl
theorem Hb.free (h : Hb W b A N c t g) (i : Nat) : W.frozen? ⟨b, i, none⟩ = false := by
  have : W.heap[b]? = _ := h
  simp [World.frozen?, this]
theorem Hb.same (h : Hb W b A N c t g) (hb : W'.heap[b]? = W.heap[b]?) : Hb W' b A N c t g := hb.trans h
theorem Hb.set0 (h : Hb W b A N c t g) (A' : Option Addr) (N' c' : Nat) : Hb (W.setCell ⟨b, 0, none⟩ (.slice A' N' c')) b A' N' c' t g := by
  have hb : W.heap[b]? = _ := h
  unfold Hb
  simp [World.setCell, Array.getElem?_modify, hb]
theorem Hb.set1 (h : Hb W b A N c t g) (t' : Nat) : Hb (W.setCell ⟨b, 1, none⟩ (.int .i64 (t' : Int))) b A N c t' g := by
  have hb : W.heap[b]? = _ := h
  unfold Hb
  simp [World.setCell, Array.getElem?_modify, hb]
theorem Hb.set2 (h : Hb W b A N c t g) (g' : Nat) : Hb (W.setCell ⟨b, 2, none⟩ (.int .i64 (g' : Int))) b A N c t g' := by
  have hb : W.heap[b]? = _ := h
  unfold Hb
  simp [World.setCell, Array.getElem?_modify, hb]
theorem Hb.new (W : World) (A : Option Addr) (N c t g : Nat) : Hb (W.alloc (.cells #[.slice A N c, nv t, nv g] 62)) W.heap.size A N c t g := World.alloc_heap_new W _
end

theorem load_hst {W : World} {b : Nat} {A : Option Addr} {N c t g : Nat} (h : Hb W b A N c t g) : (loadVar 62 ⟨b, 0, none⟩).run Try.prog W = .ok (hst A N c t g) W := by
  have c0 := h.c0
  have c1 := h.c1
  have c2 := h.c2
  simp [loadVar, go_sem, c0, c1, c2]

theorem und_il : Try.prog.underlying 26 = some (.slice (Try.prog.elem 26)) := by kernel_rfl
theorem elem_il : Try.prog.elem 26 = 3 := by kernel_rfl
theorem int_info : (Try.prog.info? 3).map (fun i => (i.zero, i.size, i.bytes)) = some (some (.int .i64 0), 1, 8) := by kernel_rfl
theorem size_int (W : World) : (sizeOf 3).run Try.prog W = .ok 1 W := by
  obtain ⟨i0, hi, _, hz1, _⟩ := info_parts int_info
  simp [sizeOf, typeInfo, hi, hz1]
theorem slice_full (A : Option Addr) (N c : Nat) (h : N ≤ c) (W : World) :
    (Instr.slice 26 (.slice A N c) none (some (.int .i64 (N : Int))) (some (.int .i64 (N : Int)))).run Try.prog W = .ok (.slice A N N) W := by
  rw [run_slice_hm _ _ _ _ _ und_il _ _ _ _ (by omega) (by omega) (by omega), elem_il, size_int]
  simp [Result.andThen, sliced]
  intro _
  cases A with
  | none => rfl
  | some a => simp [Addr.add]

theorem results_cell {fn : Func} {a : Tmp} {t : TypeId} (h : fn.results = #[.cell a t]) {tmps : Array Value} {P : Program} {w : World} {ad : Addr} {v : Value} (hp : tmps.getD a undef = .pointer (some ad)) (hl : (loadVar t ad).run P w = .ok v w) :
    (results fn tmps).run P w = .ok v w := by
  have hp' : tmps[a]?.getD undef = .pointer (some ad) := by simpa using hp
  simp [results, h, hp', asAddr]
  exact hl

set_option maxRecDepth 100000 in
set_option maxHeartbeats 2000000 in
theorem inspect_in (n : Nat) (hn : 6 ≤ n) (A : Option Addr) (k : List Nat) (N c : Nat) (hk : k.length = N) (hNc : N ≤ c) (hv : Vld k) (w : World) (hR : Rn w A k) :
    CallsIn Fence.wide n Try.prog 54 #[.slice A N c] w fun e w' => e = .returned (hst A N N (tot k) (gre k)) ∧ Below w.heap.size w w' := by
  refine callsIn_of_wp_marks Try.func54 rfl trivial ?_ rfl
  simp only [Try.ntmps54, List.size_toArray, List.length_cons, List.length_nil, Nat.reduceAdd, Nat.reduceSub, Array.replicate_succ, Array.replicate_zero, List.push_toArray, List.append_toArray, List.nil_append, List.cons_append]
  have hfw : ∀ f, Fence.wide.fn f := fun _ => trivial
  have h1 : 1 ≤ n := by omega
  have s1 := fun W => slice_full A N c hNc W
  gi_wp2_with (gi_at_call 55; refine (used_in (n - 1) _ _ _ _).mono ?_; rintro e w' ⟨rfl, rfl⟩)
  have b2 : Hb (((w.alloc (.cells #[.slice none 0 0, .int .i64 0, .int .i64 0] 62)).alloc (.cells #[.slice A N N, .int .i64 0, .int .i64 0] 62)).alloc (.cells #[.slice A N N] 60)) w.heap.size none 0 0 0 0 :=
    ((Hb.new w none 0 0 0 0).same (Below.heap_alloc _ _ _ (by simp))).same (Below.heap_alloc _ _ _ (by simp; omega))
  have b3 : Hb (((w.alloc (.cells #[.slice none 0 0, .int .i64 0, .int .i64 0] 62)).alloc (.cells #[.slice A N N, .int .i64 0, .int .i64 0] 62)).alloc (.cells #[.slice A N N] 60)) (w.heap.size + 1) A N N 0 0 := by
    have := (Hb.new (w.alloc (.cells #[.slice none 0 0, .int .i64 0, .int .i64 0] 62)) A N N 0 0).same (Below.heap_alloc _ (.cells #[.slice A N N] 60) _ (by simp))
    rwa [World.size_alloc] at this
  have b4 : Boxed (((w.alloc (.cells #[.slice none 0 0, .int .i64 0, .int .i64 0] 62)).alloc (.cells #[.slice A N N, .int .i64 0, .int .i64 0] 62)).alloc (.cells #[.slice A N N] 60)) (w.heap.size + 1 + 1) 60 (.slice A N N) := by
    have := Boxed.new ((w.alloc (.cells #[.slice none 0 0, .int .i64 0, .int .i64 0] 62)).alloc (.cells #[.slice A N N, .int .i64 0, .int .i64 0] 62)) 60 (.slice A N N)
    rwa [World.size_alloc, World.size_alloc] at this
  have g1 : Below w.heap.size w (((w.alloc (.cells #[.slice none 0 0, .int .i64 0, .int .i64 0] 62)).alloc (.cells #[.slice A N N, .int .i64 0, .int .i64 0] 62)).alloc (.cells #[.slice A N N] 60)) :=
    (((Below.refl _ w).alloc (Nat.le_refl _) _).alloc (by simp) _).alloc (by simp; omega) _
  generalize ((w.alloc (.cells #[.slice none 0 0, .int .i64 0, .int .i64 0] 62)).alloc (.cells #[.slice A N N, .int .i64 0, .int .i64 0] 62)).alloc (.cells #[.slice A N N] 60) = W1 at b2 b3 b4 g1 ⊢
  have lt4 := b4.lt
  refine range_s rfl h1 (gf := 61) (lb := #[.pointer (some ⟨w.heap.size + 1 + 1, 0, none⟩)]) rfl trivial (enters_of Try.func61 (by kernel_rfl) rfl)
    (N := (usd 0 k).length) (enc := symAt k) (Kp := KpU A k N N (w.heap.size + 1 + 1)) (fun _ => rfl) (used1_hands (n - 1) (by omega) A k N N _ hk (by have := hv.1; omega) hv)
    (fun x => x = w.heap.size + 1) (Nat.ne_of_gt (by omega)) (Nat.ne_of_gt (by omega)) (fun j W => Hb W (w.heap.size + 1) A N N (totj k j) (grej k j)) (fun _ _ => False)
    (fun j W W' hal hp => hp.same (hal _ (by omega) (by omega))) (fun _ _ _ _ h => h)
    (fun j W hc _ => ⟨boxed_chg b4 hc (Nat.ne_of_gt (by omega)), hR.below (g1.trans (hc.new (by omega) (fun k (e : k = _) => by omega)))⟩) b3
    (fun j => { tmps := #[Value.slice A N c, undef, Value.pointer (some ⟨w.heap.size, 0, none⟩), Value.pointer (some ⟨w.heap.size + 1, 0, none⟩), undef, nv (cnt k j), Value.slice A N c,
          Value.slice A N c, Value.int IntKind.i64 ↑N, Value.slice A N c, Value.int IntKind.i64 ↑N, Value.slice A N N,
          Value.agg #[Value.slice A N N, Value.int IntKind.i64 0, Value.int IntKind.i64 0],
          Value.pointer (some ⟨w.heap.size + 1, 0, none⟩), Value.slice A N N,
          Value.func (Fn.func 61) #[] #[Value.pointer (some ⟨w.heap.size + 1 + 1, 0, none⟩)], nv (sym k j), nv (cnt k j),
          undef, undef, undef, undef, undef, undef, undef, undef, undef, undef, undef], defers := [] }) ?assign ?body ?done ?stop
  case assign =>
    intro l' j W2 K _ hK
    simp only [symAt]
    gi_wp2
    exact hK
  case body =>
    intro l' j W2 hj hg2 hs2 hp2
    have hd : 1 ≤ n - 1 - 1 := by omega
    have hx := hv.cnt hj
    have hT := hv.totj (Nat.le_of_lt hj)
    have HT : Hid (totj k (j + 1) = totj k j + cnt k j) := Lib.hid (fold_succ _ _ _ hj)
    have HG : Hid (grej k (j + 1) = max (grej k j) (cnt k j)) := Lib.hid (fold_succ _ _ _ hj)
    obtain ⟨T, hTe⟩ : ∃ T, totj k j = T := ⟨_, rfl⟩
    obtain ⟨G, hGe⟩ : ∃ G, grej k j = G := ⟨_, rfl⟩
    obtain ⟨x, hxe⟩ : ∃ x, cnt k j = x := ⟨_, rfl⟩
    rw [hTe] at hp2 hT HT
    rw [hGe] at hp2 HG
    rw [hxe] at hx HT HG
    simp only [hxe]
    clear hTe hGe hxe
    have c1 := hp2.c1
    have f1 := hp2.free 1
    obtain ⟨W3, hW3⟩ : ∃ W3, W2.setCell ⟨w.heap.size + 1, 1, none⟩ (.int .i64 ((T : Int) + (x : Int))) = W3 := ⟨_, rfl⟩
    have hp3 : Hb W3 (w.heap.size + 1) A N N (T + x) G := by rw [← hW3]; exact hp2.set1 (T + x)
    have c2 := hp3.c2
    have f2 := hp3.free 2
    have H3 := Lib.hid hp3
    have C3 : Hid (Chg (fun x => x = w.heap.size + 1) W2 W3) := Lib.hid (by rw [← hW3]; exact Chg.set (Chg.refl (fun x => x = w.heap.size + 1) W2) ⟨w.heap.size + 1, 1, none⟩ rfl _)
    clear hp3 hp2 hg2
    gi_wp2
    · refine ⟨C3.out.set ⟨w.heap.size + 1, 2, none⟩ rfl _, ?_⟩
      show Hb _ _ _ _ _ _ _
      rw [HT.out, HG.out, Nat.max_eq_right (by omega)]
      exact H3.out.set2 x
    · refine ⟨C3.out.set ⟨w.heap.size + 1, 2, none⟩ rfl _, ?_⟩
      show Hb _ _ _ _ _ _ _
      rw [HT.out, HG.out, Nat.max_eq_left (by omega)]
      exact H3.out.set2 G
  case done =>
    intro W2 hK hg2 hs2 hp2
    simp only [totj_all, grej_all] at hp2
    have c0 := hp2.c0
    have c1 := hp2.c1
    have c2 := hp2.c2
    have q2 := b2.same (hg2.block _ (by omega) (Nat.ne_of_lt (by omega)))
    have d0 := q2.c0
    have f0 := q2.free 0
    obtain ⟨Wa, hWa⟩ : ∃ Wa, W2.setCell ⟨w.heap.size, 0, none⟩ (.slice A N N) = Wa := ⟨_, rfl⟩
    have qa : Hb Wa w.heap.size A N N 0 0 := by rw [← hWa]; exact q2.set0 A N N
    have d1 := qa.c1
    have f1 := qa.free 1
    obtain ⟨Wb, hWb⟩ : ∃ Wb, Wa.setCell ⟨w.heap.size, 1, none⟩ (.int .i64 (tot k : Int)) = Wb := ⟨_, rfl⟩
    have qb : Hb Wb w.heap.size A N N (tot k) 0 := by rw [← hWb]; exact qa.set1 (tot k)
    have d2 := qb.c2
    have f2 := qb.free 2
    obtain ⟨Wc, hWc⟩ : ∃ Wc, Wb.setCell ⟨w.heap.size, 2, none⟩ (.int .i64 (gre k : Int)) = Wc := ⟨_, rfl⟩
    have qc : Hb Wc w.heap.size A N N (tot k) (gre k) := by rw [← hWc]; exact qb.set2 (gre k)
    have BW : Below w.heap.size w Wc := by
      have e2 : Below w.heap.size w W2 := g1.trans (hg2.new (by omega) (fun k (e : k = _) => by omega))
      rw [← hWc, ← hWb, ← hWa]
      exact ((e2.setCell (p := ⟨w.heap.size, 0, none⟩) (Nat.le_refl _) _).setCell (p := ⟨w.heap.size, 1, none⟩) (Nat.le_refl _) _).setCell (p := ⟨w.heap.size, 2, none⟩) (Nat.le_refl _) _
    have hKc : Wc.heap[W1.heap.size]? = some (.deferred (some [])) := by
      rw [← hWc, Below.heap_setCell _ _ _ _ (by show W1.heap.size ≠ w.heap.size; omega), ← hWb, Below.heap_setCell _ _ _ _ (by show W1.heap.size ≠ w.heap.size; omega), ← hWa, Below.heap_setCell _ _ _ _ (by show W1.heap.size ≠ w.heap.size; omega)]
      exact hK
    have QC := Lib.hid qc
    have HB := Lib.hid BW
    have HK := Lib.hid hKc
    clear qc BW hKc qa qb hp2 hg2 hK q2
    gi_wp2
    refine ⟨by simp, .inl ⟨_, _, rfl, run_takeDeferred HK.out, ?_⟩⟩
    have qd : Hb (Wc.putObj W1.heap.size (.deferred none)) w.heap.size A N N (tot k) (gre k) := QC.out.same (World.putObj_heap_other (by omega))
    have BD : Below w.heap.size w (Wc.putObj W1.heap.size (.deferred none)) := ⟨HB.out.os, HB.out.tape, HB.out.output, by rw [World.putObj_size]; exact HB.out.size, fun i hi => by rw [World.putObj_heap_other (by omega)]; exact HB.out.block i hi⟩
    generalize Wc.putObj W1.heap.size (.deferred none) = Wd at qd BD ⊢
    exact ⟨_, results_cell rfl rfl (load_hst qd), rfl, BD⟩
  case stop => exact fun _ _ _ _ _ h => h.elim

end Go.Proofs.Ytdlhfcapfbbjjaa
