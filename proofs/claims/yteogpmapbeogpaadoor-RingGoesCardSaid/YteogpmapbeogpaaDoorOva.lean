/-
  What the laws' helper over does: it returns true where the bytes are the ring's contents, whatever the number of rounds. Only new memory. Condition: the bytes are the ring's contents.
-/
import Derived.RangeFuncCalls
import Derived.Test.YteogpmapbeogpaaDoorAll
namespace Go.Proofs.YteogpmapbeogpaaDoor
open Go.RowKit Go.Shelf

attribute [local go_sem] Oper.semAt_some

set_option maxRecDepth 100000 in
set_option maxHeartbeats 4000000 in
theorem over_any {w0 w : World} {x lim t : Nat} {v : Value} {l : List UInt8} (h : At w0 w x v lim l t) (B : Option Addr) (n cb : Nat) (hn : l.length = n) (hnb : n ≤ 1000000) (hR : Rd w B l) (many : Int) :
    Calls Tryd.prog 21 #[.pointer (some ⟨x, 0, none⟩), .slice B n cb, .int .i64 many] w fun e w' => e = .returned (.bool true) ∧ Below w.heap.size w w' := by
  refine (callsIn_wide (n := 8)).1 ?_
  refine callsIn_of_wp_marks Tryd.func21 rfl trivial ?_ rfl
  simp only [Tryd.ntmps21, List.size_toArray, List.length_cons, List.length_nil, Nat.reduceAdd, Nat.reduceSub, Array.replicate_succ, Array.replicate_zero, List.push_toArray, List.append_toArray, List.nil_append, List.cons_append]
  refine wpIn_wide.2 ?_
  obtain ⟨w1, hw1⟩ : ∃ w1, ((w.alloc (.cells #[.slice B n cb] 22)).alloc (.cells #[.int .i64 many] 3)).alloc (.cells #[.bool false] 4) = w1 := ⟨_, rfl⟩
  have g1 : Below w.heap.size w w1 := by rw [← hw1]; exact (((Below.refl _ w).alloc (Nat.le_refl _) _).alloc (by simp) _).alloc (by simp; omega) _
  have s1 : w1.heap.size = w.heap.size + 3 := by rw [← hw1]; simp
  have b1 : Bx w1 w.heap.size 22 (.slice B n cb) := by rw [← hw1]; exact ((Bx.new w _ _).same (Below.heap_alloc _ _ _ (by simp))).same (Below.heap_alloc _ _ _ (by simp; omega))
  have b2 : Bx w1 (w.heap.size + 1) 3 (.int .i64 many) := by
    rw [← hw1]
    have := (Bx.new (w.alloc (.cells #[.slice B n cb] 22)) 3 (.int .i64 many)).same (Below.heap_alloc _ (.cells #[.bool false] 4) _ (by simp))
    rwa [World.size_alloc] at this
  have b3 : Bx w1 (w.heap.size + 1 + 1) 4 (.bool false) := by
    rw [← hw1]
    have := Bx.new ((w.alloc (.cells #[.slice B n cb] 22)).alloc (.cells #[.int .i64 many] 3)) 4 (.bool false)
    rwa [World.size_alloc, World.size_alloc] at this
  have AL := Lib.hid (all_any (h.below g1) n hn)
  have HR := Lib.hid (hR.below g1)
  have HN := Lib.hid hn
  clear h hR hn
  go_wp2_with fail
  refine AL.out.mono ?_
  rintro e w2 ⟨q, A, c, rfl, bq, rq, g2, hq, _⟩
  clear hw1 AL
  have s2 := g2.size
  have fq := fun W => fn_nil W #[.pointer (some ⟨q, 0, none⟩)]
  go_wp2_with fail
  clear fq
  have lb := lit_bel w2 (.cells #[.int .i64 0] 3)
  have g3 : Below w.heap.size w (w2.alloc (.cells #[.int .i64 0] 3)) := below_on (below_on g1 (Nat.le_refl _) g2) (Nat.le_refl _) lb
  have n3 : Bx (w2.alloc (.cells #[.int .i64 0] 3)) w2.heap.size 3 (.int .i64 ((0 : Nat) : Int)) := Bx.new w2 _ _
  have q3 := bq.below lb
  have r3 := rq.below lb
  have c1 := (b1.below g2).below lb
  have c2 := (b2.below g2).below lb
  have c3 := (b3.below g2).below lb
  have R3 : Hid (Rd (w2.alloc (.cells #[.int .i64 0] 3)) B l) := Lib.hid ((HR.out.below g2).below lb)
  have s3 : (w2.alloc (.cells #[.int .i64 0] 3)).heap.size = w2.heap.size + 1 := by simp
  have ql := bq.lt
  generalize w2.alloc (.cells #[.int .i64 0] 3) = W1 at g3 n3 q3 r3 c1 c2 c3 R3 s3 ⊢
  have OA : Hid (Out A l (fun k => k = w2.heap.size)) := Lib.hid (fun hm ad e (hk : ad.block = w2.heap.size) => by have := rd_lt rq hm ad e; omega)
  have OB : Hid (Out B l (fun k => k = w2.heap.size)) := Lib.hid (fun hm ad e (hk : ad.block = w2.heap.size) => by have := rd_lt HR.out hm ad e; omega)
  clear b1 b2 b3 bq rq g1 lb HR
  refine (wpIn_wide (n := 8)).1 ?_
  refine range_s rfl (by decide) (gf := 37) (lb := #[.pointer (some ⟨q, 0, none⟩)]) rfl trivial (enters_of Tryd.func37 (by kernel_rfl) rfl)
    (N := n) (enc := dstAt l n) (Kp := KpA A l n c q) (fun _ => rfl) (all1_hands (8 - 1) (by decide) A l n c q HN.out hnb)
    (fun k => k = w2.heap.size) (by show ¬ W1.heap.size = w2.heap.size; omega) (by show ¬ W1.heap.size + 1 = w2.heap.size; omega) (fun j W => Bx W w2.heap.size 3 (.int .i64 (j : Int)) ∧ (j = 0 ∨ (j : Int) < many)) (fun cd W => cd = .exit 0 ∧ ∃ j, j < n ∧ Bx W w2.heap.size 3 (.int .i64 ((j : Int) + 1)) ∧ many ≤ (j : Int) + 1 ∧ (j = 0 ∨ (j : Int) < many))
    (fun j W W' hal hp => ⟨hp.1.same (hal _ (by omega) (by omega)), hp.2⟩) (fun cd W W' hal hp => ⟨hp.1, hp.2.elim fun j h5 => ⟨j, h5.1, h5.2.1.same (hal _ (by omega) (by omega)), h5.2.2⟩⟩)
    (fun j W hc _ => ⟨q3.same (hc.block _ (by omega) (by show ¬ q = w2.heap.size; omega)), rd_chg r3 hc OA.out⟩) ⟨n3, .inl rfl⟩
    (fun j => { tmps := #[Value.pointer (some ⟨x, 0, none⟩), Value.slice B n cb, Value.int .i64 many, undef, Value.pointer (some ⟨w.heap.size, 0, none⟩), Value.pointer (some ⟨w.heap.size + 1, 0, none⟩), Value.pointer (some ⟨w.heap.size + 1 + 1, 0, none⟩), Value.func (Fn.func 37) #[] #[Value.pointer (some ⟨q, 0, none⟩)], Value.pointer (some ⟨w2.heap.size, 0, none⟩), .int .i64 ((n - j : Nat) : Int), byt (l.getD j 0), Value.pointer (some ⟨x, 0, none⟩), Value.func (Fn.func 37) #[] #[Value.pointer (some ⟨q, 0, none⟩)], Value.func (Fn.func 37) #[] #[Value.pointer (some ⟨q, 0, none⟩)], Value.bool false, Value.func (Fn.func 37) #[] #[Value.pointer (some ⟨q, 0, none⟩)], .int .i64 ((n - j : Nat) : Int), byt (l.getD j 0), undef, undef, undef, undef, undef, undef, undef, undef, undef, undef, undef, undef, undef, undef, undef, undef, undef, undef, undef, undef, undef, undef, undef, undef, undef, undef, undef, undef, undef, undef, undef, undef], defers := [] }) ?assign ?body ?done ?stop
  case assign =>
    intro l' j W2 K _ hK
    simp only [dstAt]
    gi_wp2
    exact hK
  case body =>
    rintro l' j W2 hj hg2 hs2 ⟨hp2, hm2⟩
    obtain ⟨b, hb⟩ : ∃ b, l[j]? = some b := ⟨_, List.getElem?_eq_getElem (by rw [HN.out]; exact hj)⟩
    have hgd : l.getD j 0 = b := by simp [List.getD, hb]
    obtain ⟨ad, hB, hcb⟩ := (rd_chg R3.out hg2 OB.out) j (byt b) (by rw [List.getElem?_map, hb]; rfl)
    subst hB
    have k1 := (c1.same (hg2.block _ (by omega) (by show ¬ w.heap.size = w2.heap.size; omega))).cell
    have k2 := (c2.same (hg2.block _ (by omega) (by show ¬ w.heap.size + 1 = w2.heap.size; omega))).cell
    have k3 := hp2.cell
    have f3 := hp2.free
    obtain ⟨d, hd⟩ : ∃ d, n - j = d := ⟨_, rfl⟩
    have hde : (n : Int) - (j : Int) = (d : Int) := by omega
    have g1 : decide ((n : Int) ≤ (j : Int)) = false := decide_eq_false (by omega)
    simp only [hgd, hd, byt] at hcb ⊢
    obtain ⟨W3, hW3⟩ : ∃ W3, W2.setCell ⟨w2.heap.size, 0, none⟩ (.int .i64 ((j : Int) + 1)) = W3 := ⟨_, rfl⟩
    have b3 : Bx W3 w2.heap.size 3 (.int .i64 ((j : Int) + 1)) := by rw [← hW3]; exact hp2.set _
    have k4 := b3.cell
    have k6 : W3.cell? ⟨w.heap.size + 1, 0, none⟩ = some (.int .i64 many) := by
      rw [← hW3, World.cell?_of_block (Below.heap_setCell W2 ⟨w2.heap.size, 0, none⟩ _ _ (by show w.heap.size + 1 ≠ w2.heap.size; omega))]
      exact k2
    have C3 : Hid (Chg (fun k => k = w2.heap.size) W2 W3) := Lib.hid (by rw [← hW3]; exact Chg.set (Chg.refl (fun k => k = w2.heap.size) W2) ⟨w2.heap.size, 0, none⟩ rfl _)
    have H3 := Lib.hid b3
    have HM := Lib.hid hm2
    clear hb hgd hd hp2 hg2 b3 hm2
    by_cases hmm : many ≤ (j : Int) + 1
    · have g2 : decide (many ≤ (j : Int) + 1) = true := decide_eq_true hmm
      gi_wp2
      exact ⟨C3.out, rfl, j, hj, H3.out, hmm, HM.out⟩
    · have g2 : decide (many ≤ (j : Int) + 1) = false := decide_eq_false hmm
      gi_wp2
      exact ⟨C3.out, H3.out⟩
  case done =>
    rintro W2 hK hg2 hs2 ⟨hp2, hm2⟩
    have k0 := hp2.cell
    have hmin : min (n : Int) (max 1 many) = (n : Int) := by omega
    clear hp2
    have k1 := (c1.same (hg2.block _ (by omega) (by show ¬ w.heap.size = w2.heap.size; omega))).cell
    have k2 := (c2.same (hg2.block _ (by omega) (by show ¬ w.heap.size + 1 = w2.heap.size; omega))).cell
    have p5 := c3.same (hg2.block _ (by omega) (by show ¬ w.heap.size + 1 + 1 = w2.heap.size; omega))
    have k5 := p5.cell
    have f5 := p5.free
    have P5 := Lib.hid p5
    have HB := Lib.hid (g3.trans (hg2.new g3.size (fun k (e : k = w2.heap.size) => by omega)))
    have HK : Hid (W2.heap[w2.heap.size + 1]? = some (.deferred (some []))) := Lib.hid (by rw [← s3]; exact hK)
    clear hK hg2 g3 n3 q3 r3 c1 c2 c3 p5
    go_wp2
    all_goals
      try simp only [show ((j : Int) + 1 == (n : Int)) = true from beq_iff_eq.2 (by omega)]
      try simp only [show ((j : Int) + 1 == (1 : Int)) = true from beq_iff_eq.2 (by omega)]
      try simp only [show ((1 : Int) == (n : Int)) = true from beq_iff_eq.2 (by omega)]
      have hKc : (W2.setCell ⟨w.heap.size + 1 + 1, 0, none⟩ (.bool true)).heap[w2.heap.size + 1]? = some (.deferred (some [])) := by
        rw [Below.heap_setCell _ _ _ _ (by show w2.heap.size + 1 ≠ w.heap.size + 1 + 1; omega)]
        exact HK.out
      have P6 := P5.out.set (.bool true)
      have BW : Below w.heap.size w (W2.setCell ⟨w.heap.size + 1 + 1, 0, none⟩ (.bool true)) := Below.setCell HB.out (p := ⟨w.heap.size + 1 + 1, 0, none⟩) (show w.heap.size ≤ w.heap.size + 1 + 1 by omega) _
      refine ⟨by simp, .inl ⟨_, _, rfl, run_takeDeferred hKc, ?_⟩⟩
      have qd : Bx ((W2.setCell ⟨w.heap.size + 1 + 1, 0, none⟩ (.bool true)).putObj (w2.heap.size + 1) (.deferred none)) (w.heap.size + 1 + 1) 4 (.bool true) := P6.same (World.putObj_heap_other (by omega))
      have BD := below_put BW (w2.heap.size + 1) (by omega) (.deferred none)
      generalize (W2.setCell ⟨w.heap.size + 1 + 1, 0, none⟩ (.bool true)).putObj (w2.heap.size + 1) (.deferred none) = Wd at qd BD ⊢
      have ld : (loadVar 4 ⟨w.heap.size + 1 + 1, 0, none⟩).run Tryd.prog Wd = .ok (.bool true) Wd := by
        have cd := qd.cell
        simp [loadVar, go_sem, cd]
      exact ⟨_, results_cell rfl rfl ld, rfl, BD⟩
  case stop =>
    rintro cd W2 hK hg2 hs2 ⟨rfl, j, hj, hp2, hm1, hm2⟩
    have k0 := hp2.cell
    clear hp2
    by_cases hmj : many = (j : Int) + 1
    · subst hmj
      have hmx : max 1 ((j : Int) + 1) = (j : Int) + 1 := by omega
      have hmn : min (n : Int) ((j : Int) + 1) = (j : Int) + 1 := by omega
      clear hm1 hm2
      have k1 := (c1.same (hg2.block _ (by omega) (by show ¬ w.heap.size = w2.heap.size; omega))).cell
      have k2 := (c2.same (hg2.block _ (by omega) (by show ¬ w.heap.size + 1 = w2.heap.size; omega))).cell
      have p5 := c3.same (hg2.block _ (by omega) (by show ¬ w.heap.size + 1 + 1 = w2.heap.size; omega))
      have k5 := p5.cell
      have f5 := p5.free
      have P5 := Lib.hid p5
      have HB := Lib.hid (g3.trans (hg2.new g3.size (fun k (e : k = w2.heap.size) => by omega)))
      have HK : Hid (W2.heap[w2.heap.size + 1]? = some (.deferred (some []))) := Lib.hid (by rw [← s3]; exact hK)
      clear hK hg2 g3 n3 q3 r3 c1 c2 c3 p5
      refine wpIn_wide.2 ?_
      go_wp2
      all_goals
        try simp only [show ((j : Int) + 1 == (n : Int)) = true from beq_iff_eq.2 (by omega)]
        try simp only [show ((j : Int) + 1 == (1 : Int)) = true from beq_iff_eq.2 (by omega)]
        try simp only [show ((1 : Int) == (n : Int)) = true from beq_iff_eq.2 (by omega)]
        have hKc : (W2.setCell ⟨w.heap.size + 1 + 1, 0, none⟩ (.bool true)).heap[w2.heap.size + 1]? = some (.deferred (some [])) := by
          rw [Below.heap_setCell _ _ _ _ (by show w2.heap.size + 1 ≠ w.heap.size + 1 + 1; omega)]
          exact HK.out
        have P6 := P5.out.set (.bool true)
        have BW : Below w.heap.size w (W2.setCell ⟨w.heap.size + 1 + 1, 0, none⟩ (.bool true)) := Below.setCell HB.out (p := ⟨w.heap.size + 1 + 1, 0, none⟩) (show w.heap.size ≤ w.heap.size + 1 + 1 by omega) _
        refine ⟨by simp, .inl ⟨_, _, rfl, run_takeDeferred hKc, ?_⟩⟩
        have qd : Bx ((W2.setCell ⟨w.heap.size + 1 + 1, 0, none⟩ (.bool true)).putObj (w2.heap.size + 1) (.deferred none)) (w.heap.size + 1 + 1) 4 (.bool true) := P6.same (World.putObj_heap_other (by omega))
        have BD := below_put BW (w2.heap.size + 1) (by omega) (.deferred none)
        generalize (W2.setCell ⟨w.heap.size + 1 + 1, 0, none⟩ (.bool true)).putObj (w2.heap.size + 1) (.deferred none) = Wd at qd BD ⊢
        have ld : (loadVar 4 ⟨w.heap.size + 1 + 1, 0, none⟩).run Tryd.prog Wd = .ok (.bool true) Wd := by
          have cd := qd.cell
          simp [loadVar, go_sem, cd]
        exact ⟨_, results_cell rfl rfl ld, rfl, BD⟩
    · obtain rfl : j = 0 := by omega
      have hmx : max 1 many = 1 := by omega
      have hmn : min (n : Int) 1 = 1 := by omega
      clear hm1 hm2 hmj
      have k1 := (c1.same (hg2.block _ (by omega) (by show ¬ w.heap.size = w2.heap.size; omega))).cell
      have k2 := (c2.same (hg2.block _ (by omega) (by show ¬ w.heap.size + 1 = w2.heap.size; omega))).cell
      have p5 := c3.same (hg2.block _ (by omega) (by show ¬ w.heap.size + 1 + 1 = w2.heap.size; omega))
      have k5 := p5.cell
      have f5 := p5.free
      have P5 := Lib.hid p5
      have HB := Lib.hid (g3.trans (hg2.new g3.size (fun k (e : k = w2.heap.size) => by omega)))
      have HK : Hid (W2.heap[w2.heap.size + 1]? = some (.deferred (some []))) := Lib.hid (by rw [← s3]; exact hK)
      clear hK hg2 g3 n3 q3 r3 c1 c2 c3 p5
      refine wpIn_wide.2 ?_
      go_wp2
      all_goals
        try simp only [show ((j : Int) + 1 == (n : Int)) = true from beq_iff_eq.2 (by omega)]
        try simp only [show ((j : Int) + 1 == (1 : Int)) = true from beq_iff_eq.2 (by omega)]
        try simp only [show ((1 : Int) == (n : Int)) = true from beq_iff_eq.2 (by omega)]
        have hKc : (W2.setCell ⟨w.heap.size + 1 + 1, 0, none⟩ (.bool true)).heap[w2.heap.size + 1]? = some (.deferred (some [])) := by
          rw [Below.heap_setCell _ _ _ _ (by show w2.heap.size + 1 ≠ w.heap.size + 1 + 1; omega)]
          exact HK.out
        have P6 := P5.out.set (.bool true)
        have BW : Below w.heap.size w (W2.setCell ⟨w.heap.size + 1 + 1, 0, none⟩ (.bool true)) := Below.setCell HB.out (p := ⟨w.heap.size + 1 + 1, 0, none⟩) (show w.heap.size ≤ w.heap.size + 1 + 1 by omega) _
        refine ⟨by simp, .inl ⟨_, _, rfl, run_takeDeferred hKc, ?_⟩⟩
        have qd : Bx ((W2.setCell ⟨w.heap.size + 1 + 1, 0, none⟩ (.bool true)).putObj (w2.heap.size + 1) (.deferred none)) (w.heap.size + 1 + 1) 4 (.bool true) := P6.same (World.putObj_heap_other (by omega))
        have BD := below_put BW (w2.heap.size + 1) (by omega) (.deferred none)
        generalize (W2.setCell ⟨w.heap.size + 1 + 1, 0, none⟩ (.bool true)).putObj (w2.heap.size + 1) (.deferred none) = Wd at qd BD ⊢
        have ld : (loadVar 4 ⟨w.heap.size + 1 + 1, 0, none⟩).run Tryd.prog Wd = .ok (.bool true) Wd := by
          have cd := qd.cell
          simp [loadVar, go_sem, cd]
        exact ⟨_, results_cell rfl rfl ld, rfl, BD⟩

end Go.Proofs.YteogpmapbeogpaaDoor
