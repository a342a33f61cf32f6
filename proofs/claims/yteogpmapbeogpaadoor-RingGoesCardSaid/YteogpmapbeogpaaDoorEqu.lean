/-
  What bytes.Equal, same and Equal do: whether two rings have the same size and the same contents. No condition.
-/
import Derived.Deep.RegionHeld3
import Derived.Test.YteogpmapbeogpaaDoorBes
namespace Go.Proofs.YteogpmapbeogpaaDoor
open Go.RowKit Go.Shelf

attribute [local go_sem] Oper.semAt_some

theorem below_put {B : Nat} {w W : World} (h : Below B w W) (l : Nat) (hl : B ≤ l) (o : Obj) : Below B w (W.putObj l o) :=
  ⟨h.os, h.tape, h.output, by rw [World.putObj_size]; exact h.size, fun k hk => by rw [World.putObj_heap_other (by omega)]; exact h.block k hk⟩

set_option maxHeartbeats 1000000 in
theorem bequal_any (w : World) (A B : Option Addr) (l m : List UInt8) (n c c' : Nat) (hl : l.length = n) (hm : m.length = n) (hA : Rd w A l) (hB : Rd w B m) (b : Bool) (hb : (l == m) = b) :
    Calls Tryd.prog 49 #[.slice A n c, .slice B n c'] w fun e w' => e = .returned (.bool b) ∧ w' = w := by
  have q1 := conv_len w A l n c hl hA
  have q2 := conv_len w B m n c' hm hB
  clear hA hB hl hm
  go_enter Tryd.func49, Tryd.ntmps49
  go_wp2
  go_ret
  exact ⟨rfl, rfl⟩

set_option maxRecDepth 100000 in
set_option maxHeartbeats 2000000 in
theorem same_ne (k : Nat) {w : World} {x y lim lim' t t' n n' c c' o o' : Nat} {A A' : Option Addr} (ha : Rb w x lim (.slice A n c) o t) (hb : Rb w y lim' (.slice A' n' c') o' t') (hne : n ≠ n') :
    CallsIn Fence.wide k Tryd.prog 39 #[.pointer (some ⟨x, 0, none⟩), .pointer (some ⟨y, 0, none⟩)] w fun e w' => e = .returned (.bool false) ∧ Below w.heap.size w w' := by
  refine callsIn_of_wp Tryd.func39 rfl trivial ?_ rfl
  simp only [Tryd.ntmps39, List.size_toArray, List.length_cons, List.length_nil, Nat.reduceAdd, Nat.reduceSub, Array.replicate_succ, Array.replicate_zero, List.push_toArray, List.append_toArray, List.nil_append, List.cons_append]
  have hfw : ∀ f, Fence.wide.fn f := fun _ => trivial
  have c1 := ha.c1
  have c2 := hb.c1
  have hx : ((n : Int) != (n' : Int)) = true := by simp; omega
  clear ha hb hne
  refine wpIn_wide.2 ?_
  go_wp2
  refine wp_scope_fwd 0 rfl ?_
  go_wp2
  go_quiet (fail)
  go_wp2
  rw [jump_ret]
  go_ret
  exact ⟨rfl, below_drewN' (Below.refl _ _) _⟩

set_option maxRecDepth 100000 in
set_option maxHeartbeats 2000000 in
theorem same_eq (k : Nat) (hk : 6 ≤ k) {w : World} {x y lim lim' t t' n c c' o o' : Nat} {A A' : Option Addr} (ha : Rb w x lim (.slice A n c) o t) (hb : Rb w y lim' (.slice A' n c') o' t') (ho : o ≤ n) (ho' : o' ≤ n) (hc : n ≤ c) (hc' : n ≤ c') (hn : n ≤ 134217728)
    (la lb : List UInt8) (hla : la.length = n) (hlb : lb.length = n) (hA : ∀ d, 0 < d → d ≤ n → Rd w (sB A n o d) ((la.drop (n - d)).take (sM n o d))) (hB : ∀ d, 0 < d → d ≤ n → Rd w (sB A' n o' d) ((lb.drop (n - d)).take (sM n o' d))) :
    CallsIn Fence.wide k Tryd.prog 39 #[.pointer (some ⟨x, 0, none⟩), .pointer (some ⟨y, 0, none⟩)] w fun e w' => e = .returned (.bool (la == lb)) ∧ Below w.heap.size w w' := by
  refine callsIn_of_wp_marks Tryd.func39 rfl trivial ?_ rfl
  simp only [Tryd.ntmps39, List.size_toArray, List.length_cons, List.length_nil, Nat.reduceAdd, Nat.reduceSub, Array.replicate_succ, Array.replicate_zero, List.push_toArray, List.append_toArray, List.nil_append, List.cons_append]
  have hfw : ∀ f, Fence.wide.fn f := fun _ => trivial
  have h1k : 1 ≤ k := by omega
  have c1 := ha.c1
  have c2 := hb.c1
  refine wpIn_wide.2 ?_
  go_wp2
  refine wp_scope_fwd 0 rfl ?_
  go_wp2
  go_quiet (fail)
  clear c1 c2
  obtain ⟨wq, hwq⟩ : ∃ wq, w.drewN nq = wq := ⟨_, rfl⟩
  have bq : Below w.heap.size w wq := by rw [← hwq]; exact below_drewN' (Below.refl _ _) _
  have sq : wq.heap.size = w.heap.size := by rw [← hwq]; rfl
  rw [hwq]
  clear hwq
  go_wp2
  refine wp_label ?_
  go_wp2_with (go_at_call 48; refine (callsIn_wide.1 (beside_in (k - 1) _ _ _)).mono ?_; rintro e w' ⟨rfl, rfl⟩)
  have sz : (((wq.alloc (.cells #[.bool true] 4)).alloc (.cells #[.pointer (some ⟨x, 0, none⟩)] 77)).alloc (.cells #[.pointer (some ⟨y, 0, none⟩)] 77)).heap.size = w.heap.size + 3 := by simp [sq]
  have g1 : Below w.heap.size w (((wq.alloc (.cells #[.bool true] 4)).alloc (.cells #[.pointer (some ⟨x, 0, none⟩)] 77)).alloc (.cells #[.pointer (some ⟨y, 0, none⟩)] 77)) :=
    ((bq.alloc (by omega) _).alloc (by simp; omega) _).alloc (by simp; omega) _
  have b0 : Bx (((wq.alloc (.cells #[.bool true] 4)).alloc (.cells #[.pointer (some ⟨x, 0, none⟩)] 77)).alloc (.cells #[.pointer (some ⟨y, 0, none⟩)] 77)) w.heap.size 4 (.bool true) := by
    have := ((Bx.new wq 4 (.bool true)).same (Below.heap_alloc _ (.cells #[.pointer (some ⟨x, 0, none⟩)] 77) _ (by simp))).same (Below.heap_alloc _ (.cells #[.pointer (some ⟨y, 0, none⟩)] 77) _ (by simp; omega))
    rwa [sq] at this
  have b1 : Bx (((wq.alloc (.cells #[.bool true] 4)).alloc (.cells #[.pointer (some ⟨x, 0, none⟩)] 77)).alloc (.cells #[.pointer (some ⟨y, 0, none⟩)] 77)) (w.heap.size + 1) 77 (.pointer (some ⟨x, 0, none⟩)) := by
    have := (Bx.new (wq.alloc (.cells #[.bool true] 4)) 77 (.pointer (some ⟨x, 0, none⟩))).same (Below.heap_alloc _ (.cells #[.pointer (some ⟨y, 0, none⟩)] 77) _ (by simp))
    rwa [World.size_alloc, sq] at this
  have b2 : Bx (((wq.alloc (.cells #[.bool true] 4)).alloc (.cells #[.pointer (some ⟨x, 0, none⟩)] 77)).alloc (.cells #[.pointer (some ⟨y, 0, none⟩)] 77)) (w.heap.size + 1 + 1) 77 (.pointer (some ⟨y, 0, none⟩)) := by
    have := Bx.new ((wq.alloc (.cells #[.bool true] 4)).alloc (.cells #[.pointer (some ⟨x, 0, none⟩)] 77)) 77 (.pointer (some ⟨y, 0, none⟩))
    rwa [World.size_alloc, World.size_alloc, sq] at this
  generalize ((wq.alloc (.cells #[.bool true] 4)).alloc (.cells #[.pointer (some ⟨x, 0, none⟩)] 77)).alloc (.cells #[.pointer (some ⟨y, 0, none⟩)] 77) = W1 at b0 b1 b2 g1 sz ⊢
  clear bq sq
  obtain ⟨N, hN, hNp⟩ := dst_end (n := n) ho ho'
  have hxl := ha.lt
  have hyl := hb.lt
  have bel : ∀ W, Chg (fun q => q = w.heap.size) W1 W → Below w.heap.size w W := fun W hc => g1.trans (hc.new (by omega) (fun q (e : q = _) => by omega))
  refine (wpIn_wide (n := k)).1 ?_
  refine range_s rfl h1k (gf := 50) (lb := #[.pointer (some ⟨w.heap.size + 1, 0, none⟩), .pointer (some ⟨w.heap.size + 1 + 1, 0, none⟩)]) rfl trivial (enters_of Tryd.func50 (by kernel_rfl) rfl)
    (N := N) (enc := pieceAt A A' n o o') (Kp := KpB x y lim lim' n c c' o o' t t' A A' (w.heap.size + 1) (w.heap.size + 1 + 1)) (fun _ => rfl) (beside1_hands (k - 1) (by omega) x y lim lim' n c c' o o' t t' A A' _ _ hn ho ho' hc hc' N hN hNp)
    (fun q => q = w.heap.size) (Nat.ne_of_gt (by omega)) (Nat.ne_of_gt (by omega)) (fun j W => Bx W w.heap.size 4 (.bool true) ∧ la.take (n - dst n o o' j) = lb.take (n - dst n o o' j)) (fun cd W => cd = .exit 0 ∧ Bx W w.heap.size 4 (.bool false) ∧ la ≠ lb)
    (fun j W W' hal hp => ⟨hp.1.same (hal _ (by omega) (by omega)), hp.2⟩) (fun cd W W' hal hp => ⟨hp.1, hp.2.1.same (hal _ (by omega) (by omega)), hp.2.2⟩)
    (fun j W hc _ => ⟨b1.same (hc.block _ b1.lt (Nat.ne_of_gt (by omega))), b2.same (hc.block _ b2.lt (Nat.ne_of_gt (by omega))), ha.same ((bel W hc).block x hxl), hb.same ((bel W hc).block y hyl)⟩) ⟨b0, by simp [dst]⟩
    (fun j => { tmps := #[Value.pointer (some ⟨x, 0, none⟩), Value.pointer (some ⟨y, 0, none⟩), undef, undef,
          Value.bool false, Value.pointer (some ⟨w.heap.size, 0, none⟩), .slice (sB A n o (dst n o o' j)) (pM n o o' j) (pM n o o' j), .slice (sB A' n o' (dst n o o' j)) (pM n o o' j) (pM n o o' j),
          Value.pointer (some ⟨x, 0, none⟩), Value.pointer (some ⟨x, 0, none⟩),
          Value.pointer (some ⟨x, 1, none⟩), Value.slice A n c, Value.int IntKind.i64 ↑n,
          Value.pointer (some ⟨y, 0, none⟩), Value.pointer (some ⟨y, 0, none⟩),
          Value.pointer (some ⟨y, 1, none⟩), Value.slice A' n c', Value.int IntKind.i64 ↑n,
          Value.bool false, Value.pointer (some ⟨x, 0, none⟩),
          Value.pointer (some ⟨y, 0, none⟩),
          Value.func (Fn.func 50) #[] #[Value.pointer (some ⟨w.heap.size + 1, 0, none⟩), Value.pointer (some ⟨w.heap.size + 1 + 1, 0, none⟩)],
          .slice (sB A n o (dst n o o' j)) (pM n o o' j) (pM n o o' j), .slice (sB A' n o' (dst n o o' j)) (pM n o o' j) (pM n o o' j), undef, undef, undef, undef, undef], defers := [] }) ?assign ?body ?done ?stop
  case assign =>
    intro l' j W2 K _ hK
    simp only [pieceAt]
    gi_wp2
    exact hK
  case body =>
    intro l' j W2 hj hg2 hs2 hp2
    have hd : 1 ≤ k - 1 - 1 := by omega
    have hdj := hNp j hj
    have hdn := dst_le n o o' j
    have m1 := sM_pos ho hdn hdj
    have m2 := sM_pos ho' hdn hdj
    have B2 := bel W2 hg2
    have eN : dst n o o' (j + 1) = dst n o o' j - pM n o o' j := rfl
    obtain ⟨hp2a, hp2b⟩ := hp2
    have pm : pM n o o' j = min (sM n o (dst n o o' j)) (sM n o' (dst n o o' j)) := rfl
    obtain ⟨d, hdd⟩ : ∃ d, dst n o o' j = d := ⟨_, rfl⟩
    obtain ⟨mm, hmm⟩ : ∃ mm, pM n o o' j = mm := ⟨_, rfl⟩
    have R1 := (hA d (by omega) (by omega)).below B2
    have R2 := (hB d (by omega) (by omega)).below B2
    rw [hdd] at m1 m2 hdj hdn eN hp2b pm
    rw [hmm] at eN pm
    have R1' : Rd W2 (sB A n o d) ((la.drop (n - d)).take mm) := by
      have := R1.take mm
      rw [← List.map_take, List.take_take, Nat.min_eq_left (by omega)] at this
      exact this
    have R2' : Rd W2 (sB A' n o' d) ((lb.drop (n - d)).take mm) := by
      have := R2.take mm
      rw [← List.map_take, List.take_take, Nat.min_eq_left (by omega)] at this
      exact this
    obtain ⟨L1, hL1⟩ : ∃ L1, (la.drop (n - d)).take mm = L1 := ⟨_, rfl⟩
    obtain ⟨L2, hL2⟩ : ∃ L2, (lb.drop (n - d)).take mm = L2 := ⟨_, rfl⟩
    rw [hL1] at R1'
    rw [hL2] at R2'
    have hll1 : L1.length = mm := by rw [← hL1, List.length_take, List.length_drop]; omega
    have hll2 : L2.length = mm := by rw [← hL2, List.length_take, List.length_drop]; omega
    have ta : la.take (n - (d - mm)) = la.take (n - d) ++ L1 := by rw [← hL1, ← List.take_add]; congr 1; omega
    have tb : lb.take (n - (d - mm)) = lb.take (n - d) ++ L2 := by rw [← hL2, ← List.take_add]; congr 1; omega
    have NX : Hid (L1 = L2 → la.take (n - dst n o o' (j + 1)) = lb.take (n - dst n o o' (j + 1))) := Lib.hid fun e => by rw [eN, ta, tb, hp2b, e]
    have DX : Hid (L1 ≠ L2 → la ≠ lb) := Lib.hid fun e h => e (by rw [← hL1, ← hL2, h])
    simp only [hdd, hmm]
    have BX := Lib.hid hp2a
    have HL := Lib.hid (And.intro hll1 hll2)
    have HR1 := Lib.hid R1'
    have HR2 := Lib.hid R2'
    have cb := hp2a.cell
    have fb := hp2a.free
    obtain ⟨S1, hS1⟩ : ∃ S1, sB A n o d = S1 := ⟨_, rfl⟩
    obtain ⟨S2, hS2⟩ : ∃ S2, sB A' n o' d = S2 := ⟨_, rfl⟩
    rw [hS1] at HR1
    rw [hS2] at HR2
    simp only [hS1, hS2]
    clear hp2a hp2b hg2 R1 R2 R1' R2' hL1 hL2 hll1 hll2 ta tb B2 eN pm hdd hmm hS1 hS2 hA hB ha hb b0 b1 b2 g1 bel hN hNp m1 m2 hdj hdn hla hlb
    by_cases hLL : L1 = L2
    · have BE := Lib.hid (bequal_any W2 S1 S2 L1 L2 mm mm mm HL.out.1 HL.out.2 HR1.out HR2.out true (by rw [hLL]; simp))
      gi_wp2_with (gi_at_call 49; refine (CallsIn.inRound l' (callsIn_wide.2 BE.out)).mono ?_; rintro e W2 ⟨rfl, rfl⟩)
      exact ⟨Chg.refl _ _, BX.out, NX.out hLL⟩
    · have BE := Lib.hid (bequal_any W2 S1 S2 L1 L2 mm mm mm HL.out.1 HL.out.2 HR1.out HR2.out false (by simpa using hLL))
      gi_wp2_with (gi_at_call 49; refine (CallsIn.inRound l' (callsIn_wide.2 BE.out)).mono ?_; rintro e W2 ⟨rfl, rfl⟩)
      exact ⟨Chg.set (Chg.refl (fun q => q = w.heap.size) W2) ⟨w.heap.size, 0, none⟩ rfl _, rfl, BX.out.set _, DX.out hLL⟩
  case done =>
    intro W2 hK hg2 hs2 hp2
    have HK := Lib.hid hK
    have HB := Lib.hid (bel W2 hg2)
    have cb := hp2.1.cell
    have e : la = lb := by
      have := hp2.2
      rw [hN, Nat.sub_zero, List.take_of_length_le (by omega), List.take_of_length_le (by omega)] at this
      exact this
    have hbe : (la == lb) = true := by rw [e]; simp
    clear hK hg2 hp2 hA hB ha hb b0 b1 b2 g1 bel hN hNp e
    go_wp2
    rw [jump_ret]
    refine ⟨by simp, .inl ⟨_, _, rfl, run_takeDeferred HK.out, ?_⟩⟩
    exact ⟨_, results_tmp rfl _ _ _, by rw [hbe]; rfl, below_put HB.out _ (by omega) _⟩
  case stop =>
    rintro cd W2 hK hg2 hs2 ⟨rfl, hp2, hne⟩
    have HK := Lib.hid hK
    have HB := Lib.hid (bel W2 hg2)
    have cb := hp2.cell
    have hbe : (la == lb) = false := by simpa using hne
    clear hK hg2 hp2 hA hB ha hb b0 b1 b2 g1 bel hN hNp hne
    refine wpIn_wide.2 ?_
    go_wp2
    rw [jump_ret]
    refine ⟨by simp, .inl ⟨_, _, rfl, run_takeDeferred HK.out, ?_⟩⟩
    exact ⟨_, results_tmp rfl _ _ _, by rw [hbe]; rfl, below_put HB.out _ (by omega) _⟩

theorem Rg.pieces {w : World} {x lim t : Nat} {v : Value} {l : List UInt8} (h : Rg w x v lim l t) : ∃ o A c, v = .slice A l.length c ∧ l.length ≤ c ∧ o ≤ l.length ∧ Rb w x lim (.slice A l.length c) o t ∧
    ∀ d, 0 < d → d ≤ l.length → Rd w (sB A l.length o d) ((l.drop (l.length - d)).take (sM l.length o d)) := by
  obtain ⟨p, o, hb, ho, hp, hop, hol, hz, hr⟩ := h.is
  obtain ⟨A, c, rfl, hc⟩ := own_form ho
  have hll : l.length = p.length := by rw [← hr, rot_len hop]
  rw [hll]
  refine ⟨o, A, c, rfl, hc, hop, hb, fun d hd0 hd => ?_⟩
  obtain ⟨e1, e2, e3, e4⟩ := stretch_eq (s := sS p.length o d) (m := sM p.length o d) rfl hop hd hd0 rfl rfl
  rw [← hr, ← e1]
  have := (Rv.of_own ho).cut (sS p.length o d) (sM p.length o d)
  rw [← List.map_drop, ← List.map_take] at this
  exact this

theorem same_any {w : World} {x y lim lim' t t' : Nat} {v u : Value} {la lb : List UInt8} (ha : Rg w x v lim la t) (hb : Rg w y u lim' lb t') :
    Calls Tryd.prog 39 #[.pointer (some ⟨x, 0, none⟩), .pointer (some ⟨y, 0, none⟩)] w fun e w' => e = .returned (.bool (la == lb)) ∧ Below w.heap.size w w' := by
  obtain ⟨o, A, c, rfl, hc, ho, rb, ra⟩ := ha.pieces
  obtain ⟨o', A', c', rfl, hc', ho', rb', ra'⟩ := hb.pieces
  by_cases hne : la.length = lb.length
  · obtain ⟨n, hn⟩ : ∃ n, la.length = n := ⟨_, rfl⟩
    have hn' : lb.length = n := by omega
    rw [hn] at hc ho rb ra
    rw [hn'] at hc' ho' rb' ra'
    exact callsIn_wide.1 (same_eq 6 (Nat.le_refl _) rb rb' ho ho' hc hc' (by have := ha.len; have := ha.most; omega) la lb hn hn' ra ra')
  · have e : (la == lb) = false := by
      have : la ≠ lb := fun h => hne (by rw [h])
      simpa using this
    rw [e]
    exact callsIn_wide.1 (same_ne 6 rb rb' hne)

theorem bel_cell {w w' : World} {q : Nat} {a : Addr} {u : Value} (h : Below (w.drewN q).heap.size (w.drewN q) w') (hc : w.cell? a = some u) : w'.cell? a = some u := (h.cell (show a.block < _ from cell_lt hc)).trans hc

set_option maxRecDepth 100000 in
set_option maxHeartbeats 2000000 in
theorem equal_rings {w : World} {x y lim lim' t t' : Nat} {v u : Value} {la lb : List UInt8} (ha : Rg w x v lim la t) (hb : Rg w y u lim' lb t') (b : Bool) (hbb : (decide (lim = lim') && (la == lb)) = b) :
    Calls Tryd.prog 24 #[.pointer (some ⟨x, 0, none⟩), .pointer (some ⟨y, 0, none⟩)] w fun e w' => e = .returned (.bool b) ∧ Below w.heap.size w w' := by
  have N1 := Lib.hid ha.none_any
  have N2 := Lib.hid hb.none_any
  have SA := Lib.hid fun q => same_any (ha.drewN q) (hb.drewN q)
  obtain ⟨o, A, c, _, _, rb⟩ := ha.blk
  obtain ⟨o', A', c', _, _, rb'⟩ := hb.blk
  have c0 := rb.c0
  have c1 := rb'.c0
  clear ha hb rb rb'
  by_cases hl : lim = lim'
  · subst hl
    have hbb' : (la == lb) = b := by rw [← hbb]; simp
    rw [hbb'] at SA
    have hself : ((lim : Int) == (lim : Int)) = true := by simp
    clear hbb hbb'
    go_enter Tryd.func24, Tryd.ntmps24
    go_wp2_with (first | (go_at_call 36; with_reducible refine N1.out.mono ?_; rintro e w ⟨rfl, rfl⟩) | (go_at_call 36; with_reducible refine N2.out.mono ?_; rintro e w ⟨rfl, rfl⟩))
    go_region_held3 (fun W => W.cell? ⟨x, 0, none⟩ = some (.int .i64 (lim : Int)) ∧ W.cell? ⟨y, 0, none⟩ = some (.int .i64 (lim : Int))) (first | exact ⟨c0, c1⟩ | exact ⟨d0, d1⟩) (first | (go_at_call 39; refine (SA.out _).mono ?_; rintro e w4 ⟨rfl, hb4⟩; have B4 := Lib.hid hb4; have d0 := bel_cell hb4 c0; have d1 := bel_cell hb4 c1; clear hb4))
    all_goals
      go_wp2
      go_ret
      refine ⟨rfl, ?_⟩
      have := B4.out
      exact ⟨this.os, this.tape, this.output, this.size, this.block⟩
  · have hb0 : b = false := by rw [← hbb]; simp [hl]
    subst hb0
    have hne : ((lim : Int) == (lim' : Int)) = false := by simp; omega
    clear hbb SA
    go_enter Tryd.func24, Tryd.ntmps24
    go_wp2_with (first | (go_at_call 36; with_reducible refine N1.out.mono ?_; rintro e w ⟨rfl, rfl⟩) | (go_at_call 36; with_reducible refine N2.out.mono ?_; rintro e w ⟨rfl, rfl⟩))
    go_quiet (fail)
    go_wp2
    go_ret
    exact ⟨rfl, below_drewN' (Below.refl _ _) _⟩

set_option maxRecDepth 100000 in
set_option maxHeartbeats 1000000 in
/-- Equal where the first ring is none. -/
theorem equal_none {w : World} {p q : Option Addr} (hp : Calls Tryd.prog 36 #[.pointer p] w fun e w' => e = .returned (.bool true) ∧ w' = w) (b : Bool) (hq : Calls Tryd.prog 36 #[.pointer q] w fun e w' => e = .returned (.bool b) ∧ w' = w) :
    Calls Tryd.prog 24 #[.pointer p, .pointer q] w fun e w' => e = .returned (.bool b) ∧ w' = w := by
  have N1 := Lib.hid hp
  have N2 := Lib.hid hq
  clear hp hq
  go_enter Tryd.func24, Tryd.ntmps24
  go_wp2_with (first | (go_at_call 36; with_reducible refine N1.out.mono ?_; rintro e w ⟨rfl, rfl⟩) | (go_at_call 36; with_reducible refine N2.out.mono ?_; rintro e w ⟨rfl, rfl⟩))
  go_ret
  exact ⟨rfl, rfl⟩

end Go.Proofs.YteogpmapbeogpaaDoor
