/-
  The states of each symbol, as rows in memory, and what collect of package states does: it makes them. Nothing that was there has changed. Conditions: those that each theorem states.
-/
import Derived.Test.YtonapehlhkoplaaBui
import Derived.Test.YtonapehlhkoplaaPla
namespace Go.Proofs.Ytonapehlhkoplaa
open Go.RowKit Go.Shelf

/-- The rows of the states of each symbol, as far as the list K goes. -/
structure Ows (W : World) (B go N : Nat) (K : List Nat) (V : Nat → Value) : Prop where
  ge : B ≤ go
  row : W.ownsRow B 22 1 (.slice (some ⟨go, 0, none⟩) N N) N ((List.range N).map V)
  list : ∀ x, x < N → W.ownsRow (go + 1) 3 1 (V x) (pls 0 K (x : Int)).length ((pls 0 K (x : Int)).map nv)
  ne : ∀ x x' g, x < N → x' < N → (V x).ownBlock = some g → (V x').ownBlock = some g → x = x'
section
variable {W W' : World} {B go N : Nat} {K : List Nat} {V : Nat → Value}
theorem Ows.lt (h : Ows W B go N K V) : go < W.heap.size := own_lt h.row rfl
theorem Ows.same (h : Ows W B go N K V) (hb : ∀ k, B ≤ k → k < W.heap.size → W'.heap[k]? = W.heap[k]?) : Ows W' B go N K V := by
  refine ⟨h.ge, own_same h.row (fun g hg => ?_), fun x hx => own_same (h.list x hx) (fun g hg => ?_), h.ne⟩
  · injection hg with hg
    subst hg
    exact hb _ h.ge h.lt
  · exact hb _ (by have := own_ge (h.list x hx) hg; have := h.ge; omega) (own_lt (h.list x hx) hg)
theorem Ows.below (h : Ows W B go N K V) (hb : Below W.heap.size W W') : Ows W' B go N K V := h.same fun k _ hk => hb.block k hk
theorem Ows.cell (h : Ows W B go N K V) {x : Nat} (hx : x < N) : W.cell? ⟨go, x, none⟩ = some (V x) := by
  rw [h.row.cellAt x (by omega), List.getElem?_map, List.getElem?_range hx]; rfl
theorem Ows.mk0 {g : Nat} (hB : B ≤ g) (h : W.ownsRow B 22 1 (.slice (some ⟨g, 0, none⟩) N N) N (List.replicate N (.slice none 0 0))) : Ows W B g N [] (fun _ => .slice none 0 0) := by
  refine ⟨hB, ?_, fun x _ => own_nil _ _, fun x x' g _ _ h1 => by cases h1⟩
  have e : (List.range N).map (fun _ => Value.slice none 0 0) = List.replicate N (.slice none 0 0) := by
    refine List.ext_getElem? fun j => ?_
    rcases Nat.lt_or_ge j N with h1 | h1
    · simp [h1]
    · simp [h1]
  rw [e]
  exact h
/-- One state more. -/
theorem Ows.next {w wr w5 : World} {i x : Nat} {v' : Value} (h : Ows wr B go N (K.take i) V) (hx : K[i]? = some x) (hxN : x < N) (hw : Below B w wr) (hB : B = w.heap.size)
    (ho : w5.ownsRow (go + 1) 3 1 v' ((pls 0 (K.take i) (x : Int)).length + 1) ((pls 0 (K.take i) (x : Int)).map nv ++ [.int .i64 (i : Int)]))
    (hg : (wr.alloc (.cells #[.int .i64 (i : Int)] 3)).grownBy w5 (V x).ownBlock)
    (he : v'.ownBlock = (V x).ownBlock ∨ v'.ownBlock = some (wr.alloc (.cells #[.int .i64 (i : Int)] 3)).heap.size) :
    w5.cell? ⟨go, x, none⟩ = some (V x) ∧ w5.frozen? ⟨go, x, none⟩ = false ∧ Ows (w5.setCell ⟨go, x, none⟩ v') B go N (K.take (i + 1)) (fun u => if u = x then v' else V u) ∧ Below B w (w5.setCell ⟨go, x, none⟩ v') := by
  have b4 : Below wr.heap.size wr (wr.alloc (.cells #[.int .i64 (i : Int)] 3)) := (Below.refl _ wr).alloc (Nat.le_refl _) _
  have hs4 : (wr.alloc (.cells #[.int .i64 (i : Int)] 3)).heap.size = wr.heap.size + 1 := World.size_alloc _ _
  obtain ⟨w4, hw4⟩ : ∃ w4, wr.alloc (.cells #[.int .i64 (i : Int)] 3) = w4 := ⟨_, rfl⟩
  rw [hw4] at b4 hg he hs4
  have h4 := h.below b4
  have hVne : ∀ g, (V x).ownBlock = some g → go < g := fun g hgg => own_ge (h4.list x hxN) hgg
  have hgo4 := h4.lt
  have row5 : w5.ownsRow B 22 1 (.slice (some ⟨go, 0, none⟩) N N) N ((List.range N).map V) := own_same h4.row (fun g hgg => by
    injection hgg with hgg
    subst hgg
    exact hg.block _ hgo4 (fun e => absurd (hVne _ e.symm) (Nat.lt_irrefl _)))
  have hc := row5.stored x v'
  have hlt4 : ∀ u, u < N → ∀ g, (V u).ownBlock = some g → g < w4.heap.size := fun u hu g hgg => own_lt (h4.list u hu) hgg
  refine ⟨?_, row5.frozenAt x, ⟨h.ge, ?_, ?_, ?_⟩, ?_⟩
  · rw [row5.cellAt x (by omega), List.getElem?_map, List.getElem?_range hxN]; rfl
  · have e : ((List.range N).map V).set x v' = (List.range N).map (fun u => if u = x then v' else V u) := by
      refine List.ext_getElem? fun j => ?_
      rw [List.getElem?_set]
      by_cases hj : x = j
      · subst hj
        rw [if_pos rfl, if_pos (by simpa using hxN), List.getElem?_map, List.getElem?_range hxN]
        simp
      · rw [if_neg hj, List.getElem?_map, List.getElem?_map]
        rcases Nat.lt_or_ge j N with h1 | h1
        · rw [List.getElem?_range h1]
          simp [show ¬ j = x from fun e => hj e.symm]
        · rw [List.getElem?_eq_none (by simpa using h1)]; rfl
    rw [← e]
    exact hc.1
  · intro u hu
    have hset : ∀ g, g ≠ go → (w5.setCell ⟨go, x, none⟩ v').heap[g]? = w5.heap[g]? := fun g hgg => Below.heap_setCell _ _ _ _ hgg
    by_cases hux : u = x
    · subst hux
      simp only [if_true]
      have e1 : (pls 0 (K.take (i + 1)) (u : Int)) = pls 0 (K.take i) (u : Int) ++ [i] := by rw [pls_step (u : Int) hx, if_pos rfl]
      rw [e1, List.map_append, List.length_append]
      exact own_same ho (fun g hgg => hset g (by have := own_ge ho hgg; omega))
    · simp only [if_neg hux]
      have e1 : (pls 0 (K.take (i + 1)) (u : Int)) = pls 0 (K.take i) (u : Int) := by rw [pls_step (u : Int) hx, if_neg (by omega), List.append_nil]
      rw [e1]
      refine own_same (h4.list u hu) (fun g hgg => ?_)
      rw [hset g (by have := own_ge (h4.list u hu) hgg; omega)]
      exact hg.block _ (hlt4 u hu g hgg) (fun e => hux (h.ne u x g hu hxN hgg e.symm))
  · intro u u' g hu hu' h1 h2
    by_cases hux : u = x
    · by_cases hux' : u' = x
      · rw [hux, hux']
      · simp only [if_pos hux, if_neg hux'] at h1 h2
        rcases he with he | he
        · rw [he] at h1
          rw [hux]
          exact h.ne x u' g hxN hu' h1 h2
        · rw [he] at h1
          injection h1 with h1
          have := hlt4 u' hu' g h2
          omega
    · by_cases hux' : u' = x
      · simp only [if_neg hux, if_pos hux'] at h1 h2
        rcases he with he | he
        · rw [he] at h2
          rw [hux']
          exact h.ne u x g hu hxN h1 h2
        · rw [he] at h2
          injection h2 with h2
          have := hlt4 u hu g h1
          omega
      · simp only [if_neg hux, if_neg hux'] at h1 h2
        exact h.ne u u' g hu hu' h1 h2
  · have hBs : B ≤ wr.heap.size := by rw [hB]; exact hw.size
    have b5 : Below B w w4 := hw.trans (b4.mono hBs)
    have b6 : Below B w w5 := b5.grown hg (by omega) (fun k e => by have := hVne k e; have := h.ge; omega)
    exact b6.setCell (p := ⟨go, x, none⟩) h.ge _
end

theorem und_rows : Try.prog.underlying 62 = some (.slice 22) := by kernel_rfl
theorem rows_info : (Try.prog.info? 22).map (fun i => (i.zero, i.size, i.bytes)) = some (some (.slice none 0 0), 1, 24) := by kernel_rfl
theorem made_rows (n : Nat) : (madeCells (Value.slice none 0 0).cells (n * 1)).toList = List.replicate n (Value.slice none 0 0) := by
  refine List.ext_getElem? fun j => ?_
  simp only [madeCells, Nat.mul_one, Value.cells]
  rcases Nat.lt_or_ge j n with h | h
  · simp [h, Nat.mod_one]
  · simp [h]
theorem make_rows (n : Nat) (hn : n ≤ 1000000) (W : World) : ∃ w1, (Instr.makeSlice 62 (.int .i64 (n : Int)) (.int .i64 (n : Int))).run Try.prog W = .ok (.slice (some ⟨W.heap.size, 0, none⟩) n n) w1 ∧
    w1.ownsRow W.heap.size 22 1 (.slice (some ⟨W.heap.size, 0, none⟩) n n) n (List.replicate n (.slice none 0 0)) ∧ Below W.heap.size W w1 := by
  obtain ⟨i0, hi, hz0, hz1, hz2⟩ := info_parts rows_info
  obtain ⟨w1, h1, h2, h3⟩ := run_makeSlice_full (P := Try.prog) W W.heap.size 62 22 i0 (.slice none 0 0) 1 und_rows hi hz0 hz1 .i64 .i64 n (by omega) (by rw [hz2]; omega) (by unfold maxLen; omega) (Nat.le_refl _)
  rw [made_rows] at h2
  exact ⟨w1, h1, h2, (Below.refl _ _).grown h3 (Nat.le_refl _) (fun k e => by cases e)⟩

set_option maxRecDepth 100000 in
set_option maxHeartbeats 4000000 in
theorem collect_ok (w : World) (y s g N c : Nat) (A : Option Addr) (l : List Int) (hN : l.length = N) (hv : Vt y l) (hse : 2 ^ y = s) (hK : w.ownsRow 0 3 1 (.slice (some ⟨g, 0, none⟩) s s) s ((spl s l).map nv)) :
    Calls Try.prog 31 #[tb y A N c, .slice (some ⟨g, 0, none⟩) s s] w fun e w' => ∃ go V, e = .returned (.slice (some ⟨go, 0, none⟩) N N) ∧ Ows w' w.heap.size go N (spl s l) V ∧ Below w.heap.size w w' := by
  have hN2 : N ≤ 256 := by rw [← hN]; exact hv.len
  have hy9 := hv.log
  have hs5 : s ≤ 512 := by rw [← hse]; exact hv.size
  have b1 : Below w.heap.size w (w.alloc (.cells #[.int .i64 (y : Int), .slice A N c] 24)) := (Below.refl _ w).alloc (Nat.le_refl _) _
  have t1 := Tb.new w (y : Int) A N c
  obtain ⟨w1, hw1⟩ : ∃ w1, w.alloc (.cells #[.int .i64 (y : Int), .slice A N c] 24) = w1 := ⟨_, rfl⟩
  rw [hw1] at b1 t1
  obtain ⟨w2, hmk, ho2, hb2⟩ := make_rows N (by omega) w1
  have t2 := t1.below hb2
  have c1 := t1.c1
  have c0 := t2.c0
  have HL : Hid ((spl s l).length = s) := Lib.hid (spl_len s l)
  have HX : Hid (∀ x, x ∈ spl s l → x < N) := Lib.hid (fun x hx => by rw [← hN]; rw [← hse] at hx; exact spl_lt hv hx)
  have B1 := Lib.hid b1
  have B2 : Hid (Below w.heap.size w w2) := Lib.hid (below_on b1 (Nat.le_refl _) hb2)
  have K2 := Lib.hid (own_below hK (B2.out))
  have O2 : Hid (Ows w2 w.heap.size w1.heap.size N ((spl s l).take 0) (fun _ => .slice none 0 0)) := Lib.hid (Ows.mk0 b1.size (own_base ho2 b1.size))
  have hw : wrap64 (2 ^ y) = (s : Int) := pow_wrap hse hs5
  have kp : decide ((y : Int) < 0) = false := decide_eq_false (by omega)
  have KL := Lib.hid (own_lt hK rfl)
  obtain ⟨K, hKK⟩ : ∃ K, spl s l = K := ⟨_, rfl⟩
  rw [hKK] at HL HX K2 O2 ⊢
  clear b1 t1 t2 ho2 hb2 hK hN hv hse hKK
  obtain ⟨go, hgo⟩ : ∃ go, w1.heap.size = go := ⟨_, rfl⟩
  rw [hgo] at hmk O2
  clear hgo
  go_enter Try.func31, Try.ntmps31
  go_wp2
  clear hmk c0 c1
  go_loopw [15] (fun p wr => ∃ (i : Nat) (V : Nat → Value), i ≤ s ∧ p = .int .i64 (i : Int) ∧ Hid (Ows wr w.heap.size go N (K.take i) V) ∧ Hid (Below w.heap.size w wr)) (fun p _ => s - (intOf p).toNat)
  case atStart => exact ⟨0, _, Nat.zero_le _, rfl, O2, B2⟩
  case round =>
    obtain ⟨i, V, hi, rfl, HO, HB⟩ := hrel
    by_cases hlt : i < s
    · obtain ⟨x, hx⟩ : ∃ x, K[i]? = some x := ⟨_, List.getElem?_eq_getElem (by rw [HL.out]; exact hlt)⟩
      have hxN : x < N := HX.out x (List.mem_of_getElem? hx)
      have hk : w2.cell? ⟨g, i, none⟩ = some (.int .i64 (x : Int)) := by rw [K2.out.cellAt i (by omega), List.getElem?_map, hx]; rfl
      have ck : wr.cell? ⟨g, i, none⟩ = some (.int .i64 (x : Int)) := by
        have h1 := B2.out.block g KL.out
        have h2 := HB.out.block g KL.out
        rw [← hk]
        exact World.cell?_of_block (h2.trans h1.symm)
      obtain ⟨A', c', hV, hc'⟩ := own_form (HO.out.list x hxN)
      obtain ⟨r, hr⟩ : ∃ r, (pls 0 (K.take i) (x : Int)).length = r := ⟨_, rfl⟩
      have hrl : r ≤ 512 := by
        rw [← hr, pls_count]
        have h1 := List.count_le_length (a := x) (l := K.take i)
        rw [List.length_take] at h1
        omega
      rw [hr] at hV
      have cv := HO.out.cell hxN
      rw [hV] at cv
      have hO1 : (wr.alloc (.cells #[.int .i64 (i : Int)] 3)).ownsRow (go + 1) 3 1 (.slice A' r c') r ((pls 0 (K.take i) (x : Int)).map nv) := by
        have := own_below (HO.out.list x hxN) ((Below.refl _ wr).alloc (Nat.le_refl _) (.cells #[.int .i64 (i : Int)] 3))
        rwa [hV, hr] at this
      have H1 := Lib.hid hO1
      have hsz : go + 1 ≤ (wr.alloc (.cells #[.int .i64 (i : Int)] 3)).heap.size := by rw [World.size_alloc]; have := HO.out.lt; omega
      have H2 := Lib.hid hsz
      have H3 := Lib.hid (lit_rv wr [.int .i64 (i : Int)] _ rfl)
      have NX : Hid (∀ (w5 : World) (v' : Value), w5.ownsRow (go + 1) 3 1 v' (r + 1) ((pls 0 (K.take i) (x : Int)).map nv ++ [.int .i64 (i : Int)]) → (wr.alloc (.cells #[.int .i64 (i : Int)] 3)).grownBy w5 (Value.slice A' r c').ownBlock → (v'.ownBlock = (Value.slice A' r c').ownBlock ∨ v'.ownBlock = some (wr.alloc (.cells #[.int .i64 (i : Int)] 3)).heap.size) → w5.cell? ⟨go, x, none⟩ = some (.slice A' r c') ∧ w5.frozen? ⟨go, x, none⟩ = false ∧ Ows (w5.setCell ⟨go, x, none⟩ v') w.heap.size go N (K.take (i + 1)) (fun u => if u = x then v' else V u) ∧ Below w.heap.size w (w5.setCell ⟨go, x, none⟩ v')) := Lib.hid (fun w5 v' h1 h2 h3 => by
        rw [← hV] at h2 h3 ⊢
        rw [← hr] at h1
        exact HO.out.next hx hxN HB.out rfl h1 h2 h3)
      have wi : IntKind.i64.wrap (i : Int) = (i : Int) := IntWalk.i64_in _ (by omega)
      have wx : IntKind.i64.wrap (x : Int) = (x : Int) := IntWalk.i64_in _ (by omega)
      clear hx hk hV hc' hr hO1 hsz HO HB O2
      go_wp2_with (at_builtin; refine wpList_append_vals Try.underlying22 int_info rfl rfl _ _ rfl (go + 1) (.slice A' r c') r ((pls 0 (K.take i) (x : Int)).map nv) rfl H1.out (some ⟨wr.heap.size, 0, none⟩) [.int .i64 (i : Int)] (by simp [Value.oneCell']) 1 1 rfl rfl H3.out (by omega) (by omega) H2.out ?_; intro v5 w5 ho5 hg5 he5; obtain ⟨z1, z2, z3, z4⟩ := NX.out w5 v5 ho5 hg5 he5; obtain ⟨A5, c5, rfl, hc5⟩ := own_form ho5; have Z3 := Lib.hid z3; have Z4 := Lib.hid z4; clear ho5 hg5 he5 z3 z4)
      exact ⟨⟨i + 1, _, by omega, by simp, Z3, Z4⟩, by simp [intOf]; omega⟩
    · have HE : Hid (K.take i = K) := Lib.hid (List.take_of_length_le (by rw [HL.out]; omega))
      go_wp2
      go_ret
      exact ⟨go, V, rfl, by have := HO.out; rwa [HE.out] at this, HB.out⟩

end Go.Proofs.Ytonapehlhkoplaa
