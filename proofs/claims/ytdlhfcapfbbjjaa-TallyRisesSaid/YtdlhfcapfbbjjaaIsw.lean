/-
  What slices.insertionSortCmpFunc does at entries with the order of list.increasing: a stretch of the row becomes its stable sort by count. Only the row's block and new memory change. Condition: the stretch lies in the row.
-/
import Derived.Test.YtdlhfcapfbbjjaaIst
namespace Go.Proofs.Ytdlhfcapfbbjjaa
open Go.RowKit

theorem ents_below {w w' : World} {B g N c : Nat} {es : List (Nat × Nat)} (h : Ents w B g N c es) (hb : Below w.heap.size w w') : Ents w' B g N c es := by
  refine ⟨h.1, ?_⟩
  rcases h.2 with h1 | ⟨g', c', cur, e1, h2, hh, h3⟩
  · exact .inl h1
  · exact .inr ⟨g', c', cur, e1, h2, (hb.block _ (Array.getElem?_eq_some_iff.1 hh).1).trans hh, h3⟩
abbrev incf : Value := .func (Fn.func 59) #[] #[]

/-- The inner loop's state: the entry x on its way down. -/
structure Dn (t : List (Nat × Nat)) (x : Nat × Nat) (pre r2 S1 S2 : List (Nat × Nat)) (cur : List (Nat × Nat)) (a j : Nat) : Prop where
  stb : Stb t (S1 ++ S2)
  up : ∀ p ∈ S2, x.2 < p.2
  eq : cur = pre ++ S1 ++ [x] ++ S2 ++ r2
  len : S1.length + a = j
  pl : pre.length = a
theorem Dn.at {t : List (Nat × Nat)} {x : Nat × Nat} {pre r2 S1 S2 cur : List (Nat × Nat)} {a j : Nat} (h : Dn t x pre r2 S1 S2 cur a j) : cur[j]? = some x := by
  rw [h.eq, show pre ++ S1 ++ [x] ++ S2 ++ r2 = (pre ++ S1) ++ ([x] ++ S2 ++ r2) by simp [List.append_assoc], List.getElem?_append_right (by have := h.len; have := h.pl; simp; omega)]
  have : j - (pre ++ S1).length = 0 := by have := h.len; have := h.pl; simp; omega
  rw [this]
  simp
theorem Dn.split {t : List (Nat × Nat)} {x : Nat × Nat} {pre r2 S1 S2 cur : List (Nat × Nat)} {a j : Nat} (h : Dn t x pre r2 S1 S2 cur a j) (hj : a < j) : ∃ S0 y, S1 = S0 ++ [y] ∧ cur[j - 1]? = some y := by
  have hl := h.len
  have hp := h.pl
  obtain ⟨S0, y, rfl⟩ : ∃ S0 y, S1 = S0 ++ [y] := ⟨S1.dropLast, S1.getLast (by intro e; rw [e] at hl; simp at hl; omega), (List.dropLast_concat_getLast _).symm⟩
  refine ⟨S0, y, rfl, ?_⟩
  rw [h.eq, show pre ++ (S0 ++ [y]) ++ [x] ++ S2 ++ r2 = (pre ++ S0) ++ ([y] ++ [x] ++ S2 ++ r2) by simp [List.append_assoc], List.getElem?_append_right (by simp at hl ⊢; omega)]
  have : j - 1 - (pre ++ S0).length = 0 := by simp at hl ⊢; omega
  rw [this]
  simp
theorem Dn.swap {t : List (Nat × Nat)} {x y : Nat × Nat} {pre r2 S0 S2 cur : List (Nat × Nat)} {a j : Nat} (h : Dn t x pre r2 (S0 ++ [y]) S2 cur a j) (hxy : x.2 < y.2) : Dn t x pre r2 S0 (y :: S2) (swp j (j - 1) cur) a (j - 1) := by
  have hl := h.len
  have hp := h.pl
  simp at hl
  refine ⟨by have := h.stb; rw [List.append_assoc] at this; exact this, fun p hm => ?_, ?_, by omega, hp⟩
  · rcases List.mem_cons.1 hm with rfl | hm
    · exact hxy
    · exact h.up p hm
  · rw [swp_comm (by omega), h.eq]
    have e := swp_at (pre ++ S0) [] (S2 ++ r2) y x
    have e1 : (pre ++ S0).length = j - 1 := by simp; omega
    rw [e1] at e
    rw [show j - 1 + 1 + ([] : List (Nat × Nat)).length = j by simp; omega] at e
    have e2 : pre ++ (S0 ++ [y]) ++ [x] ++ S2 ++ r2 = pre ++ S0 ++ [y] ++ [] ++ [x] ++ (S2 ++ r2) := by simp [List.append_assoc]
    rw [e2, e]
    simp [List.append_assoc]
theorem Dn.done {t : List (Nat × Nat)} {x : Nat × Nat} {pre r2 S1 S2 cur : List (Nat × Nat)} {a j : Nat} (h : Dn t x pre r2 S1 S2 cur a j) (hl : S1 = [] ∨ ∃ S0 y, S1 = S0 ++ [y] ∧ ¬ x.2 < y.2) : Stb (t ++ [x]) (S1 ++ [x] ++ S2) := by
  refine h.stb.insert (fun p hp => ?_) h.up
  rcases hl with rfl | ⟨S0, y, rfl, hy⟩
  · cases hp
  · rcases List.mem_append.1 hp with hp | hp
    · have hs := h.stb.1
      unfold Srt2 at hs
      rw [List.pairwise_append] at hs
      have h1 := (List.pairwise_append.1 hs.1).2.2 p hp y (by simp)
      omega
    · rw [List.mem_singleton] at hp; subst hp; omega

set_option maxRecDepth 100000 in
set_option maxHeartbeats 8000000 in
theorem isort_any (w : World) (B g N c : Nat) (pre seg rest : List (Nat × Nat)) (ho : Ents w B g N c (pre ++ seg ++ rest)) (hN : (pre ++ seg ++ rest).length = N) (hNb : N ≤ 100000) (a b : Nat) (ha : pre.length = a) (hb : a + seg.length = b) (h0 : 0 < seg.length) :
    Calls Try.prog 64 #[.slice (some ⟨g, 0, none⟩) N c, .int .i64 (a : Int), .int .i64 (b : Int), incf] w fun e w' => e = .returned (.tuple #[]) ∧ (∃ S, Stb seg S ∧ Ents w' B g N c (pre ++ S ++ rest)) ∧ Chg (fun x => x = g) w w' := by
  have hbN : b ≤ N := by simp at hN; omega
  have HO := Lib.hid ho
  have HN := Lib.hid hN
  have HA := Lib.hid ha
  have HB := Lib.hid hb
  obtain ⟨s0, sr, hseg⟩ : ∃ s0 sr, seg = s0 :: sr := by
    cases seg with
    | nil => simp at h0
    | cons s0 sr => exact ⟨s0, sr, rfl⟩
  have I0 : Hid (∃ S, Stb (seg.take 1) S ∧ Ents w B g N c (pre ++ S ++ seg.drop 1 ++ rest)) := Lib.hid ⟨[s0], by subst hseg; exact ⟨by simp [Srt2], fun v => rfl⟩, by subst hseg; simpa [List.append_assoc] using ho⟩
  have hab : a + 1 ≤ b := by omega
  clear ho hN ha hb hseg
  simp only [incf]
  go_enter Try.func64, Try.ntmps64
  go_wp2
  go_loopw [8] (fun p wr => ∃ i : Nat, a + 1 ≤ i ∧ i ≤ b ∧ p = .int .i64 (i : Int) ∧ Hid (∃ S, Stb (seg.take (i - a)) S ∧ Ents wr B g N c (pre ++ S ++ seg.drop (i - a) ++ rest)) ∧ Hid (Chg (fun x => x = g) w wr)) (fun p _ => b - (intOf p).toNat)
  case atStart => exact ⟨a + 1, by omega, hab, by simp, by rw [show a + 1 - a = 1 by omega]; exact I0, Lib.hid (Chg.refl _ _)⟩
  case round =>
    obtain ⟨i, hai, hib, rfl, HI, HC⟩ := hrel
    clear I0 HO
    by_cases hlt : i < b
    · obtain ⟨S, hst, hen⟩ := HI.out
      have hbl := HB.out
      obtain ⟨x, hx⟩ : ∃ x, seg[i - a]? = some x := ⟨_, List.getElem?_eq_getElem (by omega)⟩
      have hcl : (pre ++ S ++ seg.drop (i - a) ++ rest).length = N := by
        have h1 := hen.1
        rw [flat2_len] at h1
        omega
      have hSl : S.length = i - a := by
        have h1 := hcl
        have h2 := HN.out
        have h3 := HA.out
        simp only [List.length_append, List.length_drop] at h1 h2
        omega
      have D0 : Hid (∃ S1 S2 cur, Dn (seg.take (i - a)) x pre (seg.drop (i + 1 - a) ++ rest) S1 S2 cur a i ∧ cur.length = N ∧ Ents wr B g N c cur) := Lib.hid (by
        refine ⟨S, [], _, ⟨by simpa using hst, by simp, ?_, by omega, HA.out⟩, hcl, hen⟩
        have hd : seg.drop (i - a) = x :: seg.drop (i + 1 - a) := by
          have hlt2 : i - a < seg.length := by omega
          rw [List.drop_eq_getElem_cons hlt2, show i + 1 - a = i - a + 1 by omega]
          rw [List.getElem?_eq_getElem hlt2] at hx
          rw [Option.some.inj hx]
        rw [hd]
        simp [List.append_assoc])
      have HT : Hid (seg.take (i + 1 - a) = seg.take (i - a) ++ [x]) := Lib.hid (by rw [show i + 1 - a = i - a + 1 by omega, List.take_add_one, hx]; rfl)
      clear hst hen hx hSl HI hcl
      go_wp2
      go_loopw [9] (fun p wi => ∃ j : Nat, a ≤ j ∧ j ≤ i ∧ p = .int .i64 (j : Int) ∧ Hid (∃ S1 S2 cur, Dn (seg.take (i - a)) x pre (seg.drop (i + 1 - a) ++ rest) S1 S2 cur a j ∧ cur.length = N ∧ Ents wi B g N c cur) ∧ Hid (Chg (fun x => x = g) w wi)) (fun p _ => (intOf p).toNat)
      case atStart => exact ⟨i, by omega, Nat.le_refl _, rfl, D0, HC⟩
      case round =>
        obtain ⟨j, haj, hji, rfl, HD, HG⟩ := hrel
        obtain ⟨S1, S2, cur, hdn, hcl, hen⟩ := HD.out
        have HOUT : Hid ((S1 = [] ∨ ∃ S0 y, S1 = S0 ++ [y] ∧ ¬ x.2 < y.2) → ∃ S, Stb (seg.take (i + 1 - a)) S ∧ Ents wr B g N c (pre ++ S ++ seg.drop (i + 1 - a) ++ rest)) := Lib.hid (fun h => ⟨S1 ++ [x] ++ S2, by rw [HT.out]; exact hdn.done h, by have h1 := hen; rw [hdn.eq] at h1; simpa [List.append_assoc] using h1⟩)
        by_cases hja : a < j
        · obtain ⟨S0, y, rfl, hy⟩ := hdn.split hja
          have hx := hdn.at
          obtain ⟨k, rfl⟩ : ∃ k, j = k + 1 := ⟨j - 1, by omega⟩
          rw [Nat.add_sub_cancel] at hy
          have HSW : Hid (x.2 < y.2 → Dn (seg.take (i - a)) x pre (seg.drop (i + 1 - a) ++ rest) S0 (y :: S2) (swp (k + 1) k cur) a k) := Lib.hid (fun h => hdn.swap h)
          obtain ⟨x1, x2⟩ := x
          obtain ⟨y1, y2⟩ := y
          have hkN : k + 1 < N := by omega
          obtain ⟨u0, u1⟩ := flat2_get hx
          obtain ⟨v0, v1⟩ := flat2_get hy
          have c0 : wr.cell? ⟨g, (k + 1) * 2, none⟩ = some (.int .i64 (x1 : Int)) := by rw [World.ownsRow.cellAt hen _ (by omega)]; exact u0
          have c1 : wr.cell? ⟨g, (k + 1) * 2 + 1, none⟩ = some (.int .i64 (x2 : Int)) := by rw [World.ownsRow.cellAt hen _ (by omega)]; exact u1
          have d0 : wr.cell? ⟨g, k * 2, none⟩ = some (.int .i64 (y1 : Int)) := by rw [World.ownsRow.cellAt hen _ (by omega)]; exact v0
          have d1 : wr.cell? ⟨g, k * 2 + 1, none⟩ = some (.int .i64 (y2 : Int)) := by rw [World.ownsRow.cellAt hen _ (by omega)]; exact v1
          have e1 : ((k + 1 : Nat) : Int) - 1 = (k : Int) := by omega
          have wk : IntKind.i64.wrap (k : Int) = (k : Int) := IntWalk.i64_in _ (by omega)
          have wk1 : IntKind.i64.wrap ((k + 1 : Nat) : Int) = ((k + 1 : Nat) : Int) := IntWalk.i64_in _ (by omega)
          obtain ⟨J, hJ⟩ : ∃ J, k + 1 = J := ⟨_, rfl⟩
          rw [hJ] at c0 c1 e1 wk1 hkN HSW hx
          have HEN := Lib.hid hen
          have HCL := Lib.hid hcl
          have HXY := Lib.hid (And.intro hx hy)
          simp only [hJ]
          have dj : decide ((a : Int) < (J : Int)) = true := decide_eq_true (by omega)
          have haJ : a < J := by omega
          have hk2 : k < N := by omega
          have HK : Hid (a ≤ k ∧ k ≤ i ∧ k < J) := Lib.hid (by omega)
          clear hen hcl hdn u0 u1 v0 v1 hx hy HD hJ haj hja hji
          by_cases hxy : x2 < y2
          · have CM : Hid (∀ W, W.heap = wr.heap → Calls Try.prog 59 #[.agg #[.int .i64 (x1 : Int), .int .i64 (x2 : Int)], .agg #[.int .i64 (y1 : Int), .int .i64 (y2 : Int)]] W fun e w' => e = .returned (.int .i64 (-1)) ∧ Below W.heap.size W w') := Lib.hid (fun W _ => by
              refine (incr1_any W (x1, x2) (y1, y2)).mono ?_
              rintro e w' ⟨rfl, rfl⟩
              exact ⟨by unfold cmpi; rw [if_pos (by omega)], ((Below.refl _ W).alloc (Nat.le_refl _) _).alloc (by simp) _⟩)
            have HDN := Lib.hid (HSW.out hxy)
            clear HSW HOUT
            go_wp2
            go_region_held3 (fun W => W.cell? ⟨g, J * 2, none⟩ = some (.int .i64 (x1 : Int)) ∧ W.cell? ⟨g, J * 2 + 1, none⟩ = some (.int .i64 (x2 : Int)) ∧ W.cell? ⟨g, k * 2, none⟩ = some (.int .i64 (y1 : Int)) ∧ W.cell? ⟨g, k * 2 + 1, none⟩ = some (.int .i64 (y2 : Int))) (first | exact ⟨c0, c1, d0, d1⟩ | exact ⟨m0, m1, m2, m3⟩) (first
              | (go_at_call 59; refine (CM.out wr.drew rfl).mono ?_; rintro e w5 ⟨rfl, hq⟩; have hb5 : Below wr.heap.size wr w5 := ⟨hq.os, hq.tape, hq.output, hq.size, hq.block⟩; have m0 := (hb5.cell (cell_lt c0)).trans c0; have m1 := (hb5.cell (cell_lt c1)).trans c1; have m2 := (hb5.cell (cell_lt d0)).trans d0; have m3 := (hb5.cell (cell_lt d1)).trans d1; have E5 := Lib.hid (ents_below HEN.out hb5); have G5 := Lib.hid (HG.out.below hb5); clear hq hb5))
            obtain ⟨W1, W2, W3, z1, z2, z3, hW1, hW2, hW3, ⟨p0, p1, p2, p3⟩, ⟨k1, k2, k3⟩, ⟨f0, f1, f2, f3⟩, hen6, hch6⟩ := swap_w E5.out HCL.out hkN hk2 HXY.out.1 HXY.out.2
            have E6 := Lib.hid hen6
            have G6 := Lib.hid (hch6 w G5.out)
            have HL6 : Hid ((swp J k cur).length = N) := Lib.hid (by rw [swp_len]; exact HCL.out)
            clear hen6 hch6 E5 G5 HEN HXY c0 c1 d0 d1 m0 m1 m2 m3
            go_wp2
            go_region
            all_goals
              go_wp2
              exact ⟨⟨k, HK.out.1, HK.out.2.1, rfl, Lib.hid ⟨_, _, _, HDN.out, HL6.out, E6.out⟩, Lib.hid (G6.out.drew 1)⟩, by have := HK.out; simp [intOf]; omega⟩
          · have HF := Lib.hid (HOUT.out (.inr ⟨S0, (y1, y2), rfl, hxy⟩))
            obtain ⟨q, hq0, hq1⟩ : ∃ q : Int, cmpi x2 y2 = q ∧ 0 ≤ q := ⟨_, rfl, by unfold cmpi; rw [if_neg (by omega)]; split <;> omega⟩
            have CM : Hid (∀ W, W.heap = wr.heap → Calls Try.prog 59 #[.agg #[.int .i64 (x1 : Int), .int .i64 (x2 : Int)], .agg #[.int .i64 (y1 : Int), .int .i64 (y2 : Int)]] W fun e w' => e = .returned (.int .i64 q) ∧ Below W.heap.size W w') := Lib.hid (fun W _ => by
              refine (incr1_any W (x1, x2) (y1, y2)).mono ?_
              rintro e w' ⟨rfl, rfl⟩
              exact ⟨by show Ending.returned (Value.int .i64 (cmpi x2 y2)) = _; rw [hq0], ((Below.refl _ W).alloc (Nat.le_refl _) _).alloc (by simp) _⟩)
            have dq : decide (q < 0) = false := decide_eq_false (by omega)
            clear HSW HOUT hq0
            go_wp2
            go_region_held3 (fun W => W.cell? ⟨g, J * 2, none⟩ = some (.int .i64 (x1 : Int)) ∧ W.cell? ⟨g, J * 2 + 1, none⟩ = some (.int .i64 (x2 : Int)) ∧ W.cell? ⟨g, k * 2, none⟩ = some (.int .i64 (y1 : Int)) ∧ W.cell? ⟨g, k * 2 + 1, none⟩ = some (.int .i64 (y2 : Int))) (first | exact ⟨c0, c1, d0, d1⟩ | exact ⟨m0, m1, m2, m3⟩) (first
              | (go_at_call 59; refine (CM.out wr.drew rfl).mono ?_; rintro e w5 ⟨rfl, hq⟩; have hb5 : Below wr.heap.size wr w5 := ⟨hq.os, hq.tape, hq.output, hq.size, hq.block⟩; have m0 := (hb5.cell (cell_lt c0)).trans c0; have m1 := (hb5.cell (cell_lt c1)).trans c1; have m2 := (hb5.cell (cell_lt d0)).trans d0; have m3 := (hb5.cell (cell_lt d1)).trans d1; have B5 := Lib.hid hb5; have G5 := Lib.hid (HG.out.below hb5); clear hq hb5))
            all_goals
              go_wp2
              exact ⟨⟨i + 1, by omega, by omega, by simp, Lib.hid (by obtain ⟨S, h1, h2⟩ := HF.out; exact ⟨S, h1, ents_below h2 B5.out⟩), G5⟩, by simp [intOf]; omega⟩
        · have hja2 : j = a := by omega
          have HF := Lib.hid (HOUT.out (.inl (by have h1 := hdn.len; exact List.eq_nil_of_length_eq_zero (by omega))))
          have dj : decide ((a : Int) < (a : Int)) = false := decide_eq_false (by omega)
          subst hja2
          clear hdn hcl hen HD HOUT
          go_wp2
          go_quiet (fail)
          go_wp2
          exact ⟨⟨i + 1, by omega, by omega, by simp, HF, Lib.hid (HG.out.drew _)⟩, by simp [intOf]; omega⟩
    · have hib2 : i = b := by omega
      subst hib2
      have HF : Hid (∃ S, Stb seg S ∧ Ents wr B g N c (pre ++ S ++ rest)) := Lib.hid (by
        obtain ⟨S, h1, h2⟩ := HI.out
        have h3 := HB.out
        rw [List.take_of_length_le (by omega)] at h1
        rw [List.drop_eq_nil_of_le (by omega), List.append_nil] at h2
        exact ⟨S, h1, h2⟩)
      clear HI
      go_wp2
      go_end0
      exact ⟨rfl, HF.out, HC.out⟩

end Go.Proofs.Ytdlhfcapfbbjjaa
