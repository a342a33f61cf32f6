/-
  What list.increasing does: it returns the used symbols with their counts, sorted by count and stably, in new memory. Condition: the counts are valid.
-/
import Derived.Deep.AppendLies
import Derived.OwnWalkIn
import Derived.Test.YtdlhfcapfbbjjaaIns
import Derived.Test.YtdlhfcapfbbjjaaSta
namespace Go.Proofs.Ytdlhfcapfbbjjaa
open Go.RowKit Go.Shelf

attribute [local go_sem] Oper.semAt_some

theorem und_ents : Try.prog.underlying 69 = some (.slice 76) := by kernel_rfl
theorem ent_info : (Try.prog.info? 76).map (fun i => (i.zero, i.size, i.bytes)) = some (some (.agg #[.int .i64 0, .int .i64 0]), 2, 16) := by kernel_rfl
theorem make_ents (n : Nat) (hn : n ≤ 1000000) (W : World) : ∃ w1, (Instr.makeSlice 69 (.int .i64 0) (.int .i64 (n : Int))).run Try.prog W = .ok (.slice (some ⟨W.heap.size, 0, none⟩) 0 n) w1 ∧ w1.ownsRow W.heap.size 76 2 (.slice (some ⟨W.heap.size, 0, none⟩) 0 n) 0 [] ∧ Below W.heap.size W w1 := by
  obtain ⟨i0, hi, hz0, hz1, hz2⟩ := info_parts ent_info
  obtain ⟨w1, h1, h2, h3⟩ := run_make_own (P := Try.prog) W W.heap.size 69 76 i0 (.agg #[.int .i64 0, .int .i64 0]) 2 und_ents hi hz0 hz1 .i64 .i64 n (by rw [hz2]; omega) (by unfold maxLen; omega) (Nat.le_refl _)
  exact ⟨w1, h1, h2, (Below.refl _ _).grown h3 (Nat.le_refl _) (fun k e => by cases e)⟩

theorem cell_two_new (W : World) (a b : Value) (t : TypeId) : ∀ j u, [a, b][j]? = some u → (W.alloc (.cells #[a, b] t)).cell? ((⟨W.heap.size, 0, none⟩ : Addr).add j) = some u := by
  intro j u h
  match j, h with
  | 0, h => simp at h; subst h; simp [Addr.add]
  | 1, h => simp at h; subst h; simp [Addr.add]
  | j + 2, h => simp at h
theorem flat2_take {es : List (Nat × Nat)} {j : Nat} {p : Nat × Nat} (h : es[j]? = some p) : flat2 (es.take (j + 1)) = flat2 (es.take j) ++ [nv p.1, nv p.2] := by
  rw [List.take_add_one, h]
  simp [flat2]
theorem below_put_inc {B : Nat} {w W : World} (h : Below B w W) (l : Nat) (hl : B ≤ l) (o : Obj) : Below B w (W.putObj l o) :=
  ⟨h.os, h.tape, h.output, by rw [World.putObj_size]; exact h.size, fun i hi => by rw [World.putObj_heap_other (by omega)]; exact h.block i hi⟩
theorem chg_grown {w w' : World} {g : Nat} (h : w.grownBy w' (some g)) : Chg (fun x => x = g) w w' := ⟨h.os, h.tape, h.output, h.size, fun k hk hn => h.block k hk (fun e => hn (by simpa using e))⟩
theorem boxed_grown {w w' : World} {g B : Nat} {t : TypeId} {v : Value} (hb : Boxed w B t v) (h : w.grownBy w' (some g)) (hne : B ≠ g) : Boxed w' B t v := boxed_chg hb (chg_grown h) hne

set_option maxRecDepth 100000 in
set_option maxHeartbeats 4000000 in
theorem increasing_in (n : Nat) (hn : 6 ≤ n) (A : Option Addr) (k : List Nat) (N c : Nat) (hk : k.length = N) (hv : Vld k) (w : World) (hR : Rn w A k) :
    CallsIn Fence.wide n Try.prog 52 #[.slice A N c] w fun e w' => (∃ g r c', e = .returned (.slice (some ⟨g, 0, none⟩) r c') ∧ r ≤ 256 ∧ ∃ S, Stb (usd 0 k) S ∧ Ents w' w.heap.size g r c' S) ∧ Below w.heap.size w w' := by
  refine callsIn_of_wp_marks Try.func52 rfl trivial ?_ rfl
  simp only [Try.ntmps52, List.size_toArray, List.length_cons, List.length_nil, Nat.reduceAdd, Nat.reduceSub, Array.replicate_succ, Array.replicate_zero, List.push_toArray, List.append_toArray, List.nil_append, List.cons_append]
  have hfw : ∀ f, Fence.wide.fn f := fun _ => trivial
  have h1 : 1 ≤ n := by omega
  have hN : N ≤ 256 := by have := hv.1; omega
  obtain ⟨w1, hmk, ho1, hb1⟩ := make_ents N (by omega) w
  gi_wp2_with (gi_at_call 55; refine (used_in (n - 1) _ _ _ _).mono ?_; rintro e w' ⟨rfl, rfl⟩)
  have e0 : Boxed ((w1.alloc (.cells #[.slice (some ⟨w.heap.size, 0, none⟩) 0 N] 69)).alloc (.cells #[.slice A N c] 60)) w1.heap.size 69 (.slice (some ⟨w.heap.size, 0, none⟩) 0 N) := (Boxed.new w1 _ _).alloc _
  have e1 : Boxed ((w1.alloc (.cells #[.slice (some ⟨w.heap.size, 0, none⟩) 0 N] 69)).alloc (.cells #[.slice A N c] 60)) (w1.heap.size + 1) 60 (.slice A N c) := by
    have := Boxed.new (w1.alloc (.cells #[.slice (some ⟨w.heap.size, 0, none⟩) 0 N] 69)) 60 (.slice A N c)
    rwa [World.size_alloc] at this
  have bb : Below w1.heap.size w1 ((w1.alloc (.cells #[.slice (some ⟨w.heap.size, 0, none⟩) 0 N] 69)).alloc (.cells #[.slice A N c] 60)) := ((Below.refl _ w1).alloc (Nat.le_refl _) _).alloc (by simp) _
  have hgl : w.heap.size < w1.heap.size := by
    rcases ho1.2 with ⟨h2, _⟩ | ⟨g', c', cur, h2, _, h3, _⟩
    · cases h2
    · injection h2 with h2
      injection h2 with h2
      injection h2 with h2
      have := (Array.getElem?_eq_some_iff.1 h3).1
      omega
  have o1 : ((w1.alloc (.cells #[.slice (some ⟨w.heap.size, 0, none⟩) 0 N] 69)).alloc (.cells #[.slice A N c] 60)).ownsRow w.heap.size 76 2 (.slice (some ⟨w.heap.size, 0, none⟩) 0 N) 0 (flat2 ((usd 0 k).take 0)) := by
    have := ents_below (es := []) ho1 bb
    exact this
  have g1 := below_on hb1 (Nat.le_refl _) bb
  have z1 : ((w1.alloc (.cells #[.slice (some ⟨w.heap.size, 0, none⟩) 0 N] 69)).alloc (.cells #[.slice A N c] 60)).heap.size = w1.heap.size + 2 := by simp
  generalize (w1.alloc (.cells #[.slice (some ⟨w.heap.size, 0, none⟩) 0 N] 69)).alloc (.cells #[.slice A N c] 60) = W1 at e0 e1 bb o1 g1 z1 ⊢
  have lt1 := e1.lt
  have hul : (usd 0 k).length ≤ N := by have := usd_len 0 k; omega
  have IE := Lib.hid (info_parts ent_info)
  refine range_s rfl h1 (gf := 61) (lb := #[.pointer (some ⟨w1.heap.size + 1, 0, none⟩)]) rfl trivial (enters_of Try.func61 (by kernel_rfl) rfl)
    (N := (usd 0 k).length) (enc := symAt k) (Kp := KpU A k N c (w1.heap.size + 1)) (fun _ => rfl) (used1_hands (n - 1) (by omega) A k N c _ hk hN hv)
    (fun x => x = w1.heap.size ∨ x = w.heap.size) (by show ¬ (W1.heap.size = w1.heap.size ∨ W1.heap.size = w.heap.size); omega) (by show ¬ (W1.heap.size + 1 = w1.heap.size ∨ W1.heap.size + 1 = w.heap.size); omega)
    (fun j W => Boxed W w1.heap.size 69 (.slice (some ⟨w.heap.size, 0, none⟩) j N) ∧ W.ownsRow w.heap.size 76 2 (.slice (some ⟨w.heap.size, 0, none⟩) j N) j (flat2 ((usd 0 k).take j))) (fun _ _ => False)
    (fun j W W' hal hp => ⟨(hal _ (by omega) (by omega)).trans hp.1, by
      refine ⟨hp.2.1, ?_⟩
      rcases hp.2.2 with h2 | ⟨g', c', cur, h2, h3, h4, h5⟩
      · exact .inl h2
      · have h6 : g' = w.heap.size := by injection h2 with h2; injection h2 with h2; injection h2 with h2; exact h2.symm
        exact .inr ⟨g', c', cur, h2, h3, (hal g' (by omega) (by omega)).trans h4, h5⟩⟩) (fun _ _ _ _ h => h)
    (fun j W hc _ => ⟨boxed_chg e1 hc (by show ¬ (w1.heap.size + 1 = w1.heap.size ∨ w1.heap.size + 1 = w.heap.size); omega), hR.below (g1.trans (hc.new (by omega) (fun k (e : k = _ ∨ k = _) => by omega)))⟩) ⟨e0, o1⟩
    (fun j => { tmps := #[Value.slice A N c, undef, Value.slice none 0 0, Value.pointer (some { block := w1.heap.size, off := 0 }), nv (sym k j), nv (cnt k j), Value.slice A N c, Value.int IntKind.i64 ↑N, Value.slice (some { block := w.heap.size, off := 0 }) 0 N, Value.slice A N c,
          Value.func (Fn.func 61) #[] #[Value.pointer (some { block := w1.heap.size + 1, off := 0 })], nv (sym k j), nv (cnt k j), undef, undef, undef, undef, undef, undef, undef, undef, undef], defers := [] }) ?assign ?body ?done ?stop
  case assign =>
    intro l' j W2 K _ hK
    simp only [symAt]
    gi_wp2
    exact hK
  case body =>
    rintro l' j W2 hj hg2 hs2 ⟨hp2, ho2⟩
    have hd : 1 ≤ n - 1 - 1 := by omega
    have c1 := hp2.cell
    have f1 := hp2.frozen
    obtain ⟨i0, hi, _, hz1, _⟩ := IE.out
    have hus : (usd 0 k)[j]? = some (sym k j, cnt k j) := (usd_at hj).1
    have hw2 : w.heap.size < W2.heap.size := by omega
    have hw3 : w1.heap.size < W2.heap.size := by omega
    have o3 : (W2.alloc (.cells #[nv (sym k j), nv (cnt k j)] 76)).ownsRow w.heap.size 76 2 (.slice (some ⟨w.heap.size, 0, none⟩) j N) j (flat2 ((usd 0 k).take j)) := ho2.alloc _
    have HP := Lib.hid hp2
    have HO := Lib.hid o3
    have HE := Lib.hid (flat2_take hus)
    clear hp2 ho2 o3 hg2 hs2 hus
    gi_wp2_with (gi_at_builtin; refine wpListIn_append_fits _ rfl _ _ 69 rfl w.heap.size 76 i0 2 und_ents hi hz1 w.heap.size j N (flat2 ((usd 0 k).take j)) rfl HO.out ⟨W2.heap.size, 0, none⟩ 1 1 [nv (sym k j), nv (cnt k j)] rfl rfl (cell_two_new _ _ _ _) (fun x hx => by simp at hx; rcases hx with rfl | rfl <;> rfl) (by omega) ?_; intro w3 hown3 hg3; have hch := chg_grown hg3; have hbx := boxed_grown (HP.out.alloc _) hg3 (by omega); have c3 := hbx.cell; have f3 := hbx.frozen; have HX := Lib.hid hbx; have H3 := Lib.hid hown3; have G3 := Lib.hid hg3; clear hbx hown3 hg3 hch)
    refine ⟨?_, ?_, ?_⟩
    · exact (((Chg.refl _ W2).alloc _).trans ⟨G3.out.os, G3.out.tape, G3.out.output, G3.out.size, fun k hk hn => G3.out.block k hk (fun e => hn (Or.inr (by simpa using e)))⟩).set ⟨w1.heap.size, 0, none⟩ (by exact Or.inl rfl) _
    · exact HX.out.set _
    · rw [HE.out]
      exact ownsRow_setCell_other H3.out (by show some w.heap.size ≠ some w1.heap.size; intro e; injection e; omega) _
  case done =>
    rintro W2 hK hg2 hs2 ⟨hp2, ho2⟩
    have hE2 : Ents W2 w.heap.size w.heap.size (usd 0 k).length N (usd 0 k) := by
      rw [List.take_length] at ho2
      exact ho2
    have c1 := hp2.cell
    have hw2 : w1.heap.size < W2.heap.size := by omega
    have HP := Lib.hid hp2
    have HK := Lib.hid hK
    have HB : Hid (Below w.heap.size w W2) := Lib.hid (g1.trans (hg2.new (by omega) (fun k (e : k = _ ∨ k = _) => by omega)))
    have ST := Lib.hid (sort_any W2 _ _ _ _ _ hE2 (by omega))
    have hKl : W1.heap.size < W2.heap.size := (Array.getElem?_eq_some_iff.1 hK).1
    have HQ : Hid (w1.heap.size ≠ w.heap.size ∧ W1.heap.size ≠ w.heap.size ∧ W1.heap.size < W2.heap.size ∧ w.heap.size ≤ W1.heap.size ∧ w.heap.size ≤ W2.heap.size ∧ (usd 0 k).length ≤ 256) := Lib.hid ⟨by omega, by omega, by omega, by omega, by omega, by omega⟩
    simp only [incf] at ST
    clear hK hg2 hp2 ho2 hE2 z1
    gi_wp2_with (gi_at_call 58; (with_reducible refine (callsIn_wide.2 ST.out).mono ?_); rintro e w5 ⟨rfl, hE5, hc5⟩; have hp5 := boxed_chg HP.out hc5 HQ.out.1; have c5 := hp5.cell; have E5 := Lib.hid hE5; have G5 := Lib.hid hc5; clear hE5 hc5 hp5)
    refine ⟨by simp, .inl ⟨_, _, rfl, run_takeDeferred ((G5.out.block _ HQ.out.2.2.1 HQ.out.2.1).trans HK.out), ?_⟩⟩
    refine ⟨_, results_tmp rfl _ _ _, ⟨_, _, _, rfl, HQ.out.2.2.2.2.2, ?_⟩, ?_⟩
    · obtain ⟨S, h1, h2⟩ := E5.out
      refine ⟨S, h1, ?_⟩
      exact ownsRow_putObj h2 _ ((G5.out.block _ HQ.out.2.2.1 HQ.out.2.1).trans HK.out) rfl
    · exact below_put_inc (HB.out.trans (G5.out.new HQ.out.2.2.2.2.1 (fun k (e : k = _) => by omega))) _ HQ.out.2.2.2.1 _
  case stop => exact fun _ _ _ _ _ h => h.elim

end Go.Proofs.Ytdlhfcapfbbjjaa
