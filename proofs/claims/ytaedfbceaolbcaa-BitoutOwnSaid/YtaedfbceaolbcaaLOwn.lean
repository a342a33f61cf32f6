/-
  Proved: the law BitoutOwn returns true for all sequences of calls before and after: the slices returned by Bytes and Close are new, and writing goes on as if they had not been asked for. No condition.
-/
import Derived.Test.YtaedfbceaolbcaaFrm
namespace Go.Proofs.Ytaedfbceaolbcaa.bitoutOwn
open Go.ChangeShapes Go.WideShapes Go.ChangeAt Go.RowKit

set_option maxHeartbeats 1000000 in
theorem walk_big (A : Option Addr) (N cap : Nat) (B : Option Addr) (M cb : Nat) (w : World) (hN : 60 < N ∨ 60 < M) :
    Calls Try.prog 9 #[.slice A N cap, .slice B M cb] w fun e w' => e = .returned (.bool true) ∧ Below w.heap.size w w' := by
  by_cases h : 60 < N
  · have hd : decide ((60 : Int) < (N : Int)) = true := decide_eq_true (by omega)
    go_enter Try.func9, Try.ntmps9
    go_wp2_with fail
    refine (known_any _).mono ?_
    rintro e w1 ⟨rfl, hb1⟩
    have HB1 := Lib.hid hb1
    clear hb1
    go_wp2
    go_ret
    exact ⟨rfl, HB1.out⟩
  · have hd : decide ((60 : Int) < (N : Int)) = false := decide_eq_false (by omega)
    have hd2 : decide ((60 : Int) < (M : Int)) = true := decide_eq_true (by omega)
    go_enter Try.func9, Try.ntmps9
    go_wp2_with fail
    refine (known_any _).mono ?_
    rintro e w1 ⟨rfl, hb1⟩
    have HB1 := Lib.hid hb1
    clear hb1
    go_wp2
    go_ret
    exact ⟨rfl, HB1.out⟩

/-- The Writer and the two slices that it has returned. -/
structure Two (w0 w : World) (x : Nat) (v : Value) (l : List Bool) (A : Option Addr) (m ca : Nat) (B : Option Addr) (k cb : Nat) : Prop where
  at_ : At w0 w x v l
  a : ∃ xs, w.ownsRow w0.heap.size 5 1 (.slice A m ca) m xs
  b : ∃ xs, w.ownsRow w0.heap.size 5 1 (.slice B k cb) k xs
  fa : Free w A x v
  fb : Free w B x v
  ne : ∀ p q, A = some p → B = some q → p.block ≠ q.block

theorem free_set {w : World} {A : Option Addr} {x : Nat} {v : Value} (h : Free w A x v) (g j : Nat) (u : Value) : Free (w.setCell ⟨g, j, none⟩ u) A x v := fun ad e => by
  have := h ad e
  simpa [World.setCell] using this

theorem at_set {w0 w : World} {x : Nat} {v : Value} {l : List Bool} (h : At w0 w x v l) {g : Nat} (hg : w0.heap.size ≤ g) (hx : g ≠ x) (hv : v.ownBlock ≠ some g) (j : Nat) (u : Value) : At w0 (w.setCell ⟨g, j, none⟩ u) x v l := by
  have hs : ∀ k, k ≠ g → (w.setCell ⟨g, j, none⟩ u).heap[k]? = w.heap[k]? := fun k hk => Below.heap_setCell w ⟨g, j, none⟩ u k hk
  refine ⟨h.wr.same (hs x (fun e => hx e.symm)) (fun g' hg' => hs g' ?_), ?_, h.ge, h.row⟩
  · rintro rfl
    exact hv hg'
  · exact ⟨h.bel.os, h.bel.tape, h.bel.output, by have := h.bel.size; simpa [World.setCell] using this, fun k hk => (hs k (by omega)).trans (h.bel.block k hk)⟩

section
variable {w0 w : World} {x : Nat} {v : Value} {l : List Bool} {A B : Option Addr} {m ca k cb : Nat}
theorem Two.setA {g : Nat} (h : Two w0 w x v l (some ⟨g, 0, none⟩) m ca B k cb) (j : Nat) (u : Value) : Two w0 (w.setCell ⟨g, j, none⟩ u) x v l (some ⟨g, 0, none⟩) m ca B k cb := by
  obtain ⟨xs, hxs⟩ := h.a
  obtain ⟨ys, hys⟩ := h.b
  have hge : w0.heap.size ≤ g := (hxs.lt g rfl).1
  have f := h.fa _ rfl
  refine ⟨at_set h.at_ hge f.2.1 f.2.2 j u, ⟨_, (hxs.stored j u).1⟩, ⟨ys, own_same hys fun g' hg' => Below.heap_setCell w ⟨g, j, none⟩ u g' ?_⟩, free_set h.fa g j u, free_set h.fb g j u, h.ne⟩
  cases B with
  | none => cases hg'
  | some q =>
    injection hg' with hg'
    rw [← hg']
    exact fun e => h.ne _ _ rfl rfl e.symm
theorem Two.symm (h : Two w0 w x v l A m ca B k cb) : Two w0 w x v l B k cb A m ca := ⟨h.at_, h.b, h.a, h.fb, h.fa, fun p q hp hq e => h.ne q p hq hp e.symm⟩
theorem Two.cell {g : Nat} (h : Two w0 w x v l (some ⟨g, 0, none⟩) m ca B k cb) {j : Nat} (hj : j < m) : ∃ u, w.cell? ⟨g, j, none⟩ = some u := by
  obtain ⟨xs, hxs⟩ := h.a
  have hl := hxs.1
  rw [hxs.cellAt j (by omega)]
  exact ⟨xs[j]'(by omega), List.getElem?_eq_getElem (by omega)⟩
theorem Two.free {g : Nat} (h : Two w0 w x v l (some ⟨g, 0, none⟩) m ca B k cb) (j : Nat) : w.frozen? ⟨g, j, none⟩ = false := by
  obtain ⟨xs, hxs⟩ := h.a
  exact hxs.frozenAt j
theorem Two.some (h : Two w0 w x v l A m ca B k cb) (hm : 0 < m) : ∃ g, A = some ⟨g, 0, none⟩ := by
  obtain ⟨xs, hxs⟩ := h.a
  obtain ⟨m, rfl⟩ : ∃ n, m = n + 1 := ⟨m - 1, by omega⟩
  exact own_some hxs
end

theorem got_two {w0 w w1 w2 : World} {x : Nat} {v : Value} {l : List Bool} {X Y : List UInt8} {A B : Option Addr} {ca cb : Nat} (h : At w0 w x v l) (h1 : w1.ownsRow w.heap.size 5 1 (.slice A X.length ca) X.length (X.map byt)) (b1 : Below w.heap.size w w1)
    (h2 : w2.ownsRow w1.heap.size 5 1 (.slice B Y.length cb) Y.length (Y.map byt)) (b2 : Below w1.heap.size w1 w2) : Two w0 w2 x v l A X.length ca B Y.length cb := by
  have hx := h.wr.lt
  have hz := h.bel.size
  have s1 := b1.size
  have s2 := b2.size
  refine ⟨(h.on b1).on b2, ⟨_, own_base (own_below h1 b2) hz⟩, ⟨_, own_base h2 (Nat.le_trans hz s1)⟩, fun ad e => ?_, fun ad e => ?_, fun p q hp hq e => ?_⟩
  · subst e
    have e1 : Value.ownBlock (.slice (some ad) X.length ca) = some ad.block := rfl
    have g1 := (h1.lt _ e1).1
    have g2 := own_lt h1 e1
    exact ⟨by omega, by omega, fun e => by have := h.wr.row_lt e; omega⟩
  · subst e
    have e1 : Value.ownBlock (.slice (some ad) Y.length cb) = some ad.block := rfl
    have g1 := (h2.lt _ e1).1
    have g2 := own_lt h2 e1
    exact ⟨by omega, by omega, fun e => by have := h.wr.row_lt e; omega⟩
  · subst hp hq
    have g1 := own_lt h1 (g := p.block) rfl
    have g2 := (h2.lt q.block rfl).1
    omega

set_option maxRecDepth 100000 in
set_option maxHeartbeats 8000000 in
theorem walk_small (A : Option Addr) (ls : List (Nat × Int)) (N cap : Nat) (B : Option Addr) (ms : List (Nat × Int)) (M cb : Nat) (w : World) (hN : ls.length = N) (hN2 : N ≤ 60) (hR : RdP w A ls) (hW : WfP ls) (hM : ms.length = M) (hM2 : M ≤ 60) (hS : RdP w B ms) (hV : WfP ms) :
    Calls Try.prog 9 #[.slice A N cap, .slice B M cb] w fun e w' => e = .returned (.bool true) ∧ Below w.heap.size w w' := by
  have A0 := Lib.hid (At.new w w (Below.refl _ _))
  have PX := Lib.hid (puts_any A0.out.wr (by simp) A ls N cap hN (by omega) w.heap.size A0.out.ge A0.out.row (fun W hb => hR.below (A0.out.bel.trans hb)) hW)
  have hl1 : (allB ls).length ≤ 3840 := by have := allB_len ls; omega
  have hl2 : (allB ms).length ≤ 3840 := by have := allB_len ms; omega
  have PY := Lib.hid (fun (W : World) (v : Value) (h : At w W w.heap.size v (allB ls)) => puts_any h.wr (by omega) B ms M cb hM (by omega) w.heap.size h.ge h.row (fun W' hb => hS.below (h.bel.trans hb)) hV)
  have AL := Lib.hid (fun (W : World) (hb : Below w.heap.size w W) => all_any W A ls N cap hN (by omega) (hR.below hb) hW)
  have AM := Lib.hid (fun (W : World) (hb : Below w.heap.size w W) => all_any W B ms M cb hM (by omega) (hS.below hb) hV)
  obtain ⟨L, hL⟩ : ∃ L, allB ls = L := ⟨_, rfl⟩
  obtain ⟨K, hK⟩ : ∃ K, allB ms = K := ⟨_, rfl⟩
  rw [List.nil_append, hL] at PX
  simp only [hL, hK] at PY
  simp only [hL] at AL
  simp only [hK] at AM
  rw [hL] at hl1
  rw [hK] at hl2
  have HL1 := Lib.hid hl1
  have HL2 := Lib.hid hl2
  have hd : decide ((60 : Int) < (N : Int)) = false := decide_eq_false (by omega)
  have hd2 : decide ((60 : Int) < (M : Int)) = false := decide_eq_false (by omega)
  clear hN hR hW hM hS hV hL hK hl1 hl2
  go_enter Try.func9, Try.ntmps9
  go_wp2_with fail
  refine PX.out.mono ?_
  rintro e w1 ⟨rfl, v1, hw1, hc1, hn1⟩
  have A1 := Lib.hid (A0.out.chg hw1 hc1 hn1)
  clear hw1 hc1 hn1 A0 PX hd hd2
  go_wp2_with fail
  refine (bytes_any A1.out.wr (by have := HL1.out; omega)).mono ?_
  rintro e w2 ⟨A2, c2, rfl, ho2, hb2⟩
  have H2 := Lib.hid (And.intro ho2 hb2)
  have A2' := Lib.hid (A1.out.on hb2)
  clear ho2 hb2
  go_wp2_with fail
  refine (close_any A2'.out.wr (by have := HL1.out; omega)).mono ?_
  rintro e w3 ⟨A3, c3, rfl, ho3, hb3⟩
  have T3 := Lib.hid (got_two A1.out H2.out.1 H2.out.2 ho3 hb3)
  have hp1 : (pack L).length ≤ 4000 := by rw [pack_len]; have := HL1.out; omega
  have hp2 : (closed L).length ≤ 4000 := by rw [closed, pack_len, List.length_append]; have := HL1.out; simp only [List.length_cons, List.length_nil]; omega
  clear ho3 hb3 A2' A1 H2
  generalize (pack L).length = P at *
  generalize (closed L).length = Q at *
  go_wp2_with fail
  go_loopw [8] (fun b wr => (∃ i : Nat, i ≤ P ∧ b = .int .i64 (i : Int) ∧ Hid (Two w wr w.heap.size v1 L A2 P c2 A3 Q c3))) (fun b _ => P - (intOf b).toNat)
  case atStart => exact ⟨0, by omega, rfl, T3⟩
  case round =>
    obtain ⟨i, hi, rfl, HT⟩ := hrel
    by_cases hlt : i < P
    · obtain ⟨g, hg⟩ := HT.out.some (by omega)
      subst hg
      obtain ⟨u, hu⟩ := HT.out.cell hlt
      have hf := HT.out.free i
      have TS := Lib.hid (HT.out.setA i (.int .u8 77))
      go_wp2_with fail
      exact ⟨⟨i + 1, by omega, by simp, TS⟩, by simp [intOf]; omega⟩
    · have hie : i = P := by omega
      subst hie
      clear hlt hi
      go_wp2_with fail
      go_loopw [9] (fun b wr => (∃ j : Nat, j ≤ Q ∧ b = .int .i64 (j : Int) ∧ Hid (Two w wr w.heap.size v1 L A2 i c2 A3 Q c3))) (fun b _ => Q - (intOf b).toNat)
      case atStart => exact ⟨0, by omega, rfl, HT⟩
      case round =>
        clear HT
        obtain ⟨j, hj, rfl, HU⟩ := hrel
        by_cases hlt : j < Q
        · obtain ⟨g, hg⟩ := HU.out.symm.some (by omega)
          subst hg
          obtain ⟨u, hu⟩ := HU.out.symm.cell hlt
          have hf := HU.out.symm.free j
          have TS := Lib.hid (HU.out.symm.setA j (.int .u8 78)).symm
          go_wp2_with fail
          exact ⟨⟨j + 1, by omega, by simp, TS⟩, by simp [intOf]; omega⟩
        · have hje : j = Q := by omega
          subst hje
          have A4 := Lib.hid HU.out.at_
          clear hlt hj HU T3
          go_wp2_with fail
          refine (PY.out _ _ A4.out).mono ?_
          rintro e w5 ⟨rfl, v5, hw5, hc5, hn5⟩
          have A5 := Lib.hid (A4.out.chg hw5 hc5 hn5)
          clear A4 hw5 hc5 hn5 PY
          obtain ⟨X, hX⟩ : ∃ X, pack (L ++ K) = X := ⟨_, rfl⟩
          have HX := Lib.hid hX
          have HLK : Hid ((L ++ K).length ≤ 7680) := Lib.hid (by rw [List.length_append]; have := HL1.out; have := HL2.out; omega)
          clear hX
          go_wp2_with fail
          refine (bytes_r A5.out.wr (by have := HLK.out; omega) X X.length HX.out rfl).mono ?_
          rintro e w6 ⟨A6, c6, rfl, hr6, _, hb6⟩
          have A6' := Lib.hid (A5.out.on hb6)
          have R6 := Lib.hid hr6
          clear A5 hr6 hb6
          go_wp2_with fail
          refine (AL.out _ A6'.out.bel).mono ?_
          rintro e w7 ⟨A7, c7, rfl, ho7, hb7⟩
          have O7 := Lib.hid ho7
          have B7 := Lib.hid hb7
          clear ho7 hb7 AL
          go_wp2_with fail
          refine (AM.out _ (below_on A6'.out.bel (Nat.le_refl _) B7.out)).mono ?_
          rintro e w8 ⟨A8, c8, rfl, ho8, hb8⟩
          have O8 := Lib.hid (own_below O7.out hb8)
          have B8 := Lib.hid (below_on B7.out (Nat.le_refl _) hb8)
          have Q8 : Hid (Rb w8 A8 K) := Lib.hid (Rv.of_own ho8)
          clear O7 ho8 hb8 AM B7
          go_wp2_with (first
            | (at_builtin; refine wpList_append_vals Try.underlying32 bool_info rfl rfl _ _ rfl w6.heap.size (.slice A7 L.length c7) L.length _ rfl O8.out A8 (K.map Value.bool) (bool_one K) K.length c8 (by rw [List.length_map]) rfl Q8.out (by have := HL1.out; have := HL2.out; omega) B8.out.size ?_; intro v9 w9 ho9 hg9 _; obtain ⟨A9, c9, rfl, _⟩ := own_form ho9; have B9 := Lib.hid (B8.out.grown hg9 B8.out.size (fun j ej => (O8.out.lt j ej).1)); have Q9 : Hid (Rb w9 A9 (L ++ K)) := Lib.hid (by have h1 := Rv.of_own ho9; rw [← List.map_append] at h1; exact h1); clear ho9 hg9)
            | (go_at_call 17; refine (refBytes_any _ _ (L ++ K) _ _ (by rw [List.length_append]) (by have := HL1.out; have := HL2.out; omega) Q9.out).mono ?_; intro e w10 hg10; obtain ⟨A10, c10, rfl, hr10, _, hb10⟩ := hg10.rd HX.out rfl (A6'.out.on B9.out).wr; have B10 := Lib.hid (below_on B9.out (Nat.le_refl _) hb10); have R10 := Lib.hid hr10; have R6' := Lib.hid (R6.out.below B10.out); clear hg10 hr10 hb10)
            | (go_at_call 15; refine (same_n _ _ _ X X _ _ rfl rfl _ _ R6'.out R10.out rfl).mono ?_; rintro e w11 ⟨rfl, rfl⟩)
            | (go_at_call 11; refine (known_any _).mono ?_; rintro e w12 ⟨rfl, hb12⟩; have HB12 := Lib.hid (below_on (below_on A6'.out.bel (Nat.le_refl _) B10.out) (Nat.le_refl _) hb12); clear hb12))
          go_ret
          exact ⟨rfl, HB12.out⟩

theorem walk (A : Option Addr) (ls : List (Nat × Int)) (cap : Nat) (B : Option Addr) (ms : List (Nat × Int)) (cb : Nat) (w : World) (hR : RdP w A ls) (hW : WfP ls) (_hc : ls.length ≤ cap) (hS : RdP w B ms) (hV : WfP ms) (_hd : ms.length ≤ cb) :
    Calls Try.prog 9 #[.slice A ls.length cap, .slice B ms.length cb] w fun e w' => e = .returned (.bool true) ∧ Below w.heap.size w w' := by
  by_cases h : 60 < ls.length ∨ 60 < ms.length
  · exact walk_big A _ cap B _ cb w h
  · exact walk_small A ls _ cap B ms _ cb w rfl (by omega) hR hW rfl (by omega) hS hV

set_option maxRecDepth 100000 in
theorem lifted (os : Os) (started : os.Started) (H : Type) (enc : TypeId × Value → H) :
    ReturnsInHanded {} Try.checked os 9 .any (Rows.bitoutOwnSpec.pre6 enc Try.prog Try.f9 Rows.bitoutOwnRow.domain false) (Rows.bitoutOwnSpec.post enc Try.prog Try.f9 false true false false) := by
  refine returnsInHanded_of_change_sized (C := Try.checked) ownB started (by kernel_rfl) Try.func9
    (ChangeSpec.witness6 (enc := enc) (C := Try.checked) false ⟨#[], #[.slice none 0 0, .slice none 0 0], []⟩ 8 (by kernel_rfl) (by kernel_rfl) (by kernel_rfl) (by kernel_rfl)) ?_
  intro W base args ds gs before hval0 hW _ hsz0 _
  have hsz : (DataW.weightsEach Try.prog (Try.f9.params.toList ++ Rows.bitoutOwnSpec.plain.varTypes Try.prog) (ds ++ gs)).all (· ≤ reachBytes) = true := hsz0
  clear hsz0
  have hval : ∀ (j : Nat) t v, Try.f9.params[j]? = some t → args[j]? = some v → Value.okWide Try.prog W .any base t v := hval0
  have hW' := hW
  obtain ⟨p, q, hA0, hV, rfl, hfz, hnd⟩ := hW
  have hA : DataW.TrodAll enc Try.prog W 0 (fun _ => true) true Try.f9.params.toList args.toList ds p := hA0
  rw [Try.params9] at hA hval hsz
  obtain ⟨v0, vs0, d0, ds0, p0, q0, hargs, rfl, rfl, h0, r0⟩ := trodAll_cons hA
  obtain ⟨v1, vs1, d1, ds1, p1, q1, rfl, rfl, rfl, h1, r1⟩ := trodAll_cons r0
  obtain ⟨rfl, rfl, rfl⟩ := trodAll_nil r1
  obtain rfl : args = #[v0, v1] := by cases args; simp_all
  obtain ⟨rfl, rfl⟩ := trodVars_none hV
  obtain ⟨a0, len0, cap0, rfl⟩ := okWide_slice Try.underlying22 (hval 0 22 v0 rfl rfl)
  have k0 := h0
  have lt0 : ∀ x ∈ p0, x.block < W.heap.size := by obtain ⟨m, hm⟩ := k0; exact DataW.trod_lt m _ _ _ hm
  obtain ⟨l0, rfl, hc0, rc0, wf0⟩ := open_puts h0
  obtain ⟨a1, len1, cap1, rfl⟩ := okWide_slice Try.underlying22 (hval 1 22 v1 rfl rfl)
  have k1 := h1
  have lt1 : ∀ x ∈ p1, x.block < W.heap.size := by obtain ⟨m, hm⟩ := k1; exact DataW.trod_lt m _ _ _ hm
  obtain ⟨l1, rfl, hc1, rc1, wf1⟩ := open_puts h1
  clear hA0 hval0
  refine (walk a0 l0 cap0 a1 l1 cap1 W rc0 wf0 hc0 rc1 wf1 hc1).mono fun e W' ⟨he, bel⟩ => ?_
  subst he
  exact ⟨_, rfl, _, _, _, [], _, [], hW', trodAll_mk1 (shut_bool Try.underlying4 _), (trodAll_cons_mk (Below.trod laidOut (by kernel_rfl) (of_decide_eq_true (by kernel_rfl)) k0 bel lt0) (trodAll_cons_mk (Below.trod laidOut (by kernel_rfl) (of_decide_eq_true (by kernel_rfl)) k1 bel lt1) trodAll_mk0)), rfl, bel.frame _, fun h => by cases h⟩

theorem proved : Rows.BitoutOwnSaid :=
  OpenClaim.holds_of_wide 9 Try.f9 rfl rfl rfl rfl rfl rfl rfl ⟨rfl, rfl, rfl, rfl, rfl⟩ rfl rfl rfl rfl rfl (by kernel_rfl) Try.func9 (by kernel_rfl)
    (of_decide_eq_true (by kernel_rfl)) (by unfold Func.isWrapper; rw [if_neg (by decide +kernel)]; exact ⟨rfl, rfl⟩)
    (fun os started H enc _ => lifted os started H enc)

#print axioms proved

end Go.Proofs.Ytaedfbceaolbcaa.bitoutOwn
