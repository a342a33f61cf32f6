/-
  What Copy of a ring does: it appends n bytes from a distance and returns them in new memory, or returns an error and changes nothing. Condition: the total stays below 2^40.
-/
import Derived.Test.YteogpmapbeogpaaDoorLst
namespace Go.Proofs.YteogpmapbeogpaaDoor
open Go.RowKit

/-- n bytes of a circle. -/
def cyc (s : List UInt8) (n : Nat) : List UInt8 := (List.range n).map fun j => s.getD (j % s.length) 0
theorem cyc_len (s : List UInt8) (n : Nat) : (cyc s n).length = n := by simp [cyc]
theorem cyc_get (s : List UInt8) {n j : Nat} (h : j < n) : (cyc s n)[j]? = some (s.getD (j % s.length) 0) := by
  unfold cyc
  rw [List.getElem?_map, List.getElem?_range h]
  rfl
theorem getD_of {s : List UInt8} {j : Nat} (h : j < s.length) : s[j]? = some (s.getD j 0) := by
  rw [List.getElem?_eq_getElem h]
  simp [List.getD, List.getElem?_eq_getElem h]

theorem cyc_head {s : List UInt8} {n i m : Nat} (hm : i + m ≤ s.length) : ((s.drop i).take m).take (n - i) = ((cyc s n).drop i).take m := by
  refine List.ext_getElem? fun j => ?_
  rcases Nat.lt_or_ge j m with h1 | h1
  · rcases Nat.lt_or_ge (i + j) n with h2 | h2
    · rw [List.getElem?_take_of_lt (by omega), List.getElem?_take_of_lt h1, List.getElem?_take_of_lt h1, List.getElem?_drop, List.getElem?_drop, cyc_get s h2, Nat.mod_eq_of_lt (by omega), getD_of (by omega)]
    · rw [List.getElem?_eq_none (by simp; omega), List.getElem?_eq_none (by simp [cyc_len]; omega)]
  · rw [List.getElem?_eq_none (by simp; omega), List.getElem?_eq_none (by simp; omega)]
theorem cyc_rest {s : List UInt8} {n i : Nat} (hi : i % s.length = 0) : ((cyc s n).take i).take (n - i) = ((cyc s n).drop i).take i := by
  refine List.ext_getElem? fun j => ?_
  rcases Nat.lt_or_ge j i with h1 | h1
  · rcases Nat.lt_or_ge (i + j) n with h2 | h2
    · rw [List.getElem?_take_of_lt (by omega), List.getElem?_take_of_lt h1, List.getElem?_take_of_lt h1, List.getElem?_drop, cyc_get s h2, cyc_get s (by omega), Nat.add_mod, hi, Nat.zero_add, Nat.mod_mod]
    · rw [List.getElem?_eq_none (by simp; omega), List.getElem?_eq_none (by simp [cyc_len]; omega)]
  · rw [List.getElem?_eq_none (by simp; omega), List.getElem?_eq_none (by simp; omega)]

set_option maxRecDepth 100000 in
set_option maxHeartbeats 2000000 in
theorem copy1_feeds {w : World} {x lim t : Nat} {v : Value} {l : List UInt8} (h : Rg w x v lim l t) (Br Bn : Nat) (D n : Nat) (hD1 : 1 ≤ D) (hD : D ≤ l.length) (hn : n ≤ 131072) (hr : Bx w Br 26 (.pointer (some ⟨x, 0, none⟩))) (hb : Bx w Bn 3 (.int .i64 (D : Int))) :
    Feeds 44 #[.pointer (some ⟨Bn, 0, none⟩), .pointer (some ⟨Br, 0, none⟩)] (cyc (l.drop (l.length - D)) n) (fun i => i < D ∨ i % D = 0) w := by
  intro i W A c hi hJ hic hW hR
  have hl := h.len
  have hm := h.most
  have cr := (hr.below hW).cell
  have cn := (hb.below hW).cell
  have hsl : (l.drop (l.length - D)).length = D := by rw [List.length_drop]; omega
  rw [cyc_len] at hi
  rw [cyc_len]
  obtain ⟨PP, hPP⟩ : ∃ PP : Ending → World → Prop, PP = fun e W' => ∃ B Y k cb q, e = .returned (.slice B k cb) ∧ W' = W.drewN q ∧ 0 < k ∧ k ≤ cb ∧ k ≤ 1099511627776 ∧ Y.length = k ∧ Rd W B Y ∧ Y.take (n - i) = ((cyc (l.drop (l.length - D)) n).drop i).take k ∧ (n ≤ i + k ∨ (i + k < D ∨ (i + k) % D = 0)) := ⟨_, rfl⟩
  rw [← hPP]
  have HPP := Lib.hid hPP
  clear hPP
  rcases Nat.lt_or_ge i D with hiD | hiD
  · obtain ⟨d, hd⟩ : ∃ d, D - i = d := ⟨_, rfl⟩
    obtain ⟨B, m, hm0, hmd, hRB, _, hST⟩ := stretch_any (h.below hW) d (by omega) (by omega)
    have ST := Lib.hid fun q => hST (W.drewN q) rfl
    have hT : l.drop (l.length - d) = (l.drop (l.length - D)).drop i := by rw [List.drop_drop]; congr 1; omega
    rw [hT] at hRB
    have FN : Hid (∀ q, PP (.returned (.slice B m m)) (W.drewN q)) := Lib.hid fun q => by
      rw [HPP.out]
      refine ⟨B, _, m, m, q, rfl, rfl, hm0, Nat.le_refl _, by omega, ?_, hRB, cyc_head (by omega), ?_⟩
      · rw [List.length_take, List.length_drop, hsl]; omega
      · rcases Nat.lt_or_ge (i + m) D with h | h
        · exact .inr (.inl h)
        · exact .inr (.inr (by rw [show i + m = D by omega, Nat.mod_self]))
    have x0 : IntKind.i64.wrap ((D : Int) - (i : Int)) = (d : Int) := by rw [← hd]; exact (IntWalk.i64_in _ (by omega)).trans (by omega)
    have x1 : IntKind.i64.wrap (d : Int) = (d : Int) := IntWalk.i64_in _ (by omega)
    have hlt : decide ((i : Int) < (D : Int)) = true := decide_eq_true (by omega)
    clear hW hR hi h hr hb hRB hST hT hd hJ hsl HPP
    go_enter Tryd.func44, Tryd.ntmps44
    go_wp2
    go_quiet ((go_at_call 42; exact Calls.quiet_of (ST.out _)))
    go_wp2
    exact FN.out _
  · have hJ' : i % D = 0 := by
      rcases hJ with h | h
      · omega
      · exact h
    have FN : Hid (PP (.returned (.slice A i c)) (W.drewN 0)) := Lib.hid (by
      rw [HPP.out]
      refine ⟨A, _, i, c, 0, rfl, rfl, by omega, hic, by omega, by rw [List.length_take, cyc_len]; omega, hR, cyc_rest (by rw [hsl]; exact hJ'), .inr (.inr (by rw [Nat.add_mod, hJ', Nat.zero_add, Nat.zero_mod]))⟩)
    have hlt : decide ((i : Int) < (D : Int)) = false := decide_eq_false (by omega)
    clear hW hR hi h hr hb hJ hsl HPP hJ'
    go_enter Tryd.func44, Tryd.ntmps44
    go_wp2
    exact FN.out

/-- A copy has been made. -/
def CpyPost (w : World) (x lim t : Nat) (v : Value) (l T : List UInt8) (e : Ending) (w' : World) : Prop :=
  ∃ A c v', e = .returned (.tuple #[.slice A T.length c, .int .i64 0]) ∧ T.length ≤ c ∧ w'.ownsRow w.heap.size 5 1 (.slice A T.length c) T.length (T.map byt) ∧ Rg w' x v' lim l t ∧ Chg (Fp x v) w w' ∧ New w v v' ∧ ∀ k, Fp x v' k → (Value.slice A T.length c).ownBlock ≠ some k

theorem own_mono {w : World} {a b : Nat} {e : TypeId} {v : Value} {n : Nat} {xs : List Value} (h : w.ownsRow b e 1 v n xs) (hab : a ≤ b) : w.ownsRow a e 1 v n xs := by
  refine ⟨h.1, ?_⟩
  rcases h.2 with h | ⟨g, c', cur, e, hg, hr⟩
  · exact .inl h
  · exact .inr ⟨g, c', cur, e, Nat.le_trans hab hg, hr⟩

theorem copy_fin {w w1 w3 w4 : World} {x lim t n c : Nat} {v : Value} {l T : List UInt8} {A : Option Addr} (h : Rg w x v lim l t) (hT : T.length = n) (hb1 : Below w.heap.size w w1) (ho : w3.ownsRow w1.heap.size 5 1 (.slice A n c) n (T.map byt)) (hc : n ≤ c) (hb3 : Below w1.heap.size w1 w3)
    (ha : AddPost w3 x lim (t + n) v (fin lim (l ++ T)) (.returned (.int .i64 0)) w4) : CpyPost w x lim (t + n) v (fin lim (l ++ T)) T (.returned (.tuple #[.slice A n c, .int .i64 0])) w4 := by
  obtain ⟨_, v', hg, hch, hnw⟩ := ha
  have b3 : Below w.heap.size w w3 := below_on hb1 (Nat.le_refl _) hb3
  have hne : ∀ k, Fp x v k → (Value.slice A n c).ownBlock ≠ some k := fun k hk e => by
    have := own_base ho e
    have := h.fp_lt hk
    have := hb1.size
    omega
  refine ⟨A, c, v', by rw [hT], by rw [hT]; exact hc, ?_, hg, ?_, ?_, ?_⟩
  · rw [hT]
    exact own_mono (own_same ho fun g hgg => hch.block g (own_lt ho hgg) (fun hf => hne g hf hgg)) hb1.size
  · exact (Chg.of_below b3).trans hch
  · intro k hk
    rcases hnw k hk with e | e
    · exact .inl e
    · exact .inr (Nat.le_trans b3.size e)
  · rw [hT]
    intro k hk e
    rcases hk with hk | hk
    · exact hne k (.inl hk) e
    · rcases hnw k hk with e' | e'
      · exact hne k (.inr e') e
      · have := own_lt ho e
        omega

set_option maxRecDepth 100000 in
set_option maxHeartbeats 4000000 in
theorem copy_ok {w : World} {x lim t : Nat} {v : Value} {l : List UInt8} (h : Rg w x v lim l t) (D n : Nat) (hD1 : 1 ≤ D) (hD : D ≤ l.length) (hn : n ≤ 131072) (ht : t ≤ 1099511627776) :
    Calls Tryd.prog 26 #[.pointer (some ⟨x, 0, none⟩), .int .i64 (D : Int), .int .i64 (n : Int)] w (CpyPost w x lim (t + n) v (fin lim (l ++ cyc (l.drop (l.length - D)) n)) (cyc (l.drop (l.length - D)) n)) := by
  obtain ⟨w1, hw1⟩ : ∃ w1, (w.alloc (.cells #[.pointer (some ⟨x, 0, none⟩)] 26)).alloc (.cells #[.int .i64 (D : Int)] 3) = w1 := ⟨_, rfl⟩
  obtain ⟨b1, r1, n1, sz⟩ := last_box w (.pointer (some ⟨x, 0, none⟩)) D w1 hw1
  have g1 := h.below b1
  have OB := Lib.hid (obj_any g1 (D : Int) (n : Int) 0 (by unfold obj; rw [if_neg (by omega), if_pos (by omega)]))
  have cr := r1.cell
  have cn := n1.cell
  have CO := Lib.hid (collect_any w1 44 #[.pointer (some ⟨w.heap.size + 1, 0, none⟩), .pointer (some ⟨w.heap.size, 0, none⟩)] (enters_of Tryd.func44 (by kernel_rfl) rfl) (cyc (l.drop (l.length - D)) n) n (cyc_len _ _) (by omega) (fun i => i < D ∨ i % D = 0) (.inl hD1) (copy1_feeds g1 w.heap.size (w.heap.size + 1) D n hD1 hD hn r1 n1))
  obtain ⟨T, hT⟩ : ∃ T, cyc (l.drop (l.length - D)) n = T := ⟨_, rfl⟩
  have hTl : T.length = n := by rw [← hT, cyc_len]
  rw [hT] at CO
  rw [hT]
  have H := Lib.hid h
  have HT := Lib.hid hTl
  have B1 := Lib.hid b1
  have R1 := Lib.hid r1
  clear h g1 r1 n1 b1 hT hTl sz
  go_enter Tryd.func26, Tryd.ntmps26
  go_wp2
  refine wp_scope_fwd 0 rfl ?_
  go_wp2_with (first
    | (go_at_call 43; refine OB.out.mono ?_; rintro e w1 ⟨rfl, rfl⟩)
    | (go_at_call 40; refine CO.out.mono ?_; rintro e w3 ⟨A, c, rfl, hc, ho, hb3⟩; rw [HT.out] at hc ho; rw [HT.out]; have cr3 := (R1.out.below hb3).cell; have O3 := Lib.hid (And.intro ho (And.intro hc hb3)); clear ho hc hb3)
    | (go_at_call 18; refine (add_ok (H.out.below (below_on B1.out (Nat.le_refl _) O3.out.2.2)) A T n c HT.out O3.out.2.1 (by omega) ht (Rv.of_own O3.out.1) (fun hm ad e hf => by
        have h1 := H.out.fp_lt hf
        have h2 := own_base O3.out.1 (g := ad.block) (by rw [e]; rfl)
        have h3 := B1.out.size
        omega)).mono ?_; intro e w4 hp; have he := hp.1; subst he; have P4 := Lib.hid hp; clear hp))
  rw [jump_ret]
  go_ret2
  exact copy_fin H.out HT.out B1.out O3.out.1 O3.out.2.1 O3.out.2.2 P4.out

set_option maxRecDepth 100000 in
set_option maxHeartbeats 4000000 in
theorem copy_err {w : World} (p : Option Addr) (d k R : Int) (hR : R ≠ 0) (hO : ∀ W, Below w.heap.size w W → Calls Tryd.prog 43 #[.pointer p, .int .i64 d, .int .i64 k] W fun e w' => e = .returned (.int .i64 R) ∧ w' = W) :
    Calls Tryd.prog 26 #[.pointer p, .int .i64 d, .int .i64 k] w fun e w' => e = .returned (.tuple #[.slice none 0 0, .int .i64 R]) ∧ Below w.heap.size w w' := by
  obtain ⟨w1, hw1⟩ : ∃ w1, (w.alloc (.cells #[.pointer p] 26)).alloc (.cells #[.int .i64 d] 3) = w1 := ⟨_, rfl⟩
  obtain ⟨b1, r1, n1, sz⟩ := last_box w (.pointer p) d w1 hw1
  have OB := Lib.hid (hO w1 b1)
  have cr := r1.cell
  have cn := n1.cell
  have B1 := Lib.hid b1
  have hne : (R != 0) = true := by simpa using hR
  clear r1 n1 b1 sz hO
  go_enter Tryd.func26, Tryd.ntmps26
  go_wp2
  refine wp_scope_fwd 0 rfl ?_
  go_wp2_with (go_at_call 43; refine OB.out.mono ?_; rintro e w1 ⟨rfl, rfl⟩)
  go_step3
  refine And.intro rfl ?_
  go_wp2
  rw [Exit.noGoto_ret]
  go_ret2
  exact ⟨rfl, B1.out⟩

theorem copy_bad {w : World} {x lim t : Nat} {v : Value} {l : List UInt8} (h : Rg w x v lim l t) (d k R : Int) (hR : obj l.length d k = R) (hR0 : R ≠ 0) :
    Calls Tryd.prog 26 #[.pointer (some ⟨x, 0, none⟩), .int .i64 d, .int .i64 k] w fun e w' => e = .returned (.tuple #[.slice none 0 0, .int .i64 R]) ∧ Below w.heap.size w w' :=
  copy_err _ d k R hR0 fun _ hW => obj_any (h.below hW) d k R hR

end Go.Proofs.YteogpmapbeogpaaDoor
