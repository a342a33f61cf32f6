/-
  What the helper step of the laws does: the expected answer of a call is that of the function askR. Conditions: the offset lies within the bytes; at most 2^47 bytes; the numbers are ints.
-/
import Derived.Test.YtnbohkiimbooaaaRfN
import Derived.Test.YtnbohkiimbooaaaRfB
namespace Go.Proofs.Ytnbohkiimbooaaa
open Go.RowKit Go.Shelf
set_option linter.unusedVariables false

theorem results_tmp4 {fn : Func} {t u v x : Tmp} (h : fn.results = #[.tmp t, .tmp u, .tmp v, .tmp x]) (tmps : Array Value) (P : Program) (w : World) :
    (results fn tmps).run P w = .ok (.tuple #[tmps.getD t undef, tmps.getD u undef, tmps.getD v undef, tmps.getD x undef]) w := by
  simp [results, h]

def StepPost (w : World) (r : AskR) (e : Ending) (w' : World) : Prop :=
  ∃ A' c', e = .returned (.tuple #[.int .u64 (r.val : Int), .slice A' r.bytes.length c', .int .i64 (r.off : Int), .int .i64 (r.err : Int)]) ∧ Rd w' A' r.bytes ∧ Below w.heap.size w w'

section
variable {w : World} {A : Option Addr} {cap : Nat} {l : List UInt8} {N k : Nat}

theorem box_below (w : World) (q n : Int) : Below w.heap.size w (w.alloc (.cells #[.int .i64 q, .int .i64 n] 51)) := (Below.refl _ _).alloc (Nat.le_refl _) _

set_option maxHeartbeats 400000 in
theorem step_1a (hN : l.length = N) (hs : N ≤ 140737488351232) (hk : k = N) (n : Int) : Calls Try.prog 30 #[.slice A N cap, .int .i64 (k : Int), .agg #[.int .i64 1, .int .i64 n]] w (StepPost w (askR l k 1 n)) := by
  obtain ⟨R, hR⟩ : ∃ R, askR l k 1 n = R := ⟨_, rfl⟩
  have hr : R = ⟨0, [], 3, k⟩ := by
    rw [← hR, askR, if_pos rfl, List.drop_eq_nil_of_le (by omega)]; rfl
  rw [hR]
  have HR := Lib.hid hr
  have HB := Lib.hid (box_below w 1 n)
  have RB := Lib.hid (refBytes_short (w := w.alloc (.cells #[.int .i64 1, .int .i64 n] 51)) (A := A) (cap := cap) (N := N) (k := k) 1 (by omega) (by omega) hs (by omega))
  clear hR hr hk hN
  go_enter Try.func30, Try.ntmps30
  go_wp2_with fail
  refine RB.out.mono ?_
  rintro e w1 ⟨rfl, rfl⟩
  go_wp2
  (try simp only [Exit.inBlock, Exit.then])
  refine bodyPost_ret (results_tmp4 rfl _ _ _) rfl ?_
  rw [HR.out]
  exact ⟨none, 0, rfl, Rd.nil _ _, HB.out⟩

set_option maxHeartbeats 400000 in
theorem step_1b (hN : l.length = N) (hRd : Rd w A l) (hs : N ≤ 140737488351232) (hc : N ≤ cap) (hk : k < N) (n : Int) : Calls Try.prog 30 #[.slice A N cap, .int .i64 (k : Int), .agg #[.int .i64 1, .int .i64 n]] w (StepPost w (askR l k 1 n)) := by
  obtain ⟨R, hR⟩ : ∃ R, askR l k 1 n = R := ⟨_, rfl⟩
  obtain ⟨b, t, hbt⟩ : ∃ b t, l.drop k = b :: t := by
    cases h : l.drop k with
    | nil => have := congrArg List.length h; rw [List.length_drop] at this; simp at this; omega
    | cons b t => exact ⟨b, t, rfl⟩
  have hr : R = ⟨b.toNat, [], 0, k + 1⟩ := by
    rw [← hR, askR, if_pos rfl, hbt]; rfl
  rw [hR]
  have HR := Lib.hid hr
  have HB := Lib.hid (box_below w 1 n)
  have RB := Lib.hid (refBytes_ok (w := w.alloc (.cells #[.int .i64 1, .int .i64 n] 51)) (A := A) (cap := cap) (l := l) (N := N) (k := k) 1 hN (hRd.below HB.out) (by omega) hs hc)
  have HBT : Hid ((l.drop k).take 1 = [b]) := Lib.hid (by rw [hbt]; rfl)
  have hbl := b.toNat_lt
  clear hR hr hk hN hRd hbt hc
  go_enter Try.func30, Try.ntmps30
  go_wp2_with fail
  refine RB.out.mono ?_
  rintro e w1 ⟨A1, c1, rfl, rfl, hr1⟩
  rw [HBT.out] at hr1
  obtain ⟨ad, rfl, hcell⟩ := hr1 0 b rfl
  have hcell' : (w.alloc (.cells #[.int .i64 1, .int .i64 n] 51)).cell? ad = some (byt b) := hcell
  obtain ⟨T, hT⟩ : ∃ T, k + 1 = T := ⟨_, rfl⟩
  rw [hT]
  have HT := Lib.hid hT
  clear hr1 hT
  go_wp2
  (try simp only [Exit.inBlock, Exit.then])
  refine bodyPost_ret (results_tmp4 rfl _ _ _) rfl ?_
  rw [HR.out, HT.out]
  exact ⟨none, 0, rfl, Rd.nil _ _, HB.out⟩

set_option maxHeartbeats 400000 in
theorem step_2a (hN : l.length = N) (hs : N ≤ 140737488351232) (hk : k ≤ N) (h4 : N < k + 4) (n : Int) : Calls Try.prog 30 #[.slice A N cap, .int .i64 (k : Int), .agg #[.int .i64 2, .int .i64 n]] w (StepPost w (askR l k 2 n)) := by
  obtain ⟨R, hR⟩ : ∃ R, askR l k 2 n = R := ⟨_, rfl⟩
  have hr : R = ⟨0, [], 3, k⟩ := by
    rw [← hR, askR, if_neg (by decide), if_pos rfl, wordB, if_pos (by rw [List.length_drop]; omega)]; rfl
  rw [hR]
  have HR := Lib.hid hr
  have HB := Lib.hid (box_below w 2 n)
  have RB := Lib.hid (getWord_short (w := w.alloc (.cells #[.int .i64 2, .int .i64 n] 51)) (A := A) (cap := cap) (N := N) (k := k) hs hk h4)
  clear hR hr hk hN h4
  go_enter Try.func30, Try.ntmps30
  go_wp2_with fail
  refine RB.out.mono ?_
  rintro e w1 ⟨rfl, rfl⟩
  go_wp2
  (try simp only [Exit.inBlock, Exit.then])
  refine bodyPost_ret (results_tmp4 rfl _ _ _) rfl ?_
  rw [HR.out]
  exact ⟨none, 0, rfl, Rd.nil _ _, HB.out⟩

set_option maxHeartbeats 400000 in
theorem step_2b (hN : l.length = N) (hRd : Rd w A l) (hs : N ≤ 140737488351232) (h4 : k + 4 ≤ N) (n : Int) : Calls Try.prog 30 #[.slice A N cap, .int .i64 (k : Int), .agg #[.int .i64 2, .int .i64 n]] w (StepPost w (askR l k 2 n)) := by
  obtain ⟨R, hR⟩ : ∃ R, askR l k 2 n = R := ⟨_, rfl⟩
  obtain ⟨s, hsv⟩ : ∃ s, (l.drop k).take 4 = s := ⟨_, rfl⟩
  have hsl : s.length = 4 := by rw [← hsv, List.length_take, List.length_drop]; omega
  have hr : R = ⟨wv s, [], 0, k + 4⟩ := by
    rw [← hR, askR, if_neg (by decide), if_pos rfl, wordB, if_neg (by rw [List.length_drop]; omega), hsv]; rfl
  rw [hR]
  have HR := Lib.hid hr
  have HB := Lib.hid (box_below w 2 n)
  have RB := Lib.hid (getWord_ok (w := w.alloc (.cells #[.int .i64 2, .int .i64 n] 51)) (A := A) (cap := cap) (l := l) (N := N) (k := k) s hs h4 hN (hRd.below HB.out) hsl hsv.symm)
  have hwl : wv s < 4294967296 := by
    have h1 := wv_lt s
    rw [hsl] at h1
    have h3 : (256 : Nat) ^ 4 = 4294967296 := by decide
    omega
  obtain ⟨V, hV⟩ : ∃ V, wv s = V := ⟨_, rfl⟩
  rw [hV] at HR RB hwl
  clear hR hr hN h4 hRd hsv hsl hV
  go_enter Try.func30, Try.ntmps30
  go_wp2_with fail
  refine RB.out.mono ?_
  rintro e w1 ⟨rfl, rfl⟩
  go_wp2
  (try simp only [Exit.inBlock, Exit.then])
  refine bodyPost_ret (results_tmp4 rfl _ _ _) rfl ?_
  rw [HR.out]
  exact ⟨none, 0, rfl, Rd.nil _ _, HB.out⟩

set_option maxHeartbeats 400000 in
theorem step_3 (hN : l.length = N) (hRd : Rd w A l) (hs : N ≤ 140737488351232) (hk : k ≤ N) (n : Int) : Calls Try.prog 30 #[.slice A N cap, .int .i64 (k : Int), .agg #[.int .i64 3, .int .i64 n]] w (StepPost w (askR l k 3 n)) := by
  obtain ⟨R, hR⟩ : ∃ R, askR l k 3 n = R := ⟨_, rfl⟩
  have HB := Lib.hid (box_below w 3 n)
  have RB := Lib.hid (get_any (w := w.alloc (.cells #[.int .i64 3, .int .i64 n] 51)) (A := A) (cap := cap) (l := l) (N := N) (k := k) hN (hRd.below HB.out) hs hk)
  unfold GetR at RB
  obtain ⟨r, hg⟩ : ∃ r, gv (l.drop k) = r := ⟨_, rfl⟩
  obtain ⟨T, hT⟩ : ∃ T, (if r.err = 0 then k + r.len else k) = T := ⟨_, rfl⟩
  have hr : R = ⟨r.val, [], r.err, T⟩ := by
    rw [← hR, askR, if_neg (by decide), if_neg (by decide), if_pos rfl, hg, hT]
  rw [hR]
  have HR := Lib.hid hr
  rw [hg, hT] at RB
  clear hR hr hN hRd hk hT hg
  obtain ⟨val, err, len⟩ := r
  simp only at RB HR
  go_enter Try.func30, Try.ntmps30
  go_wp2_with fail
  refine RB.out.mono ?_
  rintro e w1 ⟨rfl, rfl⟩
  go_wp2
  (try simp only [Exit.inBlock, Exit.then])
  refine bodyPost_ret (results_tmp4 rfl _ _ _) rfl ?_
  rw [HR.out]
  exact ⟨none, 0, rfl, Rd.nil _ _, HB.out⟩

set_option maxHeartbeats 400000 in
theorem step_4 (hN : l.length = N) (hRd : Rd w A l) (hs : N ≤ 140737488351232) (hk : k ≤ N) (n : Int) (hn : n ≤ 9223372036854775807) : Calls Try.prog 30 #[.slice A N cap, .int .i64 (k : Int), .agg #[.int .i64 4, .int .i64 n]] w (StepPost w (askR l k 4 n)) := by
  obtain ⟨R, hR⟩ : ∃ R, askR l k 4 n = R := ⟨_, rfl⟩
  have HB := Lib.hid (box_below w 4 n)
  have RB := Lib.hid (refNumber_any (w := w.alloc (.cells #[.int .i64 4, .int .i64 n] 51)) (A := A) (cap := cap) (l := l) (N := N) (k := k) n hN (hRd.below HB.out) hs hk hn)
  unfold NumR at RB
  have hb : (numB (gv (l.drop k)) n).1 ≤ 4611686018427387903 := by
    have := gv_val_le (l.drop k)
    unfold numB
    split
    · split
      · simp
      · exact this
    · simp
  obtain ⟨r, hg⟩ : ∃ r, numB (gv (l.drop k)) n = r := ⟨_, rfl⟩
  obtain ⟨T, hT⟩ : ∃ T, (if r.2 = 0 then k + (gv (l.drop k)).len else k) = T := ⟨_, rfl⟩
  have hr : R = ⟨r.1, [], r.2, T⟩ := by
    rw [← hR, askR, if_neg (by decide), if_neg (by decide), if_neg (by decide), if_pos rfl, hg, hT]
  rw [hR]
  have HR := Lib.hid hr
  rw [hg] at hb RB
  rw [hT] at RB
  clear hR hr hN hRd hk hT hg hn
  obtain ⟨val, err⟩ := r
  simp only at RB HR hb
  go_enter Try.func30, Try.ntmps30
  go_wp2_with fail
  refine RB.out.mono ?_
  rintro e w1 ⟨rfl, rfl⟩
  go_wp2
  (try simp only [Exit.inBlock, Exit.then])
  refine bodyPost_ret (results_tmp4 rfl _ _ _) rfl ?_
  rw [HR.out]
  exact ⟨none, 0, rfl, Rd.nil _ _, HB.out⟩

set_option maxHeartbeats 400000 in
theorem step_5a (hs : N ≤ 140737488351232) (n : Int) (E : Nat) (hE : cutN n (l.length - k) = E) (hE0 : ¬ E = 0) (hB : Calls Try.prog 33 #[.slice A N cap, .int .i64 (k : Int), .int .i64 n] (w.alloc (.cells #[.int .i64 5, .int .i64 n] 51)) fun e w' => e = .returned (.tuple #[.slice none 0 0, .int .i64 (k : Int), .int .i64 (E : Int)]) ∧ (w.alloc (.cells #[.int .i64 5, .int .i64 n] 51)) = w') :
    Calls Try.prog 30 #[.slice A N cap, .int .i64 (k : Int), .agg #[.int .i64 5, .int .i64 n]] w (StepPost w (askR l k 5 n)) := by
  obtain ⟨R, hR⟩ : ∃ R, askR l k 5 n = R := ⟨_, rfl⟩
  have hr : R = ⟨0, [], E, k⟩ := by
    rw [← hR, askR, if_neg (by decide), if_neg (by decide), if_neg (by decide), if_neg (by decide), if_pos rfl, hE, if_neg hE0, if_neg hE0]
  rw [hR]
  have HR := Lib.hid hr
  have HB := Lib.hid (box_below w 5 n)
  have RB := Lib.hid hB
  clear hR hr hE hE0 hB
  go_enter Try.func30, Try.ntmps30
  go_wp2_with fail
  refine RB.out.mono ?_
  rintro e w1 ⟨rfl, rfl⟩
  go_wp2
  (try simp only [Exit.inBlock, Exit.then])
  refine bodyPost_ret (results_tmp4 rfl _ _ _) rfl ?_
  rw [HR.out]
  exact ⟨none, 0, rfl, Rd.nil _ _, HB.out⟩

set_option maxHeartbeats 400000 in
theorem step_5b (hN : l.length = N) (hRd : Rd w A l) (hs : N ≤ 140737488351232) (hc : N ≤ cap) (m : Nat) (hm : k + m ≤ N) :
    Calls Try.prog 30 #[.slice A N cap, .int .i64 (k : Int), .agg #[.int .i64 5, .int .i64 (m : Int)]] w (StepPost w (askR l k 5 (m : Int))) := by
  obtain ⟨R, hR⟩ : ∃ R, askR l k 5 (m : Int) = R := ⟨_, rfl⟩
  obtain ⟨X, hX⟩ : ∃ X, (l.drop k).take m = X := ⟨_, rfl⟩
  have hXl : X.length = m := by rw [← hX, List.length_take, List.length_drop]; omega
  have hE : cutN (m : Int) (l.length - k) = 0 := by rw [cutN, if_neg (by omega), if_neg (by omega)]
  have hr : R = ⟨0, X, 0, k + m⟩ := by
    rw [← hR, askR, if_neg (by decide), if_neg (by decide), if_neg (by decide), if_neg (by decide), if_pos rfl, hE, if_pos rfl, if_pos rfl, Int.toNat_natCast, hX]
  rw [hR]
  have HR := Lib.hid hr
  have HB := Lib.hid (box_below w 5 (m : Int))
  have RB := Lib.hid (refBytes_ok (w := w.alloc (.cells #[.int .i64 5, .int .i64 (m : Int)] 51)) (A := A) (cap := cap) (l := l) (N := N) (k := k) m hN (hRd.below HB.out) hm hs hc)
  unfold RBPost at RB
  rw [hX] at RB
  obtain ⟨T, hT⟩ : ∃ T, k + m = T := ⟨_, rfl⟩
  rw [hT] at RB HR
  have HXL := Lib.hid hXl
  clear hR hr hE hN hRd hm hT hX hXl hc
  go_enter Try.func30, Try.ntmps30
  go_wp2_with fail
  refine RB.out.mono ?_
  rintro e w1 ⟨A1, c1, rfl, rfl, hr1⟩
  have HR1 := Lib.hid hr1
  clear hr1
  go_wp2
  (try simp only [Exit.inBlock, Exit.then])
  refine bodyPost_ret (results_tmp4 rfl _ _ _) rfl ?_
  rw [HR.out]
  refine ⟨A1, c1, ?_, HR1.out, HB.out⟩
  rw [HXL.out]
  rfl

set_option maxHeartbeats 400000 in
theorem step_0 (hN : l.length = N) (hs : N ≤ 140737488351232) (q n : Int) (h1 : (q == 1) = false) (h2 : (q == 2) = false) (h3 : (q == 3) = false) (h4 : (q == 4) = false) (h5 : (q == 5) = false) :
    Calls Try.prog 30 #[.slice A N cap, .int .i64 (k : Int), .agg #[.int .i64 q, .int .i64 n]] w (StepPost w (askR l k q n)) := by
  obtain ⟨R, hR⟩ : ∃ R, askR l k q n = R := ⟨_, rfl⟩
  have hr : R = ⟨0, [], if k < N then 4 else 0, k⟩ := by
    rw [← hR, askR, if_neg (beq_eq_false_iff_ne.1 h1), if_neg (beq_eq_false_iff_ne.1 h2), if_neg (beq_eq_false_iff_ne.1 h3), if_neg (beq_eq_false_iff_ne.1 h4), if_neg (beq_eq_false_iff_ne.1 h5), hN]
  rw [hR]
  have HR := Lib.hid hr
  have HB := Lib.hid (box_below w q n)
  clear hR hr hN
  by_cases hk : k < N
  · go_enter Try.func30, Try.ntmps30
    go_wp2
    (try simp only [Exit.inBlock, Exit.then])
    refine bodyPost_ret (results_tmp4 rfl _ _ _) rfl ?_
    rw [HR.out, if_pos hk]
    exact ⟨none, 0, rfl, Rd.nil _ _, HB.out⟩
  · go_enter Try.func30, Try.ntmps30
    go_wp2
    (try simp only [Exit.inBlock, Exit.then])
    refine bodyPost_ret (results_tmp4 rfl _ _ _) rfl ?_
    rw [HR.out, if_neg hk]
    exact ⟨none, 0, rfl, Rd.nil _ _, HB.out⟩

theorem step_any (hN : l.length = N) (hRd : Rd w A l) (hs : N ≤ 140737488351232) (hc : N ≤ cap) (hk : k ≤ N) (q n : Int) (hn : n ≤ 9223372036854775807) :
    Calls Try.prog 30 #[.slice A N cap, .int .i64 (k : Int), .agg #[.int .i64 q, .int .i64 n]] w (StepPost w (askR l k q n)) := by
  by_cases h1 : q = 1
  · subst h1
    by_cases hkN : k = N
    · exact step_1a hN hs hkN n
    · exact step_1b hN hRd hs hc (by omega) n
  by_cases h2 : q = 2
  · subst h2
    by_cases h4 : k + 4 ≤ N
    · exact step_2b hN hRd hs h4 n
    · exact step_2a hN hs hk (by omega) n
  by_cases h3 : q = 3
  · subst h3; exact step_3 hN hRd hs hk n
  by_cases h4 : q = 4
  · subst h4; exact step_4 hN hRd hs hk n hn
  by_cases h5 : q = 5
  · subst h5
    by_cases hn0 : n < 0
    · exact step_5a hs n 2 (by rw [cutN, if_pos hn0]) (by decide) (refBytes_neg n hn0)
    · by_cases hn1 : (N : Int) - (k : Int) < n
      · exact step_5a hs n 3 (by rw [cutN, if_neg hn0, if_pos (by omega)]) (by decide) (refBytes_short n (by omega) hk hs hn1)
      · obtain ⟨m, rfl⟩ := Int.eq_ofNat_of_zero_le (show 0 ≤ n by omega)
        exact step_5b hN hRd hs hc m (by omega)
  exact step_0 hN hs q n (beq_eq_false_iff_ne.2 h1) (beq_eq_false_iff_ne.2 h2) (beq_eq_false_iff_ne.2 h3) (beq_eq_false_iff_ne.2 h4) (beq_eq_false_iff_ne.2 h5)

end

end Go.Proofs.Ytnbohkiimbooaaa
