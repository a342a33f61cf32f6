/-
  What spread.Spread does: it returns the symbol of each index of a valid table, in new memory, or the error. Nothing that was there has changed. Condition: a slice can hold the norms.
-/
import Derived.Test.YtonapehlhkoplaaChk
import Derived.Test.YtonapehlhkoplaaRar
import Derived.Test.YtonapehlhkoplaaTop
import Derived.Test.YtonapehlhkoplaaInv
namespace Go.Proofs.Ytonapehlhkoplaa
open Go.RowKit Go.Shelf

theorem own_base {w : World} {base base' : Nat} {e : TypeId} {v : Value} {n : Nat} {xs : List Value} (h : w.ownsRow base e 1 v n xs) (hb : base' ≤ base) : w.ownsRow base' e 1 v n xs := by
  refine ⟨h.1, ?_⟩
  rcases h.2 with h1 | ⟨g, c, cur, rfl, h2, h3⟩
  · exact .inl h1
  · exact .inr ⟨g, c, cur, rfl, Nat.le_trans hb h2, h3⟩
theorem own_addr {w : World} {base n c : Nat} {e : TypeId} {A : Option Addr} {xs : List Value} (h : w.ownsRow base e 1 (.slice A n c) n xs) : ∀ ad, A = some ad → base ≤ ad.block ∧ ad.block < w.heap.size := by
  intro ad e
  subst e
  rcases h.2 with ⟨h1, _⟩ | ⟨g, c, cur, h1, h2, h3, _⟩
  · cases h1
  · injection h1 with h1
    injection h1 with h1
    subst h1
    exact ⟨h2, (Array.getElem?_eq_some_iff.1 h3).1⟩
/-- A valid table. -/
theorem vt_iff {y : Int} {l : List Int} : vt y l 256 9 = true ↔ ∃ n : Nat, y = (n : Int) ∧ Vt n l := by
  unfold vt
  simp only [Bool.and_eq_true, decide_eq_true_iff]
  constructor
  · rintro ⟨⟨⟨⟨⟨⟨h1, h2⟩, h3⟩, h4⟩, h5⟩, h6⟩, h7⟩
    unfold fl at h7
    rw [Bool.and_eq_true, decide_eq_true_iff] at h7
    refine ⟨y.toNat, by omega, by omega, h4, by omega, h6, h7.1, ?_⟩
    rw [h7.2]
    exact (Int.natCast_pow 2 y.toNat).symm
  · rintro ⟨n, rfl, h⟩
    have h1 := h.log
    have h2 := h.len
    refine ⟨⟨⟨⟨⟨⟨by omega, by omega⟩, by omega⟩, h.pos⟩, by omega⟩, h.last⟩, ?_⟩
    unfold fl
    rw [Bool.and_eq_true, decide_eq_true_iff]
    refine ⟨h.ok, ?_⟩
    rw [h.sum, Int.toNat_natCast]
    exact Int.natCast_pow 2 n
theorem rs_small {y : Nat} {l : List Int} (h : Vt y l) : ∀ x ∈ rs 0 l, x ≤ 1000 := by
  intro x hx
  have := (List.getElem?_eq_some_iff.1 (rs_mem hx)).1
  have h2 := h.len
  omega
theorem ors_small {y : Nat} {l : List Int} (h : Vt y l) : ∀ x ∈ ors 0 l, x ≤ 1000 := by
  intro x hx
  obtain ⟨z, hz, _⟩ := ors_mem hx
  have := (List.getElem?_eq_some_iff.1 hz).1
  have h2 := h.len
  omega
theorem chg_below {w W : World} {b : Nat} (h : Chg (fun x => x = b) w W) {B : Nat} {w0 : World} (h0 : Below B w0 w) (hB : B ≤ w0.heap.size) (hb : B ≤ b) : Below B w0 W :=
  ⟨h.os.trans h0.os, h.tape.trans h0.tape, h.output.trans h0.output, Nat.le_trans h0.size h.size, fun k hk => (h.block k (by have := h0.size; omega) (fun (e : k = b) => by omega)).trans (h0.block k hk)⟩
theorem grown_chg {w W : World} {b : Nat} (h : w.grownBy W (some b)) : Chg (fun x => x = b) w W := ⟨h.os, h.tape, h.output, h.size, fun k hk hn => h.block k hk (fun e => hn (Option.some.inj e))⟩

set_option maxRecDepth 100000 in
set_option maxHeartbeats 4000000 in
theorem spread_ok (w : World) (y s : Nat) (A : Option Addr) (l : List Int) (N c : Nat) (hN : l.length = N) (hv : Vt y l) (hse : 2 ^ y = s) (hR : Ri w A l) :
    Calls Try.prog 29 #[tb y A N c] w fun e w' => ∃ g, e = .returned (.tuple #[.slice (some ⟨g, 0, none⟩) s s, .int .i64 0]) ∧ w'.ownsRow w.heap.size 3 1 (.slice (some ⟨g, 0, none⟩) s s) s ((spl s l).map nv) ∧ Below w.heap.size w w' := by
  have hN2 : N ≤ 256 := by rw [← hN]; exact hv.len
  have hy9 := hv.log
  have hs5 : s ≤ 512 := by rw [← hse]; exact hv.size
  have hs1 : 1 ≤ s := by rw [← hse]; exact Nat.one_le_two_pow
  have hvt : err (vt (y : Int) l 256 9) = 0 := by rw [vt_iff.2 ⟨y, rfl, hv⟩]; rfl
  have htot := hv.total
  have hst := hv.start
  rw [hse] at htot hst
  have b1 : Below w.heap.size w (w.alloc (.cells #[.int .i64 (y : Int), .slice A N c] 24)) := (Below.refl _ w).alloc (Nat.le_refl _) _
  have t1 := Tb.new w (y : Int) A N c
  obtain ⟨w1, hw1⟩ : ∃ w1, w.alloc (.cells #[.int .i64 (y : Int), .slice A N c] 24) = w1 := ⟨_, rfl⟩
  rw [hw1] at b1 t1
  have c0 := t1.c0
  have c1 := t1.c1
  have CH : Hid (Calls Try.prog 38 #[tb y A N c, .int .i64 256, .int .i64 9] w1 fun e w' => e = .returned (.int .i64 0) ∧ Below w1.heap.size w1 w') := Lib.hid (by
    have := check_any w1 (y : Int) 256 9 A l N c hN (by omega) (hR.below b1)
    rw [hvt] at this
    exact this)
  have RA : Hid (∀ W, Below w.heap.size w W → Calls Try.prog 40 #[.slice A N c] W fun e w' => ∃ A' r c', e = .returned (.slice A' r c') ∧ w'.ownsRow W.heap.size 3 1 (.slice A' r c') r ((rs 0 l).map nv) ∧ Below W.heap.size W w') := Lib.hid (fun W hb => rare_any W y A l N c hN hv (hR.below hb))
  have OA : Hid (∀ W, Below w.heap.size w W → Calls Try.prog 42 #[.slice A N c] W fun e w' => ∃ A' r c', e = .returned (.slice A' r c') ∧ w'.ownsRow W.heap.size 3 1 (.slice A' r c') r ((ors 0 l).map nv) ∧ Below W.heap.size W w') := Lib.hid (fun W hb => other_any W y A l N c hN hv (hR.below hb))
  have TP : Hid (∀ W base b A' r c', b < base → Mp W b 0 (fun _ => none) → W.ownsRow base 3 1 (.slice A' r c') r ((rs 0 l).map nv) → Calls Try.prog 39 #[.map (some b), .int .i64 (s : Int), .slice A' r c'] W fun e w' => e = .returned (.tuple #[]) ∧ (∃ n, n ≤ 512 ∧ Mp w' b n (m0 s (rs 0 l))) ∧ Chg (fun x => x = b) W w') := Lib.hid (fun W base b A' r c' hb hm ho => by
    have hr : (rs 0 l).length = r := by have := ho.1; simpa using this
    refine (top_any W b s A' (rs 0 l) r c' hr hs5 (by omega) (rs_small hv) hm (rn_own ho) (fun ad e => by have := (own_addr ho ad e).1; omega)).mono ?_
    rintro e w' ⟨rfl, hm', hg⟩
    exact ⟨rfl, ⟨r, by omega, hm'⟩, grown_chg hg⟩)
  have IV : Hid (∀ W base b n A' r c', b < base → n ≤ 512 → Mp W b n (m0 s (rs 0 l)) → W.ownsRow base 3 1 (.slice A' r c') r ((ors 0 l).map nv) → Calls Try.prog 41 #[.map (some b), .int .i64 (s : Int), .slice A' r c'] W fun e w' => e = .returned (.tuple #[]) ∧ (∃ n', Mp w' b n' (fin s l)) ∧ Chg (fun x => x = b) W w') := Lib.hid (fun W base b n A' r c' hb hn hm ho => by
    have hr : (ors 0 l).length = r := by have := ho.1; simpa using this
    obtain ⟨_, _, e1, hc⟩ := own_form ho
    injection e1 with _ _ e1
    have := inv_in 6 (Nat.le_refl _) W b s n (m0 s (rs 0 l)) (ors 0 l) A' c' hs1 hs5 hm hn (rn_own ho) (by omega) (fun ad e => by have := own_addr ho ad e; omega) (ors_small hv) hst
    rw [hr] at this
    exact callsIn_wide.1 this)
  have hsh : wrap64 (2 ^ y) = (s : Int) := pow_wrap hse hs5
  have kb : decide ((y : Int) < 0) = false := decide_eq_false (by omega)
  have B1 := Lib.hid b1
  have T1 := Lib.hid t1
  have hmm := @run_makeMap Try.prog
  have HS := Lib.hid hse
  clear b1 t1 hR hN hv hvt htot hst hse
  go_enter Try.func29, Try.ntmps29
  go_wp2_with (first
    | (go_at_call 38; refine CH.out.mono ?_; rintro e w2 ⟨rfl, hb2⟩; have q2 := T1.out.below hb2; have a0 := q2.c0; have a1 := q2.c1; have q3 := q2.below ((Below.refl _ w2).alloc (Nat.le_refl _) (.map #[] 0)); have a3 := q3.c1; have T3 := Lib.hid q3; have Z2 := Lib.hid q2.lt; have B2 := Lib.hid (below_on B1.out (Nat.le_refl _) hb2); clear hb2 q2 q3)
    | (go_at_call 40; refine (RA.out _ (below_on B2.out (Nat.le_refl _) ((Below.refl _ w2).alloc (Nat.le_refl _) (.map #[] 0)))).mono ?_; rintro e w4 ⟨A4, r4, c4, rfl, ho4, hb4⟩; have O4 := Lib.hid ho4; have M4 := Lib.hid ((Mp.made w2).below hb4); have B4 := Lib.hid (below_on (below_on B2.out (Nat.le_refl _) ((Below.refl _ w2).alloc (Nat.le_refl _) (.map #[] 0))) (Nat.le_refl _) hb4); have T4 := Lib.hid (T3.out.below hb4); clear ho4 hb4)
    | (go_at_call 39; refine (TP.out w4 _ w2.heap.size A4 r4 c4 (by simp) M4.out O4.out).mono ?_; rintro e w5 ⟨rfl, ⟨n5, hn5, hm5⟩, hg5⟩; have M5 := Lib.hid hm5; have q5 := T4.out.same (hg5.block _ T4.out.lt (Nat.ne_of_lt Z2.out)); have a5 := q5.c1; have B5 := Lib.hid (chg_below hg5 B4.out (Nat.le_refl _) (Nat.le_of_lt Z2.out)); clear hm5 hg5 q5)
    | (go_at_call 42; refine (OA.out w5 B5.out).mono ?_; rintro e w6 ⟨A6, r6, c6, rfl, ho6, hb6⟩; have O6 := Lib.hid ho6; have M6 := Lib.hid (M5.out.below hb6); have L5 := Lib.hid M5.out.lt; have B6 := Lib.hid (below_on B5.out (Nat.le_refl _) hb6); clear ho6 hb6)
    | (go_at_call 41; refine (IV.out w6 _ w2.heap.size n5 A6 r6 c6 L5.out hn5 M6.out O6.out).mono ?_; rintro e w7 ⟨rfl, ⟨n7, hm7⟩, hg7⟩; have M7 := Lib.hid hm7; have B7 := Lib.hid (chg_below hg7 B6.out (Nat.le_refl _) (Nat.le_of_lt Z2.out)); clear hm7 hg7)
    | (go_at_call 43; refine (list_any w7 w2.heap.size s n7 _ hs5 M7.out).mono ?_; rintro e w8 ⟨g, rfl, ho8, hb8⟩; have O8 := Lib.hid (own_base ho8 B7.out.size); have B8 := Lib.hid (below_on B7.out (Nat.le_refl _) hb8); clear ho8 hb8))
  go_ret2
  exact ⟨g, rfl, O8.out, B8.out⟩

set_option maxRecDepth 100000 in
set_option maxHeartbeats 4000000 in
theorem spread_bad (w : World) (y : Int) (A : Option Addr) (l : List Int) (N c : Nat) (hN : l.length = N) (hb : N ≤ 1000000) (hv : vt y l 256 9 = false) (hR : Ri w A l) :
    Calls Try.prog 29 #[tb y A N c] w fun e w' => e = .returned (.tuple #[.slice none 0 0, .int .i64 13]) ∧ Below w.heap.size w w' := by
  have b1 : Below w.heap.size w (w.alloc (.cells #[.int .i64 y, .slice A N c] 24)) := (Below.refl _ w).alloc (Nat.le_refl _) _
  have t1 := Tb.new w y A N c
  obtain ⟨w1, hw1⟩ : ∃ w1, w.alloc (.cells #[.int .i64 y, .slice A N c] 24) = w1 := ⟨_, rfl⟩
  rw [hw1] at b1 t1
  have c0 := t1.c0
  have c1 := t1.c1
  have CH : Hid (Calls Try.prog 38 #[tb y A N c, .int .i64 256, .int .i64 9] w1 fun e w' => e = .returned (.int .i64 13) ∧ Below w1.heap.size w1 w') := Lib.hid (by
    have := check_any w1 y 256 9 A l N c hN (by omega) (hR.below b1)
    rw [hv] at this
    exact this)
  have B1 := Lib.hid b1
  clear b1 t1 hR hN hv
  go_enter Try.func29, Try.ntmps29
  go_wp2_with (go_at_call 38; refine CH.out.mono ?_; rintro e w2 ⟨rfl, hb2⟩; have B2 := Lib.hid (below_on B1.out (Nat.le_refl _) hb2); clear hb2)
  go_ret2
  exact ⟨rfl, B2.out⟩

end Go.Proofs.Ytonapehlhkoplaa
