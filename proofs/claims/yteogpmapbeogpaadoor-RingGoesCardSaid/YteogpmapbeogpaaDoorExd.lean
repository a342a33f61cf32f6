/-
  What extend of a ring's buffer does: it appends bytes for which the size leaves room. Conditions: the bytes do not lie in the ring's own blocks.
-/
import Derived.Test.YteogpmapbeogpaaDoorRep
namespace Go.Proofs.YteogpmapbeogpaaDoor
open Go.RowKit

def ExdPost (w : World) (x lim o t : Nat) (v : Value) (l : List UInt8) (e : Ending) (w' : World) : Prop :=
  e = .returned (.tuple #[]) ∧ ∃ v', Rb w' x lim v' o t ∧ w'.ownsRow 0 5 1 v' l.length (l.map byt) ∧ Chg (Fp x v) w w' ∧ New w v v'

theorem exd_fin {w w1 w2 : World} {x lim o t n M : Nat} {v u : Value} {A2 : Option Addr} {c2 : Nat} {p m : List UInt8} (hn : p.length = n) (hM : m.length = M) (hb : Rb w1 x lim u o t) (hch : Chg (Fp x v) w w1) (hnw : New w v u) (hou : w1.ownsRow 0 5 1 u n (p.map byt))
    (ho : w2.ownsRow 0 5 1 (.slice A2 (n + M) c2) (n + M) (p.map byt ++ m.map byt)) (hg : w1.grownBy w2 u.ownBlock) (he : (Value.slice A2 (n + M) c2).ownBlock = u.ownBlock ∨ (Value.slice A2 (n + M) c2).ownBlock = some w1.heap.size) :
    ExdPost w x lim o t v (p ++ m) (.returned (.tuple #[])) (w2.setCell ⟨x, 1, none⟩ (.slice A2 (n + M) c2)) := by
  have hb2 : Rb w2 x lim u o t := hb.same (hg.block x hb.lt (fun e => hb.row_ne hou e.symm))
  refine ⟨rfl, _, hb2.set1 _, ?_, (hch.fp (Chg.of_row hg) hnw).fp (Chg.of_self (grown_setCell _ _ _ _)) hnw, ?_⟩
  · rw [List.length_append, hn, hM, List.map_append]
    exact own_same ho fun g hgg => Below.heap_setCell w2 ⟨x, 1, none⟩ _ g (fun e => hb2.row_ne ho (by rw [hgg, e]))
  · intro k hk
    rcases he with e | e
    · exact hnw k (by rw [← e]; exact hk)
    · rw [e] at hk
      injection hk with hk
      have := hch.size
      exact .inr (by omega)

set_option maxRecDepth 100000 in
set_option maxHeartbeats 4000000 in
theorem extend_old {w : World} {x lim o t n c : Nat} {A : Option Addr} {p : List UInt8} (hn : p.length = n) (hb : Rb w x lim (.slice A n c) o t) (ho : w.ownsRow 0 5 1 (.slice A n c) n (p.map byt)) (hlim : lim ≤ 134217728) (B : Option Addr) (m : List UInt8) (M cm : Nat) (hM : m.length = M) (hR : Rd w B m) (hfit : n + M ≤ lim) (hc : n + M ≤ c) :
    Calls Tryd.prog 46 #[.pointer (some ⟨x, 0, none⟩), .slice B M cm] w (ExdPost w x lim o t (.slice A n c) (p ++ m)) := by
  have c1 := hb.c1
  have HB := Lib.hid hb
  have HO := Lib.hid ho
  have HN := Lib.hid hn
  have HM := Lib.hid hM
  have HR := Lib.hid hR
  have hd : decide ((c : Int) < (n : Int) + (M : Int)) = false := decide_eq_false (by omega)
  clear hn hb ho hM hR
  go_enter Tryd.func46, Tryd.ntmps46
  go_wp2_with (at_builtin; refine wpList_append_vals Tryd.underlying22 byte_info rfl rfl _ _ rfl 0 (.slice A n c) n (p.map byt) rfl HO.out B (m.map byt) (byt_one m) M cm (by rw [List.length_map]; exact HM.out) rfl HR.out (by omega) (by omega) (Nat.zero_le _) ?_; intro v1 w1 ho1 hg1 he1; obtain ⟨A2, c2, rfl, hc2⟩ := own_form ho1; have hb2 : Rb w1 x lim (.slice A n c) o t := HB.out.same (hg1.block x HB.out.lt (fun e => HB.out.row_ne HO.out e.symm)); have cc := hb2.c1; have ff := hb2.free 1; have FN := Lib.hid (exd_fin HN.out HM.out HB.out (Chg.refl _ _) (New.refl _ _) HO.out ho1 hg1 he1); clear ho1 hg1 he1 hb2)
  go_end0
  exact FN.out

/-- copy into a row, whole. -/
theorem copy_all {w : World} {base n K : Nat} {A : Option Addr} {xs : List Value} (ho : w.ownsRow base 5 1 (.slice A n K) n xs) (B : Option Addr) (p : List UInt8) (c : Nat) (hp : p.length = n) (hR : Rd w B p) :
    ∃ w', (Builtin.copy_ #[22, 22] 3 #[.slice A n K, .slice B n c]).run Tryd.prog w = .ok (.int .i64 (n : Int)) w' ∧ w'.ownsRow base 5 1 (.slice A n K) n (p.map byt) ∧ w.grownBy w' (Value.slice A n K).ownBlock := by
  obtain ⟨w', h1, h2, h3⟩ := copy_own ho 0 (Nat.zero_le _) B p n c hp hR n (by omega)
  refine ⟨w', ?_, ?_, h3⟩
  · have e : off A K 0 = A := by
      unfold off
      split
      · rfl
      · cases A with
        | none => rfl
        | some a => simp [Addr.add]
    rw [e] at h1
    simpa using h1
  · have hl := ho.1
    rw [Nat.mul_one] at hl
    rw [List.take_zero, List.nil_append, Nat.zero_add, List.drop_of_length_le (by omega), List.append_nil, List.take_of_length_le (by omega)] at h2
    exact h2

set_option maxRecDepth 100000 in
set_option maxHeartbeats 4000000 in
theorem extend_new {w : World} {x lim o t n c : Nat} {A : Option Addr} {p : List UInt8} (hn : p.length = n) (hb : Rb w x lim (.slice A n c) o t) (ho : w.ownsRow 0 5 1 (.slice A n c) n (p.map byt)) (hlim : lim ≤ 134217728) (B : Option Addr) (m : List UInt8) (M cm : Nat) (hM : m.length = M) (hR : Rd w B m) (hO : Out B m (Fp x (.slice A n c))) (hfit : n + M ≤ lim) (hc : c < n + M) (hnc : n ≤ c)
    (K : Nat) (z : Int) (hz : z = (K : Int)) (hK : K = min lim (max (n + M) (2 * c))) (hcase : (¬ (2 * (c : Int) < (lim : Int)) ∧ (n : Int) + (M : Int) < 2 * (c : Int) ∧ z = lim) ∨ ((n : Int) + (M : Int) < 2 * (c : Int) ∧ 2 * (c : Int) < (lim : Int) ∧ z = 2 * (c : Int)) ∨ (¬ ((n : Int) + (M : Int) < 2 * (c : Int)) ∧ lim = n + M ∧ z = (n : Int) + (M : Int)) ∨ (¬ ((n : Int) + (M : Int) < 2 * (c : Int)) ∧ (n : Int) + (M : Int) < (lim : Int) ∧ z = (n : Int) + (M : Int))) :
    Calls Tryd.prog 46 #[.pointer (some ⟨x, 0, none⟩), .slice B M cm] w (ExdPost w x lim o t (.slice A n c) (p ++ m)) := by
  obtain ⟨w1, xs, hmk, hox, hbx⟩ := make_bytes n K (by omega) (by omega) w.drew
  have hsz : w.drew.heap.size = w.heap.size := rfl
  rw [hsz] at hmk hox hbx
  obtain ⟨GA, hGA⟩ : ∃ GA : Option Addr, some ⟨w.heap.size, 0, none⟩ = GA := ⟨_, rfl⟩
  rw [hGA] at hmk hox
  have hb1 : Rb w1 x lim (.slice A n c) o t := hb.same (hbx.block x hb.lt)
  have hod : w.drew.ownsRow 0 5 1 (.slice A n c) n (p.map byt) := own_same ho fun _ _ => rfl
  have R1 : Rd w1 A p := Rv.below (Rv.of_own hod) hbx
  obtain ⟨w2, hcp, ho2, hg2⟩ := copy_all hox A p c hn R1
  have hb2 : Rb w2 x lim (.slice A n c) o t := hb1.same (hg2.block x hb1.lt (fun e => hb1.row_ne hox e.symm))
  have c1 := hb.c1
  have c0 := hb.c0
  have c2 := hb1.c1
  have c3 := hb2.c1
  have f3 := hb2.free 1
  obtain ⟨w3, hw3⟩ : ∃ w3, w2.setCell ⟨x, 1, none⟩ (.slice GA n K) = w3 := ⟨_, rfl⟩
  have hb3 : Rb w3 x lim (.slice GA n K) o t := by rw [← hw3]; exact hb2.set1 _
  have c4 := hb3.c1
  have ho3 : w3.ownsRow 0 5 1 (.slice GA n K) n (p.map byt) := by
    rw [← hw3]
    exact own_zero (own_same ho2 fun g hgg => Below.heap_setCell w2 ⟨x, 1, none⟩ _ g (fun e => hb2.row_ne ho2 (by rw [hgg, e])))
  have hnw : New w (.slice A n c) (.slice GA n K) := fun k hk => by
    rw [← hGA] at hk
    injection hk with hk
    exact .inr (by rw [← hk]; exact Nat.le_refl _)
  have ch1 : Chg (Fp x (.slice A n c)) w w1 := ⟨hbx.os, hbx.tape, hbx.output, hbx.size, fun k hk _ => hbx.block k hk⟩
  have hch : Chg (Fp x (.slice A n c)) w w3 := by
    rw [← hw3]
    exact (ch1.fp (Chg.of_row hg2) hnw).fp (Chg.of_self (grown_setCell _ _ _ _)) hnw
  have R3 : Rd w3 B m := rd_chg hR hch hO
  have HB := Lib.hid hb3
  have HO := Lib.hid ho3
  have HN := Lib.hid hn
  have HM := Lib.hid hM
  have HR := Lib.hid R3
  have HC := Lib.hid (And.intro hch hnw)
  have hd : decide ((c : Int) < (n : Int) + (M : Int)) = true := decide_eq_true (by omega)
  have hKn : n ≤ K := by omega
  clear hn hb ho hod hM hR hox hbx hb1 R1 ho2 hg2 hb2 hb3 ho3 hnw ch1 hch R3 hO hsz hGA hK
  rcases hcase with ⟨h1, h3, h2⟩ | ⟨h1, h3, h2⟩ | ⟨h1, h3, h2⟩ | ⟨h1, h3, h2⟩
  all_goals
    rw [← hz, h2] at hmk
    clear h2 hz
    go_enter Tryd.func46, Tryd.ntmps46
    go_wp2
    go_region
    all_goals (go_wp2_with (at_builtin; refine wpList_append_vals Tryd.underlying22 byte_info rfl rfl _ _ rfl 0 (.slice GA n K) n (p.map byt) rfl HO.out B (m.map byt) (byt_one m) M cm (by rw [List.length_map]; exact HM.out) rfl HR.out (by omega) (by omega) (Nat.zero_le _) ?_; intro v1 w4 ho1 hg1 he1; obtain ⟨A2, c9, rfl, hc9⟩ := own_form ho1; have hb2 : Rb w4 x lim (.slice GA n K) o t := HB.out.same (hg1.block x HB.out.lt (fun e => HB.out.row_ne HO.out e.symm)); have cc := hb2.c1; have ff := hb2.free 1; have FN := Lib.hid (exd_fin HN.out HM.out HB.out HC.out.1 HC.out.2 HO.out ho1 hg1 he1); clear ho1 hg1 he1 hb2); go_end0; exact FN.out)

theorem extend_any {w : World} {x lim o t n : Nat} {v : Value} {p : List UInt8} (hn : p.length = n) (hb : Rb w x lim v o t) (ho : w.ownsRow 0 5 1 v n (p.map byt)) (hlim : lim ≤ 134217728) (B : Option Addr) (m : List UInt8) (M cm : Nat) (hM : m.length = M) (hR : Rd w B m) (hO : Out B m (Fp x v)) (hfit : n + M ≤ lim) :
    Calls Tryd.prog 46 #[.pointer (some ⟨x, 0, none⟩), .slice B M cm] w (ExdPost w x lim o t v (p ++ m)) := by
  obtain ⟨A, c, rfl, hc⟩ := own_form ho
  rcases Nat.lt_or_ge c (n + M) with h | h
  · have hcase : ∃ K : Nat, K = min lim (max (n + M) (2 * c)) := ⟨_, rfl⟩
    obtain ⟨K, hK⟩ := hcase
    exact extend_new hn hb ho hlim B m M cm hM hR hO hfit h hc K K rfl hK (by omega)
  · exact extend_old hn hb ho hlim B m M cm hM hR hfit h

end Go.Proofs.YteogpmapbeogpaaDoor
