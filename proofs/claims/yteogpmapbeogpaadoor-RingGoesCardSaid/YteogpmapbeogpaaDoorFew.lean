/-
  The laws' calls in a row, and what the laws' helper few does: whether there are at most so many, none of them too long. Nothing has changed. Condition: not more calls than memory allows.
-/
import Derived.Test.YteogpmapbeogpaaDoorAcl
namespace Go.Proofs.YteogpmapbeogpaaDoor
open Go.RowKit Go.Shelf

/-- One of the laws' calls, as it lies in memory. -/
structure Ac where
  wh : Int
  B : Option Addr
  M : Nat
  cm : Nat
  ofs : Int
  nn : Int
abbrev Ac.val (a : Ac) : Value := .agg #[.int .i64 a.wh, .slice a.B a.M a.cm, .int .i64 a.ofs, .int .i64 a.nn]
/-- A row of calls. -/
def RdA (w : World) (A : Option Addr) (ls : List Ac) : Prop :=
  ∀ (i : Nat) (a : Ac), ls[i]? = some a → ∃ ad, A = some ad ∧ w.cell? (ad.add (i * 4)) = some (.int .i64 a.wh) ∧ w.cell? (ad.add (i * 4 + 1)) = some (.slice a.B a.M a.cm) ∧ w.cell? (ad.add (i * 4 + 2)) = some (.int .i64 a.ofs) ∧ w.cell? (ad.add (i * 4 + 3)) = some (.int .i64 a.nn)
theorem RdA.below {w w' : World} {A : Option Addr} {ls : List Ac} (h : RdA w A ls) (hb : Below w.heap.size w w') : RdA w' A ls := by
  intro i a hi
  obtain ⟨ad, hA, h0, h1, h2, h3⟩ := h i a hi
  exact ⟨ad, hA, (hb.cell (cell_lt h0)).trans h0, (hb.cell (cell_lt h1)).trans h1, (hb.cell (cell_lt h2)).trans h2, (hb.cell (cell_lt h3)).trans h3⟩
theorem addr_next (a : Addr) (k n : Nat) : (a.add k).add (n + 1) = { block := (a.add k).block, off := (a.add k).off + (n + 1) } := by
  rfl
theorem RdA.at {w : World} {A : Option Addr} {ls : List Ac} (h : RdA w A ls) {i : Nat} {a : Ac} (hi : ls[i]? = some a) : ∃ ad, A = some ad ∧ w.cell? (ad.add (i * 4)) = some (.int .i64 a.wh) ∧ w.cell? { block := (ad.add (i * 4)).block, off := (ad.add (i * 4)).off + 1 } = some (.slice a.B a.M a.cm) ∧ w.cell? { block := (ad.add (i * 4)).block, off := (ad.add (i * 4)).off + 2 } = some (.int .i64 a.ofs) ∧ w.cell? { block := (ad.add (i * 4)).block, off := (ad.add (i * 4)).off + 3 } = some (.int .i64 a.nn) := by
  obtain ⟨ad, hA, h0, h1, h2, h3⟩ := h i a hi
  refine ⟨ad, hA, h0, ?_, ?_, ?_⟩
  · rw [← h1, ← addr_add_add]; rfl
  · rw [← h2, ← addr_add_add]; rfl
  · rw [← h3, ← addr_add_add]; rfl

def okA (a : Ac) : Bool := decide (a.M ≤ 100) && !(decide (300 < a.nn) && decide (a.nn ≤ 131072) && (a.wh == 3 || a.wh == 4))
def fw (ls : List Ac) (most : Int) : Bool := decide ((ls.length : Int) ≤ most) && ls.all okA
theorem fw_long {ls : List Ac} {most : Int} (h : most < ls.length) : fw ls most = false := by
  unfold fw
  rw [decide_eq_false (by omega)]
  rfl
theorem fw_bad {ls : List Ac} {most : Int} {i : Nat} {a : Ac} (h : ls[i]? = some a) (hb : okA a = false) : fw ls most = false := by
  unfold fw
  have : ls.all okA = false := List.all_eq_false.2 ⟨a, List.mem_of_getElem? h, by rw [hb]; decide⟩
  rw [this, Bool.and_false]
theorem fw_end {ls : List Ac} {most : Int} {i : Nat} (h : (ls.take i).all okA = true) (hi : ls.length ≤ i) (hm : (ls.length : Int) ≤ most) : fw ls most = true := by
  rw [List.take_of_length_le hi] at h
  unfold fw
  rw [h, decide_eq_true hm]
  rfl

set_option maxRecDepth 100000 in
set_option maxHeartbeats 4000000 in
theorem few_any (w : World) (A : Option Addr) (ls : List Ac) (N c : Nat) (most : Int) (hN : ls.length = N) (hb0 : (N : Int) ≤ most → N ≤ 1000000000) (hR : RdA w A ls) :
    Calls Tryd.prog 11 #[.slice A N c, .int .i64 most] w fun e w' => e = .returned (.bool (fw ls most)) ∧ w' = w := by
  obtain ⟨R, hRR⟩ : ∃ R, fw ls most = R := ⟨_, rfl⟩
  rw [hRR]
  have HR := Lib.hid hRR
  have HRD := Lib.hid hR
  have HN := Lib.hid hN
  clear hRR hR hN
  by_cases hm : most < (N : Int)
  · have HE : Hid (R = false) := Lib.hid (by rw [← HR.out]; exact fw_long (by rw [HN.out]; exact hm))
    have hd : decide (most < (N : Int)) = true := decide_eq_true hm
    go_enter Tryd.func11, Tryd.ntmps11
    go_wp2
    go_ret
    exact ⟨by rw [HE.out]; rfl, rfl⟩
  · have hd : decide (most < (N : Int)) = false := decide_eq_false hm
    have hb := hb0 (by omega)
    clear hb0
    have HM : Hid ((ls.length : Int) ≤ most) := Lib.hid (by rw [HN.out]; omega)
    clear hm
    go_enter Tryd.func11, Tryd.ntmps11
    go_wp2
    go_loop [5] (fun p => ∃ i : Nat, i ≤ N ∧ p = .int .i64 (i : Int) ∧ Hid ((ls.take i).all okA = true)) (fun p => N - (intOf p).toNat)
    case atStart => exact ⟨0, Nat.zero_le _, rfl, Lib.hid (by simp)⟩
    case round =>
      obtain ⟨i, hi, rfl, HA⟩ := hrel
      by_cases hlt : i < N
      · obtain ⟨a, ha⟩ : ∃ a, ls[i]? = some a := ⟨_, List.getElem?_eq_getElem (by rw [HN.out]; exact hlt)⟩
        obtain ⟨ad, hA, h0, h1, h2, h3⟩ := HRD.out.at ha
        subst hA
        have HOK : Hid (okA a = true → ((ls.take (i + 1)).all okA = true)) := Lib.hid (fun h => by rw [List.take_add_one, ha, List.all_append, HA.out]; simp [h])
        have HBD : Hid (okA a = false → R = false) := Lib.hid (fun h => by rw [← HR.out]; exact fw_bad ha h)
        obtain ⟨wh, B, M, cm, ofs, nn⟩ := a
        simp only at h0 h1 h2 h3
        have HO : Hid (okA ⟨wh, B, M, cm, ofs, nn⟩ = (decide (M ≤ 100) && !(decide (300 < nn) && decide (nn ≤ 131072) && (wh == 3 || wh == 4)))) := Lib.hid rfl
        obtain ⟨O, hO⟩ : ∃ O, okA ⟨wh, B, M, cm, ofs, nn⟩ = O := ⟨_, rfl⟩
        rw [hO] at HOK HBD HO
        clear ha h2 hO
        by_cases q1 : 100 < M
        · have e1 : decide ((100 : Int) < (M : Int)) = true := decide_eq_true (by omega)
          have HE : Hid (R = false) := Lib.hid (HBD.out (by rw [HO.out, decide_eq_false (by omega)]; rfl))
          go_wp2
          go_ret
          exact ⟨by rw [HE.out]; rfl, rfl⟩
        · have e1 : decide ((100 : Int) < (M : Int)) = false := decide_eq_false (by omega)
          have f1 : decide (M ≤ 100) = true := decide_eq_true (by omega)
          obtain ⟨q2, e2⟩ : ∃ q, decide (300 < nn) = q := ⟨_, rfl⟩
          obtain ⟨q3, e3⟩ : ∃ q, decide (nn ≤ 131072) = q := ⟨_, rfl⟩
          obtain ⟨q4, e4⟩ : ∃ q, (wh == 3) = q := ⟨_, rfl⟩
          obtain ⟨q5, e5⟩ : ∃ q, (wh == 4) = q := ⟨_, rfl⟩
          have HO2 : Hid (O = !(q2 && q3 && (q4 || q5))) := Lib.hid (by rw [HO.out, f1, e2, e3, e4, e5]; rfl)
          clear f1 HO
          have good : O = true → (∃ i_1 : Nat, i_1 ≤ N ∧ Value.int .i64 ((i : Int) + 1) = .int .i64 (i_1 : Int) ∧ Hid ((ls.take i_1).all okA = true)) ∧ N - (intOf (.int .i64 ((i : Int) + 1))).toNat < N - (intOf (.int .i64 (i : Int))).toNat := fun h =>
            ⟨⟨i + 1, by omega, by simp, Lib.hid (HOK.out h)⟩, by simp [intOf]; omega⟩
          have GD := Lib.hid good
          clear good
          cases q2
          · go_wp2
            exact GD.out (by rw [HO2.out]; rfl)
          · cases q3
            · go_wp2
              exact GD.out (by rw [HO2.out]; rfl)
            · cases q4
              · cases q5
                · go_wp2
                  exact GD.out (by rw [HO2.out]; rfl)
                · go_wp2
                  go_ret
                  exact ⟨by rw [HBD.out (by rw [HO2.out]; rfl)]; rfl, rfl⟩
              · go_wp2
                go_ret
                exact ⟨by rw [HBD.out (by rw [HO2.out]; rfl)]; rfl, rfl⟩
      · have HE : Hid (R = true) := Lib.hid (by rw [← HR.out]; exact fw_end HA.out (by rw [HN.out]; omega) HM.out)
        go_wp2
        go_ret
        exact ⟨by rw [HE.out]; rfl, rfl⟩

end Go.Proofs.YteogpmapbeogpaaDoor
