/-
  What replace and extend of a ring's buffer do. Conditions: the bytes do not lie in the ring's own blocks.
-/
import Derived.Test.YteogpmapbeogpaaDoorPsh
namespace Go.Proofs.YteogpmapbeogpaaDoor
open Go.RowKit

/-- i of the bytes m have replaced the oldest ones of the full circle l. -/
def RepRel (w : World) (x lim : Nat) (v : Value) (t : Nat) (l m : List UInt8) (i : Nat) (wr : World) : Prop :=
  ∃ p o, Rb wr x lim v o t ∧ wr.ownsRow 0 5 1 v lim (p.map byt) ∧ p.length = lim ∧ o < lim ∧ rot o p = (l ++ m.take i).drop i ∧ Chg (Fp x v) w wr

theorem rep_step {w wr w1 : World} {x lim t o i k : Nat} {v : Value} {l m p : List UInt8} (hb : Rb wr x lim v o t) (ho : wr.ownsRow 0 5 1 v lim (p.map byt)) (hp : p.length = lim) (hol : o < lim) (hr : rot o p = (l ++ m.take i).drop i) (hc : Chg (Fp x v) w wr)
    (h1 : w1.ownsRow 0 5 1 v lim ((p.map byt).take o ++ (((m.drop i).take k).map byt ++ (p.map byt).drop (o + k)))) (hg : wr.drew.grownBy w1 v.ownBlock) (hk : ((m.drop i).take k).length = k) (hkn : k ≤ lim - o) (hl : l.length = lim) (hi : i + k ≤ m.length) (d : Nat) (z : Int) (hz : z = (((o + k) % lim : Nat) : Int)) :
    RepRel w x lim v t l m (i + k) ((w1.drewN d).setCell ⟨x, 2, none⟩ (.int .i64 z)) := by
  subst hz
  have hb1 : Rb (w1.drewN d) x lim v o t := hb.same (hg.block x hb.lt (fun e => hb.row_ne ho e.symm))
  have e1 : (p.map byt).take o ++ (((m.drop i).take k).map byt ++ (p.map byt).drop (o + k)) = (p.take o ++ ((m.drop i).take k ++ p.drop (o + k))).map byt := by simp
  rw [e1] at h1
  have hg' : wr.grownBy (w1.drewN d) v.ownBlock := ⟨hg.os, hg.tape, hg.output, hg.size, hg.block⟩
  have c1 : Chg (Fp x v) wr ((w1.drewN d).setCell ⟨x, 2, none⟩ (.int .i64 (((o + k) % lim : Nat) : Int))) := (Chg.of_row hg').trans (Chg.of_self (grown_setCell _ _ _ _))
  refine ⟨_, (o + k) % lim, hb1.set2 _, own_same (w := w1) h1 (fun g hgg => ?_), ?_, Nat.mod_lt _ (by omega), ?_, hc.trans c1⟩
  · exact Below.heap_setCell (w1.drewN d) ⟨x, 2, none⟩ _ g (fun e => hb1.row_ne (own_same (w := w1) h1 (fun _ _ => rfl)) (by rw [hgg, e]))
  · simp; omega
  · rw [replace_eq hp hol hk hkn, hr]
    have e2 : m.take (i + k) = m.take i ++ (m.drop i).take k := by rw [List.take_add]
    rw [e2, ← List.append_assoc, ← List.drop_drop]
    congr 1
    rw [List.drop_append_of_le_length (l₁ := l ++ m.take i) (by simp; omega)]

def RepPost (w : World) (x lim : Nat) (v : Value) (t : Nat) (l m : List UInt8) (M : Nat) (e : Ending) (w' : World) : Prop := e = .returned (.tuple #[]) ∧ (m = [] ∧ w' = w ∨ m ≠ [] ∧ RepRel w x lim v t l m M w')

set_option maxRecDepth 100000 in
set_option maxHeartbeats 4000000 in
theorem replace_any {w : World} {x lim t : Nat} {v : Value} {l : List UInt8} (B : Option Addr) (m : List UInt8) (M cm : Nat) (hM : m.length = M) (hMc : M ≤ cm) (hMl : M ≤ 1099511627776) (hR : Rd w B m) (hB : Out B m (Fp x v)) (hlim : lim ≤ 134217728) (hl : m ≠ [] → l.length = lim)
    (h0 : m ≠ [] → RepRel w x lim v t l m 0 w) :
    Calls Tryd.prog 47 #[.pointer (some ⟨x, 0, none⟩), .slice B M cm] w (RepPost w x lim v t l m M) := by
  by_cases hm : m = []
  · subst hm
    obtain rfl : M = 0 := hM.symm
    go_enter Tryd.func47, Tryd.ntmps47
    go_wp2
    go_loopw [1] (fun p wr => p = .slice B 0 cm ∧ wr = w) (fun _ _ => 0)
    case atStart => exact ⟨rfl, rfl⟩
    case round =>
      obtain ⟨rfl, rfl⟩ := hrel
      go_wp2
      go_end0
      exact ⟨rfl, .inl ⟨rfl, rfl⟩⟩
  · have H0 := Lib.hid (h0 hm)
    have HL := Lib.hid (hl hm)
    have HM := Lib.hid hM
    have HR := Lib.hid hR
    have HB := Lib.hid hB
    have Hm := Lib.hid hm
    clear h0 hl hM hR hB hm
    go_enter Tryd.func47, Tryd.ntmps47
    go_wp2
    go_loopw [1] (fun p wr => ∃ (i j : Nat) (A : Option Addr) (c : Nat), Hid (i + j = M) ∧ p = .slice A j c ∧ j ≤ c ∧ Hid (Rd w A (m.drop i)) ∧ Hid (Out A (m.drop i) (Fp x v)) ∧ Hid (RepRel w x lim v t l m i wr)) (fun p _ => match p with | .slice _ j _ => j | _ => 0)
    case atStart => exact ⟨0, M, B, cm, Lib.hid (by omega), rfl, hMc, HR, HB, H0⟩
    case round =>
      obtain ⟨i, j, A, c, HI, rfl, hjc, HRi, HBi, HP⟩ := hrel
      by_cases hj : 0 < j
      · obtain ⟨p, o, hb, ho, hp, hol, hr, hch⟩ := HP.out
        obtain ⟨A0, c0, hv, hc0⟩ := own_form ho
        subst hv
        have Rr : Rd wr A (m.drop i) := rd_chg HRi.out hch HBi.out
        have hmi : (m.drop i).length = j := by rw [List.length_drop, HM.out]; have := HI.out; omega
        obtain ⟨k, hk⟩ : ∃ k, min j (lim - o) = k := ⟨_, rfl⟩
        obtain ⟨w1, hcp, ho1, hg1⟩ := copy_own (w := wr.drew) (own_same ho (fun _ _ => rfl)) o (Nat.le_of_lt hol) A (m.drop i) j c hmi Rr k hk
        have c1 := hb.c1
        have c2 := hb.c2
        have hb1 : Rb w1 x lim (.slice A0 lim c0) o t := hb.same (hg1.block x hb.lt (fun e => hb.row_ne ho e.symm))
        have c3 := hb1.c0
        have c4 := hb1.c2
        have f2 := hb1.free 2
        have s1 := fun W => slice_lo A0 lim c0 o (Nat.le_of_lt hol) W
        have s2 := fun W => slice_lo A j c k (by omega) W
        obtain ⟨B1, hB1⟩ : ∃ B1, off A0 c0 o = B1 := ⟨_, rfl⟩
        rw [hB1] at hcp
        simp only [hB1] at s1
        have ST : Hid (∀ d z, z = (((o + k) % lim : Nat) : Int) → RepRel w x lim (.slice A0 lim c0) t l m (i + k) ((w1.drewN d).setCell ⟨x, 2, none⟩ (.int .i64 z))) := Lib.hid fun d z hz =>
          rep_step hb ho hp hol hr hch ho1 hg1 (by rw [List.length_take]; omega) (by omega) HL.out (by rw [HM.out]; have := HI.out; omega) d z hz
        have hk0 : 0 < k := by omega
        have hkj : k ≤ j := by omega
        have hok : o + k ≤ lim := by omega
        have hl0 : ((lim : Int) == 0) = false := by simp; omega
        have HRk : Hid (Rd w (off A c k) (m.drop (i + k))) := Lib.hid (by
          have := off_rd (c := c) (n := k) HRi.out (by rw [hmi]; exact hjc)
          rwa [List.drop_drop] at this)
        have HBk : Hid (Out (off A c k) (m.drop (i + k)) (Fp x (.slice A0 lim c0))) := Lib.hid (by
          have := HBi.out.drop c k
          rwa [List.drop_drop] at this)
        clear hb ho hp hr hch Rr hmi hk ho1 hg1 hb1 hB1 HP
        go_wp2
        go_region
        go_wp2
        clear s1 s2 hcp c1 c2
        go_region
        go_wp2
        refine ⟨⟨i + k, j - k, off A c k, c - k, Lib.hid (by have := HI.out; omega), rfl, by omega, HRk, HBk, Lib.hid (ST.out 1 _ ?_)⟩, ?_⟩
        · rw [Int.natCast_emod, Int.natCast_add]
        · simp
          omega
      · obtain rfl : j = 0 := by omega
        go_wp2
        go_end0
        have e : i = M := by have := HI.out; omega
        rw [e] at HP
        exact ⟨rfl, .inr ⟨Hm.out, HP.out⟩⟩

end Go.Proofs.YteogpmapbeogpaaDoor
