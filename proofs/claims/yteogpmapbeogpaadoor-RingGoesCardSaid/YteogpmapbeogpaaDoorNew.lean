/-
  What New, Add, Size, Len, Total, Byte and objection of a ring do. Conditions: the bytes do not lie in the ring's own blocks; the package's sizes are 1 and 2^27.
-/
import Derived.Test.YteogpmapbeogpaaDoorPus
namespace Go.Proofs.YteogpmapbeogpaaDoor
open Go.RowKit

/-- The package's sizes, as the program lays them. -/
def Gl (w : World) : Prop := w.cell? ⟨0, 0, none⟩ = some (.int .i64 1) ∧ w.cell? ⟨0, 1, none⟩ = some (.int .i64 134217728)
theorem Gl.below {w w' : World} (h : Gl w) (hb : Below w.heap.size w w') : Gl w' :=
  ⟨(hb.cell (cell_lt h.1)).trans h.1, (hb.cell (cell_lt h.2)).trans h.2⟩
theorem Gl.lt {w : World} (h : Gl w) : 0 < w.heap.size := cell_lt h.1

theorem Rb.new (w : World) (lim : Nat) : Rb (w.alloc (.cells #[.int .i64 (lim : Int), .slice none 0 0, .int .i64 0, .int .i64 0] 57)) w.heap.size lim (.slice none 0 0) 0 0 := World.alloc_heap_new w _
theorem Rg.new (w : World) (lim : Nat) (h1 : 1 ≤ lim) (h2 : lim ≤ 134217728) : Rg (w.alloc (.cells #[.int .i64 (lim : Int), .slice none 0 0, .int .i64 0, .int .i64 0] 57)) w.heap.size (.slice none 0 0) lim [] 0 :=
  ⟨h1, h2, [], 0, Rb.new w lim, ⟨rfl, .inl ⟨rfl, rfl⟩⟩, Nat.zero_le _, Nat.le_refl _, by omega, fun _ => rfl, rfl⟩

/-- A ring that the call has made. -/
def NewPost (w : World) (lim : Nat) (l : List UInt8) (e : Ending) (w' : World) : Prop :=
  ∃ x v, e = .returned (.tuple #[.pointer (some ⟨x, 0, none⟩), .int .i64 0]) ∧ Rg w' x v lim l 0 ∧ Below w.heap.size w w' ∧ ∀ k, Fp x v k → w.heap.size ≤ k

theorem new_fin {w w2 : World} {lim : Nat} {l : List UInt8} (h : PshPost (w.alloc (.cells #[.int .i64 (lim : Int), .slice none 0 0, .int .i64 0, .int .i64 0] 57)) w.heap.size lim 0 (.slice none 0 0) l (.returned (.tuple #[])) w2) :
    NewPost w lim l (.returned (.tuple #[.pointer (some ⟨w.heap.size, 0, none⟩), .int .i64 0])) w2 := by
  obtain ⟨_, v, hg, hc, hn⟩ := h
  have b1 : Below w.heap.size w (w.alloc (.cells #[.int .i64 (lim : Int), .slice none 0 0, .int .i64 0, .int .i64 0] 57)) := (Below.refl _ w).alloc (Nat.le_refl _) _
  refine ⟨_, v, rfl, hg, b1.trans (hc.new b1.size (fun k hk => ?_)), fun k hk => ?_⟩
  · rcases hk with rfl | hk
    · exact Nat.le_refl _
    · cases hk
  · rcases hk with rfl | hk
    · exact Nat.le_refl _
    · rcases hn k hk with e | e
      · cases e
      · exact Nat.le_trans b1.size e

set_option maxRecDepth 100000 in
set_option maxHeartbeats 2000000 in
theorem new_ok (w : World) (hg : Gl w) (lim : Nat) (h1 : 1 ≤ lim) (h2 : lim ≤ 134217728) (B : Option Addr) (m : List UInt8) (M c : Nat) (hM : m.length = M) (hMc : M ≤ c) (hMl : M ≤ 1099511627776) (hR : Rd w B m) :
    Calls Tryd.prog 13 #[.int .i64 (lim : Int), .slice B M c] w (NewPost w lim (fin lim m)) := by
  obtain ⟨g0, g1⟩ := hg
  have PU := Lib.hid (push_any (Rg.new w lim h1 h2) B m M c hM hMc hMl (hR.below ((Below.refl _ w).alloc (Nat.le_refl _) _)) (fun hm ad e => fun hf => by
    have := rd_lt hR hm ad e
    rcases hf with hf | hf
    · omega
    · cases hf))
  have hd1 : decide ((lim : Int) < 1) = false := decide_eq_false (by omega)
  have hd2 : decide ((134217728 : Int) < (lim : Int)) = false := decide_eq_false (by omega)
  clear hM hR
  go_enter Tryd.func13, Tryd.ntmps13
  go_wp2
  refine wp_scope_fwd 0 rfl ?_
  go_wp2_with (go_at_call 31; refine PU.out.mono ?_; intro e w2 hp; have he := hp.1; subst he; have P := Lib.hid hp; clear hp)
  rw [jump_ret]
  go_ret2
  exact new_fin (by simpa using P.out)

set_option maxRecDepth 100000 in
set_option maxHeartbeats 2000000 in
theorem new_bad (w : World) (hg : Gl w) (z : Int) (h : z < 1 ∨ 134217728 < z) (a : Value) :
    Calls Tryd.prog 13 #[.int .i64 z, a] w fun e w' => e = .returned (.tuple #[.pointer none, .int .i64 2]) ∧ w' = w := by
  obtain ⟨g0, g1⟩ := hg
  by_cases h1 : z < 1
  · go_enter Tryd.func13, Tryd.ntmps13
    go_wp2
    refine wp_scope_fwd 0 rfl ?_
    go_wp2
    go_step3
    refine And.intro rfl ?_
    go_wp2
    rw [Exit.noGoto_ret]
    go_ret2
    exact ⟨rfl, rfl⟩
  · have h2 : 134217728 < z := by omega
    go_enter Tryd.func13, Tryd.ntmps13
    go_wp2
    refine wp_scope_fwd 0 rfl ?_
    go_wp2
    go_step3
    refine And.intro rfl ?_
    go_wp2
    rw [Exit.noGoto_ret]
    go_ret2
    exact ⟨rfl, rfl⟩

/-- Bytes have been appended. -/
def AddPost (w : World) (x lim t : Nat) (v : Value) (l : List UInt8) (e : Ending) (w' : World) : Prop :=
  e = .returned (.int .i64 0) ∧ ∃ v', Rg w' x v' lim l t ∧ Chg (Fp x v) w w' ∧ New w v v'

theorem Rg.set3 {w : World} {x lim t : Nat} {v : Value} {l : List UInt8} (h : Rg w x v lim l t) (t' : Nat) : Rg (w.setCell ⟨x, 3, none⟩ (.int .i64 (t' : Int))) x v lim l t' := by
  obtain ⟨p, o, hb, ho, hr⟩ := h.is
  exact ⟨h.one, h.most, p, o, hb.set3 t', own_same ho fun g hg => Below.heap_setCell w ⟨x, 3, none⟩ _ g (fun e => hb.row_ne ho (by rw [hg, e])), hr⟩
theorem Rg.blk {w : World} {x lim t : Nat} {v : Value} {l : List UInt8} (h : Rg w x v lim l t) : ∃ o A c, v = .slice A l.length c ∧ l.length ≤ c ∧ Rb w x lim (.slice A l.length c) o t := by
  obtain ⟨p, o, hb, ho, _, hop, _, _, rfl⟩ := h.is
  obtain ⟨A, c, rfl, hc⟩ := own_form ho
  rw [rot_len hop]
  exact ⟨o, A, c, rfl, hc, hb⟩

set_option maxRecDepth 100000 in
set_option maxHeartbeats 2000000 in
theorem add_ok {w : World} {x lim t : Nat} {v : Value} {l : List UInt8} (h : Rg w x v lim l t) (B : Option Addr) (m : List UInt8) (M c : Nat) (hM : m.length = M) (hMc : M ≤ c) (hMl : M ≤ 1099511627776) (ht : t ≤ 1099511627776) (hR : Rd w B m) (hO : Out B m (Fp x v)) :
    Calls Tryd.prog 18 #[.pointer (some ⟨x, 0, none⟩), .slice B M c] w (AddPost w x lim (t + M) v (fin lim (l ++ m))) := by
  obtain ⟨o, A, cv, rfl, hcv, hb⟩ := h.blk
  have NO := Lib.hid (none_no hb h.one)
  have PU := Lib.hid (push_any h B m M c hM hMc hMl hR hO)
  clear h hb hM hR hO
  go_enter Tryd.func18, Tryd.ntmps18
  go_wp2
  refine wp_scope_fwd 0 rfl ?_
  go_wp2_with (first
    | (go_at_call 36; refine NO.out.mono ?_; rintro e w1 ⟨rfl, rfl⟩)
    | (go_at_call 31; refine PU.out.mono ?_; rintro e w2 ⟨rfl, v2, hg, hc, hn⟩; obtain ⟨o2, A2, c2, rfl, _, hb2⟩ := hg.blk; have d3 := hb2.c3; have f3 := hb2.free 3; have G := Lib.hid (And.intro hg (And.intro hc hn)); clear hg hc hn hb2))
  rw [jump_ret]
  go_ret
  obtain ⟨hg, hc, hn⟩ := G.out
  have := hg.set3 (t + M)
  exact ⟨rfl, _, by simpa using this, hc.fp (Chg.of_self (grown_setCell _ _ _ _)) hn, hn⟩

set_option maxRecDepth 100000 in
set_option maxHeartbeats 1000000 in
theorem add_none {w : World} {P : Value} (hn : Calls Tryd.prog 36 #[P] w fun e w' => e = .returned (.bool true) ∧ w' = w) (a : Value) :
    Calls Tryd.prog 18 #[P, a] w fun e w' => e = .returned (.int .i64 1) ∧ w' = w := by
  have NO := Lib.hid hn
  clear hn
  go_enter Tryd.func18, Tryd.ntmps18
  go_wp2
  refine wp_scope_fwd 0 rfl ?_
  go_wp2_with (go_at_call 36; refine NO.out.mono ?_; rintro e w1 ⟨rfl, rfl⟩)
  go_step3
  refine And.intro rfl ?_
  go_wp2
  rw [Exit.noGoto_ret]
  go_ret
  exact ⟨rfl, rfl⟩

set_option maxHeartbeats 400000 in
theorem size_ok {w : World} {x lim o t : Nat} {v : Value} (h : Rb w x lim v o t) : Calls Tryd.prog 28 #[.pointer (some ⟨x, 0, none⟩)] w fun e w' => e = .returned (.int .i64 (lim : Int)) ∧ w' = w := by
  have c0 := h.c0
  clear h
  go_enter Tryd.func28, Tryd.ntmps28
  go_wp2
  go_ret
  exact ⟨rfl, rfl⟩
set_option maxHeartbeats 400000 in
theorem len_ok {w : World} {x lim o t n c : Nat} {A : Option Addr} (h : Rb w x lim (.slice A n c) o t) : Calls Tryd.prog 29 #[.pointer (some ⟨x, 0, none⟩)] w fun e w' => e = .returned (.int .i64 (n : Int)) ∧ w' = w := by
  have c1 := h.c1
  clear h
  go_enter Tryd.func29, Tryd.ntmps29
  go_wp2
  go_ret
  exact ⟨rfl, rfl⟩
set_option maxHeartbeats 400000 in
theorem total_ok {w : World} {x lim o t : Nat} {v : Value} (h : Rb w x lim v o t) : Calls Tryd.prog 30 #[.pointer (some ⟨x, 0, none⟩)] w fun e w' => e = .returned (.int .i64 (t : Int)) ∧ w' = w := by
  have c3 := h.c3
  clear h
  go_enter Tryd.func30, Tryd.ntmps30
  go_wp2
  go_ret
  exact ⟨rfl, rfl⟩
set_option maxHeartbeats 400000 in
theorem size_nil (w : World) : Calls Tryd.prog 28 #[.pointer none] w fun e w' => e = .returned (.int .i64 0) ∧ w' = w := by
  go_enter Tryd.func28, Tryd.ntmps28
  go_wp2
  go_ret
  exact ⟨rfl, rfl⟩
set_option maxHeartbeats 400000 in
theorem len_nil (w : World) : Calls Tryd.prog 29 #[.pointer none] w fun e w' => e = .returned (.int .i64 0) ∧ w' = w := by
  go_enter Tryd.func29, Tryd.ntmps29
  go_wp2
  go_ret
  exact ⟨rfl, rfl⟩
set_option maxHeartbeats 400000 in
theorem total_nil (w : World) : Calls Tryd.prog 30 #[.pointer none] w fun e w' => e = .returned (.int .i64 0) ∧ w' = w := by
  go_enter Tryd.func30, Tryd.ntmps30
  go_wp2
  go_ret
  exact ⟨rfl, rfl⟩

theorem Rg.len_any {w : World} {x lim t : Nat} {v : Value} {l : List UInt8} (h : Rg w x v lim l t) : Calls Tryd.prog 29 #[.pointer (some ⟨x, 0, none⟩)] w fun e w' => e = .returned (.int .i64 (l.length : Int)) ∧ w' = w := by
  obtain ⟨o, A, c, rfl, _, hb⟩ := h.blk
  exact len_ok hb
theorem Rg.total_any {w : World} {x lim t : Nat} {v : Value} {l : List UInt8} (h : Rg w x v lim l t) : Calls Tryd.prog 30 #[.pointer (some ⟨x, 0, none⟩)] w fun e w' => e = .returned (.int .i64 (t : Int)) ∧ w' = w := by
  obtain ⟨o, A, c, rfl, _, hb⟩ := h.blk
  exact total_ok hb
theorem Rg.size_any {w : World} {x lim t : Nat} {v : Value} {l : List UInt8} (h : Rg w x v lim l t) : Calls Tryd.prog 28 #[.pointer (some ⟨x, 0, none⟩)] w fun e w' => e = .returned (.int .i64 (lim : Int)) ∧ w' = w := by
  obtain ⟨o, A, c, rfl, _, hb⟩ := h.blk
  exact size_ok hb
theorem Rg.none_any {w : World} {x lim t : Nat} {v : Value} {l : List UInt8} (h : Rg w x v lim l t) : Calls Tryd.prog 36 #[.pointer (some ⟨x, 0, none⟩)] w fun e w' => e = .returned (.bool false) ∧ w' = w := by
  obtain ⟨o, A, c, rfl, _, hb⟩ := h.blk
  exact none_no hb h.one
theorem Rg.reaches_any {w : World} {x lim t : Nat} {v : Value} {l : List UInt8} (h : Rg w x v lim l t) (d : Int) (b : Bool) (hb : decide (1 ≤ d ∧ d ≤ (l.length : Int)) = b) : Calls Tryd.prog 45 #[.pointer (some ⟨x, 0, none⟩), .int .i64 d] w fun e w' => e = .returned (.bool b) ∧ w' = w := by
  obtain ⟨o, A, c, rfl, _, hb'⟩ := h.blk
  exact _root_.Go.Proofs.YteogpmapbeogpaaDoor.reaches_any hb' d b hb

set_option maxRecDepth 100000 in
set_option maxHeartbeats 1000000 in
theorem byte_none {w : World} {P : Value} (hn : Calls Tryd.prog 36 #[P] w fun e w' => e = .returned (.bool true) ∧ w' = w) (a : Value) :
    Calls Tryd.prog 27 #[P, a] w fun e w' => e = .returned (.tuple #[.int .u8 0, .bool false]) ∧ w' = w := by
  have NO := Lib.hid hn
  clear hn
  go_enter Tryd.func27, Tryd.ntmps27
  go_wp2_with (go_at_call 36; refine NO.out.mono ?_; rintro e w1 ⟨rfl, rfl⟩)
  go_ret2
  exact ⟨rfl, rfl⟩
set_option maxRecDepth 100000 in
set_option maxHeartbeats 1000000 in
theorem byte_out {w : World} {x lim t : Nat} {v : Value} {l : List UInt8} (h : Rg w x v lim l t) (d : Int) (hd : d < 1 ∨ (l.length : Int) < d) :
    Calls Tryd.prog 27 #[.pointer (some ⟨x, 0, none⟩), .int .i64 d] w fun e w' => e = .returned (.tuple #[.int .u8 0, .bool false]) ∧ w' = w := by
  have NO := Lib.hid h.none_any
  have RE := Lib.hid (h.reaches_any d false (decide_eq_false (by omega)))
  clear h
  go_enter Tryd.func27, Tryd.ntmps27
  go_wp2_with (first | (go_at_call 36; refine NO.out.mono ?_; rintro e w1 ⟨rfl, rfl⟩) | (go_at_call 45; refine RE.out.mono ?_; rintro e w1 ⟨rfl, rfl⟩))
  go_ret2
  exact ⟨rfl, rfl⟩
theorem cell_zero {w : World} {ad : Addr} {u : Value} (h : w.cell? (ad.add 0) = some u) (q : Nat) : (w.drewN q).cell? ad = some u := by
  have e : ad.add 0 = ad := by simp [Addr.add]
  rw [e] at h
  exact h
set_option maxRecDepth 100000 in
set_option maxHeartbeats 1000000 in
theorem byte_in {w : World} {x lim t : Nat} {v : Value} {l : List UInt8} (h : Rg w x v lim l t) (d : Nat) (hd : 1 ≤ d) (hdl : d ≤ l.length) (b : UInt8) (hb : l[l.length - d]? = some b) :
    Calls Tryd.prog 27 #[.pointer (some ⟨x, 0, none⟩), .int .i64 (d : Int)] w fun e w' => e = .returned (.tuple #[byt b, .bool true]) ∧ ∃ q, w' = w.drewN q := by
  have NO := Lib.hid h.none_any
  have RE := Lib.hid (h.reaches_any (d : Int) true (decide_eq_true (by omega)))
  obtain ⟨A, m, hm0, hmd, hR, hA, hST⟩ := stretch_any h d hdl hd
  have ST := Lib.hid (hST w rfl)
  obtain ⟨ad, rfl, hcc⟩ := hR 0 (byt b) (by rw [List.getElem?_map, List.getElem?_take_of_lt hm0, List.getElem?_drop, Nat.add_zero, hb]; rfl)
  have hc0 := fun q => cell_zero hcc q
  clear h hb hR hA hST hcc
  go_enter Tryd.func27, Tryd.ntmps27
  go_wp2_with (first
    | (go_at_call 36; refine NO.out.mono ?_; rintro e w ⟨rfl, rfl⟩)
    | (go_at_call 45; refine RE.out.mono ?_; rintro e w ⟨rfl, rfl⟩)
    | (go_at_call 42; refine ST.out.mono ?_; rintro e w1 ⟨rfl, q, rfl⟩))
  go_ret2
  exact ⟨rfl, _, rfl⟩

/-- The number of the error that a copy meets first. -/
def obj (n : Nat) (d k : Int) : Int := if k < 0 ∨ 131072 < k then 2 else if 1 ≤ d ∧ d ≤ (n : Int) then 0 else 15

set_option maxRecDepth 100000 in
set_option maxHeartbeats 1000000 in
theorem obj_none {w : World} {P : Value} (hn : Calls Tryd.prog 36 #[P] w fun e w' => e = .returned (.bool true) ∧ w' = w) (a b : Value) :
    Calls Tryd.prog 43 #[P, a, b] w fun e w' => e = .returned (.int .i64 1) ∧ w' = w := by
  have NO := Lib.hid hn
  clear hn
  go_enter Tryd.func43, Tryd.ntmps43
  go_wp2_with (go_at_call 36; refine NO.out.mono ?_; rintro e w1 ⟨rfl, rfl⟩)
  go_ret
  exact ⟨rfl, rfl⟩
set_option maxRecDepth 100000 in
set_option maxHeartbeats 1000000 in
theorem obj_any {w : World} {x lim t : Nat} {v : Value} {l : List UInt8} (h : Rg w x v lim l t) (d k : Int) (R : Int) (hR : obj l.length d k = R) :
    Calls Tryd.prog 43 #[.pointer (some ⟨x, 0, none⟩), .int .i64 d, .int .i64 k] w fun e w' => e = .returned (.int .i64 R) ∧ w' = w := by
  have NO := Lib.hid h.none_any
  obtain ⟨b, hb⟩ : ∃ b, decide (1 ≤ d ∧ d ≤ (l.length : Int)) = b := ⟨_, rfl⟩
  have RE := Lib.hid (h.reaches_any d b hb)
  have HB := Lib.hid hb
  have HR := Lib.hid hR
  clear h hb hR
  by_cases h1 : k < 0
  · have E : Hid (R = 2) := Lib.hid (by rw [← HR.out]; unfold obj; rw [if_pos (.inl h1)])
    go_enter Tryd.func43, Tryd.ntmps43
    go_wp2_with (go_at_call 36; refine NO.out.mono ?_; rintro e w1 ⟨rfl, rfl⟩)
    go_ret
    exact ⟨by rw [E.out]; rfl, rfl⟩
  · by_cases h2 : 131072 < k
    · have E : Hid (R = 2) := Lib.hid (by rw [← HR.out]; unfold obj; rw [if_pos (.inr h2)])
      go_enter Tryd.func43, Tryd.ntmps43
      go_wp2_with (go_at_call 36; refine NO.out.mono ?_; rintro e w1 ⟨rfl, rfl⟩)
      go_ret
      exact ⟨by rw [E.out]; rfl, rfl⟩
    · cases b with
      | true =>
        have E : Hid (R = 0) := Lib.hid (by rw [← HR.out]; unfold obj; rw [if_neg (by omega), if_pos (of_decide_eq_true HB.out)])
        go_enter Tryd.func43, Tryd.ntmps43
        go_wp2_with (first | (go_at_call 36; refine NO.out.mono ?_; rintro e w1 ⟨rfl, rfl⟩) | (go_at_call 45; refine RE.out.mono ?_; rintro e w1 ⟨rfl, rfl⟩))
        go_ret
        exact ⟨by rw [E.out]; rfl, rfl⟩
      | false =>
        have E : Hid (R = 15) := Lib.hid (by rw [← HR.out]; unfold obj; rw [if_neg (by omega), if_neg (of_decide_eq_false HB.out)])
        go_enter Tryd.func43, Tryd.ntmps43
        go_wp2_with (first | (go_at_call 36; refine NO.out.mono ?_; rintro e w1 ⟨rfl, rfl⟩) | (go_at_call 45; refine RE.out.mono ?_; rintro e w1 ⟨rfl, rfl⟩))
        go_ret
        exact ⟨by rw [E.out]; rfl, rfl⟩

end Go.Proofs.YteogpmapbeogpaaDoor
