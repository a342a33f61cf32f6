/-
  A ring that a call has made: what its methods do, with what lay there before unchanged. Literal slices, strings of bytes. Conditions: the bytes appended do not lie in the ring's own blocks.
-/
import Derived.Laws.IdiomStrings
import Derived.Laws.BytesString
import Derived.Lib.SlBytesConst
import Derived.Test.YteogpmapbeogpaaDoorCpy
namespace Go.Proofs.YteogpmapbeogpaaDoor
open Go.RowKit

theorem lit_rvm (w : World) (xs : List Value) (t : TypeId) (fr : Nat × Nat) : Rv (w.alloc (.cells xs.toArray t fr)) (some ⟨w.heap.size, 0, none⟩) xs := by
  intro j v hj
  refine ⟨_, rfl, ?_⟩
  have e : (Addr.add ⟨w.heap.size, 0, none⟩ j) = ⟨w.heap.size, j, none⟩ := by
    unfold Addr.add
    by_cases h0 : j = 0
    · rw [if_pos h0, h0]
    · rw [if_neg h0]; simp
  rw [e, cell_of_row _ _ j _ _ _ (World.alloc_heap_new w _)]
  simpa using hj
theorem lit_rv (w : World) (xs : List Value) (t : TypeId) : Rv (w.alloc (.cells xs.toArray t)) (some ⟨w.heap.size, 0, none⟩) xs := lit_rvm w xs t (0, 0)
theorem lit_bel (w : World) (o : Obj) : Below w.heap.size w (w.alloc o) := (Below.refl _ w).alloc (Nat.le_refl _) _

theorem conv_bytes (w : World) (A : Option Addr) (l : List UInt8) (c : Nat) (h : Rd w A l) : (convert 22 9 (.slice A l.length c)).run Tryd.prog w = .ok (.string ⟨l.toArray⟩) w := by
  cases A with
  | none =>
    have hl : l = [] := by
      rcases l with _ | ⟨b, l⟩
      · rfl
      · obtain ⟨ad, e, _⟩ := h 0 (byt b) rfl
        cases e
    subst hl
    rw [run_convert_bytes_string w _ _ 5 _ _ _ Tryd.underlying22 Tryd.underlying5 Tryd.underlying9]
    simp [Conv.bytesToString]
    rfl
  | some ad =>
    refine run_convert_bytes_back w 22 9 5 ad c l Tryd.underlying22 Tryd.underlying5 Tryd.underlying9 (fun j hj => ?_)
    obtain ⟨ad', e, hc⟩ := h j (byt l[j]) (by rw [List.getElem?_map, List.getElem?_eq_getElem hj]; rfl)
    cases e
    exact hc
theorem conv_len (w : World) (A : Option Addr) (l : List UInt8) (n c : Nat) (hn : l.length = n) (h : Rd w A l) : (convert 22 9 (.slice A n c)).run Tryd.prog w = .ok (.string ⟨l.toArray⟩) w := by
  rw [← hn]
  exact conv_bytes w A l c h

/-- A ring that a call which began in w0 has made. -/
structure At (w0 w : World) (x : Nat) (v : Value) (lim : Nat) (l : List UInt8) (t : Nat) : Prop where
  rg : Rg w x v lim l t
  bel : Below w0.heap.size w0 w
  own : ∀ k, Fp x v k → w0.heap.size ≤ k

section
variable {w0 w w' : World} {x lim t : Nat} {v : Value} {l : List UInt8}
theorem At.below (h : At w0 w x v lim l t) (hb : Below w.heap.size w w') : At w0 w' x v lim l t := ⟨h.rg.below hb, below_on h.bel (Nat.le_refl _) hb, h.own⟩
theorem At.dr (h : At w0 w x v lim l t) (q : Nat) : At w0 (w.drewN q) x v lim l t := ⟨h.rg.drewN q, below_drewN' h.bel q, h.own⟩
theorem At.lt (h : At w0 w x v lim l t) : w0.heap.size ≤ w.heap.size := h.bel.size
theorem At.chg {v' : Value} {l' : List UInt8} {t' : Nat} (h : At w0 w x v lim l t) (hg : Rg w' x v' lim l' t') (hc : Chg (Fp x v) w w') (hn : New w v v') : At w0 w' x v' lim l' t' := by
  refine ⟨hg, h.bel.trans (hc.new h.lt h.own), fun k hk => ?_⟩
  rcases hk with hk | hk
  · exact h.own k (.inl hk)
  · rcases hn k hk with e | e
    · exact h.own k (.inr e)
    · exact Nat.le_trans h.lt e
theorem At.new (hw : Below w0.heap.size w0 w) (hg : Rg w' x v lim l t) (hb : Below w.heap.size w w') (ho : ∀ k, Fp x v k → w.heap.size ≤ k) : At w0 w' x v lim l t :=
  ⟨hg, below_on hw (Nat.le_refl _) hb, fun k hk => Nat.le_trans hw.size (ho k hk)⟩
end

theorem Gl.bel {w0 w : World} (h : Gl w0) (hb : Below w0.heap.size w0 w) : Gl w := h.below hb

/-- New, in a call that began in w0. -/
theorem at_new {w0 w : World} (hg : Gl w0) (hw : Below w0.heap.size w0 w) (lim : Nat) (h1 : 1 ≤ lim) (h2 : lim ≤ 134217728) (B : Option Addr) (m : List UInt8) (M c : Nat) (hM : m.length = M) (hMc : M ≤ c) (hMl : M ≤ 1099511627776) (hR : Rd w B m) :
    Calls Tryd.prog 13 #[.int .i64 (lim : Int), .slice B M c] w fun e w' => ∃ x v, e = .returned (.tuple #[.pointer (some ⟨x, 0, none⟩), .int .i64 0]) ∧ At w0 w' x v lim (fin lim m) 0 ∧ Below w.heap.size w w' ∧ ∀ k, Fp x v k → w.heap.size ≤ k :=
  (new_ok w (hg.bel hw) lim h1 h2 B m M c hM hMc hMl hR).mono fun _ _ ⟨x, v, e, g, b, o⟩ => ⟨x, v, e, At.new hw g b o, b, o⟩

/-- Add, in a call that began in w0. -/
theorem at_add {w0 w : World} {x lim t : Nat} {v : Value} {l : List UInt8} (h : At w0 w x v lim l t) (B : Option Addr) (m : List UInt8) (M c : Nat) (hM : m.length = M) (hMc : M ≤ c) (hMl : M ≤ 1099511627776) (ht : t ≤ 1099511627776) (hR : Rd w B m) (hO : Out B m (Fp x v)) :
    Calls Tryd.prog 18 #[.pointer (some ⟨x, 0, none⟩), .slice B M c] w fun e w' => ∃ v', e = .returned (.int .i64 0) ∧ At w0 w' x v' lim (fin lim (l ++ m)) (t + M) ∧ Chg (Fp x v) w w' ∧ New w v v' :=
  (add_ok h.rg B m M c hM hMc hMl ht hR hO).mono fun _ _ ⟨e, v', g, c, n⟩ => ⟨v', e, h.chg g c n, c, n⟩

/-- What lay there before the ring is no part of it. -/
theorem At.out {w0 w : World} {x lim t : Nat} {v : Value} {l : List UInt8} (h : At w0 w x v lim l t) {B : Option Addr} {m : List UInt8} (hR : Rd w0 B m) : Out B m (Fp x v) := fun hm ad e hf => by
  have h1 := rd_lt hR hm ad e
  have h2 := h.own _ hf
  omega
/-- What is newer than the ring is no part of it. -/
theorem Rg.out {w : World} {x lim t : Nat} {v : Value} {l : List UInt8} (h : Rg w x v lim l t) {B : Option Addr} {m : List UInt8} (hB : ∀ ad, B = some ad → w.heap.size ≤ ad.block) : Out B m (Fp x v) := fun _ ad e hf => by
  have h1 := hB ad e
  have h2 := h.fp_lt hf
  omega

theorem at_copy {w0 w : World} {x lim t : Nat} {v : Value} {l : List UInt8} (h : At w0 w x v lim l t) (D n : Nat) (hD1 : 1 ≤ D) (hD : D ≤ l.length) (hn : n ≤ 131072) (ht : t ≤ 1099511627776) (T : List UInt8) (hT : cyc (l.drop (l.length - D)) n = T) (L : List UInt8) (hL : fin lim (l ++ T) = L) :
    Calls Tryd.prog 26 #[.pointer (some ⟨x, 0, none⟩), .int .i64 (D : Int), .int .i64 (n : Int)] w fun e w' => ∃ A c v', e = .returned (.tuple #[.slice A n c, .int .i64 0]) ∧ At w0 w' x v' lim L (t + n) ∧ n ≤ c ∧ w'.ownsRow w.heap.size 5 1 (.slice A n c) n (T.map byt) ∧ (∀ k, Fp x v' k → (Value.slice A n c).ownBlock ≠ some k) ∧ Chg (Fp x v) w w' ∧ New w v v' := by
  have hl : T.length = n := by rw [← hT, cyc_len]
  have hc := copy_ok h.rg D n hD1 hD hn ht
  rw [hT, hL] at hc
  refine hc.mono ?_
  rintro e w' ⟨A, c, v', e1, e2, e3, e4, e5, e6, e7⟩
  rw [hl] at e1 e2 e3 e7
  exact ⟨A, c, v', e1, h.chg e4 e5 e6, e2, e3, e7, e5, e6⟩

theorem at_bad {w0 w : World} {x lim t : Nat} {v : Value} {l : List UInt8} (h : At w0 w x v lim l t) (d k R : Int) (hR : obj l.length d k = R) (hR0 : R ≠ 0) :
    Calls Tryd.prog 26 #[.pointer (some ⟨x, 0, none⟩), .int .i64 d, .int .i64 k] w fun e w' => e = .returned (.tuple #[.slice none 0 0, .int .i64 R]) ∧ At w0 w' x v lim l t ∧ Below w.heap.size w w' :=
  (copy_bad h.rg d k R hR hR0).mono fun _ _ ⟨e, b⟩ => ⟨e, h.below b, b⟩

theorem at_last {w0 w : World} {x lim t : Nat} {v : Value} {l : List UInt8} (h : At w0 w x v lim l t) (z : Int) (T : List UInt8) (n : Nat) (hT : lst z l = T) (hn : T.length = n) :
    Calls Tryd.prog 25 #[.pointer (some ⟨x, 0, none⟩), .int .i64 z] w fun e w' => ∃ A c, e = .returned (.slice A n c) ∧ n ≤ c ∧ (convert 22 9 (.slice A n c)).run Tryd.prog w' = .ok (.string ⟨T.toArray⟩) w' ∧ w'.ownsRow w.heap.size 5 1 (.slice A n c) n (T.map byt) ∧ At w0 w' x v lim l t ∧ Below w.heap.size w w' := by
  have hc := last_any h.rg z
  rw [hT] at hc
  refine hc.mono ?_
  rintro e w' ⟨A, c, e1, e2, e3, e4⟩
  rw [hn] at e1 e2 e3
  exact ⟨A, c, e1, e2, conv_len w' A T n c hn (Rv.of_own e3), e3, h.below e4, e4⟩

set_option maxHeartbeats 400000 in
theorem num_any (w : World) (z : Int) : Calls Tryd.prog 15 #[.int .i64 z] w fun e w' => e = .returned (.int .i64 z) ∧ w' = w := by
  go_enter Tryd.func15, Tryd.ntmps15
  go_wp2
  go_ret
  exact ⟨rfl, rfl⟩

end Go.Proofs.YteogpmapbeogpaaDoor
