/-
  What bytes.Clone, bits.Len8, NewForward and NewBackward do. Conditions: fewer than 2^40 bytes.
  Readers side by side; the laws' helpers took and known, the chapter's examples: known returns true. Nothing that was there has changed. No condition.
  Rows of calls of Put in memory, and a call of Put at any arguments. No condition beyond those that each theorem states.
  The readers' calls at any argument, in one form. Conditions: fewer than 2^40 bytes.
  Streams: what was written by Put and is read from Bytes and from Close, as mathematics; a Writer that a call has made. No condition beyond those that each theorem states.
-/
import Derived.Test.YtpjbjbohbdlciaaQAln
import Derived.Deep.DeepCutAuto
namespace Go.Proofs.Ytpjbjbohbdlciaa.Bt

section
open Go.RowKit
theorem made_own0 (w : World) : (w.alloc (.cells #[] 5)).ownsRow w.heap.size 5 1 (.slice (some ⟨w.heap.size, 0, none⟩) 0 0) 0 [] :=
  ⟨rfl, .inr ⟨w.heap.size, 0, _, rfl, Nat.le_refl _, heap_alloc_new w _, Nat.zero_le _, by decide, by simp, by simp⟩⟩

set_option maxHeartbeats 1000000 in
theorem clone_any (w : World) (A : Option Addr) (D : List UInt8) (N cap : Nat) (hN : D.length = N) (hs : N ≤ 1099511627776) (hR : Rd w A D) :
    Calls Try.prog 57 #[.slice A N cap] w (Got w D) := by
  have q22 : ∀ (w : World) (a : Option Addr) (n c : Nat), (binOp .eql 26 (.slice a n c) (.slice none 0 0)).run Try.prog w = .ok (.bool a.isNone) w := fun w a n c => Lib.run_eql_slice_nil w _ _ a n c 0 0 Try.underlying26
  cases A with
  | none =>
    have hD : D = [] := by
      rcases D with _ | ⟨b, l⟩
      · rfl
      · obtain ⟨ad, e, _⟩ := hR 0 (byt b) rfl
        cases e
    subst hD
    have O0 := Lib.hid (World.ownsRow_nil w w.heap.size 5 1)
    clear hN hR
    go_enter Try.func57, Try.ntmps57
    go_wp2
    go_ret
    exact ⟨none, 0, rfl, O0.out, Below.refl _ _⟩
  | some ad =>
    have HN := Lib.hid hN
    have O0 := Lib.hid (made_own0 w)
    have hB0 : Below w.heap.size w (w.alloc (.cells #[] 5)) := (Below.refl _ _).alloc (Nat.le_refl _) _
    have HB0 := Lib.hid hB0
    have R1 : Hid (Rd (w.alloc (.cells #[] 5)) (some ad) D) := Lib.hid (hR.below hB0)
    clear hN hR hB0
    go_enter Try.func57, Try.ntmps57
    go_wp2_with (at_builtin; refine wpList_append_vals Try.underlying26 byte_info rfl rfl _ _ rfl w.heap.size (.slice (some ⟨w.heap.size, 0, none⟩) 0 0) 0 [] rfl O0.out (some ad) (D.map byt) (byt_one D) N cap (by rw [List.length_map]; exact HN.out) rfl R1.out (by omega) (by simp) ?_; intro v1 w1 ho1 hg1 _; rw [Nat.zero_add, List.nil_append] at ho1; obtain ⟨A1, c1, rfl, _⟩ := own_form ho1; have HB1 := Lib.hid (HB0.out.grown hg1 HB0.out.size (fun j ej => by cases ej; exact Nat.le_refl _)); have O1 := Lib.hid ho1; clear ho1 hg1)
    go_ret
    exact ⟨A1, c1, by rw [HN.out]; rfl, by rw [HN.out]; exact O1.out, HB1.out⟩

/-- A reader that a call has made; w0's memory is unchanged. -/
structure Rr (w0 w : World) (x : Nat) (T : TypeId) (A : Option Addr) (c : Nat) (D : List UInt8) (s e : Nat) : Prop where
  sp : Sp w x T A c D s e
  bel : Below w0.heap.size w0 w
  ge : w0.heap.size ≤ x
  row : ∀ ad, A = some ad → w0.heap.size ≤ ad.block

/-- A new reader. -/
def Made (w : World) (T : TypeId) (D : List UInt8) (e : Nat) (x : Nat) (w' : World) : Prop := ∃ A c, Rr w w' x T A c D 0 e

theorem made_mk {w w1 : World} {D : List UInt8} {A : Option Addr} {c : Nat} (ho : w1.ownsRow w.heap.size 5 1 (.slice A D.length c) D.length (D.map byt)) (hb : Below w.heap.size w w1) (T : TypeId) (e : Nat) (z : Int) (hz : z = (e : Int)) :
    Made w T D e w1.heap.size (w1.alloc (.cells #[.slice A D.length c, .int .i64 0, .int .i64 z] T)) := by
  subst hz
  have hlt : ∀ ad, A = some ad → w.heap.size ≤ ad.block ∧ ad.block < w1.heap.size := by
    intro ad e
    subst e
    have h1 : Value.ownBlock (.slice (some ad) D.length c) = some ad.block := rfl
    exact ⟨(ho.lt _ h1).1, own_lt ho h1⟩
  have hb2 : Below w1.heap.size w1 (w1.alloc (.cells #[.slice A D.length c, .int .i64 0, .int .i64 (e : Int)] T)) := (Below.refl _ _).alloc (Nat.le_refl _) _
  refine ⟨A, c, ⟨heap_alloc_new w1 _, Rv.below (Rv.of_own ho) hb2, fun ad e => ⟨by have := hlt ad e; omega, ?_⟩⟩, below_on hb (Nat.le_refl _) hb2, hb.size, fun ad e => (hlt ad e).1⟩
  rw [World.size_alloc]
  have := hlt ad e
  omega

set_option maxHeartbeats 1000000 in
theorem newf_any (w : World) (A : Option Addr) (D : List UInt8) (N cap : Nat) (hN : D.length = N) (hs : N ≤ 1099511627776) (hR : Rd w A D) :
    Calls Try.prog 38 #[.slice A N cap] w fun r w' => ∃ x, r = .returned (.pointer (some ⟨x, 0, none⟩)) ∧ Made w 96 D (8 * N) x w' := by
  have CL := Lib.hid (clone_any w A D N cap hN hs hR)
  have HN := Lib.hid hN
  clear hN hR
  go_enter Try.func38, Try.ntmps38
  go_wp2_with fail
  refine CL.out.mono ?_
  rintro e w1 ⟨A1, c1, rfl, ho, hb⟩
  have O1 := Lib.hid ho
  have B1 := Lib.hid hb
  rw [HN.out]
  clear ho hb CL
  go_wp2
  go_ret
  exact ⟨_, rfl, by have := made_mk O1.out B1.out 96 (8 * N) (8 * (N : Int)) (by simp); rw [HN.out] at this; exact this⟩
end

section
open Go.RowKit
/-- Two readers share nothing. -/
structure Sep (x : Nat) (A : Option Addr) (y : Nat) (B : Option Addr) : Prop where
  ne : x ≠ y
  ab : ∀ ad, A = some ad → ad.block ≠ y
  ba : ∀ ad, B = some ad → ad.block ≠ x

section
variable {w0 w w' : World} {x y : Nat} {T U : TypeId} {A B : Option Addr} {c d : Nat} {D E : List UInt8} {s e s' e' : Nat}
theorem Sep.symm (h : Sep x A y B) : Sep y B x A := ⟨fun e => h.ne e.symm, h.ba, h.ab⟩
theorem Sep.new (h : Sp w x T A c D s e) (k : Rr w w' y U B d E s' e') : Sep x A y B :=
  ⟨by have := h.lt; have := k.ge; omega, fun ad e => by have := (h.ne ad e).2; have := k.ge; omega, fun ad e => by have := k.row ad e; have := h.lt; omega⟩
theorem Rr.on (h : Rr w0 w x T A c D s e) (hb : Below w.heap.size w w') : Rr w0 w' x T A c D s e :=
  ⟨h.sp.below hb, below_on h.bel (Nat.le_refl _) hb, h.ge, h.row⟩
theorem Rr.dr (h : Rr w0 w x T A c D s e) (d : Nat) : Rr w0 (w.drewN d) x T A c D s e := ⟨h.sp.drewN d, below_drewN' h.bel d, h.ge, h.row⟩
theorem below_step (hb : Below w0.heap.size w0 w) (hg : w.grownBy w' (some y)) (hy : w0.heap.size ≤ y) : Below w0.heap.size w0 w' :=
  ⟨hg.os.trans hb.os, hg.tape.trans hb.tape, hg.output.trans hb.output, Nat.le_trans hb.size hg.size, fun k hk => (hg.block k (Nat.lt_of_lt_of_le hk hb.size) (by simp; omega)).trans (hb.block k hk)⟩
theorem Rr.step (h : Rr w0 w x T A c D s e) (hs : Sp w' x T A c D s' e') (hg : w.grownBy w' (some x)) : Rr w0 w' x T A c D s' e' :=
  ⟨hs, below_step h.bel hg h.ge, h.ge, h.row⟩
theorem Sp.other (h : Sp w x T A c D s e) (hs : Sep x A y B) (hg : w.grownBy w' (some y)) : Sp w' x T A c D s e :=
  h.same hg.size (hg.block x h.lt (by simpa using hs.ne)) fun ad e => hg.block _ (h.ne ad e).2 (by simpa using hs.ab ad e)
theorem Rr.other (h : Rr w0 w x T A c D s e) (hs : Sep x A y B) (hy : w0.heap.size ≤ y) (hg : w.grownBy w' (some y)) : Rr w0 w' x T A c D s e :=
  ⟨h.sp.other hs hg, below_step h.bel hg hy, h.ge, h.row⟩
theorem Rr.from (hb : Below w0.heap.size w0 w) (h : Rr w w' x T A c D s e) : Rr w0 w' x T A c D s e :=
  ⟨h.sp, below_on hb (Nat.le_refl _) h.bel, Nat.le_trans hb.size h.ge, fun ad e => Nat.le_trans hb.size (h.row ad e)⟩
end
end

section
open Go.RowKit
theorem Rr.eqd {w0 w w' : World} {x : Nat} {T : TypeId} {A : Option Addr} {c : Nat} {D : List UInt8} {s e d : Nat} (h : Rr w0 w x T A c D s e) (hw : w' = w.drewN d) : Rr w0 w' x T A c D s e := by
  subst hw
  exact h.dr d

theorem chk_ok {n : Int} {k : Nat} {sh : Int} (h : chk n k sh = 0) (hs : sh ≠ 0) : 0 ≤ n ∧ n ≤ 64 ∧ n ≤ (k : Int) := by
  unfold chk at h
  split at h
  · cases h
  · split at h
    · exact absurd h hs
    · omega

theorem Wr.drewN {w : World} {x : Nat} {v : Value} {l : List Bool} (h : Wr w x v l) (d : Nat) : Wr (w.drewN d) x v l := h
theorem Chg.drewN {w a : World} {x : Nat} {R : Option Nat} (h : Chg w a x R) (d : Nat) : Chg w (a.drewN d) x R := ⟨h.os, h.tape, h.output, h.size, h.block⟩
theorem Chg.of_drewN {w a : World} {x d : Nat} {R : Option Nat} (h : Chg (w.drewN d) a x R) : Chg w a x R := ⟨h.os, h.tape, h.output, h.size, h.block⟩
end

section
open Go.RowKit
/-- A call of Take: the value V, the error r, and the reader at its new place. -/
def TkPost (w0 w : World) (x : Nat) (T : TypeId) (A : Option Addr) (c : Nat) (D : List UInt8) (V : Nat) (r : Int) (s e : Nat) (q : Ending) (w' : World) : Prop :=
  q = .returned (.tuple #[.int .u64 (V : Int), .int .i64 r]) ∧ Rr w0 w' x T A c D s e ∧ w.grownBy w' (some x)
theorem tk_err {w0 w w' : World} {x : Nat} {T : TypeId} {A : Option Addr} {c : Nat} {D : List UInt8} {s e : Nat} {r : Int} {q : Ending} (h : Rr w0 w x T A c D s e) (k : Err2 w .u64 r q w') : TkPost w0 w x T A c D 0 r s e q w' := by
  obtain ⟨rfl, d, rfl⟩ := k
  exact ⟨rfl, h.dr d, grown_drewN (World.grownBy.refl w (some x)) d⟩

/-- The place and the value behind a call of a Forward's Take. -/
def fpos (n : Int) (s e : Nat) : Nat := if chk n (e - s) 3 = 0 then s + n.toNat else s
def fval (D : List UInt8) (n : Int) (s e : Nat) : Nat := if chk n (e - s) 3 = 0 then cut D s n.toNat else 0
theorem fpos_le (n : Int) (s e : Nat) (h : s ≤ e) : s ≤ fpos n s e ∧ fpos n s e ≤ e := by
  unfold fpos
  split
  · rename_i h0
    have := chk_ok h0 (by decide)
    omega
  · omega
theorem ftake_u {w0 w : World} {x : Nat} {T : TypeId} {A : Option Addr} {c : Nat} {D : List UInt8} {s e : Nat} (h : Rr w0 w x T A c D s e) (hse : s ≤ e) (he : e ≤ 8 * D.length) (hD : D.length ≤ 1099511627776) (n : Int) (r : Int) (hr : chk n (e - s) 3 = r) (V : Nat) (hV : fval D n s e = V) (s' : Nat) (hs : fpos n s e = s') :
    Calls Try.prog 75 #[.pointer (some ⟨x, 0, none⟩), .int .i64 n] w (TkPost w0 w x T A c D V r s' e) := by
  subst hV hs
  unfold fval fpos
  rw [hr]
  by_cases h0 : r = 0
  · subst h0
    have hn := chk_ok hr (by decide)
    obtain ⟨n, rfl⟩ := Int.eq_ofNat_of_zero_le hn.1
    refine (ftake_ok h.sp he hD n (by omega) (by omega)).mono ?_
    rintro q w' ⟨rfl, hs, hg⟩
    exact ⟨rfl, h.step hs hg, hg⟩
  · rw [if_neg h0, if_neg h0]
    exact (ftake_err h.sp (e - s) (by omega) (by omega) n r hr h0).mono fun _ _ k => tk_err h k
end

section
open Go.RowKit
theorem val_noughts : ∀ z : Nat, val (List.replicate z false) = 0
  | 0 => rfl
  | z + 1 => by rw [List.replicate_succ, val, val_noughts z]; rfl

theorem unp_pack (l : List Bool) : ∃ z, unp (pack l) = l ++ List.replicate z false ∧ l.length + z = 8 * (pack l).length ∧ z < 8 := by
  refine ⟨8 * (pack l).length - l.length, val_inj ?_ ?_, ?_, ?_⟩
  · rw [unp_len, List.length_append, List.length_replicate, pack_len]; omega
  · rw [val_unp, num_pack, val_app, val_noughts, Nat.mul_zero, Nat.add_zero]
  · rw [pack_len]; omega
  · rw [pack_len]; omega

theorem str_ex : ∀ (n : Nat) (l : List Bool), l.length = n → ∃ F p c, Str F p c l ∧ c < 8
  | 0, l, h => by
    have : l = [] := List.eq_nil_of_length_eq_zero h
    subst this
    exact ⟨[], 0, 0, Str.nil, by decide⟩
  | n + 1, l, h => by
    have hne : l ≠ [] := by intro e; rw [e] at h; cases h
    obtain ⟨F, p, c, hs, hc⟩ := str_ex n l.dropLast (by rw [List.length_dropLast, h]; rfl)
    have h1 := hs.add (if l.getLast hne then 1 else 0) 1
    have e : bitsOf (if l.getLast hne then 1 else 0) 1 = [l.getLast hne] := by cases l.getLast hne <;> decide
    rw [e, List.dropLast_concat_getLast] at h1
    by_cases h8 : c = 7
    · subst h8
      exact ⟨_, 0, 0, h1.full, by decide⟩
    · exact ⟨_, _, _, h1, by omega⟩

theorem cut_at {D : List UInt8} {a r : List Bool} {q n : Nat} (h : unp D = a ++ (bitsOf q n ++ r)) (hq : q < 2 ^ n) : cut D a.length n = q := by
  rw [cut, h, List.drop_left, List.take_append, bitsOf_len, Nat.sub_self, List.take_zero, List.append_nil, List.take_of_length_le (by rw [bitsOf_len]; exact Nat.le_refl _), val_bitsOf, Nat.mod_eq_of_lt hq]

theorem cut_pad {D : List UInt8} {l : List Bool} {z m : Nat} (h : unp D = l ++ List.replicate z false) (hm : m = z) : cut D l.length m = 0 := by
  subst hm
  rw [cut, h, List.drop_left, List.take_of_length_le (by simp), val_noughts]

/-- A Writer that a call has made; w0's memory is unchanged. -/
structure At (w0 w : World) (x : Nat) (v : Value) (l : List Bool) : Prop where
  wr : Wr w x v l
  bel : Below w0.heap.size w0 w
  ge : w0.heap.size ≤ x
  row : ∀ g, v.ownBlock = some g → w0.heap.size ≤ g

theorem At.new (w0 w : World) (hb : Below w0.heap.size w0 w) : At w0 (w.alloc (.cells #[.int .u8 0, .int .i64 0, .slice none 0 0] 85)) w.heap.size (.slice none 0 0) [] :=
  ⟨⟨[], 0, 0, heap_alloc_new w _, by decide, Str.nil, World.ownsRow_nil _ _ _ _⟩, hb.alloc hb.size _, hb.size, fun g hg => by cases hg⟩
theorem At.on {w0 w w' : World} {x : Nat} {v : Value} {l : List Bool} (h : At w0 w x v l) (hb : Below w.heap.size w w') : At w0 w' x v l :=
  ⟨h.wr.below hb, below_on h.bel (Nat.le_refl _) hb, h.ge, h.row⟩
theorem At.dr {w0 w : World} {x : Nat} {v : Value} {l : List Bool} (h : At w0 w x v l) (d : Nat) : At w0 (w.drewN d) x v l :=
  ⟨h.wr, below_drewN' h.bel d, h.ge, h.row⟩
theorem At.chg {w0 w w' : World} {x : Nat} {v v' : Value} {l l' : List Bool} (h : At w0 w x v l) (hw : Wr w' x v' l') (hc : Chg w w' x v.ownBlock) (hn : New w v.ownBlock v'.ownBlock) : At w0 w' x v' l' := by
  refine ⟨hw, h.bel.trans (hc.below h.bel.size h.ge h.row), h.ge, fun g hg => ?_⟩
  rcases hn with e | ⟨g', e, hge⟩
  · exact h.row g (e ▸ hg)
  · rw [e] at hg
    injection hg with hg
    have := h.bel.size
    omega

theorem At.eqd {w0 w w' : World} {x d : Nat} {v : Value} {l : List Bool} (h : At w0 w x v l) (hw : w' = w.drewN d) : At w0 w' x v l := by
  subst hw
  exact h.dr d
theorem At.other {w0 w w' : World} {x y : Nat} {v : Value} {l : List Bool} (h : At w0 w x v l) (hx : y ≠ x) (hr : ∀ g, v.ownBlock = some g → g ≠ y) (hy : w0.heap.size ≤ y) (hg : w.grownBy w' (some y)) : At w0 w' x v l :=
  ⟨h.wr.same (hg.block x h.wr.lt (by simpa using fun e => hx e.symm)) (fun g e => hg.block g (h.wr.row_lt e) (by simpa using hr g e)), below_step h.bel hg hy, h.ge, h.row⟩
/-- What is new is apart from the Writer. -/
theorem At.apart {w0 w : World} {x y : Nat} {v : Value} {l : List Bool} (h : At w0 w x v l) (hy : w.heap.size ≤ y) : y ≠ x ∧ ∀ g, v.ownBlock = some g → g ≠ y :=
  ⟨by have := h.wr.lt; omega, fun g e => by have := h.wr.row_lt e; omega⟩
end

end Go.Proofs.Ytpjbjbohbdlciaa.Bt
