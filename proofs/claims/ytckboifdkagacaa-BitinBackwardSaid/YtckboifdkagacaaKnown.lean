/-
  Readers side by side; the laws' helpers took and known, the chapter's examples: known returns true. Nothing that was there has changed. No condition.
-/
import Derived.Test.YtckboifdkagacaaNew
namespace Go.Proofs.Ytckboifdkagacaa
open Go.RowKit

/-- Two readers share nothing. -/
structure Sep (x : Nat) (A : Option Addr) (y : Nat) (B : Option Addr) : Prop where
  ne : x ≠ y
  ab : ∀ ad, A = some ad → ad.block ≠ y
  ba : ∀ ad, B = some ad → ad.block ≠ x

section
variable {w0 w w' : World} {x y : Nat} {T U : TypeId} {A B : Option Addr} {c d : Nat} {D E : List UInt8} {s e s' e' : Nat}
theorem Sep.symm (h : Sep x A y B) : Sep y B x A := ⟨fun e => h.ne e.symm, h.ba, h.ab⟩
theorem Sep.new (h : Sp w x T A c D s e) (k : Rr w w' y U B d E s' e') : Sep x A y B :=
  ⟨by have := h.lt; have := k.ge; omega, fun ad e => by have := (h.ne ad e).2; have := k.ge; omega, fun ad e => by have := k.row ad e; have := h.lt; omega⟩
theorem Rr.on (h : Rr w0 w x T A c D s e) (hb : Below w.heap.size w w') : Rr w0 w' x T A c D s e :=
  ⟨h.sp.below hb, below_on h.bel (Nat.le_refl _) hb, h.ge, h.row⟩
theorem Rr.dr (h : Rr w0 w x T A c D s e) (d : Nat) : Rr w0 (w.drewN d) x T A c D s e := ⟨h.sp.drewN d, below_drewN' h.bel d, h.ge, h.row⟩
theorem below_step (hb : Below w0.heap.size w0 w) (hg : w.grownBy w' (some y)) (hy : w0.heap.size ≤ y) : Below w0.heap.size w0 w' :=
  ⟨hg.os.trans hb.os, hg.tape.trans hb.tape, hg.output.trans hb.output, Nat.le_trans hb.size hg.size, fun k hk => (hg.block k (Nat.lt_of_lt_of_le hk hb.size) (by simp; omega)).trans (hb.block k hk)⟩
theorem Rr.step (h : Rr w0 w x T A c D s e) (hs : Sp w' x T A c D s' e') (hg : w.grownBy w' (some x)) : Rr w0 w' x T A c D s' e' :=
  ⟨hs, below_step h.bel hg h.ge, h.ge, h.row⟩
theorem Sp.other (h : Sp w x T A c D s e) (hs : Sep x A y B) (hg : w.grownBy w' (some y)) : Sp w' x T A c D s e :=
  h.same hg.size (hg.block x h.lt (by simpa using hs.ne)) fun ad e => hg.block _ (h.ne ad e).2 (by simpa using hs.ab ad e)
theorem Rr.other (h : Rr w0 w x T A c D s e) (hs : Sep x A y B) (hy : w0.heap.size ≤ y) (hg : w.grownBy w' (some y)) : Rr w0 w' x T A c D s e :=
  ⟨h.sp.other hs hg, below_step h.bel hg hy, h.ge, h.row⟩
theorem Rr.from (hb : Below w0.heap.size w0 w) (h : Rr w w' x T A c D s e) : Rr w0 w' x T A c D s e :=
  ⟨h.sp, below_on hb (Nat.le_refl _) h.bel, Nat.le_trans hb.size h.ge, fun ad e => Nat.le_trans hb.size (h.row ad e)⟩
end

set_option maxHeartbeats 400000 in
theorem took_yes (w : World) (a b : Int) : Calls Try.prog 31 #[.int .u64 a, .int .i64 b, .int .u64 a, .int .i64 b] w fun e w' => e = .returned (.bool true) ∧ w = w' := by
  go_enter Try.func31, Try.ntmps31
  go_wp2
  go_ret
  exact ⟨rfl, rfl⟩

theorem lit_rd1 (w : World) (p : Nat) (hp : p < 256) (z : Int) (hz : z = (p : Int)) : Rd (w.alloc (.cells #[.int .u8 z] 5)) (some ⟨w.heap.size, 0, none⟩) [UInt8.ofNat p] := by
  subst hz
  exact rd_one w p hp

theorem lit_rd2 (w : World) (p q : Nat) (hp : p < 256) (hq : q < 256) (y z : Int) (hy : y = (p : Int)) (hz : z = (q : Int)) : Rd (w.alloc (.cells #[.int .u8 y, .int .u8 z] 5)) (some ⟨w.heap.size, 0, none⟩) [UInt8.ofNat p, UInt8.ofNat q] := by
  subst hy hz
  have hb := heap_alloc_new w (.cells #[.int .u8 (p : Int), .int .u8 (q : Int)] 5 (0, 0))
  intro j v hj
  refine ⟨_, rfl, ?_⟩
  rcases j with _ | _ | j
  · have e : (Addr.add ⟨w.heap.size, 0, none⟩ 0) = ⟨w.heap.size, 0, none⟩ := rfl
    rw [e, cell_of_row _ _ 0 _ _ _ hb]
    simp at hj
    subst hj
    rw [byt_of hp]
    rfl
  · have e : (Addr.add ⟨w.heap.size, 0, none⟩ 1) = ⟨w.heap.size, 1, none⟩ := rfl
    rw [e, cell_of_row _ _ 1 _ _ _ hb]
    simp at hj
    subst hj
    rw [byt_of hq]
    rfl
  · simp at hj

/-- The calls at numbers. -/
theorem ftake_r {w : World} {x : Nat} {T : TypeId} {A : Option Addr} {c : Nat} {D : List UInt8} {s e : Nat} (h : Sp w x T A c D s e) (he : e ≤ 8 * D.length) (hD : D.length ≤ 1099511627776) (n : Nat) (hn : n ≤ 64) (hs : s + n ≤ e) (z : Int) (hz : z = (n : Int)) (V s' : Nat) (hV : cut D s n = V) (hs' : s + n = s') :
    Calls Try.prog 16 #[.pointer (some ⟨x, 0, none⟩), .int .i64 z] w (FTook w x T A c D V s' e) := by
  subst hz hV hs'
  exact ftake_ok h he hD n hn hs
theorem btake_r {w : World} {x : Nat} {T : TypeId} {A : Option Addr} {c : Nat} {D : List UInt8} {e : Nat} (h : Sp w x T A c D 0 e) (he : e ≤ 8 * D.length) (hD : D.length ≤ 1099511627776) (n : Nat) (hn : n ≤ 64) (hs : n ≤ e) (z : Int) (hz : z = (n : Int)) (V e' : Nat) (hV : cut D (e - n) n = V) (hs' : e - n = e') :
    Calls Try.prog 26 #[.pointer (some ⟨x, 0, none⟩), .int .i64 z] w (BTook w x T A c D V e') := by
  subst hz hV hs'
  exact btake_ok h he hD n hn hs
theorem peek_r {w : World} {x : Nat} {T : TypeId} {A : Option Addr} {c : Nat} {D : List UInt8} {e : Nat} (h : Sp w x T A c D 0 e) (he : e ≤ 8 * D.length) (hD : D.length ≤ 1099511627776) (n : Int) (m : Nat) (hm : min n.toNat 64 = m) (V : Nat) (hV : pk D e m = V) :
    Calls Try.prog 22 #[.pointer (some ⟨x, 0, none⟩), .int .i64 n] w (PkPost w V) := by
  subst hV
  exact peek_any h he hD n m hm

theorem newf_r (w : World) (A : Option Addr) (D : List UInt8) (N cap : Nat) (hN : D.length = N) (hs : N ≤ 1099511627776) (hR : Rd w A D) (e : Nat) (he : 8 * N = e) :
    Calls Try.prog 12 #[.slice A N cap] w fun r w' => ∃ x, r = .returned (.pointer (some ⟨x, 0, none⟩)) ∧ Made w 68 D e x w' := by
  subst he
  exact newf_any w A D N cap hN hs hR
theorem newb_r (w : World) (A : Option Addr) (F : List UInt8) (b : UInt8) (D : List UInt8) (hD : F ++ [b] = D) (N cap : Nat) (hN : F.length + 1 = N) (hs : N ≤ 1099511627776) (hR : Rd w A D) (hb : b.toNat ≠ 0) (e : Nat) (he : 8 * F.length + b.toNat.log2 = e) :
    Calls Try.prog 20 #[.slice A N cap] w fun r w' => ∃ x, r = .returned (.tuple #[.pointer (some ⟨x, 0, none⟩), .int .i64 0]) ∧ Made w 69 D e x w' := by
  subst he hD
  exact newb_ok w A F b N cap hN hs hR hb
theorem bleft_r {w : World} {x : Nat} {T : TypeId} {A : Option Addr} {c : Nat} {D : List UInt8} {e : Nat} (h : Sp w x T A c D 0 e) (he : e ≤ 8796093022208) (z : Int) (hz : (e : Int) = z) : Calls Try.prog 27 #[.pointer (some ⟨x, 0, none⟩)] w fun r w' => r = .returned (.int .i64 z) ∧ ∃ d, w' = w.drewN d := by
  subst hz
  exact bleft_any h he

set_option maxRecDepth 100000 in
set_option maxHeartbeats 1000000 in
theorem known_any (w : World) : Calls Try.prog 11 #[] w fun e w' => e = .returned (.bool true) ∧ Below w.heap.size w w' := by
  have hb0 : ∀ (W : World) (o : Obj), Below W.heap.size W (W.alloc o) := fun W o => (Below.refl _ _).alloc (Nat.le_refl _) _
  have HB0 := Lib.hid hb0
  clear hb0
  go_enter Try.func11, Try.ntmps11
  go_wp2_with fail
  refine (newf_r _ _ [45] 1 1 rfl (by decide) (lit_rd1 _ 45 (by decide) 45 rfl) 8 rfl).mono ?_
  rintro e w1 ⟨x, rfl, A, c, h1⟩
  have F1 := Lib.hid (h1.from (HB0.out _ _))
  clear h1
  go_wp2_with fail
  refine (newb_r _ _ [] 45 [45] rfl 1 1 rfl (by decide) (lit_rd1 _ 45 (by decide) 45 rfl) (by decide) 5 (by decide +kernel)).mono ?_
  rintro e w2 ⟨y, rfl, B, d, h2⟩
  have F2 := Lib.hid ((F1.out.on (HB0.out _ _)).on h2.bel)
  have S2 := Lib.hid (Sep.new (F1.out.on (HB0.out _ _)).sp h2)
  have K2 := Lib.hid (Rr.from (F1.out.on (HB0.out _ _)).bel h2)
  clear F1 h2
  go_wp2_with fail
  refine (newb_zero _ _ [45] 0 2 2 rfl (by decide) (lit_rd2 _ 45 0 (by decide) (by decide) 45 0 rfl rfl) rfl).mono ?_
  rintro e w3 ⟨rfl, rfl⟩
  have F3 := Lib.hid (F2.out.on (HB0.out _ (.cells #[.int .u8 45, .int .u8 0] 5)))
  have K3 := Lib.hid (K2.out.on (HB0.out _ (.cells #[.int .u8 45, .int .u8 0] 5)))
  clear F2 K2
  generalize w2.alloc (.cells #[.int .u8 45, .int .u8 0] 5) = w3 at F3 K3 ⊢
  go_wp2_with fail
  refine (newb_none _ _ _).mono ?_
  rintro e w3 ⟨rfl, rfl⟩
  go_wp2_with fail
  refine (newb_r _ _ [] 1 [1] rfl 1 1 rfl (by decide) (lit_rd1 _ 1 (by decide) 1 rfl) (by decide) 0 (by decide +kernel)).mono ?_
  rintro e w4 ⟨z, rfl, C, g, h4⟩
  have Z4 := Lib.hid (Rr.from (F3.out.on (HB0.out _ _)).bel h4)
  have SZF := Lib.hid (Sep.new (F3.out.on (HB0.out _ _)).sp h4)
  have SZK := Lib.hid (Sep.new (K3.out.on (HB0.out _ _)).sp h4)
  have F4 := Lib.hid ((F3.out.on (HB0.out _ _)).on h4.bel)
  have K4 := Lib.hid ((K3.out.on (HB0.out _ _)).on h4.bel)
  clear h4 F3 K3
  go_wp2_with fail
  refine (ftake_r F4.out.sp (by decide) (by decide) 3 (by decide) (by decide) 3 rfl 5 3 (by decide +kernel) rfl).mono ?_
  rintro e w5 ⟨rfl, hs, hg⟩
  have F5 := Lib.hid (F4.out.step hs hg)
  have K5 := Lib.hid (K4.out.other S2.out.symm F4.out.ge hg)
  have Z5 := Lib.hid (Z4.out.other SZF.out.symm F4.out.ge hg)
  clear F4 K4 Z4 hs hg
  go_wp2_with fail
  refine (ftake_r F5.out.sp (by decide) (by decide) 2 (by decide) (by decide) 2 rfl 1 5 (by decide +kernel) rfl).mono ?_
  rintro e w6 ⟨rfl, hs, hg⟩
  have F6 := Lib.hid (F5.out.step hs hg)
  have K6 := Lib.hid (K5.out.other S2.out.symm F5.out.ge hg)
  have Z6 := Lib.hid (Z5.out.other SZF.out.symm F5.out.ge hg)
  clear F5 K5 Z5 hs hg
  go_wp2_with fail
  refine (ftake_r F6.out.sp (by decide) (by decide) 3 (by decide) (by decide) 3 rfl 1 8 (by decide +kernel) rfl).mono ?_
  rintro e w7 ⟨rfl, hs, hg⟩
  have F7 := Lib.hid (F6.out.step hs hg)
  have K7 := Lib.hid (K6.out.other S2.out.symm F6.out.ge hg)
  have Z7 := Lib.hid (Z6.out.other SZF.out.symm F6.out.ge hg)
  clear F6 K6 Z6 hs hg
  go_wp2_with fail
  refine (ftake_err F7.out.sp 0 (by decide) (by decide) 1 3 (by decide) (by decide)).mono ?_
  rintro e w8 ⟨rfl, d8, rfl⟩
  have K8 := Lib.hid (K7.out.dr d8)
  have Z8 := Lib.hid (Z7.out.dr d8)
  clear F7 K7 Z7
  go_wp2_with fail
  refine (peek_r K8.out.sp (by decide +kernel) (by decide) 4 4 (by decide) 6 (by decide +kernel)).mono ?_
  rintro e w9 ⟨rfl, hb⟩
  have K9 := Lib.hid (K8.out.on hb)
  have Z9 := Lib.hid (Z8.out.on hb)
  clear K8 Z8 hb
  go_wp2_with fail
  refine (btake_r K9.out.sp (by decide +kernel) (by decide) 2 (by decide) (by decide +kernel) 2 rfl 1 3 (by decide +kernel) (by decide +kernel)).mono ?_
  rintro e w10 ⟨rfl, hs, hg⟩
  have Z10 := Lib.hid (Z9.out.other SZK.out.symm K9.out.ge hg)
  have K10 := Lib.hid (K9.out.step hs hg)
  clear K9 Z9 hs hg
  go_wp2_with fail
  refine (btake_r K10.out.sp (by decide +kernel) (by decide) 3 (by decide) (by decide +kernel) 3 rfl 5 0 (by decide +kernel) (by decide +kernel)).mono ?_
  rintro e w11 ⟨rfl, hs, hg⟩
  have Z11 := Lib.hid (Z10.out.other SZK.out.symm K10.out.ge hg)
  have K11 := Lib.hid (K10.out.step hs hg)
  clear K10 Z10 hs hg
  go_wp2_with fail
  refine (took_yes _ 5 0).mono ?_
  rintro e w12 ⟨rfl, rfl⟩
  go_wp2_with fail
  refine (took_yes _ 1 0).mono ?_
  rintro e w12 ⟨rfl, rfl⟩
  go_wp2_with fail
  refine (took_yes _ 1 0).mono ?_
  rintro e w12 ⟨rfl, rfl⟩
  go_wp2_with fail
  refine (took_yes _ 0 3).mono ?_
  rintro e w12 ⟨rfl, rfl⟩
  go_wp2_with fail
  refine (took_yes _ 1 0).mono ?_
  rintro e w12 ⟨rfl, rfl⟩
  go_wp2_with fail
  refine (took_yes _ 5 0).mono ?_
  rintro e w12 ⟨rfl, rfl⟩
  go_wp2_with fail
  refine (bleft_r K11.out.sp (by decide) 0 rfl).mono ?_
  rintro e w12 ⟨rfl, d12, rfl⟩
  have K12 := Lib.hid (K11.out.dr d12)
  have Z12 := Lib.hid (Z11.out.dr d12)
  clear K11 Z11
  go_wp2_with fail
  refine (peek_r K12.out.sp (by decide +kernel) (by decide) 2 2 (by decide) 0 (by decide +kernel)).mono ?_
  rintro e w13 ⟨rfl, hb⟩
  have Z13 := Lib.hid (Z12.out.on hb)
  clear K12 Z12 hb
  go_wp2_with fail
  refine (bleft_r Z13.out.sp (by decide) 0 rfl).mono ?_
  rintro e w14 ⟨rfl, d14, rfl⟩
  have Z14 := Lib.hid (Z13.out.dr d14)
  clear Z13
  go_wp2
  go_ret
  exact ⟨rfl, Z14.out.bel⟩

end Go.Proofs.Ytckboifdkagacaa
