/-
  What the reader's norms does after an error, and its table. Conditions: at most 1000 bytes; at most 256 symbols and the Log 9.
-/
import Derived.Test.YtpjbjbohbdlciaaNms
import Derived.Test.YtpjbjbohbdlciaaVtb
namespace Go.Proofs.Ytpjbjbohbdlciaa
open Go.RowKit Go.Shelf
open Bt (unp unp_len)

set_option maxRecDepth 100000 in
set_option maxHeartbeats 1000000 in
theorem norms_err {w : World} {r x : Nat} {A : Option Addr} {c : Nat} {D : List UInt8} {s : Nat} {er : Int} (h : Dr w r x A c D s er) (h0 : er ≠ 0) (L sy : Int) :
    Calls Try.prog 60 #[.pointer (some ⟨r, 0, none⟩), .int .i64 L, .int .i64 sy] w fun q w' => q = .returned (.slice none 0 0) ∧ w' = w := by
  have k1 := h.c1
  have heb : (er == 0) = false := by simpa using h0
  clear h h0
  by_cases hL : 0 < L
  · have hd : decide (0 < L) = true := decide_eq_true hL
    go_enter Try.func60, Try.ntmps60
    go_wp2
    go_step3
    go_wp2
    go_step3
    go_wp2
    go_loopw [1, 7] (fun a b wr => a = .int .i64 L ∧ b = .slice none 0 0 ∧ w = wr) (fun _ _ _ => 0)
    case atStart => exact ⟨rfl, rfl, rfl⟩
    case round =>
      obtain ⟨rfl, rfl, hw⟩ := hrel
      subst hw
      go_wp2
      rw [Exit.noGoto_ret]
      go_ret
      exact ⟨rfl, rfl⟩
  · have hd : decide (0 < L) = false := decide_eq_false hL
    go_enter Try.func60, Try.ntmps60
    go_wp2
    go_step3
    go_wp2
    go_step3
    go_wp2
    go_loopw [1, 7] (fun a b wr => a = .int .i64 L ∧ b = .slice none 0 0 ∧ w = wr) (fun _ _ _ => 0)
    case atStart => exact ⟨rfl, rfl, rfl⟩
    case round =>
      obtain ⟨rfl, rfl, hw⟩ := hrel
      subst hw
      go_wp2
      rw [Exit.noGoto_ret]
      go_ret
      exact ⟨rfl, rfl⟩

/-- What table leaves. -/
def TableP (w : World) (r x : Nat) (A : Option Addr) (c : Nat) (D : List UInt8) (Rz : Rs) (q : Ending) (w' : World) : Prop :=
  ∃ (Y : Int) (A1 : Option Addr) (n1 c1 : Nat), q = .returned (tb Y A1 n1 c1) ∧ match Rz with
    | .ok out s => Left w r x A c D s 0 w' ∧ Y = ((tk (unp D) 0 4 + 1 : Nat) : Int) ∧ w'.ownsRow w.heap.size 3 1 (.slice A1 n1 c1) n1 (out.map iv)
    | .bad e => e ≠ 0 ∧ ∃ s, Left w r x A c D s (e : Int) w'

theorem pow_facts16 {y s : Nat} (h : 2 ^ y = s) (hy : y ≤ 16) : s ≤ 65536 ∧ decide ((y : Int) < 0) = false ∧ IntKind.i64.wrap (2 ^ y) = (s : Int) ∧ IntKind.i64.wrap (2 ^ min y 64) = (s : Int) ∧ wrap64 (2 ^ y) = (s : Int) ∧ wrap64 (2 ^ min y 64) = (s : Int) := by
  have hs : s ≤ 65536 := by
    rw [← h]
    exact Nat.pow_le_pow_right (n := 2) (by decide) hy
  have e : (2 : Int) ^ y = (s : Int) := by rw [← h]; exact (Int.natCast_pow 2 y).symm
  have e2 : min y 64 = y := Nat.min_eq_left (by omega)
  rw [e2, e]
  clear h e e2
  exact ⟨hs, decide_eq_false (by omega), IntWalk.i64_in _ (by omega), IntWalk.i64_in _ (by omega), by unfold wrap64; omega, by unfold wrap64; omega⟩

theorem results_cell {fn : Func} {a : Tmp} {t : TypeId} (h : fn.results = #[.cell a t]) {tmps : Array Value} {P : Program} {w : World} {ad : Addr} {v : Value} (hp : tmps.getD a undef = .pointer (some ad)) (hl : (loadVar t ad).run P w = .ok v w) :
    (results fn tmps).run P w = .ok v w := by
  have hp' : tmps[a]?.getD undef = .pointer (some ad) := by simpa using hp
  simp [results, h, hp', asAddr]
  exact hl
theorem results_cell2 {fn : Func} {a b : Tmp} {t : TypeId} (h : fn.results = #[.cell a t, .tmp b]) {tmps : Array Value} {P : Program} {w : World} {ad : Addr} {v : Value} (hp : tmps.getD a undef = .pointer (some ad)) (hl : (loadVar t ad).run P w = .ok v w) :
    (results fn tmps).run P w = .ok (.tuple #[v, tmps.getD b undef]) w := by
  have hp' : tmps[a]?.getD undef = .pointer (some ad) := by simpa using hp
  simp [results, h, hp', asAddr]
  rw [hl]
  simp [Result.andThen]
theorem results_cell3 {fn : Func} {a b d : Tmp} {t : TypeId} (h : fn.results = #[.cell a t, .tmp b, .tmp d]) {tmps : Array Value} {P : Program} {w : World} {ad : Addr} {v : Value} (hp : tmps.getD a undef = .pointer (some ad)) (hl : (loadVar t ad).run P w = .ok v w) :
    (results fn tmps).run P w = .ok (.tuple #[v, tmps.getD b undef, tmps.getD d undef]) w := by
  have hp' : tmps[a]?.getD undef = .pointer (some ad) := by simpa using hp
  simp [results, h, hp', asAddr]
  rw [hl]
  simp [Result.andThen]

theorem Dr.chg {w w' : World} {r x : Nat} {A : Option Addr} {c : Nat} {D : List UInt8} {s : Nat} {er : Int} (h : Dr w r x A c D s er) {S : Nat → Prop} (hc : Chg S w w') (h1 : ¬ S r) (h2 : ¬ S x) (h3 : ∀ ad, A = some ad → ¬ S ad.block) : Dr w' r x A c D s er :=
  ⟨(hc.block r h.lt h1).trans h.blk, h.sp.same hc.size (hc.block x h.sp.lt h2) (fun ad e => hc.block _ (h.sp.ne ad e).2 (h3 ad e)), h.ne, h.na, h.le⟩
theorem Chg.newer {S T : Nat → Prop} {a b c : World} (h : Chg S a b) (k : Chg T b c) (hT : ∀ k, T k → a.heap.size ≤ k) : Chg S a c :=
  ⟨k.os.trans h.os, k.tape.trans h.tape, k.output.trans h.output, Nat.le_trans h.size k.size, fun i hi hn => (k.block i (Nat.lt_of_lt_of_le hi h.size) (fun e => by have := hT i e; omega)).trans (h.block i hi hn)⟩

/-- The first four bits are read. -/
theorem tk4_u {w : World} {r x : Nat} {A : Option Addr} {c : Nat} {D : List UInt8} (h : Dr w r x A c D 0 0) (hD : D.length ≤ 1000) :
    Calls Try.prog 58 #[.pointer (some ⟨r, 0, none⟩), .int .i64 4] w fun q w' => ∃ (k s1 : Nat) (er1 : Int), q = .returned (.int .i64 (k : Int)) ∧ ((4 ≤ (unp D).length ∧ k = tk (unp D) 0 4 ∧ s1 = 4 ∧ er1 = 0) ∨ ((unp D).length < 4 ∧ er1 = 3)) ∧ k ≤ 15 ∧ Left w r x A c D s1 er1 w' := by
  by_cases hs : 0 + 4 ≤ 8 * D.length
  · have hk : tk (unp D) 0 4 < 16 := tk_lt _ _ 4
    refine (take_ok h hD 4 (by decide) hs _ rfl).mono ?_
    rintro q w' ⟨rfl, hl⟩
    exact ⟨_, 4, 0, rfl, .inl ⟨by rw [unp_len]; omega, rfl, rfl, rfl⟩, by omega, hl⟩
  · refine (take_short h hD 4 (by decide) (by omega)).mono ?_
    rintro q w' ⟨rfl, hl⟩
    exact ⟨0, 0, 3, rfl, .inr ⟨by rw [unp_len]; omega, rfl⟩, by decide, hl⟩

theorem NormsP.left {w : World} {r x : Nat} {A : Option Addr} {c : Nat} {D : List UInt8} {Rz : Rs} {q : Ending} {w' : World} (h : NormsP w r x A c D Rz q w') : ∃ s er, Left w r x A c D s er w' := by
  obtain ⟨A1, n1, c1, _, h⟩ := h
  cases Rz with
  | ok out s => exact ⟨s, 0, h.1⟩
  | bad e => exact ⟨h.2.choose, (e : Int), h.2.choose_spec⟩

/-- The norms, whatever error was kept before. -/
theorem norms_u {w : World} {r x : Nat} {A : Option Addr} {c : Nat} {D : List UInt8} {s : Nat} {er : Int} (h : Dr w r x A c D s er) (hD : D.length ≤ 1000) (left : Nat) (sy : Int) (hsy : sy ≤ 256) (Rz : Rs) (h1 : er = 0 → left ≤ 512 ∧ dec (unp D) sy left [] s false = Rz) (h2 : er ≠ 0 → ∃ e : Nat, er = (e : Int) ∧ Rz = .bad e) :
    Calls Try.prog 60 #[.pointer (some ⟨r, 0, none⟩), .int .i64 (left : Int), .int .i64 sy] w (NormsP w r x A c D Rz) := by
  by_cases h0 : er = 0
  · subst h0
    exact norms_any h hD left (h1 rfl).1 sy hsy Rz (h1 rfl).2
  · obtain ⟨e, he, rfl⟩ := h2 h0
    refine (norms_err h h0 (left : Int) sy).mono ?_
    rintro q w' ⟨rfl, rfl⟩
    subst he
    exact ⟨none, 0, 0, rfl, fun e0 => h0 (by rw [e0]; rfl), s, Left.refl h⟩

set_option maxRecDepth 100000 in
set_option maxHeartbeats 2000000 in
theorem table_any {w : World} {r x : Nat} {A : Option Addr} {c : Nat} {D : List UInt8} (h : Dr w r x A c D 0 0) (hD : D.length ≤ 1000) (sy lg : Int) (hsy : sy ≤ 256) (hlg : lg ≤ 9) (Rz : Rs) (hR : dcp (unp D) sy lg = Rz) :
    Calls Try.prog 40 #[.pointer (some ⟨r, 0, none⟩), .int .i64 sy, .int .i64 lg] w (TableP w r x A c D Rz) := by
  have t1 := Tb.new w 0 none 0 0
  have b1 : Below w.heap.size w (w.alloc (.cells #[.int .i64 0, .slice none 0 0] 24)) := (Below.refl _ w).alloc (Nat.le_refl _) _
  obtain ⟨w1, hw1⟩ : ∃ w1, w.alloc (.cells #[.int .i64 0, .slice none 0 0] 24) = w1 := ⟨_, rfl⟩
  rw [hw1] at t1 b1
  have HRX : Hid (r < w.heap.size ∧ x < w.heap.size ∧ ∀ ad, A = some ad → ad.block < w.heap.size) := Lib.hid ⟨h.lt, h.sp.lt, fun ad e => (h.sp.ne ad e).2⟩
  have sz1 : w1.heap.size = w.heap.size + 1 := by rw [← hw1, World.size_alloc]
  have TK := Lib.hid (tk4_u (h.below b1) hD)
  have HR := Lib.hid hR
  have T1 := Lib.hid t1
  have B1 := Lib.hid b1
  have SZ1 := Lib.hid sz1
  clear h t1 b1 sz1 hR
  go_enter Try.func40, Try.ntmps40
  go_upto_region 2 with (go_at_call 58; refine TK.out.mono ?_; rintro q w2 ⟨k, s1, er1, rfl, hk, hk15, hl2⟩; have L2 := Lib.hid hl2; have HK := Lib.hid hk; clear hl2 hk; obtain ⟨y, hy⟩ : ∃ y, k + 1 = y := ⟨_, rfl⟩; have hy1 : 1 + (k : Int) = (y : Int) := by omega)
  have hsz2 := L2.out.2.size
  have b3 : Below w2.heap.size w2 (w2.alloc (.cells #[.int .i64 (y : Int), .slice none 0 0] 24)) := (Below.refl _ w2).alloc (Nat.le_refl _) _
  have t3 := Tb.new w2 (y : Int) none 0 0
  have t31 : Tb (w2.alloc (.cells #[.int .i64 (y : Int), .slice none 0 0] 24)) w.heap.size 0 none 0 0 := (T1.out.same (L2.out.2.block _ (by rw [SZ1.out]; omega) (by have := HRX.out; rintro (e | e) <;> omega))).below b3
  obtain ⟨w3, hw3⟩ : ∃ w3, w2.alloc (.cells #[.int .i64 (y : Int), .slice none 0 0] 24) = w3 := ⟨_, rfl⟩
  rw [hw3] at b3 t3 t31
  obtain ⟨b7, hb7⟩ : ∃ b7, w2.heap.size = b7 := ⟨_, rfl⟩
  rw [hb7] at t3 hsz2
  have hb7r : ¬ two r x b7 := by have := HRX.out; rw [SZ1.out] at hsz2; rintro (e | e) <;> omega
  have hb6r : ¬ two r x w.heap.size := by have := HRX.out; rintro (e | e) <;> omega
  have hb67 : w.heap.size ≠ b7 := by rw [SZ1.out] at hsz2; omega
  obtain ⟨b, hb⟩ : ∃ b, decide ((y : Int) ≤ lg) = b := ⟨_, rfl⟩
  obtain ⟨er2, her2⟩ : ∃ er2, dem b er1 = er2 := ⟨_, rfl⟩
  have L3 : Left w r x A c D s1 er1 w3 := ⟨L2.out.1.below b3, ((Chg.of_below B1.out).trans (S := two r x) L2.out.2).below b3⟩
  have DM := Lib.hid (demand_any L3.1 b er2 her2)
  obtain ⟨P, hP⟩ : ∃ P, 2 ^ y = P := ⟨_, rfl⟩
  obtain ⟨_, kb, p1, p2, p3, p4⟩ := pow_facts16 hP (by omega)
  have NM : Hid (∀ W, Dr W r x A c D s1 er2 → Calls Try.prog 60 #[.pointer (some ⟨r, 0, none⟩), .int .i64 (P : Int), .int .i64 sy] W (NormsP W r x A c D Rz)) := Lib.hid (fun W hW => by
    have hR := HR.out
    refine norms_u hW hD P sy hsy Rz (fun e0 => ?_) (fun e0 => ?_)
    · rcases HK.out with ⟨h4, hk, rfl, rfl⟩ | ⟨h4, rfl⟩
      · have hbt : b = true := by
          cases b with
          | true => rfl
          | false => rw [← her2] at e0; exact absurd e0 (by decide)
        rw [hbt, decide_eq_true_iff] at hb
        rw [dcp, if_neg (by omega), ← hk, hy, if_neg (by omega), hP] at hR
        refine ⟨?_, hR⟩
        rw [← hP]
        exact pow_le (by omega)
      · exfalso
        rw [← her2] at e0
        cases b <;> exact absurd e0 (by decide)
    · rcases HK.out with ⟨h4, hk, rfl, rfl⟩ | ⟨h4, rfl⟩
      · have hbt : b = false := by
          cases b with
          | false => rfl
          | true => rw [← her2] at e0; exact absurd rfl e0
        rw [hbt] at her2
        rw [hbt, decide_eq_false_iff_not] at hb
        rw [dcp, if_neg (by omega), ← hk, hy, if_pos (by omega)] at hR
        exact ⟨13, her2.symm, hR.symm⟩
      · rw [dcp, if_pos h4] at hR
        refine ⟨3, ?_, hR.symm⟩
        rw [← her2]
        cases b <;> rfl)
  have HY : Hid (∀ out s, Rz = .ok out s → (y : Int) = ((tk (unp D) 0 4 + 1 : Nat) : Int)) := Lib.hid (fun out s e => by
    rcases HK.out with ⟨h4, hk, _⟩ | ⟨h4, _⟩
    · omega
    · have hR := HR.out
      rw [dcp, if_pos h4, e] at hR
      cases hR)
  have HG7 : Hid (w.heap.size ≤ b7) := Lib.hid (by rw [SZ1.out] at hsz2; omega)
  have L3' := Lib.hid L3
  have T3 := Lib.hid t3
  have T31 := Lib.hid t31
  have e0 := t3.c0
  clear L3 t3 t31 HR HK TK b3 her2 hP hy L2 T1 hsz2
  go_wp2_with (first
    | (go_at_call 59; refine DM.out.mono ?_; rintro q w4 ⟨rfl, hl4⟩; have L4 := Lib.hid (L3'.out.trans hl4); have T4 := Lib.hid (T3.out.same (hl4.2.block b7 T3.out.lt hb7r)); have T41 := Lib.hid (T31.out.same (hl4.2.block _ T31.out.lt hb6r)); have k0 := T4.out.c0; clear hl4)
    | (go_at_call 60; refine (NM.out _ L4.out.1).mono ?_; intro q w5 hn; obtain ⟨s5, er5, hl5⟩ := hn.left; have HN := Lib.hid hn; obtain ⟨A5, n5, c5, rfl, _⟩ := hn; have T5 := Lib.hid (T4.out.same (hl5.2.block b7 T4.out.lt hb7r)); have T51 := Lib.hid (T41.out.same (hl5.2.block _ T41.out.lt hb6r)); have f5 := T5.out.free 1; have c51 := T5.out.c1; have q6 := T5.out.set1 A5 n5 c5; have r6 : Tb (w5.setCell ⟨b7, 1, none⟩ (.slice A5 n5 c5)) w.heap.size 0 none 0 0 := T51.out.same (Below.heap_setCell _ _ _ _ hb67); obtain ⟨w6, hw6⟩ : ∃ w6, w5.setCell ⟨b7, 1, none⟩ (.slice A5 n5 c5) = w6 := ⟨_, rfl⟩; rw [hw6] at q6 r6; have k6 := q6.c0; have k61 := q6.c1; have i6 := r6.c0; have i61 := r6.c1; have f6 := r6.free 0; have r7 := r6.set0 (y : Int); obtain ⟨w7, hw7⟩ : ∃ w7, w6.setCell ⟨w.heap.size, 0, none⟩ (.int .i64 (y : Int)) = w7 := ⟨_, rfl⟩; rw [hw7] at r7; have i7 := r7.c1; have f7 := r7.free 1; have r8 := r7.set1 A5 n5 c5; obtain ⟨w8, hw8⟩ : ∃ w8, w7.setCell ⟨w.heap.size, 1, none⟩ (.slice A5 n5 c5) = w8 := ⟨_, rfl⟩; rw [hw8] at r8; have R8 := Lib.hid r8; have HW := Lib.hid (And.intro hw6 (And.intro hw7 hw8)); clear hl5 q6 r6 r7 r8))
  refine bodyPost_ret (results_cell rfl rfl R8.out.load) rfl ?_
  have cc : Chg (fun k => k = b7 ∨ k = w.heap.size) w5 w8 := by
    obtain ⟨h6, h7, h8⟩ := HW.out
    rw [← h8, ← h7, ← h6]
    exact (((Chg.refl _ w5).set _ (.inl rfl) _).set _ (.inr rfl) _).set _ (.inr rfl) _
  obtain ⟨A6, n6, c6, he, hm⟩ := HN.out
  injection he with he
  injection he with ha hb hc
  subst ha hb hc
  have hlt7 : b7 < w4.heap.size := T4.out.lt
  have hlt6 : w.heap.size < w4.heap.size := T41.out.lt
  have hge7 : w.heap.size ≤ b7 := HG7.out
  have hrx := HRX.out
  have mv : ∀ s er, Left w4 r x A c D s er w5 → Left w r x A c D s er w8 := fun s er hl => by
    refine ⟨hl.1.chg cc (by rintro (e | e) <;> omega) (by rintro (e | e) <;> omega) (fun ad e => by have := hrx.2.2 ad e; rintro (e2 | e2) <;> omega), (L4.out.2.trans hl.2).newer cc (fun k hk => ?_)⟩
    rcases hk with rfl | rfl <;> omega
  refine ⟨(y : Int), A5, n5, c5, rfl, ?_⟩
  cases Rz with
  | ok out s =>
    refine ⟨mv s 0 hm.1, HY.out out s rfl, own_chg cc (Bt.own_base (b := w.heap.size) hm.2 (Nat.le_of_lt hlt6)) (fun g hg => ?_)⟩
    have := (hm.2.lt g hg).1
    rintro (e | e) <;> omega
  | bad e => exact ⟨hm.1, hm.2.choose, mv _ _ hm.2.choose_spec⟩

end Go.Proofs.Ytpjbjbohbdlciaa
