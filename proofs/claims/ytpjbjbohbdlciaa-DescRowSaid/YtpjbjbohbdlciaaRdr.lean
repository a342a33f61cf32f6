/-
  What the small methods of package desc's reader do: keep, demand, take, align, and takeNumber. Conditions: those that each theorem states.
-/
import Derived.Test.YtpjbjbohbdlciaaNum
import Derived.Test.YtpjbjbohbdlciaaQUni
import Derived.Test.YtpjbjbohbdlciaaRng
namespace Go.Proofs.Ytpjbjbohbdlciaa
open Go.RowKit Go.Shelf
open Bt (unp unp_len cut)

/-- The two blocks of a reader. -/
def two (r x k : Nat) : Prop := k = r ∨ k = x

/-- Block r is a reader with the error er, over the bytes D from place s on; x is the block of its bits. -/
structure Dr (w : World) (r x : Nat) (A : Option Addr) (c : Nat) (D : List UInt8) (s : Nat) (er : Int) : Prop where
  blk : w.heap[r]? = some (.cells #[.pointer (some ⟨x, 0, none⟩), .int .i64 er] 69 (0, 0))
  sp : Bt.Sp w x 96 A c D s (8 * D.length)
  ne : r ≠ x
  na : ∀ ad, A = some ad → ad.block ≠ r
  le : s ≤ 8 * D.length

section
variable {w w' : World} {r x : Nat} {A : Option Addr} {c : Nat} {D : List UInt8} {s : Nat} {er : Int}
theorem Dr.lt (h : Dr w r x A c D s er) : r < w.heap.size := (Array.getElem?_eq_some_iff.1 h.blk).1
theorem Dr.c0 (h : Dr w r x A c D s er) : w.cell? ⟨r, 0, none⟩ = some (.pointer (some ⟨x, 0, none⟩)) := by rw [cell_of_row w r 0 _ _ _ h.blk]; rfl
theorem Dr.c1 (h : Dr w r x A c D s er) : w.cell? ⟨r, 1, none⟩ = some (.int .i64 er) := by rw [cell_of_row w r 1 _ _ _ h.blk]; rfl
theorem Dr.free (h : Dr w r x A c D s er) (i : Nat) : w.frozen? ⟨r, i, none⟩ = false := by simp [World.frozen?, h.blk]
theorem Dr.drewN (h : Dr w r x A c D s er) (d : Nat) : Dr (w.drewN d) r x A c D s er := ⟨h.blk, h.sp.drewN d, h.ne, h.na, h.le⟩
theorem Dr.below (h : Dr w r x A c D s er) (hb : Below w.heap.size w w') : Dr w' r x A c D s er := ⟨(hb.block r h.lt).trans h.blk, h.sp.below hb, h.ne, h.na, h.le⟩
/-- A row of the call's own has grown. -/
theorem Dr.grown (h : Dr w r x A c D s er) {row : Option Nat} (hg : w.grownBy w' row) (h1 : ∀ g, row = some g → g ≠ r ∧ g ≠ x ∧ ∀ ad, A = some ad → ad.block ≠ g) : Dr w' r x A c D s er :=
  ⟨(hg.block r h.lt (fun e => (h1 r e.symm).1 rfl)).trans h.blk, h.sp.same hg.size (hg.block x h.sp.lt (fun e => (h1 x e.symm).2.1 rfl)) (fun ad e => hg.block _ (h.sp.ne ad e).2 (fun e2 => (h1 _ e2.symm).2.2 ad e rfl)), h.ne, h.na, h.le⟩
theorem Dr.put (h : Dr w r x A c D s er) (e : Int) : Dr (w.setCell ⟨r, 1, none⟩ (.int .i64 e)) r x A c D s e ∧ Chg (two r x) w (w.setCell ⟨r, 1, none⟩ (.int .i64 e)) := by
  refine ⟨⟨?_, h.sp.same (by simp [World.setCell]) (Below.heap_setCell w ⟨r, 1, none⟩ _ x (fun e => h.ne e.symm)) (fun ad e => Below.heap_setCell w ⟨r, 1, none⟩ _ ad.block (h.na ad e)), h.ne, h.na, h.le⟩, (Chg.refl _ w).set _ (Or.inl rfl) _⟩
  have hb := h.blk
  simp [World.setCell, Array.getElem?_modify, hb]
/-- The bits' block has moved to another place. -/
theorem Dr.move (h : Dr w r x A c D s er) {s' : Nat} (hs : Bt.Sp w' x 96 A c D s' (8 * D.length)) (hg : w.grownBy w' (some x)) (hl : s' ≤ 8 * D.length) : Dr w' r x A c D s' er ∧ Chg (two r x) w w' :=
  ⟨⟨(hg.block r h.lt (by simpa using h.ne)).trans h.blk, hs, h.ne, h.na, hl⟩, ⟨hg.os, hg.tape, hg.output, hg.size, fun k hk hn => hg.block k hk (by intro e; exact hn (Or.inr (Option.some.inj e)))⟩⟩
end

/-- A reader as a call leaves it. -/
def Left (w : World) (r x : Nat) (A : Option Addr) (c : Nat) (D : List UInt8) (s : Nat) (er : Int) (w' : World) : Prop := Dr w' r x A c D s er ∧ Chg (two r x) w w'
theorem Left.trans {a b w : World} {r x : Nat} {A : Option Addr} {c : Nat} {D : List UInt8} {s s2 : Nat} {er er2 : Int} (h : Left a r x A c D s er b) (k : Left b r x A c D s2 er2 w) : Left a r x A c D s2 er2 w := ⟨k.1, h.2.trans k.2⟩
theorem Left.refl {w : World} {r x : Nat} {A : Option Addr} {c : Nat} {D : List UInt8} {s : Nat} {er : Int} (h : Dr w r x A c D s er) : Left w r x A c D s er w := ⟨h, Chg.refl _ _⟩
theorem Left.drewN {w : World} {r x : Nat} {A : Option Addr} {c : Nat} {D : List UInt8} {s : Nat} {er : Int} (h : Dr w r x A c D s er) (d : Nat) : Left w r x A c D s er (w.drewN d) := ⟨h.drewN d, (Chg.refl _ _).drew d⟩

set_option maxHeartbeats 400000 in
theorem keep_any {w : World} {r x : Nat} {A : Option Addr} {c : Nat} {D : List UInt8} {s : Nat} {er : Int} (h : Dr w r x A c D s er) (e er2 : Int) (h2 : (if er = 0 then e else er) = er2) :
    Calls Try.prog 43 #[.pointer (some ⟨r, 0, none⟩), .int .i64 e] w fun q w' => q = .returned (.tuple #[]) ∧ Left w r x A c D s er2 w' := by
  have c1 := h.c1
  have f1 := h.free 1
  have H := Lib.hid h
  by_cases h0 : er = 0
  · rw [if_pos h0] at h2
    subst h2 h0
    clear h
    go_enter Try.func43, Try.ntmps43
    go_wp2
    go_end0
    exact ⟨rfl, H.out.put e⟩
  · rw [if_neg h0] at h2
    subst h2
    have hb : (er == 0) = false := by simpa using h0
    clear h h0
    go_enter Try.func43, Try.ntmps43
    go_wp2
    go_end0
    exact ⟨rfl, Left.refl H.out⟩

/-- The error behind a demand. -/
def dem (b : Bool) (er : Int) : Int := if b then er else if er = 0 then 13 else er

set_option maxHeartbeats 400000 in
theorem demand_any {w : World} {r x : Nat} {A : Option Addr} {c : Nat} {D : List UInt8} {s : Nat} {er : Int} (h : Dr w r x A c D s er) (b : Bool) (er2 : Int) (h2 : dem b er = er2) :
    Calls Try.prog 59 #[.pointer (some ⟨r, 0, none⟩), .bool b] w fun q w' => q = .returned (.tuple #[]) ∧ Left w r x A c D s er2 w' := by
  cases b with
  | true =>
    have h2' : er = er2 := h2
    subst h2'
    have H := Lib.hid h
    clear h h2
    go_enter Try.func59, Try.ntmps59
    go_wp2
    go_end0
    exact ⟨rfl, Left.refl H.out⟩
  | false =>
    have KP := Lib.hid (keep_any h 13 er2 h2)
    clear h h2
    go_enter Try.func59, Try.ntmps59
    go_wp2_with (go_at_call 43; refine KP.out.mono ?_; rintro q w2 ⟨rfl, h3⟩; have H3 := Lib.hid h3; clear h3)
    go_end0
    exact ⟨rfl, H3.out⟩

set_option maxHeartbeats 400000 in
theorem take_err {w : World} {r x : Nat} {A : Option Addr} {c : Nat} {D : List UInt8} {s : Nat} {er : Int} (h : Dr w r x A c D s er) (h0 : er ≠ 0) (n : Int) :
    Calls Try.prog 58 #[.pointer (some ⟨r, 0, none⟩), .int .i64 n] w fun q w' => q = .returned (.int .i64 0) ∧ w' = w := by
  have c1 := h.c1
  have hb : (er != 0) = true := by simpa using h0
  clear h h0
  go_enter Try.func58, Try.ntmps58
  go_wp2
  go_ret
  exact ⟨rfl, rfl⟩

theorem cut_tk (D : List UInt8) (s n : Nat) : cut D s n = tk (unp D) s n := rfl

set_option maxHeartbeats 1000000 in
theorem take_ok {w : World} {r x : Nat} {A : Option Addr} {c : Nat} {D : List UInt8} {s : Nat} (h : Dr w r x A c D s 0) (hD : D.length ≤ 1000) (n : Nat) (hn : n ≤ 10) (hs : s + n ≤ 8 * D.length) (V : Nat) (hV : tk (unp D) s n = V) :
    Calls Try.prog 58 #[.pointer (some ⟨r, 0, none⟩), .int .i64 (n : Int)] w fun q w' => q = .returned (.int .i64 (V : Int)) ∧ Left w r x A c D (s + n) 0 w' := by
  have c0 := h.c0
  have c1 := h.c1
  have TK := Lib.hid (Bt.ftake_ok h.sp (Nat.le_refl _) (by omega) n (by omega) hs)
  rw [cut_tk, hV] at TK
  have hV10 : V < 1024 := by
    rw [← hV]
    exact Nat.lt_of_lt_of_le (tk_lt _ _ _) (Nat.pow_le_pow_right (n := 2) (by decide) hn)
  have MV : Hid (∀ w', Bt.Sp w' x 96 A c D (s + n) (8 * D.length) → w.grownBy w' (some x) → Left w r x A c D (s + n) 0 w') := Lib.hid (fun w' a b => h.move a b hs)
  clear h hV hs
  go_enter Try.func58, Try.ntmps58
  go_wp2_with (first
    | (go_at_call 75; refine TK.out.mono ?_; rintro q w2 ⟨rfl, hs2, hg2⟩; have M2 := Lib.hid (MV.out _ hs2 hg2); clear hs2 hg2)
    | (go_at_call 43; refine (keep_any M2.out.1 0 0 rfl).mono ?_; rintro q w3 ⟨rfl, h3⟩; have M3 := Lib.hid (M2.out.trans h3); clear h3))
  go_ret
  exact ⟨rfl, M3.out⟩

set_option maxHeartbeats 1000000 in
theorem take_short {w : World} {r x : Nat} {A : Option Addr} {c : Nat} {D : List UInt8} {s : Nat} (h : Dr w r x A c D s 0) (hD : D.length ≤ 1000) (n : Nat) (hn : n ≤ 10) (hs : 8 * D.length < s + n) :
    Calls Try.prog 58 #[.pointer (some ⟨r, 0, none⟩), .int .i64 (n : Int)] w fun q w' => q = .returned (.int .i64 0) ∧ Left w r x A c D s 3 w' := by
  have c0 := h.c0
  have c1 := h.c1
  have hle := h.le
  have TK := Lib.hid (Bt.ftake_err h.sp (8 * D.length - s) (by omega) (by omega) (n : Int) 3 (by unfold Bt.chk; rw [if_neg (by omega), if_pos (by omega)]) (by decide))
  have H := Lib.hid h
  clear h hs
  go_enter Try.func58, Try.ntmps58
  go_wp2_with (first
    | (go_at_call 75; refine TK.out.mono ?_; rintro q w2 ⟨rfl, d, rfl⟩; have M2 := Lib.hid (Left.drewN H.out d))
    | (go_at_call 43; refine (keep_any M2.out.1 3 3 rfl).mono ?_; rintro q w3 ⟨rfl, h3⟩; have M3 := Lib.hid (M2.out.trans h3); clear h3))
  go_ret
  exact ⟨rfl, M3.out⟩

end Go.Proofs.Ytpjbjbohbdlciaa
