/-
  What the small methods of package desc's reader do: keep, demand, take, align, and takeNumber. Conditions: those that each theorem states.
  What takeNumber and the reader's align do. Conditions: those that each theorem states.
  The reader's steps in one form, at any error kept so far, and what the loop over the norms holds on to. Conditions: those that each theorem states.
-/
import Derived.Test.YtnlhokfhkohdpaaGreatDNum
import Derived.Test.YtnlhokfhkohdpaaGreatQb
import Derived.Test.YtnlhokfhkohdpaaGreatSa
import Derived.Test.YtnlhokfhkohdpaaGreatDApz
namespace Go.Proofs.YtnlhokfhkohdpaaGreat.De
open Go.RowKit Go.Shelf
open Bt (unp unp_len cut)

/-- The two blocks of a reader. -/
def two (r x k : Nat) : Prop := k = r ∨ k = x

/-- Block r is a reader with the error er, over the bytes D from place s on; x is the block of its bits. -/
structure Dr (w : World) (r x : Nat) (A : Option Addr) (c : Nat) (D : List UInt8) (s : Nat) (er : Int) : Prop where
  blk : w.heap[r]? = some (.cells #[.pointer (some ⟨x, 0, none⟩), .int .i64 er] 63 (0, 0))
  sp : Bt.Sp w x 119 A c D s (8 * D.length)
  ne : r ≠ x
  na : ∀ ad, A = some ad → ad.block ≠ r
  le : s ≤ 8 * D.length

section
variable {w w' : World} {r x : Nat} {A : Option Addr} {c : Nat} {D : List UInt8} {s : Nat} {er : Int}
theorem Dr.lt (h : Dr w r x A c D s er) : r < w.heap.size := (Array.getElem?_eq_some_iff.1 h.blk).1
theorem Dr.c0 (h : Dr w r x A c D s er) : w.cell? ⟨r, 0, none⟩ = some (.pointer (some ⟨x, 0, none⟩)) := by rw [cell_of_row w r 0 _ _ _ h.blk]; rfl
theorem Dr.c1 (h : Dr w r x A c D s er) : w.cell? ⟨r, 1, none⟩ = some (.int .i64 er) := by rw [cell_of_row w r 1 _ _ _ h.blk]; rfl
theorem Dr.free (h : Dr w r x A c D s er) (i : Nat) : w.frozen? ⟨r, i, none⟩ = false := by simp [World.frozen?, h.blk]
theorem Dr.drewN (h : Dr w r x A c D s er) (d : Nat) : Dr (w.drewN d) r x A c D s er := ⟨h.blk, h.sp.drewN d, h.ne, h.na, h.le⟩
theorem Dr.below (h : Dr w r x A c D s er) (hb : Below w.heap.size w w') : Dr w' r x A c D s er := ⟨(hb.block r h.lt).trans h.blk, h.sp.below hb, h.ne, h.na, h.le⟩
/-- A row of the call's own has grown. -/
theorem Dr.grown (h : Dr w r x A c D s er) {row : Option Nat} (hg : w.grownBy w' row) (h1 : ∀ g, row = some g → g ≠ r ∧ g ≠ x ∧ ∀ ad, A = some ad → ad.block ≠ g) : Dr w' r x A c D s er :=
  ⟨(hg.block r h.lt (fun e => (h1 r e.symm).1 rfl)).trans h.blk, h.sp.same hg.size (hg.block x h.sp.lt (fun e => (h1 x e.symm).2.1 rfl)) (fun ad e => hg.block _ (h.sp.ne ad e).2 (fun e2 => (h1 _ e2.symm).2.2 ad e rfl)), h.ne, h.na, h.le⟩
theorem Dr.put (h : Dr w r x A c D s er) (e : Int) : Dr (w.setCell ⟨r, 1, none⟩ (.int .i64 e)) r x A c D s e ∧ Chg (two r x) w (w.setCell ⟨r, 1, none⟩ (.int .i64 e)) := by
  refine ⟨⟨?_, h.sp.same (by simp [World.setCell]) (Below.heap_setCell w ⟨r, 1, none⟩ _ x (fun e => h.ne e.symm)) (fun ad e => Below.heap_setCell w ⟨r, 1, none⟩ _ ad.block (h.na ad e)), h.ne, h.na, h.le⟩, (Chg.refl _ w).set _ (Or.inl rfl) _⟩
  have hb := h.blk
  simp [World.setCell, Array.getElem?_modify, hb]
/-- The bits' block has moved to another place. -/
theorem Dr.move (h : Dr w r x A c D s er) {s' : Nat} (hs : Bt.Sp w' x 119 A c D s' (8 * D.length)) (hg : w.grownBy w' (some x)) (hl : s' ≤ 8 * D.length) : Dr w' r x A c D s' er ∧ Chg (two r x) w w' :=
  ⟨⟨(hg.block r h.lt (by simpa using h.ne)).trans h.blk, hs, h.ne, h.na, hl⟩, ⟨hg.os, hg.tape, hg.output, hg.size, fun k hk hn => hg.block k hk (by intro e; exact hn (Or.inr (Option.some.inj e)))⟩⟩
end

/-- A reader as a call leaves it. -/
def Left (w : World) (r x : Nat) (A : Option Addr) (c : Nat) (D : List UInt8) (s : Nat) (er : Int) (w' : World) : Prop := Dr w' r x A c D s er ∧ Chg (two r x) w w'
theorem Left.trans {a b w : World} {r x : Nat} {A : Option Addr} {c : Nat} {D : List UInt8} {s s2 : Nat} {er er2 : Int} (h : Left a r x A c D s er b) (k : Left b r x A c D s2 er2 w) : Left a r x A c D s2 er2 w := ⟨k.1, h.2.trans k.2⟩
theorem Left.refl {w : World} {r x : Nat} {A : Option Addr} {c : Nat} {D : List UInt8} {s : Nat} {er : Int} (h : Dr w r x A c D s er) : Left w r x A c D s er w := ⟨h, Chg.refl _ _⟩
theorem Left.drewN {w : World} {r x : Nat} {A : Option Addr} {c : Nat} {D : List UInt8} {s : Nat} {er : Int} (h : Dr w r x A c D s er) (d : Nat) : Left w r x A c D s er (w.drewN d) := ⟨h.drewN d, (Chg.refl _ _).drew d⟩

set_option maxHeartbeats 400000 in
theorem keep_any {w : World} {r x : Nat} {A : Option Addr} {c : Nat} {D : List UInt8} {s : Nat} {er : Int} (h : Dr w r x A c D s er) (e er2 : Int) (h2 : (if er = 0 then e else er) = er2) :
    Calls Tryz.prog 29 #[.pointer (some ⟨r, 0, none⟩), .int .i64 e] w fun q w' => q = .returned (.tuple #[]) ∧ Left w r x A c D s er2 w' := by
  have c1 := h.c1
  have f1 := h.free 1
  have H := Lib.hid h
  by_cases h0 : er = 0
  · rw [if_pos h0] at h2
    subst h2 h0
    clear h
    go_enter Tryz.func29, Tryz.ntmps29
    go_wp2
    go_end0
    exact ⟨rfl, H.out.put e⟩
  · rw [if_neg h0] at h2
    subst h2
    have hb : (er == 0) = false := by simpa using h0
    clear h h0
    go_enter Tryz.func29, Tryz.ntmps29
    go_wp2
    go_end0
    exact ⟨rfl, Left.refl H.out⟩

/-- The error behind a demand. -/
def dem (b : Bool) (er : Int) : Int := if b then er else if er = 0 then 13 else er

set_option maxHeartbeats 400000 in
theorem demand_any {w : World} {r x : Nat} {A : Option Addr} {c : Nat} {D : List UInt8} {s : Nat} {er : Int} (h : Dr w r x A c D s er) (b : Bool) (er2 : Int) (h2 : dem b er = er2) :
    Calls Tryz.prog 59 #[.pointer (some ⟨r, 0, none⟩), .bool b] w fun q w' => q = .returned (.tuple #[]) ∧ Left w r x A c D s er2 w' := by
  cases b with
  | true =>
    have h2' : er = er2 := h2
    subst h2'
    have H := Lib.hid h
    clear h h2
    go_enter Tryz.func59, Tryz.ntmps59
    go_wp2
    go_end0
    exact ⟨rfl, Left.refl H.out⟩
  | false =>
    have KP := Lib.hid (keep_any h 13 er2 h2)
    clear h h2
    go_enter Tryz.func59, Tryz.ntmps59
    go_wp2_with (go_at_call 29; refine KP.out.mono ?_; rintro q w2 ⟨rfl, h3⟩; have H3 := Lib.hid h3; clear h3)
    go_end0
    exact ⟨rfl, H3.out⟩

set_option maxHeartbeats 400000 in
theorem take_err {w : World} {r x : Nat} {A : Option Addr} {c : Nat} {D : List UInt8} {s : Nat} {er : Int} (h : Dr w r x A c D s er) (h0 : er ≠ 0) (n : Int) :
    Calls Tryz.prog 58 #[.pointer (some ⟨r, 0, none⟩), .int .i64 n] w fun q w' => q = .returned (.int .i64 0) ∧ w' = w := by
  have c1 := h.c1
  have hb : (er != 0) = true := by simpa using h0
  clear h h0
  go_enter Tryz.func58, Tryz.ntmps58
  go_wp2
  go_ret
  exact ⟨rfl, rfl⟩

theorem cut_tk (D : List UInt8) (s n : Nat) : cut D s n = tk (unp D) s n := rfl

set_option maxHeartbeats 1000000 in
theorem take_ok {w : World} {r x : Nat} {A : Option Addr} {c : Nat} {D : List UInt8} {s : Nat} (h : Dr w r x A c D s 0) (hD : D.length ≤ 1000) (n : Nat) (hn : n ≤ 10) (hs : s + n ≤ 8 * D.length) (V : Nat) (hV : tk (unp D) s n = V) :
    Calls Tryz.prog 58 #[.pointer (some ⟨r, 0, none⟩), .int .i64 (n : Int)] w fun q w' => q = .returned (.int .i64 (V : Int)) ∧ Left w r x A c D (s + n) 0 w' := by
  have c0 := h.c0
  have c1 := h.c1
  have TK := Lib.hid (Bt.ftake_ok h.sp (Nat.le_refl _) (by omega) n (by omega) hs)
  rw [cut_tk, hV] at TK
  have hV10 : V < 1024 := by
    rw [← hV]
    exact Nat.lt_of_lt_of_le (tk_lt _ _ _) (Nat.pow_le_pow_right (n := 2) (by decide) hn)
  have MV : Hid (∀ w', Bt.Sp w' x 119 A c D (s + n) (8 * D.length) → w.grownBy w' (some x) → Left w r x A c D (s + n) 0 w') := Lib.hid (fun w' a b => h.move a b hs)
  clear h hV hs
  go_enter Tryz.func58, Tryz.ntmps58
  go_wp2_with (first
    | (go_at_call 83; refine TK.out.mono ?_; rintro q w2 ⟨rfl, hs2, hg2⟩; have M2 := Lib.hid (MV.out _ hs2 hg2); clear hs2 hg2)
    | (go_at_call 29; refine (keep_any M2.out.1 0 0 rfl).mono ?_; rintro q w3 ⟨rfl, h3⟩; have M3 := Lib.hid (M2.out.trans h3); clear h3))
  go_ret
  exact ⟨rfl, M3.out⟩

set_option maxHeartbeats 1000000 in
theorem take_short {w : World} {r x : Nat} {A : Option Addr} {c : Nat} {D : List UInt8} {s : Nat} (h : Dr w r x A c D s 0) (hD : D.length ≤ 1000) (n : Nat) (hn : n ≤ 10) (hs : 8 * D.length < s + n) :
    Calls Tryz.prog 58 #[.pointer (some ⟨r, 0, none⟩), .int .i64 (n : Int)] w fun q w' => q = .returned (.int .i64 0) ∧ Left w r x A c D s 3 w' := by
  have c0 := h.c0
  have c1 := h.c1
  have hle := h.le
  have TK := Lib.hid (Bt.ftake_err h.sp (8 * D.length - s) (by omega) (by omega) (n : Int) 3 (by unfold Bt.chk; rw [if_neg (by omega), if_pos (by omega)]) (by decide))
  have H := Lib.hid h
  clear h hs
  go_enter Tryz.func58, Tryz.ntmps58
  go_wp2_with (first
    | (go_at_call 83; refine TK.out.mono ?_; rintro q w2 ⟨rfl, d, rfl⟩; have M2 := Lib.hid (Left.drewN H.out d))
    | (go_at_call 29; refine (keep_any M2.out.1 3 3 rfl).mono ?_; rintro q w3 ⟨rfl, h3⟩; have M3 := Lib.hid (M2.out.trans h3); clear h3))
  go_ret
  exact ⟨rfl, M3.out⟩

end Go.Proofs.YtnlhokfhkohdpaaGreat.De

namespace Go.Proofs.YtnlhokfhkohdpaaGreat.De
open Go.RowKit Go.Shelf
open Bt (unp unp_len)

/-- The value of a reader's method take. -/
abbrev takev (r : Nat) : Value := .func (.func 58) #[.pointer (some ⟨r, 0, none⟩)] #[]

set_option maxRecDepth 100000 in
set_option maxHeartbeats 2000000 in
theorem tn_err {w : World} {r x : Nat} {A : Option Addr} {c : Nat} {D : List UInt8} {s : Nat} {er : Int} (h : Dr w r x A c D s er) (h0 : er ≠ 0) (m : Nat) (h2 : 2 ≤ m) (h5 : m ≤ 514) :
    Calls Tryz.prog 84 #[.int .i64 (m : Int), takev r] w fun q w' => q = .returned (.int .i64 0) ∧ ∃ d, w' = w.drewN d := by
  obtain ⟨g, hg⟩ : ∃ g, wid m = g := ⟨_, rfl⟩
  obtain ⟨u, hu⟩ : ∃ u, sho m = u := ⟨_, rfl⟩
  have SP := Lib.hid (fun W => split_any W m g u h2 h5 hg hu)
  have hu1 : 1 ≤ u := by rw [← hu]; exact sho_pos m
  have hd : decide ((0 : Int) < (u : Int)) = true := decide_eq_true (by omega)
  have TK := Lib.hid (fun d => take_err (h.drewN d) h0 (g : Int))
  clear h hg hu
  go_enter Tryz.func84, Tryz.ntmps84
  go_wp2_with (first
    | (go_at_call 80; refine (SP.out _).mono ?_; rintro e w1 ⟨rfl, d, rfl⟩)
    | (go_at_call 58; refine (TK.out _).mono ?_; rintro e w1 ⟨rfl, rfl⟩))
  go_ret
  exact ⟨rfl, _, rfl⟩

set_option maxRecDepth 100000 in
set_option maxHeartbeats 2000000 in
theorem tn_ok {w : World} {r x : Nat} {A : Option Addr} {c : Nat} {D : List UInt8} {s : Nat} (h : Dr w r x A c D s 0) (hD : D.length ≤ 1000) (m : Nat) (h2 : 2 ≤ m) (h5 : m ≤ 514) (v s2 : Nat) (hr : rd (unp D) s m = some (v, s2)) :
    Calls Tryz.prog 84 #[.int .i64 (m : Int), takev r] w fun q w' => q = .returned (.int .i64 (v : Int)) ∧ Left w r x A c D s2 0 w' := by
  obtain ⟨g, hg⟩ : ∃ g, wid m = g := ⟨_, rfl⟩
  obtain ⟨u, hu⟩ : ∃ u, sho m = u := ⟨_, rfl⟩
  obtain ⟨t, ht⟩ : ∃ t, tk (unp D) s g = t := ⟨_, rfl⟩
  have SP := Lib.hid (fun W => split_any W m g u h2 h5 hg hu)
  have hg9 : g ≤ 9 := by rw [← hg]; exact wid_le h5
  have ht5 : t < 512 := by
    rw [← ht]
    exact Nat.lt_of_lt_of_le (tk_lt _ _ _) (Nat.pow_le_pow_right (n := 2) (by decide) hg9)
  have hu5 : u ≤ 514 := by rw [← hu]; have := sho_add m; have := wid_lo h2; omega
  rw [rd, hg, hu, ht, unp_len] at hr
  split at hr
  · cases hr
  · rename_i hl
    have TK := Lib.hid (fun d => take_ok (h.drewN d) hD g (by omega) (by omega) t ht)
    by_cases hlt : t < u
    · rw [if_pos hlt] at hr
      injection hr with hr
      injection hr with hv hs
      subst hv hs
      have hd : decide ((t : Int) < (u : Int)) = true := decide_eq_true (by omega)
      have H := Lib.hid h
      clear h hg hu ht
      go_enter Tryz.func84, Tryz.ntmps84
      go_wp2_with (first
        | (go_at_call 80; refine (SP.out _).mono ?_; rintro e w1 ⟨rfl, d, rfl⟩)
        | (go_at_call 58; refine (TK.out _).mono ?_; rintro e w2 ⟨rfl, h3⟩; have M3 := Lib.hid ((Left.drewN H.out d).trans h3); clear h3))
      go_ret
      exact ⟨rfl, M3.out⟩
    · rw [if_neg hlt] at hr
      split at hr
      · cases hr
      · rename_i hl2
        obtain ⟨c1, hc1⟩ : ∃ c1, tk (unp D) (s + g) 1 = c1 := ⟨_, rfl⟩
        have hc2 : c1 < 2 := by rw [← hc1]; exact tk_lt _ _ 1
        rw [hc1] at hr
        injection hr with hr
        injection hr with hv hs
        subst hs
        have hd : decide ((t : Int) < (u : Int)) = false := decide_eq_false (by omega)
        have hvv : Hid (2 * (t : Int) + (c1 : Int) - (u : Int) = (v : Int)) := Lib.hid (by omega)
        have TB : Hid (∀ W, Dr W r x A c D (s + g) 0 → Calls Tryz.prog 58 #[.pointer (some ⟨r, 0, none⟩), .int .i64 1] W fun q w' => q = .returned (.int .i64 (c1 : Int)) ∧ Left W r x A c D (s + g + 1) 0 w') := Lib.hid (fun W hW => take_ok hW hD 1 (by decide) (by omega) c1 hc1)
        have H := Lib.hid h
        clear h hg hu ht hc1 hv
        go_enter Tryz.func84, Tryz.ntmps84
        go_wp2_with (first
          | (go_at_call 80; refine (SP.out _).mono ?_; rintro e w1 ⟨rfl, d, rfl⟩)
          | (go_at_call 58; refine (TB.out _ M3.out.1).mono ?_; rintro e w3 ⟨rfl, h3⟩; have M4 := Lib.hid (M3.out.trans h3); clear h3)
          | (go_at_call 58; refine (TK.out _).mono ?_; rintro e w2 ⟨rfl, h3⟩; have M3 := Lib.hid ((Left.drewN H.out d).trans h3); clear h3))
        go_ret
        exact ⟨by rw [← hvv.out]; rfl, M4.out⟩

set_option maxRecDepth 100000 in
set_option maxHeartbeats 2000000 in
theorem tn_short {w : World} {r x : Nat} {A : Option Addr} {c : Nat} {D : List UInt8} {s : Nat} (h : Dr w r x A c D s 0) (hD : D.length ≤ 1000) (m : Nat) (h2 : 2 ≤ m) (h5 : m ≤ 514) (hr : rd (unp D) s m = none) :
    Calls Tryz.prog 84 #[.int .i64 (m : Int), takev r] w fun q w' => ∃ v s2 : Nat, q = .returned (.int .i64 (v : Int)) ∧ v ≤ 2000 ∧ Left w r x A c D s2 3 w' := by
  obtain ⟨g, hg⟩ : ∃ g, wid m = g := ⟨_, rfl⟩
  obtain ⟨u, hu⟩ : ∃ u, sho m = u := ⟨_, rfl⟩
  obtain ⟨t, ht⟩ : ∃ t, tk (unp D) s g = t := ⟨_, rfl⟩
  have SP := Lib.hid (fun W => split_any W m g u h2 h5 hg hu)
  have hg9 : g ≤ 9 := by rw [← hg]; exact wid_le h5
  have ht5 : t < 512 := by
    rw [← ht]
    exact Nat.lt_of_lt_of_le (tk_lt _ _ _) (Nat.pow_le_pow_right (n := 2) (by decide) hg9)
  have hu5 : u ≤ 514 := by rw [← hu]; have := sho_add m; have := wid_lo h2; omega
  have hu1 : 1 ≤ u := by rw [← hu]; exact sho_pos m
  have H := Lib.hid h
  rw [rd, hg, hu, ht, unp_len] at hr
  split at hr
  · rename_i hl
    have TK := Lib.hid (fun d => take_short (h.drewN d) hD g (by omega) hl)
    have hd : decide ((0 : Int) < (u : Int)) = true := decide_eq_true (by omega)
    clear h hg hu ht hr
    go_enter Tryz.func84, Tryz.ntmps84
    go_wp2_with (first
      | (go_at_call 80; refine (SP.out _).mono ?_; rintro e w1 ⟨rfl, d, rfl⟩)
      | (go_at_call 58; refine (TK.out _).mono ?_; rintro e w2 ⟨rfl, h3⟩; have M3 := Lib.hid ((Left.drewN H.out d).trans h3); clear h3))
    go_ret
    exact ⟨0, s, rfl, by decide, M3.out⟩
  · rename_i hl
    split at hr
    · cases hr
    · rename_i hlt
      split at hr
      · rename_i hl2
        have hd : decide ((t : Int) < (u : Int)) = false := decide_eq_false (by omega)
        have TK := Lib.hid (fun d => take_ok (h.drewN d) hD g (by omega) (by omega) t ht)
        obtain ⟨v, hv⟩ : ∃ v, 2 * t - u = v := ⟨_, rfl⟩
        have hvv : Hid (2 * (t : Int) + 0 - (u : Int) = (v : Int)) := Lib.hid (by omega)
        have hv2 : Hid (2 * (t : Int) - (u : Int) = (v : Int)) := Lib.hid (by omega)
        have hvb : v ≤ 2000 := by omega
        have TB : Hid (∀ W, Dr W r x A c D (s + g) 0 → Calls Tryz.prog 58 #[.pointer (some ⟨r, 0, none⟩), .int .i64 1] W fun q w' => q = .returned (.int .i64 0) ∧ Left W r x A c D (s + g) 3 w') := Lib.hid (fun W hW => take_short hW hD 1 (by decide) hl2)
        clear h hg hu ht hr hv
        go_enter Tryz.func84, Tryz.ntmps84
        go_wp2_with (first
          | (go_at_call 80; refine (SP.out _).mono ?_; rintro e w1 ⟨rfl, d, rfl⟩)
          | (go_at_call 58; refine (TB.out _ M3.out.1).mono ?_; rintro e w3 ⟨rfl, h3⟩; have M4 := Lib.hid (M3.out.trans h3); clear h3)
          | (go_at_call 58; refine (TK.out _).mono ?_; rintro e w2 ⟨rfl, h3⟩; have M3 := Lib.hid ((Left.drewN H.out d).trans h3); clear h3))
        go_ret
        exact ⟨v, s + g, by first | (rw [← hvv.out]; rfl) | (rw [← hv2.out]; rfl), hvb, M4.out⟩
      · cases hr

set_option maxHeartbeats 400000 in
theorem align_err {w : World} {r x : Nat} {A : Option Addr} {c : Nat} {D : List UInt8} {s : Nat} {er : Int} (h : Dr w r x A c D s er) (h0 : er ≠ 0) :
    Calls Tryz.prog 28 #[.pointer (some ⟨r, 0, none⟩)] w fun q w' => q = .returned (.int .i64 0) ∧ w' = w := by
  have c1 := h.c1
  have hb : (er != 0) = true := by simpa using h0
  clear h h0
  go_enter Tryz.func28, Tryz.ntmps28
  go_wp2
  go_ret
  exact ⟨rfl, rfl⟩

set_option maxHeartbeats 1000000 in
theorem align_ok {w : World} {r x : Nat} {A : Option Addr} {c : Nat} {D : List UInt8} {s : Nat} (h : Dr w r x A c D s 0) (hD : D.length ≤ 1000) (k : Nat) (hk : (s + 7) / 8 = k) (hz : tk (unp D) s (8 * k - s) = 0) :
    Calls Tryz.prog 28 #[.pointer (some ⟨r, 0, none⟩)] w fun q w' => q = .returned (.int .i64 (k : Int)) ∧ Left w r x A c D (8 * k) 0 w' := by
  have c0 := h.c0
  have c1 := h.c1
  have hle := h.le
  have AL := Lib.hid (Bt.align_good h.sp (by omega) k hk (by omega) hz)
  have MV : Hid (∀ w', Bt.Sp w' x 119 A c D (8 * k) (8 * D.length) → w.grownBy w' (some x) → Left w r x A c D (8 * k) 0 w') := Lib.hid (fun w' a b => h.move a b (by omega))
  clear h hk hz
  go_enter Tryz.func28, Tryz.ntmps28
  go_wp2_with (first
    | (go_at_call 64; refine AL.out.mono ?_; rintro q w2 ⟨rfl, hs2, hg2⟩; have M2 := Lib.hid (MV.out _ hs2 hg2); clear hs2 hg2)
    | (go_at_call 29; refine (keep_any M2.out.1 0 0 rfl).mono ?_; rintro q w3 ⟨rfl, h3⟩; have M3 := Lib.hid (M2.out.trans h3); clear h3))
  go_ret
  exact ⟨rfl, M3.out⟩

set_option maxHeartbeats 1000000 in
theorem align_bad {w : World} {r x : Nat} {A : Option Addr} {c : Nat} {D : List UInt8} {s : Nat} (h : Dr w r x A c D s 0) (hD : D.length ≤ 1000) (k : Nat) (hk : (s + 7) / 8 = k) (hz : tk (unp D) s (8 * k - s) ≠ 0) :
    Calls Tryz.prog 28 #[.pointer (some ⟨r, 0, none⟩)] w fun q w' => q = .returned (.int .i64 0) ∧ Left w r x A c D s 14 w' := by
  have c0 := h.c0
  have c1 := h.c1
  have hle := h.le
  have AL := Lib.hid (Bt.align_bad h.sp (by omega) k hk (by omega) hz)
  have H := Lib.hid h
  clear h hk hz
  go_enter Tryz.func28, Tryz.ntmps28
  go_wp2_with (first
    | (go_at_call 64; refine AL.out.mono ?_; rintro q w2 ⟨rfl, hb2⟩; have M2 : Hid (Left w r x A c D s 0 w2) := Lib.hid ⟨H.out.below hb2, Chg.of_below hb2⟩; clear hb2)
    | (go_at_call 29; refine (keep_any M2.out.1 14 14 rfl).mono ?_; rintro q w3 ⟨rfl, h3⟩; have M3 := Lib.hid (M2.out.trans h3); clear h3))
  go_ret
  exact ⟨rfl, M3.out⟩

end Go.Proofs.YtnlhokfhkohdpaaGreat.De

namespace Go.Proofs.YtnlhokfhkohdpaaGreat.De
open Go.RowKit Go.Shelf
open Bt (unp unp_len)

/-- A number is read: the value, the place behind it, the error. -/
def TNR (B : List Bool) (s m : Nat) (er : Int) (v s1 : Nat) (er2 : Int) : Prop :=
  (er ≠ 0 ∧ v = 0 ∧ er2 = er) ∨ (er = 0 ∧ rd B s m = some (v, s1) ∧ er2 = 0) ∨ (er = 0 ∧ rd B s m = none ∧ er2 = 3)

theorem tn_u {w : World} {r x : Nat} {A : Option Addr} {c : Nat} {D : List UInt8} {s : Nat} {er : Int} (h : Dr w r x A c D s er) (hD : D.length ≤ 1000) (m : Nat) (h2 : 2 ≤ m) (h5 : m ≤ 514) :
    Calls Tryz.prog 84 #[.int .i64 (m : Int), takev r] w fun q w' => ∃ (v s1 : Nat) (er2 : Int), q = .returned (.int .i64 (v : Int)) ∧ TNR (unp D) s m er v s1 er2 ∧ v ≤ 2000 ∧ Left w r x A c D s1 er2 w' := by
  by_cases h0 : er = 0
  · subst h0
    cases hr : rd (unp D) s m with
    | none =>
      refine (tn_short h hD m h2 h5 hr).mono ?_
      rintro q w' ⟨v, s1, rfl, hv, hl⟩
      exact ⟨v, s1, 3, rfl, .inr (.inr ⟨rfl, hr, rfl⟩), hv, hl⟩
    | some p =>
      obtain ⟨v, s1⟩ := p
      have := (rd_inv h2 hr).1
      refine (tn_ok h hD m h2 h5 v s1 hr).mono ?_
      rintro q w' ⟨rfl, hl⟩
      exact ⟨v, s1, 0, rfl, .inr (.inl ⟨rfl, hr, rfl⟩), by omega, hl⟩
  · refine (tn_err h h0 m h2 h5).mono ?_
    rintro q w' ⟨rfl, d, rfl⟩
    exact ⟨0, s, er, rfl, .inl ⟨h0, rfl, rfl⟩, by decide, Left.drewN h d⟩

/-- A part of a run length is read. -/
def TKR (B : List Bool) (s : Nat) (er : Int) (k s1 : Nat) (er2 : Int) : Prop :=
  (er ≠ 0 ∧ k = 0 ∧ er2 = er) ∨ (er = 0 ∧ s + 2 ≤ B.length ∧ k = tk B s 2 ∧ s1 = s + 2 ∧ er2 = 0) ∨ (er = 0 ∧ B.length < s + 2 ∧ k = 0 ∧ er2 = 3)

theorem tk_u {w : World} {r x : Nat} {A : Option Addr} {c : Nat} {D : List UInt8} {s : Nat} {er : Int} (h : Dr w r x A c D s er) (hD : D.length ≤ 1000) :
    Calls Tryz.prog 58 #[.pointer (some ⟨r, 0, none⟩), .int .i64 2] w fun q w' => ∃ (k s1 : Nat) (er2 : Int), q = .returned (.int .i64 (k : Int)) ∧ TKR (unp D) s er k s1 er2 ∧ k ≤ 3 ∧ Left w r x A c D s1 er2 w' := by
  by_cases h0 : er = 0
  · subst h0
    by_cases hs : s + 2 ≤ 8 * D.length
    · have hk : tk (unp D) s 2 < 4 := tk_lt _ _ 2
      refine (take_ok h hD 2 (by decide) hs _ rfl).mono ?_
      rintro q w' ⟨rfl, hl⟩
      exact ⟨_, s + 2, 0, rfl, .inr (.inl ⟨rfl, by rw [unp_len]; exact hs, rfl, rfl, rfl⟩), by omega, hl⟩
    · refine (take_short h hD 2 (by decide) (by omega)).mono ?_
      rintro q w' ⟨rfl, hl⟩
      exact ⟨0, s, 3, rfl, .inr (.inr ⟨rfl, by rw [unp_len]; omega, rfl, rfl⟩), by decide, hl⟩
  · refine (take_err h h0 2).mono ?_
    rintro q w' ⟨rfl, rfl⟩
    exact ⟨0, s, er, rfl, .inl ⟨h0, rfl, rfl⟩, by decide, Left.refl h⟩

/-- One round reads one number. -/
theorem num_step {B : List Bool} {sy : Int} {left : Nat} {out : List Int} {s : Nat} {Rz : Rs} {er1 er2 er3 : Int} {v s1 : Nat} {b : Bool} (h0 : 0 < left) (hs : s ≤ B.length) (hR : dec B sy left out s false = Rz)
    (h1 : dem (decide ((out.length : Int) < sy)) 0 = er1) (htn : TNR B s (left + 2) er1 v s1 er2) (hb : b = false ↔ v = 1 ∧ out.getLast? = some 0) (h3 : dem b er2 = er3) :
    (er3 = 0 → dec B sy (left - stn v) (out ++ [(v : Int) - 1]) s1 (v == 1) = Rz ∧ (out.length : Int) < sy ∧ v < left + 2 ∧ s1 ≤ B.length) ∧ (er3 ≠ 0 → ∃ e : Nat, er3 = (e : Int) ∧ Rz = .bad e) := by
  by_cases hf : sy ≤ out.length
  · have e1 : er1 = 13 := by rw [← h1, dem, show decide ((out.length : Int) < sy) = false from decide_eq_false (by omega)]; rfl
    subst e1
    rcases htn with ⟨_, _, rfl⟩ | ⟨h, _⟩ | ⟨h, _⟩
    · have e3 : er3 = 13 := by rw [← h3, dem]; cases b <;> rfl
      rw [e3]
      exact ⟨fun h => absurd h (by decide), fun _ => ⟨13, rfl, by rw [← hR, dec_full hs h0 hf]⟩⟩
    · exact absurd h (by decide)
    · exact absurd h (by decide)
  · have e1 : er1 = 0 := by rw [← h1, dem, show decide ((out.length : Int) < sy) = true from decide_eq_true (by omega)]; rfl
    subst e1
    rcases htn with ⟨h, _⟩ | ⟨_, hr, rfl⟩ | ⟨_, hr, rfl⟩
    · exact absurd rfl h
    · by_cases hz : v = 1 ∧ out.getLast? = some 0
      · have e3 : er3 = 13 := by rw [← h3, hb.2 hz, dem]; rfl
        rw [e3]
        exact ⟨fun h => absurd h (by decide), fun _ => ⟨13, rfl, by rw [← hR, dec_twice hs h0 hf hr hz]⟩⟩
      · have hbt : b = true := by
          cases b with
          | true => rfl
          | false => exact absurd (hb.1 rfl) hz
        have e3 : er3 = 0 := by rw [← h3, hbt]; rfl
        rw [e3]
        have hi := rd_inv (by omega) hr
        exact ⟨fun _ => ⟨by rw [← hR, dec_num hs h0 hf hr hz], by omega, hi.1, hi.2.2.2.1⟩, fun h => absurd rfl h⟩
    · have e3 : er3 = 3 := by rw [← h3, dem]; cases b <;> rfl
      rw [e3]
      exact ⟨fun h => absurd h (by decide), fun _ => ⟨3, rfl, by rw [← hR, dec_short hs h0 hf hr]⟩⟩

/-- One round reads one part of a run length. -/
theorem run_step {B : List Bool} {sy : Int} {left : Nat} {out : List Int} {s : Nat} {Rz : Rs} {er er1 er2 : Int} {k s1 : Nat} (hs : s ≤ B.length) (hR : er = 0 → dec B sy left out s true = Rz) (hE : er ≠ 0 → ∃ e : Nat, er = (e : Int) ∧ Rz = .bad e)
    (h1 : dem (decide ((out.length : Int) < sy)) er = er1) (htk : TKR B s er1 k s1 er2) :
    (er2 = 0 → dec B sy left (out ++ List.replicate k 0) s1 (k == 3) = Rz ∧ (out.length : Int) < sy ∧ s1 ≤ B.length) ∧ (er2 ≠ 0 → ∃ e : Nat, er2 = (e : Int) ∧ Rz = .bad e) ∧ (er2 ≠ 0 → k = 0) := by
  by_cases he : er = 0
  · subst he
    have hR := hR rfl
    by_cases hf : sy ≤ out.length
    · have e1 : er1 = 13 := by rw [← h1, dem, show decide ((out.length : Int) < sy) = false from decide_eq_false (by omega)]; rfl
      subst e1
      rcases htk with ⟨_, hk, rfl⟩ | ⟨h, _⟩ | ⟨h, _⟩
      · exact ⟨fun h => absurd h (by decide), fun _ => ⟨13, rfl, by rw [← hR, dec_rfull hs hf]⟩, fun _ => hk⟩
      · exact absurd h (by decide)
      · exact absurd h (by decide)
    · have e1 : er1 = 0 := by rw [← h1, dem, show decide ((out.length : Int) < sy) = true from decide_eq_true (by omega)]; rfl
      subst e1
      rcases htk with ⟨h, _⟩ | ⟨_, hr, hk, hs1, rfl⟩ | ⟨_, hr, hk, rfl⟩
      · exact absurd rfl h
      · subst hk hs1
        exact ⟨fun _ => ⟨by rw [← hR, dec_part hf hr], by omega, hr⟩, fun h => absurd rfl h, fun h => absurd rfl h⟩
      · exact ⟨fun h => absurd h (by decide), fun _ => ⟨3, rfl, by rw [← hR, dec_rshort hs hf hr]⟩, fun _ => hk⟩
  · have e1 : er1 = er := by rw [← h1, dem, if_neg he]; split <;> rfl
    subst e1
    rcases htk with ⟨_, hk, rfl⟩ | ⟨h, _⟩ | ⟨h, _⟩
    · exact ⟨fun h => absurd h he, fun _ => hE he, fun _ => hk⟩
    · exact absurd h he
    · exact absurd h he

/-- What the loops hold on to: at the head of a round (run = false), or within a run length. -/
def NSt (w wr : World) (r x : Nat) (A : Option Addr) (c : Nat) (D : List UInt8) (sy : Int) (Rz : Rs) (run : Bool) (L : Int) (A1 : Option Addr) (n1 c1 : Nat) : Prop :=
  ∃ (out : List Int) (s : Nat) (er : Int), Dr wr r x A c D s er ∧ Chg (two r x) w wr ∧ wr.ownsRow w.heap.size 3 1 (.slice A1 n1 c1) n1 (out.map iv) ∧
    (er = 0 → ∃ left : Nat, L = (left : Int) ∧ dec (unp D) sy left out s run = Rz) ∧ (er ≠ 0 → ∃ e : Nat, er = (e : Int) ∧ Rz = .bad e) ∧ (er = 0 → n1 ≤ 258)

/-- What norms leaves. -/
def NormsP (w : World) (r x : Nat) (A : Option Addr) (c : Nat) (D : List UInt8) (Rz : Rs) (q : Ending) (w' : World) : Prop :=
  ∃ (A1 : Option Addr) (n1 c1 : Nat), q = .returned (.slice A1 n1 c1) ∧ match Rz with
    | .ok out s => Left w r x A c D s 0 w' ∧ w'.ownsRow w.heap.size 3 1 (.slice A1 n1 c1) n1 (out.map iv)
    | .bad e => e ≠ 0 ∧ ∃ s, Left w r x A c D s (e : Int) w'

section
variable {r x : Nat} {A : Option Addr} {c : Nat} {D : List UInt8} {s : Nat} {er : Int}
/-- A row of the call's own is neither the reader's block nor one of its bytes. -/
theorem row_apart {w0 : World} (h : Dr w0 r x A c D s er) {w' : World} {n : Nat} {v : Value} {xs : List Value} (ho : w'.ownsRow w0.heap.size 3 1 v n xs) : ∀ g, v.ownBlock = some g → g ≠ r ∧ g ≠ x ∧ ∀ ad, A = some ad → ad.block ≠ g := by
  intro g hg
  have h1 := (ho.lt g hg).1
  have h2 := h.lt
  have h3 := h.sp.lt
  exact ⟨by omega, by omega, fun ad e => by have := (h.sp.ne ad e).2; omega⟩
theorem own_chg {S : Nat → Prop} {a b : World} (h : Chg S a b) {base n : Nat} {e : TypeId} {v : Value} {xs : List Value} (ho : a.ownsRow base e 1 v n xs) (hS : ∀ g, v.ownBlock = some g → ¬ S g) : b.ownsRow base e 1 v n xs :=
  own_same ho fun g hg => h.block g (own_lt ho hg) (hS g hg)
theorem _root_.Go.Proofs.YtnlhokfhkohdpaaGreat.Chg.grow {S : Nat → Prop} {a b d : World} (h : Chg S a b) {row : Option Nat} (hg : b.grownBy d row) (hr : ∀ g, row = some g → a.heap.size ≤ g) : Chg S a d :=
  ⟨hg.os.trans h.os, hg.tape.trans h.tape, hg.output.trans h.output, Nat.le_trans h.size hg.size, fun k hk hn => (hg.block k (Nat.lt_of_lt_of_le hk h.size) (fun e => by have := hr k e.symm; omega)).trans (h.block k hk hn)⟩

/-- Behind an append to the call's own row. -/
theorem app_step {w w4 w5 w6 : World} (hr : r < w.heap.size ∧ x < w.heap.size ∧ ∀ ad, A = some ad → ad.block < w.heap.size) (hd : Dr w4 r x A c D s er) (hc : Chg (two r x) w w4) (hb : Below w4.heap.size w4 w5) {v : Value} {n : Nat} {xs : List Value}
    (ho : w4.ownsRow w.heap.size 3 1 v n xs) (hg : w5.grownBy w6 v.ownBlock) : Dr w6 r x A c D s er ∧ Chg (two r x) w w6 := by
  refine ⟨(hd.below hb).grown hg (fun g hg2 => ?_), (hc.below hb).grow hg (fun g hg2 => (ho.lt g hg2).1)⟩
  have h1 := (ho.lt g hg2).1
  exact ⟨by omega, by omega, fun ad e => by have := hr.2.2 ad e; omega⟩

end

/-- Behind the loop. -/
theorem nms_end {w wr : World} {r x : Nat} {A : Option Addr} {c : Nat} {D : List UInt8} {sy : Int} {Rz : Rs} {L : Int} {A1 : Option Addr} {n1 c1 : Nat} {out : List Int} {s : Nat} {er : Int} (hd : Dr wr r x A c D s er) (hc : Chg (two r x) w wr) (ho : wr.ownsRow w.heap.size 3 1 (.slice A1 n1 c1) n1 (out.map iv))
    (h1 : er = 0 → ∃ left : Nat, L = (left : Int) ∧ dec (unp D) sy left out s false = Rz) (h2 : er ≠ 0 → ∃ e : Nat, er = (e : Int) ∧ Rz = .bad e) (hL : L ≤ 0 ∨ er ≠ 0) : NormsP w r x A c D Rz (.returned (.slice A1 n1 c1)) wr := by
  refine ⟨A1, n1, c1, rfl, ?_⟩
  by_cases h0 : er = 0
  · obtain ⟨left, hl, hR⟩ := h1 h0
    have : left = 0 := by rcases hL with h | h
                          · omega
                          · exact absurd h0 h
    subst this h0
    rw [dec_done (by rw [unp_len]; exact hd.le)] at hR
    subst hR
    exact ⟨⟨hd, hc⟩, ho⟩
  · obtain ⟨e, he, hR⟩ := h2 h0
    subst hR
    exact ⟨fun e0 => h0 (by rw [he, e0]; rfl), s, by rw [← he]; exact ⟨hd, hc⟩⟩

end Go.Proofs.YtnlhokfhkohdpaaGreat.De
