/-
  The reader's steps in one form, at any error kept so far, and what the loop over the norms holds on to. Conditions: those that each theorem states.
-/
import Derived.Test.YtpjbjbohbdlciaaTkn
import Derived.Test.YtpjbjbohbdlciaaApz
namespace Go.Proofs.Ytpjbjbohbdlciaa
open Go.RowKit Go.Shelf
open Bt (unp unp_len)

/-- A number is read: the value, the place behind it, the error. -/
def TNR (B : List Bool) (s m : Nat) (er : Int) (v s1 : Nat) (er2 : Int) : Prop :=
  (er ≠ 0 ∧ v = 0 ∧ er2 = er) ∨ (er = 0 ∧ rd B s m = some (v, s1) ∧ er2 = 0) ∨ (er = 0 ∧ rd B s m = none ∧ er2 = 3)

theorem tn_u {w : World} {r x : Nat} {A : Option Addr} {c : Nat} {D : List UInt8} {s : Nat} {er : Int} (h : Dr w r x A c D s er) (hD : D.length ≤ 1000) (m : Nat) (h2 : 2 ≤ m) (h5 : m ≤ 514) :
    Calls Try.prog 76 #[.int .i64 (m : Int), takev r] w fun q w' => ∃ (v s1 : Nat) (er2 : Int), q = .returned (.int .i64 (v : Int)) ∧ TNR (unp D) s m er v s1 er2 ∧ v ≤ 2000 ∧ Left w r x A c D s1 er2 w' := by
  by_cases h0 : er = 0
  · subst h0
    cases hr : rd (unp D) s m with
    | none =>
      refine (tn_short h hD m h2 h5 hr).mono ?_
      rintro q w' ⟨v, s1, rfl, hv, hl⟩
      exact ⟨v, s1, 3, rfl, .inr (.inr ⟨rfl, hr, rfl⟩), hv, hl⟩
    | some p =>
      obtain ⟨v, s1⟩ := p
      have := (rd_inv h2 hr).1
      refine (tn_ok h hD m h2 h5 v s1 hr).mono ?_
      rintro q w' ⟨rfl, hl⟩
      exact ⟨v, s1, 0, rfl, .inr (.inl ⟨rfl, hr, rfl⟩), by omega, hl⟩
  · refine (tn_err h h0 m h2 h5).mono ?_
    rintro q w' ⟨rfl, d, rfl⟩
    exact ⟨0, s, er, rfl, .inl ⟨h0, rfl, rfl⟩, by decide, Left.drewN h d⟩

/-- A part of a run length is read. -/
def TKR (B : List Bool) (s : Nat) (er : Int) (k s1 : Nat) (er2 : Int) : Prop :=
  (er ≠ 0 ∧ k = 0 ∧ er2 = er) ∨ (er = 0 ∧ s + 2 ≤ B.length ∧ k = tk B s 2 ∧ s1 = s + 2 ∧ er2 = 0) ∨ (er = 0 ∧ B.length < s + 2 ∧ k = 0 ∧ er2 = 3)

theorem tk_u {w : World} {r x : Nat} {A : Option Addr} {c : Nat} {D : List UInt8} {s : Nat} {er : Int} (h : Dr w r x A c D s er) (hD : D.length ≤ 1000) :
    Calls Try.prog 58 #[.pointer (some ⟨r, 0, none⟩), .int .i64 2] w fun q w' => ∃ (k s1 : Nat) (er2 : Int), q = .returned (.int .i64 (k : Int)) ∧ TKR (unp D) s er k s1 er2 ∧ k ≤ 3 ∧ Left w r x A c D s1 er2 w' := by
  by_cases h0 : er = 0
  · subst h0
    by_cases hs : s + 2 ≤ 8 * D.length
    · have hk : tk (unp D) s 2 < 4 := tk_lt _ _ 2
      refine (take_ok h hD 2 (by decide) hs _ rfl).mono ?_
      rintro q w' ⟨rfl, hl⟩
      exact ⟨_, s + 2, 0, rfl, .inr (.inl ⟨rfl, by rw [unp_len]; exact hs, rfl, rfl, rfl⟩), by omega, hl⟩
    · refine (take_short h hD 2 (by decide) (by omega)).mono ?_
      rintro q w' ⟨rfl, hl⟩
      exact ⟨0, s, 3, rfl, .inr (.inr ⟨rfl, by rw [unp_len]; omega, rfl, rfl⟩), by decide, hl⟩
  · refine (take_err h h0 2).mono ?_
    rintro q w' ⟨rfl, rfl⟩
    exact ⟨0, s, er, rfl, .inl ⟨h0, rfl, rfl⟩, by decide, Left.refl h⟩

/-- One round reads one number. -/
theorem num_step {B : List Bool} {sy : Int} {left : Nat} {out : List Int} {s : Nat} {Rz : Rs} {er1 er2 er3 : Int} {v s1 : Nat} {b : Bool} (h0 : 0 < left) (hs : s ≤ B.length) (hR : dec B sy left out s false = Rz)
    (h1 : dem (decide ((out.length : Int) < sy)) 0 = er1) (htn : TNR B s (left + 2) er1 v s1 er2) (hb : b = false ↔ v = 1 ∧ out.getLast? = some 0) (h3 : dem b er2 = er3) :
    (er3 = 0 → dec B sy (left - stn v) (out ++ [(v : Int) - 1]) s1 (v == 1) = Rz ∧ (out.length : Int) < sy ∧ v < left + 2 ∧ s1 ≤ B.length) ∧ (er3 ≠ 0 → ∃ e : Nat, er3 = (e : Int) ∧ Rz = .bad e) := by
  by_cases hf : sy ≤ out.length
  · have e1 : er1 = 13 := by rw [← h1, dem, show decide ((out.length : Int) < sy) = false from decide_eq_false (by omega)]; rfl
    subst e1
    rcases htn with ⟨_, _, rfl⟩ | ⟨h, _⟩ | ⟨h, _⟩
    · have e3 : er3 = 13 := by rw [← h3, dem]; cases b <;> rfl
      rw [e3]
      exact ⟨fun h => absurd h (by decide), fun _ => ⟨13, rfl, by rw [← hR, dec_full hs h0 hf]⟩⟩
    · exact absurd h (by decide)
    · exact absurd h (by decide)
  · have e1 : er1 = 0 := by rw [← h1, dem, show decide ((out.length : Int) < sy) = true from decide_eq_true (by omega)]; rfl
    subst e1
    rcases htn with ⟨h, _⟩ | ⟨_, hr, rfl⟩ | ⟨_, hr, rfl⟩
    · exact absurd rfl h
    · by_cases hz : v = 1 ∧ out.getLast? = some 0
      · have e3 : er3 = 13 := by rw [← h3, hb.2 hz, dem]; rfl
        rw [e3]
        exact ⟨fun h => absurd h (by decide), fun _ => ⟨13, rfl, by rw [← hR, dec_twice hs h0 hf hr hz]⟩⟩
      · have hbt : b = true := by
          cases b with
          | true => rfl
          | false => exact absurd (hb.1 rfl) hz
        have e3 : er3 = 0 := by rw [← h3, hbt]; rfl
        rw [e3]
        have hi := rd_inv (by omega) hr
        exact ⟨fun _ => ⟨by rw [← hR, dec_num hs h0 hf hr hz], by omega, hi.1, hi.2.2.2.1⟩, fun h => absurd rfl h⟩
    · have e3 : er3 = 3 := by rw [← h3, dem]; cases b <;> rfl
      rw [e3]
      exact ⟨fun h => absurd h (by decide), fun _ => ⟨3, rfl, by rw [← hR, dec_short hs h0 hf hr]⟩⟩

/-- One round reads one part of a run length. -/
theorem run_step {B : List Bool} {sy : Int} {left : Nat} {out : List Int} {s : Nat} {Rz : Rs} {er er1 er2 : Int} {k s1 : Nat} (hs : s ≤ B.length) (hR : er = 0 → dec B sy left out s true = Rz) (hE : er ≠ 0 → ∃ e : Nat, er = (e : Int) ∧ Rz = .bad e)
    (h1 : dem (decide ((out.length : Int) < sy)) er = er1) (htk : TKR B s er1 k s1 er2) :
    (er2 = 0 → dec B sy left (out ++ List.replicate k 0) s1 (k == 3) = Rz ∧ (out.length : Int) < sy ∧ s1 ≤ B.length) ∧ (er2 ≠ 0 → ∃ e : Nat, er2 = (e : Int) ∧ Rz = .bad e) ∧ (er2 ≠ 0 → k = 0) := by
  by_cases he : er = 0
  · subst he
    have hR := hR rfl
    by_cases hf : sy ≤ out.length
    · have e1 : er1 = 13 := by rw [← h1, dem, show decide ((out.length : Int) < sy) = false from decide_eq_false (by omega)]; rfl
      subst e1
      rcases htk with ⟨_, hk, rfl⟩ | ⟨h, _⟩ | ⟨h, _⟩
      · exact ⟨fun h => absurd h (by decide), fun _ => ⟨13, rfl, by rw [← hR, dec_rfull hs hf]⟩, fun _ => hk⟩
      · exact absurd h (by decide)
      · exact absurd h (by decide)
    · have e1 : er1 = 0 := by rw [← h1, dem, show decide ((out.length : Int) < sy) = true from decide_eq_true (by omega)]; rfl
      subst e1
      rcases htk with ⟨h, _⟩ | ⟨_, hr, hk, hs1, rfl⟩ | ⟨_, hr, hk, rfl⟩
      · exact absurd rfl h
      · subst hk hs1
        exact ⟨fun _ => ⟨by rw [← hR, dec_part hf hr], by omega, hr⟩, fun h => absurd rfl h, fun h => absurd rfl h⟩
      · exact ⟨fun h => absurd h (by decide), fun _ => ⟨3, rfl, by rw [← hR, dec_rshort hs hf hr]⟩, fun _ => hk⟩
  · have e1 : er1 = er := by rw [← h1, dem, if_neg he]; split <;> rfl
    subst e1
    rcases htk with ⟨_, hk, rfl⟩ | ⟨h, _⟩ | ⟨h, _⟩
    · exact ⟨fun h => absurd h he, fun _ => hE he, fun _ => hk⟩
    · exact absurd h he
    · exact absurd h he

/-- What the loops hold on to: at the head of a round (run = false), or within a run length. -/
def NSt (w wr : World) (r x : Nat) (A : Option Addr) (c : Nat) (D : List UInt8) (sy : Int) (Rz : Rs) (run : Bool) (L : Int) (A1 : Option Addr) (n1 c1 : Nat) : Prop :=
  ∃ (out : List Int) (s : Nat) (er : Int), Dr wr r x A c D s er ∧ Chg (two r x) w wr ∧ wr.ownsRow w.heap.size 3 1 (.slice A1 n1 c1) n1 (out.map iv) ∧
    (er = 0 → ∃ left : Nat, L = (left : Int) ∧ dec (unp D) sy left out s run = Rz) ∧ (er ≠ 0 → ∃ e : Nat, er = (e : Int) ∧ Rz = .bad e) ∧ (er = 0 → n1 ≤ 258)

/-- What norms leaves. -/
def NormsP (w : World) (r x : Nat) (A : Option Addr) (c : Nat) (D : List UInt8) (Rz : Rs) (q : Ending) (w' : World) : Prop :=
  ∃ (A1 : Option Addr) (n1 c1 : Nat), q = .returned (.slice A1 n1 c1) ∧ match Rz with
    | .ok out s => Left w r x A c D s 0 w' ∧ w'.ownsRow w.heap.size 3 1 (.slice A1 n1 c1) n1 (out.map iv)
    | .bad e => e ≠ 0 ∧ ∃ s, Left w r x A c D s (e : Int) w'

section
variable {r x : Nat} {A : Option Addr} {c : Nat} {D : List UInt8} {s : Nat} {er : Int}
/-- A row of the call's own is neither the reader's block nor one of its bytes. -/
theorem row_apart {w0 : World} (h : Dr w0 r x A c D s er) {w' : World} {n : Nat} {v : Value} {xs : List Value} (ho : w'.ownsRow w0.heap.size 3 1 v n xs) : ∀ g, v.ownBlock = some g → g ≠ r ∧ g ≠ x ∧ ∀ ad, A = some ad → ad.block ≠ g := by
  intro g hg
  have h1 := (ho.lt g hg).1
  have h2 := h.lt
  have h3 := h.sp.lt
  exact ⟨by omega, by omega, fun ad e => by have := (h.sp.ne ad e).2; omega⟩
theorem own_chg {S : Nat → Prop} {a b : World} (h : Chg S a b) {base n : Nat} {e : TypeId} {v : Value} {xs : List Value} (ho : a.ownsRow base e 1 v n xs) (hS : ∀ g, v.ownBlock = some g → ¬ S g) : b.ownsRow base e 1 v n xs :=
  own_same ho fun g hg => h.block g (own_lt ho hg) (hS g hg)
theorem Chg.grow {S : Nat → Prop} {a b d : World} (h : Chg S a b) {row : Option Nat} (hg : b.grownBy d row) (hr : ∀ g, row = some g → a.heap.size ≤ g) : Chg S a d :=
  ⟨hg.os.trans h.os, hg.tape.trans h.tape, hg.output.trans h.output, Nat.le_trans h.size hg.size, fun k hk hn => (hg.block k (Nat.lt_of_lt_of_le hk h.size) (fun e => by have := hr k e.symm; omega)).trans (h.block k hk hn)⟩

/-- Behind an append to the call's own row. -/
theorem app_step {w w4 w5 w6 : World} (hr : r < w.heap.size ∧ x < w.heap.size ∧ ∀ ad, A = some ad → ad.block < w.heap.size) (hd : Dr w4 r x A c D s er) (hc : Chg (two r x) w w4) (hb : Below w4.heap.size w4 w5) {v : Value} {n : Nat} {xs : List Value}
    (ho : w4.ownsRow w.heap.size 3 1 v n xs) (hg : w5.grownBy w6 v.ownBlock) : Dr w6 r x A c D s er ∧ Chg (two r x) w w6 := by
  refine ⟨(hd.below hb).grown hg (fun g hg2 => ?_), (hc.below hb).grow hg (fun g hg2 => (ho.lt g hg2).1)⟩
  have h1 := (ho.lt g hg2).1
  exact ⟨by omega, by omega, fun ad e => by have := hr.2.2 ad e; omega⟩

end

/-- Behind the loop. -/
theorem nms_end {w wr : World} {r x : Nat} {A : Option Addr} {c : Nat} {D : List UInt8} {sy : Int} {Rz : Rs} {L : Int} {A1 : Option Addr} {n1 c1 : Nat} {out : List Int} {s : Nat} {er : Int} (hd : Dr wr r x A c D s er) (hc : Chg (two r x) w wr) (ho : wr.ownsRow w.heap.size 3 1 (.slice A1 n1 c1) n1 (out.map iv))
    (h1 : er = 0 → ∃ left : Nat, L = (left : Int) ∧ dec (unp D) sy left out s false = Rz) (h2 : er ≠ 0 → ∃ e : Nat, er = (e : Int) ∧ Rz = .bad e) (hL : L ≤ 0 ∨ er ≠ 0) : NormsP w r x A c D Rz (.returned (.slice A1 n1 c1)) wr := by
  refine ⟨A1, n1, c1, rfl, ?_⟩
  by_cases h0 : er = 0
  · obtain ⟨left, hl, hR⟩ := h1 h0
    have : left = 0 := by rcases hL with h | h
                          · omega
                          · exact absurd h0 h
    subst this h0
    rw [dec_done (by rw [unp_len]; exact hd.le)] at hR
    subst hR
    exact ⟨⟨hd, hc⟩, ho⟩
  · obtain ⟨e, he, hR⟩ := h2 h0
    subst hR
    exact ⟨fun e0 => h0 (by rw [he, e0]; rfl), s, by rw [← he]; exact ⟨hd, hc⟩⟩

end Go.Proofs.Ytpjbjbohbdlciaa
