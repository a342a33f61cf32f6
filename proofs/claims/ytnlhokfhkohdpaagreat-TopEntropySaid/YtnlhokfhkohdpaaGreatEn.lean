/-
  The mathematics of TopEntropy: counted bytes have counts; a table out of a recommended Log is valid and has states for each byte. Conditions: those that each theorem states.
  What TopEntropy's alive12 does: it returns true. Nothing that was there has changed. No condition.
  Small facts that TopEntropy's walk wants: a slice of one slice; its bytes. No condition beyond those that each theorem states.
-/
import Derived.Test.YtnlhokfhkohdpaaGreatNe
import Derived.Test.YtnlhokfhkohdpaaGreatTa
import Derived.Test.YtnlhokfhkohdpaaGreatSf
import Derived.Test.YtnlhokfhkohdpaaGreatDd
import Derived.Test.YtnlhokfhkohdpaaGreatSh
import Derived.Test.YtnlhokfhkohdpaaGreatSi0
import Derived.Test.YtnlhokfhkohdpaaGreatRa
namespace Go.Proofs.YtnlhokfhkohdpaaGreat
open Go.RowKit Go.Shelf

theorem hinc_ge (h : List Nat) (u : UInt8) (x : Nat) : h[x]?.getD 0 ≤ (Ta.hinc h u)[x]?.getD 0 := by
  unfold Ta.hinc
  rw [List.getElem?_set]
  by_cases e : u.toNat = x
  · subst e
    rw [if_pos rfl]
    by_cases hl : u.toNat < h.length
    · rw [if_pos hl]; simp
    · rw [if_neg hl, List.getElem?_eq_none (by omega)]; simp
  · rw [if_neg e]
    exact Nat.le_refl _
theorem hinc_one {h : List Nat} (hl : h.length = 256) (u : UInt8) : 1 ≤ (Ta.hinc h u)[u.toNat]?.getD 0 := by
  have := u.toNat_lt
  unfold Ta.hinc
  rw [List.getElem?_set, if_pos rfl, if_pos (by omega)]
  simp
theorem foldl_hinc (l : List UInt8) : ∀ h : List Nat, h.length = 256 → (∀ x : Nat, h[x]?.getD 0 ≤ (l.foldl Ta.hinc h)[x]?.getD 0) ∧ ∀ u ∈ l, 1 ≤ (l.foldl Ta.hinc h)[u.toNat]?.getD 0 := by
  induction l with
  | nil => exact fun h _ => ⟨fun _ => Nat.le_refl _, fun u hu => by cases hu⟩
  | cons u l ih =>
    intro h hl
    obtain ⟨h1, h2⟩ := ih (Ta.hinc h u) (by rw [Ta.hinc_len]; exact hl)
    rw [List.foldl_cons]
    refine ⟨fun x => Nat.le_trans (hinc_ge h u x) (h1 x), fun v hv => ?_⟩
    rcases List.mem_cons.1 hv with rfl | hv
    · exact Nat.le_trans (hinc_one hl v) (h1 _)
    · exact h2 v hv
/-- Each byte has been counted. -/
theorem cn_pos {b : List UInt8} {u : UInt8} (hu : u ∈ b) : 0 < No.cn (Ta.hs b) u.toNat := (foldl_hinc b _ (List.length_replicate ..)).2 u hu

theorem de_vt {y : Nat} {l : List Int} (h : Vt y l) : De.Vt y l := ⟨h.log, h.pos, h.len, h.last, h.ok, h.sum⟩
theorem cast_inj {k m : List Nat} (h : k.map (fun n : Nat => (n : Int)) = m.map (fun n : Nat => (n : Int))) : k = m := nat_inj h

/-- The table that is normalized from counts is valid. -/
theorem nrm_vt {k : List Nat} {lg : Nat} (hg : No.Gd k lg (2 ^ lg)) (hk : k.length = 256) : Vt lg (No.nrm k (2 ^ lg)) := by
  have h := No.nrm_valid hg hk (most := 9) (by have := hg.log; omega)
  obtain ⟨n, e, hv⟩ := vt_iff.1 h
  have : lg = n := by omega
  subst this
  exact hv
/-- A counted symbol has states in it. -/
theorem nrm_nos {k : List Nat} {lg : Nat} (hg : No.Gd k lg (2 ^ lg)) {x : Nat} (hx : 0 < No.cn k x) : 1 ≤ nos (No.nrm k (2 ^ lg)) x := by
  have hlt : x < k.length := by
    rcases Nat.lt_or_ge x k.length with h | h
    · exact h
    · unfold No.cn at hx
      rw [List.getElem?_eq_none h] at hx
      simp at hx
  have hu : x ∈ No.usy k := No.usy_mem.2 ⟨hlt, hx⟩
  have hl := No.usy_le x hu
  have h1 := No.sts_nm hg hu
  have e : (No.nrm k (2 ^ lg))[x]? = some (No.nm k (2 ^ lg) x) := by
    unfold No.nrm
    rw [List.getElem?_map, List.getElem?_range (by omega)]
    rfl
  unfold nos
  rw [e]
  show 1 ≤ (sts (No.nm k (2 ^ lg) x)).toNat
  omega
/-- What a recommended Log of counts says. -/
theorem rcl_good {k : List Nat} (hk : k.length = 256) {most : Int} (h : 1 ≤ No.rcl (k.map (fun n : Nat => (n : Int))) most) : ∃ lg : Nat, No.rcl (k.map (fun n : Nat => (n : Int))) most = (lg : Int) ∧ 1 ≤ lg ∧ No.Gd k lg (2 ^ lg) := by
  rcases No.rcl_cases (k.map (fun n : Nat => (n : Int))) most with ⟨e, _⟩ | ⟨hg, _⟩
  · omega
  · obtain ⟨k', lg, e1, _, e3, hd⟩ := No.gd_of hg (by rw [List.length_map, hk]; decide)
    have := cast_inj e1
    subst this
    exact ⟨lg, e3, by omega, hd⟩

/-- A description is read back. -/
theorem dcd_own {y : Nat} {l : List Int} (h1 : 1 ≤ y) (hv : Vt y l) : De.dcd (Bt.unp ((Bt.pack (De.descr y l)).take 385)) 256 (y : Int) = (0, y, l, (Bt.pack (De.descr y l)).length) := by
  have h := De.dcd_back h1 (de_vt hv) [] 256 (y : Int)
  rw [List.append_nil, if_pos ⟨by have := hv.len; omega, Int.le_refl _⟩] at h
  rw [De.dcd_take]
  exact h

/-- The bytes as symbols. -/
def sym8 (b : List UInt8) : List Nat := b.map UInt8.toNat
theorem sym8_len (b : List UInt8) : (sym8 b).length = b.length := List.length_map ..
theorem sym8_nos {b : List UInt8} {lg : Nat} (hg : No.Gd (Ta.hs b) lg (2 ^ lg)) : ∀ x ∈ sym8 b, 1 ≤ nos (No.nrm (Ta.hs b) (2 ^ lg)) x := by
  intro x hx
  obtain ⟨u, hu, rfl⟩ := List.mem_map.1 hx
  exact nrm_nos hg (cn_pos hu)

end Go.Proofs.YtnlhokfhkohdpaaGreat

namespace Go.Proofs.YtnlhokfhkohdpaaGreat
open Go.RowKit Go.Shelf

/-- A table that is stored into a new variable. -/
theorem new_tab {w W : World} (hb : Below w.heap.size w W) (y : Int) (A : Option Addr) (n c : Nat) : ∃ W1 Wa Wb, W.alloc (.cells #[.int .i64 0, .slice none 0 0] 28) = W1 ∧
    W1.cell? ⟨W.heap.size, 0, none⟩ = some (.int .i64 0) ∧ W1.frozen? ⟨W.heap.size, 0, none⟩ = false ∧ W1.setCell ⟨W.heap.size, 0, none⟩ (.int .i64 y) = Wa ∧
    Wa.cell? ⟨W.heap.size, 1, none⟩ = some (.slice none 0 0) ∧ Wa.frozen? ⟨W.heap.size, 1, none⟩ = false ∧ Wa.setCell ⟨W.heap.size, 1, none⟩ (.slice A n c) = Wb ∧
    Tb Wb W.heap.size y A n c ∧ Below W.heap.size W Wb ∧ Below w.heap.size w Wb := by
  have t1 := Tb.new W 0 none 0 0
  have b1 := below_new W (.cells #[.int .i64 0, .slice none 0 0] 28)
  have t2 := t1.set0 y
  have b3 := (b1.setCell (p := ⟨W.heap.size, 0, none⟩) (Nat.le_refl _) (.int .i64 y)).setCell (p := ⟨W.heap.size, 1, none⟩) (Nat.le_refl _) (.slice A n c)
  exact ⟨_, _, _, rfl, t1.c0, t1.free 0, rfl, t2.c1, t2.free 1, rfl, t2.set1 A n c, b3, below_on hb (Nat.le_refl _) b3⟩

theorem Fres.out {w w' : World} {R : Nat × List Nat} {e : Ending} (h : Fres w R e w') : ∃ (A1 : Option Addr) (n1 c1 : Nat), e = .returned (.tuple #[.slice A1 n1 c1, .int .i64 (R.1 : Int)]) ∧ Below w.heap.size w w' ∧ R.2.length = n1 ∧ w'.ownsRow w.heap.size 3 1 (.slice A1 n1 c1) n1 (R.2.map nv) := by
  obtain ⟨A1, n1, c1, rfl, hb, ho⟩ := h
  have hl : R.2.length = n1 := by have := ho.1; simp only [List.length_map, Nat.mul_one] at this; exact this
  exact ⟨A1, n1, c1, rfl, hb, hl, ho⟩
theorem Eres.out {w w' : World} {R : Nat × List UInt8} {e : Ending} (h : Eres w R e w') : ∃ (A1 : Option Addr) (n1 c1 : Nat), e = .returned (.tuple #[.slice A1 n1 c1, .int .i64 (R.1 : Int)]) ∧ Below w.heap.size w w' ∧ Bt.Rd w' A1 R.2 ∧ R.2.length = n1 := by
  obtain ⟨A1, n1, c1, rfl, hb, ho⟩ := h
  have hl : R.2.length = n1 := by have := ho.1; simp only [List.length_map, Nat.mul_one] at this; exact this
  exact ⟨A1, n1, c1, rfl, hb, Bt.Rv.of_own ho, hl⟩
theorem closed_len (L : List Bool) : (Bt.closed L).length ≤ L.length / 8 + 1 := by
  have := Bt.pack_len (L ++ [true])
  unfold Bt.closed
  rw [List.length_append, List.length_singleton] at this
  omega
theorem fby_len {y : Nat} {l : List Int} {ss : List Nat} (hv : Vt y l) (hs : ∀ x ∈ ss, 1 ≤ nos l x) : (fby y l ss).length ≤ 9 * ss.length / 8 + 1 := by
  have h1 := closed_len (fbs (CC y l) y ss)
  have h2 := fbs_le hv hs
  have h3 : y * ss.length ≤ 9 * ss.length := Nat.mul_le_mul_right _ hv.log
  unfold fby
  omega

theorem lst31 : No.lst [3, 1] + 1 = 2 := by decide
theorem nrm31 : No.nrm [3, 1] 4 = [3, 1] := by decide
theorem vt31 : Vt 2 [3, 1] := ⟨by decide, by decide, by decide, by decide, by decide, by decide⟩
theorem nos31 : ∀ x ∈ [0, 1, 0, 0], 1 ≤ nos [3, 1] x := by decide
theorem gd31 : No.Gd [3, 1] 2 4 := ⟨by decide, by decide, by decide, by decide, by decide, by decide⟩

set_option maxRecDepth 100000 in
set_option maxHeartbeats 2000000 in
theorem alive_any (w : World) : Calls Tryz.prog 4 #[] w fun e w' => e = .returned (.bool true) ∧ Below w.heap.size w w' := by
  have b1 := below_new w (.cells #[.int .i64 3, .int .i64 1] 3)
  have r1 : Rv (w.alloc (.cells #[.int .i64 3, .int .i64 1] 3)) (some ⟨w.heap.size, 0, none⟩) [.int .i64 3, .int .i64 1] := No.lit_rv w [.int .i64 3, .int .i64 1] w.heap.size rfl
  obtain ⟨w1, hw1⟩ : ∃ w1, w.alloc (.cells #[.int .i64 3, .int .i64 1] 3) = w1 := ⟨_, rfl⟩
  rw [hw1] at b1 r1
  have NZ := No.normalize_ok w1 (some ⟨w.heap.size, 0, none⟩) [3, 1] 2 2 2 4 rfl (by decide) r1 gd31.tot gd31.pos gd31.log gd31.pow gd31.use
  rw [lst31, nrm31] at NZ
  have NZ := Lib.hid NZ
  have B1 := Lib.hid b1
  have FX : Hid (feR 2 [3, 1] [0, 1, 0, 0] = (0, fby 2 [3, 1] [0, 1, 0, 0]) ∧ fdR 2 [3, 1] (fby 2 [3, 1] [0, 1, 0, 0]) 4 = (0, [0, 1, 0, 0]) ∧ (fby 2 [3, 1] [0, 1, 0, 0]).length ≤ 1000) := Lib.hid ⟨feR_ok vt31 nos31 (by decide), fdR_back vt31 nos31 (by decide), by have := fby_len vt31 nos31; simp only [List.length_cons, List.length_nil] at this; omega⟩
  clear b1 r1
  go_enter Tryz.func4, Tryz.ntmps4
  go_wp2_with (first
    | (go_at_call 7; refine NZ.out.mono ?_; rintro e w2 ⟨g, rfl, ho2, hb2⟩; obtain ⟨w3, w4, w5, hw3, k0, f0, hw4, k1, f1, hw5, ht5, hb5, hB5⟩ := new_tab (below_on B1.out (Nat.le_refl _) hb2) 2 (some ⟨g, 0, none⟩) 2 2; have c0 := ht5.c0; have c1 := ht5.c1; have b6 := below_new w5 (.cells #[.int .i64 0, .int .i64 1, .int .i64 0, .int .i64 0] 3); have r6 : Rv (w5.alloc (.cells #[.int .i64 0, .int .i64 1, .int .i64 0, .int .i64 0] 3)) (some ⟨w5.heap.size, 0, none⟩) [.int .i64 0, .int .i64 1, .int .i64 0, .int .i64 0] := No.lit_rv w5 [.int .i64 0, .int .i64 1, .int .i64 0, .int .i64 0] w5.heap.size rfl; obtain ⟨w6, hw6⟩ : ∃ w6, w5.alloc (.cells #[.int .i64 0, .int .i64 1, .int .i64 0, .int .i64 0] 3) = w6 := ⟨_, rfl⟩; rw [hw6] at b6 r6; have T6 := Lib.hid (ht5.below b6); have Q6 := Lib.hid (Rv.below (Rv.below (Rv.of_own ho2) hb5) b6); have R6 := Lib.hid r6; have B6 := Lib.hid (below_on hB5 (Nat.le_refl _) b6); clear ho2 hb2 ht5 hb5 hB5 b6 r6)
    | (go_at_call 13; refine (fenc_any w6 2 _ [3, 1] 2 2 rfl (by decide) (by decide) Q6.out _ [0, 1, 0, 0] 4 4 rfl (by decide) (by decide) R6.out).mono ?_; intro e w7 h7; rw [FX.out.1] at h7; obtain ⟨A7, n7, c7, rfl, hb7, hr7, hl7⟩ := h7.out; have t7 := T6.out.below hb7; have d0 := t7.c0; have d1 := t7.c1; have R7 := Lib.hid (And.intro hr7 hl7); have Q7 := Lib.hid (Q6.out.below hb7); have B7 := Lib.hid (below_on B6.out (Nat.le_refl _) hb7); clear h7 hb7 hr7 hl7 t7)
    | (go_at_call 14; refine (fdec_any w7 2 _ [3, 1] 2 2 rfl (by decide) Q7.out A7 (fby 2 [3, 1] [0, 1, 0, 0]) n7 c7 R7.out.2 (by have := R7.out.2; have := FX.out.2.2; omega) R7.out.1 4).mono ?_; intro e w8 h8; rw [FX.out.2.1] at h8; obtain ⟨A8, n8, c8, rfl, hb8, hl8, ho8⟩ := h8.out; obtain rfl : 4 = n8 := hl8; obtain ⟨g8, rfl⟩ := own_some (by decide) ho8; have e0 := ho8.cellAt 0 (by decide); have e1 := ho8.cellAt 1 (by decide); have e2 := ho8.cellAt 2 (by decide); have e3 := ho8.cellAt 3 (by decide); simp only [List.map_cons, List.map_nil, List.getElem?_cons_zero, List.getElem?_cons_succ, nv] at e0 e1 e2 e3; have B8 := Lib.hid (below_on B7.out (Nat.le_refl _) hb8); clear h8 hb8 ho8))
  go_ret
  exact ⟨rfl, B8.out⟩

end Go.Proofs.YtnlhokfhkohdpaaGreat

namespace Go.Proofs.YtnlhokfhkohdpaaGreat
open Go.RowKit Go.Shelf

theorem flt_one (B : Option Addr) (D : List UInt8) (cb : Nat) : Ta.flt [(B, D, cb)] 1 = D := by simp [Ta.flt]
theorem one_slice (w : World) (B : Option Addr) (D : List UInt8) (nb cb : Nat) (hD : D.length = nb) (hcb : nb ≤ cb) (hRB : Rd w B D) : Ta.RdR (w.alloc (.cells #[.slice B nb cb] 22)) (some ⟨w.heap.size, 0, none⟩) [(B, D, cb)] := by
  intro j B' m c hj
  match j, hj with
  | 0, hj =>
    simp only [List.getElem?_cons_zero, Option.some.injEq, Prod.mk.injEq] at hj
    obtain ⟨rfl, rfl, rfl⟩ := hj
    refine ⟨_, rfl, ?_, by omega, Rv.below hRB (below_new w _)⟩
    rw [addr_zero, hD]
    exact (Boxed.new w 22 (.slice B nb cb)).cell
  | j + 1, hj => simp at hj

end Go.Proofs.YtnlhokfhkohdpaaGreat
