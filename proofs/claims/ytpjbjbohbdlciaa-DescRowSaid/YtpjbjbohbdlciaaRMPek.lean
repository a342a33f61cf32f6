/-
  What the methods Bytes and Sub of a cursor do: the next n bytes in new memory, or a new cursor over them, and the cursor behind them; or the errors ErrArg (n is negative), ErrShort (too few bytes are left), ErrNil (a nil cursor), and the cursor where it was. Condition: at most 2.8 * 10^14 bytes.
  A new cursor, with the number of bytes as a letter. Condition: at most 2.8 * 10^14 bytes.
  What the methods Peek and Rest of a cursor do: a copy of the next bytes, n at most, or of all that are left, in new memory; for a nil cursor an empty slice. The cursor stays as it was. Condition: n is an int; at most 2.8 * 10^14 bytes.
-/
import Derived.Test.YtpjbjbohbdlciaaRRdL
import Derived.StillTailTactics
import Derived.IntWalk
namespace Go.Proofs.Ytpjbjbohbdlciaa.Nm

section
open Go.RowKit Go.Shelf
/-- The error of a read of n bytes where m are left. -/
def cutE (n : Int) (m : Nat) : Int := if n < 0 then 2 else if (m : Int) < n then 3 else 0

theorem cutE_neg {n : Int} {m : Nat} (h : n < 0) : cutE n m = 2 := by rw [cutE, if_pos h]
theorem cutE_short {n : Int} {m : Nat} (h0 : 0 ≤ n) (h : (m : Int) < n) : cutE n m = 3 := by rw [cutE, if_neg (by omega), if_pos h]
theorem cutE_ok {n : Int} {m : Nat} (h0 : 0 ≤ n) (h : n ≤ (m : Int)) : cutE n m = 0 := by rw [cutE, if_neg (by omega), if_neg (by omega)]

/-- The inner step's answer for Bytes. -/
def OkBs (s : List UInt8) (n : Int) (m : Nat) (W : World) (v : Value) (err : Int) (W1 : World) : Prop :=
  err = cutE n m ∧ (err ≠ 0 → v = .slice none 0 0) ∧ (err = 0 → ∃ A c, v = .slice A s.length c ∧ W1.ownsRow W.heap.size 5 1 (.slice A s.length c) s.length (s.map byt))

theorem own_mono {w : World} {b b' : Nat} {e : TypeId} {v : Value} {n : Nat} {xs : List Value} (h : w.ownsRow b e 1 v n xs) (hb : b' ≤ b) : w.ownsRow b' e 1 v n xs := by
  refine ⟨h.1, ?_⟩
  rcases h.2 with h2 | ⟨g, c, cur, h1, h2, h3⟩
  · exact .inl h2
  · exact .inr ⟨g, c, cur, h1, by omega, h3⟩

theorem own_same {w w' : World} {b : Nat} {e : TypeId} {v : Value} {n : Nat} {xs : List Value} (h : w.ownsRow b e 1 v n xs) (hb : ∀ j, b ≤ j → w'.heap[j]? = w.heap[j]?) : w'.ownsRow b e 1 v n xs := by
  refine ⟨h.1, ?_⟩
  rcases h.2 with h2 | ⟨g, c, cur, h1, h2, h3, h4⟩
  · exact .inl h2
  · exact .inr ⟨g, c, cur, h1, h2, by rw [hb g h2]; exact h3, h4⟩

theorem extend_n (w : World) (A : Option Addr) (l : List UInt8) (n cap : Nat) (r : Int) (hn : l.length = n) (h0 : 0 ≤ r) (h1 : r ≤ 16) (hs : n ≤ 281474976710000) (hR : Rd w A l) :
    Calls Try.prog 37 #[.slice A n cap, .int .i64 r] w (Made w w.heap.size l (l.length + r.toNat)) := by
  subst hn
  exact extend_any w A l cap r h0 h1 hs hR

set_option maxHeartbeats 1000000 in
theorem bytes1_any {w : World} {c : Nat} {A : Option Addr} {cap : Nat} {l : List UInt8} {k B B' : Nat} {n : Int} (h : Cur w c A cap l k) (hs : l.length ≤ 281474976710000) (hB : w.cell? ⟨B, 0, none⟩ = some (.pointer (some ⟨c, 0, none⟩))) (hB' : w.cell? ⟨B', 0, none⟩ = some (.int .i64 n)) :
    Calls Try.prog 62 #[.pointer (some ⟨B, 0, none⟩), .pointer (some ⟨B', 0, none⟩)] w (TakePost w c A cap l (k + n.toNat) (OkBs ((l.drop k).take n.toNat) n (l.length - k))) := by
  have hle := h.le
  by_cases hneg : n < 0
  · have HX := Lib.hid (next_neg w (.pointer (some ⟨c, 0, none⟩)) n hneg)
    have H := Lib.hid h
    clear h
    go_enter Try.func62, Try.ntmps62
    go_wp2_with fail
    refine HX.out.mono ?_
    rintro e w1 ⟨rfl, rfl⟩
    go_wp2
    go_ret2
    exact ⟨_, _, rfl, ⟨k, H.out, fun h => by simp at h⟩, World.grownBy.refl _ _, (cutE_neg hneg).symm, fun _ => rfl, fun h => by simp at h⟩
  · by_cases hsh : ((l.length - k : Nat) : Int) < n
    · have HX := Lib.hid (next_short h n (by omega) (by omega))
      have H := Lib.hid h
      have HS := Lib.hid (cutE_short (by omega) hsh)
      clear h hsh hneg
      go_enter Try.func62, Try.ntmps62
      go_wp2_with fail
      refine HX.out.mono ?_
      rintro e w1 ⟨rfl, d, rfl⟩
      go_wp2
      go_ret2
      exact ⟨_, _, rfl, ⟨k, H.out.drewN d, fun h => by simp at h⟩, grown_drewN (World.grownBy.refl _ _) d, HS.out.symm, fun _ => rfl, fun h => by simp at h⟩
    · have HX := Lib.hid (next_ok h n (by omega) (by omega))
      have HS := Lib.hid (cutE_ok (n := n) (m := l.length - k) (by omega) (by omega))
      have hln : ((l.drop k).take n.toNat).length = n.toNat := by simp; omega
      have HL := Lib.hid hln
      have hsz : n.toNat ≤ 281474976710000 := by omega
      clear h hsh hneg hln
      obtain ⟨s, hss⟩ : ∃ s, (l.drop k).take n.toNat = s := ⟨_, rfl⟩
      have HSS := Lib.hid hss
      rw [hss] at HL ⊢
      clear hss
      go_enter Try.func62, Try.ntmps62
      go_wp2_with fail
      refine HX.out.mono ?_
      rintro e w1 ⟨A', c', rfl, hrd, hcur, hg⟩
      rw [HSS.out] at hrd
      have HE := Lib.hid (extend_n w1 A' s n.toNat c' 0 HL.out (by omega) (by omega) hsz hrd)
      have HC := Lib.hid hcur
      have HG := Lib.hid hg
      clear hrd hcur hg
      go_wp2_with fail
      refine HE.out.mono ?_
      rintro e w2 ⟨rfl, hown, hb⟩
      have HO := Lib.hid hown
      have HB2 := Lib.hid hb
      clear hown hb
      go_wp2
      go_ret2
      exact ⟨_, _, rfl, ⟨_, HC.out.below HB2.out, fun _ => rfl⟩, grown_trans HG.out (grown_of_below HB2.out _), HS.out.symm, fun h => absurd rfl h, fun _ => ⟨_, _, rfl, own_mono HO.out HG.out.size⟩⟩

/-- What Bytes leaves. -/
def BytesPost (w : World) (c : Nat) (A : Option Addr) (cap : Nat) (l : List UInt8) (k : Nat) (n : Int) (e : Ending) (w' : World) : Prop :=
  ∃ v, e = .returned (.tuple #[v, .int .i64 (cutE n (l.length - k))]) ∧ Cur w' c A cap l (if cutE n (l.length - k) = 0 then k + n.toNat else k) ∧ w.grownBy w' (some c) ∧ (cutE n (l.length - k) ≠ 0 → v = .slice none 0 0) ∧
    (cutE n (l.length - k) = 0 → ∃ A' c', v = .slice A' ((l.drop k).take n.toNat).length c' ∧ w'.ownsRow w.heap.size 5 1 (.slice A' ((l.drop k).take n.toNat).length c') ((l.drop k).take n.toNat).length (((l.drop k).take n.toNat).map byt))

set_option maxHeartbeats 400000 in
theorem bytes_any {w : World} {c : Nat} {A : Option Addr} {cap : Nat} {l : List UInt8} {k : Nat} (h : Cur w c A cap l k) (hs : l.length ≤ 281474976710000) (n : Int) :
    Calls Try.prog 41 #[.pointer (some ⟨c, 0, none⟩), .int .i64 n] w (BytesPost w c A cap l k n) := by
  have hmf : ∀ (fn : Fn) (first cap : Array Value) (w : World), (Instr.makeFunc fn first cap).run Try.prog w = .ok (.func fn first cap) w := fun _ _ _ _ => rfl
  have hcl := h.blk.lt
  obtain ⟨w0, hw0⟩ : ∃ w0, (w.alloc (.cells #[.pointer (some ⟨c, 0, none⟩)] 36)).alloc (.cells #[.int .i64 n] 3) = w0 := ⟨_, rfl⟩
  have hc0 : Cur w0 c A cap l k := by rw [← hw0]; exact (h.alloc _).alloc _
  have hT : ∀ W, Below w0.heap.size w0 W → W.heap.size = w0.heap.size + 3 →
      Calls Try.prog 62 #[.pointer (some ⟨w.heap.size, 0, none⟩), .pointer (some ⟨w.heap.size + 1, 0, none⟩)] W (TakePost W c A cap l (k + n.toNat) (OkBs ((l.drop k).take n.toNat) n (l.length - k))) := by
    intro W hb _
    refine bytes1_any (hc0.below hb) hs ?_ ?_
    · rw [hb.cell (by rw [← hw0]; simp; omega), ← hw0]; simp [go_sem]
    · rw [hb.cell (by rw [← hw0]; simp), ← hw0]; simp [go_sem]
  have HX := Lib.hid (read_bs_any hc0 _ _ _ hT)
  have HW := Lib.hid hw0
  clear h hT hw0 hc0 hs
  go_enter Try.func41, Try.ntmps41
  go_wp2_with fail
  rw [HW.out]
  refine HX.out.mono ?_
  rintro e w1 ⟨v, err, W, W1, rfl, hc, hg, hb, hWs, ⟨rfl, hbad, hok⟩, hsm, hsz⟩
  have hg0 : w.grownBy w1 (some c) := by
    rw [← HW.out] at hg
    exact grown_trans (World.grownBy_alloc w _ (some c)) (grown_trans (World.grownBy_alloc _ _ (some c)) hg)
  have hw0s : w.heap.size ≤ W.heap.size := by rw [hWs, ← HW.out]; simp; omega
  have hok' : cutE n (l.length - k) = 0 → ∃ A' c', v = .slice A' ((l.drop k).take n.toNat).length c' ∧ w1.ownsRow w.heap.size 5 1 (.slice A' ((l.drop k).take n.toNat).length c') ((l.drop k).take n.toNat).length (((l.drop k).take n.toNat).map byt) := by
    intro h0
    obtain ⟨A', c', hv, ho⟩ := hok h0
    exact ⟨A', c', hv, own_mono (own_same ho hsm) hw0s⟩
  have R := Lib.hid (And.intro hc (And.intro hg0 (And.intro hbad hok')))
  clear hc hg hb hWs hbad hok hsm hsz hg0 hw0s hok'
  go_wp2
  go_ret2
  exact ⟨_, rfl, R.out⟩

set_option maxHeartbeats 400000 in
theorem bytes_nil (w : World) (n : Int) : Calls Try.prog 41 #[.pointer none, .int .i64 n] w fun e w' => e = .returned (.tuple #[.slice none 0 0, .int .i64 1]) ∧ Below w.heap.size w w' := by
  have hmf : ∀ (fn : Fn) (first cap : Array Value) (w : World), (Instr.makeFunc fn first cap).run Try.prog w = .ok (.func fn first cap) w := fun _ _ _ _ => rfl
  go_enter Try.func41, Try.ntmps41
  go_wp2_with fail
  refine (read_bs_nil _ _).mono ?_
  rintro e w1 ⟨rfl, hb⟩
  go_wp2
  go_ret2
  exact ⟨rfl, (((Below.refl _ _).alloc (Nat.le_refl _) _).alloc (by simp) _).trans (hb.mono (by simp; omega))⟩
end

section
open Go.RowKit Go.Shelf
theorem new_n (w : World) (A : Option Addr) (l : List UInt8) (n cap : Nat) (hn : l.length = n) (hs : n ≤ 281474976710000) (hR : Rd w A l) : Calls Try.prog 19 #[.slice A n cap] w (NewC w l) := by
  subst hn
  exact new_any w A l cap hs hR

theorem below_on {B : Nat} {w a b : World} (h : Below B w a) (hB : B ≤ w.heap.size) (k : Below a.heap.size a b) : Below B w b := h.trans (k.mono (Nat.le_trans hB h.size))
end

section
open Go.RowKit Go.Shelf
set_option maxHeartbeats 400000 in
theorem peek_nil (w : World) (n : Int) : Calls Try.prog 39 #[.pointer none, .int .i64 n] w fun e w' => e = .returned (.slice none 0 0) ∧ w = w' := by
  go_enter Try.func39, Try.ntmps39
  go_wp2
  go_ret
  exact ⟨rfl, rfl⟩

set_option maxRecDepth 100000 in
set_option maxHeartbeats 1000000 in
theorem peek_any {w : World} {c : Nat} {A : Option Addr} {cap : Nat} {l : List UInt8} {k : Nat} (h : Cur w c A cap l k) (hs : l.length ≤ 281474976710000) (n : Int) :
    Calls Try.prog 39 #[.pointer (some ⟨c, 0, none⟩), .int .i64 n] w (Got w ((l.drop k).take n.toNat)) := by
  have hle := h.le
  have hcap := h.cap
  have h1 := h.blk.cell1
  have h2 := h.blk.cell0
  have H := Lib.hid h
  obtain ⟨M, hM⟩ : ∃ M, l.length = k + M := ⟨l.length - k, by omega⟩
  rw [hM] at hle hcap h2 hs
  have HM := Lib.hid hM
  clear h hM hle
  have HL : Hid (∀ d, Calls Try.prog 24 #[.pointer (some ⟨c, 0, none⟩)] (w.drewN d) fun e w' => e = .returned (.int .i64 (M : Int)) ∧ ∃ m, w' = (w.drewN d).drewN m) := by
    refine Lib.hid fun d => ?_
    have := left_any (H.out.drewN d).blk H.out.le H.out.small
    rw [HM.out, show (((k + M : Nat) : Int) - (k : Int)) = (M : Int) by omega] at this
    exact this
  obtain ⟨m, hm, hmM⟩ : ∃ m : Nat, (l.drop k).take n.toNat = (l.drop k).take m ∧ m ≤ M ∧ (n < 0 ∧ m = 0 ∨ 0 ≤ n ∧ n ≤ (M : Int) ∧ n = (m : Int) ∨ (M : Int) < n ∧ m = M) := by
    by_cases h1 : n < 0
    · exact ⟨0, by rw [show n.toNat = 0 by omega], by omega, .inl ⟨h1, rfl⟩⟩
    · by_cases h2 : n ≤ (M : Int)
      · exact ⟨n.toNat, rfl, by omega, .inr (.inl ⟨by omega, h2, by omega⟩)⟩
      · refine ⟨M, ?_, by omega, .inr (.inr ⟨by omega, rfl⟩)⟩
        have := HM.out
        rw [List.take_of_length_le (by simp; omega), List.take_of_length_le (by simp; omega)]
  rw [hm]
  obtain ⟨hmM, hcase⟩ := hmM
  have hsl : ((l.drop k).take m).length = m := by have := HM.out; simp; omega
  obtain ⟨s, hss⟩ : ∃ s, (l.drop k).take m = s := ⟨_, rfl⟩
  have HS := Lib.hid hss
  rw [hss] at hsl ⊢
  have HSL := Lib.hid hsl
  clear hm hss hsl
  rcases hcase with ⟨hn, rfl⟩ | ⟨hn, hn2, rfl⟩ | ⟨hn, rfl⟩
  · go_enter Try.func39, Try.ntmps39
    go_wp2
    go_quiet ((go_at_call 24; exact Calls.quiet_of (HL.out _)))
    go_wp2
    refine wp_region_still_tail 10 (by kernel_rfl) (by kernel_rfl) ?_
    obtain ⟨w2, hw2⟩ : ∃ w2, (w.drewN nq).drew = w2 := ⟨_, rfl⟩
    change wpStill _ _ (w.drewN nq).drew (fun a' => wpList _ _ _ _ a' (w.drewN nq).drew) _ _
    rw [hw2]
    have r1 : w2.cell? ⟨c, 1, none⟩ = some (.int .i64 (k : Int)) := by rw [← hw2]; exact h1
    have r2 : w2.cell? ⟨c, 0, none⟩ = some (.slice A (k + M) cap) := by rw [← hw2]; exact h2
    have r3 : Rd w2 A l := by rw [← hw2]; exact H.out.rd
    have r4 : Below w.heap.size w w2 := by rw [← hw2]; exact (below_drewN' (Below.refl _ _) nq).drew
    have R3 := Lib.hid r3
    have R4 := Lib.hid r4
    clear hw2 r3 r4 h1 h2
    have hkc : k ≤ cap := by omega
    have hkm : k + 0 ≤ cap := by omega
    simp only [List.take_succ_cons, List.take_zero, List.drop_succ_cons, List.drop_zero]
    by_cases hck : cap = k
    · repeat still_step
      refine wpStill_nil ?_
      have hm0 : 0 = 0 := by omega
      have hs0 : s = [] := List.eq_nil_of_length_eq_zero (HSL.out.trans hm0)
      have HE := Lib.hid (fun cc => extend_n w2 A s 0 cc 0 HSL.out (by omega) (by omega) (by omega) (by rw [hs0]; exact Rd.nil _ _))
      clear hs0 hm0
      go_wp2_with fail
      refine (HE.out _).mono ?_
      rintro e w3 ⟨rfl, hown, hb⟩
      have HO := Lib.hid hown
      have HB := Lib.hid hb
      clear hown hb
      go_wp2
      go_ret
      exact ⟨_, rfl, OwnB.mk (own_mono HO.out R4.out.size) (below_on R4.out (Nat.le_refl _) HB.out)⟩
    · repeat still_step
      refine wpStill_nil ?_
      have HE := Lib.hid (fun cc => extend_n w2 (A.map (·.add k)) s 0 cc 0 HSL.out (by omega) (by omega) (by omega) (by rw [← HS.out]; exact R3.out.cut k 0))
      go_wp2_with fail
      refine (HE.out _).mono ?_
      rintro e w3 ⟨rfl, hown, hb⟩
      have HO := Lib.hid hown
      have HB := Lib.hid hb
      clear hown hb
      go_wp2
      go_ret
      exact ⟨_, rfl, OwnB.mk (own_mono HO.out R4.out.size) (below_on R4.out (Nat.le_refl _) HB.out)⟩
  · go_enter Try.func39, Try.ntmps39
    go_wp2
    go_quiet ((go_at_call 24; exact Calls.quiet_of (HL.out _)))
    go_wp2
    refine wp_region_still_tail 10 (by kernel_rfl) (by kernel_rfl) ?_
    obtain ⟨w2, hw2⟩ : ∃ w2, (w.drewN nq).drew = w2 := ⟨_, rfl⟩
    change wpStill _ _ (w.drewN nq).drew (fun a' => wpList _ _ _ _ a' (w.drewN nq).drew) _ _
    rw [hw2]
    have r1 : w2.cell? ⟨c, 1, none⟩ = some (.int .i64 (k : Int)) := by rw [← hw2]; exact h1
    have r2 : w2.cell? ⟨c, 0, none⟩ = some (.slice A (k + M) cap) := by rw [← hw2]; exact h2
    have r3 : Rd w2 A l := by rw [← hw2]; exact H.out.rd
    have r4 : Below w.heap.size w w2 := by rw [← hw2]; exact (below_drewN' (Below.refl _ _) nq).drew
    have R3 := Lib.hid r3
    have R4 := Lib.hid r4
    clear hw2 r3 r4 h1 h2
    have hkc : k ≤ cap := by omega
    have hkm : k + m ≤ cap := by omega
    simp only [List.take_succ_cons, List.take_zero, List.drop_succ_cons, List.drop_zero]
    by_cases hck : cap = k
    · have x1 : IntKind.i64.wrap ((k : Int) + (m : Int)) = (k : Int) + (m : Int) := IntWalk.i64_in _ (by omega)
      have x2 : (0 : Int) ≤ (k : Int) + (m : Int) := by omega
      have x3 : ((k : Int) + (m : Int)).toNat = k + m := by omega
      have x4 : (k : Int) + (m : Int) ≤ (k : Int) := by omega
      repeat still_step
      refine wpStill_nil ?_
      clear x1 x2 x3 x4
      have hm0 : m = 0 := by omega
      have hs0 : s = [] := List.eq_nil_of_length_eq_zero (HSL.out.trans hm0)
      have HE := Lib.hid (fun cc => extend_n w2 A s m cc 0 HSL.out (by omega) (by omega) (by omega) (by rw [hs0]; exact Rd.nil _ _))
      clear hs0 hm0
      go_wp2_with fail
      refine (HE.out _).mono ?_
      rintro e w3 ⟨rfl, hown, hb⟩
      have HO := Lib.hid hown
      have HB := Lib.hid hb
      clear hown hb
      go_wp2
      go_ret
      exact ⟨_, rfl, OwnB.mk (own_mono HO.out R4.out.size) (below_on R4.out (Nat.le_refl _) HB.out)⟩
    · have x1 : IntKind.i64.wrap ((k : Int) + (m : Int)) = (k : Int) + (m : Int) := IntWalk.i64_in _ (by omega)
      have x2 : (0 : Int) ≤ (k : Int) + (m : Int) := by omega
      have x3 : ((k : Int) + (m : Int)).toNat = k + m := by omega
      have x4 : (k : Int) + (m : Int) ≤ (cap : Int) := by omega
      repeat still_step
      refine wpStill_nil ?_
      clear x1 x2 x3 x4
      have HE := Lib.hid (fun cc => extend_n w2 (A.map (·.add k)) s m cc 0 HSL.out (by omega) (by omega) (by omega) (by rw [← HS.out]; exact R3.out.cut k m))
      go_wp2_with fail
      refine (HE.out _).mono ?_
      rintro e w3 ⟨rfl, hown, hb⟩
      have HO := Lib.hid hown
      have HB := Lib.hid hb
      clear hown hb
      go_wp2
      go_ret
      exact ⟨_, rfl, OwnB.mk (own_mono HO.out R4.out.size) (below_on R4.out (Nat.le_refl _) HB.out)⟩
  · go_enter Try.func39, Try.ntmps39
    go_wp2
    go_quiet ((go_at_call 24; exact Calls.quiet_of (HL.out _)))
    go_wp2
    refine wp_region_still_tail 10 (by kernel_rfl) (by kernel_rfl) ?_
    obtain ⟨w2, hw2⟩ : ∃ w2, (w.drewN nq).drew = w2 := ⟨_, rfl⟩
    change wpStill _ _ (w.drewN nq).drew (fun a' => wpList _ _ _ _ a' (w.drewN nq).drew) _ _
    rw [hw2]
    have r1 : w2.cell? ⟨c, 1, none⟩ = some (.int .i64 (k : Int)) := by rw [← hw2]; exact h1
    have r2 : w2.cell? ⟨c, 0, none⟩ = some (.slice A (k + m) cap) := by rw [← hw2]; exact h2
    have r3 : Rd w2 A l := by rw [← hw2]; exact H.out.rd
    have r4 : Below w.heap.size w w2 := by rw [← hw2]; exact (below_drewN' (Below.refl _ _) nq).drew
    have R3 := Lib.hid r3
    have R4 := Lib.hid r4
    clear hw2 r3 r4 h1 h2
    have hkc : k ≤ cap := by omega
    have hkm : k + m ≤ cap := by omega
    simp only [List.take_succ_cons, List.take_zero, List.drop_succ_cons, List.drop_zero]
    by_cases hck : cap = k
    · have x1 : IntKind.i64.wrap ((k : Int) + (m : Int)) = (k : Int) + (m : Int) := IntWalk.i64_in _ (by omega)
      have x2 : (0 : Int) ≤ (k : Int) + (m : Int) := by omega
      have x3 : ((k : Int) + (m : Int)).toNat = k + m := by omega
      have x4 : (k : Int) + (m : Int) ≤ (k : Int) := by omega
      repeat still_step
      refine wpStill_nil ?_
      clear x1 x2 x3 x4
      have hm0 : m = 0 := by omega
      have hs0 : s = [] := List.eq_nil_of_length_eq_zero (HSL.out.trans hm0)
      have HE := Lib.hid (fun cc => extend_n w2 A s m cc 0 HSL.out (by omega) (by omega) (by omega) (by rw [hs0]; exact Rd.nil _ _))
      clear hs0 hm0
      go_wp2_with fail
      refine (HE.out _).mono ?_
      rintro e w3 ⟨rfl, hown, hb⟩
      have HO := Lib.hid hown
      have HB := Lib.hid hb
      clear hown hb
      go_wp2
      go_ret
      exact ⟨_, rfl, OwnB.mk (own_mono HO.out R4.out.size) (below_on R4.out (Nat.le_refl _) HB.out)⟩
    · have x1 : IntKind.i64.wrap ((k : Int) + (m : Int)) = (k : Int) + (m : Int) := IntWalk.i64_in _ (by omega)
      have x2 : (0 : Int) ≤ (k : Int) + (m : Int) := by omega
      have x3 : ((k : Int) + (m : Int)).toNat = k + m := by omega
      have x4 : (k : Int) + (m : Int) ≤ (cap : Int) := by omega
      repeat still_step
      refine wpStill_nil ?_
      clear x1 x2 x3 x4
      have HE := Lib.hid (fun cc => extend_n w2 (A.map (·.add k)) s m cc 0 HSL.out (by omega) (by omega) (by omega) (by rw [← HS.out]; exact R3.out.cut k m))
      go_wp2_with fail
      refine (HE.out _).mono ?_
      rintro e w3 ⟨rfl, hown, hb⟩
      have HO := Lib.hid hown
      have HB := Lib.hid hb
      clear hown hb
      go_wp2
      go_ret
      exact ⟨_, rfl, OwnB.mk (own_mono HO.out R4.out.size) (below_on R4.out (Nat.le_refl _) HB.out)⟩
end

end Go.Proofs.Ytpjbjbohbdlciaa.Nm
