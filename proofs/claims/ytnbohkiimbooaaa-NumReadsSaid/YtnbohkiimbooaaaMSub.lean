/-
  What the method Sub of a cursor does: a new, independent cursor over the next n bytes, and the cursor behind them; or the errors ErrArg, ErrShort, ErrNil, and the cursor where it was. Condition: at most 2.8 * 10^14 bytes.
-/
import Derived.Test.YtnbohkiimbooaaaMByt
import Derived.Test.YtnbohkiimbooaaaReadCu
namespace Go.Proofs.Ytnbohkiimbooaaa
open Go.RowKit Go.Shelf

/-- A new cursor over the bytes l, all of it in new memory. -/
def NewD (w : World) (l : List UInt8) (e : Ending) (w' : World) : Prop :=
  ∃ c A cap, e = .returned (.pointer (some ⟨c, 0, none⟩)) ∧ w.heap.size ≤ c ∧ (∀ ad, A = some ad → w.heap.size ≤ ad.block) ∧ Cur w' c A cap l 0 ∧ Below w.heap.size w w'

set_option maxHeartbeats 400000 in
theorem new_d (w : World) (A : Option Addr) (l : List UInt8) (n cap : Nat) (hn : l.length = n) (hs : l.length ≤ 281474976710000) (hR : Rd w A l) :
    Calls Try.prog 21 #[.slice A n cap] w (NewD w l) := by
  subst hn
  have HX := Lib.hid (extend_any w A l cap 0 (by omega) (by omega) (by omega) hR)
  go_enter Try.func21, Try.ntmps21
  go_wp2_with fail
  refine HX.out.mono ?_
  rintro e w1 ⟨rfl, hrow0, hb0⟩
  have HR := Lib.hid hrow0
  clear hrow0
  go_wp2
  go_ret
  have hsz := hb0.size
  refine ⟨w1.heap.size, some ⟨w.heap.size, 0, none⟩, l.length, rfl, hsz, fun ad h => by cases h; exact Nat.le_refl _, ⟨?_, ?_, Nat.zero_le _, Nat.le_refl _, by omega⟩, hb0.alloc hsz _⟩
  · exact heap_alloc_new w1 _
  · exact Rd.below (Rd.of_own HR.out) ((Below.refl _ _).alloc (Nat.le_refl _) _)

/-- A cursor of its own over the bytes s, all of it from block b on. -/
def SubC (b : Nat) (s : List UInt8) (v : Value) (w : World) : Prop :=
  ∃ c A cap, v = .pointer (some ⟨c, 0, none⟩) ∧ b ≤ c ∧ (∀ ad, A = some ad → b ≤ ad.block) ∧ Cur w c A cap s 0

theorem SubC.same {b : Nat} {s : List UInt8} {v : Value} {w w' : World} (h : SubC b s v w) (hb : ∀ j, b ≤ j → w'.heap[j]? = w.heap[j]?) : SubC b s v w' := by
  obtain ⟨c, A, cap, hv, hc, hA, hcur⟩ := h
  refine ⟨c, A, cap, hv, hc, hA, ⟨(hb c hc).trans hcur.blk, fun j x hj => ?_, hcur.le, hcur.cap, hcur.small⟩⟩
  obtain ⟨ad, he, hcell⟩ := hcur.rd j x hj
  refine ⟨ad, he, ?_⟩
  rw [← hcell]
  exact World.cell?_of_block (hb _ (by rw [addr_add_block]; exact hA ad he))

theorem SubC.mono {b b' : Nat} {s : List UInt8} {v : Value} {w : World} (h : SubC b s v w) (hb : b' ≤ b) : SubC b' s v w := by
  obtain ⟨c, A, cap, hv, hc, hA, hcur⟩ := h
  exact ⟨c, A, cap, hv, Nat.le_trans hb hc, fun ad h => Nat.le_trans hb (hA ad h), hcur⟩

/-- The inner step's answer for Sub. -/
def OkCu (s : List UInt8) (n : Int) (m : Nat) (W : World) (v : Value) (err : Int) (W1 : World) : Prop :=
  err = cutE n m ∧ (err ≠ 0 → v = .pointer none) ∧ (err = 0 → SubC W.heap.size s v W1)

set_option maxHeartbeats 1000000 in
theorem sub1_any {w : World} {c : Nat} {A : Option Addr} {cap : Nat} {l : List UInt8} {k B B' : Nat} {n : Int} (h : Cur w c A cap l k) (hs : l.length ≤ 281474976710000) (hB : w.cell? ⟨B, 0, none⟩ = some (.pointer (some ⟨c, 0, none⟩))) (hB' : w.cell? ⟨B', 0, none⟩ = some (.int .i64 n)) :
    Calls Try.prog 51 #[.pointer (some ⟨B, 0, none⟩), .pointer (some ⟨B', 0, none⟩)] w (TakePost w c A cap l (k + n.toNat) (OkCu ((l.drop k).take n.toNat) n (l.length - k))) := by
  have hle := h.le
  by_cases hneg : n < 0
  · have HX := Lib.hid (next_neg w (.pointer (some ⟨c, 0, none⟩)) n hneg)
    have H := Lib.hid h
    clear h
    go_enter Try.func51, Try.ntmps51
    go_wp2_with fail
    refine HX.out.mono ?_
    rintro e w1 ⟨rfl, rfl⟩
    go_wp2
    go_ret2
    exact ⟨_, _, rfl, ⟨k, H.out, fun h => by simp at h⟩, World.grownBy.refl _ _, (cutE_neg hneg).symm, fun _ => rfl, fun h => by simp at h⟩
  · by_cases hsh : ((l.length - k : Nat) : Int) < n
    · have HX := Lib.hid (next_short h n (by omega) (by omega))
      have H := Lib.hid h
      have HS := Lib.hid (cutE_short (by omega) hsh)
      clear h hsh hneg
      go_enter Try.func51, Try.ntmps51
      go_wp2_with fail
      refine HX.out.mono ?_
      rintro e w1 ⟨rfl, d, rfl⟩
      go_wp2
      go_ret2
      exact ⟨_, _, rfl, ⟨k, H.out.drewN d, fun h => by simp at h⟩, grown_drewN (World.grownBy.refl _ _) d, HS.out.symm, fun _ => rfl, fun h => by simp at h⟩
    · have HX := Lib.hid (next_ok h n (by omega) (by omega))
      have HS := Lib.hid (cutE_ok (n := n) (m := l.length - k) (by omega) (by omega))
      have hln : ((l.drop k).take n.toNat).length = n.toNat := by simp; omega
      have HL := Lib.hid hln
      have hsz : n.toNat ≤ 281474976710000 := by omega
      clear h hsh hneg hln
      obtain ⟨s, hss⟩ : ∃ s, (l.drop k).take n.toNat = s := ⟨_, rfl⟩
      have HSS := Lib.hid hss
      rw [hss] at HL ⊢
      clear hss
      go_enter Try.func51, Try.ntmps51
      go_wp2_with fail
      refine HX.out.mono ?_
      rintro e w1 ⟨A', c', rfl, hrd, hcur, hg⟩
      rw [HSS.out] at hrd
      have HE := Lib.hid (new_d w1 A' s n.toNat c' HL.out (by rw [HL.out]; exact hsz) hrd)
      have HC := Lib.hid hcur
      have HG := Lib.hid hg
      clear hrd hcur hg
      go_wp2_with fail
      refine HE.out.mono ?_
      rintro e w2 ⟨c2, A2, cap2, rfl, hc2, hA2, hcur2, hb⟩
      have HO : Hid (SubC w.heap.size s (.pointer (some ⟨c2, 0, none⟩)) w2) := Lib.hid ⟨c2, A2, cap2, rfl, Nat.le_trans HG.out.size hc2, fun ad h => Nat.le_trans HG.out.size (hA2 ad h), hcur2⟩
      have HB2 := Lib.hid hb
      clear hc2 hA2 hcur2 hb
      go_wp2
      go_ret2
      exact ⟨_, _, rfl, ⟨_, HC.out.below HB2.out, fun _ => rfl⟩, grown_trans HG.out (grown_of_below HB2.out _), HS.out.symm, fun h => absurd rfl h, fun _ => HO.out⟩

/-- What Sub leaves. -/
def SubPost (w : World) (c : Nat) (A : Option Addr) (cap : Nat) (l : List UInt8) (k : Nat) (n : Int) (e : Ending) (w' : World) : Prop :=
  ∃ v, e = .returned (.tuple #[v, .int .i64 (cutE n (l.length - k))]) ∧ Cur w' c A cap l (if cutE n (l.length - k) = 0 then k + n.toNat else k) ∧ w.grownBy w' (some c) ∧ (cutE n (l.length - k) ≠ 0 → v = .pointer none) ∧
    (cutE n (l.length - k) = 0 → SubC w.heap.size ((l.drop k).take n.toNat) v w')

set_option maxHeartbeats 400000 in
theorem sub_any {w : World} {c : Nat} {A : Option Addr} {cap : Nat} {l : List UInt8} {k : Nat} (h : Cur w c A cap l k) (hs : l.length ≤ 281474976710000) (n : Int) :
    Calls Try.prog 32 #[.pointer (some ⟨c, 0, none⟩), .int .i64 n] w (SubPost w c A cap l k n) := by
  have hmf : ∀ (fn : Fn) (first cap : Array Value) (w : World), (Instr.makeFunc fn first cap).run Try.prog w = .ok (.func fn first cap) w := fun _ _ _ _ => rfl
  have hcl := h.blk.lt
  obtain ⟨w0, hw0⟩ : ∃ w0, (w.alloc (.cells #[.pointer (some ⟨c, 0, none⟩)] 36)).alloc (.cells #[.int .i64 n] 3) = w0 := ⟨_, rfl⟩
  have hc0 : Cur w0 c A cap l k := by rw [← hw0]; exact (h.alloc _).alloc _
  have hT : ∀ W, Below w0.heap.size w0 W → W.heap.size = w0.heap.size + 3 →
      Calls Try.prog 51 #[.pointer (some ⟨w.heap.size, 0, none⟩), .pointer (some ⟨w.heap.size + 1, 0, none⟩)] W (TakePost W c A cap l (k + n.toNat) (OkCu ((l.drop k).take n.toNat) n (l.length - k))) := by
    intro W hb _
    refine sub1_any (hc0.below hb) hs ?_ ?_
    · rw [hb.cell (by rw [← hw0]; simp; omega), ← hw0]; simp [go_sem]
    · rw [hb.cell (by rw [← hw0]; simp), ← hw0]; simp [go_sem]
  have HX := Lib.hid (read_cu_any hc0 _ _ _ hT)
  have HW := Lib.hid hw0
  clear h hT hw0 hc0 hs
  go_enter Try.func32, Try.ntmps32
  go_wp2_with fail
  rw [HW.out]
  refine HX.out.mono ?_
  rintro e w1 ⟨v, err, W, W1, rfl, hc, hg, hb, hWs, ⟨rfl, hbad, hok⟩, hsm, hsz⟩
  have hg0 : w.grownBy w1 (some c) := by
    rw [← HW.out] at hg
    exact grown_trans (World.grownBy_alloc w _ (some c)) (grown_trans (World.grownBy_alloc _ _ (some c)) hg)
  have hw0s : w.heap.size ≤ W.heap.size := by rw [hWs, ← HW.out]; simp; omega
  have hok' : cutE n (l.length - k) = 0 → SubC w.heap.size ((l.drop k).take n.toNat) v w1 := fun h0 => ((hok h0).same hsm).mono hw0s
  have R := Lib.hid (And.intro hc (And.intro hg0 (And.intro hbad hok')))
  clear hc hg hb hWs hbad hok hsm hsz hg0 hw0s hok'
  go_wp2
  go_ret2
  exact ⟨_, rfl, R.out⟩

set_option maxHeartbeats 400000 in
theorem sub_nil (w : World) (n : Int) : Calls Try.prog 32 #[.pointer none, .int .i64 n] w fun e w' => e = .returned (.tuple #[.pointer none, .int .i64 1]) ∧ Below w.heap.size w w' := by
  have hmf : ∀ (fn : Fn) (first cap : Array Value) (w : World), (Instr.makeFunc fn first cap).run Try.prog w = .ok (.func fn first cap) w := fun _ _ _ _ => rfl
  go_enter Try.func32, Try.ntmps32
  go_wp2_with fail
  refine (read_cu_nil _ _).mono ?_
  rintro e w1 ⟨rfl, hb⟩
  go_wp2
  go_ret2
  exact ⟨rfl, (((Below.refl _ _).alloc (Nat.le_refl _) _).alloc (by simp) _).trans (hb.mono (by simp; omega))⟩

end Go.Proofs.Ytnbohkiimbooaaa
