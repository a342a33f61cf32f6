/-
  What the methods Bytes and Sub of a cursor do: the next n bytes in new memory, or a new cursor over them, and the cursor behind them; or the errors ErrArg (n is negative), ErrShort (too few bytes are left), ErrNil (a nil cursor), and the cursor where it was. Condition: at most 2.8 * 10^14 bytes.
-/
import Derived.Test.YtnbohkiimbooaaaKnown
import Derived.Test.YtnbohkiimbooaaaReadBs
import Derived.Test.YtnbohkiimbooaaaReadCu
namespace Go.Proofs.Ytnbohkiimbooaaa
open Go.RowKit Go.Shelf

/-- The error of a read of n bytes where m are left. -/
def cutE (n : Int) (m : Nat) : Int := if n < 0 then 2 else if (m : Int) < n then 3 else 0

theorem cutE_neg {n : Int} {m : Nat} (h : n < 0) : cutE n m = 2 := by rw [cutE, if_pos h]
theorem cutE_short {n : Int} {m : Nat} (h0 : 0 ≤ n) (h : (m : Int) < n) : cutE n m = 3 := by rw [cutE, if_neg (by omega), if_pos h]
theorem cutE_ok {n : Int} {m : Nat} (h0 : 0 ≤ n) (h : n ≤ (m : Int)) : cutE n m = 0 := by rw [cutE, if_neg (by omega), if_neg (by omega)]

/-- The inner step's answer for Bytes. -/
def OkBs (s : List UInt8) (n : Int) (m : Nat) (W : World) (v : Value) (err : Int) (W1 : World) : Prop :=
  err = cutE n m ∧ (err ≠ 0 → v = .slice none 0 0) ∧ (err = 0 → ∃ A c, v = .slice A s.length c ∧ W1.ownsRow W.heap.size 5 1 (.slice A s.length c) s.length (s.map byt))

theorem own_mono {w : World} {b b' : Nat} {e : TypeId} {v : Value} {n : Nat} {xs : List Value} (h : w.ownsRow b e 1 v n xs) (hb : b' ≤ b) : w.ownsRow b' e 1 v n xs := by
  refine ⟨h.1, ?_⟩
  rcases h.2 with h2 | ⟨g, c, cur, h1, h2, h3⟩
  · exact .inl h2
  · exact .inr ⟨g, c, cur, h1, by omega, h3⟩

theorem own_same {w w' : World} {b : Nat} {e : TypeId} {v : Value} {n : Nat} {xs : List Value} (h : w.ownsRow b e 1 v n xs) (hb : ∀ j, b ≤ j → w'.heap[j]? = w.heap[j]?) : w'.ownsRow b e 1 v n xs := by
  refine ⟨h.1, ?_⟩
  rcases h.2 with h2 | ⟨g, c, cur, h1, h2, h3, h4⟩
  · exact .inl h2
  · exact .inr ⟨g, c, cur, h1, h2, by rw [hb g h2]; exact h3, h4⟩

theorem extend_n (w : World) (A : Option Addr) (l : List UInt8) (n cap : Nat) (r : Int) (hn : l.length = n) (h0 : 0 ≤ r) (h1 : r ≤ 16) (hs : n ≤ 281474976710000) (hR : Rd w A l) :
    Calls Try.prog 35 #[.slice A n cap, .int .i64 r] w (Made w w.heap.size l (l.length + r.toNat)) := by
  subst hn
  exact extend_any w A l cap r h0 h1 hs hR

set_option maxHeartbeats 1000000 in
theorem bytes1_any {w : World} {c : Nat} {A : Option Addr} {cap : Nat} {l : List UInt8} {k B B' : Nat} {n : Int} (h : Cur w c A cap l k) (hs : l.length ≤ 281474976710000) (hB : w.cell? ⟨B, 0, none⟩ = some (.pointer (some ⟨c, 0, none⟩))) (hB' : w.cell? ⟨B', 0, none⟩ = some (.int .i64 n)) :
    Calls Try.prog 45 #[.pointer (some ⟨B, 0, none⟩), .pointer (some ⟨B', 0, none⟩)] w (TakePost w c A cap l (k + n.toNat) (OkBs ((l.drop k).take n.toNat) n (l.length - k))) := by
  have hle := h.le
  by_cases hneg : n < 0
  · have HX := Lib.hid (next_neg w (.pointer (some ⟨c, 0, none⟩)) n hneg)
    have H := Lib.hid h
    clear h
    go_enter Try.func45, Try.ntmps45
    go_wp2_with fail
    refine HX.out.mono ?_
    rintro e w1 ⟨rfl, rfl⟩
    go_wp2
    go_ret2
    exact ⟨_, _, rfl, ⟨k, H.out, fun h => by simp at h⟩, World.grownBy.refl _ _, (cutE_neg hneg).symm, fun _ => rfl, fun h => by simp at h⟩
  · by_cases hsh : ((l.length - k : Nat) : Int) < n
    · have HX := Lib.hid (next_short h n (by omega) (by omega))
      have H := Lib.hid h
      have HS := Lib.hid (cutE_short (by omega) hsh)
      clear h hsh hneg
      go_enter Try.func45, Try.ntmps45
      go_wp2_with fail
      refine HX.out.mono ?_
      rintro e w1 ⟨rfl, d, rfl⟩
      go_wp2
      go_ret2
      exact ⟨_, _, rfl, ⟨k, H.out.drewN d, fun h => by simp at h⟩, grown_drewN (World.grownBy.refl _ _) d, HS.out.symm, fun _ => rfl, fun h => by simp at h⟩
    · have HX := Lib.hid (next_ok h n (by omega) (by omega))
      have HS := Lib.hid (cutE_ok (n := n) (m := l.length - k) (by omega) (by omega))
      have hln : ((l.drop k).take n.toNat).length = n.toNat := by simp; omega
      have HL := Lib.hid hln
      have hsz : n.toNat ≤ 281474976710000 := by omega
      clear h hsh hneg hln
      obtain ⟨s, hss⟩ : ∃ s, (l.drop k).take n.toNat = s := ⟨_, rfl⟩
      have HSS := Lib.hid hss
      rw [hss] at HL ⊢
      clear hss
      go_enter Try.func45, Try.ntmps45
      go_wp2_with fail
      refine HX.out.mono ?_
      rintro e w1 ⟨A', c', rfl, hrd, hcur, hg⟩
      rw [HSS.out] at hrd
      have HE := Lib.hid (extend_n w1 A' s n.toNat c' 0 HL.out (by omega) (by omega) hsz hrd)
      have HC := Lib.hid hcur
      have HG := Lib.hid hg
      clear hrd hcur hg
      go_wp2_with fail
      refine HE.out.mono ?_
      rintro e w2 ⟨rfl, hown, hb⟩
      have HO := Lib.hid hown
      have HB2 := Lib.hid hb
      clear hown hb
      go_wp2
      go_ret2
      exact ⟨_, _, rfl, ⟨_, HC.out.below HB2.out, fun _ => rfl⟩, grown_trans HG.out (grown_of_below HB2.out _), HS.out.symm, fun h => absurd rfl h, fun _ => ⟨_, _, rfl, own_mono HO.out HG.out.size⟩⟩

/-- What Bytes leaves. -/
def BytesPost (w : World) (c : Nat) (A : Option Addr) (cap : Nat) (l : List UInt8) (k : Nat) (n : Int) (e : Ending) (w' : World) : Prop :=
  ∃ v, e = .returned (.tuple #[v, .int .i64 (cutE n (l.length - k))]) ∧ Cur w' c A cap l (if cutE n (l.length - k) = 0 then k + n.toNat else k) ∧ w.grownBy w' (some c) ∧ (cutE n (l.length - k) ≠ 0 → v = .slice none 0 0) ∧
    (cutE n (l.length - k) = 0 → ∃ A' c', v = .slice A' ((l.drop k).take n.toNat).length c' ∧ w'.ownsRow w.heap.size 5 1 (.slice A' ((l.drop k).take n.toNat).length c') ((l.drop k).take n.toNat).length (((l.drop k).take n.toNat).map byt))

set_option maxHeartbeats 400000 in
theorem bytes_any {w : World} {c : Nat} {A : Option Addr} {cap : Nat} {l : List UInt8} {k : Nat} (h : Cur w c A cap l k) (hs : l.length ≤ 281474976710000) (n : Int) :
    Calls Try.prog 24 #[.pointer (some ⟨c, 0, none⟩), .int .i64 n] w (BytesPost w c A cap l k n) := by
  have hmf : ∀ (fn : Fn) (first cap : Array Value) (w : World), (Instr.makeFunc fn first cap).run Try.prog w = .ok (.func fn first cap) w := fun _ _ _ _ => rfl
  have hcl := h.blk.lt
  obtain ⟨w0, hw0⟩ : ∃ w0, (w.alloc (.cells #[.pointer (some ⟨c, 0, none⟩)] 36)).alloc (.cells #[.int .i64 n] 3) = w0 := ⟨_, rfl⟩
  have hc0 : Cur w0 c A cap l k := by rw [← hw0]; exact (h.alloc _).alloc _
  have hT : ∀ W, Below w0.heap.size w0 W → W.heap.size = w0.heap.size + 3 →
      Calls Try.prog 45 #[.pointer (some ⟨w.heap.size, 0, none⟩), .pointer (some ⟨w.heap.size + 1, 0, none⟩)] W (TakePost W c A cap l (k + n.toNat) (OkBs ((l.drop k).take n.toNat) n (l.length - k))) := by
    intro W hb _
    refine bytes1_any (hc0.below hb) hs ?_ ?_
    · rw [hb.cell (by rw [← hw0]; simp; omega), ← hw0]; simp [go_sem]
    · rw [hb.cell (by rw [← hw0]; simp), ← hw0]; simp [go_sem]
  have HX := Lib.hid (read_bs_any hc0 _ _ _ hT)
  have HW := Lib.hid hw0
  clear h hT hw0 hc0 hs
  go_enter Try.func24, Try.ntmps24
  go_wp2_with fail
  rw [HW.out]
  refine HX.out.mono ?_
  rintro e w1 ⟨v, err, W, W1, rfl, hc, hg, hb, hWs, ⟨rfl, hbad, hok⟩, hsm, hsz⟩
  have hg0 : w.grownBy w1 (some c) := by
    rw [← HW.out] at hg
    exact grown_trans (World.grownBy_alloc w _ (some c)) (grown_trans (World.grownBy_alloc _ _ (some c)) hg)
  have hw0s : w.heap.size ≤ W.heap.size := by rw [hWs, ← HW.out]; simp; omega
  have hok' : cutE n (l.length - k) = 0 → ∃ A' c', v = .slice A' ((l.drop k).take n.toNat).length c' ∧ w1.ownsRow w.heap.size 5 1 (.slice A' ((l.drop k).take n.toNat).length c') ((l.drop k).take n.toNat).length (((l.drop k).take n.toNat).map byt) := by
    intro h0
    obtain ⟨A', c', hv, ho⟩ := hok h0
    exact ⟨A', c', hv, own_mono (own_same ho hsm) hw0s⟩
  have R := Lib.hid (And.intro hc (And.intro hg0 (And.intro hbad hok')))
  clear hc hg hb hWs hbad hok hsm hsz hg0 hw0s hok'
  go_wp2
  go_ret2
  exact ⟨_, rfl, R.out⟩

set_option maxHeartbeats 400000 in
theorem bytes_nil (w : World) (n : Int) : Calls Try.prog 24 #[.pointer none, .int .i64 n] w fun e w' => e = .returned (.tuple #[.slice none 0 0, .int .i64 1]) ∧ Below w.heap.size w w' := by
  have hmf : ∀ (fn : Fn) (first cap : Array Value) (w : World), (Instr.makeFunc fn first cap).run Try.prog w = .ok (.func fn first cap) w := fun _ _ _ _ => rfl
  go_enter Try.func24, Try.ntmps24
  go_wp2_with fail
  refine (read_bs_nil _ _).mono ?_
  rintro e w1 ⟨rfl, hb⟩
  go_wp2
  go_ret2
  exact ⟨rfl, (((Below.refl _ _).alloc (Nat.le_refl _) _).alloc (by simp) _).trans (hb.mono (by simp; omega))⟩

end Go.Proofs.Ytnbohkiimbooaaa
