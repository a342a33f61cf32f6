/-
  What the method Write of Sum does where bytes of an unfinished group wait and the new bytes fill it. Conditions: the slice does not lie in the Sum; fewer than 2^40 bytes in all.
-/
import Derived.Test.YtcmfejehlkbmoaaWrA
namespace Go.Proofs.Ytcmfejehlkbmoaa
open Go.RowKit

theorem Sb.rd {w : World} {x h : Nat} {r : List UInt8} {s : Nat} (H : Sb w x h r s) : Rd w (some ⟨x, 1, none⟩) r := by
  intro j v hj
  rw [List.getElem?_map] at hj
  obtain ⟨b, hb, rfl⟩ := Option.map_eq_some_iff.1 hj
  refine ⟨_, rfl, ?_⟩
  have e : (Addr.add ⟨x, 1, none⟩ j) = ⟨x, 1 + j, none⟩ := by
    unfold Addr.add
    by_cases h0 : j = 0
    · rw [if_pos h0, h0]
    · rw [if_neg h0]
  rw [e]
  exact H.cellr hb

set_option maxRecDepth 100000 in
set_option maxHeartbeats 4000000 in
theorem write_c {w : World} {x h : Nat} {r : List UInt8} {s : Nat} (H : Sb w x h r s) (B : Option Addr) (m : List UInt8) (M c : Nat) (hM : m.length = M) (hMc : M ≤ c) (hs : s + M ≤ 1099511627776) (hR : Rd w B m) (hB : m ≠ [] → ∀ ad, B = some ad → ad.block ≠ x) (k n : Nat) (hk : s % 8 = k) (hk0 : 0 < k) (hkn : k + n = 8) (hn : n ≤ M) (N : Nat) (hN : M - n = N) :
    Calls Try.prog 15 #[.pointer (some ⟨x, 0, none⟩), .slice B M c] w fun e w' => e = .returned (.tuple #[]) ∧ w.grownBy w' (some x) ∧
      Sb w' x (rn (rn h (r.take k ++ m.take n) 1) (m.drop n) (N / 8)) ((m.drop n).drop (8 * (N / 8)) ++ (r.take k ++ m.take n).drop (N % 8)) (s + M) := by
  have c9 := H.cell9
  have f9 := H.free 9
  have KP := Lib.hid (kept_any H (by omega) k hk)
  have H1 := H.set9 (s + M)
  have G1 := Lib.hid (grown_setCell w x 9 (.int .i64 ((s + M : Nat) : Int)))
  have R1 : Rd (w.setCell ⟨x, 9, none⟩ (.int .i64 ((s + M : Nat) : Int))) B m := rd_same hR fun hm ad e => Below.heap_setCell _ _ _ _ (hB hm ad e)
  obtain ⟨w1, hw1⟩ : ∃ w1, w.setCell ⟨x, 9, none⟩ (.int .i64 ((s + M : Nat) : Int)) = w1 := ⟨_, rfl⟩
  rw [hw1] at H1 G1 R1
  have hw1' : w.setCell ⟨x, 9, none⟩ (.int .i64 ((s : Int) + (M : Int))) = w1 := hw1
  have keep : ∀ W2, w1.grownBy W2 (some x) → Rd W2 B m := fun W2 hg => by
    intro j v hj
    obtain ⟨ad, e, hc⟩ := R1 j v hj
    have hlt := cell_lt hc
    rw [addr_add_block] at hlt
    exact ⟨ad, e, by rw [← hc]; exact World.cell?_of_block (by rw [addr_add_block]; exact hg.block _ hlt (by simpa using hB (ne_of_get hj) ad e))⟩
  obtain ⟨w2, hc, hs2, hg2⟩ := copy_rest H1 k (by omega) B m M c hM R1 n (by omega)
  have hrl := H.len
  rw [List.drop_of_length_le (by omega : r.length ≤ k + n), List.append_nil] at hs2
  obtain ⟨r2, hr2⟩ : ∃ r2, r.take k ++ m.take n = r2 := ⟨_, rfl⟩
  rw [hr2] at hs2 ⊢
  have s1 := fun W => arr_lo x k (by omega) W
  have s2 := fun W => arr_all x W
  have HG2 := Lib.hid hg2
  have FA := Lib.hid (feed_any (some ⟨x, 1, none⟩) r2 8 8 hs2.len (by omega) (by omega) hs2 (fun _ W2 _ hb => hb.rd))
  have g81 : grps 8 = 1 := rfl
  rw [g81] at FA
  have s3 := fun W => slice_lo B M c n hn W
  simp only [hN] at s3
  obtain ⟨BT, hBT⟩ : ∃ BT, off B c n = BT := ⟨_, rfl⟩
  simp only [hBT] at s3
  have keep2 : ∀ W2, w2.grownBy W2 (some x) → Rd W2 BT (m.drop n) := fun W2 hg => by
    rw [← hBT]
    exact off_rd' (keep W2 (grown_trans hg2 hg)) hM hMc
  obtain ⟨m2, hm2⟩ : ∃ m2, m.drop n = m2 := ⟨_, rfl⟩
  have hl2 : m2.length = N := by rw [← hm2, List.length_drop]; omega
  rw [hm2] at keep2 ⊢
  obtain ⟨cT, hcT⟩ : ∃ cT, c - n = cT := ⟨_, rfl⟩
  simp only [hcT] at s3
  have hNc : N ≤ cT := by omega
  obtain ⟨q, hq⟩ : ∃ q, 8 * (N / 8) = q := ⟨_, rfl⟩
  have hqN : q ≤ N := by omega
  have hq8 : grps q = N / 8 := by unfold grps; omega
  have FD := Lib.hid (fun (W : World) (hg : w2.grownBy W (some x)) (hb : Sb W x (rn h r2 1) r2 (s + M)) => feed_any BT (m2.take q) q cT (by rw [List.length_take, hl2]; omega) (by omega) (by omega) hb (fun _ W2 hg' _ => (by
    have := (keep2 W2 (grown_trans hg hg')).take q
    rw [← List.map_take] at this
    exact this)))
  rw [hq8, rn_take _ m2 (by omega)] at FD
  have t1 := fun W => slice_hi BT N cT q (by omega) W
  have t2 := fun W => slice_lo BT N cT q hqN W
  obtain ⟨z, hz⟩ : ∃ z, N - q = z := ⟨_, rfl⟩
  have HZ : Hid (N % 8 = z ∧ z ≤ 8 ∧ (m2.drop q).length = z) := Lib.hid ⟨by omega, by omega, by rw [List.length_drop]; omega⟩
  have ROFF := Lib.hid (fun W (hg : w2.grownBy W (some x)) => off_rd' (n := q) (keep2 W hg) hl2 hNc)
  simp only [hz] at t2
  obtain ⟨BE, hBE⟩ : ∃ BE, off BT cT q = BE := ⟨_, rfl⟩
  simp only [hBE] at t2 ROFF
  have hd0 : decide ((0 : Int) < (k : Int)) = true := decide_eq_true (by omega)
  have hd1 : decide ((k : Int) + (n : Int) < 8) = false := decide_eq_false (by omega)
  have eq0 : IntKind.i64.wrap (q : Int) = (q : Int) := IntWalk.i64_in _ (by omega)
  have eq1 : IntKind.i64.wrap ((N : Int) - (N : Int) % 8) = (q : Int) := by rw [show (N : Int) - (N : Int) % 8 = (q : Int) by omega]; exact eq0
  have eq2 : (N : Int) - (N : Int) % 8 = (q : Int) := by omega
  have hNs : N ≤ 1099511627776 := by omega
  have hks : k ≤ 8 := by omega
  have hns : n ≤ 8 := by omega
  have HQ := Lib.hid hq
  clear H H1 R1 hR hB hw1 hM hk keep keep2 hq hz hBE hq8 hs2 hg2 hr2 hBT hm2 hcT hl2 hN hkn hrl g81 hn
  go_enter Try.func15, Try.ntmps15
  go_wp2_with (go_at_call 21; refine KP.out.mono ?_; rintro e w' ⟨rfl, rfl⟩)
  refine FA.out.mono ?_
  rintro e w5 ⟨rfl, hg5, hs5⟩
  have HG5 := Lib.hid hg5
  have HF := Lib.hid (FD.out w5 hg5 hs5)
  clear hg5 hs5 FD
  go_wp2_with fail
  refine HF.out.mono ?_
  rintro e w3 ⟨rfl, hg3, hs3⟩
  have HG3 := Lib.hid (grown_trans HG5.out hg3)
  have H3 := Lib.hid hs3
  obtain ⟨w4, hcp, hs4, hg4⟩ := copy_all (H3.out.drewN 1) BE _ z (cT - q) HZ.out.2.2 HZ.out.2.1 (ROFF.out (w3.drewN 1) (grown_drewN HG3.out 1))
  have HG4 := Lib.hid hg4
  have H4 := Lib.hid hs4
  have hcp' : Sem.run Try.prog (Builtin.copy_ #[22, 22] 3 #[.slice (some ⟨x, 1, none⟩) 8 8, .slice BE z (cT - q)]) w3.drew = .ok (.int .i64 (z : Int)) w4 := hcp
  clear hg3 hs3 hs4 hg4 hcp hc
  go_wp2_with fail
  go_region
  go_wp2_with fail
  go_end0
  rw [HQ.out, HZ.out.1]
  exact ⟨rfl, grown_trans (grown_trans (grown_trans G1.out HG2.out) (grown_drewN HG3.out 1)) HG4.out, H4.out⟩

end Go.Proofs.Ytcmfejehlkbmoaa
