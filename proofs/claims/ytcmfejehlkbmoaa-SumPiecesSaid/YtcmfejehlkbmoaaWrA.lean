/-
  What the method Write of Sum does where no bytes of an unfinished group wait: the whole groups are taken up, the rest is kept. Conditions: the slice does not lie in the Sum; fewer than 2^40 bytes in all.
-/
import Derived.Test.YtcmfejehlkbmoaaWri
namespace Go.Proofs.Ytcmfejehlkbmoaa
open Go.RowKit

theorem copy_all {w : World} {x h : Nat} {r : List UInt8} {s : Nat} (H : Sb w x h r s) (B : Option Addr) (m : List UInt8) (M c : Nat) (hM : m.length = M) (hM8 : M ≤ 8) (hR : Rd w B m) :
    ∃ w', (Builtin.copy_ #[22, 22] 3 #[.slice (some ⟨x, 1, none⟩) 8 8, .slice B M c]).run Try.prog w = .ok (.int .i64 (M : Int)) w' ∧
      Sb w' x h (m ++ r.drop M) s ∧ w.grownBy w' (some x) := by
  obtain ⟨w', h1, h2, h3⟩ := copy_rest H 0 (by omega) B m M c hM hR M (by omega)
  refine ⟨w', h1, ?_, h3⟩
  rw [List.take_zero, List.nil_append, Nat.zero_add, List.take_of_length_le (by omega)] at h2
  exact h2

theorem Sb.drewN {w : World} {x h : Nat} {r : List UInt8} {s : Nat} (H : Sb w x h r s) (d : Nat) : Sb (w.drewN d) x h r s := ⟨H.len, H.hlt, H.blk⟩

theorem off_rd' {w : World} {A : Option Addr} {l : List UInt8} {c n N : Nat} (h : Rd w A l) (hN : l.length = N) (hc : N ≤ c) : Rd w (off A c n) (l.drop n) := off_rd h (by omega)

set_option maxRecDepth 100000 in
set_option maxHeartbeats 4000000 in
theorem write_a {w : World} {x h : Nat} {r : List UInt8} {s : Nat} (H : Sb w x h r s) (B : Option Addr) (m : List UInt8) (M c : Nat) (hM : m.length = M) (hMc : M ≤ c) (hs : s + M ≤ 1099511627776) (hR : Rd w B m) (hB : m ≠ [] → ∀ ad, B = some ad → ad.block ≠ x) (hk : s % 8 = 0) :
    Calls Try.prog 15 #[.pointer (some ⟨x, 0, none⟩), .slice B M c] w fun e w' => e = .returned (.tuple #[]) ∧ w.grownBy w' (some x) ∧ Sb w' x (rn h m (M / 8)) (m.drop (8 * (M / 8)) ++ r.drop (M % 8)) (s + M) := by
  have c9 := H.cell9
  have f9 := H.free 9
  have KP := Lib.hid (kept_any H (by omega) 0 hk)
  have HMM := Lib.hid hM
  have H1 := H.set9 (s + M)
  have G1 := Lib.hid (grown_setCell w x 9 (.int .i64 ((s + M : Nat) : Int)))
  have R1 : Rd (w.setCell ⟨x, 9, none⟩ (.int .i64 ((s + M : Nat) : Int))) B m := rd_same hR fun hm ad e => Below.heap_setCell _ _ _ _ (hB hm ad e)
  obtain ⟨w1, hw1⟩ : ∃ w1, w.setCell ⟨x, 9, none⟩ (.int .i64 ((s + M : Nat) : Int)) = w1 := ⟨_, rfl⟩
  rw [hw1] at H1 G1 R1
  have hw1' : w.setCell ⟨x, 9, none⟩ (.int .i64 ((s : Int) + (M : Int))) = w1 := hw1
  have HR1 := Lib.hid R1
  obtain ⟨q, hq⟩ : ∃ q, 8 * (M / 8) = q := ⟨_, rfl⟩
  have hqM : q ≤ M := by omega
  have hq8 : grps q = M / 8 := by unfold grps; omega
  have keep : ∀ W2, w1.grownBy W2 (some x) → Rd W2 B m := fun W2 hg => by
    intro j v hj
    obtain ⟨ad, e, hc⟩ := HR1.out j v hj
    have hlt := cell_lt hc
    rw [addr_add_block] at hlt
    exact ⟨ad, e, by rw [← hc]; exact World.cell?_of_block (by rw [addr_add_block]; exact hg.block _ hlt (by simpa using hB (ne_of_get hj) ad e))⟩
  have KEEP := Lib.hid keep
  have FD := Lib.hid (feed_any B (m.take q) q c (by rw [List.length_take, hM]; omega) (by omega) (by omega) H1 (fun _ W2 hg _ => (by
    have := (keep W2 hg).take q
    rw [← List.map_take] at this
    exact this)))
  rw [hq8, rn_take h m (by omega)] at FD
  have t1 := fun W => slice_hi B M c q (by omega) W
  have t2 := fun W => slice_lo B M c q hqM W
  obtain ⟨z, hz⟩ : ∃ z, M - q = z := ⟨_, rfl⟩
  have HZ : Hid (M % 8 = z ∧ z ≤ 8 ∧ (m.drop q).length = z) := Lib.hid ⟨by omega, by omega, by rw [List.length_drop]; omega⟩
  have ROFF := Lib.hid (fun W (hg : w1.grownBy W (some x)) => off_rd' (n := q) (keep W hg) hM hMc)
  simp only [hz] at t2
  obtain ⟨BE, hBE⟩ : ∃ BE, off B c q = BE := ⟨_, rfl⟩
  simp only [hBE] at t2 ROFF
  have t3 := fun W => arr_all x W
  have hd0 : decide ((0 : Int) < 0) = false := by decide
  have eq0 : IntKind.i64.wrap (q : Int) = (q : Int) := IntWalk.i64_in _ (by omega)
  have eq1 : IntKind.i64.wrap ((M : Int) - (M : Int) % 8) = (q : Int) := by rw [show (M : Int) - (M : Int) % 8 = (q : Int) by omega]; exact eq0
  have eq2 : (M : Int) - (M : Int) % 8 = (q : Int) := by omega
  have HQ := Lib.hid hq
  clear H H1 R1 hR hB hw1 hM hk keep hq hz hBE hq8
  go_enter Try.func15, Try.ntmps15
  go_wp2_with (go_at_call 21; refine KP.out.mono ?_; rintro e w' ⟨rfl, rfl⟩)
  refine FD.out.mono ?_
  rintro e w3 ⟨rfl, hg3, hs3⟩
  have HG3 := Lib.hid hg3
  have H3 := Lib.hid hs3
  obtain ⟨w4, hcp, hs4, hg4⟩ := copy_all (H3.out.drewN 1) BE _ z (c - q) HZ.out.2.2 HZ.out.2.1 (ROFF.out (w3.drewN 1) (grown_drewN HG3.out 1))
  have HG4 := Lib.hid hg4
  have H4 := Lib.hid hs4
  have hcp' : Sem.run Try.prog (Builtin.copy_ #[22, 22] 3 #[.slice (some ⟨x, 1, none⟩) 8 8, .slice BE z (c - q)]) w3.drew = .ok (.int .i64 (z : Int)) w4 := hcp
  clear hg3 hs3 hs4 hg4 hcp
  go_wp2_with fail
  go_region
  go_wp2_with fail
  go_end0
  rw [HQ.out, HZ.out.1]
  exact ⟨rfl, grown_trans (grown_trans G1.out (grown_drewN HG3.out 1)) HG4.out, H4.out⟩

end Go.Proofs.Ytcmfejehlkbmoaa
