/-
  What the methods of Sum do at a Sum that has received some bytes, and what New and Of do. Nothing that was there has changed, but for the Sum that Write is called at. Conditions: fewer than 2^40 bytes in all; the slice given to Write does not lie in the Sum.
-/
import Derived.Test.YtcmfejehlkbmoaaWrC
namespace Go.Proofs.Ytcmfejehlkbmoaa
open Go.RowKit

theorem write_any {w : World} {x : Nat} {l : List UInt8} (H : Su w x l) (B : Option Addr) (m : List UInt8) (M c : Nat) (hM : m.length = M) (hMc : M ≤ c) (hs : l.length + M ≤ 1099511627776) (hR : Rd w B m) (hB : m ≠ [] → ∀ ad, B = some ad → ad.block ≠ x) :
    Calls Try.prog 15 #[.pointer (some ⟨x, 0, none⟩), .slice B M c] w fun e w' => e = .returned (.tuple #[]) ∧ w.grownBy w' (some x) ∧ Su w' x (l ++ m) := by
  obtain ⟨r, hb, hr⟩ := H
  have hrl := hb.len
  obtain ⟨q, hq⟩ : ∃ q, l.length / 8 = q := ⟨_, rfl⟩
  obtain ⟨k, hk⟩ : ∃ k, l.length % 8 = k := ⟨_, rfl⟩
  rw [hq] at hb hr
  rw [hk] at hr
  have hL : l.length = 8 * q + k := by omega
  have hk8 : k < 8 := by omega
  by_cases hk0 : k = 0
  · subst hk0
    refine (write_a hb B m M c hM hMc hs hR hB (by omega)).mono ?_
    rintro e w' ⟨he, hg, hb'⟩
    refine ⟨he, hg, m.drop (8 * (M / 8)) ++ r.drop (M % 8), ?_, ?_⟩
    · rw [List.length_append, hM, show (l.length + M) / 8 = q + M / 8 by omega, rn_shift m (by omega)]
      exact hb'
    · rw [List.length_append, hM, show (l.length + M) / 8 = q + M / 8 by omega, show 8 * (q + M / 8) = l.length + 8 * (M / 8) by omega, List.drop_length_add_append,
        List.take_append_of_le_length (by rw [List.length_drop]; omega), List.take_of_length_le (by rw [List.length_drop]; omega)]
  · by_cases hkM : k + M < 8
    · refine (write_b hb B m M c hM hs hR hB k hk (by omega) hkM).mono ?_
      rintro e w' ⟨he, hg, hb'⟩
      refine ⟨he, hg, r.take k ++ (m ++ r.drop (k + M)), ?_, ?_⟩
      · rw [List.length_append, hM, show (l.length + M) / 8 = q by omega, rn_append m K3 (by omega)]
        exact hb'
      · rw [List.length_append, hM, show (l.length + M) / 8 = q by omega, show (l.length + M) % 8 = k + M by omega, ← List.append_assoc,
          List.take_append_of_le_length (by rw [List.length_append, List.length_take]; omega), List.take_of_length_le (by rw [List.length_append, List.length_take]; omega), hr, List.drop_append_of_le_length (by omega)]
    · obtain ⟨n, hn⟩ : ∃ n, k + n = 8 := ⟨8 - k, by omega⟩
      obtain ⟨N, hN⟩ : ∃ N, M - n = N := ⟨_, rfl⟩
      refine (write_c hb B m M c hM hMc hs hR hB k n hk (by omega) hn (by omega) N hN).mono ?_
      rintro e w' ⟨he, hg, hb'⟩
      have eg : r.take k ++ m.take n = l.drop (8 * q) ++ m.take n := by rw [hr]
      have e1 : l ++ m = (l ++ m.take n) ++ m.drop n := by rw [List.append_assoc, List.take_append_drop]
      have e2 : l ++ m.take n = l.take (8 * q) ++ (l.drop (8 * q) ++ m.take n) := by rw [← List.append_assoc, List.take_append_drop]
      have h1 : (l ++ m.take n).length = 8 * (q + 1) := by rw [List.length_append, List.length_take]; omega
      have h2 : rn K3 (l ++ m.take n) (q + 1) = rn (rn K3 l q) (l.drop (8 * q) ++ m.take n) 1 := by
        rw [e2, rn_shift _ (by rw [List.length_take]; omega), rn_take K3 l (Nat.le_refl _)]
      have h3 : rn K3 (l ++ m) (q + 1 + N / 8) = rn (rn (rn K3 l q) (r.take k ++ m.take n) 1) (m.drop n) (N / 8) := by
        rw [e1, rn_shift _ h1, h2, eg]
      refine ⟨he, hg, (m.drop n).drop (8 * (N / 8)) ++ (r.take k ++ m.take n).drop (N % 8), ?_, ?_⟩
      · rw [List.length_append, hM, show (l.length + M) / 8 = q + 1 + N / 8 by omega, h3]
        exact hb'
      · rw [List.length_append, hM, show (l.length + M) / 8 = q + 1 + N / 8 by omega, show (l.length + M) % 8 = N % 8 by omega, show 8 * (q + 1 + N / 8) = (l ++ m.take n).length + 8 * (N / 8) by omega]
        conv => rhs; rw [e1]
        rw [List.drop_length_add_append,
          List.take_append_of_le_length (by rw [List.length_drop, List.length_drop]; omega), List.take_of_length_le (by rw [List.length_drop, List.length_drop]; omega)]

set_option maxHeartbeats 400000 in
theorem write_nil (w : World) (B : Option Addr) (M c : Nat) :
    Calls Try.prog 15 #[.pointer none, .slice B M c] w fun e w' => e = .returned (.tuple #[]) ∧ w' = w := by
  go_enter Try.func15, Try.ntmps15
  go_wp2
  refine bodyPost_ret (results_none rfl _ _ _) rfl ?_
  exact ⟨rfl, rfl⟩

set_option maxHeartbeats 400000 in
theorem len_any {w : World} {x : Nat} {l : List UInt8} (H : Su w x l) :
    Calls Try.prog 18 #[.pointer (some ⟨x, 0, none⟩)] w fun e w' => e = .returned (.int .i64 (l.length : Int)) ∧ w' = w := by
  obtain ⟨r, hb, _⟩ := H
  have c9 := hb.cell9
  clear hb
  go_enter Try.func18, Try.ntmps18
  go_wp2
  go_ret
  exact ⟨rfl, rfl⟩

set_option maxHeartbeats 400000 in
theorem len_nil (w : World) :
    Calls Try.prog 18 #[.pointer none] w fun e w' => e = .returned (.int .i64 0) ∧ w' = w := by
  go_enter Try.func18, Try.ntmps18
  go_wp2
  go_ret
  exact ⟨rfl, rfl⟩

set_option maxHeartbeats 400000 in
theorem sum_nil (w : World) :
    Calls Try.prog 16 #[.pointer none] w fun e w' => e = .returned (.int .u64 0) ∧ w' = w := by
  go_enter Try.func16, Try.ntmps16
  go_wp2
  go_ret
  exact ⟨rfl, rfl⟩

set_option maxHeartbeats 400000 in
theorem copy_nil (w : World) :
    Calls Try.prog 19 #[.pointer none] w fun e w' => e = .returned (.pointer none) ∧ w' = w := by
  go_enter Try.func19, Try.ntmps19
  go_wp2
  go_ret
  exact ⟨rfl, rfl⟩

theorem len8 {r : List UInt8} (h : r.length = 8) : ∃ b0 b1 b2 b3 b4 b5 b6 b7, r = [b0, b1, b2, b3, b4, b5, b6, b7] := by
  rcases r with _ | ⟨b0, _ | ⟨b1, _ | ⟨b2, _ | ⟨b3, _ | ⟨b4, _ | ⟨b5, _ | ⟨b6, _ | ⟨b7, _ | ⟨b8, r⟩⟩⟩⟩⟩⟩⟩⟩⟩ <;> simp at h
  exact ⟨b0, b1, b2, b3, b4, b5, b6, b7, rfl⟩

set_option maxHeartbeats 1000000 in
theorem copy_sb {w : World} {x h : Nat} {r : List UInt8} {s : Nat} (H : Sb w x h r s) :
    Calls Try.prog 19 #[.pointer (some ⟨x, 0, none⟩)] w fun e w' => e = .returned (.pointer (some ⟨w.heap.size, 0, none⟩)) ∧ Below w.heap.size w w' ∧ w'.heap.size = w.heap.size + 1 ∧ Sb w' w.heap.size h r s := by
  obtain ⟨b0, b1, b2, b3, b4, b5, b6, b7, rfl⟩ := len8 H.len
  have c0 := H.cell0
  have c1 := H.cellr (j := 0) rfl
  have c2 := H.cellr (j := 1) rfl
  have c3 := H.cellr (j := 2) rfl
  have c4 := H.cellr (j := 3) rfl
  have c5 := H.cellr (j := 4) rfl
  have c6 := H.cellr (j := 5) rfl
  have c7 := H.cellr (j := 6) rfl
  have c8 := H.cellr (j := 7) rfl
  have c9 := H.cell9
  have HH := Lib.hid H
  clear H
  simp only [Nat.reduceAdd] at c1 c2 c3 c4 c5 c6 c7 c8
  go_enter Try.func19, Try.ntmps19
  go_wp2
  go_ret
  exact ⟨rfl, (Below.refl _ _).alloc (Nat.le_refl _) _, World.size_alloc _ _, rfl, HH.out.hlt, World.alloc_heap_new _ _⟩

theorem copy_any {w : World} {x : Nat} {l : List UInt8} (H : Su w x l) :
    Calls Try.prog 19 #[.pointer (some ⟨x, 0, none⟩)] w fun e w' => e = .returned (.pointer (some ⟨w.heap.size, 0, none⟩)) ∧ Below w.heap.size w w' ∧ w'.heap.size = w.heap.size + 1 ∧ Su w' w.heap.size l := by
  obtain ⟨r, hb, hr⟩ := H
  refine (copy_sb hb).mono ?_
  rintro e w' ⟨h1, h2, h3, h4⟩
  exact ⟨h1, h2, h3, r, h4, hr⟩

theorem end_facts {h n : Nat} (hh : h < M64) (hn : n < M64) :
    bits BinOp.xor IntKind.u64 (h : Int) (n : Int) = ((h ^^^ n : Nat) : Int) ∧ (∀ a, a < M64 → bits BinOp.xor IntKind.u64 (a : Int) ((a : Int) / 536870912) = ((mix29 a : Nat) : Int)) ∧
      (∀ a : Nat, IntKind.u64.wrap ((a : Int) * 11400714819323198485) = ((a * K1 % M64 : Nat) : Int)) ∧ (∀ a, a < M64 → bits BinOp.xor IntKind.u64 (a : Int) ((a : Int) / 4294967296) = ((mix32 a : Nat) : Int)) := by
  refine ⟨u64_xor_nat _ _ hh hn, fun a ha => ?_, fun a => by rw [wrap_u64_mod]; unfold K1 M64; omega, fun a ha => ?_⟩
  · have := u64_xor_nat a (a / 536870912) ha (Nat.lt_of_le_of_lt (Nat.div_le_self _ _) ha)
    rw [Int.natCast_ediv] at this
    exact this
  · have := u64_xor_nat a (a / 4294967296) ha (Nat.lt_of_le_of_lt (Nat.div_le_self _ _) ha)
    rw [Int.natCast_ediv] at this
    exact this

set_option maxRecDepth 100000 in
set_option maxHeartbeats 2000000 in
theorem sum_any {w : World} {x : Nat} {l : List UInt8} (H : Su w x l) (hl : l.length ≤ 1099511627776) :
    Calls Try.prog 16 #[.pointer (some ⟨x, 0, none⟩)] w fun e w' => e = .returned (.int .u64 (chk l : Int)) ∧ Below w.heap.size w w' := by
  obtain ⟨r, hb, hr⟩ := H
  obtain ⟨b0, b1, b2, b3, b4, b5, b6, b7, rfl⟩ := len8 hb.len
  obtain ⟨L, hL⟩ : ∃ L, l.length = L := ⟨_, rfl⟩
  obtain ⟨k, hk⟩ : ∃ k, L % 8 = k := ⟨_, rfl⟩
  obtain ⟨q, hq⟩ : ∃ q, L / 8 = q := ⟨_, rfl⟩
  rw [hL] at hb hr hl
  rw [hq] at hb hr
  rw [hk] at hr
  obtain ⟨h, hh⟩ : ∃ h, rn K3 l q = h := ⟨_, rfl⟩
  rw [hh] at hb
  have c0 := hb.cell0
  have c1 := hb.cellr (j := 0) rfl
  have c2 := hb.cellr (j := 1) rfl
  have c3 := hb.cellr (j := 2) rfl
  have c4 := hb.cellr (j := 3) rfl
  have c5 := hb.cellr (j := 4) rfl
  have c6 := hb.cellr (j := 5) rfl
  have c7 := hb.cellr (j := 6) rfl
  have c8 := hb.cellr (j := 7) rfl
  have c9 := hb.cell9
  simp only [Nat.reduceAdd] at c1 c2 c3 c4 c5 c6 c7 c8
  have HB := Lib.hid hb
  -- the state behind all groups
  obtain ⟨g, hg⟩ : ∃ g, l.drop (8 * q) = g := ⟨_, rfl⟩
  have hgl : g.length = k := by rw [← hg, List.length_drop]; omega
  rw [hg] at hr
  have HE : Hid (chk l = fin (rn h g (grps k)) L) := Lib.hid (by
    unfold chk
    have e : l = l.take (8 * q) ++ g := by rw [← hg, List.take_append_drop]
    have e2 : grps l.length = q + grps k := by unfold grps; omega
    rw [e2, hL]
    conv => lhs; rw [e]
    rw [rn_shift g (by rw [List.length_take]; omega), rn_take K3 l (Nat.le_refl _), hh])
  have hh2 : rn h g (grps k) < M64 := rn_lt hb.hlt _ _
  obtain ⟨h2, hh2e⟩ : ∃ h2, rn h g (grps k) = h2 := ⟨_, rfl⟩
  rw [hh2e] at hh2 HE
  obtain ⟨f1, F2, F3, F4⟩ := end_facts hh2 (show L < M64 by unfold M64; omega)
  have f0 := xor_k3 hh2
  have hae : h2 ^^^ L < M64 := xor_lt64 hh2 (by unfold M64; omega)
  obtain ⟨a, ha⟩ : ∃ a, h2 ^^^ L = a := ⟨_, rfl⟩
  rw [ha] at f1 hae
  have f2 := F2 a hae
  have hbe := mix29_lt hae
  obtain ⟨b, hbb⟩ : ∃ b, mix29 a = b := ⟨_, rfl⟩
  rw [hbb] at f2
  have f3 := F3 b
  have hce : b * K1 % M64 < M64 := Nat.mod_lt _ (by decide)
  obtain ⟨c, hc⟩ : ∃ c, b * K1 % M64 = c := ⟨_, rfl⟩
  rw [hc] at f3 hce
  have f4 := F4 c hce
  have HF : Hid (chk l = mix32 c) := Lib.hid (by rw [HE.out, fin, ha, hbb, hc])
  obtain ⟨d, hd⟩ : ∃ d, mix32 c = d := ⟨_, rfl⟩
  rw [hd] at f4 HF
  have fl : IntKind.u64.wrap (L : Int) = (L : Int) := IntWalk.u64_in _ (by omega)
  have HRT := Lib.hid hr
  have HGL := Lib.hid hgl
  have hk8 : k ≤ 8 := by omega
  have HH2 := Lib.hid hh2e
  have HK := Lib.hid hk
  have t1 := fun W => arr_hi w.heap.size k hk8 W
  obtain ⟨m, hm⟩ : ∃ m, h ^^^ K3 = m := ⟨_, rfl⟩
  have HM := Lib.hid hm
  rw [hm] at c0
  obtain ⟨m2, hm2⟩ : ∃ m2, h2 ^^^ K3 = m2 := ⟨_, rfl⟩
  have HM2 := Lib.hid hm2
  rw [hm2] at f0
  clear hb hr hL hk hq hh hg hgl hh2 hh2e hae ha hbe hbb hce hc hd hm hm2 HE F2 F3 F4
  go_enter Try.func16, Try.ntmps16
  go_wp2_with fail
  have H1 : Sb (w.alloc (.cells #[.int .u64 (m : Int), byt b0, byt b1, byt b2, byt b3, byt b4, byt b5, byt b6, byt b7, .int .i64 (L : Int)] 44)) w.heap.size h [b0, b1, b2, b3, b4, b5, b6, b7] L := by
    rw [← HM.out]
    exact ⟨rfl, HB.out.hlt, World.alloc_heap_new _ _⟩
  have B1 : Below w.heap.size w (w.alloc (.cells #[.int .u64 (m : Int), byt b0, byt b1, byt b2, byt b3, byt b4, byt b5, byt b6, byt b7, .int .i64 (L : Int)] 44)) := (Below.refl _ _).alloc (Nat.le_refl _) _
  obtain ⟨w1, hw1⟩ : ∃ w1, w.alloc (.cells #[.int .u64 (m : Int), byt b0, byt b1, byt b2, byt b3, byt b4, byt b5, byt b6, byt b7, .int .i64 (L : Int)] 44) = w1 := ⟨_, rfl⟩
  rw [hw1] at H1 B1
  simp only [byt] at hw1
  rw [hw1]
  have HB1 := Lib.hid B1
  have FD := Lib.hid (feed_any (some ⟨w.heap.size, 1, none⟩) g k 8 HGL.out (by omega) (by omega) H1 (fun _ W2 _ hb => by
    have := hb.rd.take k
    rw [← List.map_take, HRT.out] at this
    exact this))
  rw [HH2.out] at FD
  refine (kept_any H1 (by omega) k HK.out).mono ?_
  rintro e w2 ⟨rfl, rfl⟩
  clear H1 B1 hw1 c0 c1 c2 c3 c4 c5 c6 c7 c8 c9
  go_wp2_with fail
  refine FD.out.mono ?_
  rintro e w3 ⟨rfl, hg3, hs3⟩
  have k0 := hs3.cell0
  have k9 := hs3.cell9
  rw [HM2.out] at k0
  have HG3 := Lib.hid hg3
  clear hg3 hs3
  go_wp2_with fail
  go_ret
  refine ⟨by rw [HF.out]; rfl, HB1.out.grown HG3.out HB1.out.size (fun k e => by cases e; exact Nat.le_refl _)⟩

end Go.Proofs.Ytcmfejehlkbmoaa
