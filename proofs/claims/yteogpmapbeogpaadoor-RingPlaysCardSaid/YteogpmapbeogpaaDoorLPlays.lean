/-
  RingPlays returns true for every input, and each argument reads afterwards as it read before. Condition: the package's sizes are what the program's text lays.
-/
import Derived.Deep.RegionLaw
import Derived.Deep.CutRange
import Derived.Test.YteogpmapbeogpaaDoorOpa
import Derived.Test.YteogpmapbeogpaaDoorWrk
namespace Go.Proofs.YteogpmapbeogpaaDoor.ringPlays
open Go.ChangeShapes Go.WideShapes Go.ChangeAt Go.RowKit

/-- Ring and reference behind a call: the ring at x, the reference's ring in block b, and still the one before in block wb. -/
structure Rel (w : World) (lim wb n t : Nat) (A : Option Addr) (c : Nat) (W : World) (x b n3 c3 t3 : Nat) (v : Value) (L : List UInt8) (A3 : Option Addr) : Prop where
  at_ : At w W x v lim L t3
  cb : Cb W b lim A3 n3 c3 t3
  rd : Rd W A3 L
  len : L.length = n3 ∧ n3 ≤ c3
  le : n3 ≤ n + 300 ∧ t3 ≤ t + 300
  fp : ¬ Fp x v wb
  old : Cb W wb lim A n c t
theorem rel_one {w W w7 : World} {x x3 lim wb n t c n3 c3 t3 : Nat} {v v3 : Value} {L3 : List UInt8} {A A3 : Option Addr} (ha : At w w7 x3 v3 lim L3 t3) (hl : L3.length = n3) (hc : n3 ≤ c3) (hr : Rd w7 A3 L3) (hn : n3 ≤ n + 300) (ht : t3 ≤ t + 300) (hg : Chg (Fp x v) W w7) (hf : ∀ k, Fp x3 v3 k → Fp x v k ∨ W.heap.size ≤ k) (ho : Cb W wb lim A n c t) (hnb : ¬ Fp x v wb) :
    Rel w lim wb n t A c (w7.alloc (.cells #[.int .i64 (lim : Int), .slice A3 n3 c3, .int .i64 (t3 : Int)] 31)) x3 w7.heap.size n3 c3 t3 v3 L3 A3 :=
  ⟨ha.below (lit_bel w7 _), Cb.new w7 lim A3 n3 c3 t3, hr.below (lit_bel w7 _), ⟨hl, hc⟩, ⟨hn, ht⟩, fun hk => (hf wb hk).elim hnb (fun h => by have := ho.lt; omega), (ho.same (hg.block wb ho.lt hnb)).same ((lit_bel w7 _).block wb (Nat.lt_of_lt_of_le ho.lt hg.size))⟩
theorem rel_two {w W w7 Wc : World} {x x3 lim wb n t c n3 c3 t3 q : Nat} {v v3 : Value} {L3 : List UInt8} {A A3 : Option Addr} {u0 u1 u2 : Value} (ha : At w w7 x3 v3 lim L3 t3) (hl : L3.length = n3) (hc : n3 ≤ c3) (hr : Rd w7 A3 L3) (hn : n3 ≤ n + 300) (ht : t3 ≤ t + 300) (hg : Chg (Fp x v) W w7) (hf : ∀ k, Fp x3 v3 k → Fp x v k ∨ W.heap.size ≤ k) (ho : Cb W wb lim A n c t) (hnb : ¬ Fp x v wb)
    (hq : Cb w7 q 0 none 0 0 0) (hqf : ¬ Fp x v q) (hqW : q < W.heap.size) (hwq : w.heap.size ≤ q) (hqb : wb ≠ q) (hW : ((w7.setCell ⟨q, 0, none⟩ u0).setCell ⟨q, 1, none⟩ u1).setCell ⟨q, 2, none⟩ u2 = Wc) (hqc : Cb Wc q lim A3 n3 c3 t3) :
    Rel w lim wb n t A c Wc x3 q n3 c3 t3 v3 L3 A3 := by
  have keep : ∀ g, g ≠ q → Wc.heap[g]? = w7.heap[g]? := fun g hg => by
    rw [← hW, Below.heap_setCell _ _ _ _ hg, Below.heap_setCell _ _ _ _ hg, Below.heap_setCell _ _ _ _ hg]
  have fq : ∀ k, Fp x3 v3 k → k ≠ q := fun k hk e => by
    subst e
    rcases hf k hk with h | h
    · exact hqf h
    · omega
  refine ⟨⟨ha.rg.same (fun k hk => keep k (fq k hk)), ?_, ha.own⟩, hqc, rd_apart hq hr keep, ⟨hl, hc⟩, ⟨hn, ht⟩, fun hk => (hf wb hk).elim hnb (fun h => by have := ho.lt; omega), (ho.same (hg.block wb ho.lt hnb)).same (keep wb hqb)⟩
  rw [← hW]
  exact ((ha.bel.setCell (p := ⟨q, 0, none⟩) hwq _).setCell (p := ⟨q, 1, none⟩) hwq _).setCell (p := ⟨q, 2, none⟩) hwq _
/-- Ring and reference, once the new reference's ring is stored over the one before. -/
theorem Rel.done {w W Wc : World} {lim wb n t c x b n3 c3 t3 : Nat} {A A3 : Option Addr} {v : Value} {L : List UInt8} {u0 u1 u2 : Value} (h : Rel w lim wb n t A c W x b n3 c3 t3 v L A3) (hwb : w.heap.size ≤ wb) (hW : ((W.drew.setCell ⟨wb, 0, none⟩ u0).setCell ⟨wb, 1, none⟩ u1).setCell ⟨wb, 2, none⟩ u2 = Wc) : At w Wc x v lim L t3 ∧ Rd Wc A3 L := by
  have keep : ∀ g, g ≠ wb → Wc.heap[g]? = W.heap[g]? := fun g hg => by
    rw [← hW, Below.heap_setCell _ _ _ _ hg, Below.heap_setCell _ _ _ _ hg, Below.heap_setCell _ _ _ _ hg]
    rfl
  refine ⟨⟨h.at_.rg.same (fun k hk => keep k (fun e => h.fp (e ▸ hk))), ?_, h.at_.own⟩, rd_apart h.old h.rd keep⟩
  rw [← hW]
  exact (((below_drewN' h.at_.bel 1).setCell (p := ⟨wb, 0, none⟩) hwb _).setCell (p := ⟨wb, 1, none⟩) hwb _).setCell (p := ⟨wb, 2, none⟩) hwb _

/-- Bytes of any value. -/
def Bys (xs : List Value) : Prop := ∀ v ∈ xs, ∃ z : Int, v = .int .u8 z ∧ 0 ≤ z ∧ z < 256
theorem bys_map (l : List UInt8) : Bys (l.map byt) := by
  intro v hv
  obtain ⟨b, _, rfl⟩ := List.mem_map.1 hv
  exact ⟨(b.toNat : Int), rfl, by omega, by have := b.toNat_lt; omega⟩
theorem bys_set {xs : List Value} (h : Bys xs) (i : Nat) {z : Int} (h0 : 0 ≤ z) (h1 : z < 256) : Bys (xs.set i (.int .u8 z)) := by
  intro v hv
  rcases List.mem_or_eq_of_mem_set hv with h2 | h2
  · exact h v h2
  · exact ⟨z, h2, h0, h1⟩

set_option maxRecDepth 100000 in
set_option maxHeartbeats 4000000 in
theorem walk_else (z : Int) (A : Option Addr) (M ca : Nat) (AL : Option Addr) (ls : List Ac) (N cl : Nat) (d : Int) (w : World) (hg : Gl w) (hN : ls.length = N) (hRA : RdA w AL ls) (hz : 100 < M ∨ fw ls 40 = false) :
    Calls Tryd.prog 3 #[.int .i64 z, .slice A M ca, .slice AL N cl, .int .i64 d] w fun e w' => e = .returned (.bool true) ∧ Below w.heap.size w w' := by
  have WK := Lib.hid (works_any w hg)
  by_cases h1 : 100 < M
  · have e1 : decide ((100 : Int) < (M : Int)) = true := decide_eq_true (by omega)
    go_enter Tryd.func3, Tryd.ntmps3
    go_wp2_with (go_at_call 12; refine WK.out.mono ?_; rintro e w1 ⟨rfl, hb⟩; have HB := Lib.hid hb; clear hb)
    go_ret
    exact ⟨rfl, HB.out⟩
  · have e1 : decide ((100 : Int) < (M : Int)) = false := decide_eq_false (by omega)
    have hf : fw ls 40 = false := by rcases hz with h | h; exact absurd h h1; exact h
    have FW := Lib.hid (few_any w AL ls N cl 40 hN (fun _ => by omega) hRA)
    rw [hf] at FW
    clear hf hz hRA hN
    go_enter Tryd.func3, Tryd.ntmps3
    go_wp2_with (first
      | (go_at_call 11; refine FW.out.mono ?_; rintro e w ⟨rfl, rfl⟩)
      | (go_at_call 12; refine WK.out.mono ?_; rintro e w1 ⟨rfl, hb⟩; have HB := Lib.hid hb; clear hb))
    go_ret
    exact ⟨rfl, HB.out⟩

set_option maxRecDepth 100000 in
set_option maxHeartbeats 8000000 in
theorem walk_bad (z : Int) (A : Option Addr) (m : List UInt8) (M ca : Nat) (AL : Option Addr) (ls : List Ac) (N cl : Nat) (d : Int) (w : World) (hg : Gl w) (hM : m.length = M) (hM1 : M ≤ 100) (hR : Rd w A m) (hN : ls.length = N) (hf : fw ls 40 = true) (hRA : RdA w AL ls) (hOK : ∀ a ∈ ls, AcOk w a) (hz : z < 1 ∨ 134217728 < z) :
    Calls Tryd.prog 3 #[.int .i64 z, .slice A M ca, .slice AL N cl, .int .i64 d] w fun e w' => e = .returned (.bool true) ∧ Below w.heap.size w w' := by
  have e1 : decide ((100 : Int) < (M : Int)) = false := decide_eq_false (by omega)
  have hf2 := hf
  unfold fw at hf2
  rw [Bool.and_eq_true, decide_eq_true_iff, hN] at hf2
  have hN4 : N ≤ 40 := by omega
  have HAL : Hid (∀ a ∈ ls, okA a = true) := Lib.hid (fun a ha => List.all_eq_true.1 hf2.2 a ha)
  have FW := Lib.hid (few_any w AL ls N cl 40 hN (fun _ => by omega) hRA)
  rw [hf] at FW
  have O0 : Hid ((w.alloc (.cells #[] 5)).ownsRow w.heap.size 5 1 (.slice (some ⟨w.heap.size, 0, none⟩) 0 0) 0 []) := Lib.hid (own_empty w)
  have B0 : Hid (Below w.heap.size w (w.alloc (.cells #[] 5))) := Lib.hid (lit_bel w _)
  have HA := Lib.hid hR
  have HM := Lib.hid hM
  have HG := Lib.hid hg
  have HN := Lib.hid hN
  have HRA := Lib.hid hRA
  have HOK := Lib.hid hOK
  have NB : Hid (∀ W a, Below w.heap.size w W → Calls Tryd.prog 13 #[.int .i64 z, a] W fun e w' => e = .returned (.tuple #[.pointer none, .int .i64 2]) ∧ w' = W) := Lib.hid (fun W a hb => new_bad W (hg.bel hb) z hz a)
  have RN : Hid (∀ W a, Calls Tryd.prog 14 #[.int .i64 z, a] W fun e w' => e = .returned (.tuple #[rv 0 none 0 0 0, .int .i64 2]) ∧ Below W.heap.size W w') := Lib.hid (fun W a => rnew_bad W z hz a)
  clear hf hf2 hg hM hR hN hRA hOK HOK HAL HRA HN hz
  go_enter Tryd.func3, Tryd.ntmps3
  go_wp2_with (first
    | (go_at_call 11; refine FW.out.mono ?_; rintro e w ⟨rfl, rfl⟩)
    | (at_builtin; refine wpList_append_vals Tryd.underlying22 byte_info rfl rfl _ _ rfl w.heap.size (.slice (some ⟨w.heap.size, 0, none⟩) 0 0) 0 [] rfl O0.out A (m.map byt) (byt_one m) M ca (by rw [List.length_map]; exact HM.out) rfl (HA.out.below B0.out) (by omega) (by omega) B0.out.size ?_; intro v2 w2 ho hg2 he; rw [Nat.zero_add, List.nil_append] at ho; obtain ⟨A2, c2, rfl, hc2⟩ := own_form ho; have B2 := Lib.hid (B0.out.grown hg2 B0.out.size (fun j ej => by cases ej; exact Nat.le_refl _)); have O2 := Lib.hid ho; clear ho hg2 he O0 B0)
    | (go_at_call 13; refine (NB.out w2 _ B2.out).mono ?_; rintro e w2 ⟨rfl, rfl⟩)
    | (go_at_call 14; refine (RN.out w2 _).mono ?_; rintro e w4 ⟨rfl, hb4⟩; have B4 := Lib.hid hb4; have O4 := Lib.hid (own_below O2.out hb4); clear hb4)
    | (go_at_call 15; refine (num_any _ _).mono ?_; rintro e wn ⟨rfl, rfl⟩))
  have D5 : Hid (Below w2.heap.size w2 (w4.alloc (.cells #[.int .i64 0, .slice none 0 0, .int .i64 0] 31))) := Lib.hid (below_on B4.out (Nat.le_refl _) (lit_bel w4 _))
  obtain ⟨W5, hW5⟩ : ∃ W5, w4.alloc (.cells #[.int .i64 0, .slice none 0 0, .int .i64 0] 31) = W5 := ⟨_, rfl⟩
  rw [hW5] at D5
  simp only [hW5]
  clear hW5 B4 O4
  have BW : Hid (Below w.heap.size w W5) := Lib.hid (below_on B2.out (Nat.le_refl _) D5.out)
  have O5 : Hid (∃ xs, W5.ownsRow w.heap.size 5 1 (.slice A2 M c2) M xs ∧ Bys xs) := Lib.hid ⟨_, own_below O2.out D5.out, bys_map m⟩
  go_loopw [14] (fun u wr => ∃ i : Nat, i ≤ M ∧ u = .int .i64 (i : Int) ∧ Hid (∃ xs, wr.ownsRow w.heap.size 5 1 (.slice A2 M c2) M xs ∧ Bys xs) ∧ Hid (Chg (fun k => (Value.slice A2 M c2).ownBlock = some k) W5 wr)) (fun u _ => M - (intOf u).toNat)
  case atStart => exact ⟨0, Nat.zero_le _, rfl, O5, Lib.hid (Chg.refl _ _)⟩
  case round =>
    obtain ⟨i, hi, rfl, HO, HC⟩ := hrel
    by_cases hlt : i < M
    · obtain ⟨xs, ho, hbs⟩ := HO.out
      have hxl : xs.length = M := by have := ho.1; omega
      obtain ⟨u, hu⟩ : ∃ u, xs[i]? = some u := ⟨_, List.getElem?_eq_getElem (by omega)⟩
      obtain ⟨q, rfl, hq0, hq1⟩ := hbs u (List.mem_of_getElem? hu)
      obtain ⟨g, hgA⟩ : ∃ g, A2 = some ⟨g, 0, none⟩ := by
        rcases ho.2 with ⟨_, h9⟩ | ⟨g, c9, cur, h9, _⟩
        · omega
        · injection h9 with h9
          exact ⟨g, h9⟩
      subst hgA
      have cu : wr.cell? ⟨g, i, none⟩ = some (.int .u8 q) := by rw [ho.cellAt i (by omega)]; exact hu
      have fu := ho.frozenAt i
      obtain ⟨s8, hs8⟩ : ∃ s8, IntKind.u8.wrap (q + 1) = s8 := ⟨_, rfl⟩
      have hs9 : 0 ≤ s8 ∧ s8 < 256 := by
        rw [← hs8]
        simp [IntKind.wrap, IntKind.signed, IntKind.bits]
        omega
      have HO2 : Hid (∃ xs, (wr.setCell ⟨g, i, none⟩ (.int .u8 s8)).ownsRow w.heap.size 5 1 (.slice (some ⟨g, 0, none⟩) M c2) M xs ∧ Bys xs) := Lib.hid ⟨_, (ho.stored i _).1, bys_set hbs i hs9.1 hs9.2⟩
      have HC2 : Hid (Chg (fun k => (Value.slice (some ⟨g, 0, none⟩) M c2).ownBlock = some k) W5 (wr.setCell ⟨g, i, none⟩ (.int .u8 s8))) := Lib.hid (HC.out.set ⟨g, i, none⟩ rfl _)
      clear ho hu HO HC hbs hs9
      go_wp2
      exact ⟨⟨i + 1, by omega, by simp, HO2, HC2⟩, by simp [intOf]; omega⟩
    · clear HO
      have BR : Hid (Below w.heap.size w wr) := Lib.hid (BW.out.trans (HC.out.new BW.out.size (fun j hj => own_base O2.out hj)))
      have WK := Lib.hid (works_any wr (HG.out.bel BR.out))
      by_cases hN0 : 0 < N
      · go_wp2
        go_loopw [10, 15] (fun v u wq => v = .pointer none ∧ u = .int .i64 0 ∧ wq = wr) (fun _ _ _ => 0)
        case atStart => exact ⟨rfl, rfl, rfl⟩
        case round =>
          obtain ⟨rfl, rfl, rfl⟩ := hrel
          go_wp2_with (go_at_call 12; refine WK.out.mono ?_; rintro e w9 ⟨rfl, hb⟩; have HB := Lib.hid (below_on BR.out (Nat.le_refl _) hb); clear hb)
          go_ret
          exact ⟨rfl, HB.out⟩
      · obtain rfl : N = 0 := by omega
        go_wp2
        go_loopw [10, 15] (fun v u wq => v = .pointer none ∧ u = .int .i64 0 ∧ wq = wr) (fun _ _ _ => 0)
        case atStart => exact ⟨rfl, rfl, rfl⟩
        case round =>
          obtain ⟨rfl, rfl, rfl⟩ := hrel
          go_wp2_with (go_at_call 12; refine WK.out.mono ?_; rintro e w9 ⟨rfl, hb⟩; have HB := Lib.hid (below_on BR.out (Nat.le_refl _) hb); clear hb)
          go_ret
          exact ⟨rfl, HB.out⟩

set_option maxRecDepth 100000 in
set_option maxHeartbeats 8000000 in
theorem walk_ok (lim : Nat) (A : Option Addr) (m : List UInt8) (M ca : Nat) (AL : Option Addr) (ls : List Ac) (N cl : Nat) (d : Int) (w : World) (hg : Gl w) (hM : m.length = M) (hM1 : M ≤ 100) (hR : Rd w A m) (hN : ls.length = N) (hf : fw ls 40 = true) (hRA : RdA w AL ls) (hOK : ∀ a ∈ ls, AcOk w a) (h1 : 1 ≤ lim) (h2 : lim ≤ 134217728) :
    Calls Tryd.prog 3 #[.int .i64 (lim : Int), .slice A M ca, .slice AL N cl, .int .i64 d] w fun e w' => e = .returned (.bool true) ∧ Below w.heap.size w w' := by
  have e1 : decide ((100 : Int) < (M : Int)) = false := decide_eq_false (by omega)
  have hf2 := hf
  unfold fw at hf2
  rw [Bool.and_eq_true, decide_eq_true_iff, hN] at hf2
  have hN4 : N ≤ 40 := by omega
  have HAL : Hid (∀ a ∈ ls, okA a = true) := Lib.hid (fun a ha => List.all_eq_true.1 hf2.2 a ha)
  have FW := Lib.hid (few_any w AL ls N cl 40 hN (fun _ => by omega) hRA)
  rw [hf] at FW
  have O0 : Hid ((w.alloc (.cells #[] 5)).ownsRow w.heap.size 5 1 (.slice (some ⟨w.heap.size, 0, none⟩) 0 0) 0 []) := Lib.hid (own_empty w)
  have B0 : Hid (Below w.heap.size w (w.alloc (.cells #[] 5))) := Lib.hid (lit_bel w _)
  have HA := Lib.hid hR
  have HM := Lib.hid hM
  have HG := Lib.hid hg
  have HN := Lib.hid hN
  have HRA := Lib.hid hRA
  have HOK := Lib.hid hOK
  have NW : Hid (∀ W B c, Below w.heap.size w W → M ≤ c → Rd W B m → Calls Tryd.prog 13 #[.int .i64 (lim : Int), .slice B M c] W fun e w' => ∃ x v, e = .returned (.tuple #[.pointer (some ⟨x, 0, none⟩), .int .i64 0]) ∧ At w w' x v lim (fin lim m) 0 ∧ Below W.heap.size W w' ∧ ∀ k, Fp x v k → W.heap.size ≤ k) := Lib.hid (fun W B c hb hc hr => at_new hg hb lim h1 h2 B m M c hM hc (by omega) hr)
  have RN : Hid (∀ W, Below w.heap.size w W → Calls Tryd.prog 14 #[.int .i64 (lim : Int), .slice A M ca] W fun e w' => ∃ A' n' c', e = .returned (.tuple #[rv lim A' n' c' 0, .int .i64 0]) ∧ RfPost W (fin lim m) A' n' c' w') := Lib.hid (fun W hb => rnew_ok W lim h1 h2 A m M ca hM (by omega) (hR.below hb))
  have HFL : Hid ((fin lim m).length ≤ 100) := Lib.hid (by rw [fin_len]; omega)
  clear hf hf2 hg hM hR hN hRA hOK
  go_enter Tryd.func3, Tryd.ntmps3
  go_wp2_with (first
    | (go_at_call 11; refine FW.out.mono ?_; rintro e w ⟨rfl, rfl⟩)
    | (at_builtin; refine wpList_append_vals Tryd.underlying22 byte_info rfl rfl _ _ rfl w.heap.size (.slice (some ⟨w.heap.size, 0, none⟩) 0 0) 0 [] rfl O0.out A (m.map byt) (byt_one m) M ca (by rw [List.length_map]; exact HM.out) rfl (HA.out.below B0.out) (by omega) (by omega) B0.out.size ?_; intro v2 w2 ho hg2 he; rw [Nat.zero_add, List.nil_append] at ho; obtain ⟨A2, c2, rfl, hc2⟩ := own_form ho; have B2 := Lib.hid (B0.out.grown hg2 B0.out.size (fun j ej => by cases ej; exact Nat.le_refl _)); have O2 := Lib.hid ho; clear ho hg2 he O0 B0)
    | (go_at_call 13; refine (NW.out w2 A2 c2 B2.out hc2 (Rv.of_own O2.out)).mono ?_; rintro e w3 ⟨x, v, rfl, ha3, hb3, hf3⟩; have A3 := Lib.hid ha3; have B3 := Lib.hid hb3; have F3 := Lib.hid hf3; clear ha3 hb3 hf3)
    | (go_at_call 14; refine (RN.out w3 (below_on B2.out (Nat.le_refl _) B3.out)).mono ?_; rintro e w4 ⟨A', n', c', rfl, hp4⟩; have P4 := Lib.hid hp4; clear hp4)
    | (go_at_call 15; refine (num_any _ _).mono ?_; rintro e wn ⟨rfl, rfl⟩))
  have D5 : Hid (Below w2.heap.size w2 (w4.alloc (.cells #[.int .i64 (lim : Int), .slice A' n' c', .int .i64 0] 31))) := Lib.hid (below_on (below_on B3.out (Nat.le_refl _) P4.out.2.2.2.1) (Nat.le_refl _) (lit_bel w4 _))
  have C5 : Hid (Cb (w4.alloc (.cells #[.int .i64 (lim : Int), .slice A' n' c', .int .i64 0] 31)) w4.heap.size lim A' n' c' 0) := Lib.hid (Cb.new w4 lim A' n' c' 0)
  have R5 : Hid (Rd (w4.alloc (.cells #[.int .i64 (lim : Int), .slice A' n' c', .int .i64 0] 31)) A' (fin lim m)) := Lib.hid (P4.out.2.2.1.below (lit_bel w4 _))
  have A5 : Hid (At w (w4.alloc (.cells #[.int .i64 (lim : Int), .slice A' n' c', .int .i64 0] 31)) x v lim (fin lim m) 0) := Lib.hid ((A3.out.below P4.out.2.2.2.1).below (lit_bel w4 _))
  obtain ⟨W5, hW5⟩ : ∃ W5, w4.alloc (.cells #[.int .i64 (lim : Int), .slice A' n' c', .int .i64 0] 31) = W5 := ⟨_, rfl⟩
  obtain ⟨wb, hwb⟩ : ∃ wb, w4.heap.size = wb := ⟨_, rfl⟩
  rw [hW5] at D5 C5 R5 A5
  rw [hwb] at C5
  simp only [hW5, hwb]
  have SZ : Hid (w2.heap.size ≤ w3.heap.size ∧ w3.heap.size ≤ wb ∧ ∀ g, (Value.slice A2 M c2).ownBlock = some g → g < w2.heap.size) := Lib.hid ⟨B3.out.size, by rw [← hwb]; exact P4.out.2.2.2.1.size, fun g hg => own_lt O2.out hg⟩
  have Q5 : Hid ((fin lim m).length = n' ∧ n' ≤ c' ∧ (∀ ad, A' = some ad → w3.heap.size ≤ ad.block) ∧ ∀ k, Fp x v k → w2.heap.size ≤ k ∧ k < w3.heap.size) := Lib.hid ⟨P4.out.1, P4.out.2.1, P4.out.2.2.2.2, fun k hk => ⟨F3.out k hk, A3.out.rg.fp_lt hk⟩⟩
  clear hW5 hwb A3 B3 F3 P4
  have BW : Hid (Below w.heap.size w W5) := Lib.hid (below_on B2.out (Nat.le_refl _) D5.out)
  have O5 : Hid (∃ xs, W5.ownsRow w.heap.size 5 1 (.slice A2 M c2) M xs ∧ Bys xs) := Lib.hid ⟨_, own_below O2.out D5.out, bys_map m⟩
  go_loopw [14] (fun u wr => ∃ i : Nat, i ≤ M ∧ u = .int .i64 (i : Int) ∧ Hid (∃ xs, wr.ownsRow w.heap.size 5 1 (.slice A2 M c2) M xs ∧ Bys xs) ∧ Hid (Chg (fun k => (Value.slice A2 M c2).ownBlock = some k) W5 wr)) (fun u _ => M - (intOf u).toNat)
  case atStart => exact ⟨0, Nat.zero_le _, rfl, O5, Lib.hid (Chg.refl _ _)⟩
  case round =>
    obtain ⟨i, hi, rfl, HO, HC⟩ := hrel
    by_cases hlt : i < M
    · obtain ⟨xs, ho, hbs⟩ := HO.out
      have hxl : xs.length = M := by have := ho.1; omega
      obtain ⟨u, hu⟩ : ∃ u, xs[i]? = some u := ⟨_, List.getElem?_eq_getElem (by omega)⟩
      obtain ⟨q, rfl, hq0, hq1⟩ := hbs u (List.mem_of_getElem? hu)
      obtain ⟨g, hgA⟩ : ∃ g, A2 = some ⟨g, 0, none⟩ := by
        rcases ho.2 with ⟨_, h9⟩ | ⟨g, c9, cur, h9, _⟩
        · omega
        · injection h9 with h9
          exact ⟨g, h9⟩
      subst hgA
      have cu : wr.cell? ⟨g, i, none⟩ = some (.int .u8 q) := by rw [ho.cellAt i (by omega)]; exact hu
      have fu := ho.frozenAt i
      obtain ⟨s8, hs8⟩ : ∃ s8, IntKind.u8.wrap (q + 1) = s8 := ⟨_, rfl⟩
      have hs9 : 0 ≤ s8 ∧ s8 < 256 := by
        rw [← hs8]
        simp [IntKind.wrap, IntKind.signed, IntKind.bits]
        omega
      have HO2 : Hid (∃ xs, (wr.setCell ⟨g, i, none⟩ (.int .u8 s8)).ownsRow w.heap.size 5 1 (.slice (some ⟨g, 0, none⟩) M c2) M xs ∧ Bys xs) := Lib.hid ⟨_, (ho.stored i _).1, bys_set hbs i hs9.1 hs9.2⟩
      have HC2 : Hid (Chg (fun k => (Value.slice (some ⟨g, 0, none⟩) M c2).ownBlock = some k) W5 (wr.setCell ⟨g, i, none⟩ (.int .u8 s8))) := Lib.hid (HC.out.set ⟨g, i, none⟩ rfl _)
      clear ho hu HO HC hbs hs9
      go_wp2
      exact ⟨⟨i + 1, by omega, by simp, HO2, HC2⟩, by simp [intOf]; omega⟩
    · clear HO
      have hgo : ∀ k, w2.heap.size ≤ k → ¬ (Value.slice A2 M c2).ownBlock = some k := fun k hk e => by have := SZ.out.2.2 k e; omega
      have AR : Hid (At w wr x v lim (fin lim m) 0) := Lib.hid ⟨A5.out.rg.same (fun k hk => HC.out.block k (A5.out.rg.fp_lt hk) (hgo k (Q5.out.2.2.2 k hk).1)), BW.out.trans (HC.out.new BW.out.size (fun j hj => own_base O2.out hj)), A5.out.own⟩
      have CR : Hid (Cb wr wb lim A' n' c' 0) := Lib.hid (C5.out.same (HC.out.block wb C5.out.lt (hgo wb (by have := SZ.out; omega))))
      have RR : Hid (Rd wr A' (fin lim m)) := Lib.hid (rd_chg R5.out HC.out (fun _ ad e => hgo _ (by have h7 := Q5.out.2.2.1 ad e; have h8 := SZ.out; omega)))
      have NB : Hid (¬ Fp x v wb) := Lib.hid (fun hk => by have h7 := (Q5.out.2.2.2 wb hk).2; have h8 := SZ.out; omega)
      have hwb0 : w.heap.size ≤ wb := by have h8 := SZ.out; have h9 := B2.out.size; omega
      have NL : Hid ((fin lim m).length = n' ∧ n' ≤ c') := Lib.hid ⟨Q5.out.1, Q5.out.2.1⟩
      obtain ⟨L, hL⟩ : ∃ L, fin lim m = L := ⟨_, rfl⟩
      rw [hL] at AR RR NL HFL
      have hn1 : n' ≤ 100 := by have h7 := NL.out; have h8 := HFL.out; omega
      clear hgo HC A5 C5 R5 Q5 SZ D5 O2 hL O5 BW B2
      go_wp2
      go_loopw [10, 15] (fun rp u wr => ∃ (i x n c t : Nat) (v : Value) (L : List UInt8) (A' : Option Addr), i ≤ N ∧ rp = .pointer (some ⟨x, 0, none⟩) ∧ u = .int .i64 (i : Int) ∧ n ≤ 100 + 300 * i ∧ t ≤ 300 * i ∧ Hid (At w wr x v lim L t) ∧ Hid (Cb wr wb lim A' n c t) ∧ Hid (Rd wr A' L) ∧ Hid (L.length = n ∧ n ≤ c) ∧ Hid (¬ Fp x v wb)) (fun _ u _ => N - (intOf u).toNat)
      case atStart => exact ⟨0, x, n', c', 0, v, L, A', Nat.zero_le _, rfl, rfl, by omega, by omega, AR, CR, RR, NL, NB⟩
      case round =>
        clear AR CR RR NL NB HFL hn1
        obtain ⟨i, x, n, c, t, v, L, A', hi, rfl, rfl, hn, ht, AT, CB, RT, NL, NB⟩ := hrel
        have p0 := CB.out.c0
        have p1 := CB.out.c1
        have p2 := CB.out.c2
        by_cases hlt : i < N
        · obtain ⟨a, ha⟩ : ∃ a, ls[i]? = some a := ⟨_, List.getElem?_eq_getElem (by rw [HN.out]; exact hlt)⟩
          have hma := List.mem_of_getElem? ha
          obtain ⟨ad, hAL, q0, q1, q2, q3⟩ := (HRA.out.below AT.out.bel).at ha
          subst hAL
          have AC : Hid (∀ W, At w W x v lim L t → Rd W A' L → Calls Tryd.prog 16 #[.pointer (some ⟨x, 0, none⟩), rv lim A' n c t, a.val] W (AcPost w W x v L A' lim n t)) := Lib.hid (fun W h5 h6 => act_any h5 A' n c NL.out.1 NL.out.2 (by omega) h6 (by omega) a (HAL.out a hma) (HOK.out a hma))
          obtain ⟨wh, B, Ma, cm, ofs, nn⟩ := a
          simp only at q0 q1 q2 q3
          have wi : IntKind.i64.wrap (i : Int) = (i : Int) := IntWalk.i64_in _ (by omega)
          have T1 : Hid (At w wr.drew x v lim L t ∧ Rd wr.drew A' L) := Lib.hid ⟨AT.out.dr 1, Rv.same RT.out (fun _ _ => rfl)⟩
          have lb := lit_bel wr (.cells #[.int .i64 0, .slice none 0 0, .int .i64 0] 31)
          have T2 : Hid (At w (wr.alloc (.cells #[.int .i64 0, .slice none 0 0, .int .i64 0] 31)).drew x v lim L t ∧ Rd (wr.alloc (.cells #[.int .i64 0, .slice none 0 0, .int .i64 0] 31)).drew A' L) := Lib.hid ⟨(AT.out.below lb).dr 1, Rv.same (RT.out.below lb) (fun _ _ => rfl)⟩
          have C2 : Hid (Cb (wr.alloc (.cells #[.int .i64 0, .slice none 0 0, .int .i64 0] 31)).drew wb lim A' n c t ∧ Cb (wr.alloc (.cells #[.int .i64 0, .slice none 0 0, .int .i64 0] 31)).drew wr.heap.size 0 none 0 0 0 ∧ wr.heap.size < (wr.alloc (.cells #[.int .i64 0, .slice none 0 0, .int .i64 0] 31)).drew.heap.size) := Lib.hid ⟨CB.out.same (lb.block wb CB.out.lt), Cb.new wr 0 none 0 0 0, by show wr.heap.size < (wr.alloc _).heap.size; rw [World.size_alloc]; omega⟩
          have pa := (CB.out.same (lb.block wb CB.out.lt))
          have pa0 := pa.c0
          have pa1 := pa.c1
          have pa2 := pa.c2
          have qa0 := (lb.cell (cell_lt q0)).trans q0
          have qa1 := (lb.cell (cell_lt q1)).trans q1
          have qa2 := (lb.cell (cell_lt q2)).trans q2
          have qa3 := (lb.cell (cell_lt q3)).trans q3
          have FQ : Hid (¬ Fp x v wr.heap.size ∧ w.heap.size ≤ wr.heap.size ∧ wb ≠ wr.heap.size) := Lib.hid ⟨fun hk => by have := AT.out.rg.fp_lt hk; omega, AT.out.bel.size, by have := CB.out.lt; omega⟩
          clear ha hma lb pa
          go_upto_region 15 with fail
          go_cut [16, 17, 18] from 66 to 97 (fun a16 a17 a18 wx => ∃ (x3 b3 n3 c3 t3 : Nat) (v3 : Value) (L3 : List UInt8) (A3 : Option Addr), a16 = .pointer (some ⟨x3, 0, none⟩) ∧ a17 = .pointer (some ⟨b3, 0, none⟩) ∧ a18 = .bool true ∧ Hid (Rel w lim wb n t A' c wx x3 b3 n3 c3 t3 v3 L3 A3))
          case first =>
            go_region_law (first
              | (go_simp; go_at_call 16; refine (AC.out _ T1.out.1 T1.out.2).mono ?_; rintro e w7 ⟨x3, v3, L3, t3, A3, n3, c3, rfl, ha7, hl7, hc7, hr7, hn7, ht7, hg7, hf7, _, _⟩; have R1 := Lib.hid (rel_one (w := w) (W := wr.drew) (A := A') (c := c) ha7 hl7 hc7 hr7 hn7 ht7 hg7 hf7 CB.out NB.out); clear ha7 hl7 hc7 hr7 hn7 ht7 hg7 hf7)
              | (go_simp; go_at_call 16; refine (AC.out _ T2.out.1 T2.out.2).mono ?_; rintro e w7 ⟨x3, v3, L3, t3, A3, n3, c3, rfl, ha7, hl7, hc7, hr7, hn7, ht7, hg7, hf7, _, _⟩; have tq : Cb w7 wr.heap.size 0 none 0 0 0 := C2.out.2.1.same (hg7.block _ C2.out.2.2 FQ.out.1); have d0 := tq.c0; have f0 := tq.free 0; obtain ⟨Wa, hWa⟩ : ∃ Wa, w7.setCell ⟨wr.heap.size, 0, none⟩ (.int .i64 (lim : Int)) = Wa := ⟨_, rfl⟩; have ka : Cb Wa wr.heap.size lim none 0 0 0 := (by rw [← hWa]; exact tq.set0 lim); have d1 := ka.c1; have f1 := ka.free 1; obtain ⟨Wb, hWb⟩ : ∃ Wb, Wa.setCell ⟨wr.heap.size, 1, none⟩ (.slice A3 n3 c3) = Wb := ⟨_, rfl⟩; have kb : Cb Wb wr.heap.size lim A3 n3 c3 0 := (by rw [← hWb]; exact ka.set1 A3 n3 c3); have d2 := kb.c2; have f2 := kb.free 2; obtain ⟨Wc, hWc⟩ : ∃ Wc, Wb.setCell ⟨wr.heap.size, 2, none⟩ (.int .i64 (t3 : Int)) = Wc := ⟨_, rfl⟩; have kc : Cb Wc wr.heap.size lim A3 n3 c3 t3 := (by rw [← hWc]; exact kb.set2 t3); have R2 := Lib.hid (rel_two (w := w) (A := A') (c := c) ha7 hl7 hc7 hr7 hn7 ht7 hg7 hf7 C2.out.1 NB.out tq FQ.out.1 C2.out.2.2 FQ.out.2.1 FQ.out.2.2 (by rw [hWa, hWb, hWc] : ((w7.setCell ⟨wr.heap.size, 0, none⟩ (.int .i64 (lim : Int))).setCell ⟨wr.heap.size, 1, none⟩ (.slice A3 n3 c3)).setCell ⟨wr.heap.size, 2, none⟩ (.int .i64 (t3 : Int)) = Wc) kc); clear ha7 hl7 hc7 hr7 hn7 ht7 hg7 hf7 tq ka kb kc))
            all_goals (go_wp2_with fail; go_meet; first | exact ⟨x3, _, n3, c3, t3, v3, L3, A3, rfl, rfl, rfl, R1⟩ | exact ⟨x3, _, n3, c3, t3, v3, L3, A3, rfl, rfl, rfl, R2⟩)
          case rest =>
            obtain ⟨x3, b3, n3, c3, t3, v3, L3, A3, rfl, rfl, rfl, HRL⟩ := hcut
            clear AC T1 T2 C2 FQ pa0 pa1 pa2 qa0 qa1 qa2 qa3 q0 q1 q2 q3 p0 p1 p2
            have a0 := HRL.out.cb.c0
            have a1 := HRL.out.cb.c1
            have a2 := HRL.out.cb.c2
            have qz : Cb wc.drew wb lim A' n c t := HRL.out.old
            have d0 := HRL.out.old.c0
            have f0 := HRL.out.old.free 0
            have e0 := qz.c0
            have g0 := qz.free 0
            obtain ⟨Wa, hWa⟩ : ∃ Wa, wc.drew.setCell ⟨wb, 0, none⟩ (.int .i64 (lim : Int)) = Wa := ⟨_, rfl⟩
            have ka : Cb Wa wb lim A' n c t := by rw [← hWa]; exact qz.set0 lim
            have d1 := ka.c1
            have f1 := ka.free 1
            obtain ⟨Wb, hWb⟩ : ∃ Wb, Wa.setCell ⟨wb, 1, none⟩ (.slice A3 n3 c3) = Wb := ⟨_, rfl⟩
            have kb : Cb Wb wb lim A3 n3 c3 t := by rw [← hWb]; exact ka.set1 A3 n3 c3
            have d2 := kb.c2
            have f2 := kb.free 2
            obtain ⟨Wc, hWc⟩ : ∃ Wc, Wb.setCell ⟨wb, 2, none⟩ (.int .i64 (t3 : Int)) = Wc := ⟨_, rfl⟩
            have kc : Cb Wc wb lim A3 n3 c3 t3 := by rw [← hWc]; exact kb.set2 t3
            have FN := Lib.hid (HRL.out.done hwb0 (by rw [hWa, hWb, hWc] : ((wc.drew.setCell ⟨wb, 0, none⟩ (.int .i64 (lim : Int))).setCell ⟨wb, 1, none⟩ (.slice A3 n3 c3)).setCell ⟨wb, 2, none⟩ (.int .i64 (t3 : Int)) = Wc))
            have IS := Lib.hid (is_any FN.out.1 A3 n3 c3 HRL.out.len.1 FN.out.2 d)
            have k0 := kc.c0
            have k1 := kc.c1
            have k2 := kc.c2
            have KC := Lib.hid kc
            have hle := HRL.out.le
            clear ka kb kc qz AT CB RT NL NB
            go_wp2
            go_region
            all_goals
              go_wp2_with (go_at_call 17; refine IS.out.mono ?_; rintro e w8 ⟨rfl, hb8⟩; have A8 := Lib.hid (FN.out.1.below hb8); have R8 := Lib.hid (FN.out.2.below hb8); have K8 := Lib.hid (KC.out.same (W' := w8) (hb8.block _ KC.out.lt)); clear hb8)
              exact ⟨⟨i + 1, x3, n3, c3, t3, v3, L3, A3, by omega, rfl, by simp, by omega, by omega, A8, K8, R8, Lib.hid HRL.out.len, Lib.hid HRL.out.fp⟩, by simp [intOf]; omega⟩
        · have IS := Lib.hid (is_any AT.out A' n c NL.out.1 RT.out d)
          have BR := Lib.hid AT.out.bel
          go_wp2_with (first
            | (go_at_call 17; refine IS.out.mono ?_; rintro e w8 ⟨rfl, hb8⟩; have B8 := Lib.hid (below_on BR.out (Nat.le_refl _) hb8); clear hb8)
            | (go_at_call 12; refine (works_any w8 (HG.out.bel B8.out)).mono ?_; rintro e w9 ⟨rfl, hb⟩; have HB := Lib.hid (below_on B8.out (Nat.le_refl _) hb); clear hb))
          go_ret
          exact ⟨rfl, HB.out⟩

theorem walk (z : Int) (A : Option Addr) (m : List UInt8) (ca : Nat) (AL : Option Addr) (ls : List Ac) (cl : Nat) (d : Int) (w : World) (hg : Gl w) (_ : (Lit.int .i64 z).wf = true) (hR : Rd w A m) (_ : m.length ≤ 140737488351232) (_ : m.length ≤ ca) (hRA : RdA w AL ls) (hOK : ∀ a ∈ ls, AcOk w a) (_ : ls.length ≤ cl) (_ : (Lit.int .i64 d).wf = true) :
    Calls Tryd.prog 3 #[.int .i64 z, .slice A m.length ca, .slice AL ls.length cl, .int .i64 d] w fun e w' => e = .returned (.bool true) ∧ Below w.heap.size w w' := by
  by_cases h1 : 100 < m.length
  · exact walk_else z A _ ca AL ls _ cl d w hg rfl hRA (.inl h1)
  · cases hf : fw ls 40 with
    | false => exact walk_else z A _ ca AL ls _ cl d w hg rfl hRA (.inr hf)
    | true =>
      by_cases hz : z < 1 ∨ 134217728 < z
      · exact walk_bad z A m _ ca AL ls _ cl d w hg rfl (by omega) hR rfl hf hRA hOK hz
      · obtain ⟨lim, rfl⟩ : ∃ lim : Nat, z = (lim : Int) := ⟨z.toNat, by omega⟩
        exact walk_ok lim A m _ ca AL ls _ cl d w hg rfl (by omega) hR rfl hf hRA hOK (by omega) (by omega)

set_option maxRecDepth 100000 in
theorem lifted (os : Os) (started : os.Started) (H : Type) (enc : TypeId × Value → H) :
    ReturnsInHanded {} Tryd.checked os 3 .any (fun w args => (Rows.ringPlaysSpec.pre enc Tryd.prog Tryd.f3 [] false w args ∧ laidMetH Tryd.prog laidS w) ∧ sizedMet enc Tryd.prog Tryd.f3 (OpenSpec.ofChange Rows.ringPlaysSpec) false w args) (Rows.ringPlaysSpec.post enc Tryd.prog Tryd.f3 false true false false) := by
  refine returnsInHanded_of_change_and (C := Tryd.checked) (X := fun w _ => laidMetH Tryd.prog laidS w) (fun _ _ _ hh h => h.of_heap hh) ownB started (by kernel_rfl) Tryd.func3
    (ChangeSpec.witness_shaped (enc := enc) (C := Tryd.checked) (os := os) (X := fun w _ => laidMetH Tryd.prog laidS w) false (World.doorLaid Tryd.prog 400 os) #[.int .i64 0, .slice none 0 0, .slice none 0 0, .int .i64 0] 8 rfl (World.shaped_of_RefB (by kernel_rfl) (by kernel_rfl)) (by kernel_rfl) (by kernel_rfl) (by kernel_rfl) (door_met os _)) ?_
  intro W base args ds gs before hval0 hW _ hsz0 hL _
  have hgl := gl_of_laid hL
  have hsz : (DataW.weightsEach Tryd.prog (Tryd.f3.params.toList ++ Rows.ringPlaysSpec.plain.varTypes Tryd.prog) (ds ++ gs)).all (· ≤ reachBytes) = true := hsz0
  clear hsz0
  have hval : ∀ (j : Nat) t v, Tryd.f3.params[j]? = some t → args[j]? = some v → Value.okWide Tryd.prog W .any base t v := hval0
  have hW' := hW
  obtain ⟨p, q, hA0, hV, rfl, hfz, hnd⟩ := hW
  have hA : DataW.TrodAll enc Tryd.prog W 0 (fun _ => true) true Tryd.f3.params.toList args.toList ds p := hA0
  rw [Tryd.params3] at hA hval hsz
  obtain ⟨v0, vs0, d0, ds0, p0, q0, hargs, rfl, rfl, h0, r0⟩ := trodAll_cons hA
  obtain ⟨v1, vs1, d1, ds1, p1, q1, rfl, rfl, rfl, h1, r1⟩ := trodAll_cons r0
  obtain ⟨v2, vs2, d2, ds2, p2, q2, rfl, rfl, rfl, h2, r2⟩ := trodAll_cons r1
  obtain ⟨v3, vs3, d3, ds3, p3, q3, rfl, rfl, rfl, h3, r3⟩ := trodAll_cons r2
  obtain ⟨rfl, rfl, rfl⟩ := trodAll_nil r3
  obtain rfl : args = #[v0, v1, v2, v3] := by cases args; simp_all
  obtain ⟨rfl, rfl⟩ := trodVars_none hV
  obtain ⟨a0, rfl, rfl, rfl, w0⟩ := open_int Tryd.underlying3 (hval 0 3 v0 rfl rfl) h0
  obtain ⟨a1, len1, cap1, rfl⟩ := okWide_slice Tryd.underlying22 (hval 1 22 v1 rfl rfl)
  have k1 := h1
  have lt1 : ∀ x ∈ p1, x.block < W.heap.size := by obtain ⟨m, hm⟩ := k1; exact DataW.trod_lt m _ _ _ hm
  obtain ⟨l1, rfl, hc1, rd1, hd1⟩ := open_bytes h1
  have hs1 : l1.length ≤ 140737488351232 := by
    rcases hd1 with ⟨h, _⟩ | ⟨es, sp, rfl, h⟩
    · omega
    · have := sized_slice hsz (j := 1) (t := 22) (e := 5) rfl rfl Tryd.underlying22
      rw [bytes_byte] at this
      simp only [reachBytes] at this
      omega
  obtain ⟨a2, len2, cap2, rfl⟩ := okWide_slice Tryd.underlying23 (hval 2 23 v2 rfl rfl)
  have k2 := h2
  have lt2 : ∀ x ∈ p2, x.block < W.heap.size := by obtain ⟨m, hm⟩ := k2; exact DataW.trod_lt m _ _ _ hm
  obtain ⟨l2, rfl, hc2, ra2, ok2⟩ := open_acts h2
  obtain ⟨a3, rfl, rfl, rfl, w3⟩ := open_int Tryd.underlying3 (hval 3 3 v3 rfl rfl) h3
  clear hA0 hval0
  refine (walk a0 a1 l1 cap1 a2 l2 cap2 a3 W hgl w0 rd1 hs1 hc1 ra2 ok2 hc2 w3).mono fun e W' ⟨he, bel⟩ => ?_
  subst he
  exact ⟨_, rfl, _, _, _, [], _, [], hW', trodAll_mk1 (shut_bool Tryd.underlying4 _), (trodAll_cons_mk (shut_int Tryd.underlying3 w0) (trodAll_cons_mk (Below.trod laidOut (by kernel_rfl) (of_decide_eq_true (by kernel_rfl)) k1 bel lt1) (trodAll_cons_mk (Below.trod laidOut (by kernel_rfl) (of_decide_eq_true (by kernel_rfl)) k2 bel lt2) (trodAll_cons_mk (shut_int Tryd.underlying3 w3) trodAll_mk0)))), rfl, bel.frame _, fun h => by cases h⟩

theorem row_proved : Rows.RingPlaysSaid :=
  OpenClaim.holds_of_wide 3 Tryd.f3 rfl rfl rfl rfl rfl rfl rfl ⟨rfl, rfl, rfl, rfl, rfl⟩ rfl rfl rfl rfl rfl (by kernel_rfl) Tryd.func3 (by kernel_rfl)
    (of_decide_eq_true (by kernel_rfl)) (by unfold Func.isWrapper; rw [if_neg (by decide +kernel)]; exact ⟨rfl, rfl⟩)
    (fun os started H enc _ => lifted os started H enc)

theorem proved : Rows.RingPlaysCardSaid :=
  Claim7.holds_tied_plain_at .later [] [.data] true Rows.ringPlaysCard.stood.harness false
    row_proved (fun _ h => by cases h) (by kernel_rfl) (fun _ h => by cases h) ringPlays_row_tie rfl ⟨rfl, rfl⟩ (by kernel_rfl) rfl
    (fun f fn hf hfn => by
      obtain rfl : f = 3 := Option.some.inj ((show Tryd.prog.funcNamed "portmanteau/portmanteaulaw06.RingPlays" = some 3 by kernel_rfl).symm.trans hf) |>.symm
      obtain rfl : fn = Tryd.f3 := (Option.some.inj (Tryd.func3.symm.trans hfn)).symm
      exact ⟨by kernel_rfl, fun j t ht => by
        rw [Tryd.params3] at ht
        have hall : ∀ t ∈ [3, 22, 23, 3], Tryd.prog.wantsStandIn t = false := by
          intro t ht
          simp only [List.mem_cons, List.not_mem_nil, or_false] at ht
          rcases ht with rfl | rfl | rfl | rfl
          all_goals kernel_rfl
        refine hall t ?_
        rw [← Array.getElem?_toList] at ht
        exact List.mem_of_getElem? ht⟩)
    (by kernel_rfl)

#print axioms proved

end Go.Proofs.YteogpmapbeogpaaDoor.ringPlays
