/-
  What slices.Backward at ints and the function that it returns do: that function hands on the indices and the elements from the last to the first, until a round leaves. Conditions: while the rounds run, the variable that it captures holds the slice, and the slice's elements lie there.
  A decoder in memory, and what its method move does: it reads the state that follows a cell, or returns the error. Only the decoder, its reader and new memory have changed. Conditions: fewer than 2^40 bytes; the cell is one of a table.
  What the decoder's method symbols does: it reads the first states and then the symbols, or returns the error. Only the decoder, its reader and new memory have changed. Conditions: the cells are those of a table; at most 131072 symbols.
  What flow's Decode returns: the symbols that fdR says, or the error. Nothing that was there has changed. Conditions: at most 100000 norms and 1000000 bytes.
-/
import Derived.RegionIn
import Derived.Test.YtnlhokfhkohdpaaGreatSa
import Derived.Test.YtnlhokfhkohdpaaGreatSg
import Derived.Deep.RegionHeld3
import Derived.Test.YtnlhokfhkohdpaaGreatSf
namespace Go.Proofs.YtnlhokfhkohdpaaGreat
open Go.RowKit Go.Shelf

attribute [local go_sem] Oper.semAt_some

set_option maxHeartbeats 400000 in
theorem backw_in (n : Nat) (A : Option Addr) (N c : Nat) (w : World) :
    CallsIn Fence.wide n Tryz.prog 32 #[.slice A N c] w fun e w' => e = .returned (.func (.func 67) #[] #[.pointer (some ⟨w.heap.size, 0, none⟩)]) ∧ w' = w.alloc (.cells #[.slice A N c] 24) := by
  refine callsIn_of_wp Tryz.func32 rfl trivial ?_ rfl
  simp only [Tryz.ntmps32, List.size_toArray, List.length_cons, List.length_nil, Nat.reduceAdd, Nat.reduceSub, Array.replicate_succ, Array.replicate_zero, List.push_toArray, List.append_toArray, List.nil_append, List.cons_append]
  gi_wp2
  go_ret
  exact ⟨rfl, rfl⟩

/-- The j-th index from the end, and its element. -/
def bkAt (l : List Int) (N j : Nat) : Array Value := #[.int .i64 ((N - 1 - j : Nat) : Int), .int .i64 (l[N - 1 - j]?.getD 0)]

def KpB (A : Option Addr) (l : List Int) (N c Bs : Nat) (W : World) : Prop := Boxed W Bs 24 (.slice A N c) ∧ Ri W A l

set_option maxRecDepth 100000 in
set_option maxHeartbeats 2000000 in
theorem backw_hands (n : Nat) (hn : 1 ≤ n) (A : Option Addr) (l : List Int) (N c Bs : Nat) (hl : l.length = N) (hN : N ≤ 1000000) :
    Hands Fence.wide n Tryz.prog 67 #[.pointer (some ⟨Bs, 0, none⟩)] N (bkAt l N) (KpB A l N c Bs) := by
  intro lp I X W hI hX hKp hY h0
  refine callsIn_of_wp Tryz.func67 rfl trivial ?_ rfl
  simp only [Tryz.ntmps67, List.size_toArray, List.length_cons, List.length_nil, Nat.reduceAdd, Nat.reduceSub, Array.replicate_succ, Array.replicate_zero, List.push_toArray, List.append_toArray, List.nil_append, List.cons_append]
  have hfw : ∀ f, Fence.wide.fn f := fun _ => trivial
  have HY := Lib.hid hY
  have HK := Lib.hid hKp
  have HKL := Lib.hid hl
  have c0 := (hKp 0 W h0).1.cell
  clear hY hKp hl hI hX
  gi_wp2
  clear c0
  gi_loopw [3] (fun p wr => ∃ (j : Nat) (Z : Int), j ≤ N ∧ p = .int .i64 Z ∧ Hid (Z = (N : Int) - 1 - (j : Int)) ∧ Hid (I j wr))
    (fun p _ => (intOf p + 1).toNat)
  case atStart =>
    exact ⟨0, (N : Int) - 1, Nat.zero_le _, rfl, Lib.hid (by omega), Lib.hid h0⟩
  case round =>
    obtain ⟨j, Z, hj, rfl, HZ, HI⟩ := hrel
    by_cases hlt : j < N
    · obtain ⟨i, rfl⟩ : ∃ i : Nat, Z = (i : Int) := ⟨Z.toNat, by have := HZ.out; omega⟩
      have hi : N - 1 - j = i := by have := HZ.out; omega
      obtain ⟨z, hz⟩ : ∃ z, l[i]? = some z := ⟨_, List.getElem?_eq_getElem (by rw [HKL.out]; omega)⟩
      have hiN : i < N := by omega
      obtain ⟨hbx, hri⟩ := HK.out _ _ HI.out
      have c0 := hbx.cell
      obtain ⟨ad, hA, hc⟩ := hri i (iv z) (by rw [List.getElem?_map, hz]; rfl)
      subst hA
      simp only [iv] at hc
      obtain ⟨fn, tmps, assign, body, hy, hR⟩ := HY.out j wr hlt HI.out
      unfold bkAt at hy
      rw [hi, hz] at hy
      simp only [Option.getD_some] at hy
      have HR := Lib.hid hR
      have hz0 : decide ((0 : Int) ≤ (i : Int)) = true := decide_eq_true (by omega)
      have HZ2 : Hid ((i : Int) - 1 = (N : Int) - 1 - ((j + 1 : Nat) : Int)) := Lib.hid (by have := HZ.out; omega)
      clear hR HY hz hbx hri hi HZ
      gi_wp2
      refine HR.out.mono ?_
      rintro e W3 (⟨rfl, hI3⟩ | ⟨rfl, hX3⟩)
      · have H3 := Lib.hid hI3
        clear hI3
        gi_wp2
        exact ⟨⟨j + 1, (i : Int) - 1, by omega, by simp, HZ2, H3⟩, by simp [intOf]⟩
      · have H3 := Lib.hid hX3
        clear hX3
        gi_wp2
        refine bodyPost_ret (results_none rfl _ _ _) rfl ?_
        exact ⟨⟨_, rfl⟩, .inr H3.out⟩
    · have hjN : j = N := by omega
      subst hjN
      have hz1 : Z = -1 := by have := HZ.out; omega
      subst hz1
      gi_wp2
      go_end0
      exact ⟨⟨_, rfl⟩, .inl HI.out⟩

end Go.Proofs.YtnlhokfhkohdpaaGreat

namespace Go.Proofs.YtnlhokfhkohdpaaGreat
open Go.RowKit Go.Shelf
open Bt (unp unp_len val cut)

/-- A decoder: the cells, the reader, the two states. -/
def Db (W : World) (b g s x c0 c1 : Nat) : Prop := W.heap[b]? = some (.cells #[.slice (some ⟨g, 0, none⟩) s s, .pointer (some ⟨x, 0, none⟩), .int .i64 (c0 : Int), .int .i64 (c1 : Int)] 92 (0, 0))
section
variable {W W' : World} {b g s x c0 c1 : Nat}
theorem Db.lt (h : Db W b g s x c0 c1) : b < W.heap.size := (Array.getElem?_eq_some_iff.1 h).1
theorem Db.e0 (h : Db W b g s x c0 c1) : W.cell? ⟨b, 0, none⟩ = some (.slice (some ⟨g, 0, none⟩) s s) := by rw [cell_of_row W b 0 _ _ _ h]; rfl
theorem Db.e1 (h : Db W b g s x c0 c1) : W.cell? ⟨b, 1, none⟩ = some (.pointer (some ⟨x, 0, none⟩)) := by rw [cell_of_row W b 1 _ _ _ h]; rfl
theorem Db.e2 (h : Db W b g s x c0 c1) : W.cell? ⟨b, 2, none⟩ = some (.int .i64 (c0 : Int)) := by rw [cell_of_row W b 2 _ _ _ h]; rfl
theorem Db.e3 (h : Db W b g s x c0 c1) : W.cell? ⟨b, 3, none⟩ = some (.int .i64 (c1 : Int)) := by rw [cell_of_row W b 3 _ _ _ h]; rfl
theorem Db.free (h : Db W b g s x c0 c1) (i : Nat) : W.frozen? ⟨b, i, none⟩ = false := by
  unfold Db at h
  simp [World.frozen?, h]
theorem Db.same (h : Db W b g s x c0 c1) (hb : W'.heap[b]? = W.heap[b]?) : Db W' b g s x c0 c1 := hb.trans h
theorem Db.set2 (h : Db W b g s x c0 c1) (z : Nat) : Db (W.setCell ⟨b, 2, none⟩ (.int .i64 (z : Int))) b g s x z c1 := by
  unfold Db at h ⊢
  simp [World.setCell, Array.getElem?_modify, h]
theorem Db.set3 (h : Db W b g s x c0 c1) (z : Nat) : Db (W.setCell ⟨b, 3, none⟩ (.int .i64 (z : Int))) b g s x c0 z := by
  unfold Db at h ⊢
  simp [World.setCell, Array.getElem?_modify, h]
end

/-- The program's reader at block x with the bits L ahead, made behind w0; its blocks are older than m. -/
def Rk (w0 w : World) (x m : Nat) (L : List Bool) : Prop :=
  ∃ A c D e, Bt.Rr w0 w x 141 A c D 0 e ∧ e ≤ 8 * D.length ∧ D.length ≤ 1000000 ∧ L = (unp D).take e ∧ x < m ∧ ∀ ad, A = some ad → ad.block < m
theorem Rk.len {w0 w : World} {x m : Nat} {L : List Bool} (h : Rk w0 w x m L) : L.length ≤ 8000000 := by
  obtain ⟨A, c, D, e, _, h1, h2, rfl, _⟩ := h
  rw [List.length_take, unp_len]; omega
theorem Rk.bel {w0 w : World} {x m : Nat} {L : List Bool} (h : Rk w0 w x m L) : Below w0.heap.size w0 w := by
  obtain ⟨A, c, D, e, h, _⟩ := h
  exact h.bel
theorem Rk.on {w0 w w' : World} {x m : Nat} {L : List Bool} (h : Rk w0 w x m L) (hb : Below w.heap.size w w') : Rk w0 w' x m L := by
  obtain ⟨A, c, D, e, h, h2⟩ := h
  exact ⟨A, c, D, e, h.on hb, h2⟩
theorem Rk.dr {w0 w : World} {x m : Nat} {L : List Bool} (h : Rk w0 w x m L) (d : Nat) : Rk w0 (w.drewN d) x m L := by
  obtain ⟨A, c, D, e, h, h2⟩ := h
  exact ⟨A, c, D, e, h.dr d, h2⟩
theorem Rk.lt {w0 w : World} {x m : Nat} {L : List Bool} (h : Rk w0 w x m L) : x < w.heap.size := by
  obtain ⟨A, c, D, e, h, _⟩ := h
  exact h.sp.lt
theorem Rk.ge {w0 w : World} {x m : Nat} {L : List Bool} (h : Rk w0 w x m L) : w0.heap.size ≤ x ∧ x < m := by
  obtain ⟨A, c, D, e, h, _, _, _, h2, _⟩ := h
  exact ⟨h.ge, h2⟩
theorem Rk.other {w0 w w' : World} {x m y : Nat} {L : List Bool} (h : Rk w0 w x m L) (hy : m ≤ y) (hg : w.grownBy w' (some y)) : Rk w0 w' x m L := by
  obtain ⟨A, c, D, e, h, h1, h2, h3, h4, h5⟩ := h
  have hge := h.ge
  refine ⟨A, c, D, e, ⟨h.sp.same hg.size (hg.block x h.sp.lt (by simp; omega)) (fun ad e => hg.block _ (h.sp.ne ad e).2 (by have := h5 ad e; simp; omega)), ?_, h.ge, h.row⟩, h1, h2, h3, h4, h5⟩
  exact ⟨hg.os.trans h.bel.os, hg.tape.trans h.bel.tape, hg.output.trans h.bel.output, Nat.le_trans h.bel.size hg.size, fun k hk => (hg.block k (Nat.lt_of_lt_of_le hk h.bel.size) (by simp; omega)).trans (h.bel.block k hk)⟩

/-- A call of Take of the reader. -/
theorem rk_take {w0 w : World} {x m : Nat} {L : List Bool} (h : Rk w0 w x m L) (n : Nat) (hn : n ≤ 64) :
    Calls Tryz.prog 98 #[.pointer (some ⟨x, 0, none⟩), .int .i64 (n : Int)] w fun e w' => ∃ (V : Nat) (L' : List Bool) (er : Int), e = .returned (.tuple #[.int .u64 (V : Int), .int .i64 er]) ∧
      LsR L n V L' er ∧ Rk w0 w' x m L' ∧ w.grownBy w' (some x) := by
  obtain ⟨A, c, D, k, hk, h1, h2, rfl, h3⟩ := h
  refine (Bt.btake_u hk h1 (by omega) (n : Int) _ rfl _ rfl _ rfl).mono ?_
  rintro e w' ⟨rfl, hr, hg⟩
  have hl : ((unp D).take k).length = k := by rw [List.length_take, unp_len]; omega
  by_cases hle : n ≤ k
  · have hc : Bt.chk (n : Int) k 14 = 0 := by rw [Bt.chk, if_neg (by omega), if_neg (by omega)]
    have hp : Bt.bpos (n : Int) k = k - n := by rw [Bt.bpos, if_pos hc]; simp
    rw [hp] at hr
    refine ⟨_, (unp D).take (k - n), _, rfl, .inl ⟨?_, hc⟩, ⟨A, c, D, _, hr, by omega, h2, rfl, h3⟩, hg⟩
    rw [lst, hl, if_neg (by omega), List.take_take, Nat.min_eq_left (by omega), Bt.bval, if_pos hc, cut, Int.toNat_natCast, List.drop_take]
    congr 4
    omega
  · have hc : Bt.chk (n : Int) k 14 = 14 := by rw [Bt.chk, if_neg (by omega), if_pos (by omega)]
    have hp : Bt.bpos (n : Int) k = k := by rw [Bt.bpos, if_neg (by rw [hc]; decide)]
    rw [hp] at hr
    refine ⟨_, (unp D).take k, _, rfl, .inr ⟨lst_none (by omega), ?_, hc⟩, ⟨A, c, D, _, hr, by omega, h2, rfl, h3⟩, hg⟩
    rw [Bt.bval, if_neg (by rw [hc]; decide)]
theorem rk_left {w0 w : World} {x m : Nat} {L : List Bool} (h : Rk w0 w x m L) :
    Calls Tryz.prog 40 #[.pointer (some ⟨x, 0, none⟩)] w fun e w' => e = .returned (.int .i64 (L.length : Int)) ∧ ∃ d, w' = w.drewN d := by
  obtain ⟨A, c, D, k, hk, h1, h2, rfl, h3⟩ := h
  have := Bt.bleft_any hk.sp (by omega)
  rwa [show ((unp D).take k).length = k by rw [List.length_take, unp_len]; omega]

/-- Only the blocks x and b and new memory have changed. -/
abbrev Xb (x b : Nat) : Nat → Prop := fun k => k = x ∨ k = b
theorem chg_of_grown {w w' : World} {x : Nat} {S : Nat → Prop} (hg : w.grownBy w' (some x)) (hS : S x) : Chg S w w' := ⟨hg.os, hg.tape, hg.output, hg.size, fun k hk hn => hg.block k hk (fun e => hn (by injection e with e; rw [e]; exact hS))⟩

/-- What move leaves: the bits and the state at lane j, or the error. -/
def MvP (w0 w : World) (m b g s x p q : Nat) (L : List Bool) (c0 c1 : Nat → Nat) (k0 k1 : Nat) (e : Ending) (w' : World) : Prop :=
  ∃ (V : Nat) (L' : List Bool) (er : Int), e = .returned (.int .i64 er) ∧ LsR L p V L' er ∧ Rk w0 w' x m L' ∧ Chg (Xb x b) w w' ∧ Db w' b g s x (if er = 0 then c0 (q + V) else k0) (if er = 0 then c1 (q + V) else k1)

set_option maxRecDepth 100000 in
set_option maxHeartbeats 1000000 in
theorem move0 (w0 w : World) {m b g s x c0 c1 : Nat} {L : List Bool} (hD : Db w b g s x c0 c1) (hK : Rk w0 w x m L) (hb : m ≤ b) (a p q : Nat) (hp : p ≤ 9) (hq : q ≤ 512) :
    Calls Tryz.prog 76 #[.pointer (some ⟨b, 0, none⟩), .int .i64 0, cev (a : Int) (p : Int) (q : Int)] w (MvP w0 w m b g s x p q L (fun v => v) (fun _ => c1) c0 c1) := by
  have q1 := Ce.new w (a : Int) (p : Int) (q : Int)
  have b1 := below_new w (.cells #[.int .i64 (a : Int), .int .i64 (p : Int), .int .i64 (q : Int)] 139)
  obtain ⟨w1, hw1⟩ : ∃ w1, w.alloc (.cells #[.int .i64 (a : Int), .int .i64 (p : Int), .int .i64 (q : Int)] 139) = w1 := ⟨_, rfl⟩
  rw [hw1] at q1 b1
  have d1 := hD.same (b1.block b hD.lt)
  have e1 := d1.e1
  have f1 := q1.c1
  have TK := Lib.hid (rk_take ((hK.on b1).dr 1) p (by omega))
  have Q1 := Lib.hid q1
  have D1 := Lib.hid d1
  have B1 := Lib.hid b1
  have HLB : Hid (b < w.heap.size ∧ b ≠ x ∧ x < w.heap.size) := Lib.hid ⟨hD.lt, by have := hK.ge; omega, hK.lt⟩
  have HB := Lib.hid hb
  clear q1 b1 d1 hD hK hb
  go_enter Tryz.func76, Tryz.ntmps76
  go_upto_region 1 with fail
  go_region_held3 (fun W => W.cell? ⟨b, 1, none⟩ = some (.pointer (some ⟨x, 0, none⟩)) ∧ W.cell? ⟨w.heap.size, 1, none⟩ = some (.int .i64 (p : Int))) (first | exact ⟨e1, f1⟩ | exact ⟨e2, f2⟩) (first
    | (go_at_call 98; refine TK.out.mono ?_; rintro e w2 ⟨V, L', er, rfl, hv2, hk2, hg2⟩; have d2 := D1.out.same (hg2.block b D1.out.lt (fun e => HLB.out.2.1 (by injection e with e))); have q2 := Q1.out.same (hg2.block _ Q1.out.lt (fun e => by injection e with e; have := HLB.out; omega)); have e2 := d2.e1; have f2 := q2.c1; have D2 := Lib.hid d2; have Q2 := Lib.hid q2; have V2 := Lib.hid hv2; have K2 := Lib.hid hk2; have G2 : Hid (w1.grownBy w2 (some x)) := Lib.hid ⟨hg2.os, hg2.tape, hg2.output, hg2.size, hg2.block⟩; clear d2 q2 hv2 hk2 hg2))
  have hVp := V2.out.lt
  by_cases her : er = 0
  · subst her
    have hV5 : V ≤ 512 := by
      have : 2 ^ p ≤ 2 ^ 9 := Nat.pow_le_pow_right (by decide) hp
      omega
    clear hVp
    obtain ⟨qv, hqv⟩ : ∃ qv, q + V = qv := ⟨_, rfl⟩
    have NX : Hid (∀ W, Calls Tryz.prog 99 #[cev (a : Int) (p : Int) (q : Int), .int .u64 (V : Int)] W fun e w' => e = .returned (.int .i64 (qv : Int)) ∧ Below W.heap.size W w') := Lib.hid (fun W => by
      have h := next_any W (a : Int) (p : Int) (q : Int) V (by omega) (by omega) (by omega)
      have e1 : wid (p : Int) = p := by unfold wid; omega
      rw [e1, Nat.mod_eq_of_lt V2.out.lt] at h
      rw [show (q : Int) + (V : Int) = (qv : Int) by omega] at h
      exact h)
    have HQV := Lib.hid hqv
    have g0 := Q2.out.c0
    have g1 := Q2.out.c1
    have g2 := Q2.out.c2
    clear hqv e2 f2
    go_upto_region 4 with fail
    go_region_law (first
      | (go_simp; go_at_call 99; refine (NX.out _).mono ?_; rintro e w3 ⟨rfl, hb3⟩; have d3 := D2.out.same (hb3.block b D2.out.lt); have c3 := d3.e2; have F3 := d3.free 2; have D3 := Lib.hid d3; have B3 : Hid (Below w2.heap.size w2 w3) := Lib.hid ⟨hb3.os, hb3.tape, hb3.output, hb3.size, hb3.block⟩; clear d3 hb3))
    all_goals
      go_wp2
      go_ret
      refine ⟨V, L', 0, rfl, V2.out, ?_, ?_, ?_⟩
      · exact (K2.out.on B3.out).other HB.out (Bt.grown_setCell _ _ _ _)
      · exact ((Chg.of_below B1.out).trans (chg_of_grown G2.out (.inl rfl))).trans (((Chg.refl _ _).below B3.out).set ⟨b, 2, none⟩ (.inr rfl) _)
      · rw [if_pos rfl, if_pos rfl, HQV.out]
        exact D3.out.set2 _
  · have hne : (er != 0) = true := by simpa using her
    have HE := Lib.hid her
    clear her hVp
    go_wp2
    go_ret
    refine ⟨V, L', er, rfl, V2.out, K2.out, ?_, ?_⟩
    · exact (Chg.of_below B1.out).trans (chg_of_grown G2.out (.inl rfl))
    · rw [if_neg HE.out, if_neg HE.out]
      exact D2.out

set_option maxRecDepth 100000 in
set_option maxHeartbeats 1000000 in
theorem move1 (w0 w : World) {m b g s x c0 c1 : Nat} {L : List Bool} (hD : Db w b g s x c0 c1) (hK : Rk w0 w x m L) (hb : m ≤ b) (a p q : Nat) (hp : p ≤ 9) (hq : q ≤ 512) :
    Calls Tryz.prog 76 #[.pointer (some ⟨b, 0, none⟩), .int .i64 1, cev (a : Int) (p : Int) (q : Int)] w (MvP w0 w m b g s x p q L (fun _ => c0) (fun v => v) c0 c1) := by
  have q1 := Ce.new w (a : Int) (p : Int) (q : Int)
  have b1 := below_new w (.cells #[.int .i64 (a : Int), .int .i64 (p : Int), .int .i64 (q : Int)] 139)
  obtain ⟨w1, hw1⟩ : ∃ w1, w.alloc (.cells #[.int .i64 (a : Int), .int .i64 (p : Int), .int .i64 (q : Int)] 139) = w1 := ⟨_, rfl⟩
  rw [hw1] at q1 b1
  have d1 := hD.same (b1.block b hD.lt)
  have e1 := d1.e1
  have f1 := q1.c1
  have TK := Lib.hid (rk_take ((hK.on b1).dr 1) p (by omega))
  have Q1 := Lib.hid q1
  have D1 := Lib.hid d1
  have B1 := Lib.hid b1
  have HLB : Hid (b < w.heap.size ∧ b ≠ x ∧ x < w.heap.size) := Lib.hid ⟨hD.lt, by have := hK.ge; omega, hK.lt⟩
  have HB := Lib.hid hb
  clear q1 b1 d1 hD hK hb
  go_enter Tryz.func76, Tryz.ntmps76
  go_upto_region 1 with fail
  go_region_held3 (fun W => W.cell? ⟨b, 1, none⟩ = some (.pointer (some ⟨x, 0, none⟩)) ∧ W.cell? ⟨w.heap.size, 1, none⟩ = some (.int .i64 (p : Int))) (first | exact ⟨e1, f1⟩ | exact ⟨e2, f2⟩) (first
    | (go_at_call 98; refine TK.out.mono ?_; rintro e w2 ⟨V, L', er, rfl, hv2, hk2, hg2⟩; have d2 := D1.out.same (hg2.block b D1.out.lt (fun e => HLB.out.2.1 (by injection e with e))); have q2 := Q1.out.same (hg2.block _ Q1.out.lt (fun e => by injection e with e; have := HLB.out; omega)); have e2 := d2.e1; have f2 := q2.c1; have D2 := Lib.hid d2; have Q2 := Lib.hid q2; have V2 := Lib.hid hv2; have K2 := Lib.hid hk2; have G2 : Hid (w1.grownBy w2 (some x)) := Lib.hid ⟨hg2.os, hg2.tape, hg2.output, hg2.size, hg2.block⟩; clear d2 q2 hv2 hk2 hg2))
  have hVp := V2.out.lt
  by_cases her : er = 0
  · subst her
    have hV5 : V ≤ 512 := by
      have : 2 ^ p ≤ 2 ^ 9 := Nat.pow_le_pow_right (by decide) hp
      omega
    clear hVp
    obtain ⟨qv, hqv⟩ : ∃ qv, q + V = qv := ⟨_, rfl⟩
    have NX : Hid (∀ W, Calls Tryz.prog 99 #[cev (a : Int) (p : Int) (q : Int), .int .u64 (V : Int)] W fun e w' => e = .returned (.int .i64 (qv : Int)) ∧ Below W.heap.size W w') := Lib.hid (fun W => by
      have h := next_any W (a : Int) (p : Int) (q : Int) V (by omega) (by omega) (by omega)
      have e1 : wid (p : Int) = p := by unfold wid; omega
      rw [e1, Nat.mod_eq_of_lt V2.out.lt] at h
      rw [show (q : Int) + (V : Int) = (qv : Int) by omega] at h
      exact h)
    have HQV := Lib.hid hqv
    have g0 := Q2.out.c0
    have g1 := Q2.out.c1
    have g2 := Q2.out.c2
    clear hqv e2 f2
    go_upto_region 4 with fail
    go_region_law (first
      | (go_simp; go_at_call 99; refine (NX.out _).mono ?_; rintro e w3 ⟨rfl, hb3⟩; have d3 := D2.out.same (hb3.block b D2.out.lt); have c3 := d3.e3; have F3 := d3.free 3; have D3 := Lib.hid d3; have B3 : Hid (Below w2.heap.size w2 w3) := Lib.hid ⟨hb3.os, hb3.tape, hb3.output, hb3.size, hb3.block⟩; clear d3 hb3))
    all_goals
      go_wp2
      go_ret
      refine ⟨V, L', 0, rfl, V2.out, ?_, ?_, ?_⟩
      · exact (K2.out.on B3.out).other HB.out (Bt.grown_setCell _ _ _ _)
      · exact ((Chg.of_below B1.out).trans (chg_of_grown G2.out (.inl rfl))).trans (((Chg.refl _ _).below B3.out).set ⟨b, 3, none⟩ (.inr rfl) _)
      · rw [if_pos rfl, if_pos rfl, HQV.out]
        exact D3.out.set3 _
  · have hne : (er != 0) = true := by simpa using her
    have HE := Lib.hid her
    clear her hVp
    go_wp2
    go_ret
    refine ⟨V, L', er, rfl, V2.out, K2.out, ?_, ?_⟩
    · exact (Chg.of_below B1.out).trans (chg_of_grown G2.out (.inl rfl))
    · rw [if_neg HE.out, if_neg HE.out]
      exact D2.out

end Go.Proofs.YtnlhokfhkohdpaaGreat

namespace Go.Proofs.YtnlhokfhkohdpaaGreat
open Go.RowKit Go.Shelf

theorem new_cell {w W : World} (hb : Below w.heap.size w W) (x p q : Int) : ∃ W1 Wa Wb Wc, W.alloc (.cells #[.int .i64 0, .int .i64 0, .int .i64 0] 139) = W1 ∧
    W1.cell? ⟨W.heap.size, 0, none⟩ = some (.int .i64 0) ∧ W1.frozen? ⟨W.heap.size, 0, none⟩ = false ∧ W1.setCell ⟨W.heap.size, 0, none⟩ (.int .i64 x) = Wa ∧
    Wa.cell? ⟨W.heap.size, 1, none⟩ = some (.int .i64 0) ∧ Wa.frozen? ⟨W.heap.size, 1, none⟩ = false ∧ Wa.setCell ⟨W.heap.size, 1, none⟩ (.int .i64 p) = Wb ∧
    Wb.cell? ⟨W.heap.size, 2, none⟩ = some (.int .i64 0) ∧ Wb.frozen? ⟨W.heap.size, 2, none⟩ = false ∧ Wb.setCell ⟨W.heap.size, 2, none⟩ (.int .i64 q) = Wc ∧
    Ce Wc W.heap.size x p q ∧ Below W.heap.size W Wc ∧ Below w.heap.size w Wc := by
  have t1 := Ce.new W 0 0 0
  have b1 := below_new W (.cells #[.int .i64 0, .int .i64 0, .int .i64 0] 139)
  obtain ⟨Wa, Wb, Wc, c0, f0, hWa, c1, f1, hWb, c2, f2, hWc, hT, hB, _⟩ := set_cell t1 x p q b1 (Nat.le_refl _)
  exact ⟨_, Wa, Wb, Wc, rfl, c0, f0, hWa, c1, f1, hWb, c2, f2, hWc, hT, hB, below_on hb (Nat.le_refl _) hB⟩
/-- The same where the region draws its order. -/
theorem new_cell_dr (w : World) (x p q : Int) : ∃ W1 Wa Wb Wc, (w.alloc (.cells #[.int .i64 0, .int .i64 0, .int .i64 0] 139)).drew = W1 ∧
    W1.cell? ⟨w.heap.size, 0, none⟩ = some (.int .i64 0) ∧ W1.frozen? ⟨w.heap.size, 0, none⟩ = false ∧ W1.setCell ⟨w.heap.size, 0, none⟩ (.int .i64 x) = Wa ∧
    Wa.cell? ⟨w.heap.size, 1, none⟩ = some (.int .i64 0) ∧ Wa.frozen? ⟨w.heap.size, 1, none⟩ = false ∧ Wa.setCell ⟨w.heap.size, 1, none⟩ (.int .i64 p) = Wb ∧
    Wb.cell? ⟨w.heap.size, 2, none⟩ = some (.int .i64 0) ∧ Wb.frozen? ⟨w.heap.size, 2, none⟩ = false ∧ Wb.setCell ⟨w.heap.size, 2, none⟩ (.int .i64 q) = Wc ∧
    Ce Wc w.heap.size x p q ∧ Below w.heap.size w Wc := by
  obtain ⟨W1, Wa, Wb, Wc, hW1, k0, f0, hWa, k1, f1, hWb, k2, f2, hWc, hS, _, hB⟩ := new_cell (below_drewN' (Below.refl _ w) 1 : Below w.heap.size w w.drew) x p q
  exact ⟨W1, Wa, Wb, Wc, hW1, k0, f0, hWa, k1, f1, hWb, k2, f2, hWc, hS, hB⟩

/-- A decoder with its reader and its cells. -/
structure Ds (w0 W : World) (m b g s x c0 c1 : Nat) (L : List Bool) (C : List (Nat × Nat × Nat)) : Prop where
  db : Db W b g s x c0 c1
  rk : Rk w0 W x m L
  rc : Rc W g s s C
  gx : g < w0.heap.size ∨ (g ≠ x ∧ g < m)
  mb : m ≤ b
theorem Ds.gb {w0 W : World} {m b g s x c0 c1 : Nat} {L : List Bool} {C : List (Nat × Nat × Nat)} (h : Ds w0 W m b g s x c0 c1 L C) : g ≠ b ∧ g ≠ x := by
  have h1 := h.rk.ge
  have h2 := h.mb
  rcases h.gx with h3 | h3 <;> omega
theorem Rc.same {w w' : World} {g s cp : Nat} {C : List (Nat × Nat × Nat)} (h : Rc w g s cp C) (hb : w'.heap[g]? = w.heap[g]?) : Rc w' g s cp C := ⟨ro_same h.own (fun j ej => by cases ej; exact hb), h.len, h.le, h.small⟩
theorem Rc.lt {w : World} {g s cp : Nat} {C : List (Nat × Nat × Nat)} (h : Rc w g s cp C) : g < w.heap.size := ro_lt h.own rfl
section
variable {w0 W W' : World} {m b g s x c0 c1 : Nat} {L : List Bool} {C : List (Nat × Nat × Nat)}
theorem Ds.on (h : Ds w0 W m b g s x c0 c1 L C) (hb : Below W.heap.size W W') : Ds w0 W' m b g s x c0 c1 L C :=
  ⟨h.db.same (hb.block b h.db.lt), h.rk.on hb, h.rc.below hb, h.gx, h.mb⟩
theorem Ds.dr (h : Ds w0 W m b g s x c0 c1 L C) (d : Nat) : Ds w0 (W.drewN d) m b g s x c0 c1 L C := ⟨h.db, h.rk.dr d, h.rc.same rfl, h.gx, h.mb⟩
theorem Ds.other {y : Nat} (h : Ds w0 W m b g s x c0 c1 L C) (hy : b < y) (hg : W.grownBy W' (some y)) : Ds w0 W' m b g s x c0 c1 L C := by
  have hm := h.mb
  have hgg : g < m := by have := h.rk.ge; rcases h.gx with h3 | h3 <;> omega
  exact ⟨h.db.same (hg.block b h.db.lt (by simp; omega)), h.rk.other (by omega) hg, h.rc.same (hg.block g h.rc.lt (by simp; omega)), h.gx, h.mb⟩
theorem Ds.moved {c0' c1' : Nat} {L' : List Bool} (h : Ds w0 W m b g s x c0 c1 L C) (hk : Rk w0 W' x m L') (hc : Chg (Xb x b) W W') (hd : Db W' b g s x c0' c1') : Ds w0 W' m b g s x c0' c1' L' C :=
  ⟨hd, hk, h.rc.same (hc.block g h.rc.lt (fun (e : _ ∨ _) => by have := h.gb; omega)), h.gx, h.mb⟩
end

/-- What is left of the first states and the symbols, at lane i. -/
def fda (C : List (Nat × Nat × Nat)) (y n i a c : Nat) (L : List Bool) : Option (List Nat × List Bool) :=
  match i with
  | 0 => fdx C y L n
  | 1 => if n = 1 then fgo C n a c L else match lst L y with
    | none => none
    | some (c', L') => fgo C n a c' L'
  | _ => fgo C n a c L
theorem fda_end (C : List (Nat × Nat × Nat)) (y n a c : Nat) (L : List Bool) : fda C y n (min 2 n) a c L = fgo C n a c L := by
  match n with
  | 0 => simp [fda, fdx, fgo]
  | 1 => simp [fda]
  | n + 2 => rw [Nat.min_eq_left (by omega)]; rfl
theorem fda_zero {C : List (Nat × Nat × Nat)} {y n a c V : Nat} {L L' : List Bool} (hn : 0 < n) (h : lst L y = some (V, L')) : fda C y n 0 a c L = fda C y n 1 V c L' := by
  simp only [fda]
  rw [fdx, if_neg (by omega), h]
  dsimp only
  by_cases h1 : n = 1
  · rw [if_pos h1, if_pos h1, h1]
    simp [fgo]
  · rw [if_neg h1, if_neg h1]
    cases lst L' y <;> rfl
theorem fda_zero_n {C : List (Nat × Nat × Nat)} {y n a c : Nat} {L : List Bool} (hn : 0 < n) (h : lst L y = none) : fda C y n 0 a c L = none := by
  simp only [fda]
  rw [fdx, if_neg (by omega), h]
theorem fda_one {C : List (Nat × Nat × Nat)} {y n a c V : Nat} {L L' : List Bool} (hn : 1 < n) (h : lst L y = some (V, L')) : fda C y n 1 a c L = fda C y n 2 a V L' := by
  simp only [fda]
  rw [if_neg (by omega), h]
theorem fda_one_n {C : List (Nat × Nat × Nat)} {y n a c : Nat} {L : List Bool} (hn : 1 < n) (h : lst L y = none) : fda C y n 1 a c L = none := by
  simp only [fda]
  rw [if_neg (by omega), h]

/-- The symbols with those that have been read already. -/
def fgm (C : List (Nat × Nat × Nat)) (o : List Nat) (k a c : Nat) (L : List Bool) : Option (List Nat × List Bool) := (fgo C k a c L).map fun q => (o ++ q.1, q.2)
theorem fgm_nil (C : List (Nat × Nat × Nat)) (k a c : Nat) (L : List Bool) : fgm C [] k a c L = fgo C k a c L := by
  unfold fgm
  cases fgo C k a c L <;> simp
theorem fgm_zero (C : List (Nat × Nat × Nat)) (o : List Nat) (a c : Nat) (L : List Bool) : fgm C o 0 a c L = some (o, L) := by simp [fgm, fgo]
theorem fgm_last {C : List (Nat × Nat × Nat)} {o : List Nat} {k a c x p q : Nat} {L : List Bool} (hk : k < 2) (hc : cg C a = (x, p, q)) : fgm C o (k + 1) a c L = fgm C (o ++ [x]) k c a L := by
  unfold fgm
  rw [fgo, if_neg (by omega), hc, Option.map_map]
  congr 1
  funext z
  simp
theorem fgm_some {C : List (Nat × Nat × Nat)} {o : List Nat} {k a c x p q V : Nat} {L L' : List Bool} (hk : 2 ≤ k) (hc : cg C a = (x, p, q)) (h : lst L p = some (V, L')) : fgm C o (k + 1) a c L = fgm C (o ++ [x]) k c (q + V) L' := by
  unfold fgm
  rw [fgo, if_pos hk, hc]
  dsimp only
  rw [h]
  dsimp only
  rw [Option.map_map]
  congr 1
  funext z
  simp
theorem fgm_none {C : List (Nat × Nat × Nat)} {o : List Nat} {k a c x p q : Nat} {L : List Bool} (hk : 2 ≤ k) (hc : cg C a = (x, p, q)) (h : lst L p = none) : fgm C o (k + 1) a c L = none := by
  unfold fgm
  rw [fgo, if_pos hk, hc]
  dsimp only
  rw [h]
  rfl

theorem tmod_two (i : Nat) : (i : Int).tmod 2 = ((i % 2 : Nat) : Int) := by
  rw [Int.tmod_eq_emod_of_nonneg (Int.natCast_nonneg _)]
  omega
theorem lst_put {o : List Nat} {i : Nat} (h : o.length = i) (z k : Nat) : (o.map nv ++ List.replicate (k + 1) (Value.int .i64 0))[i]? = some (.int .i64 0) ∧ (o.map nv ++ List.replicate (k + 1) (Value.int .i64 0)).set i (.int .i64 (z : Int)) = (o ++ [z]).map nv ++ List.replicate k (.int .i64 0) := by
  subst h
  have e : o.length = (o.map nv).length := by simp
  refine ⟨by rw [e, List.getElem?_append_right (Nat.le_refl _), Nat.sub_self, List.replicate_succ]; rfl, ?_⟩
  rw [e, List.set_append_right _ _ (Nat.le_refl _), Nat.sub_self, List.replicate_succ]
  simp
theorem chg_new {S : Nat → Prop} {w a b : World} {y : Nat} (hw : Chg S w a) (h : a.grownBy b (some y)) (hs : w.heap.size ≤ y) : Chg S w b :=
  ⟨h.os.trans hw.os, h.tape.trans hw.tape, h.output.trans hw.output, Nat.le_trans hw.size h.size, fun k hk hnS => (h.block k (Nat.lt_of_lt_of_le hk hw.size) (by simp; omega)).trans (hw.block k hk hnS)⟩
/-- What symbols leaves: the symbols, or the error. -/
def SyP (w0 w : World) (m b x : Nat) (R : Option (List Nat × List Bool)) (e : Ending) (w' : World) : Prop :=
  Below w0.heap.size w0 w' ∧ Chg (Xb x b) w w' ∧ ((R = none ∧ e = .returned (.tuple #[.slice none 0 0, .int .i64 14])) ∨
    ∃ (o : List Nat) (L' : List Bool) (n g : Nat), R = some (o, L') ∧ e = .returned (.tuple #[.slice (some ⟨g, 0, none⟩) n n, .int .i64 0]) ∧ Rk w0 w' x m L' ∧ w'.ownsRow w.heap.size 3 1 (.slice (some ⟨g, 0, none⟩) n n) n (o.map nv))

set_option maxRecDepth 100000 in
set_option maxHeartbeats 2000000 in
theorem symbols_any (w0 w : World) {m b g s x y : Nat} {L : List Bool} {C : List (Nat × Nat × Nat)} (hD : Ds w0 w m b g s x 0 0 L C) (hM : Mch C y) (hs : 2 ^ y = s) (hy : y ≤ 9) (n : Nat) (hn : n ≤ 131072) :
    Calls Tryz.prog 39 #[.pointer (some ⟨b, 0, none⟩), .int .i64 (y : Int), .int .i64 (n : Int)] w (SyP w0 w m b x (fdx C y L n)) := by
  have hs1 : 0 < s := by rw [← hs]; exact Nat.two_pow_pos y
  obtain ⟨R, hR⟩ : ∃ R, fdx C y L n = R := ⟨_, rfl⟩
  rw [hR]
  have H0 : Hid (∃ (a c : Nat) (L' : List Bool), a < s ∧ c < s ∧ Ds w0 w m b g s x a c L' C ∧ fda C y n 0 a c L' = R) := Lib.hid ⟨0, 0, L, hs1, hs1, hD, hR⟩
  have HM := Lib.hid hM
  have HS := Lib.hid hs
  have HB : Hid (w0.heap.size ≤ m ∧ m ≤ b) := Lib.hid ⟨by have := hD.rk.ge; omega, hD.mb⟩
  obtain ⟨M, hMm⟩ : ∃ M, min 2 n = M := ⟨_, rfl⟩
  have hmin : min (2 : Int) (n : Int) = (M : Int) := by omega
  have hM2 : M ≤ 2 := by omega
  have HMM := Lib.hid hMm
  clear hD hM hs hR hs1 hMm
  go_enter Tryz.func39, Tryz.ntmps39
  go_wp2
  go_loopw [16] (fun p wr => ∃ i : Nat, i ≤ M ∧ p = .int .i64 (i : Int) ∧ Hid (Chg (Xb x b) w wr) ∧ Hid (∃ (a c : Nat) (L' : List Bool), a < s ∧ c < s ∧ Ds w0 wr m b g s x a c L' C ∧ fda C y n i a c L' = R)) (fun p _ => M - (intOf p).toNat)
  case atStart => exact ⟨0, Nat.zero_le _, rfl, Lib.hid (Chg.refl _ _), H0⟩
  case round =>
    clear H0
    obtain ⟨i, hi, rfl, HC, HI⟩ := hrel
    obtain ⟨a, c, L', ha, hc, hD, hf⟩ := HI.out
    by_cases hlt : i < M
    · have hn1 : 0 < n := by have := HMM.out; omega
      have hi01 : i = 0 ∨ i = 1 := by omega
      have MV0 := Lib.hid (move0 w0 wr hD.db hD.rk HB.out.2 0 y 0 hy (by omega))
      have MV1 := Lib.hid (move1 w0 wr hD.db hD.rk HB.out.2 0 y 0 hy (by omega))
      have HD := Lib.hid hD
      have HF := Lib.hid hf
      clear hD hf
      rcases hi01 with rfl | rfl
      · go_upto_region 5 with (go_at_call 76; refine MV0.out.mono ?_; rintro e w2 ⟨V, L2, er, rfl, hv2, hk2, hc2, hd2⟩; have V2 := Lib.hid hv2; have K2 := Lib.hid hk2; have C2 := Lib.hid hc2; have D2 := Lib.hid hd2; clear hv2 hk2 hc2 hd2)
        by_cases her : er = 0
        · subst her
          have hl2 : Hid (lst L' y = some (V, L2)) := Lib.hid (by rcases V2.out with ⟨h1, _⟩ | ⟨_, _, h2⟩; exact h1; exact absurd h2 (by decide))
          have HV : Hid (V < s) := Lib.hid (by rw [← HS.out]; exact V2.out.lt)
          have D3 : Hid (Db w2 b g s x V c) := Lib.hid (by have := D2.out; rwa [if_pos rfl, if_pos rfl, Nat.zero_add] at this)
          clear D2
          go_wp2
          exact ⟨⟨1, by omega, by simp, Lib.hid (HC.out.trans C2.out), Lib.hid ⟨V, c, L2, HV.out, hc, HD.out.moved K2.out C2.out D3.out, by rw [← HF.out]; exact (fda_zero (by have := HMM.out; omega) hl2.out).symm⟩⟩, by simp [intOf]; omega⟩
        · have hne : (er != 0) = true := by simpa using her
          have HE : Hid (R = none ∧ er = 14) := Lib.hid (by
            rcases V2.out with ⟨_, h⟩ | ⟨h1, _, h2⟩
            · exact absurd h her
            · exact ⟨by rw [← HF.out]; exact fda_zero_n (by have := HMM.out; omega) h1, h2⟩)
          clear her
          go_wp2
          go_ret2
          refine ⟨K2.out.bel, HC.out.trans C2.out, .inl ⟨HE.out.1, ?_⟩⟩
          rw [HE.out.2]
          rfl
      · go_upto_region 5 with (go_at_call 76; refine MV1.out.mono ?_; rintro e w2 ⟨V, L2, er, rfl, hv2, hk2, hc2, hd2⟩; have V2 := Lib.hid hv2; have K2 := Lib.hid hk2; have C2 := Lib.hid hc2; have D2 := Lib.hid hd2; clear hv2 hk2 hc2 hd2)
        by_cases her : er = 0
        · subst her
          have hl2 : Hid (lst L' y = some (V, L2)) := Lib.hid (by rcases V2.out with ⟨h1, _⟩ | ⟨_, _, h2⟩; exact h1; exact absurd h2 (by decide))
          have HV : Hid (V < s) := Lib.hid (by rw [← HS.out]; exact V2.out.lt)
          have D3 : Hid (Db w2 b g s x a V) := Lib.hid (by have := D2.out; rwa [if_pos rfl, if_pos rfl, Nat.zero_add] at this)
          clear D2
          go_wp2
          exact ⟨⟨2, by omega, by simp, Lib.hid (HC.out.trans C2.out), Lib.hid ⟨a, V, L2, ha, HV.out, HD.out.moved K2.out C2.out D3.out, by rw [← HF.out]; exact (fda_one (by have := HMM.out; omega) hl2.out).symm⟩⟩, by simp [intOf]; omega⟩
        · have hne : (er != 0) = true := by simpa using her
          have HE : Hid (R = none ∧ er = 14) := Lib.hid (by
            rcases V2.out with ⟨_, h⟩ | ⟨h1, _, h2⟩
            · exact absurd h her
            · exact ⟨by rw [← HF.out]; exact fda_one_n (by have := HMM.out; omega) h1, h2⟩)
          clear her
          go_wp2
          go_ret2
          refine ⟨K2.out.bel, HC.out.trans C2.out, .inl ⟨HE.out.1, ?_⟩⟩
          rw [HE.out.2]
          rfl
    · have hiM : i = M := by omega
      subst hiM
      have hf2 : fgo C n a c L' = R := by rw [← hf, ← HMM.out]; exact (fda_end C y n a c L').symm
      obtain ⟨w2, hmk, ho, hb2⟩ := make_ints n (by omega) wr
      have hlen : wr.heap.size < w2.heap.size := ro_lt ho rfl
      have H1 : Hid (∃ (o : List Nat) (a c : Nat) (L' : List Bool), o.length = 0 ∧ a < s ∧ c < s ∧ Ds w0 w2 m b g s x a c L' C ∧ fgm C o n a c L' = R ∧ w2.ownsRow wr.heap.size 3 1 (.slice (some ⟨wr.heap.size, 0, none⟩) n n) n (o.map nv ++ List.replicate n (.int .i64 0))) :=
        Lib.hid ⟨[], a, c, L', rfl, ha, hc, hD.on hb2, by rw [fgm_nil]; exact hf2, by simpa [List.map_replicate] using ho⟩
      have B2 := Lib.hid hb2
      have HLB : Hid (b < wr.heap.size) := Lib.hid hD.db.lt
      have HX : Hid (x < wr.heap.size ∧ w.heap.size ≤ wr.heap.size) := Lib.hid ⟨hD.rk.lt, HC.out.size⟩
      have HC2 : Hid (Chg (Xb x b) w w2) := Lib.hid (HC.out.below hb2)
      obtain ⟨gl, hgl⟩ : ∃ gl, wr.heap.size = gl := ⟨_, rfl⟩
      rw [hgl] at hmk H1 HLB HX
      have hgl2 : gl < w2.heap.size := by omega
      clear HI hD hf ho hb2 hf2 hlen HC hgl
      go_wp2
      clear hmk
      go_loopw [32] (fun p wq => ∃ i : Nat, i ≤ n ∧ p = .int .i64 (i : Int) ∧ Hid (Chg (Xb x b) w wq) ∧ Hid (∃ (o : List Nat) (a c : Nat) (L' : List Bool), o.length = i ∧ a < s ∧ c < s ∧ Ds w0 wq m b g s x (if i % 2 = 0 then a else c) (if i % 2 = 0 then c else a) L' C ∧ fgm C o (n - i) a c L' = R ∧ wq.ownsRow gl 3 1 (.slice (some ⟨gl, 0, none⟩) n n) n (o.map nv ++ List.replicate (n - i) (.int .i64 0)))) (fun p _ => n - (intOf p).toNat)
      case atStart => exact ⟨0, Nat.zero_le _, rfl, HC2, H1⟩
      case round =>
        clear H1
        obtain ⟨i, hi, rfl, HC, HI⟩ := hrel
        obtain ⟨o, a, c, L', hoi, ha, hc, hD, hf, ho⟩ := HI.out
        by_cases hlt : i < n
        · obtain ⟨k, hk⟩ : ∃ k, n - i = k + 1 := ⟨n - i - 1, by omega⟩
          rw [hk] at hf ho
          have hmc := HM.out.cell (i := a) (by rw [HS.out]; exact ha)
          obtain ⟨⟨z, p, q⟩, hcg⟩ : ∃ c, cg C a = c := ⟨_, rfl⟩
          rw [hcg] at hmc
          obtain ⟨hca, hpy, hqs⟩ := hmc
          simp only at hpy hqs
          rw [HS.out] at hqs
          have hsm := hD.rc.small a _ hca
          have hz2 : z ≤ 256 := hsm.1
          have hp9 : p ≤ 9 := hsm.2.1
          have hq5 : q ≤ 512 := hsm.2.2
          have hs5 : s ≤ 512 := hD.rc.le
          have ha5 : a ≤ 512 := by omega
          obtain ⟨r0, r1, r2⟩ := row_at hD.rc.own hca
          simp only [nw] at r0 r1 r2
          have q0 : wr.drew.cell? ⟨g, a * 3, none⟩ = some (.int .i64 (z : Int)) := r0
          have q1 : wr.drew.cell? ⟨g, a * 3 + 1, none⟩ = some (.int .i64 (p : Int)) := r1
          have q2 : wr.drew.cell? ⟨g, a * 3 + 2, none⟩ = some (.int .i64 (q : Int)) := r2
          have e0 : wr.drew.cell? ⟨b, 0, none⟩ = some (.slice (some ⟨g, 0, none⟩) s s) := hD.db.e0
          obtain ⟨W1, Wa, Wb, Wc, hW1, k0, f0, hWa, k1, f1, hWb, k2, f2, hWc, hS, hB⟩ := new_cell_dr wr (z : Int) (p : Int) (q : Int)
          have bW1 : Below wr.heap.size wr W1 := by rw [← hW1]; exact (below_drewN' (Below.refl _ wr) 1).alloc (Nat.le_refl _) _
          have v0 := (bW1.cell (cell_lt r0)).trans r0
          have v1 := (bW1.cell (cell_lt r1)).trans r1
          have v2 := (bW1.cell (cell_lt r2)).trans r2
          have v3 := (bW1.cell (cell_lt hD.db.e0)).trans hD.db.e0
          have HCG := Lib.hid hcg
          have HQS := Lib.hid hqs
          have HKK := Lib.hid hk
          have HF := Lib.hid hf
          have HO := Lib.hid hoi
          have n0 := hS.c0
          have hoc := own_below ho hB
          have HOI : Hid ((o.map nv ++ List.replicate (k + 1) (Value.int .i64 0))[i]? = some (.int .i64 0) ∧ (o.map nv ++ List.replicate (k + 1) (Value.int .i64 0)).set i (.int .i64 (z : Int)) = (o ++ [z]).map nv ++ List.replicate k (.int .i64 0)) := Lib.hid (lst_put (by rw [hoi]) z k)
          have g0 := hoc.cellAt i (by omega)
          rw [HOI.out.1] at g0
          obtain ⟨hst, hgr⟩ := hoc.stored i (.int .i64 (z : Int))
          rw [HOI.out.2] at hst
          have gf := hoc.frozenAt i
          have DC := (hD.on hB).other (HLB.out) hgr
          have C4 : Hid (Chg (Xb x b) w (Wc.setCell ⟨gl, i, none⟩ (.int .i64 (z : Int)))) := Lib.hid (chg_new (HC.out.below hB) hgr HX.out.2)
          obtain ⟨Wd, hWd⟩ : ∃ Wd, Wc.setCell ⟨gl, i, none⟩ (.int .i64 (z : Int)) = Wd := ⟨_, rfl⟩
          rw [hWd] at hst DC C4
          have hSd : Ce Wd wr.heap.size (z : Int) (p : Int) (q : Int) := by
            have hgl9 := ro_lt ho rfl
            have hgl10 : gl < wr.heap.size := hgl9
            have := hS.same (hgr.block _ hS.lt (fun e => by injection e with e; omega))
            rw [hWd] at this
            exact this
          have m0 := hSd.c0
          have m1 := hSd.c1
          have m2 := hSd.c2
          have HST := Lib.hid hst
          clear hst hgr hoc hB HI ho hsm hca r0 r1 r2 hcg hqs hk hf hoi
          rcases Nat.mod_two_eq_zero_or_one i with hpar | hpar
          · have e2 : wr.drew.cell? ⟨b, 2, none⟩ = some (.int .i64 (a : Int)) := by have := hD.db.e2; rw [if_pos hpar] at this; exact this
            have v4 := (bW1.cell (cell_lt e2)).trans e2
            have t2 : (i : Int).tmod 2 = 0 := by rw [tmod_two, hpar]; rfl
            have hp1 : (i + 1) % 2 = 1 := by omega
            have S4 : Hid (Ds w0 Wd m b g s x a c L' C) := Lib.hid (by rw [if_pos hpar, if_pos hpar] at DC; exact DC)
            have HP := Lib.hid hp1
            clear hpar hp1 hD DC bW1
            by_cases h2 : n ≤ i + 2
            · have k9 : decide ((n : Int) ≤ (i : Int) + 2) = true := decide_eq_true (by omega)
              go_wp2_with fail
              go_region
              go_wp2
              exact ⟨⟨i + 1, by omega, by simp, C4, Lib.hid ⟨o ++ [z], c, a, L', by rw [List.length_append, HO.out]; rfl, hc, ha, by rw [if_neg (by have := HP.out; omega), if_neg (by have := HP.out; omega)]; exact S4.out, by rw [← HF.out, show n - (i + 1) = k by have := HKK.out; omega]; exact (fgm_last (by have := HKK.out; omega) HCG.out).symm, by rw [show n - (i + 1) = k by have := HKK.out; omega]; exact HST.out⟩⟩, by simp [intOf]; omega⟩
            · have k9 : decide ((n : Int) ≤ (i : Int) + 2) = false := decide_eq_false (by omega)
              have MV := Lib.hid (move0 w0 Wd S4.out.db S4.out.rk HB.out.2 z p q hp9 hq5)
              go_wp2_with fail
              go_region
              go_upto_region 16 with (go_at_call 76; refine MV.out.mono ?_; rintro e w5 ⟨V, L5, er, rfl, hv5, hk5, hc5, hd5⟩; have V5 := Lib.hid hv5; have K5 := Lib.hid hk5; have C5 := Lib.hid hc5; have D5 := Lib.hid hd5; clear hv5 hk5 hc5 hd5)
              by_cases her : er = 0
              · subst her
                have hl5 : Hid (lst L' p = some (V, L5)) := Lib.hid (by rcases V5.out with ⟨h1, _⟩ | ⟨_, _, h2⟩; exact h1; exact absurd h2 (by decide))
                have HV : Hid (q + V < s) := Lib.hid (by have := V5.out.lt; have := HQS.out; omega)
                have D6 : Hid (Db w5 b g s x (q + V) c) := Lib.hid (by have := D5.out; rwa [if_pos rfl, if_pos rfl] at this)
                have O6 : Hid (w5.ownsRow gl 3 1 (.slice (some ⟨gl, 0, none⟩) n n) n ((o ++ [z]).map nv ++ List.replicate k (.int .i64 0))) := Lib.hid (ro_same HST.out (fun j ej => by cases ej; exact C5.out.block gl (ro_lt HST.out rfl) (fun (e : _ ∨ _) => by have := HLB.out; have := HX.out; omega)))
                clear D5
                go_wp2
                exact ⟨⟨i + 1, by omega, by simp, Lib.hid (C4.out.trans C5.out), Lib.hid ⟨o ++ [z], c, q + V, L5, by rw [List.length_append, HO.out]; rfl, hc, HV.out, by rw [if_neg (by have := HP.out; omega), if_neg (by have := HP.out; omega)]; exact S4.out.moved K5.out C5.out D6.out, by rw [← HF.out, show n - (i + 1) = k by have := HKK.out; omega]; exact (fgm_some (by have := HKK.out; omega) HCG.out hl5.out).symm, by rw [show n - (i + 1) = k by have := HKK.out; omega]; exact O6.out⟩⟩, by simp [intOf]; omega⟩
              · have hne : (er != 0) = true := by simpa using her
                have HE : Hid (R = none ∧ er = 14) := Lib.hid (by
                  rcases V5.out with ⟨_, h⟩ | ⟨h1, _, h2⟩
                  · exact absurd h her
                  · exact ⟨by rw [← HF.out]; exact fgm_none (by have := HKK.out; omega) HCG.out h1, h2⟩)
                clear her
                go_wp2
                go_ret2
                refine ⟨K5.out.bel, C4.out.trans C5.out, .inl ⟨HE.out.1, ?_⟩⟩
                rw [HE.out.2]
                rfl
          · have e2 : wr.drew.cell? ⟨b, 3, none⟩ = some (.int .i64 (a : Int)) := by have := hD.db.e3; rw [if_neg (by omega)] at this; exact this
            have v4 := (bW1.cell (cell_lt e2)).trans e2
            have t2 : (i : Int).tmod 2 = 1 := by rw [tmod_two, hpar]; rfl
            have hp1 : (i + 1) % 2 = 0 := by omega
            have S4 : Hid (Ds w0 Wd m b g s x c a L' C) := Lib.hid (by rw [if_neg (by omega), if_neg (by omega)] at DC; exact DC)
            have HP := Lib.hid hp1
            clear hpar hp1 hD DC bW1
            by_cases h2 : n ≤ i + 2
            · have k9 : decide ((n : Int) ≤ (i : Int) + 2) = true := decide_eq_true (by omega)
              go_wp2_with fail
              go_region
              go_wp2
              exact ⟨⟨i + 1, by omega, by simp, C4, Lib.hid ⟨o ++ [z], c, a, L', by rw [List.length_append, HO.out]; rfl, hc, ha, by rw [if_pos (by have := HP.out; omega), if_pos (by have := HP.out; omega)]; exact S4.out, by rw [← HF.out, show n - (i + 1) = k by have := HKK.out; omega]; exact (fgm_last (by have := HKK.out; omega) HCG.out).symm, by rw [show n - (i + 1) = k by have := HKK.out; omega]; exact HST.out⟩⟩, by simp [intOf]; omega⟩
            · have k9 : decide ((n : Int) ≤ (i : Int) + 2) = false := decide_eq_false (by omega)
              have MV := Lib.hid (move1 w0 Wd S4.out.db S4.out.rk HB.out.2 z p q hp9 hq5)
              go_wp2_with fail
              go_region
              go_upto_region 16 with (go_at_call 76; refine MV.out.mono ?_; rintro e w5 ⟨V, L5, er, rfl, hv5, hk5, hc5, hd5⟩; have V5 := Lib.hid hv5; have K5 := Lib.hid hk5; have C5 := Lib.hid hc5; have D5 := Lib.hid hd5; clear hv5 hk5 hc5 hd5)
              by_cases her : er = 0
              · subst her
                have hl5 : Hid (lst L' p = some (V, L5)) := Lib.hid (by rcases V5.out with ⟨h1, _⟩ | ⟨_, _, h2⟩; exact h1; exact absurd h2 (by decide))
                have HV : Hid (q + V < s) := Lib.hid (by have := V5.out.lt; have := HQS.out; omega)
                have D6 : Hid (Db w5 b g s x c (q + V)) := Lib.hid (by have := D5.out; rwa [if_pos rfl, if_pos rfl] at this)
                have O6 : Hid (w5.ownsRow gl 3 1 (.slice (some ⟨gl, 0, none⟩) n n) n ((o ++ [z]).map nv ++ List.replicate k (.int .i64 0))) := Lib.hid (ro_same HST.out (fun j ej => by cases ej; exact C5.out.block gl (ro_lt HST.out rfl) (fun (e : _ ∨ _) => by have := HLB.out; have := HX.out; omega)))
                clear D5
                go_wp2
                exact ⟨⟨i + 1, by omega, by simp, Lib.hid (C4.out.trans C5.out), Lib.hid ⟨o ++ [z], c, q + V, L5, by rw [List.length_append, HO.out]; rfl, hc, HV.out, by rw [if_pos (by have := HP.out; omega), if_pos (by have := HP.out; omega)]; exact S4.out.moved K5.out C5.out D6.out, by rw [← HF.out, show n - (i + 1) = k by have := HKK.out; omega]; exact (fgm_some (by have := HKK.out; omega) HCG.out hl5.out).symm, by rw [show n - (i + 1) = k by have := HKK.out; omega]; exact O6.out⟩⟩, by simp [intOf]; omega⟩
              · have hne : (er != 0) = true := by simpa using her
                have HE : Hid (R = none ∧ er = 14) := Lib.hid (by
                  rcases V5.out with ⟨_, h⟩ | ⟨h1, _, h2⟩
                  · exact absurd h her
                  · exact ⟨by rw [← HF.out]; exact fgm_none (by have := HKK.out; omega) HCG.out h1, h2⟩)
                clear her
                go_wp2
                go_ret2
                refine ⟨K5.out.bel, C4.out.trans C5.out, .inl ⟨HE.out.1, ?_⟩⟩
                rw [HE.out.2]
                rfl
        · have hin : i = n := by omega
          subst hin
          rw [Nat.sub_self, fgm_zero] at hf
          rw [Nat.sub_self, List.replicate_zero, List.append_nil] at ho
          have HE := Lib.hid hf.symm
          have HO := Lib.hid (Bt.own_base ho HX.out.2)
          have HK := Lib.hid hD.rk
          clear HI hD hf ho
          go_wp2
          go_ret2
          exact ⟨HK.out.bel, HC.out, .inr ⟨o, L', i, gl, HE.out, rfl, HK.out, HO.out⟩⟩

end Go.Proofs.YtnlhokfhkohdpaaGreat

namespace Go.Proofs.YtnlhokfhkohdpaaGreat
open Go.RowKit Go.Shelf
open Bt (unp unp_len endOf)

/-- A decoder that is stored into a new variable. -/
theorem new_dec {w W : World} (hb : Below w.heap.size w W) (g s x : Nat) : ∃ W1 Wa Wb Wc Wd, W.alloc (.cells #[.slice none 0 0, .pointer none, .int .i64 0, .int .i64 0] 92) = W1 ∧
    W1.cell? ⟨W.heap.size, 0, none⟩ = some (.slice none 0 0) ∧ W1.frozen? ⟨W.heap.size, 0, none⟩ = false ∧ W1.setCell ⟨W.heap.size, 0, none⟩ (.slice (some ⟨g, 0, none⟩) s s) = Wa ∧
    Wa.cell? ⟨W.heap.size, 1, none⟩ = some (.pointer none) ∧ Wa.frozen? ⟨W.heap.size, 1, none⟩ = false ∧ Wa.setCell ⟨W.heap.size, 1, none⟩ (.pointer (some ⟨x, 0, none⟩)) = Wb ∧
    Wb.cell? ⟨W.heap.size, 2, none⟩ = some (.int .i64 0) ∧ Wb.frozen? ⟨W.heap.size, 2, none⟩ = false ∧ Wb.setCell ⟨W.heap.size, 2, none⟩ (.int .i64 0) = Wc ∧
    Wc.cell? ⟨W.heap.size, 3, none⟩ = some (.int .i64 0) ∧ Wc.frozen? ⟨W.heap.size, 3, none⟩ = false ∧ Wc.setCell ⟨W.heap.size, 3, none⟩ (.int .i64 0) = Wd ∧
    Db Wd W.heap.size g s x 0 0 ∧ Below W.heap.size W Wd ∧ Below w.heap.size w Wd := by
  have h1 : (W.alloc (.cells #[.slice none 0 0, .pointer none, .int .i64 0, .int .i64 0] 92)).heap[W.heap.size]? = some (.cells #[.slice none 0 0, .pointer none, .int .i64 0, .int .i64 0] 92 (0, 0)) := World.alloc_heap_new W _
  have b1 := below_new W (.cells #[.slice none 0 0, .pointer none, .int .i64 0, .int .i64 0] 92)
  generalize W.alloc (.cells #[.slice none 0 0, .pointer none, .int .i64 0, .int .i64 0] 92) = W1 at h1 b1
  obtain ⟨Wa, hw0⟩ : ∃ X, W1.setCell ⟨W.heap.size, 0, none⟩ (.slice (some ⟨g, 0, none⟩) s s) = X := ⟨_, rfl⟩
  have h2 : Wa.heap[W.heap.size]? = some (.cells #[.slice (some ⟨g, 0, none⟩) s s, .pointer none, .int .i64 0, .int .i64 0] 92 (0, 0)) := by rw [← hw0]; simp [World.setCell, Array.getElem?_modify, h1]
  have b2 : Below W.heap.size W Wa := by rw [← hw0]; exact b1.setCell (p := ⟨W.heap.size, 0, none⟩) (Nat.le_refl _) _
  obtain ⟨Wb, hw1⟩ : ∃ X, Wa.setCell ⟨W.heap.size, 1, none⟩ (.pointer (some ⟨x, 0, none⟩)) = X := ⟨_, rfl⟩
  have h3 : Wb.heap[W.heap.size]? = some (.cells #[.slice (some ⟨g, 0, none⟩) s s, .pointer (some ⟨x, 0, none⟩), .int .i64 0, .int .i64 0] 92 (0, 0)) := by rw [← hw1]; simp [World.setCell, Array.getElem?_modify, h2]
  have b3 : Below W.heap.size W Wb := by rw [← hw1]; exact b2.setCell (p := ⟨W.heap.size, 1, none⟩) (Nat.le_refl _) _
  obtain ⟨Wc, hw2⟩ : ∃ X, Wb.setCell ⟨W.heap.size, 2, none⟩ (.int .i64 0) = X := ⟨_, rfl⟩
  have h4 : Wc.heap[W.heap.size]? = some (.cells #[.slice (some ⟨g, 0, none⟩) s s, .pointer (some ⟨x, 0, none⟩), .int .i64 0, .int .i64 0] 92 (0, 0)) := by rw [← hw2]; simp [World.setCell, Array.getElem?_modify, h3]
  have b4 : Below W.heap.size W Wc := by rw [← hw2]; exact b3.setCell (p := ⟨W.heap.size, 2, none⟩) (Nat.le_refl _) _
  obtain ⟨Wd, hw3⟩ : ∃ X, Wc.setCell ⟨W.heap.size, 3, none⟩ (.int .i64 0) = X := ⟨_, rfl⟩
  have h5 : Wd.heap[W.heap.size]? = some (.cells #[.slice (some ⟨g, 0, none⟩) s s, .pointer (some ⟨x, 0, none⟩), .int .i64 0, .int .i64 0] 92 (0, 0)) := by rw [← hw3]; simp [World.setCell, Array.getElem?_modify, h4]
  have b5 : Below W.heap.size W Wd := by rw [← hw3]; exact b4.setCell (p := ⟨W.heap.size, 3, none⟩) (Nat.le_refl _) _
  exact ⟨W1, Wa, Wb, Wc, Wd, rfl, by rw [cell_of_row W1 _ 0 _ _ _ h1]; rfl, by simp [World.frozen?, h1], hw0, by rw [cell_of_row Wa _ 1 _ _ _ h2]; rfl, by simp [World.frozen?, h2], hw1, by rw [cell_of_row Wb _ 2 _ _ _ h3]; rfl, by simp [World.frozen?, h3], hw2, by rw [cell_of_row Wc _ 3 _ _ _ h4]; rfl, by simp [World.frozen?, h4], hw3, h5, b5, below_on hb (Nat.le_refl _) b5⟩

theorem SyP.form {w0 w w' : World} {m b x : Nat} {R : Option (List Nat × List Bool)} {e : Ending} (h : SyP w0 w m b x R e w') :
    ∃ (A4 : Option Addr) (n4 c4 : Nat) (er : Int), e = .returned (.tuple #[.slice A4 n4 c4, .int .i64 er]) ∧ Below w0.heap.size w0 w' ∧ (er ≠ 0 → R = none ∧ er = 14) ∧
      (er = 0 → ∃ (o : List Nat) (L' : List Bool), R = some (o, L') ∧ Rk w0 w' x m L' ∧ w'.ownsRow w.heap.size 3 1 (.slice A4 n4 c4) n4 (o.map nv)) := by
  obtain ⟨h1, h2, ⟨h3, rfl⟩ | ⟨o, L', n, g, h3, rfl, h4, h5⟩⟩ := h
  · exact ⟨_, _, _, _, rfl, h1, fun _ => ⟨h3, rfl⟩, fun h => absurd h (by decide)⟩
  · exact ⟨_, _, _, _, rfl, h1, fun h => absurd rfl h, fun _ => ⟨o, L', h3, h4, h5⟩⟩
theorem own_drewN {w : World} {B n : Nat} {v : Value} {xs : List Value} (h : w.ownsRow B 3 1 v n xs) (d : Nat) : (w.drewN d).ownsRow B 3 1 v n xs := h

set_option maxRecDepth 100000 in
set_option maxHeartbeats 2000000 in
theorem fdec_bad (w : World) (y : Int) (A : Option Addr) (l : List Int) (N cap : Nat) (hN : l.length = N) (hb : N ≤ 100000) (hR : Ri w A l) (B : Option Addr) (nb cb : Nat) (n : Int) (hv : vt y l 256 9 = false) :
    Calls Tryz.prog 14 #[tb y A N cap, .slice B nb cb, .int .i64 n] w (Fres w (13, [])) := by
  have b1 := below_new w (.cells #[.int .i64 y, .slice A N cap] 28)
  have t1 := Tb.new w y A N cap
  obtain ⟨w1, hw1⟩ : ∃ w1, w.alloc (.cells #[.int .i64 y, .slice A N cap] 28) = w1 := ⟨_, rfl⟩
  rw [hw1] at b1 t1
  have c0 := t1.c0
  have c1 := t1.c1
  have B1 := Lib.hid b1
  have OF := Lib.hid (build_bad w1 y A l N cap hN (by omega) hv (hR.below b1))
  clear b1 t1 hR hN hv
  go_enter Tryz.func14, Tryz.ntmps14
  go_wp2_with (go_at_call 37; refine OF.out.mono ?_; rintro e w2 ⟨rfl, hb2⟩; have B2 := Lib.hid (below_on B1.out (Nat.le_refl _) hb2); clear hb2)
  go_ret2
  exact Fres.none rfl B2.out

set_option maxRecDepth 100000 in
set_option maxHeartbeats 2000000 in
theorem fdec_arg (w : World) (y : Nat) (A : Option Addr) (l : List Int) (N cap : Nat) (hN : l.length = N) (hR : Ri w A l) (B : Option Addr) (nb cb : Nat) (n : Int) (hv : Vt y l) (hn : n < 0 ∨ 131072 < n) :
    Calls Tryz.prog 14 #[tb (y : Int) A N cap, .slice B nb cb, .int .i64 n] w (Fres w (2, [])) := by
  have b1 := below_new w (.cells #[.int .i64 (y : Int), .slice A N cap] 28)
  have t1 := Tb.new w (y : Int) A N cap
  obtain ⟨w1, hw1⟩ : ∃ w1, w.alloc (.cells #[.int .i64 (y : Int), .slice A N cap] 28) = w1 := ⟨_, rfl⟩
  rw [hw1] at b1 t1
  have c0 := t1.c0
  have c1 := t1.c1
  have B1 := Lib.hid b1
  have OF := Lib.hid (build_ok w1 y _ A l N cap hN hv rfl (hR.below b1))
  clear b1 t1 hR hN hv
  by_cases h0 : n < 0
  · have d0 : decide (n < 0) = true := decide_eq_true h0
    clear hn
    go_enter Tryz.func14, Tryz.ntmps14
    go_wp2_with (go_at_call 37; refine OF.out.mono ?_; rintro e w2 ⟨g, rfl, ho2, hb2⟩; have O2 := Lib.hid ho2; have D12 := Lib.hid hb2; have B2 := Lib.hid (below_on B1.out (Nat.le_refl _) hb2); clear ho2 hb2)
    go_ret2
    exact Fres.none rfl B2.out
  · have d0 : decide (n < 0) = false := decide_eq_false h0
    have d1 : decide (131072 < n) = true := decide_eq_true (by omega)
    clear hn
    go_enter Tryz.func14, Tryz.ntmps14
    go_wp2_with (go_at_call 37; refine OF.out.mono ?_; rintro e w2 ⟨g, rfl, ho2, hb2⟩; have O2 := Lib.hid ho2; have D12 := Lib.hid hb2; have B2 := Lib.hid (below_on B1.out (Nat.le_refl _) hb2); clear ho2 hb2)
    go_ret2
    exact Fres.none rfl B2.out

set_option maxRecDepth 100000 in
set_option maxHeartbeats 2000000 in
theorem fdec_open (w : World) (y : Nat) (A : Option Addr) (l : List Int) (N cap : Nat) (hN : l.length = N) (hR : Ri w A l) (B : Option Addr) (D : List UInt8) (nb cb : Nat) (hD : D.length = nb) (hb5 : nb ≤ 1000000) (hRB : Bt.Rd w B D) (n : Nat) (hv : Vt y l) (hn : n ≤ 131072) (he : endOf D = none) :
    Calls Tryz.prog 14 #[tb (y : Int) A N cap, .slice B nb cb, .int .i64 (n : Int)] w (Fres w (14, [])) := by
  have b1 := below_new w (.cells #[.int .i64 (y : Int), .slice A N cap] 28)
  have t1 := Tb.new w (y : Int) A N cap
  obtain ⟨w1, hw1⟩ : ∃ w1, w.alloc (.cells #[.int .i64 (y : Int), .slice A N cap] 28) = w1 := ⟨_, rfl⟩
  rw [hw1] at b1 t1
  have c0 := t1.c0
  have c1 := t1.c1
  have B1 := Lib.hid b1
  have hn0 : decide ((n : Int) < 0) = false := decide_eq_false (by omega)
  have hn1 : decide (131072 < (n : Int)) = false := decide_eq_false (by omega)
  have OF := Lib.hid (build_ok w1 y _ A l N cap hN hv rfl (hR.below b1))
  have NB : Hid (∀ W, Below w.heap.size w W → Calls Tryz.prog 38 #[.slice B nb cb] W fun r w' => r = .returned (.tuple #[.pointer none, .int .i64 14]) ∧ W = w') := Lib.hid (fun W hb => Bt.newb_n W B D nb cb hD (by omega) (Bt.Rv.below hRB hb) he)
  clear b1 t1 hR hN hv hRB hD he
  go_enter Tryz.func14, Tryz.ntmps14
  go_wp2_with (first
    | (go_at_call 37; refine OF.out.mono ?_; rintro e w2 ⟨g, rfl, ho2, hb2⟩; have O2 := Lib.hid ho2; have D12 := Lib.hid hb2; have B2 := Lib.hid (below_on B1.out (Nat.le_refl _) hb2); clear ho2 hb2)
    | (go_at_call 38; refine (NB.out w2 B2.out).mono ?_; rintro e w2 ⟨rfl, rfl⟩))
  go_ret2
  exact Fres.none rfl B2.out

set_option maxRecDepth 100000 in
set_option maxHeartbeats 2000000 in
theorem fdec_good (w : World) (y : Nat) (A : Option Addr) (l : List Int) (N cap : Nat) (hN : l.length = N) (hR : Ri w A l) (B : Option Addr) (D : List UInt8) (nb cb : Nat) (hD : D.length = nb) (hb5 : nb ≤ 1000000) (hRB : Bt.Rd w B D) (n : Nat) (hv : Vt y l) (hn : n ≤ 131072) (e : Nat) (he : endOf D = some e) (R : Nat × List Nat) (hRR : (match fdc (CC y l) y ((unp D).take e) n with | none => (14, []) | some o => (0, o)) = R) :
    Calls Tryz.prog 14 #[tb (y : Int) A N cap, .slice B nb cb, .int .i64 (n : Int)] w (Fres w R) := by
  have b1 := below_new w (.cells #[.int .i64 (y : Int), .slice A N cap] 28)
  have t1 := Tb.new w (y : Int) A N cap
  obtain ⟨w1, hw1⟩ : ∃ w1, w.alloc (.cells #[.int .i64 (y : Int), .slice A N cap] 28) = w1 := ⟨_, rfl⟩
  rw [hw1] at b1 t1
  have c0 := t1.c0
  have c1 := t1.c1
  have B1 := Lib.hid b1
  have hn0 : decide ((n : Int) < 0) = false := decide_eq_false (by omega)
  have hn1 : decide (131072 < (n : Int)) = false := decide_eq_false (by omega)
  obtain ⟨s, hse⟩ : ∃ s, 2 ^ y = s := ⟨_, rfl⟩
  have hy9 := hv.log
  have OF := Lib.hid (build_ok w1 y s A l N cap hN hv hse (hR.below b1))
  have HC : Hid (cls y l (spl s l) = CC y l) := Lib.hid (by rw [← hse]; rfl)
  have HM := Lib.hid (vt_mch hv)
  have HS := Lib.hid hse
  have HX : Hid (∀ W g, W.ownsRow 0 139 3 (.slice (some ⟨g, 0, none⟩) s s) s (flat3 (CC y l)) → Rc W g s s (CC y l)) := Lib.hid (fun W g h => ⟨h, by rw [← hse]; exact (vt_mch hv).len, by rw [← hse]; exact hv.size, cls_small hv rfl⟩)
  have NB : Hid (∀ W, Below w.heap.size w W → Calls Tryz.prog 38 #[.slice B nb cb] W fun r w' => ∃ x, r = .returned (.tuple #[.pointer (some ⟨x, 0, none⟩), .int .i64 0]) ∧ Bt.Made W 141 D e x w') := Lib.hid (fun W hb => Bt.newb_s W B D nb cb hD (by omega) (Bt.Rv.below hRB hb) e he)
  have HE : Hid (e ≤ 8 * D.length ∧ D.length ≤ 1000000) := Lib.hid ⟨by obtain ⟨_, _, _, _, _, h⟩ := Bt.endOf_some he; omega, by omega⟩
  have HR := Lib.hid hRR
  clear b1 t1 hR hN hv hRB hD he hRR hse
  go_enter Tryz.func14, Tryz.ntmps14
  go_upto_region 9 with (first
    | (go_at_call 37; refine OF.out.mono ?_; rintro e w2 ⟨g, rfl, ho2, hb2⟩; have O2 := Lib.hid ho2; have D12 := Lib.hid hb2; have B2 := Lib.hid (below_on B1.out (Nat.le_refl _) hb2); clear ho2 hb2)
    | (go_at_call 38; refine (NB.out w2 B2.out).mono ?_; rintro e3 w3 ⟨x, rfl, hm3⟩; have M3 := Lib.hid hm3; clear hm3))
  obtain ⟨A3, cp3, hr3⟩ := M3.out
  obtain ⟨W1, Wa, Wb, Wc, Wd, hW1, k0, f0, hWa, k1, f1, hWb, k2, f2, hWc, k3, f3, hWd, hDb, hBd, hB⟩ := new_dec (below_on B2.out (Nat.le_refl _) hr3.bel) g s x
  have hrc : Rc Wd g s s (CC y l) := HX.out _ _ (by
    have := ro_below (ro_below O2.out hr3.bel) hBd
    rw [HC.out] at this
    exact ro_base this (Nat.zero_le _))
  have hgx : g < w2.heap.size := ro_lt O2.out rfl
  have hrr := (Bt.Rr.from B2.out hr3).on hBd
  have hds : Ds w Wd w3.heap.size w3.heap.size g s x 0 0 ((unp D).take e) (CC y l) :=
    ⟨hDb, ⟨A3, cp3, D, e, hrr, HE.out.1, HE.out.2, rfl, hr3.sp.lt, fun ad h => (hr3.sp.ne ad h).2⟩, hrc, .inr ⟨by have := hr3.ge; omega, Nat.lt_of_lt_of_le hgx hr3.bel.size⟩, Nat.le_refl _⟩
  have SY := Lib.hid (symbols_any w Wd hds HM.out HS.out hy9 n hn)
  have HD := Lib.hid hds
  have y0 : Wd.cell? ⟨w.heap.size, 0, none⟩ = some (.int .i64 (y : Int)) := ((below_on D12.out (Nat.le_refl _) (below_on hr3.bel (Nat.le_refl _) hBd)).cell (cell_lt c0)).trans c0
  clear M3 hr3 hDb hBd hrc hgx hrr hds NB OF
  go_upto_region 11 with (go_at_call 39; refine SY.out.mono ?_; intro e4 w4 h4; obtain ⟨A4, n4, c4, er, rfl, hb4, h5⟩ := h4.form; have B4 := Lib.hid hb4; have H4 := Lib.hid h5; clear hb4 h4 h5)
  by_cases her : er = 0
  · subst her
    obtain ⟨o, L', hfd, hk4, ho4⟩ := H4.out.2 rfl
    have LF := Lib.hid (rk_left hk4)
    have HL := Lib.hid (rfl : L'.length = L'.length)
    obtain ⟨M, hM⟩ : ∃ M, L'.length = M := ⟨_, rfl⟩
    rw [hM] at LF
    have O4 := Lib.hid (Bt.own_base ho4 (show w.heap.size ≤ Wd.heap.size from HD.out.rk.bel.size))
    by_cases hM0 : M = 0
    · subst hM0
      have HR0 : Hid (R = (0, o)) := Lib.hid (by
        obtain rfl := List.eq_nil_of_length_eq_zero hM
        rw [← HR.out, fdc, hfd])
      clear hfd hk4 ho4 hM
      go_wp2_with (go_at_call 40; refine LF.out.mono ?_; rintro e5 w5 ⟨rfl, d5, rfl⟩)
      go_ret2
      rw [HR0.out]
      exact ⟨_, _, _, rfl, below_drewN' B4.out d5, own_drewN O4.out d5⟩
    · have kM : decide ((0 : Int) < (M : Int)) = true := decide_eq_true (by omega)
      have HR0 : Hid (R = (14, [])) := Lib.hid (by
        rw [← HR.out, fdc, hfd]
        match L', hM with
        | [], hM => exact absurd hM.symm hM0
        | _ :: _, _ => rfl)
      clear hfd hk4 ho4 hM
      go_wp2_with (go_at_call 40; refine LF.out.mono ?_; rintro e5 w5 ⟨rfl, d5, rfl⟩)
      go_ret2
      rw [HR0.out]
      exact Fres.none rfl (below_drewN' B4.out d5)
  · have hne : (er != 0) = true := by simpa using her
    have HE2 := Lib.hid (H4.out.1 her)
    have HR0 : Hid (R = (14, [])) := Lib.hid (by rw [← HR.out, fdc, HE2.out.1])
    clear her
    go_wp2
    go_ret2
    rw [HR0.out]
    exact Fres.none HE2.out.2 B4.out

/-- Decode, at any arguments. -/
theorem fdec_any (w : World) (y : Int) (A : Option Addr) (l : List Int) (N cap : Nat) (hN : l.length = N) (hb : N ≤ 100000) (hR : Ri w A l) (B : Option Addr) (D : List UInt8) (nb cb : Nat) (hD : D.length = nb) (hb5 : nb ≤ 1000000) (hRB : Bt.Rd w B D) (n : Int) :
    Calls Tryz.prog 14 #[tb y A N cap, .slice B nb cb, .int .i64 n] w (Fres w (fdR y l D n)) := by
  cases hv : vt y l 256 9 with
  | false =>
    rw [fdR_bad D n hv]
    exact fdec_bad w y A l N cap hN hb hR B nb cb n hv
  | true =>
    obtain ⟨k, rfl, hvt⟩ := vt_iff.1 hv
    by_cases hn : n < 0 ∨ 131072 < n
    · rw [fdR_arg D hv hn]
      exact fdec_arg w k A l N cap hN hR B nb cb n hvt hn
    · obtain ⟨nn, rfl⟩ : ∃ nn : Nat, n = (nn : Int) := ⟨n.toNat, by omega⟩
      cases he : endOf D with
      | none =>
        rw [fdR_ok D hvt (by omega), he]
        exact fdec_open w k A l N cap hN hR B D nb cb hD hb5 hRB nn hvt (by omega) he
      | some e =>
        rw [fdR_ok D hvt (by omega), he]
        exact fdec_good w k A l N cap hN hR B D nb cb hD hb5 hRB nn hvt (by omega) e he _ rfl

end Go.Proofs.YtnlhokfhkohdpaaGreat
