/-
  What Len, Bytes and Close do: the number of bits, the bytes of the stream and of the closed stream in new memory. Condition: fewer than 2^40 bits.
-/
import Derived.Test.YtpjbjbohbdlciaaQPut
namespace Go.Proofs.Ytpjbjbohbdlciaa.Bt
open Go.RowKit

/-- A slice in new memory that holds the bytes l. -/
def Got (w : World) (l : List UInt8) (e : Ending) (w' : World) : Prop :=
  ∃ A c, e = .returned (.slice A l.length c) ∧ w'.ownsRow w.heap.size 5 1 (.slice A l.length c) l.length (l.map byt) ∧ Below w.heap.size w w'

set_option maxHeartbeats 400000 in
theorem len_nil (w : World) : Calls Try.prog 32 #[.pointer none] w fun e w' => e = .returned (.int .i64 0) ∧ w = w' := by
  go_enter Try.func32, Try.ntmps32
  go_wp2
  go_ret
  exact ⟨rfl, rfl⟩
set_option maxHeartbeats 400000 in
theorem bytes_nil (w : World) : Calls Try.prog 30 #[.pointer none] w fun e w' => e = .returned (.slice none 0 0) ∧ w = w' := by
  go_enter Try.func30, Try.ntmps30
  go_wp2
  go_ret
  exact ⟨rfl, rfl⟩
set_option maxHeartbeats 400000 in
theorem len_any {w : World} {x : Nat} {v : Value} {l : List Bool} (h : Wr w x v l) (hs : l.length ≤ 1099511627776) :
    Calls Try.prog 32 #[.pointer (some ⟨x, 0, none⟩)] w fun e w' => e = .returned (.int .i64 (l.length : Int)) ∧ ∃ d, w' = w.drewN d := by
  obtain ⟨F, p, c, hb, hc, hst, ho⟩ := h
  obtain ⟨A, cp, rfl, _⟩ := own_form ho
  have c1 := hb.cell1
  have c2 := hb.cell2
  have hl := hst.len
  obtain ⟨NF, hNF⟩ : ∃ NF, F.length = NF := ⟨_, rfl⟩
  rw [hNF] at c2 hl
  rw [hl] at hs ⊢
  clear hb ho hst hl hNF
  go_enter Try.func32, Try.ntmps32
  go_wp2
  go_quiet (fail)
  go_wp2
  go_ret
  exact ⟨by simp, _, rfl⟩

theorem made_own {w : World} {k : Nat} {Z : List Value} (hz : Z.length = k) (hm : k ≤ maxLen) :
    (w.alloc (.cells Z.toArray 5)).ownsRow w.heap.size 5 1 (.slice (some ⟨w.heap.size, 0, none⟩) 0 k) 0 [] :=
  ⟨rfl, .inr ⟨w.heap.size, k, _, rfl, Nat.le_refl _, heap_alloc_new w _, Nat.zero_le _, hm, by simp [hz], by simp⟩⟩

set_option maxHeartbeats 1000000 in
theorem followed_any {w : World} {x p c n cp : Nat} {A : Option Addr} {F : List UInt8} (hb : WrBlk w x p c (.slice A n cp)) (hn : F.length = n) (hs : n ≤ 1099511627840) (hR : Rd w A F) (B : Option Addr) (m cb : Nat) (G : List UInt8) (hm : G.length = m) (hm1 : m ≤ 16) (hG : Rd w B G) :
    Calls Try.prog 54 #[.pointer (some ⟨x, 0, none⟩), .slice B m cb] w (Got w (F ++ G)) := by
  have c2 := hb.cell2
  have HB := Lib.hid hb
  obtain ⟨i0, hi, hz0, hz1, hz2⟩ := info_parts byte_info
  obtain ⟨Z, hZ⟩ : ∃ Z, (madeCells (Value.cells (.int .u8 0)) ((n + m) * i0.size)).toList = Z := ⟨_, rfl⟩
  have hZl : Z.length = n + m := by rw [← hZ, Array.length_toList, size_madeCells, hz1]; omega
  have hmk : ∀ W : World, (Instr.makeSlice 26 (.int .i64 0) (.int .i64 ((n : Int) + (m : Int)))).run Try.prog W = .ok (.slice (some ⟨W.heap.size, 0, none⟩) 0 (n + m)) (W.alloc (.cells Z.toArray 5)) := by
    intro W
    have hr := run_make (P := Try.prog) W 26 5 i0 (.int .u8 0) Try.underlying26 hi hz0 .i64 .i64 0 ((n : Int) + (m : Int)) (by omega) (by omega) (by rw [hz2]; omega) (by omega)
    rw [show ((n : Int) + (m : Int)).toNat = n + m by omega] at hr
    rw [← hZ]
    exact hr
  have O0 := Lib.hid (made_own (w := w) hZl (by unfold maxLen; omega))
  have ca := (HB.out.alloc (.cells Z.toArray 5)).cell2
  have HN := Lib.hid hn
  have HM := Lib.hid hm
  have R1 : Hid (Rd (w.alloc (.cells Z.toArray 5)) A F) := Lib.hid (hR.below ((Below.refl _ _).alloc (Nat.le_refl _) _))
  have R2 : Hid (Rd w B G) := Lib.hid hG
  have hB0 : Below w.heap.size w (w.alloc (.cells Z.toArray 5)) := (Below.refl _ _).alloc (Nat.le_refl _) _
  have HB0 := Lib.hid hB0
  clear hb hn hm hR hG hZ hZl hi hz0 hz1 hz2 hB0
  go_enter Try.func54, Try.ntmps54
  go_wp2_with (first
    | (at_builtin; refine wpList_append_vals Try.underlying26 byte_info rfl rfl _ _ rfl w.heap.size (.slice (some ⟨w.heap.size, 0, none⟩) 0 (n + m)) 0 [] rfl O0.out A (F.map byt) (byt_one F) n cp (by rw [List.length_map]; exact HN.out) rfl R1.out (by omega) (by simp) ?_; intro v1 w1 ho1 hg1 _; rw [Nat.zero_add, List.nil_append] at ho1; obtain ⟨A1, c1, rfl, _⟩ := own_form ho1; have HB1 := Lib.hid (HB0.out.grown hg1 HB0.out.size (fun j ej => by cases ej; exact Nat.le_refl _)); have O1 := Lib.hid ho1; have R3 := Lib.hid (R2.out.below HB1.out); clear ho1 hg1)
    | (at_builtin; refine wpList_append_vals Try.underlying26 byte_info rfl rfl _ _ rfl w.heap.size (.slice A1 n c1) n (F.map byt) rfl O1.out B (G.map byt) (byt_one G) m cb (by rw [List.length_map]; exact HM.out) rfl R3.out (by omega) HB1.out.size ?_; intro v2 w2 ho2 hg2 _; obtain ⟨A2, c2, rfl, _⟩ := own_form ho2; have HB2 := Lib.hid (HB1.out.grown hg2 HB1.out.size (fun j ej => (O1.out.lt j ej).1)); have O2 := Lib.hid ho2; clear ho2 hg2))
  go_ret
  have ho := O2.out
  rw [← List.map_append] at ho
  have e : n + m = (F ++ G).length := by rw [List.length_append, HN.out, HM.out]
  rw [e] at ho ⊢
  exact ⟨A2, c2, rfl, ho, HB2.out⟩

theorem own_base {w : World} {base b : Nat} {e : TypeId} {v : Value} {n : Nat} {xs : List Value} (h : w.ownsRow base e 1 v n xs) (hb : b ≤ base) : w.ownsRow b e 1 v n xs := by
  refine ⟨h.1, ?_⟩
  rcases h.2 with h1 | ⟨g, c, cur, rfl, h2, h3⟩
  · exact .inl h1
  · exact .inr ⟨g, c, cur, rfl, Nat.le_trans hb h2, h3⟩

theorem Got.on {w a w' : World} {l : List UInt8} {e : Ending} (h : Got a l e w') (hb : Below w.heap.size w a) : Got w l e w' := by
  obtain ⟨A, c, rfl, ho, hb2⟩ := h
  exact ⟨A, c, rfl, own_base ho hb.size, below_on hb (Nat.le_refl _) hb2⟩

theorem rd_one (w : World) (p : Nat) (hp : p < 256) : Rd (w.alloc (.cells #[.int .u8 (p : Int)] 5)) (some ⟨w.heap.size, 0, none⟩) [UInt8.ofNat p] := by
  intro j v hj
  rcases j with _ | j
  · simp at hj
    subst hj
    exact ⟨_, rfl, cell_one_new _ _ _ 0 _ (by rw [byt_of hp]; rfl)⟩
  · simp at hj

theorem rv_one (w : World) (u : Value) (t : TypeId) : Rv (w.alloc (.cells #[u] t)) (some ⟨w.heap.size, 0, none⟩) [u] := fun j v hj => ⟨_, rfl, cell_one_new _ _ _ j v hj⟩

set_option maxHeartbeats 1000000 in
theorem bytes_any {w : World} {x : Nat} {v : Value} {l : List Bool} (h : Wr w x v l) (hs : l.length ≤ 1099511627776) :
    Calls Try.prog 30 #[.pointer (some ⟨x, 0, none⟩)] w (Got w (pack l)) := by
  obtain ⟨F, p, c, hb, hc, hst, ho⟩ := h
  obtain ⟨A, cp, rfl, _⟩ := own_form ho
  have hl := hst.len
  have hp := hst.pack hc
  rw [hp]
  have c1 := hb.cell1
  by_cases h0 : c = 0
  · subst h0
    have FB := Lib.hid (followed_any hb rfl (by omega) (Rv.of_own ho) none 0 0 [] rfl (by decide) (Rv.nil _ _))
    have e : tl p 0 = [] := rfl
    rw [e]
    clear hb ho hst hl hp e
    go_enter Try.func30, Try.ntmps30
    go_wp2_with fail
    refine FB.out.mono ?_
    intro e w1 hg
    obtain ⟨A1, c1, rfl, h1⟩ := hg
    have H1 := Lib.hid h1
    clear h1
    go_wp2
    go_ret
    exact ⟨A1, c1, by simp, H1.out⟩
  · have hp8 : p < 256 := Nat.lt_of_lt_of_le hst.lt (Nat.pow_le_pow_right (by decide) (show c ≤ 8 by omega))
    have e : tl p c = [UInt8.ofNat p] := by rw [tl, if_neg h0]
    rw [e]
    have h0' : ((c : Int) == 0) = false := by simp; omega
    have PD := Lib.hid (padded_any hb)
    have hb0 : Below w.heap.size w (w.alloc (.cells #[.int .u8 (p : Int)] 5)) := (Below.refl _ _).alloc (Nat.le_refl _) _
    have FB := Lib.hid (followed_any (hb.alloc (.cells #[.int .u8 (p : Int)] 5)) rfl (by omega) (Rv.below (Rv.of_own ho) hb0) (some ⟨w.heap.size, 0, none⟩) 1 1 [UInt8.ofNat p] rfl (by decide) (rd_one w p hp8))
    have HB0 := Lib.hid hb0
    clear hb ho hst hl hp e hp8 hb0 h0
    go_enter Try.func30, Try.ntmps30
    go_wp2_with fail
    refine PD.out.mono ?_
    rintro e w1 ⟨rfl, rfl⟩
    go_wp2_with fail
    refine FB.out.mono ?_
    intro e w1 hg
    obtain ⟨A1, c1, rfl, h1⟩ := hg.on HB0.out
    have H1 := Lib.hid h1
    clear h1 hg
    go_wp2
    go_ret
    exact ⟨A1, c1, by simp, H1.out⟩

end Go.Proofs.Ytpjbjbohbdlciaa.Bt
