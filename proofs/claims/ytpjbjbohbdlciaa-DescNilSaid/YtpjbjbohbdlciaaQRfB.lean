/-
  What the reference's Bytes, Close and SameBits do. Condition: at most 20000 bits.
-/
import Derived.Deep.Cut
import Derived.Test.YtpjbjbohbdlciaaQRfA
import Derived.Test.YtpjbjbohbdlciaaQUni
namespace Go.Proofs.Ytpjbjbohbdlciaa.Bt
open Go.RowKit

theorem str_idx {F : List UInt8} {p c i : Nat} {l : List Bool} (h : Str F p c (l.take i)) (hi : i ≤ l.length) : i = 8 * F.length + c := by
  have := h.len
  rw [List.length_take, Nat.min_eq_left hi] at this
  exact this

theorem str_step {F : List UInt8} {p c i : Nat} {l : List Bool} (h : Str F p c (l.take i)) (hc : c < 8) (b : Bool) (hb : l[i]? = some b) :
    ∃ F' p' c', Str F' p' c' (l.take (i + 1)) ∧ c' < 8 ∧ F' ++ tl p' c' = F ++ [UInt8.ofNat (p + 2 ^ c * b.toNat)] := by
  obtain ⟨hi, e⟩ := List.getElem?_eq_some_iff.1 hb
  have h1 := h.add b.toNat 1
  have e1 : bitsOf b.toNat 1 = [b] := by cases b <;> rfl
  have e2 : b.toNat % 2 ^ 1 = b.toNat := by cases b <;> rfl
  rw [e1, e2] at h1
  rw [List.take_succ_eq_append_getElem hi, e]
  by_cases h7 : c = 7
  · subst h7
    exact ⟨_, 0, 0, h1.full, by decide, by simp [tl]⟩
  · exact ⟨F, _, c + 1, h1, by omega, by simp [tl]⟩

theorem own_some {w : World} {base n c : Nat} {e : TypeId} {A : Option Addr} {xs : List Value} (h : w.ownsRow base e 1 (.slice A (n + 1) c) (n + 1) xs) : ∃ g, A = some ⟨g, 0, none⟩ := by
  rcases h.2 with ⟨_, h1⟩ | ⟨g, _, _, h1, _⟩
  · cases h1
  · injection h1 with h1
    exact ⟨g, h1⟩

theorem lit_cell (W : World) (c t : Nat) (hc : c < 8) (ht : 2 ^ c = t) : (W.alloc (.cells #[.int .u8 1, .int .u8 2, .int .u8 4, .int .u8 8, .int .u8 16, .int .u8 32, .int .u8 64, .int .u8 128] 5)).cell? ⟨W.heap.size, c, none⟩ = some (.int .u8 (t : Int)) := by
  rw [cell_of_row _ W.heap.size c _ _ _ (heap_alloc_new W _)]
  subst ht
  have : c = 0 ∨ c = 1 ∨ c = 2 ∨ c = 3 ∨ c = 4 ∨ c = 5 ∨ c = 6 ∨ c = 7 := by omega
  rcases this with rfl | rfl | rfl | rfl | rfl | rfl | rfl | rfl <;> rfl

/-- What the loop of Bytes holds on to. -/
def RowRel (w wr : World) (l : List Bool) (i : Nat) (v : Value) (m : Nat) : Prop :=
  ∃ F p c, Str F p c (l.take i) ∧ c < 8 ∧ (F ++ tl p c).length = m ∧ wr.ownsRow w.heap.size 5 1 v m ((F ++ tl p c).map byt)

theorem set_last (F : List UInt8) (u : Value) (b : UInt8) (hb : byt b = u) (a : UInt8) : ((F ++ [a]).map byt).set F.length u = (F ++ [b]).map byt := by
  subst hb
  simp

theorem row_set {w W : World} {g NF cp : Nat} {F : List UInt8} {a : UInt8} (hF : F.length = NF) (ho : W.ownsRow w.heap.size 5 1 (.slice (some ⟨g, 0, none⟩) (NF + 1) cp) (NF + 1) ((F ++ [a]).map byt)) (hb : Below w.heap.size w W) (o : Obj) (u : UInt8) (z : Int) (hz : byt u = .int .u8 z) :
    (((W.alloc o).setCell ⟨g, NF, none⟩ (.int .u8 z)).drew).ownsRow w.heap.size 5 1 (.slice (some ⟨g, 0, none⟩) (NF + 1) cp) (NF + 1) ((F ++ [u]).map byt) ∧ Below w.heap.size w (((W.alloc o).setCell ⟨g, NF, none⟩ (.int .u8 z)).drew) := by
  have h1 := (own_below ho ((Below.refl _ _).alloc (Nat.le_refl _) o)).stored NF (.int .u8 z)
  rw [← hF, set_last F _ u hz a, hF] at h1
  have hg : w.heap.size ≤ g := (ho.lt g rfl).1
  have h2 : Below w.heap.size w ((W.alloc o).setCell ⟨g, NF, none⟩ (.int .u8 z)) := (hb.alloc hb.size o).grown h1.2 (by simp; have := hb.size; omega) (fun j ej => by cases ej; exact hg)
  exact ⟨h1.1, ⟨h2.os, h2.tape, h2.output, h2.size, h2.block⟩⟩

set_option maxRecDepth 100000 in
set_option maxHeartbeats 4000000 in
theorem refBytes_any (w : World) (A : Option Addr) (l : List Bool) (N cap : Nat) (hN : l.length = N) (hs : N ≤ 20000) (hR : Rb w A l) :
    Calls Try.prog 18 #[.slice A N cap] w (Got w (pack l)) := by
  have HN := Lib.hid hN
  have HR := Lib.hid hR
  clear hN hR
  go_enter Try.func18, Try.ntmps18
  go_wp2_with fail
  go_loopw [3, 4] (fun o b wr => (∃ (i m c : Nat) (B : Option Addr), i ≤ N ∧ o = .slice B m c ∧ b = .int .i64 (i : Int) ∧ Hid (RowRel w wr l i (.slice B m c) m) ∧ Hid (Below w.heap.size w wr))) (fun _ b _ => N - (intOf b).toNat)
  case atStart => exact ⟨0, 0, 0, none, by omega, rfl, rfl, Lib.hid ⟨[], 0, 0, Str.nil, by decide, rfl, World.ownsRow_nil _ _ _ _⟩, Lib.hid (Below.refl _ _)⟩
  case round =>
    obtain ⟨i, m, cp, B, hi, rfl, rfl, HRR, HB⟩ := hrel
    by_cases hlt : i < N
    · obtain ⟨F, p, c, hst, hc, hm, ho⟩ := HRR.out
      have hi8 := str_idx hst (by rw [HN.out]; exact hi)
      obtain ⟨b, hb⟩ : ∃ b, l[i]? = some b := ⟨_, List.getElem?_eq_getElem (by rw [HN.out]; exact hlt)⟩
      have SS := Lib.hid (str_step hst hc b hb)
      obtain ⟨aL, haL, e0⟩ := HR.out i (.bool b) (by rw [List.getElem?_map, hb]; rfl)
      subst haL
      have hp := hst.lt
      obtain ⟨t, ht⟩ : ∃ t, 2 ^ c = t := ⟨_, rfl⟩
      have ht8 : t ≤ 128 := by rw [← ht]; exact Nat.pow_le_pow_right (by decide) (show c ≤ 7 by omega)
      rw [ht] at hp SS
      have HT := Lib.hid ht
      have E0 := Lib.hid e0
      obtain ⟨NF, hNF⟩ : ∃ NF, F.length = NF := ⟨_, rfl⟩
      have HNF := Lib.hid hNF
      rw [hNF] at hi8
      have hNs : NF ≤ 20000 := by omega
      have hdiv : (i : Int) / 8 = (NF : Int) := by omega
      have hmod : (i : Int) % 8 = (c : Int) := by omega
      have HP8 := Lib.hid hp
      clear ht hst hb e0 HRR hi8 hNF hp
      by_cases h0 : c = 0
      · subst h0
        have hp0 : p = 0 := by have h1 := HT.out; have h2 := HP8.out; simp at h1; omega
        subst hp0
        have O1 := Lib.hid ho
        have HM : Hid (m = NF) := Lib.hid (by rw [← hm]; simp [tl, HNF.out])
        clear ho hm
        have OA := Lib.hid (own_below O1.out ((Below.refl _ _).alloc (Nat.le_refl _) (.cells #[.int .u8 0] 5)))
        have BA := Lib.hid (HB.out.alloc HB.out.size (.cells #[.int .u8 0] 5))
        have hmm : m ≤ 20000 := by rw [HM.out]; exact hNs
        go_upto_region 7 with (at_builtin; refine wpList_append_vals Try.underlying26 byte_info rfl rfl _ _ rfl w.heap.size (.slice B m cp) m _ rfl OA.out (some ⟨wr.heap.size, 0, none⟩) [.int .u8 0] (by simp [Value.oneCell']) 1 1 rfl rfl (rv_one _ _ _) (by omega) BA.out.size ?_; intro v1 w1 ho1 hg1 _; obtain ⟨A1, c1, rfl, _⟩ := own_form ho1; have B1 := Lib.hid (BA.out.grown hg1 BA.out.size (fun j ej => (OA.out.lt j ej).1)); have P1 := Lib.hid ho1; clear ho1 hg1)
        have ho2 : w1.ownsRow w.heap.size 5 1 (.slice A1 (NF + 1) c1) (NF + 1) ((F ++ [UInt8.ofNat 0]).map byt) := by
          have h1 := P1.out
          rw [HM.out] at h1
          simpa [tl, byt] using h1
        have hm1 : NF = m := HM.out.symm
        subst hm1
        clear HM P1 OA O1 BA HB hmm
        have hmod0 : (i : Int) % 8 = 0 := hmod
        clear hmod
        have e3 : w1.cell? (aL.add i) = some (.bool b) := (B1.out.cell (cell_lt E0.out)).trans E0.out
        obtain ⟨g, hg⟩ := own_some ho2
        subst hg
        have cl : w1.cell? ⟨g, NF, none⟩ = some (.int .u8 (0 : Int)) := by
          rw [ho2.cellAt NF (by omega), List.getElem?_map, List.getElem?_append_right (by rw [HNF.out]; exact Nat.le_refl _), HNF.out, Nat.sub_self]
          simp only [List.getElem?_cons_zero, Option.map_some]
          rw [byt_of (show 0 < 256 by have := HP8.out; omega)]; rfl
        have O2 := Lib.hid ho2
        clear ho2
        cases b with
        | false =>
          clear cl
          go_wp2_with fail
          obtain ⟨F', p', c', s1, s2, s3⟩ := SS.out
          simp only [Bool.toNat_false, Nat.mul_zero, Nat.add_zero] at s3
          exact ⟨⟨i + 1, NF + 1, _, _, by omega, rfl, by simp, Lib.hid ⟨F', p', c', s1, s2, by rw [s3]; simp [HNF.out], by rw [s3]; exact O2.out⟩, B1⟩, by simp [intOf]; omega⟩
        | true =>
          have glt : g < w1.heap.size := own_lt O2.out rfl
          have cl2 : (w1.alloc (.cells #[.int .u8 1, .int .u8 2, .int .u8 4, .int .u8 8, .int .u8 16, .int .u8 32, .int .u8 64, .int .u8 128] 5)).cell? ⟨g, NF, none⟩ = some (.int .u8 (0)) := by rw [World.cell?_alloc_lt _ _ _ glt]; exact cl
          have cl3 := lit_cell w1 0 t (by omega) HT.out
          have fz : (w1.alloc (.cells #[.int .u8 1, .int .u8 2, .int .u8 4, .int .u8 8, .int .u8 16, .int .u8 32, .int .u8 64, .int .u8 128] 5)).frozen? ⟨g, NF, none⟩ = false := (own_below O2.out ((Below.refl _ _).alloc (Nat.le_refl _) (.cells #[.int .u8 1, .int .u8 2, .int .u8 4, .int .u8 8, .int .u8 16, .int .u8 32, .int .u8 64, .int .u8 128] 5))).frozenAt NF
          have hpt : t ≤ 255 := by omega
          clear glt
          go_wp2_with fail
          go_region
          go_wp2_with fail
          obtain ⟨F', p', c', s1, s2, s3⟩ := SS.out
          simp only [Bool.toNat_true, Nat.mul_one] at s3
          have RS := row_set HNF.out O2.out B1.out (.cells #[.int .u8 1, .int .u8 2, .int .u8 4, .int .u8 8, .int .u8 16, .int .u8 32, .int .u8 64, .int .u8 128] 5) (UInt8.ofNat (0 + t)) ((t : Int)) (by rw [byt_of (by omega)]; simp)
          exact ⟨⟨i + 1, NF + 1, _, _, by omega, rfl, by simp, Lib.hid ⟨F', p', c', s1, s2, by rw [s3]; simp [HNF.out], by rw [s3]; exact RS.1⟩, Lib.hid RS.2⟩, by simp [intOf]; omega⟩
      · have ho2 : wr.ownsRow w.heap.size 5 1 (.slice B m cp) m ((F ++ [UInt8.ofNat p]).map byt) := by
          have e : tl p c = [UInt8.ofNat p] := by rw [tl, if_neg h0]
          rw [← e]; exact ho
        have hm2 : m = NF + 1 := by rw [← hm, tl, if_neg h0]; simp [HNF.out]
        subst hm2
        clear ho hm
        have hne : ((c : Int) == 0) = false := by simp; omega
        go_upto_region 7 with fail
        have e3 : wr.cell? (aL.add i) = some (.bool b) := (HB.out.cell (cell_lt E0.out)).trans E0.out
        obtain ⟨g, hg⟩ := own_some ho2
        subst hg
        have cl : wr.cell? ⟨g, NF, none⟩ = some (.int .u8 ((p : Int) : Int)) := by
          rw [ho2.cellAt NF (by omega), List.getElem?_map, List.getElem?_append_right (by rw [HNF.out]; exact Nat.le_refl _), HNF.out, Nat.sub_self]
          simp only [List.getElem?_cons_zero, Option.map_some]
          rw [byt_of (show p < 256 by have := HP8.out; omega)]
        have O2 := Lib.hid ho2
        clear ho2
        cases b with
        | false =>
          clear cl
          go_wp2_with fail
          obtain ⟨F', p', c', s1, s2, s3⟩ := SS.out
          simp only [Bool.toNat_false, Nat.mul_zero, Nat.add_zero] at s3
          exact ⟨⟨i + 1, NF + 1, _, _, by omega, rfl, by simp, Lib.hid ⟨F', p', c', s1, s2, by rw [s3]; simp [HNF.out], by rw [s3]; exact O2.out⟩, HB⟩, by simp [intOf]; omega⟩
        | true =>
          have glt : g < wr.heap.size := own_lt O2.out rfl
          have cl2 : (wr.alloc (.cells #[.int .u8 1, .int .u8 2, .int .u8 4, .int .u8 8, .int .u8 16, .int .u8 32, .int .u8 64, .int .u8 128] 5)).cell? ⟨g, NF, none⟩ = some (.int .u8 ((p : Int))) := by rw [World.cell?_alloc_lt _ _ _ glt]; exact cl
          have cl3 := lit_cell wr c t (by omega) HT.out
          have fz : (wr.alloc (.cells #[.int .u8 1, .int .u8 2, .int .u8 4, .int .u8 8, .int .u8 16, .int .u8 32, .int .u8 64, .int .u8 128] 5)).frozen? ⟨g, NF, none⟩ = false := (own_below O2.out ((Below.refl _ _).alloc (Nat.le_refl _) (.cells #[.int .u8 1, .int .u8 2, .int .u8 4, .int .u8 8, .int .u8 16, .int .u8 32, .int .u8 64, .int .u8 128] 5))).frozenAt NF
          have hpt : p + t ≤ 255 := by have := HP8.out; omega
          clear glt
          go_wp2_with fail
          go_region
          go_wp2_with fail
          obtain ⟨F', p', c', s1, s2, s3⟩ := SS.out
          simp only [Bool.toNat_true, Nat.mul_one] at s3
          have RS := row_set HNF.out O2.out HB.out (.cells #[.int .u8 1, .int .u8 2, .int .u8 4, .int .u8 8, .int .u8 16, .int .u8 32, .int .u8 64, .int .u8 128] 5) (UInt8.ofNat (p + t)) ((p : Int) + (t : Int)) (by rw [byt_of (by omega)]; simp)
          exact ⟨⟨i + 1, NF + 1, _, _, by omega, rfl, by simp, Lib.hid ⟨F', p', c', s1, s2, by rw [s3]; simp [HNF.out], by rw [s3]; exact RS.1⟩, Lib.hid RS.2⟩, by simp [intOf]; omega⟩
    · have hie : i = N := by omega
      subst hie
      have e : l.take i = l := List.take_of_length_le (by rw [HN.out]; exact Nat.le_refl _)
      have H1 : Hid (∃ F p c, Str F p c l ∧ c < 8 ∧ (F ++ tl p c).length = m ∧ wr.ownsRow w.heap.size 5 1 (.slice B m cp) m ((F ++ tl p c).map byt)) := Lib.hid (by
        obtain ⟨F, p, c, h1, h2, h3, h4⟩ := HRR.out
        rw [e] at h1
        exact ⟨F, p, c, h1, h2, h3, h4⟩)
      clear hlt hi e HRR
      go_wp2
      go_ret
      obtain ⟨F, p, c, h1, h2, h3, h4⟩ := H1.out
      refine ⟨B, cp, ?_, ?_, HB.out⟩
      · rw [h1.pack h2, h3]; rfl
      · rw [h1.pack h2, h3]; exact h4

end Go.Proofs.Ytpjbjbohbdlciaa.Bt
