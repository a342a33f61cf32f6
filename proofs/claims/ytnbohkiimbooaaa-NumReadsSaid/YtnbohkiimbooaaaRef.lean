/-
  What the reference's helpers do: Same says whether two byte slices are equal, Own returns a copy, Word the four bytes of a word, Varint the varint's bytes. Conditions: fewer than 2^47 - 300 bytes; the numbers are of their kinds.
-/
import Derived.Test.YtnbohkiimbooaaaPutW
import Derived.Laws.IdiomStrings
import Derived.Laws.AppendOwnNone
namespace Go.Proofs.Ytnbohkiimbooaaa
open Go.RowKit Go.Shelf

theorem conv_bytes (w : World) (A : Option Addr) (l : List UInt8) (c : Nat) (h : Rd w A l) : (convert 22 9 (.slice A l.length c)).run Try.prog w = .ok (.string ⟨l.toArray⟩) w := by
  cases A with
  | none =>
    have hl : l = [] := by
      rcases l with _ | ⟨b, l⟩
      · rfl
      · obtain ⟨ad, e, _⟩ := h 0 b rfl
        cases e
    subst hl
    rw [run_convert_bytes_string w _ _ 5 _ _ _ Try.underlying22 Try.underlying5 Try.underlying9]
    simp [Conv.bytesToString]
    rfl
  | some ad =>
    refine run_convert_bytes_back w 22 9 5 ad c l Try.underlying22 Try.underlying5 Try.underlying9 (fun j hj => ?_)
    obtain ⟨ad', e, hc⟩ := h j l[j] (List.getElem?_eq_getElem hj)
    cases e
    exact hc

def sameB (l m : List UInt8) : Bool := decide (l = m)

set_option maxHeartbeats 400000 in
theorem same_any (w : World) (A B : Option Addr) (l m : List UInt8) (c d : Nat) (hA : Rd w A l) (hB : Rd w B m) :
    Calls Try.prog 13 #[.slice A l.length c, .slice B m.length d] w fun e w' => e = .returned (.bool (sameB l m)) ∧ w = w' := by
  have h1 := conv_bytes w A l c hA
  have h2 := conv_bytes w B m d hB
  obtain ⟨s, hs⟩ : ∃ s : ByteArray, ⟨l.toArray⟩ = s := ⟨_, rfl⟩
  obtain ⟨t, ht⟩ : ∃ s : ByteArray, ⟨m.toArray⟩ = s := ⟨_, rfl⟩
  rw [hs] at h1
  rw [ht] at h2
  have HS := Lib.hid hs
  have HT := Lib.hid ht
  obtain ⟨n1, hn1⟩ : ∃ n, l.length = n := ⟨_, rfl⟩
  obtain ⟨n2, hn2⟩ : ∃ n, m.length = n := ⟨_, rfl⟩
  rw [hn1] at h1 ⊢
  rw [hn2] at h2 ⊢
  clear hs ht hn1 hn2 hA hB
  go_enter Try.func13, Try.ntmps13
  go_wp2
  go_ret
  refine ⟨?_, rfl⟩
  have e : (s.toList == t.toList) = sameB l m := by
    rw [ByteArray.toList_eq, ByteArray.toList_eq, ← HS.out, ← HT.out]
    simp only [sameB]
    by_cases h : l = m <;> simp [h]
  simp only [Array.getD, List.size_toArray, List.length_cons, List.length_nil]
  simpa using e

theorem same_eq (w : World) (A B : Option Addr) (l m : List UInt8) (c d : Nat) (hA : Rd w A l) (hB : Rd w B m) (h : l = m) :
    Calls Try.prog 13 #[.slice A l.length c, .slice B m.length d] w fun e w' => e = .returned (.bool true) ∧ w = w' := by
  have := same_any w A B l m c d hA hB
  rw [show sameB l m = true by simp [sameB, h]] at this
  exact this

theorem Rd.some_of {w : World} {A : Option Addr} {l : List UInt8} (h : Rd w A l) (hl : l ≠ []) : ∃ ad, A = some ad := by
  rcases l with _ | ⟨b, l⟩
  · exact absurd rfl hl
  · obtain ⟨ad, e, _⟩ := h 0 b rfl
    exact ⟨ad, e⟩

theorem Rd.cells {w : World} {ad : Addr} {l : List UInt8} (h : Rd w (some ad) l) : ∀ j u, (l.map byt)[j]? = some u → w.cell? (ad.add j) = some u := by
  intro j u hj
  rw [List.getElem?_map] at hj
  obtain ⟨b, hb, rfl⟩ := Option.map_eq_some_iff.1 hj
  obtain ⟨ad', e, hc⟩ := h j b hb
  cases e
  exact hc

theorem byt_one (l : List UInt8) : ∀ u ∈ l.map byt, u.oneCell' = true := by
  intro v hv
  obtain ⟨b, _, rfl⟩ := List.mem_map.1 hv
  rfl

/-- append(x, y...) for a row x of the call's own and any bytes y, nil or not. -/
theorem run_append_bytes (w : World) (ty : TypeId) (base : Nat) (v : Value) (n : Nat) (xs : List Value) (hown : w.ownsRow base 5 1 v n xs) (A : Option Addr) (l : List UInt8) (c : Nat) (hR : Rd w A l)
    (hb : n + l.length ≤ 140737488355328) (hbase : base ≤ w.heap.size) :
    ∃ v' w', (Builtin.append_ #[22, 22] ty #[v, .slice A l.length c]).run Try.prog w = .ok v' w' ∧ w'.ownsRow base 5 1 v' (n + l.length) (xs ++ l.map byt) ∧ w.grownBy w' v.ownBlock := by
  obtain ⟨i0, hi, hz0, hz1, hz2⟩ := info_parts byte_info
  cases A with
  | none =>
    have hl : l = [] := by
      rcases l with _ | ⟨b, l⟩
      · rfl
      · obtain ⟨ad, e, _⟩ := hR 0 b rfl
        cases e
    subst hl
    refine ⟨v, w, ?_, by simpa using hown, World.grownBy.refl _ _⟩
    rcases hown.2 with ⟨rfl, rfl⟩ | ⟨g, cap, cur, rfl, _, _, hnc, _⟩
    · simp [Builtin.append_, run_underlying Try.underlying22, sizeOf, typeInfo, hi, Builtin.lenOf, Builtin.firstCells]
    · simp [Builtin.append_, run_underlying Try.underlying22, sizeOf, typeInfo, hi, Builtin.lenOf, Builtin.firstCells, hnc, storeCells]
  | some ad =>
    obtain ⟨v', w', h1, h2, h3, _⟩ := run_append_own (P := Try.prog) w base 22 ty 5 i0 (.int .u8 0) 1 1 Try.underlying22 hi hz0 hz1 hz2 rfl (by decide) v n xs hown ad l.length c (l.map byt) (by simp) hR.cells (byt_one l) (by unfold maxLen; omega) (by omega) hbase
    exact ⟨v', w', h1, h2, h3⟩

theorem wpList_append_bytes {w : World} {ops : Array Oper} {rest : List Oper} {o : Oper} {a : Act} {Q : Exit → Act → World → Prop} (hgd : o.guard = none) (s x : Operand)
    (ho : o.op = .call { callee := .builtin .append, args := #[s, x], argTypes := #[22, 22] })
    (base : Nat) (v : Value) (n : Nat) (xs : List Value) (hs : a.eval s = v) (hown : w.ownsRow base 5 1 v n xs) (A : Option Addr) (l : List UInt8) (m c : Nat) (hm : l.length = m) (hx : a.eval x = .slice A m c) (hR : Rd w A l)
    (hb : n + m ≤ 140737488355328) (hbase : base ≤ w.heap.size)
    (h : ∀ v' w', w'.ownsRow base 5 1 v' (n + m) (xs ++ l.map byt) → w.grownBy w' v.ownBlock → wpList Try.prog ops Q rest (a.put o.dst v') w') : wpList Try.prog ops Q (o :: rest) a w := by
  subst hm
  refine wpList_plain hgd fun K hK => ?_
  obtain ⟨v', w', hrun, h2, h3⟩ := run_append_bytes w o.type base v n xs hown A l c hR hb hbase
  unfold Oper.wp
  simp [execOp, ho, resolve, invoke, builtin, hs, hx, hrun, Result.andThen]
  exact hK _ _ (h v' w' h2 h3)

set_option maxHeartbeats 400000 in
theorem own_any (w : World) (A : Option Addr) (l : List UInt8) (c : Nat) (hs : l.length ≤ 140737488355000) (h : Rd w A l) :
    Calls Try.prog 15 #[.slice A l.length c] w (Got w l) := by
  obtain ⟨n, hn⟩ : ∃ n, l.length = n := ⟨_, rfl⟩
  rw [hn] at hs ⊢
  have HN := Lib.hid hn
  clear hn
  go_enter Try.func15, Try.ntmps15
  go_wp2_with (at_builtin; refine wpList_append_bytes rfl _ _ rfl w.heap.size (.slice none 0 0) 0 [] rfl (World.ownsRow_nil _ _ _ _) A l n c HN.out rfl h (by omega) (Nat.le_refl _) ?_; intro v' w1 hown' hgrow)
  go_ret
  have hb : Below w.heap.size w w1 := (Below.refl _ _).grown hgrow (Nat.le_refl _) (by simp [Value.ownBlock])
  refine ⟨_, rfl, OwnB.mk ?_ hb⟩
  rw [HN.out]
  simpa using hown'

/-- A row that a slice literal has made. -/
theorem lit_own (w : World) (l : List UInt8) (C : Array Value) (hC : C = (l.map byt).toArray) (hl : l.length ≤ 1000) :
    (w.alloc (.cells C 5)).ownsRow w.heap.size 5 1 (.slice (some ⟨w.heap.size, 0, none⟩) l.length l.length) l.length (l.map byt) := by
  subst hC
  refine ⟨by simp, .inr ⟨w.heap.size, l.length, _, rfl, Nat.le_refl _, heap_alloc_new w _, Nat.le_refl _, by unfold maxLen; omega, by simp, ?_⟩⟩
  rw [List.take_of_length_le (by simp)]

theorem lit_got (w : World) (l : List UInt8) (C : Array Value) (hC : C = (l.map byt).toArray) (hl : l.length ≤ 1000) : OwnB w l (.slice (some ⟨w.heap.size, 0, none⟩) l.length l.length) (w.alloc (.cells C 5)) :=
  OwnB.mk (lit_own w l C hC hl) ((Below.refl _ _).alloc (Nat.le_refl _) _)

set_option maxHeartbeats 400000 in
theorem refWord_any (w : World) (q : Int) (h0 : 0 ≤ q) (hq : q < 4294967296) :
    Calls Try.prog 16 #[.int .u32 q] w (Got w (wd q.toNat)) := by
  go_enter Try.func16, Try.ntmps16
  go_wp2
  go_ret
  obtain ⟨q, rfl⟩ := Int.eq_ofNat_of_zero_le h0
  rw [Int.toNat_natCast]
  refine ⟨_, rfl, lit_got w (wd q) _ ?_ (by simp [wd])⟩
  simp only [wd, List.map_cons, List.map_nil, byt, byte_mod]
  simp
  omega

theorem OwnB.rd {w w' : World} {l : List UInt8} {v : Value} (h : OwnB w l v w') : ∃ A c, v = .slice A l.length c ∧ Rd w' A l ∧ Below w.heap.size w w' := by
  obtain ⟨A, c, rfl, ho, hb⟩ := h
  exact ⟨A, c, rfl, Rd.of_own ho, hb⟩

set_option maxHeartbeats 1000000 in
theorem refVarint_F (f : Nat) : ∀ (q : Nat) (w : World), q < 128 ^ (f + 1) → q < 18446744073709551616 → f ≤ 9 →
    Calls Try.prog 20 #[.int .u64 (q : Int)] w (Got w (viF (f + 1) q)) := by
  induction f with
  | zero =>
    intro q w hq _ _
    have hlt : q < 128 := by simpa using hq
    have hd : decide ((q : Int) < 128) = true := by simp; omega
    clear hq
    go_enter Try.func20, Try.ntmps20
    go_wp2
    go_ret
    refine ⟨_, rfl, ?_⟩
    rw [viF_small hlt]
    refine lit_got w [UInt8.ofNat q] _ ?_ (by simp)
    simp only [List.map_cons, List.map_nil, byt, byte_low hlt]
  | succ f ih =>
    intro q w hq h64 hf
    by_cases hlt : q < 128
    · have hd : decide ((q : Int) < 128) = true := by simp; omega
      clear hq ih
      go_enter Try.func20, Try.ntmps20
      go_wp2
      go_ret
      refine ⟨_, rfl, ?_⟩
      rw [viF_small hlt]
      refine lit_got w [UInt8.ofNat q] _ ?_ (by simp)
      simp only [List.map_cons, List.map_nil, byt, byte_low hlt]
    · have hd : decide ((q : Int) < 128) = false := by simp; omega
      have hq2 : q / 128 < 128 ^ (f + 1) := Nat.div_lt_of_lt_mul (by rw [Nat.pow_succ] at hq; omega)
      have ih2 : ∀ W, Calls Try.prog 20 #[.int .u64 ((q : Int) / 128)] W (Got W (viF (f + 1) (q / 128))) := by
        intro W
        have := ih (q / 128) W hq2 (by omega) (by omega)
        rw [show ((q / 128 : Nat) : Int) = (q : Int) / 128 by omega] at this
        exact this
      obtain ⟨L, hL⟩ : ∃ L, viF (f + 1) (q / 128) = L := ⟨_, rfl⟩
      have hlen : L.length ≤ 10 := by rw [← hL]; have := viF_len (f + 1) (q / 128); omega
      rw [hL] at ih2
      have IH := Lib.hid ih2
      have hx : byt (UInt8.ofNat (q % 128 + 128)) = .int .u8 ((q : Int) % 128 + 128) := by simp only [byt]; rw [byte_high]; simp
      have HX := Lib.hid hx
      have HL := Lib.hid hL
      have ho : (w.alloc (.cells #[.int .u8 ((q : Int) % 128 + 128)] 5)).ownsRow w.heap.size 5 1 (.slice (some ⟨w.heap.size, 0, none⟩) 1 1) 1 [byt (UInt8.ofNat (q % 128 + 128))] :=
        lit_own w [UInt8.ofNat (q % 128 + 128)] #[.int .u8 ((q : Int) % 128 + 128)] (by rw [← HX.out]; simp) (by simp)
      have HO := Lib.hid ho
      clear hq hq2 ih ih2 hx ho hL
      go_enter Try.func20, Try.ntmps20
      go_wp2_with fail
      refine (IH.out _).mono ?_
      rintro e w1 ⟨v, rfl, hv⟩
      obtain ⟨A, c, rfl, hR, hb⟩ := hv.rd
      have ho1 := HO.out.kept (grown_of_below hb none) (.inr (by simp [Value.ownBlock]))
      have hb1 : Below w.heap.size w w1 := ((Below.refl _ _).alloc (Nat.le_refl _) _).trans (hb.mono (by simp))
      go_wp2_with (at_builtin; go_must (refine wpList_append_bytes rfl _ _ rfl w.heap.size _ 1 _ rfl ho1 A L _ c rfl rfl hR (by omega) hb1.size ?_); intro v' w2 hown' hgrow)
      go_ret
      refine ⟨_, rfl, OwnB.mk ?_ (hb1.grown hgrow hb1.size (fun j ej => (ho1.lt j ej).1))⟩
      rw [viF_big (by omega), HL.out]
      simpa [Nat.add_comm] using hown'

theorem refVarint_any (w : World) (q : Int) (h0 : 0 ≤ q) (hq : q ≤ 4611686018427387903) :
    Calls Try.prog 20 #[.int .u64 q] w (Got w (vi q.toNat)) := by
  obtain ⟨q, rfl⟩ := Int.eq_ofNat_of_zero_le h0
  exact refVarint_F 9 q w (by simp only [Nat.reduceAdd, Nat.reducePow]; omega) (by omega) (Nat.le_refl _)

end Go.Proofs.Ytnbohkiimbooaaa
