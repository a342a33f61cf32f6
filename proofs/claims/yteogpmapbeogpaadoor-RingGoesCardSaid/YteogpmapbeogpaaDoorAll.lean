/-
  What All and the function that it returns do: that function hands on the bytes that the ring held, each with its distance, until a round leaves. Conditions: while the rounds run, the variable that it captures holds the slice, and the bytes lie there.
-/
import Derived.RegionIn
import Derived.Test.YteogpmapbeogpaaDoorAny
namespace Go.Proofs.YteogpmapbeogpaaDoor
open Go.RowKit Go.Shelf

attribute [local go_sem] Oper.semAt_some

def AlPost (w : World) (l : List UInt8) (n : Nat) (e : Ending) (w' : World) : Prop :=
  ∃ q A c, e = .returned (.func (.func 37) #[] #[.pointer (some ⟨q, 0, none⟩)]) ∧ Bx w' q 22 (.slice A n c) ∧ Rd w' A l ∧ Below w.heap.size w w' ∧ w.heap.size ≤ q ∧ ∀ ad, A = some ad → w.heap.size ≤ ad.block
theorem lst_all (l : List UInt8) : lst (l.length : Int) l = l := by
  unfold lst
  split
  · exact (List.eq_nil_of_length_eq_zero (by omega)).symm
  · rw [Int.toNat_natCast]; exact fin_short (Nat.le_refl _)
theorem row_base {w : World} {base n c : Nat} {e : TypeId} {A : Option Addr} {xs : List Value} (h : w.ownsRow base e 1 (.slice A n c) n xs) : ∀ ad, A = some ad → base ≤ ad.block := by
  intro ad e
  subst e
  rcases h.2 with ⟨h1, _⟩ | ⟨g, c, cur, h1, h2, _⟩
  · cases h1
  · injection h1 with h1
    injection h1 with h1
    subst h1
    exact h2

set_option maxRecDepth 100000 in
set_option maxHeartbeats 2000000 in
theorem all_any {w0 w : World} {x lim t : Nat} {v : Value} {l : List UInt8} (h : At w0 w x v lim l t) (n : Nat) (hn : l.length = n) :
    Calls Tryd.prog 20 #[.pointer (some ⟨x, 0, none⟩)] w (AlPost w l n) := by
  have LE := Lib.hid h.rg.len_any
  rw [hn] at LE
  have LA := Lib.hid (at_last h (n : Int) l n (by rw [← hn]; exact lst_all l) hn)
  have FN : Hid (∀ (w1 : World) (A : Option Addr) (c : Nat), Below w.heap.size w w1 → w1.ownsRow w.heap.size 5 1 (.slice A n c) n (l.map byt) → AlPost w l n (.returned (.func (.func 37) #[] #[.pointer (some ⟨w1.heap.size, 0, none⟩)])) (w1.alloc (.cells #[.slice A n c] 22))) :=
    Lib.hid fun w1 A c hb ho => ⟨_, A, c, rfl, Bx.new w1 _ _, Rv.below (Rv.of_own ho) (lit_bel w1 _), below_on hb (Nat.le_refl _) (lit_bel w1 _), hb.size, row_base ho⟩
  clear h hn
  go_enter Tryd.func20, Tryd.ntmps20
  go_wp2_with fail
  refine LE.out.mono ?_
  rintro e w ⟨rfl, rfl⟩
  go_wp2_with fail
  refine LA.out.mono ?_
  rintro e w1 ⟨A, c, rfl, _, _, ho, _, hb⟩
  have F1 := Lib.hid (FN.out w1 A c hb ho)
  clear hb ho
  go_wp2_with fail
  go_ret
  exact F1.out

/-- The j-th byte with its distance. -/
def dstAt (l : List UInt8) (n j : Nat) : Array Value := #[.int .i64 ((n - j : Nat) : Int), byt (l.getD j 0)]
def KpA (A : Option Addr) (l : List UInt8) (n c q : Nat) (W : World) : Prop := Bx W q 22 (.slice A n c) ∧ Rd W A l

set_option maxRecDepth 100000 in
set_option maxHeartbeats 2000000 in
theorem all1_hands (m : Nat) (hm : 1 ≤ m) (A : Option Addr) (l : List UInt8) (n c q : Nat) (hn : l.length = n) (hnb : n ≤ 1000000) :
    Hands Fence.wide m Tryd.prog 37 #[.pointer (some ⟨q, 0, none⟩)] n (dstAt l n) (KpA A l n c q) := by
  intro y I X W hI hX hKp hY h0
  refine callsIn_of_wp Tryd.func37 rfl trivial ?_ rfl
  simp only [Tryd.ntmps37, List.size_toArray, List.length_cons, List.length_nil, Nat.reduceAdd, Nat.reduceSub, Array.replicate_succ, Array.replicate_zero, List.push_toArray, List.append_toArray, List.nil_append, List.cons_append]
  have hfw : ∀ f, Fence.wide.fn f := fun _ => trivial
  have HY := Lib.hid hY
  have HK := Lib.hid hKp
  have HN := Lib.hid hn
  have c0 := (hKp 0 W h0).1.cell
  have H0 := Lib.hid h0
  clear hY hKp hn hI hX h0
  gi_wp2
  clear c0
  gi_loopw [7] (fun p wr => ∃ i : Nat, i ≤ n ∧ p = .int .i64 (i : Int) ∧ Hid (I i wr)) (fun p _ => n - (intOf p).toNat)
  case atStart => exact ⟨0, Nat.zero_le _, rfl, H0⟩
  case round =>
    obtain ⟨i, hi, rfl, HI⟩ := hrel
    by_cases hlt : i < n
    · obtain ⟨b, hb⟩ : ∃ b, l[i]? = some b := ⟨_, List.getElem?_eq_getElem (by rw [HN.out]; exact hlt)⟩
      have c1 := (HK.out _ _ HI.out).1.cell
      obtain ⟨ad, hA, hc⟩ := (HK.out _ _ HI.out).2 i (byt b) (by rw [List.getElem?_map, hb]; rfl)
      subst hA
      obtain ⟨fn, tmps, assign, body, hy, hR⟩ := HY.out i wr hlt HI.out
      unfold dstAt at hy
      have hgd : l.getD i 0 = b := by simp [List.getD, hb]
      rw [hgd] at hy
      obtain ⟨d, hd⟩ : ∃ d, n - i = d := ⟨_, rfl⟩
      have hde : (n : Int) - (i : Int) = (d : Int) := by omega
      rw [hd] at hy
      have HR := Lib.hid hR
      simp only [byt] at hy hc
      clear hR hb hgd hd
      gi_wp2
      refine HR.out.mono ?_
      rintro e W3 (⟨rfl, hI3⟩ | ⟨rfl, hX3⟩)
      · have H3 := Lib.hid hI3
        clear hI3
        gi_wp2
        exact ⟨⟨i + 1, by omega, by simp, H3⟩, by simp [intOf]; omega⟩
      · have H3 := Lib.hid hX3
        clear hX3
        gi_wp2
        refine bodyPost_ret (results_none rfl _ _ _) rfl ?_
        exact ⟨⟨_, rfl⟩, .inr H3.out⟩
    · have HE : Hid (i = n) := Lib.hid (by omega)
      gi_wp2
      go_end0
      exact ⟨⟨_, rfl⟩, .inl (by rw [← HE.out]; exact HI.out)⟩

end Go.Proofs.YteogpmapbeogpaaDoor
