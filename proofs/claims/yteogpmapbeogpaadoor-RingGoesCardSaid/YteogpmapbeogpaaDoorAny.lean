/-
  What the laws' helper act does at any call: ring and reference stay alike. Conditions: those that the theorem states of the arguments.
-/
import Derived.Test.YteogpmapbeogpaaDoorIs
namespace Go.Proofs.YteogpmapbeogpaaDoor
open Go.RowKit

/-- What act returns: a ring and the reference's ring with the same size, contents and total; nothing but the ring's blocks and new memory has changed. -/
def AcPost (w0 w : World) (x : Nat) (v : Value) (l : List UInt8) (A : Option Addr) (lim n t : Nat) (e : Ending) (w' : World) : Prop :=
  ∃ x' v' L' t' A' n' c', e = .returned (.tuple #[.pointer (some ⟨x', 0, none⟩), rv lim A' n' c' t', .bool true]) ∧ At w0 w' x' v' lim L' t' ∧ L'.length = n' ∧ n' ≤ c' ∧ Rd w' A' L' ∧ n' ≤ n + 300 ∧ t' ≤ t + 300 ∧ Chg (Fp x v) w w' ∧ (∀ k, Fp x' v' k → Fp x v k ∨ w.heap.size ≤ k) ∧ (Out A l (Fp x v) → Out A' L' (Fp x' v')) ∧ ((A' = A ∧ L' = l) ∨ ∀ ad, A' = some ad → w.heap.size ≤ ad.block)

/-- The bytes of a call lie where the law's call began. -/
structure AcOk (w0 : World) (a : Ac) : Prop where
  rd : ∃ m : List UInt8, m.length = a.M ∧ Rd w0 a.B m
  cap : a.M ≤ a.cm
  nn : a.nn ≤ 9223372036854775807

theorem fp_new {w : World} {x : Nat} {v v' : Value} (h : New w v v') : ∀ k, Fp x v' k → Fp x v k ∨ w.heap.size ≤ k := by
  intro k hk
  rcases hk with hk | hk
  · exact .inl (.inl hk)
  · exact (h k hk).imp (fun e => .inr e) id

theorem act_any {w0 w : World} {x lim t : Nat} {v : Value} {l : List UInt8} (h : At w0 w x v lim l t) (A : Option Addr) (n c : Nat) (hn : l.length = n) (hnc : n ≤ c) (hnb : n ≤ 1000000) (hR : Rd w A l) (ht : t ≤ 1000000) (a : Ac) (ha : okA a = true) (hk : AcOk w0 a) :
    Calls Tryd.prog 16 #[.pointer (some ⟨x, 0, none⟩), rv lim A n c t, a.val] w (AcPost w0 w x v l A lim n t) := by
  obtain ⟨wh, B, M, cm, ofs, nn⟩ := a
  obtain ⟨⟨m, hm, hB⟩, hcap, hnn⟩ := hk
  simp only at hm hB hcap hnn
  unfold okA at ha
  rw [Bool.and_eq_true, decide_eq_true_iff] at ha
  obtain ⟨hM, hlong⟩ := ha
  simp only at hM hlong
  show Calls _ _ #[_, _, .agg #[.int .i64 wh, .slice B M cm, .int .i64 ofs, .int .i64 nn]] _ _
  by_cases h0 : 0 ≤ wh ∧ wh ≤ 2
  · refine (act_add h A n c hn (by omega) hR wh h0 B m M cm hm hcap (by omega) (by omega) (hB.below h.bel) (h.out hB) ofs nn).mono ?_
    rintro e w' ⟨v', A', n', c', rfl, h1, h2, h3, h4, h5, h6, h7, h8⟩
    refine ⟨x, v', _, _, A', n', c', rfl, h1, h2, h3, h4, ?_, by omega, h6, fp_new h7, fun _ => h8, .inr h5⟩
    rw [← h2, fin_len, List.length_append]
    omega
  · by_cases h3 : wh = 3 ∨ wh = 4
    · by_cases hO : obj n ofs nn = 0
      · have hb : 0 ≤ nn ∧ nn ≤ 131072 ∧ 1 ≤ ofs ∧ ofs ≤ (n : Int) := by
          unfold obj at hO
          split at hO
          · exact absurd hO (by decide)
          · split at hO
            · omega
            · exact absurd hO (by decide)
        have hs : nn ≤ 300 := by
          rcases Int.lt_or_le 300 nn with h5 | h5
          · exfalso
            rw [decide_eq_true h5, decide_eq_true hb.2.1] at hlong
            rcases h3 with rfl | rfl <;> simp at hlong
          · exact h5
        obtain ⟨D, rfl⟩ : ∃ D : Nat, ofs = (D : Int) := ⟨ofs.toNat, by omega⟩
        obtain ⟨k, rfl⟩ : ∃ k : Nat, nn = (k : Int) := ⟨nn.toNat, by omega⟩
        refine (act_copy h A n c hn hnb hR wh h3 B M cm D k (by omega) (by omega) (by omega) (by omega) _ rfl).mono ?_
        rintro e w' ⟨v', A', n', c', rfl, h1, h2, h3, h4, h5, h6, h7, h8⟩
        refine ⟨x, v', _, _, A', n', c', rfl, h1, h2, h3, h4, ?_, by omega, h6, fp_new h7, fun _ => h8, .inr h5⟩
        rw [← h2, fin_len, List.length_append, cyc_len]
        omega
      · refine (act_cbad h A n c hn wh h3 B M cm ofs nn _ rfl hO).mono ?_
        rintro e w' ⟨rfl, hb⟩
        exact ⟨x, v, l, t, A, n, c, rfl, h.below hb, hn, hnc, hR.below hb, by omega, by omega, Chg.of_below hb, fun _ hk => .inl hk, id, .inl ⟨rfl, rfl⟩⟩
    · by_cases h5 : wh = 5
      · subst h5
        refine (act_last h A n c hn hnc (by omega) hR B M cm ofs nn hnn).mono ?_
        rintro e w' ⟨rfl, hb⟩
        exact ⟨x, v, l, t, A, n, c, rfl, h.below hb, hn, hnc, hR.below hb, by omega, by omega, Chg.of_below hb, fun _ hk => .inl hk, id, .inl ⟨rfl, rfl⟩⟩
      · refine (act_clone h.rg lim A n c t wh B M cm ofs nn (by omega)).mono ?_
        rintro e w' ⟨y, u, rfl, hg, hb, hf⟩
        exact ⟨y, u, l, t, A, n, c, rfl, At.new h.bel hg hb hf, hn, hnc, hR.below hb, by omega, by omega, Chg.of_below hb, fun k hk => .inr (hf k hk), fun _ hm ad e hk => by have h8 := rd_lt hR hm ad e; have h9 := hf _ hk; omega, .inl ⟨rfl, rfl⟩⟩

end Go.Proofs.YteogpmapbeogpaaDoor
