/-
  What the reference's norms does: the norms that dec reads, or its error. Conditions: at most 10000 bits, at most 512 states, at most 256 symbols.
-/
import Derived.Test.YtpjbjbohbdlciaaRfg
namespace Go.Proofs.Ytpjbjbohbdlciaa
open Go.RowKit Go.Shelf
open Bt (unp unp_len val Rf)

/-- What the loops over the norms hold on to: left states are left; ran: the last norm is 0; more: parts of a run length come next. -/
def RN (w wr : World) (y g : Nat) (B : List Bool) (sy : Int) (Rz : Rs) (left : Nat) (ran more : Bool) (A1 : Option Addr) (n1 c1 : Nat) : Prop :=
  ∃ out s, Rs3 wr y g B s ∧ w.grownBy wr (some y) ∧ wr.ownsRow w.heap.size 3 1 (.slice A1 n1 c1) n1 (out.map iv) ∧ dec B sy left out s more = Rz ∧ (ran = true ↔ out.getLast? = some 0)

/-- What norms leaves. -/
def RNp (w : World) (y g : Nat) (B : List Bool) (Rz : Rs) (e : Ending) (w' : World) : Prop :=
  ∃ (A1 : Option Addr) (n1 c1 : Nat) (er : Int), e = .returned (.tuple #[.slice A1 n1 c1, .int .i64 er]) ∧ w.grownBy w' (some y) ∧
    ((∃ out s, Rz = .ok out s ∧ er = 0 ∧ Rs3 w' y g B s ∧ w'.ownsRow w.heap.size 3 1 (.slice A1 n1 c1) n1 (out.map iv)) ∨ (∃ k : Nat, Rz = .bad k ∧ er = (k : Int) ∧ k ≠ 0))

theorem rn_app {w w4 w6 : World} {y g s b n1 c1 : Nat} {B : List Bool} {A1 : Option Addr} {xs : List Value} {o : Obj} (h : Rs3 w4 y g B s) (hg4 : w.grownBy w4 (some y)) (hb : b = w.heap.size) (hy : y < b) (hgl : g < b)
    (ho : w4.ownsRow b 3 1 (.slice A1 n1 c1) n1 xs) (hg6 : (w4.alloc o).grownBy w6 (Value.ownBlock (.slice A1 n1 c1))) : Rs3 w6 y g B s ∧ w.grownBy w6 (some y) := by
  subst hb
  have bn : Below w4.heap.size w4 (w4.alloc o) := (Below.refl _ w4).alloc (Nat.le_refl _) _
  refine ⟨(h.below bn).grown hg6 (fun e => ?_) (fun e => ?_), ?_⟩
  · have := (ho.lt y e.symm).1; omega
  · have := (ho.lt g e.symm).1; omega
  · have hs4 := hg4.size
    refine ⟨hg6.os.trans (bn.os.trans hg4.os), hg6.tape.trans (bn.tape.trans hg4.tape), hg6.output.trans (bn.output.trans hg4.output), Nat.le_trans hg4.size (Nat.le_trans bn.size hg6.size), fun i hi hne => ?_⟩
    have e1 := hg6.block i (Nat.lt_of_lt_of_le hi (Nat.le_trans hg4.size bn.size)) (fun e => by have := (ho.lt i e.symm).1; omega)
    have e2 := bn.block i (Nat.lt_of_lt_of_le hi hg4.size)
    exact (e1.trans e2).trans (hg4.block i hi hne)

theorem own_grown {w4 w5 : World} {y b n1 c1 : Nat} {A1 : Option Addr} {xs : List Value} (ho : w4.ownsRow b 3 1 (.slice A1 n1 c1) n1 xs) (hg : w4.grownBy w5 (some y)) (hy : y < b) : w5.ownsRow b 3 1 (.slice A1 n1 c1) n1 xs :=
  own_chg (S := fun j => j = y) ⟨hg.os, hg.tape, hg.output, hg.size, fun i hi hne => hg.block i hi (fun e => hne (by cases e; rfl))⟩ ho (fun j ej => by have := (ho.lt j ej).1; omega)

set_option maxRecDepth 100000 in
set_option maxHeartbeats 1000000 in
theorem rnorms_any {w : World} {y g s : Nat} {B : List Bool} (h : Rs3 w y g B s) (hB : B.length ≤ 10000) (left : Nat) (hl5 : left ≤ 512) (sy : Int) (hsy : sy ≤ 256) (Rz : Rs) (hR : dec B sy left [] s false = Rz) :
    Calls Try.prog 46 #[.pointer (some ⟨y, 0, none⟩), .int .i64 (left : Int), .int .i64 sy] w (RNp w y g B Rz) := by
  have hyl : y < w.heap.size := h.lt
  have hgl : g < w.heap.size := h.1.2
  obtain ⟨b0, hb0⟩ : ∃ b0, w.heap.size = b0 := ⟨_, rfl⟩
  have S0 : Hid (RN w w y g B sy Rz left false false none 0 0) := Lib.hid ⟨[], s, h, ⟨rfl, rfl, rfl, Nat.le_refl _, fun i _ _ => rfl⟩, World.ownsRow_nil _ _ _ _, hR, by simp⟩
  have HYG : Hid (y < w.heap.size ∧ g < w.heap.size) := Lib.hid ⟨hyl, hgl⟩
  have GT : Hid (∀ W s1 (m : Nat), Rs3 W y g B s1 → 2 ≤ m → m ≤ 514 → Calls Try.prog 67 #[.pointer (some ⟨y, 0, none⟩), .int .i64 (m : Int)] W fun e w' => ∃ (V : Int) (s' : Nat) (er : Int), e = .returned (.tuple #[.int .i64 V, .int .i64 er]) ∧
      GetR B s1 m V s' er ∧ Rs3 w' y g B s' ∧ W.grownBy w' (some y)) := Lib.hid (fun W s1 m hW h2 h5 => get_u hW hB m h2 h5)
  have H2 : Hid (∀ W s1, Rs3 W y g B s1 → Calls Try.prog 45 #[.pointer (some ⟨y, 0, none⟩), .int .i64 2] W fun e w' => ∃ (V s' : Nat) (er : Int), e = .returned (.tuple #[.int .u64 (V : Int), .int .i64 er]) ∧
      ((s1 + 2 ≤ B.length ∧ V = tk B s1 2 ∧ s' = s1 + 2 ∧ er = 0) ∨ (B.length < s1 + 2 ∧ V = 0 ∧ s' = s1 ∧ er = 3)) ∧ Rs3 w' y g B s' ∧ W.grownBy w' (some y)) := Lib.hid (fun W s1 hW => first_u hW hB 2 (by decide))
  clear h hR hyl hgl hb0
  go_enter Try.func46, Try.ntmps46
  go_wp2_with fail
  go_loopw [1, 8, 9] (fun a b c wr => ∃ (left n1 c1 : Nat) (A1 : Option Addr) (ran : Bool), left ≤ 512 ∧ n1 ≤ 262 ∧ a = .int .i64 (left : Int) ∧ b = .slice A1 n1 c1 ∧ c = .bool ran ∧ Hid (RN w wr y g B sy Rz left ran false A1 n1 c1)) (fun _ b _ _ => match b with | .slice _ n _ => 300 - n | _ => 0)
  case atStart => exact ⟨left, 0, 0, none, false, hl5, by omega, rfl, rfl, rfl, S0⟩
  case round =>
    obtain ⟨left, n1, c1, A1, ran, hl5, hn1, rfl, rfl, rfl, HS⟩ := hrel
    obtain ⟨out, s, hr3, hg, ho, hR, hran⟩ := HS.out
    have hol : out.length = n1 := by have := ho.1; simp only [List.length_map, Nat.mul_one] at this; exact this
    by_cases hl0 : left = 0
    · subst hl0
      have HE : Hid (RNp w y g B Rz (.returned (.tuple #[.slice A1 n1 c1, .int .i64 0])) wr) := Lib.hid ⟨A1, n1, c1, 0, rfl, hg, .inl ⟨out, s, by rw [← hR, dec_done hr3.1.1], rfl, hr3, ho⟩⟩
      clear HS hr3 hg ho hR hran hol S0
      go_wp2
      go_ret2
      exact HE.out
    · have hlp : decide (0 < (left : Int)) = true := decide_eq_true (by omega)
      by_cases hf : sy ≤ (n1 : Int)
      · have hfd : decide (sy ≤ (n1 : Int)) = true := decide_eq_true hf
        have HE : Hid (RNp w y g B Rz (.returned (.tuple #[.slice none 0 0, .int .i64 13])) wr) := Lib.hid ⟨none, 0, 0, 13, rfl, hg, .inr ⟨13, by rw [← hR, dec_full hr3.1.1 (by omega) (by rw [hol]; exact hf)], rfl, by decide⟩⟩
        clear HS hr3 hg ho hR hran hol S0
        go_wp2
        go_ret2
        exact HE.out
      · have hfd : decide (sy ≤ (n1 : Int)) = false := decide_eq_false hf
        obtain ⟨m, hm⟩ : ∃ m, left + 2 = m := ⟨_, rfl⟩
        have hm1 : (left : Int) + 2 = (m : Int) := by omega
        have GG := Lib.hid (GT.out wr s m hr3 (by omega) (by omega))
        have HOUT := Lib.hid (And.intro hr3 (And.intro hg (And.intro ho (And.intro hR (And.intro hran hol)))))
        have HM := Lib.hid hm
        have hn1' : n1 ≤ 255 := by omega
        clear HS hr3 hg ho hR hran hol S0 hm
        go_upto_region 7 with (go_at_call 67; refine GG.out.mono ?_; rintro e w3 ⟨V, s1, er, rfl, hv, hr3, hg3⟩; have HV := Lib.hid hv; have R3 := Lib.hid hr3; have G3 := Lib.hid (Bt.grown_trans HOUT.out.2.1 hg3); have O3 := Lib.hid (own_grown HOUT.out.2.2.1 hg3 HYG.out.1); clear hv hr3 hg3)
        by_cases he : er = 0
        · subst he
          obtain ⟨v, rfl, hrd⟩ : ∃ v : Nat, V = (v : Int) ∧ rd B s m = some (v, s1) := by
            rcases HV.out with ⟨v, h1, h2, _⟩ | ⟨_, h⟩
            · exact ⟨v, h1, h2⟩
            · exact absurd h (by decide)
          have hvi := rd_inv (by omega) hrd
          have hvm : v < m := hvi.1
          have hv5 : v ≤ 513 := by omega
          have HRD := Lib.hid hrd
          clear HV GG hrd hvi
          obtain ⟨z, hz⟩ : ∃ z, (v : Int) - 1 = z := ⟨_, rfl⟩
          have hzl : -1 ≤ z := by omega
          have hzh : z ≤ 512 := by omega
          obtain ⟨st, hst⟩ : ∃ st, sts z = st := ⟨_, rfl⟩
          have hsn := stn_sts v
          rw [hz, hst] at hsn
          obtain ⟨left2, hl2⟩ : ∃ left2, left - stn v = left2 := ⟨_, rfl⟩
          have hl2i : (left : Int) - st = (left2 : Int) := by
            have hmm := HM.out
            unfold stn at hsn hl2
            split at hl2 <;> rename_i hv0 <;> simp only [hv0, if_true, if_false] at hsn <;> omega
          have hl25 : left2 ≤ 512 := by omega
          have hsl : 0 ≤ st := by omega
          have hsh : st ≤ 512 := by
            unfold stn at hsn
            split at hsn <;> omega
          have SV : Hid (∀ W, Calls Try.prog 36 #[.int .i64 z] W fun e w' => e = .returned (.int .i64 st) ∧ w' = W) := Lib.hid (fun W => by
            have := rstates_any W z
            rw [hst] at this
            exact this)
          by_cases hv1 : v = 1
          · subst hv1
            have hz0 : z = 0 := by omega
            subst hz0
            have hst0 : st = 0 := by rw [← hst]; rfl
            subst hst0
            have hll : left = left2 := by omega
            subst hll
            clear hz hst hsn hl2 hl2i hsl hsh hzl hzh
            cases ran with
            | true =>
              have HE : Hid (RNp w y g B Rz (.returned (.tuple #[.slice none 0 0, .int .i64 13])) w3) := Lib.hid ⟨none, 0, 0, 13, rfl, G3.out, .inr ⟨13, by
                obtain ⟨k1, k2, k3, k4, k5, k6⟩ := HOUT.out
                rw [← k4, dec_twice k1.1.1 (by omega) (by rw [k6]; omega) (by rw [HM.out]; exact HRD.out) ⟨rfl, k5.1 rfl⟩], rfl, by decide⟩⟩
              clear HOUT
              go_wp2
              go_ret2
              exact HE.out
            | false =>
              have NX : Hid (∀ w6 A6 c6, Rs3 w6 y g B s1 ∧ w.grownBy w6 (some y) → w6.ownsRow w.heap.size 3 1 (.slice A6 (n1 + 1) c6) (n1 + 1) (out.map iv ++ [.int .i64 0]) → RN w w6 y g B sy Rz left true true A6 (n1 + 1) c6) := Lib.hid (fun w6 A6 c6 h6 ho6 => by
                obtain ⟨k1, k2, k3, k4, k5, k6⟩ := HOUT.out
                refine ⟨out ++ [0], s1, h6.1, h6.2, by rw [List.map_append]; exact ho6, ?_, by simp⟩
                have hz1 : ¬ ((1 : Nat) = 1 ∧ out.getLast? = some 0) := fun h => by have := k5.2 h.2; cases this
                have := dec_num (sy := sy) k1.1.1 (by omega) (by rw [k6]; omega) (show rd B s (left + 2) = some (1, s1) by rw [HM.out]; exact HRD.out) hz1
                rw [k4] at this
                exact this.symm)
              have B4 : Hid (Below w3.heap.size w3 (w3.alloc (.cells #[.int .i64 0] 3))) := Lib.hid ((Below.refl _ _).alloc (Nat.le_refl _) _)
              have HB4 : Hid (w.heap.size ≤ (w3.alloc (.cells #[.int .i64 0] 3)).heap.size) := Lib.hid (Nat.le_trans G3.out.size B4.out.size)
              clear HOUT HRD
              go_wp2_with (first
                | (at_builtin; refine wpList_append_vals Try.underlying22 int_info rfl rfl _ _ rfl w.heap.size (.slice A1 n1 c1) n1 (out.map iv) rfl (own_below O3.out B4.out) (some ⟨w3.heap.size, 0, none⟩) [.int .i64 0] (by simp [Value.oneCell']) 1 1 rfl rfl (Bt.rv_one _ _ _) (by omega) (by omega) HB4.out ?_; intro v6 w6 ho6 hg6 _; obtain ⟨A6, c6, rfl, _⟩ := own_form ho6; have N6 := Lib.hid (NX.out w6 A6 c6 (rn_app R3.out G3.out rfl HYG.out.1 HYG.out.2 O3.out hg6) ho6); clear ho6 hg6)
                | (go_at_call 36; refine (SV.out _).mono ?_; rintro e w7 ⟨rfl, rfl⟩))
              clear NX R3 G3 O3 B4 HB4
              go_loopw [8, 12] (fun b d wx => ∃ (n2 c2 : Nat) (A2 : Option Addr) (more : Bool), n1 < n2 ∧ n2 ≤ 262 ∧ b = .slice A2 n2 c2 ∧ d = .bool more ∧ Hid (RN w wx y g B sy Rz left true more A2 n2 c2)) (fun b d _ => match b, d with | .slice _ n _, .bool more => 2 * (300 - n) + (if more then 1 else 0) | _, _ => 0)
              case atStart => exact ⟨n1 + 1, c6, A6, true, by omega, by omega, rfl, rfl, N6⟩
              case round =>
                obtain ⟨n2, c2, A2, more, hn12, hn2, rfl, rfl, HS2⟩ := hrel
                cases more with
                | false =>
                  go_wp2
                  exact ⟨⟨left, n2, c2, A2, true, hl5, hn2, rfl, rfl, rfl, HS2⟩, by (show 300 - n2 < 300 - n1); omega⟩
                | true =>
                  obtain ⟨out2, s2, hr3, hg, ho, hR, hran⟩ := HS2.out
                  have hol : out2.length = n2 := by have := ho.1; simp only [List.length_map, Nat.mul_one] at this; exact this
                  by_cases hf2 : sy ≤ (n2 : Int)
                  · have hfd2 : decide (sy ≤ (n2 : Int)) = true := decide_eq_true hf2
                    have HE : Hid (RNp w y g B Rz (.returned (.tuple #[.slice none 0 0, .int .i64 13])) wr) := Lib.hid ⟨none, 0, 0, 13, rfl, hg, .inr ⟨13, by rw [← hR, dec_rfull hr3.1.1 (by rw [hol]; exact hf2)], rfl, by decide⟩⟩
                    clear HS2 hr3 hg ho hR hran hol N6
                    go_wp2
                    go_ret2
                    exact HE.out
                  · have hfd2 : decide (sy ≤ (n2 : Int)) = false := decide_eq_false hf2
                    have FF := Lib.hid (H2.out wr s2 hr3)
                    have HO2 := Lib.hid (And.intro hr3 (And.intro hg (And.intro ho (And.intro hR (And.intro hran hol)))))
                    have hn2' : n2 ≤ 255 := by omega
                    clear HS2 hr3 hg ho hR hran hol N6
                    go_upto_region 19 with (go_at_call 45; refine FF.out.mono ?_; rintro e w5 ⟨k, s5, er5, rfl, hv5, hr5, hg5⟩; have HV5 := Lib.hid hv5; have R5 := Lib.hid hr5; have G5 := Lib.hid (Bt.grown_trans HO2.out.2.1 hg5); have O5 := Lib.hid (own_grown HO2.out.2.2.1 hg5 HYG.out.1); clear hv5 hr5 hg5)
                    by_cases he5 : er5 = 0
                    · subst he5
                      have HK : Hid (s2 + 2 ≤ B.length ∧ k = tk B s2 2 ∧ s5 = s2 + 2) := Lib.hid (by
                        rcases HV5.out with ⟨h1, h2, h3, _⟩ | ⟨_, _, _, h⟩
                        · exact ⟨h1, h2, h3⟩
                        · exact absurd h (by decide))
                      have hk3 : k ≤ 3 := by
                        rw [HK.out.2.1]
                        exact Nat.le_of_lt_succ (tk_lt B s2 2)
                      have NY : Hid (∀ W A7 c7, Rs3 W y g B s5 ∧ w.grownBy W (some y) → W.ownsRow w.heap.size 3 1 (.slice A7 (n2 + k) c7) (n2 + k) ((out2 ++ List.replicate k 0).map iv) → RN w W y g B sy Rz left true (k == 3) A7 (n2 + k) c7) := Lib.hid (fun W A7 c7 h7 ho7 => by
                        obtain ⟨k1, k2, k3, k4, k5, k6⟩ := HO2.out
                        obtain ⟨d1, d2, d3⟩ := HK.out
                        refine ⟨_, s5, h7.1, h7.2, ho7, ?_, ?_⟩
                        · rw [d2, d3, ← dec_part (by rw [k6]; omega) d1]
                          exact k4
                        · refine ⟨fun _ => ?_, fun _ => rfl⟩
                          have hz := k5.1 (by trivial)
                          cases k with
                          | zero => simpa using hz
                          | succ k => rw [List.replicate_succ', ← List.append_assoc]; simp)
                      have ZS : Hid ((Rs3 w5 y g B s5 ∧ w.grownBy w5 (some y)) ∧ w5.ownsRow w.heap.size 3 1 (.slice A2 (n2 + 0) c2) (n2 + 0) ((out2 ++ List.replicate 0 0).map iv)) := Lib.hid ⟨⟨R5.out, G5.out⟩, by simpa using O5.out⟩
                      clear HV5 FF HO2 HK R5 G5 O5
                      go_wp2_with fail
                      go_loopw [8, 15] (fun b a wx => ∃ (j n3 c3 : Nat) (A3 : Option Addr), j ≤ k ∧ n3 ≤ 262 ∧ b = .slice A3 n3 c3 ∧ a = .int .i64 (j : Int) ∧ Hid (n3 = n2 + j ∧ (Rs3 wx y g B s5 ∧ w.grownBy wx (some y)) ∧ wx.ownsRow w.heap.size 3 1 (.slice A3 n3 c3) n3 ((out2 ++ List.replicate j 0).map iv))) (fun _ a _ => k - (intOf a).toNat)
                      case atStart => exact ⟨0, n2, c2, A2, Nat.zero_le _, by omega, rfl, rfl, Lib.hid ⟨rfl, ZS.out⟩⟩
                      case round =>
                        obtain ⟨j, n3, c3, A3, hj, hn3, rfl, rfl, HZ⟩ := hrel
                        obtain ⟨hn3e, hrg, ho3⟩ := HZ.out
                        by_cases hjk : j < k
                        · have R6 := Lib.hid hrg
                          have O6 := Lib.hid ho3
                          have B7 : Hid (Below wr.heap.size wr (wr.alloc (.cells #[.int .i64 0] 3))) := Lib.hid ((Below.refl _ _).alloc (Nat.le_refl _) _)
                          have HB7 : Hid (w.heap.size ≤ (wr.alloc (.cells #[.int .i64 0] 3)).heap.size) := Lib.hid (Nat.le_trans hrg.2.size B7.out.size)
                          have HN3 := Lib.hid hn3e
                          have hn31 : n3 + 1 ≤ 262 := by omega
                          clear HZ hrg ho3 ZS NY hn3e
                          go_wp2_with (at_builtin; refine wpList_append_vals Try.underlying22 int_info rfl rfl _ _ rfl w.heap.size (.slice A3 n3 c3) n3 ((out2 ++ List.replicate j 0).map iv) rfl (own_below O6.out B7.out) (some ⟨wr.heap.size, 0, none⟩) [.int .i64 0] (by simp [Value.oneCell']) 1 1 rfl rfl (Bt.rv_one _ _ _) (by omega) (by omega) HB7.out ?_; intro v8 w8 ho8 hg8 _; obtain ⟨A8, c8, rfl, _⟩ := own_form ho8; have N8 : Hid ((Rs3 w8 y g B s5 ∧ w.grownBy w8 (some y)) ∧ w8.ownsRow w.heap.size 3 1 (.slice A8 (n3 + 1) c8) (n3 + 1) ((out2 ++ List.replicate (j + 1) 0).map iv)) := Lib.hid ⟨rn_app R6.out.1 R6.out.2 rfl HYG.out.1 HYG.out.2 O6.out hg8, (by rw [List.replicate_succ', ← List.append_assoc, List.map_append]; exact ho8)⟩; clear ho8 hg8)
                          exact ⟨⟨j + 1, n3 + 1, c8, A8, by omega, hn31, rfl, by simp, Lib.hid ⟨by have := HN3.out; omega, N8.out⟩⟩, by simp [intOf]; omega⟩
                        · have hjk2 : j = k := by omega
                          subst hjk2
                          have N9 : Hid (RN w wr y g B sy Rz left true (j == 3) A3 n3 c3) := Lib.hid (by
                            subst hn3e
                            exact NY.out wr A3 c3 hrg ho3)
                          have HN3 : Hid (n3 = n2 + j) := Lib.hid hn3e
                          obtain ⟨mo, hmo⟩ : ∃ mo, (j == 3) = mo := ⟨_, rfl⟩
                          rw [hmo] at N9
                          have hmi : ((j : Int) == 3) = mo := by
                            rw [← hmo]
                            by_cases h3 : j = 3
                            · subst h3; rfl
                            · rw [show (j == 3) = false by simpa using h3]
                              simp only [beq_eq_false_iff_ne, ne_eq]
                              omega
                          have HMO := Lib.hid hmo
                          clear HZ hrg ho3 ZS NY hn3e hmo
                          go_wp2
                          refine ⟨⟨n3, c3, A3, mo, by have := HN3.out; omega, hn3, rfl, rfl, N9⟩, ?_⟩
                          have h1 := HN3.out
                          have h2 := HMO.out
                          show 2 * (300 - n3) + (if mo = true then 1 else 0) < 2 * (300 - n2) + 1
                          cases mo with
                          | false => simp; omega
                          | true =>
                            have : j = 3 := by simpa using h2
                            simp
                            omega
                    · have hne5 : (er5 != 0) = true := by simpa using he5
                      have HE : Hid (RNp w y g B Rz (.returned (.tuple #[.slice none 0 0, .int .i64 er5])) w5) := Lib.hid ⟨none, 0, 0, er5, rfl, G5.out, .inr ⟨3, by
                        obtain ⟨k1, k2, k3, k4, k5, k6⟩ := HO2.out
                        rcases HV5.out with ⟨_, _, _, h⟩ | ⟨h1, _⟩
                        · exact absurd h he5
                        · rw [← k4, dec_rshort k1.1.1 (by rw [k6]; omega) h1], by
                        rcases HV5.out with ⟨_, _, _, h⟩ | ⟨_, _, _, h⟩
                        · exact absurd h he5
                        · rw [h]; rfl, by decide⟩⟩
                      clear HV5 FF HO2 he5
                      go_wp2
                      go_ret2
                      exact HE.out
          · have hvn : ((v : Int) == 1) = false := by simp only [beq_eq_false_iff_ne, ne_eq]; omega
            have NX : Hid (∀ w6 A6 c6, Rs3 w6 y g B s1 ∧ w.grownBy w6 (some y) → w6.ownsRow w.heap.size 3 1 (.slice A6 (n1 + 1) c6) (n1 + 1) (out.map iv ++ [.int .i64 z]) → RN w w6 y g B sy Rz left2 false false A6 (n1 + 1) c6) := Lib.hid (fun w6 A6 c6 h6 ho6 => by
              obtain ⟨k1, k2, k3, k4, k5, k6⟩ := HOUT.out
              refine ⟨out ++ [z], s1, h6.1, h6.2, by rw [List.map_append]; exact ho6, ?_, ?_⟩
              · have := dec_num (sy := sy) k1.1.1 (by omega) (by rw [k6]; omega) (show rd B s (left + 2) = some (v, s1) by rw [HM.out]; exact HRD.out) (fun h => hv1 h.1)
                rw [k4, hl2, hz, show (v == 1) = false by simpa using hv1] at this
                exact this.symm
              · have : z ≠ 0 := by omega
                simp [this])
            have B4 : Hid (Below w3.heap.size w3 (w3.alloc (.cells #[.int .i64 z] 3))) := Lib.hid ((Below.refl _ _).alloc (Nat.le_refl _) _)
            have HB4 : Hid (w.heap.size ≤ (w3.alloc (.cells #[.int .i64 z] 3)).heap.size) := Lib.hid (Nat.le_trans G3.out.size B4.out.size)
            clear HOUT HRD hst hsn hl2
            go_wp2_with (first
              | (at_builtin; refine wpList_append_vals Try.underlying22 int_info rfl rfl _ _ rfl w.heap.size (.slice A1 n1 c1) n1 (out.map iv) rfl (own_below O3.out B4.out) (some ⟨w3.heap.size, 0, none⟩) [.int .i64 z] (by simp [Value.oneCell']) 1 1 rfl rfl (Bt.rv_one _ _ _) (by omega) (by omega) HB4.out ?_; intro v6 w6 ho6 hg6 _; obtain ⟨A6, c6, rfl, _⟩ := own_form ho6; have N6 := Lib.hid (NX.out w6 A6 c6 (rn_app R3.out G3.out rfl HYG.out.1 HYG.out.2 O3.out hg6) ho6); clear ho6 hg6)
              | (go_at_call 36; refine (SV.out _).mono ?_; rintro e w7 ⟨rfl, rfl⟩))
            clear NX R3 G3 O3 B4 HB4
            go_loopw [8, 12] (fun b d wx => b = .slice A6 (n1 + 1) c6 ∧ d = .bool false ∧ Hid (RN w wx y g B sy Rz left2 false false A6 (n1 + 1) c6)) (fun _ _ _ => 0)
            case atStart => exact ⟨rfl, rfl, N6⟩
            case round =>
              obtain ⟨rfl, rfl, N7⟩ := hrel
              go_wp2
              exact ⟨⟨left2, n1 + 1, c6, A6, false, hl25, by omega, rfl, rfl, rfl, N7⟩, by (show 300 - (n1 + 1) < 300 - n1); omega⟩
        · have hne : (er != 0) = true := by simpa using he
          have HE : Hid (RNp w y g B Rz (.returned (.tuple #[.slice none 0 0, .int .i64 er])) w3) := Lib.hid ⟨none, 0, 0, er, rfl, G3.out, .inr ⟨3, by
            obtain ⟨k1, k2, k3, k4, k5, k6⟩ := HOUT.out
            rcases HV.out with ⟨_, _, _, h⟩ | ⟨h1, _⟩
            · exact absurd h he
            · rw [← k4, dec_short k1.1.1 (by omega) (by rw [k6]; omega) (by rw [HM.out]; exact h1)], by
            rcases HV.out with ⟨_, _, _, h⟩ | ⟨_, h⟩
            · exact absurd h he
            · rw [h]; rfl, by decide⟩⟩
          clear HV HOUT GG he
          go_wp2
          go_ret2
          exact HE.out

end Go.Proofs.Ytpjbjbohbdlciaa
