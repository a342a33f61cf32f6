/-
  What the reader's norms does: the norms that dec reads, or its error. Conditions: at most 1000 bytes; at most 512 states are left, at most 256 symbols.
-/
import Derived.Test.YtpjbjbohbdlciaaNst
import Derived.Deep.CutRange
import Derived.Deep.DeepCutAuto
import Derived.WalkMore
import Derived.ScopeJumps
namespace Go.Proofs.Ytpjbjbohbdlciaa
open Go.RowKit Go.Shelf
open Bt (unp unp_len)

set_option maxRecDepth 100000 in
set_option maxHeartbeats 4000000 in
theorem norms_any {w : World} {r x : Nat} {A : Option Addr} {c : Nat} {D : List UInt8} {s : Nat} (h : Dr w r x A c D s 0) (hD : D.length ≤ 1000) (left : Nat) (hl5 : left ≤ 512) (sy : Int) (hsy : sy ≤ 256) (Rz : Rs) (hR : dec (unp D) sy left [] s false = Rz) :
    Calls Try.prog 60 #[.pointer (some ⟨r, 0, none⟩), .int .i64 (left : Int), .int .i64 sy] w (NormsP w r x A c D Rz) := by
  have S0 : Hid (NSt w w r x A c D sy Rz false (left : Int) none 0 0) := Lib.hid ⟨[], s, 0, h, Chg.refl _ _, World.ownsRow_nil _ _ _ _, fun _ => ⟨left, rfl, hR⟩, fun h => absurd rfl h, fun _ => by decide⟩
  have H0 := Lib.hid h
  clear h hR
  go_enter Try.func60, Try.ntmps60
  go_wp2
  go_step3
  go_wp2
  go_step3
  go_wp2
  go_loopw [1, 7] (fun a b wr => ∃ (L : Int) (n1 c1 : Nat) (A1 : Option Addr), -5000 ≤ L ∧ L ≤ 512 ∧ n1 ≤ 262 ∧ a = .int .i64 L ∧ b = .slice A1 n1 c1 ∧ Hid (NSt w wr r x A c D sy Rz false L A1 n1 c1)) (fun _ b _ => match b with | .slice _ n _ => 300 - n | _ => 0)
  case atStart => exact ⟨(left : Int), 0, 0, none, by omega, by omega, by decide, rfl, rfl, S0⟩
  case round =>
    obtain ⟨L, n1, c1, A1, hL0, hL5, hn1, rfl, rfl, HS⟩ := hrel
    obtain ⟨out, s, er, hd, hc, ho, h1, h2, h3⟩ := HS.out
    have k1 := hd.c1
    by_cases hpos : 0 < L
    · by_cases he : er = 0
      · subst he
        obtain ⟨left, rfl, hR⟩ := h1 rfl
        have hn258 := h3 rfl
        have holen : out.length = n1 := by have := ho.1; simp only [List.length_map, Nat.mul_one] at this; exact this
        have hleft : 0 < left := by omega
        obtain ⟨m, hm⟩ : ∃ m, left + 2 = m := ⟨_, rfl⟩
        have hm1 : (left : Int) + 2 = (m : Int) := by omega
        obtain ⟨b1, hb1⟩ : ∃ b1, decide ((n1 : Int) < sy) = b1 := ⟨_, rfl⟩
        obtain ⟨er1, her1⟩ : ∃ er1, dem b1 0 = er1 := ⟨_, rfl⟩
        have DM1 := Lib.hid (demand_any hd b1 er1 her1)
        have TN : Hid (∀ W, Dr W r x A c D s er1 → Calls Try.prog 76 #[.int .i64 (m : Int), takev r] W fun q w' => ∃ (v s1 : Nat) (er2 : Int), q = .returned (.int .i64 (v : Int)) ∧ TNR (unp D) s m er1 v s1 er2 ∧ v ≤ 2000 ∧ Left W r x A c D s1 er2 w') := Lib.hid (fun W hW => tn_u hW hD m (by omega) (by omega))
        have HOUT : Hid (dec (unp D) sy left out s false = Rz ∧ out.length = n1 ∧ left + 2 = m ∧ dem (decide ((out.length : Int) < sy)) 0 = er1 ∧ s ≤ (unp D).length) := Lib.hid ⟨hR, holen, hm, by rw [holen, hb1]; exact her1, by rw [unp_len]; exact hd.le⟩
        have HC := Lib.hid hc
        have HO := Lib.hid ho
        have hA1 : Hid (0 < n1 → ∃ x1, out[n1 - 1]? = some x1 ∧ out.getLast? = some x1 ∧ ∃ g, A1 = some ⟨g, 0, none⟩ ∧ wr.cell? ⟨g, n1 - 1, none⟩ = some (.int .i64 x1) ∧ ¬ two r x g ∧ g < wr.heap.size) := Lib.hid (fun hp => by
          obtain ⟨x1, hx1⟩ : ∃ x1, out[n1 - 1]? = some x1 := ⟨_, List.getElem?_eq_getElem (by omega)⟩
          refine ⟨x1, hx1, by rw [List.getLast?_eq_getElem?, holen]; exact hx1, ?_⟩
          rcases ho.2 with ⟨_, h0⟩ | ⟨g, cp, cur, hv, hbg, _⟩
          · omega
          · cases hv
            have hlt : g < wr.heap.size := own_lt ho rfl
            refine ⟨g, rfl, ?_, ?_, hlt⟩
            · rw [ho.cellAt (n1 - 1) (by omega), List.getElem?_map, hx1]; rfl
            · have h4 := H0.out.lt
              have h5 := H0.out.sp.lt
              rintro (e | e) <;> omega)
        clear HS hd hc ho h1 h2 h3 hR holen hm her1
        go_upto_region 5 with (first
          | (go_at_call 59; refine DM1.out.mono ?_; rintro q w2 ⟨rfl, hl2⟩; have L2 := Lib.hid hl2; clear hl2)
          | (go_at_call 76; refine (TN.out _ L2.out.1).mono ?_; rintro q w3 ⟨v, s1, er2, rfl, htn, hv2, hl3⟩; obtain ⟨z, hz⟩ : ∃ z, (v : Int) - 1 = z := ⟨_, rfl⟩; have L3 := Lib.hid (L2.out.trans hl3); have HTN := Lib.hid htn; clear htn hl3))
        have HZ := Lib.hid hz
        have hz2 : -1 ≤ z ∧ z ≤ 2000 := by omega
        have hzl : -1 ≤ z := hz2.1
        have hzh : z ≤ 2000 := hz2.2
        clear hz hz2
        have SV : Hid (∀ W, Calls Try.prog 51 #[.int .i64 z] W fun e w' => e = .returned (.int .i64 (sts z)) ∧ w' = W) := Lib.hid (fun W => states_any W z hzl (by omega))
        have HH : Hid (r < w.heap.size ∧ x < w.heap.size ∧ ∀ ad, A = some ad → ad.block < w.heap.size) := Lib.hid ⟨H0.out.lt, H0.out.sp.lt, fun ad e => (H0.out.sp.ne ad e).2⟩
        have O3 : Hid (w3.ownsRow w.heap.size 3 1 (.slice A1 n1 c1) n1 (out.map iv)) := Lib.hid (own_chg L3.out.2 HO.out fun g hg => by
          have h1 := (HO.out.lt g hg).1
          have h2 := HH.out
          rintro (e | e) <;> omega)
        by_cases hv1 : v = 1
        · subst hv1
          have hz0 : z = 0 := by have := HZ.out; omega
          subst hz0
          have hs0 : sts 0 = 0 := rfl
          rw [hs0] at SV
          clear hzl hzh HZ
          go_cut [] from 10 to 71 (fun wx => ∃ er3 : Int, Hid ((er3 = 0 → dec (unp D) sy left (out ++ [0]) s1 true = Rz ∧ (out.length : Int) < sy ∧ s1 ≤ (unp D).length) ∧ (er3 ≠ 0 → ∃ e : Nat, er3 = (e : Int) ∧ Rz = .bad e)) ∧ Hid (Left w3 r x A c D s1 er3 wx))
          case first =>
            have ST : Hid (∀ (b : Bool) (er3 : Int), (b = false ↔ out.getLast? = some 0) → dem b er2 = er3 → (er3 = 0 → dec (unp D) sy left (out ++ [0]) s1 true = Rz ∧ (out.length : Int) < sy ∧ s1 ≤ (unp D).length) ∧ (er3 ≠ 0 → ∃ e : Nat, er3 = (e : Int) ∧ Rz = .bad e)) := Lib.hid (fun b er3 hb h3 => by
              obtain ⟨hR, holen, hm, h1, hs⟩ := HOUT.out
              subst hm
              have hsp := num_step (b := b) (er3 := er3) hleft hs hR h1 HTN.out ⟨fun h => ⟨rfl, hb.1 h⟩, fun h => hb.2 h.2⟩ h3
              refine ⟨fun e0 => ?_, hsp.2⟩
              have h4 := hsp.1 e0
              exact ⟨h4.1, h4.2.1, h4.2.2.2⟩)
            by_cases hn0 : n1 = 0
            · have hn0b : ((n1 : Int) == 0) = true := by rw [hn0]; rfl
              have DM2 := Lib.hid (demand_any L3.out.1 true er2 rfl)
              have S1 := Lib.hid (ST.out true er2 ⟨fun h => (by cases h), fun h => by
                have h2 := HOUT.out.2.1
                rw [hn0] at h2
                rw [List.eq_nil_of_length_eq_zero h2] at h
                cases h⟩ rfl)
              clear hn0
              clear hA1 ST HOUT HTN TN DM1
              go_wp2_with (go_at_call 59; refine DM2.out.mono ?_; rintro q w4 ⟨rfl, hl4⟩; have L4 := Lib.hid hl4; clear hl4)
              go_meet
              exact ⟨er2, S1, L4⟩
            · obtain ⟨x1, hx1, hlast, g, rfl, hcl, hng, hgl⟩ := hA1.out (by omega)
              have hn0b : ((n1 : Int) == 0) = false := by simpa using hn0
              have hc3 : w3.cell? ⟨g, n1 - 1, none⟩ = some (.int .i64 x1) := by
                exact (World.cell?_of_block (a := ⟨g, n1 - 1, none⟩) (show w3.heap[g]? = wr.heap[g]? from L3.out.2.block g hgl hng)).trans hcl
              obtain ⟨j1, hj1⟩ : ∃ j1, n1 - 1 = j1 := ⟨_, rfl⟩
              have hj2 : (n1 : Int) - 1 = (j1 : Int) := by omega
              rw [hj1] at hc3
              obtain ⟨b, hb⟩ : ∃ b, (x1 != 0) = b := ⟨_, rfl⟩
              obtain ⟨er3, her3⟩ : ∃ er3, dem b er2 = er3 := ⟨_, rfl⟩
              have DM2 := Lib.hid (demand_any L3.out.1 b er3 her3)
              have S1 := Lib.hid (ST.out b er3 (by rw [← hb, hlast]; simp) her3)
              have hjn : j1 < n1 := by omega
              clear hA1 ST HOUT HTN TN DM1 hx1 hlast hcl her3 hj1
              go_wp2_with (go_at_call 59; refine DM2.out.mono ?_; rintro q w4 ⟨rfl, hl4⟩; have L4 := Lib.hid hl4; clear hl4)
              go_meet
              exact ⟨er3, S1, L4⟩
          case rest =>
            obtain ⟨er3, S1, LX⟩ := hcut
            have holen := HOUT.out.2.1
            have O4 := Lib.hid (own_chg LX.out.2 O3.out fun g hg => by (have h1 := (O3.out.lt g hg).1; have h2 := HH.out; rintro (e | e) <;> omega))
            have B4 : Hid (Below wc.heap.size wc (wc.alloc (.cells #[.int .i64 0] 3))) := Lib.hid ((Below.refl _ _).alloc (Nat.le_refl _) _)
            have C4 := Lib.hid (HC.out.trans (L3.out.trans LX.out).2)
            have NX : Hid (∀ w6 A6 c6, Dr w6 r x A c D s1 er3 ∧ Chg (two r x) w w6 → w6.ownsRow w.heap.size 3 1 (.slice A6 (n1 + 1) c6) (n1 + 1) (out.map iv ++ [.int .i64 0]) → NSt w w6 r x A c D sy Rz true (left : Int) A6 (n1 + 1) c6) := Lib.hid (fun w6 A6 c6 h6 ho6 =>
              ⟨out ++ [0], s1, er3, h6.1, h6.2, by rw [List.map_append]; exact ho6, fun e0 => ⟨left, rfl, (S1.out.1 e0).1⟩, S1.out.2, fun e0 => by have h4 := (S1.out.1 e0).2.1; omega⟩)
            have hn259 : n1 + 1 ≤ 262 := by omega
            clear HTN HOUT hA1 TN DM1 holen S1 L3 O3
            go_wp2_with (first
              | (at_builtin; refine wpList_append_vals Try.underlying22 int_info rfl rfl _ _ rfl w.heap.size (.slice A1 n1 c1) n1 (out.map iv) rfl (own_below O4.out B4.out) (some ⟨wc.heap.size, 0, none⟩) [.int .i64 0] (by simp [Value.oneCell']) 1 1 rfl rfl (Bt.rv_one _ _ _) (by omega) (by omega) (Nat.le_trans C4.out.size B4.out.size) ?_; intro v6 w6 ho6 hg6 _; obtain ⟨A6, c6, rfl, _⟩ := own_form ho6; have N6 := Lib.hid (NX.out w6 A6 c6 (app_step HH.out LX.out.1 C4.out B4.out O4.out hg6) ho6); clear ho6 hg6)
              | (go_at_call 51; refine (SV.out _).mono ?_; rintro e w7 ⟨rfl, rfl⟩))
            go_loopw [7, 9] (fun b _ wx => ∃ (n2 c2 : Nat) (A2 : Option Addr), n1 < n2 ∧ n2 ≤ 262 ∧ b = .slice A2 n2 c2 ∧ Hid (NSt w wx r x A c D sy Rz true (left : Int) A2 n2 c2)) (fun b _ _ => match b with | .slice _ n _ => 300 - n | _ => 0)
            case atStart => exact ⟨n1 + 1, c6, A6, by omega, hn259, rfl, N6⟩
            case round =>
              obtain ⟨n2, c2, A2, hn12, hn2, rfl, HS2⟩ := hrel
              obtain ⟨out2, s2, er, hd2, hc2, ho2, g1, g2, g3⟩ := HS2.out
              have ho2l : out2.length = n2 := by have := ho2.1; simp only [List.length_map, Nat.mul_one] at this; exact this
              obtain ⟨b2, hb2⟩ : ∃ b2, decide ((n2 : Int) < sy) = b2 := ⟨_, rfl⟩
              obtain ⟨er4, her4⟩ : ∃ er4, dem b2 er = er4 := ⟨_, rfl⟩
              have DM3 := Lib.hid (demand_any hd2 b2 er4 her4)
              have TK : Hid (∀ W, Dr W r x A c D s2 er4 → Calls Try.prog 58 #[.pointer (some ⟨r, 0, none⟩), .int .i64 2] W fun q w' => ∃ (k s1 : Nat) (er2 : Int), q = .returned (.int .i64 (k : Int)) ∧ TKR (unp D) s2 er4 k s1 er2 ∧ k ≤ 3 ∧ Left W r x A c D s1 er2 w') := Lib.hid (fun W hW => tk_u hW hD)
              have C5 := Lib.hid hc2
              have NY : Hid (∀ k s5 er5, TKR (unp D) s2 er4 k s5 er5 → ∀ w6 A6 c6, Dr w6 r x A c D s5 er5 ∧ Chg (two r x) w w6 → w6.ownsRow w.heap.size 3 1 (.slice A6 (n2 + k) c6) (n2 + k) (out2.map iv ++ List.replicate k (.int .i64 0)) → n2 + k ≤ 262 ∧ NSt w w6 r x A c D sy Rz (k == 3) (left : Int) A6 (n2 + k) c6) := Lib.hid (fun k s5 er5 htk w6 A6 c6 h6 ho6 => by
                have hsp := run_step (out := out2) (er := er) (s := s2) (left := left) (Rz := Rz) (sy := sy) (by rw [unp_len]; exact hd2.le) (fun e0 => by
                  obtain ⟨left', hl', hR'⟩ := g1 e0
                  have : left = left' := by omega
                  rw [this]
                  exact hR') g2 (by rw [ho2l, hb2]; exact her4) htk
                have hk0 := hsp.2.2
                have hbd : er5 = 0 → n2 + k ≤ 258 := fun e0 => by
                  have h4 := (hsp.1 e0).2.1
                  rcases htk with ⟨_, hk, _⟩ | ⟨_, _, hk, _, _⟩ | ⟨_, _, hk, _⟩
                  · omega
                  · have : tk (unp D) s2 2 < 4 := tk_lt _ _ 2
                    omega
                  · omega
                refine ⟨?_, out2 ++ List.replicate k 0, s5, er5, h6.1, h6.2, by rw [List.map_append, List.map_replicate]; exact ho6, fun e0 => ⟨left, rfl, (hsp.1 e0).1⟩, hsp.2.1, hbd⟩
                by_cases e0 : er5 = 0
                · have := hbd e0; omega
                · have := hk0 e0; omega)
              have O5 := Lib.hid ho2
              clear HS2 hd2 hc2 ho2 g1 g2 g3 ho2l her4
              go_upto_region 12 with (first
                | (go_at_call 59; refine DM3.out.mono ?_; rintro q w2 ⟨rfl, hl2⟩; have M2 := Lib.hid hl2; clear hl2)
                | (go_at_call 58; refine (TK.out _ M2.out.1).mono ?_; rintro q w3 ⟨k, s5, er5, rfl, htk, hk3, hl3⟩; have M3 := Lib.hid (M2.out.trans hl3); have O6 := Lib.hid (own_chg M3.out.2 O5.out fun g hg => by (have h1 := (O5.out.lt g hg).1; have h2 := HH.out; rintro (e | e) <;> omega)); have C6 := Lib.hid (C5.out.trans M3.out.2); have HTK := Lib.hid (NY.out _ _ _ htk); clear htk hl3)
                | (at_builtin; refine wpList_append_zeros rfl _ _ rfl w.heap.size A2 n2 c2 (out2.map iv) rfl O6.out (by omega) k hk3 rfl (by omega) C6.out.size ?_; intro v7 w7 ho7 hg7 _; obtain ⟨A7, c7, rfl, _⟩ := own_form ho7; have N7 := Lib.hid (HTK.out w7 A7 c7 (app_step HH.out M3.out.1 C6.out (Below.refl _ _) O6.out hg7) ho7); clear ho7 hg7))
              by_cases hk : k = 3
              · have hkd : decide ((k : Int) < 3) = false := decide_eq_false (by omega)
                have N8 : Hid (n2 + k ≤ 262 ∧ NSt w w7 r x A c D sy Rz true (left : Int) A7 (n2 + k) c7) := Lib.hid (by
                  have := N7.out
                  rw [show (k == 3) = true by simpa using hk] at this
                  exact this)
                have hk4 : 2 < k := by omega
                clear N7 hk
                go_wp2
                exact ⟨⟨n2 + k, c7, A7, by omega, N8.out.1, rfl, Lib.hid N8.out.2⟩, by (show 300 - (n2 + k) < 300 - n2); omega⟩
              · have hkd : decide ((k : Int) < 3) = true := decide_eq_true (by omega)
                have N8 : Hid (n2 + k ≤ 262 ∧ NSt w w7 r x A c D sy Rz false (left : Int) A7 (n2 + k) c7) := Lib.hid (by
                  have := N7.out
                  rw [show (k == 3) = false by simpa using hk] at this
                  exact this)
                clear N7 hk
                go_wp2
                exact ⟨⟨(left : Int), n2 + k, c7, A7, by omega, by omega, N8.out.1, rfl, rfl, Lib.hid N8.out.2⟩, by (show 300 - (n2 + k) < 300 - n1); omega⟩
        · have hne : (z != 0) = true := by
            have := HZ.out
            simp only [bne_iff_ne, ne_eq]
            omega
          have hne2 : (z == 0) = false := by
            have := HZ.out
            simp only [beq_eq_false_iff_ne, ne_eq]
            omega
          obtain ⟨st, hst⟩ : ∃ st, sts z = st := ⟨_, rfl⟩
          have hstb : 0 ≤ st ∧ st ≤ 2000 := by have := sts_pos hzl; rw [hst] at this; rw [← hst]; unfold sts; split <;> omega
          have hst0 : 0 ≤ st := hstb.1
          have hst2 : st ≤ 2000 := hstb.2
          rw [hst] at SV
          obtain ⟨L2', hL2⟩ : ∃ L2', (left : Int) - st = L2' := ⟨_, rfl⟩
          have DM2 := Lib.hid (demand_any L3.out.1 true er2 rfl)
          have NX : Hid (∀ w6 A6 c6, Dr w6 r x A c D s1 er2 ∧ Chg (two r x) w w6 → w6.ownsRow w.heap.size 3 1 (.slice A6 (n1 + 1) c6) (n1 + 1) (out.map iv ++ [.int .i64 z]) → NSt w w6 r x A c D sy Rz false L2' A6 (n1 + 1) c6) := Lib.hid (fun w6 A6 c6 h6 ho6 => by
            obtain ⟨hR, holen, hm, h1, hs⟩ := HOUT.out
            subst hm
            have hsp := num_step (b := true) (er3 := er2) hleft hs hR h1 HTN.out ⟨fun h => (by cases h), fun h => absurd h.1 hv1⟩ rfl
            refine ⟨out ++ [z], s1, er2, h6.1, h6.2, by rw [List.map_append]; exact ho6, fun e0 => ⟨left - stn v, ?_, ?_⟩, hsp.2, fun e0 => by omega⟩
            · have h2 := (hsp.1 e0).2.2.1
              have h3 := stn_sts v
              rw [HZ.out, hst] at h3
              unfold stn at h3 ⊢
              split at h3 <;> rename_i hv0 <;> simp only [hv0, if_true, if_false] <;> omega
            · have h2 := (hsp.1 e0).1
              rw [HZ.out, show (v == 1) = false by simpa using hv1] at h2
              exact h2)
          have hn258' : n1 + 1 ≤ 262 := by omega
          clear hst hstb HTN HOUT hA1 TN DM1
          go_wp2_with (first
            | (go_at_call 59; refine DM2.out.mono ?_; rintro q w4 ⟨rfl, hl4⟩; have L4 := Lib.hid (L3.out.trans hl4); have O4 := Lib.hid (own_chg hl4.2 O3.out fun g hg => by (have h1 := (O3.out.lt g hg).1; have h2 := HH.out; rintro (e | e) <;> omega)); have B4 : Hid (Below w4.heap.size w4 (w4.alloc (.cells #[.int .i64 z] 3))) := Lib.hid ((Below.refl _ _).alloc (Nat.le_refl _) _); have C4 := Lib.hid (HC.out.trans (L3.out.trans hl4).2); clear hl4)
            | (at_builtin; refine wpList_append_vals Try.underlying22 int_info rfl rfl _ _ rfl w.heap.size (.slice A1 n1 c1) n1 (out.map iv) rfl (own_below O4.out B4.out) (some ⟨w4.heap.size, 0, none⟩) [.int .i64 z] (by simp [Value.oneCell']) 1 1 rfl rfl (Bt.rv_one _ _ _) (by omega) (by omega) (Nat.le_trans C4.out.size B4.out.size) ?_; intro v6 w6 ho6 hg6 _; obtain ⟨A6, c6, rfl, _⟩ := own_form ho6; have N6 := Lib.hid (NX.out w6 A6 c6 (app_step HH.out L4.out.1 C4.out B4.out O4.out hg6) ho6); clear ho6 hg6)
            | (go_at_call 51; refine (SV.out _).mono ?_; rintro e w7 ⟨rfl, rfl⟩))
          go_loopw [7, 9] (fun b _ wx => b = .slice A6 (n1 + 1) c6 ∧ Hid (NSt w wx r x A c D sy Rz false L2' A6 (n1 + 1) c6)) (fun _ _ _ => 0)
          case atStart => exact ⟨rfl, N6⟩
          case round =>
            obtain ⟨rfl, N7⟩ := hrel
            go_wp2
            exact ⟨⟨L2', n1 + 1, c6, A6, by omega, by omega, hn258', rfl, rfl, N7⟩, by show 300 - (n1 + 1) < 300 - n1; omega⟩
      · have heb : (er == 0) = false := by simpa using he
        have HE := Lib.hid (nms_end hd hc ho h1 h2 (.inr he))
        clear HS hd hc ho h1 h2 h3
        go_wp2
        go_ret
        exact HE.out
    · have hdp : decide (0 < L) = false := decide_eq_false hpos
      have HE := Lib.hid (nms_end hd hc ho h1 h2 (.inl (by omega)))
      clear HS hd hc ho h1 h2 h3
      go_wp2
      go_ret
      exact HE.out

end Go.Proofs.Ytpjbjbohbdlciaa
