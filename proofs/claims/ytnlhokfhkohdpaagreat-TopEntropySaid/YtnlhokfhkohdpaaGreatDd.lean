/-
  What the reader's norms does: the norms that dec reads, or its error. Conditions: at most 1000 bytes; at most 512 states are left, at most 256 symbols.
  What the reader's norms does after an error, and its table. Conditions: at most 1000 bytes; at most 256 symbols and the Log 9.
  What Decode does: the table, the place of the cursor and the error that dcd says. Condition: at most 10^6 bytes.
  What describable, Encode and BitLen do: the description of a valid table with Log 1 or more, or the error. Conditions: at most 1000 norms.
  What the reading of a description says of the tables: it inverts the encoding, reads no other bytes, and finds the end of the bytes. No condition beyond those that each theorem states.
-/
import Derived.Test.YtnlhokfhkohdpaaGreatDc
import Derived.Deep.CutRange
import Derived.Deep.DeepCutAuto
import Derived.WalkMore
import Derived.ScopeJumps
import Derived.Test.YtnlhokfhkohdpaaGreatDa
import Derived.Test.YtnlhokfhkohdpaaGreatRa
import Derived.Test.YtnlhokfhkohdpaaGreatQb
import Derived.Test.YtnlhokfhkohdpaaGreatDb
import Derived.Test.YtnlhokfhkohdpaaGreatSb
namespace Go.Proofs.YtnlhokfhkohdpaaGreat.De
open Go.RowKit Go.Shelf
open Bt (unp unp_len)

set_option maxRecDepth 100000 in
set_option maxHeartbeats 4000000 in
theorem norms_any {w : World} {r x : Nat} {A : Option Addr} {c : Nat} {D : List UInt8} {s : Nat} (h : Dr w r x A c D s 0) (hD : D.length ≤ 1000) (left : Nat) (hl5 : left ≤ 512) (sy : Int) (hsy : sy ≤ 256) (Rz : Rs) (hR : dec (unp D) sy left [] s false = Rz) :
    Calls Tryz.prog 60 #[.pointer (some ⟨r, 0, none⟩), .int .i64 (left : Int), .int .i64 sy] w (NormsP w r x A c D Rz) := by
  have S0 : Hid (NSt w w r x A c D sy Rz false (left : Int) none 0 0) := Lib.hid ⟨[], s, 0, h, Chg.refl _ _, World.ownsRow_nil _ _ _ _, fun _ => ⟨left, rfl, hR⟩, fun h => absurd rfl h, fun _ => by decide⟩
  have H0 := Lib.hid h
  clear h hR
  go_enter Tryz.func60, Tryz.ntmps60
  go_wp2
  go_step3
  go_wp2
  go_step3
  go_wp2
  go_loopw [1, 7] (fun a b wr => ∃ (L : Int) (n1 c1 : Nat) (A1 : Option Addr), -5000 ≤ L ∧ L ≤ 512 ∧ n1 ≤ 262 ∧ a = .int .i64 L ∧ b = .slice A1 n1 c1 ∧ Hid (NSt w wr r x A c D sy Rz false L A1 n1 c1)) (fun _ b _ => match b with | .slice _ n _ => 300 - n | _ => 0)
  case atStart => exact ⟨(left : Int), 0, 0, none, by omega, by omega, by decide, rfl, rfl, S0⟩
  case round =>
    obtain ⟨L, n1, c1, A1, hL0, hL5, hn1, rfl, rfl, HS⟩ := hrel
    obtain ⟨out, s, er, hd, hc, ho, h1, h2, h3⟩ := HS.out
    have k1 := hd.c1
    by_cases hpos : 0 < L
    · by_cases he : er = 0
      · subst he
        obtain ⟨left, rfl, hR⟩ := h1 rfl
        have hn258 := h3 rfl
        have holen : out.length = n1 := by have := ho.1; simp only [List.length_map, Nat.mul_one] at this; exact this
        have hleft : 0 < left := by omega
        obtain ⟨m, hm⟩ : ∃ m, left + 2 = m := ⟨_, rfl⟩
        have hm1 : (left : Int) + 2 = (m : Int) := by omega
        obtain ⟨b1, hb1⟩ : ∃ b1, decide ((n1 : Int) < sy) = b1 := ⟨_, rfl⟩
        obtain ⟨er1, her1⟩ : ∃ er1, dem b1 0 = er1 := ⟨_, rfl⟩
        have DM1 := Lib.hid (demand_any hd b1 er1 her1)
        have TN : Hid (∀ W, Dr W r x A c D s er1 → Calls Tryz.prog 84 #[.int .i64 (m : Int), takev r] W fun q w' => ∃ (v s1 : Nat) (er2 : Int), q = .returned (.int .i64 (v : Int)) ∧ TNR (unp D) s m er1 v s1 er2 ∧ v ≤ 2000 ∧ Left W r x A c D s1 er2 w') := Lib.hid (fun W hW => tn_u hW hD m (by omega) (by omega))
        have HOUT : Hid (dec (unp D) sy left out s false = Rz ∧ out.length = n1 ∧ left + 2 = m ∧ dem (decide ((out.length : Int) < sy)) 0 = er1 ∧ s ≤ (unp D).length) := Lib.hid ⟨hR, holen, hm, by rw [holen, hb1]; exact her1, by rw [unp_len]; exact hd.le⟩
        have HC := Lib.hid hc
        have HO := Lib.hid ho
        have hA1 : Hid (0 < n1 → ∃ x1, out[n1 - 1]? = some x1 ∧ out.getLast? = some x1 ∧ ∃ g, A1 = some ⟨g, 0, none⟩ ∧ wr.cell? ⟨g, n1 - 1, none⟩ = some (.int .i64 x1) ∧ ¬ two r x g ∧ g < wr.heap.size) := Lib.hid (fun hp => by
          obtain ⟨x1, hx1⟩ : ∃ x1, out[n1 - 1]? = some x1 := ⟨_, List.getElem?_eq_getElem (by omega)⟩
          refine ⟨x1, hx1, by rw [List.getLast?_eq_getElem?, holen]; exact hx1, ?_⟩
          rcases ho.2 with ⟨_, h0⟩ | ⟨g, cp, cur, hv, hbg, _⟩
          · omega
          · cases hv
            have hlt : g < wr.heap.size := own_lt ho rfl
            refine ⟨g, rfl, ?_, ?_, hlt⟩
            · rw [ho.cellAt (n1 - 1) (by omega), List.getElem?_map, hx1]; rfl
            · have h4 := H0.out.lt
              have h5 := H0.out.sp.lt
              rintro (e | e) <;> omega)
        clear HS hd hc ho h1 h2 h3 hR holen hm her1
        go_upto_region 5 with (first
          | (go_at_call 59; refine DM1.out.mono ?_; rintro q w2 ⟨rfl, hl2⟩; have L2 := Lib.hid hl2; clear hl2)
          | (go_at_call 84; refine (TN.out _ L2.out.1).mono ?_; rintro q w3 ⟨v, s1, er2, rfl, htn, hv2, hl3⟩; obtain ⟨z, hz⟩ : ∃ z, (v : Int) - 1 = z := ⟨_, rfl⟩; have L3 := Lib.hid (L2.out.trans hl3); have HTN := Lib.hid htn; clear htn hl3))
        have HZ := Lib.hid hz
        have hz2 : -1 ≤ z ∧ z ≤ 2000 := by omega
        have hzl : -1 ≤ z := hz2.1
        have hzh : z ≤ 2000 := hz2.2
        clear hz hz2
        have SV : Hid (∀ W, Calls Tryz.prog 52 #[.int .i64 z] W fun e w' => e = .returned (.int .i64 (sts z)) ∧ w' = W) := Lib.hid (fun W => states_any W z hzl (by omega))
        have HH : Hid (r < w.heap.size ∧ x < w.heap.size ∧ ∀ ad, A = some ad → ad.block < w.heap.size) := Lib.hid ⟨H0.out.lt, H0.out.sp.lt, fun ad e => (H0.out.sp.ne ad e).2⟩
        have O3 : Hid (w3.ownsRow w.heap.size 3 1 (.slice A1 n1 c1) n1 (out.map iv)) := Lib.hid (own_chg L3.out.2 HO.out fun g hg => by
          have h1 := (HO.out.lt g hg).1
          have h2 := HH.out
          rintro (e | e) <;> omega)
        by_cases hv1 : v = 1
        · subst hv1
          have hz0 : z = 0 := by have := HZ.out; omega
          subst hz0
          have hs0 : sts 0 = 0 := rfl
          rw [hs0] at SV
          clear hzl hzh HZ
          go_cut [] from 10 to 71 (fun wx => ∃ er3 : Int, Hid ((er3 = 0 → dec (unp D) sy left (out ++ [0]) s1 true = Rz ∧ (out.length : Int) < sy ∧ s1 ≤ (unp D).length) ∧ (er3 ≠ 0 → ∃ e : Nat, er3 = (e : Int) ∧ Rz = .bad e)) ∧ Hid (Left w3 r x A c D s1 er3 wx))
          case first =>
            have ST : Hid (∀ (b : Bool) (er3 : Int), (b = false ↔ out.getLast? = some 0) → dem b er2 = er3 → (er3 = 0 → dec (unp D) sy left (out ++ [0]) s1 true = Rz ∧ (out.length : Int) < sy ∧ s1 ≤ (unp D).length) ∧ (er3 ≠ 0 → ∃ e : Nat, er3 = (e : Int) ∧ Rz = .bad e)) := Lib.hid (fun b er3 hb h3 => by
              obtain ⟨hR, holen, hm, h1, hs⟩ := HOUT.out
              subst hm
              have hsp := num_step (b := b) (er3 := er3) hleft hs hR h1 HTN.out ⟨fun h => ⟨rfl, hb.1 h⟩, fun h => hb.2 h.2⟩ h3
              refine ⟨fun e0 => ?_, hsp.2⟩
              have h4 := hsp.1 e0
              exact ⟨h4.1, h4.2.1, h4.2.2.2⟩)
            by_cases hn0 : n1 = 0
            · have hn0b : ((n1 : Int) == 0) = true := by rw [hn0]; rfl
              have DM2 := Lib.hid (demand_any L3.out.1 true er2 rfl)
              have S1 := Lib.hid (ST.out true er2 ⟨fun h => (by cases h), fun h => by
                have h2 := HOUT.out.2.1
                rw [hn0] at h2
                rw [List.eq_nil_of_length_eq_zero h2] at h
                cases h⟩ rfl)
              clear hn0
              clear hA1 ST HOUT HTN TN DM1
              go_wp2_with (go_at_call 59; refine DM2.out.mono ?_; rintro q w4 ⟨rfl, hl4⟩; have L4 := Lib.hid hl4; clear hl4)
              go_meet
              exact ⟨er2, S1, L4⟩
            · obtain ⟨x1, hx1, hlast, g, rfl, hcl, hng, hgl⟩ := hA1.out (by omega)
              have hn0b : ((n1 : Int) == 0) = false := by simpa using hn0
              have hc3 : w3.cell? ⟨g, n1 - 1, none⟩ = some (.int .i64 x1) := by
                exact (World.cell?_of_block (a := ⟨g, n1 - 1, none⟩) (show w3.heap[g]? = wr.heap[g]? from L3.out.2.block g hgl hng)).trans hcl
              obtain ⟨j1, hj1⟩ : ∃ j1, n1 - 1 = j1 := ⟨_, rfl⟩
              have hj2 : (n1 : Int) - 1 = (j1 : Int) := by omega
              rw [hj1] at hc3
              obtain ⟨b, hb⟩ : ∃ b, (x1 != 0) = b := ⟨_, rfl⟩
              obtain ⟨er3, her3⟩ : ∃ er3, dem b er2 = er3 := ⟨_, rfl⟩
              have DM2 := Lib.hid (demand_any L3.out.1 b er3 her3)
              have S1 := Lib.hid (ST.out b er3 (by rw [← hb, hlast]; simp) her3)
              have hjn : j1 < n1 := by omega
              clear hA1 ST HOUT HTN TN DM1 hx1 hlast hcl her3 hj1
              go_wp2_with (go_at_call 59; refine DM2.out.mono ?_; rintro q w4 ⟨rfl, hl4⟩; have L4 := Lib.hid hl4; clear hl4)
              go_meet
              exact ⟨er3, S1, L4⟩
          case rest =>
            obtain ⟨er3, S1, LX⟩ := hcut
            have holen := HOUT.out.2.1
            have O4 := Lib.hid (own_chg LX.out.2 O3.out fun g hg => by (have h1 := (O3.out.lt g hg).1; have h2 := HH.out; rintro (e | e) <;> omega))
            have B4 : Hid (Below wc.heap.size wc (wc.alloc (.cells #[.int .i64 0] 3))) := Lib.hid ((Below.refl _ _).alloc (Nat.le_refl _) _)
            have C4 := Lib.hid (HC.out.trans (L3.out.trans LX.out).2)
            have NX : Hid (∀ w6 A6 c6, Dr w6 r x A c D s1 er3 ∧ Chg (two r x) w w6 → w6.ownsRow w.heap.size 3 1 (.slice A6 (n1 + 1) c6) (n1 + 1) (out.map iv ++ [.int .i64 0]) → NSt w w6 r x A c D sy Rz true (left : Int) A6 (n1 + 1) c6) := Lib.hid (fun w6 A6 c6 h6 ho6 =>
              ⟨out ++ [0], s1, er3, h6.1, h6.2, by rw [List.map_append]; exact ho6, fun e0 => ⟨left, rfl, (S1.out.1 e0).1⟩, S1.out.2, fun e0 => by have h4 := (S1.out.1 e0).2.1; omega⟩)
            have hn259 : n1 + 1 ≤ 262 := by omega
            clear HTN HOUT hA1 TN DM1 holen S1 L3 O3
            go_wp2_with (first
              | (at_builtin; refine wpList_append_vals Tryz.underlying24 int_info rfl rfl _ _ rfl w.heap.size (.slice A1 n1 c1) n1 (out.map iv) rfl (own_below O4.out B4.out) (some ⟨wc.heap.size, 0, none⟩) [.int .i64 0] (by simp [Value.oneCell']) 1 1 rfl rfl (Bt.rv_one _ _ _) (by omega) (by omega) (Nat.le_trans C4.out.size B4.out.size) ?_; intro v6 w6 ho6 hg6 _; obtain ⟨A6, c6, rfl, _⟩ := own_form ho6; have N6 := Lib.hid (NX.out w6 A6 c6 (app_step HH.out LX.out.1 C4.out B4.out O4.out hg6) ho6); clear ho6 hg6)
              | (go_at_call 52; refine (SV.out _).mono ?_; rintro e w7 ⟨rfl, rfl⟩))
            go_loopw [7, 9] (fun b _ wx => ∃ (n2 c2 : Nat) (A2 : Option Addr), n1 < n2 ∧ n2 ≤ 262 ∧ b = .slice A2 n2 c2 ∧ Hid (NSt w wx r x A c D sy Rz true (left : Int) A2 n2 c2)) (fun b _ _ => match b with | .slice _ n _ => 300 - n | _ => 0)
            case atStart => exact ⟨n1 + 1, c6, A6, by omega, hn259, rfl, N6⟩
            case round =>
              obtain ⟨n2, c2, A2, hn12, hn2, rfl, HS2⟩ := hrel
              obtain ⟨out2, s2, er, hd2, hc2, ho2, g1, g2, g3⟩ := HS2.out
              have ho2l : out2.length = n2 := by have := ho2.1; simp only [List.length_map, Nat.mul_one] at this; exact this
              obtain ⟨b2, hb2⟩ : ∃ b2, decide ((n2 : Int) < sy) = b2 := ⟨_, rfl⟩
              obtain ⟨er4, her4⟩ : ∃ er4, dem b2 er = er4 := ⟨_, rfl⟩
              have DM3 := Lib.hid (demand_any hd2 b2 er4 her4)
              have TK : Hid (∀ W, Dr W r x A c D s2 er4 → Calls Tryz.prog 58 #[.pointer (some ⟨r, 0, none⟩), .int .i64 2] W fun q w' => ∃ (k s1 : Nat) (er2 : Int), q = .returned (.int .i64 (k : Int)) ∧ TKR (unp D) s2 er4 k s1 er2 ∧ k ≤ 3 ∧ Left W r x A c D s1 er2 w') := Lib.hid (fun W hW => tk_u hW hD)
              have C5 := Lib.hid hc2
              have NY : Hid (∀ k s5 er5, TKR (unp D) s2 er4 k s5 er5 → ∀ w6 A6 c6, Dr w6 r x A c D s5 er5 ∧ Chg (two r x) w w6 → w6.ownsRow w.heap.size 3 1 (.slice A6 (n2 + k) c6) (n2 + k) (out2.map iv ++ List.replicate k (.int .i64 0)) → n2 + k ≤ 262 ∧ NSt w w6 r x A c D sy Rz (k == 3) (left : Int) A6 (n2 + k) c6) := Lib.hid (fun k s5 er5 htk w6 A6 c6 h6 ho6 => by
                have hsp := run_step (out := out2) (er := er) (s := s2) (left := left) (Rz := Rz) (sy := sy) (by rw [unp_len]; exact hd2.le) (fun e0 => by
                  obtain ⟨left', hl', hR'⟩ := g1 e0
                  have : left = left' := by omega
                  rw [this]
                  exact hR') g2 (by rw [ho2l, hb2]; exact her4) htk
                have hk0 := hsp.2.2
                have hbd : er5 = 0 → n2 + k ≤ 258 := fun e0 => by
                  have h4 := (hsp.1 e0).2.1
                  rcases htk with ⟨_, hk, _⟩ | ⟨_, _, hk, _, _⟩ | ⟨_, _, hk, _⟩
                  · omega
                  · have : tk (unp D) s2 2 < 4 := tk_lt _ _ 2
                    omega
                  · omega
                refine ⟨?_, out2 ++ List.replicate k 0, s5, er5, h6.1, h6.2, by rw [List.map_append, List.map_replicate]; exact ho6, fun e0 => ⟨left, rfl, (hsp.1 e0).1⟩, hsp.2.1, hbd⟩
                by_cases e0 : er5 = 0
                · have := hbd e0; omega
                · have := hk0 e0; omega)
              have O5 := Lib.hid ho2
              clear HS2 hd2 hc2 ho2 g1 g2 g3 ho2l her4
              go_upto_region 12 with (first
                | (go_at_call 59; refine DM3.out.mono ?_; rintro q w2 ⟨rfl, hl2⟩; have M2 := Lib.hid hl2; clear hl2)
                | (go_at_call 58; refine (TK.out _ M2.out.1).mono ?_; rintro q w3 ⟨k, s5, er5, rfl, htk, hk3, hl3⟩; have M3 := Lib.hid (M2.out.trans hl3); have O6 := Lib.hid (own_chg M3.out.2 O5.out fun g hg => by (have h1 := (O5.out.lt g hg).1; have h2 := HH.out; rintro (e | e) <;> omega)); have C6 := Lib.hid (C5.out.trans M3.out.2); have HTK := Lib.hid (NY.out _ _ _ htk); clear htk hl3)
                | (at_builtin; refine wpList_append_zeros rfl _ _ rfl w.heap.size A2 n2 c2 (out2.map iv) rfl O6.out (by omega) k hk3 rfl (by omega) C6.out.size ?_; intro v7 w7 ho7 hg7 _; obtain ⟨A7, c7, rfl, _⟩ := own_form ho7; have N7 := Lib.hid (HTK.out w7 A7 c7 (app_step HH.out M3.out.1 C6.out (Below.refl _ _) O6.out hg7) ho7); clear ho7 hg7))
              by_cases hk : k = 3
              · have hkd : decide ((k : Int) < 3) = false := decide_eq_false (by omega)
                have N8 : Hid (n2 + k ≤ 262 ∧ NSt w w7 r x A c D sy Rz true (left : Int) A7 (n2 + k) c7) := Lib.hid (by
                  have := N7.out
                  rw [show (k == 3) = true by simpa using hk] at this
                  exact this)
                have hk4 : 2 < k := by omega
                clear N7 hk
                go_wp2
                exact ⟨⟨n2 + k, c7, A7, by omega, N8.out.1, rfl, Lib.hid N8.out.2⟩, by (show 300 - (n2 + k) < 300 - n2); omega⟩
              · have hkd : decide ((k : Int) < 3) = true := decide_eq_true (by omega)
                have N8 : Hid (n2 + k ≤ 262 ∧ NSt w w7 r x A c D sy Rz false (left : Int) A7 (n2 + k) c7) := Lib.hid (by
                  have := N7.out
                  rw [show (k == 3) = false by simpa using hk] at this
                  exact this)
                clear N7 hk
                go_wp2
                exact ⟨⟨(left : Int), n2 + k, c7, A7, by omega, by omega, N8.out.1, rfl, rfl, Lib.hid N8.out.2⟩, by (show 300 - (n2 + k) < 300 - n1); omega⟩
        · have hne : (z != 0) = true := by
            have := HZ.out
            simp only [bne_iff_ne, ne_eq]
            omega
          have hne2 : (z == 0) = false := by
            have := HZ.out
            simp only [beq_eq_false_iff_ne, ne_eq]
            omega
          obtain ⟨st, hst⟩ : ∃ st, sts z = st := ⟨_, rfl⟩
          have hstb : 0 ≤ st ∧ st ≤ 2000 := by have := sts_pos hzl; rw [hst] at this; rw [← hst]; unfold sts; split <;> omega
          have hst0 : 0 ≤ st := hstb.1
          have hst2 : st ≤ 2000 := hstb.2
          rw [hst] at SV
          obtain ⟨L2', hL2⟩ : ∃ L2', (left : Int) - st = L2' := ⟨_, rfl⟩
          have DM2 := Lib.hid (demand_any L3.out.1 true er2 rfl)
          have NX : Hid (∀ w6 A6 c6, Dr w6 r x A c D s1 er2 ∧ Chg (two r x) w w6 → w6.ownsRow w.heap.size 3 1 (.slice A6 (n1 + 1) c6) (n1 + 1) (out.map iv ++ [.int .i64 z]) → NSt w w6 r x A c D sy Rz false L2' A6 (n1 + 1) c6) := Lib.hid (fun w6 A6 c6 h6 ho6 => by
            obtain ⟨hR, holen, hm, h1, hs⟩ := HOUT.out
            subst hm
            have hsp := num_step (b := true) (er3 := er2) hleft hs hR h1 HTN.out ⟨fun h => (by cases h), fun h => absurd h.1 hv1⟩ rfl
            refine ⟨out ++ [z], s1, er2, h6.1, h6.2, by rw [List.map_append]; exact ho6, fun e0 => ⟨left - stn v, ?_, ?_⟩, hsp.2, fun e0 => by omega⟩
            · have h2 := (hsp.1 e0).2.2.1
              have h3 := stn_sts v
              rw [HZ.out, hst] at h3
              unfold stn at h3 ⊢
              split at h3 <;> rename_i hv0 <;> simp only [hv0, if_true, if_false] <;> omega
            · have h2 := (hsp.1 e0).1
              rw [HZ.out, show (v == 1) = false by simpa using hv1] at h2
              exact h2)
          have hn258' : n1 + 1 ≤ 262 := by omega
          clear hst hstb HTN HOUT hA1 TN DM1
          go_wp2_with (first
            | (go_at_call 59; refine DM2.out.mono ?_; rintro q w4 ⟨rfl, hl4⟩; have L4 := Lib.hid (L3.out.trans hl4); have O4 := Lib.hid (own_chg hl4.2 O3.out fun g hg => by (have h1 := (O3.out.lt g hg).1; have h2 := HH.out; rintro (e | e) <;> omega)); have B4 : Hid (Below w4.heap.size w4 (w4.alloc (.cells #[.int .i64 z] 3))) := Lib.hid ((Below.refl _ _).alloc (Nat.le_refl _) _); have C4 := Lib.hid (HC.out.trans (L3.out.trans hl4).2); clear hl4)
            | (at_builtin; refine wpList_append_vals Tryz.underlying24 int_info rfl rfl _ _ rfl w.heap.size (.slice A1 n1 c1) n1 (out.map iv) rfl (own_below O4.out B4.out) (some ⟨w4.heap.size, 0, none⟩) [.int .i64 z] (by simp [Value.oneCell']) 1 1 rfl rfl (Bt.rv_one _ _ _) (by omega) (by omega) (Nat.le_trans C4.out.size B4.out.size) ?_; intro v6 w6 ho6 hg6 _; obtain ⟨A6, c6, rfl, _⟩ := own_form ho6; have N6 := Lib.hid (NX.out w6 A6 c6 (app_step HH.out L4.out.1 C4.out B4.out O4.out hg6) ho6); clear ho6 hg6)
            | (go_at_call 52; refine (SV.out _).mono ?_; rintro e w7 ⟨rfl, rfl⟩))
          go_loopw [7, 9] (fun b _ wx => b = .slice A6 (n1 + 1) c6 ∧ Hid (NSt w wx r x A c D sy Rz false L2' A6 (n1 + 1) c6)) (fun _ _ _ => 0)
          case atStart => exact ⟨rfl, N6⟩
          case round =>
            obtain ⟨rfl, N7⟩ := hrel
            go_wp2
            exact ⟨⟨L2', n1 + 1, c6, A6, by omega, by omega, hn258', rfl, rfl, N7⟩, by show 300 - (n1 + 1) < 300 - n1; omega⟩
      · have heb : (er == 0) = false := by simpa using he
        have HE := Lib.hid (nms_end hd hc ho h1 h2 (.inr he))
        clear HS hd hc ho h1 h2 h3
        go_wp2
        go_ret
        exact HE.out
    · have hdp : decide (0 < L) = false := decide_eq_false hpos
      have HE := Lib.hid (nms_end hd hc ho h1 h2 (.inl (by omega)))
      clear HS hd hc ho h1 h2 h3
      go_wp2
      go_ret
      exact HE.out

end Go.Proofs.YtnlhokfhkohdpaaGreat.De

namespace Go.Proofs.YtnlhokfhkohdpaaGreat.De
open Go.RowKit Go.Shelf
open Bt (unp unp_len)

set_option maxRecDepth 100000 in
set_option maxHeartbeats 1000000 in
theorem norms_err {w : World} {r x : Nat} {A : Option Addr} {c : Nat} {D : List UInt8} {s : Nat} {er : Int} (h : Dr w r x A c D s er) (h0 : er ≠ 0) (L sy : Int) :
    Calls Tryz.prog 60 #[.pointer (some ⟨r, 0, none⟩), .int .i64 L, .int .i64 sy] w fun q w' => q = .returned (.slice none 0 0) ∧ w' = w := by
  have k1 := h.c1
  have heb : (er == 0) = false := by simpa using h0
  clear h h0
  by_cases hL : 0 < L
  · have hd : decide (0 < L) = true := decide_eq_true hL
    go_enter Tryz.func60, Tryz.ntmps60
    go_wp2
    go_step3
    go_wp2
    go_step3
    go_wp2
    go_loopw [1, 7] (fun a b wr => a = .int .i64 L ∧ b = .slice none 0 0 ∧ w = wr) (fun _ _ _ => 0)
    case atStart => exact ⟨rfl, rfl, rfl⟩
    case round =>
      obtain ⟨rfl, rfl, hw⟩ := hrel
      subst hw
      go_wp2
      rw [Exit.noGoto_ret]
      go_ret
      exact ⟨rfl, rfl⟩
  · have hd : decide (0 < L) = false := decide_eq_false hL
    go_enter Tryz.func60, Tryz.ntmps60
    go_wp2
    go_step3
    go_wp2
    go_step3
    go_wp2
    go_loopw [1, 7] (fun a b wr => a = .int .i64 L ∧ b = .slice none 0 0 ∧ w = wr) (fun _ _ _ => 0)
    case atStart => exact ⟨rfl, rfl, rfl⟩
    case round =>
      obtain ⟨rfl, rfl, hw⟩ := hrel
      subst hw
      go_wp2
      rw [Exit.noGoto_ret]
      go_ret
      exact ⟨rfl, rfl⟩

/-- What table leaves. -/
def TableP (w : World) (r x : Nat) (A : Option Addr) (c : Nat) (D : List UInt8) (Rz : Rs) (q : Ending) (w' : World) : Prop :=
  ∃ (Y : Int) (A1 : Option Addr) (n1 c1 : Nat), q = .returned (tb Y A1 n1 c1) ∧ match Rz with
    | .ok out s => Left w r x A c D s 0 w' ∧ Y = ((tk (unp D) 0 4 + 1 : Nat) : Int) ∧ w'.ownsRow w.heap.size 3 1 (.slice A1 n1 c1) n1 (out.map iv)
    | .bad e => e ≠ 0 ∧ ∃ s, Left w r x A c D s (e : Int) w'

theorem pow_facts16 {y s : Nat} (h : 2 ^ y = s) (hy : y ≤ 16) : s ≤ 65536 ∧ decide ((y : Int) < 0) = false ∧ IntKind.i64.wrap (2 ^ y) = (s : Int) ∧ IntKind.i64.wrap (2 ^ min y 64) = (s : Int) ∧ wrap64 (2 ^ y) = (s : Int) ∧ wrap64 (2 ^ min y 64) = (s : Int) := by
  have hs : s ≤ 65536 := by
    rw [← h]
    exact Nat.pow_le_pow_right (n := 2) (by decide) hy
  have e : (2 : Int) ^ y = (s : Int) := by rw [← h]; exact (Int.natCast_pow 2 y).symm
  have e2 : min y 64 = y := Nat.min_eq_left (by omega)
  rw [e2, e]
  clear h e e2
  exact ⟨hs, decide_eq_false (by omega), IntWalk.i64_in _ (by omega), IntWalk.i64_in _ (by omega), by unfold wrap64; omega, by unfold wrap64; omega⟩

theorem results_cell {fn : Func} {a : Tmp} {t : TypeId} (h : fn.results = #[.cell a t]) {tmps : Array Value} {P : Program} {w : World} {ad : Addr} {v : Value} (hp : tmps.getD a undef = .pointer (some ad)) (hl : (loadVar t ad).run P w = .ok v w) :
    (results fn tmps).run P w = .ok v w := by
  have hp' : tmps[a]?.getD undef = .pointer (some ad) := by simpa using hp
  simp [results, h, hp', asAddr]
  exact hl
theorem results_cell2 {fn : Func} {a b : Tmp} {t : TypeId} (h : fn.results = #[.cell a t, .tmp b]) {tmps : Array Value} {P : Program} {w : World} {ad : Addr} {v : Value} (hp : tmps.getD a undef = .pointer (some ad)) (hl : (loadVar t ad).run P w = .ok v w) :
    (results fn tmps).run P w = .ok (.tuple #[v, tmps.getD b undef]) w := by
  have hp' : tmps[a]?.getD undef = .pointer (some ad) := by simpa using hp
  simp [results, h, hp', asAddr]
  rw [hl]
  simp [Result.andThen]
theorem results_cell3 {fn : Func} {a b d : Tmp} {t : TypeId} (h : fn.results = #[.cell a t, .tmp b, .tmp d]) {tmps : Array Value} {P : Program} {w : World} {ad : Addr} {v : Value} (hp : tmps.getD a undef = .pointer (some ad)) (hl : (loadVar t ad).run P w = .ok v w) :
    (results fn tmps).run P w = .ok (.tuple #[v, tmps.getD b undef, tmps.getD d undef]) w := by
  have hp' : tmps[a]?.getD undef = .pointer (some ad) := by simpa using hp
  simp [results, h, hp', asAddr]
  rw [hl]
  simp [Result.andThen]

theorem Dr.chg {w w' : World} {r x : Nat} {A : Option Addr} {c : Nat} {D : List UInt8} {s : Nat} {er : Int} (h : Dr w r x A c D s er) {S : Nat → Prop} (hc : Chg S w w') (h1 : ¬ S r) (h2 : ¬ S x) (h3 : ∀ ad, A = some ad → ¬ S ad.block) : Dr w' r x A c D s er :=
  ⟨(hc.block r h.lt h1).trans h.blk, h.sp.same hc.size (hc.block x h.sp.lt h2) (fun ad e => hc.block _ (h.sp.ne ad e).2 (h3 ad e)), h.ne, h.na, h.le⟩
theorem _root_.Go.Proofs.YtnlhokfhkohdpaaGreat.Chg.newer {S T : Nat → Prop} {a b c : World} (h : Chg S a b) (k : Chg T b c) (hT : ∀ k, T k → a.heap.size ≤ k) : Chg S a c :=
  ⟨k.os.trans h.os, k.tape.trans h.tape, k.output.trans h.output, Nat.le_trans h.size k.size, fun i hi hn => (k.block i (Nat.lt_of_lt_of_le hi h.size) (fun e => by have := hT i e; omega)).trans (h.block i hi hn)⟩

/-- The first four bits are read. -/
theorem tk4_u {w : World} {r x : Nat} {A : Option Addr} {c : Nat} {D : List UInt8} (h : Dr w r x A c D 0 0) (hD : D.length ≤ 1000) :
    Calls Tryz.prog 58 #[.pointer (some ⟨r, 0, none⟩), .int .i64 4] w fun q w' => ∃ (k s1 : Nat) (er1 : Int), q = .returned (.int .i64 (k : Int)) ∧ ((4 ≤ (unp D).length ∧ k = tk (unp D) 0 4 ∧ s1 = 4 ∧ er1 = 0) ∨ ((unp D).length < 4 ∧ er1 = 3)) ∧ k ≤ 15 ∧ Left w r x A c D s1 er1 w' := by
  by_cases hs : 0 + 4 ≤ 8 * D.length
  · have hk : tk (unp D) 0 4 < 16 := tk_lt _ _ 4
    refine (take_ok h hD 4 (by decide) hs _ rfl).mono ?_
    rintro q w' ⟨rfl, hl⟩
    exact ⟨_, 4, 0, rfl, .inl ⟨by rw [unp_len]; omega, rfl, rfl, rfl⟩, by omega, hl⟩
  · refine (take_short h hD 4 (by decide) (by omega)).mono ?_
    rintro q w' ⟨rfl, hl⟩
    exact ⟨0, 0, 3, rfl, .inr ⟨by rw [unp_len]; omega, rfl⟩, by decide, hl⟩

theorem NormsP.left {w : World} {r x : Nat} {A : Option Addr} {c : Nat} {D : List UInt8} {Rz : Rs} {q : Ending} {w' : World} (h : NormsP w r x A c D Rz q w') : ∃ s er, Left w r x A c D s er w' := by
  obtain ⟨A1, n1, c1, _, h⟩ := h
  cases Rz with
  | ok out s => exact ⟨s, 0, h.1⟩
  | bad e => exact ⟨h.2.choose, (e : Int), h.2.choose_spec⟩

/-- The norms, whatever error was kept before. -/
theorem norms_u {w : World} {r x : Nat} {A : Option Addr} {c : Nat} {D : List UInt8} {s : Nat} {er : Int} (h : Dr w r x A c D s er) (hD : D.length ≤ 1000) (left : Nat) (sy : Int) (hsy : sy ≤ 256) (Rz : Rs) (h1 : er = 0 → left ≤ 512 ∧ dec (unp D) sy left [] s false = Rz) (h2 : er ≠ 0 → ∃ e : Nat, er = (e : Int) ∧ Rz = .bad e) :
    Calls Tryz.prog 60 #[.pointer (some ⟨r, 0, none⟩), .int .i64 (left : Int), .int .i64 sy] w (NormsP w r x A c D Rz) := by
  by_cases h0 : er = 0
  · subst h0
    exact norms_any h hD left (h1 rfl).1 sy hsy Rz (h1 rfl).2
  · obtain ⟨e, he, rfl⟩ := h2 h0
    refine (norms_err h h0 (left : Int) sy).mono ?_
    rintro q w' ⟨rfl, rfl⟩
    subst he
    exact ⟨none, 0, 0, rfl, fun e0 => h0 (by rw [e0]; rfl), s, Left.refl h⟩

set_option maxRecDepth 100000 in
set_option maxHeartbeats 2000000 in
theorem table_any {w : World} {r x : Nat} {A : Option Addr} {c : Nat} {D : List UInt8} (h : Dr w r x A c D 0 0) (hD : D.length ≤ 1000) (sy lg : Int) (hsy : sy ≤ 256) (hlg : lg ≤ 9) (Rz : Rs) (hR : dcp (unp D) sy lg = Rz) :
    Calls Tryz.prog 26 #[.pointer (some ⟨r, 0, none⟩), .int .i64 sy, .int .i64 lg] w (TableP w r x A c D Rz) := by
  have t1 := Tb.new w 0 none 0 0
  have b1 : Below w.heap.size w (w.alloc (.cells #[.int .i64 0, .slice none 0 0] 28)) := (Below.refl _ w).alloc (Nat.le_refl _) _
  obtain ⟨w1, hw1⟩ : ∃ w1, w.alloc (.cells #[.int .i64 0, .slice none 0 0] 28) = w1 := ⟨_, rfl⟩
  rw [hw1] at t1 b1
  have HRX : Hid (r < w.heap.size ∧ x < w.heap.size ∧ ∀ ad, A = some ad → ad.block < w.heap.size) := Lib.hid ⟨h.lt, h.sp.lt, fun ad e => (h.sp.ne ad e).2⟩
  have sz1 : w1.heap.size = w.heap.size + 1 := by rw [← hw1, World.size_alloc]
  have TK := Lib.hid (tk4_u (h.below b1) hD)
  have HR := Lib.hid hR
  have T1 := Lib.hid t1
  have B1 := Lib.hid b1
  have SZ1 := Lib.hid sz1
  clear h t1 b1 sz1 hR
  go_enter Tryz.func26, Tryz.ntmps26
  go_upto_region 2 with (go_at_call 58; refine TK.out.mono ?_; rintro q w2 ⟨k, s1, er1, rfl, hk, hk15, hl2⟩; have L2 := Lib.hid hl2; have HK := Lib.hid hk; clear hl2 hk; obtain ⟨y, hy⟩ : ∃ y, k + 1 = y := ⟨_, rfl⟩; have hy1 : 1 + (k : Int) = (y : Int) := by omega)
  have hsz2 := L2.out.2.size
  have b3 : Below w2.heap.size w2 (w2.alloc (.cells #[.int .i64 (y : Int), .slice none 0 0] 28)) := (Below.refl _ w2).alloc (Nat.le_refl _) _
  have t3 := Tb.new w2 (y : Int) none 0 0
  have t31 : Tb (w2.alloc (.cells #[.int .i64 (y : Int), .slice none 0 0] 28)) w.heap.size 0 none 0 0 := (T1.out.same (L2.out.2.block _ (by rw [SZ1.out]; omega) (by have := HRX.out; rintro (e | e) <;> omega))).below b3
  obtain ⟨w3, hw3⟩ : ∃ w3, w2.alloc (.cells #[.int .i64 (y : Int), .slice none 0 0] 28) = w3 := ⟨_, rfl⟩
  rw [hw3] at b3 t3 t31
  obtain ⟨b7, hb7⟩ : ∃ b7, w2.heap.size = b7 := ⟨_, rfl⟩
  rw [hb7] at t3 hsz2
  have hb7r : ¬ two r x b7 := by have := HRX.out; rw [SZ1.out] at hsz2; rintro (e | e) <;> omega
  have hb6r : ¬ two r x w.heap.size := by have := HRX.out; rintro (e | e) <;> omega
  have hb67 : w.heap.size ≠ b7 := by rw [SZ1.out] at hsz2; omega
  obtain ⟨b, hb⟩ : ∃ b, decide ((y : Int) ≤ lg) = b := ⟨_, rfl⟩
  obtain ⟨er2, her2⟩ : ∃ er2, dem b er1 = er2 := ⟨_, rfl⟩
  have L3 : Left w r x A c D s1 er1 w3 := ⟨L2.out.1.below b3, ((Chg.of_below B1.out).trans (S := two r x) L2.out.2).below b3⟩
  have DM := Lib.hid (demand_any L3.1 b er2 her2)
  obtain ⟨P, hP⟩ : ∃ P, 2 ^ y = P := ⟨_, rfl⟩
  obtain ⟨_, kb, p1, p2, p3, p4⟩ := pow_facts16 hP (by omega)
  have NM : Hid (∀ W, Dr W r x A c D s1 er2 → Calls Tryz.prog 60 #[.pointer (some ⟨r, 0, none⟩), .int .i64 (P : Int), .int .i64 sy] W (NormsP W r x A c D Rz)) := Lib.hid (fun W hW => by
    have hR := HR.out
    refine norms_u hW hD P sy hsy Rz (fun e0 => ?_) (fun e0 => ?_)
    · rcases HK.out with ⟨h4, hk, rfl, rfl⟩ | ⟨h4, rfl⟩
      · have hbt : b = true := by
          cases b with
          | true => rfl
          | false => rw [← her2] at e0; exact absurd e0 (by decide)
        rw [hbt, decide_eq_true_iff] at hb
        rw [dcp, if_neg (by omega), ← hk, hy, if_neg (by omega), hP] at hR
        refine ⟨?_, hR⟩
        rw [← hP]
        exact pow_le (by omega)
      · exfalso
        rw [← her2] at e0
        cases b <;> exact absurd e0 (by decide)
    · rcases HK.out with ⟨h4, hk, rfl, rfl⟩ | ⟨h4, rfl⟩
      · have hbt : b = false := by
          cases b with
          | false => rfl
          | true => rw [← her2] at e0; exact absurd rfl e0
        rw [hbt] at her2
        rw [hbt, decide_eq_false_iff_not] at hb
        rw [dcp, if_neg (by omega), ← hk, hy, if_pos (by omega)] at hR
        exact ⟨13, her2.symm, hR.symm⟩
      · rw [dcp, if_pos h4] at hR
        refine ⟨3, ?_, hR.symm⟩
        rw [← her2]
        cases b <;> rfl)
  have HY : Hid (∀ out s, Rz = .ok out s → (y : Int) = ((tk (unp D) 0 4 + 1 : Nat) : Int)) := Lib.hid (fun out s e => by
    rcases HK.out with ⟨h4, hk, _⟩ | ⟨h4, _⟩
    · omega
    · have hR := HR.out
      rw [dcp, if_pos h4, e] at hR
      cases hR)
  have HG7 : Hid (w.heap.size ≤ b7) := Lib.hid (by rw [SZ1.out] at hsz2; omega)
  have L3' := Lib.hid L3
  have T3 := Lib.hid t3
  have T31 := Lib.hid t31
  have e0 := t3.c0
  clear L3 t3 t31 HR HK TK b3 her2 hP hy L2 T1 hsz2
  go_wp2_with (first
    | (go_at_call 59; refine DM.out.mono ?_; rintro q w4 ⟨rfl, hl4⟩; have L4 := Lib.hid (L3'.out.trans hl4); have T4 := Lib.hid (T3.out.same (hl4.2.block b7 T3.out.lt hb7r)); have T41 := Lib.hid (T31.out.same (hl4.2.block _ T31.out.lt hb6r)); have k0 := T4.out.c0; clear hl4)
    | (go_at_call 60; refine (NM.out _ L4.out.1).mono ?_; intro q w5 hn; obtain ⟨s5, er5, hl5⟩ := hn.left; have HN := Lib.hid hn; obtain ⟨A5, n5, c5, rfl, _⟩ := hn; have T5 := Lib.hid (T4.out.same (hl5.2.block b7 T4.out.lt hb7r)); have T51 := Lib.hid (T41.out.same (hl5.2.block _ T41.out.lt hb6r)); have f5 := T5.out.free 1; have c51 := T5.out.c1; have q6 := T5.out.set1 A5 n5 c5; have r6 : Tb (w5.setCell ⟨b7, 1, none⟩ (.slice A5 n5 c5)) w.heap.size 0 none 0 0 := T51.out.same (Below.heap_setCell _ _ _ _ hb67); obtain ⟨w6, hw6⟩ : ∃ w6, w5.setCell ⟨b7, 1, none⟩ (.slice A5 n5 c5) = w6 := ⟨_, rfl⟩; rw [hw6] at q6 r6; have k6 := q6.c0; have k61 := q6.c1; have i6 := r6.c0; have i61 := r6.c1; have f6 := r6.free 0; have r7 := r6.set0 (y : Int); obtain ⟨w7, hw7⟩ : ∃ w7, w6.setCell ⟨w.heap.size, 0, none⟩ (.int .i64 (y : Int)) = w7 := ⟨_, rfl⟩; rw [hw7] at r7; have i7 := r7.c1; have f7 := r7.free 1; have r8 := r7.set1 A5 n5 c5; obtain ⟨w8, hw8⟩ : ∃ w8, w7.setCell ⟨w.heap.size, 1, none⟩ (.slice A5 n5 c5) = w8 := ⟨_, rfl⟩; rw [hw8] at r8; have R8 := Lib.hid r8; have HW := Lib.hid (And.intro hw6 (And.intro hw7 hw8)); clear hl5 q6 r6 r7 r8))
  refine bodyPost_ret (results_cell rfl rfl R8.out.load) rfl ?_
  have cc : Chg (fun k => k = b7 ∨ k = w.heap.size) w5 w8 := by
    obtain ⟨h6, h7, h8⟩ := HW.out
    rw [← h8, ← h7, ← h6]
    exact (((Chg.refl _ w5).set _ (.inl rfl) _).set _ (.inr rfl) _).set _ (.inr rfl) _
  obtain ⟨A6, n6, c6, he, hm⟩ := HN.out
  injection he with he
  injection he with ha hb hc
  subst ha hb hc
  have hlt7 : b7 < w4.heap.size := T4.out.lt
  have hlt6 : w.heap.size < w4.heap.size := T41.out.lt
  have hge7 : w.heap.size ≤ b7 := HG7.out
  have hrx := HRX.out
  have mv : ∀ s er, Left w4 r x A c D s er w5 → Left w r x A c D s er w8 := fun s er hl => by
    refine ⟨hl.1.chg cc (by rintro (e | e) <;> omega) (by rintro (e | e) <;> omega) (fun ad e => by have := hrx.2.2 ad e; rintro (e2 | e2) <;> omega), (L4.out.2.trans hl.2).newer cc (fun k hk => ?_)⟩
    rcases hk with rfl | rfl <;> omega
  refine ⟨(y : Int), A5, n5, c5, rfl, ?_⟩
  cases Rz with
  | ok out s =>
    refine ⟨mv s 0 hm.1, HY.out out s rfl, own_chg cc (Bt.own_base (b := w.heap.size) hm.2 (Nat.le_of_lt hlt6)) (fun g hg => ?_)⟩
    have := (hm.2.lt g hg).1
    rintro (e | e) <;> omega
  | bad e => exact ⟨hm.1, hm.2.choose, mv _ _ hm.2.choose_spec⟩

end Go.Proofs.YtnlhokfhkohdpaaGreat.De

namespace Go.Proofs.YtnlhokfhkohdpaaGreat.De
open Go.RowKit Go.Shelf
open Bt (unp unp_len)

theorem nm_bt {w : World} {A : Option Addr} {l : List UInt8} (h : Nm.Rd w A l) : Bt.Rd w A l := by
  intro j v hj
  rw [List.getElem?_map] at hj
  obtain ⟨b, hb, rfl⟩ := Option.map_eq_some_iff.1 hj
  exact h j b hb
theorem bt_nm {w : World} {A : Option Addr} {l : List UInt8} (h : Bt.Rd w A l) : Nm.Rd w A l := fun j b hj => h j (Bt.byt b) (by rw [List.getElem?_map, hj]; rfl)

theorem al_u {w : World} {r x : Nat} {A : Option Addr} {c : Nat} {D : List UInt8} {s : Nat} {er : Int} (h : Dr w r x A c D s er) (hD : D.length ≤ 1000) :
    Calls Tryz.prog 28 #[.pointer (some ⟨r, 0, none⟩)] w fun q w' => ∃ (n s2 : Nat) (er2 : Int), q = .returned (.int .i64 (n : Int)) ∧
      ((er ≠ 0 ∧ n = 0 ∧ er2 = er) ∨ (er = 0 ∧ tk (unp D) s (8 * ((s + 7) / 8) - s) = 0 ∧ n = (s + 7) / 8 ∧ er2 = 0) ∨ (er = 0 ∧ tk (unp D) s (8 * ((s + 7) / 8) - s) ≠ 0 ∧ n = 0 ∧ er2 = 14)) ∧ n ≤ D.length ∧ Left w r x A c D s2 er2 w' := by
  by_cases h0 : er = 0
  · subst h0
    by_cases hz : tk (unp D) s (8 * ((s + 7) / 8) - s) = 0
    · have hle := h.le
      refine (align_ok h hD _ rfl hz).mono ?_
      rintro q w' ⟨rfl, hl⟩
      exact ⟨_, _, 0, rfl, .inr (.inl ⟨rfl, hz, rfl, rfl⟩), by omega, hl⟩
    · refine (align_bad h hD _ rfl hz).mono ?_
      rintro q w' ⟨rfl, hl⟩
      exact ⟨0, s, 14, rfl, .inr (.inr ⟨rfl, hz, rfl, rfl⟩), by omega, hl⟩
  · refine (align_err h h0).mono ?_
    rintro q w' ⟨rfl, rfl⟩
    exact ⟨0, s, er, rfl, .inl ⟨h0, rfl, rfl⟩, by omega, Left.refl h⟩

theorem TableP.u {w : World} {r x : Nat} {A : Option Addr} {c : Nat} {D : List UInt8} {Rz : Rs} {q : Ending} {w' : World} (h : TableP w r x A c D Rz q w') :
    ∃ (Y : Int) (A1 : Option Addr) (n1 c1 s : Nat) (er : Int), q = .returned (tb Y A1 n1 c1) ∧ Left w r x A c D s er w' ∧
      ((∃ e : Nat, Rz = .bad e ∧ er = (e : Int) ∧ e ≠ 0) ∨ (∃ out, Rz = .ok out s ∧ er = 0 ∧ Y = ((tk (unp D) 0 4 + 1 : Nat) : Int) ∧ w'.ownsRow w.heap.size 3 1 (.slice A1 n1 c1) n1 (out.map iv))) := by
  obtain ⟨Y, A1, n1, c1, rfl, h⟩ := h
  cases Rz with
  | ok out s => exact ⟨Y, A1, n1, c1, s, 0, rfl, h.1, .inr ⟨out, rfl, rfl, h.2.1, h.2.2⟩⟩
  | bad e =>
    obtain ⟨h0, s, hl⟩ := h
    exact ⟨Y, A1, n1, c1, s, (e : Int), rfl, hl, .inl ⟨e, rfl, rfl, h0⟩⟩

/-- What Decode leaves. -/
def DecP (w : World) (c : Nat) (A : Option Addr) (cap : Nat) (l : List UInt8) (k : Nat) (R : Nat × Nat × List Int × Nat) (q : Ending) (w' : World) : Prop :=
  ∃ (A1 : Option Addr) (n1 c1 : Nat), q = .returned (.tuple #[tb (R.2.1 : Int) A1 n1 c1, .int .i64 (R.1 : Int)]) ∧ Nm.Cur w' c A cap l (k + R.2.2.2) ∧ w.grownBy w' (some c) ∧ w'.ownsRow w.heap.size 3 1 (.slice A1 n1 c1) n1 (R.2.2.1.map iv)

theorem grown_newer {T : Nat → Prop} {w a b : World} {row : Option Nat} (h : w.grownBy a row) (k : Chg T a b) (hT : ∀ k, T k → w.heap.size ≤ k) : w.grownBy b row :=
  ⟨k.os.trans h.os, k.tape.trans h.tape, k.output.trans h.output, Nat.le_trans h.size k.size, fun i hi hne => (k.block i (Nat.lt_of_lt_of_le hi h.size) (fun e => by have := hT i e; omega)).trans (h.block i hi hne)⟩

set_option maxRecDepth 100000 in
set_option maxHeartbeats 400000 in
theorem decode_nil (w : World) (sy lg : Int) : Calls Tryz.prog 10 #[.pointer none, .int .i64 sy, .int .i64 lg] w fun q w' => q = .returned (.tuple #[tb 0 none 0 0, .int .i64 1]) ∧ Below w.heap.size w w' := by
  have t1 := Tb.new w 0 none 0 0
  have b1 : Below w.heap.size w (w.alloc (.cells #[.int .i64 0, .slice none 0 0] 28)) := (Below.refl _ w).alloc (Nat.le_refl _) _
  obtain ⟨w1, hw1⟩ : ∃ w1, w.alloc (.cells #[.int .i64 0, .slice none 0 0] 28) = w1 := ⟨_, rfl⟩
  rw [hw1] at t1 b1
  have c0 := t1.c0
  have c1 := t1.c1
  have f0 := t1.free 0
  have r2 := t1.set0 0
  obtain ⟨w2, hw2⟩ : ∃ w2, w1.setCell ⟨w.heap.size, 0, none⟩ (.int .i64 0) = w2 := ⟨_, rfl⟩
  rw [hw2] at r2
  have d1 := r2.c1
  have f1 := r2.free 1
  have r3 := r2.set1 none 0 0
  obtain ⟨w3, hw3⟩ : ∃ w3, w2.setCell ⟨w.heap.size, 1, none⟩ (.slice none 0 0) = w3 := ⟨_, rfl⟩
  rw [hw3] at r3
  have R3 := Lib.hid r3
  have B3 : Hid (Below w.heap.size w w3) := Lib.hid (by
    rw [← hw3, ← hw2]
    exact (b1.setCell (Nat.le_refl _) _).setCell (Nat.le_refl _) _)
  clear t1 b1 r2 r3
  go_enter Tryz.func10, Tryz.ntmps10
  go_wp2
  refine bodyPost_ret (results_cell2 rfl rfl R3.out.load) rfl ?_
  exact ⟨rfl, B3.out⟩

set_option maxRecDepth 100000 in
set_option maxHeartbeats 4000000 in
theorem decode_any {w : World} {c : Nat} {A : Option Addr} {cap : Nat} {l : List UInt8} {k : Nat} (h : Nm.Cur w c A cap l k) (hs : l.length ≤ 1000000) (sy lg : Int) :
    Calls Tryz.prog 10 #[.pointer (some ⟨c, 0, none⟩), .int .i64 sy, .int .i64 lg] w (DecP w c A cap l k (dcd (unp ((l.drop k).take 385)) sy lg)) := by
  have hle := h.le
  obtain ⟨D, hDD⟩ : ∃ D, (l.drop k).take 385 = D := ⟨_, rfl⟩
  obtain ⟨N, hN⟩ : ∃ N, D.length = N := ⟨_, rfl⟩
  have hDl : N ≤ 385 ∧ k + N ≤ l.length := by rw [← hN, ← hDD, List.length_take, List.length_drop]; omega
  obtain ⟨RR, hRd⟩ : ∃ RR, dcd (unp D) sy lg = RR := ⟨_, rfl⟩
  obtain ⟨s1, hs1⟩ : ∃ s1, min sy 256 = s1 := ⟨_, rfl⟩
  obtain ⟨l1, hl1⟩ : ∃ l1, min lg 9 = l1 := ⟨_, rfl⟩
  obtain ⟨Rz, hRz⟩ : ∃ Rz, dcp (unp D) s1 l1 = Rz := ⟨_, rfl⟩
  have HRD : Hid (RR = dfin (unp D) Rz) := Lib.hid (by rw [← hRd, dcd, hs1, hl1, hRz])
  rw [hDD, hRd]
  have t1 := Tb.new w 0 none 0 0
  have b1 : Below w.heap.size w (w.alloc (.cells #[.int .i64 0, .slice none 0 0] 28)) := (Below.refl _ w).alloc (Nat.le_refl _) _
  obtain ⟨w1, hw1⟩ : ∃ w1, w.alloc (.cells #[.int .i64 0, .slice none 0 0] 28) = w1 := ⟨_, rfl⟩
  rw [hw1] at t1 b1
  have SZ1 : Hid (w1.heap.size = w.heap.size + 1) := Lib.hid (by rw [← hw1, World.size_alloc])
  have PK : Hid (Calls Tryz.prog 25 #[.pointer (some ⟨c, 0, none⟩), .int .i64 385] w1 (Nm.Got w1 D)) := Lib.hid (by
    have := Nm.peek_any (h.below b1) (by omega) 385
    rw [show (385 : Int).toNat = 385 from rfl, hDD] at this
    exact this)
  have TB : Hid (∀ W r x A c, Dr W r x A c D 0 0 → Calls Tryz.prog 26 #[.pointer (some ⟨r, 0, none⟩), .int .i64 s1, .int .i64 l1] W (TableP W r x A c D Rz)) := Lib.hid (fun W r x A c hW => table_any hW (by omega) s1 l1 (by omega) (by omega) Rz hRz)
  have H := Lib.hid h
  have HN := Lib.hid hN
  have HDL := Lib.hid hDl
  have T1 := Lib.hid t1
  have B1 := Lib.hid b1
  have hcl : Hid (c < w.heap.size) := Lib.hid h.blk.lt
  clear h hDD hN hDl hRd hRz t1 b1 hle
  go_enter Tryz.func10, Tryz.ntmps10
  go_upto_region 4 with (first
    | (go_at_call 25; refine PK.out.mono ?_; rintro q w2 ⟨v2, rfl, hv2⟩; obtain ⟨A2, c2, rfl, hrd2, hb2⟩ := hv2.rd; have RD2 := Lib.hid hrd2; have B2 := Lib.hid (below_on B1.out (Nat.le_refl _) hb2); have B21 := Lib.hid hb2; clear hv2 hrd2 hb2)
    | (go_at_call 24; refine (Bt.newf_any w2 A2 D D.length c2 rfl (by have := HN.out; have := HDL.out; omega) (nm_bt RD2.out)).mono ?_; rintro q w3 ⟨x, rfl, A3, c3, hr3⟩; have R3 := Lib.hid hr3; have B3 := Lib.hid (below_on B2.out (Nat.le_refl _) hr3.bel); clear hr3))
  have hsz3 := B3.out.size
  have hsz2 := B2.out.size
  have hw21 := B21.out.size
  obtain ⟨r, hr⟩ : ∃ r, w3.heap.size = r := ⟨_, rfl⟩
  have b4 : Below w3.heap.size w3 (w3.alloc (.cells #[.pointer (some ⟨x, 0, none⟩), .int .i64 0] 63)) := (Below.refl _ w3).alloc (Nat.le_refl _) _
  have d4 : Dr (w3.alloc (.cells #[.pointer (some ⟨x, 0, none⟩), .int .i64 0] 63)) r x A3 c3 D 0 0 := by
    refine ⟨?_, R3.out.sp.below b4, ?_, fun ad e => ?_, by omega⟩
    · rw [← hr]; exact World.alloc_heap_new w3 _
    · have := R3.out.sp.lt; omega
    · have := (R3.out.sp.ne ad e).2; omega
  have t14 : Tb (w3.alloc (.cells #[.pointer (some ⟨x, 0, none⟩), .int .i64 0] 63)) w.heap.size 0 none 0 0 := ((T1.out.below B21.out).below R3.out.bel).below b4
  have bw4 : Below w.heap.size w (w3.alloc (.cells #[.pointer (some ⟨x, 0, none⟩), .int .i64 0] 63)) := below_on B3.out (Nat.le_refl _) b4
  have sz4 : (w3.alloc (.cells #[.pointer (some ⟨x, 0, none⟩), .int .i64 0] 63)).heap.size = r + 1 := by rw [World.size_alloc, hr]
  obtain ⟨w4, hw4⟩ : ∃ w4, w3.alloc (.cells #[.pointer (some ⟨x, 0, none⟩), .int .i64 0] 63) = w4 := ⟨_, rfl⟩
  rw [hw4] at b4 d4 t14 bw4 sz4
  have AP : Hid (w.heap.size < r ∧ w.heap.size < x ∧ ∀ ad, A3 = some ad → w.heap.size < ad.block) := Lib.hid (by
    have h1 := R3.out.ge
    have h2 := SZ1.out
    have h3 := R3.out.bel.size
    exact ⟨by omega, by omega, fun ad e => by have := R3.out.row ad e; omega⟩)
  have D4 := Lib.hid d4
  have T4 := Lib.hid t14
  have B4 := Lib.hid bw4
  have SZ4 := Lib.hid sz4
  have BY : Hid (∀ W (n : Nat), Below w.heap.size w W → n ≤ D.length → Calls Tryz.prog 27 #[.pointer (some ⟨c, 0, none⟩), .int .i64 (n : Int)] W fun q w' => ∃ v, q = .returned (.tuple #[v, .int .i64 0]) ∧ Nm.Cur w' c A cap l (k + n) ∧ W.grownBy w' (some c)) := Lib.hid (fun W n hb hn => by
    have h1 := HN.out
    have h2 := HDL.out
    have hc0 := Nm.cutE_ok (n := (n : Int)) (m := l.length - k) (by omega) (by omega)
    refine (Nm.bytes_any (H.out.below (hb.mono (Nat.le_refl _))) (by omega) (n : Int)).mono ?_
    rintro q w' ⟨v, rfl, hcur, hg, _⟩
    rw [hc0, if_pos rfl, Int.toNat_natCast] at hcur
    exact ⟨v, by rw [hc0], hcur, hg⟩)
  clear b4 d4 t14 bw4 sz4 hsz3 hsz2 hw21 PK R3 T1 RD2 B21 B2
  go_upto_region 7 with (first
    | (go_at_call 26; refine (TB.out _ r x A3 c3 D4.out).mono ?_; intro q w5 ht; obtain ⟨Y, A5, n5, c5, s5, er5, rfl, hl5, hc5⟩ := ht.u; have L5 := Lib.hid hl5; have HC5 := Lib.hid hc5; have B5 : Hid (Below w.heap.size w w5) := Lib.hid (B4.out.trans (hl5.2.new B4.out.size (fun j hj => by (have h1 := AP.out; rcases hj with e | e <;> omega)))); have T5 := Lib.hid (T4.out.same (hl5.2.block _ T4.out.lt (by (have h1 := AP.out; rintro (e | e) <;> omega)))); have b6 : Below w5.heap.size w5 (w5.alloc (.cells #[.int .i64 Y, .slice A5 n5 c5] 28)) := (Below.refl _ w5).alloc (Nat.le_refl _) _; have D6 := Lib.hid (hl5.1.below b6); have T6 := Lib.hid (T5.out.below b6); have T96 := Lib.hid (Tb.new w5 Y A5 n5 c5); have B6 := Lib.hid (below_on B5.out (Nat.le_refl _) b6); have C6 : Hid (Chg (two r x) w4 (w5.alloc (.cells #[.int .i64 Y, .slice A5 n5 c5] 28))) := Lib.hid (hl5.2.below b6); obtain ⟨b9, hb9⟩ : ∃ b9, w5.heap.size = b9 := ⟨_, rfl⟩; obtain ⟨w6, hw6⟩ : ∃ w6, w5.alloc (.cells #[.int .i64 Y, .slice A5 n5 c5] 28) = w6 := ⟨_, rfl⟩; rw [hw6] at D6 T6 T96 B6 C6 b6; rw [hb9] at T96; have B56 := Lib.hid b6; have HB9 : Hid (r < b9 ∧ x < b9 ∧ w.heap.size < b9 ∧ w5.heap.size = b9) := Lib.hid (by (have h1 := hl5.1.lt; have h2 := hl5.1.sp.lt; have h3 := AP.out; omega)); clear ht hl5 hc5 b6)
    | (go_at_call 28; refine (al_u D6.out (by have := HN.out; have := HDL.out; omega)).mono ?_; rintro q w7 ⟨n7, s7, er7, rfl, ha, hn7, hl7⟩; have L7 := Lib.hid hl7; have HA := Lib.hid ha; have HN7 := Lib.hid hn7; have B7 : Hid (Below w.heap.size w w7) := Lib.hid (B6.out.trans (hl7.2.new B6.out.size (fun j hj => by (have h1 := AP.out; rcases hj with e | e <;> omega)))); have T7 := Lib.hid (T6.out.same (hl7.2.block _ T6.out.lt (by (have h1 := AP.out; rintro (e | e) <;> omega)))); have T97 := Lib.hid (T96.out.same (hl7.2.block _ T96.out.lt (by (have h1 := HB9.out; rintro (e | e) <;> omega)))); clear ha hn7 hl7)
    | (go_at_call 27; refine (BY.out _ _ B7.out HN7.out).mono ?_; rintro q w8 ⟨v8, rfl, hcur8, hg8⟩; have CU8 := Lib.hid hcur8; have G8 := Lib.hid hg8; have D8 := Lib.hid (L7.out.1.grown hg8 (fun g hg => by (cases hg; have h1 := AP.out; have h2 := hcl.out; exact ⟨by omega, by omega, fun ad e => by have := h1.2.2 ad e; omega⟩))); have T8 := Lib.hid (T7.out.same (hg8.block _ T7.out.lt (by have := hcl.out; simp; omega))); have T98 := Lib.hid (T97.out.same (hg8.block _ T97.out.lt (by have := hcl.out; have := HB9.out; simp; omega))); clear hcur8 hg8)
    | (go_at_call 29; refine (keep_any D8.out 0 er7 (by split <;> first | (symm; assumption) | rfl)).mono ?_; rintro q w9 ⟨rfl, hl9⟩; have L9 := Lib.hid hl9; have T9 := Lib.hid (T8.out.same (hl9.2.block _ T8.out.lt (by (have h1 := AP.out; rintro (e | e) <;> omega)))); have T99 := Lib.hid (T98.out.same (hl9.2.block _ T98.out.lt (by (have h1 := HB9.out; rintro (e | e) <;> omega)))); clear hl9))
  have FE : Hid (er7 ≠ 0 → ∃ e : Nat, er7 = (e : Int) ∧ RR = (e, 0, [], 0) ∧ n7 = 0) := Lib.hid (fun h0 => by
    have hR := HRD.out
    rcases HC5.out with ⟨e, h1, h2, h3⟩ | ⟨out, h1, h2, h3, h4⟩
    · rcases HA.out with ⟨g1, g2, g3⟩ | ⟨g1, _⟩ | ⟨g1, _⟩
      · exact ⟨e, by rw [g3, h2], by rw [hR, h1]; rfl, g2⟩
      · exact absurd (h2.symm.trans g1) (by omega)
      · exact absurd (h2.symm.trans g1) (by omega)
    · rcases HA.out with ⟨g1, _⟩ | ⟨_, _, _, g4⟩ | ⟨_, g2, g3, g4⟩
      · exact absurd h2 g1
      · exact absurd g4 h0
      · exact ⟨14, g4, by rw [hR, h1, dfin, if_neg g2], g3⟩)
  have FG : Hid (er7 = 0 → ∃ out, RR = (0, tk (unp D) 0 4 + 1, out, n7) ∧ Y = ((tk (unp D) 0 4 + 1 : Nat) : Int) ∧ w5.ownsRow w4.heap.size 3 1 (.slice A5 n5 c5) n5 (out.map iv)) := Lib.hid (fun h0 => by
    have hR := HRD.out
    rcases HC5.out with ⟨e, h1, h2, h3⟩ | ⟨out, h1, h2, h3, h4⟩
    · rcases HA.out with ⟨g1, g2, g3⟩ | ⟨g1, _⟩ | ⟨g1, _⟩
      · exact absurd (g3.symm.trans h0) g1
      · exact absurd (h2.symm.trans g1) (by omega)
      · exact absurd (h2.symm.trans g1) (by omega)
    · rcases HA.out with ⟨g1, _⟩ | ⟨_, g2, g3, _⟩ | ⟨_, _, _, g4⟩
      · exact absurd h2 g1
      · exact ⟨out, by rw [hR, h1, dfin, if_pos g2, g3], h3, h4⟩
      · exact absurd (g4.symm.trans h0) (by decide))
  have GG : Hid (∀ (S : Nat → Prop) w', (∀ j, S j → w.heap.size ≤ j) → Chg S w9 w' → w.grownBy w' (some c) ∧ Nm.Cur w' c A cap l (k + n7)) := Lib.hid (fun S w' hS hc => by
    have h1 := AP.out
    have g8 : w.grownBy w8 (some c) := Bt.grown_trans (Bt.grown_of_below B7.out (some c)) G8.out
    have g9 : w.grownBy w9 (some c) := grown_newer g8 L9.out.2 (fun j hj => by rcases hj with e | e <;> omega)
    have g10 := grown_newer g9 hc hS
    refine ⟨g10, ?_⟩
    have hcw := hcl.out
    have s8 := g8.size
    have s9 := L9.out.2.size
    have k9 : w9.heap[c]? = w8.heap[c]? := L9.out.2.block c (by omega) (by rintro (e | e) <;> omega)
    have k10 : w'.heap[c]? = w9.heap[c]? := hc.block c (by omega) (fun e => by have := hS c e; omega)
    exact ⟨(k10.trans k9).trans CU8.out.blk, H.out.rd.grown_cur H.out.blk g10, CU8.out.le, CU8.out.cap, CU8.out.small⟩)
  have k9 := L9.out.1.c1
  have i9 := T9.out.c0
  have i91 := T9.out.c1
  have f9 := T9.out.free 0
  clear HC5 HA HRD BY TB
  by_cases h0 : er7 = 0
  · subst h0
    have F := Lib.hid (FG.out rfl)
    clear FG FE
    have j9 := T99.out.c0
    have j91 := T99.out.c1
    have r10 := T9.out.set0 Y
    obtain ⟨w10, hw10⟩ : ∃ w10, w9.setCell ⟨w.heap.size, 0, none⟩ (.int .i64 Y) = w10 := ⟨_, rfl⟩
    rw [hw10] at r10
    have i10 := r10.c1
    have f10 := r10.free 1
    have r11 := r10.set1 A5 n5 c5
    obtain ⟨w11, hw11⟩ : ∃ w11, w10.setCell ⟨w.heap.size, 1, none⟩ (.slice A5 n5 c5) = w11 := ⟨_, rfl⟩
    rw [hw11] at r11
    have R11 := Lib.hid r11
    have HW := Lib.hid (And.intro hw10 hw11)
    clear r10 r11
    go_wp2
    refine bodyPost_ret (results_cell2 rfl rfl R11.out.load) rfl ?_
    have cc : Chg (fun j => j = w.heap.size) w9 w11 := by
      obtain ⟨h6, h7⟩ := HW.out
      rw [← h7, ← h6]
      exact ((Chg.refl (fun j => j = w.heap.size) w9).set ⟨w.heap.size, 0, none⟩ rfl _).set ⟨w.heap.size, 1, none⟩ rfl _
    have gg := GG.out _ w11 (fun j hj => by omega) cc
    obtain ⟨out, hRR, hY, ho⟩ := F.out
    refine ⟨A5, n5, c5, by rw [hRR, hY]; rfl, by rw [hRR]; exact gg.2, gg.1, ?_⟩
    rw [hRR]
    have hs4 := SZ4.out
    have hap := AP.out
    have hb9 := HB9.out
    have hcw := hcl.out
    have hgr : ∀ g, Value.ownBlock (.slice A5 n5 c5) = some g → w4.heap.size ≤ g := fun g hg => (ho.lt g hg).1
    have o7 := own_chg L7.out.2 (own_below ho B56.out) (fun g hg => by have := hgr g hg; have := D4.out.lt; have := D4.out.sp.lt; rintro (e | e) <;> omega)
    have o8 : w8.ownsRow w4.heap.size 3 1 (.slice A5 n5 c5) n5 (out.map iv) := own_same o7 (fun g hg => G8.out.block g (own_lt o7 hg) (by have := hgr g hg; simp; omega))
    have o9 := own_chg L9.out.2 o8 (fun g hg => by have := hgr g hg; have := D4.out.lt; have := D4.out.sp.lt; rintro (e | e) <;> omega)
    have o11 := own_chg cc o9 (fun g hg => by have := hgr g hg; omega)
    exact Bt.own_base (b := w.heap.size) o11 (by omega)
  · have hne : (er7 != 0) = true := by simpa using h0
    have r10 := T9.out.set0 0
    obtain ⟨w10, hw10⟩ : ∃ w10, w9.setCell ⟨w.heap.size, 0, none⟩ (.int .i64 0) = w10 := ⟨_, rfl⟩
    rw [hw10] at r10
    have i10 := r10.c1
    have f10 := r10.free 1
    have r11 := r10.set1 none 0 0
    obtain ⟨w11, hw11⟩ : ∃ w11, w10.setCell ⟨w.heap.size, 1, none⟩ (.slice none 0 0) = w11 := ⟨_, rfl⟩
    rw [hw11] at r11
    have R11 := Lib.hid r11
    have HW := Lib.hid (And.intro hw10 hw11)
    clear r10 r11
    have F := Lib.hid (FE.out h0)
    have CC : Hid (Chg (fun j => j = w.heap.size) w9 w11) := Lib.hid (by
      obtain ⟨h6, h7⟩ := HW.out
      rw [← h7, ← h6]
      exact ((Chg.refl (fun j => j = w.heap.size) w9).set ⟨w.heap.size, 0, none⟩ rfl _).set ⟨w.heap.size, 1, none⟩ rfl _)
    have k11 : w11.cell? ⟨r, 1, none⟩ = some (.int .i64 er7) := (World.cell?_of_block (a := ⟨r, 1, none⟩) (show w11.heap[r]? = w9.heap[r]? from CC.out.block r L9.out.1.lt (by have := AP.out; omega))).trans k9
    clear FG FE h0
    go_wp2
    go_region
    go_wp2
    all_goals refine bodyPost_ret (results_cell2 rfl rfl (show (loadVar 28 ⟨w.heap.size, 0, none⟩).run Tryz.prog w11.drew = .ok (tb 0 none 0 0) w11.drew from Tb.load R11.out)) rfl ?_
    all_goals (
      have gg := GG.out _ w11.drew (fun j hj => by omega) (CC.out.drew 1)
      obtain ⟨e, he, hRR, hn⟩ := F.out
      refine ⟨none, 0, 0, by rw [hRR, he]; rfl, ?_, gg.1, ?_⟩
      · rw [hRR]
        have := gg.2
        rw [hn] at this
        exact this
      · rw [hRR]; exact World.ownsRow_nil _ _ _ _)

end Go.Proofs.YtnlhokfhkohdpaaGreat.De

namespace Go.Proofs.YtnlhokfhkohdpaaGreat.De
open Go.RowKit Go.Shelf

set_option maxRecDepth 100000 in
set_option maxHeartbeats 1000000 in
theorem describable_any (w : World) (y : Int) (A : Option Addr) (l : List Int) (N cap : Nat) (hN : l.length = N) (hb : N ≤ 1000) (hR : Ri w A l) (m : Bool) (hm : may y l = m) :
    Calls Tryz.prog 20 #[tb y A N cap] w fun e w' => e = .returned (.bool m) ∧ Below w.heap.size w w' := by
  have b1 : Below w.heap.size w (w.alloc (.cells #[.int .i64 y, .slice A N cap] 28)) := (Below.refl _ w).alloc (Nat.le_refl _) _
  have t1 := Tb.new w y A N cap
  obtain ⟨w1, hw1⟩ : ∃ w1, w.alloc (.cells #[.int .i64 y, .slice A N cap] 28) = w1 := ⟨_, rfl⟩
  rw [hw1] at b1 t1
  have c0 := t1.c0
  have c1 := t1.c1
  have B1 := Lib.hid b1
  unfold may at hm
  by_cases hy : 0 < y
  · have hd : decide (0 < y) = true := decide_eq_true hy
    have CK := Lib.hid (check_any w1 y 256 9 A l N cap hN (by omega) (hR.below b1))
    rw [hd, Bool.true_and] at hm
    rw [hm] at CK
    clear b1 t1 hR hN hm
    cases m with
    | true =>
      go_enter Tryz.func20, Tryz.ntmps20
      go_wp2_with (go_at_call 50; refine CK.out.mono ?_; rintro e w2 ⟨rfl, hb2⟩; have B2 := Lib.hid (below_on B1.out (Nat.le_refl _) hb2); have hz : err true = 0 := rfl; rw [hz]; clear hb2)
      go_ret
      exact ⟨rfl, B2.out⟩
    | false =>
      go_enter Tryz.func20, Tryz.ntmps20
      go_wp2_with (go_at_call 50; refine CK.out.mono ?_; rintro e w2 ⟨rfl, hb2⟩; have B2 := Lib.hid (below_on B1.out (Nat.le_refl _) hb2); have hz : err false = 13 := rfl; rw [hz]; clear hb2)
      go_ret
      exact ⟨rfl, B2.out⟩
  · have hd : decide (0 < y) = false := decide_eq_false hy
    rw [hd, Bool.false_and] at hm
    subst hm
    clear b1 t1 hR hN
    go_enter Tryz.func20, Tryz.ntmps20
    go_wp2
    go_ret
    exact ⟨rfl, B1.out⟩

/-- The bytes of a slice in new memory. -/
def Bys (w w' : World) (A : Option Addr) (n c : Nat) (X : List UInt8) : Prop := n = X.length ∧ w'.ownsRow w.heap.size 5 1 (.slice A n c) n (X.map Bt.byt) ∧ Below w.heap.size w w'
/-- What Encode leaves: some bytes and an error. -/
def EncP (w : World) (X : List UInt8) (er : Int) (q : Ending) (w' : World) : Prop := ∃ A n c, q = .returned (.tuple #[.slice A n c, .int .i64 er]) ∧ Bys w w' A n c X

set_option maxRecDepth 100000 in
set_option maxHeartbeats 1000000 in
theorem encode_no (w : World) (y : Int) (A : Option Addr) (l : List Int) (N cap : Nat) (hN : l.length = N) (hb : N ≤ 1000) (hR : Ri w A l) (hm : may y l = false) :
    Calls Tryz.prog 8 #[tb y A N cap] w (EncP w [] 13) := by
  have b1 : Below w.heap.size w (w.alloc (.cells #[.int .i64 y, .slice A N cap] 28)) := (Below.refl _ w).alloc (Nat.le_refl _) _
  have t1 := Tb.new w y A N cap
  obtain ⟨w1, hw1⟩ : ∃ w1, w.alloc (.cells #[.int .i64 y, .slice A N cap] 28) = w1 := ⟨_, rfl⟩
  rw [hw1] at b1 t1
  have c0 := t1.c0
  have c1 := t1.c1
  have DS := Lib.hid (describable_any w1 y A l N cap hN hb (hR.below b1) false hm)
  have B1 := Lib.hid b1
  clear b1 t1 hR hN hm
  go_enter Tryz.func8, Tryz.ntmps8
  go_wp2_with (go_at_call 20; refine DS.out.mono ?_; rintro e w2 ⟨rfl, hb2⟩; have B2 := Lib.hid (below_on B1.out (Nat.le_refl _) hb2); clear hb2)
  go_ret2
  exact ⟨none, 0, 0, rfl, rfl, World.ownsRow_nil _ _ _ _, B2.out⟩

set_option maxRecDepth 100000 in
set_option maxHeartbeats 1000000 in
theorem encode_ok (w : World) (y : Nat) (A : Option Addr) (l : List Int) (N cap : Nat) (hN : l.length = N) (hc : N ≤ cap) (hR : Ri w A l) (hv : Vt y l) (h1 : 1 ≤ y) :
    Calls Tryz.prog 8 #[tb (y : Int) A N cap] w (EncP w (Bt.pack (descr y l)) 0) := by
  have hN2 : N ≤ 256 := by rw [← hN]; exact hv.len
  have b1 : Below w.heap.size w (w.alloc (.cells #[.int .i64 (y : Int), .slice A N cap] 28)) := (Below.refl _ w).alloc (Nat.le_refl _) _
  have t1 := Tb.new w (y : Int) A N cap
  obtain ⟨w1, hw1⟩ : ∃ w1, w.alloc (.cells #[.int .i64 (y : Int), .slice A N cap] 28) = w1 := ⟨_, rfl⟩
  rw [hw1] at b1 t1
  have c0 := t1.c0
  have c1 := t1.c1
  have DS := Lib.hid (describable_any w1 (y : Int) A l N cap hN (by omega) (hR.below b1) true (may_iff.2 ⟨y, rfl, h1, hv⟩))
  have ST := Lib.hid (fun W (hb : Below w1.heap.size w1 W) => stream_any W y A l N cap hN hc hv h1 ((hR.below b1).below hb))
  have hlen := descr_len hv
  obtain ⟨L, hL⟩ : ∃ L, descr y l = L := ⟨_, rfl⟩
  rw [hL] at ST hlen ⊢
  have T1 := Lib.hid t1
  have B1 := Lib.hid b1
  clear b1 t1 hR hN hv hL
  go_enter Tryz.func8, Tryz.ntmps8
  go_wp2_with (first
    | (go_at_call 20; refine DS.out.mono ?_; rintro e w2 ⟨rfl, hb2⟩; have B2 := Lib.hid hb2; have t2 := T1.out.below hb2; have d0 := t2.c0; have d1 := t2.c1; clear hb2 t2)
    | (go_at_call 21; refine (ST.out _ B2.out).mono ?_; rintro e w3 ⟨x, rfl, v3, h3⟩; have A3 := Lib.hid h3; clear h3)
    | (go_at_call 22; refine (Bt.bytes_any A3.out.wr (by omega)).mono ?_; rintro e w4 ⟨A4, c4, rfl, ho4, hb4⟩; have O4 := Lib.hid ho4; have B4 := Lib.hid hb4; clear ho4 hb4))
  go_ret2
  refine ⟨A4, _, c4, rfl, rfl, ?_, below_on (below_on (below_on B1.out (Nat.le_refl _) B2.out) (Nat.le_refl _) A3.out.bel) (Nat.le_refl _) B4.out⟩
  exact Bt.own_base O4.out (Nat.le_trans (Nat.le_trans B1.out.size B2.out.size) A3.out.bel.size)

end Go.Proofs.YtnlhokfhkohdpaaGreat.De

namespace Go.Proofs.YtnlhokfhkohdpaaGreat.De
open Bt (bitsOf bitsOf_len unp unp_len unp_app pack val val_inj)

theorem unp_take (D : List UInt8) (n : Nat) : unp (D.take n) = (unp D).take (8 * n) := by
  by_cases h : n ≤ D.length
  · have e : unp D = unp (D.take n) ++ unp (D.drop n) := by rw [← unp_app, List.take_append_drop]
    have h2 : (unp (D.take n)).length = 8 * n := by rw [unp_len, List.length_take]; omega
    rw [e, ← h2, List.take_left]
  · rw [List.take_of_length_le (by omega), List.take_of_length_le (by rw [unp_len]; omega)]

theorem rd_step {B : List Bool} {s v s' m : Nat} (hm : 2 ≤ m) (h5 : m ≤ 514) (h : rd B s m = some (v, s')) : s' ≤ s + 10 := by
  have := rd_inv hm h
  have := code_le (n := v) h5
  omega

/-- Bits behind the 385th byte are not asked for. -/
theorem dst_prefix (B : List Bool) (N : Nat) (hN : 3080 ≤ N) (sy : Int) (hsy : sy ≤ 256) : ∀ (f left : Nat) (out : List Int) (s : Nat) (b : Bool), left ≤ 512 → (b = false → s ≤ 4 + 12 * out.length) → (b = true → s + 2 ≤ 4 + 12 * out.length) →
    dst (B.take N) sy f left out s b = dst B sy f left out s b
  | 0, _, _, _, _, _, _, _ => rfl
  | f + 1, left, out, s, false, hl, h0, _ => by
    have h0 := h0 rfl
    rw [dst, dst]
    split
    · rfl
    · split
      · rfl
      · rename_i hf
        have hw := wid_le (m := left + 2) (by omega)
        rw [rd_prefix (by omega)]
        cases hr : rd B s (left + 2) with
        | none => rfl
        | some p =>
          obtain ⟨v, s'⟩ := p
          have h1 := rd_step (by omega) (by omega) hr
          dsimp only
          split
          · rfl
          · exact dst_prefix B N hN sy hsy f _ _ _ _ (by omega) (fun _ => by rw [List.length_append, List.length_singleton]; omega) (fun _ => by rw [List.length_append, List.length_singleton]; omega)
  | f + 1, left, out, s, true, hl, _, h1 => by
    have h1 := h1 rfl
    rw [dst, dst]
    split
    · rfl
    · rename_i hf
      have e1 : (B.take N).length < s + 2 ↔ B.length < s + 2 := by rw [List.length_take]; omega
      by_cases hs : B.length < s + 2
      · rw [if_pos hs, if_pos (e1.2 hs)]
      · rw [if_neg hs, if_neg (fun h => hs (e1.1 h)), tk_prefix (by omega)]
        have hk : tk B s 2 < 4 := tk_lt _ _ 2
        exact dst_prefix B N hN sy hsy f _ _ _ _ hl (fun _ => by rw [List.length_append, List.length_replicate]; omega) (fun h => by
          rw [List.length_append, List.length_replicate]
          have : tk B s 2 = 3 := by simpa using h
          omega)

theorem dst_bound (B : List Bool) (sy : Int) (hsy : sy ≤ 256) : ∀ (f left : Nat) (out : List Int) (s : Nat) (b : Bool) (out' : List Int) (s' : Nat), left ≤ 512 → (b = false → s ≤ 4 + 12 * out.length ∧ (left = 0 → out.length ≤ 256)) → (b = true → s + 2 ≤ 4 + 12 * out.length ∧ 0 < left) →
    dst B sy f left out s b = .ok out' s' → s' ≤ 4 + 12 * out'.length ∧ out'.length ≤ 256
  | 0, _, _, _, _, _, _, _, _, _, h => by rw [dst] at h; cases h
  | f + 1, left, out, s, false, out', s', hl, h0, _, h => by
    have h0 := h0 rfl
    rw [dst] at h
    split at h
    · rename_i hz
      cases h
      exact ⟨h0.1, h0.2 hz⟩
    · split at h
      · cases h
      · rename_i hz hf
        cases hr : rd B s (left + 2) with
        | none => rw [hr] at h; cases h
        | some p =>
          obtain ⟨v, s1⟩ := p
          rw [hr] at h
          dsimp only at h
          have h1 := rd_step (by omega) (by omega) hr
          split at h
          · cases h
          · refine dst_bound B sy hsy f _ _ _ _ out' s' (by omega) (fun _ => ?_) (fun hb => ?_) h
            · rw [List.length_append, List.length_singleton]
              exact ⟨by omega, fun _ => by omega⟩
            · rw [List.length_append, List.length_singleton]
              have hv : v = 1 := by simpa using hb
              subst hv
              have : stn 1 = 0 := rfl
              exact ⟨by omega, by omega⟩
  | f + 1, left, out, s, true, out', s', hl, _, h1, h => by
    have h1 := h1 rfl
    rw [dst] at h
    split at h
    · cases h
    · split at h
      · cases h
      · have hk : tk B s 2 < 4 := tk_lt _ _ 2
        refine dst_bound B sy hsy f _ _ _ _ out' s' hl (fun _ => ?_) (fun hb => ?_) h
        · rw [List.length_append, List.length_replicate]
          exact ⟨by omega, fun h => by omega⟩
        · rw [List.length_append, List.length_replicate]
          have : tk B s 2 = 3 := by simpa using hb
          exact ⟨by omega, h1.2⟩

theorem two_pow_le {y : Nat} (h : y ≤ 9) : 2 ^ y ≤ 512 := pow_le h

theorem dcp_prefix (B : List Bool) (N : Nat) (hN : 3080 ≤ N) (sy lg : Int) (hsy : sy ≤ 256) (hlg : lg ≤ 9) : dcp (B.take N) sy lg = dcp B sy lg := by
  have e1 : (B.take N).length < 4 ↔ B.length < 4 := by rw [List.length_take]; omega
  unfold dcp
  by_cases h4 : B.length < 4
  · rw [if_pos h4, if_pos (e1.2 h4)]
  · rw [if_neg h4, if_neg (fun h => h4 (e1.1 h)), tk_prefix (by omega)]
    split
    · rfl
    · rename_i hy
      have hp := two_pow_le (y := tk B 0 4 + 1) (by omega)
      unfold dec
      have hl := List.length_take (i := N) (l := B)
      rw [dst_fuel (B.take N) sy _ (B.length + 1) _ _ _ _ (by omega) (by omega) (by omega), dst_fuel B sy _ (B.length + 1) _ _ _ _ (by omega) (by omega) (by omega)]
      exact dst_prefix B N hN sy hsy _ _ _ _ _ hp (fun _ => by simp) (fun h => by cases h)

theorem dcp_bound {B : List Bool} {sy lg : Int} {out : List Int} {s : Nat} (hsy : sy ≤ 256) (hlg : lg ≤ 9) (h : dcp B sy lg = .ok out s) : s ≤ 3076 := by
  unfold dcp at h
  split at h
  · cases h
  · split at h
    · cases h
    · rename_i hy
      have hp := two_pow_le (y := tk B 0 4 + 1) (by omega)
      have := dst_bound B sy hsy _ _ _ _ _ out s hp (fun _ => ⟨by simp, fun h => by have := Nat.two_pow_pos (tk B 0 4 + 1); omega⟩) (fun h => by cases h) h
      omega

theorem dcd_take (D : List UInt8) (sy lg : Int) : dcd (unp (D.take 385)) sy lg = dcd (unp D) sy lg := by
  rw [unp_take]
  unfold dcd
  rw [dcp_prefix _ _ (by decide) _ _ (by omega) (by omega)]
  cases h : dcp (unp D) (min sy 256) (min lg 9) with
  | bad e => rfl
  | ok out s =>
    have hs := dcp_bound (by omega) (by omega) h
    simp only [dfin]
    rw [tk_prefix (N := 8 * 385) (s := s) (by omega), tk_prefix (N := 8 * 385) (s := 0) (by omega)]

/-- What is read from the bits of a description, whatever follows. -/
theorem dcp_descr {B R : List Bool} {y : Nat} {l : List Int} (h1 : 1 ≤ y) (hv : Vt y l) (hB : B = descr y l ++ R) (sy lg : Int) :
    dcp B sy lg = if ((l.length : Nat) : Int) ≤ sy ∧ ((y : Nat) : Int) ≤ lg then .ok l (descr y l).length else .bad 13 := by
  have hy9 := hv.log
  have hlen : (descr y l).length = 4 + (enc (2 ^ y) l).length := by rw [descr, List.length_append, bitsOf_len]
  have hB4 : 4 ≤ B.length := by rw [hB, List.length_append]; omega
  have hd : B.drop 0 = bitsOf (y - 1) 4 ++ (enc (2 ^ y) l ++ R) := by rw [List.drop_zero, hB, descr, List.append_assoc]
  have ht : tk B 0 4 = y - 1 := by rw [tk_of hd, Nat.mod_eq_of_lt (by omega)]
  have hd4 : B.drop 4 = enc (2 ^ y) l ++ R := by
    have := drop_app hd
    rwa [bitsOf_len] at this
  rw [dcp, if_neg (by omega), ht, show y - 1 + 1 = y by omega]
  by_cases hl : ((y : Nat) : Int) ≤ lg
  · rw [if_neg (by omega), dec_enc _ (2 ^ y) l [] 4 R (Nat.le_refl _) hv.vs (fun h => by simp at h) (fun h => by have := hv.pos; rw [h] at this; simp at this) hB4 hd4]
    rw [List.length_nil, Nat.zero_add, List.nil_append, ← hlen]
    by_cases hn : ((l.length : Nat) : Int) ≤ sy
    · rw [if_pos hn, if_pos ⟨hn, hl⟩]
    · rw [if_neg hn, if_neg (fun h => hn h.1)]
  · rw [if_pos (by omega), if_neg (fun h => hl h.2)]

/-- A description, followed by any bytes, is read as the table. -/
theorem dcd_back {y : Nat} {l : List Int} (h1 : 1 ≤ y) (hv : Vt y l) (R : List UInt8) (sy lg : Int) :
    dcd (unp (pack (descr y l) ++ R)) sy lg = if ((l.length : Nat) : Int) ≤ sy ∧ ((y : Nat) : Int) ≤ lg then (0, y, l, (pack (descr y l)).length) else (13, 0, [], 0) := by
  obtain ⟨z, hz, hzl, hz8⟩ := Bt.unp_pack (descr y l)
  have hy9 := hv.log
  have hl := hv.len
  obtain ⟨L, hL⟩ : ∃ L, descr y l = L := ⟨_, rfl⟩
  have hB : unp (pack (descr y l) ++ R) = descr y l ++ (List.replicate z false ++ unp R) := by rw [unp_app, hz, List.append_assoc]
  have e1 : ((((l.length : Nat) : Int) ≤ min sy 256 ∧ ((y : Nat) : Int) ≤ min lg 9)) ↔ (((l.length : Nat) : Int) ≤ sy ∧ ((y : Nat) : Int) ≤ lg) := by omega
  rw [dcd, dcp_descr h1 hv hB]
  by_cases h : ((l.length : Nat) : Int) ≤ sy ∧ ((y : Nat) : Int) ≤ lg
  · rw [if_pos (e1.2 h), if_pos h]
    have hd : (unp (pack (descr y l) ++ R)).drop 0 = bitsOf (y - 1) 4 ++ (enc (2 ^ y) l ++ (List.replicate z false ++ unp R)) := by rw [List.drop_zero, hB, descr, List.append_assoc]
    have ht : tk (unp (pack (descr y l) ++ R)) 0 4 = y - 1 := by rw [tk_of hd, Nat.mod_eq_of_lt (by omega)]
    have hk : ((descr y l).length + 7) / 8 = (pack (descr y l)).length := by omega
    have h0 : tk (unp (pack (descr y l) ++ R)) (descr y l).length (8 * (((descr y l).length + 7) / 8) - (descr y l).length) = 0 := by
      rw [tk, hB, List.drop_left, show 8 * (((descr y l).length + 7) / 8) - (descr y l).length = z by omega, List.take_append_of_le_length (by rw [List.length_replicate]; exact Nat.le_refl _), List.take_of_length_le (by rw [List.length_replicate]; exact Nat.le_refl _), Bt.val_noughts]
    rw [dfin, if_pos h0, ht, hk, show y - 1 + 1 = y by omega]
  · rw [if_neg (fun g => h (e1.1 g)), if_neg h, dfin]

theorem pack_inj {y y' : Nat} {l l' : List Int} (h1 : 1 ≤ y) (h1' : 1 ≤ y') (hv : Vt y l) (hv' : Vt y' l') (h : pack (descr y l) = pack (descr y' l')) : y = y' ∧ l = l' := by
  have a := dcd_back h1 hv [] 256 9
  have b := dcd_back h1' hv' [] 256 9
  rw [h, b] at a
  have g1 := hv.log
  have g2 := hv.len
  have g1' := hv'.log
  have g2' := hv'.len
  rw [if_pos ⟨by omega, by omega⟩, if_pos ⟨by omega, by omega⟩] at a
  simp only [Prod.mk.injEq, true_and] at a
  exact ⟨a.1.symm, a.2.1.symm⟩

/-- Norms that were read are valid, and their bits are those that were read. -/
theorem dst_inv (B : List Bool) (sy : Int) : ∀ (f left : Nat) (out : List Int) (s : Nat) (b : Bool) (out' : List Int) (s' : Nat), s ≤ B.length → (b = true → 0 < left ∧ out.getLast? = some 0) → dst B sy f left out s b = .ok out' s' →
    if b then ∃ (r : Nat) (l : List Int), out' = out ++ List.replicate r 0 ++ l ∧ Vs left l ∧ l.head? ≠ some 0 ∧ l ≠ [] ∧ B.drop s = runB r ++ (enc left l ++ B.drop s') ∧ s' ≤ B.length ∧ (((out.length + r + l.length : Nat) : Int) ≤ sy)
    else ∃ l : List Int, out' = out ++ l ∧ Vs left l ∧ (out.getLast? = some 0 → l.head? ≠ some 0) ∧ B.drop s = enc left l ++ B.drop s' ∧ s' ≤ B.length ∧ (l = [] ∨ ((out.length + l.length : Nat) : Int) ≤ sy)
  | 0, _, _, _, _, _, _, _, _, h => by rw [dst] at h; cases h
  | f + 1, left, out, s, false, out', s', hs, _, h => by
    rw [if_neg (by decide)]
    rw [dst] at h
    split at h
    · rename_i hz
      cases h
      subst hz
      exact ⟨[], by simp, ⟨rfl, by simp, rfl⟩, by simp, by rw [enc_nil, List.nil_append], hs, .inl rfl⟩
    · split at h
      · cases h
      · rename_i hz hf
        cases hr : rd B s (left + 2) with
        | none => rw [hr] at h; cases h
        | some p =>
          obtain ⟨v, s1⟩ := p
          rw [hr] at h
          dsimp only at h
          obtain ⟨hv, hd, hs1, hs1l, _⟩ := rd_inv (by omega) hr
          have hst := stn_sts v
          split at h
          · cases h
          · rename_i hn
            by_cases hv1 : v = 1
            · subst hv1
              have hi := dst_inv B sy f _ _ _ _ out' s' hs1l (fun _ => ⟨by have : stn 1 = 0 := rfl; omega, by rw [getLast?_snoc]; rfl⟩) h
              rw [show ((1 : Nat) == 1) = true from rfl, if_pos rfl] at hi
              obtain ⟨r, l, e1, hvs, hh, hne, hb, hl', hle⟩ := hi
              rw [show left - stn 1 = left from rfl] at hvs hb
              have hvs0 : Vs left (0 :: (List.replicate r 0 ++ l)) := by
                refine ⟨?_, ?_, ?_⟩
                · have := hvs.ok
                  rw [okn, List.all_eq_true] at this ⊢
                  intro x hx
                  rcases List.mem_cons.1 hx with rfl | hx
                  · decide
                  · rcases List.mem_append.1 hx with hx | hx
                    · rw [List.eq_of_mem_replicate hx]; decide
                    · exact this x hx
                · rw [show (0 : Int) :: (List.replicate r 0 ++ l) = (0 :: List.replicate r 0) ++ l from rfl, List.getLast?_append, List.getLast?_eq_some_getLast hne, Option.some_or, ← List.getLast?_eq_some_getLast hne]
                  exact hvs.last
                · rw [ssum_cons, ssum_append, ssum_zeros, hvs.sum]
                  have : sts 0 = 0 := rfl
                  omega
              refine ⟨0 :: (List.replicate r 0 ++ l), ?_, hvs0, fun hg => absurd ⟨rfl, hg⟩ hn, ?_, hl', .inr ?_⟩
              · rw [e1]; simp
              · have e2 : (List.replicate r (0 : Int) ++ l).drop r = l := by
                  have := List.drop_left (l₁ := List.replicate r (0 : Int)) (l₂ := l)
                  rwa [List.length_replicate] at this
                rw [enc_zero, zr_app hh r, hd, hb, e2]
                simp only [List.append_assoc]
              · rw [List.length_append, List.length_singleton] at hle
                simp only [List.length_cons, List.length_append, List.length_replicate]
                omega
            · have hi := dst_inv B sy f _ _ _ _ out' s' hs1l (fun h => absurd (by simpa using h) hv1) h
              rw [show (v == 1) = false by simpa using hv1, if_neg (by decide)] at hi
              obtain ⟨l, e1, hvs, hh, hb, hl', hle⟩ := hi
              have hx0 : (v : Int) - 1 ≠ 0 := by omega
              have hsn : stn v ≤ left := by unfold stn; split <;> omega
              refine ⟨((v : Int) - 1) :: l, by rw [e1]; simp, ⟨?_, ?_, ?_⟩, fun _ h => ?_, ?_, hl', .inr ?_⟩
              · have := hvs.ok
                rw [okn, List.all_cons, Bool.and_eq_true]
                exact ⟨decide_eq_true (by omega), this⟩
              · cases l with
                | nil => simpa using hx0
                | cons x l => rw [List.getLast?_cons_cons]; exact hvs.last
              · rw [ssum_cons, hvs.sum, hst]
                omega
              · rw [List.head?_cons] at h
                exact hx0 (Option.some.inj h)
              · rw [enc_cons _ hx0, hd, hb, hst, Int.toNat_natCast, show ((v : Int) - 1 + 1).toNat = v by omega, List.append_assoc]
              · rcases hle with rfl | hle
                · simp only [List.length_cons, List.length_nil]; omega
                · rw [List.length_append, List.length_singleton] at hle
                  rw [List.length_cons]; omega
  | f + 1, left, out, s, true, out', s', hs, h1, h => by
    rw [if_pos rfl]
    obtain ⟨h0, hg⟩ := h1 rfl
    rw [dst] at h
    split at h
    · cases h
    · split at h
      · cases h
      · rename_i hf hl
        have hk : tk B s 2 < 4 := tk_lt _ _ 2
        have hd := tk_bits (B := B) (s := s) (n := 2) (by omega)
        obtain ⟨k, hkk⟩ : ∃ k, tk B s 2 = k := ⟨_, rfl⟩
        rw [hkk] at h hk hd
        have hg2 : (out ++ List.replicate k 0).getLast? = some 0 := by
          cases k with
          | zero => simpa using hg
          | succ k => rw [List.replicate_succ', ← List.append_assoc]; exact getLast?_snoc _ _
        by_cases hk3 : k = 3
        · subst hk3
          have hi := dst_inv B sy f _ _ _ _ out' s' (by omega) (fun _ => ⟨h0, hg2⟩) h
          rw [show ((3 : Nat) == 3) = true from rfl, if_pos rfl] at hi
          obtain ⟨r, l, e1, hvs, hh, hne, hb, hl', hle⟩ := hi
          refine ⟨r + 3, l, ?_, hvs, hh, hne, ?_, hl', ?_⟩
          · rw [e1, List.append_assoc out, List.replicate_append_replicate, Nat.add_comm 3 r]
          · rw [runB_high, hd, hb, List.append_assoc]
          · rw [List.length_append, List.length_replicate] at hle; omega
        · have hi := dst_inv B sy f _ _ _ _ out' s' (by omega) (fun h => absurd (by simpa using h) hk3) h
          rw [show (k == 3) = false by simpa using hk3, if_neg (by decide)] at hi
          obtain ⟨l, e1, hvs, hh, hb, hl', hle⟩ := hi
          have hne : l ≠ [] := by
            rintro rfl
            have := hvs.nil
            omega
          refine ⟨k, l, e1, hvs, hh hg2, hne, ?_, hl', ?_⟩
          · rw [runB_low (by omega), hd, hb]
          · rcases hle with h | hle
            · exact absurd h hne
            · rw [List.length_append, List.length_replicate] at hle; exact hle

theorem dst_bad (B : List Bool) (sy : Int) : ∀ (f left : Nat) (out : List Int) (s : Nat) (b : Bool), s ≤ B.length → B.length < s + f → dst B sy f left out s b = .bad 0 → False
  | 0, _, _, s, _, h0, h1, _ => by omega
  | f + 1, left, out, s, false, h0, h1, h => by
    rw [dst] at h
    split at h
    · cases h
    · split at h
      · cases h
      · cases hr : rd B s (left + 2) with
        | none => rw [hr] at h; cases h
        | some p =>
          obtain ⟨v, s1⟩ := p
          rw [hr] at h
          dsimp only at h
          have := rd_lt (by omega) hr
          split at h
          · cases h
          · exact dst_bad B sy f _ _ _ _ this.2 (by omega) h
  | f + 1, left, out, s, true, h0, h1, h => by
    rw [dst] at h
    split at h
    · cases h
    · split at h
      · cases h
      · exact dst_bad B sy f _ _ _ _ (by omega) (by omega) h

theorem zeros_of {X : List Bool} (h : val X = 0) : X = List.replicate X.length false := val_inj (by simp) (by rw [h, Bt.val_noughts])
theorem unp_inj {F G : List UInt8} (h : unp F = unp G) : F = G := by
  have hl : F.length = G.length := by
    have := congrArg List.length h
    rw [unp_len, unp_len] at this
    omega
  have hn : Bt.num F = Bt.num G := by rw [← Bt.val_unp, ← Bt.val_unp, h]
  rw [← Bt.byts_num0 F, ← Bt.byts_num0 G, hl, hn]

/-- A table that was read is valid within the bounds, and its description is what was read. -/
theorem dcd_once {D : List UInt8} {sy lg : Int} {y : Nat} {l : List Int} {n : Nat} (h : dcd (unp D) sy lg = (0, y, l, n)) :
    1 ≤ y ∧ Vt y l ∧ ((l.length : Nat) : Int) ≤ sy ∧ ((y : Nat) : Int) ≤ lg ∧ n ≤ D.length ∧ pack (descr y l) = D.take n := by
  obtain ⟨B, hB⟩ : ∃ B, unp D = B := ⟨_, rfl⟩
  have hBl : B.length = 8 * D.length := by rw [← hB, unp_len]
  rw [hB] at h
  unfold dcd at h
  cases hd : dcp B (min sy 256) (min lg 9) with
  | bad e =>
    exfalso
    rw [hd, dfin] at h
    simp only [Prod.mk.injEq] at h
    obtain ⟨rfl, hy, _⟩ := h
    unfold dcp at hd
    split at hd
    · cases hd
    · split at hd
      · cases hd
      · exact dst_bad _ _ _ _ _ _ _ (by omega) (by omega) hd
  | ok out s =>
    rw [hd, dfin] at h
    split at h
    · rename_i hz
      simp only [Prod.mk.injEq, true_and] at h
      obtain ⟨hy, rfl, hn⟩ := h
      unfold dcp at hd
      split at hd
      · cases hd
      · split at hd
        · cases hd
        · rename_i h4 hlg
          rw [hy] at hd hlg
          have h1 := dst_inv B _ _ _ _ _ _ out s (by omega) (fun h => by cases h) hd
          rw [if_neg (by decide)] at h1
          obtain ⟨l, e1, hvs, _, hb, hsl, hle⟩ := h1
          rw [List.nil_append] at e1
          subst e1
          have hpos : out ≠ [] := by
            rintro rfl
            have := hvs.nil
            have := Nat.two_pow_pos y
            omega
          rw [List.length_nil, Nat.zero_add] at hle
          have hle2 := hle.resolve_left hpos
          have hv : Vt y out := Vt.of hvs (by omega) (by omega)
          have hd4 := tk_bits (B := B) (s := 0) (n := 4) (by omega)
          have hB2 : B = descr y out ++ B.drop s := by
            rw [List.drop_zero, Nat.zero_add, hb] at hd4
            rw [descr, List.append_assoc, show y - 1 = tk B 0 4 by omega]
            exact hd4
          have hsd : s = (descr y out).length := by
            have := congrArg List.length hB2
            rw [List.length_append, List.length_drop] at this
            omega
          refine ⟨by omega, hv, by omega, by omega, by omega, unp_inj ?_⟩
          obtain ⟨z, hzz, hzl, hz8⟩ := Bt.unp_pack (descr y out)
          rw [hzz, unp_take, hB]
          obtain ⟨X, hX⟩ : ∃ X, (B.drop s).take (8 * n - s) = X := ⟨_, rfl⟩
          have hXl : X.length = z := by rw [← hX, List.length_take, List.length_drop]; omega
          have hX0 : X = List.replicate z false := by
            rw [← hXl]
            refine zeros_of ?_
            rw [← hX]
            rw [tk, hn] at hz
            exact hz
          rw [← hX0, ← hX]
          conv => rhs; rw [hB2, List.take_append]
          rw [List.take_of_length_le (l := descr y out) (by omega), ← hsd]
    · simp at h

end Go.Proofs.YtnlhokfhkohdpaaGreat.De
