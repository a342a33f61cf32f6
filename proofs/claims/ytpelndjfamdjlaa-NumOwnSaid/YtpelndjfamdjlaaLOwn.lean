/-
  Proved: the law NumOwn returns true for all bytes: the returned slices and the cursor do not share memory with the arguments, whose spare capacity is not written either. No condition.
-/
import Derived.Test.YtpelndjfamdjlaaLOwnA
namespace Go.Proofs.Ytpelndjfamdjlaa.numOwn
open Go.ChangeShapes Go.WideShapes Go.ChangeAt Go.RowKit
set_option linter.unusedVariables false

set_option maxRecDepth 100000 in
set_option maxHeartbeats 4000000 in
theorem walk (A : Option Addr) (l : List UInt8) (cap : Nat) (w : World) (hR : Rd w A l) (hs : l.length ≤ 140737488351232) (hc : l.length ≤ cap) :
    Calls Try.prog 11 #[.slice A l.length cap] w fun e w' => e = .returned (.bool true) ∧ Below w.heap.size w w' := by
  obtain ⟨n, hn⟩ : ∃ n, l.length = n := ⟨_, rfl⟩
  obtain ⟨X, hX⟩ : ∃ X, l.map byt = X := ⟨_, rfl⟩
  have hXl : X.length = n := by rw [← hX, ← hn]; simp
  have hX1 : ∀ v ∈ X, v.oneCell' = true := by
    intro v hv
    rw [← hX] at hv
    obtain ⟨b, _, rfl⟩ := List.mem_map.1 hv
    rfl
  have hXc : 0 < X.length → ∃ ad, A = some ad ∧ ∀ j v, X[j]? = some v → w.cell? (ad.add j) = some v := by
    intro hp
    obtain ⟨ad, hA, _⟩ := hR 0 (l[0]'(by omega)) (List.getElem?_eq_getElem (by omega))
    refine ⟨ad, hA, fun j v hj => ?_⟩
    rw [← hX, List.getElem?_map] at hj
    obtain ⟨b, hb, rfl⟩ := Option.map_eq_some_iff.1 hj
    obtain ⟨ad', hA', hc⟩ := hR j b hb
    rw [hA] at hA'
    injection hA' with hA'
    rw [hA']; exact hc
  obtain ⟨i0, hi, hz0, hz1, hz2⟩ := info_parts byte_info
  obtain ⟨Z, hZ⟩ : ∃ Z, (madeCells (Value.cells (.int .u8 0)) ((n + 16) * i0.size)).toList = Z := ⟨_, rfl⟩
  have hZl : Z.length = n + 16 := by rw [← hZ, Array.length_toList, size_madeCells, hz1]; omega
  have hZr : Z = List.replicate (n + 16) (.int .u8 0) := by
    rw [← hZ, hz1, Nat.mul_one]
    exact toList_madeCells_one _ _
  have hmk : ∀ W : World, (Instr.makeSlice 22 (.int .i64 (n : Int)) (.int .i64 ((n : Int) + 16))).run Try.prog W = .ok (.slice (some ⟨W.heap.size, 0, none⟩) n (n + 16)) (W.alloc (.cells Z.toArray 5)) := by
    intro W
    have hr := run_make (P := Try.prog) W 22 5 i0 (.int .u8 0) Try.underlying22 hi hz0 .i64 .i64 n ((n : Int) + 16) (by omega) (by omega) (by rw [hz2]; omega) (by omega)
    rw [show ((n : Int) + 16).toNat = n + 16 by omega, Int.toNat_natCast] at hr
    rw [hr, ← hZ]
  have hXL := Lib.hid hX
  have hLn := Lib.hid hn
  have hXN := Lib.hid hXl
  have hZN := Lib.hid hZl
  have hZR := Lib.hid hZr
  have hXC := Lib.hid hXc
  have hX1' := Lib.hid hX1
  have HR := Lib.hid hR
  have hb0 : n ≤ 140737488351232 := by omega
  rw [hn] at hc ⊢
  have HB0 := Lib.hid hb0
  clear hX hn hXl hZl hXc hX1 hs hZ hi hz0 hz1 hz2 hR hZr
  go_enter Try.func11, Try.ntmps11
  go_wp2_with (with_reducible refine wpList_copy_splice rfl (.tmp 22) (.tmp 23) 22 22 rfl 5 Try.underlying22 byte_size _ _ _ _ _ _ rfl rfl w.heap.size 0 Z 5 (heap_alloc_new w _) X ?c1 ?c2 ?c3 hX1'.out w.heap.size w ((Below.refl _ _).alloc (Nat.le_refl _) _) (Nat.le_refl _) ?_)
  case c1 => rw [hXN.out]; exact (Nat.min_self n).symm
  case c2 =>
    intro hp
    obtain ⟨ad, rfl, hc⟩ := hXC.out hp
    refine ⟨ad, rfl, fun j v hj => by
      have h2 := hc j v hj
      rw [World.cell?_alloc_lt _ _ _ (cell_lt h2)]; exact h2⟩
  case c3 => rw [hXN.out, hZN.out]; omega
  intro w2 hg2 hb2
  have hfull := made_full (w' := w2) (g := w.heap.size) (n := n) hLn.out hZR.out hXL.out (by have := HB0.out; simp only [maxLen]; omega) hg2.out
  have hx2 : Rd w2 (some ⟨w.heap.size, 0, none⟩) l := by
    have h := Rd.of_own hfull
    exact h.app_left
  have hgw : w.heap.size < w2.heap.size := (hfull.lt _ rfl).1 |> fun _ => (Array.getElem?_eq_some_iff.1 hg2.out).1
  have HGW := Lib.hid hgw
  have HX2 := Lib.hid hx2
  have HF2 := Lib.hid hfull
  have HB2 := Lib.hid hb2
  have HP := Lib.hid (putWord_any w2 (some ⟨w.heap.size, 0, none⟩) l (n + 16) 7 (by omega) (by omega) (by have := hLn.out; have := HB0.out; omega) hx2)
  rw [hLn.out] at HP
  clear hfull hx2 hg2 hb2 hgw hmk hXL hXN hZN hZR hXC hX1'
  go_wp2_with fail
  refine HP.out.mono ?_
  rintro e w3 ⟨v3, rfl, A3, c3, rfl, ho3, hb3⟩
  have hl3 : (l ++ wd (7 : Int).toNat).length = n + 4 := by rw [List.length_append, hLn.out]; rfl
  rw [hl3] at ho3 ⊢
  have HO3 := Lib.hid ho3
  have HB23 := Lib.hid hb3
  have HV := Lib.hid (putVarint_any w3 (some ⟨w.heap.size, 0, none⟩) l (n + 16) 7 (by omega) (by omega) (by have := hLn.out; have := HB0.out; omega) (HX2.out.below hb3))
  rw [hLn.out] at HV
  clear ho3 hb3 hl3 HP
  go_wp2_with fail
  refine HV.out.mono ?_
  rintro e w4 ⟨v4, rfl, A4, c4, rfl, ho4, hb4⟩
  have hl4 : (l ++ vi (7 : Int).toNat).length = n + 1 := by rw [List.length_append, hLn.out]; rfl
  rw [hl4] at ho4 ⊢
  have HO4 := Lib.hid ho4
  have HB34 := Lib.hid hb4
  have HN := Lib.hid (new_d w4 (some ⟨w.heap.size, 0, none⟩) l n (n + 16) hLn.out (by have := hLn.out; have := HB0.out; omega) ((HX2.out.below HB23.out).below hb4))
  clear ho4 hb4 hl4 HV
  go_wp2_with fail
  refine HN.out.mono ?_
  rintro e w5 ⟨c, A5, cap5, rfl, hcw, hA5, hcur, hb5⟩
  have HK : Hid (Kept w.heap.size (l ++ wd (7 : Int).toNat) (l ++ vi (7 : Int).toNat) l A3 A4 c A5 cap5 w5) := by
    have s2 := HGW.out
    have s3 := HB23.out.size
    have s4 := HB34.out.size
    have r3 : Rd w3 A3 (l ++ wd (7 : Int).toNat) := Rd.of_own HO3.out
    have r4 : Rd w4 A4 (l ++ vi (7 : Int).toNat) := Rd.of_own HO4.out
    exact Lib.hid ⟨(r3.below HB34.out).below hb5, r4.below hb5, own_gt HO3.out (by omega), own_gt HO4.out (by omega), by omega, fun ad h => by have := hA5 ad h; omega, hcur⟩
  have HF5 := Lib.hid (own_below (own_below (own_below HF2.out HB23.out) HB34.out) hb5)
  have HB5 := Lib.hid (below_on (below_on (below_on HB2.out (Nat.le_refl _) HB23.out) (Nat.le_refl _) HB34.out) (Nat.le_refl _) hb5)
  clear hcw hA5 hcur hb5 HN HF2 HX2 HO3 HO4 HB23 HB34 HB2 HGW
  go_wp2_with fail
  go_loopw [8] (fun i wr => ∃ (j : Nat) (L : List UInt8), j ≤ n ∧ i = .int .i64 (j : Int) ∧ Hid (L.length = n + 16) ∧ Hid (∀ t, t < 16 → L[n + t]? = some 0) ∧ Hid (wr.ownsRow w.heap.size 5 1 (.slice (some ⟨w.heap.size, 0, none⟩) (n + 16) (n + 16)) (n + 16) (L.map byt)) ∧ Hid (Kept w.heap.size (l ++ wd (7 : Int).toNat) (l ++ vi (7 : Int).toNat) l A3 A4 c A5 cap5 wr) ∧ Hid (Below w.heap.size w wr)) (fun i _ => n - (intOf i).toNat)
  case atStart =>
    refine ⟨0, l ++ List.replicate 16 0, by omega, rfl, Lib.hid (by rw [List.length_append, hLn.out]; simp), Lib.hid (fun t ht => ?_), HF5, HK, HB5⟩
    rw [List.getElem?_append_right (by have := hLn.out; omega), show n + t - l.length = t by have := hLn.out; omega, List.getElem?_replicate, if_pos ht]
  case round =>
    obtain ⟨j, L, hj, rfl, hLl, hLz, hox, hkx, hbx⟩ := hrel
    by_cases hlt : j < n
    · obtain ⟨b, hb⟩ : ∃ b, L[j]? = some b := ⟨_, List.getElem?_eq_getElem (by rw [hLl.out]; omega)⟩
      have hcell : wr.cell? ⟨w.heap.size, j, none⟩ = some (byt b) := by rw [hox.out.cellAt j (by omega), List.getElem?_map, hb]; rfl
      have hfz : wr.frozen? ⟨w.heap.size, j, none⟩ = false := hox.out.frozenAt j
      obtain ⟨nb, hnb⟩ := byt_one b
      have HNB := Lib.hid hnb
      have hst := hox.out.stored j (byt nb)
      have HST : Hid ((wr.setCell ⟨w.heap.size, j, none⟩ (byt nb)).ownsRow w.heap.size 5 1 (.slice (some ⟨w.heap.size, 0, none⟩) (n + 16) (n + 16)) (n + 16) ((L.set j nb).map byt)) := by
        refine Lib.hid ?_
        rw [List.map_set]; exact hst.1
      have HGE := Lib.hid (hbx.out.setCell (p := ⟨w.heap.size, j, none⟩) (Nat.le_refl _) (byt nb))
      have HKE := Lib.hid (hkx.out.set j (byt nb))
      have hbl := b.toNat_lt
      clear hb hnb hst
      go_wp2_with fail
      rw [← HNB.out]
      refine ⟨⟨j + 1, L.set j nb, by omega, by simp, ?_, Lib.hid (fun t ht => ?_), HST, HKE, HGE⟩, by simp [intOf]; omega⟩
      · exact Lib.hid (by rw [List.length_set]; exact hLl.out)
      · rw [List.getElem?_set_ne (by omega)]; exact hLz.out t ht
    · have hje : j = n := by omega
      subst hje
      obtain ⟨wo, hwo⟩ : ∃ wo : World, wo = wr := ⟨_, rfl⟩
      subst hwo
      have hsp : ∀ t : Nat, t < 16 → wo.cell? ⟨w.heap.size, j + t, none⟩ = some (.int .u8 0) := by
        intro t ht
        rw [hox.out.cellAt (j + t) (by omega), List.getElem?_map, hLz.out t ht]; rfl
      have HSP := Lib.hid hsp
      clear hsp
      go_wp2_with fail
      go_loopw [73] (fun i wr => ∃ t : Nat, t ≤ 16 ∧ i = .int .i64 (t : Int) ∧ wo = wr) (fun i _ => 16 - (intOf i).toNat)
      case atStart => exact ⟨0, by omega, rfl, rfl⟩
      case round =>
        obtain ⟨t, ht, rfl, hw⟩ := hrel
        subst hw
        by_cases htl : t < 16
        · have hcell := HSP.out t htl
          go_wp2_with fail
          exact ⟨⟨t + 1, by omega, by simp, by trivial⟩, by simp [intOf]; omega⟩
        · have hte : t = 16 := by omega
          subst hte
          have RS := Lib.hid (rest_any hkx.out.cur (by have := hLn.out; have := HB0.out; omega))
          rw [List.drop_zero] at RS
          clear htl ht hlt hj HSP
          go_wp2_with fail
          refine RS.out.mono ?_
          rintro e w6 ⟨v6, rfl, A6, c6, rfl, ho6, hb6⟩
          rw [hLn.out] at ho6 ⊢
          have HO6 := Lib.hid ho6
          have HB6 := Lib.hid hb6
          clear ho6 hb6 RS
          go_wp2_with fail
          go_loopw [12] (fun i wr => ∃ (k : Nat) (x : List UInt8), k ≤ j ∧ i = .int .i64 (k : Int) ∧ Hid (x.length = j) ∧ Hid (wr.ownsRow wo.heap.size 5 1 (.slice A6 j c6) j (x.map byt)) ∧ Hid (Below wo.heap.size wo wr)) (fun i _ => j - (intOf i).toNat)
          case atStart => exact ⟨0, l, by omega, rfl, hLn, HO6, HB6⟩
          case round =>
            obtain ⟨k, x, hk, rfl, hxn, hoy, hby⟩ := hrel
            by_cases hlk : k < j
            · have hg : ∃ g, A6 = some ⟨g, 0, none⟩ := by
                rcases hoy.out.2 with ⟨h, hh⟩ | ⟨g, _, _, h, _⟩
                · omega
                · injection h with h; exact ⟨g, h⟩
              obtain ⟨g, rfl⟩ := hg
              obtain ⟨b, hb⟩ : ∃ b, x[k]? = some b := ⟨_, List.getElem?_eq_getElem (by rw [hxn.out]; exact hlk)⟩
              have hcell : wr.cell? ⟨g, k, none⟩ = some (byt b) := by rw [hoy.out.cellAt k (by omega), List.getElem?_map, hb]; rfl
              have hfz : wr.frozen? ⟨g, k, none⟩ = false := hoy.out.frozenAt k
              obtain ⟨nb, hnb⟩ := byt_nine b
              have HNB := Lib.hid hnb
              have hst := hoy.out.stored k (byt nb)
              have HST : Hid ((wr.setCell ⟨g, k, none⟩ (byt nb)).ownsRow wo.heap.size 5 1 (.slice (some ⟨g, 0, none⟩) j c6) j ((x.set k nb).map byt)) := by
                refine Lib.hid ?_
                rw [List.map_set]; exact hst.1
              have HGE := Lib.hid (hby.out.setCell (p := ⟨g, k, none⟩) (hoy.out.lt g rfl).1 (byt nb))
              have hbl := b.toNat_lt
              clear hb hnb hst
              go_wp2_with fail
              rw [← HNB.out]
              refine ⟨⟨k + 1, x.set k nb, by omega, by simp, ?_, HST, HGE⟩, by simp [intOf]; omega⟩
              exact Lib.hid (by rw [List.length_set]; exact hxn.out)
            · have hke : k = j := by omega
              subst hke
              have HK7 := Lib.hid (hkx.out.below hby.out)
              have HB7 := Lib.hid (below_on hbx.out (Nat.le_refl _) hby.out)
              have BY := Lib.hid (bytes_any HK7.out.cur (by have := hLn.out; have := HB0.out; omega) (k : Int))
              have HCUT : Hid (cutE (k : Int) (l.length - 0) = 0) := Lib.hid (cutE_ok (by omega) (by have := hLn.out; omega))
              have HTK : Hid ((l.drop 0).take (k : Int).toNat = l) := Lib.hid (by rw [List.drop_zero, Int.toNat_natCast, List.take_of_length_le (by have := hLn.out; omega)])
              have HGC := Lib.hid HK7.out.gc
              clear hlk hk hox hbx hkx hxn hoy hby HO6 HB6
              go_wp2_with fail
              refine BY.out.mono ?_
              rintro e w8 ⟨v8, rfl, _, hg8, _, hok8⟩
              obtain ⟨A8, c8, rfl, ho8⟩ := hok8 HCUT.out
              rw [HTK.out] at ho8 ⊢
              rw [HCUT.out]
              rw [hLn.out] at ho8 ⊢
              have HRP := Lib.hid (HK7.out.p.grown_cur HK7.out.cur.blk hg8)
              have HRQ := Lib.hid (HK7.out.q.grown_cur HK7.out.cur.blk hg8)
              have HB8 := Lib.hid (HB7.out.grown hg8 HB7.out.size (fun i ei => by cases ei; exact Nat.le_of_lt HGC.out))
              have HRY : Hid (Rd w8 A8 l) := Lib.hid (Rd.of_own ho8)
              have HRB := Lib.hid (HR.out.below HB8.out)
              clear ho8 hg8 hok8 BY HCUT HTK HK7 HB7 HGC
              go_wp2_with fail
              go_loopw [15] (fun i wr => ∃ m : Nat, m ≤ k ∧ i = .int .i64 (m : Int) ∧ Hid (Rd wr A3 (l ++ wd (7 : Int).toNat)) ∧ Hid (Rd wr A4 (l ++ vi (7 : Int).toNat)) ∧ Hid (Rd wr A8 l) ∧ Hid (Rd wr A l) ∧ Hid (Below w.heap.size w wr)) (fun i _ => k - (intOf i).toNat)
              case atStart => exact ⟨0, by omega, rfl, HRP, HRQ, HRY, HRB, HB8⟩
              case round =>
                obtain ⟨m, hm, rfl, hrp, hrq, hry, hrb, hbm⟩ := hrel
                by_cases hmk : m < k
                · have hml : m < l.length := by have := hLn.out; omega
                  obtain ⟨b, hb⟩ : ∃ b, l[m]? = some b := ⟨_, List.getElem?_eq_getElem hml⟩
                  obtain ⟨a3, ha3, g3⟩ := hrp.out m b (by rw [List.getElem?_append_left hml]; exact hb)
                  obtain ⟨a4, ha4, g4⟩ := hrq.out m b (by rw [List.getElem?_append_left hml]; exact hb)
                  obtain ⟨a0, ha0, g0⟩ := hrb.out m b hb
                  subst ha3 ha4 ha0
                  have hbl := b.toNat_lt
                  have i1 : (m : Int) < (k : Int) := by omega
                  have i2 : (m : Int) < (k : Int) + 4 := by omega
                  have i3 : (m : Int) < (k : Int) + 1 := by omega
                  clear hb hml
                  go_wp2_with fail
                  go_quiet (fail)
                  go_wp2
                  exact ⟨⟨m + 1, by omega, by simp, hrp, hrq, hry, hrb, Lib.hid (below_drewN' hbm.out _)⟩, by simp [intOf]; omega⟩
                · have hme : m = k := by omega
                  subst hme
                  clear hmk hm
                  go_wp2_with fail
                  refine (same_n _ _ _ l l _ _ hLn.out hLn.out _ _ hry.out hrb.out rfl).mono ?_
                  rintro e w9 ⟨rfl, rfl⟩
                  go_wp2_with fail
                  refine (known_any _).mono ?_
                  rintro e w10 ⟨rfl, hb10⟩
                  have HB10 := Lib.hid (below_on hbm.out (Nat.le_refl _) hb10)
                  clear hb10
                  go_wp2
                  go_ret
                  exact ⟨rfl, HB10.out⟩

set_option maxRecDepth 100000 in
theorem lifted (os : Os) (started : os.Started) (H : Type) (enc : TypeId × Value → H) :
    ReturnsInHanded {} Try.checked os 11 .any (Rows.numOwnSpec.pre6 enc Try.prog Try.f11 Rows.numOwnRow.domain false) (Rows.numOwnSpec.post enc Try.prog Try.f11 false true false false) := by
  refine returnsInHanded_of_change_sized (C := Try.checked) ownB started (by kernel_rfl) Try.func11
    (ChangeSpec.witness6 (enc := enc) (C := Try.checked) false ⟨#[], #[.slice none 0 0], []⟩ 8 (by kernel_rfl) (by kernel_rfl) (by kernel_rfl) (by kernel_rfl)) ?_
  intro W base args ds gs before hval0 hW _ hsz0 _
  have hsz : (DataW.weightsEach Try.prog (Try.f11.params.toList ++ Rows.numOwnSpec.plain.varTypes Try.prog) (ds ++ gs)).all (· ≤ reachBytes) = true := hsz0
  clear hsz0
  have hval : ∀ (j : Nat) t v, Try.f11.params[j]? = some t → args[j]? = some v → Value.okWide Try.prog W .any base t v := hval0
  have hW' := hW
  obtain ⟨p, q, hA0, hV, rfl, hfz, hnd⟩ := hW
  have hA : DataW.TrodAll enc Try.prog W 0 (fun _ => true) true Try.f11.params.toList args.toList ds p := hA0
  rw [Try.params11] at hA hval hsz
  obtain ⟨v0, vs0, d0, ds0, p0, q0, hargs, rfl, rfl, h0, r0⟩ := trodAll_cons hA
  obtain ⟨rfl, rfl, rfl⟩ := trodAll_nil r0
  obtain rfl : args = #[v0] := by cases args; simp_all
  obtain ⟨rfl, rfl⟩ := trodVars_none hV
  obtain ⟨a0, len0, cap0, rfl⟩ := okWide_slice Try.underlying22 (hval 0 22 v0 rfl rfl)
  have k0 := h0
  have lt0 : ∀ x ∈ p0, x.block < W.heap.size := by obtain ⟨m, hm⟩ := k0; exact DataW.trod_lt m _ _ _ hm
  obtain ⟨l0, rfl, hc0, rd0, hd0⟩ := open_bytes h0
  have hs0 : l0.length ≤ 140737488351232 := by
    rcases hd0 with ⟨h, _⟩ | ⟨es, sp, rfl, h⟩
    · omega
    · have := sized_slice hsz (j := 0) (t := 22) (e := 5) rfl rfl Try.underlying22
      rw [bytes_byte] at this
      simp only [reachBytes] at this
      omega
  clear hA0 hval0
  refine (walk a0 l0 cap0 W rd0 hs0 hc0).mono fun e W' ⟨he, bel⟩ => ?_
  subst he
  exact ⟨_, rfl, _, _, _, [], _, [], hW', trodAll_mk1 (shut_bool Try.underlying4 _), (trodAll_cons_mk (Below.trod laidOut (by kernel_rfl) (of_decide_eq_true (by kernel_rfl)) k0 bel lt0) trodAll_mk0), rfl, bel.frame _, fun h => by cases h⟩

theorem proved : Rows.NumOwnSaid :=
  OpenClaim.holds_of_wide 11 Try.f11 rfl rfl rfl rfl rfl rfl rfl ⟨rfl, rfl, rfl, rfl, rfl⟩ rfl rfl rfl rfl rfl (by kernel_rfl) Try.func11 (by kernel_rfl)
    (of_decide_eq_true (by kernel_rfl)) (by unfold Func.isWrapper; rw [if_neg (by decide +kernel)]; exact ⟨rfl, rfl⟩)
    (fun os started H enc _ => lifted os started H enc)

#print axioms proved

end Go.Proofs.Ytpelndjfamdjlaa.numOwn
