/-
  Proved: the law NumBack (the theorem of stage 1) returns true: a word, a varint and a block of bytes that were encoded one after the other are decoded to the same values, and the cursor then stands directly after them. Condition (of the given statement): the arguments together hold at most 1048576 values.
-/
import Derived.Test.YtpelndjfamdjlaaAid
import Derived.Test.YtpelndjfamdjlaaVi3
import Derived.Test.YtpelndjfamdjlaaMRst
import Derived.Test.YtpelndjfamdjlaaFrm
import Derived.JoinedCond
namespace Go.Proofs.Ytpelndjfamdjlaa.numBack
open Go.ChangeShapes Go.WideShapes Go.ChangeAt Go.RowKit

theorem wv_wd (q : Nat) (h : q < 4294967296) : wv (wd q) = q := by
  simp only [wd, wv]
  have b (n : Nat) : (UInt8.ofNat (n % 256)).toNat = n % 256 := by rw [UInt8.toNat_ofNat', Nat.mod_eq_of_lt (by omega)]
  rw [b, b, b, b]
  omega

theorem own_n (w : World) (A : Option Addr) (l : List UInt8) (n c : Nat) (hn : l.length = n) (hs : n ≤ 140737488355000) (h : Rd w A l) :
    Calls Try.prog 15 #[.slice A n c] w (Got w l) := by
  subst hn
  exact own_any w A l c hs h

set_option maxRecDepth 100000 in
set_option maxHeartbeats 4000000 in
theorem walk (q n : Int) (A : Option Addr) (l : List UInt8) (cap : Nat) (B : Option Addr) (m : List UInt8) (capB : Nat) (w : World) (wq : (Lit.int .u32 q).wf = true) (wn : (Lit.int .u64 n).wf = true)
    (hA : Rd w A l) (hl : l.length ≤ 1000000000) (hB : Rd w B m) (hm : m.length ≤ 1000000000) :
    Calls Try.prog 4 #[.int .u32 q, .int .u64 n, .slice A l.length cap, .slice B m.length capB] w fun e w' => e = .returned (.bool true) ∧ Below w.heap.size w w' := by
  have hq := bounds_u32 wq
  have hn := bounds_u64 wn
  clear wq wn
  by_cases hbig : 4611686018427387903 < n
  · have hd : decide ((4611686018427387903 : Int) < n) = true := by simp; omega
    clear hA hB hq hn
    go_enter Try.func4, Try.ntmps4
    go_wp2_with fail
    refine (known_any _).mono ?_
    rintro e w8 ⟨rfl, hb8⟩
    have HB8 := Lib.hid hb8
    clear hb8
    go_wp2
    go_ret
    exact ⟨rfl, HB8.out⟩
  · have hd : decide ((4611686018427387903 : Int) < n) = false := by simp; omega
    have PW := Lib.hid (putWord_any w none [] 0 q hq.1 (by omega) (by simp) (Rd.nil _ _))
    have PV := Lib.hid (fun W A c (h : Rd W A (wd q.toNat)) => putVarint_any W A (wd q.toNat) c n hn.1 (by omega) (by simp [wd_len]) h)
    have hX4 := wd_len q.toNat
    have hwv := wv_wd q.toNat (by omega)
    have hgv := gv_vi n.toNat (by omega)
    have hV10 := vi_len n.toNat
    have hqn : ((q.toNat : Nat) : Int) = q := by omega
    have hnn : ((n.toNat : Nat) : Int) = n := by omega
    rw [List.nil_append] at PW
    obtain ⟨X, hX⟩ : ∃ X, wd q.toNat = X := ⟨_, rfl⟩
    obtain ⟨V, hV⟩ : ∃ V, vi n.toNat = V := ⟨_, rfl⟩
    rw [hX] at PW PV hX4 hwv
    rw [hV] at PV hgv hV10
    have HX4 := Lib.hid hX4
    have HWV := Lib.hid hwv
    have HGV := Lib.hid hgv
    have HQN := Lib.hid hqn
    have HNN := Lib.hid hnn
    have RA := Lib.hid hA
    have RB := Lib.hid hB
    have lx : X.length ≤ 4 := by omega
    clear hX hV hX4 hwv hgv hqn hnn hA hB hq hn hbig
    go_enter Try.func4, Try.ntmps4
    go_wp2_with fail
    refine PW.out.mono ?_
    rintro e w1 ⟨v1, rfl, A1, c1, rfl, ho1, hb1⟩
    have HB1 := Lib.hid hb1
    have HR1 := Lib.hid (Rd.of_own ho1)
    clear hb1 ho1
    go_wp2_with fail
    refine (PV.out _ _ _ HR1.out).mono ?_
    rintro e w2 ⟨v2, rfl, A2, c2, rfl, ho2, hb2⟩
    have HB2 := Lib.hid (below_on HB1.out (Nat.le_refl _) hb2)
    have ho2' := own_mono ho2 HB1.out.size
    clear hb2 ho2 HB1 HR1
    have hx2 : X.length + V.length + l.length ≤ 140737488355328 := by omega
    have ho3 : w2.ownsRow w.heap.size 5 1 (.slice A2 (X.length + V.length) c2) (X.length + V.length) ((X ++ V).map byt) := by
      have := ho2'
      rw [List.length_append] at this
      exact this
    clear ho2'
    have RA2 := Lib.hid (RA.out.below HB2.out)
    go_wp2_with (at_builtin; refine wpList_append_bytesW rfl _ _ rfl _ _ _ _ rfl ho3 A l _ cap rfl rfl RA2.out hx2 HB2.out.size ?_; intro v3 w3 ho4 hg3; obtain ⟨A3, c3, rfl⟩ := own_form ho4)
    have HB3 := Lib.hid (HB2.out.grown hg3 HB2.out.size (fun j ej => (ho3.lt j ej).1))
    have hr3 : Rd w3 A3 (X ++ V ++ l) := rd_app ho4
    obtain ⟨N, hN⟩ : ∃ N, X.length + V.length + l.length = N := ⟨_, rfl⟩
    have hN9 : N ≤ 2000000000 := by omega
    rw [hN]
    obtain ⟨L, hL⟩ : ∃ L, X ++ V ++ l = L := ⟨_, rfl⟩
    have hLN : L.length = N := by rw [← hL, ← hN]; simp; omega
    rw [hL] at hr3
    have HN := Lib.hid hN
    have HL := Lib.hid hL
    have HLN := Lib.hid hLN
    have HR3 := Lib.hid hr3
    have OW := Lib.hid (own_n w3 A3 L N c3 HLN.out (by omega) HR3.out)
    clear hN hL hLN hr3 ho3 ho4 hg3 hx2 RA2 HB2
    refine OW.out.mono ?_
    rintro e w4 ⟨v4, rfl, A4, c4, rfl, ho4, hb4⟩
    rw [HLN.out] at ho4 ⊢
    have HB4 := Lib.hid (below_on HB3.out (Nat.le_refl _) hb4)
    have ho4' := own_mono ho4 HB3.out.size
    have RB4 := Lib.hid (RB.out.below HB4.out)
    have hx4 : N + m.length ≤ 140737488355328 := by omega
    clear ho4 hb4 HB3 OW
    go_wp2_with (at_builtin; refine wpList_append_bytesW rfl _ _ rfl _ _ _ _ rfl ho4' B m _ capB rfl rfl RB4.out hx4 HB4.out.size ?_; intro v5 w5 ho5 hg5; obtain ⟨A5, c5, rfl⟩ := own_form ho5)
    have HB5 := Lib.hid (HB4.out.grown hg5 HB4.out.size (fun j ej => (ho4'.lt j ej).1))
    have hr5 : Rd w5 A5 (L ++ m) := rd_app ho5
    have NW := Lib.hid (new_n w5 A5 (L ++ m) (N + m.length) c5 (by rw [List.length_append, HLN.out]) (by omega) hr5)
    clear ho4' ho5 hg5 hr5 hx4 RB4 HB4
    refine NW.out.mono ?_
    rintro e w6 ⟨c, A6, cap6, rfl, hcw, hcur, hb6⟩
    have HB6 := Lib.hid (below_on HB5.out (Nat.le_refl _) hb6)
    have HCW := Lib.hid (Nat.le_trans HB5.out.size hcw)
    have HV := Lib.hid (word_any hcur)
    have hw4 : wordB (List.drop 0 (L ++ m)) = (q.toNat, 0) := by
      rw [List.drop_zero, wordB, if_neg (by rw [List.length_append, HLN.out, ← HN.out, HX4.out]; omega)]
      rw [← HL.out, show X ++ V ++ l ++ m = X ++ (V ++ l ++ m) by simp, List.take_left' HX4.out, HWV.out]
    rw [hw4] at HV
    clear hcw hcur hb6 HB5 NW hw4
    go_wp2_with fail
    refine HV.out.mono ?_
    rintro e w7 ⟨rfl, hc7, hg7⟩
    rw [if_pos (show ((0 : Nat) : Int) = 0 from rfl), Nat.zero_add] at hc7
    simp only [HQN.out]
    have HB7 := Lib.hid (HB6.out.grown hg7 HB6.out.size (fun j ej => by cases ej; exact HCW.out))
    have HV7 := Lib.hid (varint_any hc7)
    have hg4 : gv (List.drop 4 (L ++ m)) = ⟨n.toNat, 0, V.length⟩ := by
      rw [← HL.out, show X ++ V ++ l ++ m = X ++ (V ++ (l ++ m)) by simp, List.drop_left' HX4.out, HGV.out]
    rw [hg4] at HV7
    clear hc7 hg7 HB6 HV hg4
    go_wp2_with fail
    refine HV7.out.mono ?_
    rintro e w8 ⟨rfl, hc8, hg8⟩
    rw [if_pos (show ((0 : Nat) : Int) = 0 from rfl)] at hc8
    simp only [HNN.out]
    have HB8 := Lib.hid (HB7.out.grown hg8 HB7.out.size (fun j ej => by cases ej; exact HCW.out))
    have hs8 : (L ++ m).length ≤ 281474976710000 := by rw [List.length_append, HLN.out]; omega
    have hln8 : (L ++ m).length - (4 + V.length) = l.length + m.length := by rw [List.length_append, HLN.out, ← HN.out, HX4.out]; omega
    have hcut : cutE (l.length : Int) ((L ++ m).length - (4 + V.length)) = 0 := by rw [hln8]; exact cutE_ok (by omega) (by omega)
    have htk : ((L ++ m).drop (4 + V.length)).take (l.length : Int).toNat = l := by
      rw [← HL.out, show X ++ V ++ l ++ m = (X ++ V) ++ (l ++ m) by simp, List.drop_left' (by simp [HX4.out]), Int.toNat_natCast, List.take_left' rfl]
    have HY := Lib.hid (bytes_any hc8 hs8 (l.length : Int))
    have HCUT := Lib.hid hcut
    have HTK := Lib.hid htk
    have HS8 := Lib.hid hs8
    clear hc8 hg8 HB7 HV7 hs8 hln8 hcut htk
    go_wp2_with fail
    refine HY.out.mono ?_
    rintro e w9 ⟨v9, rfl, hc9, hg9, _, hok9⟩
    rw [HCUT.out] at hc9 hok9 ⊢
    obtain ⟨A9, c9, rfl, ho9⟩ := hok9 rfl
    rw [if_pos rfl, Int.toNat_natCast] at hc9
    rw [HTK.out] at ho9 ⊢
    have hkN : 4 + V.length + l.length = N := by rw [← HN.out, HX4.out]
    rw [hkN] at hc9
    have HB9 := Lib.hid (HB8.out.grown hg9 HB8.out.size (fun j ej => by cases ej; exact HCW.out))
    have HR9 := Lib.hid (Rd.of_own ho9)
    have HC9 := Lib.hid hc9
    clear hc9 hg9 hok9 ho9 hkN HB8 HY HCUT HTK
    go_wp2_with fail
    refine (same_n _ _ _ l l _ _ rfl rfl _ _ HR9.out (RA.out.below HB9.out) rfl).mono ?_
    rintro e w10 ⟨rfl, rfl⟩
    go_wp2_with fail
    refine (at_any HC9.out.blk).mono ?_
    rintro e w10 ⟨rfl, rfl⟩
    go_wp2_with fail
    have hlf := left_any HC9.out.blk HC9.out.le HC9.out.small
    rw [show (((L ++ m).length : Nat) : Int) - (N : Int) = (m.length : Int) by rw [List.length_append, HLN.out]; omega] at hlf
    refine hlf.mono ?_
    clear hlf
    rintro e w10 ⟨rfl, d, rfl⟩
    go_wp2_with fail
    have hdr : (L ++ m).drop N = m := List.drop_left' HLN.out
    have hrs := rest_any (HC9.out.drewN d) HS8.out
    rw [hdr] at hrs
    refine hrs.mono ?_
    clear hrs hdr
    rintro e w10 ⟨v10, rfl, A10, c10, rfl, ho10, hb10⟩
    have HB10 := Lib.hid (below_on (below_drewN' HB9.out d) (Nat.le_refl _) hb10)
    have HR10 := Lib.hid (Rd.of_own ho10)
    have HC10 := Lib.hid ((HC9.out.drewN d).below hb10)
    clear ho10 hb10 HB9 HC9 HR9
    go_wp2_with fail
    refine (same_n _ _ _ m m _ _ rfl rfl _ _ HR10.out (RB.out.below HB10.out) rfl).mono ?_
    rintro e w11 ⟨rfl, rfl⟩
    have HEN := Lib.hid (end_any HC10.out)
    rw [List.length_append, HLN.out] at HEN
    by_cases hm0 : 0 < m.length
    · have z1 : ((m.length : Int) == 0) = false := by rw [beq_eq_false_iff_ne]; omega
      rw [if_pos (by omega)] at HEN
      go_wp2_with fail
      refine HEN.out.mono ?_
      rintro e w11 ⟨rfl, d2, rfl⟩
      go_wp2_with fail
      refine (known_any _).mono ?_
      rintro e w12 ⟨rfl, hb12⟩
      have HB12 := Lib.hid (below_on (below_drewN' HB10.out d2) (Nat.le_refl _) hb12)
      clear hb12 HB10
      go_wp2
      go_ret
      exact ⟨rfl, HB12.out⟩
    · have z1 : ((m.length : Int) == 0) = true := by rw [beq_iff_eq]; omega
      rw [if_neg (by omega)] at HEN
      go_wp2_with fail
      refine HEN.out.mono ?_
      rintro e w11 ⟨rfl, d2, rfl⟩
      go_wp2_with fail
      refine (known_any _).mono ?_
      rintro e w12 ⟨rfl, hb12⟩
      have HB12 := Lib.hid (below_on (below_drewN' HB10.out d2) (Nat.le_refl _) hb12)
      clear hb12 HB10
      go_wp2
      go_ret
      exact ⟨rfl, HB12.out⟩

/-- So many values are counted at the least. -/
theorem count_le {H : Type} (l : List (DataW H)) : l.length ≤ Rows.uptoBulkAll l := by
  induction l with
  | nil => exact Nat.zero_le _
  | cons d l ih =>
    have h1 : 1 ≤ Rows.uptoBulk d := by
      cases d with
      | lit x => cases x <;> simp [Rows.uptoBulk]
      | nil => simp [Rows.uptoBulk]
      | ptr _ => simp [Rows.uptoBulk]
      | slice _ _ => simp [Rows.uptoBulk]
      | agg _ => simp [Rows.uptoBulk]
      | iface _ _ => simp [Rows.uptoBulk]
      | map _ => simp [Rows.uptoBulk]
      | held _ => simp [Rows.uptoBulk]
    simp only [Rows.uptoBulkAll, List.length_cons]
    omega

theorem count_slice {H : Type} (es sp : List (DataW H)) : es.length + sp.length ≤ Rows.uptoBulk (.slice es sp) := by
  have h1 := count_le es
  have h2 := count_le sp
  simp only [Rows.uptoBulk]
  omega

theorem contract (H : Type) (enc : TypeId × Value → H) (W : World) (base : Nat) (args : Array Value) (ds gs : List (DataW H)) (before : List MemPlace)
    (hval : ∀ (j : Nat) t v, Try.f4.params[j]? = some t → args[j]? = some v → Value.okWide Try.prog W .any base t v)
    (hW : DataW.Whole enc Try.prog Try.f4.params.toList Rows.numBackSpec.vars false W args.toList ds gs before) (hk : Rows.uptoSmall H (ds ++ gs) = true) :
    Calls Try.prog 4 args W fun e W' => ∃ v, e = .returned v ∧ Rows.numBackSpec.post enc Try.prog Try.f4 false true false false W args v W' := by
  have hW' := hW
  obtain ⟨p, q, hA0, hV, rfl, hfz, hnd⟩ := hW
  have hA : DataW.TrodAll enc Try.prog W 0 (fun _ => true) true Try.f4.params.toList args.toList ds p := hA0
  rw [Try.params4] at hA hval
  obtain ⟨v0, vs0, d0, ds0, p0, q0, hargs, rfl, rfl, h0, r0⟩ := trodAll_cons hA
  obtain ⟨v1, vs1, d1, ds1, p1, q1, rfl, rfl, rfl, h1, r1⟩ := trodAll_cons r0
  obtain ⟨v2, vs2, d2, ds2, p2, q2, rfl, rfl, rfl, h2, r2⟩ := trodAll_cons r1
  obtain ⟨v3, vs3, d3, ds3, p3, q3, rfl, rfl, rfl, h3, r3⟩ := trodAll_cons r2
  obtain ⟨rfl, rfl, rfl⟩ := trodAll_nil r3
  obtain rfl : args = #[v0, v1, v2, v3] := by cases args; simp_all
  obtain ⟨rfl, rfl⟩ := trodVars_none hV
  have hk2 : Rows.uptoBulkAll ([d0, d1, d2, d3] ++ []) ≤ 1048576 := of_decide_eq_true hk
  simp only [List.append_nil, Rows.uptoBulkAll] at hk2
  obtain ⟨a0, rfl, rfl, rfl, w0⟩ := open_int Try.underlying23 (hval 0 23 v0 rfl rfl) h0
  obtain ⟨a1, rfl, rfl, rfl, w1⟩ := open_int Try.underlying24 (hval 1 24 v1 rfl rfl) h1
  obtain ⟨a2, len2, cap2, rfl⟩ := okWide_slice Try.underlying22 (hval 2 22 v2 rfl rfl)
  have k2 := h2
  have lt2 : ∀ x ∈ p2, x.block < W.heap.size := by obtain ⟨m, hm⟩ := k2; exact DataW.trod_lt m _ _ _ hm
  obtain ⟨l2, rfl, hc2, rd2, hd2⟩ := open_bytes h2
  have hs2 : l2.length ≤ 1000000000 := by
    rcases hd2 with ⟨h, _⟩ | ⟨es, sp, rfl, h⟩
    · omega
    · have := count_slice es sp; omega
  obtain ⟨a3, len3, cap3, rfl⟩ := okWide_slice Try.underlying22 (hval 3 22 v3 rfl rfl)
  have k3 := h3
  have lt3 : ∀ x ∈ p3, x.block < W.heap.size := by obtain ⟨m, hm⟩ := k3; exact DataW.trod_lt m _ _ _ hm
  obtain ⟨l3, rfl, hc3, rd3, hd3⟩ := open_bytes h3
  have hs3 : l3.length ≤ 1000000000 := by
    rcases hd3 with ⟨h, _⟩ | ⟨es, sp, rfl, h⟩
    · omega
    · have := count_slice es sp; omega
  clear hA0
  refine (walk a0 a1 a2 l2 cap2 a3 l3 cap3 W w0 w1 rd2 hs2 rd3 hs3).mono fun e W' ⟨he, bel⟩ => ?_
  subst he
  exact ⟨_, rfl, _, _, _, [], _, [], hW', trodAll_mk1 (shut_bool Try.underlying4 _), (trodAll_cons_mk (shut_int Try.underlying23 w0) (trodAll_cons_mk (shut_int Try.underlying24 w1) (trodAll_cons_mk (Below.trod laidOut (by kernel_rfl) (of_decide_eq_true (by kernel_rfl)) k2 bel lt2) (trodAll_cons_mk (Below.trod laidOut (by kernel_rfl) (of_decide_eq_true (by kernel_rfl)) k3 bel lt3) trodAll_mk0)))), rfl, bel.frame _, fun h => by cases h⟩

set_option maxRecDepth 100000 in
theorem lifted (os : Os) (started : os.Started) (H : Type) (enc : TypeId × Value → H) (F : Stop.Interp) :
    ReturnsInHanded {} Try.checked os 4 .any ((Rows.OpenSpec.upto Rows.numBackSpec).pre6 enc Try.prog Try.f4 Rows.numBackUptoRow.domain false) (((Rows.OpenSpec.upto Rows.numBackSpec).at F).post enc Try.prog Try.f4 false true false false) := by
  refine returnsInHanded_of_cond (C := Try.checked) (s := Rows.OpenSpec.upto Rows.numBackSpec) (k := Rows.uptoSmall) rfl ownB started (by kernel_rfl) Try.func4
    (OpenSpec.witness (enc := enc) (C := Try.checked) (s := Rows.OpenSpec.upto Rows.numBackSpec) (k := Rows.uptoSmall) rfl false ⟨#[], #[.int .u32 0, .int .u64 0, .slice none 0 0, .slice none 0 0], []⟩ 8 (by kernel_rfl) (by kernel_rfl) (by kernel_rfl)
      (x := ([.lit (.int .u32 0), .lit (.int .u64 0), .nil, .nil], [], [])) (by kernel_rfl) rfl (by kernel_rfl)) ?_
  intro W base args ds gs before hval hW _ hk _
  exact contract H enc W base args ds gs before hval hW hk

theorem proved : Rows.NumBackUptoSaid :=
  OpenClaim.holds_of_cond 4 Try.f4 rfl rfl rfl rfl rfl rfl rfl ⟨rfl, rfl, rfl, rfl, rfl⟩ rfl rfl rfl rfl rfl (by kernel_rfl) Try.func4 (by kernel_rfl)
    (of_decide_eq_true (by kernel_rfl)) (by unfold Func.isWrapper; rw [if_neg (by decide +kernel)]; exact ⟨rfl, rfl⟩)
    (fun os started H enc _ F => lifted os started H enc F)

#print axioms proved
end Go.Proofs.Ytpelndjfamdjlaa.numBack
