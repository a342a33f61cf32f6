/-
  What num.PutVarint and num.Size do: the bytes with the varint of n behind them, in new memory; the number of the varint's bytes; an error and 0 where n is above MaxNumber. Nothing that was there has changed. Conditions: n is a uint64; fewer than 2^47 - 300 bytes.
-/
import Derived.Test.YtnbohkiimbooaaaExt
import Derived.Test.YtnbohkiimbooaaaGrp
namespace Go.Proofs.Ytnbohkiimbooaaa
open Go.RowKit Go.Shelf

attribute [local go_sem] Oper.semAt_some

theorem vi_len (n : Nat) : (vi n).length ≤ 10 := viF_len 10 n

theorem groups_stops (F : Fence) (n : Nat) (h52 : F.fn 52) (hro : F.round = none) (hn : 1 ≤ n) (Bn n₀ : Nat) (q : Nat) (hq : q < 18446744073709551616) (w : World) (hBn : Bn < w.heap.size)
    (hc : w.cell? ⟨Bn, 0, none⟩ = some (.int .u64 q)) :
    SeqStopsK F n Try.prog 52 #[.pointer (some ⟨Bn, 0, none⟩)] (fun x : UInt8 => #[byt x]) (Below n₀) (fun ys => ys = vi q) (fun pre => pre <+: vi q) 10 w := fun l J Jx W hW _ _ hY h0 =>
  groups1_in F n h52 hro hn l Bn n₀ q hq J Jx hY W ((hW.cell (p := ⟨Bn, 0, none⟩) hBn).trans hc) h0

/-- A slice in new memory that holds the bytes l. -/
def OwnB (w : World) (l : List UInt8) (v : Value) (w' : World) : Prop :=
  ∃ A c, v = .slice A l.length c ∧ w'.ownsRow w.heap.size 5 1 (.slice A l.length c) l.length (l.map byt) ∧ Below w.heap.size w w'
def Got (w : World) (l : List UInt8) (e : Ending) (w' : World) : Prop := ∃ v, e = .returned v ∧ OwnB w l v w'
def GotE (w : World) (l : List UInt8) (e : Ending) (w' : World) : Prop := ∃ v, e = .returned (.tuple #[v, .int .i64 0]) ∧ OwnB w l v w'

theorem OwnB.mk {w w' : World} {l : List UInt8} {v : Value} (h : w'.ownsRow w.heap.size 5 1 v l.length (l.map byt)) (hb : Below w.heap.size w w') : OwnB w l v w' := by
  have h' := h
  rcases h.2 with ⟨rfl, hn⟩ | ⟨g, c, cur, rfl, _⟩
  · refine ⟨none, 0, by rw [hn], ?_, hb⟩
    rw [hn] at h' ⊢; exact h'
  · exact ⟨_, _, rfl, h', hb⟩

set_option maxRecDepth 100000 in
set_option maxHeartbeats 2000000 in
theorem putVarint_in (n : Nat) (hn : 3 ≤ n) (w : World) (A : Option Addr) (l : List UInt8) (cap : Nat) (q : Nat) (hq : q ≤ 4611686018427387903) (hs : l.length ≤ 140737488355000) (hR : Rd w A l) :
    CallsIn Fence.wide n Try.prog 17 #[.slice A l.length cap, .int .u64 q] w (GotE w (l ++ vi q)) := by
  have h1 : 1 ≤ n := by omega
  have hfw : ∀ f, Fence.wide.fn f := fun _ => trivial
  obtain ⟨i0, hi, hz0, hz1, hz2⟩ := info_parts byte_info
  have hext : CallsIn Fence.wide (n - 1) Try.prog 35 #[.slice A l.length cap, .int .i64 9] w (Made w w.heap.size l (l.length + 9)) :=
    callsIn_wide.2 (extend_any w A l cap 9 (by omega) (by omega) (by omega) hR)
  have HX := Lib.hid hext
  clear hext
  have hd : decide ((4611686018427387903 : Int) < (q : Int)) = false := by simp; omega
  refine callsIn_of_wp_marks Try.func17 rfl trivial ?_ rfl
  simp only [Try.ntmps17, List.size_toArray, List.length_cons, List.length_nil, Nat.reduceAdd, Nat.reduceSub, Array.replicate_succ, Array.replicate_zero, List.push_toArray, List.append_toArray, List.nil_append, List.cons_append]
  gi_wp2_with fail
  refine HX.out.mono ?_
  rintro e w1 ⟨rfl, hrow0, hb0⟩
  gi_wp2_with (gi_at_call 36; refine (groups_in Fence.wide (n - 1) trivial rfl _ _).mono ?_; rintro e w' ⟨rfl, rfl⟩)
  have bO := Boxed.new w1 22 (.slice (some ⟨w.heap.size, 0, none⟩) l.length (l.length + 9))
  have bN := Boxed.new (w1.alloc (.cells #[.slice (some ⟨w.heap.size, 0, none⟩) l.length (l.length + 9)] 22)) 24 (.int .u64 (q : Int))
  rw [World.size_alloc] at bN
  have hsz := hb0.size
  have hB0 : Below w.heap.size w ((w1.alloc (.cells #[.slice (some ⟨w.heap.size, 0, none⟩) l.length (l.length + 9)] 22)).alloc (.cells #[.int .u64 (q : Int)] 24)) := (hb0.alloc hsz _).alloc (by simp; omega) _
  refine wpIn_rangeFunc_ownG rfl h1 (gf := 52) (lb := #[.pointer (some ⟨w1.heap.size + 1, 0, none⟩)]) rfl trivial (enters_of Try.func52 (by kernel_rfl) rfl)
    (groups_stops Fence.wide (n - 1) trivial rfl (by omega) (w1.heap.size + 1) w.heap.size q (by omega) _ (by simp) bN.cell) belowK_t (belowK_b (by simp; omega)) (Below.refl _ _) (fun _ => rfl)
    (fun pre W => (∃ v, Boxed W w1.heap.size 22 v ∧ W.ownsRow w.heap.size 5 1 v (l ++ pre).length ((l ++ pre).map byt) ∧ True) ∧ Below w.heap.size w W)
    (fun _ _ _ => False)
    (OwnFrom.and (Own.from (holdsRow_own w.heap.size w1.heap.size 22 5 1 (fun pre => (l ++ pre).length) (fun pre => (l ++ pre).map byt) (fun _ _ => True)) _) (ownFrom_below (Nat.le_refl _) (by simp; omega)))
    (fun _ _ _ _ _ hs _ _ => hs)
    ⟨⟨_, bO.alloc _, by rw [List.append_nil]; exact (hrow0.alloc _).alloc _, trivial⟩, hB0⟩
    (fun x => { tmps := #[Value.slice A l.length cap, Value.int IntKind.u64 q, undef, undef, Value.slice none 0 0, Value.int IntKind.i64 0, Value.pointer (some ⟨w1.heap.size, 0, none⟩), byt x,
          Value.int IntKind.u64 q, Value.bool false, Value.slice A l.length cap, Value.slice (some ⟨w.heap.size, 0, none⟩) l.length (l.length + 9), Value.int IntKind.u64 q,
          Value.func (Fn.func 52) #[] #[Value.pointer (some ⟨w1.heap.size + 1, 0, none⟩)], byt x, undef, undef, undef, undef, undef], defers := [] }) ?assign ?body ?done ?stop
  case assign =>
    intro l x W K hK
    gi_wp2
    exact hK
  case body =>
    rintro l' pre x W ⟨⟨v, hv, hrow, _⟩, hB⟩ hlt
    have hc := hv.cell
    have hpl : (l ++ pre).length + 1 ≤ 140737488355200 := by simp; omega
    gi_wp2_with (gi_at_builtin; refine wpListIn_append_own _ rfl _ _ 22 rfl w.heap.size 5 i0 (.int .u8 0) 1 1 Try.underlying22 hi hz0 hz1 hz2 rfl (by decide) _ _ _ rfl (hrow.alloc _) ⟨W.heap.size, 0, none⟩ 1 1 [byt x] rfl rfl (cell_one_new _ _ _) (by simp [Value.oneCell']) (by unfold maxLen; omega) (by omega) (by have := hB.size; simp; omega) ?_; intro v' w1 hown' hgrow _; obtain ⟨g', cap', rfl⟩ := ownsRow_succ hown'; obtain ⟨hv1, hv2, hr2, hk2, hb2⟩ := hv.appended (by decide) hrow hB.size hsz hown' hgrow; have hc1 := hv1.cell; have hf1 := hv1.frozen)
    rw [List.length_append] at hv2 hb2 hk2 hr2
    refine ⟨hk2.from _, hb2, ⟨_, hv2, ?_, trivial⟩, hB.trans hb2⟩
    simpa [Nat.add_assoc] using hr2
  case done =>
    rintro D ys W hD rfl ⟨⟨v, hv, hrow, _⟩, hB⟩ hK
    have hc := hv.cell
    gi_wp2
    refine ⟨by simp, .inl ⟨_, _, rfl, run_takeDeferred hK, ?_⟩⟩
    have hrow' := ownsRow_putObj hrow (.deferred none) hK rfl
    exact ⟨_, results_tmp2 rfl _ _ _, v, rfl, OwnB.mk hrow' (hB.trans (belowK_b (w := w) (Nat.le_refl _) W D _ _ (by simp at hD; omega) hK rfl rfl))⟩
  case stop =>
    rintro D c pre W _ _ h _
    exact h.elim

theorem putVarint_any (w : World) (A : Option Addr) (l : List UInt8) (cap : Nat) (q : Int) (h0 : 0 ≤ q) (hq : q ≤ 4611686018427387903) (hs : l.length ≤ 140737488355000) (hR : Rd w A l) :
    Calls Try.prog 17 #[.slice A l.length cap, .int .u64 q] w (GotE w (l ++ vi q.toNat)) := by
  obtain ⟨q, rfl⟩ := Int.eq_ofNat_of_zero_le h0
  exact callsIn_wide.1 (putVarint_in 3 (Nat.le_refl _) w A l cap q (by omega) hs hR)

set_option maxHeartbeats 400000 in
theorem putVarint_no (w : World) (A : Option Addr) (n : Nat) (cap : Nat) (q : Int) (hq : 4611686018427387903 < q) :
    Calls Try.prog 17 #[.slice A n cap, .int .u64 q] w fun e w' => e = .returned (.tuple #[.slice none 0 0, .int .i64 2]) ∧ w = w' := by
  have hd : decide ((4611686018427387903 : Int) < q) = true := by simp; omega
  go_enter Try.func17, Try.ntmps17
  go_wp2
  go_ret2
  exact ⟨rfl, rfl⟩

set_option maxHeartbeats 400000 in
theorem size_no (w : World) (q : Int) (hq : 4611686018427387903 < q) :
    Calls Try.prog 18 #[.int .u64 q] w fun e w' => e = .returned (.int .i64 0) ∧ w = w' := by
  have hd : decide ((4611686018427387903 : Int) < q) = true := by simp; omega
  go_enter Try.func18, Try.ntmps18
  go_wp2
  go_ret
  exact ⟨rfl, rfl⟩

set_option maxRecDepth 100000 in
set_option maxHeartbeats 2000000 in
theorem size_in (n : Nat) (hn : 3 ≤ n) (w : World) (q : Nat) (hq : q ≤ 4611686018427387903) :
    CallsIn Fence.wide n Try.prog 18 #[.int .u64 q] w fun e w' => e = .returned (.int .i64 ((vi q).length : Int)) ∧ Below w.heap.size w w' := by
  have h1 : 1 ≤ n := by omega
  have hfw : ∀ f, Fence.wide.fn f := fun _ => trivial
  have hd : decide ((4611686018427387903 : Int) < (q : Int)) = false := by simp; omega
  refine callsIn_of_wp_marks Try.func18 rfl trivial ?_ rfl
  simp only [Try.ntmps18, List.size_toArray, List.length_cons, List.length_nil, Nat.reduceAdd, Nat.reduceSub, Array.replicate_succ, Array.replicate_zero, List.push_toArray, List.append_toArray, List.nil_append, List.cons_append]
  gi_wp2_with (gi_at_call 36; refine (groups_in Fence.wide (n - 1) trivial rfl _ _).mono ?_; rintro e w' ⟨rfl, rfl⟩)
  have bO := Boxed.new w 3 (.int .i64 0)
  have bN := Boxed.new (w.alloc (.cells #[.int .i64 0] 3)) 24 (.int .u64 (q : Int))
  rw [World.size_alloc] at bN
  have hB0 : Below w.heap.size w ((w.alloc (.cells #[.int .i64 0] 3)).alloc (.cells #[.int .u64 (q : Int)] 24)) := ((Below.refl _ _).alloc (Nat.le_refl _) _).alloc (by simp) _
  refine wpIn_rangeFunc_ownG rfl h1 (gf := 52) (lb := #[.pointer (some ⟨w.heap.size + 1, 0, none⟩)]) rfl trivial (enters_of Try.func52 (by kernel_rfl) rfl)
    (groups_stops Fence.wide (n - 1) trivial rfl (by omega) (w.heap.size + 1) w.heap.size q (by omega) _ (by simp) bN.cell) belowK_t (belowK_b (by simp; omega)) (Below.refl _ _) (fun _ => rfl)
    (fun pre W => Boxed W w.heap.size 3 (.int .i64 (pre.length : Int)) ∧ Below w.heap.size w W)
    (fun _ _ _ => False)
    (OwnFrom.and (Own.from (fun s X Y row hs hg hr => hs.kept hg (fun e' => by obtain ⟨o, ho, hc⟩ := hr _ e'.symm; rw [show X.heap[w.heap.size]? = _ from hs] at ho; cases ho; cases hc)) _) (ownFrom_below (Nat.le_refl _) (by simp; omega)))
    (fun _ _ _ _ _ hs _ _ => hs)
    ⟨bO.alloc _, hB0⟩
    (fun x => { tmps := #[Value.int IntKind.u64 q, undef, Value.int IntKind.i64 0, Value.pointer (some ⟨w.heap.size, 0, none⟩), Value.int IntKind.u64 q, Value.bool false, Value.int IntKind.u64 q,
          Value.func (Fn.func 52) #[] #[Value.pointer (some ⟨w.heap.size + 1, 0, none⟩)], byt x, undef, undef, undef], defers := [] }) ?assign ?body ?done ?stop
  case assign =>
    intro l x W K hK
    gi_wp2
    simpa using hK
  case body =>
    rintro l' pre x W ⟨hv, hB⟩ hlt
    have hc := hv.cell
    have hf := hv.frozen
    gi_wp2
    refine ⟨(KeepsOthers.setCell _ _ _).from _, (Below.refl w.heap.size W).setCell (p := ⟨w.heap.size, 0, none⟩) (Nat.le_refl _) _, ?_, hB.setCell (p := ⟨w.heap.size, 0, none⟩) (Nat.le_refl _) _⟩
    have := hv.set (.int .i64 ((pre.length : Int) + 1))
    simpa using this
  case done =>
    rintro D ys W hD rfl ⟨hv, hB⟩ hK
    have hc := hv.cell
    gi_wp2
    refine ⟨by simp, .inl ⟨_, _, rfl, run_takeDeferred hK, ?_⟩⟩
    exact ⟨_, results_tmp rfl _ _ _, rfl, hB.trans (belowK_b (w := w) (Nat.le_refl _) W D _ _ (by simp at hD; omega) hK rfl rfl)⟩
  case stop =>
    rintro D c pre W _ _ h _
    exact h.elim

theorem size_any (w : World) (q : Int) (h0 : 0 ≤ q) (hq : q ≤ 4611686018427387903) :
    Calls Try.prog 18 #[.int .u64 q] w fun e w' => e = .returned (.int .i64 ((vi q.toNat).length : Int)) ∧ Below w.heap.size w w' := by
  obtain ⟨q, rfl⟩ := Int.eq_ofNat_of_zero_le h0
  exact callsIn_wide.1 (size_in 3 (Nat.le_refl _) w q (by omega))

end Go.Proofs.Ytnbohkiimbooaaa
