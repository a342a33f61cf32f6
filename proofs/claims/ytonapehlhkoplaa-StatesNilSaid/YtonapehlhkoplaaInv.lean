/-
  What inVisits does: the free indices get the symbols in the order of the visits. Only the map and new memory differ. Conditions: there are as many symbols as free indices; the symbols' row is not the map.
-/
import Derived.Test.YtonapehlhkoplaaVis
import Derived.Test.YtonapehlhkoplaaRnd
namespace Go.Proofs.Ytonapehlhkoplaa
open Go.RowKit Go.Shelf

attribute [local go_sem] Oper.semAt_some

theorem und_i : Try.prog.underlying 22 = some (.slice (Try.prog.elem 22)) := by kernel_rfl
theorem elem_i : Try.prog.elem 22 = 3 := by kernel_rfl
theorem size_i (W : World) : (sizeOf 3).run Try.prog W = .ok 1 W := by
  obtain ⟨i0, hi, _, hz1, _⟩ := info_parts int_info
  simp [sizeOf, typeInfo, hi, hz1]
/-- Where the rest of a slice begins. -/
def off (A : Option Addr) (c n : Nat) : Option Addr := if c = n then A else A.map (·.add n)
theorem slice_lo (A : Option Addr) (N c n : Nat) (h : n ≤ N) (W : World) : (Instr.slice 22 (.slice A N c) (some (.int .i64 (n : Int))) none none).run Try.prog W = .ok (.slice (off A c n) (N - n) (c - n)) W := by
  rw [run_slice_l _ _ _ _ _ und_i _ _ (by omega) (by omega), elem_i, size_i]
  simp [Result.andThen, sliced, off]
theorem off_rn {w : World} {A : Option Addr} {k : List Nat} {c n : Nat} (h : Rn w A k) (hc : k.length ≤ c) : Rn w (off A c n) (k.drop n) := by
  unfold off
  by_cases hcn : c = n
  · rw [if_pos hcn, List.drop_of_length_le (by omega)]
    exact Rv.nil _ _
  · rw [if_neg hcn]
    have := Rv.cut h n k.length
    rw [List.take_of_length_le (by simp), ← List.map_drop] at this
    exact this
theorem off_block {A : Option Addr} {c n : Nat} {ad : Addr} (h : off A c n = some ad) : ∃ ad', A = some ad' ∧ ad.block = ad'.block := by
  unfold off at h
  split at h
  · exact ⟨ad, h, rfl⟩
  · obtain ⟨a, ha, rfl⟩ := Option.map_eq_some_iff.1 h
    exact ⟨a, ha, addr_add_block _ _⟩
theorem below_put {B : Nat} {w W : World} (h : Below B w W) (l : Nat) (hl : B ≤ l) (o : Obj) : Below B w (W.putObj l o) :=
  ⟨h.os, h.tape, h.output, by rw [World.putObj_size]; exact h.size, fun i hi => by rw [World.putObj_heap_other (by omega)]; exact h.block i hi⟩

/-- The state ahead of visit j: block b is the map, block x the variable that holds the rest of the symbols, whose row lies in an older block than B. -/
structure Sta (s : Nat) (F : Nat → Option Nat) (b x B j : Nat) (W : World) (n : Nat) (m : Nat → Option Nat) (r : List Nat) (A : Option Addr) (c : Nat) : Prop where
  mp : Mp W b n m
  le : n ≤ 512 + j
  box : Boxed W x 22 (.slice A r.length c)
  cap : r.length ≤ c
  row : Rn W A r
  apart : ∀ ad, A = some ad → ad.block < B ∧ ad.block ≠ b
  go : go ((vis s).drop j) m r = F
  ok : Ok ((vis s).drop j) m r
  small : ∀ z ∈ r, z ≤ 1000
def StaE (s : Nat) (F : Nat → Option Nat) (b x B j : Nat) (W : World) : Prop := ∃ n m r A c, Sta s F b x B j W n m r A c
theorem Sta.same {s : Nat} {F : Nat → Option Nat} {b x B j : Nat} {W W' : World} {n : Nat} {m : Nat → Option Nat} {r : List Nat} {A : Option Addr} {c : Nat} (h : Sta s F b x B j W n m r A c)
    (hb : W'.heap[b]? = W.heap[b]?) (hx : W'.heap[x]? = W.heap[x]?) (hB : ∀ k, k < B → k ≠ b → W'.heap[k]? = W.heap[k]?) : Sta s F b x B j W' n m r A c :=
  ⟨h.mp.same hb, h.le, hx.trans h.box, h.cap, h.row.same (fun ad e => hB _ (h.apart ad e).1 (h.apart ad e).2), h.apart, h.go, h.ok, h.small⟩
theorem vis_drop {s j : Nat} (h : j < s) : (vis s).drop j = vi s j :: (vis s).drop (j + 1) := by
  have hl : j < (vis s).length := by rw [vis_len]; exact h
  rw [List.drop_eq_getElem_cons hl]
  congr 1
  have := vis_get h
  rw [List.getElem?_eq_getElem hl] at this
  exact Option.some.inj this

set_option maxRecDepth 100000 in
set_option maxHeartbeats 2000000 in
theorem inv_in (n : Nat) (hn : 6 ≤ n) (w : World) (b s nn : Nat) (m : Nat → Option Nat) (k : List Nat) (A : Option Addr) (c : Nat) (h1 : 1 ≤ s) (hs : s ≤ 512) (hm : Mp w b nn m) (hnn : nn ≤ 512) (hR : Rn w A k) (hc : k.length ≤ c) (hA : ∀ ad, A = some ad → ad.block < w.heap.size ∧ ad.block ≠ b) (hk : ∀ z ∈ k, z ≤ 1000) (hok : Ok (vis s) m k) :
    CallsIn Fence.wide n Try.prog 41 #[.map (some b), .int .i64 (s : Int), .slice A k.length c] w fun e w' => e = .returned (.tuple #[]) ∧ (∃ n', Mp w' b n' (go (vis s) m k)) ∧ Chg (fun x => x = b) w w' := by
  obtain ⟨F, hF⟩ : ∃ F, go (vis s) m k = F := ⟨_, rfl⟩
  rw [hF]
  refine callsIn_of_wp_marks Try.func41 rfl trivial ?_ rfl
  simp only [Try.ntmps41, List.size_toArray, List.length_cons, List.length_nil, Nat.reduceAdd, Nat.reduceSub, Array.replicate_succ, Array.replicate_zero, List.push_toArray, List.append_toArray, List.nil_append, List.cons_append]
  have hfw : ∀ f, Fence.wide.fn f := fun _ => trivial
  have hn1 : 1 ≤ n := by omega
  gi_wp2_with (gi_at_call 48; refine (visits_in (n - 1) s _).mono ?_; rintro e w' ⟨rfl, rfl⟩)
  have ltb := hm.lt
  have b0 : Boxed (((w.alloc (.cells #[.map (some b)] 80)).alloc (.cells #[.slice A k.length c] 22)).alloc (.cells #[.int .i64 (s : Int)] 3)) w.heap.size 80 (.map (some b)) := ((Boxed.new w _ _).alloc _).alloc _
  have b1 : Boxed (((w.alloc (.cells #[.map (some b)] 80)).alloc (.cells #[.slice A k.length c] 22)).alloc (.cells #[.int .i64 (s : Int)] 3)) (w.heap.size + 1) 22 (.slice A k.length c) := by
    have := (Boxed.new (w.alloc (.cells #[.map (some b)] 80)) 22 (.slice A k.length c)).alloc (.cells #[.int .i64 (s : Int)] 3)
    rwa [World.size_alloc] at this
  have b2 : Boxed (((w.alloc (.cells #[.map (some b)] 80)).alloc (.cells #[.slice A k.length c] 22)).alloc (.cells #[.int .i64 (s : Int)] 3)) (w.heap.size + 1 + 1) 3 (.int .i64 (s : Int)) := by
    have := Boxed.new ((w.alloc (.cells #[.map (some b)] 80)).alloc (.cells #[.slice A k.length c] 22)) 3 (.int .i64 (s : Int))
    rwa [World.size_alloc, World.size_alloc] at this
  have g1 : Below w.heap.size w (((w.alloc (.cells #[.map (some b)] 80)).alloc (.cells #[.slice A k.length c] 22)).alloc (.cells #[.int .i64 (s : Int)] 3)) :=
    (((Below.refl _ w).alloc (Nat.le_refl _) _).alloc (by simp) _).alloc (by simp; omega) _
  generalize ((w.alloc (.cells #[.map (some b)] 80)).alloc (.cells #[.slice A k.length c] 22)).alloc (.cells #[.int .i64 (s : Int)] 3) = W1 at b0 b1 b2 g1 ⊢
  have lt2 := b2.lt
  have s1 : StaE s F b (w.heap.size + 1) w.heap.size 0 W1 :=
    ⟨nn, m, k, A, c, hm.below g1, by omega, b1, hc, hR.below g1, hA, hF, hok, hk⟩
  clear hF
  refine range_s rfl hn1 (gf := 52) (lb := #[.pointer (some ⟨w.heap.size + 1 + 1, 0, none⟩)]) rfl trivial (enters_of Try.func52 (by kernel_rfl) rfl)
    (N := s) (enc := idxAt s) (Kp := KpV s (w.heap.size + 1 + 1)) (fun _ => rfl) (visits1_hands (n - 1) (by omega) s _ h1 hs)
    (fun x => x = b ∨ x = w.heap.size + 1) (by omega) (by omega) (StaE s F b (w.heap.size + 1) w.heap.size) (fun _ _ => False)
    (fun j W W' hal ⟨n0, m0', r0, A0, c0, hp⟩ => ⟨n0, m0', r0, A0, c0, hp.same (hal _ (by omega) (by omega)) (hal _ (by omega) (by omega)) (fun q hq _ => hal _ (by omega) (by omega))⟩) (fun _ _ _ _ h => h)
    (fun j W hc2 _ => boxed_chg b2 hc2 (by omega)) s1
    (fun j => { tmps := #[Value.map (some b), Value.int .i64 (s : Int), Value.slice A k.length c, Value.pointer (some ⟨w.heap.size, 0, none⟩), undef, Value.pointer (some ⟨w.heap.size + 1, 0, none⟩), nv (vi s j), undef, undef,
          Value.int .i64 (s : Int), Value.func (Fn.func 52) #[] #[Value.pointer (some ⟨w.heap.size + 1 + 1, 0, none⟩)], nv (vi s j),
          undef, undef, undef, undef, undef, undef, undef, undef, undef, undef, undef, undef, undef, undef], defers := [] }) ?assign ?body ?done ?stop
  case assign =>
    intro l' j W2 K _ hK
    simp only [idxAt]
    gi_wp2
    simpa using hK
  case body =>
    rintro l' j W2 hj hg2 hs2 ⟨n0, m', r, A', c', hp2⟩
    have hd : 1 ≤ n - 1 - 1 := by omega
    have hmx : Try.prog.follows .mixedOrders = true := by kernel_rfl
    have c0 := (boxed_chg b0 hg2 (by omega)).cell
    have HG := Lib.hid hg2
    obtain ⟨t, ht⟩ : ∃ t, vi s j = t := ⟨_, rfl⟩
    have hts : t < s := by rw [← ht]; exact vi_lt (by omega) _
    have hlk := hp2.mp.look_ok (i := t) (by omega)
    have hdr := vis_drop hj
    rw [ht] at hdr
    simp only [nv, ht]
    have HV : Hid (0 = 0) := Lib.hid rfl
    cases hmt : m' t with
    | some z =>
      rw [hmt] at hlk
      simp only [Option.isSome_some, Option.getD_some] at hlk
      have HE : Hid (StaE s F b (w.heap.size + 1) w.heap.size (j + 1) W2) := Lib.hid ⟨n0, m', r, A', c', hp2.mp, by have := hp2.le; omega, hp2.box, hp2.cap, hp2.row, hp2.apart, by rw [← hp2.go, hdr, go_taken hmt], by have := hp2.ok; rw [hdr] at this; exact this.taken hmt, hp2.small⟩
      clear hp2 hg2 hmt hdr ht
      gi_wp2
      exact ⟨Chg.refl _ _, HE.out⟩
    | none =>
      rw [hmt] at hlk
      simp only [Option.isSome_none, Option.getD_none] at hlk
      have hok2 := hp2.ok
      rw [hdr] at hok2
      obtain ⟨z, r', rfl, hok3⟩ := hok2.free hmt
      obtain ⟨L, hL⟩ : ∃ L, r'.length = L := ⟨_, rfl⟩
      have hbx := hp2.box
      have hcap := hp2.cap
      rw [List.length_cons, hL] at hbx hcap
      obtain ⟨ad, rfl, hcz⟩ := hp2.row 0 (nv z) rfl
      have hzb : z ≤ 1000 := hp2.small z (by simp)
      have hle := hp2.le
      obtain ⟨W3, hst, hm3, hg3⟩ := Mp.store (w := W2.drew) (hp2.mp.same (w' := W2.drew) rfl) (i := t) (x := z) (by omega) (by omega) (by omega)
      have bx3 : Boxed W3 (w.heap.size + 1) 22 (.slice (some ad) (L + 1) c') := (hg3.block _ hbx.lt (fun e => by have := Option.some.inj e; omega)).trans hbx
      have cx3 := bx3.cell
      have fx3 := bx3.frozen
      obtain ⟨A4, hA4⟩ : ∃ A4, off (some ad) c' 1 = A4 := ⟨_, rfl⟩
      have sl : ∀ W, (Instr.slice 22 (.slice (some ad) (L + 1) c') (some (.int .i64 1)) none none).run Try.prog W = .ok (.slice A4 L (c' - 1)) W := fun W => by
        have := slice_lo (some ad) (L + 1) c' 1 (by omega) W
        rw [hA4, Nat.add_sub_cancel] at this
        exact this
      obtain ⟨W4, hW4⟩ : ∃ W4, W3.setCell ⟨w.heap.size + 1, 0, none⟩ (.slice A4 L (c' - 1)) = W4 := ⟨_, rfl⟩
      have hlt3 := hg3.size
      have HC : Hid (Chg (fun x => x = b ∨ x = w.heap.size + 1) W2 W4) := Lib.hid (by
        rw [← hW4]
        refine Chg.set ?_ _ (.inr rfl) _
        exact ⟨hg3.os, hg3.tape, hg3.output, hg3.size, fun q hq hnq => hg3.block q hq (fun e => hnq (.inl (Option.some.inj e)))⟩)
      have HE : Hid (StaE s F b (w.heap.size + 1) w.heap.size (j + 1) W4) := Lib.hid (by
        refine ⟨n0 + 1, upd m' t z, r', A4, c' - 1, ?_, by omega, ?_, by omega, ?_, ?_, ?_, hok3, fun q hq => hp2.small q (by simp [hq])⟩
        · rw [← hW4]; exact hm3.same (Below.heap_setCell _ _ _ _ (by show b ≠ w.heap.size + 1; omega))
        · rw [← hW4, hL]; exact bx3.set _
        · have h5 := off_rn (n := 1) hp2.row (by rw [List.length_cons, hL]; exact hcap)
          rw [hA4] at h5
          refine Rv.same h5 fun ad2 e2 => ?_
          rw [← hA4] at e2
          obtain ⟨ad3, e3, e4⟩ := off_block e2
          obtain ⟨q1, q2⟩ := hp2.apart ad3 e3
          rw [e4, ← hW4, Below.heap_setCell _ _ _ _ (by show ad3.block ≠ w.heap.size + 1; omega)]
          exact hg3.block _ (by have := HG.out.size; show ad3.block < W2.heap.size; omega) (fun e => q2 (Option.some.inj e))
        · intro ad2 e2
          rw [← hA4] at e2
          obtain ⟨ad3, e3, e4⟩ := off_block e2
          rw [e4]
          exact hp2.apart ad3 e3
        · rw [← hp2.go, hdr, go_free hmt])
      have cb := hbx.cell
      simp only [nv, Addr.add, if_true] at hcz
      clear hp2 hg2 hmt hdr ht hok2 hok3 bx3 hm3 hg3 hA4 hL hbx hle
      gi_wp2
      refine wpIn_region_tail 5 (by kernel_rfl) (by kernel_rfl) (by kernel_rfl) ?_
      simp only [List.take_succ_cons, List.take_zero, List.drop_succ_cons, List.drop_zero]
      have d0 : W2.drew.cell? ⟨w.heap.size, 0, none⟩ = some (.map (some b)) := c0
      have d1 : W2.drew.cell? ⟨w.heap.size + 1, 0, none⟩ = some (.slice (some ad) (L + 1) c') := cb
      have d2 : W2.drew.cell? ad = some (.int .i64 (z : Int)) := hcz
      clear c0 cb hcz
      still_step
      still_step
      still_step
      still_step
      still_step
      refine wpStill_nil ?_
      go_wp2
      rename_i hKK
      refine hKK _ _ ?_
      gi_wp2
      exact ⟨HC.out, HE.out⟩
  case done =>
    rintro W2 hK hg2 hs2 ⟨n0, m', r, A', c', hp2⟩
    have HK := Lib.hid hK
    have HF : Hid (Mp W2 b n0 F) := Lib.hid (by
      have h5 := hp2.go
      rw [List.drop_of_length_le (by rw [vis_len]; exact Nat.le_refl _)] at h5
      have h6 : m' = F := h5
      rw [← h6]
      exact hp2.mp)
    have HC : Hid (Chg (fun x => x = b) w W2) := Lib.hid ⟨hg2.os.trans g1.os, hg2.tape.trans g1.tape, hg2.output.trans g1.output, Nat.le_trans g1.size hg2.size, fun q hq hnq => (hg2.block q (by have := g1.size; omega) (fun e => by rcases e with e | e; exact hnq e; omega)).trans (g1.block q hq)⟩
    clear hK hg2 hp2
    gi_wp2
    refine ⟨by simp, .inl ⟨_, _, rfl, run_takeDeferred HK.out, ?_⟩⟩
    refine ⟨_, results_none rfl _ _ _, rfl, ⟨n0, HF.out.same (World.putObj_heap_other (by omega))⟩, ?_⟩
    exact HC.out.put _ (by omega) _
  case stop => exact fun _ _ _ _ _ h => h.elim

end Go.Proofs.Ytonapehlhkoplaa
