/-
  What histogram.plus does: it returns the sums in new memory, or the error. Nothing that was there has changed. Condition: both histograms are valid; the second is not longer.
-/
import Derived.Test.YtdlhfcapfbbjjaaDis
import Derived.Test.YtdlhfcapfbbjjaaCln
import Derived.Test.YtdlhfcapfbbjjaaChk
namespace Go.Proofs.Ytdlhfcapfbbjjaa
open Go.RowKit Go.Shelf

attribute [local go_sem] Oper.semAt_some

/-- The sums of a list and one that is not longer. -/
def padd : List Nat → List Nat → List Nat
  | k, [] => k
  | [], _ => []
  | x :: k, y :: m => (x + y) :: padd k m

theorem padd_len (k m : List Nat) : (padd k m).length = k.length := by
  induction k generalizing m with
  | nil => cases m <;> rfl
  | cons x k ih => cases m <;> simp [padd, ih]
theorem padd_get (k m : List Nat) (i : Nat) : (padd k m)[i]? = k[i]?.map (· + m[i]?.getD 0) := by
  induction k generalizing m i with
  | nil => cases m <;> simp [padd]
  | cons x k ih =>
    cases m with
    | nil => cases i <;> simp [padd]
    | cons y m =>
      cases i with
      | zero => simp [padd]
      | succ i => simp [padd, ih]

/-- One round of the sum. -/
def pst (s : List Nat) (i x : Nat) : List Nat := s.set i (s[i]?.getD 0 + x)
theorem pst_fold (m k pre : List Nat) (h : m.length ≤ k.length) : (usd pre.length m).foldl (fun s p => pst s p.1 p.2) (pre ++ k) = pre ++ padd k m := by
  induction m generalizing k pre with
  | nil => cases k <;> simp [usd, padd]
  | cons y m ih =>
    rcases k with _ | ⟨x, k⟩
    · simp at h
    · have hl : m.length ≤ k.length := by simpa using h
      unfold usd
      split
      · next h0 =>
        subst h0
        have := ih k (pre ++ [x]) hl
        simp only [List.length_append, List.length_cons, List.length_nil, Nat.zero_add, List.append_assoc, List.cons_append, List.nil_append] at this
        rw [this, padd, Nat.add_zero]
      · have := ih k (pre ++ [x + y]) hl
        simp only [List.length_append, List.length_cons, List.length_nil, Nat.zero_add, List.append_assoc, List.cons_append, List.nil_append] at this
        rw [List.foldl_cons, padd, ← this]
        congr 1
        simp [pst]

def addj (k m : List Nat) (j : Nat) : List Nat := fold pst m k j
theorem addj_all {k m : List Nat} (h : m.length ≤ k.length) : addj k m (usd 0 m).length = padd k m := by
  unfold addj
  rw [fold_all]
  exact pst_fold m k [] h
theorem addj_succ {k m : List Nat} {j : Nat} (h : j < (usd 0 m).length) : addj k m (j + 1) = pst (addj k m j) (sym m j) (cnt m j) := fold_succ _ _ _ h
theorem addj_len {k m : List Nat} {j : Nat} (h : j ≤ (usd 0 m).length) : (addj k m j).length = k.length := by
  induction j with
  | zero => simp [addj, fold]
  | succ j ih => rw [addj_succ h, pst, List.length_set]; exact ih (by omega)
theorem addj_le {k m : List Nat} (hk : Vld k) (hm : Vld m) {j : Nat} (h : j ≤ (usd 0 m).length) : ∀ y ∈ addj k m j, y ≤ 2147483648 * (j + 1) := by
  induction j with
  | zero => intro y hy; simp [addj, fold] at hy; have := hk.2 y hy; omega
  | succ j ih =>
    intro y hy
    rw [addj_succ h, pst] at hy
    have ihj := ih (by omega)
    have hc := hm.cnt (j := j) (by omega)
    rcases List.mem_or_eq_of_mem_set hy with hy | rfl
    · have := ihj y hy; omega
    · have : (addj k m j)[sym m j]?.getD 0 ≤ 2147483648 * (j + 1) := by
        cases hg : (addj k m j)[sym m j]? with
        | none => simp
        | some z => exact ihj z (List.mem_of_getElem? hg)
      omega

/-- The sums as numbers. -/
def psum (k m : List Nat) : List Int := (padd k m).map (fun n : Nat => (n : Int))

def PlsR (k m : List Nat) (N : Nat) (w : World) (e : Ending) (w' : World) : Prop :=
  (ok (psum k m) = true ∧ ∃ A' c', e = .returned (.tuple #[.slice A' N c', .int .i64 0]) ∧ N ≤ c' ∧ w'.ownsRow w.heap.size 3 1 (.slice A' N c') N ((padd k m).map nv)) ∨
  (ok (psum k m) = false ∧ e = .returned (.tuple #[.slice none 0 0, .int .i64 2]))

theorem own_mono {w : World} {base base' : Nat} {e : TypeId} {v : Value} {n : Nat} {xs : List Value} (h : w.ownsRow base e 1 v n xs) (hb : base' ≤ base) : w.ownsRow base' e 1 v n xs := by
  refine ⟨h.1, ?_⟩
  rcases h.2 with h1 | ⟨g, c, cur, rfl, h2, h3⟩
  · exact .inl h1
  · exact .inr ⟨g, c, cur, rfl, Nat.le_trans hb h2, h3⟩
theorem own_ge {w : World} {base : Nat} {e : TypeId} {v : Value} {n : Nat} {xs : List Value} (h : w.ownsRow base e 1 v n xs) {g : Nat} (hg : v.ownBlock = some g) : base ≤ g := by
  rcases h.2 with ⟨rfl, _⟩ | ⟨g', c, cur, rfl, hb, _⟩
  · cases hg
  · injection hg with hg
    subst hg
    exact hb
theorem own_some {w : World} {base N co : Nat} {e : TypeId} {A : Option Addr} {xs : List Value} (h0 : 0 < N) (h : w.ownsRow base e 1 (.slice A N co) N xs) : ∃ g, A = some ⟨g, 0, none⟩ := by
  rcases h.2 with ⟨_, hn⟩ | ⟨g, c, cur, hv, _⟩
  · omega
  · injection hv with hA
    exact ⟨g, hA⟩

set_option maxRecDepth 100000 in
set_option maxHeartbeats 1000000 in
theorem plus_in (n : Nat) (hn : 6 ≤ n) (A : Option Addr) (k : List Nat) (N c T G : Nat) (hk : k.length = N) (hv : Vld k) (A2 : Option Addr) (m : List Nat) (M c2 T2 G2 : Nat) (hm : m.length = M) (hv2 : Vld m) (hMN : M ≤ N) (w : World) (hR : Rn w A k) (hR2 : Rn w A2 m) :
    CallsIn Fence.wide n Try.prog 45 #[hst A N c T G, hst A2 M c2 T2 G2] w fun e w' => PlsR k m N w e w' ∧ Below w.heap.size w w' := by
  refine callsIn_of_wp_marks Try.func45 rfl trivial ?_ rfl
  simp only [Try.ntmps45, List.size_toArray, List.length_cons, List.length_nil, Nat.reduceAdd, Nat.reduceSub, Array.replicate_succ, Array.replicate_zero, List.push_toArray, List.append_toArray, List.nil_append, List.cons_append]
  have hfw : ∀ f, Fence.wide.fn f := fun _ => trivial
  have h1 : 1 ≤ n := by omega
  have b0 : Hb ((w.alloc (.cells #[.slice A N c, nv T, nv G] 62)).alloc (.cells #[.slice A2 M c2, nv T2, nv G2] 62)) w.heap.size A N c T G := (Hb.new w A N c T G).same (Below.heap_alloc _ _ _ (by simp))
  have b1 : Hb ((w.alloc (.cells #[.slice A N c, nv T, nv G] 62)).alloc (.cells #[.slice A2 M c2, nv T2, nv G2] 62)) (w.heap.size + 1) A2 M c2 T2 G2 := by
    have := Hb.new (w.alloc (.cells #[.slice A N c, nv T, nv G] 62)) A2 M c2 T2 G2
    rwa [World.size_alloc] at this
  have g0 : Below w.heap.size w ((w.alloc (.cells #[.slice A N c, nv T, nv G] 62)).alloc (.cells #[.slice A2 M c2, nv T2, nv G2] 62)) := ((Below.refl _ w).alloc (Nat.le_refl _) _).alloc (by simp) _
  gi_wp2
  refine wpIn_scope_fwd 0 rfl ?_
  generalize (w.alloc (.cells #[.slice A N c, nv T, nv G] 62)).alloc (.cells #[.slice A2 M c2, nv T2, nv G2] 62) = W0 at b0 b1 g0 ⊢
  have c0 := b0.c0
  have lt1 := b1.lt
  have HCL := Lib.hid (clone_any A k N c hk (by have := hv.1; omega) W0 (hR.below g0))
  gi_wp2_with (first
    | (gi_at_call 56; refine (callsIn_wide.2 HCL.out).mono ?_; rintro e w1 ⟨A', c', rfl, hc', ho, hb⟩; have HO := Lib.hid ho; have HB := Lib.hid hb; have d0 := ((b1.same (hb.block _ (by omega))).same (Below.heap_alloc w1 (.cells #[.slice A' N c'] 60) _ (by have := hb.size; omega))).c0; clear ho hb)
    | (gi_at_call 55; refine (used_in (n - 1) _ _ _ _).mono ?_; rintro e w' ⟨rfl, rfl⟩))
  have bs : Boxed ((w1.alloc (.cells #[.slice A' N c'] 60)).alloc (.cells #[.slice A2 M c2] 60)) w1.heap.size 60 (.slice A' N c') := (Boxed.new w1 _ _).alloc _
  have bu : Boxed ((w1.alloc (.cells #[.slice A' N c'] 60)).alloc (.cells #[.slice A2 M c2] 60)) (w1.heap.size + 1) 60 (.slice A2 M c2) := by
    have := Boxed.new (w1.alloc (.cells #[.slice A' N c'] 60)) 60 (.slice A2 M c2)
    rwa [World.size_alloc] at this
  have gb : Below W0.heap.size W0 ((w1.alloc (.cells #[.slice A' N c'] 60)).alloc (.cells #[.slice A2 M c2] 60)) := (HB.out.alloc HB.out.size _).alloc (by simp; have := HB.out.size; omega) _
  have ob : ((w1.alloc (.cells #[.slice A' N c'] 60)).alloc (.cells #[.slice A2 M c2] 60)).ownsRow W0.heap.size 3 1 (.slice A' N c') N (k.map nv) := own_below HO.out (((Below.refl _ w1).alloc (Nat.le_refl _) _).alloc (by simp) _)
  have gl : ∀ g, (Value.slice A' N c').ownBlock = some g → W0.heap.size ≤ g ∧ g < w1.heap.size := fun g e => ⟨own_ge HO.out e, own_lt HO.out e⟩
  clear d0 c0 HCL
  have hw1s := HB.out.size
  generalize (w1.alloc (.cells #[.slice A' N c'] 60)).alloc (.cells #[.slice A2 M c2] 60) = W1 at bs bu gb ob ⊢
  obtain ⟨sb, hsb⟩ : ∃ sb, w1.heap.size = sb := ⟨_, rfl⟩
  rw [hsb] at bs bu gl hw1s
  simp only [hsb]
  clear hsb HB HO
  have ltu := bu.lt
  have g1 : Below w.heap.size w W1 := below_on g0 (Nat.le_refl _) gb
  have new : ∀ W, Chg (fun x => (Value.slice A' N c').ownBlock = some x) W1 W → Below w.heap.size w W := fun W hc => g1.trans (hc.new (by omega) (fun x e => by have := gl x e; omega))
  have hM := hv2.1
  refine range_s rfl h1 (gf := 61) (lb := #[.pointer (some ⟨sb + 1, 0, none⟩)]) rfl trivial (enters_of Try.func61 (by kernel_rfl) rfl)
    (N := (usd 0 m).length) (enc := symAt m) (Kp := KpU A2 m M c2 (sb + 1)) (fun _ => rfl) (used1_hands (n - 1) (by omega) A2 m M c2 _ hm (by omega) hv2)
    (fun x => (Value.slice A' N c').ownBlock = some x) (fun e => by have := gl _ e; omega) (fun e => by have := gl _ e; omega) (fun j W => W.ownsRow W0.heap.size 3 1 (.slice A' N c') N ((addj k m j).map nv)) (fun _ _ => False)
    (fun j W W' hal hp => own_same hp (fun g e => hal g (by have := gl _ e; omega) (by have := gl _ e; omega))) (fun _ _ _ _ h => h)
    (fun j W hc _ => ⟨boxed_chg bu hc (fun e => by have := gl _ e; omega), hR2.below (new W hc)⟩) ob
    (fun j => { tmps := #[hst A N c T G, hst A2 M c2 T2 G2, Value.pointer (some ⟨w.heap.size, 0, none⟩), Value.pointer (some ⟨w.heap.size + 1, 0, none⟩), Value.slice none 0 0, Value.int .i64 0, Value.pointer (some ⟨sb, 0, none⟩), nv (sym m j), nv (cnt m j), Value.pointer (some ⟨w.heap.size, 0, none⟩), Value.slice A N c, Value.slice A' N c', Value.pointer (some ⟨w.heap.size + 1, 0, none⟩), Value.slice A2 M c2,
          Value.func (Fn.func 61) #[] #[Value.pointer (some ⟨sb + 1, 0, none⟩)], nv (sym m j), nv (cnt m j),
          undef, undef, undef, undef, undef, undef, undef, undef, undef, undef, undef], defers := [] }) ?assign ?body ?done ?stop
  case assign =>
    intro l' j W2 K _ hK
    simp only [symAt]
    gi_wp2
    exact hK
  case body =>
    intro l' j W2 hj hg2 hs2 hp2
    have hd : 1 ≤ n - 1 - 1 := by omega
    have c0 := (boxed_chg bs hg2 (fun e => by have := gl _ e; omega)).cell
    have hsl := (usd_at hj).2.2.2
    have hx := hv2.cnt hj
    have hle := addj_le (k := k) hv hv2 (Nat.le_of_lt hj)
    have hln := addj_len (k := k) (m := m) (Nat.le_of_lt hj)
    have hj2 := usd_len 0 m
    have HS := Lib.hid (addj_succ (k := k) hj)
    obtain ⟨g, rfl⟩ := own_some (by omega) hp2
    obtain ⟨s, hse⟩ : ∃ s, sym m j = s := ⟨_, rfl⟩
    obtain ⟨x, hxe⟩ : ∃ x, cnt m j = x := ⟨_, rfl⟩
    rw [hse] at hsl HS
    rw [hxe] at hx HS
    have hsN : s < N := by omega
    obtain ⟨y, hy⟩ : ∃ y, (addj k m j)[s]? = some y := ⟨_, List.getElem?_eq_getElem (by omega)⟩
    have hyb := hle y (List.mem_of_getElem? hy)
    have c1 : W2.cell? ⟨g, s, none⟩ = some (.int .i64 (y : Int)) := by rw [hp2.cellAt s (by omega), List.getElem?_map, hy]; rfl
    have f1 := hp2.frozenAt s
    have hyl : y ≤ 1103806595072 := by omega
    have HY := Lib.hid hy
    have HP := Lib.hid hp2
    simp only [hse, hxe, nv]
    clear hp2 hg2 hse hxe hy hyb hle hln hj2
    gi_wp2
    refine And.intro (Chg.set (Chg.refl (fun x => (Value.slice (some ⟨g, 0, none⟩) N c').ownBlock = some x) W2) ⟨g, s, none⟩ rfl _) ?_
    show World.ownsRow _ _ _ _ _ _ _
    have e1 : (addj k m (j + 1)).map nv = ((addj k m j).map nv).set s (.int .i64 ((y : Int) + (x : Int))) := by
      rw [HS.out, pst, HY.out, List.map_set]
      rfl
    rw [e1]
    exact (HP.out.stored s _).1
  case done =>
    intro W2 hK hg2 hs2 hp2
    rw [addj_all (by omega)] at hp2
    have c0 := (boxed_chg bs hg2 (fun e => by have := gl _ e; omega)).cell
    have HK := Lib.hid hK
    have HB : Hid (Below w.heap.size w W2) := Lib.hid (new W2 hg2)
    have HO := Lib.hid hp2
    have GL := Lib.hid gl
    have HC := Lib.hid (check_any W2 A' (psum k m) N c' (by rw [psum, List.length_map, padd_len, hk]) (by rw [psum]; show Rv _ _ _; rw [ri_nats]; exact Rv.of_own hp2))
    clear hK hg2 hp2 new gl
    cases hok : ok (psum k m) with
    | true =>
      rw [hok] at HC
      simp only [if_true] at HC
      gi_wp2_with (gi_at_call 20; refine (callsIn_wide.2 HC.out).mono ?_; rintro e w' ⟨rfl, rfl⟩)
      rw [jump_ret]
      refine ⟨by simp, .inl ⟨_, _, rfl, run_takeDeferred HK.out, ?_⟩⟩
      exact ⟨_, results_tmp2 rfl _ _ _, .inl ⟨hok, A', c', rfl, hc', own_mono (own_same HO.out (fun g e => World.putObj_heap_other (by have := GL.out g e; omega))) (by omega)⟩, below_put HB.out _ (by omega) _⟩
    | false =>
      rw [hok] at HC
      simp only [Bool.false_eq_true, if_false] at HC
      gi_wp2_with (gi_at_call 20; refine (callsIn_wide.2 HC.out).mono ?_; rintro e w' ⟨rfl, rfl⟩)
      refine wpIn_wide.2 (wp_goto ?_)
      refine And.intro rfl ?_
      gi_wp2
      rw [Exit.noGoto_ret]
      refine ⟨by simp, .inl ⟨_, _, rfl, run_takeDeferred HK.out, ?_⟩⟩
      exact ⟨_, results_tmp2 rfl _ _ _, .inr ⟨hok, rfl⟩, below_put HB.out _ (by omega) _⟩
  case stop => exact fun _ _ _ _ _ h => h.elim

end Go.Proofs.Ytdlhfcapfbbjjaa
