/-
  What Spread, Positions and the reference's Of return at any table: the slices and the error with letters; append in a region that draws its order. Conditions: those that each theorem states.
-/
import Derived.Deep.RegionLaw
import Derived.Deep.CutRange
import Derived.Test.YtonapehlhkoplaaOf
namespace Go.Proofs.Ytonapehlhkoplaa
open Go.RowKit Go.Shelf

/-- The spread of any table: none where it is not valid. -/
def spx (y : Int) (l : List Int) : List Nat := if vt y l 256 9 then spl (2 ^ y.toNat) l else []
theorem spx_len (y : Int) (l : List Int) : (spx y l).length ≤ 512 := by
  unfold spx
  split
  · rename_i h
    obtain ⟨n, rfl, hv⟩ := vt_iff.1 h
    rw [spl_len, Int.toNat_natCast]
    exact hv.size
  · exact Nat.zero_le _
def OutS (B : Nat) (w : World) (X : List Nat) (e0 : Int) (e : Ending) (w' : World) : Prop :=
  ∃ A' r c', e = .returned (.tuple #[.slice A' r c', .int .i64 e0]) ∧ r ≤ 512 ∧ w'.ownsRow B 3 1 (.slice A' r c') r (X.map nv) ∧ Below w.heap.size w w'
theorem outS_mk {B : Nat} {w w' : World} {X : List Nat} {e0 : Int} {A' : Option Addr} {r c' : Nat} (hX : X.length ≤ 512) (ho : w'.ownsRow B 3 1 (.slice A' r c') r (X.map nv)) (hb : Below w.heap.size w w') : OutS B w X e0 (.returned (.tuple #[.slice A' r c', .int .i64 e0])) w' :=
  ⟨A', r, c', rfl, by have := ho.1; simp at this; omega, ho, hb⟩

theorem spread_u (w : World) (y : Int) (A : Option Addr) (l : List Int) (N c : Nat) (hN : l.length = N) (hb : N ≤ 1000000) (hR : Ri w A l) :
    Calls Try.prog 29 #[tb y A N c] w (OutS w.heap.size w (spx y l) (err (vt y l 256 9))) := by
  have hX := spx_len y l
  unfold spx at hX ⊢
  cases hv : vt y l 256 9 with
  | false =>
    refine (spread_bad w y A l N c hN hb hv hR).mono ?_
    rintro e w' ⟨rfl, hb'⟩
    exact outS_mk (by simp) (own_nil _ _) hb'
  | true =>
    rw [hv] at hX
    obtain ⟨n, rfl, hv2⟩ := vt_iff.1 hv
    refine (spread_ok w n _ A l N c hN hv2 rfl hR).mono ?_
    rintro e w' ⟨g, rfl, ho, hb'⟩
    exact outS_mk hX ho hb'
theorem of_u (w : World) (y : Int) (A : Option Addr) (l : List Int) (N c : Nat) (hN : l.length = N) (hb : N ≤ 1000000) (hR : Ri w A l) :
    Calls Try.prog 32 #[tb y A N c] w (OutS w.heap.size w (spx y l) (err (vt y l 256 9))) := by
  have hX := spx_len y l
  unfold spx at hX ⊢
  cases hv : vt y l 256 9 with
  | false =>
    refine (of_bad w y A l N c hN hb hv hR).mono ?_
    rintro e w' ⟨rfl, hb'⟩
    exact outS_mk (by simp) (own_nil _ _) hb'
  | true =>
    rw [hv] at hX
    obtain ⟨n, rfl, hv2⟩ := vt_iff.1 hv
    refine (of_ok w n _ A l N c hN hv2 rfl hR).mono ?_
    rintro e w' ⟨g, rfl, ho, hb'⟩
    exact outS_mk hX ho hb'
theorem own_some {w : World} {base n c : Nat} {e : TypeId} {A : Option Addr} {xs : List Value} (h0 : 0 < n) (h : w.ownsRow base e 1 (.slice A n c) n xs) : ∃ g, A = some ⟨g, 0, none⟩ := by
  rcases h.2 with ⟨_, h1⟩ | ⟨g, c', cur, h1, _⟩
  · omega
  · injection h1 with h1
    exact ⟨g, h1⟩
theorem iv_one (l : List Int) : ∀ u ∈ l.map iv, u.oneCell' = true := by
  intro v hv
  obtain ⟨b, _, rfl⟩ := List.mem_map.1 hv
  rfl

/-- append in a region that draws its order. -/
theorem step_append_vals {bt : Nat} {t e : TypeId} (ht : Try.prog.underlying t = some (.slice e)) {z : Value} (hinfo : (Try.prog.info? e).map (fun i => (i.zero, i.size, i.bytes)) = some (some z, 1, bt)) (hzs : z.cells.size = 1)
    {w : World} {ops : Array Oper} {o : Oper} {a : Act} {K : Act → World → Prop} {Q : Exit → Act → World → Prop} {E : Prop} (hgd : o.guard = none) (s x : Operand)
    (ho : o.op = .call { callee := .builtin .append, args := #[s, x], argTypes := #[t, t] })
    (base : Nat) (v : Value) (n : Nat) (xs : List Value) (hs : a.eval s = v) (hown : w.ownsRow base e 1 v n xs) (A : Option Addr) (ys : List Value) (h1 : ∀ u ∈ ys, u.oneCell' = true) (m c : Nat) (hm : ys.length = m) (hx : a.eval x = .slice A m c) (hR : Rv w A ys)
    (hb : n + m ≤ 140737488355328) (hbt : (n + m) * bt ≤ 140737488355328) (hbase : base ≤ w.heap.size)
    (h : ∀ v' w', w'.ownsRow base e 1 v' (n + m) (xs ++ ys) → w.grownBy w' v.ownBlock → (v'.ownBlock = v.ownBlock ∨ v'.ownBlock = some w.heap.size) → K (a.put o.dst v') w') :
    if Region.wanted o (yielded ops a.tmps) = true then Oper.wp Try.prog o a w K Q else E := by
  subst hm
  have hw : Region.wanted o (yielded ops a.tmps) = true := by simp [Region.wanted, hgd]
  rw [if_pos hw]
  obtain ⟨v', w', hrun, h2, h3, h4⟩ := run_append_vals ht hinfo hzs w o.type base v n xs hown A ys h1 c hR hb hbt hbase
  unfold Oper.wp
  simp [execOp, ho, resolve, invoke, builtin, hs, hx, hrun, Result.andThen]
  exact h v' w' h2 h3 h4

end Go.Proofs.Ytonapehlhkoplaa
