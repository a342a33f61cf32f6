/-
  What the proof of the law NumOwn holds on to: the rows that PutWord and PutVarint have returned and the cursor, all behind a block g, and the row of the block g itself. No condition.
-/
import Derived.Test.YtpelndjfamdjlaaAid
import Derived.Test.YtpelndjfamdjlaaMRst
import Derived.Test.YtpelndjfamdjlaaMSub
import Derived.Test.YtpelndjfamdjlaaFrm
import Derived.Deep.RegionWith
import Derived.Deep.QuietTactic
import Derived.BigQuiet
namespace Go.Proofs.Ytpelndjfamdjlaa.numOwn
open Go.ChangeShapes Go.WideShapes Go.ChangeAt Go.RowKit

theorem byt_one (b : UInt8) : ∃ c : UInt8, byt c = .int .u8 (((b.toNat : Int) + 1) % 256) := by
  refine ⟨UInt8.ofNat ((b.toNat + 1) % 256), ?_⟩
  simp only [byt]
  rw [UInt8.toNat_ofNat', Nat.mod_eq_of_lt (by omega)]
  congr 1
theorem byt_nine (b : UInt8) : ∃ c : UInt8, byt c = .int .u8 (((b.toNat : Int) + 9) % 256) := by
  refine ⟨UInt8.ofNat ((b.toNat + 9) % 256), ?_⟩
  simp only [byt]
  rw [UInt8.toNat_ofNat', Nat.mod_eq_of_lt (by omega)]
  congr 1

/-- Two rows and a cursor, all behind block g. -/
structure Kept (g : Nat) (lp lq l : List UInt8) (Ap : Option Addr) (Aq : Option Addr) (c : Nat) (A : Option Addr) (cap : Nat) (w : World) : Prop where
  p : Rd w Ap lp
  q : Rd w Aq lq
  gp : ∀ ad, Ap = some ad → g < ad.block
  gq : ∀ ad, Aq = some ad → g < ad.block
  gc : g < c
  ga : ∀ ad, A = some ad → g < ad.block
  cur : Cur w c A cap l 0

theorem rd_same {g : Nat} {w w' : World} {A : Option Addr} {l : List UInt8} (h : Rd w A l) (hg : ∀ ad, A = some ad → g < ad.block) (hb : ∀ j, g < j → w'.heap[j]? = w.heap[j]?) : Rd w' A l := by
  intro j x hj
  obtain ⟨ad, he, hcell⟩ := h j x hj
  refine ⟨ad, he, ?_⟩
  rw [← hcell]
  exact World.cell?_of_block (hb _ (by rw [addr_add_block]; exact hg ad he))

theorem Kept.same {g : Nat} {lp lq l : List UInt8} {Ap Aq : Option Addr} {c : Nat} {A : Option Addr} {cap : Nat} {w w' : World} (h : Kept g lp lq l Ap Aq c A cap w) (hb : ∀ j, g < j → w'.heap[j]? = w.heap[j]?) : Kept g lp lq l Ap Aq c A cap w' :=
  ⟨rd_same h.p h.gp hb, rd_same h.q h.gq hb, h.gp, h.gq, h.gc, h.ga, ⟨(hb c h.gc).trans h.cur.blk, rd_same h.cur.rd h.ga hb, h.cur.le, h.cur.cap, h.cur.small⟩⟩

theorem Kept.set {g : Nat} {lp lq l : List UInt8} {Ap Aq : Option Addr} {c : Nat} {A : Option Addr} {cap : Nat} {w : World} (h : Kept g lp lq l Ap Aq c A cap w) (j : Nat) (v : Value) : Kept g lp lq l Ap Aq c A cap (w.setCell ⟨g, j, none⟩ v) :=
  h.same fun k hk => Below.heap_setCell w ⟨g, j, none⟩ v k (by show k ≠ g; omega)

theorem Kept.below {g : Nat} {lp lq l : List UInt8} {Ap Aq : Option Addr} {c : Nat} {A : Option Addr} {cap : Nat} {w w' : World} (h : Kept g lp lq l Ap Aq c A cap w) (hb : Below w.heap.size w w') : Kept g lp lq l Ap Aq c A cap w' :=
  ⟨h.p.below hb, h.q.below hb, h.gp, h.gq, h.gc, h.ga, h.cur.below hb⟩

theorem own_gt {w : World} {b g n c : Nat} {A : Option Addr} {xs : List Value} (h : w.ownsRow b 5 1 (.slice A n c) n xs) (hg : g < b) : ∀ ad, A = some ad → g < ad.block := by
  intro ad e
  rcases h.2 with ⟨h1, _⟩ | ⟨k, cp, cu, h1, h2, _⟩
  · injection h1 with h1 _ _
    rw [e] at h1; cases h1
  · injection h1 with h1 _ _
    rw [e] at h1
    injection h1 with h1
    rw [h1]
    show g < k
    omega

/-- The new row, its room included. -/
theorem made_full {w' : World} {g n : Nat} {l : List UInt8} {Z X : List Value} (hl : l.length = n) (hZ : Z = List.replicate (n + 16) (.int .u8 0)) (hX : l.map byt = X) (hm : n + 16 ≤ maxLen) (hg : w'.heap[g]? = some (.cells (splice Z 0 X).toArray 5 (0, 0))) :
    w'.ownsRow g 5 1 (.slice (some ⟨g, 0, none⟩) (n + 16) (n + 16)) (n + 16) ((l ++ List.replicate 16 0).map byt) := by
  have hs : splice Z 0 X = (l ++ List.replicate 16 0).map byt := by
    subst hX hZ hl
    simp [splice, byt]
  rw [hs] at hg
  refine ⟨by simp; omega, .inr ⟨g, n + 16, _, rfl, Nat.le_refl _, hg, Nat.le_refl _, hm, ?_, ?_⟩⟩
  · simp; omega
  · rw [List.take_of_length_le (by simp; omega)]

end Go.Proofs.Ytpelndjfamdjlaa.numOwn
