/-
  What the readers' value does: the number of n bits from a position on. Conditions: the bits are there, n is at most 64, fewer than 2^40 bytes.
-/
import Derived.Test.YtpjbjbohbdlciaaQExt
namespace Go.Proofs.Ytpjbjbohbdlciaa.Bt
open Go.RowKit

/-- The block of a reader: the bytes D, the first and the last position of the unread bits. T: its type. -/
structure Sp (w : World) (x : Nat) (T : TypeId) (A : Option Addr) (c : Nat) (D : List UInt8) (s e : Nat) : Prop where
  blk : w.heap[x]? = some (.cells #[.slice A D.length c, .int .i64 (s : Int), .int .i64 (e : Int)] T (0, 0))
  rd : Rd w A D
  ne : ∀ ad, A = some ad → ad.block ≠ x ∧ ad.block < w.heap.size

section
variable {w w' : World} {x : Nat} {T : TypeId} {A : Option Addr} {c : Nat} {D : List UInt8} {s e : Nat}
theorem Sp.lt (h : Sp w x T A c D s e) : x < w.heap.size := (Array.getElem?_eq_some_iff.1 h.blk).1
theorem Sp.cell0 (h : Sp w x T A c D s e) : w.cell? ⟨x, 0, none⟩ = some (.slice A D.length c) := by rw [cell_of_row w x 0 _ _ _ h.blk]; rfl
theorem Sp.cell1 (h : Sp w x T A c D s e) : w.cell? ⟨x, 1, none⟩ = some (.int .i64 (s : Int)) := by rw [cell_of_row w x 1 _ _ _ h.blk]; rfl
theorem Sp.cell2 (h : Sp w x T A c D s e) : w.cell? ⟨x, 2, none⟩ = some (.int .i64 (e : Int)) := by rw [cell_of_row w x 2 _ _ _ h.blk]; rfl
theorem Sp.free (h : Sp w x T A c D s e) (i : Nat) : w.frozen? ⟨x, i, none⟩ = false := by simp [World.frozen?, h.blk]
theorem Sp.same (h : Sp w x T A c D s e) (hs : w.heap.size ≤ w'.heap.size) (hb : w'.heap[x]? = w.heap[x]?) (hr : ∀ ad, A = some ad → w'.heap[ad.block]? = w.heap[ad.block]?) : Sp w' x T A c D s e :=
  ⟨hb.trans h.blk, h.rd.same hr, fun ad e => ⟨(h.ne ad e).1, Nat.lt_of_lt_of_le (h.ne ad e).2 hs⟩⟩
theorem Sp.below (h : Sp w x T A c D s e) (hb : Below w.heap.size w w') : Sp w' x T A c D s e :=
  h.same hb.size (hb.block _ h.lt) fun ad e => hb.block _ (h.ne ad e).2
theorem Sp.drewN (h : Sp w x T A c D s e) (d : Nat) : Sp (w.drewN d) x T A c D s e := ⟨h.blk, h.rd, h.ne⟩
theorem Sp.setBlk (h : Sp w x T A c D s e) (s' e' : Nat) (hs : w.heap.size ≤ w'.heap.size) (hb : w'.heap[x]? = some (.cells #[.slice A D.length c, .int .i64 (s' : Int), .int .i64 (e' : Int)] T (0, 0)))
    (hr : ∀ k, k < w.heap.size → k ≠ x → w'.heap[k]? = w.heap[k]?) : Sp w' x T A c D s' e' :=
  ⟨hb, h.rd.same fun ad e => hr _ (h.ne ad e).2 (h.ne ad e).1, fun ad e => ⟨(h.ne ad e).1, Nat.lt_of_lt_of_le (h.ne ad e).2 hs⟩⟩
theorem Sp.set1 (h : Sp w x T A c D s e) (s' : Nat) : Sp (w.setCell ⟨x, 1, none⟩ (.int .i64 (s' : Int))) x T A c D s' e := by
  refine h.setBlk s' e (by simp [World.setCell]) ?_ fun k _ hx => Below.heap_setCell w ⟨x, 1, none⟩ _ k hx
  simp [World.setCell, Array.getElem?_modify, h.blk]
theorem Sp.set2 (h : Sp w x T A c D s e) (e' : Nat) : Sp (w.setCell ⟨x, 2, none⟩ (.int .i64 (e' : Int))) x T A c D s e' := by
  refine h.setBlk s e' (by simp [World.setCell]) ?_ fun k _ hx => Below.heap_setCell w ⟨x, 2, none⟩ _ k hx
  simp [World.setCell, Array.getElem?_modify, h.blk]
end

/-- How many bits are done. -/
def doneOf (w : World) (b : Nat) : Nat := (intOf ((w.cell? ⟨b + 2, 0, none⟩).getD (.int .i64 0))).toNat
theorem Bx.done {w : World} {b n d v : Nat} (h : Bx w b n d v) : doneOf w b = d := by
  rw [doneOf, cell_of_one h.d]; simp [intOf]

theorem bx_start (w : World) (n : Nat) : Bx (((w.alloc (.cells #[.int .i64 (n : Int)] 3)).alloc (.cells #[.int .u64 0] 61)).alloc (.cells #[.int .i64 0] 3)) w.heap.size n 0 0 ∧ Below w.heap.size w (((w.alloc (.cells #[.int .i64 (n : Int)] 3)).alloc (.cells #[.int .u64 0] 61)).alloc (.cells #[.int .i64 0] 3)) := by
  obtain ⟨w1, h1⟩ : ∃ w1, w.alloc (.cells #[.int .i64 (n : Int)] 3) = w1 := ⟨_, rfl⟩
  have s1 : w1.heap.size = w.heap.size + 1 := by rw [← h1, World.size_alloc]
  have b1 : w1.heap[w.heap.size]? = some (.cells #[.int .i64 (n : Int)] 3 (0, 0)) := by rw [← h1]; exact heap_alloc_new w _
  have l1 : Below w.heap.size w w1 := by rw [← h1]; exact (Below.refl _ _).alloc (Nat.le_refl _) _
  rw [h1]
  obtain ⟨w2, h2⟩ : ∃ w2, w1.alloc (.cells #[.int .u64 0] 61) = w2 := ⟨_, rfl⟩
  have s2 : w2.heap.size = w.heap.size + 2 := by rw [← h2, World.size_alloc, s1]
  have b2 : w2.heap[w.heap.size + 1]? = some (.cells #[.int .u64 0] 61 (0, 0)) := by rw [← h2, ← s1]; exact heap_alloc_new w1 _
  have b21 : w2.heap[w.heap.size]? = some (.cells #[.int .i64 (n : Int)] 3 (0, 0)) := by rw [← h2, heap_alloc_old w1 _ (by omega)]; exact b1
  have l2 : Below w.heap.size w w2 := by rw [← h2]; exact l1.alloc (by omega) _
  rw [h2]
  obtain ⟨w3, h3⟩ : ∃ w3, w2.alloc (.cells #[.int .i64 0] 3) = w3 := ⟨_, rfl⟩
  have s3 : w3.heap.size = w.heap.size + 3 := by rw [← h3, World.size_alloc, s2]
  have b3 : w3.heap[w.heap.size + 2]? = some (.cells #[.int .i64 0] 3 (0, 0)) := by rw [← h3, ← s2]; exact heap_alloc_new w2 _
  have b32 : w3.heap[w.heap.size + 1]? = some (.cells #[.int .u64 0] 61 (0, 0)) := by rw [← h3, heap_alloc_old w2 _ (by omega)]; exact b2
  have b31 : w3.heap[w.heap.size]? = some (.cells #[.int .i64 (n : Int)] 3 (0, 0)) := by rw [← h3, heap_alloc_old w2 _ (by omega)]; exact b21
  have l3 : Below w.heap.size w w3 := by rw [← h3]; exact l2.alloc (by omega) _
  rw [h3]
  exact ⟨⟨b31, b32, b3⟩, l3⟩

set_option maxRecDepth 100000 in
set_option maxHeartbeats 2000000 in
theorem value_any {w : World} {x : Nat} {T : TypeId} {A : Option Addr} {c : Nat} {D : List UInt8} {s e : Nat} (h : Sp w x T A c D s e) (i n : Nat) (hn : n ≤ 64) (hi : i + n ≤ 8 * D.length) (hD : D.length ≤ 1099511627776) :
    Calls Try.prog 78 #[.pointer (some ⟨x, 0, none⟩), .int .i64 (i : Int), .int .i64 (n : Int)] w fun e w' => e = .returned (.int .u64 (cut D i n : Int)) ∧ Below w.heap.size w w' := by
  obtain ⟨R, hR⟩ : ∃ R, cut D i n = R := ⟨_, rfl⟩
  rw [hR]
  have HR := Lib.hid hR
  have H := Lib.hid h
  have HI := Lib.hid hi
  have BS := Lib.hid (bx_start w n)
  obtain ⟨N, hN⟩ : ∃ N, D.length = N := ⟨_, rfl⟩
  have HN := Lib.hid hN
  rw [hN] at hD hi
  clear h hR hN
  go_enter Try.func78, Try.ntmps78
  go_wp2_with fail
  go_loopw [] (fun wr => ∃ d, d ≤ n ∧ Hid (Bx wr w.heap.size n d (cut D i d)) ∧ Hid (Below w.heap.size w wr)) (fun wr => n - doneOf wr w.heap.size)
  case atStart => exact ⟨0, by omega, Lib.hid (by rw [cut_zero]; exact BS.out.1), Lib.hid BS.out.2⟩
  case round =>
    obtain ⟨d, hd, HB, HL⟩ := hrel
    have HX := Lib.hid HB.out.done
    have c0 := cell_of_one HB.out.n
    have c1 := cell_of_one HB.out.v
    have c2 := cell_of_one HB.out.d
    by_cases hlt : d < n
    · obtain ⟨r, hr⟩ : ∃ r, d + r = n := ⟨n - d, by omega⟩
      have HRN := Lib.hid hr
      obtain ⟨k, hk⟩ : ∃ k, (i + d) / 8 = k := ⟨_, rfl⟩
      obtain ⟨q, hq⟩ : ∃ q, (i + d) % 8 = q := ⟨_, rfl⟩
      have hq8 : q < 8 := by omega
      have hkN : k < N := by omega
      have hik : i + d = 8 * k + q := by omega
      have ek : ((i : Int) + (d : Int)) / 8 = (k : Int) := by omega
      have eq : ((i : Int) + (d : Int)) % 8 = (q : Int) := by omega
      obtain ⟨b, hb⟩ : ∃ b, D[k]? = some b := ⟨_, List.getElem?_eq_getElem (by rw [HN.out]; exact hkN)⟩
      obtain ⟨ad, rfl, hc⟩ := (H.out.below HL.out).rd k (byt b) (by rw [List.getElem?_map, hb]; rfl)
      have e0 := (H.out.below HL.out).cell0
      rw [HN.out] at e0
      obtain ⟨a, ha⟩ : ∃ a, min r (8 - q) = a := ⟨_, rfl⟩
      have EX := Lib.hid (ext_any HB.out hr b.toNat q b.toNat_lt hq8 hn (cut_lt _ _ _) a ha)
      have HV : Hid (cut D i d + 2 ^ d * (b.toNat / 2 ^ q % 2 ^ a) = cut D i (d + a)) := Lib.hid (by
        rw [cut_add D i d a (by rw [HN.out]; omega), hik, cut_byte hb (by omega)])
      have HA : Hid (0 < a ∧ a ≤ r) := Lib.hid (by omega)
      obtain ⟨y, hy⟩ : ∃ y, b.toNat = y := ⟨_, rfl⟩
      simp only [byt] at hc
      rw [hy] at EX HV hc
      clear hk hq hik hb ha hy hr
      go_wp2_with fail
      refine EX.out.mono ?_
      rintro e w2 ⟨rfl, hb2, hl2⟩
      have B2 := Lib.hid hb2
      have L2 := Lib.hid hl2
      clear hb2 hl2
      go_wp2_with fail
      refine ⟨⟨d + a, by have := HA.out; have := HRN.out; omega, Lib.hid (by rw [← HV.out]; exact B2.out), Lib.hid (HL.out.trans L2.out)⟩, ?_⟩
      rw [HX.out, B2.out.done]
      have := HA.out
      have := HRN.out
      omega
    · have hde : d = n := by omega
      subst hde
      obtain ⟨V, hV⟩ : ∃ V, cut D i d = V := ⟨_, rfl⟩
      have HV := Lib.hid (HR.out.symm.trans hV)
      rw [hV] at c1
      clear hlt hV
      go_wp2
      go_ret
      exact ⟨by rw [HV.out]; rfl, HL.out⟩

end Go.Proofs.Ytpjbjbohbdlciaa.Bt
