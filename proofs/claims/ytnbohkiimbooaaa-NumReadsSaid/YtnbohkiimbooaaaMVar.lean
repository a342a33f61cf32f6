/-
  What the methods Varint and Byte of a cursor do: the value and the error as the functions gv and headB say, the cursor behind the value or where it was; ErrNil for a nil cursor. Condition: at most 3 * 10^14 bytes.
-/
import Derived.Test.YtnbohkiimbooaaaReadU64
import Derived.Test.YtnbohkiimbooaaaReadBy
namespace Go.Proofs.Ytnbohkiimbooaaa
open Go.RowKit Go.Shelf

/-- A read that answers v and err; without an error it passes len bytes. -/
def RN (w : World) (c : Nat) (A : Option Addr) (cap : Nat) (l : List UInt8) (k : Nat) (v : Value) (err : Int) (len : Nat) (e : Ending) (w' : World) : Prop :=
  e = .returned (.tuple #[v, .int .i64 err]) ∧ Cur w' c A cap l (if err = 0 then k + len else k) ∧ w.grownBy w' (some c)

/-- The inner step's answer is v and err. -/
def OkIs (v : Value) (err : Int) (_ : World) (v' : Value) (err' : Int) (_ : World) : Prop := v' = v ∧ err' = err

theorem rn_of_read {w : World} {c : Nat} {A : Option Addr} {cap : Nat} {l : List UInt8} {k len : Nat} {v : Value} {err : Int} {o : Obj} {e : Ending} {w' : World} (h : ReadPost (w.alloc o) c A cap l k (k + len) (OkIs v err) e w') :
    RN w c A cap l k v err len e w' := by
  obtain ⟨v', err', W, W1, rfl, hc, hg, _, _, ⟨rfl, rfl⟩, _⟩ := h
  exact ⟨rfl, hc, grown_trans (World.grownBy_alloc w o (some c)) hg⟩

theorem rn_of_read2 {w : World} {c : Nat} {A : Option Addr} {cap : Nat} {l : List UInt8} {k len : Nat} {v : Value} {err : Int} {o o' : Obj} {e : Ending} {w' : World} (h : ReadPost ((w.alloc o).alloc o') c A cap l k (k + len) (OkIs v err) e w') :
    RN w c A cap l k v err len e w' := by
  obtain ⟨v', err', W, W1, rfl, hc, hg, _, _, ⟨rfl, rfl⟩, _⟩ := h
  exact ⟨rfl, hc, grown_trans (World.grownBy_alloc w o (some c)) (grown_trans (World.grownBy_alloc _ o' (some c)) hg)⟩

theorem Cur.alloc {w : World} {c : Nat} {A : Option Addr} {cap : Nat} {l : List UInt8} {k : Nat} (h : Cur w c A cap l k) (o : Obj) : Cur (w.alloc o) c A cap l k := h.below ((Below.refl _ _).alloc (Nat.le_refl _) _)

set_option maxHeartbeats 400000 in
theorem varint1_any {w : World} {c : Nat} {A : Option Addr} {cap : Nat} {l : List UInt8} {k B : Nat} (h : Cur w c A cap l k) (hB : w.cell? ⟨B, 0, none⟩ = some (.pointer (some ⟨c, 0, none⟩))) :
    Calls Try.prog 42 #[.pointer (some ⟨B, 0, none⟩)] w (TakePost w c A cap l (k + (gv (l.drop k)).len) (OkIs (.int .u64 ((gv (l.drop k)).val : Int)) ((gv (l.drop k)).err : Int))) := by
  have HX := Lib.hid (nextVarint_any h)
  clear h
  generalize gv (l.drop k) = r at *
  go_enter Try.func42, Try.ntmps42
  go_wp2_with fail
  refine HX.out.mono ?_
  rintro e w1 ⟨k', rfl, hc, hg, hk⟩
  have HC := Lib.hid hc
  have HG := Lib.hid hg
  have HK := Lib.hid hk
  clear hc hg hk
  go_wp2
  go_ret2
  exact ⟨_, _, rfl, ⟨k', HC.out, fun h => HK.out (by omega)⟩, HG.out, rfl, rfl⟩

set_option maxHeartbeats 400000 in
theorem varint_any {w : World} {c : Nat} {A : Option Addr} {cap : Nat} {l : List UInt8} {k : Nat} (h : Cur w c A cap l k) :
    Calls Try.prog 23 #[.pointer (some ⟨c, 0, none⟩)] w (RN w c A cap l k (.int .u64 ((gv (l.drop k)).val : Int)) ((gv (l.drop k)).err : Int) (gv (l.drop k)).len) := by
  have hmf : ∀ (fn : Fn) (first cap : Array Value) (w : World), (Instr.makeFunc fn first cap).run Try.prog w = .ok (.func fn first cap) w := fun _ _ _ _ => rfl
  have hcl := h.blk.lt
  have hT : ∀ W, Below (w.alloc (.cells #[.pointer (some ⟨c, 0, none⟩)] 36)).heap.size (w.alloc (.cells #[.pointer (some ⟨c, 0, none⟩)] 36)) W → W.heap.size = (w.alloc (.cells #[.pointer (some ⟨c, 0, none⟩)] 36)).heap.size + 3 →
      Calls Try.prog 42 #[.pointer (some ⟨w.heap.size, 0, none⟩)] W (TakePost W c A cap l (k + (gv (l.drop k)).len) (OkIs (.int .u64 ((gv (l.drop k)).val : Int)) ((gv (l.drop k)).err : Int))) := by
    intro W hb _
    refine varint1_any ((h.alloc _).below hb) ?_
    rw [hb.cell (by simp)]; simp [go_sem]
  have HX := Lib.hid (read_u64_any (h.alloc (.cells #[.pointer (some ⟨c, 0, none⟩)] 36)) _ _ _ hT)
  clear h hT
  generalize gv (l.drop k) = r at *
  go_enter Try.func23, Try.ntmps23
  go_wp2_with fail
  refine HX.out.mono ?_
  intro e w1 h1
  have h2 := rn_of_read h1
  obtain ⟨rfl, hc, hg⟩ := h2
  have HC := Lib.hid hc
  have HG := Lib.hid hg
  clear hc hg h1
  go_wp2
  go_ret2
  exact ⟨rfl, HC.out, HG.out⟩

set_option maxHeartbeats 400000 in
theorem varint_nil (w : World) : Calls Try.prog 23 #[.pointer none] w fun e w' => e = .returned (.tuple #[.int .u64 0, .int .i64 1]) ∧ Below w.heap.size w w' := by
  have hmf : ∀ (fn : Fn) (first cap : Array Value) (w : World), (Instr.makeFunc fn first cap).run Try.prog w = .ok (.func fn first cap) w := fun _ _ _ _ => rfl
  go_enter Try.func23, Try.ntmps23
  go_wp2_with fail
  refine (read_u64_nil _ _).mono ?_
  rintro e w1 ⟨rfl, hb⟩
  go_wp2
  go_ret2
  exact ⟨rfl, ((Below.refl _ _).alloc (Nat.le_refl _) _).trans (hb.mono (by simp))⟩

/-- The first byte, or that there is none. -/
def headB : List UInt8 → Nat × Nat
  | [] => (0, 3)
  | b :: _ => (b.toNat, 0)

set_option maxHeartbeats 400000 in
theorem byte1_any {w : World} {c : Nat} {A : Option Addr} {cap : Nat} {l : List UInt8} {k B : Nat} (h : Cur w c A cap l k) (hB : w.cell? ⟨B, 0, none⟩ = some (.pointer (some ⟨c, 0, none⟩))) :
    Calls Try.prog 61 #[.pointer (some ⟨B, 0, none⟩)] w (TakePost w c A cap l (k + 1) (OkIs (.int .u8 ((headB (l.drop k)).1 : Int)) ((headB (l.drop k)).2 : Int))) := by
  by_cases hk : k < l.length
  · obtain ⟨b, hb⟩ : ∃ b, l[k]? = some b := ⟨_, List.getElem?_eq_getElem hk⟩
    have HX := Lib.hid (nextByte_ok h b hb)
    have hd : headB (l.drop k) = (b.toNat, 0) := by rw [List.drop_eq_getElem_cons hk, (List.getElem?_eq_some_iff.1 hb).2]; rfl
    rw [hd]
    clear h hb hd
    go_enter Try.func61, Try.ntmps61
    go_wp2_with fail
    refine HX.out.mono ?_
    rintro e w1 ⟨rfl, hc, hg⟩
    have HC := Lib.hid hc
    have HG := Lib.hid hg
    clear hc hg
    go_wp2
    go_ret2
    exact ⟨_, _, rfl, ⟨_, HC.out, fun _ => rfl⟩, HG.out, rfl, rfl⟩
  · have HX := Lib.hid (nextByte_short h (by omega))
    have H := Lib.hid h
    have hd : headB (l.drop k) = (0, 3) := by rw [List.drop_eq_nil_of_le (by omega)]; rfl
    rw [hd]
    clear h hd
    go_enter Try.func61, Try.ntmps61
    go_wp2_with fail
    refine HX.out.mono ?_
    rintro e w1 ⟨rfl, d, rfl⟩
    go_wp2
    go_ret2
    exact ⟨_, _, rfl, ⟨_, H.out.drewN d, fun h => by simp at h⟩, grown_drewN (World.grownBy.refl _ _) d, rfl, rfl⟩

set_option maxHeartbeats 400000 in
theorem byte_any {w : World} {c : Nat} {A : Option Addr} {cap : Nat} {l : List UInt8} {k : Nat} (h : Cur w c A cap l k) :
    Calls Try.prog 46 #[.pointer (some ⟨c, 0, none⟩)] w (RN w c A cap l k (.int .u8 ((headB (l.drop k)).1 : Int)) ((headB (l.drop k)).2 : Int) 1) := by
  have hmf : ∀ (fn : Fn) (first cap : Array Value) (w : World), (Instr.makeFunc fn first cap).run Try.prog w = .ok (.func fn first cap) w := fun _ _ _ _ => rfl
  have hcl := h.blk.lt
  have hT : ∀ W, Below (w.alloc (.cells #[.pointer (some ⟨c, 0, none⟩)] 36)).heap.size (w.alloc (.cells #[.pointer (some ⟨c, 0, none⟩)] 36)) W → W.heap.size = (w.alloc (.cells #[.pointer (some ⟨c, 0, none⟩)] 36)).heap.size + 3 →
      Calls Try.prog 61 #[.pointer (some ⟨w.heap.size, 0, none⟩)] W (TakePost W c A cap l (k + 1) (OkIs (.int .u8 ((headB (l.drop k)).1 : Int)) ((headB (l.drop k)).2 : Int))) := by
    intro W hb _
    refine byte1_any ((h.alloc _).below hb) ?_
    rw [hb.cell (by simp)]; simp [go_sem]
  have HX := Lib.hid (read_by_any (h.alloc (.cells #[.pointer (some ⟨c, 0, none⟩)] 36)) _ _ _ hT)
  clear h hT
  generalize headB (l.drop k) = r at *
  go_enter Try.func46, Try.ntmps46
  go_wp2_with fail
  refine HX.out.mono ?_
  intro e w1 h1
  have h2 := rn_of_read h1
  obtain ⟨rfl, hc, hg⟩ := h2
  have HC := Lib.hid hc
  have HG := Lib.hid hg
  clear hc hg h1
  go_wp2
  go_ret2
  exact ⟨rfl, HC.out, HG.out⟩

set_option maxHeartbeats 400000 in
theorem byte_nil (w : World) : Calls Try.prog 46 #[.pointer none] w fun e w' => e = .returned (.tuple #[.int .u8 0, .int .i64 1]) ∧ Below w.heap.size w w' := by
  have hmf : ∀ (fn : Fn) (first cap : Array Value) (w : World), (Instr.makeFunc fn first cap).run Try.prog w = .ok (.func fn first cap) w := fun _ _ _ _ => rfl
  go_enter Try.func46, Try.ntmps46
  go_wp2_with fail
  refine (read_by_nil _ _).mono ?_
  rintro e w1 ⟨rfl, hb⟩
  go_wp2
  go_ret2
  exact ⟨rfl, ((Below.refl _ _).alloc (Nat.le_refl _) _).trans (hb.mono (by simp))⟩

end Go.Proofs.Ytnbohkiimbooaaa
