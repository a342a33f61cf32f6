/-
  What Backward's Peek does: the last n unread bits, zeros below where there are too few. Conditions: fewer than 2^40 bytes.
-/
import Derived.Test.YtckboifdkagacaaBwd
namespace Go.Proofs.Ytckboifdkagacaa
open Go.RowKit

set_option maxHeartbeats 400000 in
theorem peek_nil (w : World) (n : Int) : Calls Try.prog 22 #[.pointer none, .int .i64 n] w fun e w' => e = .returned (.int .u64 0) ∧ ∃ d, w' = w.drewN d := by
  go_enter Try.func22, Try.ntmps22
  go_wp2
  go_ret
  exact ⟨rfl, 0, rfl⟩

/-- What Peek answers: m bits, the unread ones end at e. -/
def pk (D : List UInt8) (e m : Nat) : Nat := cut D (e - min m e) (min m e) * 2 ^ (m - min m e)
def PkPost (w : World) (V : Nat) (r : Ending) (w' : World) : Prop := r = .returned (.int .u64 (V : Int)) ∧ Below w.heap.size w w'

theorem shl_small {V t g : Nat} (hV : V < 2 ^ t) (ht : t + g ≤ 64) : IntKind.u64.wrap ((V : Int) * 2 ^ g) = ((V * 2 ^ g : Nat) : Int) := by
  have h1 : V * 2 ^ g < 2 ^ t * 2 ^ g := (Nat.mul_lt_mul_right (Nat.two_pow_pos g)).2 hV
  have h2 : 2 ^ t * 2 ^ g ≤ 18446744073709551616 := by
    rw [← Nat.pow_add]
    exact Nat.pow_le_pow_right (n := 2) (by decide) ht
  have e1 : ((V : Int) * 2 ^ g) = ((V * 2 ^ g : Nat) : Int) := by rw [Int.natCast_mul, Int.natCast_pow]; rfl
  rw [e1]
  exact IntWalk.u64_in _ (by omega)


set_option maxRecDepth 100000 in
set_option maxHeartbeats 2000000 in
theorem peek_b {w : World} {x : Nat} {T : TypeId} {A : Option Addr} {c : Nat} {D : List UInt8} {e : Nat} (h : Sp w x T A c D 0 e) (he : e ≤ 8 * D.length) (hD : D.length ≤ 1099511627776) (m : Nat) (hm : m ≤ 64) (hme : m ≤ e) :
    Calls Try.prog 22 #[.pointer (some ⟨x, 0, none⟩), .int .i64 (m : Int)] w (PkPost w (pk D e m)) := by
  have CT := Lib.hid (count_any h e (by omega) (by omega))
  have c2 := h.cell2
  have he2 : e ≤ 8796093022208 := by omega
  obtain ⟨f, hf⟩ : ∃ f, e - m = f := ⟨_, rfl⟩
  have VL := Lib.hid (fun d => value_any (h.drewN d) f m hm (by omega) hD)
  obtain ⟨V, hV⟩ : ∃ V, cut D f m = V := ⟨_, rfl⟩
  simp only [hV] at VL
  have hp : pk D e m = V := by rw [pk, Nat.min_eq_left hme, hf, hV, Nat.sub_self, Nat.pow_zero, Nat.mul_one]
  have hVl : V < 2 ^ m := by rw [← hV]; exact cut_lt _ _ _
  have HV : Hid (IntKind.u64.wrap (V : Int) = (V : Int)) := Lib.hid (by
    have h2 : 2 ^ m ≤ 18446744073709551616 := Nat.pow_le_pow_right (n := 2) (by decide) hm
    exact IntWalk.u64_in _ (by omega))
  rw [hp]
  have ef : (e : Int) - (m : Int) = (f : Int) := by omega
  have HEF := Lib.hid ef
  have ew0 : IntKind.i64.wrap (f : Int) = (f : Int) := IntWalk.i64_in _ (by omega)
  have EW0 := Lib.hid ew0
  clear h hV hp hf hVl ef ew0
  go_enter Try.func22, Try.ntmps22
  go_wp2_with fail
  refine CT.out.mono ?_
  rintro e w1 ⟨rfl, d, rfl⟩
  clear CT
  go_wp2_with fail
  all_goals first
    | (exfalso; omega)
    | skip
  all_goals have ew : IntKind.i64.wrap ((e : Int) - (m : Int)) = (f : Int) := by rw [HEF.out]; exact EW0.out
  all_goals have ez : IntKind.i64.wrap 0 = 0 := rfl
  all_goals have ev := HV.out
  all_goals go_region_law (first
    | (go_simp; go_at_call 35; refine (VL.out _).mono ?_; rintro e w2 ⟨rfl, hb2⟩; have B2 := Lib.hid hb2; clear hb2))
  all_goals go_wp2
  all_goals go_ret
  all_goals exact ⟨by first | rfl | (rw [← HV.out]; rfl), below_of_dr B2.out⟩


set_option maxRecDepth 100000 in
set_option maxHeartbeats 2000000 in
theorem peek_c {w : World} {x : Nat} {T : TypeId} {A : Option Addr} {c : Nat} {D : List UInt8} {e : Nat} (h : Sp w x T A c D 0 e) (he : e ≤ 8 * D.length) (hD : D.length ≤ 1099511627776) (m : Nat) (hm : m ≤ 64) (hme : e < m) :
    Calls Try.prog 22 #[.pointer (some ⟨x, 0, none⟩), .int .i64 (m : Int)] w (PkPost w (pk D e m)) := by
  have CT := Lib.hid (count_any h e (by omega) (by omega))
  have c2 := h.cell2
  have he2 : e ≤ 8796093022208 := by omega
  obtain ⟨g, hg⟩ : ∃ g, m - e = g := ⟨_, rfl⟩
  have VL := Lib.hid (fun d => value_any (h.drewN d) 0 e (by omega) (by omega) hD)
  obtain ⟨V, hV⟩ : ∃ V, cut D 0 e = V := ⟨_, rfl⟩
  simp only [hV] at VL
  have hp : pk D e m = V * 2 ^ g := by rw [pk, Nat.min_eq_right (by omega), hg, Nat.sub_self, hV]
  have hVl : V < 2 ^ e := by rw [← hV]; exact cut_lt _ _ _
  have hsh : IntKind.u64.wrap ((V : Int) * 2 ^ min g 64) = ((V * 2 ^ g : Nat) : Int) := by
    rw [Nat.min_eq_left (by omega)]
    exact shl_small (g := g) hVl (by omega)
  obtain ⟨U, hU⟩ : ∃ U, V * 2 ^ g = U := ⟨_, rfl⟩
  rw [hU] at hsh hp
  rw [hp]
  have HSH := Lib.hid hsh
  have eg : (m : Int) - (e : Int) = (g : Int) := by omega
  have HEG := Lib.hid eg
  have ew0 : IntKind.i64.wrap (g : Int) = (g : Int) := IntWalk.i64_in _ (by omega)
  have EW0 := Lib.hid ew0
  clear h hV hp hg hVl eg ew0 hsh hU
  go_enter Try.func22, Try.ntmps22
  go_wp2_with fail
  refine CT.out.mono ?_
  rintro e w1 ⟨rfl, d, rfl⟩
  clear CT
  go_wp2_with fail
  all_goals first
    | (exfalso; omega)
    | skip
  all_goals have ew : IntKind.i64.wrap ((m : Int) - (e : Int)) = (g : Int) := by rw [HEG.out]; exact EW0.out
  all_goals have ez : IntKind.i64.wrap 0 = 0 := rfl
  all_goals have HV := HSH
  all_goals have ev := HSH.out
  all_goals go_region_law (first
    | (go_simp; go_at_call 35; refine (VL.out _).mono ?_; rintro e w2 ⟨rfl, hb2⟩; have B2 := Lib.hid hb2; clear hb2))
  all_goals go_wp2
  all_goals go_ret
  all_goals exact ⟨by first | rfl | (rw [← HV.out]; rfl), below_of_dr B2.out⟩


set_option maxRecDepth 100000 in
set_option maxHeartbeats 2000000 in
theorem peek_e {w : World} {x : Nat} {T : TypeId} {A : Option Addr} {c : Nat} {D : List UInt8} {e : Nat} (h : Sp w x T A c D 0 e) (he : e ≤ 8 * D.length) (hD : D.length ≤ 1099511627776) (n : Int) (hn : 64 < n) (hme : e < 64) :
    Calls Try.prog 22 #[.pointer (some ⟨x, 0, none⟩), .int .i64 n] w (PkPost w (pk D e 64)) := by
  have CT := Lib.hid (count_any h e (by omega) (by omega))
  have c2 := h.cell2
  have he2 : e ≤ 8796093022208 := by omega
  obtain ⟨g, hg⟩ : ∃ g, 64 - e = g := ⟨_, rfl⟩
  have VL := Lib.hid (fun d => value_any (h.drewN d) 0 e (by omega) (by omega) hD)
  obtain ⟨V, hV⟩ : ∃ V, cut D 0 e = V := ⟨_, rfl⟩
  simp only [hV] at VL
  have hp : pk D e 64 = V * 2 ^ g := by rw [pk, Nat.min_eq_right (by omega), hg, Nat.sub_self, hV]
  have hVl : V < 2 ^ e := by rw [← hV]; exact cut_lt _ _ _
  have hsh : IntKind.u64.wrap ((V : Int) * 2 ^ min g 64) = ((V * 2 ^ g : Nat) : Int) := by
    rw [Nat.min_eq_left (by omega)]
    exact shl_small (g := g) hVl (by omega)
  obtain ⟨U, hU⟩ : ∃ U, V * 2 ^ g = U := ⟨_, rfl⟩
  rw [hU] at hsh hp
  rw [hp]
  have HSH := Lib.hid hsh
  have eg : 64 - (e : Int) = (g : Int) := by omega
  have HEG := Lib.hid eg
  have ew0 : IntKind.i64.wrap (g : Int) = (g : Int) := IntWalk.i64_in _ (by omega)
  have EW0 := Lib.hid ew0
  clear h hV hp hg hVl eg ew0 hsh hU
  go_enter Try.func22, Try.ntmps22
  go_wp2_with fail
  refine CT.out.mono ?_
  rintro e w1 ⟨rfl, d, rfl⟩
  clear CT
  go_wp2_with fail
  all_goals first
    | (exfalso; omega)
    | skip
  all_goals have ew : IntKind.i64.wrap (64 - (e : Int)) = (g : Int) := by rw [HEG.out]; exact EW0.out
  all_goals have ez : IntKind.i64.wrap 0 = 0 := rfl
  all_goals have HV := HSH
  all_goals have ev := HSH.out
  all_goals go_region_law (first
    | (go_simp; go_at_call 35; refine (VL.out _).mono ?_; rintro e w2 ⟨rfl, hb2⟩; have B2 := Lib.hid hb2; clear hb2))
  all_goals go_wp2
  all_goals go_ret
  all_goals exact ⟨by first | rfl | (rw [← HV.out]; rfl), below_of_dr B2.out⟩


set_option maxRecDepth 100000 in
set_option maxHeartbeats 2000000 in
theorem peek_d {w : World} {x : Nat} {T : TypeId} {A : Option Addr} {c : Nat} {D : List UInt8} {e : Nat} (h : Sp w x T A c D 0 e) (he : e ≤ 8 * D.length) (hD : D.length ≤ 1099511627776) (n : Int) (hn : 64 < n) (hme : 64 ≤ e) :
    Calls Try.prog 22 #[.pointer (some ⟨x, 0, none⟩), .int .i64 n] w (PkPost w (pk D e 64)) := by
  have CT := Lib.hid (count_any h e (by omega) (by omega))
  have c2 := h.cell2
  have he2 : e ≤ 8796093022208 := by omega
  obtain ⟨f, hf⟩ : ∃ f, e - 64 = f := ⟨_, rfl⟩
  have VL := Lib.hid (fun d => value_any (h.drewN d) f 64 (by omega) (by omega) hD)
  obtain ⟨V, hV⟩ : ∃ V, cut D f 64 = V := ⟨_, rfl⟩
  simp only [hV] at VL
  have hp : pk D e 64 = V := by rw [pk, Nat.min_eq_left hme, hf, hV, Nat.sub_self, Nat.pow_zero, Nat.mul_one]
  have hVl : V < 2 ^ 64 := by rw [← hV]; exact cut_lt _ _ _
  have HV : Hid (IntKind.u64.wrap (V : Int) = (V : Int)) := Lib.hid (IntWalk.u64_in _ (by omega))
  rw [hp]
  have ef : (e : Int) - 64 = (f : Int) := by omega
  have HEF := Lib.hid ef
  have ew0 : IntKind.i64.wrap (f : Int) = (f : Int) := IntWalk.i64_in _ (by omega)
  have EW0 := Lib.hid ew0
  clear h hV hp hf hVl ef ew0
  go_enter Try.func22, Try.ntmps22
  go_wp2_with fail
  refine CT.out.mono ?_
  rintro e w1 ⟨rfl, d, rfl⟩
  clear CT
  go_wp2_with fail
  all_goals first
    | (exfalso; omega)
    | skip
  all_goals have ew : IntKind.i64.wrap ((e : Int) - 64) = (f : Int) := by rw [HEF.out]; exact EW0.out
  all_goals have ez : IntKind.i64.wrap 0 = 0 := rfl
  all_goals have ev := HV.out
  all_goals go_region_law (first
    | (go_simp; go_at_call 35; refine (VL.out _).mono ?_; rintro e w2 ⟨rfl, hb2⟩; have B2 := Lib.hid hb2; clear hb2))
  all_goals go_wp2
  all_goals go_ret
  all_goals exact ⟨by first | rfl | (rw [← HV.out]; rfl), below_of_dr B2.out⟩


set_option maxRecDepth 100000 in
set_option maxHeartbeats 2000000 in
theorem peek_a {w : World} {x : Nat} {T : TypeId} {A : Option Addr} {c : Nat} {D : List UInt8} {e : Nat} (h : Sp w x T A c D 0 e) (he : e ≤ 8 * D.length) (hD : D.length ≤ 1099511627776) (n : Int) (hn : n < 0) :
    Calls Try.prog 22 #[.pointer (some ⟨x, 0, none⟩), .int .i64 n] w (PkPost w (pk D e 0)) := by
  have CT := Lib.hid (count_any h e (by omega) (by omega))
  have c2 := h.cell2
  have he2 : e ≤ 8796093022208 := by omega
  have VL := Lib.hid (fun d => value_any (h.drewN d) e 0 (by omega) (by omega) hD)
  simp only [cut_zero] at VL
  have hp : pk D e 0 = 0 := by rw [pk, Nat.min_eq_left (by omega), cut_zero, Nat.zero_mul]
  have HV : Hid (IntKind.u64.wrap 0 = 0) := Lib.hid rfl
  rw [hp]
  have ew0 : IntKind.i64.wrap (e : Int) = (e : Int) := IntWalk.i64_in _ (by omega)
  have EW0 := Lib.hid ew0
  clear h hp ew0
  go_enter Try.func22, Try.ntmps22
  go_wp2_with fail
  refine CT.out.mono ?_
  rintro e w1 ⟨rfl, d, rfl⟩
  clear CT
  go_wp2_with fail
  all_goals first
    | (exfalso; omega)
    | skip
  all_goals have ew := EW0.out
  all_goals have ez : IntKind.i64.wrap 0 = 0 := rfl
  all_goals have ev := HV.out
  all_goals go_region_law (first
    | (go_simp; go_at_call 35; refine (VL.out _).mono ?_; rintro e w2 ⟨rfl, hb2⟩; have B2 := Lib.hid hb2; clear hb2))
  all_goals go_wp2
  all_goals go_ret
  all_goals exact ⟨by first | rfl | (rw [← HV.out]; rfl), below_of_dr B2.out⟩


theorem peek_any {w : World} {x : Nat} {T : TypeId} {A : Option Addr} {c : Nat} {D : List UInt8} {e : Nat} (h : Sp w x T A c D 0 e) (he : e ≤ 8 * D.length) (hD : D.length ≤ 1099511627776) (n : Int) (m : Nat) (hm : min n.toNat 64 = m) :
    Calls Try.prog 22 #[.pointer (some ⟨x, 0, none⟩), .int .i64 n] w (PkPost w (pk D e m)) := by
  by_cases h1 : n < 0
  · obtain rfl : m = 0 := by omega
    exact peek_a h he hD n h1
  · by_cases h2 : 64 < n
    · obtain rfl : m = 64 := by omega
      by_cases h3 : 64 ≤ e
      · exact peek_d h he hD n h2 h3
      · exact peek_e h he hD n h2 (by omega)
    · obtain rfl : n = (m : Int) := by omega
      by_cases h3 : m ≤ e
      · exact peek_b h he hD m (by omega) h3
      · exact peek_c h he hD m (by omega) (by omega)

end Go.Proofs.Ytckboifdkagacaa
