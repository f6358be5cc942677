import Derived.Test.YtnmhnaanpjlniaaEn
import Derived.Test.YtnmhnaanpjlniaaEj
/-
  Layer 13: the document's operations: plain facts. (Written by gen_eo.py.)
-/
namespace Go.Proofs.Ytnmhnaanpjlniaa
open Go.RowKit

def ansR (R : Int × Int) : Value := .tuple #[.int .i64 R.1, .int .i64 R.2]

theorem nat_bd {a : Int} (ha : isI64 a) : a.natAbs ≤ 9223372036854775808 := by unfold isI64 at ha; omega

/-- a number with its sign -/
def sv (n : Bool) (x : Nat) : Int := if n = true then -(x : Int) else x

theorem back_sum (n : Bool) (x : Nat) (m : Bool) (y : Nat) (hx : x ≤ 9223372036854775808) (hy : y ≤ 9223372036854775808) : backR (plusN n x m y).1 (plusN n x m y).2.1 (plusN n x m y).2.2 = if -9223372036854775808 ≤ sv n x + sv m y ∧ sv n x + sv m y ≤ 9223372036854775807 then (sv n x + sv m y, 0) else (0, 22) := by
  unfold plusN sv
  cases n <;> cases m
  · simp only [reduceCtorEq, ↓reduceIte, Bool.false_eq_true, Bool.true_eq_false]
    by_cases h3 : (x : Int) + y < 18446744073709551616
    · rw [if_pos h3]
      unfold backR
      simp only
      by_cases h4 : 9223372036854775808 ≤ (x : Int) + y
      · rw [if_pos (by simp; omega), if_neg (by omega)]
      · rw [if_neg (by simp; omega), if_neg (by simp), if_pos (by omega)]
    · rw [if_neg h3]
      unfold backR
      simp only
      rw [if_pos (by simp), if_neg (by omega)]
  · simp only [reduceCtorEq, ↓reduceIte, Bool.false_eq_true, Bool.true_eq_false]
    by_cases h3 : (y : Int) ≤ x
    · rw [if_pos h3]
      unfold backR
      simp only
      by_cases h4 : (x : Int) - y = 9223372036854775808
      · rw [if_pos (by simp; omega), if_neg (by omega)]
      · rw [if_neg (by simp; omega), if_neg (by simp), if_pos (by omega)]
        congr 1
    · rw [if_neg h3]
      unfold backR
      simp only
      rw [if_neg (by simp; omega), if_pos trivial, if_pos (by omega)]
      congr 1
      omega
  · simp only [reduceCtorEq, ↓reduceIte, Bool.false_eq_true, Bool.true_eq_false]
    by_cases h3 : (y : Int) ≤ x
    · rw [if_pos h3]
      unfold backR
      simp only
      rw [if_neg (by simp; omega), if_pos trivial, if_pos (by omega)]
      congr 1
      omega
    · rw [if_neg h3]
      unfold backR
      simp only
      by_cases h4 : (y : Int) - x = 9223372036854775808
      · rw [if_pos (by simp; omega), if_neg (by omega)]
      · rw [if_neg (by simp; omega), if_neg (by simp), if_pos (by omega)]
        congr 1
        omega
  · simp only [reduceCtorEq, ↓reduceIte, Bool.false_eq_true, Bool.true_eq_false]
    by_cases h3 : (x : Int) + y < 18446744073709551616
    · rw [if_pos h3]
      unfold backR
      simp only
      by_cases h4 : 9223372036854775808 < (x : Int) + y
      · rw [if_pos (.inr (.inl h4)), if_neg (by omega)]
      · rw [if_neg (by simp; omega), if_pos trivial, if_pos (by omega)]
        congr 1
        omega
    · rw [if_neg h3]
      unfold backR
      simp only
      rw [if_pos (by simp), if_neg (by omega)]

theorem sv_abs (a : Int) : sv (decide (a < 0)) a.natAbs = a := by
  unfold sv
  by_cases h : a < 0
  · rw [decide_eq_true h, if_pos rfl]; omega
  · rw [decide_eq_false h, if_neg (by simp)]; omega
theorem sv_neg (a : Int) : sv (!decide (a < 0)) a.natAbs = -a := by
  unfold sv
  by_cases h : a < 0
  · rw [decide_eq_true h, Bool.not_true, if_neg (by simp)]; omega
  · rw [decide_eq_false h, Bool.not_false, if_pos rfl]; omega

theorem back_plus {a b : Int} (ha : isI64 a) (hb : isI64 b) {n m : Bool} {x y : Nat} (hn : n = decide (a < 0)) (hm : m = decide (b < 0)) (hx : x = a.natAbs) (hy : y = b.natAbs) : backR (plusN n x m y).1 (plusN n x m y).2.1 (plusN n x m y).2.2 = plusR a b := by
  rw [back_sum n x m y (by rw [hx]; exact nat_bd ha) (by rw [hy]; exact nat_bd hb), hn, hm, hx, hy, sv_abs, sv_abs]
  rfl
theorem back_minus {a b : Int} (ha : isI64 a) (hb : isI64 b) {n m : Bool} {x y : Nat} (hn : n = decide (a < 0)) (hm : m = decide (b < 0)) (hx : x = a.natAbs) (hy : y = b.natAbs) : backR (plusN n x (!m) y).1 (plusN n x (!m) y).2.1 (plusN n x (!m) y).2.2 = minusR a b := by
  rw [back_sum n x (!m) y (by rw [hx]; exact nat_bd ha) (by rw [hy]; exact nat_bd hb), hn, hm, hx, hy, sv_abs, sv_neg]
  unfold minusR
  rw [show a + -b = a - b by omega]

theorem mul_sign (a b : Int) : a * b = if decide (a < 0) = decide (b < 0) then ((a.natAbs * b.natAbs : Nat) : Int) else -((a.natAbs * b.natAbs : Nat) : Int) := by
  have h := Int.natAbs_mul a b
  by_cases h1 : a < 0 <;> by_cases h2 : b < 0
  · rw [decide_eq_true h1, decide_eq_true h2, if_pos rfl, ← h]
    have := Int.mul_pos_of_neg_of_neg h1 h2
    omega
  · rw [decide_eq_true h1, decide_eq_false h2, if_neg (by simp), ← h]
    have : a * b ≤ 0 := Int.mul_nonpos_of_nonpos_of_nonneg (by omega) (by omega)
    omega
  · rw [decide_eq_false h1, decide_eq_true h2, if_neg (by simp), ← h]
    have : a * b ≤ 0 := Int.mul_nonpos_of_nonneg_of_nonpos (by omega) (by omega)
    omega
  · rw [decide_eq_false h1, decide_eq_false h2, if_pos rfl, ← h]
    have : 0 ≤ a * b := Int.mul_nonneg (by omega) (by omega)
    omega

theorem back_times {a b : Int} {n m : Bool} {x y : Nat} (hn : n = decide (a < 0)) (hm : m = decide (b < 0)) (hx : x = a.natAbs) (hy : y = b.natAbs) : backR (n != m) ((x * y / 18446744073709551616 : Nat) : Int) ((x * y % 18446744073709551616 : Nat) : Int) = timesR a b := by
  have h := mul_sign a b
  rw [← hn, ← hm, ← hx, ← hy] at h
  unfold timesR
  generalize x * y = P at *
  rw [h]
  by_cases e : n = m
  · rw [if_pos e]
    have en : (n != m) = false := by simpa using e
    rw [en]
    unfold backR
    by_cases h4 : (9223372036854775808 : Int) ≤ P
    · rw [if_pos (by simp; omega), if_neg (by omega)]
    · rw [if_neg (by simp; omega), if_neg (by simp), if_pos (by omega)]
      congr 1
      omega
  · rw [if_neg e]
    have en : (n != m) = true := by simpa using e
    rw [en]
    unfold backR
    by_cases h4 : (9223372036854775808 : Int) < P
    · rw [if_pos (by simp; omega), if_neg (by omega)]
    · rw [if_neg (by simp; omega), if_pos rfl, if_pos (by omega)]
      congr 1
      omega

theorem plusN_bd (n : Bool) (x : Nat) (m : Bool) (y : Nat) (hx : x ≤ 9223372036854775808) (hy : y ≤ 9223372036854775808) : (0 ≤ (plusN n x m y).2.1 ∧ (plusN n x m y).2.1 ≤ 18446744073709551615) ∧ (0 ≤ (plusN n x m y).2.2 ∧ (plusN n x m y).2.2 ≤ 18446744073709551615) := by
  unfold plusN
  split
  · split
    · simp only; omega
    · simp only; omega
  · split
    · simp only; omega
    · simp only; omega

theorem tdiv_sv (p q : Bool) (x y : Nat) : (sv p x).tdiv (sv q y) = if p = q then ((x / y : Nat) : Int) else -((x / y : Nat) : Int) := by
  have h : (x : Int).tdiv (y : Int) = ((x / y : Nat) : Int) := rfl
  unfold sv
  cases p <;> cases q
  · simp
  · rw [if_neg (by simp), if_pos rfl, if_neg (by simp), Int.tdiv_neg, h]
  · rw [if_pos rfl, if_neg (by simp), if_neg (by simp), Int.neg_tdiv, h]
  · rw [if_pos rfl, if_pos rfl, if_pos rfl, Int.neg_tdiv, Int.tdiv_neg, h, Int.neg_neg]

theorem tmod_sv (p q : Bool) (x y : Nat) : (sv p x).tmod (sv q y) = sv p (x % y) := by
  have h : (x : Int).tmod (y : Int) = ((x % y : Nat) : Int) := rfl
  unfold sv
  cases p <;> cases q
  · simpa using h
  · rw [if_neg (by simp), if_pos rfl, if_neg (by simp), Int.tmod_neg, h]
  · rw [if_pos rfl, if_neg (by simp), if_pos rfl, Int.neg_tmod, h]
  · rw [if_pos rfl, if_pos rfl, if_pos rfl, Int.neg_tmod, Int.tmod_neg, h]

theorem back_quot {a b : Int} (ha : isI64 a) (hb : isI64 b) (hb0 : b ≠ 0) {p q : Bool} {x y : Nat} (hp : p = decide (a < 0)) (hq : q = decide (b < 0)) (hx : x = a.natAbs) (hy : y = b.natAbs) : backR (!(p == q)) 0 ((x / y : Nat) : Int) = quotR a b := by
  have hxb : x ≤ 9223372036854775808 := by rw [hx]; exact nat_bd ha
  have h1 : x / y ≤ x := Nat.div_le_self x y
  have h2 : y ≠ 1 → x / y ≤ x / 2 := fun h => Nat.div_le_div_left (by omega) (by omega)
  have h3 : y = 1 → x / y = x := fun h => by rw [h, Nat.div_one]
  have hpa : p = true ↔ a < 0 := by rw [hp]; simp
  have hqb : q = true ↔ b < 0 := by rw [hq]; simp
  have ht : a.tdiv b = if p = q then ((x / y : Nat) : Int) else -((x / y : Nat) : Int) := by
    have := tdiv_sv (decide (a < 0)) (decide (b < 0)) a.natAbs b.natAbs
    rw [sv_abs, sv_abs, ← hp, ← hq, ← hx, ← hy] at this
    exact this
  unfold isI64 at ha hb
  unfold quotR backR
  rw [if_neg hb0, ht]
  clear ht
  generalize x / y = z at *
  by_cases hpq : p = q
  · have e : (!(p == q)) = false := by simp [hpq]
    rw [e, if_pos hpq]
    by_cases hm : a = -9223372036854775808 ∧ b = -1
    · rw [if_pos hm, if_pos]
      have := h3 (by omega)
      exact .inr (.inr ⟨by omega, rfl⟩)
    · rw [if_neg hm, if_neg, if_neg (by simp)]
      rintro (h | h | ⟨h, -⟩)
      · exact h rfl
      · omega
      · have hy1 : y = 1 := by
          by_cases g : y = 1
          · exact g
          · have := h2 g; omega
        have hz := h3 hy1
        have han : a < 0 := by omega
        have hbn : b < 0 := hqb.1 (hpq ▸ hpa.2 han)
        exact hm ⟨by omega, by omega⟩
  · have e : (!(p == q)) = true := by simp [hpq]
    rw [e, if_neg hpq]
    have hm : ¬ (a = -9223372036854775808 ∧ b = -1) := fun hm => hpq ((hpa.2 (by omega)).trans (hqb.2 (by omega)).symm)
    rw [if_neg hm, if_neg, if_pos rfl]
    rintro (h | h | ⟨-, h⟩)
    · exact h rfl
    · omega
    · cases h

theorem tmod_abs {a b : Int} {p : Bool} {x y : Nat} (hp : p = decide (a < 0)) (hx : x = a.natAbs) (hy : y = b.natAbs) : a.tmod b = sv p (x % y) := by
  have := tmod_sv (decide (a < 0)) (decide (b < 0)) a.natAbs b.natAbs
  rw [sv_abs, sv_abs, ← hp, ← hx, ← hy] at this
  exact this

theorem back_sv (p : Bool) (z : Nat) (hz : z < 9223372036854775808) : backR p 0 (z : Int) = (sv p z, 0) := by
  unfold backR sv
  rw [if_neg]
  · cases p
    · rfl
    · rfl
  · rintro (h | h | ⟨h, -⟩)
    · exact h rfl
    · omega
    · omega

theorem rest_bd {b : Int} (hb : isI64 b) (hb0 : b ≠ 0) {x y : Nat} (hy : y = b.natAbs) : x % y < y ∧ x % y < 9223372036854775808 := by
  have h1 : y ≤ 9223372036854775808 := by rw [hy]; exact nat_bd hb
  have h2 := Nat.mod_lt x (y := y) (by omega)
  exact ⟨h2, by omega⟩

theorem back_rem {a b : Int} (hb : isI64 b) (hb0 : b ≠ 0) {p : Bool} {x y : Nat} (hp : p = decide (a < 0)) (hx : x = a.natAbs) (hy : y = b.natAbs) : backR p 0 ((x % y : Nat) : Int) = remR a b := by
  rw [back_sv _ _ (rest_bd hb hb0 hy).2]
  unfold remR
  rw [if_neg hb0, tmod_abs hp hx hy]

/-- the rest's and the divisor's signs differ, and there is a rest -/
theorem mod_iff {b : Int} (hb0 : b ≠ 0) {p q : Bool} (hq : q = decide (b < 0)) (z : Nat) : (sv p z ≠ 0 ∧ ¬ (sv p z < 0 ↔ b < 0)) ↔ (z ≠ 0 ∧ p ≠ q) := by
  have hqb : q = true ↔ b < 0 := by rw [hq]; simp
  unfold sv
  by_cases hz : z = 0
  · subst hz
    cases p <;> simp
  · cases p <;> cases q
    · have : ¬ b < 0 := fun h => by have := hqb.2 h; cases this
      simp only [Bool.false_eq_true, if_false, ne_eq, not_true, and_false, iff_false]
      intro h
      exact h.2 ⟨fun h => by omega, fun h => absurd h this⟩
    · have hb : b < 0 := hqb.1 rfl
      simp only [Bool.false_eq_true, if_false, ne_eq, not_false_eq_true, and_true, reduceCtorEq]
      refine ⟨fun _ => hz, fun _ => ⟨by omega, fun h => ?_⟩⟩
      have := h.2 hb
      omega
    · have : ¬ b < 0 := fun h => by have := hqb.2 h; cases this
      simp only [if_true, ne_eq, not_false_eq_true, and_true, reduceCtorEq]
      refine ⟨fun _ => hz, fun _ => ⟨by omega, fun h => ?_⟩⟩
      exact this (h.1 (by omega))
    · have hb : b < 0 := hqb.1 rfl
      simp only [if_true, ne_eq, not_true, and_false, iff_false]
      intro h
      exact h.2 ⟨fun _ => hb, fun _ => by omega⟩

theorem back_mod0 {a b : Int} (hb : isI64 b) (hb0 : b ≠ 0) {p q : Bool} {x y : Nat} (hp : p = decide (a < 0)) (hq : q = decide (b < 0)) (hx : x = a.natAbs) (hy : y = b.natAbs) (h : ¬ (x % y ≠ 0 ∧ p ≠ q)) : backR p 0 ((x % y : Nat) : Int) = modR a b := by
  rw [back_sv _ _ (rest_bd hb hb0 hy).2]
  unfold modR
  rw [if_neg hb0, tmod_abs hp hx hy, if_neg (fun g => h ((mod_iff hb0 hq _).1 g))]

theorem back_mod1 {a b : Int} (hb : isI64 b) (hb0 : b ≠ 0) {p q : Bool} {x y : Nat} (hp : p = decide (a < 0)) (hq : q = decide (b < 0)) (hx : x = a.natAbs) (hy : y = b.natAbs) (h1 : x % y ≠ 0) (h2 : p ≠ q) : backR (plusN p ((x % y : Nat) : Int) q (y : Int)).1 (plusN p ((x % y : Nat) : Int) q (y : Int)).2.1 (plusN p ((x % y : Nat) : Int) q (y : Int)).2.2 = modR a b := by
  have hr := rest_bd (x := x) hb hb0 hy
  have hyb : y ≤ 9223372036854775808 := by rw [hy]; exact nat_bd hb
  have hsq : sv q y = b := by rw [hq, hy, sv_abs]
  rw [back_sum p _ q y (by omega) hyb]
  unfold modR
  rw [if_neg hb0, tmod_abs hp hx hy, if_pos ((mod_iff hb0 hq _).2 ⟨h1, h2⟩), if_pos, hsq]
  unfold sv
  generalize x % y = z at *
  cases p <;> cases q
  · exact absurd rfl h2
  · simp only [Bool.false_eq_true, if_false, if_true]; omega
  · simp only [Bool.false_eq_true, if_false, if_true]; omega
  · exact absurd rfl h2

end Go.Proofs.Ytnmhnaanpjlniaa
/-
  Layer 13: the document's operations: plus, minus, times. (Written by gen_eo.py.)
-/
namespace Go.Proofs.Ytnmhnaanpjlniaa
open Go.RowKit

set_option maxRecDepth 100000 in
set_option maxHeartbeats 4000000 in
theorem tog_plus (a b : Int) (ha : isI64 a) (hb : isI64 b) (w : World) : Calls Try.prog 58 #[.string ⟨#[43]⟩, .int .i64 a, .int .i64 b] w fun e w' => e = .returned (ansR (plusR a b)) ∧ Below w.heap.size w w' := by
  have HA := Lib.hid ha
  have HB := Lib.hid hb
  have hA := nat_bd ha
  have hB := nat_bd hb
  clear ha hb
  have BW := Lib.hid (Below.refl w.heap.size w)
  go_enter Try.func58, Try.ntmps58
  go_wp2_with fail
  refine (of13_any a HA.out _).mono ?_
  rintro e w1 ⟨rfl, hI⟩
  replace BW := Lib.hid (BW.out.trans (hI.mono BW.out.size))
  clear hI
  go_wp2_with fail
  refine (of13_any b HB.out _).mono ?_
  rintro e w2 ⟨rfl, hI⟩
  replace BW := Lib.hid (BW.out.trans (hI.mono BW.out.size))
  clear hI
  unfold numV
  obtain ⟨p, hp⟩ : ∃ p, p = decide (a < 0) := ⟨_, rfl⟩
  obtain ⟨q, hq⟩ : ∃ q, q = decide (b < 0) := ⟨_, rfl⟩
  obtain ⟨x, hx⟩ : ∃ x, x = a.natAbs := ⟨_, rfl⟩
  obtain ⟨y, hy⟩ : ∃ y, y = b.natAbs := ⟨_, rfl⟩
  rw [← hp, ← hq, ← hx, ← hy]
  rw [← hx] at hA
  rw [← hy] at hB
  have PE := Lib.hid hp
  have QE := Lib.hid hq
  have XE := Lib.hid hx
  have YE := Lib.hid hy
  clear hp hq hx hy
  have hb0 := plusN_bd p x q y hA hB
  have RE : Hid (backR (plusN p x q y).1 (plusN p x q y).2.1 (plusN p x q y).2.2 = plusR a b) := Lib.hid (back_plus HA.out HB.out PE.out QE.out XE.out YE.out)
  go_wp2_with fail
  refine (plus13_any p x q y (by omega) (by omega) _).mono ?_
  rintro e w3 ⟨rfl, hI⟩
  unfold nV
  obtain ⟨P, hP⟩ : ∃ P, P = plusN p x q y := ⟨_, rfl⟩
  rw [← hP] at RE hb0 ⊢
  clear hP
  replace BW := Lib.hid (BW.out.trans (((below2 w2 _ _).trans (hI.mono (by simp; omega))).mono BW.out.size))
  clear hI
  go_wp2_with fail
  refine (back13_any P.1 P.2.1 P.2.2 hb0.1 hb0.2 _).mono ?_
  rintro e w4 ⟨rfl, hI⟩
  replace BW := Lib.hid (BW.out.trans (hI.mono BW.out.size))
  clear hI
  rw [RE.out]
  obtain ⟨R, hR⟩ : ∃ R, R = plusR a b := ⟨_, rfl⟩
  have HR := Lib.hid hR
  rw [← hR]
  clear hR RE
  go_wp2
  go_ret2
  rw [← HR.out]
  exact ⟨rfl, BW.out⟩

set_option maxRecDepth 100000 in
set_option maxHeartbeats 4000000 in
theorem tog_minus (a b : Int) (ha : isI64 a) (hb : isI64 b) (w : World) : Calls Try.prog 58 #[.string ⟨#[45]⟩, .int .i64 a, .int .i64 b] w fun e w' => e = .returned (ansR (minusR a b)) ∧ Below w.heap.size w w' := by
  have HA := Lib.hid ha
  have HB := Lib.hid hb
  have hA := nat_bd ha
  have hB := nat_bd hb
  clear ha hb
  have BW := Lib.hid (Below.refl w.heap.size w)
  go_enter Try.func58, Try.ntmps58
  go_wp2_with fail
  refine (of13_any a HA.out _).mono ?_
  rintro e w1 ⟨rfl, hI⟩
  replace BW := Lib.hid (BW.out.trans (hI.mono BW.out.size))
  clear hI
  go_wp2_with fail
  refine (of13_any b HB.out _).mono ?_
  rintro e w2 ⟨rfl, hI⟩
  replace BW := Lib.hid (BW.out.trans (hI.mono BW.out.size))
  clear hI
  unfold numV
  obtain ⟨p, hp⟩ : ∃ p, p = decide (a < 0) := ⟨_, rfl⟩
  obtain ⟨q, hq⟩ : ∃ q, q = decide (b < 0) := ⟨_, rfl⟩
  obtain ⟨x, hx⟩ : ∃ x, x = a.natAbs := ⟨_, rfl⟩
  obtain ⟨y, hy⟩ : ∃ y, y = b.natAbs := ⟨_, rfl⟩
  rw [← hp, ← hq, ← hx, ← hy]
  rw [← hx] at hA
  rw [← hy] at hB
  have PE := Lib.hid hp
  have QE := Lib.hid hq
  have XE := Lib.hid hx
  have YE := Lib.hid hy
  clear hp hq hx hy
  have hb0 := plusN_bd p x (!q) y hA hB
  have RE : Hid (backR (plusN p x (!q) y).1 (plusN p x (!q) y).2.1 (plusN p x (!q) y).2.2 = minusR a b) := Lib.hid (back_minus HA.out HB.out PE.out QE.out XE.out YE.out)
  go_wp2_with fail
  refine (plus13_any p x (!q) y (by omega) (by omega) _).mono ?_
  rintro e w3 ⟨rfl, hI⟩
  unfold nV
  obtain ⟨P, hP⟩ : ∃ P, P = plusN p x (!q) y := ⟨_, rfl⟩
  rw [← hP] at RE hb0 ⊢
  clear hP
  replace BW := Lib.hid (BW.out.trans (((below2 w2 _ _).trans (hI.mono (by simp; omega))).mono BW.out.size))
  clear hI
  go_wp2_with fail
  refine (back13_any P.1 P.2.1 P.2.2 hb0.1 hb0.2 _).mono ?_
  rintro e w4 ⟨rfl, hI⟩
  replace BW := Lib.hid (BW.out.trans (hI.mono BW.out.size))
  clear hI
  rw [RE.out]
  obtain ⟨R, hR⟩ : ∃ R, R = minusR a b := ⟨_, rfl⟩
  have HR := Lib.hid hR
  rw [← hR]
  clear hR RE
  go_wp2
  go_ret2
  rw [← HR.out]
  exact ⟨rfl, BW.out⟩

set_option maxRecDepth 100000 in
set_option maxHeartbeats 4000000 in
theorem tog_times (a b : Int) (ha : isI64 a) (hb : isI64 b) (w : World) : Calls Try.prog 58 #[.string ⟨#[42]⟩, .int .i64 a, .int .i64 b] w fun e w' => e = .returned (ansR (timesR a b)) ∧ Below w.heap.size w w' := by
  have HA := Lib.hid ha
  have HB := Lib.hid hb
  have hA := nat_bd ha
  have hB := nat_bd hb
  clear ha hb
  have BW := Lib.hid (Below.refl w.heap.size w)
  go_enter Try.func58, Try.ntmps58
  go_wp2_with fail
  refine (of13_any a HA.out _).mono ?_
  rintro e w1 ⟨rfl, hI⟩
  replace BW := Lib.hid (BW.out.trans (hI.mono BW.out.size))
  clear hI
  go_wp2_with fail
  refine (of13_any b HB.out _).mono ?_
  rintro e w2 ⟨rfl, hI⟩
  replace BW := Lib.hid (BW.out.trans (hI.mono BW.out.size))
  clear hI
  unfold numV
  obtain ⟨p, hp⟩ : ∃ p, p = decide (a < 0) := ⟨_, rfl⟩
  obtain ⟨q, hq⟩ : ∃ q, q = decide (b < 0) := ⟨_, rfl⟩
  obtain ⟨x, hx⟩ : ∃ x, x = a.natAbs := ⟨_, rfl⟩
  obtain ⟨y, hy⟩ : ∃ y, y = b.natAbs := ⟨_, rfl⟩
  rw [← hp, ← hq, ← hx, ← hy]
  rw [← hx] at hA
  rw [← hy] at hB
  have PE := Lib.hid hp
  have QE := Lib.hid hq
  have XE := Lib.hid hx
  have YE := Lib.hid hy
  clear hp hq hx hy
  have RE : Hid (backR (p != q) ((x * y / 18446744073709551616 : Nat) : Int) ((x * y % 18446744073709551616 : Nat) : Int) = timesR a b) := Lib.hid (back_times PE.out QE.out XE.out YE.out)
  have hxy : x * y ≤ 9223372036854775808 * 9223372036854775808 := Nat.mul_le_mul hA hB
  have hb1 : x * y / 18446744073709551616 ≤ 18446744073709551615 := by omega
  have hb2 : x * y % 18446744073709551616 ≤ 18446744073709551615 := by omega
  go_wp2_with fail
  refine (times13_any p x q y hA hB _).mono ?_
  rintro e w3 ⟨rfl, hI⟩
  unfold numV
  obtain ⟨P, hP⟩ : ∃ P, P = x * y / 18446744073709551616 := ⟨_, rfl⟩
  obtain ⟨Q, hQ⟩ : ∃ P, P = x * y % 18446744073709551616 := ⟨_, rfl⟩
  rw [← hP, ← hQ] at RE ⊢
  rw [← hP] at hb1
  rw [← hQ] at hb2
  clear hP hQ hxy
  replace BW := Lib.hid (BW.out.trans (((below2 w2 _ _).trans (hI.mono (by simp; omega))).mono BW.out.size))
  clear hI
  go_wp2_with fail
  refine (back13_any (p != q) (P : Int) (Q : Int) (by omega) (by omega) _).mono ?_
  rintro e w4 ⟨rfl, hI⟩
  replace BW := Lib.hid (BW.out.trans (hI.mono BW.out.size))
  clear hI
  rw [RE.out]
  obtain ⟨R, hR⟩ : ∃ R, R = timesR a b := ⟨_, rfl⟩
  have HR := Lib.hid hR
  rw [← hR]
  clear hR RE
  go_wp2
  go_ret2
  rw [← HR.out]
  exact ⟨rfl, BW.out⟩

end Go.Proofs.Ytnmhnaanpjlniaa
