/-
  What sums, products, quotients and rests are to one another, as the law's walk asks it.
-/
import Derived.Test.YtbpacicbbepdhaaRi
namespace Go.Proofs.Ytbpacicbbepdhaa
open Go.RowKit

def tup (x k : Int) : Value := .tuple #[.int .i64 x, .int .i64 k]

def valOf (R : Int × Int) : Int := if R.2 = 0 then R.1 else 0

theorem valOf_ok {n : Int} : valOf (n, 0) = n := rfl

theorem plusR_comm (a b : Int) : plusR b a = plusR a b := by unfold plusR; rw [Int.add_comm]
theorem timesR_comm (a b : Int) : timesR b a = timesR a b := by unfold timesR; rw [Int.mul_comm]

theorem plusR_cases (a b : Int) : (isI64 (a + b) ∧ plusR a b = (a + b, 0)) ∨ (¬ isI64 (a + b) ∧ plusR a b = (0, 22)) := by
  unfold plusR isI64
  by_cases h : -9223372036854775808 ≤ a + b ∧ a + b ≤ 9223372036854775807
  · exact .inl ⟨h, if_pos h⟩
  · exact .inr ⟨h, if_neg h⟩
theorem timesR_cases (a b : Int) : (isI64 (a * b) ∧ timesR a b = (a * b, 0)) ∨ (¬ isI64 (a * b) ∧ timesR a b = (0, 22)) := by
  unfold timesR isI64
  by_cases h : -9223372036854775808 ≤ a * b ∧ a * b ≤ 9223372036854775807
  · exact .inl ⟨h, if_pos h⟩
  · exact .inr ⟨h, if_neg h⟩
theorem minusR_ok {a b : Int} (h : isI64 (a - b)) : minusR a b = (a - b, 0) := if_pos h

theorem i64_zero : isI64 0 := by unfold isI64; omega
theorem valOf_i64 {R : Int × Int} (h : isI64 R.1) : isI64 (valOf R) := by
  unfold valOf
  split
  · exact h
  · exact i64_zero
theorem timesR_i64 (a b : Int) : isI64 (valOf (timesR a b)) := by
  rcases timesR_cases a b with ⟨h, e⟩ | ⟨_, e⟩
  · rw [e]; exact h
  · rw [e]; exact i64_zero

/-- the rest: its sign, and how great it is -/
theorem rest (a b : Int) (ha : isI64 a) (hb : isI64 b) (h : b ≠ 0) :
    isI64 (a.tmod b) ∧ (0 ≤ a → 0 ≤ a.tmod b ∧ a.tmod b ≤ a) ∧ (a < 0 → a.tmod b ≤ 0 ∧ a ≤ a.tmod b) ∧ (b < 0 → b < a.tmod b ∧ a.tmod b < -b) ∧ (0 < b → -b < a.tmod b ∧ a.tmod b < b) := by
  have h1 : (a.tmod b).natAbs = a.natAbs % b.natAbs := Int.natAbs_tmod a b
  have h2 : a.natAbs % b.natAbs < b.natAbs := Nat.mod_lt _ (by omega)
  have h3 : a.natAbs % b.natAbs ≤ a.natAbs := Nat.mod_le _ _
  have h4 : 0 ≤ a → 0 ≤ a.tmod b := fun h => Int.tmod_nonneg b h
  have h5 : a < 0 → a.tmod b ≤ 0 := fun h => by
    have := Int.tmod_nonneg (a := -a) b (by omega)
    rw [Int.neg_tmod] at this
    omega
  unfold isI64 at *
  refine ⟨?_, ?_, ?_, ?_, ?_⟩ <;> omega

def modOf (a b : Int) : Int := if a.tmod b ≠ 0 ∧ ¬ (a.tmod b < 0 ↔ b < 0) then a.tmod b + b else a.tmod b

theorem modR_eq (a b : Int) (h : b ≠ 0) : modR a b = (modOf a b, 0) := by
  unfold modR modOf
  rw [if_neg h]
  split <;> rfl

theorem mod_facts (a b : Int) (ha : isI64 a) (hb : isI64 b) (h : b ≠ 0) :
    isI64 (modOf a b) ∧ (modOf a b - a.tmod b = 0 ∨ modOf a b - a.tmod b = b) ∧ (modOf a b = 0 ∨ (modOf a b < 0 ↔ b < 0)) := by
  obtain ⟨h1, h2, h3, h4, h5⟩ := rest a b ha hb h
  unfold modOf
  unfold isI64 at *
  generalize a.tmod b = r at *
  by_cases hc : r ≠ 0 ∧ ¬ (r < 0 ↔ b < 0)
  · rw [if_pos hc]
    refine ⟨by omega, .inr (by omega), ?_⟩
    by_cases h0 : r + b = 0
    · exact .inl h0
    · exact .inr (by omega)
  · rw [if_neg hc]
    refine ⟨by omega, .inl (by omega), ?_⟩
    by_cases h0 : r = 0
    · exact .inl h0
    · refine .inr ?_
      by_cases h6 : (r < 0 ↔ b < 0)
      · exact h6
      · exact absurd ⟨h0, h6⟩ hc

theorem quot_back (a b : Int) (ha : isI64 a) (hb : isI64 b) (h : b ≠ 0) : a.tdiv b * b + a.tmod b = a ∧ isI64 (a.tdiv b * b) := by
  obtain ⟨h1, h2, h3, _, _⟩ := rest a b ha hb h
  have e : a.tdiv b * b + a.tmod b = a := Int.tdiv_mul_add_tmod a b
  refine ⟨e, ?_⟩
  generalize a.tdiv b * b = q at *
  generalize a.tmod b = r at *
  unfold isI64 at *
  by_cases h0 : 0 ≤ a
  · have := h2 h0
    omega
  · have := h3 (by omega)
    omega

theorem b_or {p q : Bool} (h : p = true ∨ q = true) : (p || q) = true := by cases p <;> simp_all

theorem sign_fact {x y : Int} (h : x = 0 ∨ (x < 0 ↔ y < 0)) : ((x == 0) || (decide (x < 0) == decide (y < 0))) = true := by
  rcases h with rfl | h
  · rfl
  · exact b_or (.inr (dec_eq h))

end Go.Proofs.Ytbpacicbbepdhaa
