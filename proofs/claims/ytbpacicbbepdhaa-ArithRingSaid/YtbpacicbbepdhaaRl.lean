/-
  For all numbers of 64 bits the law's call answers true, and what was in memory stays.
-/
import Derived.Test.YtbpacicbbepdhaaRk
import Derived.Test.YtbpacicbbepdhaaRj0
import Derived.Test.YtbpacicbbepdhaaRj1
import Derived.Test.YtbpacicbbepdhaaRj2
import Derived.Test.YtbpacicbbepdhaaRj3
import Derived.Test.YtbpacicbbepdhaaRj4
namespace Go.Proofs.Ytbpacicbbepdhaa
open Go.RowKit

theorem ans_tup (R : Int × Int) : ansOf R = tup (valOf R) R.2 := rfl
theorem ans_ok {R : Int × Int} {n : Int} (h : R = (n, 0)) : ansOf R = tup n 0 := by rw [h]; rfl
theorem ans_bad {R : Int × Int} {k : Int} (h : R = (0, k)) : ansOf R = tup 0 k := by rw [h]; unfold ansOf tup; simp

/-- the half behind the sums, by cases -/
inductive Half (a b : Int) : Prop
  | zero (hb : b = 0)
  | fine (hb : (b == 0) = false) (u back less : Int) (hu : isI64 u) (hback : isI64 back) (q10 : ansOf (quotR a b) = tup u 0) (q13 : ansOf (timesR u b) = tup back 0) (q14 : ansOf (plusR back (a.tmod b)) = tup a 0)
      (ta : (a == -9223372036854775808) = false ∨ ((a == -9223372036854775808) = true ∧ (b == -1) = false))
      (q15 : ansOf (minusR (modOf a b) (a.tmod b)) = tup less 0) (t3 : ((less == 0) || (less == b)) = true)
  | great (hb : (b == 0) = false) (less : Int) (ta : (a == -9223372036854775808) = true) (tb : (b == -1) = true) (q10 : ansOf (quotR a b) = tup 0 22)
      (q15 : ansOf (minusR (modOf a b) (a.tmod b)) = tup less 0) (t3 : ((less == 0) || (less == b)) = true)

theorem half (a b : Int) (ha : isI64 a) (hb : isI64 b) : Half a b := by
  by_cases h : b = 0
  · exact .zero h
  have hbz : (b == 0) = false := beq_eq_false_iff_ne.2 h
  obtain ⟨m1, m2, m3⟩ := mod_facts a b ha hb h
  obtain ⟨r1, r2, r3, r4, r5⟩ := rest a b ha hb h
  have hless : isI64 (modOf a b - a.tmod b) := by
    rcases m2 with e | e
    · rw [e]; exact i64_zero
    · rw [e]; exact hb
  have q15 := ans_ok (minusR_ok hless)
  have t3 : ((modOf a b - a.tmod b == 0) || (modOf a b - a.tmod b == b)) = true := by
    rcases m2 with e | e
    · rw [e]; rfl
    · rw [e]; simp
  by_cases hx : a = -9223372036854775808 ∧ b = -1
  · exact .great hbz _ (by rw [hx.1]; rfl) (by rw [hx.2]; rfl) (ans_bad (by unfold quotR; rw [if_neg h, if_pos hx])) q15 t3
  · obtain ⟨e, hq⟩ := quot_back a b ha hb h
    have hu : isI64 (a.tdiv b) := by
      have h1 : (a.tdiv b).natAbs = a.natAbs / b.natAbs := Int.natAbs_tdiv a b
      have h2 : a.natAbs / b.natAbs ≤ a.natAbs := Nat.div_le_self _ _
      have h3 : a.tdiv b ≠ 9223372036854775808 := by
        intro he
        rw [he] at hq
        unfold isI64 at hq ha
        have h6 : b = -1 := by omega
        subst h6
        have h7 : a.tdiv (-1) = -a := by rw [Int.tdiv_neg, Int.tdiv_one]
        rw [h7] at he
        exact hx ⟨by omega, rfl⟩
      unfold isI64 at *
      omega
    refine .fine hbz (a.tdiv b) (a.tdiv b * b) _ hu hq (ans_ok (by unfold quotR; rw [if_neg h, if_neg hx])) ?_ ?_ ?_ q15 t3
    · rcases timesR_cases (a.tdiv b) b with ⟨_, e1⟩ | ⟨e1, _⟩
      · exact ans_ok e1
      · exact absurd hq e1
    · rcases plusR_cases (a.tdiv b * b) (a.tmod b) with ⟨_, e1⟩ | ⟨e1, _⟩
      · rw [e] at e1; exact ans_ok e1
      · rw [e] at e1; exact absurd ha e1
    · by_cases h1 : a = -9223372036854775808
      · refine .inr ⟨by rw [h1]; rfl, ?_⟩
        exact beq_eq_false_iff_ne.2 (fun h2 => hx ⟨h1, h2⟩)
      · exact .inl (beq_eq_false_iff_ne.2 h1)

set_option maxRecDepth 100000 in
theorem ring_true (a b c : Int) (ha : isI64 a) (hb : isI64 b) (hc : isI64 c) (w : World) :
    Calls Try.prog 3 #[.int .i64 a, .int .i64 b, .int .i64 c] w fun e w' => e = .returned (.bool true) ∧ Below w.heap.size w w' := by
  have q2 : ansOf (plusR b a) = tup (valOf (plusR a b)) (plusR a b).2 := by rw [plusR_comm]; rfl
  have q4 : ansOf (timesR b a) = tup (valOf (timesR a b)) (timesR a b).2 := by rw [timesR_comm]; rfl
  have q1 := ans_tup (plusR a b)
  have q3 := ans_tup (timesR a b)
  have H := half a b ha hb
  have hmod : ∀ h : (b == 0) = false, ansOf (remR a b) = tup (a.tmod b) 0 ∧ ansOf (modR a b) = tup (modOf a b) 0 ∧ isI64 (a.tmod b) ∧ isI64 (modOf a b) ∧
      ((a.tmod b == 0) || (decide (a.tmod b < 0) == decide (a < 0))) = true ∧ ((modOf a b == 0) || (decide (modOf a b < 0) == decide (b < 0))) = true := fun h => by
    have hb0 : b ≠ 0 := beq_eq_false_iff_ne.1 h
    obtain ⟨m1, m2, m3⟩ := mod_facts a b ha hb hb0
    obtain ⟨r1, r2, r3, r4, r5⟩ := rest a b ha hb hb0
    refine ⟨ans_ok (by unfold remR; rw [if_neg hb0]), ans_ok (modR_eq a b hb0), r1, m1, sign_fact ?_, sign_fact m3⟩
    by_cases h0 : a.tmod b = 0
    · exact .inl h0
    · refine .inr ⟨fun hr => ?_, fun ha0 => ?_⟩
      · by_cases h1 : a < 0
        · exact h1
        · have := (r2 (by omega)).1; omega
      · have := (r3 ha0).1; omega
  have hzero : b = 0 → ansOf (quotR a b) = tup 0 23 ∧ ansOf (remR a b) = tup 0 23 ∧ ansOf (modR a b) = tup 0 23 := fun h =>
    ⟨ans_bad (by unfold quotR; rw [if_pos h]), ans_bad (by unfold remR; rw [if_pos h]), ans_bad (by unfold modR; rw [if_pos h])⟩
  rcases plusR_cases a b with ⟨hs, es⟩ | ⟨hs, es⟩
  · have v1 : valOf (plusR a b) = a + b := by rw [es]; rfl
    have v2 : (plusR a b).2 = 0 := by rw [es]
    rw [v1] at q1 q2
    have q5 : ansOf (minusR (a + b) b) = tup a 0 := ans_ok (by rw [minusR_ok (by rw [Int.add_sub_cancel]; exact ha), Int.add_sub_cancel])
    have q6 := ans_tup (timesR (a + b) c)
    have q7 := ans_tup (timesR a c)
    have q8 := ans_tup (timesR b c)
    have q9 := ans_tup (plusR (valOf (timesR a c)) (valOf (timesR b c)))
    have hy := timesR_i64 a c
    have hz := timesR_i64 b c
    by_cases hj : (timesR (a + b) c).2 = 0
    · by_cases hk : (timesR a c).2 = 0
      · by_cases hm : (timesR b c).2 = 0
        · have fin : (plusR (valOf (timesR a c)) (valOf (timesR b c))).2 = 0 ∧ valOf (plusR (valOf (timesR a c)) (valOf (timesR b c))) = valOf (timesR (a + b) c) := by
            rcases timesR_cases (a + b) c with ⟨i1, e1⟩ | ⟨_, e1⟩
            · rcases timesR_cases a c with ⟨_, e2⟩ | ⟨_, e2⟩
              · rcases timesR_cases b c with ⟨_, e3⟩ | ⟨_, e3⟩
                · rw [e1, e2, e3, valOf_ok, valOf_ok, valOf_ok]
                  have e4 : a * c + b * c = (a + b) * c := (Int.add_mul a b c).symm
                  rcases plusR_cases (a * c) (b * c) with ⟨_, e5⟩ | ⟨e5, _⟩
                  · rw [e5]; exact ⟨rfl, e4⟩
                  · rw [e4] at e5; exact absurd i1 e5
                · rw [e3] at hm; cases hm
              · rw [e2] at hk; cases hk
            · rw [e1] at hj; cases hj
          cases H with
          | zero h0 =>
            obtain ⟨z1, z2, z3⟩ := hzero h0
            exact ring_1310 a b c ha hb hc _ _ _ _ q1 q2 q3 q4 v2 hs q5 _ _ _ _ _ _ _ _ q6 q7 q8 hy hz q9 hj hk hm fin.1 fin.2 _ _ _ _ _ _ z1 z2 z3 h0 rfl rfl rfl w
          | fine h0 u back less hu hback q10 q13 q14 ta q15 t3 =>
            obtain ⟨z1, z2, z3, z4, z5, z6⟩ := hmod h0
            rcases ta with ta | ⟨ta, tb⟩
            · exact ring_1301 a b c ha hb hc _ _ _ _ q1 q2 q3 q4 v2 hs q5 _ _ _ _ _ _ _ _ q6 q7 q8 hy hz q9 hj hk hm fin.1 fin.2 _ _ _ _ _ _ q10 z1 z2 h0 rfl rfl z3 z4 _ q15 z5 z6 t3 rfl hu _ hback q13 q14 ta w
            · exact ring_1302 a b c ha hb hc _ _ _ _ q1 q2 q3 q4 v2 hs q5 _ _ _ _ _ _ _ _ q6 q7 q8 hy hz q9 hj hk hm fin.1 fin.2 _ _ _ _ _ _ q10 z1 z2 h0 rfl rfl z3 z4 _ q15 z5 z6 t3 rfl hu _ hback q13 q14 ta tb w
          | great h0 less ta tb q10 q15 t3 =>
            obtain ⟨z1, z2, z3, z4, z5, z6⟩ := hmod h0
            exact ring_1300 a b c ha hb hc _ _ _ _ q1 q2 q3 q4 v2 hs q5 _ _ _ _ _ _ _ _ q6 q7 q8 hy hz q9 hj hk hm fin.1 fin.2 _ _ _ _ _ _ q10 z1 z2 h0 rfl rfl z3 z4 _ q15 z5 z6 t3 rfl ta tb w
        · have hm' : ((timesR b c).2 == 0) = false := beq_eq_false_iff_ne.2 hm
          cases H with
          | zero h0 =>
            obtain ⟨z1, z2, z3⟩ := hzero h0
            exact ring_1210 a b c ha hb hc _ _ _ _ q1 q2 q3 q4 v2 hs q5 _ _ _ _ _ _ _ _ q6 q7 q8 hy hz q9 hj hk hm' _ _ _ _ _ _ z1 z2 z3 h0 rfl rfl rfl w
          | fine h0 u back less hu hback q10 q13 q14 ta q15 t3 =>
            obtain ⟨z1, z2, z3, z4, z5, z6⟩ := hmod h0
            rcases ta with ta | ⟨ta, tb⟩
            · exact ring_1201 a b c ha hb hc _ _ _ _ q1 q2 q3 q4 v2 hs q5 _ _ _ _ _ _ _ _ q6 q7 q8 hy hz q9 hj hk hm' _ _ _ _ _ _ q10 z1 z2 h0 rfl rfl z3 z4 _ q15 z5 z6 t3 rfl hu _ hback q13 q14 ta w
            · exact ring_1202 a b c ha hb hc _ _ _ _ q1 q2 q3 q4 v2 hs q5 _ _ _ _ _ _ _ _ q6 q7 q8 hy hz q9 hj hk hm' _ _ _ _ _ _ q10 z1 z2 h0 rfl rfl z3 z4 _ q15 z5 z6 t3 rfl hu _ hback q13 q14 ta tb w
          | great h0 less ta tb q10 q15 t3 =>
            obtain ⟨z1, z2, z3, z4, z5, z6⟩ := hmod h0
            exact ring_1200 a b c ha hb hc _ _ _ _ q1 q2 q3 q4 v2 hs q5 _ _ _ _ _ _ _ _ q6 q7 q8 hy hz q9 hj hk hm' _ _ _ _ _ _ q10 z1 z2 h0 rfl rfl z3 z4 _ q15 z5 z6 t3 rfl ta tb w
      · have hk' : ((timesR a c).2 == 0) = false := beq_eq_false_iff_ne.2 hk
        cases H with
        | zero h0 =>
          obtain ⟨z1, z2, z3⟩ := hzero h0
          exact ring_1110 a b c ha hb hc _ _ _ _ q1 q2 q3 q4 v2 hs q5 _ _ _ _ _ _ _ _ q6 q7 q8 hy hz q9 hj hk' _ _ _ _ _ _ z1 z2 z3 h0 rfl rfl rfl w
        | fine h0 u back less hu hback q10 q13 q14 ta q15 t3 =>
          obtain ⟨z1, z2, z3, z4, z5, z6⟩ := hmod h0
          rcases ta with ta | ⟨ta, tb⟩
          · exact ring_1101 a b c ha hb hc _ _ _ _ q1 q2 q3 q4 v2 hs q5 _ _ _ _ _ _ _ _ q6 q7 q8 hy hz q9 hj hk' _ _ _ _ _ _ q10 z1 z2 h0 rfl rfl z3 z4 _ q15 z5 z6 t3 rfl hu _ hback q13 q14 ta w
          · exact ring_1102 a b c ha hb hc _ _ _ _ q1 q2 q3 q4 v2 hs q5 _ _ _ _ _ _ _ _ q6 q7 q8 hy hz q9 hj hk' _ _ _ _ _ _ q10 z1 z2 h0 rfl rfl z3 z4 _ q15 z5 z6 t3 rfl hu _ hback q13 q14 ta tb w
        | great h0 less ta tb q10 q15 t3 =>
          obtain ⟨z1, z2, z3, z4, z5, z6⟩ := hmod h0
          exact ring_1100 a b c ha hb hc _ _ _ _ q1 q2 q3 q4 v2 hs q5 _ _ _ _ _ _ _ _ q6 q7 q8 hy hz q9 hj hk' _ _ _ _ _ _ q10 z1 z2 h0 rfl rfl z3 z4 _ q15 z5 z6 t3 rfl ta tb w
    · have hj' : ((timesR (a + b) c).2 == 0) = false := beq_eq_false_iff_ne.2 hj
      cases H with
      | zero h0 =>
        obtain ⟨z1, z2, z3⟩ := hzero h0
        exact ring_1010 a b c ha hb hc _ _ _ _ q1 q2 q3 q4 v2 hs q5 _ _ _ _ _ _ _ _ q6 q7 q8 hy hz q9 hj' _ _ _ _ _ _ z1 z2 z3 h0 rfl rfl rfl w
      | fine h0 u back less hu hback q10 q13 q14 ta q15 t3 =>
        obtain ⟨z1, z2, z3, z4, z5, z6⟩ := hmod h0
        rcases ta with ta | ⟨ta, tb⟩
        · exact ring_1001 a b c ha hb hc _ _ _ _ q1 q2 q3 q4 v2 hs q5 _ _ _ _ _ _ _ _ q6 q7 q8 hy hz q9 hj' _ _ _ _ _ _ q10 z1 z2 h0 rfl rfl z3 z4 _ q15 z5 z6 t3 rfl hu _ hback q13 q14 ta w
        · exact ring_1002 a b c ha hb hc _ _ _ _ q1 q2 q3 q4 v2 hs q5 _ _ _ _ _ _ _ _ q6 q7 q8 hy hz q9 hj' _ _ _ _ _ _ q10 z1 z2 h0 rfl rfl z3 z4 _ q15 z5 z6 t3 rfl hu _ hback q13 q14 ta tb w
      | great h0 less ta tb q10 q15 t3 =>
        obtain ⟨z1, z2, z3, z4, z5, z6⟩ := hmod h0
        exact ring_1000 a b c ha hb hc _ _ _ _ q1 q2 q3 q4 v2 hs q5 _ _ _ _ _ _ _ _ q6 q7 q8 hy hz q9 hj' _ _ _ _ _ _ q10 z1 z2 h0 rfl rfl z3 z4 _ q15 z5 z6 t3 rfl ta tb w
  · have v2 : ((plusR a b).2 == 0) = false := by rw [es]; rfl
    cases H with
    | zero h0 =>
      obtain ⟨z1, z2, z3⟩ := hzero h0
      exact ring_0010 a b c ha hb hc _ _ _ _ q1 q2 q3 q4 v2 _ _ _ _ _ _ z1 z2 z3 h0 rfl rfl rfl w
    | fine h0 u back less hu hback q10 q13 q14 ta q15 t3 =>
      obtain ⟨z1, z2, z3, z4, z5, z6⟩ := hmod h0
      rcases ta with ta | ⟨ta, tb⟩
      · exact ring_0001 a b c ha hb hc _ _ _ _ q1 q2 q3 q4 v2 _ _ _ _ _ _ q10 z1 z2 h0 rfl rfl z3 z4 _ q15 z5 z6 t3 rfl hu _ hback q13 q14 ta w
      · exact ring_0002 a b c ha hb hc _ _ _ _ q1 q2 q3 q4 v2 _ _ _ _ _ _ q10 z1 z2 h0 rfl rfl z3 z4 _ q15 z5 z6 t3 rfl hu _ hback q13 q14 ta tb w
    | great h0 less ta tb q10 q15 t3 =>
      obtain ⟨z1, z2, z3, z4, z5, z6⟩ := hmod h0
      exact ring_0000 a b c ha hb hc _ _ _ _ q1 q2 q3 q4 v2 _ _ _ _ _ _ q10 z1 z2 h0 rfl rfl z3 z4 _ q15 z5 z6 t3 rfl ta tb w

end Go.Proofs.Ytbpacicbbepdhaa
