/-
  The walk of the law ArithRing, way by way: each way is told what the calls answer.
-/
import Derived.Test.YtbpacicbbepdhaaRk
namespace Go.Proofs.Ytbpacicbbepdhaa
open Go.RowKit

set_option maxRecDepth 100000 in
set_option maxHeartbeats 4000000 in
theorem ring_1010 (a b c : Int) (ha : isI64 a) (hb : isI64 b) (hc : isI64 c)
    (s p g : Int)
    (e : Int)
    (q1 : ansOf (plusR a b) = tup s e) (q2 : ansOf (plusR b a) = tup s e) (q3 : ansOf (timesR a b) = tup p g) (q4 : ansOf (timesR b a) = tup p g)
    (he : e = 0) (hs : isI64 s) (q5 : ansOf (minusR s b) = tup a 0)
    (x j y k z m v n : Int) (q6 : ansOf (timesR s c) = tup x j) (q7 : ansOf (timesR a c) = tup y k) (q8 : ansOf (timesR b c) = tup z m) (hy : isI64 y) (hz : isI64 z) (q9 : ansOf (plusR y z) = tup v n)
    (hj : (j == 0) = false)
    (u jq r kr md km : Int) (q10 : ansOf (quotR a b) = tup u jq) (q11 : ansOf (remR a b) = tup r kr) (q12 : ansOf (modR a b) = tup md km)
    (hbz : b = 0) (hjq : jq = 23) (hkr : kr = 23) (hkm : km = 23)
    (w : World) :
    Calls Try.prog 3 #[.int .i64 a, .int .i64 b, .int .i64 c] w fun e w' => e = .returned (.bool true) ∧ Below w.heap.size w w' := by
  have Q1 := Lib.hid q1
  have Q2 := Lib.hid q2
  have Q3 := Lib.hid q3
  have Q4 := Lib.hid q4
  have Q5 := Lib.hid q5
  have Q6 := Lib.hid q6
  have Q7 := Lib.hid q7
  have Q8 := Lib.hid q8
  have Q9 := Lib.hid q9
  have Q10 := Lib.hid q10
  have Q11 := Lib.hid q11
  have Q12 := Lib.hid q12
  clear q1 q2 q3 q4 q5 q6 q7 q8 q9 q10 q11 q12
  subst he
  subst hbz
  subst hjq
  subst hkr
  subst hkm
  have B0 : Below w.heap.size w w := Below.refl _ _
  go_enter Try.func3, Try.ntmps3
  go_wp2_with fail
  refine (two_plus a 0 ha hb _).mono ?_
  rintro e w1 ⟨rfl, hB⟩
  have B1 : Below w.heap.size w w1 := B0.trans (hB.mono B0.size)
  clear B0 hB
  rw [Q1.out]
  unfold tup
  go_wp2_with fail
  refine (two_plus 0 a hb ha _).mono ?_
  rintro e w2 ⟨rfl, hB⟩
  have B2 : Below w.heap.size w w2 := B1.trans (hB.mono B1.size)
  clear B1 hB
  rw [Q2.out]
  unfold tup
  go_wp2_with fail
  refine (two_times a 0 ha hb _).mono ?_
  rintro e w3 ⟨rfl, hB⟩
  have B3 : Below w.heap.size w w3 := B2.trans (hB.mono B2.size)
  clear B2 hB
  rw [Q3.out]
  unfold tup
  go_wp2_with fail
  refine (two_times 0 a hb ha _).mono ?_
  rintro e w4 ⟨rfl, hB⟩
  have B4 : Below w.heap.size w w4 := B3.trans (hB.mono B3.size)
  clear B3 hB
  rw [Q4.out]
  unfold tup
  go_wp2_with fail
  refine (two_minus s 0 hs hb _).mono ?_
  rintro e w5 ⟨rfl, hB⟩
  have B5 : Below w.heap.size w w5 := B4.trans (hB.mono B4.size)
  clear B4 hB
  rw [Q5.out]
  unfold tup
  go_wp2_with fail
  refine (two_times s c hs hc _).mono ?_
  rintro e w6 ⟨rfl, hB⟩
  have B6 : Below w.heap.size w w6 := B5.trans (hB.mono B5.size)
  clear B5 hB
  rw [Q6.out]
  unfold tup
  go_wp2_with fail
  refine (two_times a c ha hc _).mono ?_
  rintro e w7 ⟨rfl, hB⟩
  have B7 : Below w.heap.size w w7 := B6.trans (hB.mono B6.size)
  clear B6 hB
  rw [Q7.out]
  unfold tup
  go_wp2_with fail
  refine (two_times 0 c hb hc _).mono ?_
  rintro e w8 ⟨rfl, hB⟩
  have B8 : Below w.heap.size w w8 := B7.trans (hB.mono B7.size)
  clear B7 hB
  rw [Q8.out]
  unfold tup
  go_wp2_with fail
  refine (two_plus y z hy hz _).mono ?_
  rintro e w9 ⟨rfl, hB⟩
  have B9 : Below w.heap.size w w9 := B8.trans (hB.mono B8.size)
  clear B8 hB
  rw [Q9.out]
  unfold tup
  go_wp2_with fail
  refine (two_quot a 0 ha hb _).mono ?_
  rintro e w10 ⟨rfl, hB⟩
  have B10 : Below w.heap.size w w10 := B9.trans (hB.mono B9.size)
  clear B9 hB
  rw [Q10.out]
  unfold tup
  go_wp2_with fail
  refine (two_rem a 0 ha hb _).mono ?_
  rintro e w11 ⟨rfl, hB⟩
  have B11 : Below w.heap.size w w11 := B10.trans (hB.mono B10.size)
  clear B10 hB
  rw [Q11.out]
  unfold tup
  go_wp2_with fail
  refine (two_mod a 0 ha hb _).mono ?_
  rintro e w12 ⟨rfl, hB⟩
  have B12 : Below w.heap.size w w12 := B11.trans (hB.mono B11.size)
  clear B11 hB
  rw [Q12.out]
  unfold tup
  go_wp2_with fail
  all_goals
    refine (wakes_true _).mono ?_
    rintro e w13 ⟨rfl, hB⟩
    have B13 : Below w.heap.size w w13 := B12.trans (hB.mono B12.size)
    clear B12 hB
    go_wp2
    go_ret
    exact ⟨rfl, B13⟩

set_option maxRecDepth 100000 in
set_option maxHeartbeats 4000000 in
theorem ring_1001 (a b c : Int) (ha : isI64 a) (hb : isI64 b) (hc : isI64 c)
    (s p g : Int)
    (e : Int)
    (q1 : ansOf (plusR a b) = tup s e) (q2 : ansOf (plusR b a) = tup s e) (q3 : ansOf (timesR a b) = tup p g) (q4 : ansOf (timesR b a) = tup p g)
    (he : e = 0) (hs : isI64 s) (q5 : ansOf (minusR s b) = tup a 0)
    (x j y k z m v n : Int) (q6 : ansOf (timesR s c) = tup x j) (q7 : ansOf (timesR a c) = tup y k) (q8 : ansOf (timesR b c) = tup z m) (hy : isI64 y) (hz : isI64 z) (q9 : ansOf (plusR y z) = tup v n)
    (hj : (j == 0) = false)
    (u jq r kr md km : Int) (q10 : ansOf (quotR a b) = tup u jq) (q11 : ansOf (remR a b) = tup r kr) (q12 : ansOf (modR a b) = tup md km)
    (hbz : (b == 0) = false) (hkr : kr = 0) (hkm : km = 0) (hr : isI64 r) (hmd : isI64 md) (less : Int) (q15 : ansOf (minusR md r) = tup less 0)
    (t1 : ((r == 0) || (decide (r < 0) == decide (a < 0))) = true) (t2 : ((md == 0) || (decide (md < 0) == decide (b < 0))) = true) (t3 : ((less == 0) || (less == b)) = true)
    (hjq : jq = 0) (hu : isI64 u) (back : Int) (hback : isI64 back) (q13 : ansOf (timesR u b) = tup back 0) (q14 : ansOf (plusR back r) = tup a 0) (ta : (a == -9223372036854775808) = false)
    (w : World) :
    Calls Try.prog 3 #[.int .i64 a, .int .i64 b, .int .i64 c] w fun e w' => e = .returned (.bool true) ∧ Below w.heap.size w w' := by
  have Q1 := Lib.hid q1
  have Q2 := Lib.hid q2
  have Q3 := Lib.hid q3
  have Q4 := Lib.hid q4
  have Q5 := Lib.hid q5
  have Q6 := Lib.hid q6
  have Q7 := Lib.hid q7
  have Q8 := Lib.hid q8
  have Q9 := Lib.hid q9
  have Q10 := Lib.hid q10
  have Q11 := Lib.hid q11
  have Q12 := Lib.hid q12
  have Q15 := Lib.hid q15
  have Q13 := Lib.hid q13
  have Q14 := Lib.hid q14
  clear q1 q2 q3 q4 q5 q6 q7 q8 q9 q10 q11 q12 q15 q13 q14
  subst he
  subst hkr
  subst hkm
  subst hjq
  have B0 : Below w.heap.size w w := Below.refl _ _
  go_enter Try.func3, Try.ntmps3
  go_wp2_with fail
  refine (two_plus a b ha hb _).mono ?_
  rintro e w1 ⟨rfl, hB⟩
  have B1 : Below w.heap.size w w1 := B0.trans (hB.mono B0.size)
  clear B0 hB
  rw [Q1.out]
  unfold tup
  go_wp2_with fail
  refine (two_plus b a hb ha _).mono ?_
  rintro e w2 ⟨rfl, hB⟩
  have B2 : Below w.heap.size w w2 := B1.trans (hB.mono B1.size)
  clear B1 hB
  rw [Q2.out]
  unfold tup
  go_wp2_with fail
  refine (two_times a b ha hb _).mono ?_
  rintro e w3 ⟨rfl, hB⟩
  have B3 : Below w.heap.size w w3 := B2.trans (hB.mono B2.size)
  clear B2 hB
  rw [Q3.out]
  unfold tup
  go_wp2_with fail
  refine (two_times b a hb ha _).mono ?_
  rintro e w4 ⟨rfl, hB⟩
  have B4 : Below w.heap.size w w4 := B3.trans (hB.mono B3.size)
  clear B3 hB
  rw [Q4.out]
  unfold tup
  go_wp2_with fail
  refine (two_minus s b hs hb _).mono ?_
  rintro e w5 ⟨rfl, hB⟩
  have B5 : Below w.heap.size w w5 := B4.trans (hB.mono B4.size)
  clear B4 hB
  rw [Q5.out]
  unfold tup
  go_wp2_with fail
  refine (two_times s c hs hc _).mono ?_
  rintro e w6 ⟨rfl, hB⟩
  have B6 : Below w.heap.size w w6 := B5.trans (hB.mono B5.size)
  clear B5 hB
  rw [Q6.out]
  unfold tup
  go_wp2_with fail
  refine (two_times a c ha hc _).mono ?_
  rintro e w7 ⟨rfl, hB⟩
  have B7 : Below w.heap.size w w7 := B6.trans (hB.mono B6.size)
  clear B6 hB
  rw [Q7.out]
  unfold tup
  go_wp2_with fail
  refine (two_times b c hb hc _).mono ?_
  rintro e w8 ⟨rfl, hB⟩
  have B8 : Below w.heap.size w w8 := B7.trans (hB.mono B7.size)
  clear B7 hB
  rw [Q8.out]
  unfold tup
  go_wp2_with fail
  refine (two_plus y z hy hz _).mono ?_
  rintro e w9 ⟨rfl, hB⟩
  have B9 : Below w.heap.size w w9 := B8.trans (hB.mono B8.size)
  clear B8 hB
  rw [Q9.out]
  unfold tup
  go_wp2_with fail
  refine (two_quot a b ha hb _).mono ?_
  rintro e w10 ⟨rfl, hB⟩
  have B10 : Below w.heap.size w w10 := B9.trans (hB.mono B9.size)
  clear B9 hB
  rw [Q10.out]
  unfold tup
  go_wp2_with fail
  refine (two_rem a b ha hb _).mono ?_
  rintro e w11 ⟨rfl, hB⟩
  have B11 : Below w.heap.size w w11 := B10.trans (hB.mono B10.size)
  clear B10 hB
  rw [Q11.out]
  unfold tup
  go_wp2_with fail
  refine (two_mod a b ha hb _).mono ?_
  rintro e w12 ⟨rfl, hB⟩
  have B12 : Below w.heap.size w w12 := B11.trans (hB.mono B11.size)
  clear B11 hB
  rw [Q12.out]
  unfold tup
  go_wp2_with fail
  refine (two_times u b hu hb _).mono ?_
  rintro e w13 ⟨rfl, hB⟩
  have B13 : Below w.heap.size w w13 := B12.trans (hB.mono B12.size)
  clear B12 hB
  rw [Q13.out]
  unfold tup
  go_wp2_with fail
  refine (two_plus back r hback hr _).mono ?_
  rintro e w14 ⟨rfl, hB⟩
  have B14 : Below w.heap.size w w14 := B13.trans (hB.mono B13.size)
  clear B13 hB
  rw [Q14.out]
  unfold tup
  go_wp2_with fail
  refine (two_minus md r hmd hr _).mono ?_
  rintro e w15 ⟨rfl, hB⟩
  have B15 : Below w.heap.size w w15 := B14.trans (hB.mono B14.size)
  clear B14 hB
  rw [Q15.out]
  unfold tup
  go_wp2_with fail
  all_goals
    refine (wakes_true _).mono ?_
    rintro e w16 ⟨rfl, hB⟩
    have B16 : Below w.heap.size w w16 := B15.trans (hB.mono B15.size)
    clear B15 hB
    go_wp2
    go_ret
    exact ⟨rfl, B16⟩

set_option maxRecDepth 100000 in
set_option maxHeartbeats 4000000 in
theorem ring_1002 (a b c : Int) (ha : isI64 a) (hb : isI64 b) (hc : isI64 c)
    (s p g : Int)
    (e : Int)
    (q1 : ansOf (plusR a b) = tup s e) (q2 : ansOf (plusR b a) = tup s e) (q3 : ansOf (timesR a b) = tup p g) (q4 : ansOf (timesR b a) = tup p g)
    (he : e = 0) (hs : isI64 s) (q5 : ansOf (minusR s b) = tup a 0)
    (x j y k z m v n : Int) (q6 : ansOf (timesR s c) = tup x j) (q7 : ansOf (timesR a c) = tup y k) (q8 : ansOf (timesR b c) = tup z m) (hy : isI64 y) (hz : isI64 z) (q9 : ansOf (plusR y z) = tup v n)
    (hj : (j == 0) = false)
    (u jq r kr md km : Int) (q10 : ansOf (quotR a b) = tup u jq) (q11 : ansOf (remR a b) = tup r kr) (q12 : ansOf (modR a b) = tup md km)
    (hbz : (b == 0) = false) (hkr : kr = 0) (hkm : km = 0) (hr : isI64 r) (hmd : isI64 md) (less : Int) (q15 : ansOf (minusR md r) = tup less 0)
    (t1 : ((r == 0) || (decide (r < 0) == decide (a < 0))) = true) (t2 : ((md == 0) || (decide (md < 0) == decide (b < 0))) = true) (t3 : ((less == 0) || (less == b)) = true)
    (hjq : jq = 0) (hu : isI64 u) (back : Int) (hback : isI64 back) (q13 : ansOf (timesR u b) = tup back 0) (q14 : ansOf (plusR back r) = tup a 0) (ta : (a == -9223372036854775808) = true) (tb : (b == -1) = false)
    (w : World) :
    Calls Try.prog 3 #[.int .i64 a, .int .i64 b, .int .i64 c] w fun e w' => e = .returned (.bool true) ∧ Below w.heap.size w w' := by
  have Q1 := Lib.hid q1
  have Q2 := Lib.hid q2
  have Q3 := Lib.hid q3
  have Q4 := Lib.hid q4
  have Q5 := Lib.hid q5
  have Q6 := Lib.hid q6
  have Q7 := Lib.hid q7
  have Q8 := Lib.hid q8
  have Q9 := Lib.hid q9
  have Q10 := Lib.hid q10
  have Q11 := Lib.hid q11
  have Q12 := Lib.hid q12
  have Q15 := Lib.hid q15
  have Q13 := Lib.hid q13
  have Q14 := Lib.hid q14
  clear q1 q2 q3 q4 q5 q6 q7 q8 q9 q10 q11 q12 q15 q13 q14
  subst he
  subst hkr
  subst hkm
  subst hjq
  have B0 : Below w.heap.size w w := Below.refl _ _
  go_enter Try.func3, Try.ntmps3
  go_wp2_with fail
  refine (two_plus a b ha hb _).mono ?_
  rintro e w1 ⟨rfl, hB⟩
  have B1 : Below w.heap.size w w1 := B0.trans (hB.mono B0.size)
  clear B0 hB
  rw [Q1.out]
  unfold tup
  go_wp2_with fail
  refine (two_plus b a hb ha _).mono ?_
  rintro e w2 ⟨rfl, hB⟩
  have B2 : Below w.heap.size w w2 := B1.trans (hB.mono B1.size)
  clear B1 hB
  rw [Q2.out]
  unfold tup
  go_wp2_with fail
  refine (two_times a b ha hb _).mono ?_
  rintro e w3 ⟨rfl, hB⟩
  have B3 : Below w.heap.size w w3 := B2.trans (hB.mono B2.size)
  clear B2 hB
  rw [Q3.out]
  unfold tup
  go_wp2_with fail
  refine (two_times b a hb ha _).mono ?_
  rintro e w4 ⟨rfl, hB⟩
  have B4 : Below w.heap.size w w4 := B3.trans (hB.mono B3.size)
  clear B3 hB
  rw [Q4.out]
  unfold tup
  go_wp2_with fail
  refine (two_minus s b hs hb _).mono ?_
  rintro e w5 ⟨rfl, hB⟩
  have B5 : Below w.heap.size w w5 := B4.trans (hB.mono B4.size)
  clear B4 hB
  rw [Q5.out]
  unfold tup
  go_wp2_with fail
  refine (two_times s c hs hc _).mono ?_
  rintro e w6 ⟨rfl, hB⟩
  have B6 : Below w.heap.size w w6 := B5.trans (hB.mono B5.size)
  clear B5 hB
  rw [Q6.out]
  unfold tup
  go_wp2_with fail
  refine (two_times a c ha hc _).mono ?_
  rintro e w7 ⟨rfl, hB⟩
  have B7 : Below w.heap.size w w7 := B6.trans (hB.mono B6.size)
  clear B6 hB
  rw [Q7.out]
  unfold tup
  go_wp2_with fail
  refine (two_times b c hb hc _).mono ?_
  rintro e w8 ⟨rfl, hB⟩
  have B8 : Below w.heap.size w w8 := B7.trans (hB.mono B7.size)
  clear B7 hB
  rw [Q8.out]
  unfold tup
  go_wp2_with fail
  refine (two_plus y z hy hz _).mono ?_
  rintro e w9 ⟨rfl, hB⟩
  have B9 : Below w.heap.size w w9 := B8.trans (hB.mono B8.size)
  clear B8 hB
  rw [Q9.out]
  unfold tup
  go_wp2_with fail
  refine (two_quot a b ha hb _).mono ?_
  rintro e w10 ⟨rfl, hB⟩
  have B10 : Below w.heap.size w w10 := B9.trans (hB.mono B9.size)
  clear B9 hB
  rw [Q10.out]
  unfold tup
  go_wp2_with fail
  refine (two_rem a b ha hb _).mono ?_
  rintro e w11 ⟨rfl, hB⟩
  have B11 : Below w.heap.size w w11 := B10.trans (hB.mono B10.size)
  clear B10 hB
  rw [Q11.out]
  unfold tup
  go_wp2_with fail
  refine (two_mod a b ha hb _).mono ?_
  rintro e w12 ⟨rfl, hB⟩
  have B12 : Below w.heap.size w w12 := B11.trans (hB.mono B11.size)
  clear B11 hB
  rw [Q12.out]
  unfold tup
  go_wp2_with fail
  refine (two_times u b hu hb _).mono ?_
  rintro e w13 ⟨rfl, hB⟩
  have B13 : Below w.heap.size w w13 := B12.trans (hB.mono B12.size)
  clear B12 hB
  rw [Q13.out]
  unfold tup
  go_wp2_with fail
  refine (two_plus back r hback hr _).mono ?_
  rintro e w14 ⟨rfl, hB⟩
  have B14 : Below w.heap.size w w14 := B13.trans (hB.mono B13.size)
  clear B13 hB
  rw [Q14.out]
  unfold tup
  go_wp2_with fail
  refine (two_minus md r hmd hr _).mono ?_
  rintro e w15 ⟨rfl, hB⟩
  have B15 : Below w.heap.size w w15 := B14.trans (hB.mono B14.size)
  clear B14 hB
  rw [Q15.out]
  unfold tup
  go_wp2_with fail
  all_goals
    refine (wakes_true _).mono ?_
    rintro e w16 ⟨rfl, hB⟩
    have B16 : Below w.heap.size w w16 := B15.trans (hB.mono B15.size)
    clear B15 hB
    go_wp2
    go_ret
    exact ⟨rfl, B16⟩

set_option maxRecDepth 100000 in
set_option maxHeartbeats 4000000 in
theorem ring_1000 (a b c : Int) (ha : isI64 a) (hb : isI64 b) (hc : isI64 c)
    (s p g : Int)
    (e : Int)
    (q1 : ansOf (plusR a b) = tup s e) (q2 : ansOf (plusR b a) = tup s e) (q3 : ansOf (timesR a b) = tup p g) (q4 : ansOf (timesR b a) = tup p g)
    (he : e = 0) (hs : isI64 s) (q5 : ansOf (minusR s b) = tup a 0)
    (x j y k z m v n : Int) (q6 : ansOf (timesR s c) = tup x j) (q7 : ansOf (timesR a c) = tup y k) (q8 : ansOf (timesR b c) = tup z m) (hy : isI64 y) (hz : isI64 z) (q9 : ansOf (plusR y z) = tup v n)
    (hj : (j == 0) = false)
    (u jq r kr md km : Int) (q10 : ansOf (quotR a b) = tup u jq) (q11 : ansOf (remR a b) = tup r kr) (q12 : ansOf (modR a b) = tup md km)
    (hbz : (b == 0) = false) (hkr : kr = 0) (hkm : km = 0) (hr : isI64 r) (hmd : isI64 md) (less : Int) (q15 : ansOf (minusR md r) = tup less 0)
    (t1 : ((r == 0) || (decide (r < 0) == decide (a < 0))) = true) (t2 : ((md == 0) || (decide (md < 0) == decide (b < 0))) = true) (t3 : ((less == 0) || (less == b)) = true)
    (hjq : jq = 22) (ta : (a == -9223372036854775808) = true) (tb : (b == -1) = true)
    (w : World) :
    Calls Try.prog 3 #[.int .i64 a, .int .i64 b, .int .i64 c] w fun e w' => e = .returned (.bool true) ∧ Below w.heap.size w w' := by
  have Q1 := Lib.hid q1
  have Q2 := Lib.hid q2
  have Q3 := Lib.hid q3
  have Q4 := Lib.hid q4
  have Q5 := Lib.hid q5
  have Q6 := Lib.hid q6
  have Q7 := Lib.hid q7
  have Q8 := Lib.hid q8
  have Q9 := Lib.hid q9
  have Q10 := Lib.hid q10
  have Q11 := Lib.hid q11
  have Q12 := Lib.hid q12
  have Q15 := Lib.hid q15
  clear q1 q2 q3 q4 q5 q6 q7 q8 q9 q10 q11 q12 q15
  subst he
  subst hkr
  subst hkm
  subst hjq
  have B0 : Below w.heap.size w w := Below.refl _ _
  go_enter Try.func3, Try.ntmps3
  go_wp2_with fail
  refine (two_plus a b ha hb _).mono ?_
  rintro e w1 ⟨rfl, hB⟩
  have B1 : Below w.heap.size w w1 := B0.trans (hB.mono B0.size)
  clear B0 hB
  rw [Q1.out]
  unfold tup
  go_wp2_with fail
  refine (two_plus b a hb ha _).mono ?_
  rintro e w2 ⟨rfl, hB⟩
  have B2 : Below w.heap.size w w2 := B1.trans (hB.mono B1.size)
  clear B1 hB
  rw [Q2.out]
  unfold tup
  go_wp2_with fail
  refine (two_times a b ha hb _).mono ?_
  rintro e w3 ⟨rfl, hB⟩
  have B3 : Below w.heap.size w w3 := B2.trans (hB.mono B2.size)
  clear B2 hB
  rw [Q3.out]
  unfold tup
  go_wp2_with fail
  refine (two_times b a hb ha _).mono ?_
  rintro e w4 ⟨rfl, hB⟩
  have B4 : Below w.heap.size w w4 := B3.trans (hB.mono B3.size)
  clear B3 hB
  rw [Q4.out]
  unfold tup
  go_wp2_with fail
  refine (two_minus s b hs hb _).mono ?_
  rintro e w5 ⟨rfl, hB⟩
  have B5 : Below w.heap.size w w5 := B4.trans (hB.mono B4.size)
  clear B4 hB
  rw [Q5.out]
  unfold tup
  go_wp2_with fail
  refine (two_times s c hs hc _).mono ?_
  rintro e w6 ⟨rfl, hB⟩
  have B6 : Below w.heap.size w w6 := B5.trans (hB.mono B5.size)
  clear B5 hB
  rw [Q6.out]
  unfold tup
  go_wp2_with fail
  refine (two_times a c ha hc _).mono ?_
  rintro e w7 ⟨rfl, hB⟩
  have B7 : Below w.heap.size w w7 := B6.trans (hB.mono B6.size)
  clear B6 hB
  rw [Q7.out]
  unfold tup
  go_wp2_with fail
  refine (two_times b c hb hc _).mono ?_
  rintro e w8 ⟨rfl, hB⟩
  have B8 : Below w.heap.size w w8 := B7.trans (hB.mono B7.size)
  clear B7 hB
  rw [Q8.out]
  unfold tup
  go_wp2_with fail
  refine (two_plus y z hy hz _).mono ?_
  rintro e w9 ⟨rfl, hB⟩
  have B9 : Below w.heap.size w w9 := B8.trans (hB.mono B8.size)
  clear B8 hB
  rw [Q9.out]
  unfold tup
  go_wp2_with fail
  refine (two_quot a b ha hb _).mono ?_
  rintro e w10 ⟨rfl, hB⟩
  have B10 : Below w.heap.size w w10 := B9.trans (hB.mono B9.size)
  clear B9 hB
  rw [Q10.out]
  unfold tup
  go_wp2_with fail
  refine (two_rem a b ha hb _).mono ?_
  rintro e w11 ⟨rfl, hB⟩
  have B11 : Below w.heap.size w w11 := B10.trans (hB.mono B10.size)
  clear B10 hB
  rw [Q11.out]
  unfold tup
  go_wp2_with fail
  refine (two_mod a b ha hb _).mono ?_
  rintro e w12 ⟨rfl, hB⟩
  have B12 : Below w.heap.size w w12 := B11.trans (hB.mono B11.size)
  clear B11 hB
  rw [Q12.out]
  unfold tup
  go_wp2_with fail
  refine (two_minus md r hmd hr _).mono ?_
  rintro e w13 ⟨rfl, hB⟩
  have B13 : Below w.heap.size w w13 := B12.trans (hB.mono B12.size)
  clear B12 hB
  rw [Q15.out]
  unfold tup
  go_wp2_with fail
  all_goals
    refine (wakes_true _).mono ?_
    rintro e w14 ⟨rfl, hB⟩
    have B14 : Below w.heap.size w w14 := B13.trans (hB.mono B13.size)
    clear B13 hB
    go_wp2
    go_ret
    exact ⟨rfl, B14⟩

end Go.Proofs.Ytbpacicbbepdhaa
