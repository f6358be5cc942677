import Derived.Test.YtnmhnaanpjlniaaGreatRows
import Derived.WalkKit
import Derived.WalkSpells
import Derived.WalkLawsBesides
import Derived.Lib.Hide
import Derived.Shelf.Bits.Mul64
import Derived.Test.YtnmhnaanpjlniaaGreatTl
import Derived.Test.YtnmhnaanpjlniaaGreatXc
/-
  What the small functions of arith and term do: each contract says what one call hands back or panics with, and that memory that was there stays as it was.
-/
namespace Go.Proofs.YtnmhnaanpjlniaaGreat
open Go.RowKit


/-- what is thrown -/
def thrown (n : Int) : List PanicEntry := [{ v := .iface 35 (.int .i64 n), recovered := false }]




set_option maxHeartbeats 400000 in
theorem within_true (w : World) :
    Calls Tryz.prog 137 #[.bool true] w fun e w' => e = .returned (.tuple #[]) ∧ w' = w := by
  go_enter Tryz.func137, Tryz.ntmps137
  go_wp2
  go_end0
  exact ⟨rfl, rfl⟩

set_option maxHeartbeats 400000 in
theorem within_false (w : World) :
    Calls Tryz.prog 137 #[.bool false] w fun e w' => e = .panicked (thrown 22) ∧ w' = w := by
  go_enter Tryz.func137, Tryz.ntmps137
  go_wp2
  exact ⟨rfl, rfl, rfl⟩

set_option maxHeartbeats 400000 in
theorem zero_no (n : Int) (h : n ≠ 0) (w : World) :
    Calls Tryz.prog 140 #[.int .i64 n] w fun e w' => e = .returned (.tuple #[]) ∧ w' = w := by
  have h1 : (n == 0) = false := by simp [h]
  go_enter Tryz.func140, Tryz.ntmps140
  go_wp2
  go_end0
  exact ⟨rfl, rfl⟩

set_option maxHeartbeats 400000 in
theorem zero_yes (w : World) :
    Calls Tryz.prog 140 #[.int .i64 0] w fun e w' => e = .panicked (thrown 23) ∧ w' = w := by
  go_enter Tryz.func140, Tryz.ntmps140
  go_wp2
  exact ⟨rfl, rfl, rfl⟩

def isI64 (n : Int) : Prop := -9223372036854775808 ≤ n ∧ n ≤ 9223372036854775807

/-- how a call ends that answers a number, or throws -/
def endsAs (r : Int × Int) : Ending := if r.2 = 0 then .returned (.int .i64 r.1) else .panicked (thrown r.2)

def plusR (a b : Int) : Int × Int := if -9223372036854775808 ≤ a + b ∧ a + b ≤ 9223372036854775807 then (a + b, 0) else (0, 22)
def minusR (a b : Int) : Int × Int := if -9223372036854775808 ≤ a - b ∧ a - b ≤ 9223372036854775807 then (a - b, 0) else (0, 22)
def timesR (a b : Int) : Int × Int := if -9223372036854775808 ≤ a * b ∧ a * b ≤ 9223372036854775807 then (a * b, 0) else (0, 22)
def quotR (a b : Int) : Int × Int := if b = 0 then (0, 23) else if a = -9223372036854775808 ∧ b = -1 then (0, 22) else (a.tdiv b, 0)
def remR (a b : Int) : Int × Int := if b = 0 then (0, 23) else (a.tmod b, 0)
def modR (a b : Int) : Int × Int := if b = 0 then (0, 23) else if a.tmod b ≠ 0 ∧ ¬ (a.tmod b < 0 ↔ b < 0) then (a.tmod b + b, 0) else (a.tmod b, 0)

theorem endsAs_ok (n : Int) : endsAs (n, 0) = .returned (.int .i64 n) := rfl
theorem if_iff {α : Type} {p q : Prop} [Decidable p] [Decidable q] (h : p ↔ q) (x y : α) : (if p then x else y) = if q then x else y := by
  by_cases hp : p
  · rw [if_pos hp, if_pos (h.1 hp)]
  · rw [if_neg hp, if_neg (fun hq => hp (h.2 hq))]

theorem dec_eq {p q : Prop} [Decidable p] [Decidable q] (h : p ↔ q) : (decide p == decide q) = true := by simp [h]
theorem dec_ne {p q : Prop} [Decidable p] [Decidable q] (h : ¬ (p ↔ q)) : (decide p == decide q) = false := by
  by_cases hp : p <;> by_cases hq : q <;> simp_all

set_option maxHeartbeats 400000 in
theorem plus_any (a b : Int) (ha : isI64 a) (hb : isI64 b) (w : World) :
    Calls Tryz.prog 129 #[.int .i64 a, .int .i64 b] w fun e w' => e = endsAs (plusR a b) ∧ w' = w := by
  unfold isI64 at ha hb
  unfold plusR
  by_cases h : -9223372036854775808 ≤ a + b ∧ a + b ≤ 9223372036854775807
  · rw [if_pos h]
    have e1 := Lib.hid (dec_eq (p := a + b < a) (q := b < 0) (by omega))
    go_enter Tryz.func129, Tryz.ntmps129
    go_wp2_with fail
    rw [e1.out]
    refine (within_true _).mono ?_
    rintro e w' ⟨rfl, rfl⟩
    go_wp2
    go_ret
    exact ⟨rfl, rfl⟩
  · rw [if_neg h]
    have e1 := Lib.hid (dec_ne (p := wrap64 (a + b) < a) (q := b < 0) (by unfold wrap64; omega))
    go_enter Tryz.func129, Tryz.ntmps129
    go_wp2_with fail
    rw [e1.out]
    refine (within_false _).mono ?_
    rintro e w' ⟨rfl, rfl⟩
    go_wp2
    exact ⟨rfl, rfl, rfl⟩

set_option maxHeartbeats 400000 in
theorem minus_any (a b : Int) (ha : isI64 a) (hb : isI64 b) (w : World) :
    Calls Tryz.prog 130 #[.int .i64 a, .int .i64 b] w fun e w' => e = endsAs (minusR a b) ∧ w' = w := by
  unfold isI64 at ha hb
  unfold minusR
  by_cases h : -9223372036854775808 ≤ a - b ∧ a - b ≤ 9223372036854775807
  · rw [if_pos h]
    have e1 := Lib.hid (dec_eq (p := a < a - b) (q := b < 0) (by omega))
    go_enter Tryz.func130, Tryz.ntmps130
    go_wp2_with fail
    rw [e1.out]
    refine (within_true _).mono ?_
    rintro e w' ⟨rfl, rfl⟩
    go_wp2
    go_ret
    exact ⟨rfl, rfl⟩
  · rw [if_neg h]
    have e1 := Lib.hid (dec_ne (p := a < wrap64 (a - b)) (q := b < 0) (by unfold wrap64; omega))
    go_enter Tryz.func130, Tryz.ntmps130
    go_wp2_with fail
    rw [e1.out]
    refine (within_false _).mono ?_
    rintro e w' ⟨rfl, rfl⟩
    go_wp2
    exact ⟨rfl, rfl, rfl⟩

theorem ret_u64 {a b : Int} (h : a = b) : Ending.returned (.int .u64 a) = .returned (.int .u64 b) := by rw [h]
theorem ret_i64 {a b : Int} (h : a = b) : Ending.returned (.int .i64 a) = .returned (.int .i64 b) := by rw [h]

set_option maxHeartbeats 400000 in
theorem magnitude_any (a : Int) (ha : isI64 a) (w : World) :
    Calls Tryz.prog 139 #[.int .i64 a] w fun e w' => e = .returned (.int .u64 (a.natAbs : Int)) ∧ w' = w := by
  unfold isI64 at ha
  by_cases h : a < 0
  · have e1 := Lib.hid (show IntKind.u64.wrap (-IntKind.u64.wrap a) = (a.natAbs : Int) by rw [IntKind.wrap_u64, IntKind.wrap_u64]; omega)
    go_enter Tryz.func139, Tryz.ntmps139
    go_wp2
    go_ret
    exact ⟨ret_u64 e1.out, rfl⟩
  · go_enter Tryz.func139, Tryz.ntmps139
    go_wp2
    go_ret
    exact ⟨ret_u64 (by omega), rfl⟩

def hiU (x y : Nat) : Int := ((x * y / 18446744073709551616 : Nat) : Int)
def loU (x y : Nat) : Int := ((x * y % 18446744073709551616 : Nat) : Int)

set_option maxHeartbeats 1000000 in
theorem mul64_any (x y : Nat) (hx : x < 18446744073709551616) (hy : y < 18446744073709551616) (w : World) :
    Calls Tryz.prog 138 #[.int .u64 x, .int .u64 y] w fun e w' => e = .returned (.tuple #[.int .u64 (hiU x y), .int .u64 (loU x y)]) ∧ w' = w := by
  obtain ⟨bd, bt, bw, hhi⟩ := Lib.mul64_hi x y hx hy
  have ba := Lib.half_mul_le (a := x / 4294967296) (b := y / 4294967296) (by omega) (by omega)
  have bb := Lib.half_mul_le (a := x / 4294967296) (b := y % 4294967296) (by omega) (by omega)
  have bc := Lib.half_mul_le (a := x % 4294967296) (b := y / 4294967296) (by omega) (by omega)
  go_enter Tryz.func138, Tryz.ntmps138
  go_wp2
  simp only [Mul64.maskN x hx, Mul64.maskN y hy, Mul64.divN, Mul64.mulN, Mul64.addN, Mul64.wrapN _ bd, Mul64.wrapN _ (show x / 4294967296 * (y % 4294967296) < 18446744073709551616 by omega), Mul64.wrapN _ bt, Mul64.maskN _ bt, Mul64.wrapN _ (show x % 4294967296 * (y / 4294967296) < 18446744073709551616 by omega), Mul64.wrapN _ bw, Mul64.wrapN _ (show x / 4294967296 * (y / 4294967296) < 18446744073709551616 by omega), Mul64.wrapM (x * y),
    Mul64.wrapN _ (show x / 4294967296 * (y / 4294967296) + (x / 4294967296 * (y % 4294967296) + x % 4294967296 * (y % 4294967296) / 4294967296) / 4294967296 < 18446744073709551616 by omega),
    Mul64.wrapN _ (show x / 4294967296 * (y / 4294967296) + (x / 4294967296 * (y % 4294967296) + x % 4294967296 * (y % 4294967296) / 4294967296) / 4294967296 + ((x / 4294967296 * (y % 4294967296) + x % 4294967296 * (y % 4294967296) / 4294967296) % 4294967296 + x % 4294967296 * (y / 4294967296)) / 4294967296 < 18446744073709551616 by omega)]
  rw [hhi]
  go_ret2
  exact ⟨rfl, rfl⟩

theorem natAbs_bound {a : Int} (ha : isI64 a) : a.natAbs ≤ 9223372036854775808 := by unfold isI64 at ha; omega

/-- what the test of times tells, by the product -/
theorem times_test (a b : Int) (_ha : isI64 a) (_hb : isI64 b) (m : Int)
    (hm : m = if (a < 0) ↔ (b < 0) then 9223372036854775807 else 9223372036854775808) :
    (hiU a.natAbs b.natAbs = 0 ∧ loU a.natAbs b.natAbs ≤ m) ↔ (-9223372036854775808 ≤ a * b ∧ a * b ≤ 9223372036854775807) := by
  have e : a.natAbs * b.natAbs = (a * b).natAbs := (Int.natAbs_mul a b).symm
  unfold hiU loU
  rw [e]
  have hs1 : (a < 0 ↔ b < 0) → 0 ≤ a * b := fun h => by
    by_cases h0 : a < 0
    · exact Int.le_of_lt (Int.mul_pos_of_neg_of_neg h0 (h.1 h0))
    · exact Int.mul_nonneg (by omega) (by have : ¬ b < 0 := fun hb => h0 (h.2 hb); omega)
  have hs2 : ¬ (a < 0 ↔ b < 0) → a * b ≤ 0 := fun h => by
    by_cases h0 : a < 0
    · have hb : 0 ≤ b := by
        by_cases hb : b < 0
        · exact absurd ⟨fun _ => hb, fun _ => h0⟩ h
        · omega
      exact Int.mul_nonpos_of_nonpos_of_nonneg (by omega) hb
    · have hb : b < 0 := by
        by_cases hb : b < 0
        · exact hb
        · exact absurd ⟨fun h' => absurd h' h0, fun h' => absurd h' hb⟩ h
      exact Int.mul_nonpos_of_nonneg_of_nonpos (by omega) (by omega)
  generalize a * b = p at *
  by_cases h : (a < 0 ↔ b < 0)
  · rw [if_pos h] at hm
    have := hs1 h
    omega
  · rw [if_neg h] at hm
    have := hs2 h
    omega

set_option maxHeartbeats 1000000 in
set_option maxRecDepth 100000 in
/-- times, by what its test tells -/
theorem times_walk (a b m h l : Int) (isN : Bool) (ha : isI64 a) (hb : isI64 b)
    (eh : hiU a.natAbs b.natAbs = h) (el : loU a.natAbs b.natAbs = l) (sa sb : Bool) (qa : decide (a < 0) = sa) (qb : decide (b < 0) = sb) (e1 : (sa != sb) = isN) (em : m = if isN then 9223372036854775808 else 9223372036854775807)
    (c : (h = 0 ∧ l ≤ m ∧ wrap64 (a * b) = a * b) ∨ (h = 0 ∧ ¬ l ≤ m) ∨ h ≠ 0) (w : World) :
    Calls Tryz.prog 131 #[.int .i64 a, .int .i64 b] w fun e w' => e = endsAs (if h = 0 ∧ l ≤ m then (a * b, 0) else (0, 22)) ∧ w' = w := by
  have na := natAbs_bound ha
  have nb := natAbs_bound hb
  have EH := Lib.hid eh
  have EL := Lib.hid el
  clear eh el
  cases sa <;> cases sb <;> cases isN <;> first | (exfalso; revert e1; decide) | skip
  all_goals
    clear e1
    have ra := qa
    have rb := qb
    simp only [decide_eq_true_eq, decide_eq_false_iff_not] at ra rb
    simp only [if_true, Bool.false_eq_true, if_false] at em
    subst em
    rcases c with ⟨rfl, hl, hw⟩ | ⟨rfl, hl⟩ | hh
  all_goals
    first
    | (have HW := Lib.hid hw
       clear hw
       rw [if_pos ⟨rfl, hl⟩, endsAs_ok])
    | (rw [if_neg (fun hc => hl hc.2)]
       have hd := decide_eq_false hl
       clear hl)
    | (have hz : (h == 0) = false := beq_eq_false_iff_ne.2 hh
       rw [if_neg (fun hc => hh hc.1)]
       clear hh)
  all_goals
    go_enter Tryz.func131, Tryz.ntmps131
    go_wp2_with fail
    refine (magnitude_any _ ha _).mono ?_
    rintro e w' ⟨rfl, rfl⟩
    go_wp2_with fail
    refine (magnitude_any _ hb _).mono ?_
    rintro e w' ⟨rfl, rfl⟩
    go_wp2_with fail
    refine (mul64_any _ _ (by omega) (by omega) _).mono ?_
    rintro e w' ⟨rfl, rfl⟩
    rw [EH.out, EL.out]
    go_wp2_with fail
    first
    | (refine (within_true _).mono ?_
       rintro e w' ⟨rfl, rfl⟩
       go_wp2
       go_ret
       exact ⟨ret_i64 HW.out, rfl⟩)
    | (refine (within_false _).mono ?_
       rintro e w' ⟨rfl, rfl⟩
       go_wp2
       exact ⟨rfl, rfl, rfl⟩)

theorem times_any (a b : Int) (ha : isI64 a) (hb : isI64 b) (w : World) :
    Calls Tryz.prog 131 #[.int .i64 a, .int .i64 b] w fun e w' => e = endsAs (timesR a b) ∧ w' = w := by
  by_cases hs : (a < 0 ↔ b < 0)
  · have e1 : (decide (a < 0) != decide (b < 0)) = false := by rw [bne_eq_false_iff_eq]; exact beq_iff_eq.1 (dec_eq hs)
    have T := times_test a b ha hb _ rfl
    rw [if_pos hs] at T
    have K := times_walk a b 9223372036854775807 _ _ false ha hb rfl rfl _ _ rfl rfl e1 rfl (by
      by_cases h1 : hiU a.natAbs b.natAbs = 0
      · by_cases h2 : loU a.natAbs b.natAbs ≤ 9223372036854775807
        · exact .inl ⟨h1, h2, IntWalk.wrap64_in _ (T.1 ⟨h1, h2⟩)⟩
        · exact .inr (.inl ⟨h1, h2⟩)
      · exact .inr (.inr h1)) w
    unfold timesR
    rwa [if_iff T] at K
  · have e1 : (decide (a < 0) != decide (b < 0)) = true := by rw [bne_iff_ne]; exact beq_eq_false_iff_ne.1 (dec_ne hs)
    have T := times_test a b ha hb _ rfl
    rw [if_neg hs] at T
    have K := times_walk a b 9223372036854775808 _ _ true ha hb rfl rfl _ _ rfl rfl e1 rfl (by
      by_cases h1 : hiU a.natAbs b.natAbs = 0
      · by_cases h2 : loU a.natAbs b.natAbs ≤ 9223372036854775808
        · exact .inl ⟨h1, h2, IntWalk.wrap64_in _ (T.1 ⟨h1, h2⟩)⟩
        · exact .inr (.inl ⟨h1, h2⟩)
      · exact .inr (.inr h1)) w
    unfold timesR
    rwa [if_iff T] at K

set_option maxHeartbeats 400000 in
theorem quotient_any (a b : Int) (ha : isI64 a) (hb : isI64 b) (w : World) :
    Calls Tryz.prog 132 #[.int .i64 a, .int .i64 b] w fun e w' => e = endsAs (quotR a b) ∧ w' = w := by
  unfold isI64 at ha hb
  unfold quotR
  by_cases h : b = 0
  · subst h
    rw [if_pos rfl]
    go_enter Tryz.func132, Tryz.ntmps132
    go_wp2_with fail
    refine (zero_yes _).mono ?_
    rintro e w' ⟨rfl, rfl⟩
    go_wp2
    exact ⟨rfl, rfl, rfl⟩
  · rw [if_neg h]
    have q1 : a = -9223372036854775808 ∧ b = -1 ∨ (a = -9223372036854775808 ∧ b ≠ -1) ∨ a ≠ -9223372036854775808 := by omega
    have bd : b ≠ -1 ∨ a ≠ -9223372036854775808 → -9223372036854775808 ≤ a.tdiv b ∧ a.tdiv b ≤ 9223372036854775807 := by
      intro hc
      have h1 : (a.tdiv b).natAbs = a.natAbs / b.natAbs := Int.natAbs_tdiv a b
      have h2 : a.natAbs / b.natAbs ≤ a.natAbs := Nat.div_le_self _ _
      have h3 : a.tdiv b ≠ 9223372036854775808 := by
        intro he
        rw [he] at h1
        have h4 : b.natAbs ≠ 1 → a.natAbs / b.natAbs ≤ a.natAbs / 2 := fun hb1 => Nat.div_le_div_left (by omega) (by omega)
        have h5 : b.natAbs = 1 := by
          by_cases hb1 : b.natAbs = 1
          · exact hb1
          · have := h4 hb1; omega
        have h6 : b = 1 ∨ b = -1 := by omega
        rcases h6 with rfl | rfl
        · rw [Int.tdiv_one] at he; omega
        · have h7 : a.tdiv (-1) = -a := by rw [Int.tdiv_neg, Int.tdiv_one]
          rw [h7] at he
          omega
      omega
    have bd' := Lib.hid bd
    clear bd
    have e3 : (b != -1) = !decide (b = -1) := by by_cases hb1 : b = -1 <;> simp [hb1]
    have e4 : (a != -9223372036854775808) = !decide (a = -9223372036854775808) := by by_cases hb1 : a = -9223372036854775808 <;> simp [hb1]
    rcases q1 with ⟨qa, qb⟩ | ⟨qa, hb1⟩ | ha1
    · rw [if_pos ⟨qa, qb⟩]
      rw [decide_eq_true qa] at e4
      rw [decide_eq_true qb] at e3
      clear qa qb
      go_enter Tryz.func132, Tryz.ntmps132
      go_wp2_with fail
      refine (zero_no _ h _).mono ?_
      rintro e w' ⟨rfl, rfl⟩
      go_wp2_with fail
      refine (within_false _).mono ?_
      rintro e w' ⟨rfl, rfl⟩
      go_wp2
      exact ⟨rfl, rfl, rfl⟩
    · rw [if_neg (fun hc => hb1 hc.2), endsAs_ok]
      rw [decide_eq_true qa] at e4
      rw [decide_eq_false hb1] at e3
      have e2 := Lib.hid (IntWalk.wrap64_in _ (bd'.out (.inl hb1)))
      clear qa hb1
      go_enter Tryz.func132, Tryz.ntmps132
      go_wp2_with fail
      refine (zero_no _ h _).mono ?_
      rintro e w' ⟨rfl, rfl⟩
      go_wp2_with fail
      refine (within_true _).mono ?_
      rintro e w' ⟨rfl, rfl⟩
      go_wp2
      go_ret
      exact ⟨ret_i64 e2.out, rfl⟩
    · rw [if_neg (fun hc => ha1 hc.1), endsAs_ok]
      rw [decide_eq_false ha1] at e4
      have e2 := Lib.hid (IntWalk.wrap64_in _ (bd'.out (.inr ha1)))
      clear ha1 e3
      go_enter Tryz.func132, Tryz.ntmps132
      go_wp2_with fail
      refine (zero_no _ h _).mono ?_
      rintro e w' ⟨rfl, rfl⟩
      go_wp2_with fail
      refine (within_true _).mono ?_
      rintro e w' ⟨rfl, rfl⟩
      go_wp2
      go_ret
      exact ⟨ret_i64 e2.out, rfl⟩

theorem tmod_bd (a b : Int) (hb : isI64 b) (h : b ≠ 0) : -9223372036854775808 < a.tmod b ∧ a.tmod b < 9223372036854775808 := by
  unfold isI64 at hb
  have h1 : (a.tmod b).natAbs = a.natAbs % b.natAbs := Int.natAbs_tmod a b
  have h2 : a.natAbs % b.natAbs < b.natAbs := Nat.mod_lt _ (by omega)
  omega

set_option maxHeartbeats 400000 in
theorem remainder_any (a b : Int) (_ha : isI64 a) (hb : isI64 b) (w : World) :
    Calls Tryz.prog 133 #[.int .i64 a, .int .i64 b] w fun e w' => e = endsAs (remR a b) ∧ w' = w := by
  unfold remR
  by_cases h : b = 0
  · subst h
    rw [if_pos rfl]
    go_enter Tryz.func133, Tryz.ntmps133
    go_wp2_with fail
    refine (zero_yes _).mono ?_
    rintro e w' ⟨rfl, rfl⟩
    go_wp2
    exact ⟨rfl, rfl, rfl⟩
  · rw [if_neg h]
    have bd := tmod_bd a b hb h
    have e2 := Lib.hid (IntWalk.wrap64_in (a.tmod b) (by omega))
    clear bd
    go_enter Tryz.func133, Tryz.ntmps133
    go_wp2_with fail
    refine (zero_no _ h _).mono ?_
    rintro e w' ⟨rfl, rfl⟩
    go_wp2
    go_ret
    exact ⟨rfl, rfl⟩

set_option maxHeartbeats 400000 in
theorem modulo_any (a b : Int) (_ha : isI64 a) (hb : isI64 b) (w : World) :
    Calls Tryz.prog 134 #[.int .i64 a, .int .i64 b] w fun e w' => e = endsAs (modR a b) ∧ w' = w := by
  unfold modR
  by_cases h : b = 0
  · subst h
    rw [if_pos rfl]
    go_enter Tryz.func134, Tryz.ntmps134
    go_wp2_with fail
    refine (zero_yes _).mono ?_
    rintro e w' ⟨rfl, rfl⟩
    go_wp2
    exact ⟨rfl, rfl, rfl⟩
  · rw [if_neg h]
    have bd := tmod_bd a b hb h
    unfold isI64 at hb
    generalize hr : a.tmod b = r at *
    have hr' := Lib.hid hr
    clear hr
    have c : r = 0 ∨ (r ≠ 0 ∧ ((r < 0 ∧ 0 < b) ∨ (0 < r ∧ b < 0))) ∨ (r ≠ 0 ∧ ((r < 0 ∧ b < 0) ∨ (0 < r ∧ 0 < b))) := by omega
    have hw : IntKind.i64.wrap r = r := IntWalk.i64_in _ (by omega)
    rcases c with rfl | ⟨h1, h2 | h2⟩ | ⟨h1, h2 | h2⟩
    all_goals
      first
      | rw [if_neg (fun hc => hc.1 rfl), endsAs_ok]
      | rw [if_pos (by omega), endsAs_ok]
      | rw [if_neg (by omega), endsAs_ok]
    all_goals
      try have hn : (r != 0) = true := by rw [bne_iff_ne]; exact h1
      try clear h1
      first | have d1 : decide (r < 0) = true := decide_eq_true (by omega) | have d1 : decide (r < 0) = false := decide_eq_false (by omega) | skip
      first | have d2 : decide (b < 0) = true := decide_eq_true (by omega) | have d2 : decide (b < 0) = false := decide_eq_false (by omega) | skip
      try obtain ⟨h3, h4⟩ := h2
      go_enter Tryz.func134, Tryz.ntmps134
      go_wp2_with fail
      refine (zero_no _ h _).mono ?_
      rintro e w' ⟨rfl, rfl⟩
      have hr2 := hr'.out
      go_wp2
    all_goals
      go_ret
      first
      | exact ⟨rfl, rfl⟩
      | exact ⟨ret_i64 (IntWalk.wrap64_in _ (by omega)), rfl⟩

end Go.Proofs.YtnmhnaanpjlniaaGreat
/-
  A term is stored into a list's place.
-/
namespace Go.Proofs.YtnmhnaanpjlniaaGreat
open Go.RowKit

/-- a term into a list's place -/
theorem put4 (w' : World) (R x : Nat) (v0 v1 v2 v3 : Value) (r0 : (w'.cell? ⟨R, x, none⟩).isSome) (r1 : (w'.cell? ⟨R, x + 1, none⟩).isSome) (r2 : (w'.cell? ⟨R, x + 2, none⟩).isSome) (r3 : (w'.cell? ⟨R, x + 3, none⟩).isSome) :
    ∃ W, W = ((((w'.setCell ⟨R, x, none⟩ v0).setCell ⟨R, x + 1, none⟩ v1).setCell ⟨R, x + 2, none⟩ v2).setCell ⟨R, x + 3, none⟩ v3) ∧ W.heap.size = w'.heap.size ∧
      (∀ b y, b ≠ R → W.cell? ⟨b, y, none⟩ = w'.cell? ⟨b, y, none⟩) ∧ (∀ y, y < x ∨ x + 4 ≤ y → W.cell? ⟨R, y, none⟩ = w'.cell? ⟨R, y, none⟩) ∧
      W.cell? ⟨R, x, none⟩ = some v0 ∧ W.cell? ⟨R, x + 1, none⟩ = some v1 ∧ W.cell? ⟨R, x + 2, none⟩ = some v2 ∧ W.cell? ⟨R, x + 3, none⟩ = some v3 ∧ (∀ b y, W.frozen? ⟨b, y, none⟩ = w'.frozen? ⟨b, y, none⟩) ∧
      (∀ B (w : World), B ≤ R → Below B w w' → Below B w W) := by
  have hneq : ∀ y z : Nat, y ≠ z → (⟨R, y, none⟩ : Addr) ≠ ⟨R, z, none⟩ := fun y z h e => h (by injection e)
  have other : ∀ (u : World) (p q : Addr) (v : Value), p ≠ q → (u.setCell p v).cell? q = u.cell? q := fun u p q v h => World.cell?_setCell_other _ _ _ _ h
  have same : ∀ (u : World) (p : Addr) (v y : Value), u.cell? p = some y → (u.setCell p v).cell? p = some v := fun u p v y h => World.cell?_setCell_same _ _ _ h
  obtain ⟨u0, r0⟩ := Option.isSome_iff_exists.1 r0
  obtain ⟨u1, r1⟩ := Option.isSome_iff_exists.1 r1
  obtain ⟨u2, r2⟩ := Option.isSome_iff_exists.1 r2
  obtain ⟨u3, r3⟩ := Option.isSome_iff_exists.1 r3
  refine ⟨_, rfl, by simp, fun b y h2 => ?_, fun y hy => ?_, ?_, ?_, ?_, ?_, fun b y => by simp, fun B w hR hB => ?_⟩
  · have hb : ∀ z : Nat, (⟨R, z, none⟩ : Addr) ≠ ⟨b, y, none⟩ := fun z e => h2 (by injection e with e1; exact e1.symm)
    rw [other _ _ _ _ (hb _), other _ _ _ _ (hb _), other _ _ _ _ (hb _), other _ _ _ _ (hb _)]
  · rw [other _ _ _ _ (hneq _ _ (by omega)), other _ _ _ _ (hneq _ _ (by omega)), other _ _ _ _ (hneq _ _ (by omega)), other _ _ _ _ (hneq _ _ (by omega))]
  · rw [other _ _ _ _ (hneq _ _ (by omega)), other _ _ _ _ (hneq _ _ (by omega)), other _ _ _ _ (hneq _ _ (by omega))]
    exact same _ _ _ u0 r0
  · rw [other _ _ _ _ (hneq _ _ (by omega)), other _ _ _ _ (hneq _ _ (by omega))]
    exact same _ _ _ u1 (by rw [other _ _ _ _ (hneq _ _ (by omega))]; exact r1)
  · rw [other _ _ _ _ (hneq _ _ (by omega))]
    exact same _ _ _ u2 (by rw [other _ _ _ _ (hneq _ _ (by omega)), other _ _ _ _ (hneq _ _ (by omega))]; exact r2)
  · exact same _ _ _ u3 (by rw [other _ _ _ _ (hneq _ _ (by omega)), other _ _ _ _ (hneq _ _ (by omega)), other _ _ _ _ (hneq _ _ (by omega))]; exact r3)
  · exact (((hB.setCell (p := ⟨R, x, none⟩) hR _).setCell (p := ⟨R, x + 1, none⟩) hR _).setCell (p := ⟨R, x + 2, none⟩) hR _).setCell (p := ⟨R, x + 3, none⟩) hR _

end Go.Proofs.YtnmhnaanpjlniaaGreat
/-
  Layer 3: no substitution binds nothing: what is called on nil.
-/
namespace Go.Proofs.YtnmhnaanpjlniaaGreat
open Go.RowKit






set_option maxRecDepth 100000 in
set_option maxHeartbeats 4000000 in
theorem sclone_any : ∀ (sz : Nat) (ts : Ts), ts.size < sz → ts.size ≤ 1000000 → ts.ok → ∀ (k : Int) (s : ByteArray) (n : Int) (w : World) (p : Option Addr) (c : Nat), Ts.At w p ts →
    Calls Tryz.prog 42 #[.agg #[.int .u8 k, .string s, .int .i64 n, .slice p ts.len c]] w fun e w' => ∃ (us : Ts) (p' : Option Addr) (c' : Nat), e = .returned (tv k s n p' us.len c') ∧ Ts.AtB w.heap.size w' p' us ∧ Ts.twin us ts ∧ us.ok ∧ (us.len ≤ c' ∧ c' ≤ 9223372036854775807) ∧ (p' = none → c' = 0) ∧ Below w.heap.size w w' := by
  intro sz
  induction sz with
  | zero => intro ts h; omega
  | succ sz ih =>
    intro ts hsz hbig hok k s n w p c hat
    have hls := Ts.len_size ts
    by_cases h0 : ((ts.len : Int) == 0) = true
    · obtain rfl : ts = .nil := Ts.len_zero (by simp at h0; omega)
      clear h0
      have h0 : Ts.nil.len = 0 := rfl
      go_enter Tryz.func42, Tryz.ntmps42
      go_wp2
      exact bodyPost_ret (v := tv k s n none 0 0) (by simp [results, Tryz.results42, go_sem, tv]) rfl ⟨.nil, none, 0, rfl, ⟨0, 0, .inl rfl, trivial⟩, trivial, trivial, ⟨Nat.le_refl _, by omega⟩, fun _ => rfl, ((Below.refl _ _).alloc (Nat.le_refl _) _).alloc (by simp) _⟩
    · rw [Bool.not_eq_true] at h0
      have hmk := make_terms ts.len (by omega)
      obtain ⟨W2, hW2, hs2, hB2, hf1, hf2, hc1, hc2⟩ : ∃ W, W = (w.alloc (.cells #[.int .u8 k, .string s, .int .i64 n, .slice p ts.len c] 25)).alloc (.cells #[.int .u8 0, .string ⟨#[]⟩, .int .i64 0, .slice none 0 0] 25) ∧ W.heap.size = w.heap.size + 2 ∧ Below w.heap.size w W ∧ (∀ y, W.frozen? ⟨w.heap.size, y, none⟩ = false) ∧ (∀ y, W.frozen? ⟨w.heap.size + 1, y, none⟩ = false) ∧
          (∀ y v, (#[Value.int .u8 k, .string s, .int .i64 n, .slice p ts.len c] : Array Value)[y]? = some v → W.cell? ⟨w.heap.size, y, none⟩ = some v) ∧ (∀ y v, (#[Value.int .u8 0, .string ⟨#[]⟩, .int .i64 0, .slice none 0 0] : Array Value)[y]? = some v → W.cell? ⟨w.heap.size + 1, y, none⟩ = some v) := by
        obtain ⟨V, hV, sV, bV, cV, fV⟩ := alloc_new w #[.int .u8 k, .string s, .int .i64 n, .slice p ts.len c] 25
        obtain ⟨U, hU, sU, bU, cU, fU⟩ := alloc_new V #[.int .u8 0, .string ⟨#[]⟩, .int .i64 0, .slice none 0 0] 25
        rw [sV] at cU fU
        exact ⟨U, by rw [hU, hV], by omega, bV.trans (bU.mono (by omega)), fun y => ((stays bU).2 _ _ (by omega)).trans (fV y), fU, fun y v h => ((stays bU).1 _ _ (by omega)).trans (cV y v h), cU⟩
      obtain ⟨W3, hW3, hs3, hB3, hc3, hf3⟩ := alloc_new W2 (zeroCells ts.len) 25
      have hc3' : ∀ x, x < ts.len * 4 → ∃ v, W3.cell? ⟨W2.heap.size, x, none⟩ = some v := fun x hx => ⟨_, hc3 x _ (Array.getElem?_eq_getElem (by rw [size_zeroCells]; exact hx))⟩
      obtain ⟨b, o, hp, hlies⟩ := hat
      have LI : Hid (ts.lies w b o) := Lib.hid hlies
      have HP := Lib.hid hp
      have OK := Lib.hid hok
      go_enter Tryz.func42, Tryz.ntmps42
      go_wp2_with fail
      rw [← hW2]
      rw [show w.heap.size + 1 + 1 = W2.heap.size by omega, ← hW3]
      have Z := Lib.hid (And.intro hW2 hW3)
      have B03 := Lib.hid (hB2.trans (hB3.mono (by omega)))
      have C3 := Lib.hid hc3'
      have F3 := Lib.hid hf3
      have C1 : Hid (∀ y v, (#[Value.int .u8 k, .string s, .int .i64 n, .slice p ts.len c] : Array Value)[y]? = some v → W3.cell? ⟨w.heap.size, y, none⟩ = some v) := Lib.hid (fun y v h => ((stays hB3).1 _ _ (by omega)).trans (hc1 y v h))
      have C2 : Hid (∀ y v, (#[Value.int .u8 0, .string ⟨#[]⟩, .int .i64 0, .slice none 0 0] : Array Value)[y]? = some v → W3.cell? ⟨w.heap.size + 1, y, none⟩ = some v) := Lib.hid (fun y v h => ((stays hB3).1 _ _ (by omega)).trans (hc2 y v h))
      have FF : Hid (∀ b y, w.heap.size ≤ b → b < w.heap.size + 2 → W3.frozen? ⟨b, y, none⟩ = false) := Lib.hid (fun b y h h' => by
        obtain rfl | rfl : b = w.heap.size ∨ b = w.heap.size + 1 := by omega
        · exact ((stays hB3).2 _ _ (by omega)).trans (hf1 y)
        · exact ((stays hB3).2 _ _ (by omega)).trans (hf2 y))
      obtain ⟨R, hR⟩ : ∃ R, W2.heap.size = R := ⟨_, rfl⟩
      rw [hR] at C3 F3 hs3 ⊢
      have hRw : R = w.heap.size + 2 := by omega
      have HRW := Lib.hid hRw
      clear hW2 hW3 hB2 hB3 hc1 hc2 hf1 hf2 hc3 hc3' hf3 hmk h0 hlies hp hok hs2 hR hRw
      go_loopw [19] (fun i wr => ∃ (j : Nat), j ≤ ts.len ∧ i = .int .i64 j ∧ Hid (Below w.heap.size w wr) ∧ R < wr.heap.size ∧ Hid (Ts.Done wr R ts j) ∧ Hid (∀ x, x < ts.len * 4 → ∃ v, wr.cell? ⟨R, x, none⟩ = some v) ∧ Hid (∀ x, wr.frozen? ⟨R, x, none⟩ = false) ∧ Hid (∀ b y, b < R → wr.cell? ⟨b, y, none⟩ = W3.cell? ⟨b, y, none⟩ ∧ wr.frozen? ⟨b, y, none⟩ = W3.frozen? ⟨b, y, none⟩)) (fun i _ => ts.len - (intOf i).toNat)
      case atStart => exact ⟨0, Nat.zero_le _, rfl, B03, by omega, Lib.hid (fun m hm => by omega), C3, F3, Lib.hid (fun _ _ _ => ⟨rfl, rfl⟩)⟩
      case round =>
        obtain ⟨j, hj, rfl, B, hRlt, DN, CE, FE, OLD⟩ := hrel
        by_cases hlt : j < ts.len
        · have hp' := Ts.some_of HP.out hlt
          subst hp'
          obtain ⟨kk, s1, nn, pp, cc, kids, rest, D, EL, hsz1, hoke⟩ := Ts.elem LI.out B.out OK.out hlt
          have OKE := Lib.hid hoke
          clear hoke
          have c0 := EL.c0
          have c1 := EL.c1
          have c2 := EL.c2
          have c3 := EL.c3
          obtain ⟨W4, hW4, hs4, hB4, hc4, hf4⟩ := alloc_new wr #[.int .u8 kk, .string s1, .int .i64 nn, .slice pp kids.len cc] 25
          have AT4 := Lib.hid (EL.tat.below hB4)
          have B4 := Lib.hid hB4
          go_wp2_with fail
          rw [← hW4]
          have Z4 := Lib.hid hW4
          clear hW4 hc4 hf4 hB4 c0 c1 c2 c3
          refine (ih kids (by omega) (by omega) OKE.out.2.2.2.2.2.1 kk s1 nn W4 pp cc AT4.out).mono ?_
          rintro e w' ⟨us, p', c', rfl, hat', htw, hok', hcl, hpn, hB5⟩
          unfold tv
          have hold : ∀ b y, b < wr.heap.size → w'.cell? ⟨b, y, none⟩ = wr.cell? ⟨b, y, none⟩ ∧ w'.frozen? ⟨b, y, none⟩ = wr.frozen? ⟨b, y, none⟩ := fun b y h => ⟨((stays hB5).1 _ _ (by omega)).trans ((stays B4.out).1 _ _ h), ((stays hB5).2 _ _ (by omega)).trans ((stays B4.out).2 _ _ h)⟩
          obtain ⟨x0, r0⟩ := CE.out (j * 4) (by omega)
          obtain ⟨x1, r1⟩ := CE.out (j * 4 + 1) (by omega)
          obtain ⟨x2, r2⟩ := CE.out (j * 4 + 2) (by omega)
          obtain ⟨x3, r3⟩ := CE.out (j * 4 + 3) (by omega)
          rw [← (hold R _ hRlt).1] at r0 r1 r2 r3
          have f0 := (hold R (j * 4) hRlt).2.trans (FE.out _)
          have f1 := (hold R (j * 4 + 1) hRlt).2.trans (FE.out _)
          have f2 := (hold R (j * 4 + 2) hRlt).2.trans (FE.out _)
          have f3 := (hold R (j * 4 + 3) hRlt).2.trans (FE.out _)
          obtain ⟨W5, hW5, hs5, ho5, hr5, q0, q1, q2, q3, hf5, hB6⟩ := put4 w' R (j * 4) (.int .u8 kk) (.string s1) (.int .i64 nn) (.slice p' us.len c') (by rw [r0]; rfl) (by rw [r1]; rfl) (by rw [r2]; rfl) (by rw [r3]; rfl)
          have hsz5 : R < W5.heap.size := by rw [hs5]; have := hB5.size; omega
          have B5 : Hid (Below w.heap.size w W5) := Lib.hid (hB6 _ _ (by have := HRW.out; omega) ((B.out.trans (B4.out.mono B.out.size)).trans (hB5.mono (by have := B.out.size; omega))))
          have DN5 : Hid (Ts.Done W5 R ts (j + 1)) := Lib.hid (by
            intro m hm k s n pk ck kd rs hd
            by_cases e : m = j
            · subst e
              rw [D.out] at hd
              injection hd with e1 e2 e3 e4 e5 e6 e7
              subst e1 e2 e3 e4 e5 e6 e7
              exact ⟨p', c', us, q0, q1, q2, q3, hat'.stay (by omega) (fun b y hb hlt => ho5 b y (by omega)), htw, hok', hcl, hpn⟩
            · obtain ⟨p2, c2, k2, d0, d1, d2, d3, d4, d5, d6, d7, d8⟩ := DN.out m (by omega) _ _ _ _ _ _ _ hd
              have hsame : ∀ y, y < j * 4 → W5.cell? ⟨R, y, none⟩ = wr.cell? ⟨R, y, none⟩ := fun y hy => (hr5 y (.inl hy)).trans (hold R y hRlt).1
              have hm' : m * 4 + 3 < j * 4 := by omega
              exact ⟨p2, c2, k2, (hsame _ (by omega)).trans d0, (hsame _ (by omega)).trans d1, (hsame _ (by omega)).trans d2, (hsame _ (by omega)).trans d3, d4.stay (Nat.le_refl _) (fun b y hb hlt => (ho5 b y (by omega)).trans (hold b y hlt).1), d5, d6, d7, d8⟩)
          have CE5 : Hid (∀ x, x < ts.len * 4 → ∃ v, W5.cell? ⟨R, x, none⟩ = some v) := Lib.hid (by
            intro x hx
            by_cases h1 : x < j * 4 ∨ j * 4 + 4 ≤ x
            · rw [hr5 x h1, (hold R x hRlt).1]; exact CE.out x hx
            · obtain h2 | h2 | h2 | h2 : x = j * 4 ∨ x = j * 4 + 1 ∨ x = j * 4 + 2 ∨ x = j * 4 + 3 := by omega
              · exact ⟨_, by rw [h2]; exact q0⟩
              · exact ⟨_, by rw [h2]; exact q1⟩
              · exact ⟨_, by rw [h2]; exact q2⟩
              · exact ⟨_, by rw [h2]; exact q3⟩)
          have FE5 : Hid (∀ x, W5.frozen? ⟨R, x, none⟩ = false) := Lib.hid (fun x => by rw [hf5, (hold R x hRlt).2]; exact FE.out x)
          have OLD5 : Hid (∀ b y, b < R → W5.cell? ⟨b, y, none⟩ = W3.cell? ⟨b, y, none⟩ ∧ W5.frozen? ⟨b, y, none⟩ = W3.frozen? ⟨b, y, none⟩) := Lib.hid (fun b y hb => ⟨(ho5 b y (by omega)).trans ((hold b y (by omega)).1.trans (OLD.out b y hb).1), (hf5 b y).trans ((hold b y (by omega)).2.trans (OLD.out b y hb).2)⟩)
          have Z5 := Lib.hid hW5
          clear hat' htw hok' hcl hpn hB5 hold q0 q1 q2 q3 hr5 ho5 hf5 hB6 hW5 EL
          go_wp2
          go_roundw
          case rel =>
            rw [← Z5.out]
            exact ⟨j + 1, by omega, by go_num, B5, hsz5, DN5, CE5, FE5, OLD5⟩
          case measure => simp [intOf]; omega
        · have hj : j = ts.len := by omega
          subst hj
          obtain ⟨us, hl, htw, hok'⟩ := DN.out.made OK.out
          have hlen := Ts.twin_len us ts htw
          have HL := Lib.hid hlen
          have LU := Lib.hid hl
          have TW := Lib.hid htw
          have OKU := Lib.hid hok'
          have hw1 : w.heap.size < R := by have := HRW.out; omega
          have hw2 : w.heap.size + 1 < R := by have := HRW.out; omega
          have a0 := (OLD.out _ 0 hw1).1.trans (C1.out 0 _ rfl)
          have a1 := (OLD.out _ 1 hw1).1.trans (C1.out 1 _ rfl)
          have a2 := (OLD.out _ 2 hw1).1.trans (C1.out 2 _ rfl)
          have a3 := (OLD.out _ 3 hw1).1.trans (C1.out 3 _ rfl)
          have b0 := (OLD.out _ 0 hw2).1.trans (C2.out 0 _ rfl)
          have b1 := (OLD.out _ 1 hw2).1.trans (C2.out 1 _ rfl)
          have b2 := (OLD.out _ 2 hw2).1.trans (C2.out 2 _ rfl)
          have b3 := (OLD.out _ 3 hw2).1.trans (C2.out 3 _ rfl)
          have f3 := (OLD.out _ 3 hw1).2.trans (FF.out w.heap.size 3 (Nat.le_refl _) (by omega))
          have g0 := (OLD.out _ 0 hw2).2.trans (FF.out (w.heap.size + 1) 0 (by omega) (by omega))
          have g1 := (OLD.out _ 1 hw2).2.trans (FF.out (w.heap.size + 1) 1 (by omega) (by omega))
          have g2 := (OLD.out _ 2 hw2).2.trans (FF.out (w.heap.size + 1) 2 (by omega) (by omega))
          have g3 := (OLD.out _ 3 hw2).2.trans (FF.out (w.heap.size + 1) 3 (by omega) (by omega))
          obtain ⟨W9, hW9, hs9, ho9, hr9, q0, q1, q2, q3, hf9, hB9⟩ := put_step wr w.heap.size (w.heap.size + 1) 0 (.slice (some ⟨R, 0, none⟩) ts.len ts.len) (.int .u8 k) (.string s) (.int .i64 n) (.slice (some ⟨R, 0, none⟩) ts.len ts.len) (by omega) (by rw [b0]; rfl) (by rw [b1]; rfl) (by rw [b2]; rfl) (by rw [b3]; rfl)
          simp only [Nat.zero_add] at hW9 q1 q2 q3
          have AT9 : Hid (Ts.AtB w.heap.size W9 (some ⟨R, 0, none⟩) us) := Lib.hid (Ts.AtB.stay (B := R) ⟨R, 0, .inr rfl, LU.out⟩ (by have := HRW.out; omega) (fun b y hb _ => ho9 b y (by have := HRW.out; omega) (by have := HRW.out; omega)))
          have B9 := Lib.hid (hB9 _ _ (Nat.le_refl _) (by omega) B.out)
          have Z9 := Lib.hid hW9
          have Q9 := Lib.hid (And.intro q0 (And.intro q1 (And.intro q2 q3)))
          clear hl htw hlen hok' hr9 ho9 hf9 hB9 hW9 q0 q1 q2 q3
          go_wp2
          rw [← Z9.out]
          obtain ⟨q0, q1, q2, q3⟩ := Q9.out
          exact bodyPost_ret (v := tv k s n (some ⟨R, 0, none⟩) ts.len ts.len) (by simp [results, Tryz.results42, go_sem, q0, q1, q2, q3, tv]) rfl ⟨us, some ⟨R, 0, none⟩, ts.len, by rw [HL.out], AT9.out, TW.out, OKU.out, ⟨by rw [HL.out]; exact Nat.le_refl _, by omega⟩, (fun h => by cases h), B9.out⟩


end Go.Proofs.YtnmhnaanpjlniaaGreat
