import Derived.Test.YtnmhnaanpjlniaaRows
import Derived.WalkKit
import Derived.WalkSpells
import Derived.WalkLawsBesides
import Derived.Lib.Hide
import Derived.Shelf.Bits.Mul64
import Derived.Orders
/-
  What the small functions of arith and term do: each contract says what one call hands back or panics with, and that memory that was there stays as it was.
-/
namespace Go.Proofs.Ytnmhnaanpjlniaa
open Go.RowKit

def leafI (n : Int) : Value := .agg #[.int .u8 2, .string ⟨#[]⟩, .int .i64 n, .slice none 0 0]
def leafV (n : Int) : Value := .agg #[.int .u8 1, .string ⟨#[]⟩, .int .i64 n, .slice none 0 0]
def leafA (s : ByteArray) : Value := .agg #[.int .u8 3, .string s, .int .i64 0, .slice none 0 0]

/-- what is thrown -/
def thrown (n : Int) : List PanicEntry := [{ v := .iface 31 (.int .i64 n), recovered := false }]

set_option maxHeartbeats 400000 in
theorem i_any (n : Int) (w : World) :
    Calls Try.prog 47 #[.int .i64 n] w fun e w' => e = .returned (leafI n) ∧ Below w.heap.size w w' := by
  go_enter Try.func47, Try.ntmps47
  go_wp2
  exact bodyPost_ret (v := leafI n) (by simp [results, Try.results47, go_sem, leafI]) rfl ⟨rfl, (Below.refl _ _).alloc (Nat.le_refl _) _⟩

set_option maxHeartbeats 400000 in
theorem v_any (n : Int) (w : World) :
    Calls Try.prog 48 #[.int .i64 n] w fun e w' => e = .returned (leafV n) ∧ Below w.heap.size w w' := by
  go_enter Try.func48, Try.ntmps48
  go_wp2
  exact bodyPost_ret (v := leafV n) (by simp [results, Try.results48, go_sem, leafV]) rfl ⟨rfl, (Below.refl _ _).alloc (Nat.le_refl _) _⟩

set_option maxHeartbeats 400000 in
theorem a_any (s : ByteArray) (w : World) :
    Calls Try.prog 49 #[.string s] w fun e w' => e = .returned (leafA s) ∧ Below w.heap.size w w' := by
  go_enter Try.func49, Try.ntmps49
  go_wp2
  exact bodyPost_ret (v := leafA s) (by simp [results, Try.results49, go_sem, leafA]) rfl ⟨rfl, (Below.refl _ _).alloc (Nat.le_refl _) _⟩

set_option maxHeartbeats 400000 in
theorem within_true (w : World) :
    Calls Try.prog 109 #[.bool true] w fun e w' => e = .returned (.tuple #[]) ∧ w' = w := by
  go_enter Try.func109, Try.ntmps109
  go_wp2
  go_end0
  exact ⟨rfl, rfl⟩

set_option maxHeartbeats 400000 in
theorem within_false (w : World) :
    Calls Try.prog 109 #[.bool false] w fun e w' => e = .panicked (thrown 22) ∧ w' = w := by
  go_enter Try.func109, Try.ntmps109
  go_wp2
  exact ⟨rfl, rfl, rfl⟩

set_option maxHeartbeats 400000 in
theorem zero_no (n : Int) (h : n ≠ 0) (w : World) :
    Calls Try.prog 112 #[.int .i64 n] w fun e w' => e = .returned (.tuple #[]) ∧ w' = w := by
  have h1 : (n == 0) = false := by simp [h]
  go_enter Try.func112, Try.ntmps112
  go_wp2
  go_end0
  exact ⟨rfl, rfl⟩

set_option maxHeartbeats 400000 in
theorem zero_yes (w : World) :
    Calls Try.prog 112 #[.int .i64 0] w fun e w' => e = .panicked (thrown 23) ∧ w' = w := by
  go_enter Try.func112, Try.ntmps112
  go_wp2
  exact ⟨rfl, rfl, rfl⟩

def isI64 (n : Int) : Prop := -9223372036854775808 ≤ n ∧ n ≤ 9223372036854775807

/-- how a call ends that answers a number, or throws -/
def endsAs (r : Int × Int) : Ending := if r.2 = 0 then .returned (.int .i64 r.1) else .panicked (thrown r.2)

def plusR (a b : Int) : Int × Int := if -9223372036854775808 ≤ a + b ∧ a + b ≤ 9223372036854775807 then (a + b, 0) else (0, 22)
def minusR (a b : Int) : Int × Int := if -9223372036854775808 ≤ a - b ∧ a - b ≤ 9223372036854775807 then (a - b, 0) else (0, 22)
def timesR (a b : Int) : Int × Int := if -9223372036854775808 ≤ a * b ∧ a * b ≤ 9223372036854775807 then (a * b, 0) else (0, 22)
def quotR (a b : Int) : Int × Int := if b = 0 then (0, 23) else if a = -9223372036854775808 ∧ b = -1 then (0, 22) else (a.tdiv b, 0)
def remR (a b : Int) : Int × Int := if b = 0 then (0, 23) else (a.tmod b, 0)
def modR (a b : Int) : Int × Int := if b = 0 then (0, 23) else if a.tmod b ≠ 0 ∧ ¬ (a.tmod b < 0 ↔ b < 0) then (a.tmod b + b, 0) else (a.tmod b, 0)

theorem endsAs_ok (n : Int) : endsAs (n, 0) = .returned (.int .i64 n) := rfl
theorem endsAs_bad (n : Int) (h : n ≠ 0) : endsAs (0, n) = .panicked (thrown n) := if_neg h
theorem if_iff {α : Type} {p q : Prop} [Decidable p] [Decidable q] (h : p ↔ q) (x y : α) : (if p then x else y) = if q then x else y := by
  by_cases hp : p
  · rw [if_pos hp, if_pos (h.1 hp)]
  · rw [if_neg hp, if_neg (fun hq => hp (h.2 hq))]

theorem dec_eq {p q : Prop} [Decidable p] [Decidable q] (h : p ↔ q) : (decide p == decide q) = true := by simp [h]
theorem dec_ne {p q : Prop} [Decidable p] [Decidable q] (h : ¬ (p ↔ q)) : (decide p == decide q) = false := by
  by_cases hp : p <;> by_cases hq : q <;> simp_all

set_option maxHeartbeats 400000 in
theorem plus_any (a b : Int) (ha : isI64 a) (hb : isI64 b) (w : World) :
    Calls Try.prog 85 #[.int .i64 a, .int .i64 b] w fun e w' => e = endsAs (plusR a b) ∧ w' = w := by
  unfold isI64 at ha hb
  unfold plusR
  by_cases h : -9223372036854775808 ≤ a + b ∧ a + b ≤ 9223372036854775807
  · rw [if_pos h]
    have e1 := Lib.hid (dec_eq (p := a + b < a) (q := b < 0) (by omega))
    go_enter Try.func85, Try.ntmps85
    go_wp2_with fail
    rw [e1.out]
    refine (within_true _).mono ?_
    rintro e w' ⟨rfl, rfl⟩
    go_wp2
    go_ret
    exact ⟨rfl, rfl⟩
  · rw [if_neg h]
    have e1 := Lib.hid (dec_ne (p := wrap64 (a + b) < a) (q := b < 0) (by unfold wrap64; omega))
    go_enter Try.func85, Try.ntmps85
    go_wp2_with fail
    rw [e1.out]
    refine (within_false _).mono ?_
    rintro e w' ⟨rfl, rfl⟩
    go_wp2
    exact ⟨rfl, rfl, rfl⟩

set_option maxHeartbeats 400000 in
theorem minus_any (a b : Int) (ha : isI64 a) (hb : isI64 b) (w : World) :
    Calls Try.prog 86 #[.int .i64 a, .int .i64 b] w fun e w' => e = endsAs (minusR a b) ∧ w' = w := by
  unfold isI64 at ha hb
  unfold minusR
  by_cases h : -9223372036854775808 ≤ a - b ∧ a - b ≤ 9223372036854775807
  · rw [if_pos h]
    have e1 := Lib.hid (dec_eq (p := a < a - b) (q := b < 0) (by omega))
    go_enter Try.func86, Try.ntmps86
    go_wp2_with fail
    rw [e1.out]
    refine (within_true _).mono ?_
    rintro e w' ⟨rfl, rfl⟩
    go_wp2
    go_ret
    exact ⟨rfl, rfl⟩
  · rw [if_neg h]
    have e1 := Lib.hid (dec_ne (p := a < wrap64 (a - b)) (q := b < 0) (by unfold wrap64; omega))
    go_enter Try.func86, Try.ntmps86
    go_wp2_with fail
    rw [e1.out]
    refine (within_false _).mono ?_
    rintro e w' ⟨rfl, rfl⟩
    go_wp2
    exact ⟨rfl, rfl, rfl⟩

theorem ret_u64 {a b : Int} (h : a = b) : Ending.returned (.int .u64 a) = .returned (.int .u64 b) := by rw [h]
theorem ret_i64 {a b : Int} (h : a = b) : Ending.returned (.int .i64 a) = .returned (.int .i64 b) := by rw [h]

set_option maxHeartbeats 400000 in
theorem magnitude_any (a : Int) (ha : isI64 a) (w : World) :
    Calls Try.prog 111 #[.int .i64 a] w fun e w' => e = .returned (.int .u64 (a.natAbs : Int)) ∧ w' = w := by
  unfold isI64 at ha
  by_cases h : a < 0
  · have e1 := Lib.hid (show IntKind.u64.wrap (-IntKind.u64.wrap a) = (a.natAbs : Int) by rw [IntKind.wrap_u64, IntKind.wrap_u64]; omega)
    go_enter Try.func111, Try.ntmps111
    go_wp2
    go_ret
    exact ⟨ret_u64 e1.out, rfl⟩
  · go_enter Try.func111, Try.ntmps111
    go_wp2
    go_ret
    exact ⟨ret_u64 (by omega), rfl⟩

def hiU (x y : Nat) : Int := ((x * y / 18446744073709551616 : Nat) : Int)
def loU (x y : Nat) : Int := ((x * y % 18446744073709551616 : Nat) : Int)

set_option maxHeartbeats 1000000 in
theorem mul64_any (x y : Nat) (hx : x < 18446744073709551616) (hy : y < 18446744073709551616) (w : World) :
    Calls Try.prog 110 #[.int .u64 x, .int .u64 y] w fun e w' => e = .returned (.tuple #[.int .u64 (hiU x y), .int .u64 (loU x y)]) ∧ w' = w := by
  obtain ⟨bd, bt, bw, hhi⟩ := Lib.mul64_hi x y hx hy
  have ba := Lib.half_mul_le (a := x / 4294967296) (b := y / 4294967296) (by omega) (by omega)
  have bb := Lib.half_mul_le (a := x / 4294967296) (b := y % 4294967296) (by omega) (by omega)
  have bc := Lib.half_mul_le (a := x % 4294967296) (b := y / 4294967296) (by omega) (by omega)
  go_enter Try.func110, Try.ntmps110
  go_wp2
  simp only [Mul64.maskN x hx, Mul64.maskN y hy, Mul64.divN, Mul64.mulN, Mul64.addN, Mul64.wrapN _ bd, Mul64.wrapN _ (show x / 4294967296 * (y % 4294967296) < 18446744073709551616 by omega), Mul64.wrapN _ bt, Mul64.maskN _ bt, Mul64.wrapN _ (show x % 4294967296 * (y / 4294967296) < 18446744073709551616 by omega), Mul64.wrapN _ bw, Mul64.wrapN _ (show x / 4294967296 * (y / 4294967296) < 18446744073709551616 by omega), Mul64.wrapM (x * y),
    Mul64.wrapN _ (show x / 4294967296 * (y / 4294967296) + (x / 4294967296 * (y % 4294967296) + x % 4294967296 * (y % 4294967296) / 4294967296) / 4294967296 < 18446744073709551616 by omega),
    Mul64.wrapN _ (show x / 4294967296 * (y / 4294967296) + (x / 4294967296 * (y % 4294967296) + x % 4294967296 * (y % 4294967296) / 4294967296) / 4294967296 + ((x / 4294967296 * (y % 4294967296) + x % 4294967296 * (y % 4294967296) / 4294967296) % 4294967296 + x % 4294967296 * (y / 4294967296)) / 4294967296 < 18446744073709551616 by omega)]
  rw [hhi]
  go_ret2
  exact ⟨rfl, rfl⟩

theorem natAbs_bound {a : Int} (ha : isI64 a) : a.natAbs ≤ 9223372036854775808 := by unfold isI64 at ha; omega

/-- what the test of times tells, by the product -/
theorem times_test (a b : Int) (_ha : isI64 a) (_hb : isI64 b) (m : Int)
    (hm : m = if (a < 0) ↔ (b < 0) then 9223372036854775807 else 9223372036854775808) :
    (hiU a.natAbs b.natAbs = 0 ∧ loU a.natAbs b.natAbs ≤ m) ↔ (-9223372036854775808 ≤ a * b ∧ a * b ≤ 9223372036854775807) := by
  have e : a.natAbs * b.natAbs = (a * b).natAbs := (Int.natAbs_mul a b).symm
  unfold hiU loU
  rw [e]
  have hs1 : (a < 0 ↔ b < 0) → 0 ≤ a * b := fun h => by
    by_cases h0 : a < 0
    · exact Int.le_of_lt (Int.mul_pos_of_neg_of_neg h0 (h.1 h0))
    · exact Int.mul_nonneg (by omega) (by have : ¬ b < 0 := fun hb => h0 (h.2 hb); omega)
  have hs2 : ¬ (a < 0 ↔ b < 0) → a * b ≤ 0 := fun h => by
    by_cases h0 : a < 0
    · have hb : 0 ≤ b := by
        by_cases hb : b < 0
        · exact absurd ⟨fun _ => hb, fun _ => h0⟩ h
        · omega
      exact Int.mul_nonpos_of_nonpos_of_nonneg (by omega) hb
    · have hb : b < 0 := by
        by_cases hb : b < 0
        · exact hb
        · exact absurd ⟨fun h' => absurd h' h0, fun h' => absurd h' hb⟩ h
      exact Int.mul_nonpos_of_nonneg_of_nonpos (by omega) (by omega)
  generalize a * b = p at *
  by_cases h : (a < 0 ↔ b < 0)
  · rw [if_pos h] at hm
    have := hs1 h
    omega
  · rw [if_neg h] at hm
    have := hs2 h
    omega

set_option maxHeartbeats 1000000 in
set_option maxRecDepth 100000 in
/-- times, by what its test tells -/
theorem times_walk (a b m h l : Int) (isN : Bool) (ha : isI64 a) (hb : isI64 b)
    (eh : hiU a.natAbs b.natAbs = h) (el : loU a.natAbs b.natAbs = l) (sa sb : Bool) (qa : decide (a < 0) = sa) (qb : decide (b < 0) = sb) (e1 : (sa != sb) = isN) (em : m = if isN then 9223372036854775808 else 9223372036854775807)
    (c : (h = 0 ∧ l ≤ m ∧ wrap64 (a * b) = a * b) ∨ (h = 0 ∧ ¬ l ≤ m) ∨ h ≠ 0) (w : World) :
    Calls Try.prog 87 #[.int .i64 a, .int .i64 b] w fun e w' => e = endsAs (if h = 0 ∧ l ≤ m then (a * b, 0) else (0, 22)) ∧ w' = w := by
  have na := natAbs_bound ha
  have nb := natAbs_bound hb
  have EH := Lib.hid eh
  have EL := Lib.hid el
  clear eh el
  cases sa <;> cases sb <;> cases isN <;> first | (exfalso; revert e1; decide) | skip
  all_goals
    clear e1
    have ra := qa
    have rb := qb
    simp only [decide_eq_true_eq, decide_eq_false_iff_not] at ra rb
    simp only [if_true, Bool.false_eq_true, if_false] at em
    subst em
    rcases c with ⟨rfl, hl, hw⟩ | ⟨rfl, hl⟩ | hh
  all_goals
    first
    | (have HW := Lib.hid hw
       clear hw
       rw [if_pos ⟨rfl, hl⟩, endsAs_ok])
    | (rw [if_neg (fun hc => hl hc.2)]
       have hd := decide_eq_false hl
       clear hl)
    | (have hz : (h == 0) = false := beq_eq_false_iff_ne.2 hh
       rw [if_neg (fun hc => hh hc.1)]
       clear hh)
  all_goals
    go_enter Try.func87, Try.ntmps87
    go_wp2_with fail
    refine (magnitude_any _ ha _).mono ?_
    rintro e w' ⟨rfl, rfl⟩
    go_wp2_with fail
    refine (magnitude_any _ hb _).mono ?_
    rintro e w' ⟨rfl, rfl⟩
    go_wp2_with fail
    refine (mul64_any _ _ (by omega) (by omega) _).mono ?_
    rintro e w' ⟨rfl, rfl⟩
    rw [EH.out, EL.out]
    go_wp2_with fail
    first
    | (refine (within_true _).mono ?_
       rintro e w' ⟨rfl, rfl⟩
       go_wp2
       go_ret
       exact ⟨ret_i64 HW.out, rfl⟩)
    | (refine (within_false _).mono ?_
       rintro e w' ⟨rfl, rfl⟩
       go_wp2
       exact ⟨rfl, rfl, rfl⟩)

theorem times_any (a b : Int) (ha : isI64 a) (hb : isI64 b) (w : World) :
    Calls Try.prog 87 #[.int .i64 a, .int .i64 b] w fun e w' => e = endsAs (timesR a b) ∧ w' = w := by
  by_cases hs : (a < 0 ↔ b < 0)
  · have e1 : (decide (a < 0) != decide (b < 0)) = false := by rw [bne_eq_false_iff_eq]; exact beq_iff_eq.1 (dec_eq hs)
    have T := times_test a b ha hb _ rfl
    rw [if_pos hs] at T
    have K := times_walk a b 9223372036854775807 _ _ false ha hb rfl rfl _ _ rfl rfl e1 rfl (by
      by_cases h1 : hiU a.natAbs b.natAbs = 0
      · by_cases h2 : loU a.natAbs b.natAbs ≤ 9223372036854775807
        · exact .inl ⟨h1, h2, IntWalk.wrap64_in _ (T.1 ⟨h1, h2⟩)⟩
        · exact .inr (.inl ⟨h1, h2⟩)
      · exact .inr (.inr h1)) w
    unfold timesR
    rwa [if_iff T] at K
  · have e1 : (decide (a < 0) != decide (b < 0)) = true := by rw [bne_iff_ne]; exact beq_eq_false_iff_ne.1 (dec_ne hs)
    have T := times_test a b ha hb _ rfl
    rw [if_neg hs] at T
    have K := times_walk a b 9223372036854775808 _ _ true ha hb rfl rfl _ _ rfl rfl e1 rfl (by
      by_cases h1 : hiU a.natAbs b.natAbs = 0
      · by_cases h2 : loU a.natAbs b.natAbs ≤ 9223372036854775808
        · exact .inl ⟨h1, h2, IntWalk.wrap64_in _ (T.1 ⟨h1, h2⟩)⟩
        · exact .inr (.inl ⟨h1, h2⟩)
      · exact .inr (.inr h1)) w
    unfold timesR
    rwa [if_iff T] at K

set_option maxHeartbeats 400000 in
theorem quotient_any (a b : Int) (ha : isI64 a) (hb : isI64 b) (w : World) :
    Calls Try.prog 88 #[.int .i64 a, .int .i64 b] w fun e w' => e = endsAs (quotR a b) ∧ w' = w := by
  unfold isI64 at ha hb
  unfold quotR
  by_cases h : b = 0
  · subst h
    rw [if_pos rfl]
    go_enter Try.func88, Try.ntmps88
    go_wp2_with fail
    refine (zero_yes _).mono ?_
    rintro e w' ⟨rfl, rfl⟩
    go_wp2
    exact ⟨rfl, rfl, rfl⟩
  · rw [if_neg h]
    have q1 : a = -9223372036854775808 ∧ b = -1 ∨ (a = -9223372036854775808 ∧ b ≠ -1) ∨ a ≠ -9223372036854775808 := by omega
    have bd : b ≠ -1 ∨ a ≠ -9223372036854775808 → -9223372036854775808 ≤ a.tdiv b ∧ a.tdiv b ≤ 9223372036854775807 := by
      intro hc
      have h1 : (a.tdiv b).natAbs = a.natAbs / b.natAbs := Int.natAbs_tdiv a b
      have h2 : a.natAbs / b.natAbs ≤ a.natAbs := Nat.div_le_self _ _
      have h3 : a.tdiv b ≠ 9223372036854775808 := by
        intro he
        rw [he] at h1
        have h4 : b.natAbs ≠ 1 → a.natAbs / b.natAbs ≤ a.natAbs / 2 := fun hb1 => Nat.div_le_div_left (by omega) (by omega)
        have h5 : b.natAbs = 1 := by
          by_cases hb1 : b.natAbs = 1
          · exact hb1
          · have := h4 hb1; omega
        have h6 : b = 1 ∨ b = -1 := by omega
        rcases h6 with rfl | rfl
        · rw [Int.tdiv_one] at he; omega
        · have h7 : a.tdiv (-1) = -a := by rw [Int.tdiv_neg, Int.tdiv_one]
          rw [h7] at he
          omega
      omega
    have bd' := Lib.hid bd
    clear bd
    have e3 : (b != -1) = !decide (b = -1) := by by_cases hb1 : b = -1 <;> simp [hb1]
    have e4 : (a != -9223372036854775808) = !decide (a = -9223372036854775808) := by by_cases hb1 : a = -9223372036854775808 <;> simp [hb1]
    rcases q1 with ⟨qa, qb⟩ | ⟨qa, hb1⟩ | ha1
    · rw [if_pos ⟨qa, qb⟩]
      rw [decide_eq_true qa] at e4
      rw [decide_eq_true qb] at e3
      clear qa qb
      go_enter Try.func88, Try.ntmps88
      go_wp2_with fail
      refine (zero_no _ h _).mono ?_
      rintro e w' ⟨rfl, rfl⟩
      go_wp2_with fail
      refine (within_false _).mono ?_
      rintro e w' ⟨rfl, rfl⟩
      go_wp2
      exact ⟨rfl, rfl, rfl⟩
    · rw [if_neg (fun hc => hb1 hc.2), endsAs_ok]
      rw [decide_eq_true qa] at e4
      rw [decide_eq_false hb1] at e3
      have e2 := Lib.hid (IntWalk.wrap64_in _ (bd'.out (.inl hb1)))
      clear qa hb1
      go_enter Try.func88, Try.ntmps88
      go_wp2_with fail
      refine (zero_no _ h _).mono ?_
      rintro e w' ⟨rfl, rfl⟩
      go_wp2_with fail
      refine (within_true _).mono ?_
      rintro e w' ⟨rfl, rfl⟩
      go_wp2
      go_ret
      exact ⟨ret_i64 e2.out, rfl⟩
    · rw [if_neg (fun hc => ha1 hc.1), endsAs_ok]
      rw [decide_eq_false ha1] at e4
      have e2 := Lib.hid (IntWalk.wrap64_in _ (bd'.out (.inr ha1)))
      clear ha1 e3
      go_enter Try.func88, Try.ntmps88
      go_wp2_with fail
      refine (zero_no _ h _).mono ?_
      rintro e w' ⟨rfl, rfl⟩
      go_wp2_with fail
      refine (within_true _).mono ?_
      rintro e w' ⟨rfl, rfl⟩
      go_wp2
      go_ret
      exact ⟨ret_i64 e2.out, rfl⟩

theorem tmod_bd (a b : Int) (hb : isI64 b) (h : b ≠ 0) : -9223372036854775808 < a.tmod b ∧ a.tmod b < 9223372036854775808 := by
  unfold isI64 at hb
  have h1 : (a.tmod b).natAbs = a.natAbs % b.natAbs := Int.natAbs_tmod a b
  have h2 : a.natAbs % b.natAbs < b.natAbs := Nat.mod_lt _ (by omega)
  omega

set_option maxHeartbeats 400000 in
theorem remainder_any (a b : Int) (_ha : isI64 a) (hb : isI64 b) (w : World) :
    Calls Try.prog 89 #[.int .i64 a, .int .i64 b] w fun e w' => e = endsAs (remR a b) ∧ w' = w := by
  unfold remR
  by_cases h : b = 0
  · subst h
    rw [if_pos rfl]
    go_enter Try.func89, Try.ntmps89
    go_wp2_with fail
    refine (zero_yes _).mono ?_
    rintro e w' ⟨rfl, rfl⟩
    go_wp2
    exact ⟨rfl, rfl, rfl⟩
  · rw [if_neg h]
    have bd := tmod_bd a b hb h
    have e2 := Lib.hid (IntWalk.wrap64_in (a.tmod b) (by omega))
    clear bd
    go_enter Try.func89, Try.ntmps89
    go_wp2_with fail
    refine (zero_no _ h _).mono ?_
    rintro e w' ⟨rfl, rfl⟩
    go_wp2
    go_ret
    exact ⟨rfl, rfl⟩

set_option maxHeartbeats 400000 in
theorem modulo_any (a b : Int) (_ha : isI64 a) (hb : isI64 b) (w : World) :
    Calls Try.prog 90 #[.int .i64 a, .int .i64 b] w fun e w' => e = endsAs (modR a b) ∧ w' = w := by
  unfold modR
  by_cases h : b = 0
  · subst h
    rw [if_pos rfl]
    go_enter Try.func90, Try.ntmps90
    go_wp2_with fail
    refine (zero_yes _).mono ?_
    rintro e w' ⟨rfl, rfl⟩
    go_wp2
    exact ⟨rfl, rfl, rfl⟩
  · rw [if_neg h]
    have bd := tmod_bd a b hb h
    unfold isI64 at hb
    generalize hr : a.tmod b = r at *
    have hr' := Lib.hid hr
    clear hr
    have c : r = 0 ∨ (r ≠ 0 ∧ ((r < 0 ∧ 0 < b) ∨ (0 < r ∧ b < 0))) ∨ (r ≠ 0 ∧ ((r < 0 ∧ b < 0) ∨ (0 < r ∧ 0 < b))) := by omega
    have hw : IntKind.i64.wrap r = r := IntWalk.i64_in _ (by omega)
    rcases c with rfl | ⟨h1, h2 | h2⟩ | ⟨h1, h2 | h2⟩
    all_goals
      first
      | rw [if_neg (fun hc => hc.1 rfl), endsAs_ok]
      | rw [if_pos (by omega), endsAs_ok]
      | rw [if_neg (by omega), endsAs_ok]
    all_goals
      try have hn : (r != 0) = true := by rw [bne_iff_ne]; exact h1
      try clear h1
      first | have d1 : decide (r < 0) = true := decide_eq_true (by omega) | have d1 : decide (r < 0) = false := decide_eq_false (by omega) | skip
      first | have d2 : decide (b < 0) = true := decide_eq_true (by omega) | have d2 : decide (b < 0) = false := decide_eq_false (by omega) | skip
      try obtain ⟨h3, h4⟩ := h2
      go_enter Try.func90, Try.ntmps90
      go_wp2_with fail
      refine (zero_no _ h _).mono ?_
      rintro e w' ⟨rfl, rfl⟩
      have hr2 := hr'.out
      go_wp2
    all_goals
      go_ret
      first
      | exact ⟨rfl, rfl⟩
      | exact ⟨ret_i64 (IntWalk.wrap64_in _ (by omega)), rfl⟩

end Go.Proofs.Ytnmhnaanpjlniaa
/-
  A region whose order is open, walked by one invariant that looks at which operations have been done, whatever the order was.
-/
namespace Go.Proofs.Ytnmhnaanpjlniaa

theorem count_setR (l : List Bool) (i : Nat) (h : l[i]? = some false) : (l.set i true).count false + 1 = l.count false := by
  induction l generalizing i with
  | nil => simp at h
  | cons b r ih =>
    cases i with
    | zero =>
      simp at h
      subst h
      simp
    | succ i =>
      have h1 : r[i]? = some false := by simpa using h
      have := ih i h1
      simp only [List.set_cons_succ, List.count_cons]
      omega

theorem ready_false {md : Region.Mode} {ops : Array Oper} {listed : Array Bool} {i : Nat} (h : i ∈ Region.ready md ops listed) :
    listed.getD i true = false ∧ ∀ o, ops[i]? = some o → ∀ e ∈ o.after, Region.binds md e = true → listed.getD e.on false = true := by
  unfold Region.ready at h
  simp only [List.mem_filter, Bool.and_eq_true, Bool.not_eq_true'] at h
  refine ⟨h.2.1, fun o ho e he hb => ?_⟩
  have h2 := h.2.2
  rw [ho] at h2
  simp only [Option.map_some, Option.getD_some] at h2
  have h3 := (Array.all_eq_true_iff_forall_mem.1 h2) e he
  simpa [hb] using h3

theorem ready_nil_of_all {md : Region.Mode} {ops : Array Oper} {listed : Array Bool} (h : listed.toList.count false = 0) : Region.ready md ops listed = [] := by
  rw [List.eq_nil_iff_forall_not_mem]
  intro i hi
  have h1 := (ready_false hi).1
  have h2 : listed[i]? = some false := by
    rw [Array.getD_eq_getD_getElem?] at h1
    cases hl : listed[i]? with
    | none => rw [hl] at h1; simp at h1
    | some b => rw [hl] at h1; simp at h1; rw [h1]
  have h3 : false ∈ listed.toList := by
    have := Array.mem_of_getElem? h2
    simpa using this
  have := List.count_pos_iff.2 h3
  omega

/-- an invariant that every operation keeps, whichever is taken next -/
theorem wpAny_inv {P : Program} {md : Region.Mode} {ops : Array Oper} {Q : Exit → Act → World → Prop} (I : Nat → Array Bool → Act → World → Prop)
    (hstep : ∀ fuel listed a w i, i ∈ Region.ready md ops listed → I (fuel + 1) listed a w → wpOp P ops Q i (I fuel (listed.setIfInBounds i true)) a w)
    (hend : ∀ fuel listed a w, Region.ready md ops listed = [] → I fuel listed a w → Q .normal a w) :
    ∀ (fuel : Nat) (listed : Array Bool) (a : Act) (w : World), listed.toList.count false = fuel → I fuel listed a w → wpAny P md ops Q fuel listed a w := by
  intro fuel
  induction fuel with
  | zero => exact fun listed a w hc h => ⟨ready_nil_of_all hc, hend _ _ _ _ (ready_nil_of_all hc) h⟩
  | succ fuel ih =>
    intro listed a w hc h
    refine ⟨fun hr => hend _ _ _ _ hr h, fun i hi => ?_⟩
    refine wpOp_mono (fun a' w' h' => ih _ a' w' ?_ h') (hstep _ _ _ _ i hi h)
    have h1 := (ready_false hi).1
    have h2 : listed.toList[i]? = some false := by
      rw [Array.getD_eq_getD_getElem?] at h1
      rw [Array.getElem?_toList]
      cases hl : listed[i]? with
      | none => rw [hl] at h1; simp at h1
      | some b => rw [hl] at h1; simp at h1; rw [h1]
    have := count_setR _ i h2
    simp only [Array.toList_setIfInBounds]
    omega

end Go.Proofs.Ytnmhnaanpjlniaa
