import Derived.Test.YtnmhnaanpjlniaaCd
import Derived.BigQuiet
/-
  Layer 13: the document's numbers of two words: what is made of a number, two together, and the number of it.
-/
namespace Go.Proofs.Ytnmhnaanpjlniaa
open Go.RowKit

def numV (neg : Bool) (hi lo : Int) : Value := .agg #[.bool neg, .int .u64 hi, .int .u64 lo]

set_option maxRecDepth 100000 in
theorem of13_any (a : Int) (ha : isI64 a) (w : World) : Calls Try.prog 91 #[.int .i64 a] w fun e w' => e = .returned (numV (decide (a < 0)) 0 (a.natAbs : Int)) ∧ Below w.heap.size w w' := by
  unfold isI64 at ha
  by_cases h : a < 0
  · have e : (a.natAbs : Int) = -(a + 1) + 1 := by omega
    have d : decide (a < 0) = true := decide_eq_true h
    rw [e, d]
    have D := Lib.hid d
    clear e d
    go_enter Try.func91, Try.ntmps91
    go_wp2
    exact bodyPost_ret (v := numV true 0 (-(a + 1) + 1)) (by simp [results, Try.results91, go_sem, numV]) rfl ⟨rfl, (Below.refl _ _).alloc (Nat.le_refl _) _⟩
  · have e : (a.natAbs : Int) = a := by omega
    have d : decide (a < 0) = false := decide_eq_false h
    rw [e, d]
    clear e d
    go_enter Try.func91, Try.ntmps91
    go_wp2
    exact bodyPost_ret (v := numV false 0 a) (by simp [results, Try.results91, go_sem, numV]) rfl ⟨rfl, (Below.refl _ _).alloc (Nat.le_refl _) _⟩

/-- a number's own value, or that it is beyond 64 bits -/
def backR (neg : Bool) (hi lo : Int) : Int × Int := if hi ≠ 0 ∨ 9223372036854775808 < lo ∨ (lo = 9223372036854775808 ∧ neg = false) then (0, 22) else if neg = true then (-lo, 0) else (lo, 0)

set_option maxRecDepth 100000 in
theorem back13_any (neg : Bool) (hi lo : Int) (hh : 0 ≤ hi ∧ hi ≤ 18446744073709551615) (hl : 0 ≤ lo ∧ lo ≤ 18446744073709551615) (w : World) : Calls Try.prog 93 #[numV neg hi lo] w fun e w' => e = .returned (.tuple #[.int .i64 (backR neg hi lo).1, .int .i64 (backR neg hi lo).2]) ∧ Below w.heap.size w w' := by
  unfold numV
  by_cases h1 : hi = 0
  · subst h1
    have n1 : ((0 : Int) != 0) = false := rfl
    by_cases h2 : 9223372036854775808 < lo
    · have R : Hid (backR neg 0 lo = (0, 22)) := Lib.hid (by unfold backR; rw [if_pos (by omega)])
      go_enter Try.func93, Try.ntmps93
      go_wp2
      go_ret2
      rw [R.out]
      exact ⟨rfl, (Below.refl _ _).alloc (Nat.le_refl _) _⟩
    · by_cases h3 : lo = 9223372036854775808
      · have n3 : (lo == 9223372036854775808) = true := by simpa using h3
        cases neg with
        | false =>
          have R : Hid (backR false 0 lo = (0, 22)) := Lib.hid (by unfold backR; rw [if_pos (by simp [h3])])
          clear h3
          go_enter Try.func93, Try.ntmps93
          go_wp2
          go_ret2
          rw [R.out]
          exact ⟨rfl, (Below.refl _ _).alloc (Nat.le_refl _) _⟩
        | true =>
          subst h3
          have R : Hid (backR true 0 9223372036854775808 = (-9223372036854775808, 0)) := Lib.hid (by unfold backR; rw [if_neg (by simp), if_pos rfl])
          clear n3
          have z : IntKind.i64.wrap 9223372036854775808 = -9223372036854775808 := by decide
          go_enter Try.func93, Try.ntmps93
          go_wp2
          go_ret2
          rw [R.out]
          exact ⟨rfl, (Below.refl _ _).alloc (Nat.le_refl _) _⟩
      · have n3 : (lo == 9223372036854775808) = false := by simpa using h3
        have hlo : lo < 9223372036854775808 := by omega
        cases neg with
        | false =>
          have R : Hid (backR false 0 lo = (lo, 0)) := Lib.hid (by unfold backR; rw [if_neg (by simp; omega), if_neg (by simp)])
          clear h3
          go_enter Try.func93, Try.ntmps93
          go_wp2
          go_ret2
          rw [R.out]
          exact ⟨rfl, (Below.refl _ _).alloc (Nat.le_refl _) _⟩
        | true =>
          have R : Hid (backR true 0 lo = (-lo, 0)) := Lib.hid (by unfold backR; rw [if_neg (by simp; omega), if_pos rfl])
          clear h3
          go_enter Try.func93, Try.ntmps93
          go_wp2
          go_ret2
          rw [R.out]
          exact ⟨rfl, (Below.refl _ _).alloc (Nat.le_refl _) _⟩
  · have n1 : (hi != 0) = true := by simpa using h1
    have R : Hid (backR neg hi lo = (0, 22)) := Lib.hid (by unfold backR; rw [if_pos (.inl h1)])
    clear h1
    go_enter Try.func93, Try.ntmps93
    go_wp2
    go_ret2
    rw [R.out]
    exact ⟨rfl, (Below.refl _ _).alloc (Nat.le_refl _) _⟩

/-- two together -/
def plusN (n : Bool) (x : Int) (m : Bool) (y : Int) : Bool × Int × Int :=
  if n = m then (if x + y < 18446744073709551616 then (n, 0, x + y) else (n, 1, x + y - 18446744073709551616)) else if y ≤ x then (n, 0, x - y) else (m, 0, y - x)

def nV (p : Bool × Int × Int) : Value := numV p.1 p.2.1 p.2.2

set_option maxRecDepth 100000 in
theorem plus13_any (n : Bool) (x : Int) (m : Bool) (y : Int) (hx : 0 ≤ x ∧ x ≤ 9223372036854775808) (hy : 0 ≤ y ∧ y ≤ 9223372036854775808) (w : World) : Calls Try.prog 92 #[numV n 0 x, numV m 0 y] w fun e w' => e = .returned (nV (plusN n x m y)) ∧ Below w.heap.size w w' := by
  have BB : ∀ (o1 o2 o3 : Obj), Below w.heap.size w (((w.alloc o1).alloc o2).alloc o3) := fun o1 o2 o3 => (below2 w o1 o2).alloc (by simp; omega) _
  unfold numV
  by_cases h1 : n = m
  · subst h1
    have n1 : (n == n) = true := by simp
    by_cases h2 : x + y < 18446744073709551616
    · have R : Hid (plusN n x n y = (n, 0, x + y)) := Lib.hid (by unfold plusN; rw [if_pos rfl, if_pos h2])
      have h3 : ¬ (x + y < x) := by omega
      go_enter Try.func92, Try.ntmps92
      go_wp2
      exact bodyPost_ret (v := numV n 0 (x + y)) (by simp [results, Try.results92, go_sem, numV]) rfl ⟨by rw [R.out]; rfl, BB _ _ _⟩
    · have hx2 : x = 9223372036854775808 := by omega
      have hy2 : y = 9223372036854775808 := by omega
      subst hx2 hy2
      have R : Hid (plusN n 9223372036854775808 n 9223372036854775808 = (n, 1, 0)) := Lib.hid (by unfold plusN; rw [if_pos rfl, if_neg (by omega)]; rfl)
      have z : IntKind.u64.wrap 18446744073709551616 = 0 := by decide
      go_enter Try.func92, Try.ntmps92
      go_wp2
      exact bodyPost_ret (v := numV n 1 0) (by simp [results, Try.results92, go_sem, numV, z]) rfl ⟨by rw [R.out]; rfl, BB _ _ _⟩
  · have n1 : (n == m) = false := by simpa using h1
    by_cases h2 : y ≤ x
    · have R : Hid (plusN n x m y = (n, 0, x - y)) := Lib.hid (by unfold plusN; rw [if_neg h1, if_pos h2])
      have h3 : x ≥ y := h2
      clear h1
      go_enter Try.func92, Try.ntmps92
      go_wp2
      exact bodyPost_ret (v := numV n 0 (x - y)) (by simp [results, Try.results92, go_sem, numV]) rfl ⟨by rw [R.out]; rfl, BB _ _ _⟩
    · have R : Hid (plusN n x m y = (m, 0, y - x)) := Lib.hid (by unfold plusN; rw [if_neg h1, if_neg h2])
      have h3 : ¬ (x ≥ y) := h2
      clear h1
      go_enter Try.func92, Try.ntmps92
      go_wp2
      exact bodyPost_ret (v := numV m 0 (y - x)) (by simp [results, Try.results92, go_sem, numV]) rfl ⟨by rw [R.out]; rfl, BB _ _ _⟩

end Go.Proofs.Ytnmhnaanpjlniaa
/-
  Layer 13: the document's product, by halves of words.
-/
namespace Go.Proofs.Ytnmhnaanpjlniaa
open Go.RowKit

theorem halves (x y : Nat) : x * y = x / 4294967296 * (y / 4294967296) * 18446744073709551616 + (x / 4294967296 * (y % 4294967296) + x % 4294967296 * (y / 4294967296)) * 4294967296 + x % 4294967296 * (y % 4294967296) := by
  have h1 : x = 4294967296 * (x / 4294967296) + x % 4294967296 := (Nat.div_add_mod x 4294967296).symm
  have h2 : y = 4294967296 * (y / 4294967296) + y % 4294967296 := (Nat.div_add_mod y 4294967296).symm
  generalize x / 4294967296 = A at *
  generalize x % 4294967296 = B at *
  generalize y / 4294967296 = C at *
  generalize y % 4294967296 = D at *
  subst h1 h2
  grind

theorem low_half (p r : Nat) (hr : r < 4294967296) : (p * 4294967296 % 18446744073709551616) ||| r = (p % 4294967296) * 4294967296 + r := by
  have h1 : p * 4294967296 % 18446744073709551616 = (p % 4294967296) <<< 32 := by rw [Nat.shiftLeft_eq]; omega
  rw [h1, ← Nat.shiftLeft_add_eq_or_of_lt (by omega : r < 2 ^ 32), Nat.shiftLeft_eq]

set_option maxRecDepth 100000 in
theorem times13_any (n : Bool) (x : Nat) (m : Bool) (y : Nat) (hx1 : x ≤ 9223372036854775808) (hy1 : y ≤ 9223372036854775808) (w : World) : Calls Try.prog 94 #[numV n 0 x, numV m 0 y] w fun e w' => e = .returned (numV (n != m) ((x * y / 18446744073709551616 : Nat) : Int) ((x * y % 18446744073709551616 : Nat) : Int)) ∧ Below w.heap.size w w' := by
  have BB : ∀ (o1 o2 o3 : Obj), Below w.heap.size w (((w.alloc o1).alloc o2).alloc o3) := fun o1 o2 o3 => (below2 w o1 o2).alloc (by simp; omega) _
  have hx : x < 18446744073709551616 := by omega
  have hy : y < 18446744073709551616 := by omega
  obtain ⟨bd, bt, bw, hhi⟩ := Lib.mul64_hi x y hx hy
  have ba := Lib.half_mul_le (a := x / 4294967296) (b := y / 4294967296) (by omega) (by omega)
  have bb := Lib.half_mul_le (a := x / 4294967296) (b := y % 4294967296) (by omega) (by omega)
  have bc := Lib.half_mul_le (a := x % 4294967296) (b := y / 4294967296) (by omega) (by omega)
  have hxy := halves x y
  have hP : x * y ≤ 9223372036854775808 * 9223372036854775808 := Nat.mul_le_mul hx1 hy1
  obtain ⟨A, hA⟩ : ∃ A, A = x / 4294967296 := ⟨_, rfl⟩
  obtain ⟨B, hB⟩ : ∃ B, B = x % 4294967296 := ⟨_, rfl⟩
  obtain ⟨C, hC⟩ : ∃ C, C = y / 4294967296 := ⟨_, rfl⟩
  obtain ⟨D, hD⟩ : ∃ D, D = y % 4294967296 := ⟨_, rfl⟩
  have ba' : A * C < 18446744073709551616 := by rw [hA, hC]; omega
  have bb' : A * D < 18446744073709551616 := by rw [hA, hD]; omega
  have bc' : B * C < 18446744073709551616 := by rw [hB, hC]; omega
  simp only [← hA, ← hB, ← hC, ← hD] at bd bt bw hhi hxy
  obtain ⟨AC, hAC⟩ : ∃ v, v = A * C := ⟨_, rfl⟩
  obtain ⟨AD, hAD⟩ : ∃ v, v = A * D := ⟨_, rfl⟩
  obtain ⟨BC, hBC⟩ : ∃ v, v = B * C := ⟨_, rfl⟩
  obtain ⟨BD, hBD⟩ : ∃ v, v = B * D := ⟨_, rfl⟩
  simp only [← hAC, ← hAD, ← hBC, ← hBD] at bt bw hhi hxy ba' bb' bc' bd
  have bw2 : BC + (AD + BD / 4294967296) % 4294967296 < 18446744073709551616 := by omega
  have hq : x * y / 18446744073709551616 < 18446744073709551616 := by omega
  have bh1 : AC + (AD + BD / 4294967296) / 4294967296 < 18446744073709551616 := by rw [← hhi] at hq; omega
  have hhi2 : AC + (AD + BD / 4294967296) / 4294967296 + (BC + (AD + BD / 4294967296) % 4294967296) / 4294967296 = x * y / 18446744073709551616 := by rw [← hhi]; omega
  have bh : AC + (AD + BD / 4294967296) / 4294967296 + (BC + (AD + BD / 4294967296) % 4294967296) / 4294967296 < 18446744073709551616 := by rw [hhi2]; exact hq
  have hlo : (BC + (AD + BD / 4294967296) % 4294967296) % 4294967296 * 4294967296 + BD % 4294967296 = x * y % 18446744073709551616 := by rw [hxy]; omega
  have hr : BD % 4294967296 < 4294967296 := by omega
  have hor : bits .or .u64 (((BC + (AD + BD / 4294967296) % 4294967296) * 4294967296 % 18446744073709551616 : Nat) : Int) ((BD % 4294967296 : Nat) : Int) = ((x * y % 18446744073709551616 : Nat) : Int) := by
    rw [Go.bits_or_u64_nat _ _ (by omega) (by omega), low_half _ _ hr, hlo]
  have hsh : IntKind.u64.wrap (((BC + (AD + BD / 4294967296) % 4294967296 : Nat) : Int) * 4294967296) = (((BC + (AD + BD / 4294967296) % 4294967296) * 4294967296 % 18446744073709551616 : Nat) : Int) := by
    rw [show ((BC + (AD + BD / 4294967296) % 4294967296 : Nat) : Int) * 4294967296 = (((BC + (AD + BD / 4294967296) % 4294967296) * 4294967296 : Nat) : Int) by omega, Mul64.wrapM]
  have FACTS := Lib.hid (And.intro hhi2 (And.intro hor (And.intro bh (And.intro bh1 (And.intro bw2 (And.intro hsh hq))))))
  have EQ := Lib.hid (And.intro hA (And.intro hB (And.intro hC (And.intro hD (And.intro hAC (And.intro hAD (And.intro hBC hBD)))))))
  have BDS := Lib.hid (And.intro bd (And.intro bt (And.intro ba' (And.intro bb' bc'))))
  clear hP hq hsh hhi hxy hhi2 hor bh bh1 bw2 hA hB hC hD hAC hAD hBC hBD bd bt ba' bb' bc' ba bb bc bw hlo hr
  unfold numV
  go_enter Try.func94, Try.ntmps94
  go_upto_region 1 with fail
  go_quiet (fail)
  go_wp2
  obtain ⟨e1, e2, e3, e4, e5, e6, e7, e8⟩ := EQ.out
  obtain ⟨bd, bt, ba', bb', bc'⟩ := BDS.out
  obtain ⟨hhi2, hor, bh, bh1, bw2, hsh, hq⟩ := FACTS.out
  simp only [Mul64.maskN x hx, Mul64.maskN y hy, Mul64.divN, Mul64.mulN, Mul64.addN, ← e1, ← e2, ← e3, ← e4, ← e5, ← e6, ← e7, ← e8, Mul64.wrapN _ bd, Mul64.wrapN _ bb', Mul64.wrapN _ bt, Mul64.maskN _ bt, Mul64.maskN _ bd, Mul64.wrapN _ bc', Mul64.wrapN _ bw2, Mul64.wrapN _ ba', Mul64.wrapN _ bh1, Mul64.wrapN _ bh, hhi2, Mul64.wrapN _ hq, hsh, hor]
  exact bodyPost_ret (v := numV (n != m) ((x * y / 18446744073709551616 : Nat) : Int) ((x * y % 18446744073709551616 : Nat) : Int)) (by simp [results, Try.results94, go_sem, numV, bne]) rfl ⟨rfl, (((below_drewN (BB _ _ _) _).setCell (p := ⟨w.heap.size + 1 + 1, 0, none⟩) (by simp; omega) _).setCell (p := ⟨w.heap.size + 1 + 1, 1, none⟩) (by simp; omega) _).setCell (p := ⟨w.heap.size + 1 + 1, 2, none⟩) (by simp; omega) _⟩

end Go.Proofs.Ytnmhnaanpjlniaa
