import Derived.Test.YtflomdnjabgnaaaZa
/-
  Layer 3: which kid of a node has a number, and whether a number is beyond what nodes have.
-/
namespace Go.Proofs.Ytflomdnjabgnaaa
open Go.RowKit

/-- which kid of a node of a level has a number -/
def kidOf (v : Int) (l : Nat) : Nat := (v.toNat / 2 ^ (3 + 4 * (l - 1))) % 16
/-- is a number beyond so many levels? -/
def isBeyond (v : Int) (h : Nat) : Prop := ¬ v.toNat / 2 ^ (3 + 4 * h) = 0

theorem kidOf_lt (v : Int) (l : Nat) : kidOf v l < 16 := Nat.mod_lt _ (by omega)

theorem and_15 (n : Nat) (hn : n < 9223372036854775808) : bits .and .i64 (n : Int) 15 = ((n % 16 : Nat) : Int) := by
  have e1 : BitVec.ofInt 64 (n : Int) = BitVec.ofNat 64 n := by
    apply BitVec.eq_of_toNat_eq
    simp
  have e2 : (BitVec.ofNat 64 n &&& BitVec.ofInt 64 15).toNat = n % 16 := by
    rw [BitVec.toNat_and]
    have : (BitVec.ofInt 64 15).toNat = 2 ^ 4 - 1 := by decide
    rw [this, Nat.and_two_pow_sub_one_eq_mod, BitVec.toNat_ofNat]
    omega
  have e3 : bits .and .i64 (n : Int) 15 = IntKind.i64.wrap ((BitVec.ofInt 64 (n : Int) &&& BitVec.ofInt 64 15).toNat : Int) := rfl
  rw [e3, e1, e2]
  have h16 : n % 16 < 16 := Nat.mod_lt _ (by omega)
  generalize n % 16 = m at *
  exact IntWalk.i64_in _ (by omega)

theorem wf64 {n : Int} (h : -9223372036854775808 ≤ n ∧ n ≤ 9223372036854775807) : (Lit.int .i64 n).wf = true := WalkArith.wf_i64 h

theorem div_cast (v : Int) (hv : 0 ≤ v) (k : Nat) : v / 2 ^ k = ((v.toNat / 2 ^ k : Nat) : Int) := by
  obtain ⟨n, rfl⟩ := Int.eq_ofNat_of_zero_le hv
  simp

set_option maxHeartbeats 1000000 in
theorem kid_any (v : Int) (hv : 0 ≤ v ∧ v ≤ 9223372036854775807) (l : Nat) (hl : 1 ≤ l ∧ l ≤ 15) (w : World) : Calls Try.prog 79 #[.int .i64 v, .int .u64 l] w fun e w' => e = .returned (.int .i64 (kidOf v l)) ∧ w' = w := by
  have h2 : v / 2 ^ (3 + 4 * (l - 1)) = ((v.toNat / 2 ^ (3 + 4 * (l - 1)) : Nat) : Int) := div_cast v hv.1 _
  have h3 : v.toNat / 2 ^ (3 + 4 * (l - 1)) < 9223372036854775808 := Nat.lt_of_le_of_lt (Nat.div_le_self _ _) (by omega)
  have h4 : bits .and .i64 (v / 2 ^ (3 + 4 * (l - 1))) 15 = (kidOf v l : Int) := by rw [h2]; exact and_15 _ h3
  have H4 := Lib.hid h4
  clear h2 h3 h4
  go_enter Try.func79, Try.ntmps79
  go_wp2
  go_ret
  exact ⟨by rw [H4.out]; rfl, rfl⟩

theorem kid_at (v : Int) (hv : 0 ≤ v ∧ v ≤ 9223372036854775807) (l : Nat) (hl : 1 ≤ l ∧ l ≤ 15) (x : Int) (hx : x = (l : Int)) (w : World) : Calls Try.prog 79 #[.int .i64 v, .int .u64 x] w fun e w' => e = .returned (.int .i64 (kidOf v l)) ∧ w' = w := by
  subst hx
  exact kid_any v hv l hl w

set_option maxHeartbeats 1000000 in
theorem beyond_no (v : Int) (hv : 0 ≤ v ∧ v ≤ 9223372036854775807) (h : Nat) (hh : h ≤ 15) (hb : ¬ isBeyond v h) (w : World) : Calls Try.prog 63 #[.int .i64 v, .int .u64 h] w fun e w' => e = .returned (.bool false) ∧ w' = w := by
  have h2 : v / 2 ^ (3 + 4 * h) = 0 := by rw [div_cast v hv.1]; unfold isBeyond at hb; rw [Classical.not_not.1 hb]; rfl
  have H2 := Lib.hid h2
  clear h2
  go_enter Try.func63, Try.ntmps63
  go_wp2
  go_ret
  exact ⟨by rw [H2.out]; rfl, rfl⟩

set_option maxHeartbeats 1000000 in
theorem beyond_yes (v : Int) (hv : 0 ≤ v ∧ v ≤ 9223372036854775807) (h : Nat) (hh : h ≤ 15) (hb : isBeyond v h) (w : World) : Calls Try.prog 63 #[.int .i64 v, .int .u64 h] w fun e w' => e = .returned (.bool true) ∧ w' = w := by
  have h2 : (v / 2 ^ (3 + 4 * h) != 0) = true := by rw [div_cast v hv.1]; unfold isBeyond at hb; generalize v.toNat / 2 ^ (3 + 4 * h) = q at *; simp; omega
  have H2 := Lib.hid h2
  clear h2
  go_enter Try.func63, Try.ntmps63
  go_wp2
  go_ret
  exact ⟨by rw [H2.out]; rfl, rfl⟩

end Go.Proofs.Ytflomdnjabgnaaa
