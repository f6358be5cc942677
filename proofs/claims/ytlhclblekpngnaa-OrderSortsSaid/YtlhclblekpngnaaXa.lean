/-
  Layer 2: comparisons of numbers and of texts.
-/
import Derived.Test.YtlhclblekpngnaaTu
import Derived.Lib.Bytealg
namespace Go.Proofs.Ytlhclblekpngnaa
open Go.RowKit

def ci (x y : Int) : Int := if x < y then -1 else if y < x then 1 else 0

def cb (s t : ByteArray) : Int := Lib.compareBytes s.data.toList t.data.toList

set_option maxHeartbeats 1000000 in
theorem cmp_u8 (x y : Int) (w : World) :
    Calls Try.prog 60 #[.int .u8 x, .int .u8 y] w fun e w' => e = .returned (.int .i64 (ci x y)) ∧ w' = w := by
  unfold ci
  go_enter Try.func60, Try.ntmps60
  by_cases h1 : x < y
  · go_wp2
    go_ret
    exact ⟨by simp [h1], rfl⟩
  · by_cases h2 : y < x
    · go_wp2
      go_ret
      exact ⟨by simp [h1, h2], rfl⟩
    · go_wp2
      go_ret
      exact ⟨by simp [h1, h2], rfl⟩

set_option maxHeartbeats 1000000 in
theorem cmp_i64 (x y : Int) (w : World) :
    Calls Try.prog 62 #[.int .i64 x, .int .i64 y] w fun e w' => e = .returned (.int .i64 (ci x y)) ∧ w' = w := by
  unfold ci
  go_enter Try.func62, Try.ntmps62
  by_cases h1 : x < y
  · go_wp2
    go_ret
    exact ⟨by simp [h1], rfl⟩
  · by_cases h2 : y < x
    · go_wp2
      go_ret
      exact ⟨by simp [h1, h2], rfl⟩
    · go_wp2
      go_ret
      exact ⟨by simp [h1, h2], rfl⟩

set_option maxHeartbeats 1000000 in
theorem cmp_int (x y : Int) (w : World) :
    Calls Try.prog 64 #[.int .i64 x, .int .i64 y] w fun e w' => e = .returned (.int .i64 (ci x y)) ∧ w' = w := by
  unfold ci
  go_enter Try.func64, Try.ntmps64
  by_cases h1 : x < y
  · go_wp2
    go_ret
    exact ⟨by simp [h1], rfl⟩
  · by_cases h2 : y < x
    · go_wp2
      go_ret
      exact ⟨by simp [h1, h2], rfl⟩
    · go_wp2
      go_ret
      exact ⟨by simp [h1, h2], rfl⟩

set_option maxHeartbeats 1000000 in
set_option maxRecDepth 100000 in
/-- two texts, by the entry that the model keeps for them -/
theorem cmp_str0 (s t : ByteArray) (w : World) :
    Calls Try.prog 91 #[.string s, .string t] w fun e w' => e = .returned (.int .i64 (cb s t)) ∧ w' = w := by
  go_enter Try.func91, Try.ntmps91
  go_wp2
  rw [run_callFunc_extern Try.func99 (by kernel_rfl) (by kernel_rfl) (by kernel_rfl) (e := Extern.BytealgCompare.compare) (by kernel_rfl), Lib.run_compareString]
  simp only [Result.andThen]
  rw [Oper.upon_value]
  go_wp2
  go_ret
  exact ⟨rfl, rfl⟩

set_option maxHeartbeats 1000000 in
theorem cmp_str (s t : ByteArray) (w : World) :
    Calls Try.prog 66 #[.string s, .string t] w fun e w' => e = .returned (.int .i64 (cb s t)) ∧ w' = w := by
  go_enter Try.func66, Try.ntmps66
  go_wp2_with fail
  refine (cmp_str0 _ _ _).mono ?_
  rintro e w' ⟨rfl, rfl⟩
  go_wp2
  go_ret
  exact ⟨rfl, rfl⟩
end Go.Proofs.Ytlhclblekpngnaa
