/-
  The known numbers of the law.
-/
import Derived.Test.YtbpacicbbepdhaaRh
namespace Go.Proofs.Ytbpacicbbepdhaa
open Go.RowKit

theorem k_quot : ansOf (quotR (-7) 2) = .tuple #[.int .i64 (-3), .int .i64 0] := rfl
theorem k_mod : ansOf (modR (-7) 2) = .tuple #[.int .i64 1, .int .i64 0] := rfl
theorem k_rem : ansOf (remR (-7) 2) = .tuple #[.int .i64 (-1), .int .i64 0] := rfl
theorem k_plus : ansOf (plusR 9223372036854775807 1) = .tuple #[.int .i64 0, .int .i64 22] := by simp [plusR, ansOf]
theorem k_zero : ansOf (quotR 1 0) = .tuple #[.int .i64 0, .int .i64 23] := rfl

set_option maxHeartbeats 2000000 in
theorem wakes_true (w : World) :
    Calls Try.prog 5 #[] w fun e w' => e = .returned (.bool true) ∧ Below w.heap.size w w' := by
  go_enter Try.func5, Try.ntmps5
  go_wp2_with fail
  refine (two_quot (-7) 2 (by unfold isI64; omega) (by unfold isI64; omega) _).mono ?_
  rintro e w1 ⟨rfl, hB1⟩
  rw [k_quot]
  go_wp2_with fail
  refine (two_mod (-7) 2 (by unfold isI64; omega) (by unfold isI64; omega) _).mono ?_
  rintro e w2 ⟨rfl, hB2⟩
  rw [k_mod]
  go_wp2_with fail
  refine (two_rem (-7) 2 (by unfold isI64; omega) (by unfold isI64; omega) _).mono ?_
  rintro e w3 ⟨rfl, hB3⟩
  rw [k_rem]
  go_wp2_with fail
  refine (two_plus 9223372036854775807 1 (by unfold isI64; omega) (by unfold isI64; omega) _).mono ?_
  rintro e w4 ⟨rfl, hB4⟩
  rw [k_plus]
  go_wp2_with fail
  refine (two_quot 1 0 (by unfold isI64; omega) (by unfold isI64; omega) _).mono ?_
  rintro e w5 ⟨rfl, hB5⟩
  rw [k_zero]
  have B5 : Below w.heap.size w w5 := hB1.trans ((hB2.mono (by have := hB1.size; omega)).trans ((hB3.mono (by have := hB1.size; have := hB2.size; omega)).trans ((hB4.mono (by have := hB1.size; have := hB2.size; have := hB3.size; omega)).trans (hB5.mono (by have := hB1.size; have := hB2.size; have := hB3.size; have := hB4.size; omega)))))
  clear hB1 hB2 hB3 hB4 hB5
  go_wp2_with fail
  refine (new_any _).mono ?_
  rintro e w' ⟨rfl, rfl⟩
  go_wp2_with fail
  refine (i_any 1 _).mono ?_
  rintro e w6 ⟨rfl, hB6⟩
  go_wp2_with fail
  refine (v_any 0 _).mono ?_
  rintro e w7 ⟨rfl, hB7⟩
  unfold leafI leafV
  go_wp2_with fail
  refine (f_two _ ⟨#[43]⟩ w7.heap.size ?_ 2 1 1 0 ⟨#[]⟩ ⟨#[]⟩ ?_ ?_ ?_ ?_ ?_ ?_ ?_ ?_).mono ?_
  · simp
  all_goals try (simp [go_sem]; done)
  rintro e w8 ⟨rfl, hB8, hlt8, hblk⟩
  have hsz : (w7.alloc (Obj.cells #[Value.int IntKind.u8 2, Value.string ⟨#[]⟩, Value.int IntKind.i64 1, Value.slice none 0 0, Value.int IntKind.u8 1, Value.string ⟨#[]⟩, Value.int IntKind.i64 0, Value.slice none 0 0] 32)).heap.size + 1 = w7.heap.size + 1 + 1 := by simp
  rw [hsz] at hlt8 hblk
  have s5 : w5.heap.size < w6.heap.size := by have := hB6.size; simp at this; omega
  have s6 : w6.heap.size ≤ w7.heap.size := hB7.size
  have s7 : w7.heap.size < w8.heap.size := by omega
  have s0 : w.heap.size ≤ w5.heap.size := B5.size
  have B68 : Below w6.heap.size w6 w8 := hB7.trans (((Below.refl _ _).alloc s6 _).trans (hB8.mono (by simp; omega)))
  have B58 : Below (w5.heap.size + 1) (w5.alloc (Obj.cells #[Value.pointer none, Value.int IntKind.u64 0, Value.int IntKind.i64 0] 46)) w8 := (hB6.mono (by simp)).trans (B68.mono (by omega))
  have B8 : Below w.heap.size w w8 := (B5.alloc s0 _).trans (B58.mono (by omega))
  have q0 : w8.cell? ⟨w5.heap.size, 0, none⟩ = some (.pointer none) := (B58.cell (p := ⟨w5.heap.size, 0, none⟩) (Nat.lt_succ_self _)).trans (by simp [go_sem])
  have q1 : w8.cell? ⟨w5.heap.size, 1, none⟩ = some (.int .u64 0) := (B58.cell (p := ⟨w5.heap.size, 1, none⟩) (Nat.lt_succ_self _)).trans (by simp [go_sem])
  have Q0 := Lib.hid q0
  have Q1 := Lib.hid q1
  have HB := Lib.hid hblk
  clear q0 q1 hblk
  go_wp2_with fail
  refine (f_any_var ⟨#[43]⟩ (by decide) 16 rfl 1 w8 w5.heap.size (w7.heap.size + 1 + 1) (by omega) (by omega) Q0.out Q1.out HB.out).mono ?_
  rintro e w9 ⟨rfl, hB9⟩
  have B9 : Below w.heap.size w w9 := B8.trans (hB9.mono (by omega))
  have s8 : w.heap.size ≤ w9.heap.size := B9.size
  clear hB6 hB7 hB8 B58 B68
  go_wp2_with fail
  refine (new_any _).mono ?_
  rintro e w' ⟨rfl, rfl⟩
  go_wp2_with fail
  refine (a_any ⟨#[97]⟩ _).mono ?_
  rintro e w10 ⟨rfl, hB10⟩
  have B10 : Below w.heap.size w w10 := (B9.alloc s8 _).trans (hB10.mono (by simp; omega))
  have s9 : w.heap.size ≤ w10.heap.size := B10.size
  go_wp2_with fail
  refine (eval_atom ⟨#[97]⟩ (by decide) rfl _ _).mono ?_
  rintro e w11 ⟨rfl, hB11⟩
  have B11 : Below w.heap.size w w11 := B10.trans (hB11.mono s9)
  go_wp2
  go_ret
  exact ⟨rfl, B11⟩

end Go.Proofs.Ytbpacicbbepdhaa
