/-
  Layer 2: blocks of a list of its own changed, walked.
-/
import Derived.Test.YtlhclblekpngnaaYc
import Derived.Test.YtlhclblekpngnaaXh
import Derived.BigRegion
namespace Go.Proofs.Ytlhclblekpngnaa
open Go.RowKit

set_option maxRecDepth 100000 in
set_option maxHeartbeats 20000000 in
theorem swapRange_any (R N c a b n : Nat) (d : Nat → It) (w : World) (how : OwnF R N d w) (h1 : a + n ≤ b) (h2 : b + n ≤ N) (hN : N ≤ 1000000) (hc : N ≤ c ∧ c ≤ 9223372036854775807) (fv : Value) :
    Calls Try.prog 104 #[.slice (some ⟨R, 0, none⟩) N c, .int .i64 a, .int .i64 b, .int .i64 n, fv] w fun e w' => e = .returned (.tuple #[]) ∧ OwnF R N (swpR d a b n) w' ∧ Below R w w' := by
  have OW := Lib.hid how
  clear how
  go_enter Try.func104, Try.ntmps104
  go_wp2_with fail
  go_loopw [10] (fun s10 wr => ∃ (i : Nat), i ≤ n ∧ s10 = .int .i64 i ∧ Hid (OwnF R N (swpR d a b i) wr) ∧ Hid (Below R w wr)) (fun i _ => n - (intOf i).toNat)
  case atStart => exact ⟨0, Nat.zero_le _, rfl, Lib.hid (by rw [swpR_start]; exact OW.out), Lib.hid (Below.refl _ _)⟩
  case round =>
    obtain ⟨i, hi, rfl, OD, BR⟩ := hrel
    by_cases hlt : i < n
    · obtain ⟨D, hD⟩ : ∃ D, swpR d a b i = D := ⟨_, rfl⟩
      rw [hD] at OD
      have HD := Lib.hid hD
      clear hD
      obtain ⟨qa, hqa⟩ : ∃ qa, a + i = qa := ⟨_, rfl⟩
      obtain ⟨qb, hqb⟩ : ∃ qb, b + i = qb := ⟨_, rfl⟩
      obtain ⟨⟨k, s, m, p, cc, ks⟩, hx⟩ : ∃ x, D qa = x := ⟨_, rfl⟩
      obtain ⟨⟨k', s', m', p', cc', ks'⟩, hy⟩ : ∃ y, D qb = y := ⟨_, rfl⟩
      have ra := OD.out.row qa (by omega)
      have rb := OD.out.row qb (by omega)
      rw [hx] at ra
      rw [hy] at rb
      obtain ⟨a0, a1, a2, a3, -⟩ := ra
      obtain ⟨b0, b1, b2, b3, -⟩ := rb
      simp only at a0 a1 a2 a3 b0 b1 b2 b3
      have fr := OD.out.fr
      have f0 := fr (qa * 4)
      have f1 := fr (qa * 4 + 1)
      have f2 := fr (qa * 4 + 2)
      have f3 := fr (qa * 4 + 3)
      have g0 := fr (qb * 4)
      have g1 := fr (qb * 4 + 1)
      have g2 := fr (qb * 4 + 2)
      have g3 := fr (qb * 4 + 3)
      have HX := Lib.hid hx
      have HY := Lib.hid hy
      have QA := Lib.hid hqa
      have QB := Lib.hid hqb
      have e1 : ((a : Int) + (i : Int)).toNat = qa := by omega
      have e2 : ((b : Int) + (i : Int)).toNat = qb := by omega
      have z1 : (a : Int) + (i : Int) < (N : Int) := by omega
      have z2 : (b : Int) + (i : Int) < (N : Int) := by omega
      have z3 : (0 : Int) ≤ (a : Int) + (i : Int) := by omega
      have z4 : (0 : Int) ≤ (b : Int) + (i : Int) := by omega
      clear fr hx hy hqa hqb
      go_wp2_with fail
      go_big_region
      obtain ⟨W9, hW9, hO9, hB9⟩ := swapF_step OD.out (i := qa) (j := qb) (by omega) (by omega) (by omega) BR.out
      rw [HX.out, HY.out] at hW9
      simp only at hW9
      rw [← hW9]
      have OS := Lib.hid (hO9.below (below_drewN (Below.refl _ W9) 1))
      have BS := Lib.hid (below_drewN hB9 1)
      have Z9 := Lib.hid hW9
      clear hW9 hO9 hB9 a0 a1 a2 a3 b0 b1 b2 b3 f0 f1 f2 f3 g0 g1 g2 g3 e1 e2 z1 z2 z3 z4
      go_wp2
      go_roundw
      case rel => exact ⟨i + 1, by omega, by go_num, Lib.hid (by rw [swpR_step d (by omega), HD.out, QA.out, QB.out]; exact OS.out), BS⟩
      case measure => simp [intOf]; omega
    · go_wp2
      go_end0
      exact ⟨rfl, by rw [show n = i by omega]; exact OD.out, BR.out⟩

set_option maxRecDepth 100000 in
set_option maxHeartbeats 20000000 in
theorem rotate_any (R N c a m b : Nat) (d : Nat → It) (w : World) (how : OwnF R N d w) (h1 : a < m) (h2 : m < b) (h3 : b ≤ N) (hN : N ≤ 1000000) (hc : N ≤ c ∧ c ≤ 9223372036854775807) (fv : Value) :
    Calls Try.prog 103 #[.slice (some ⟨R, 0, none⟩) N c, .int .i64 a, .int .i64 m, .int .i64 b, fv] w fun e w' => e = .returned (.tuple #[]) ∧ OwnF R N (rotF d a m b) w' ∧ Below R w w' := by
  have OW := Lib.hid how
  clear how
  go_enter Try.func103, Try.ntmps103
  go_wp2_with fail
  go_loopw [10, 11] (fun s10 s11 wr => ∃ (i j : Nat) (D : Nat → It), 0 < i ∧ i ≤ m - a ∧ 0 < j ∧ m + j ≤ b ∧ s10 = .int .i64 i ∧ s11 = .int .i64 j ∧ Hid (rotF D (m - i) m (m + j) = rotF d a m b) ∧ Hid (OwnF R N D wr) ∧ Hid (Below R w wr)) (fun i j _ => (intOf i).toNat + (intOf j).toNat)
  case atStart => exact ⟨m - a, b - m, d, by omega, by omega, by omega, by omega, by congr 1; omega, by congr 1; omega, Lib.hid (by rw [show m - (m - a) = a by omega, show m + (b - m) = b by omega]), OW, Lib.hid (Below.refl _ _)⟩
  case round =>
    obtain ⟨i, j, D, hi, hi', hj, hj', rfl, rfl, HR, OD, BR⟩ := hrel
    by_cases hne : i = j
    · subst hne
      have hnn : ((i : Int) != (i : Int)) = false := by simp
      obtain ⟨x, hx⟩ : ∃ x : Nat, m - i = x := ⟨_, rfl⟩
      have e1 : (m : Int) - (i : Int) = (x : Int) := by omega
      have HX := Lib.hid hx
      go_wp2_with fail
      refine (swapRange_any R N c x m i D _ OD.out (by omega) (by omega) hN hc fv).mono ?_
      rintro e w' ⟨rfl, hO, hB⟩
      have O2 := Lib.hid hO
      have B2 := Lib.hid (BR.out.trans hB)
      clear hO hB
      go_wp2
      go_end0
      refine ⟨rfl, ?_, B2.out⟩
      rw [← HR.out, ← rot_eq D (by omega), HX.out]
      exact O2.out
    · have hnn : ((i : Int) != (j : Int)) = true := by simp; omega
      by_cases hgt : j < i
      · obtain ⟨x, hx⟩ : ∃ x : Nat, m - i = x := ⟨_, rfl⟩
        obtain ⟨y, hy⟩ : ∃ y : Nat, i - j = y := ⟨_, rfl⟩
        have e1 : (m : Int) - (i : Int) = (x : Int) := by omega
        have e2 : (i : Int) - (j : Int) = (y : Int) := by omega
        have HX := Lib.hid hx
        have HY := Lib.hid hy
        go_wp2_with fail
        refine (swapRange_any R N c x m j D _ OD.out (by omega) (by omega) hN hc fv).mono ?_
        rintro e w' ⟨rfl, hO, hB⟩
        have O2 := Lib.hid hO
        have B2 := Lib.hid (BR.out.trans hB)
        clear hO hB
        go_wp2
        go_roundw
        case rel => exact ⟨y, j, swpR D x m j, by omega, by omega, hj, hj', rfl, rfl, Lib.hid (by rw [← HR.out, ← rot_gt D (by omega) hgt, HX.out, HY.out]), O2, B2⟩
        case measure => simp [intOf]; omega
      · obtain ⟨x, hx⟩ : ∃ x : Nat, m - i = x := ⟨_, rfl⟩
        obtain ⟨y, hy⟩ : ∃ y : Nat, j - i = y := ⟨_, rfl⟩
        obtain ⟨z, hz⟩ : ∃ z : Nat, m + j - i = z := ⟨_, rfl⟩
        have e1 : (m : Int) - (i : Int) = (x : Int) := by omega
        have e2 : (j : Int) - (i : Int) = (y : Int) := by omega
        have e3 : (m : Int) + (j : Int) - (i : Int) = (z : Int) := by omega
        have HX := Lib.hid hx
        have HY := Lib.hid hy
        have HZ := Lib.hid hz
        go_wp2_with fail
        refine (swapRange_any R N c x z i D _ OD.out (by omega) (by omega) hN hc fv).mono ?_
        rintro e w' ⟨rfl, hO, hB⟩
        have O2 := Lib.hid hO
        have B2 := Lib.hid (BR.out.trans hB)
        clear hO hB
        go_wp2
        go_roundw
        case rel => exact ⟨i, y, swpR D x z i, hi, hi', by omega, by omega, rfl, rfl, Lib.hid (by rw [← HR.out, ← rot_lt D (by omega) (by omega), HX.out, HY.out, HZ.out]), O2, B2⟩
        case measure => simp [intOf]; omega

end Go.Proofs.Ytlhclblekpngnaa
