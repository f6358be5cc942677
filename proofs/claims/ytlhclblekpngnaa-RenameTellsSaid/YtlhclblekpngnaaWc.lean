/-
  The law RenameTells' own place: where a number is in a list.
-/
import Derived.Test.YtlhclblekpngnaaWb
namespace Go.Proofs.Ytlhclblekpngnaa
open Go.RowKit

theorem placeL_hit {zs : List Int} {n : Int} {j : Nat} (hj : j < zs.length) (h : zs[j] = n) (hno : n ∉ zs.take j) : placeL zs n = (j : Int) := by
  have hm : n ∈ zs := h ▸ List.getElem_mem hj
  unfold placeL
  rw [if_pos (by simp [hm])]
  have hs : zs = zs.take j ++ zs.drop j := (List.take_append_drop j zs).symm
  have h1 : zs.idxOf n = j := by
    rw [hs, List.idxOf_append, if_neg hno, List.drop_eq_getElem_cons hj, h]
    simp
    omega
  rw [h1]

theorem placeL_miss {zs : List Int} {n : Int} (hno : n ∉ zs) : placeL zs n = -1 := by
  unfold placeL
  rw [if_neg (by simp [hno])]

set_option maxRecDepth 100000 in
set_option maxHeartbeats 2000000 in
theorem place_any (zs : List Int) (n : Int) (w : World) (p : Option Addr) (c : Nat) (hlen : zs.length ≤ 1000000) (h : IsInts w p zs) :
    Calls Try.prog 81 #[.slice p zs.length c, .int .i64 n] w fun e w' => e = .returned (.int .i64 (placeL zs n)) ∧ w' = w := by
  obtain ⟨b, o, hp, hc⟩ := h
  have PZ := Lib.hid hp
  have CZ := Lib.hid hc
  clear hp hc
  go_enter Try.func81, Try.ntmps81
  go_wp2_with fail
  go_loop [5] (fun i => ∃ (j : Nat), j ≤ zs.length ∧ i = .int .i64 j ∧ Hid (n ∉ zs.take j)) (fun i => zs.length - (intOf i).toNat)
  case atStart => exact ⟨0, Nat.zero_le _, rfl, Lib.hid (by simp)⟩
  case round =>
    obtain ⟨j, hj, rfl, RZ⟩ := hrel
    by_cases hjl : j < zs.length
    · have hpz' := some_of_ints PZ.out hjl
      obtain ⟨z, hz⟩ : ∃ z, z = zs[j] := ⟨_, rfl⟩
      have hcell : w.cell? ⟨b, o + j, none⟩ = some (.int .i64 z) := by rw [hz]; exact CZ.out j hjl
      have HZ := Lib.hid hz
      clear hz
      subst hpz'
      by_cases hzn : (z == n) = true
      · have hpl := Lib.hid (placeL_hit hjl (by rw [← HZ.out]; simpa using hzn) RZ.out)
        go_wp2
        go_ret
        exact ⟨by rw [hpl.out]; rfl, rfl⟩
      · rw [Bool.not_eq_true] at hzn
        go_wp2
        go_round
        case rel =>
          refine ⟨j + 1, by omega, by go_num, Lib.hid ?_⟩
          intro hx
          rw [List.take_succ_eq_append_getElem hjl] at hx
          rcases List.mem_append.1 hx with hx | hx
          · exact RZ.out hx
          · have h1 : n = zs[j] := by simpa using hx
            rw [HZ.out, h1] at hzn
            simp at hzn
        case measure => simp [intOf]; omega
    · have hpl := Lib.hid (placeL_miss (zs := zs) (n := n) (by have := RZ.out; rwa [List.take_of_length_le (by omega)] at this))
      go_wp2
      go_ret
      exact ⟨by rw [hpl.out]; rfl, rfl⟩

end Go.Proofs.Ytlhclblekpngnaa
