import Derived.Test.YtflomdnjabgnaaaAv
/-
  Layer 3: the document's occurrence.
-/
namespace Go.Proofs.Ytflomdnjabgnaaa
open Go.RowKit

set_option maxRecDepth 100000 in
set_option maxHeartbeats 4000000 in
theorem roccurs_any (l : List (Int × Nd)) (hl : l.length ≤ 1000000) (hE : Ends (look l)) (hS : Small (look l)) (w : World) (lp : Option Addr) (lc : Nat) (hat : BsAt w lp l) (t : Nd) (hok : t.ok) (hsz : t.kids.size ≤ 1000) (htat : Ts.At w t.p t.kids) (v : Int) :
    Calls Try.prog 27 #[.slice lp l.length lc, .int .i64 v, .agg #[.int .u8 t.k, .string t.s, .int .i64 t.n, .slice t.p t.kids.len t.c]] w fun e w' => e = .returned (.tuple #[.bool (occ v (num 0 (vis (look l) 4097 [t]))).1, .int .i64 (occ v (num 0 (vis (look l) 4097 [t]))).2]) ∧ Below w.heap.size w w' := by
  have HE := Lib.hid hE
  have HS := Lib.hid hS
  have AT := Lib.hid hat
  have OK := Lib.hid hok
  have TAT := Lib.hid htat
  have hlen := vis_length (look l) 4097 [t]
  have ho := occ_pos v (vis (look l) 4097 [t]) 0 (by omega) (by omega)
  have hpa := posA_le v (vis (look l) 4097 [t]) 0
  rw [Nat.zero_add] at ho hpa
  obtain ⟨oc, hoc⟩ : ∃ oc, oc = occ v (num 0 (vis (look l) 4097 [t])) := ⟨_, rfl⟩
  rw [← hoc] at ho ⊢
  obtain ⟨z, hz⟩ : ∃ z, z = posA v 0 (vis (look l) 4097 [t]) := ⟨_, rfl⟩
  rw [← hz] at ho hpa
  obtain ⟨n, hn⟩ : ∃ n, n = (vis (look l) 4097 [t]).length := ⟨_, rfl⟩
  rw [← hn] at ho hlen hpa
  have OC := Lib.hid ho
  have ZZ := Lib.hid hz
  have NN := Lib.hid hn
  clear hE hS hat hok htat ho hoc hz hn
  go_enter Try.func27, Try.ntmps27
  go_wp2_with fail
  have hB0 : Below w.heap.size w (w.alloc (.cells #[.int .u8 t.k, .string t.s, .int .i64 t.n, .slice t.p t.kids.len t.c] 24)) := (Below.refl _ _).alloc (Nat.le_refl _) _
  refine (bnodes_any l hl HE.out HS.out _ lp lc (AT.out.below hB0) t OK.out hsz (TAT.out.below hB0) v).mono ?_
  rintro e w1 ⟨rfl, hB1⟩
  rw [← ZZ.out, ← NN.out]
  have BB := Lib.hid (hB0.trans (hB1.mono hB0.size))
  clear hB0 hB1
  by_cases h1 : 0 ≤ z
  · by_cases h2 : z ≤ 4096
    · have R := OC.out
      rw [if_pos ⟨h1, h2⟩] at R
      have RR := Lib.hid R
      clear R
      go_wp2
      exact bodyPost_ret (v := .tuple #[.bool true, .int .i64 0]) (by simp [results, Try.results27, go_sem]) rfl ⟨by rw [RR.out], BB.out⟩
    · have h3 : 4096 < n := by omega
      have R := OC.out
      rw [if_neg (by omega), if_pos h3] at R
      have RR := Lib.hid R
      clear R
      go_wp2
      exact bodyPost_ret (v := .tuple #[.bool false, .int .i64 31]) (by simp [results, Try.results27, go_sem]) rfl ⟨by rw [RR.out], BB.out⟩
  · by_cases h3 : 4096 < n
    · have R := OC.out
      rw [if_neg (by omega), if_pos h3] at R
      have RR := Lib.hid R
      clear R
      go_wp2
      exact bodyPost_ret (v := .tuple #[.bool false, .int .i64 31]) (by simp [results, Try.results27, go_sem]) rfl ⟨by rw [RR.out], BB.out⟩
    · have R := OC.out
      rw [if_neg (by omega), if_neg h3] at R
      have RR := Lib.hid R
      clear R
      go_wp2
      exact bodyPost_ret (v := .tuple #[.bool false, .int .i64 0]) (by simp [results, Try.results27, go_sem]) rfl ⟨by rw [RR.out], BB.out⟩

end Go.Proofs.Ytflomdnjabgnaaa
