import Derived.Test.YtflomdnjabgnaaaTh
/-
  Good, of both.
-/
namespace Go.Proofs.Ytflomdnjabgnaaa
open Go.RowKit

set_option maxHeartbeats 1000000 in
theorem tGood_any (ts : Ts) (hbig : ts.size ≤ 1000000) (hok : ts.ok) (k : Int) (s : ByteArray) (n : Int) (w : World) (p : Option Addr) (c : Nat) (hs : s.size ≤ 140737488351232) (hat : Ts.At w p ts) :
    Calls Try.prog 46 #[.agg #[.int .u8 k, .string s, .int .i64 n, .slice p ts.len c]] w fun e w' =>
      e = .returned (.bool (goodB 64 k s n ts)) ∧ Below w.heap.size w w' := by
  go_enter Try.func46, Try.ntmps46
  go_wp2_with fail
  have hB0 : Below w.heap.size w (w.alloc (.cells #[.int .u8 k, .string s, .int .i64 n, .slice p ts.len c] 24)) := (Below.refl _ _).alloc (Nat.le_refl _) _
  refine (tgood_any _ ts (Nat.lt_succ_self _) hbig hok 64 k s n _ p c (Nat.le_refl _) hs (hat.below hB0)).mono ?_
  rintro e w' ⟨rfl, hB⟩
  have B := Lib.hid (hB0.trans (hB.mono hB0.size))
  clear hB hB0
  go_wp2
  go_ret
  exact ⟨rfl, B.out⟩

set_option maxHeartbeats 1000000 in
theorem rGood_any (ts : Ts) (hbig : ts.size ≤ 1000000) (hok : ts.ok) (k : Int) (s : ByteArray) (n : Int) (w : World) (p : Option Addr) (c : Nat) (hs : s.size ≤ 140737488351232) (hat : Ts.At w p ts) :
    Calls Try.prog 36 #[.agg #[.int .u8 k, .string s, .int .i64 n, .slice p ts.len c]] w fun e w' =>
      e = .returned (.bool (goodB 64 k s n ts)) ∧ Below w.heap.size w w' := by
  have hds := depthL_size ts
  obtain ⟨W2, hW2, hsz2, hB2, hc1⟩ := box1 w #[.int .u8 k, .string s, .int .i64 n, .slice p ts.len c] 24
  have a0 : W2.cell? ⟨w.heap.size, 0, none⟩ = some (.int .u8 k) := hc1 0 _ rfl
  have a1 : W2.cell? ⟨w.heap.size, 1, none⟩ = some (.string s) := hc1 1 _ rfl
  have a2 : W2.cell? ⟨w.heap.size, 2, none⟩ = some (.int .i64 n) := hc1 2 _ rfl
  have a3 : W2.cell? ⟨w.heap.size, 3, none⟩ = some (.slice p ts.len c) := hc1 3 _ rfl
  have A2 := Lib.hid (hat.below hB2)
  go_enter Try.func36, Try.ntmps36
  go_wp2_with fail
  rw [← hW2]
  have BW := Lib.hid hB2
  have Z := Lib.hid hW2
  clear hB2 hc1 hW2
  refine (rdepth_any _ ts (Nat.lt_succ_self _) hbig hok k s n _ p c A2.out).mono ?_
  rintro e w' ⟨rfl, hB⟩
  have a0' := (hB.cell (p := ⟨w.heap.size, 0, none⟩) (by rw [hsz2]; simp)).trans a0
  have a1' := (hB.cell (p := ⟨w.heap.size, 1, none⟩) (by rw [hsz2]; simp)).trans a1
  have a2' := (hB.cell (p := ⟨w.heap.size, 2, none⟩) (by rw [hsz2]; simp)).trans a2
  have a3' := (hB.cell (p := ⟨w.heap.size, 3, none⟩) (by rw [hsz2]; simp)).trans a3
  have A3 := Lib.hid (A2.out.below hB)
  have B := Lib.hid (BW.out.trans (hB.mono BW.out.size))
  clear hB a0 a1 a2 a3
  by_cases hd : ((depthL ts + 1 : Nat) : Int) ≤ 64
  · have G : Hid (goodB 64 k s n ts = (shapeL ts && headB k s n ts.len)) := Lib.hid (by
      have : decide (depthL ts + 1 ≤ 64) = true := decide_eq_true (by omega)
      rw [goodB, this, Bool.true_and])
    go_wp2_with fail
    refine (rshape_any _ ts (Nat.lt_succ_self _) hbig hok k s n _ p c hs A3.out).mono ?_
    rintro e w'' ⟨rfl, hB⟩
    have B' := Lib.hid (B.out.trans (hB.mono B.out.size))
    clear hB a0' a1' a2' a3'
    go_wp2
    go_ret
    exact ⟨by rw [G.out]; rfl, B'.out⟩
  · have G : Hid (goodB 64 k s n ts = false) := Lib.hid (by
      have : decide (depthL ts + 1 ≤ 64) = false := decide_eq_false (by omega)
      rw [goodB, this, Bool.false_and])
    go_wp2
    go_ret
    exact ⟨by rw [G.out]; rfl, B.out⟩

end Go.Proofs.Ytflomdnjabgnaaa
