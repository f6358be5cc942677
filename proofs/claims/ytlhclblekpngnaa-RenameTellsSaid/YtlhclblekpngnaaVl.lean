/-
  Layer 5: Variants; terms that are known.
-/
import Derived.Test.YtlhclblekpngnaaVk
namespace Go.Proofs.Ytlhclblekpngnaa
open Go.RowKit Go.Maps

set_option maxRecDepth 100000 in
set_option maxHeartbeats 1000000 in
theorem variants_any (ts us : Ts) (hbig : ts.size ≤ 900000) (hbig' : us.size ≤ 900000) (hok : ts.ok) (hok' : us.ok) (w : World) (p q : Option Addr) (c d : Nat) (hat : Ts.At w p ts) (hat' : Ts.At w q us) :
    Calls Try.prog 50 #[.slice p ts.len c, .slice q us.len d] w fun e w' => e = .returned (.bool (varB ts us [] [])) ∧ Below w.heap.size w w' := by
  have OK := Lib.hid hok
  have OK' := Lib.hid hok'
  have AT := Lib.hid hat
  have AT' := Lib.hid hat'
  clear hok hok' hat hat'
  go_enter Try.func50, Try.ntmps50
  go_wp2_with fail
  refine (counter_any w).mono ?_
  rintro e w1 ⟨rfl, hs1, hci1, hB1⟩
  have C1 := Lib.hid hci1
  have B1 := Lib.hid hB1
  have HS1 := Lib.hid hs1
  clear hci1 hB1 hs1
  go_wp2_with fail
  refine (counter_any w1).mono ?_
  rintro e w2 ⟨rfl, hs2, hci2, hB2⟩
  have hs1 := HS1.out
  have hB := B1.out.trans (hB2.mono (by omega))
  have C1' := Lib.hid (C1.out.move (hB2.block _ (by omega)) (hB2.block _ (by omega)))
  have C2 := Lib.hid hci2
  have A1 := Lib.hid (AT.out.atP.stay (w' := w2) fun b hb _ => hB.block b hb)
  have A2 := Lib.hid (AT'.out.atP.stay (w' := w2) fun b hb _ => hB.block b hb)
  have BB := Lib.hid hB
  clear hci2 hB2 hB
  have P : Apart (w.heap.size + 1) w.heap.size (w1.heap.size + 1) w1.heap.size w.heap.size w2.heap.size := ⟨by omega, by omega, by omega, by omega, by omega, by omega, by omega, by omega, by omega⟩
  clear hs1 hs2
  go_wp2_with fail
  refine (variants_rec P _ ts us (Nat.lt_succ_self _) hbig hbig' OK.out OK'.out [] [] w2 p q c d A1.out A2.out C1'.out C2.out (by simp; omega) (by simp; omega) (Nat.le_refl _)).mono ?_
  rintro e w3 ⟨rfl, _, hk⟩
  have K := Lib.hid hk
  clear hk
  go_wp2
  go_ret
  exact ⟨rfl, BB.out.trans K.out.B⟩
end Go.Proofs.Ytlhclblekpngnaa
