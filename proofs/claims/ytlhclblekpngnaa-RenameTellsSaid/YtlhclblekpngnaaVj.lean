/-
  Layer 5: counter, Canon.
-/
import Derived.Test.YtlhclblekpngnaaVi
namespace Go.Proofs.Ytlhclblekpngnaa
open Go.RowKit Go.Maps

set_option maxRecDepth 100000 in
theorem counter_any (w : World) : Calls Try.prog 83 #[] w fun e w' => e = .returned (.func (.func 98) #[] #[.pointer (some ⟨w.heap.size + 1, 0, none⟩)]) ∧ w'.heap.size = w.heap.size + 2 ∧ CI (w.heap.size + 1) w.heap.size [] w' ∧ Below w.heap.size w w' := by
  have hmm := @run_makeMap Try.prog
  go_enter Try.func83, Try.ntmps83
  go_wp2
  clear hmm
  go_ret
  refine ⟨rfl, by simp, ⟨?_, .map [], ?_, rfl, fun n => rfl, fun i h => by simp at h⟩, below2 _ _ _⟩
  · rw [_root_.Go.Joins.cell_alloc_mark_at _ _ _ _ _ 0 (by simp)]; rfl
  · have := World.ownsMap_made (H := Unit) w Try.prog 2 (plainElem Try.prog 2)
    exact this.alloc _

set_option maxRecDepth 100000 in
theorem canon_any (ts : Ts) (hbig : ts.size ≤ 900000) (hok : ts.ok) (w : World) (p : Option Addr) (c : Nat) (hat : Ts.At w p ts) :
    Calls Try.prog 49 #[.slice p ts.len c] w fun e w' => ∃ us q, e = .returned (.slice q us.len us.len) ∧ Ts.AtB w.heap.size w' q us ∧ Ts.twin us (renT stepC ts []).1 ∧ us.ok ∧ (q = none → us.len = 0) ∧ Below w.heap.size w w' := by
  have OK := Lib.hid hok
  have AT := Lib.hid hat
  clear hok hat
  go_enter Try.func49, Try.ntmps49
  go_wp2_with fail
  refine (counter_any w).mono ?_
  rintro e w1 ⟨rfl, hs1, hci, hB1⟩
  have hat1 := AT.out.atP.stay (w' := w1) fun b hb _ => hB1.block b hb
  have CI1 := Lib.hid hci
  have A1 := Lib.hid hat1
  have B1 := Lib.hid hB1
  clear hci hat1 hB1
  go_wp2_with fail
  refine (renamed_counter ts hbig OK.out [] w1 (nm_counter (w.heap.size + 1) w.heap.size w.heap.size w1.heap.size (by omega) (by omega) (by omega) (Nat.le_refl _)) p c A1.out (by omega) CI1.out (by simp; omega)).mono ?_
  rintro e w2 ⟨us, q, rfl, h1, h2, h3, h4, _, h5, h6, _⟩
  have H1 := Lib.hid h1
  have H2 := Lib.hid h2
  have H3 := Lib.hid h3
  have H6 := Lib.hid h6
  clear h1 h2 h3 h6
  go_wp2
  go_ret
  exact ⟨us, q, rfl, H1.out.stay (by omega) fun _ _ _ _ => rfl, H2.out, H3.out, h4, B1.out.trans H6.out⟩
end Go.Proofs.Ytlhclblekpngnaa
