/-
  Layer 5: renamed, by each of the two names. (Written by gen_vg.py.)
-/
import Derived.Test.YtlhclblekpngnaaVe
import Derived.Test.YtlhclblekpngnaaVf
namespace Go.Proofs.Ytlhclblekpngnaa
open Go.RowKit

set_option maxRecDepth 100000 in
set_option maxHeartbeats 1000000 in
theorem renamed_shift {σ : Type} {step : σ → Int → Int × σ} {cnt : σ → Nat} {NB : Nat} {NI : σ → World → Prop} {NS : Nat → Prop} {B0 : Nat} (ts : Ts) (hbig : ts.size ≤ 900000) (hok : ts.ok) (st : σ) (w : World) (N : Nm step cnt 85 NB NI NS B0 w.heap.size) (p : Option Addr) (c : Nat)
    (hat : Ts.AtP (· < B0) w p ts) (hB0 : B0 ≤ w.heap.size) (hni : NI st w) (hcnt : cnt st + ts.size ≤ 1000000) :
    Calls Try.prog 82 #[.slice p ts.len c, .func (.func 85) #[] #[.pointer (some ⟨NB, 0, none⟩)]] w fun e w' =>
      ∃ us q, e = .returned (.slice q us.len us.len) ∧ Ts.AtB w.heap.size w' q us ∧ Ts.twin us (renT step ts st).1 ∧ us.ok ∧ (q = none → us.len = 0) ∧ NI (renT step ts st).2 w' ∧ w.heap.size ≤ w'.heap.size ∧ Below B0 w w' ∧ (∀ b, b < w.heap.size → ¬ NS b → w'.heap[b]? = w.heap[b]?) := by
  have hls := Ts.len_size ts
  have hatL : Ts.At w p ts := by
    have h6 : ∀ (us : Ts) {y z : Nat}, us.liesP (· < B0) w y z → us.lies w y z := by
      intro us
      induction us with
      | nil => intro _ _ _; trivial
      | cons k s n p c kids rest ih1 ih2 =>
        intro y z ⟨_, g1, g2, g3, g4, ⟨b2, o2, g5, g6⟩, g7⟩
        exact ⟨g1, g2, g3, g4, ⟨b2, o2, g5, ih1 g6⟩, ih2 g7⟩
    obtain ⟨b, o, h1, h2⟩ := hat
    exact ⟨b, o, h1, h6 ts h2⟩
  have OK := Lib.hid hok
  have AT := Lib.hid hat
  have ATL := Lib.hid hatL
  have NI0 := Lib.hid hni
  have hmk := make_terms ts.size (by omega)
  clear hok hat hatL hni
  go_enter Try.func82, Try.ntmps82
  go_wp2_with fail
  refine (rnodes_any _ ts (Nat.lt_succ_self _) (by omega) OK.out w p c ATL.out).mono ?_
  rintro e w1 ⟨rfl, hB1⟩
  have hs1 := hB1.size
  go_wp2_with fail
  clear hmk
  obtain ⟨W2, hW2, hs2, hB2, hc2, hf2⟩ := alloc_new w1 (zeroCells ts.size) 24
  rw [← hW2]
  obtain ⟨W3, hW3, hs3, hB3, hc3, hf3⟩ := alloc_new W2 #[Value.slice (some { block := w1.heap.size, off := 0 }) ts.size ts.size] 22
  rw [← hW3]
  have hroom : Room (w1.heap.size + 1) w1.heap.size 0 ts.size W3 := by
    refine ⟨⟨0, by rw [← hs2]; exact hc3 0 _ rfl, .inr rfl⟩, by rw [← hs2]; exact hf3 0, fun y _ h2 => ?_, fun y _ h2 => ?_⟩
    · rw [(stays hB3).1 _ _ (by omega), hc2 y _ (Array.getElem?_eq_getElem (by rw [size_zeroCells]; omega))]; rfl
    · rw [(stays hB3).2 _ _ (by omega)]; exact hf2 y
  have hB13 : Below w.heap.size w W3 := (hB1.trans (hB2.mono hs1)).trans (hB3.mono (by omega))
  have hat3 := AT.out.stay (w' := W3) fun b hb _ => hB13.block b (by omega)
  have hni3 : NI st W3 := N.stay _ _ _ NI0.out (fun b hb => hB13.block b (N.own b hb)) (by omega)
  have hNS1 : ¬ NS (w1.heap.size + 1) := fun h => by have := N.own _ h; omega
  have hNS0 : ¬ NS w1.heap.size := fun h => by have := N.own _ h; omega
  refine (renIn_shift (N.mono (Bn' := W3.heap.size) (by omega)) (RM := w1.heap.size + 1) (RB := w1.heap.size) ⟨by omega, by omega, hNS1⟩ ⟨by omega, by omega, hNS0⟩ (by omega) _ ts (Nat.lt_succ_self _) hbig OK.out st W3 p c 0 ts.size hat3 (Nat.le_refl _) (by omega) hroom hni3 hcnt (Nat.le_refl _)).mono ?_
  rintro e w4 ⟨us, q, rfl, hat4, htw4, hok4, hq4, _, hni4, hk4, _, _⟩
  have A4 := Lib.hid (hat4.atB (B := w.heap.size) fun b y hb => by have := hb.1; omega)
  have T4 := Lib.hid htw4
  have O4 := Lib.hid hok4
  have N4 := Lib.hid hni4
  have K4 := Lib.hid hk4
  have B13 := Lib.hid hB13
  have Z2 := Lib.hid hW2
  have Z3 := Lib.hid hW3
  clear hat4 htw4 hok4 hni4 hk4 hB13 hroom hat3 hni3 hW2 hW3 hc2 hf2 hc3 hf3
  go_wp2
  go_ret
  have hks := K4.out.size
  exact ⟨us, q, rfl, A4.out, T4.out, O4.out, hq4, N4.out, by omega, (B13.out.mono hB0).trans K4.out.B, fun b hb hns => (K4.out.old b (by omega) (by omega) (by omega) hns).trans (B13.out.block b hb)⟩

set_option maxRecDepth 100000 in
set_option maxHeartbeats 1000000 in
theorem renamed_counter {σ : Type} {step : σ → Int → Int × σ} {cnt : σ → Nat} {NB : Nat} {NI : σ → World → Prop} {NS : Nat → Prop} {B0 : Nat} (ts : Ts) (hbig : ts.size ≤ 900000) (hok : ts.ok) (st : σ) (w : World) (N : Nm step cnt 98 NB NI NS B0 w.heap.size) (p : Option Addr) (c : Nat)
    (hat : Ts.AtP (· < B0) w p ts) (hB0 : B0 ≤ w.heap.size) (hni : NI st w) (hcnt : cnt st + ts.size ≤ 1000000) :
    Calls Try.prog 82 #[.slice p ts.len c, .func (.func 98) #[] #[.pointer (some ⟨NB, 0, none⟩)]] w fun e w' =>
      ∃ us q, e = .returned (.slice q us.len us.len) ∧ Ts.AtB w.heap.size w' q us ∧ Ts.twin us (renT step ts st).1 ∧ us.ok ∧ (q = none → us.len = 0) ∧ NI (renT step ts st).2 w' ∧ w.heap.size ≤ w'.heap.size ∧ Below B0 w w' ∧ (∀ b, b < w.heap.size → ¬ NS b → w'.heap[b]? = w.heap[b]?) := by
  have hls := Ts.len_size ts
  have hatL : Ts.At w p ts := by
    have h6 : ∀ (us : Ts) {y z : Nat}, us.liesP (· < B0) w y z → us.lies w y z := by
      intro us
      induction us with
      | nil => intro _ _ _; trivial
      | cons k s n p c kids rest ih1 ih2 =>
        intro y z ⟨_, g1, g2, g3, g4, ⟨b2, o2, g5, g6⟩, g7⟩
        exact ⟨g1, g2, g3, g4, ⟨b2, o2, g5, ih1 g6⟩, ih2 g7⟩
    obtain ⟨b, o, h1, h2⟩ := hat
    exact ⟨b, o, h1, h6 ts h2⟩
  have OK := Lib.hid hok
  have AT := Lib.hid hat
  have ATL := Lib.hid hatL
  have NI0 := Lib.hid hni
  have hmk := make_terms ts.size (by omega)
  clear hok hat hatL hni
  go_enter Try.func82, Try.ntmps82
  go_wp2_with fail
  refine (rnodes_any _ ts (Nat.lt_succ_self _) (by omega) OK.out w p c ATL.out).mono ?_
  rintro e w1 ⟨rfl, hB1⟩
  have hs1 := hB1.size
  go_wp2_with fail
  clear hmk
  obtain ⟨W2, hW2, hs2, hB2, hc2, hf2⟩ := alloc_new w1 (zeroCells ts.size) 24
  rw [← hW2]
  obtain ⟨W3, hW3, hs3, hB3, hc3, hf3⟩ := alloc_new W2 #[Value.slice (some { block := w1.heap.size, off := 0 }) ts.size ts.size] 22
  rw [← hW3]
  have hroom : Room (w1.heap.size + 1) w1.heap.size 0 ts.size W3 := by
    refine ⟨⟨0, by rw [← hs2]; exact hc3 0 _ rfl, .inr rfl⟩, by rw [← hs2]; exact hf3 0, fun y _ h2 => ?_, fun y _ h2 => ?_⟩
    · rw [(stays hB3).1 _ _ (by omega), hc2 y _ (Array.getElem?_eq_getElem (by rw [size_zeroCells]; omega))]; rfl
    · rw [(stays hB3).2 _ _ (by omega)]; exact hf2 y
  have hB13 : Below w.heap.size w W3 := (hB1.trans (hB2.mono hs1)).trans (hB3.mono (by omega))
  have hat3 := AT.out.stay (w' := W3) fun b hb _ => hB13.block b (by omega)
  have hni3 : NI st W3 := N.stay _ _ _ NI0.out (fun b hb => hB13.block b (N.own b hb)) (by omega)
  have hNS1 : ¬ NS (w1.heap.size + 1) := fun h => by have := N.own _ h; omega
  have hNS0 : ¬ NS w1.heap.size := fun h => by have := N.own _ h; omega
  refine (renIn_counter (N.mono (Bn' := W3.heap.size) (by omega)) (RM := w1.heap.size + 1) (RB := w1.heap.size) ⟨by omega, by omega, hNS1⟩ ⟨by omega, by omega, hNS0⟩ (by omega) _ ts (Nat.lt_succ_self _) hbig OK.out st W3 p c 0 ts.size hat3 (Nat.le_refl _) (by omega) hroom hni3 hcnt (Nat.le_refl _)).mono ?_
  rintro e w4 ⟨us, q, rfl, hat4, htw4, hok4, hq4, _, hni4, hk4, _, _⟩
  have A4 := Lib.hid (hat4.atB (B := w.heap.size) fun b y hb => by have := hb.1; omega)
  have T4 := Lib.hid htw4
  have O4 := Lib.hid hok4
  have N4 := Lib.hid hni4
  have K4 := Lib.hid hk4
  have B13 := Lib.hid hB13
  have Z2 := Lib.hid hW2
  have Z3 := Lib.hid hW3
  clear hat4 htw4 hok4 hni4 hk4 hB13 hroom hat3 hni3 hW2 hW3 hc2 hf2 hc3 hf3
  go_wp2
  go_ret
  have hks := K4.out.size
  exact ⟨us, q, rfl, A4.out, T4.out, O4.out, hq4, N4.out, by omega, (B13.out.mono hB0).trans K4.out.B, fun b hb hns => (K4.out.old b (by omega) (by omega) (by omega) hns).trans (B13.out.block b hb)⟩

end Go.Proofs.Ytlhclblekpngnaa
