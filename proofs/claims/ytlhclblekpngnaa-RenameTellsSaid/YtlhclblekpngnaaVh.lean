/-
  Layer 5: Shift.
-/
import Derived.Test.YtlhclblekpngnaaVg
namespace Go.Proofs.Ytlhclblekpngnaa
open Go.RowKit

def stepS (m : Int) : Unit → Int → Int × Unit := fun _ n => (wrap64 (n + m), ())

theorem nm_shift (m : Int) (NB B0 Bn : Nat) (h : NB < Bn) : Nm (stepS m) (fun _ => 0) 85 NB (fun _ W => W.cell? ⟨NB, 0, none⟩ = some (.int .i64 m)) (fun b => b = NB) B0 Bn where
  own := fun b hb => by rw [hb]; exact h
  stay := fun _ W W' hc hk _ => (World.cell?_of_block (a := ⟨NB, 0, none⟩) (hk NB rfl)).trans hc
  grow := fun _ _ => by omega
  fits := fun _ _ n _ _ _ => i64_of_wf (wrap64_wf (n + m))
  call := fun _ W n hc _ _ _ => (shift1_any n m NB W hc).mono fun e w' ⟨he, hw⟩ => by
    subst hw
    exact ⟨he, hc, Nat.le_refl _, Below.refl _ _, fun _ _ _ => rfl⟩

/-- a number of a term, shifted if the term is a variable -/
def shN (m k n : Int) : Int := if (k == 1) = true then wrap64 (n + m) else n

set_option maxRecDepth 100000 in
set_option maxHeartbeats 1000000 in
theorem shift_any (ts : Ts) (m : Int) (hbig : ts.size ≤ 800000) (k : Int) (s : ByteArray) (n : Int) (w : World) (p : Option Addr) (c : Nat) (hok : Ts.ok (.cons k s n p c ts .nil)) (hat : Ts.At w p ts) :
    Calls Try.prog 52 #[.agg #[.int .u8 k, .string s, .int .i64 n, .slice p ts.len c], .int .i64 m] w fun e w' =>
      ∃ us q d, e = .returned (tv k s (shN m k n) q us.len d) ∧ Ts.AtB w.heap.size w' q us ∧ Ts.twin us (renT (stepS m) ts ()).1 ∧ Ts.ok (.cons k s (shN m k n) q d us .nil) ∧ Below w.heap.size w w' := by
  have OK := Lib.hid hok
  have AT := Lib.hid hat
  clear hok hat
  go_enter Try.func52, Try.ntmps52
  have hon := (OK.out).2.2.1
  go_wp2_with fail
  obtain ⟨W1, hW1, hs1, hB1, hc1, hf1⟩ := alloc_new w #[Value.int IntKind.u8 k, Value.string s, Value.int IntKind.i64 n, Value.slice p ts.len c] 24
  rw [← hW1]
  obtain ⟨W2, hW2, hs2, hB2, hc2, hf2⟩ := alloc_new W1 #[Value.int IntKind.i64 m] 2
  rw [← hW2]
  obtain ⟨W3, hW3, hs3, hB3, hc3, hf3⟩ := alloc_new W2 #[Value.int IntKind.u8 0, Value.string { data := #[] }, Value.int IntKind.i64 0, Value.slice none 0 0] 24
  rw [← hW3]
  obtain ⟨W4, hW4, hs4, hB4, hc4, hf4⟩ := alloc_new W3 #[Value.int IntKind.u8 k, Value.string s, Value.int IntKind.i64 n, Value.slice p ts.len c] 24
  rw [← hW4]
  have e1 : w.heap.size + 1 = W1.heap.size := hs1.symm
  have e2 : w.heap.size + 1 + 1 = W2.heap.size := by omega
  have e3 : w.heap.size + 1 + 1 + 1 = W3.heap.size := by omega
  have hB14 : Below w.heap.size w W4 := ((hB1.trans (hB2.mono (by omega))).trans (hB3.mono (by omega))).trans (hB4.mono (by omega))
  have hl4 : Ts.At W4 (some ⟨W3.heap.size, 0, none⟩) (.cons k s n p c ts .nil) := lies_one rfl hc4 (AT.out.below hB14)
  have hnb : W4.cell? ⟨w.heap.size + 1, 0, none⟩ = some (.int .i64 m) := by
    rw [e1]
    exact ((stays hB4).1 _ _ (by omega)).trans (((stays hB3).1 _ _ (by omega)).trans (hc2 0 _ rfl))
  have hres : ∀ i u, (#[Value.int IntKind.u8 0, Value.string { data := #[] }, Value.int IntKind.i64 0, Value.slice none 0 0] : Array Value)[i]? = some u → W4.cell? ⟨w.heap.size + 1 + 1, i, none⟩ = some u := fun i u h => by
    rw [e2]
    exact ((stays hB4).1 _ _ (by omega)).trans (hc3 i u h)
  have hrf : ∀ i, W4.frozen? ⟨w.heap.size + 1 + 1, i, none⟩ = false := fun i => by
    rw [e2]
    exact ((stays hB4).2 _ _ (by omega)).trans (hf3 i)
  have Z := Lib.hid (And.intro hW1 (And.intro hW2 (And.intro hW3 hW4)))
  have BW := Lib.hid hB14
  have RES := Lib.hid hres
  have RF := Lib.hid hrf
  rw [e3]
  clear hW1 hW2 hW3 hW4 hc1 hc2 hc3 hc4 hf1 hf2 hf3 hf4 hB1 hB2 hB3 hB4 hB14 hres hrf
  refine (renamed_shift (.cons k s n p c ts .nil) (by simp [Ts.size]; omega) OK.out () W4 (nm_shift m (w.heap.size + 1) W4.heap.size W4.heap.size (by omega)) _ 1 hl4.atP (Nat.le_refl _) hnb (by simp [Ts.size]; omega)).mono ?_
  rintro e w5 ⟨us, q, rfl, hat5, htw5, hok5, hq5, _, hsz5, hB5, hold5⟩
  cases us with
  | nil => exact htw5.elim
  | cons k' s' n' q' c' us' r' =>
    simp only [renT] at htw5
    obtain ⟨rfl, rfl, hn', h1, h2⟩ := htw5
    obtain rfl : r' = .nil := Ts.len_zero (Ts.twin_len _ _ h2)
    have hn2 : n' = shN m k' n := by rw [hn']; unfold shN stepS; split <;> rfl
    have h3 : Ts.twin us' (renT (stepS m) ts ()).1 := by
      have : (if (k' == 1) = true then stepS m () n else (n, ())).2 = () := rfl
      exact h1
    obtain ⟨b, o, hp5, hb5, c0, c1, c2, c3, hk5, _⟩ := hat5
    obtain rfl : q = some ⟨b, o, none⟩ := by rcases hp5 with h | h; cases h; exact h
    have hbox : ∀ i, w5.cell? ⟨w.heap.size + 1 + 1, i, none⟩ = W4.cell? ⟨w.heap.size + 1 + 1, i, none⟩ := fun i => World.cell?_of_block (a := ⟨w.heap.size + 1 + 1, i, none⟩) (hold5 (w.heap.size + 1 + 1) (by omega) (by omega))
    have hboxf : ∀ i, w5.frozen? ⟨w.heap.size + 1 + 1, i, none⟩ = false := fun i => (World.frozen?_of_block (a := ⟨w.heap.size + 1 + 1, i, none⟩) (hold5 (w.heap.size + 1 + 1) (by omega) (by omega))).trans (RF.out i)
    have r0 := (hbox 0).trans (RES.out 0 _ rfl)
    have r1 := (hbox 1).trans (RES.out 1 _ rfl)
    have r2 := (hbox 2).trans (RES.out 2 _ rfl)
    have r3 := (hbox 3).trans (RES.out 3 _ rfl)
    have f0 := hboxf 0
    have f1 := hboxf 1
    have f2 := hboxf 2
    have f3 := hboxf 3
    have B5 : Hid (Below w.heap.size w w5) := Lib.hid (BW.out.trans (hB5.mono BW.out.size))
    have KA := Lib.hid hk5
    have TW := Lib.hid h3
    have N2 := Lib.hid hn2
    have OK5 := Lib.hid hok5
    clear hbox hboxf hB5 hk5 h1 h2 h3 hn2 hn' hok5 hold5 hp5 hl4 hnb
    clear e1 e2 e3
    simp only [Ts.len]
    go_wp2
    refine bodyPost_ret (v := tv k' s' n' q' us'.len c') (by simp [results, Try.results52, go_sem, r0, r1, r2, r3, tv]) rfl ⟨us', q', c', by rw [N2.out], ?_, TW.out, ?_, ?_⟩
    · obtain ⟨bb, ob, h1, h2⟩ := KA.out
      have KB : Ts.AtB W4.heap.size w5 q' us' := ⟨bb, ob, h1, h2⟩
      refine KB.stay (by omega) fun b y hb hlt => ?_
      have hne : b ≠ w.heap.size + 1 + 1 := by omega
      simp [go_sem, hne, Ne.symm hne]
    · rw [← N2.out]; exact OK5.out
    · repeat (first | exact B5.out | refine Below.setCell (p := ⟨w.heap.size + 1 + 1, _, none⟩) ?_ (by simp; omega) _)
end Go.Proofs.Ytlhclblekpngnaa
