/-
  Layer 2: what stands while two structures are made and put into boxes, in whatever order. (Written by gen_xp.py.)
-/
import Derived.Test.YtlhclblekpngnaaXo
import Derived.Test.YtlhclblekpngnaaXf
namespace Go.Proofs.Ytlhclblekpngnaa
open Go.RowKit

/-- a box of its own, with nothing in it yet -/
def ZP (B0 : Nat) (v : Value) (w : World) : Prop := ∃ T, v = .pointer (some ⟨T, 0, none⟩) ∧ B0 ≤ T ∧ T < w.heap.size ∧ (∀ i, w.frozen? ⟨T, i, none⟩ = false) ∧ (∀ i, i < 4 → (w.cell? ⟨T, i, none⟩).isSome = true) ∧ ¬ Marked w T

/-- a box, with a term in it -/
def Full (v u : Value) (w : World) : Prop := ∃ T k s n p len c, v = .pointer (some ⟨T, 0, none⟩) ∧ u = .agg #[.int .u8 k, .string s, .int .i64 n, .slice p len c] ∧ T < w.heap.size ∧
  w.cell? ⟨T, 0, none⟩ = some (.int .u8 k) ∧ w.cell? ⟨T, 1, none⟩ = some (.string s) ∧ w.cell? ⟨T, 2, none⟩ = some (.int .i64 n) ∧ w.cell? ⟨T, 3, none⟩ = some (.slice p len c)

theorem Marked.below {w w' : World} {b : Nat} (hB : Below w.heap.size w w') (hb : b < w.heap.size) : Marked w' b ↔ Marked w b := by
  unfold Marked
  constructor
  · rintro ⟨o, k, h, hk⟩; exact ⟨o, k, by rw [← (stays hB).1 b o hb]; exact h, hk⟩
  · rintro ⟨o, k, h, hk⟩; exact ⟨o, k, by rw [(stays hB).1 b o hb]; exact h, hk⟩

theorem ZP.below {B0 : Nat} {v : Value} {w w' : World} (h : ZP B0 v w) (hB : Below w.heap.size w w') : ZP B0 v w' := by
  obtain ⟨T, h1, h2, h3, h4, h5, h6⟩ := h
  exact ⟨T, h1, h2, Nat.lt_of_lt_of_le h3 hB.size, fun i => ((stays hB).2 _ _ h3).trans (h4 i), fun i hi => by rw [(stays hB).1 _ _ h3]; exact h5 i hi, fun h => h6 ((Marked.below hB h3).1 h)⟩

theorem Full.below {v u : Value} {w w' : World} (h : Full v u w) (hB : Below w.heap.size w w') : Full v u w' := by
  obtain ⟨T, k, s, n, p, len, c, h1, h2, h3, h4, h5, h6, h7⟩ := h
  exact ⟨T, k, s, n, p, len, c, h1, h2, Nat.lt_of_lt_of_le h3 hB.size, ((stays hB).1 _ _ h3).trans h4, ((stays hB).1 _ _ h3).trans h5, ((stays hB).1 _ _ h3).trans h6, ((stays hB).1 _ _ h3).trans h7⟩

structure G3 (Ws : World) (nm va vb : Value) (Pa Pb Ra Rb : Value → World → Prop) (L : Nat → Bool) (f : Nat → Value) (W : World) : Prop where
  B : Below Ws.heap.size Ws W
  f0 : L 0 = true → f 0 = nm
  f1 : L 1 = true → f 1 = va
  f2 : L 2 = true → L 3 = false → Pa (f 2) W
  f3 : L 3 = true → Ra (f 3) W
  f4 : L 4 = true → f 4 = nm
  f5 : L 5 = true → f 5 = vb
  f6 : L 6 = true → L 7 = false → Pb (f 6) W
  f7 : L 7 = true → Rb (f 7) W
  f8 : L 8 = true → L 10 = false → ZP Ws.heap.size (f 8) W
  f9 : L 9 = true → L 11 = false → ZP Ws.heap.size (f 9) W
  ne : L 8 = true → L 9 = true → f 8 ≠ f 9
  w10 : L 10 = true → L 8 = true ∧ L 3 = true ∧ L 9 = true ∧ L 7 = true ∧ Full (f 8) (f 3) W
  w11 : L 11 = true → L 10 = true ∧ Full (f 9) (f 7) W

theorem G3.keep {Ws : World} {nm va vb : Value} {Pa Pb Ra Rb : Value → World → Prop} {L : Nat → Bool} {f : Nat → Value} {W W' : World} (sPa : Stable Pa) (sPb : Stable Pb) (sRa : Stable Ra) (sRb : Stable Rb)
    (h : G3 Ws nm va vb Pa Pb Ra Rb L f W) (hB : Below W.heap.size W W') : G3 Ws nm va vb Pa Pb Ra Rb L f W' :=
  ⟨h.B.trans (hB.mono h.B.size), h.f0, h.f1, fun a b => sPa _ _ _ (h.f2 a b) hB, fun a => sRa _ _ _ (h.f3 a) hB, h.f4, h.f5, fun a b => sPb _ _ _ (h.f6 a b) hB, fun a => sRb _ _ _ (h.f7 a) hB, fun a b => (h.f8 a b).below hB, fun a b => (h.f9 a b).below hB, h.ne,
    fun a => ⟨(h.w10 a).1, (h.w10 a).2.1, (h.w10 a).2.2.1, (h.w10 a).2.2.2.1, (h.w10 a).2.2.2.2.below hB⟩, fun a => ⟨(h.w11 a).1, (h.w11 a).2.below hB⟩⟩

theorem no {b : Bool} {p : Prop} (h : b = true) (h' : b = false) : p := by rw [h] at h'; cases h'

section
variable {Ws : World} {nm va vb : Value} {Pa Pb Ra Rb : Value → World → Prop} {L : Nat → Bool} {f : Nat → Value} {W : World}
theorem G3.set0 {v : Value} (h : G3 Ws nm va vb Pa Pb Ra Rb L f W) (hi : L 0 = false) (hv : v = nm) : G3 Ws nm va vb Pa Pb Ra Rb (updL L 0) (upd f 0 v) W :=
  ⟨h.B, fun _ => hv, h.f1, h.f2, h.f3, h.f4, h.f5, h.f6, h.f7, h.f8, h.f9, h.ne, h.w10, h.w11⟩

theorem G3.set1 {v : Value} (h : G3 Ws nm va vb Pa Pb Ra Rb L f W) (hi : L 1 = false) (hv : v = va) : G3 Ws nm va vb Pa Pb Ra Rb (updL L 1) (upd f 1 v) W :=
  ⟨h.B, h.f0, fun _ => hv, h.f2, h.f3, h.f4, h.f5, h.f6, h.f7, h.f8, h.f9, h.ne, h.w10, h.w11⟩

theorem G3.set2 {v : Value} (h : G3 Ws nm va vb Pa Pb Ra Rb L f W) (hi : L 2 = false) (hv : Pa v W) : G3 Ws nm va vb Pa Pb Ra Rb (updL L 2) (upd f 2 v) W :=
  ⟨h.B, h.f0, h.f1, fun _ _ => hv, h.f3, h.f4, h.f5, h.f6, h.f7, h.f8, h.f9, h.ne, h.w10, h.w11⟩

theorem G3.set3 {v : Value} (h : G3 Ws nm va vb Pa Pb Ra Rb L f W) (hi : L 3 = false) (hv : Ra v W) : G3 Ws nm va vb Pa Pb Ra Rb (updL L 3) (upd f 3 v) W :=
  ⟨h.B, h.f0, h.f1, fun _ b => no rfl b, fun _ => hv, h.f4, h.f5, h.f6, h.f7, h.f8, h.f9, h.ne, fun a => no (h.w10 a).2.1 hi, h.w11⟩

theorem G3.set4 {v : Value} (h : G3 Ws nm va vb Pa Pb Ra Rb L f W) (hi : L 4 = false) (hv : v = nm) : G3 Ws nm va vb Pa Pb Ra Rb (updL L 4) (upd f 4 v) W :=
  ⟨h.B, h.f0, h.f1, h.f2, h.f3, fun _ => hv, h.f5, h.f6, h.f7, h.f8, h.f9, h.ne, h.w10, h.w11⟩

theorem G3.set5 {v : Value} (h : G3 Ws nm va vb Pa Pb Ra Rb L f W) (hi : L 5 = false) (hv : v = vb) : G3 Ws nm va vb Pa Pb Ra Rb (updL L 5) (upd f 5 v) W :=
  ⟨h.B, h.f0, h.f1, h.f2, h.f3, h.f4, fun _ => hv, h.f6, h.f7, h.f8, h.f9, h.ne, h.w10, h.w11⟩

theorem G3.set6 {v : Value} (h : G3 Ws nm va vb Pa Pb Ra Rb L f W) (hi : L 6 = false) (hv : Pb v W) : G3 Ws nm va vb Pa Pb Ra Rb (updL L 6) (upd f 6 v) W :=
  ⟨h.B, h.f0, h.f1, h.f2, h.f3, h.f4, h.f5, fun _ _ => hv, h.f7, h.f8, h.f9, h.ne, h.w10, h.w11⟩

theorem G3.set7 {v : Value} (h : G3 Ws nm va vb Pa Pb Ra Rb L f W) (hi : L 7 = false) (hv : Rb v W) : G3 Ws nm va vb Pa Pb Ra Rb (updL L 7) (upd f 7 v) W :=
  ⟨h.B, h.f0, h.f1, h.f2, h.f3, h.f4, h.f5, fun _ b => no rfl b, fun _ => hv, h.f8, h.f9, h.ne, fun a => no (h.w10 a).2.2.2.1 hi, fun a => no (h.w10 (h.w11 a).1).2.2.2.1 hi⟩

theorem G3.set8 {v : Value} (h : G3 Ws nm va vb Pa Pb Ra Rb L f W) (hi : L 8 = false) (hv : ZP Ws.heap.size v W) (hn : L 9 = true → v ≠ f 9) : G3 Ws nm va vb Pa Pb Ra Rb (updL L 8) (upd f 8 v) W :=
  ⟨h.B, h.f0, h.f1, h.f2, h.f3, h.f4, h.f5, h.f6, h.f7, fun _ _ => hv, h.f9, fun _ b => hn b, fun a => no (h.w10 a).1 hi, h.w11⟩

theorem G3.set9 {v : Value} (h : G3 Ws nm va vb Pa Pb Ra Rb L f W) (hi : L 9 = false) (hv : ZP Ws.heap.size v W) (hn : L 8 = true → f 8 ≠ v) : G3 Ws nm va vb Pa Pb Ra Rb (updL L 9) (upd f 9 v) W :=
  ⟨h.B, h.f0, h.f1, h.f2, h.f3, h.f4, h.f5, h.f6, h.f7, h.f8, fun _ _ => hv, fun a _ => hn a, fun a => no (h.w10 a).2.2.1 hi, fun a => no (h.w10 (h.w11 a).1).2.2.1 hi⟩

end

/-- a fresh box is empty, and no other -/
theorem zp_alloc {Ws W : World} {A : Array Value} {ty : TypeId} (hB : Below Ws.heap.size Ws W) (hA : ∃ s n p c d, A = #[.int .u8 0, .string s, .int .i64 n, .slice p c d]) : ZP Ws.heap.size (.pointer (some ⟨W.heap.size, 0, none⟩)) (W.alloc (.cells A ty)) := by
  obtain ⟨V, hV, hs, hb, hc, hf⟩ := alloc_new W A ty
  obtain ⟨s, n, p, c, d, rfl⟩ := hA
  rw [← hV]
  refine ⟨_, rfl, hB.size, by omega, hf, fun i hi => ?_, ?_⟩
  · obtain rfl | rfl | rfl | rfl : i = 0 ∨ i = 1 ∨ i = 2 ∨ i = 3 := by omega
    · rw [hc 0 _ rfl]; rfl
    · rw [hc 1 _ rfl]; rfl
    · rw [hc 2 _ rfl]; rfl
    · rw [hc 3 _ rfl]; rfl
  · rintro ⟨o, k, h, hk⟩
    rw [hV, _root_.Go.Joins.cell_alloc_mark_at W _ ty _ _ o rfl] at h
    obtain rfl | rfl | rfl | rfl | ho : o = 0 ∨ o = 1 ∨ o = 2 ∨ o = 3 ∨ 4 ≤ o := by omega
    · have h2 := Option.some.inj h
      injection h2 with _ h3
      exact hk h3.symm
    · cases Option.some.inj h
    · cases Option.some.inj h
    · cases Option.some.inj h
    · rw [Array.getElem?_eq_none (by simpa using ho)] at h
      cases h

theorem zp_other {B0 : Nat} {v : Value} {W : World} (h : ZP B0 v W) : v ≠ .pointer (some ⟨W.heap.size, 0, none⟩) := by
  obtain ⟨T, rfl, _, h3, _⟩ := h
  intro e
  injection e with e
  injection e with e
  injection e with e
  omega

theorem full_other {v u : Value} {W : World} (h : Full v u W) : v ≠ .pointer (some ⟨W.heap.size, 0, none⟩) := by
  obtain ⟨T, k, s, n, p, len, c, rfl, _, h3, _⟩ := h
  intro e
  injection e with e
  injection e with e
  injection e with e
  omega

/-- a term put into an empty box -/
theorem box_store {B0 : Nat} {v : Value} {W : World} {k : Int} {s : ByteArray} {n : Int} {p : Option Addr} {len c : Nat} (h : ZP B0 v W) :
    ∃ T, v = .pointer (some ⟨T, 0, none⟩) ∧ B0 ≤ T ∧ (∀ i, W.frozen? ⟨T, i, none⟩ = false) ∧ ∃ W', W' = ((((W.setCell ⟨T, 0, none⟩ (.int .u8 k)).setCell ⟨T, 1, none⟩ (.string s)).setCell ⟨T, 2, none⟩ (.int .i64 n)).setCell ⟨T, 3, none⟩ (.slice p len c)) ∧
      Full v (.agg #[.int .u8 k, .string s, .int .i64 n, .slice p len c]) W' ∧ W'.heap.size = W.heap.size ∧ (∀ b y, b ≠ T → W'.cell? ⟨b, y, none⟩ = W.cell? ⟨b, y, none⟩) ∧ (∀ b y, W'.frozen? ⟨b, y, none⟩ = W.frozen? ⟨b, y, none⟩) ∧ (∀ b, Marked W b → b ≠ T) ∧ (∀ (w : World), Below B0 w W → Below B0 w W') := by
  obtain ⟨T, rfl, h2, h3, h4, h5, h6⟩ := h
  obtain ⟨W', hW, hs, ho, _, c0, c1, c2, c3, hf, hb⟩ := put4 W T 0 (.int .u8 k) (.string s) (.int .i64 n) (.slice p len c) (h5 0 (by omega)) (h5 1 (by omega)) (h5 2 (by omega)) (h5 3 (by omega))
  exact ⟨T, rfl, h2, h4, W', hW, ⟨T, k, s, n, p, len, c, rfl, rfl, by omega, c0, c1, c2, c3⟩, hs, ho, hf, fun b hm e => h6 (e ▸ hm), fun w => hb B0 w h2⟩

theorem ZP.cells {B0 T : Nat} {W : World} (h : ZP B0 (.pointer (some ⟨T, 0, none⟩)) W) : ∃ y0 y1 y2 y3, W.cell? ⟨T, 0, none⟩ = some y0 ∧ W.cell? ⟨T, 1, none⟩ = some y1 ∧ W.cell? ⟨T, 2, none⟩ = some y2 ∧ W.cell? ⟨T, 3, none⟩ = some y3 := by
  obtain ⟨T', hT, _, _, _, h5, _⟩ := h
  injection hT with hT
  injection hT with hT
  injection hT with hT
  subst hT
  obtain ⟨y0, h0⟩ := Option.isSome_iff_exists.1 (h5 0 (by omega))
  obtain ⟨y1, h1⟩ := Option.isSome_iff_exists.1 (h5 1 (by omega))
  obtain ⟨y2, h2⟩ := Option.isSome_iff_exists.1 (h5 2 (by omega))
  obtain ⟨y3, h3⟩ := Option.isSome_iff_exists.1 (h5 3 (by omega))
  exact ⟨y0, y1, y2, y3, h0, h1, h2, h3⟩

theorem ZP.store {B0 : Nat} {v : Value} {W W' : World} {T : Nat} (h : ZP B0 v W) (hne : v ≠ .pointer (some ⟨T, 0, none⟩)) (hs : W'.heap.size = W.heap.size) (ho : ∀ b y, b ≠ T → W'.cell? ⟨b, y, none⟩ = W.cell? ⟨b, y, none⟩) (hf : ∀ b y, W'.frozen? ⟨b, y, none⟩ = W.frozen? ⟨b, y, none⟩) : ZP B0 v W' := by
  obtain ⟨T', rfl, h2, h3, h4, h5, h6⟩ := h
  have hT : T' ≠ T := fun e => hne (by rw [e])
  exact ⟨T', rfl, h2, by omega, fun i => (hf _ _).trans (h4 i), fun i hi => by rw [ho _ _ hT]; exact h5 i hi, fun ⟨o, k, h, hk⟩ => h6 ⟨o, k, by rw [← ho _ _ hT]; exact h, hk⟩⟩

theorem Full.store {v u : Value} {W W' : World} {T : Nat} (h : Full v u W) (hne : v ≠ .pointer (some ⟨T, 0, none⟩)) (hs : W'.heap.size = W.heap.size) (ho : ∀ b y, b ≠ T → W'.cell? ⟨b, y, none⟩ = W.cell? ⟨b, y, none⟩) : Full v u W' := by
  obtain ⟨T', k, s, n, p, len, c, rfl, h2, h3, c0, c1, c2, c3⟩ := h
  have hT : T' ≠ T := fun e => hne (by rw [e])
  exact ⟨T', k, s, n, p, len, c, rfl, h2, by omega, (ho _ _ hT).trans c0, (ho _ _ hT).trans c1, (ho _ _ hT).trans c2, (ho _ _ hT).trans c3⟩

/-- a structure that was made of a list -/
def FOf (name : ByteArray) (t : Ts) (v : Value) (w : World) : Prop := ∃ us q d, v = tv 4 name 0 q us.len d ∧ Ts.At w q us ∧ Ts.twin us t ∧ Ts.ok (.cons 4 name 0 q d us .nil)

theorem FOf.below {name : ByteArray} {t : Ts} {v : Value} {w w' : World} (h : FOf name t v w) (hB : Below w.heap.size w w') : FOf name t v w' := by
  obtain ⟨us, q, d, h1, h2, h3, h4⟩ := h
  exact ⟨us, q, d, h1, h2.below hB, h3, h4⟩

theorem FOf.store {name : ByteArray} {t : Ts} {v : Value} {W W' : World} {T : Nat} (h : FOf name t v W) (hk : kindsN t) (hm : ∀ b, Marked W b → b ≠ T) (ho : ∀ b y, b ≠ T → W'.cell? ⟨b, y, none⟩ = W.cell? ⟨b, y, none⟩) : FOf name t v W' := by
  obtain ⟨us, q, d, h1, h2, h3, h4⟩ := h
  exact ⟨us, q, d, h1, At_marked (fun b hb y => ho b y (hm b hb)) (kinds_twin h3 hk) h2, h3, h4⟩

end Go.Proofs.Ytlhclblekpngnaa
