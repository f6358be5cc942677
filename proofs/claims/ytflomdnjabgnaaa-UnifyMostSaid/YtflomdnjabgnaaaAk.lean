import Derived.Test.YtflomdnjabgnaaaVc
import Derived.Deep.DeepCutAuto
import Derived.Test.YtflomdnjabgnaaaAe
import Derived.Test.YtflomdnjabgnaaaAb
/-
  Layer 5: lists of terms with other numbers, taken out of a room: what a round does.
-/
namespace Go.Proofs.Ytflomdnjabgnaaa
open Go.RowKit

namespace Ts
theorem liesP_drop {P : Nat → Prop} {w : World} : ∀ (i : Nat) (ts : Ts) {b o : Nat}, ts.liesP P w b o → (ts.drop i).liesP P w b (o + i * 4)
  | 0, _, _, _, h => by simpa [drop] using h
  | _ + 1, .nil, _, _, _ => trivial
  | i + 1, .cons _ _ _ _ _ _ r, b, o, h => by
    have := liesP_drop i r h.2.2.2.2.2.2
    rw [show o + (i + 1) * 4 = o + 4 + i * 4 from by omega]
    exact this

/-- an element of a list that lies in blocks that are allowed -/
theorem elemP {P : Nat → Prop} {w : World} {ts : Ts} {b o j : Nat} (hl : ts.liesP P w b o) (hok : ts.ok) (h : j < ts.len) :
    ∃ (k : Int) (s : ByteArray) (n : Int) (p : Option Addr) (c : Nat) (kids rest : Ts), Hid (ts.drop j = .cons k s n p c kids rest) ∧ El b (o + j * 4) k s n p c kids w ∧ Ts.AtP P w p kids ∧ P b ∧ kids.size + rest.size + 1 ≤ ts.size ∧ Ts.ok (.cons k s n p c kids .nil) := by
  obtain ⟨k, s, n, p, c, kids, rest, hd⟩ := Ts.drop_cons h
  have h1 := liesP_drop j ts hl
  have hokd := Ts.ok_drop j ts hok
  have hsz := Ts.drop_size j ts
  rw [hd] at h1 hokd hsz
  obtain ⟨hP, c0, c1, c2, c3, ⟨b', o', h4, h5⟩, _⟩ := h1
  have h6 : ∀ (us : Ts) {y z : Nat}, us.liesP P w y z → us.lies w y z := by
    intro us
    induction us with
    | nil => intro _ _ _; trivial
    | cons k s n p c kids rest ih1 ih2 =>
      intro y z ⟨_, g1, g2, g3, g4, ⟨b2, o2, g5, g6⟩, g7⟩
      exact ⟨g1, g2, g3, g4, ⟨b2, o2, g5, ih1 g6⟩, ih2 g7⟩
  simp only [Ts.size] at hsz
  exact ⟨k, s, n, p, c, kids, rest, Lib.hid hd, ⟨World.block_lt_of_cell? _ _ c0, c0, c1, c2, c3, ⟨b', o', h4, h6 kids h5⟩⟩, ⟨b', o', h4, h5⟩, hP, hsz, hokd.1, hokd.2.1, hokd.2.2.1, hokd.2.2.2.1, hokd.2.2.2.2.1, hokd.2.2.2.2.2.1, trivial⟩
end Ts

/-- what a call leaves as it was -/
structure Kp (B0 RM RB : Nat) (NS : Nat → Prop) (w w' : World) : Prop where
  size : w.heap.size ≤ w'.heap.size
  B : Below B0 w w'
  old : ∀ b, b < w.heap.size → b ≠ RM → b ≠ RB → ¬ NS b → w'.heap[b]? = w.heap[b]?

theorem Kp.refl {B0 RM RB : Nat} {NS : Nat → Prop} (w : World) : Kp B0 RM RB NS w w := ⟨Nat.le_refl _, Below.refl _ _, fun _ _ _ _ _ => rfl⟩

theorem Kp.trans {B0 RM RB : Nat} {NS : Nat → Prop} {w w1 w2 : World} (h : Kp B0 RM RB NS w w1) (h' : Kp B0 RM RB NS w1 w2) : Kp B0 RM RB NS w w2 :=
  ⟨Nat.le_trans h.size h'.size, h.B.trans h'.B, fun b hb h1 h2 h3 => (h'.old b (Nat.lt_of_lt_of_le hb h.size) h1 h2 h3).trans (h.old b hb h1 h2 h3)⟩

theorem Kp.alloc {B0 RM RB : Nat} {NS : Nat → Prop} {w w1 : World} (h : Kp B0 RM RB NS w w1) (hB : B0 ≤ w1.heap.size) (o : Obj) : Kp B0 RM RB NS w (w1.alloc o) :=
  ⟨Nat.le_trans h.size (by simp), h.B.alloc hB _, fun b hb h1 h2 h3 => (Below.heap_alloc _ _ _ (Nat.lt_of_lt_of_le hb h.size)).trans (h.old b hb h1 h2 h3)⟩

theorem Kp.cell {B0 RM RB : Nat} {NS : Nat → Prop} {w w1 : World} (h : Kp B0 RM RB NS w w1) {b : Nat} (hb : b < w.heap.size) (h1 : b ≠ RM) (h2 : b ≠ RB) (h3 : ¬ NS b) (y : Nat) : w1.cell? ⟨b, y, none⟩ = w.cell? ⟨b, y, none⟩ :=
  World.cell?_of_block (a := ⟨b, y, none⟩) (h.old b hb h1 h2 h3)

theorem Kp.frozen {B0 RM RB : Nat} {NS : Nat → Prop} {w w1 : World} (h : Kp B0 RM RB NS w w1) {b : Nat} (hb : b < w.heap.size) (h1 : b ≠ RM) (h2 : b ≠ RB) (h3 : ¬ NS b) (y : Nat) : w1.frozen? ⟨b, y, none⟩ = w.frozen? ⟨b, y, none⟩ :=
  World.frozen?_of_block (a := ⟨b, y, none⟩) (h.old b hb h1 h2 h3)

/-- a name: what it gives, what it remembers, and where -/
structure Nm {σ : Type} (step : σ → Int → Int × σ) (cnt : σ → Nat) (g NB : Nat) (NI : σ → World → Prop) (NS : Nat → Prop) (B0 Bn : Nat) : Prop where
  own : ∀ b, NS b → b < Bn
  stay : ∀ st W W', NI st W → (∀ b, NS b → W'.heap[b]? = W.heap[b]?) → W.heap.size ≤ W'.heap.size → NI st W'
  grow : ∀ st n, cnt (step st n).2 ≤ cnt st + 1
  fits : ∀ st W n, NI st W → (-9223372036854775808 ≤ n ∧ n ≤ 9223372036854775807) → cnt st < 1000000 → (-9223372036854775808 ≤ (step st n).1 ∧ (step st n).1 ≤ 9223372036854775807)
  call : ∀ st W n, NI st W → cnt st < 1000000 → (-9223372036854775808 ≤ n ∧ n ≤ 9223372036854775807) → Bn ≤ W.heap.size →
    Calls Try.prog g #[.int .i64 n, .pointer (some ⟨NB, 0, none⟩)] W fun e w' => e = .returned (.int .i64 (step st n).1) ∧ NI (step st n).2 w' ∧ W.heap.size ≤ w'.heap.size ∧ Below B0 W w' ∧ ∀ b, b < W.heap.size → ¬ NS b → w'.heap[b]? = W.heap[b]?

theorem put_heap (w' : World) (T R x : Nat) (v v0 v1 v2 v3 : Value) (b : Nat) (h1 : b ≠ T) (h2 : b ≠ R) :
    (((((w'.setCell ⟨T, 3, none⟩ v).setCell ⟨R, x, none⟩ v0).setCell ⟨R, x + 1, none⟩ v1).setCell ⟨R, x + 2, none⟩ v2).setCell ⟨R, x + 3, none⟩ v3).heap[b]? = w'.heap[b]? := by
  rw [Below.heap_setCell _ _ _ _ (by simpa using h2), Below.heap_setCell _ _ _ _ (by simpa using h2), Below.heap_setCell _ _ _ _ (by simpa using h2), Below.heap_setCell _ _ _ _ (by simpa using h2), Below.heap_setCell _ _ _ _ (by simpa using h1)]

theorem Nm.mono {σ : Type} {step : σ → Int → Int × σ} {cnt : σ → Nat} {g NB : Nat} {NI : σ → World → Prop} {NS : Nat → Prop} {B0 Bn Bn' : Nat} (N : Nm step cnt g NB NI NS B0 Bn) (h : Bn ≤ Bn') : Nm step cnt g NB NI NS B0 Bn' :=
  ⟨fun b hb => Nat.lt_of_lt_of_le (N.own b hb) h, N.stay, N.grow, N.fits, fun st W n h1 h2 h3 h4 => N.call st W n h1 h2 h3 (Nat.le_trans h h4)⟩

/-- between two rounds -/
structure RIn {σ : Type} (step : σ → Int → Int × σ) (cnt : σ → Nat) (NI : σ → World → Prop) (NS : Nat → Prop) (B0 RM RB o rem : Nat) (ts R : Ts) (fin : σ) (w wr : World) (st : σ) (j oc rem' : Nat) : Prop where
  kp : Kp B0 RM RB NS w wr
  room : Room RM RB oc rem' wr
  ni : NI st wr
  e1 : oc + rem' * 4 = o + rem * 4
  e2 : oc + ((ts.drop j).size - (ts.drop j).len) * 4 = o + ts.size * 4
  e3 : o + ts.len * 4 ≤ oc
  done : DoneR RB o (o + ts.len * 4) oc wr R j
  row : ∀ y, o ≤ y → y < o + ts.len * 4 → (wr.cell? ⟨RB, y, none⟩).isSome
  frow : ∀ y, wr.frozen? ⟨RB, y, none⟩ = w.frozen? ⟨RB, y, none⟩
  out : ∀ y, y < o ∨ oc ≤ y → wr.cell? ⟨RB, y, none⟩ = w.cell? ⟨RB, y, none⟩
  rest : renT step (ts.drop j) st = (R.drop j, fin)
  cnt : cnt st + (ts.drop j).size ≤ 1000000

theorem RIn.step {σ : Type} {step : σ → Int → Int × σ} {cnt : σ → Nat} {NI : σ → World → Prop} {NS : Nat → Prop} {B0 Bn RM RB o rem : Nat} {ts R : Ts} {fin : σ} {w wr : World} {st : σ} {j oc rem' : Nat}
    (h : RIn step cnt NI NS B0 RM RB o rem ts R fin w wr st j oc rem') {g NB : Nat} (N : Nm step cnt g NB NI NS B0 Bn) (hRM : B0 ≤ RM ∧ RM < Bn ∧ ¬ NS RM) (hRB : B0 ≤ RB ∧ RB < Bn ∧ ¬ NS RB) (hne : RM ≠ RB) (hBn : Bn ≤ w.heap.size) (hj : j < ts.len)
    {k : Int} {s : ByteArray} {n : Int} {pp : Option Addr} {cc : Nat} {kids rest : Ts} (hd : ts.drop j = .cons k s n pp cc kids rest) (hk : 0 ≤ k ∧ k ≤ 255) (hs : s.size ≤ 140737488351232) {n1 : Int} {st1 : σ} (hn1 : (if (k == 1) = true then step st n else (n, st)) = (n1, st1))
    (hn : -9223372036854775808 ≤ n1 ∧ n1 ≤ 9223372036854775807) {W4 w5 W6 : World} (k4 : Kp B0 RM RB NS wr W4) (hT4 : wr.heap.size < W4.heap.size) (c4 : ∀ y, W4.cell? ⟨RB, y, none⟩ = wr.cell? ⟨RB, y, none⟩) (f4 : ∀ y, W4.frozen? ⟨RB, y, none⟩ = wr.frozen? ⟨RB, y, none⟩)
    {us : Ts} {q : Option Addr} (hat : Ts.AtQ (inR RB oc (oc + kids.size * 4)) w5 q us) (htw : Ts.twin us (renT step kids st1).1) (hok : us.ok) (hq : q = none → us.len = 0) (hroom : Room RM RB (oc + kids.size * 4) (rem' - kids.size) w5) (hni : NI (renT step kids st1).2 w5) (k5 : Kp B0 RM RB NS W4 w5)
    (c5 : ∀ y, y < oc ∨ oc + kids.size * 4 ≤ y → w5.cell? ⟨RB, y, none⟩ = W4.cell? ⟨RB, y, none⟩) (f5 : ∀ y, w5.frozen? ⟨RB, y, none⟩ = W4.frozen? ⟨RB, y, none⟩)
    (hW6 : W6 = (((((w5.setCell ⟨wr.heap.size, 3, none⟩ (.slice q us.len us.len)).setCell ⟨RB, o + j * 4, none⟩ (.int .u8 k)).setCell ⟨RB, o + j * 4 + 1, none⟩ (.string s)).setCell ⟨RB, o + j * 4 + 2, none⟩ (.int .i64 n1)).setCell ⟨RB, o + j * 4 + 3, none⟩ (.slice q us.len us.len)))
    (hul : kids.size ≤ 900000) (hkr : kids.size ≤ rem') :
    RIn step cnt NI NS B0 RM RB o rem ts R fin w W6 (renT step kids st1).2 (j + 1) (oc + kids.size * 4) (rem' - kids.size) := by
  have hws := h.kp.size
  have hTB : wr.heap.size ≠ RB := by omega
  have hTM : wr.heap.size ≠ RM := by omega
  have e3 := h.e3
  have row5 : ∀ y, o ≤ y → y < o + ts.len * 4 → (w5.cell? ⟨RB, y, none⟩).isSome := fun y h1 h2 => by
    rw [c5 y (.inl (by omega)), c4 y]; exact h.row y h1 h2
  obtain ⟨W, hW, z1, z2, z3, q0, q1, q2, q3, z4, z5⟩ := put_step w5 wr.heap.size RB (o + j * 4) (.slice q us.len us.len) (.int .u8 k) (.string s) (.int .i64 n1) (.slice q us.len us.len) hTB (row5 _ (by omega) (by omega)) (row5 _ (by omega) (by omega)) (row5 _ (by omega) (by omega)) (row5 _ (by omega) (by omega))
  have hheap : ∀ b, b ≠ wr.heap.size → b ≠ RB → W6.heap[b]? = w5.heap[b]? := fun b h1 h2 => by rw [hW6]; exact put_heap _ _ _ _ _ _ _ _ _ b h1 h2
  rw [← hW6] at hW
  subst hW
  clear hW6
  have hrest := h.rest
  rw [hd] at hrest
  simp only [renT, hn1] at hrest
  have hR : R.drop j = .cons k s n1 none 0 (renT step kids st1).1 (renT step rest (renT step kids st1).2).1 := (congrArg Prod.fst hrest).symm
  have hF : (renT step rest (renT step kids st1).2).2 = fin := congrArg Prod.snd hrest
  have sd := Ts.drop_succ j ts hd
  have sR := Ts.drop_succ j R hR
  have he2 := h.e2
  rw [hd] at he2
  simp only [Ts.size, Ts.len] at he2
  have hlr := Ts.len_size rest
  have hlk := Ts.twin_len _ _ htw
  rw [renT_len] at hlk
  have hlk2 := Ts.len_size kids
  have k6 : Kp B0 RM RB NS w W := by
    refine ⟨by have := k4.size; have := k5.size; omega, z5 _ _ (by omega) hRB.1 ((h.kp.trans k4).trans k5).B, fun b hb h1 h2 h3 => ?_⟩
    rw [hheap b (by omega) h2]
    exact ((h.kp.trans k4).trans k5).old b hb h1 h2 h3
  have cRB : ∀ y, y < o + j * 4 ∨ o + j * 4 + 4 ≤ y → y < oc ∨ oc + kids.size * 4 ≤ y → W.cell? ⟨RB, y, none⟩ = wr.cell? ⟨RB, y, none⟩ := fun y h1 h2 => (z3 y h1).trans ((c5 y h2).trans (c4 y))
  refine ⟨k6, ?_, ?_, ?_, ?_, by omega, ?_, ?_, ?_, ?_, ?_, ?_⟩
  · obtain ⟨⟨o', r1, r2⟩, r3, r4, r5⟩ := hroom
    refine ⟨⟨o', (z2 RM 0 (Ne.symm hTM) hne).trans r1, r2⟩, (z4 _ _).trans r3, fun y h1 h2 => ?_, fun y h1 h2 => (z4 _ _).trans (r5 y h1 h2)⟩
    rw [z3 y (.inr (by omega))]
    exact r4 y h1 h2
  · refine N.stay _ _ _ hni (fun b hb => hheap b ?_ ?_) (by rw [z1]; exact Nat.le_refl _)
    · have := N.own b hb; omega
    · intro e; subst e; exact hRB.2.2 hb
  · have := h.e1; omega
  · rw [sd]; omega
  · intro m hm k' s' n' p' c' kd rs hmd
    by_cases e : m = j
    · subst e
      rw [hR] at hmd
      injection hmd with e1 e2 e3' e4 e5 e6 e7
      subst e1 e2 e3' e4 e5 e6 e7
      exact ⟨q, us, q0, q1, q2, q3, hat.stay (fun b y hb => ⟨hb.1, by have := hb.2.1; omega, hb.2.2⟩) (fun b y hb => by obtain ⟨rfl, h1, h2⟩ := hb; exact z3 y (.inr (by omega))), htw, hok, hq, by omega, hk, hs, hn⟩
    · obtain ⟨q', kd', d0, d1, d2, d3, d4, d5⟩ := h.done m (by omega) _ _ _ _ _ _ _ hmd
      have hy : ∀ i, i < 4 → W.cell? ⟨RB, o + m * 4 + i, none⟩ = wr.cell? ⟨RB, o + m * 4 + i, none⟩ := fun i hi => cRB _ (.inl (by omega)) (.inl (by omega))
      refine ⟨q', kd', (hy 0 (by omega)).trans d0, (hy 1 (by omega)).trans d1, (hy 2 (by omega)).trans d2, (hy 3 (by omega)).trans d3, d4.stay (fun b y hb => ⟨hb.1, hb.2.1, by have := hb.2.2; omega⟩) (fun b y hb => by obtain ⟨rfl, h1, h2⟩ := hb; exact cRB y (.inr (by omega)) (.inl h2)), d5⟩
  · intro y h1 h2
    by_cases hx : y < o + j * 4 ∨ o + j * 4 + 4 ≤ y
    · rw [z3 y hx]; exact row5 y h1 h2
    · obtain hx | hx | hx | hx : y = o + j * 4 ∨ y = o + j * 4 + 1 ∨ y = o + j * 4 + 2 ∨ y = o + j * 4 + 3 := by omega
      · rw [hx, q0]; rfl
      · rw [hx, q1]; rfl
      · rw [hx, q2]; rfl
      · rw [hx, q3]; rfl
  · exact fun y => (z4 _ _).trans ((f5 y).trans ((f4 y).trans (h.frow y)))
  · intro y hy
    exact (cRB y (by omega) (by omega)).trans (h.out y (by omega))
  · rw [sd, sR, ← hF]
  · have h1 := h.cnt
    rw [hd] at h1
    simp only [Ts.size] at h1
    have h2 : cnt st1 ≤ cnt st + 1 := by
      have : (if (k == 1) = true then step st n else (n, st)).2 = st1 := by rw [hn1]
      rw [← this]
      split
      · exact N.grow st n
      · simp
    have h3 := renT_cnt step cnt N.grow kids st1
    rw [sd]
    omega

theorem RIn.start {σ : Type} {step : σ → Int → Int × σ} {cnt : σ → Nat} {NI : σ → World → Prop} {NS : Nat → Prop} {B0 Bn RM RB o rem : Nat} {ts : Ts} {w : World} {st : σ} {g NB : Nat} (N : Nm step cnt g NB NI NS B0 Bn) (hRM : B0 ≤ RM ∧ RM < Bn ∧ ¬ NS RM) (_hRB : B0 ≤ RB ∧ RB < Bn ∧ ¬ NS RB) (hne : RM ≠ RB)
    (hroom : Room RM RB o rem w) (hni : NI st w) (hrem : ts.size ≤ rem) (hcnt : cnt st + ts.size ≤ 1000000) {o2 m : Nat} (hm : m = rem - ts.len) (ho : m = 0 ∨ o2 = o + ts.len * 4) :
    RIn step cnt NI NS B0 RM RB o rem ts (renT step ts st).1 (renT step ts st).2 w (w.setCell ⟨RM, 0, none⟩ (.slice (some ⟨RB, o2, none⟩) m m)) st 0 (o + ts.len * 4) (rem - ts.len) := by
  have hls := Ts.len_size ts
  have hb : ∀ b, b ≠ RM → (w.setCell ⟨RM, 0, none⟩ (.slice (some ⟨RB, o2, none⟩) m m)).heap[b]? = w.heap[b]? := fun b h => Below.heap_setCell _ _ _ _ (by simpa using h)
  have hcl : ∀ b y, b ≠ RM → (w.setCell ⟨RM, 0, none⟩ (.slice (some ⟨RB, o2, none⟩) m m)).cell? ⟨b, y, none⟩ = w.cell? ⟨b, y, none⟩ := fun b y h => World.cell?_of_block (a := ⟨b, y, none⟩) (hb b h)
  obtain ⟨⟨o', r1, r2⟩, r3, r4, r5⟩ := hroom
  refine ⟨⟨by simp, (Below.refl _ _).setCell (p := ⟨RM, 0, none⟩) hRM.1 _, fun b _ h1 _ _ => hb b h1⟩, ⟨⟨o2, ?_, by rw [← hm]; exact ho⟩, by rw [World.frozen?_setCell]; exact r3, fun y h1 h2 => ?_, fun y h1 h2 => ?_⟩, ?_, by omega, ?_, Nat.le_refl _, fun m hm => by omega, fun y h1 h2 => ?_, fun y => World.frozen?_setCell _ _ _ _, fun y _ => hcl _ _ (Ne.symm hne), rfl, hcnt⟩
  · rw [World.cell?_setCell_same _ _ _ r1, hm]
  · rw [hcl _ _ (Ne.symm hne)]; exact r4 y (by omega) (by omega)
  · rw [World.frozen?_setCell]; exact r5 y (by omega) (by omega)
  · exact N.stay _ _ _ hni (fun b hb' => hb b (fun e => hRM.2.2 (e ▸ hb'))) (by simp)
  · simp only [Ts.drop]; omega
  · rw [hcl _ _ (Ne.symm hne)]; exact r4 y (by omega) (by omega)

end Go.Proofs.Ytflomdnjabgnaaa
/-
  Layer 3: a term applied, out of a room: what stands between two rounds.
-/
namespace Go.Proofs.Ytflomdnjabgnaaa
open Go.RowKit

abbrev KpA (B0 RM RB : Nat) (w w' : World) : Prop := Kp B0 RM RB (fun _ => False) w w'

/-- the first elements have been put, applied -/
def DoneA (σ : Sb) (RB o lo hi : Nat) (w : World) (K : Ts) (j : Nat) : Prop := ∀ m, m < j → ∀ k s n p c kids rest, K.drop m = .cons k s n p c kids rest →
  ∃ q us, w.cell? ⟨RB, o + m * 4, none⟩ = some (.int .u8 (wk σ ⟨k, s, n, p, c, kids⟩).k) ∧ w.cell? ⟨RB, o + m * 4 + 1, none⟩ = some (.string (wk σ ⟨k, s, n, p, c, kids⟩).s) ∧ w.cell? ⟨RB, o + m * 4 + 2, none⟩ = some (.int .i64 (wk σ ⟨k, s, n, p, c, kids⟩).n) ∧ w.cell? ⟨RB, o + m * 4 + 3, none⟩ = some (.slice q us.len us.len) ∧
    Ts.AtQ (inR RB lo hi) w q us ∧ App σ (elems (wk σ ⟨k, s, n, p, c, kids⟩).kids) us ∧ us.ok ∧ (q = none → us.len = 0) ∧ us.len ≤ 1000000 ∧ (wk σ ⟨k, s, n, p, c, kids⟩).ok

theorem DoneA.made {σ : Sb} {RB o lo hi : Nat} {w : World} {K : Ts} (h : DoneA σ RB o lo hi w K K.len) (hlo : o ≤ lo) (hhi : o + K.len * 4 ≤ hi) : ∃ us : Ts, us.liesQ (inR RB o hi) w RB o ∧ App σ (elems K) us ∧ us.ok := by
  have build : ∀ i, i ≤ K.len → ∃ us : Ts, us.liesQ (inR RB o hi) w RB (o + (K.len - i) * 4) ∧ App σ (elems (K.drop (K.len - i))) us ∧ us.ok := by
    intro i
    induction i with
    | zero =>
      intro _
      refine ⟨.nil, trivial, ?_, trivial⟩
      rw [Ts.len_zero (ts := K.drop (K.len - 0)) (by rw [Ts.drop_len]; omega)]
      exact .nil
    | succ i ih =>
      intro hi'
      obtain ⟨us, h1, h2, h3⟩ := ih (by omega)
      have hlt : K.len - (i + 1) < K.len := by omega
      obtain ⟨k, s, n, p, c, kids, rest, hd⟩ := Ts.drop_cons hlt
      obtain ⟨q, ks, c0, c1, c2, c3, hat, ha, hok', hq, hl, hy⟩ := h _ hlt _ _ _ _ _ _ _ hd
      have hsd := Ts.drop_succ _ K hd
      rw [show K.len - (i + 1) + 1 = K.len - i from by omega] at hsd
      rw [hsd] at h2
      refine ⟨.cons _ _ _ q ks.len ks us, ⟨fun y hy hy' => ⟨rfl, by omega, by omega⟩, c0, c1, c2, c3, hat.stay (fun b y hb => ⟨hb.1, by have := hb.2.1; omega, hb.2.2⟩) (fun _ _ _ => rfl), ?_⟩, ?_, ⟨hy.1, hy.2.1, hy.2.2.1, ⟨Nat.le_refl _, by omega⟩, hq, hok', h3⟩⟩
      · rw [show o + (K.len - (i + 1)) * 4 + 4 = o + (K.len - i) * 4 from by omega]; exact h1
      · rw [hd]; exact .cons ha h2
  obtain ⟨us, h1, h2, h3⟩ := build K.len (Nat.le_refl _)
  rw [Nat.sub_self] at h1 h2
  exact ⟨us, by simpa using h1, h2, h3⟩

/-- between two rounds -/
structure AIn (σ : Sb) (B0 RM RB o rem n : Nat) (K : Ts) (w wr : World) (j oc rem' nj : Nat) : Prop where
  kp : KpA B0 RM RB w wr
  room : Room RM RB oc rem' wr
  e1 : oc + rem' * 4 = o + rem * 4
  e2 : oc + (nj - (K.drop j).len) * 4 = o + n * 4
  e3 : o + K.len * 4 ≤ oc
  cnt : Cnt σ (elems (K.drop j)) nj
  done : DoneA σ RB o (o + K.len * 4) oc wr K j
  row : ∀ y, o ≤ y → y < o + K.len * 4 → (wr.cell? ⟨RB, y, none⟩).isSome
  frow : ∀ y, wr.frozen? ⟨RB, y, none⟩ = w.frozen? ⟨RB, y, none⟩
  out : ∀ y, y < o ∨ oc ≤ y → wr.cell? ⟨RB, y, none⟩ = w.cell? ⟨RB, y, none⟩

theorem AIn.step {σ : Sb} {B0 RM RB o rem n : Nat} {K : Ts} {w wr : World} {j oc rem' nj : Nat} (h : AIn σ B0 RM RB o rem n K w wr j oc rem' nj) (_hRM : B0 ≤ RM) (hRB : B0 ≤ RB) (hne : RM ≠ RB) (hBs : RM < w.heap.size ∧ RB < w.heap.size ∧ B0 ≤ w.heap.size) (hj : j < K.len)
    {k : Int} {s : ByteArray} {z : Int} {pp : Option Addr} {cc : Nat} {kids rest : Ts} (hd : K.drop j = .cons k s z pp cc kids rest) {X : Nd} (hX : wk σ ⟨k, s, z, pp, cc, kids⟩ = X) (hXo : X.ok) {a b : Nat} (_hca : Cnt σ (elems X.kids) a) (hcb : Cnt σ (elems rest) b) (hab : nj = a + b + 1)
    {W4 w5 : World} (k4 : KpA B0 RM RB wr W4) (c4 : ∀ y, W4.cell? ⟨RB, y, none⟩ = wr.cell? ⟨RB, y, none⟩) (f4 : ∀ y, W4.frozen? ⟨RB, y, none⟩ = wr.frozen? ⟨RB, y, none⟩)
    {us : Ts} {q : Option Addr} (hat : Ts.AtQ (inR RB oc (oc + a * 4)) w5 q us) (happ : App σ (elems X.kids) us) (hok : us.ok) (hq : q = none → us.len = 0) (hul : us.len ≤ 1000000) (hroom : Room RM RB (oc + a * 4) (rem' - a) w5) (k5 : KpA B0 RM RB W4 w5)
    (c5 : ∀ y, y < oc ∨ oc + a * 4 ≤ y → w5.cell? ⟨RB, y, none⟩ = W4.cell? ⟨RB, y, none⟩) (f5 : ∀ y, w5.frozen? ⟨RB, y, none⟩ = W4.frozen? ⟨RB, y, none⟩) (har : a ≤ rem') :
    AIn σ B0 RM RB o rem n K w ((((w5.setCell ⟨RB, o + j * 4, none⟩ (.int .u8 X.k)).setCell ⟨RB, o + j * 4 + 1, none⟩ (.string X.s)).setCell ⟨RB, o + j * 4 + 2, none⟩ (.int .i64 X.n)).setCell ⟨RB, o + j * 4 + 3, none⟩ (.slice q us.len us.len)) (j + 1) (oc + a * 4) (rem' - a) b := by
  have hws := h.kp.size
  have e3 := h.e3
  have row5 : ∀ y, o ≤ y → y < o + K.len * 4 → (w5.cell? ⟨RB, y, none⟩).isSome := fun y h1 h2 => by
    rw [c5 y (.inl (by omega)), c4 y]; exact h.row y h1 h2
  obtain ⟨W, hW, z1, z2, z3, q0, q1, q2, q3, z4, z5⟩ := put4 w5 RB (o + j * 4) (.int .u8 X.k) (.string X.s) (.int .i64 X.n) (.slice q us.len us.len) (row5 _ (by omega) (by omega)) (row5 _ (by omega) (by omega)) (row5 _ (by omega) (by omega)) (row5 _ (by omega) (by omega))
  rw [← hW]
  have hheap : ∀ b, b ≠ RB → W.heap[b]? = w5.heap[b]? := fun b h1 => by
    rw [hW, Below.heap_setCell _ _ _ _ (by simpa using h1), Below.heap_setCell _ _ _ _ (by simpa using h1), Below.heap_setCell _ _ _ _ (by simpa using h1), Below.heap_setCell _ _ _ _ (by simpa using h1)]
  have sd := Ts.drop_succ j K hd
  have he2 := h.e2
  rw [hd] at he2
  simp only [Ts.len] at he2
  have hlb := hcb.len
  rw [elems_length] at hlb
  have k45 := (h.kp.trans k4).trans k5
  have cRB : ∀ y, y < o + j * 4 ∨ o + j * 4 + 4 ≤ y → y < oc ∨ oc + a * 4 ≤ y → W.cell? ⟨RB, y, none⟩ = wr.cell? ⟨RB, y, none⟩ := fun y h1 h2 => (z3 y h1).trans ((c5 y h2).trans (c4 y))
  refine ⟨⟨by rw [z1]; exact k45.size, z5 _ _ hRB k45.B, fun x hx h1 h2 h3 => (hheap x h2).trans (k45.old x hx h1 h2 h3)⟩, ?_, ?_, ?_, by omega, ?_, ?_, ?_, ?_, ?_⟩
  · obtain ⟨⟨o', r1, r2⟩, r3, r4, r5⟩ := hroom
    refine ⟨⟨o', (z2 RM 0 hne).trans r1, r2⟩, (z4 _ _).trans r3, fun y h1 h2 => ?_, fun y h1 h2 => (z4 _ _).trans (r5 y h1 h2)⟩
    rw [z3 y (.inr (by omega))]
    exact r4 y h1 h2
  · have := h.e1; omega
  · rw [sd]; omega
  · rw [sd]; exact hcb
  · intro m hm k' s' n' p' c' kd rs hmd
    by_cases e : m = j
    · subst e
      rw [hd] at hmd
      injection hmd with e1 e2 e3' e4 e5 e6 e7
      subst e1 e2 e3' e4 e5 e6 e7
      rw [hX]
      exact ⟨q, us, q0, q1, q2, q3, hat.stay (fun b y hb => ⟨hb.1, by have := hb.2.1; omega, hb.2.2⟩) (fun b y hb => by obtain ⟨rfl, h1, h2⟩ := hb; exact z3 y (.inr (by omega))), happ, hok, hq, hul, hXo⟩
    · obtain ⟨q', us', d0, d1, d2, d3, d4, d5⟩ := h.done m (by omega) _ _ _ _ _ _ _ hmd
      have hy : ∀ i, i < 4 → W.cell? ⟨RB, o + m * 4 + i, none⟩ = wr.cell? ⟨RB, o + m * 4 + i, none⟩ := fun i hi => cRB _ (.inl (by omega)) (.inl (by omega))
      exact ⟨q', us', (hy 0 (by omega)).trans d0, (hy 1 (by omega)).trans d1, (hy 2 (by omega)).trans d2, (hy 3 (by omega)).trans d3, d4.stay (fun b y hb => ⟨hb.1, hb.2.1, by have := hb.2.2; omega⟩) (fun b y hb => by obtain ⟨rfl, h1, h2⟩ := hb; exact cRB y (.inr (by omega)) (.inl h2)), d5⟩
  · intro y h1 h2
    by_cases hx : y < o + j * 4 ∨ o + j * 4 + 4 ≤ y
    · rw [z3 y hx]; exact row5 y h1 h2
    · obtain hx | hx | hx | hx : y = o + j * 4 ∨ y = o + j * 4 + 1 ∨ y = o + j * 4 + 2 ∨ y = o + j * 4 + 3 := by omega
      · rw [hx, q0]; rfl
      · rw [hx, q1]; rfl
      · rw [hx, q2]; rfl
      · rw [hx, q3]; rfl
  · exact fun y => (z4 _ _).trans ((f5 y).trans ((f4 y).trans (h.frow y)))
  · intro y hy
    exact (cRB y (by omega) (by omega)).trans (h.out y (by omega))

theorem AIn.start {σ : Sb} {B0 RM RB o rem n : Nat} {K : Ts} {w : World} (hRM : B0 ≤ RM) (hne : RM ≠ RB) (hc : Cnt σ (elems K) n) (hroom : Room RM RB o rem w) (hrem : n ≤ rem) {o2 m : Nat} (hm : m = rem - K.len) (ho : m = 0 ∨ o2 = o + K.len * 4) :
    AIn σ B0 RM RB o rem n K w (w.setCell ⟨RM, 0, none⟩ (.slice (some ⟨RB, o2, none⟩) m m)) 0 (o + K.len * 4) (rem - K.len) n := by
  have hls := hc.len
  rw [elems_length] at hls
  have hb : ∀ b, b ≠ RM → (w.setCell ⟨RM, 0, none⟩ (.slice (some ⟨RB, o2, none⟩) m m)).heap[b]? = w.heap[b]? := fun b h => Below.heap_setCell _ _ _ _ (by simpa using h)
  have hcl : ∀ b y, b ≠ RM → (w.setCell ⟨RM, 0, none⟩ (.slice (some ⟨RB, o2, none⟩) m m)).cell? ⟨b, y, none⟩ = w.cell? ⟨b, y, none⟩ := fun b y h => World.cell?_of_block (a := ⟨b, y, none⟩) (hb b h)
  obtain ⟨⟨o', r1, r2⟩, r3, r4, r5⟩ := hroom
  refine ⟨⟨by simp, (Below.refl _ _).setCell (p := ⟨RM, 0, none⟩) hRM _, fun b _ h1 _ _ => hb b h1⟩, ⟨⟨o2, ?_, by rw [← hm]; exact ho⟩, by rw [World.frozen?_setCell]; exact r3, fun y h1 h2 => ?_, fun y h1 h2 => ?_⟩, by omega, ?_, Nat.le_refl _, hc, fun m hm => by omega, fun y h1 h2 => ?_, fun y => World.frozen?_setCell _ _ _ _, fun y _ => hcl _ _ (Ne.symm hne)⟩
  · rw [World.cell?_setCell_same _ _ _ r1, hm]
  · rw [hcl _ _ (Ne.symm hne)]; exact r4 y (by omega) (by omega)
  · rw [World.frozen?_setCell]; exact r5 y (by omega) (by omega)
  · simp only [Ts.drop]; omega
  · rw [hcl _ _ (Ne.symm hne)]; exact r4 y (by omega) (by omega)

theorem Room.stay {RM RB o rem : Nat} {w w' : World} (h : Room RM RB o rem w) (h1 : w'.heap[RM]? = w.heap[RM]?) (h2 : w'.heap[RB]? = w.heap[RB]?) : Room RM RB o rem w' := by
  obtain ⟨⟨o', r1, r2⟩, r3, r4, r5⟩ := h
  exact ⟨⟨o', (World.cell?_of_block (a := ⟨RM, 0, none⟩) h1).trans r1, r2⟩, (World.frozen?_of_block (a := ⟨RM, 0, none⟩) h1).trans r3, fun y a b => by rw [World.cell?_of_block (a := ⟨RB, y, none⟩) h2]; exact r4 y a b, fun y a b => (World.frozen?_of_block (a := ⟨RB, y, none⟩) h2).trans (r5 y a b)⟩

end Go.Proofs.Ytflomdnjabgnaaa
