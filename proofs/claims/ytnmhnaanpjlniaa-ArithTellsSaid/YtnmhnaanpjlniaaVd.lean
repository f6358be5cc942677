import Derived.Test.YtnmhnaanpjlniaaTz
import Derived.Deep.DeepCutAuto
/-
  Layer 5: lists of terms with other numbers, taken out of a room: what lies where.
-/
namespace Go.Proofs.Ytnmhnaanpjlniaa
open Go.RowKit

namespace Ts
/-- like lies, each element within places that are allowed -/
def liesQ (Q : Nat → Nat → Prop) (w : World) : Nat → Nat → Ts → Prop
  | _, _, .nil => True
  | b, o, .cons k s n p cap kids rest =>
    (∀ y, o ≤ y → y < o + 4 → Q b y) ∧ w.cell? ⟨b, o, none⟩ = some (.int .u8 k) ∧ w.cell? ⟨b, o + 1, none⟩ = some (.string s) ∧ w.cell? ⟨b, o + 2, none⟩ = some (.int .i64 n) ∧ w.cell? ⟨b, o + 3, none⟩ = some (.slice p kids.len cap) ∧
    (∃ b' o', (kids = .nil ∨ p = some ⟨b', o', none⟩) ∧ liesQ Q w b' o' kids) ∧ liesQ Q w b (o + 4) rest

def AtQ (Q : Nat → Nat → Prop) (w : World) (p : Option Addr) (ts : Ts) : Prop := ∃ b o, (ts = .nil ∨ p = some ⟨b, o, none⟩) ∧ ts.liesQ Q w b o

theorem liesQ_lies {Q : Nat → Nat → Prop} {w : World} : ∀ (ts : Ts) {b o : Nat}, ts.liesQ Q w b o → ts.lies w b o
  | .nil, _, _, _ => trivial
  | .cons _ _ _ _ _ kids rest, _, _, ⟨_, h0, h1, h2, h3, ⟨b', o', h4, h5⟩, h6⟩ => ⟨h0, h1, h2, h3, ⟨b', o', h4, liesQ_lies kids h5⟩, liesQ_lies rest h6⟩

theorem AtQ.at {Q : Nat → Nat → Prop} {w : World} {p : Option Addr} {ts : Ts} (h : AtQ Q w p ts) : At w p ts := by
  obtain ⟨b, o, h1, h2⟩ := h
  exact ⟨b, o, h1, liesQ_lies ts h2⟩

theorem liesQ_stay {Q Q' : Nat → Nat → Prop} {w w' : World} (hQ : ∀ b y, Q b y → Q' b y) (hc : ∀ b y, Q b y → w'.cell? ⟨b, y, none⟩ = w.cell? ⟨b, y, none⟩) : ∀ (ts : Ts) {b o : Nat}, ts.liesQ Q w b o → ts.liesQ Q' w' b o
  | .nil, _, _, _ => trivial
  | .cons k s n p cap kids rest, b, o, ⟨hq, h0, h1, h2, h3, ⟨b', o', h4, h5⟩, h6⟩ =>
    ⟨fun y hy hy' => hQ _ _ (hq y hy hy'), (hc _ _ (hq _ (by omega) (by omega))).trans h0, (hc _ _ (hq _ (by omega) (by omega))).trans h1, (hc _ _ (hq _ (by omega) (by omega))).trans h2, (hc _ _ (hq _ (by omega) (by omega))).trans h3, ⟨b', o', h4, liesQ_stay hQ hc kids h5⟩, liesQ_stay hQ hc rest h6⟩

theorem AtQ.stay {Q Q' : Nat → Nat → Prop} {w w' : World} {p : Option Addr} {ts : Ts} (h : AtQ Q w p ts) (hQ : ∀ b y, Q b y → Q' b y) (hc : ∀ b y, Q b y → w'.cell? ⟨b, y, none⟩ = w.cell? ⟨b, y, none⟩) : AtQ Q' w' p ts := by
  obtain ⟨b, o, h1, h2⟩ := h
  exact ⟨b, o, h1, liesQ_stay hQ hc ts h2⟩

theorem liesQ_liesB {Q : Nat → Nat → Prop} {B : Nat} {w : World} (hQ : ∀ b y, Q b y → B ≤ b) : ∀ (ts : Ts) {b o : Nat}, ts.liesQ Q w b o → ts.liesB B w b o
  | .nil, _, _, _ => trivial
  | .cons _ _ _ _ _ kids rest, _, _, ⟨hq, h0, h1, h2, h3, ⟨b', o', h4, h5⟩, h6⟩ => ⟨hQ _ _ (hq _ (Nat.le_refl _) (by omega)), h0, h1, h2, h3, ⟨b', o', h4, liesQ_liesB hQ kids h5⟩, liesQ_liesB hQ rest h6⟩

theorem AtQ.atB {Q : Nat → Nat → Prop} {B : Nat} {w : World} {p : Option Addr} {ts : Ts} (h : AtQ Q w p ts) (hQ : ∀ b y, Q b y → B ≤ b) : AtB B w p ts := by
  obtain ⟨b, o, h1, h2⟩ := h
  exact ⟨b, o, h1, liesQ_liesB hQ ts h2⟩

theorem drop_append_len : ∀ (i : Nat) (ts : Ts), (ts.drop i).size + i ≤ ts.size + i
  | i, ts => by have := drop_size i ts; omega
end Ts

/-- terms with other numbers of variables; what the names remember goes from node to node -/
def renT {σ : Type} (step : σ → Int → Int × σ) : Ts → σ → Ts × σ
  | .nil, st => (.nil, st)
  | .cons k s n _ _ kids rest, st =>
    (.cons k s (if (k == 1) = true then step st n else (n, st)).1 none 0 (renT step kids (if (k == 1) = true then step st n else (n, st)).2).1 (renT step rest (renT step kids (if (k == 1) = true then step st n else (n, st)).2).2).1,
      (renT step rest (renT step kids (if (k == 1) = true then step st n else (n, st)).2).2).2)

theorem renT_len {σ : Type} (step : σ → Int → Int × σ) : ∀ (ts : Ts) (st : σ), (renT step ts st).1.len = ts.len
  | .nil, _ => rfl
  | .cons _ _ _ _ _ _ rest, st => by simp only [renT, Ts.len, renT_len step rest]

theorem renT_size {σ : Type} (step : σ → Int → Int × σ) : ∀ (ts : Ts) (st : σ), (renT step ts st).1.size = ts.size
  | .nil, _ => rfl
  | .cons _ _ _ _ _ kids rest, st => by simp only [renT, Ts.size, renT_size step rest, renT_size step kids]

/-- how much the names remember grows by one a node at most -/
theorem renT_cnt {σ : Type} (step : σ → Int → Int × σ) (cnt : σ → Nat) (hcnt : ∀ st n, cnt (step st n).2 ≤ cnt st + 1) : ∀ (ts : Ts) (st : σ), cnt (renT step ts st).2 ≤ cnt st + ts.size
  | .nil, _ => by simp [renT, Ts.size]
  | .cons k s n _ _ kids rest, st => by
    have h0 : cnt (if (k == 1) = true then step st n else (n, st)).2 ≤ cnt st + 1 := by
      split
      · exact hcnt st n
      · simp
    have h1 := renT_cnt step cnt hcnt kids (if (k == 1) = true then step st n else (n, st)).2
    have h2 := renT_cnt step cnt hcnt rest (renT step kids (if (k == 1) = true then step st n else (n, st)).2).2
    simp only [renT, Ts.size]
    omega

/-- places of a row -/
def inR (RB lo hi : Nat) (b y : Nat) : Prop := b = RB ∧ lo ≤ y ∧ y < hi

/-- the room that is left -/
structure Room (RM RB o rem : Nat) (w : World) : Prop where
  rm : ∃ o', w.cell? ⟨RM, 0, none⟩ = some (.slice (some ⟨RB, o', none⟩) rem rem) ∧ (rem = 0 ∨ o' = o)
  rmf : w.frozen? ⟨RM, 0, none⟩ = false
  here : ∀ y, o ≤ y → y < o + rem * 4 → (w.cell? ⟨RB, y, none⟩).isSome
  free : ∀ y, o ≤ y → y < o + rem * 4 → w.frozen? ⟨RB, y, none⟩ = false

/-- the first elements have been put -/
def DoneR (RB o lo hi : Nat) (w : World) (R : Ts) (j : Nat) : Prop := ∀ m, m < j → ∀ k s n p c kids rest, R.drop m = .cons k s n p c kids rest →
  ∃ q kids', w.cell? ⟨RB, o + m * 4, none⟩ = some (.int .u8 k) ∧ w.cell? ⟨RB, o + m * 4 + 1, none⟩ = some (.string s) ∧ w.cell? ⟨RB, o + m * 4 + 2, none⟩ = some (.int .i64 n) ∧ w.cell? ⟨RB, o + m * 4 + 3, none⟩ = some (.slice q kids'.len kids'.len) ∧
    Ts.AtQ (inR RB lo hi) w q kids' ∧ Ts.twin kids' kids ∧ kids'.ok ∧ (q = none → kids'.len = 0) ∧ kids'.len ≤ 1000000 ∧ (0 ≤ k ∧ k ≤ 255) ∧ s.size ≤ 140737488351232 ∧ (-9223372036854775808 ≤ n ∧ n ≤ 9223372036854775807)

theorem DoneR.made {RB o lo hi : Nat} {w : World} {R : Ts} (h : DoneR RB o lo hi w R R.len) (hlo : o ≤ lo) (hhi : o + R.len * 4 ≤ hi) : ∃ us : Ts, us.liesQ (inR RB o hi) w RB o ∧ Ts.twin us R ∧ us.ok := by
  have build : ∀ i, i ≤ R.len → ∃ us : Ts, us.liesQ (inR RB o hi) w RB (o + (R.len - i) * 4) ∧ Ts.twin us (R.drop (R.len - i)) ∧ us.ok := by
    intro i
    induction i with
    | zero =>
      intro _
      refine ⟨.nil, trivial, ?_, trivial⟩
      rw [Ts.len_zero (ts := R.drop (R.len - 0)) (by rw [Ts.drop_len]; omega)]
      trivial
    | succ i ih =>
      intro hi'
      obtain ⟨us, h1, h2, h3⟩ := ih (by omega)
      have hlt : R.len - (i + 1) < R.len := by omega
      obtain ⟨k, s, n, p, c, kids, rest, hd⟩ := Ts.drop_cons hlt
      obtain ⟨q, kids', c0, c1, c2, c3, hat, ht, hok', hq, hl, hk, hs, hn⟩ := h _ hlt _ _ _ _ _ _ _ hd
      have hsd := Ts.drop_succ _ R hd
      rw [show R.len - (i + 1) + 1 = R.len - i from by omega] at hsd
      rw [hsd] at h2
      refine ⟨.cons k s n q kids'.len kids' us, ⟨fun y hy hy' => ⟨rfl, by omega, by omega⟩, c0, c1, c2, c3, hat.stay (fun b y hb => ⟨hb.1, by have := hb.2.1; omega, hb.2.2⟩) (fun _ _ _ => rfl), ?_⟩, ?_, ⟨hk, hs, hn, ⟨Nat.le_refl _, by omega⟩, hq, hok', h3⟩⟩
      · rw [show o + (R.len - (i + 1)) * 4 + 4 = o + (R.len - i) * 4 from by omega]; exact h1
      · rw [hd]; exact ⟨rfl, rfl, rfl, ht, h2⟩
  obtain ⟨us, h1, h2, h3⟩ := build R.len (Nat.le_refl _)
  rw [Nat.sub_self] at h1 h2
  exact ⟨us, by simpa using h1, h2, h3⟩
end Go.Proofs.Ytnmhnaanpjlniaa
/-
  Layer 5: lists of terms with other numbers, taken out of a room: what a round does.
-/
namespace Go.Proofs.Ytnmhnaanpjlniaa
open Go.RowKit

namespace Ts
theorem liesP_drop {P : Nat → Prop} {w : World} : ∀ (i : Nat) (ts : Ts) {b o : Nat}, ts.liesP P w b o → (ts.drop i).liesP P w b (o + i * 4)
  | 0, _, _, _, h => by simpa [drop] using h
  | _ + 1, .nil, _, _, _ => trivial
  | i + 1, .cons _ _ _ _ _ _ r, b, o, h => by
    have := liesP_drop i r h.2.2.2.2.2.2
    rw [show o + (i + 1) * 4 = o + 4 + i * 4 from by omega]
    exact this

/-- an element of a list that lies in blocks that are allowed -/
theorem elemP {P : Nat → Prop} {w : World} {ts : Ts} {b o j : Nat} (hl : ts.liesP P w b o) (hok : ts.ok) (h : j < ts.len) :
    ∃ (k : Int) (s : ByteArray) (n : Int) (p : Option Addr) (c : Nat) (kids rest : Ts), Hid (ts.drop j = .cons k s n p c kids rest) ∧ El b (o + j * 4) k s n p c kids w ∧ Ts.AtP P w p kids ∧ P b ∧ kids.size + rest.size + 1 ≤ ts.size ∧ Ts.ok (.cons k s n p c kids .nil) := by
  obtain ⟨k, s, n, p, c, kids, rest, hd⟩ := Ts.drop_cons h
  have h1 := liesP_drop j ts hl
  have hokd := Ts.ok_drop j ts hok
  have hsz := Ts.drop_size j ts
  rw [hd] at h1 hokd hsz
  obtain ⟨hP, c0, c1, c2, c3, ⟨b', o', h4, h5⟩, _⟩ := h1
  have h6 : ∀ (us : Ts) {y z : Nat}, us.liesP P w y z → us.lies w y z := by
    intro us
    induction us with
    | nil => intro _ _ _; trivial
    | cons k s n p c kids rest ih1 ih2 =>
      intro y z ⟨_, g1, g2, g3, g4, ⟨b2, o2, g5, g6⟩, g7⟩
      exact ⟨g1, g2, g3, g4, ⟨b2, o2, g5, ih1 g6⟩, ih2 g7⟩
  simp only [Ts.size] at hsz
  exact ⟨k, s, n, p, c, kids, rest, Lib.hid hd, ⟨World.block_lt_of_cell? _ _ c0, c0, c1, c2, c3, ⟨b', o', h4, h6 kids h5⟩⟩, ⟨b', o', h4, h5⟩, hP, hsz, hokd.1, hokd.2.1, hokd.2.2.1, hokd.2.2.2.1, hokd.2.2.2.2.1, hokd.2.2.2.2.2.1, trivial⟩
end Ts

/-- what a call leaves as it was -/
structure Kp (B0 RM RB : Nat) (NS : Nat → Prop) (w w' : World) : Prop where
  size : w.heap.size ≤ w'.heap.size
  B : Below B0 w w'
  old : ∀ b, b < w.heap.size → b ≠ RM → b ≠ RB → ¬ NS b → w'.heap[b]? = w.heap[b]?

theorem Kp.refl {B0 RM RB : Nat} {NS : Nat → Prop} (w : World) : Kp B0 RM RB NS w w := ⟨Nat.le_refl _, Below.refl _ _, fun _ _ _ _ _ => rfl⟩

theorem Kp.trans {B0 RM RB : Nat} {NS : Nat → Prop} {w w1 w2 : World} (h : Kp B0 RM RB NS w w1) (h' : Kp B0 RM RB NS w1 w2) : Kp B0 RM RB NS w w2 :=
  ⟨Nat.le_trans h.size h'.size, h.B.trans h'.B, fun b hb h1 h2 h3 => (h'.old b (Nat.lt_of_lt_of_le hb h.size) h1 h2 h3).trans (h.old b hb h1 h2 h3)⟩

theorem Kp.alloc {B0 RM RB : Nat} {NS : Nat → Prop} {w w1 : World} (h : Kp B0 RM RB NS w w1) (hB : B0 ≤ w1.heap.size) (o : Obj) : Kp B0 RM RB NS w (w1.alloc o) :=
  ⟨Nat.le_trans h.size (by simp), h.B.alloc hB _, fun b hb h1 h2 h3 => (Below.heap_alloc _ _ _ (Nat.lt_of_lt_of_le hb h.size)).trans (h.old b hb h1 h2 h3)⟩

theorem Kp.cell {B0 RM RB : Nat} {NS : Nat → Prop} {w w1 : World} (h : Kp B0 RM RB NS w w1) {b : Nat} (hb : b < w.heap.size) (h1 : b ≠ RM) (h2 : b ≠ RB) (h3 : ¬ NS b) (y : Nat) : w1.cell? ⟨b, y, none⟩ = w.cell? ⟨b, y, none⟩ :=
  World.cell?_of_block (a := ⟨b, y, none⟩) (h.old b hb h1 h2 h3)

theorem Kp.frozen {B0 RM RB : Nat} {NS : Nat → Prop} {w w1 : World} (h : Kp B0 RM RB NS w w1) {b : Nat} (hb : b < w.heap.size) (h1 : b ≠ RM) (h2 : b ≠ RB) (h3 : ¬ NS b) (y : Nat) : w1.frozen? ⟨b, y, none⟩ = w.frozen? ⟨b, y, none⟩ :=
  World.frozen?_of_block (a := ⟨b, y, none⟩) (h.old b hb h1 h2 h3)

/-- a name: what it gives, what it remembers, and where -/
structure Nm {σ : Type} (step : σ → Int → Int × σ) (cnt : σ → Nat) (g NB : Nat) (NI : σ → World → Prop) (NS : Nat → Prop) (B0 Bn : Nat) : Prop where
  own : ∀ b, NS b → b < Bn
  stay : ∀ st W W', NI st W → (∀ b, NS b → W'.heap[b]? = W.heap[b]?) → W.heap.size ≤ W'.heap.size → NI st W'
  grow : ∀ st n, cnt (step st n).2 ≤ cnt st + 1
  fits : ∀ st W n, NI st W → (-9223372036854775808 ≤ n ∧ n ≤ 9223372036854775807) → cnt st < 1000000 → (-9223372036854775808 ≤ (step st n).1 ∧ (step st n).1 ≤ 9223372036854775807)
  call : ∀ st W n, NI st W → cnt st < 1000000 → (-9223372036854775808 ≤ n ∧ n ≤ 9223372036854775807) → Bn ≤ W.heap.size →
    Calls Try.prog g #[.int .i64 n, .pointer (some ⟨NB, 0, none⟩)] W fun e w' => e = .returned (.int .i64 (step st n).1) ∧ NI (step st n).2 w' ∧ W.heap.size ≤ w'.heap.size ∧ Below B0 W w' ∧ ∀ b, b < W.heap.size → ¬ NS b → w'.heap[b]? = W.heap[b]?

theorem put_heap (w' : World) (T R x : Nat) (v v0 v1 v2 v3 : Value) (b : Nat) (h1 : b ≠ T) (h2 : b ≠ R) :
    (((((w'.setCell ⟨T, 3, none⟩ v).setCell ⟨R, x, none⟩ v0).setCell ⟨R, x + 1, none⟩ v1).setCell ⟨R, x + 2, none⟩ v2).setCell ⟨R, x + 3, none⟩ v3).heap[b]? = w'.heap[b]? := by
  rw [Below.heap_setCell _ _ _ _ (by simpa using h2), Below.heap_setCell _ _ _ _ (by simpa using h2), Below.heap_setCell _ _ _ _ (by simpa using h2), Below.heap_setCell _ _ _ _ (by simpa using h2), Below.heap_setCell _ _ _ _ (by simpa using h1)]

theorem Nm.mono {σ : Type} {step : σ → Int → Int × σ} {cnt : σ → Nat} {g NB : Nat} {NI : σ → World → Prop} {NS : Nat → Prop} {B0 Bn Bn' : Nat} (N : Nm step cnt g NB NI NS B0 Bn) (h : Bn ≤ Bn') : Nm step cnt g NB NI NS B0 Bn' :=
  ⟨fun b hb => Nat.lt_of_lt_of_le (N.own b hb) h, N.stay, N.grow, N.fits, fun st W n h1 h2 h3 h4 => N.call st W n h1 h2 h3 (Nat.le_trans h h4)⟩

/-- between two rounds -/
structure RIn {σ : Type} (step : σ → Int → Int × σ) (cnt : σ → Nat) (NI : σ → World → Prop) (NS : Nat → Prop) (B0 RM RB o rem : Nat) (ts R : Ts) (fin : σ) (w wr : World) (st : σ) (j oc rem' : Nat) : Prop where
  kp : Kp B0 RM RB NS w wr
  room : Room RM RB oc rem' wr
  ni : NI st wr
  e1 : oc + rem' * 4 = o + rem * 4
  e2 : oc + ((ts.drop j).size - (ts.drop j).len) * 4 = o + ts.size * 4
  e3 : o + ts.len * 4 ≤ oc
  done : DoneR RB o (o + ts.len * 4) oc wr R j
  row : ∀ y, o ≤ y → y < o + ts.len * 4 → (wr.cell? ⟨RB, y, none⟩).isSome
  frow : ∀ y, wr.frozen? ⟨RB, y, none⟩ = w.frozen? ⟨RB, y, none⟩
  out : ∀ y, y < o ∨ oc ≤ y → wr.cell? ⟨RB, y, none⟩ = w.cell? ⟨RB, y, none⟩
  rest : renT step (ts.drop j) st = (R.drop j, fin)
  cnt : cnt st + (ts.drop j).size ≤ 1000000

theorem RIn.step {σ : Type} {step : σ → Int → Int × σ} {cnt : σ → Nat} {NI : σ → World → Prop} {NS : Nat → Prop} {B0 Bn RM RB o rem : Nat} {ts R : Ts} {fin : σ} {w wr : World} {st : σ} {j oc rem' : Nat}
    (h : RIn step cnt NI NS B0 RM RB o rem ts R fin w wr st j oc rem') {g NB : Nat} (N : Nm step cnt g NB NI NS B0 Bn) (hRM : B0 ≤ RM ∧ RM < Bn ∧ ¬ NS RM) (hRB : B0 ≤ RB ∧ RB < Bn ∧ ¬ NS RB) (hne : RM ≠ RB) (hBn : Bn ≤ w.heap.size) (hj : j < ts.len)
    {k : Int} {s : ByteArray} {n : Int} {pp : Option Addr} {cc : Nat} {kids rest : Ts} (hd : ts.drop j = .cons k s n pp cc kids rest) (hk : 0 ≤ k ∧ k ≤ 255) (hs : s.size ≤ 140737488351232) {n1 : Int} {st1 : σ} (hn1 : (if (k == 1) = true then step st n else (n, st)) = (n1, st1))
    (hn : -9223372036854775808 ≤ n1 ∧ n1 ≤ 9223372036854775807) {W4 w5 W6 : World} (k4 : Kp B0 RM RB NS wr W4) (hT4 : wr.heap.size < W4.heap.size) (c4 : ∀ y, W4.cell? ⟨RB, y, none⟩ = wr.cell? ⟨RB, y, none⟩) (f4 : ∀ y, W4.frozen? ⟨RB, y, none⟩ = wr.frozen? ⟨RB, y, none⟩)
    {us : Ts} {q : Option Addr} (hat : Ts.AtQ (inR RB oc (oc + kids.size * 4)) w5 q us) (htw : Ts.twin us (renT step kids st1).1) (hok : us.ok) (hq : q = none → us.len = 0) (hroom : Room RM RB (oc + kids.size * 4) (rem' - kids.size) w5) (hni : NI (renT step kids st1).2 w5) (k5 : Kp B0 RM RB NS W4 w5)
    (c5 : ∀ y, y < oc ∨ oc + kids.size * 4 ≤ y → w5.cell? ⟨RB, y, none⟩ = W4.cell? ⟨RB, y, none⟩) (f5 : ∀ y, w5.frozen? ⟨RB, y, none⟩ = W4.frozen? ⟨RB, y, none⟩)
    (hW6 : W6 = (((((w5.setCell ⟨wr.heap.size, 3, none⟩ (.slice q us.len us.len)).setCell ⟨RB, o + j * 4, none⟩ (.int .u8 k)).setCell ⟨RB, o + j * 4 + 1, none⟩ (.string s)).setCell ⟨RB, o + j * 4 + 2, none⟩ (.int .i64 n1)).setCell ⟨RB, o + j * 4 + 3, none⟩ (.slice q us.len us.len)))
    (hul : kids.size ≤ 900000) (hkr : kids.size ≤ rem') :
    RIn step cnt NI NS B0 RM RB o rem ts R fin w W6 (renT step kids st1).2 (j + 1) (oc + kids.size * 4) (rem' - kids.size) := by
  have hws := h.kp.size
  have hTB : wr.heap.size ≠ RB := by omega
  have hTM : wr.heap.size ≠ RM := by omega
  have e3 := h.e3
  have row5 : ∀ y, o ≤ y → y < o + ts.len * 4 → (w5.cell? ⟨RB, y, none⟩).isSome := fun y h1 h2 => by
    rw [c5 y (.inl (by omega)), c4 y]; exact h.row y h1 h2
  obtain ⟨W, hW, z1, z2, z3, q0, q1, q2, q3, z4, z5⟩ := put_step w5 wr.heap.size RB (o + j * 4) (.slice q us.len us.len) (.int .u8 k) (.string s) (.int .i64 n1) (.slice q us.len us.len) hTB (row5 _ (by omega) (by omega)) (row5 _ (by omega) (by omega)) (row5 _ (by omega) (by omega)) (row5 _ (by omega) (by omega))
  have hheap : ∀ b, b ≠ wr.heap.size → b ≠ RB → W6.heap[b]? = w5.heap[b]? := fun b h1 h2 => by rw [hW6]; exact put_heap _ _ _ _ _ _ _ _ _ b h1 h2
  rw [← hW6] at hW
  subst hW
  clear hW6
  have hrest := h.rest
  rw [hd] at hrest
  simp only [renT, hn1] at hrest
  have hR : R.drop j = .cons k s n1 none 0 (renT step kids st1).1 (renT step rest (renT step kids st1).2).1 := (congrArg Prod.fst hrest).symm
  have hF : (renT step rest (renT step kids st1).2).2 = fin := congrArg Prod.snd hrest
  have sd := Ts.drop_succ j ts hd
  have sR := Ts.drop_succ j R hR
  have he2 := h.e2
  rw [hd] at he2
  simp only [Ts.size, Ts.len] at he2
  have hlr := Ts.len_size rest
  have hlk := Ts.twin_len _ _ htw
  rw [renT_len] at hlk
  have hlk2 := Ts.len_size kids
  have k6 : Kp B0 RM RB NS w W := by
    refine ⟨by have := k4.size; have := k5.size; omega, z5 _ _ (by omega) hRB.1 ((h.kp.trans k4).trans k5).B, fun b hb h1 h2 h3 => ?_⟩
    rw [hheap b (by omega) h2]
    exact ((h.kp.trans k4).trans k5).old b hb h1 h2 h3
  have cRB : ∀ y, y < o + j * 4 ∨ o + j * 4 + 4 ≤ y → y < oc ∨ oc + kids.size * 4 ≤ y → W.cell? ⟨RB, y, none⟩ = wr.cell? ⟨RB, y, none⟩ := fun y h1 h2 => (z3 y h1).trans ((c5 y h2).trans (c4 y))
  refine ⟨k6, ?_, ?_, ?_, ?_, by omega, ?_, ?_, ?_, ?_, ?_, ?_⟩
  · obtain ⟨⟨o', r1, r2⟩, r3, r4, r5⟩ := hroom
    refine ⟨⟨o', (z2 RM 0 (Ne.symm hTM) hne).trans r1, r2⟩, (z4 _ _).trans r3, fun y h1 h2 => ?_, fun y h1 h2 => (z4 _ _).trans (r5 y h1 h2)⟩
    rw [z3 y (.inr (by omega))]
    exact r4 y h1 h2
  · refine N.stay _ _ _ hni (fun b hb => hheap b ?_ ?_) (by rw [z1]; exact Nat.le_refl _)
    · have := N.own b hb; omega
    · intro e; subst e; exact hRB.2.2 hb
  · have := h.e1; omega
  · rw [sd]; omega
  · intro m hm k' s' n' p' c' kd rs hmd
    by_cases e : m = j
    · subst e
      rw [hR] at hmd
      injection hmd with e1 e2 e3' e4 e5 e6 e7
      subst e1 e2 e3' e4 e5 e6 e7
      exact ⟨q, us, q0, q1, q2, q3, hat.stay (fun b y hb => ⟨hb.1, by have := hb.2.1; omega, hb.2.2⟩) (fun b y hb => by obtain ⟨rfl, h1, h2⟩ := hb; exact z3 y (.inr (by omega))), htw, hok, hq, by omega, hk, hs, hn⟩
    · obtain ⟨q', kd', d0, d1, d2, d3, d4, d5⟩ := h.done m (by omega) _ _ _ _ _ _ _ hmd
      have hy : ∀ i, i < 4 → W.cell? ⟨RB, o + m * 4 + i, none⟩ = wr.cell? ⟨RB, o + m * 4 + i, none⟩ := fun i hi => cRB _ (.inl (by omega)) (.inl (by omega))
      refine ⟨q', kd', (hy 0 (by omega)).trans d0, (hy 1 (by omega)).trans d1, (hy 2 (by omega)).trans d2, (hy 3 (by omega)).trans d3, d4.stay (fun b y hb => ⟨hb.1, hb.2.1, by have := hb.2.2; omega⟩) (fun b y hb => by obtain ⟨rfl, h1, h2⟩ := hb; exact cRB y (.inr (by omega)) (.inl h2)), d5⟩
  · intro y h1 h2
    by_cases hx : y < o + j * 4 ∨ o + j * 4 + 4 ≤ y
    · rw [z3 y hx]; exact row5 y h1 h2
    · obtain hx | hx | hx | hx : y = o + j * 4 ∨ y = o + j * 4 + 1 ∨ y = o + j * 4 + 2 ∨ y = o + j * 4 + 3 := by omega
      · rw [hx, q0]; rfl
      · rw [hx, q1]; rfl
      · rw [hx, q2]; rfl
      · rw [hx, q3]; rfl
  · exact fun y => (z4 _ _).trans ((f5 y).trans ((f4 y).trans (h.frow y)))
  · intro y hy
    exact (cRB y (by omega) (by omega)).trans (h.out y (by omega))
  · rw [sd, sR, ← hF]
  · have h1 := h.cnt
    rw [hd] at h1
    simp only [Ts.size] at h1
    have h2 : cnt st1 ≤ cnt st + 1 := by
      have : (if (k == 1) = true then step st n else (n, st)).2 = st1 := by rw [hn1]
      rw [← this]
      split
      · exact N.grow st n
      · simp
    have h3 := renT_cnt step cnt N.grow kids st1
    rw [sd]
    omega

theorem RIn.start {σ : Type} {step : σ → Int → Int × σ} {cnt : σ → Nat} {NI : σ → World → Prop} {NS : Nat → Prop} {B0 Bn RM RB o rem : Nat} {ts : Ts} {w : World} {st : σ} {g NB : Nat} (N : Nm step cnt g NB NI NS B0 Bn) (hRM : B0 ≤ RM ∧ RM < Bn ∧ ¬ NS RM) (_hRB : B0 ≤ RB ∧ RB < Bn ∧ ¬ NS RB) (hne : RM ≠ RB)
    (hroom : Room RM RB o rem w) (hni : NI st w) (hrem : ts.size ≤ rem) (hcnt : cnt st + ts.size ≤ 1000000) {o2 m : Nat} (hm : m = rem - ts.len) (ho : m = 0 ∨ o2 = o + ts.len * 4) :
    RIn step cnt NI NS B0 RM RB o rem ts (renT step ts st).1 (renT step ts st).2 w (w.setCell ⟨RM, 0, none⟩ (.slice (some ⟨RB, o2, none⟩) m m)) st 0 (o + ts.len * 4) (rem - ts.len) := by
  have hls := Ts.len_size ts
  have hb : ∀ b, b ≠ RM → (w.setCell ⟨RM, 0, none⟩ (.slice (some ⟨RB, o2, none⟩) m m)).heap[b]? = w.heap[b]? := fun b h => Below.heap_setCell _ _ _ _ (by simpa using h)
  have hcl : ∀ b y, b ≠ RM → (w.setCell ⟨RM, 0, none⟩ (.slice (some ⟨RB, o2, none⟩) m m)).cell? ⟨b, y, none⟩ = w.cell? ⟨b, y, none⟩ := fun b y h => World.cell?_of_block (a := ⟨b, y, none⟩) (hb b h)
  obtain ⟨⟨o', r1, r2⟩, r3, r4, r5⟩ := hroom
  refine ⟨⟨by simp, (Below.refl _ _).setCell (p := ⟨RM, 0, none⟩) hRM.1 _, fun b _ h1 _ _ => hb b h1⟩, ⟨⟨o2, ?_, by rw [← hm]; exact ho⟩, by rw [World.frozen?_setCell]; exact r3, fun y h1 h2 => ?_, fun y h1 h2 => ?_⟩, ?_, by omega, ?_, Nat.le_refl _, fun m hm => by omega, fun y h1 h2 => ?_, fun y => World.frozen?_setCell _ _ _ _, fun y _ => hcl _ _ (Ne.symm hne), rfl, hcnt⟩
  · rw [World.cell?_setCell_same _ _ _ r1, hm]
  · rw [hcl _ _ (Ne.symm hne)]; exact r4 y (by omega) (by omega)
  · rw [World.frozen?_setCell]; exact r5 y (by omega) (by omega)
  · exact N.stay _ _ _ hni (fun b hb' => hb b (fun e => hRM.2.2 (e ▸ hb'))) (by simp)
  · simp only [Ts.drop]; omega
  · rw [hcl _ _ (Ne.symm hne)]; exact r4 y (by omega) (by omega)

end Go.Proofs.Ytnmhnaanpjlniaa
