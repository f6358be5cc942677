import Derived.Test.YtnmhnaanpjlniaaTz
/-
  Layer 5: lists of terms with other numbers, taken out of a room: what lies where.
-/
namespace Go.Proofs.Ytnmhnaanpjlniaa
open Go.RowKit

namespace Ts
/-- like lies, each element within places that are allowed -/
def liesQ (Q : Nat → Nat → Prop) (w : World) : Nat → Nat → Ts → Prop
  | _, _, .nil => True
  | b, o, .cons k s n p cap kids rest =>
    (∀ y, o ≤ y → y < o + 4 → Q b y) ∧ w.cell? ⟨b, o, none⟩ = some (.int .u8 k) ∧ w.cell? ⟨b, o + 1, none⟩ = some (.string s) ∧ w.cell? ⟨b, o + 2, none⟩ = some (.int .i64 n) ∧ w.cell? ⟨b, o + 3, none⟩ = some (.slice p kids.len cap) ∧
    (∃ b' o', (kids = .nil ∨ p = some ⟨b', o', none⟩) ∧ liesQ Q w b' o' kids) ∧ liesQ Q w b (o + 4) rest

def AtQ (Q : Nat → Nat → Prop) (w : World) (p : Option Addr) (ts : Ts) : Prop := ∃ b o, (ts = .nil ∨ p = some ⟨b, o, none⟩) ∧ ts.liesQ Q w b o

theorem liesQ_lies {Q : Nat → Nat → Prop} {w : World} : ∀ (ts : Ts) {b o : Nat}, ts.liesQ Q w b o → ts.lies w b o
  | .nil, _, _, _ => trivial
  | .cons _ _ _ _ _ kids rest, _, _, ⟨_, h0, h1, h2, h3, ⟨b', o', h4, h5⟩, h6⟩ => ⟨h0, h1, h2, h3, ⟨b', o', h4, liesQ_lies kids h5⟩, liesQ_lies rest h6⟩

theorem AtQ.at {Q : Nat → Nat → Prop} {w : World} {p : Option Addr} {ts : Ts} (h : AtQ Q w p ts) : At w p ts := by
  obtain ⟨b, o, h1, h2⟩ := h
  exact ⟨b, o, h1, liesQ_lies ts h2⟩

theorem liesQ_stay {Q Q' : Nat → Nat → Prop} {w w' : World} (hQ : ∀ b y, Q b y → Q' b y) (hc : ∀ b y, Q b y → w'.cell? ⟨b, y, none⟩ = w.cell? ⟨b, y, none⟩) : ∀ (ts : Ts) {b o : Nat}, ts.liesQ Q w b o → ts.liesQ Q' w' b o
  | .nil, _, _, _ => trivial
  | .cons k s n p cap kids rest, b, o, ⟨hq, h0, h1, h2, h3, ⟨b', o', h4, h5⟩, h6⟩ =>
    ⟨fun y hy hy' => hQ _ _ (hq y hy hy'), (hc _ _ (hq _ (by omega) (by omega))).trans h0, (hc _ _ (hq _ (by omega) (by omega))).trans h1, (hc _ _ (hq _ (by omega) (by omega))).trans h2, (hc _ _ (hq _ (by omega) (by omega))).trans h3, ⟨b', o', h4, liesQ_stay hQ hc kids h5⟩, liesQ_stay hQ hc rest h6⟩

theorem AtQ.stay {Q Q' : Nat → Nat → Prop} {w w' : World} {p : Option Addr} {ts : Ts} (h : AtQ Q w p ts) (hQ : ∀ b y, Q b y → Q' b y) (hc : ∀ b y, Q b y → w'.cell? ⟨b, y, none⟩ = w.cell? ⟨b, y, none⟩) : AtQ Q' w' p ts := by
  obtain ⟨b, o, h1, h2⟩ := h
  exact ⟨b, o, h1, liesQ_stay hQ hc ts h2⟩

theorem liesQ_liesB {Q : Nat → Nat → Prop} {B : Nat} {w : World} (hQ : ∀ b y, Q b y → B ≤ b) : ∀ (ts : Ts) {b o : Nat}, ts.liesQ Q w b o → ts.liesB B w b o
  | .nil, _, _, _ => trivial
  | .cons _ _ _ _ _ kids rest, _, _, ⟨hq, h0, h1, h2, h3, ⟨b', o', h4, h5⟩, h6⟩ => ⟨hQ _ _ (hq _ (Nat.le_refl _) (by omega)), h0, h1, h2, h3, ⟨b', o', h4, liesQ_liesB hQ kids h5⟩, liesQ_liesB hQ rest h6⟩

theorem AtQ.atB {Q : Nat → Nat → Prop} {B : Nat} {w : World} {p : Option Addr} {ts : Ts} (h : AtQ Q w p ts) (hQ : ∀ b y, Q b y → B ≤ b) : AtB B w p ts := by
  obtain ⟨b, o, h1, h2⟩ := h
  exact ⟨b, o, h1, liesQ_liesB hQ ts h2⟩

theorem drop_append_len : ∀ (i : Nat) (ts : Ts), (ts.drop i).size + i ≤ ts.size + i
  | i, ts => by have := drop_size i ts; omega
end Ts

/-- terms with other numbers of variables; what the names remember goes from node to node -/
def renT {σ : Type} (step : σ → Int → Int × σ) : Ts → σ → Ts × σ
  | .nil, st => (.nil, st)
  | .cons k s n _ _ kids rest, st =>
    (.cons k s (if (k == 1) = true then step st n else (n, st)).1 none 0 (renT step kids (if (k == 1) = true then step st n else (n, st)).2).1 (renT step rest (renT step kids (if (k == 1) = true then step st n else (n, st)).2).2).1,
      (renT step rest (renT step kids (if (k == 1) = true then step st n else (n, st)).2).2).2)

theorem renT_len {σ : Type} (step : σ → Int → Int × σ) : ∀ (ts : Ts) (st : σ), (renT step ts st).1.len = ts.len
  | .nil, _ => rfl
  | .cons _ _ _ _ _ _ rest, st => by simp only [renT, Ts.len, renT_len step rest]

theorem renT_size {σ : Type} (step : σ → Int → Int × σ) : ∀ (ts : Ts) (st : σ), (renT step ts st).1.size = ts.size
  | .nil, _ => rfl
  | .cons _ _ _ _ _ kids rest, st => by simp only [renT, Ts.size, renT_size step rest, renT_size step kids]

/-- how much the names remember grows by one a node at most -/
theorem renT_cnt {σ : Type} (step : σ → Int → Int × σ) (cnt : σ → Nat) (hcnt : ∀ st n, cnt (step st n).2 ≤ cnt st + 1) : ∀ (ts : Ts) (st : σ), cnt (renT step ts st).2 ≤ cnt st + ts.size
  | .nil, _ => by simp [renT, Ts.size]
  | .cons k s n _ _ kids rest, st => by
    have h0 : cnt (if (k == 1) = true then step st n else (n, st)).2 ≤ cnt st + 1 := by
      split
      · exact hcnt st n
      · simp
    have h1 := renT_cnt step cnt hcnt kids (if (k == 1) = true then step st n else (n, st)).2
    have h2 := renT_cnt step cnt hcnt rest (renT step kids (if (k == 1) = true then step st n else (n, st)).2).2
    simp only [renT, Ts.size]
    omega

/-- places of a row -/
def inR (RB lo hi : Nat) (b y : Nat) : Prop := b = RB ∧ lo ≤ y ∧ y < hi

/-- the room that is left -/
structure Room (RM RB o rem : Nat) (w : World) : Prop where
  rm : ∃ o', w.cell? ⟨RM, 0, none⟩ = some (.slice (some ⟨RB, o', none⟩) rem rem) ∧ (rem = 0 ∨ o' = o)
  rmf : w.frozen? ⟨RM, 0, none⟩ = false
  here : ∀ y, o ≤ y → y < o + rem * 4 → (w.cell? ⟨RB, y, none⟩).isSome
  free : ∀ y, o ≤ y → y < o + rem * 4 → w.frozen? ⟨RB, y, none⟩ = false

/-- the first elements have been put -/
def DoneR (RB o lo hi : Nat) (w : World) (R : Ts) (j : Nat) : Prop := ∀ m, m < j → ∀ k s n p c kids rest, R.drop m = .cons k s n p c kids rest →
  ∃ q kids', w.cell? ⟨RB, o + m * 4, none⟩ = some (.int .u8 k) ∧ w.cell? ⟨RB, o + m * 4 + 1, none⟩ = some (.string s) ∧ w.cell? ⟨RB, o + m * 4 + 2, none⟩ = some (.int .i64 n) ∧ w.cell? ⟨RB, o + m * 4 + 3, none⟩ = some (.slice q kids'.len kids'.len) ∧
    Ts.AtQ (inR RB lo hi) w q kids' ∧ Ts.twin kids' kids ∧ kids'.ok ∧ (q = none → kids'.len = 0) ∧ kids'.len ≤ 1000000 ∧ (0 ≤ k ∧ k ≤ 255) ∧ s.size ≤ 140737488351232 ∧ (-9223372036854775808 ≤ n ∧ n ≤ 9223372036854775807)

theorem DoneR.made {RB o lo hi : Nat} {w : World} {R : Ts} (h : DoneR RB o lo hi w R R.len) (hlo : o ≤ lo) (hhi : o + R.len * 4 ≤ hi) : ∃ us : Ts, us.liesQ (inR RB o hi) w RB o ∧ Ts.twin us R ∧ us.ok := by
  have build : ∀ i, i ≤ R.len → ∃ us : Ts, us.liesQ (inR RB o hi) w RB (o + (R.len - i) * 4) ∧ Ts.twin us (R.drop (R.len - i)) ∧ us.ok := by
    intro i
    induction i with
    | zero =>
      intro _
      refine ⟨.nil, trivial, ?_, trivial⟩
      rw [Ts.len_zero (ts := R.drop (R.len - 0)) (by rw [Ts.drop_len]; omega)]
      trivial
    | succ i ih =>
      intro hi'
      obtain ⟨us, h1, h2, h3⟩ := ih (by omega)
      have hlt : R.len - (i + 1) < R.len := by omega
      obtain ⟨k, s, n, p, c, kids, rest, hd⟩ := Ts.drop_cons hlt
      obtain ⟨q, kids', c0, c1, c2, c3, hat, ht, hok', hq, hl, hk, hs, hn⟩ := h _ hlt _ _ _ _ _ _ _ hd
      have hsd := Ts.drop_succ _ R hd
      rw [show R.len - (i + 1) + 1 = R.len - i from by omega] at hsd
      rw [hsd] at h2
      refine ⟨.cons k s n q kids'.len kids' us, ⟨fun y hy hy' => ⟨rfl, by omega, by omega⟩, c0, c1, c2, c3, hat.stay (fun b y hb => ⟨hb.1, by have := hb.2.1; omega, hb.2.2⟩) (fun _ _ _ => rfl), ?_⟩, ?_, ⟨hk, hs, hn, ⟨Nat.le_refl _, by omega⟩, hq, hok', h3⟩⟩
      · rw [show o + (R.len - (i + 1)) * 4 + 4 = o + (R.len - i) * 4 from by omega]; exact h1
      · rw [hd]; exact ⟨rfl, rfl, rfl, ht, h2⟩
  obtain ⟨us, h1, h2, h3⟩ := build R.len (Nat.le_refl _)
  rw [Nat.sub_self] at h1 h2
  exact ⟨us, by simpa using h1, h2, h3⟩
end Go.Proofs.Ytnmhnaanpjlniaa
