import Derived.Test.YtflomdnjabgnaaaTi
/-
  Clones of terms.
-/
namespace Go.Proofs.Ytflomdnjabgnaaa
open Go.RowKit

namespace Ts
/-- like lies, in blocks from one on -/
def liesB (B : Nat) (w : World) : Nat → Nat → Ts → Prop
  | _, _, .nil => True
  | b, o, .cons k s n p cap kids rest =>
    B ≤ b ∧ w.cell? ⟨b, o, none⟩ = some (.int .u8 k) ∧ w.cell? ⟨b, o + 1, none⟩ = some (.string s) ∧ w.cell? ⟨b, o + 2, none⟩ = some (.int .i64 n) ∧ w.cell? ⟨b, o + 3, none⟩ = some (.slice p kids.len cap) ∧
    (∃ b' o', (kids = .nil ∨ p = some ⟨b', o', none⟩) ∧ liesB B w b' o' kids) ∧ liesB B w b (o + 4) rest

def AtB (B : Nat) (w : World) (p : Option Addr) (ts : Ts) : Prop := ∃ b o, (ts = .nil ∨ p = some ⟨b, o, none⟩) ∧ ts.liesB B w b o

theorem liesB_lies {B : Nat} {w : World} : ∀ (ts : Ts) {b o : Nat}, ts.liesB B w b o → ts.lies w b o
  | .nil, _, _, _ => trivial
  | .cons _ _ _ _ _ kids rest, _, _, ⟨_, h0, h1, h2, h3, ⟨b', o', h4, h5⟩, h6⟩ => ⟨h0, h1, h2, h3, ⟨b', o', h4, liesB_lies kids h5⟩, liesB_lies rest h6⟩

theorem AtB.at {B : Nat} {w : World} {p : Option Addr} {ts : Ts} (h : AtB B w p ts) : At w p ts := by
  obtain ⟨b, o, h1, h2⟩ := h
  exact ⟨b, o, h1, liesB_lies ts h2⟩

theorem liesB_stay {B B' : Nat} {w w' : World} (hBB : B' ≤ B) (hc : ∀ b o, B ≤ b → b < w.heap.size → w'.cell? ⟨b, o, none⟩ = w.cell? ⟨b, o, none⟩) : ∀ (ts : Ts) {b o : Nat}, ts.liesB B w b o → ts.liesB B' w' b o
  | .nil, _, _, _ => trivial
  | .cons k s n p cap kids rest, b, o, ⟨hb, h0, h1, h2, h3, ⟨b', o', h4, h5⟩, h6⟩ => by
    have hlt : b < w.heap.size := World.block_lt_of_cell? _ _ h0
    exact ⟨Nat.le_trans hBB hb, (hc _ _ hb hlt).trans h0, (hc _ _ hb hlt).trans h1, (hc _ _ hb hlt).trans h2, (hc _ _ hb hlt).trans h3, ⟨b', o', h4, liesB_stay hBB hc kids h5⟩, liesB_stay hBB hc rest h6⟩

theorem AtB.stay {B B' : Nat} {w w' : World} {p : Option Addr} {ts : Ts} (h : AtB B w p ts) (hBB : B' ≤ B) (hc : ∀ b o, B ≤ b → b < w.heap.size → w'.cell? ⟨b, o, none⟩ = w.cell? ⟨b, o, none⟩) : AtB B' w' p ts := by
  obtain ⟨b, o, h1, h2⟩ := h
  exact ⟨b, o, h1, liesB_stay hBB hc ts h2⟩

/-- the same terms, lying elsewhere -/
def twin : Ts → Ts → Prop
  | .nil, .nil => True
  | .cons k s n _ _ kids rest, .cons k' s' n' _ _ kids' rest' => k = k' ∧ s = s' ∧ n = n' ∧ twin kids kids' ∧ twin rest rest'
  | _, _ => False

theorem twin_len : ∀ (us ts : Ts), twin us ts → us.len = ts.len
  | .nil, .nil, _ => rfl
  | .cons _ _ _ _ _ _ r, .cons _ _ _ _ _ _ r', h => by simp only [len]; rw [twin_len r r' h.2.2.2.2]
  | .nil, .cons .., h => h.elim
  | .cons .., .nil, h => h.elim

theorem twin_size : ∀ (us ts : Ts), twin us ts → us.size = ts.size
  | .nil, .nil, _ => rfl
  | .cons _ _ _ _ _ k r, .cons _ _ _ _ _ k' r', h => by simp only [size]; rw [twin_size k k' h.2.2.2.1, twin_size r r' h.2.2.2.2]
  | .nil, .cons .., h => h.elim
  | .cons .., .nil, h => h.elim

theorem twin_refl : ∀ ts : Ts, twin ts ts
  | .nil => trivial
  | .cons _ _ _ _ _ k r => ⟨rfl, rfl, rfl, twin_refl k, twin_refl r⟩

/-- the first elements have been copied -/
def Done (w : World) (R : Nat) (ts : Ts) (j : Nat) : Prop := ∀ m, m < j → ∀ k s n p c kids rest, ts.drop m = .cons k s n p c kids rest →
  ∃ p' c' kids', w.cell? ⟨R, m * 4, none⟩ = some (.int .u8 k) ∧ w.cell? ⟨R, m * 4 + 1, none⟩ = some (.string s) ∧ w.cell? ⟨R, m * 4 + 2, none⟩ = some (.int .i64 n) ∧ w.cell? ⟨R, m * 4 + 3, none⟩ = some (.slice p' kids'.len c') ∧
    AtB (R + 1) w p' kids' ∧ twin kids' kids ∧ kids'.ok ∧ (kids'.len ≤ c' ∧ c' ≤ 9223372036854775807) ∧ (p' = none → c' = 0)

theorem Done.made {w : World} {R : Nat} {ts : Ts} (h : Done w R ts ts.len) (hok : ts.ok) : ∃ us : Ts, us.liesB R w R 0 ∧ twin us ts ∧ us.ok := by
  have build : ∀ i, i ≤ ts.len → ∃ us : Ts, us.liesB R w R ((ts.len - i) * 4) ∧ twin us (ts.drop (ts.len - i)) ∧ us.ok := by
    intro i
    induction i with
    | zero =>
      intro _
      refine ⟨.nil, trivial, ?_, trivial⟩
      rw [Ts.len_zero (ts := ts.drop (ts.len - 0)) (by rw [Ts.drop_len]; omega)]
      trivial
    | succ i ih =>
      intro hi
      obtain ⟨us, h1, h2, h3⟩ := ih (by omega)
      have hlt : ts.len - (i + 1) < ts.len := by omega
      obtain ⟨k, s, n, p, c, kids, rest, hd⟩ := Ts.drop_cons hlt
      have hokd := Ts.ok_drop (ts.len - (i + 1)) ts hok
      rw [hd] at hokd
      obtain ⟨p', c', kids', c0, c1, c2, c3, hat, ht, hok', hl, hp⟩ := h _ hlt _ _ _ _ _ _ _ hd
      have hs := Ts.drop_succ _ ts hd
      rw [show ts.len - (i + 1) + 1 = ts.len - i from by omega] at hs
      rw [hs] at h2
      obtain ⟨b', o', e1, e2⟩ := hat
      refine ⟨.cons k s n p' c' kids' us, ⟨Nat.le_refl _, c0, c1, c2, c3, ⟨b', o', e1, liesB_stay (Nat.le_succ R) (fun _ _ _ _ => rfl) kids' e2⟩, ?_⟩, ?_, ⟨hokd.1, hokd.2.1, hokd.2.2.1, hl, hp, hok', h3⟩⟩
      · rw [show (ts.len - (i + 1)) * 4 + 4 = (ts.len - i) * 4 from by omega]; exact h1
      · rw [hd]; exact ⟨rfl, rfl, rfl, ht, h2⟩
  obtain ⟨us, h1, h2, h3⟩ := build ts.len (Nat.le_refl _)
  rw [Nat.sub_self] at h1 h2
  exact ⟨us, by simpa using h1, h2, h3⟩
end Ts

def zeroTerm : Value := .agg #[.int .u8 0, .string ByteArray.empty, .int .i64 0, .slice none 0 0]
def zeroCells (n : Nat) : Array Value := madeCells zeroTerm.cells (n * 4)
theorem size_zeroCells (n : Nat) : (zeroCells n).size = n * 4 := size_madeCells _ _
theorem infoTerm : (Try.prog.info? 24).map (fun i => (i.zero, i.size, i.bytes)) = some (some zeroTerm, 4, 56) := by kernel_rfl

theorem make_terms (n : Nat) (hn : n ≤ 1000000) (w : World) :
    (Instr.makeSlice 22 (.int .i64 (n : Int)) (.int .i64 (n : Int))).run Try.prog w = .ok (.slice (some ⟨w.heap.size, 0, none⟩) n n) (w.alloc (.cells (zeroCells n) 24)) := by
  obtain ⟨i, hi, hz, hs, hb⟩ := info_parts infoTerm
  have h := run_make (w := w) 22 24 i zeroTerm Try.underlying22 hi hz .i64 .i64 (n : Int) (n : Int) (by omega) (by omega) (by rw [hb]; omega) (by omega)
  rw [hs] at h
  exact h

end Go.Proofs.Ytflomdnjabgnaaa
