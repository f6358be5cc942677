import Derived.Test.YtnmhnaanpjlniaaGreatTp
import Derived.Test.YtnmhnaanpjlniaaGreatTj
import Derived.Deep.QuietTactic
import Derived.BigQuiet
/-
  Plain facts of lists of terms: how many nodes the law lets in; twins are alike in all that is asked.
-/
namespace Go.Proofs.YtnmhnaanpjlniaaGreat
open Go.RowKit

theorem manyP_size : ∀ (ts : Ts) (n : Int), 0 ≤ n → manyP ts n < 2000 → n + (ts.size : Int) ≤ manyP ts n
  | .nil, n, _, _ => by simp [manyP, Ts.size]
  | .cons _ s _ _ _ kids rest, n, h0, h => by
    unfold manyP at h ⊢
    by_cases hn : n < 2000
    · rw [if_pos hn] at h ⊢
      have hd : 0 ≤ (s.size : Int) / 200 * 2000 := by omega
      have h1 := manyP_ge rest (manyP kids (n + 1 + (s.size : Int) / 200 * 2000))
      have h2 := manyP_ge kids (n + 1 + (s.size : Int) / 200 * 2000)
      have h3 := manyP_size kids (n + 1 + (s.size : Int) / 200 * 2000) (by omega) (by omega)
      have h4 := manyP_size rest _ (by omega) h
      simp only [Ts.size]
      omega
    · rw [if_neg hn] at h
      omega

theorem small_of_many {ts : Ts} (h : decide (1000 < manyP ts 0) = false) : ts.size ≤ 1000 := by
  have h1 : ¬ 1000 < manyP ts 0 := by simpa using h
  have h2 := manyP_size ts 0 (by omega) (by omega)
  omega

theorem alike_refl : ∀ ts : Ts, alike ts ts = true
  | .nil => rfl
  | .cons _ s _ _ _ kids rest => by
    have : (s.toList == s.toList) = true := by simp
    simp only [alike, alike_refl kids, alike_refl rest, this, beq_self_eq_true, Bool.and_self]

namespace Ts
theorem twin_symm : ∀ (us ts : Ts), twin us ts → twin ts us
  | .nil, .nil, _ => trivial
  | .cons _ _ _ _ _ k r, .cons _ _ _ _ _ k' r', h => ⟨h.1.symm, h.2.1.symm, h.2.2.1.symm, twin_symm k k' h.2.2.2.1, twin_symm r r' h.2.2.2.2⟩
  | .nil, .cons .., h => h.elim
  | .cons .., .nil, h => h.elim

theorem twin_alike : ∀ (us ts vs : Ts), twin us ts → alike us vs = alike ts vs
  | .nil, .nil, _, _ => rfl
  | .cons _ _ _ _ _ k r, .cons _ _ _ _ _ k' r', .cons _ _ _ _ _ k2 r2, h => by
    obtain ⟨rfl, rfl, rfl, h1, h2⟩ := h
    simp only [alike, twin_alike k k' k2 h1, twin_alike r r' r2 h2]
  | .cons .., .cons .., .nil, _ => by simp [alike]
  | .nil, .cons .., _, h => h.elim
  | .cons .., .nil, _, h => h.elim



/-- of a node, what stays the same in a twin -/
def mark (x : Nd) : Int × Int := (x.k, x.n)

end Ts


/-- the numbers of the variables, each once -/
def newNum (acc : List Int) (x : Int × Int) : List Int := if x.1 == 1 then (if acc.contains x.2 then acc else acc ++ [x.2]) else acc
def numsOf (l : List (Int × Int)) : List Int := l.foldl newNum []


end Go.Proofs.YtnmhnaanpjlniaaGreat
/-
  Lists of numbers: In, Numbers.
-/
namespace Go.Proofs.YtnmhnaanpjlniaaGreat
open Go.RowKit

/-- a list of numbers lies where a slice leads -/
def IsInts (w : World) (p : Option Addr) (zs : List Int) : Prop := ∃ b o, (zs = [] ∨ p = some ⟨b, o, none⟩) ∧ ∀ (i : Nat) (h : i < zs.length), w.cell? ⟨b, o + i, none⟩ = some (.int .i64 zs[i])




end Go.Proofs.YtnmhnaanpjlniaaGreat
/-
  Vars, by the iterator.
-/
namespace Go.Proofs.YtnmhnaanpjlniaaGreat
open Go.RowKit Go.Maps
attribute [local go_sem] Oper.semAt_some

/-- the map's keys -/
def Sd (acc : List Int) : DataW Unit := setOf (.agg []) (acc.map (Lit.int .i64))






/-- the body's own blocks -/
def ours (R : Nat) (W : World) (k : Nat) : Prop := k = R ∨ k = R + 1 ∨ (R + 4 ≤ k ∧ (W.heap.size < R + 4 ∨ ∃ off len cap, W.cell? ⟨R, 0, none⟩ = some (.slice (some ⟨k, off, none⟩) len cap)))

/-- between two rounds -/
def Has (w : World) (pre : List Nd) (W : World) : Prop :=
  ∃ v, W.cell? ⟨w.heap.size, 0, none⟩ = some v ∧ W.frozen? ⟨w.heap.size, 0, none⟩ = false ∧ W.cell? ⟨w.heap.size + 1 + 1, 0, none⟩ = some (.map (some (w.heap.size + 1))) ∧
    W.ownsMap Tryz.prog 2 unitElem (w.heap.size + 1) pre.length (Sd (numsOf (pre.map Ts.mark))) ∧ W.ownsRow (w.heap.size + 4) 2 1 v (numsOf (pre.map Ts.mark)).length ((numsOf (pre.map Ts.mark)).map (Value.int .i64)) ∧
    w.heap.size + 4 ≤ W.heap.size ∧ Below w.heap.size w W


theorem Has.grown {w : World} {pre : List Nd} {W W' : World} {row : Option Nat} (h : Has w pre W) (hg : W.grownBy W' row) (hr : ∀ r, row = some r → w.heap.size + 4 ≤ r ∧ ((∃ o : Obj, W.heap[r]? = some o ∧ o.isCells = false) ∨ ¬ ours w.heap.size W r)) : Has w pre W' := by
  obtain ⟨v, h1, h2, h3, h4, h5, h6, h7⟩ := h
  have hb : ∀ q, q < w.heap.size + 4 → q < W.heap.size → W'.heap[q]? = W.heap[q]? := fun q hq hlt => hg.block q hlt (fun e => by have := (hr _ e.symm).1; omega)
  refine ⟨v, (World.cell?_of_block (a := ⟨w.heap.size, 0, none⟩) (hb _ (by simp) (by simp; omega))).trans h1, (World.frozen?_of_block (a := ⟨w.heap.size, 0, none⟩) (hb _ (by simp) (by simp; omega))).trans h2, (World.cell?_of_block (a := ⟨w.heap.size + 1 + 1, 0, none⟩) (hb _ (by simp) (by simp; omega))).trans h3, h4.kept hg (fun e => by have := (hr _ e.symm).1; omega), h5.kept hg ?_, Nat.le_trans h6 hg.size, h7.grown hg (by omega) (fun r e => by have := (hr r e).1; omega)⟩
  rcases h5.2 with ⟨rfl, _⟩ | ⟨g, cap, cur, rfl, hge, hh, _⟩
  · exact .inl rfl
  · refine .inr fun e => ?_
    rcases (hr g e.symm).2 with ⟨o, ho, hno⟩ | hnm
    · rw [hh] at ho; cases ho; cases hno
    · exact hnm (.inr (.inr ⟨hge, .inr ⟨0, _, _, h1⟩⟩))

theorem Has.same {w : World} {pre pre' : List Nd} {W : World} (h : Has w pre W) (hn : numsOf (pre'.map Ts.mark) = numsOf (pre.map Ts.mark)) (hl : pre.length ≤ pre'.length) : Has w pre' W := by
  obtain ⟨v, h1, h2, h3, h4, h5, h6, h7⟩ := h
  exact ⟨v, h1, h2, h3, by rw [hn]; exact h4.mono hl, by rw [hn]; exact h5, h6, h7⟩


end Go.Proofs.YtnmhnaanpjlniaaGreat
