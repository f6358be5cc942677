import Derived.Test.YtflomdnjabgnaaaTp
/-
  Plain facts of lists of terms: how many nodes the law lets in; twins are alike in all that is asked.
-/
namespace Go.Proofs.Ytflomdnjabgnaaa
open Go.RowKit

theorem manyP_size : ∀ (ts : Ts) (n : Int), 0 ≤ n → manyP ts n < 2000 → n + (ts.size : Int) ≤ manyP ts n
  | .nil, n, _, _ => by simp [manyP, Ts.size]
  | .cons _ s _ _ _ kids rest, n, h0, h => by
    unfold manyP at h ⊢
    by_cases hn : n < 2000
    · rw [if_pos hn] at h ⊢
      have hd : 0 ≤ (s.size : Int) / 200 * 2000 := by omega
      have h1 := manyP_ge rest (manyP kids (n + 1 + (s.size : Int) / 200 * 2000))
      have h2 := manyP_ge kids (n + 1 + (s.size : Int) / 200 * 2000)
      have h3 := manyP_size kids (n + 1 + (s.size : Int) / 200 * 2000) (by omega) (by omega)
      have h4 := manyP_size rest _ (by omega) h
      simp only [Ts.size]
      omega
    · rw [if_neg hn] at h
      omega

theorem small_of_many {ts : Ts} (h : decide (1000 < manyP ts 0) = false) : ts.size ≤ 1000 := by
  have h1 : ¬ 1000 < manyP ts 0 := by simpa using h
  have h2 := manyP_size ts 0 (by omega) (by omega)
  omega

theorem alike_refl : ∀ ts : Ts, alike ts ts = true
  | .nil => rfl
  | .cons _ s _ _ _ kids rest => by
    have : (s.toList == s.toList) = true := by simp
    simp only [alike, alike_refl kids, alike_refl rest, this, beq_self_eq_true, Bool.and_self]

namespace Ts
theorem twin_symm : ∀ (us ts : Ts), twin us ts → twin ts us
  | .nil, .nil, _ => trivial
  | .cons _ _ _ _ _ k r, .cons _ _ _ _ _ k' r', h => ⟨h.1.symm, h.2.1.symm, h.2.2.1.symm, twin_symm k k' h.2.2.2.1, twin_symm r r' h.2.2.2.2⟩
  | .nil, .cons .., h => h.elim
  | .cons .., .nil, h => h.elim

theorem twin_alike : ∀ (us ts vs : Ts), twin us ts → alike us vs = alike ts vs
  | .nil, .nil, _, _ => rfl
  | .cons _ _ _ _ _ k r, .cons _ _ _ _ _ k' r', .cons _ _ _ _ _ k2 r2, h => by
    obtain ⟨rfl, rfl, rfl, h1, h2⟩ := h
    simp only [alike, twin_alike k k' k2 h1, twin_alike r r' r2 h2]
  | .cons .., .cons .., .nil, _ => by simp [alike]
  | .nil, .cons .., _, h => h.elim
  | .cons .., .nil, _, h => h.elim

theorem twin_depth : ∀ (us ts : Ts), twin us ts → depthL us = depthL ts
  | .nil, .nil, _ => rfl
  | .cons _ _ _ _ _ k r, .cons _ _ _ _ _ k' r', h => by simp only [depthL, twin_depth k k' h.2.2.2.1, twin_depth r r' h.2.2.2.2]
  | .nil, .cons .., h => h.elim
  | .cons .., .nil, h => h.elim

theorem twin_shape : ∀ (us ts : Ts), twin us ts → shapeL us = shapeL ts
  | .nil, .nil, _ => rfl
  | .cons _ _ _ _ _ k r, .cons _ _ _ _ _ k' r', h => by
    obtain ⟨rfl, rfl, rfl, h1, h2⟩ := h
    simp only [shapeL, twin_shape k k' h1, twin_shape r r' h2, twin_len k k' h1]
  | .nil, .cons .., h => h.elim
  | .cons .., .nil, h => h.elim

/-- of a node, what stays the same in a twin -/
def mark (x : Nd) : Int × Int := (x.k, x.n)

theorem twin_marks : ∀ (us ts : Ts), twin us ts → (nodesOf us).map mark = (nodesOf ts).map mark
  | .nil, .nil, _ => rfl
  | .cons _ _ _ _ _ k r, .cons _ _ _ _ _ k' r', h => by
    obtain ⟨rfl, rfl, rfl, h1, h2⟩ := h
    simp only [nodesOf, List.map_cons, List.map_append, twin_marks k k' h1, twin_marks r r' h2, mark]
  | .nil, .cons .., h => h.elim
  | .cons .., .nil, h => h.elim
end Ts

theorem noVar_marks (l : List Nd) : noVar l = (l.map Ts.mark).all fun x => !(x.1 == 1) := by
  simp only [noVar, List.all_map]
  rfl

/-- the numbers of the variables, each once -/
def newNum (acc : List Int) (x : Int × Int) : List Int := if x.1 == 1 then (if acc.contains x.2 then acc else acc ++ [x.2]) else acc
def numsOf (l : List (Int × Int)) : List Int := l.foldl newNum []

/-- each number is within 64 bits -/
theorem nodes_wf : ∀ (ts : Ts), ts.ok → ∀ x ∈ nodesOf ts, -9223372036854775808 ≤ x.n ∧ x.n ≤ 9223372036854775807
  | .nil, _, x, hx => by cases hx
  | .cons k s n p c kids rest, h, x, hx => by
    rcases List.mem_cons.1 hx with rfl | hx
    · exact h.2.2.1
    · rcases List.mem_append.1 hx with hx | hx
      · exact nodes_wf kids h.2.2.2.2.2.1 x hx
      · exact nodes_wf rest h.2.2.2.2.2.2 x hx

end Go.Proofs.Ytflomdnjabgnaaa
