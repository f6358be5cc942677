/-
  A list of terms copied into a row of its own, and cleared again.
-/
import Derived.Test.YtlhclblekpngnaaUa
import Derived.Laws.AppendOwnNone
namespace Go.Proofs.Ytlhclblekpngnaa
open Go.RowKit

/-- the cells of a list, one behind the other -/
def cellsL : Ts → List Value
  | .nil => []
  | .cons k s n p c kids rest => .int .u8 k :: .string s :: .int .i64 n :: .slice p kids.len c :: cellsL rest

theorem cellsL_length : ∀ ts : Ts, (cellsL ts).length = ts.len * 4
  | .nil => rfl
  | .cons _ _ _ _ _ _ r => by simp only [cellsL, List.length_cons, cellsL_length r, Ts.len]; omega

theorem cellsL_one : ∀ (ts : Ts), ∀ u ∈ cellsL ts, u.oneCell' = true
  | .nil, u, h => by cases h
  | .cons _ _ _ _ _ _ r, u, h => by
    simp only [cellsL, List.mem_cons] at h
    rcases h with rfl | rfl | rfl | rfl | h
    · rfl
    · rfl
    · rfl
    · rfl
    · exact cellsL_one r u h

theorem cellsL_of {w : World} : ∀ (ts : Ts) {b o : Nat}, ts.lies w b o → ∀ (j : Nat) (u : Value), (cellsL ts)[j]? = some u → w.cell? ⟨b, o + j, none⟩ = some u
  | .nil, _, _, _, j, u, h => by simp [cellsL] at h
  | .cons _ _ _ _ _ _ r, b, o, hl, j, u, h => by
    obtain ⟨h0, h1, h2, h3, _, h5⟩ := hl
    match j, h with
    | 0, h => simp [cellsL] at h; subst h; exact h0
    | 1, h => simp [cellsL] at h; subst h; exact h1
    | 2, h => simp [cellsL] at h; subst h; exact h2
    | 3, h => simp [cellsL] at h; subst h; exact h3
    | j + 4, h =>
      have := cellsL_of r h5 j u (by simpa [cellsL] using h)
      rw [show o + (j + 4) = o + 4 + j from by omega]
      exact this

theorem lies_copy {W W' : World} (hst : ∀ b o, b < W.heap.size → W'.cell? ⟨b, o, none⟩ = W.cell? ⟨b, o, none⟩) : ∀ (ts : Ts) {b o b' o' : Nat}, ts.lies W b o → (∀ (j : Nat) (u : Value), (cellsL ts)[j]? = some u → W'.cell? ⟨b', o' + j, none⟩ = some u) → ts.lies W' b' o'
  | .nil, _, _, _, _, _, _ => trivial
  | .cons _ _ _ _ _ kids r, b, o, b', o', hl, h => by
    obtain ⟨_, _, _, _, ⟨bb, oo, hk, hlk⟩, h5⟩ := hl
    refine ⟨h 0 _ rfl, h 1 _ rfl, h 2 _ rfl, h 3 _ rfl, ⟨bb, oo, hk, Ts.lies_stay hst kids hlk⟩, lies_copy hst r h5 fun j u hj => ?_⟩
    have := h (j + 4) u (by simpa [cellsL] using hj)
    rw [show o' + 4 + j = o' + (j + 4) from by omega]
    exact this

theorem row_cells {w : World} {g n size : Nat} {e : TypeId} {cur : Array Value} {xs : List Value} (hg : w.heap[g]? = some (.cells cur e (0, 0))) (ht : cur.toList.take (n * size) = xs) (hl : xs.length = n * size) :
    (∀ j u, xs[j]? = some u → w.cell? ⟨g, 0 + j, none⟩ = some u) ∧ ∀ y, w.frozen? ⟨g, y, none⟩ = false := by
  refine ⟨fun j u hj => ?_, fun y => ?_⟩
  · have hjl : j < n * size := by have := (List.getElem?_eq_some_iff.1 hj).1; omega
    rw [← ht, List.getElem?_take_of_lt hjl, Array.getElem?_toList] at hj
    simp only [World.cell?, hg, Nat.zero_add]
    exact hj
  · simp [World.frozen?, hg]

/-- a term put into a list's place -/
theorem zero_step (w' : World) (R x : Nat) (v0 v1 v2 v3 : Value) :
    ∃ W, W = ((((w'.setCell ⟨R, x, none⟩ v0).setCell ⟨R, x + 1, none⟩ v1).setCell ⟨R, x + 2, none⟩ v2).setCell ⟨R, x + 3, none⟩ v3) ∧ W.heap.size = w'.heap.size ∧
      (∀ b y, b ≠ R → W.cell? ⟨b, y, none⟩ = w'.cell? ⟨b, y, none⟩) ∧ (∀ y, (w'.cell? ⟨R, y, none⟩).isSome → (W.cell? ⟨R, y, none⟩).isSome) ∧
      (∀ b y, W.frozen? ⟨b, y, none⟩ = w'.frozen? ⟨b, y, none⟩) ∧ (∀ B (w : World), B ≤ R → Below B w w' → Below B w W) := by
  have some1 : ∀ (u : World) (p q : Addr) (v : Value), (u.cell? q).isSome → ((u.setCell p v).cell? q).isSome := fun u p q v h => by
    by_cases e : p = q
    · subst e
      obtain ⟨y, hy⟩ := Option.isSome_iff_exists.1 h
      rw [World.cell?_setCell_same _ _ _ hy]
      rfl
    · rw [World.cell?_setCell_other _ _ _ _ e]; exact h
  refine ⟨_, rfl, by simp, fun b y h => ?_, fun y h => some1 _ _ _ _ (some1 _ _ _ _ (some1 _ _ _ _ (some1 _ _ _ _ h))), fun b y => by simp, fun B w hR hB => ?_⟩
  · have hb : ∀ z : Nat, (⟨R, z, none⟩ : Addr) ≠ ⟨b, y, none⟩ := fun z e => h (by injection e with e1; exact e1.symm)
    rw [World.cell?_setCell_other _ _ _ _ (hb _), World.cell?_setCell_other _ _ _ _ (hb _), World.cell?_setCell_other _ _ _ _ (hb _), World.cell?_setCell_other _ _ _ _ (hb _)]
  · exact (((hB.setCell (p := ⟨R, x, none⟩) hR _).setCell (p := ⟨R, x + 1, none⟩) hR _).setCell (p := ⟨R, x + 2, none⟩) hR _).setCell (p := ⟨R, x + 3, none⟩) hR _

end Go.Proofs.Ytlhclblekpngnaa
