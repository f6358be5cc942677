/-
  Plain facts for the law RenameTells: places in a list, and canonical forms by them.
-/
import Derived.Test.YtlhclblekpngnaaVn
import Derived.Test.YtlhclblekpngnaaUa
namespace Go.Proofs.Ytlhclblekpngnaa
open Go.RowKit

/-- where a number is first in a list -/
def placeL (G : List Int) (n : Int) : Int := if G.contains n = true then ((G.idxOf n : Nat) : Int) else -1

def stepP (G : List Int) : Unit → Int → Int × Unit := fun _ n => (placeL G n, ())

theorem stepC_pre (st : List Int) (n : Int) : st <+: (stepC st n).2 := by
  unfold stepC
  split
  · exact List.prefix_refl _
  · exact List.prefix_append _ _

theorem renT_pre : ∀ (ts : Ts) (st : List Int), st <+: (renT stepC ts st).2
  | .nil, _ => List.prefix_refl _
  | .cons k s n p c kids rest, st => by
    simp only [renT]
    refine List.IsPrefix.trans ?_ (renT_pre rest _)
    refine List.IsPrefix.trans ?_ (renT_pre kids _)
    split
    · exact stepC_pre st n
    · exact List.prefix_refl _

theorem placeL_step {st G : List Int} {n : Int} (h : (stepC st n).2 <+: G) : placeL G n = (stepC st n).1 := by
  obtain ⟨t, rfl⟩ := h
  unfold placeL stepC
  by_cases hc : st.contains n = true
  · have hm : n ∈ st := by simpa using hc
    rw [if_pos hc, if_pos (by simp [hm])]
    show (((st ++ t).idxOf n : Nat) : Int) = ((st.idxOf n : Nat) : Int)
    rw [List.idxOf_append, if_pos hm]
  · have hm : n ∉ st := by simpa using hc
    rw [if_neg hc, if_pos (by simp)]
    show (((st ++ [n] ++ t).idxOf n : Nat) : Int) = ((st.length : Nat) : Int)
    rw [List.append_assoc, List.idxOf_append, if_neg hm]
    simp

theorem renT_place : ∀ (ts : Ts) (st G : List Int), (renT stepC ts st).2 <+: G → (renT (stepP G) ts ()).1 = (renT stepC ts st).1
  | .nil, _, _, _ => rfl
  | .cons k s n p c kids rest, st, G, h => by
    simp only [renT] at h ⊢
    have h2 := List.IsPrefix.trans (renT_pre rest _) h
    have h1 := List.IsPrefix.trans (renT_pre kids _) h2
    rw [show ∀ u : Unit, (renT (stepP G) kids u).1 = (renT (stepP G) kids ()).1 from fun _ => rfl, show ∀ u : Unit, (renT (stepP G) rest u).1 = (renT (stepP G) rest ()).1 from fun _ => rfl]
    rw [renT_place kids _ G h2, renT_place rest _ G h]
    congr 1
    by_cases hk : (k == 1) = true
    · rw [if_pos hk, if_pos hk]
      rw [if_pos hk] at h1
      exact placeL_step h1
    · rw [if_neg hk, if_neg hk]

/-- the law's own canonical form is Canon's -/
theorem canon_law (ts : Ts) : (renT (stepP (numsOf ((nodesOf ts).map Ts.mark))) ts ()).1 = (renT stepC ts []).1 :=
  renT_place ts [] _ (by rw [canon_state]; exact List.prefix_refl _)

end Go.Proofs.Ytlhclblekpngnaa
