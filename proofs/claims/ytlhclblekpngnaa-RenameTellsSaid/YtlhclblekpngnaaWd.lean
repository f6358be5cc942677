/-
  Plain facts for the law RenameTells' own canon: lists that grow by an element.
-/
import Derived.Test.YtlhclblekpngnaaWb
import Derived.Test.YtlhclblekpngnaaUe
namespace Go.Proofs.Ytlhclblekpngnaa
open Go.RowKit

/-- one list behind the other -/
def Ts.app : Ts → Ts → Ts
  | .nil, u => u
  | .cons k s n p c kids rest, u => .cons k s n p c kids (rest.app u)

theorem app_nil : ∀ t : Ts, t.app .nil = t
  | .nil => rfl
  | .cons k s n p c kids rest => by simp only [Ts.app, app_nil rest]

theorem app_assoc : ∀ t u v : Ts, (t.app u).app v = t.app (u.app v)
  | .nil, _, _ => rfl
  | .cons k s n p c kids rest, u, v => by simp only [Ts.app, app_assoc rest u v]

theorem app_len : ∀ t u : Ts, (t.app u).len = t.len + u.len
  | .nil, u => by simp [Ts.app, Ts.len]
  | .cons k s n p c kids rest, u => by simp only [Ts.app, Ts.len, app_len rest u]; omega

theorem cellsL_app : ∀ t u : Ts, cellsL (t.app u) = cellsL t ++ cellsL u
  | .nil, u => rfl
  | .cons k s n p c kids rest, u => by simp only [Ts.app, cellsL, cellsL_app rest u, List.cons_append]

theorem app_twin : ∀ {t u v : Ts}, Ts.twin u v → Ts.twin (t.app u) (t.app v)
  | .nil, _, _, h => h
  | .cons k s n p c kids rest, _, _, h => ⟨rfl, rfl, rfl, Ts.twin_refl kids, app_twin (t := rest) h⟩

theorem twin_trans : ∀ {t u v : Ts}, Ts.twin t u → Ts.twin u v → Ts.twin t v
  | .nil, .nil, .nil, _, _ => trivial
  | .cons _ _ _ _ _ _ _, .cons _ _ _ _ _ _ _, .cons _ _ _ _ _ _ _, h, h' => ⟨h.1.trans h'.1, h.2.1.trans h'.2.1, h.2.2.1.trans h'.2.2.1, twin_trans h.2.2.2.1 h'.2.2.2.1, twin_trans h.2.2.2.2 h'.2.2.2.2⟩
  | .nil, .cons .., _, h, _ => h.elim
  | .cons .., .nil, _, h, _ => h.elim
  | .nil, .nil, .cons .., _, h => h.elim
  | .cons .., .cons .., .nil, _, h => h.elim

theorem app_ok : ∀ {t u : Ts}, t.ok → u.ok → (t.app u).ok
  | .nil, _, _, h => h
  | .cons k s n p c kids rest, _, h, h' => ⟨h.1, h.2.1, h.2.2.1, h.2.2.2.1, h.2.2.2.2.1, h.2.2.2.2.2.1, app_ok h.2.2.2.2.2.2 h'⟩

/-- the parts of a list's elements lie where they say -/
def KidsAt (w : World) : Ts → Prop
  | .nil => True
  | .cons _ _ _ p _ kids rest => Ts.At w p kids ∧ KidsAt w rest

theorem KidsAt.below {w w' : World} (hB : Below w.heap.size w w') : ∀ {ts : Ts}, KidsAt w ts → KidsAt w' ts
  | .nil, _ => trivial
  | .cons _ _ _ _ _ _ _, h => ⟨h.1.below hB, KidsAt.below hB h.2⟩

theorem KidsAt.app {w : World} : ∀ {t u : Ts}, KidsAt w t → KidsAt w u → KidsAt w (t.app u)
  | .nil, _, _, h => h
  | .cons _ _ _ _ _ _ _, _, h, h' => ⟨h.1, KidsAt.app h.2 h'⟩

theorem lies_cells {w : World} : ∀ {ts : Ts} {b o : Nat}, (∀ (j : Nat) (u : Value), (cellsL ts)[j]? = some u → w.cell? ⟨b, o + j, none⟩ = some u) → KidsAt w ts → ts.lies w b o
  | .nil, _, _, _, _ => trivial
  | .cons k s n p c kids rest, b, o, h, hk => by
    refine ⟨h 0 _ rfl, h 1 _ rfl, h 2 _ rfl, h 3 _ rfl, hk.1, lies_cells (fun j u hj => ?_) hk.2⟩
    have := h (j + 4) u (by simpa [cellsL] using hj)
    rw [show o + 4 + j = o + (j + 4) from by omega]
    exact this

/-- one round of the law's canon -/
theorem canon_round {G : List Int} {acc R : Ts} {k : Int} {s : ByteArray} {n n' : Int} {p q : Option Addr} {c d : Nat} {kids rest us : Ts}
    (h : Ts.twin (acc.app (renT (stepP G) (.cons k s n p c kids rest) ()).1) R) (hn : (if (k == 1) = true then placeL G n else n) = n') (hu : Ts.twin us (renT (stepP G) kids ()).1) :
    Ts.twin ((acc.app (.cons k s n' q d us .nil)).app (renT (stepP G) rest ()).1) R := by
  refine twin_trans ?_ h
  rw [app_assoc]
  refine app_twin ?_
  simp only [renT, Ts.app]
  refine ⟨rfl, rfl, ?_, hu, Ts.twin_refl _⟩
  rw [← hn]
  split <;> rfl

end Go.Proofs.Ytlhclblekpngnaa
