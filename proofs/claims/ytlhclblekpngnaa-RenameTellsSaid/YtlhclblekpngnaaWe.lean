/-
  Plain facts for the law RenameTells' own canon: where the parts of a growing list lie.
-/
import Derived.Test.YtlhclblekpngnaaWc
import Derived.Test.YtlhclblekpngnaaWd
import Derived.Test.YtlhclblekpngnaaUc
namespace Go.Proofs.Ytlhclblekpngnaa
open Go.RowKit

theorem liesP_mono {P Q : Nat → Prop} {w : World} (hPQ : ∀ b, P b → b < w.heap.size → Q b) : ∀ (ts : Ts) {b o : Nat}, ts.liesP P w b o → ts.liesP Q w b o
  | .nil, _, _, _ => trivial
  | .cons k s n p c kids rest, b, o, h => by
    obtain ⟨h0, h1, h2, h3, h4, ⟨b', o', h5, h6⟩, h7⟩ := h
    exact ⟨hPQ _ h0 (World.block_lt_of_cell? _ _ h1), h1, h2, h3, h4, ⟨b', o', h5, liesP_mono hPQ kids h6⟩, liesP_mono hPQ rest h7⟩

theorem liesP_lies {P : Nat → Prop} {w : World} : ∀ (ts : Ts) {b o : Nat}, ts.liesP P w b o → ts.lies w b o
  | .nil, _, _, _ => trivial
  | .cons k s n p c kids rest, b, o, h => by
    obtain ⟨h0, h1, h2, h3, h4, ⟨b', o', h5, h6⟩, h7⟩ := h
    exact ⟨h1, h2, h3, h4, ⟨b', o', h5, liesP_lies kids h6⟩, liesP_lies rest h7⟩

theorem AtP_at {P : Nat → Prop} {w : World} {p : Option Addr} {ts : Ts} (h : Ts.AtP P w p ts) : Ts.At w p ts := by
  obtain ⟨b, o, h1, h2⟩ := h
  exact ⟨b, o, h1, liesP_lies ts h2⟩

theorem AtP_mono {P Q : Nat → Prop} {w : World} {p : Option Addr} {ts : Ts} (h : Ts.AtP P w p ts) (hPQ : ∀ b, P b → b < w.heap.size → Q b) : Ts.AtP Q w p ts := by
  obtain ⟨b, o, h1, h2⟩ := h
  exact ⟨b, o, h1, liesP_mono hPQ ts h2⟩

theorem placeL_range (G : List Int) (n : Int) (h : G.length ≤ 1000000) : -9223372036854775808 ≤ placeL G n ∧ placeL G n ≤ 9223372036854775807 := by
  unfold placeL
  split
  · have := List.idxOf_le_length (l := G) (a := n)
    omega
  · omega

/-- the parts of a list's elements lie in blocks of a kind -/
def KidsP (P : Nat → Prop) (w : World) : Ts → Prop
  | .nil => True
  | .cons _ _ _ p _ kids rest => Ts.AtP P w p kids ∧ KidsP P w rest

theorem KidsP.stay {P Q : Nat → Prop} {w w' : World} (hc : ∀ b, P b → b < w.heap.size → w'.heap[b]? = w.heap[b]?) (hPQ : ∀ b, P b → b < w.heap.size → Q b) : ∀ {ts : Ts}, KidsP P w ts → KidsP Q w' ts
  | .nil, _ => trivial
  | .cons _ _ _ _ _ _ _, h => ⟨(AtP_mono h.1 (Q := fun b => P b ∧ Q b) fun b hb hl => ⟨hb, hPQ b hb hl⟩).stay (fun b hb hl => hc b hb.1 hl) |> fun h => by
      obtain ⟨b, o, h1, h2⟩ := h
      exact ⟨b, o, h1, liesP_mono (fun b hb _ => hb.2) _ h2⟩, KidsP.stay hc hPQ h.2⟩

theorem KidsP.app {P : Nat → Prop} {w : World} : ∀ {t u : Ts}, KidsP P w t → KidsP P w u → KidsP P w (t.app u)
  | .nil, _, _, h => h
  | .cons _ _ _ _ _ _ _, _, h, h' => ⟨h.1, KidsP.app h.2 h'⟩

theorem liesP_cells {P : Nat → Prop} {w : World} : ∀ {ts : Ts} {b o : Nat}, P b → (∀ (j : Nat) (u : Value), (cellsL ts)[j]? = some u → w.cell? ⟨b, o + j, none⟩ = some u) → KidsP P w ts → ts.liesP P w b o
  | .nil, _, _, _, _, _ => trivial
  | .cons k s n p c kids rest, b, o, hb, h, hk => by
    refine ⟨hb, h 0 _ rfl, h 1 _ rfl, h 2 _ rfl, h 3 _ rfl, hk.1, liesP_cells hb (fun j u hj => ?_) hk.2⟩
    have := h (j + 4) u (by simpa [cellsL] using hj)
    rw [show o + 4 + j = o + (j + 4) from by omega]
    exact this

/-- a list of its own, and the parts of its elements elsewhere -/
def OwnL (base : Nat) (e : TypeId) (v : Value) (acc : Ts) (w : World) : Prop :=
  w.ownsRow base e 4 v acc.len (cellsL acc) ∧ acc.ok ∧ KidsP (fun b => base ≤ b ∧ v.ownBlock ≠ some b) w acc

theorem OwnL.start (base : Nat) (e : TypeId) (w : World) : OwnL base e (.slice none 0 0) .nil w := ⟨World.ownsRow_nil _ _ _ _, trivial, trivial⟩

theorem OwnL.below {base : Nat} {e : TypeId} {v : Value} {acc : Ts} {w w' : World} (h : OwnL base e v acc w) (hB : Below w.heap.size w w') : OwnL base e v acc w' :=
  ⟨own_stay h.1 fun q hq => hB.block q ((h.1.lt q hq).2), h.2.1, KidsP.stay (fun b _ hl => hB.block b hl) (fun _ hb _ => hb) h.2.2⟩

theorem OwnL.push {base m : Nat} {e : TypeId} {v v' : Value} {acc U : Ts} {W W7 : World} {o : Obj} (h : OwnL base e v acc W) (hown : W7.ownsRow base e 4 v' (acc.len + 1) (cellsL acc ++ cellsL U))
    (hg : (W.alloc o).grownBy W7 v.ownBlock) (hob : v'.ownBlock = v.ownBlock ∨ v'.ownBlock = some (W.alloc o).heap.size) (hU : U.len = 1) (hUok : U.ok) (hk : KidsP (fun b => m ≤ b) W U) (hm : base ≤ m) (hgm : ∀ q, v.ownBlock = some q → q < m) : OwnL base e v' (acc.app U) W7 := by
  obtain ⟨h1, h2, h3⟩ := h
  have hk' : KidsP (fun b => base ≤ b ∧ v.ownBlock ≠ some b) W U := KidsP.stay (fun _ _ _ => rfl) (fun b hb _ => ⟨by omega, fun e => by have := hgm b e; omega⟩) hk
  refine ⟨by rw [app_len, cellsL_app, hU]; exact hown, app_ok h2 hUok, KidsP.stay (w := W) (fun b hb hlt => ?_) (fun b hb hlt => ?_) (KidsP.app h3 hk')⟩
  · exact (hg.block b (by simp; omega) (fun e => hb.2 e.symm)).trans (Below.heap_alloc _ _ _ hlt)
  · refine ⟨hb.1, ?_⟩
    rcases hob with e | e
    · rw [e]; exact hb.2
    · rw [e]
      intro e2
      have e3 := Option.some.inj e2
      simp at e3
      omega

/-- a list of its own, read -/
theorem OwnL.at {base : Nat} {e : TypeId} {v : Value} {acc : Ts} {w : World} (h : OwnL base e v acc w) (hne : 0 < acc.len) : ∃ g c, v = .slice (some ⟨g, 0, none⟩) acc.len c ∧ Ts.AtP (fun b => base ≤ b) w (some ⟨g, 0, none⟩) acc := by
  obtain ⟨hrow, hok, hk⟩ := h
  have hlt := hrow.lt
  rcases hrow.2 with ⟨_, h0⟩ | ⟨g, cap, cur, rfl, hg1, hg2, hg3, hg4, hg5, hg6⟩
  · omega
  obtain ⟨hc, _⟩ := row_cells hg2 hg6 (cellsL_length acc)
  exact ⟨g, cap, rfl, g, 0, .inr rfl, liesP_cells (hlt g rfl).1 hc (KidsP.stay (fun _ _ _ => rfl) (fun _ hb _ => hb.1) hk)⟩

/-- a list of its own is a slice's value -/
theorem OwnL.read {base : Nat} {e : TypeId} {v : Value} {acc : Ts} {w : World} (h : OwnL base e v acc w) : ∃ q c, v = .slice q acc.len c ∧ Ts.AtP (fun b => base ≤ b) w q acc ∧ (acc.len ≤ c ∧ c ≤ 9223372036854775807) ∧ (q = none → c = 0) := by
  obtain ⟨hrow, hok, hk⟩ := h
  have hlt := hrow.lt
  rcases hrow.2 with ⟨rfl, h0⟩ | ⟨g, cap, cur, rfl, hg1, hg2, hg3, hg4, hg5, hg6⟩
  · exact ⟨none, 0, by rw [h0], ⟨0, 0, .inl (Ts.len_zero h0), by rw [Ts.len_zero h0]; trivial⟩, ⟨by omega, by omega⟩, fun _ => rfl⟩
  obtain ⟨hc, _⟩ := row_cells hg2 hg6 (cellsL_length acc)
  exact ⟨_, cap, rfl, ⟨g, 0, .inr rfl, liesP_cells (hlt g rfl).1 hc (KidsP.stay (fun _ _ _ => rfl) (fun _ hb _ => hb.1) hk)⟩, ⟨hg3, by unfold maxLen at hg4; omega⟩, fun e => by cases e⟩

end Go.Proofs.Ytlhclblekpngnaa
