import Derived.Test.YtflomdnjabgnaaaAb
import Derived.Maps.OwnSet
/-
  Layer 3: nodes of a substitution as they lie in memory.
-/
namespace Go.Proofs.Ytflomdnjabgnaaa
open Go.RowKit Go.Maps

/-- a map's value, kept as it is -/
def heldElem (v : Value) : Option (DataW Value × List MemPlace) := some (.held v, [])

theorem held_inv {v u : Value} {d : DataW Value} {ps : List MemPlace} (h : heldElem v = some (d, ps)) (hd : d = .held u) : v = u := by
  unfold heldElem at h
  have h1 := Option.some.inj h
  have h2 := congrArg Prod.fst h1
  simp only at h2
  rw [hd] at h2
  injection h2

theorem zeroTermRun (w : World) : (zeroValue 24).run Try.prog w = .ok zeroTerm w := by kernel_rfl

def valOf : Option Nd → Value
  | none => zeroTerm
  | some x => x.val

/-- a map of terms holds what numbers are bound to -/
def LeafIs (w : World) (c MB : Nat) (f : Sb) : Prop :=
  ∃ m D, m ≤ c ∧ w.ownsMap Try.prog 2 heldElem MB m D ∧ ∀ v : Int, (-9223372036854775808 ≤ v ∧ v ≤ 9223372036854775807) → Maps.has D (.int .i64 v) = (f v).isSome ∧ D.atKey (.int .i64 v) (.held zeroTerm) = .held (valOf (f v))

/-- the cells of a node -/
def kidCells (ks : Nat → Option Addr) (last : Value) : Array Value :=
  #[.pointer (ks 0), .pointer (ks 1), .pointer (ks 2), .pointer (ks 3), .pointer (ks 4), .pointer (ks 5), .pointer (ks 6), .pointer (ks 7), .pointer (ks 8), .pointer (ks 9), .pointer (ks 10), .pointer (ks 11), .pointer (ks 12), .pointer (ks 13), .pointer (ks 14), .pointer (ks 15), last]

theorem kidCells_size (ks : Nat → Option Addr) (last : Value) : (kidCells ks last).size = 17 := rfl
theorem kidCells_last (ks : Nat → Option Addr) (last : Value) : (kidCells ks last)[16]? = some last := rfl
theorem sixteen {P : Nat → Prop} (h0 : P 0) (h1 : P 1) (h2 : P 2) (h3 : P 3) (h4 : P 4) (h5 : P 5) (h6 : P 6) (h7 : P 7) (h8 : P 8) (h9 : P 9) (h10 : P 10) (h11 : P 11) (h12 : P 12) (h13 : P 13) (h14 : P 14) (h15 : P 15) : ∀ i, i < 16 → P i := by
  intro i hi
  obtain rfl | rfl | rfl | rfl | rfl | rfl | rfl | rfl | rfl | rfl | rfl | rfl | rfl | rfl | rfl | rfl : i = 0 ∨ i = 1 ∨ i = 2 ∨ i = 3 ∨ i = 4 ∨ i = 5 ∨ i = 6 ∨ i = 7 ∨ i = 8 ∨ i = 9 ∨ i = 10 ∨ i = 11 ∨ i = 12 ∨ i = 13 ∨ i = 14 ∨ i = 15 := by omega
  all_goals assumption
theorem kidCells_kid (ks : Nat → Option Addr) (last : Value) : ∀ i, i < 16 → (kidCells ks last)[i]? = some (.pointer (ks i)) :=
  sixteen rfl rfl rfl rfl rfl rfl rfl rfl rfl rfl rfl rfl rfl rfl rfl rfl

def putKid (ks : Nat → Option Addr) (i : Nat) (q : Option Addr) : Nat → Option Addr := fun j => if j = i then q else ks j
theorem kidCells_put (ks : Nat → Option Addr) (last : Value) (q : Option Addr) : ∀ i, i < 16 → (kidCells ks last).setIfInBounds i (.pointer q) = kidCells (putKid ks i q) last :=
  sixteen rfl rfl rfl rfl rfl rfl rfl rfl rfl rfl rfl rfl rfl rfl rfl rfl

/-- what is bound, of the numbers that a kid has -/
def only (f : Sb) (l i : Nat) : Sb := fun v => if kidOf v l = i then f v else none

/-- a node of a level lies where a pointer leads -/
def NodeAt (w : World) (c : Nat) : Nat → Option Addr → Sb → Prop
  | 0, p, f => (p = none ∧ ∀ v, f v = none) ∨ ∃ N MB, p = some ⟨N, 0, none⟩ ∧ w.heap[N]? = some (.cells (kidCells (fun _ => none) (.map (some MB))) 86 (0, 0)) ∧ LeafIs w c MB f
  | l + 1, p, f => (p = none ∧ ∀ v, f v = none) ∨ ∃ N ks, p = some ⟨N, 0, none⟩ ∧ w.heap[N]? = some (.cells (kidCells ks (.map none)) 86 (0, 0)) ∧ ∀ i, i < 16 → NodeAt w c l (ks i) (only f (l + 1) i)

theorem NodeAt.none (w : World) (c : Nat) : ∀ l, NodeAt w c l none Sb.none
  | 0 => .inl ⟨rfl, fun _ => rfl⟩
  | _ + 1 => .inl ⟨rfl, fun _ => rfl⟩

theorem NodeAt.of_none {w : World} {c : Nat} : ∀ {l : Nat} {f : Sb}, NodeAt w c l Option.none f → ∀ v, f v = Option.none
  | 0, f, h => by
    rcases h with ⟨_, h⟩ | ⟨N, MB, h, _⟩
    · exact h
    · cases h
  | _ + 1, f, h => by
    rcases h with ⟨_, h⟩ | ⟨N, MB, h, _⟩
    · exact h
    · cases h

theorem NodeAt.none_of {w : World} {c : Nat} {f : Sb} (h : ∀ v, f v = Option.none) : ∀ (l : Nat), NodeAt w c l Option.none f
  | 0 => .inl ⟨rfl, h⟩
  | _ + 1 => .inl ⟨rfl, h⟩

theorem LeafIs.mono {w : World} {c c' MB : Nat} {f : Sb} (h : LeafIs w c MB f) (hc : c ≤ c') : LeafIs w c' MB f := by
  obtain ⟨m, D, hm, h1, h2⟩ := h
  exact ⟨m, D, Nat.le_trans hm hc, h1, h2⟩

/-- another world, in which all blocks of nodes and maps are as they were -/
theorem NodeAt.stay {w w' : World} {c c' : Nat} (hc : c ≤ c') (hs : ∀ b : Nat, (∃ ks u, w.heap[b]? = some (Obj.cells (kidCells ks u) 86 (0, 0))) ∨ (∃ es k, w.heap[b]? = some (Obj.map es k)) → w'.heap[b]? = w.heap[b]?) : ∀ {l : Nat} {p : Option Addr} {f : Sb}, NodeAt w c l p f → NodeAt w' c' l p f
  | 0, p, f, h => by
    rcases h with h | ⟨N, MB, h1, h2, m, D, hm, h3, h4⟩
    · exact .inl h
    · obtain ⟨es, clock, hb, F, hz, hD⟩ := h3
      exact .inr ⟨N, MB, h1, (hs N (.inl ⟨_, _, h2⟩)).trans h2, m, D, Nat.le_trans hm hc, ⟨es, clock, (hs MB (.inr ⟨_, _, hb⟩)).trans hb, F, hz, hD⟩, h4⟩
  | l + 1, p, f, h => by
    rcases h with h | ⟨N, ks, h1, h2, h3⟩
    · exact .inl h
    · exact .inr ⟨N, ks, h1, (hs N (.inl ⟨_, _, h2⟩)).trans h2, fun i hi => (h3 i hi).stay hc hs⟩

theorem NodeAt.below {w w' : World} {c : Nat} {l : Nat} {p : Option Addr} {f : Sb} (h : NodeAt w c l p f) (hB : Below w.heap.size w w') : NodeAt w' c l p f :=
  h.stay (Nat.le_refl _) (fun b hb => hB.block b (by
    rcases hb with ⟨_, _, h⟩ | ⟨_, _, h⟩
    all_goals exact (Array.getElem?_eq_some_iff.1 h).1))

/-- a block of three cells turns -/
theorem NodeAt.grown {w w' : World} {c S : Nat} {l : Nat} {p : Option Addr} {f : Sb} (h : NodeAt w c l p f) (hg : w.grownBy w' (some S)) {cs : Array Value} {t : TypeId} {fr : Nat × Nat} (hS : w.heap[S]? = some (.cells cs t fr)) (hz : cs.size ≠ 17) : NodeAt w' c l p f :=
  h.stay (Nat.le_refl _) (fun b hb => hg.block b (by
    rcases hb with ⟨_, _, h⟩ | ⟨_, _, h⟩
    all_goals exact (Array.getElem?_eq_some_iff.1 h).1) (fun e => by
    cases e
    rcases hb with ⟨ks, u, h⟩ | ⟨_, _, h⟩
    · rw [hS] at h
      cases h
      exact hz (kidCells_size _ _)
    · rw [hS] at h
      cases h))

/-- a substitution in memory: where its root is, how many levels it has, and what is bound; what is bound lies in memory -/
structure SubAt (S : Nat) (σ : Sb) (n : Nat) (w : World) : Prop where
  cells : ∃ p h, w.heap[S]? = some (.cells #[.pointer p, .int .u64 (h : Nat), .int .i64 (n : Nat)] 79 (0, 0)) ∧ h ≤ 15 ∧ NodeAt w n h p σ ∧ ∀ v, σ v ≠ none → 0 ≤ v ∧ v ≤ 9223372036854775807 ∧ ¬ isBeyond v h
  ends : Ends σ
  at_ : ∀ v x, σ v = some x → Ts.At w x.p x.kids ∧ Ts.ok (.cons x.k x.s x.n x.p x.c x.kids .nil) ∧ x.kids.size ≤ 5000

theorem SubAt.lt {S : Nat} {σ : Sb} {n : Nat} {w : World} (h : SubAt S σ n w) : S < w.heap.size := by
  obtain ⟨p, hh, h1, _⟩ := h.cells
  exact (Array.getElem?_eq_some_iff.1 h1).1

theorem SubAt.below {S : Nat} {σ : Sb} {n : Nat} {w w' : World} (h : SubAt S σ n w) (hB : Below w.heap.size w w') : SubAt S σ n w' := by
  obtain ⟨p, hh, h1, h2, h3, h4⟩ := h.cells
  exact ⟨⟨p, hh, (hB.block S h.lt).trans h1, h2, h3.below hB, h4⟩, h.ends, fun v x hx => ⟨(h.at_ v x hx).1.below hB, (h.at_ v x hx).2⟩⟩

theorem Ts.lies_small {w w' : World} {S : Nat} (hg : w.grownBy w' (some S)) {cs : Array Value} {t : TypeId} {fr : Nat × Nat} (hS : w.heap[S]? = some (.cells cs t fr)) (hz : cs.size < 4) : ∀ (ts : Ts) {b o : Nat}, ts.lies w b o → ts.lies w' b o
  | .nil, _, _, _ => trivial
  | .cons k s n p cap kids rest, b, o, ⟨h0, h1, h2, h3, ⟨b', o', h4, h5⟩, h6⟩ => by
    have hb : b ≠ S := fun e => by
      subst e
      simp only [World.cell?, hS] at h3
      have := (Array.getElem?_eq_some_iff.1 h3).1
      omega
    have e := fun y => World.cell?_of_block (a := ⟨b, y, none⟩) (hg.block b (World.block_lt_of_cell? _ _ h0) (fun e => hb (by cases e; rfl)))
    exact ⟨(e _).trans h0, (e _).trans h1, (e _).trans h2, (e _).trans h3, ⟨b', o', h4, lies_small hg hS hz kids h5⟩, lies_small hg hS hz rest h6⟩

theorem Ts.At.small {w w' : World} {S : Nat} (hg : w.grownBy w' (some S)) {cs : Array Value} {t : TypeId} {fr : Nat × Nat} (hS : w.heap[S]? = some (.cells cs t fr)) (hz : cs.size < 4) {p : Option Addr} {ts : Ts} (h : Ts.At w p ts) : Ts.At w' p ts := by
  obtain ⟨b, o, h1, h2⟩ := h
  exact ⟨b, o, h1, Ts.lies_small hg hS hz ts h2⟩

/-- a walked term lies in memory -/
theorem SubAt.walked {S : Nat} {σ : Sb} {n : Nat} {w : World} (h : SubAt S σ n w) {t : Nd} (ht : Ts.At w t.p t.kids ∧ Ts.ok (.cons t.k t.s t.n t.p t.c t.kids .nil) ∧ t.kids.size ≤ 5000) :
    Ts.At w (wk σ t).p (wk σ t).kids ∧ Ts.ok (.cons (wk σ t).k (wk σ t).s (wk σ t).n (wk σ t).p (wk σ t).c (wk σ t).kids .nil) ∧ (wk σ t).kids.size ≤ 5000 := by
  have hs := wk_spec h.ends t
  generalize wk σ t = r at *
  generalize wkn σ t = m at *
  induction hs with
  | stop _ => exact ht
  | go _ hb _ ih => exact ih (h.at_ _ _ hb)

end Go.Proofs.Ytflomdnjabgnaaa
