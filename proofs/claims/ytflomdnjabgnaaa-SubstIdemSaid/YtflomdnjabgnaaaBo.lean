import Derived.Test.YtflomdnjabgnaaaBk
import Derived.Test.YtflomdnjabgnaaaTu
/-
  Layer 3: plain facts for the law SubstIdem: what is applied has no bound variables, and each of them occurs.
-/
namespace Go.Proofs.Ytflomdnjabgnaaa
open Go.RowKit

/-- no variable in it is bound -/
def FixT (σ : Sb) : Ts → Prop
  | .nil => True
  | .cons k _ n _ _ kids rest => ((k == 1) = false ∨ σ n = none) ∧ FixT σ kids ∧ FixT σ rest
def FixN (σ : Sb) (x : Nd) : Prop := ((x.k == 1) = false ∨ σ x.n = none) ∧ FixT σ x.kids
def FixL (σ : Sb) (l : List Nd) : Prop := ∀ x ∈ l, FixN σ x

theorem App.fix {σ : Sb} (hE : Ends σ) {l : List Nd} {us : Ts} (h : App σ l us) : FixT σ us := by
  induction h with
  | nil => trivial
  | @cons t _ _ _ _ _ _ _ ih ih' => exact ⟨(wk_spec hE t).ends, ih, ih'⟩

theorem FixT.elems {σ : Sb} : ∀ {ts : Ts}, FixT σ ts → FixL σ (elems ts)
  | .nil, _, x, hx => by simp [Go.Proofs.Ytflomdnjabgnaaa.elems] at hx
  | .cons _ _ _ _ _ _ _, h, x, hx => by
    simp only [Go.Proofs.Ytflomdnjabgnaaa.elems, List.mem_cons] at hx
    rcases hx with rfl | hx
    · exact ⟨h.1, h.2.1⟩
    · exact FixT.elems h.2.2 x hx

theorem FixL.app {σ : Sb} {l m : List Nd} (h : FixL σ l) (h' : FixL σ m) : FixL σ (l ++ m) := fun x hx => (List.mem_append.1 hx).elim (h x) (h' x)

theorem App.of_fix {σ : Sb} : ∀ {ts : Ts} {vs : Ts}, FixT σ ts → App σ (elems ts) vs → Ts.twin vs ts
  | .nil, vs, _, h => by cases h; trivial
  | .cons k s n p c kids rest, vs, hf, h => by
    cases h with
    | cons g g' =>
      have e : wk σ ⟨k, s, n, p, c, kids⟩ = ⟨k, s, n, p, c, kids⟩ := wk_stop hf.1
      rw [e] at g ⊢
      exact ⟨rfl, rfl, rfl, App.of_fix hf.2.1 g, App.of_fix hf.2.2 g'⟩

def sumL : List Nd → Nat
  | [] => 0
  | x :: l => x.kids.size + 1 + sumL l
theorem sumL_app : ∀ l m : List Nd, sumL (l ++ m) = sumL l + sumL m
  | [], m => by simp [sumL]
  | x :: l, m => by simp only [List.cons_append, sumL, sumL_app l m]; omega
theorem sumL_elems : ∀ ts : Ts, sumL (elems ts) = ts.size
  | .nil => rfl
  | .cons _ _ _ _ _ _ r => by simp only [elems, sumL, Ts.size, sumL_elems r]; omega

theorem vis_fix {σ : Sb} : ∀ (f : Nat) {l : List Nd}, FixL σ l → (vis σ f l).length ≤ sumL l
  | 0, _, _ => by simp [vis]
  | _ + 1, [], _ => by simp [vis]
  | f + 1, t :: rest, h => by
    have e : wk σ t = t := wk_stop (h t (by simp)).1
    simp only [vis, List.length_cons, e, sumL]
    have h2 := vis_fix f (l := elems t.kids ++ rest) ((FixT.elems (h t (by simp)).2).app fun x hx => h x (by simp [hx]))
    rw [sumL_app, sumL_elems] at h2
    omega

theorem App.append {σ : Sb} {l m : List Nd} {us vs : Ts} (h : App σ l us) (h' : App σ m vs) : App σ (l ++ m) (us.app vs) := by
  induction h with
  | nil => exact h'
  | cons h1 _ _ ih => exact .cons h1 ih

theorem nodesOf_app : ∀ t u : Ts, nodesOf (t.app u) = nodesOf t ++ nodesOf u
  | .nil, _ => rfl
  | .cons _ _ _ _ _ _ r, u => by simp only [Ts.app, nodesOf, nodesOf_app r u, List.cons_append, List.append_assoc]

/-- what is visited of a term are the nodes of what it becomes, applied -/
theorem vis_nodes {σ : Sb} : ∀ (f : Nat) {l : List Nd} {us : Ts}, App σ l us → (vis σ f l).length < f → (vis σ f l).map Ts.mark = (nodesOf us).map Ts.mark
  | 0, _, _, _, h => by omega
  | _ + 1, [], _, h, _ => by cases h; rfl
  | f + 1, t :: rest, us, h, hl => by
    cases h with
    | cons h h' =>
      simp only [vis, List.length_cons] at hl
      have ih := vis_nodes f (h.append h') (by omega)
      simp only [vis, List.map_cons, nodesOf, ih, nodesOf_app]
      rfl

theorem posA_mem (v : Int) : ∀ (l : List Nd) (i : Nat), (∃ x ∈ l, (x.k == 1) = true ∧ x.n = v) → 0 ≤ posA v i l
  | [], _, h => by obtain ⟨x, hx, _⟩ := h; cases hx
  | y :: l, i, h => by
    simp only [posA]
    split
    · omega
    · rename_i hn
      refine posA_mem v l (i + 1) ?_
      obtain ⟨x, hx, h1, h2⟩ := h
      rcases List.mem_cons.1 hx with rfl | hx
      · exact absurd (by rw [h1, h2]; simp) hn
      · exact ⟨x, hx, h1, h2⟩

/-- each variable of what a term becomes occurs in it -/
theorem occ_applied {σ : Sb} {t : Nd} {us : Ts} (h : App σ [t] us) (hl : (vis σ 4097 [t]).length ≤ 4096) {v : Int} (hv : v ∈ numsOf ((nodesOf us).map Ts.mark)) : occ v (num 0 (vis σ 4097 [t])) = (true, 0) := by
  rw [← vis_nodes 4097 h (by omega), numsOf_mem] at hv
  obtain ⟨x, hx, h1, h2⟩ := hv
  obtain ⟨y, hy, rfl⟩ := List.mem_map.1 hx
  have hp := posA_mem v _ 0 ⟨y, hy, h1, h2.symm⟩
  have hp2 := posA_le v (vis σ 4097 [t]) 0
  rw [occ_pos v _ 0 (by omega) (by omega), if_pos ⟨hp, by omega⟩]

theorem FixT.of_mem {σ : Sb} : ∀ {ts : Ts}, FixT σ ts → ∀ x ∈ nodesOf ts, (x.k == 1) = false ∨ σ x.n = none
  | .nil, _, x, hx => by cases hx
  | .cons _ _ _ _ _ _ _, h, x, hx => by
    simp only [nodesOf, List.mem_cons, List.mem_append] at hx
    rcases hx with rfl | hx | hx
    · exact h.1
    · exact FixT.of_mem h.2.1 x hx
    · exact FixT.of_mem h.2.2 x hx

/-- a variable of what a term becomes is not bound -/
theorem free_applied {σ : Sb} {us : Ts} (h : FixT σ us) {v : Int} (hv : v ∈ numsOf ((nodesOf us).map Ts.mark)) : σ v = none := by
  rw [numsOf_mem] at hv
  obtain ⟨x, hx, h1, h2⟩ := hv
  obtain ⟨y, hy, rfl⟩ := List.mem_map.1 hx
  rcases FixT.of_mem h y hy with h3 | h3
  · exact absurd h1 (by show ¬ (y.k == 1) = true; rw [h3]; simp)
  · rw [h2]; exact h3

/-- another substitution turns -/
theorem SubAt.apart {S S2 : Nat} {σ σ2 : Sb} {n n2 : Nat} {w w' : World} (h : SubAt S σ n w) (h2 : SubAt S2 σ2 n2 w) (hne : S ≠ S2) (hg : w.grownBy w' (some S2)) : SubAt S σ n w' := by
  obtain ⟨p, hh, h1, h3, h4, h5⟩ := h.cells
  obtain ⟨p2, hh2, g1, _⟩ := h2.cells
  exact ⟨⟨p, hh, (hg.block S h.lt (fun e => hne (by cases e; rfl))).trans h1, h3, h4.grown hg g1 (by simp), h5⟩, h.ends, fun v x hx => ⟨(h.at_ v x hx).1.small hg g1 (by simp), (h.at_ v x hx).2⟩⟩

/-- the term as it is applied, as a list -/
theorem Ap.list {σ : Sb} {t X : Nd} (h : Ap σ t X) : App σ [t] (.cons X.k X.s X.n X.p X.c X.kids .nil) := by
  rw [h.k, h.s, h.n]
  exact .cons h.app .nil

/-- applied again it is the same -/
theorem Ap.again {σ : Sb} {t X Y : Nd} (hE : Ends σ) (h : Ap σ t X) (h2 : Ap σ X Y) : X.twin Y := by
  have hf := h.list.fix hE
  have e : wk σ X = X := wk_stop hf.1
  have h3 := h2.app
  rw [e] at h3
  refine ⟨by rw [h2.k, e], by rw [h2.s, e], by rw [h2.n, e], Ts.twin_symm _ _ (App.of_fix hf.2.1 h3)⟩

theorem Ap.same {σ : Sb} {t X Y : Nd} (h : Ap σ t X) (h2 : Ap σ t Y) : X.twin Y := ⟨by rw [h.k, h2.k], by rw [h.s, h2.s], by rw [h.n, h2.n], h.app.twin h2.app⟩

theorem Ap.few {σ : Sb} {t X : Nd} (hE : Ends σ) (h : Ap σ t X) : (vis σ 4097 [X]).length ≤ 4096 := by
  have hf := h.list.fix hE
  have h1 := vis_fix 4097 (σ := σ) (l := [X]) (fun x hx => by
    simp only [List.mem_singleton] at hx
    subst hx
    exact ⟨hf.1, hf.2.1⟩)
  have := h.sz
  simp only [sumL] at h1
  omega

end Go.Proofs.Ytflomdnjabgnaaa
