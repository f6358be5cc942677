import Derived.Test.YtnmhnaanpjlniaaBk
import Derived.Test.YtnmhnaanpjlniaaTu
import Derived.Test.YtnmhnaanpjlniaaEd
import Derived.Test.YtnmhnaanpjlniaaAy
/-
  Layer 3: plain facts for the law SubstIdem: what is applied has no bound variables, and each of them occurs.
-/
namespace Go.Proofs.Ytnmhnaanpjlniaa
open Go.RowKit

/-- no variable in it is bound -/
def FixT (σ : Sb) : Ts → Prop
  | .nil => True
  | .cons k _ n _ _ kids rest => ((k == 1) = false ∨ σ n = none) ∧ FixT σ kids ∧ FixT σ rest
def FixN (σ : Sb) (x : Nd) : Prop := ((x.k == 1) = false ∨ σ x.n = none) ∧ FixT σ x.kids
def FixL (σ : Sb) (l : List Nd) : Prop := ∀ x ∈ l, FixN σ x

theorem App.fix {σ : Sb} (hE : Ends σ) {l : List Nd} {us : Ts} (h : App σ l us) : FixT σ us := by
  induction h with
  | nil => trivial
  | @cons t _ _ _ _ _ _ _ ih ih' => exact ⟨(wk_spec hE t).ends, ih, ih'⟩

theorem FixT.elems {σ : Sb} : ∀ {ts : Ts}, FixT σ ts → FixL σ (elems ts)
  | .nil, _, x, hx => by simp [Go.Proofs.Ytnmhnaanpjlniaa.elems] at hx
  | .cons _ _ _ _ _ _ _, h, x, hx => by
    simp only [Go.Proofs.Ytnmhnaanpjlniaa.elems, List.mem_cons] at hx
    rcases hx with rfl | hx
    · exact ⟨h.1, h.2.1⟩
    · exact FixT.elems h.2.2 x hx

theorem FixL.app {σ : Sb} {l m : List Nd} (h : FixL σ l) (h' : FixL σ m) : FixL σ (l ++ m) := fun x hx => (List.mem_append.1 hx).elim (h x) (h' x)

theorem App.of_fix {σ : Sb} : ∀ {ts : Ts} {vs : Ts}, FixT σ ts → App σ (elems ts) vs → Ts.twin vs ts
  | .nil, vs, _, h => by cases h; trivial
  | .cons k s n p c kids rest, vs, hf, h => by
    cases h with
    | cons g g' =>
      have e : wk σ ⟨k, s, n, p, c, kids⟩ = ⟨k, s, n, p, c, kids⟩ := wk_stop hf.1
      rw [e] at g ⊢
      exact ⟨rfl, rfl, rfl, App.of_fix hf.2.1 g, App.of_fix hf.2.2 g'⟩

def sumL : List Nd → Nat
  | [] => 0
  | x :: l => x.kids.size + 1 + sumL l
theorem sumL_app : ∀ l m : List Nd, sumL (l ++ m) = sumL l + sumL m
  | [], m => by simp [sumL]
  | x :: l, m => by simp only [List.cons_append, sumL, sumL_app l m]; omega
theorem sumL_elems : ∀ ts : Ts, sumL (elems ts) = ts.size
  | .nil => rfl
  | .cons _ _ _ _ _ _ r => by simp only [elems, sumL, Ts.size, sumL_elems r]; omega

theorem vis_fix {σ : Sb} : ∀ (f : Nat) {l : List Nd}, FixL σ l → (vis σ f l).length ≤ sumL l
  | 0, _, _ => by simp [vis]
  | _ + 1, [], _ => by simp [vis]
  | f + 1, t :: rest, h => by
    have e : wk σ t = t := wk_stop (h t (by simp)).1
    simp only [vis, List.length_cons, e, sumL]
    have h2 := vis_fix f (l := elems t.kids ++ rest) ((FixT.elems (h t (by simp)).2).app fun x hx => h x (by simp [hx]))
    rw [sumL_app, sumL_elems] at h2
    omega

theorem App.append {σ : Sb} {l m : List Nd} {us vs : Ts} (h : App σ l us) (h' : App σ m vs) : App σ (l ++ m) (us.app vs) := by
  induction h with
  | nil => exact h'
  | cons h1 _ _ ih => exact .cons h1 ih

theorem nodesOf_app : ∀ t u : Ts, nodesOf (t.app u) = nodesOf t ++ nodesOf u
  | .nil, _ => rfl
  | .cons _ _ _ _ _ _ r, u => by simp only [Ts.app, nodesOf, nodesOf_app r u, List.cons_append, List.append_assoc]

/-- what is visited of a term are the nodes of what it becomes, applied -/
theorem vis_nodes {σ : Sb} : ∀ (f : Nat) {l : List Nd} {us : Ts}, App σ l us → (vis σ f l).length < f → (vis σ f l).map Ts.mark = (nodesOf us).map Ts.mark
  | 0, _, _, _, h => by omega
  | _ + 1, [], _, h, _ => by cases h; rfl
  | f + 1, t :: rest, us, h, hl => by
    cases h with
    | cons h h' =>
      simp only [vis, List.length_cons] at hl
      have ih := vis_nodes f (h.append h') (by omega)
      simp only [vis, List.map_cons, nodesOf, ih, nodesOf_app]
      rfl

theorem posA_mem (v : Int) : ∀ (l : List Nd) (i : Nat), (∃ x ∈ l, (x.k == 1) = true ∧ x.n = v) → 0 ≤ posA v i l
  | [], _, h => by obtain ⟨x, hx, _⟩ := h; cases hx
  | y :: l, i, h => by
    simp only [posA]
    split
    · omega
    · rename_i hn
      refine posA_mem v l (i + 1) ?_
      obtain ⟨x, hx, h1, h2⟩ := h
      rcases List.mem_cons.1 hx with rfl | hx
      · exact absurd (by rw [h1, h2]; simp) hn
      · exact ⟨x, hx, h1, h2⟩

/-- each variable of what a term becomes occurs in it -/
theorem occ_applied {σ : Sb} {t : Nd} {us : Ts} (h : App σ [t] us) (hl : (vis σ 4097 [t]).length ≤ 4096) {v : Int} (hv : v ∈ numsOf ((nodesOf us).map Ts.mark)) : occ v (num 0 (vis σ 4097 [t])) = (true, 0) := by
  rw [← vis_nodes 4097 h (by omega), numsOf_mem] at hv
  obtain ⟨x, hx, h1, h2⟩ := hv
  obtain ⟨y, hy, rfl⟩ := List.mem_map.1 hx
  have hp := posA_mem v _ 0 ⟨y, hy, h1, h2.symm⟩
  have hp2 := posA_le v (vis σ 4097 [t]) 0
  rw [occ_pos v _ 0 (by omega) (by omega), if_pos ⟨hp, by omega⟩]

theorem FixT.of_mem {σ : Sb} : ∀ {ts : Ts}, FixT σ ts → ∀ x ∈ nodesOf ts, (x.k == 1) = false ∨ σ x.n = none
  | .nil, _, x, hx => by cases hx
  | .cons _ _ _ _ _ _ _, h, x, hx => by
    simp only [nodesOf, List.mem_cons, List.mem_append] at hx
    rcases hx with rfl | hx | hx
    · exact h.1
    · exact FixT.of_mem h.2.1 x hx
    · exact FixT.of_mem h.2.2 x hx

/-- a variable of what a term becomes is not bound -/
theorem free_applied {σ : Sb} {us : Ts} (h : FixT σ us) {v : Int} (hv : v ∈ numsOf ((nodesOf us).map Ts.mark)) : σ v = none := by
  rw [numsOf_mem] at hv
  obtain ⟨x, hx, h1, h2⟩ := hv
  obtain ⟨y, hy, rfl⟩ := List.mem_map.1 hx
  rcases FixT.of_mem h y hy with h3 | h3
  · exact absurd h1 (by show ¬ (y.k == 1) = true; rw [h3]; simp)
  · rw [h2]; exact h3

/-- another substitution turns -/
theorem SubAt.apart {S S2 : Nat} {σ σ2 : Sb} {n n2 : Nat} {w w' : World} (h : SubAt S σ n w) (h2 : SubAt S2 σ2 n2 w) (hne : S ≠ S2) (hg : w.grownBy w' (some S2)) : SubAt S σ n w' := by
  obtain ⟨p, hh, h1, h3, h4, h5⟩ := h.cells
  obtain ⟨p2, hh2, g1, _⟩ := h2.cells
  exact ⟨⟨p, hh, (hg.block S h.lt (fun e => hne (by cases e; rfl))).trans h1, h3, h4.grown hg g1 (by simp), h5⟩, h.ends, fun v x hx => ⟨(h.at_ v x hx).1.small hg g1 (by simp), (h.at_ v x hx).2⟩⟩

/-- the term as it is applied, as a list -/
theorem Ap.list {σ : Sb} {t X : Nd} (h : Ap σ t X) : App σ [t] (.cons X.k X.s X.n X.p X.c X.kids .nil) := by
  rw [h.k, h.s, h.n]
  exact .cons h.app .nil

/-- applied again it is the same -/
theorem Ap.again {σ : Sb} {t X Y : Nd} (hE : Ends σ) (h : Ap σ t X) (h2 : Ap σ X Y) : X.twin Y := by
  have hf := h.list.fix hE
  have e : wk σ X = X := wk_stop hf.1
  have h3 := h2.app
  rw [e] at h3
  refine ⟨by rw [h2.k, e], by rw [h2.s, e], by rw [h2.n, e], Ts.twin_symm _ _ (App.of_fix hf.2.1 h3)⟩

theorem Ap.same {σ : Sb} {t X Y : Nd} (h : Ap σ t X) (h2 : Ap σ t Y) : X.twin Y := ⟨by rw [h.k, h2.k], by rw [h.s, h2.s], by rw [h.n, h2.n], h.app.twin h2.app⟩

theorem Ap.few {σ : Sb} {t X : Nd} (hE : Ends σ) (h : Ap σ t X) : (vis σ 4097 [X]).length ≤ 4096 := by
  have hf := h.list.fix hE
  have h1 := vis_fix 4097 (σ := σ) (l := [X]) (fun x hx => by
    simp only [List.mem_singleton] at hx
    subst hx
    exact ⟨hf.1, hf.2.1⟩)
  have := h.sz
  simp only [sumL] at h1
  omega

end Go.Proofs.Ytnmhnaanpjlniaa
/-
  Layer 13: what a term is worth: as a function, and its plain facts.
-/
namespace Go.Proofs.Ytnmhnaanpjlniaa
open Go.RowKit

/-- what an operation comes to -/
def opR : Nat → Int → Int → Int × Int
  | 0 => plusR | 1 => minusR | 2 => timesR | 3 => quotR | 4 => remR | 5 => modR | _ => minusR

/-- one operation, behind what its numbers come to -/
noncomputable def rkOp (rec : Nat → Nd → (Int × Int) × Nat) (r : Nat) : Option Nat → List Nd → (Int × Int) × Nat
  | some j, [a] => if (rec r a).1.2 ≠ 0 then ((0, (rec r a).1.2), (rec r a).2) else (opR j 0 (rec r a).1.1, (rec r a).2)
  | some j, [a, b] =>
    if (rec r a).1.2 ≠ 0 then ((0, (rec r a).1.2), (rec r a).2)
    else if (rec (rec r a).2 b).1.2 ≠ 0 then ((0, (rec (rec r a).2 b).1.2), (rec (rec r a).2 b).2)
    else (opR j (rec r a).1.1 (rec (rec r a).2 b).1.1, (rec (rec r a).2 b).2)
  | _, _ => ((0, 21), r)

/-- the operation of a structure -/
noncomputable def opOf (x : Nd) : Option Nat := if (x.k == 4) = true then opIdx (funKey x.s x.kids.len) else none

/-- the number, or the error; and how many nodes may still be walked to -/
noncomputable def rk (σ : Sb) : Nat → Nat → Nd → (Int × Int) × Nat
  | 0, _, _ => ((0, 31), 0)
  | f + 1, r, t =>
    if r = 0 then ((0, 31), 0)
    else if ((wk σ t).k == 1) = true then ((0, 20), r - 1)
    else if ((wk σ t).k == 2) = true then (((wk σ t).n, 0), r - 1)
    else rkOp (rk σ f) (r - 1) (opOf (wk σ t)) (elems (wk σ t).kids)

theorem rkOp_none (rec : Nat → Nd → (Int × Int) × Nat) (r : Nat) (l : List Nd) : rkOp rec r none l = ((0, 21), r) := by
  cases l with
  | nil => rfl
  | cons a l => cases l with
    | nil => rfl
    | cons b l => cases l <;> rfl
theorem rkOp_nil (rec : Nat → Nd → (Int × Int) × Nat) (r : Nat) (o : Option Nat) : rkOp rec r o [] = ((0, 21), r) := by cases o <;> rfl
theorem rkOp_many (rec : Nat → Nd → (Int × Int) × Nat) (r : Nat) (o : Option Nat) (a b c : Nd) (l : List Nd) : rkOp rec r o (a :: b :: c :: l) = ((0, 21), r) := by cases o <;> rfl

/-- in every way alike -/
inductive Rel2 (P : Nd → Nd → Prop) : List Nd → List Nd → Prop
  | nil : Rel2 P [] []
  | cons {x y : Nd} {l m : List Nd} (h : P x y) (h' : Rel2 P l m) : Rel2 P (x :: l) (y :: m)

theorem rkOp_congr {P : Nd → Nd → Prop} {rec rec' : Nat → Nd → (Int × Int) × Nat} {r : Nat} {o : Option Nat} {l m : List Nd} (hl : Rel2 P l m) (h : ∀ r x y, P x y → rec r x = rec' r y) : rkOp rec r o l = rkOp rec' r o m := by
  cases o with
  | none => rw [rkOp_none, rkOp_none]
  | some j =>
    cases hl with
    | nil => rfl
    | cons h1 hl =>
      cases hl with
      | nil => simp only [rkOp, h _ _ _ h1]
      | cons h2 hl =>
        cases hl with
        | nil => simp only [rkOp, h _ _ _ h1, h _ _ _ h2]
        | cons => rfl

theorem rel_tw {l m : List Nd} (h : TwL l m) : Rel2 Nd.twin l m := by
  induction h with
  | nil => exact .nil
  | cons h _ ih => exact .cons h ih

theorem rk_tw {σ ρ : Sb} (h : STw σ ρ) (hE : Ends σ) : ∀ (f r : Nat) {t t' : Nd}, t.twin t' → rk σ f r t = rk ρ f r t'
  | 0, _, _, _, _ => rfl
  | f + 1, r, t, t', ht => by
    have hw := h.wk hE ht
    have ho : opOf (wk σ t) = opOf (wk ρ t') := by unfold opOf; rw [hw.1, hw.2.1, Ts.twin_len _ _ hw.2.2.2]
    simp only [rk]
    rw [hw.1, hw.2.2.1, ho, rkOp_congr (rel_tw (elems_tw hw.2.2.2)) (fun r x y h' => rk_tw h hE f r h')]

/-- applied, or a part of what is -/
structure Apd (σ : Sb) (t X : Nd) : Prop where
  k : X.k = (wk σ t).k
  s : X.s = (wk σ t).s
  n : X.n = (wk σ t).n
  app : App σ (elems (wk σ t).kids) X.kids

theorem Ap.apd {σ : Sb} {t X : Nd} (h : Ap σ t X) : Apd σ t X := ⟨h.k, h.s, h.n, h.app⟩

theorem rel_app {σ : Sb} {l : List Nd} {us : Ts} (h : App σ l us) : Rel2 (fun X t => Apd σ t X) (elems us) l := by
  induction h with
  | nil => exact .nil
  | cons h _ _ ih => exact .cons ⟨rfl, rfl, rfl, h⟩ ih

theorem Apd.wk {σ : Sb} (hE : Ends σ) {t X : Nd} (h : Apd σ t X) : wk σ X = X := by
  by_cases hk : ((Go.Proofs.Ytnmhnaanpjlniaa.wk σ t).k == 1) = true
  · refine wk_stop (.inr ?_)
    rw [h.n]
    rcases (wk_spec hE t).ends with h1 | h1
    · rw [h1] at hk; cases hk
    · exact h1
  · exact wk_stop (.inl (by rw [h.k]; simpa using hk))

/-- a term is worth what it is worth applied -/
theorem rk_ap {σ : Sb} (hE : Ends σ) : ∀ (f r : Nat) {t X : Nd}, Apd σ t X → rk σ f r X = rk σ f r t
  | 0, _, _, _, _ => rfl
  | f + 1, r, t, X, h => by
    have hw := h.wk hE
    have hl : X.kids.len = (wk σ t).kids.len := by rw [h.app.len, elems_length]
    have ho : opOf X = opOf (wk σ t) := by unfold opOf; rw [h.k, h.s, hl]
    simp only [rk]
    rw [hw, ho, h.k, h.n, rkOp_congr (rel_app h.app) (fun r x y h' => rk_ap hE f r h')]

theorem rkOp_le {rec : Nat → Nd → (Int × Int) × Nat} (h : ∀ r x, (rec r x).2 ≤ r) (r : Nat) (o : Option Nat) (l : List Nd) : (rkOp rec r o l).2 ≤ r := by
  cases o with
  | none => rw [rkOp_none]; exact Nat.le_refl _
  | some j =>
    cases l with
    | nil => exact Nat.le_refl _
    | cons a l =>
      have h1 := h r a
      cases l with
      | nil => simp only [rkOp]; split <;> exact h1
      | cons b l =>
        have h2 := h (rec r a).2 b
        cases l with
        | nil =>
          simp only [rkOp]
          split
          · exact h1
          · split
            · simp only; omega
            · simp only; omega
        | cons => exact Nat.le_refl _

theorem rk_le (σ : Sb) : ∀ (f r : Nat) (t : Nd), (rk σ f r t).2 ≤ r - 1
  | 0, r, t => by simp [rk]
  | f + 1, r, t => by
    simp only [rk]
    split
    · simp
    · split
      · exact Nat.le_refl _
      · split
        · exact Nat.le_refl _
        · exact rkOp_le (fun r x => by have := rk_le σ f r x; omega) _ _ _

/-- with fewer nodes: full, or the same -/
def Less (d : Nat) (p q : (Int × Int) × Nat) : Prop := p.1 = (0, 31) ∨ (p.1 = q.1 ∧ p.2 + d = q.2)

theorem rkOp_less {rec rec' : Nat → Nd → (Int × Int) × Nat} {d : Nat} (h : ∀ r x, Less d (rec r x) (rec' (r + d) x)) (r : Nat) (o : Option Nat) (l : List Nd) : Less d (rkOp rec r o l) (rkOp rec' (r + d) o l) := by
  cases o with
  | none => rw [rkOp_none, rkOp_none]; exact .inr ⟨rfl, rfl⟩
  | some j =>
    cases l with
    | nil => exact .inr ⟨rfl, rfl⟩
    | cons a l =>
      have h1 := h r a
      cases l with
      | nil =>
        simp only [rkOp]
        rcases h1 with h1 | ⟨h1, h2⟩
        · rw [h1]; exact .inl rfl
        · rw [← h1, ← h2]
          split
          · exact .inr ⟨rfl, rfl⟩
          · exact .inr ⟨rfl, rfl⟩
      | cons b l =>
        cases l with
        | nil =>
          simp only [rkOp]
          rcases h1 with h1 | ⟨h1, h2⟩
          · rw [h1]; exact .inl rfl
          · rw [← h1, ← h2]
            split
            · exact .inr ⟨rfl, rfl⟩
            · rcases h (rec r a).2 b with h3 | ⟨h3, h4⟩
              · rw [h3]; exact .inl rfl
              · rw [← h3, ← h4]
                split
                · exact .inr ⟨rfl, rfl⟩
                · exact .inr ⟨rfl, rfl⟩
        | cons => exact .inr ⟨rfl, rfl⟩

theorem rk_less (σ : Sb) : ∀ (f r f' d : Nat) (t : Nd), f' = f + d → Less d (rk σ f r t) (rk σ f' (r + d) t)
  | 0, _, _, _, _, _ => .inl rfl
  | f + 1, r, f', d, t, h => by
    obtain ⟨g, rfl⟩ : ∃ g, f' = g + 1 := ⟨f + d, by omega⟩
    simp only [rk]
    by_cases hr : r = 0
    · rw [if_pos hr]; exact .inl rfl
    · have hr2 : ¬ r + d = 0 := by omega
      rw [if_neg hr, if_neg hr2, show r + d - 1 = r - 1 + d by omega]
      by_cases k1 : ((wk σ t).k == 1) = true
      · rw [if_pos k1, if_pos k1]; exact .inr ⟨rfl, rfl⟩
      · rw [if_neg k1, if_neg k1]
        by_cases k2 : ((wk σ t).k == 2) = true
        · rw [if_pos k2, if_pos k2]; exact .inr ⟨rfl, rfl⟩
        · rw [if_neg k2, if_neg k2]
          exact rkOp_less (fun r x => rk_less σ f r g d x (by omega)) _ _ _

end Go.Proofs.Ytnmhnaanpjlniaa
