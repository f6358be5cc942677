import Derived.Test.YtflomdnjabgnaaaBk
import Derived.Test.YtflomdnjabgnaaaTv0
import Derived.Test.YtflomdnjabgnaaaAk
import Derived.Defers
import Derived.Recover
/-
  Layer 3: plain facts for the law SubstIdem: what is applied has no bound variables, and each of them occurs.
-/
namespace Go.Proofs.Ytflomdnjabgnaaa
open Go.RowKit

/-- no variable in it is bound -/
def FixT (σ : Sb) : Ts → Prop
  | .nil => True
  | .cons k _ n _ _ kids rest => ((k == 1) = false ∨ σ n = none) ∧ FixT σ kids ∧ FixT σ rest
def FixN (σ : Sb) (x : Nd) : Prop := ((x.k == 1) = false ∨ σ x.n = none) ∧ FixT σ x.kids
def FixL (σ : Sb) (l : List Nd) : Prop := ∀ x ∈ l, FixN σ x

theorem App.fix {σ : Sb} (hE : Ends σ) {l : List Nd} {us : Ts} (h : App σ l us) : FixT σ us := by
  induction h with
  | nil => trivial
  | @cons t _ _ _ _ _ _ _ ih ih' => exact ⟨(wk_spec hE t).ends, ih, ih'⟩

theorem FixT.elems {σ : Sb} : ∀ {ts : Ts}, FixT σ ts → FixL σ (elems ts)
  | .nil, _, x, hx => by simp [Go.Proofs.Ytflomdnjabgnaaa.elems] at hx
  | .cons _ _ _ _ _ _ _, h, x, hx => by
    simp only [Go.Proofs.Ytflomdnjabgnaaa.elems, List.mem_cons] at hx
    rcases hx with rfl | hx
    · exact ⟨h.1, h.2.1⟩
    · exact FixT.elems h.2.2 x hx

theorem FixL.app {σ : Sb} {l m : List Nd} (h : FixL σ l) (h' : FixL σ m) : FixL σ (l ++ m) := fun x hx => (List.mem_append.1 hx).elim (h x) (h' x)

theorem App.of_fix {σ : Sb} : ∀ {ts : Ts} {vs : Ts}, FixT σ ts → App σ (elems ts) vs → Ts.twin vs ts
  | .nil, vs, _, h => by cases h; trivial
  | .cons k s n p c kids rest, vs, hf, h => by
    cases h with
    | cons g g' =>
      have e : wk σ ⟨k, s, n, p, c, kids⟩ = ⟨k, s, n, p, c, kids⟩ := wk_stop hf.1
      rw [e] at g ⊢
      exact ⟨rfl, rfl, rfl, App.of_fix hf.2.1 g, App.of_fix hf.2.2 g'⟩

def sumL : List Nd → Nat
  | [] => 0
  | x :: l => x.kids.size + 1 + sumL l
theorem sumL_app : ∀ l m : List Nd, sumL (l ++ m) = sumL l + sumL m
  | [], m => by simp [sumL]
  | x :: l, m => by simp only [List.cons_append, sumL, sumL_app l m]; omega
theorem sumL_elems : ∀ ts : Ts, sumL (elems ts) = ts.size
  | .nil => rfl
  | .cons _ _ _ _ _ _ r => by simp only [elems, sumL, Ts.size, sumL_elems r]; omega

theorem vis_fix {σ : Sb} : ∀ (f : Nat) {l : List Nd}, FixL σ l → (vis σ f l).length ≤ sumL l
  | 0, _, _ => by simp [vis]
  | _ + 1, [], _ => by simp [vis]
  | f + 1, t :: rest, h => by
    have e : wk σ t = t := wk_stop (h t (by simp)).1
    simp only [vis, List.length_cons, e, sumL]
    have h2 := vis_fix f (l := elems t.kids ++ rest) ((FixT.elems (h t (by simp)).2).app fun x hx => h x (by simp [hx]))
    rw [sumL_app, sumL_elems] at h2
    omega

theorem App.append {σ : Sb} {l m : List Nd} {us vs : Ts} (h : App σ l us) (h' : App σ m vs) : App σ (l ++ m) (us.app vs) := by
  induction h with
  | nil => exact h'
  | cons h1 _ _ ih => exact .cons h1 ih

theorem nodesOf_app : ∀ t u : Ts, nodesOf (t.app u) = nodesOf t ++ nodesOf u
  | .nil, _ => rfl
  | .cons _ _ _ _ _ _ r, u => by simp only [Ts.app, nodesOf, nodesOf_app r u, List.cons_append, List.append_assoc]

/-- what is visited of a term are the nodes of what it becomes, applied -/
theorem vis_nodes {σ : Sb} : ∀ (f : Nat) {l : List Nd} {us : Ts}, App σ l us → (vis σ f l).length < f → (vis σ f l).map Ts.mark = (nodesOf us).map Ts.mark
  | 0, _, _, _, h => by omega
  | _ + 1, [], _, h, _ => by cases h; rfl
  | f + 1, t :: rest, us, h, hl => by
    cases h with
    | cons h h' =>
      simp only [vis, List.length_cons] at hl
      have ih := vis_nodes f (h.append h') (by omega)
      simp only [vis, List.map_cons, nodesOf, ih, nodesOf_app]
      rfl

theorem posA_mem (v : Int) : ∀ (l : List Nd) (i : Nat), (∃ x ∈ l, (x.k == 1) = true ∧ x.n = v) → 0 ≤ posA v i l
  | [], _, h => by obtain ⟨x, hx, _⟩ := h; cases hx
  | y :: l, i, h => by
    simp only [posA]
    split
    · omega
    · rename_i hn
      refine posA_mem v l (i + 1) ?_
      obtain ⟨x, hx, h1, h2⟩ := h
      rcases List.mem_cons.1 hx with rfl | hx
      · exact absurd (by rw [h1, h2]; simp) hn
      · exact ⟨x, hx, h1, h2⟩

/-- each variable of what a term becomes occurs in it -/
theorem occ_applied {σ : Sb} {t : Nd} {us : Ts} (h : App σ [t] us) (hl : (vis σ 4097 [t]).length ≤ 4096) {v : Int} (hv : v ∈ numsOf ((nodesOf us).map Ts.mark)) : occ v (num 0 (vis σ 4097 [t])) = (true, 0) := by
  rw [← vis_nodes 4097 h (by omega), numsOf_mem] at hv
  obtain ⟨x, hx, h1, h2⟩ := hv
  obtain ⟨y, hy, rfl⟩ := List.mem_map.1 hx
  have hp := posA_mem v _ 0 ⟨y, hy, h1, h2.symm⟩
  have hp2 := posA_le v (vis σ 4097 [t]) 0
  rw [occ_pos v _ 0 (by omega) (by omega), if_pos ⟨hp, by omega⟩]

theorem FixT.of_mem {σ : Sb} : ∀ {ts : Ts}, FixT σ ts → ∀ x ∈ nodesOf ts, (x.k == 1) = false ∨ σ x.n = none
  | .nil, _, x, hx => by cases hx
  | .cons _ _ _ _ _ _ _, h, x, hx => by
    simp only [nodesOf, List.mem_cons, List.mem_append] at hx
    rcases hx with rfl | hx | hx
    · exact h.1
    · exact FixT.of_mem h.2.1 x hx
    · exact FixT.of_mem h.2.2 x hx

/-- a variable of what a term becomes is not bound -/
theorem free_applied {σ : Sb} {us : Ts} (h : FixT σ us) {v : Int} (hv : v ∈ numsOf ((nodesOf us).map Ts.mark)) : σ v = none := by
  rw [numsOf_mem] at hv
  obtain ⟨x, hx, h1, h2⟩ := hv
  obtain ⟨y, hy, rfl⟩ := List.mem_map.1 hx
  rcases FixT.of_mem h y hy with h3 | h3
  · exact absurd h1 (by show ¬ (y.k == 1) = true; rw [h3]; simp)
  · rw [h2]; exact h3

/-- another substitution turns -/
theorem SubAt.apart {S S2 : Nat} {σ σ2 : Sb} {n n2 : Nat} {w w' : World} (h : SubAt S σ n w) (h2 : SubAt S2 σ2 n2 w) (hne : S ≠ S2) (hg : w.grownBy w' (some S2)) : SubAt S σ n w' := by
  obtain ⟨p, hh, h1, h3, h4, h5⟩ := h.cells
  obtain ⟨p2, hh2, g1, _⟩ := h2.cells
  exact ⟨⟨p, hh, (hg.block S h.lt (fun e => hne (by cases e; rfl))).trans h1, h3, h4.grown hg g1 (by simp), h5⟩, h.ends, fun v x hx => ⟨(h.at_ v x hx).1.small hg g1 (by simp), (h.at_ v x hx).2⟩⟩

/-- the term as it is applied, as a list -/
theorem Ap.list {σ : Sb} {t X : Nd} (h : Ap σ t X) : App σ [t] (.cons X.k X.s X.n X.p X.c X.kids .nil) := by
  rw [h.k, h.s, h.n]
  exact .cons h.app .nil

/-- applied again it is the same -/
theorem Ap.again {σ : Sb} {t X Y : Nd} (hE : Ends σ) (h : Ap σ t X) (h2 : Ap σ X Y) : X.twin Y := by
  have hf := h.list.fix hE
  have e : wk σ X = X := wk_stop hf.1
  have h3 := h2.app
  rw [e] at h3
  refine ⟨by rw [h2.k, e], by rw [h2.s, e], by rw [h2.n, e], Ts.twin_symm _ _ (App.of_fix hf.2.1 h3)⟩

theorem Ap.same {σ : Sb} {t X Y : Nd} (h : Ap σ t X) (h2 : Ap σ t Y) : X.twin Y := ⟨by rw [h.k, h2.k], by rw [h.s, h2.s], by rw [h.n, h2.n], h.app.twin h2.app⟩

theorem Ap.few {σ : Sb} {t X : Nd} (hE : Ends σ) (h : Ap σ t X) : (vis σ 4097 [X]).length ≤ 4096 := by
  have hf := h.list.fix hE
  have h1 := vis_fix 4097 (σ := σ) (l := [X]) (fun x hx => by
    simp only [List.mem_singleton] at hx
    subst hx
    exact ⟨hf.1, hf.2.1⟩)
  have := h.sz
  simp only [sumL] at h1
  omega

end Go.Proofs.Ytflomdnjabgnaaa
/-
  Layer 4: a unification's visits and walked terms.
-/
namespace Go.Proofs.Ytflomdnjabgnaaa
open Go.RowKit

/-- a unification in memory: where its substitution is, and how many visits there were -/
structure UAt (KB S : Nat) (σ : Sb) (n m : Nat) (w : World) : Prop where
  cell : w.heap[KB]? = some (.cells #[.pointer (some ⟨S, 0, none⟩), .int .i64 (m : Nat)] 97 (0, 0))
  sub : SubAt S σ n w
  ne : KB ≠ S

theorem UAt.c0 {KB S : Nat} {σ : Sb} {n m : Nat} {w : World} (h : UAt KB S σ n m w) : w.cell? ⟨KB, 0, none⟩ = some (.pointer (some ⟨S, 0, none⟩)) := by simp [World.cell?, h.cell]
theorem UAt.c1 {KB S : Nat} {σ : Sb} {n m : Nat} {w : World} (h : UAt KB S σ n m w) : w.cell? ⟨KB, 1, none⟩ = some (.int .i64 (m : Nat)) := by simp [World.cell?, h.cell]
theorem UAt.f1 {KB S : Nat} {σ : Sb} {n m : Nat} {w : World} (h : UAt KB S σ n m w) : w.frozen? ⟨KB, 1, none⟩ = false := by simp [World.frozen?, h.cell]
theorem UAt.lt {KB S : Nat} {σ : Sb} {n m : Nat} {w : World} (h : UAt KB S σ n m w) : KB < w.heap.size := (Array.getElem?_eq_some_iff.1 h.cell).1
theorem UAt.below {KB S : Nat} {σ : Sb} {n m : Nat} {w w' : World} (h : UAt KB S σ n m w) (hB : Below w.heap.size w w') : UAt KB S σ n m w' := ⟨(hB.block KB h.lt).trans h.cell, h.sub.below hB, h.ne⟩

/-- a small block turns -/
theorem SubAt.but {S KB : Nat} {σ : Sb} {n : Nat} {w w' : World} (h : SubAt S σ n w) {cs : Array Value} {t : TypeId} {fr : Nat × Nat} (hK : w.heap[KB]? = some (.cells cs t fr)) (hz : cs.size < 4) (hne : S ≠ KB) (hg : w.grownBy w' (some KB)) : SubAt S σ n w' := by
  obtain ⟨p, hh, h1, h3, h4, h5⟩ := h.cells
  exact ⟨⟨p, hh, (hg.block S h.lt (fun e => hne (by cases e; rfl))).trans h1, h3, h4.grown hg hK (by omega), h5⟩, h.ends, fun v x hx => ⟨(h.at_ v x hx).1.small hg hK hz, (h.at_ v x hx).2⟩⟩

/-- one visit more -/
def seen (KB m : Nat) (w : World) : World := w.setCell ⟨KB, 1, none⟩ (.int .i64 ((m : Int) + 1))

theorem seen_grown (KB m : Nat) (w : World) : w.grownBy (seen KB m w) (some KB) := grown_set w KB 1 _

theorem UAt.seen {KB S : Nat} {σ : Sb} {n m : Nat} {w : World} (h : UAt KB S σ n m w) : UAt KB S σ n (m + 1) (Go.Proofs.Ytflomdnjabgnaaa.seen KB m w) := by
  refine ⟨?_, h.sub.but h.cell (by simp) (fun e => h.ne e.symm) (seen_grown KB m w), h.ne⟩
  simp only [Go.Proofs.Ytflomdnjabgnaaa.seen, World.setCell, Array.getElem?_modify, if_pos, h.cell]
  rfl

def fullP : List PanicEntry := [{ v := .iface 125 (.agg #[]), recovered := false }]

set_option maxHeartbeats 1000000 in
theorem visit_go (KB S : Nat) (σ : Sb) (n m : Nat) (w : World) (h : UAt KB S σ n m w) (hm : m < 4096) :
    Calls Try.prog 90 #[.pointer (some ⟨KB, 0, none⟩)] w fun e w' => e = .returned (.tuple #[]) ∧ w' = seen KB m w := by
  have c0 := h.c0
  have c1 := h.c1
  have f1 := h.f1
  have hlt : ¬ ((m : Int) + 1 > 4096) := by omega
  have hlt2 : m ≤ 1000000 := by omega
  clear hm h
  go_enter Try.func90, Try.ntmps90
  go_wp2
  go_end0
  exact ⟨rfl, rfl⟩

set_option maxHeartbeats 1000000 in
theorem visit_full (KB S : Nat) (σ : Sb) (n m : Nat) (w : World) (h : UAt KB S σ n m w) (hm : m = 4096) :
    Calls Try.prog 90 #[.pointer (some ⟨KB, 0, none⟩)] w fun e w' => e = .panicked fullP ∧ w' = seen KB m w := by
  have c0 := h.c0
  have c1 := h.c1
  have f1 := h.f1
  have hlt : (m : Int) + 1 > 4096 := by omega
  have hlt2 : m ≤ 1000000 := by omega
  clear hm h
  go_enter Try.func90, Try.ntmps90
  go_wp2
  exact ⟨rfl, rfl, rfl⟩

/-- a walked term, or the term itself -/
def WOf (P : Nat → Prop) (x : Nd) (v : Value) (w : World) : Prop := ∃ us q d, v = tv x.k x.s x.n q us.len d ∧ Ts.AtP P w q us ∧ Ts.twin us x.kids ∧ us.ok ∧ (us.len ≤ d ∧ d ≤ 9223372036854775807) ∧ (q = none → d = 0)

theorem WOf.below {P : Nat → Prop} {x : Nd} {v : Value} {w w' : World} (h : WOf P x v w) (hB : Below w.heap.size w w') : WOf P x v w' := by
  obtain ⟨us, q, d, h1, h2, h3⟩ := h
  exact ⟨us, q, d, h1, h2.stay fun b _ hb => hB.block b hb, h3⟩

theorem CloneOf.bel {x : Nd} {B : Nat} {v : Value} {w w' : World} (h : CloneOf x B v w) (hB : Below w.heap.size w w') : CloneOf x B v w' := by
  obtain ⟨us, q, d, h1, h2, h3⟩ := h
  exact ⟨us, q, d, h1, AtB_below h2 hB, h3⟩
theorem CloneOf.mon {x : Nd} {B B' : Nat} {v : Value} {w : World} (h : CloneOf x B v w) (hBB : B' ≤ B) : CloneOf x B' v w := by
  obtain ⟨us, q, d, h1, h2, h3⟩ := h
  exact ⟨us, q, d, h1, AtB_mono h2 hBB, h3⟩

set_option maxRecDepth 10000 in
set_option maxHeartbeats 1000000 in
theorem uwalk_any (KB S : Nat) (σ : Sb) (n m : Nat) (w : World) (h : UAt KB S σ n m w) (P : Nat → Prop) (hP : ∀ b, w.heap.size ≤ b → P b) (t : Nd) (hok : t.ok) (hat : Ts.AtP P w t.p t.kids) (hsz : t.kids.size ≤ 5000) :
    Calls Try.prog 91 #[.pointer (some ⟨KB, 0, none⟩), .agg #[.int .u8 t.k, .string t.s, .int .i64 t.n, .slice t.p t.kids.len t.c]] w fun e w' => ∃ v, e = .returned v ∧ WOf P (wk σ t) v w' ∧ Below w.heap.size w w' := by
  have c0 := h.c0
  have HU := Lib.hid h
  have OK := Lib.hid hok
  have AT := Lib.hid hat
  have HP := Lib.hid hP
  have hKl := h.lt
  clear h hok hat hP
  by_cases h1 : (t.k == 1) = true
  · go_enter Try.func91, Try.ntmps91
    go_upto_region 1 with fail
    obtain ⟨W0, hW0⟩ : ∃ W0, W0 = (w.alloc (.cells #[.int .u8 t.k, .string t.s, .int .i64 t.n, .slice t.p t.kids.len t.c] 24)).alloc (.cells #[.int .u8 0, .string ⟨#[]⟩, .int .i64 0, .slice none 0 0] 24) := ⟨_, rfl⟩
    rw [← hW0]
    obtain ⟨hX0, hY0, hs0, hB0⟩ := boxes2 hW0
    have Z0 := Lib.hid hW0
    have BX := Lib.hid hX0
    have BY := Lib.hid hY0
    have d0 := hX0.c0
    clear hW0 hX0 hY0
    go_upto_region 2 with fail
    have hKl0 : KB < W0.heap.size := by omega
    have c00 := ((stays hB0).1 _ _ hKl).trans c0
    have B0 := Lib.hid hB0
    clear hB0 d0
    refine region_facts_last (fun W_ => Below W0.heap.size W0 W_) [fun u _ => u = .pointer (some ⟨KB, 0, none⟩), fun u _ => u = .pointer (some ⟨KB, 0, none⟩), fun u _ => u = .pointer (some ⟨KB, 0, none⟩), fun u _ => u = .pointer (some ⟨S, 0, none⟩), fun u _ => u = .agg #[.int .u8 t.k, .string t.s, .int .i64 t.n, .slice t.p t.kids.len t.c], fun u W => CloneOf (wk σ t) W0.heap.size u W]
      ⟨.eq _, .eq _, .eq _, .eq _, .eq _, (fun _ _ _ h hB => CloneOf.bel h hB), trivial⟩ (by kernel_rfl) (by kernel_rfl) (by kernel_rfl) (by kernel_rfl) (Below.refl _ _).drew ?_ (by decide)
    refine ⟨?_, ?_, ?_, ?_, ?_, ?_, ?_⟩
    · intro g_ W_ hI hd K hK
      simp only [frameOf, Act.put, List.setIfInBounds_toArray, List.set_cons_zero, List.set_cons_succ]
      go_simp
      refine hK.out (.pointer (some ⟨KB, 0, none⟩)) _ W_ ?_ hI (Below.refl _ _) rfl
      simp only [frameOf, Act.put, List.setIfInBounds_toArray, List.set_cons_zero, List.set_cons_succ, Nat.zero_add, Nat.reduceAdd]
    · intro g_ W_ hI hd K hK
      simp only [frameOf, Act.put, List.setIfInBounds_toArray, List.set_cons_zero, List.set_cons_succ]
      have h0 : g_ 0 = .pointer (some ⟨KB, 0, none⟩) := hd 0 (by kernel_rfl)
      rw [h0]
      go_simp
      refine hK.out (.pointer (some ⟨KB, 0, none⟩)) _ W_ ?_ hI (Below.refl _ _) rfl
      simp only [frameOf, Act.put, List.setIfInBounds_toArray, List.set_cons_zero, List.set_cons_succ, Nat.zero_add, Nat.reduceAdd, h0]
    · intro g_ W_ hI hd K hK
      simp only [frameOf, Act.put, List.setIfInBounds_toArray, List.set_cons_zero, List.set_cons_succ]
      have h1 : g_ 1 = .pointer (some ⟨KB, 0, none⟩) := hd 1 (by kernel_rfl)
      rw [h1]
      go_simp
      refine hK.out (.pointer (some ⟨KB, 0, none⟩)) _ W_ ?_ hI (Below.refl _ _) rfl
      simp only [frameOf, Act.put, List.setIfInBounds_toArray, List.set_cons_zero, List.set_cons_succ, Nat.zero_add, Nat.reduceAdd, h1]
    · intro g_ W_ hI hd K hK
      simp only [frameOf, Act.put, List.setIfInBounds_toArray, List.set_cons_zero, List.set_cons_succ]
      have h2 : g_ 2 = .pointer (some ⟨KB, 0, none⟩) := hd 2 (by kernel_rfl)
      rw [h2]
      have e0 := ((stays hI).1 _ _ hKl0).trans c00
      go_simp
      refine hK.out (.pointer (some ⟨S, 0, none⟩)) _ W_ ?_ hI (Below.refl _ _) rfl
      simp only [frameOf, Act.put, List.setIfInBounds_toArray, List.set_cons_zero, List.set_cons_succ, Nat.zero_add, Nat.reduceAdd, h2]
    · intro g_ W_ hI hd K hK
      simp only [frameOf, Act.put, List.setIfInBounds_toArray, List.set_cons_zero, List.set_cons_succ]
      have XW := BX.out.below hI
      have e0 := XW.c0
      have e1 := XW.c1
      have e2 := XW.c2
      have e3 := XW.c3
      go_simp
      refine hK.out (.agg #[.int .u8 t.k, .string t.s, .int .i64 t.n, .slice t.p t.kids.len t.c]) _ W_ ?_ hI (Below.refl _ _) rfl
      simp only [frameOf, Act.put, List.setIfInBounds_toArray, List.set_cons_zero, List.set_cons_succ, Nat.zero_add, Nat.reduceAdd]
    · intro g_ W_ hI hd K hK
      simp only [frameOf, Act.put, List.setIfInBounds_toArray, List.set_cons_zero, List.set_cons_succ]
      have h3 : g_ 3 = .pointer (some ⟨S, 0, none⟩) := hd 3 (by kernel_rfl)
      have h4 : g_ 4 = .agg #[.int .u8 t.k, .string t.s, .int .i64 t.n, .slice t.p t.kids.len t.c] := hd 4 (by kernel_rfl)
      rw [h3, h4]
      go_simp
      refine (walk_any S σ n W_ ((HU.out.below B0.out).below hI).sub t OK.out ((AtP_at AT.out).below (B0.out.trans (hI.mono B0.out.size))) hsz).mono ?_
      rintro e w' ⟨v', rfl, hC, hB⟩
      refine hK.out v' _ w' ?_ (hI.trans (hB.mono hI.size)) hB (CloneOf.mon hC hI.size)
      simp only [frameOf, Act.put, List.setIfInBounds_toArray, List.set_cons_zero, List.set_cons_succ, Nat.zero_add, Nat.reduceAdd, h3, h4]
    · intro g_ W_ hI hd K hK
      simp only [frameOf, Act.put, List.setIfInBounds_toArray, List.set_cons_zero, List.set_cons_succ]
      obtain ⟨us, q, d, h5, ha5, htw5, hok5, hcl5, hn5⟩ := hd 5 (by decide)
      rw [h5]
      have YW := BY.out.below hI
      have y0 := YW.c0
      have y1 := YW.c1
      have y2 := YW.c2
      have y3 := YW.c3
      have yf := YW.fr
      have P1 := YW.put (y := ⟨(wk σ t).k, (wk σ t).s, (wk σ t).n, q, d, us⟩)
      have HPUT := Lib.hid P1
      have HI := Lib.hid hI
      have A5 := Lib.hid ha5
      have C5 := Lib.hid (And.intro htw5 (And.intro hok5 (And.intro hcl5 hn5)))
      have H5 := Lib.hid h5
      clear hd YW hI ha5 htw5 hok5 hcl5 hn5 P1 h5
      unfold tv
      go_simp
      refine hK.out undef _ _ ?_ ?_
      · simp only [frameOf, Act.put, List.setIfInBounds_toArray, List.set_cons_zero, List.set_cons_succ, Nat.zero_add, Nat.reduceAdd, H5.out]
        rfl
      · simp only [frameOf, Act.put, List.setIfInBounds_toArray, List.set_cons_zero, List.set_cons_succ, Nat.zero_add, Nat.reduceAdd, H5.out]
        clear hK K
        go_wp2
        have p0 := HPUT.out.c0
        have p1 := HPUT.out.c1
        have p2 := HPUT.out.c2
        have p3 := HPUT.out.c3
        exact bodyPost_ret (v := tv (wk σ t).k (wk σ t).s (wk σ t).n q us.len d) (by simp [results, Try.results91, go_sem, p0, p1, p2, p3, tv]) rfl ⟨_, rfl, by
          refine ⟨us, q, d, rfl, (AtP_imp (fun b _ hb => ⟨HP.out b (by omega), by omega⟩) (AtB_atP A5.out) : Ts.AtP (fun b => P b ∧ w.heap.size + 2 ≤ b) W_ q us).stay (fun b hb _ => ?_) |> AtP_imp (fun b _ hb => hb.1), C5.out.1, C5.out.2.1, C5.out.2.2.1, C5.out.2.2.2⟩
          rw [Below.heap_setCell _ _ _ _ (by simp; omega), Below.heap_setCell _ _ _ _ (by simp; omega), Below.heap_setCell _ _ _ _ (by simp; omega), Below.heap_setCell _ _ _ _ (by simp; omega)], below_put4 (B0.out.trans (HI.out.mono B0.out.size)) (by omega) _ _ _ _⟩
  · rw [Bool.not_eq_true] at h1
    go_enter Try.func91, Try.ntmps91
    go_upto_region 1 with fail
    obtain ⟨W0, hW0⟩ : ∃ W0, W0 = (w.alloc (.cells #[.int .u8 t.k, .string t.s, .int .i64 t.n, .slice t.p t.kids.len t.c] 24)).alloc (.cells #[.int .u8 0, .string ⟨#[]⟩, .int .i64 0, .slice none 0 0] 24) := ⟨_, rfl⟩
    rw [← hW0]
    obtain ⟨hX0, hY0, hs0, hB0⟩ := boxes2 hW0
    have Z0 := Lib.hid hW0
    have P1 := hY0.put (y := t)
    have p0 := P1.c0
    have p1 := P1.c1
    have p2 := P1.c2
    have p3 := P1.c3
    clear P1
    have d0 := hX0.c0
    have d1 := hX0.c1
    have d2 := hX0.c2
    have d3 := hX0.c3
    have y0 := hY0.c0
    have y1 := hY0.c1
    have y2 := hY0.c2
    have y3 := hY0.c3
    have yf := hY0.fr
    have B0 := Lib.hid hB0
    clear hW0 hX0 hY0 hB0 hs0
    go_wp2
    exact bodyPost_ret (v := tv t.k t.s t.n t.p t.kids.len t.c) (by simp [results, Try.results91, go_sem, p0, p1, p2, p3, tv]) rfl ⟨_, rfl, by
      rw [wk_stop (.inl h1)]
      refine ⟨t.kids, t.p, t.c, rfl, (((AtP_imp (fun b hl hb => ⟨hb, hl⟩) AT.out : Ts.AtP (fun b => P b ∧ b < w.heap.size) w t.p t.kids).stay fun b _ hb => B0.out.block b hb).stay fun b hb _ => ?_) |> AtP_imp (fun b _ hb => hb.1), Ts.twin_refl _, OK.out.2.2.2.2.2.1, OK.out.2.2.2.1, OK.out.2.2.2.2.1⟩
      rw [Below.heap_setCell _ _ _ _ (by simp; omega), Below.heap_setCell _ _ _ _ (by simp; omega), Below.heap_setCell _ _ _ _ (by simp; omega), Below.heap_setCell _ _ _ _ (by simp; omega)], below_put4 B0.out (by omega) _ _ _ _⟩

end Go.Proofs.Ytflomdnjabgnaaa
/-
  Layer 4: unification as a function: what is bound, how many visits are left.
-/
namespace Go.Proofs.Ytflomdnjabgnaaa
open Go.RowKit

/-- what becomes of binding a variable, so many visits being left -/
inductive BO where
  | full
  | no
  | ok (r : Nat)

noncomputable def bnd (r : Nat) (σ : Sb) (v : Int) (t : Nd) : BO :=
  if 0 ≤ posA v 0 (vis σ (r + 1) [t]) ∧ posA v 0 (vis σ (r + 1) [t]) ≤ (r : Int) then .no
  else if r < (vis σ (r + 1) [t]).length then .full
  else if v < 0 then .no else .ok (r - (vis σ (r + 1) [t]).length)

theorem bnd_le {r r' : Nat} {σ : Sb} {v : Int} {t : Nd} (h : bnd r σ v t = .ok r') : r' ≤ r := by
  unfold bnd at h
  split at h
  · cases h
  split at h
  · cases h
  split at h
  · cases h
  cases h
  omega

/-- how a unification ends: full, not, or with what is bound, how many more, and how many visits are left -/
inductive Out where
  | full
  | no
  | ok (σ : Sb) (c r : Nat)

/-- are the heads alike? -/
def headU (x y : Nd) : Bool := (x.k == y.k) && ((x.s.toList == y.s.toList) && ((x.n == y.n) && decide (x.kids.len = y.kids.len)))

/-- a pair, but for its Args -/
inductive OneO where
  | full
  | no
  | ok (σ : Sb) (c r : Nat) (l : List (Nd × Nd))

noncomputable def one (r c : Nat) (σ : Sb) (a b : Nd) : OneO :=
  if ((wk σ a).k == 1) = true then
    (if ((wk σ b).k == 1) = true ∧ (wk σ a).n = (wk σ b).n then .ok σ c r []
     else match bnd r σ (wk σ a).n (wk σ b) with
      | .full => .full
      | .no => .no
      | .ok r' => .ok (σ.put (wk σ a).n (wk σ b)) (c + 1) (min r' r) [])
  else if ((wk σ b).k == 1) = true then
    (match bnd r σ (wk σ b).n (wk σ a) with
      | .full => .full
      | .no => .no
      | .ok r' => .ok (σ.put (wk σ b).n (wk σ a)) (c + 1) (min r' r) [])
  else if headU (wk σ a) (wk σ b) = true then .ok σ c r ((elems (wk σ a).kids).zip (elems (wk σ b).kids))
  else .no

theorem one_le {r c : Nat} {σ : Sb} {a b : Nd} {σ' : Sb} {c' r' : Nat} {l : List (Nd × Nd)} (h : one r c σ a b = .ok σ' c' r' l) : r' ≤ r := by
  unfold one at h
  split at h
  · split at h
    · cases h; exact Nat.le_refl _
    · split at h
      · cases h
      · cases h
      · cases h; exact Nat.min_le_right _ _
  · split at h
    · split at h
      · cases h
      · cases h
      · cases h; exact Nat.min_le_right _ _
    · split at h
      · cases h; exact Nat.le_refl _
      · cases h

noncomputable def un (r c : Nat) (σ : Sb) (l : List (Nd × Nd)) : Out :=
  match l, r with
  | [], r => .ok σ c r
  | _ :: _, 0 => .full
  | (a, b) :: l, r + 1 =>
    match h : one r c σ a b with
    | .full => .full
    | .no => .no
    | .ok σ' c' r' m => un r' c' σ' (m ++ l)
termination_by r
decreasing_by
  have := one_le h
  omega

theorem un_nil (r c : Nat) (σ : Sb) : un r c σ [] = .ok σ c r := by rw [un]
theorem un_zero (c : Nat) (σ : Sb) (p : Nd × Nd) (l : List (Nd × Nd)) : un 0 c σ (p :: l) = .full := by rw [un]
theorem un_full {r c : Nat} {σ : Sb} {a b : Nd} {l : List (Nd × Nd)} (h : one r c σ a b = .full) : un (r + 1) c σ ((a, b) :: l) = .full := by
  rw [un]
  split
  · rfl
  · rename_i h'; rw [h] at h'; cases h'
  · rename_i h'; rw [h] at h'; cases h'
theorem un_no {r c : Nat} {σ : Sb} {a b : Nd} {l : List (Nd × Nd)} (h : one r c σ a b = .no) : un (r + 1) c σ ((a, b) :: l) = .no := by
  rw [un]
  split
  · rename_i h'; rw [h] at h'; cases h'
  · rfl
  · rename_i h'; rw [h] at h'; cases h'
theorem un_ok {r c : Nat} {σ : Sb} {a b : Nd} {l m : List (Nd × Nd)} {σ' : Sb} {c' r' : Nat} (h : one r c σ a b = .ok σ' c' r' m) : un (r + 1) c σ ((a, b) :: l) = un r' c' σ' (m ++ l) := by
  rw [un]
  split
  · rename_i h'; rw [h] at h'; cases h'
  · rename_i h'; rw [h] at h'; cases h'
  · rename_i h'; rw [h] at h'; cases h'; rfl

/-- substitutions that are alike, each bound once more -/
theorem STw.put2 {σ ρ : Sb} (h : STw σ ρ) {v : Int} {x t : Nd} (ht : x.twin t) : STw (σ.put v x) (ρ.put v t) := by
  refine ⟨fun u hu => ?_, fun u y hy => ?_⟩
  · by_cases e : u = v
    · subst e; rw [Sb.put_same] at hu; cases hu
    · rw [Sb.put_other e] at hu ⊢; exact h.no u hu
  · by_cases e : u = v
    · subst e
      rw [Sb.put_same] at hy ⊢
      cases hy
      exact ⟨t, rfl, ht⟩
    · rw [Sb.put_other e] at hy ⊢
      exact h.yes u y hy

theorem posA_tw (v : Int) {a b : List Nd} (h : TwL a b) : ∀ i, posA v i a = posA v i b := by
  induction h with
  | nil => intro i; rfl
  | cons h1 _ ih =>
    intro i
    simp only [posA]
    rw [h1.1, h1.2.2.1, ih]

theorem Nd.twin_symm {x y : Nd} (h : x.twin y) : y.twin x := ⟨h.1.symm, h.2.1.symm, h.2.2.1.symm, Ts.twin_symm _ _ h.2.2.2⟩
theorem Nd.twin_trans {x y z : Nd} (h : x.twin y) (h' : y.twin z) : x.twin z := ⟨h.1.trans h'.1, h.2.1.trans h'.2.1, h.2.2.1.trans h'.2.2.1, Go.Proofs.Ytflomdnjabgnaaa.twin_trans h.2.2.2 h'.2.2.2⟩

theorem bnd_tw {σ ρ : Sb} (h : STw σ ρ) (hE : Ends σ) {r : Nat} {v : Int} {t t' : Nd} (ht : t.twin t') : bnd r σ v t = bnd r ρ v t' := by
  have hv := h.vis hE (r + 1) (.cons ht .nil)
  unfold bnd
  rw [posA_tw v hv, hv.length]

theorem headU_tw {x y x' y' : Nd} (h : x.twin x') (h' : y.twin y') : headU x y = headU x' y' := by
  unfold headU
  rw [h.1, h.2.1, h.2.2.1, h'.1, h'.2.1, h'.2.2.1, Ts.twin_len _ _ h.2.2.2, Ts.twin_len _ _ h'.2.2.2]

/-- pairs that are alike -/
inductive TwP : List (Nd × Nd) → List (Nd × Nd) → Prop
  | nil : TwP [] []
  | cons {a b a' b' : Nd} {l m : List (Nd × Nd)} (h : a.twin a') (h' : b.twin b') (hl : TwP l m) : TwP ((a, b) :: l) ((a', b') :: m)

theorem TwP.app {a b : List (Nd × Nd)} (h : TwP a b) {c d : List (Nd × Nd)} (h' : TwP c d) : TwP (a ++ c) (b ++ d) := by
  induction h with
  | nil => exact h'
  | cons h1 h2 _ ih => exact .cons h1 h2 ih

theorem TwP.refl : ∀ l : List (Nd × Nd), TwP l l
  | [] => .nil
  | (a, b) :: l => .cons (Nd.twin_refl a) (Nd.twin_refl b) (TwP.refl l)

theorem TwL.zip {a a' : List Nd} (h : TwL a a') : ∀ {b b' : List Nd}, TwL b b' → TwP (a.zip b) (a'.zip b') := by
  induction h with
  | nil => intro b b' _; simp only [List.zip_nil_left]; exact .nil
  | cons h1 _ ih =>
    intro b b' hb
    cases hb with
    | nil => simp only [List.zip_nil_right]; exact .nil
    | cons h2 hb => simp only [List.zip_cons_cons]; exact .cons h1 h2 (ih hb)

/-- ends that are alike -/
def OneO.tw : OneO → OneO → Prop
  | .full, .full => True
  | .no, .no => True
  | .ok σ c r l, .ok ρ c' r' l' => STw σ ρ ∧ c = c' ∧ r = r' ∧ TwP l l'
  | _, _ => False
def Out.tw : Out → Out → Prop
  | .full, .full => True
  | .no, .no => True
  | .ok σ c r, .ok ρ c' r' => STw σ ρ ∧ c = c' ∧ r = r'
  | _, _ => False

theorem one_tw {σ ρ : Sb} (h : STw σ ρ) (hE : Ends σ) {r c : Nat} {a b a' b' : Nd} (ha : a.twin a') (hb : b.twin b') : (one r c σ a b).tw (one r c ρ a' b') := by
  have hx := h.wk hE ha
  have hy := h.wk hE hb
  unfold one
  rw [← hx.1, ← hy.1, ← hx.2.2.1, ← hy.2.2.1, ← bnd_tw h hE hy, ← bnd_tw h hE hx, ← headU_tw hx hy]
  split
  · split
    · exact ⟨h, rfl, rfl, .nil⟩
    · split
      · exact trivial
      · exact trivial
      · exact ⟨h.put2 hy, rfl, rfl, .nil⟩
  · split
    · split
      · exact trivial
      · exact trivial
      · exact ⟨h.put2 hx, rfl, rfl, .nil⟩
    · split
      · exact ⟨h, rfl, rfl, (elems_tw hx.2.2.2).zip (elems_tw hy.2.2.2)⟩
      · exact trivial

theorem wk_wk {σ : Sb} (hE : Ends σ) (t : Nd) : wk σ (wk σ t) = wk σ t := wk_stop (wk_spec hE t).ends

theorem bnd_not {r r' : Nat} {σ : Sb} {v : Int} {t : Nd} (h : bnd r σ v t = .ok r') : posA v 0 (vis σ (r + 1) [t]) < 0 ∧ (vis σ (r + 1) [t]).length ≤ r ∧ 0 ≤ v ∧ r' = r - (vis σ (r + 1) [t]).length := by
  unfold bnd at h
  split at h
  · cases h
  · rename_i h1
    split at h
    · cases h
    · rename_i h2
      split at h
      · cases h
      · rename_i h3
        cases h
        have := posA_le v (vis σ (r + 1) [t]) 0
        refine ⟨?_, by omega, by omega, rfl⟩
        omega

theorem bnd_ends {r r' : Nat} {σ : Sb} {v : Int} {t : Nd} (hE : Ends σ) (hv : σ v = none) (h : bnd r σ v t = .ok r') : Ends (σ.put v t) := by
  refine hE.put hv fun hc => ?_
  have h1 := (bnd_not h).1
  simp only [vis, posA] at h1
  rw [if_pos (by rw [hc.1, hc.2]; simp)] at h1
  omega

theorem one_ends {σ σ' : Sb} {r c r' c' : Nat} {a b : Nd} {l : List (Nd × Nd)} (hE : Ends σ) (h : one r c σ a b = .ok σ' c' r' l) : Ends σ' := by
  have free : ∀ t, ((wk σ t).k == 1) = true → σ (wk σ t).n = none := fun t hk => by
    rcases (wk_spec hE t).ends with h | h
    · rw [h] at hk; cases hk
    · exact h
  unfold one at h
  split at h
  · rename_i hk
    split at h
    · cases h; exact hE
    · split at h
      · cases h
      · cases h
      · rename_i hb
        cases h
        exact bnd_ends hE (free _ hk) hb
  · split at h
    · rename_i hk
      split at h
      · cases h
      · cases h
      · rename_i hb
        cases h
        exact bnd_ends hE (free _ hk) hb
    · split at h
      · cases h; exact hE
      · cases h

theorem un_tw : ∀ (r : Nat) {σ ρ : Sb} (c : Nat) {l m : List (Nd × Nd)}, STw σ ρ → Ends σ → TwP l m → (un r c σ l).tw (un r c ρ m) := by
  intro r
  induction r using Nat.strongRecOn with
  | ind r ih =>
  intro σ ρ c l m h hE hl
  cases hl with
  | nil => rw [un_nil, un_nil]; exact ⟨h, rfl, rfl⟩
  | @cons a b a' b' l m ha hb hl =>
    cases r with
    | zero => rw [un_zero, un_zero]; trivial
    | succ r =>
      have h1 := one_tw (r := r) (c := c) h hE ha hb
      cases e1 : one r c σ a b with
      | full =>
        rw [e1] at h1
        cases e2 : one r c ρ a' b' with
        | full => rw [un_full e1, un_full e2]; trivial
        | no => rw [e2] at h1; exact h1.elim
        | ok σ2 c2 r2 l2 => rw [e2] at h1; exact h1.elim
      | no =>
        rw [e1] at h1
        cases e2 : one r c ρ a' b' with
        | full => rw [e2] at h1; exact h1.elim
        | no => rw [un_no e1, un_no e2]; trivial
        | ok σ2 c2 r2 l2 => rw [e2] at h1; exact h1.elim
      | ok σ1 c1 r1 l1 =>
        rw [e1] at h1
        cases e2 : one r c ρ a' b' with
        | full => rw [e2] at h1; exact h1.elim
        | no => rw [e2] at h1; exact h1.elim
        | ok σ2 c2 r2 l2 =>
          rw [e2] at h1
          obtain ⟨g1, rfl, rfl, g4⟩ := h1
          rw [un_ok e1, un_ok e2]
          have := one_le e1
          exact ih r1 (by omega) c1 g1 (one_ends hE e1) (g4.app hl)

end Go.Proofs.Ytflomdnjabgnaaa
