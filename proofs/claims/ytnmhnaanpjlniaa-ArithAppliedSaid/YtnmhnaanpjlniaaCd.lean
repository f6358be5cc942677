import Derived.Test.YtnmhnaanpjlniaaCc
/-
  Layer 4: what two blocks that turn leave as it was; plain facts on visits.
-/
namespace Go.Proofs.Ytnmhnaanpjlniaa
open Go.RowKit

/-- all blocks but two are as they were -/
structure G2 (KB S : Nat) (w w' : World) : Prop where
  os : w'.os = w.os
  tape : w'.tape = w.tape
  output : w'.output = w.output
  size : w.heap.size ≤ w'.heap.size
  block : ∀ k, k < w.heap.size → k ≠ KB → k ≠ S → w'.heap[k]? = w.heap[k]?

theorem G2.refl (KB S : Nat) (w : World) : G2 KB S w w := ⟨rfl, rfl, rfl, Nat.le_refl _, fun _ _ _ _ => rfl⟩
theorem G2.trans {KB S : Nat} {a b c : World} (h : G2 KB S a b) (k : G2 KB S b c) : G2 KB S a c :=
  ⟨k.os.trans h.os, k.tape.trans h.tape, k.output.trans h.output, Nat.le_trans h.size k.size, fun i hi h1 h2 => (k.block i (Nat.lt_of_lt_of_le hi h.size) h1 h2).trans (h.block i hi h1 h2)⟩
theorem G2.of_below {KB S : Nat} {w w' : World} (h : Below w.heap.size w w') : G2 KB S w w' := ⟨h.os, h.tape, h.output, h.size, fun k hk _ _ => h.block k hk⟩
theorem G2.of_K {KB S : Nat} {w w' : World} (h : w.grownBy w' (some KB)) : G2 KB S w w' := ⟨h.os, h.tape, h.output, h.size, fun k hk h1 _ => h.block k hk (fun e => h1 (by cases e; rfl))⟩
theorem G2.of_S {KB S : Nat} {w w' : World} (h : w.grownBy w' (some S)) : G2 KB S w w' := ⟨h.os, h.tape, h.output, h.size, fun k hk _ h1 => h.block k hk (fun e => h1 (by cases e; rfl))⟩
theorem G2.below {KB S B : Nat} {a w w' : World} (h : Below B a w) (hg : G2 KB S w w') (hB : B ≤ w.heap.size) (h1 : B ≤ KB) (h2 : B ≤ S) : Below B a w' :=
  h.trans ⟨hg.os, hg.tape, hg.output, hg.size, fun k hk => hg.block k (by omega) (by omega) (by omega)⟩

/-- a block holds fewer cells than a term has -/
def Tiny (K : Nat) (w : World) : Prop := ∃ cs t fr, w.heap[K]? = some (.cells cs t fr) ∧ cs.size < 4
theorem Tiny.ne {K b o : Nat} {w : World} (h : Tiny K w) {v : Value} (hc : w.cell? ⟨b, o + 3, none⟩ = some v) : b ≠ K := by
  obtain ⟨cs, t, fr, h1, h2⟩ := h
  intro e
  subst e
  simp only [World.cell?, h1] at hc
  have := (Array.getElem?_eq_some_iff.1 hc).1
  omega
theorem UAt.tinyK {KB S : Nat} {σ : Sb} {n m : Nat} {w : World} (h : UAt KB S σ n m w) : Tiny KB w := ⟨_, _, _, h.cell, by simp⟩
theorem SubAt.tiny {S : Nat} {σ : Sb} {n : Nat} {w : World} (h : SubAt S σ n w) : Tiny S w := by
  obtain ⟨p, hh, h1, _⟩ := h.cells
  exact ⟨_, _, _, h1, by simp⟩

theorem liesP_g2 {P : Nat → Prop} {KB S : Nat} {w w' : World} (hg : G2 KB S w w') (hK : Tiny KB w) (hS : Tiny S w) : ∀ (ts : Ts) {b o : Nat}, ts.liesP P w b o → ts.liesP P w' b o
  | .nil, _, _, _ => trivial
  | .cons k s n p c kids rest, b, o, ⟨hP, h0, h1, h2, h3, ⟨b', o', h4, h5⟩, h6⟩ => by
    have e := fun y => World.cell?_of_block (a := ⟨b, y, none⟩) (hg.block b (World.block_lt_of_cell? _ _ h0) (hK.ne h3) (hS.ne h3))
    exact ⟨hP, (e _).trans h0, (e _).trans h1, (e _).trans h2, (e _).trans h3, ⟨b', o', h4, liesP_g2 hg hK hS kids h5⟩, liesP_g2 hg hK hS rest h6⟩
theorem AtP_g2 {P : Nat → Prop} {KB S : Nat} {w w' : World} (hg : G2 KB S w w') (hK : Tiny KB w) (hS : Tiny S w) {p : Option Addr} {ts : Ts} (h : Ts.AtP P w p ts) : Ts.AtP P w' p ts := by
  obtain ⟨b, o, h1, h2⟩ := h
  exact ⟨b, o, h1, liesP_g2 hg hK hS ts h2⟩
theorem At_g2 {KB S : Nat} {w w' : World} (hg : G2 KB S w w') (hK : Tiny KB w) (hS : Tiny S w) {p : Option Addr} {ts : Ts} (h : Ts.At w p ts) : Ts.At w' p ts := AtP_at (AtP_g2 hg hK hS h.atP)

theorem BoxIs.g2 {B : Nat} {x : Nd} {KB S : Nat} {w w' : World} (h : BoxIs B x w) (hg : G2 KB S w w') (h1 : B ≠ KB) (h2 : B ≠ S) : BoxIs B x w' := h.of_block (hg.block B h.lt h1 h2)

theorem vis_mono {σ : Sb} : ∀ (f g : Nat) {l : List Nd}, (vis σ f l).length < f → f ≤ g → vis σ g l = vis σ f l
  | 0, _, _, h, _ => by omega
  | _ + 1, 0, _, _, h => by omega
  | _ + 1, _ + 1, [], _, _ => rfl
  | f + 1, g + 1, t :: rest, h, hg => by
    simp only [vis, List.length_cons] at h ⊢
    rw [vis_mono f g (by omega) (by omega)]

theorem posA_hit (v : Int) (y : Nd) (rest : List Nd) (hy : ((y.k == 1) && (y.n == v)) = true) : ∀ (pre : List Nd) (i : Nat), posA v i pre < 0 → posA v i (pre ++ y :: rest) = ((i + pre.length + 1 : Nat) : Int)
  | [], i, _ => by simp only [List.nil_append, posA, hy, if_true, List.length_nil, Nat.add_zero]
  | x :: pre, i, h => by
    simp only [posA] at h
    split at h
    · omega
    · rename_i hx
      simp only [List.cons_append, posA, if_neg hx, List.length_cons]
      rw [posA_hit v y rest hy pre (i + 1) h]
      congr 1
      omega

theorem bind_zero_of {r : Nat} {σ : Sb} {v : Int} {t : Nd} (hr : r ≤ 4096) (hv : 0 ≤ v) (hn : σ v = none) (h1 : posA v 0 (vis σ (r + 1) [t]) < 0) (h2 : (vis σ (r + 1) [t]).length ≤ r) : bindE σ v t = 0 := by
  have e := vis_mono (σ := σ) (r + 1) 4097 (l := [t]) (by omega) (by omega)
  have ho : occ v (num 0 (vis σ 4097 [t])) = (false, 0) := by
    rw [e, occ_pos v _ 0 (by omega) (by omega), if_neg (by omega), if_neg (by omega)]
  unfold bindE
  rw [if_neg (by omega), hn, ho]
  simp

/-- how far a unification is from the end of its visits -/
def visFar (KB : Nat) (w : World) : Nat := match w.cell? ⟨KB, 1, none⟩ with
  | some (.int _ m) => 4097 - m.toNat
  | _ => 0
theorem UAt.far {KB S : Nat} {σ : Sb} {n m : Nat} {w : World} (h : UAt KB S σ n m w) : visFar KB w = 4097 - m := by
  unfold visFar
  rw [h.c1]
  simp

theorem G2.one {KB S : Nat} {w w' : World} (h : G2 KB KB w w') : G2 KB S w w' := ⟨h.os, h.tape, h.output, h.size, fun k hk h1 _ => h.block k hk h1 h1⟩

/-- a block turns that was not there -/
theorem G2.fresh {KB S g : Nat} {w a b : World} (h : G2 KB S w a) (hg : a.grownBy b (some g)) (hge : w.heap.size ≤ g) : G2 KB S w b :=
  ⟨hg.os.trans h.os, hg.tape.trans h.tape, hg.output.trans h.output, Nat.le_trans h.size hg.size, fun k hk h1 h2 => (hg.block k (Nat.lt_of_lt_of_le hk h.size) (fun e => by cases e; omega)).trans (h.block k hk h1 h2)⟩

/-- a small block turns, and new ones -/
theorem SubAt.g1 {S KB : Nat} {σ : Sb} {n : Nat} {w w' : World} (h : SubAt S σ n w) (hg : G2 KB KB w w') (hK : Tiny KB w) (hne : S ≠ KB) : SubAt S σ n w' := by
  obtain ⟨p, hh, h1, h3, h4, h5⟩ := h.cells
  obtain ⟨cs, t, fr, k1, k2⟩ := hK
  refine ⟨⟨p, hh, (hg.block S h.lt hne hne).trans h1, h3, h4.stay (Nat.le_refl _) (fun b hb => ?_), h5⟩, h.ends, fun v x hx => ⟨At_g2 hg ⟨cs, t, fr, k1, k2⟩ ⟨cs, t, fr, k1, k2⟩ (h.at_ v x hx).1, (h.at_ v x hx).2⟩⟩
  have hb2 : b < w.heap.size ∧ b ≠ KB := by
    rcases hb with ⟨ks, u, hb⟩ | ⟨es, k, hb⟩
    · refine ⟨(Array.getElem?_eq_some_iff.1 hb).1, fun e => ?_⟩
      rw [e, k1] at hb
      cases hb
      rw [kidCells_size] at k2
      omega
    · refine ⟨(Array.getElem?_eq_some_iff.1 hb).1, fun e => ?_⟩
      rw [e, k1] at hb
      cases hb
  exact hg.block b hb2.1 hb2.2 hb2.2

end Go.Proofs.Ytnmhnaanpjlniaa
