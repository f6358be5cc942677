import Derived.Test.YtnmhnaanpjlniaaGreatTl
import Derived.RangeFuncNested
import Derived.RangeFuncBound
import Derived.RangeFuncCalls
import Derived.RangeFuncLeaves
import Derived.Shelf.Abstract
import Derived.Shelf.RegionOpen
import Derived.OwnWalkIn
import Derived.TacticsInMore
import Derived.LoopNIn
import Derived.LoopIn
/-
  A range over a function whose iterator keeps its state in memory of its own: a law for it. "mine" tells the blocks that are the body's own among those laid since the loop began.
-/
namespace Go.Proofs.YtnmhnaanpjlniaaGreat
open Go.RowKit

/-- what is said stays said while blocks from B on turn that aren't the body's -/
def Steady {α : Type} (B : Nat) (mine : World → Nat → Prop) (J : List α → World → Prop) : Prop :=
  ∀ s W W' row, J s W → W.grownBy W' row → (∀ r, row = some r → B ≤ r ∧ ¬ mine W r) → J s W'

/-- what a round that goes on leaves as it was -/
def Kept (lo hi : Nat) (mine : World → Nat → Prop) (W W' : World) : Prop :=
  W.heap.size ≤ W'.heap.size ∧ (∀ k, (k < lo ∨ hi ≤ k) → k < W.heap.size → ¬ mine W k → W'.heap[k]? = W.heap[k]? ∧ ¬ mine W' k) ∧ ((∀ k, W.heap.size ≤ k → ¬ mine W k) → ∀ k, W'.heap.size ≤ k → ¬ mine W' k)

def Seq {α : Type} (F : Fence) (n : Nat) (P : Program) (g : Nat) (lb : Array Value) (encs : α → Array Value) (mine : World → Nat → Prop) (S Sp : List α → Prop) (w : World) : Prop :=
  ∀ (l : Nat) (J Jx : List α → World → Prop) (W : World), Below w.heap.size w W → (∀ k, W.heap.size ≤ k → ¬ mine W k) → (∀ W1 W' row k, W1.grownBy W' row → (∀ r, row = some r → W.heap.size ≤ r ∧ ¬ mine W1 r) → ¬ mine W1 k → ¬ mine W' k) → Steady W.heap.size mine J → Steady W.heap.size mine Jx →
    (∀ pre x W1, J pre W1 → Sp (pre ++ [x]) → YieldAt F (n - 1) P l (encs x) W1 fun e W' =>
      (e = .returned (.bool true) ∧ J (pre ++ [x]) W' ∧ Kept w.heap.size W.heap.size mine W1 W') ∨ (e = .returned (.bool false) ∧ Jx (pre ++ [x]) W')) →
    J [] W →
    CallsIn F n P g (#[.func (.yield l) #[] #[]] ++ lb) W fun e W' => (∃ v, e = .returned v) ∧ ((∃ xs, S xs ∧ J xs W') ∨ (∃ pre, Sp pre ∧ Jx pre W'))

/-- how a round may be left -/
def leftBy {α : Type} (lo B : Nat) (mine : World → Nat → Prop) (I : List α → World → Prop) (Ix : Code → List α → World → Prop) (xs : List α) (W : World) : Exit → Act → World → Prop
  | .normal, _, W' => KeepsFrom B W W' ∧ Kept lo (B + 2) mine W W' ∧ I xs W'
  | .ret, _, W' => KeepsFrom B W W' ∧ Ix .ret xs W'
  | .exit id, _, W' => KeepsFrom B W W' ∧ Ix (.exit id) xs W'
  | _, _, _ => False

theorem range_law {α : Type} {F : Fence} {n : Nat} {P : Program} {g : Operand} {ps : Array Tmp} {assign body : Code} {Q : Exit → Act → World → Prop} {a : Act} {w : World}
    (hround : F.round = none) (h1 : 1 ≤ n) {gf : Nat} {lb : Array Value} (hg : a.eval g = .func (.func gf) #[] lb) (hfn : F.fn gf) (henter : ∀ args w, (callFunc gf args).run P w = .ok (.enter gf args) w)
    {encs : α → Array Value} {mine : World → Nat → Prop} {S Sp : List α → Prop} {w0 : World} (hseq : Seq F (n - 1) P gf lb encs mine S Sp w0)
    (hmine : ∀ W W' row k, W.grownBy W' row → (∀ r, row = some r → w.heap.size ≤ r ∧ ((∃ o : Obj, W.heap[r]? = some o ∧ o.isCells = false) ∨ ¬ mine W r)) → ¬ mine W k → ¬ mine W' k)
    (hnew : ∀ k, w.heap.size ≤ k → ¬ mine w k)
    (hb0 : Below w0.heap.size w0 w) (hps : ∀ x, (encs x).size = ps.size)
    (I : List α → World → Prop) (Ix : Code → List α → World → Prop)
    (hI : ∀ s W W' row, I s W → W.grownBy W' row → (∀ r, row = some r → w.heap.size ≤ r ∧ ((∃ o : Obj, W.heap[r]? = some o ∧ o.isCells = false) ∨ ¬ mine W r)) → I s W')
    (hIx : ∀ c s W W' row, Ix c s W → W.grownBy W' row → (∀ r, row = some r → w.heap.size ≤ r ∧ ((∃ o : Obj, W.heap[r]? = some o ∧ o.isCells = false) ∨ ¬ mine W r)) → Ix c s W')
    (hstart : I [] w) (a₁ : α → World → Act → Prop)
    (hassign : ∀ (l : Nat) (pre : List α) (x : α) (W : World) (K : Act → World → Prop), I pre W → (∀ a' W', a₁ x W' a' → KeepsFrom w.heap.size W W' → Kept w0.heap.size (w.heap.size + 2) mine W W' → I pre W' → K a' W') →
      assign.wpIn (F.inRound l) (n - 1 - 1) P (Exit.then K (fun _ _ _ => False)) { tmps := (ps.zip (encs x)).foldl (fun t (p, v) => t.setIfInBounds p v) a.tmps, defers := [] } W)
    (ha₁ : ∀ x a' W W' row, a₁ x W a' → W.grownBy W' row → (∀ r, row = some r → w.heap.size ≤ r ∧ ∃ o : Obj, W.heap[r]? = some o ∧ o.isCells = false) → a₁ x W' a')
    (hbody : ∀ (l : Nat) (pre : List α) (x : α) (a' : Act) (W : World), I pre W → a₁ x W a' → Sp (pre ++ [x]) → body.wpIn (F.inRound l) (n - 1 - 1) P (leftBy w0.heap.size w.heap.size mine I Ix (pre ++ [x]) W) a' W)
    (hdone : ∀ (D : Nat) (xs : List α) (W : World), w.heap.size ≤ D → S xs → I xs W → W.heap[D]? = some (.deferred (some [])) → Q .normal { a with defers := { target := .collected D, args := #[] } :: a.defers } W)
    (hstop : ∀ (D : Nat) (c : Code) (pre : List α) (W : World), w.heap.size ≤ D → Sp pre → Ix c pre W → W.heap[D]? = some (.deferred (some [])) → c.wpIn F n P Q { a with defers := { target := .collected D, args := #[] } :: a.defers } W) :
    (Code.rangeFunc g ps assign body).wpIn F n P Q a w := by
  refine wpIn_rangeFunc fun fn hfn' => ?_
  rw [hround]
  let D := w.heap.size
  let l := w.heap.size + 1
  let rec_ : LoopState → Option Code → Loop := fun st pe => { state := st, pending := pe, fn, tmps := a.tmps, params := ps, assign, body, defers := D }
  -- the two blocks of the loop
  have hbook : ∃ W1 : World, W1 = (w.alloc (.deferred (some []))).alloc (.loop (rec_ .ready none)) ∧ W1.heap.size = w.heap.size + 2 ∧ W1.heap[l]? = some (.loop (rec_ .ready none)) ∧ W1.heap[D]? = some (.deferred (some [])) ∧ I [] W1 ∧ Below w.heap.size w W1 ∧ (∀ k, w.heap.size ≤ k → ¬ mine W1 k) := by
    refine ⟨_, rfl, by simp, ?_, ?_, ?_, ((Below.refl _ w).alloc (Nat.le_refl _) _).alloc (by simp) _, fun k hk => ?_⟩
    · have := World.alloc_heap_new (w.alloc (.deferred (some []))) (.loop (rec_ .ready none)); rwa [World.size_alloc] at this
    · exact (Below.heap_alloc _ _ _ (by simp [D])).trans (World.alloc_heap_new w _)
    · exact hI _ _ _ none (hI _ _ _ none hstart (World.grownBy_alloc w _ none) (fun r e => by cases e)) (World.grownBy_alloc _ _ none) (fun r e => by cases e)
    · exact hmine _ _ none k (World.grownBy_alloc _ _ none) (fun r e => by cases e) (hmine _ _ none k (World.grownBy_alloc w _ none) (fun r e => by cases e) (hnew k hk))
  obtain ⟨W1, hW1, hsz1, hrec1, hdef1, hI1, hB1, hm1⟩ := hbook
  have hlD : l ≠ D := by simp [l, D]
  -- turning the record
  have turn : ∀ (W : World) (r r' : Loop), W.heap[l]? = some (.loop r) → W.grownBy (W.putObj l (.loop r')) (some l) ∧ (∀ q, some l = some q → w.heap.size ≤ q ∧ ∃ o : Obj, W.heap[q]? = some o ∧ o.isCells = false) := fun W r r' h =>
    ⟨grownBy_putObj' W l _, fun q e => by cases e; exact ⟨Nat.le_succ _, _, h, rfl⟩⟩
  have turnI : ∀ s (W : World) (r r' : Loop), W.heap[l]? = some (.loop r) → I s W → I s (W.putObj l (.loop r')) := fun s W r r' h hs =>
    hI _ _ _ (some l) hs (turn W r r' h).1 fun q e => ⟨((turn W r r' h).2 q e).1, .inl ((turn W r r' h).2 q e).2⟩
  have turnIx : ∀ c s (W : World) (r r' : Loop), W.heap[l]? = some (.loop r) → Ix c s W → Ix c s (W.putObj l (.loop r')) := fun c s W r r' h hs =>
    hIx c _ _ _ (some l) hs (turn W r r' h).1 fun q e => ⟨((turn W r r' h).2 q e).1, .inl ((turn W r r' h).2 q e).2⟩
  have turnK : ∀ (W : World) (r r' : Loop), W.heap[l]? = some (.loop r) → Kept w0.heap.size (w.heap.size + 2) mine W (W.putObj l (.loop r')) := fun W r r' h => by
    refine ⟨(turn W r r' h).1.size, fun k hk hlt hnm => ⟨World.putObj_heap_other (by have := hb0.size; simp only [l]; omega), hmine _ _ (some l) k (turn W r r' h).1 (fun q e => ⟨((turn W r r' h).2 q e).1, .inl ((turn W r r' h).2 q e).2⟩) hnm⟩, fun hb k hk => hmine _ _ (some l) k (turn W r r' h).1 (fun q e => ⟨((turn W r r' h).2 q e).1, .inl ((turn W r r' h).2 q e).2⟩) (hb k (Nat.le_trans (turn W r r' h).1.size hk))⟩
  have keptT : ∀ {A B C : World}, Kept w0.heap.size (w.heap.size + 2) mine A B → Kept w0.heap.size (w.heap.size + 2) mine B C → Kept w0.heap.size (w.heap.size + 2) mine A C := fun {A B C} h k =>
    ⟨Nat.le_trans h.1 k.1, fun i hi hlt hn => by
      obtain ⟨e1, m1⟩ := h.2.1 i hi hlt hn
      obtain ⟨e2, m2⟩ := k.2.1 i hi (Nat.lt_of_lt_of_le hlt h.1) m1
      exact ⟨e2.trans e1, m2⟩, fun hb => k.2.2 (h.2.2 hb)⟩
  have keepsL : ∀ {A B : World} {r : Loop}, KeepsFrom w.heap.size A B → A.heap[l]? = some (.loop r) → B.heap[l]? = some (.loop r) := fun hk h => hk.same l _ (Nat.le_succ _) h rfl
  have keepsD : ∀ {A B : World}, KeepsFrom w.heap.size A B → A.heap[D]? = some (.deferred (some [])) → B.heap[D]? = some (.deferred (some [])) := fun hk h => hk.same D _ (Nat.le_refl _) h rfl
  have putD : ∀ {A : World} {o : Obj}, A.heap[D]? = some (.deferred (some [])) → (A.putObj l o).heap[D]? = some (.deferred (some [])) := fun h => (World.putObj_heap_other (Ne.symm hlD)).trans h
  have putL : ∀ {A : World} {r r' : Loop}, A.heap[l]? = some (.loop r) → (A.putObj l (.loop r')).heap[l]? = some (.loop r') := fun h => World.putObj_heap_same (Array.getElem?_eq_some_iff.1 h).1
  have growL : ∀ {A B : World} {row : Option Nat} {o : Obj} {q : Nat}, A.grownBy B row → (∀ r, row = some r → W1.heap.size ≤ r ∧ ¬ mine A r) → q < w.heap.size + 2 → A.heap[q]? = some o → B.heap[q]? = some o := fun {A B row o q} hg' hr hq h =>
    (hg'.block q (Array.getElem?_eq_some_iff.1 h).1 (fun e => by have := (hr q e.symm).1; omega)).trans h
  refine ⟨l, [{ target := .collected D, args := #[] }], W1, { target := .fn (.func gf) lb, args := #[.func (.yield l) #[] #[]] }, W1, gf, #[.func (.yield l) #[] #[]] ++ lb, W1, ?_, ?_, ?_, ?_, fun _ => h1, ?_⟩
  · rw [hW1]; exact run_enterLoop_outer _ _ _ _ _
  · simp only [resolve, hg]
    simp [go_sem]
  · intro f' hf'
    simp [Target.leads] at hf'
    subst hf'
    exact hfn
  · simp [invoke, go_sem, henter]
  · refine (hseq l
      (fun pre W => I pre W ∧ W.heap[l]? = some (.loop (rec_ .ready none)) ∧ W.heap[D]? = some (.deferred (some [])))
      (fun pre W => ∃ c, Ix c pre W ∧ W.heap[l]? = some (.loop (rec_ .done (some c))) ∧ W.heap[D]? = some (.deferred (some [])))
      W1 (hb0.trans (hB1.mono hb0.size)) (fun k hk => hm1 k (by omega)) (fun A B row k hg' hr hk => hmine A B row k hg' (fun r e => ⟨by have := (hr r e).1; omega, .inr (hr r e).2⟩) hk) ?_ ?_ ?_ ⟨hI1, hrec1, hdef1⟩).mono ?_
    · intro s A B row hs hg' hr
      exact ⟨hI s A B row hs.1 hg' (fun r e => ⟨by have := (hr r e).1; omega, .inr (hr r e).2⟩), growL hg' hr (by simp only [l]; omega) hs.2.1, growL hg' hr (by simp only [D]; omega) hs.2.2⟩
    · intro s A B row hs hg' hr
      obtain ⟨c, hc, h2, h3⟩ := hs
      exact ⟨c, hIx c s A B row hc hg' (fun r e => ⟨by have := (hr r e).1; omega, .inr (hr r e).2⟩), growL hg' hr (by simp only [l]; omega) h2, growL hg' hr (by simp only [D]; omega) h3⟩
    · -- a round
      rintro pre x W ⟨hi, hl, hk⟩ hlen
      have hy := run_yield (P := P) (args := encs x) hl (hps x)
      refine ⟨fn, _, assign, body, hy, roundIn_of_wpIn hfn' (hassign _ pre x W _ hi fun a' W2 ha' hkf hkp hi2 => ?_)⟩
      have hl2 := keepsL hkf hl
      refine ⟨_, run_beginRound hl2 rfl, ?_⟩
      have hl3 : (W2.putObj l (.loop (rec_ .busy none))).heap[l]? = some (.loop (rec_ .busy none)) := putL hl2
      have hd3 : (W2.putObj l (.loop (rec_ .busy none))).heap[D]? = some (.deferred (some [])) := putD (keepsD hkf hk)
      have hk3 := keptT hkp (turnK W2 _ (rec_ .busy none) hl2)
      refine wpIn_mono (hbody _ pre x a' _ (turnI _ _ _ (rec_ .busy none) hl2 hi2) (ha₁ _ _ _ _ (some l) ha' (turn W2 _ (rec_ .busy none) hl2).1 (turn W2 _ (rec_ .busy none) hl2).2) hlen) ?_
      rintro e a3 W3 hp
      cases e with
      | normal =>
        obtain ⟨hkf3, hkp3, hi3⟩ := hp
        have hl4 := keepsL hkf3 hl3
        exact ⟨_, _, run_endRound none hl4, .inl ⟨rfl, ⟨turnI _ _ _ _ hl4 hi3, putL hl4, putD (keepsD hkf3 hd3)⟩, by rw [hsz1]; exact keptT hk3 (keptT hkp3 (turnK _ _ _ hl4))⟩⟩
      | ret =>
        obtain ⟨hkf3, hi3⟩ := hp
        have hl4 := keepsL hkf3 hl3
        exact ⟨_, _, run_endRound (some .ret) hl4, .inr ⟨rfl, .ret, turnIx _ _ _ _ _ hl4 hi3, putL hl4, putD (keepsD hkf3 hd3)⟩⟩
      | exit id =>
        obtain ⟨hkf3, hi3⟩ := hp
        have hl4 := keepsL hkf3 hl3
        exact ⟨_, _, run_endRound (some (.exit id)) hl4, .inr ⟨rfl, .exit id, turnIx _ _ _ _ _ hl4 hi3, putL hl4, putD (keepsD hkf3 hd3)⟩⟩
      | goto t => exact hp.elim
      | panic ch => exact hp.elim
      | outgrown => exact hp.elim
    · -- behind the iterator
      rintro e W2 ⟨⟨v, rfl⟩, (⟨xs, hS, hi, hl, hk⟩ | ⟨pre, hSp, c, hi, hl, hk⟩)⟩
      · exact ⟨none, _, run_endLoop hl (by simp [rec_]), hdone D xs _ (Nat.le_refl _) hS (turnI _ _ _ _ hl hi) (putD hk)⟩
      · exact ⟨some c, _, run_endLoop hl (by simp [rec_]), hstop D c pre _ (Nat.le_refl _) hSp (turnIx _ _ _ _ _ hl hi) (putD hk)⟩

end Go.Proofs.YtnmhnaanpjlniaaGreat
