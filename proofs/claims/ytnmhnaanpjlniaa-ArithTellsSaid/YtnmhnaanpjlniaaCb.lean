import Derived.Test.YtnmhnaanpjlniaaAs
import Derived.Test.YtnmhnaanpjlniaaAv
import Derived.Test.YtnmhnaanpjlniaaBo
import Derived.Test.YtnmhnaanpjlniaaXo
import Derived.Test.YtnmhnaanpjlniaaAz
import Derived.Defers
import Derived.Recover
/-
  Layer 13: what a term is worth: as a function, and its plain facts.
-/
namespace Go.Proofs.Ytnmhnaanpjlniaa
open Go.RowKit

/-- what an operation comes to -/
def opR : Nat → Int → Int → Int × Int
  | 0 => plusR | 1 => minusR | 2 => timesR | 3 => quotR | 4 => remR | 5 => modR | _ => minusR

/-- one operation, behind what its numbers come to -/
noncomputable def rkOp (rec : Nat → Nd → (Int × Int) × Nat) (r : Nat) : Option Nat → List Nd → (Int × Int) × Nat
  | some j, [a] => if (rec r a).1.2 ≠ 0 then ((0, (rec r a).1.2), (rec r a).2) else (opR j 0 (rec r a).1.1, (rec r a).2)
  | some j, [a, b] =>
    if (rec r a).1.2 ≠ 0 then ((0, (rec r a).1.2), (rec r a).2)
    else if (rec (rec r a).2 b).1.2 ≠ 0 then ((0, (rec (rec r a).2 b).1.2), (rec (rec r a).2 b).2)
    else (opR j (rec r a).1.1 (rec (rec r a).2 b).1.1, (rec (rec r a).2 b).2)
  | _, _ => ((0, 21), r)

/-- the operation of a structure -/
noncomputable def opOf (x : Nd) : Option Nat := if (x.k == 4) = true then opIdx (funKey x.s x.kids.len) else none

/-- the number, or the error; and how many nodes may still be walked to -/
noncomputable def rk (σ : Sb) : Nat → Nat → Nd → (Int × Int) × Nat
  | 0, _, _ => ((0, 31), 0)
  | f + 1, r, t =>
    if r = 0 then ((0, 31), 0)
    else if ((wk σ t).k == 1) = true then ((0, 20), r - 1)
    else if ((wk σ t).k == 2) = true then (((wk σ t).n, 0), r - 1)
    else rkOp (rk σ f) (r - 1) (opOf (wk σ t)) (elems (wk σ t).kids)

theorem rkOp_none (rec : Nat → Nd → (Int × Int) × Nat) (r : Nat) (l : List Nd) : rkOp rec r none l = ((0, 21), r) := by
  cases l with
  | nil => rfl
  | cons a l => cases l with
    | nil => rfl
    | cons b l => cases l <;> rfl
theorem rkOp_nil (rec : Nat → Nd → (Int × Int) × Nat) (r : Nat) (o : Option Nat) : rkOp rec r o [] = ((0, 21), r) := by cases o <;> rfl
theorem rkOp_many (rec : Nat → Nd → (Int × Int) × Nat) (r : Nat) (o : Option Nat) (a b c : Nd) (l : List Nd) : rkOp rec r o (a :: b :: c :: l) = ((0, 21), r) := by cases o <;> rfl

/-- in every way alike -/
inductive Rel2 (P : Nd → Nd → Prop) : List Nd → List Nd → Prop
  | nil : Rel2 P [] []
  | cons {x y : Nd} {l m : List Nd} (h : P x y) (h' : Rel2 P l m) : Rel2 P (x :: l) (y :: m)

theorem rkOp_congr {P : Nd → Nd → Prop} {rec rec' : Nat → Nd → (Int × Int) × Nat} {r : Nat} {o : Option Nat} {l m : List Nd} (hl : Rel2 P l m) (h : ∀ r x y, P x y → rec r x = rec' r y) : rkOp rec r o l = rkOp rec' r o m := by
  cases o with
  | none => rw [rkOp_none, rkOp_none]
  | some j =>
    cases hl with
    | nil => rfl
    | cons h1 hl =>
      cases hl with
      | nil => simp only [rkOp, h _ _ _ h1]
      | cons h2 hl =>
        cases hl with
        | nil => simp only [rkOp, h _ _ _ h1, h _ _ _ h2]
        | cons => rfl

theorem rel_tw {l m : List Nd} (h : TwL l m) : Rel2 Nd.twin l m := by
  induction h with
  | nil => exact .nil
  | cons h _ ih => exact .cons h ih

theorem rk_tw {σ ρ : Sb} (h : STw σ ρ) (hE : Ends σ) : ∀ (f r : Nat) {t t' : Nd}, t.twin t' → rk σ f r t = rk ρ f r t'
  | 0, _, _, _, _ => rfl
  | f + 1, r, t, t', ht => by
    have hw := h.wk hE ht
    have ho : opOf (wk σ t) = opOf (wk ρ t') := by unfold opOf; rw [hw.1, hw.2.1, Ts.twin_len _ _ hw.2.2.2]
    simp only [rk]
    rw [hw.1, hw.2.2.1, ho, rkOp_congr (rel_tw (elems_tw hw.2.2.2)) (fun r x y h' => rk_tw h hE f r h')]

/-- applied, or a part of what is -/
structure Apd (σ : Sb) (t X : Nd) : Prop where
  k : X.k = (wk σ t).k
  s : X.s = (wk σ t).s
  n : X.n = (wk σ t).n
  app : App σ (elems (wk σ t).kids) X.kids

theorem Ap.apd {σ : Sb} {t X : Nd} (h : Ap σ t X) : Apd σ t X := ⟨h.k, h.s, h.n, h.app⟩

theorem rel_app {σ : Sb} {l : List Nd} {us : Ts} (h : App σ l us) : Rel2 (fun X t => Apd σ t X) (elems us) l := by
  induction h with
  | nil => exact .nil
  | cons h _ _ ih => exact .cons ⟨rfl, rfl, rfl, h⟩ ih

theorem Apd.wk {σ : Sb} (hE : Ends σ) {t X : Nd} (h : Apd σ t X) : wk σ X = X := by
  by_cases hk : ((Go.Proofs.Ytnmhnaanpjlniaa.wk σ t).k == 1) = true
  · refine wk_stop (.inr ?_)
    rw [h.n]
    rcases (wk_spec hE t).ends with h1 | h1
    · rw [h1] at hk; cases hk
    · exact h1
  · exact wk_stop (.inl (by rw [h.k]; simpa using hk))

/-- a term is worth what it is worth applied -/
theorem rk_ap {σ : Sb} (hE : Ends σ) : ∀ (f r : Nat) {t X : Nd}, Apd σ t X → rk σ f r X = rk σ f r t
  | 0, _, _, _, _ => rfl
  | f + 1, r, t, X, h => by
    have hw := h.wk hE
    have hl : X.kids.len = (wk σ t).kids.len := by rw [h.app.len, elems_length]
    have ho : opOf X = opOf (wk σ t) := by unfold opOf; rw [h.k, h.s, hl]
    simp only [rk]
    rw [hw, ho, h.k, h.n, rkOp_congr (rel_app h.app) (fun r x y h' => rk_ap hE f r h')]

theorem rkOp_le {rec : Nat → Nd → (Int × Int) × Nat} (h : ∀ r x, (rec r x).2 ≤ r) (r : Nat) (o : Option Nat) (l : List Nd) : (rkOp rec r o l).2 ≤ r := by
  cases o with
  | none => rw [rkOp_none]; exact Nat.le_refl _
  | some j =>
    cases l with
    | nil => exact Nat.le_refl _
    | cons a l =>
      have h1 := h r a
      cases l with
      | nil => simp only [rkOp]; split <;> exact h1
      | cons b l =>
        have h2 := h (rec r a).2 b
        cases l with
        | nil =>
          simp only [rkOp]
          split
          · exact h1
          · split
            · simp only; omega
            · simp only; omega
        | cons => exact Nat.le_refl _

theorem rk_le (σ : Sb) : ∀ (f r : Nat) (t : Nd), (rk σ f r t).2 ≤ r - 1
  | 0, r, t => by simp [rk]
  | f + 1, r, t => by
    simp only [rk]
    split
    · simp
    · split
      · exact Nat.le_refl _
      · split
        · exact Nat.le_refl _
        · exact rkOp_le (fun r x => by have := rk_le σ f r x; omega) _ _ _

/-- with fewer nodes: full, or the same -/
def Less (d : Nat) (p q : (Int × Int) × Nat) : Prop := p.1 = (0, 31) ∨ (p.1 = q.1 ∧ p.2 + d = q.2)

theorem rkOp_less {rec rec' : Nat → Nd → (Int × Int) × Nat} {d : Nat} (h : ∀ r x, Less d (rec r x) (rec' (r + d) x)) (r : Nat) (o : Option Nat) (l : List Nd) : Less d (rkOp rec r o l) (rkOp rec' (r + d) o l) := by
  cases o with
  | none => rw [rkOp_none, rkOp_none]; exact .inr ⟨rfl, rfl⟩
  | some j =>
    cases l with
    | nil => exact .inr ⟨rfl, rfl⟩
    | cons a l =>
      have h1 := h r a
      cases l with
      | nil =>
        simp only [rkOp]
        rcases h1 with h1 | ⟨h1, h2⟩
        · rw [h1]; exact .inl rfl
        · rw [← h1, ← h2]
          split
          · exact .inr ⟨rfl, rfl⟩
          · exact .inr ⟨rfl, rfl⟩
      | cons b l =>
        cases l with
        | nil =>
          simp only [rkOp]
          rcases h1 with h1 | ⟨h1, h2⟩
          · rw [h1]; exact .inl rfl
          · rw [← h1, ← h2]
            split
            · exact .inr ⟨rfl, rfl⟩
            · rcases h (rec r a).2 b with h3 | ⟨h3, h4⟩
              · rw [h3]; exact .inl rfl
              · rw [← h3, ← h4]
                split
                · exact .inr ⟨rfl, rfl⟩
                · exact .inr ⟨rfl, rfl⟩
        | cons => exact .inr ⟨rfl, rfl⟩

theorem rk_less (σ : Sb) : ∀ (f r f' d : Nat) (t : Nd), f' = f + d → Less d (rk σ f r t) (rk σ f' (r + d) t)
  | 0, _, _, _, _, _ => .inl rfl
  | f + 1, r, f', d, t, h => by
    obtain ⟨g, rfl⟩ : ∃ g, f' = g + 1 := ⟨f + d, by omega⟩
    simp only [rk]
    by_cases hr : r = 0
    · rw [if_pos hr]; exact .inl rfl
    · have hr2 : ¬ r + d = 0 := by omega
      rw [if_neg hr, if_neg hr2, show r + d - 1 = r - 1 + d by omega]
      by_cases k1 : ((wk σ t).k == 1) = true
      · rw [if_pos k1, if_pos k1]; exact .inr ⟨rfl, rfl⟩
      · rw [if_neg k1, if_neg k1]
        by_cases k2 : ((wk σ t).k == 2) = true
        · rw [if_pos k2, if_pos k2]; exact .inr ⟨rfl, rfl⟩
        · rw [if_neg k2, if_neg k2]
          exact rkOp_less (fun r x => rk_less σ f r g d x (by omega)) _ _ _

end Go.Proofs.Ytnmhnaanpjlniaa
/-
  Layer 4: a unification's visits and walked terms.
-/
namespace Go.Proofs.Ytnmhnaanpjlniaa
open Go.RowKit

/-- a unification in memory: where its substitution is, and how many visits there were -/
structure UAt (KB S : Nat) (σ : Sb) (n m : Nat) (w : World) : Prop where
  cell : w.heap[KB]? = some (.cells #[.pointer (some ⟨S, 0, none⟩), .int .i64 (m : Nat)] 124 (0, 0))
  sub : SubAt S σ n w
  ne : KB ≠ S

theorem UAt.c0 {KB S : Nat} {σ : Sb} {n m : Nat} {w : World} (h : UAt KB S σ n m w) : w.cell? ⟨KB, 0, none⟩ = some (.pointer (some ⟨S, 0, none⟩)) := by simp [World.cell?, h.cell]
theorem UAt.c1 {KB S : Nat} {σ : Sb} {n m : Nat} {w : World} (h : UAt KB S σ n m w) : w.cell? ⟨KB, 1, none⟩ = some (.int .i64 (m : Nat)) := by simp [World.cell?, h.cell]
theorem UAt.f1 {KB S : Nat} {σ : Sb} {n m : Nat} {w : World} (h : UAt KB S σ n m w) : w.frozen? ⟨KB, 1, none⟩ = false := by simp [World.frozen?, h.cell]
theorem UAt.lt {KB S : Nat} {σ : Sb} {n m : Nat} {w : World} (h : UAt KB S σ n m w) : KB < w.heap.size := (Array.getElem?_eq_some_iff.1 h.cell).1
theorem UAt.below {KB S : Nat} {σ : Sb} {n m : Nat} {w w' : World} (h : UAt KB S σ n m w) (hB : Below w.heap.size w w') : UAt KB S σ n m w' := ⟨(hB.block KB h.lt).trans h.cell, h.sub.below hB, h.ne⟩

/-- a small block turns -/
theorem SubAt.but {S KB : Nat} {σ : Sb} {n : Nat} {w w' : World} (h : SubAt S σ n w) {cs : Array Value} {t : TypeId} {fr : Nat × Nat} (hK : w.heap[KB]? = some (.cells cs t fr)) (hz : cs.size < 4) (hne : S ≠ KB) (hg : w.grownBy w' (some KB)) : SubAt S σ n w' := by
  obtain ⟨p, hh, h1, h3, h4, h5⟩ := h.cells
  exact ⟨⟨p, hh, (hg.block S h.lt (fun e => hne (by cases e; rfl))).trans h1, h3, h4.grown hg hK (by omega), h5⟩, h.ends, fun v x hx => ⟨(h.at_ v x hx).1.small hg hK hz, (h.at_ v x hx).2⟩⟩

/-- one visit more -/
def seen (KB m : Nat) (w : World) : World := w.setCell ⟨KB, 1, none⟩ (.int .i64 ((m : Int) + 1))

theorem seen_grown (KB m : Nat) (w : World) : w.grownBy (seen KB m w) (some KB) := grown_set w KB 1 _

theorem UAt.seen {KB S : Nat} {σ : Sb} {n m : Nat} {w : World} (h : UAt KB S σ n m w) : UAt KB S σ n (m + 1) (Go.Proofs.Ytnmhnaanpjlniaa.seen KB m w) := by
  refine ⟨?_, h.sub.but h.cell (by simp) (fun e => h.ne e.symm) (seen_grown KB m w), h.ne⟩
  simp only [Go.Proofs.Ytnmhnaanpjlniaa.seen, World.setCell, Array.getElem?_modify, if_pos, h.cell]
  rfl

def fullP : List PanicEntry := [{ v := .iface 151 (.agg #[]), recovered := false }]

set_option maxHeartbeats 1000000 in
theorem visit_go (KB S : Nat) (σ : Sb) (n m : Nat) (w : World) (h : UAt KB S σ n m w) (hm : m < 4096) :
    Calls Try.prog 118 #[.pointer (some ⟨KB, 0, none⟩)] w fun e w' => e = .returned (.tuple #[]) ∧ w' = seen KB m w := by
  have c0 := h.c0
  have c1 := h.c1
  have f1 := h.f1
  have hlt : ¬ ((m : Int) + 1 > 4096) := by omega
  have hlt2 : m ≤ 1000000 := by omega
  clear hm h
  go_enter Try.func118, Try.ntmps118
  go_wp2
  go_end0
  exact ⟨rfl, rfl⟩

set_option maxHeartbeats 1000000 in
theorem visit_full (KB S : Nat) (σ : Sb) (n m : Nat) (w : World) (h : UAt KB S σ n m w) (hm : m = 4096) :
    Calls Try.prog 118 #[.pointer (some ⟨KB, 0, none⟩)] w fun e w' => e = .panicked fullP ∧ w' = seen KB m w := by
  have c0 := h.c0
  have c1 := h.c1
  have f1 := h.f1
  have hlt : (m : Int) + 1 > 4096 := by omega
  have hlt2 : m ≤ 1000000 := by omega
  clear hm h
  go_enter Try.func118, Try.ntmps118
  go_wp2
  exact ⟨rfl, rfl, rfl⟩

/-- a walked term, or the term itself -/
def WOf (P : Nat → Prop) (x : Nd) (v : Value) (w : World) : Prop := ∃ us q d, v = tv x.k x.s x.n q us.len d ∧ Ts.AtP P w q us ∧ Ts.twin us x.kids ∧ us.ok ∧ (us.len ≤ d ∧ d ≤ 9223372036854775807) ∧ (q = none → d = 0)

theorem WOf.below {P : Nat → Prop} {x : Nd} {v : Value} {w w' : World} (h : WOf P x v w) (hB : Below w.heap.size w w') : WOf P x v w' := by
  obtain ⟨us, q, d, h1, h2, h3⟩ := h
  exact ⟨us, q, d, h1, h2.stay fun b _ hb => hB.block b hb, h3⟩

theorem CloneOf.bel {x : Nd} {B : Nat} {v : Value} {w w' : World} (h : CloneOf x B v w) (hB : Below w.heap.size w w') : CloneOf x B v w' := by
  obtain ⟨us, q, d, h1, h2, h3⟩ := h
  exact ⟨us, q, d, h1, AtB_below h2 hB, h3⟩
theorem CloneOf.mon {x : Nd} {B B' : Nat} {v : Value} {w : World} (h : CloneOf x B v w) (hBB : B' ≤ B) : CloneOf x B' v w := by
  obtain ⟨us, q, d, h1, h2, h3⟩ := h
  exact ⟨us, q, d, h1, AtB_mono h2 hBB, h3⟩

set_option maxRecDepth 10000 in
set_option maxHeartbeats 1000000 in
theorem uwalk_any (KB S : Nat) (σ : Sb) (n m : Nat) (w : World) (h : UAt KB S σ n m w) (P : Nat → Prop) (hP : ∀ b, w.heap.size ≤ b → P b) (t : Nd) (hok : t.ok) (hat : Ts.AtP P w t.p t.kids) (hsz : t.kids.size ≤ 5000) :
    Calls Try.prog 119 #[.pointer (some ⟨KB, 0, none⟩), .agg #[.int .u8 t.k, .string t.s, .int .i64 t.n, .slice t.p t.kids.len t.c]] w fun e w' => ∃ v, e = .returned v ∧ WOf P (wk σ t) v w' ∧ Below w.heap.size w w' := by
  have c0 := h.c0
  have HU := Lib.hid h
  have OK := Lib.hid hok
  have AT := Lib.hid hat
  have HP := Lib.hid hP
  have hKl := h.lt
  clear h hok hat hP
  by_cases h1 : (t.k == 1) = true
  · go_enter Try.func119, Try.ntmps119
    go_upto_region 1 with fail
    obtain ⟨W0, hW0⟩ : ∃ W0, W0 = (w.alloc (.cells #[.int .u8 t.k, .string t.s, .int .i64 t.n, .slice t.p t.kids.len t.c] 25)).alloc (.cells #[.int .u8 0, .string ⟨#[]⟩, .int .i64 0, .slice none 0 0] 25) := ⟨_, rfl⟩
    rw [← hW0]
    obtain ⟨hX0, hY0, hs0, hB0⟩ := boxes2 hW0
    have Z0 := Lib.hid hW0
    have BX := Lib.hid hX0
    have BY := Lib.hid hY0
    have d0 := hX0.c0
    clear hW0 hX0 hY0
    go_upto_region 2 with fail
    have hKl0 : KB < W0.heap.size := by omega
    have c00 := ((stays hB0).1 _ _ hKl).trans c0
    have B0 := Lib.hid hB0
    clear hB0 d0
    refine region_facts_last (fun W_ => Below W0.heap.size W0 W_) [fun u _ => u = .pointer (some ⟨KB, 0, none⟩), fun u _ => u = .pointer (some ⟨KB, 0, none⟩), fun u _ => u = .pointer (some ⟨KB, 0, none⟩), fun u _ => u = .pointer (some ⟨S, 0, none⟩), fun u _ => u = .agg #[.int .u8 t.k, .string t.s, .int .i64 t.n, .slice t.p t.kids.len t.c], fun u W => CloneOf (wk σ t) W0.heap.size u W]
      ⟨.eq _, .eq _, .eq _, .eq _, .eq _, (fun _ _ _ h hB => CloneOf.bel h hB), trivial⟩ (by kernel_rfl) (by kernel_rfl) (by kernel_rfl) (by kernel_rfl) (Below.refl _ _).drew ?_ (by decide)
    refine ⟨?_, ?_, ?_, ?_, ?_, ?_, ?_⟩
    · intro g_ W_ hI hd K hK
      simp only [frameOf, Act.put, List.setIfInBounds_toArray, List.set_cons_zero, List.set_cons_succ]
      go_simp
      refine hK.out (.pointer (some ⟨KB, 0, none⟩)) _ W_ ?_ hI (Below.refl _ _) rfl
      simp only [frameOf, Act.put, List.setIfInBounds_toArray, List.set_cons_zero, List.set_cons_succ, Nat.zero_add, Nat.reduceAdd]
    · intro g_ W_ hI hd K hK
      simp only [frameOf, Act.put, List.setIfInBounds_toArray, List.set_cons_zero, List.set_cons_succ]
      have h0 : g_ 0 = .pointer (some ⟨KB, 0, none⟩) := hd 0 (by kernel_rfl)
      rw [h0]
      go_simp
      refine hK.out (.pointer (some ⟨KB, 0, none⟩)) _ W_ ?_ hI (Below.refl _ _) rfl
      simp only [frameOf, Act.put, List.setIfInBounds_toArray, List.set_cons_zero, List.set_cons_succ, Nat.zero_add, Nat.reduceAdd, h0]
    · intro g_ W_ hI hd K hK
      simp only [frameOf, Act.put, List.setIfInBounds_toArray, List.set_cons_zero, List.set_cons_succ]
      have h1 : g_ 1 = .pointer (some ⟨KB, 0, none⟩) := hd 1 (by kernel_rfl)
      rw [h1]
      go_simp
      refine hK.out (.pointer (some ⟨KB, 0, none⟩)) _ W_ ?_ hI (Below.refl _ _) rfl
      simp only [frameOf, Act.put, List.setIfInBounds_toArray, List.set_cons_zero, List.set_cons_succ, Nat.zero_add, Nat.reduceAdd, h1]
    · intro g_ W_ hI hd K hK
      simp only [frameOf, Act.put, List.setIfInBounds_toArray, List.set_cons_zero, List.set_cons_succ]
      have h2 : g_ 2 = .pointer (some ⟨KB, 0, none⟩) := hd 2 (by kernel_rfl)
      rw [h2]
      have e0 := ((stays hI).1 _ _ hKl0).trans c00
      go_simp
      refine hK.out (.pointer (some ⟨S, 0, none⟩)) _ W_ ?_ hI (Below.refl _ _) rfl
      simp only [frameOf, Act.put, List.setIfInBounds_toArray, List.set_cons_zero, List.set_cons_succ, Nat.zero_add, Nat.reduceAdd, h2]
    · intro g_ W_ hI hd K hK
      simp only [frameOf, Act.put, List.setIfInBounds_toArray, List.set_cons_zero, List.set_cons_succ]
      have XW := BX.out.below hI
      have e0 := XW.c0
      have e1 := XW.c1
      have e2 := XW.c2
      have e3 := XW.c3
      go_simp
      refine hK.out (.agg #[.int .u8 t.k, .string t.s, .int .i64 t.n, .slice t.p t.kids.len t.c]) _ W_ ?_ hI (Below.refl _ _) rfl
      simp only [frameOf, Act.put, List.setIfInBounds_toArray, List.set_cons_zero, List.set_cons_succ, Nat.zero_add, Nat.reduceAdd]
    · intro g_ W_ hI hd K hK
      simp only [frameOf, Act.put, List.setIfInBounds_toArray, List.set_cons_zero, List.set_cons_succ]
      have h3 : g_ 3 = .pointer (some ⟨S, 0, none⟩) := hd 3 (by kernel_rfl)
      have h4 : g_ 4 = .agg #[.int .u8 t.k, .string t.s, .int .i64 t.n, .slice t.p t.kids.len t.c] := hd 4 (by kernel_rfl)
      rw [h3, h4]
      go_simp
      refine (walk_any S σ n W_ ((HU.out.below B0.out).below hI).sub t OK.out ((AtP_at AT.out).below (B0.out.trans (hI.mono B0.out.size))) hsz).mono ?_
      rintro e w' ⟨v', rfl, hC, hB⟩
      refine hK.out v' _ w' ?_ (hI.trans (hB.mono hI.size)) hB (CloneOf.mon hC hI.size)
      simp only [frameOf, Act.put, List.setIfInBounds_toArray, List.set_cons_zero, List.set_cons_succ, Nat.zero_add, Nat.reduceAdd, h3, h4]
    · intro g_ W_ hI hd K hK
      simp only [frameOf, Act.put, List.setIfInBounds_toArray, List.set_cons_zero, List.set_cons_succ]
      obtain ⟨us, q, d, h5, ha5, htw5, hok5, hcl5, hn5⟩ := hd 5 (by decide)
      rw [h5]
      have YW := BY.out.below hI
      have y0 := YW.c0
      have y1 := YW.c1
      have y2 := YW.c2
      have y3 := YW.c3
      have yf := YW.fr
      have P1 := YW.put (y := ⟨(wk σ t).k, (wk σ t).s, (wk σ t).n, q, d, us⟩)
      have HPUT := Lib.hid P1
      have HI := Lib.hid hI
      have A5 := Lib.hid ha5
      have C5 := Lib.hid (And.intro htw5 (And.intro hok5 (And.intro hcl5 hn5)))
      have H5 := Lib.hid h5
      clear hd YW hI ha5 htw5 hok5 hcl5 hn5 P1 h5
      unfold tv
      go_simp
      refine hK.out undef _ _ ?_ ?_
      · simp only [frameOf, Act.put, List.setIfInBounds_toArray, List.set_cons_zero, List.set_cons_succ, Nat.zero_add, Nat.reduceAdd, H5.out]
        rfl
      · simp only [frameOf, Act.put, List.setIfInBounds_toArray, List.set_cons_zero, List.set_cons_succ, Nat.zero_add, Nat.reduceAdd, H5.out]
        clear hK K
        go_wp2
        have p0 := HPUT.out.c0
        have p1 := HPUT.out.c1
        have p2 := HPUT.out.c2
        have p3 := HPUT.out.c3
        exact bodyPost_ret (v := tv (wk σ t).k (wk σ t).s (wk σ t).n q us.len d) (by simp [results, Try.results119, go_sem, p0, p1, p2, p3, tv]) rfl ⟨_, rfl, by
          refine ⟨us, q, d, rfl, (AtP_imp (fun b _ hb => ⟨HP.out b (by omega), by omega⟩) (AtB_atP A5.out) : Ts.AtP (fun b => P b ∧ w.heap.size + 2 ≤ b) W_ q us).stay (fun b hb _ => ?_) |> AtP_imp (fun b _ hb => hb.1), C5.out.1, C5.out.2.1, C5.out.2.2.1, C5.out.2.2.2⟩
          rw [Below.heap_setCell _ _ _ _ (by simp; omega), Below.heap_setCell _ _ _ _ (by simp; omega), Below.heap_setCell _ _ _ _ (by simp; omega), Below.heap_setCell _ _ _ _ (by simp; omega)], below_put4 (B0.out.trans (HI.out.mono B0.out.size)) (by omega) _ _ _ _⟩
  · rw [Bool.not_eq_true] at h1
    go_enter Try.func119, Try.ntmps119
    go_upto_region 1 with fail
    obtain ⟨W0, hW0⟩ : ∃ W0, W0 = (w.alloc (.cells #[.int .u8 t.k, .string t.s, .int .i64 t.n, .slice t.p t.kids.len t.c] 25)).alloc (.cells #[.int .u8 0, .string ⟨#[]⟩, .int .i64 0, .slice none 0 0] 25) := ⟨_, rfl⟩
    rw [← hW0]
    obtain ⟨hX0, hY0, hs0, hB0⟩ := boxes2 hW0
    have Z0 := Lib.hid hW0
    have P1 := hY0.put (y := t)
    have p0 := P1.c0
    have p1 := P1.c1
    have p2 := P1.c2
    have p3 := P1.c3
    clear P1
    have d0 := hX0.c0
    have d1 := hX0.c1
    have d2 := hX0.c2
    have d3 := hX0.c3
    have y0 := hY0.c0
    have y1 := hY0.c1
    have y2 := hY0.c2
    have y3 := hY0.c3
    have yf := hY0.fr
    have B0 := Lib.hid hB0
    clear hW0 hX0 hY0 hB0 hs0
    go_wp2
    exact bodyPost_ret (v := tv t.k t.s t.n t.p t.kids.len t.c) (by simp [results, Try.results119, go_sem, p0, p1, p2, p3, tv]) rfl ⟨_, rfl, by
      rw [wk_stop (.inl h1)]
      refine ⟨t.kids, t.p, t.c, rfl, (((AtP_imp (fun b hl hb => ⟨hb, hl⟩) AT.out : Ts.AtP (fun b => P b ∧ b < w.heap.size) w t.p t.kids).stay fun b _ hb => B0.out.block b hb).stay fun b hb _ => ?_) |> AtP_imp (fun b _ hb => hb.1), Ts.twin_refl _, OK.out.2.2.2.2.2.1, OK.out.2.2.2.1, OK.out.2.2.2.2.1⟩
      rw [Below.heap_setCell _ _ _ _ (by simp; omega), Below.heap_setCell _ _ _ _ (by simp; omega), Below.heap_setCell _ _ _ _ (by simp; omega), Below.heap_setCell _ _ _ _ (by simp; omega)], below_put4 B0.out (by omega) _ _ _ _⟩

end Go.Proofs.Ytnmhnaanpjlniaa
