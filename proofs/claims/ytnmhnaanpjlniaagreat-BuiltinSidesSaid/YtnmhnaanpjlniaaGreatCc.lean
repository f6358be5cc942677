import Derived.Test.YtnmhnaanpjlniaaGreatBd
import Derived.Test.YtnmhnaanpjlniaaGreatTw
import Derived.Test.YtnmhnaanpjlniaaGreatAt
import Derived.Test.YtnmhnaanpjlniaaGreatWe0
import Derived.Test.YtnmhnaanpjlniaaGreatAk
import Derived.Defers
import Derived.Recover
/-
  Terms made anew, node by node (put, shift): plain facts, and what stands between two rounds.
-/
namespace Go.Proofs.YtnmhnaanpjlniaaGreat
open Go.RowKit

/-- what becomes of a term, and of each term of a list -/
structure Mapper (f : Nd → Nd) (g : Ts → Ts) : Prop where
  nil : g .nil = .nil
  cons : ∀ k s n p c kids rest, g (.cons k s n p c kids rest) = .cons (f ⟨k, s, n, p, c, kids⟩).k (f ⟨k, s, n, p, c, kids⟩).s (f ⟨k, s, n, p, c, kids⟩).n (f ⟨k, s, n, p, c, kids⟩).p (f ⟨k, s, n, p, c, kids⟩).c (f ⟨k, s, n, p, c, kids⟩).kids (g rest)








/-- a list of its own; the parts of its elements lie there, or in blocks ahead of C -/
def OwnC (C base : Nat) (e : TypeId) (v : Value) (acc : Ts) (w : World) : Prop :=
  w.ownsRow base e 4 v acc.len (cellsL acc) ∧ acc.ok ∧ KidsP (fun b => (b < C ∨ base ≤ b) ∧ v.ownBlock ≠ some b) w acc

theorem OwnC.start (C base : Nat) (e : TypeId) (w : World) : OwnC C base e (.slice none 0 0) .nil w := ⟨World.ownsRow_nil _ _ _ _, trivial, trivial⟩

theorem OwnC.below {C base : Nat} {e : TypeId} {v : Value} {acc : Ts} {w w' : World} (h : OwnC C base e v acc w) (hB : Below w.heap.size w w') : OwnC C base e v acc w' :=
  ⟨h.1.kept (row := none) ⟨hB.os, hB.tape, hB.output, hB.size, fun k hk _ => hB.block k hk⟩ (by cases v.ownBlock <;> simp), h.2.1, KidsP.stay (fun b _ hl => hB.block b hl) (fun _ hb _ => hb) h.2.2⟩

theorem OwnC.push0 {C base m : Nat} {e : TypeId} {v v' : Value} {acc U : Ts} {W W7 : World} (h : OwnC C base e v acc W) (hC : C ≤ base) (hown : W7.ownsRow base e 4 v' (acc.len + U.len) (cellsL acc ++ cellsL U))
    (hg : W.grownBy W7 v.ownBlock) (hob : v'.ownBlock = v.ownBlock ∨ v'.ownBlock = some W.heap.size) (hUok : U.ok) (hk : KidsP (fun b => b < C ∨ m ≤ b) W U) (hm : base ≤ m) (hgm : ∀ q, v.ownBlock = some q → base ≤ q ∧ q < m) : OwnC C base e v' (acc.app U) W7 := by
  obtain ⟨h1, h2, h3⟩ := h
  have hk' : KidsP (fun b => (b < C ∨ base ≤ b) ∧ v.ownBlock ≠ some b) W U := KidsP.stay (fun _ _ _ => rfl) (fun b hb _ => ⟨by omega, fun e => by have := hgm b e; omega⟩) hk
  refine ⟨by rw [app_len, cellsL_app]; exact hown, app_ok h2 hUok, KidsP.stay (w := W) (fun b hb hlt => ?_) (fun b hb hlt => ?_) (KidsP.app h3 hk')⟩
  · exact hg.block b hlt (fun e => hb.2 e.symm)
  · refine ⟨hb.1, ?_⟩
    rcases hob with e | e
    · rw [e]; exact hb.2
    · rw [e]
      intro e2
      have e3 := Option.some.inj e2
      omega

theorem OwnC.read {C base : Nat} {e : TypeId} {v : Value} {acc : Ts} {w : World} (h : OwnC C base e v acc w) : ∃ q c, v = .slice q acc.len c ∧ Ts.AtP (fun b => b < C ∨ base ≤ b) w q acc ∧ (acc.len ≤ c ∧ c ≤ 9223372036854775807) ∧ (q = none → c = 0) := by
  obtain ⟨hrow, hok, hk⟩ := h
  have hlt := hrow.lt
  rcases hrow.2 with ⟨rfl, h0⟩ | ⟨g, cap, cur, rfl, hg1, hg2, hg3, hg4, hg5, hg6⟩
  · exact ⟨none, 0, by rw [h0], ⟨0, 0, .inl (Ts.len_zero h0), by rw [Ts.len_zero h0]; trivial⟩, ⟨by omega, by omega⟩, fun _ => rfl⟩
  obtain ⟨hc, _⟩ := row_cells hg2 hg6 (cellsL_length acc)
  exact ⟨_, cap, rfl, ⟨g, 0, .inr rfl, liesP_cells (.inr (hlt g rfl).1) hc (KidsP.stay (fun _ _ _ => rfl) (fun _ hb _ => hb.1) hk)⟩, ⟨hg3, by unfold maxLen at hg4; omega⟩, fun e => by cases e⟩

theorem OwnC.far {C base : Nat} {e : TypeId} {v : Value} {acc : Ts} {w w' : World} (h : OwnC C base e v acc w) (hb : ∀ b, (b < C ∨ base ≤ b) → w'.heap[b]? = w.heap[b]?) : OwnC C base e v acc w' := by
  refine ⟨⟨h.1.1, ?_⟩, h.2.1, KidsP.stay (fun b hp _ => hb b hp.1) (fun _ hb _ => hb) h.2.2⟩
  rcases h.1.2 with h | ⟨g, cap, cur, e1, hg, h2, h3⟩
  · exact .inl h
  · exact .inr ⟨g, cap, cur, e1, hg, (hb g (.inr hg)).trans h2, h3⟩

/-- what is made of a term -/
def MadeN (C : Nat) (Y : Nd) (B : Nat) (v : Value) (w : World) : Prop := ∃ us q c, v = tv Y.k Y.s Y.n q us.len c ∧ Ts.AtP (fun b => b < C ∨ B ≤ b) w q us ∧ Ts.twin us Y.kids ∧ us.ok ∧ (us.len ≤ c ∧ c ≤ 9223372036854775807) ∧ (q = none → c = 0)

theorem MadeN.below {C : Nat} {X : Nd} {B : Nat} {v : Value} {w w' : World} (h : MadeN C X B v w) (hB : Below w.heap.size w w') : MadeN C X B v w' := by
  obtain ⟨us, q, c, h1, h2, h3⟩ := h
  exact ⟨us, q, c, h1, h2.stay fun b _ hb => hB.block b hb, h3⟩
theorem MadeN.mono {C : Nat} {X : Nd} {B B' : Nat} {v : Value} {w : World} (h : MadeN C X B v w) (hBB : B' ≤ B) : MadeN C X B' v w := by
  obtain ⟨us, q, c, h1, h2, h3⟩ := h
  exact ⟨us, q, c, h1, AtP_imp (fun b _ hb => hb.imp id (Nat.le_trans hBB)) h2, h3⟩

/-- one that was made, in a row of its own -/
def OneN (C : Nat) (Y : Nd) (B : Nat) (v : Value) (w : World) : Prop := ∃ (R : Nat) (q : Option Addr) (c : Nat) (us : Ts), v = .slice (some ⟨R, 0, none⟩) 1 1 ∧ Ts.At w (some ⟨R, 0, none⟩) (.cons Y.k Y.s Y.n q c us .nil) ∧ Ts.ok (.cons Y.k Y.s Y.n q c us .nil) ∧ Ts.AtP (fun b => b < C ∨ B ≤ b) w q us ∧ Ts.twin us Y.kids

theorem OneN.below {C : Nat} {Y : Nd} {B : Nat} {v : Value} {w w' : World} (h : OneN C Y B v w) (hB : Below w.heap.size w w') : OneN C Y B v w' := by
  obtain ⟨R, q, c, us, h1, h2, h3, h4, h5⟩ := h
  exact ⟨R, q, c, us, h1, h2.below hB, h3, h4.stay (fun b _ hb => hB.block b hb), h5⟩

theorem OneN.new {C : Nat} {Y : Nd} {B : Nat} {w : World} {q : Option Addr} {c : Nat} {us : Ts} (hk : 0 ≤ Y.k ∧ Y.k ≤ 255) (hs : Y.s.size ≤ 140737488351232) (hn : -9223372036854775808 ≤ Y.n ∧ Y.n ≤ 9223372036854775807) (hat : Ts.AtP (fun b => b < C ∨ B ≤ b) w q us) (htw : Ts.twin us Y.kids) (hok : us.ok) (hc : us.len ≤ c ∧ c ≤ 9223372036854775807) (hq : q = none → c = 0) :
    OneN C Y B (.slice (some ⟨w.heap.size, 0, none⟩) 1 1) (w.alloc (.cells #[.int .u8 Y.k, .string Y.s, .int .i64 Y.n, .slice q us.len c] 25)) := by
  have hA := BoxIs.new w ⟨Y.k, Y.s, Y.n, q, c, us⟩ 25
  have hB : Below w.heap.size w (w.alloc (.cells #[.int .u8 Y.k, .string Y.s, .int .i64 Y.n, .slice q us.len c] 25)) := (Below.refl _ _).alloc (Nat.le_refl _) _
  exact ⟨w.heap.size, q, c, us, rfl, ⟨_, _, .inr rfl, hA.c0, hA.c1, hA.c2, hA.c3, (AtP_at hat).below hB, trivial⟩, ⟨hk, hs, hn, hc, hq, hok, trivial⟩, hat.stay fun b _ hb => hB.block b hb, htw⟩

/-- between two rounds -/
structure MpIn (g : Ts → Ts) (C : Nat) (X Y : Nd) (T B : Nat) (w W2 : World) (j : Nat) (rv : Value) (acc : Ts) (wr : World) : Prop where
  jl : j ≤ X.kids.len
  al : acc.len = j
  out : OutIs T Y rv wr
  own : OwnC C B 25 rv acc wr
  app : ∀ rs, Ts.twin rs (g (X.kids.drop j)) → Ts.twin (acc.app rs) (g X.kids)
  old : ∀ b, b < T → wr.heap[b]? = W2.heap[b]?
  sz : W2.heap.size ≤ wr.heap.size ∧ B ≤ wr.heap.size
  B : Below w.heap.size w wr


/-- a term and an empty one, boxed -/
theorem boxes2 {w W0 : World} {x : Nd} {t : TypeId} (h : W0 = (w.alloc (.cells #[.int .u8 x.k, .string x.s, .int .i64 x.n, .slice x.p x.kids.len x.c] t)).alloc (.cells #[.int .u8 0, .string ⟨#[]⟩, .int .i64 0, .slice none 0 0] t)) :
    BoxIs w.heap.size x W0 ∧ BoxIs (w.heap.size + 1) ⟨0, ⟨#[]⟩, 0, none, 0, .nil⟩ W0 ∧ W0.heap.size = w.heap.size + 2 ∧ Below w.heap.size w W0 := by
  subst h
  have h2 := BoxIs.new (w.alloc (.cells #[.int .u8 x.k, .string x.s, .int .i64 x.n, .slice x.p x.kids.len x.c] t)) ⟨0, ⟨#[]⟩, 0, none, 0, .nil⟩ t
  rw [World.size_alloc] at h2
  exact ⟨(BoxIs.new w x t).below ((Below.refl _ _).alloc (by simp) _), h2, by simp, below2 _ _ _⟩

end Go.Proofs.YtnmhnaanpjlniaaGreat
/-
  Layer 3: plain facts for the law SubstMore.
-/
namespace Go.Proofs.YtnmhnaanpjlniaaGreat
open Go.RowKit


theorem App.size {σ : Sb} {l : List Nd} {us : Ts} (h : App σ l us) : ∀ {n : Nat}, Cnt σ l n → us.size = n := by
  induction h with
  | nil => intro n h; cases h; rfl
  | cons _ _ ih ih' =>
    intro n h
    cases h with
    | cons h h' => simp only [Ts.size, ih h, ih' h']

/-- a term made by applying -/
structure Ap (σ : Sb) (t : Nd) (X : Nd) : Prop where
  k : X.k = (wk σ t).k
  s : X.s = (wk σ t).s
  n : X.n = (wk σ t).n
  app : App σ (elems (wk σ t).kids) X.kids
  ok : X.kids.ok
  cap : X.kids.len ≤ X.c ∧ X.c ≤ 9223372036854775807
  nn : X.p = none → X.c = 0
  sz : X.kids.size < 4096

theorem Applied.cases {σ : Sb} {t : Nd} {B : Nat} {e : Ending} {w' : World} (h : Applied σ t B e w') :
    ((vis σ 4097 [t]).length = 4097 ∧ e = .returned (.tuple #[.agg #[.int .u8 0, .string ⟨#[]⟩, .int .i64 0, .slice none 0 0], .int .i64 31])) ∨
    ((vis σ 4097 [t]).length ≤ 4096 ∧ ∃ X : Nd, e = .returned (.tuple #[.agg #[.int .u8 X.k, .string X.s, .int .i64 X.n, .slice X.p X.kids.len X.c], .int .i64 0]) ∧ Ap σ t X ∧ Ts.AtB B w' X.p X.kids) := by
  rcases h with ⟨h1, h2⟩ | ⟨h1, us, q, h2, h3, h4, h5, h6⟩
  · exact .inl ⟨h1, h2⟩
  · obtain ⟨n, b, hc, _, hn⟩ := Cnt.inv (vis_cnt (σ := σ) 4097 [t] (by omega))
    have hz := h4.size hc
    have hl := Ts.len_size us
    exact .inr ⟨h1, ⟨(wk σ t).k, (wk σ t).s, (wk σ t).n, q, us.len, us⟩, h2, ⟨rfl, rfl, rfl, h4, h5, ⟨Nat.le_refl _, by simp only; omega⟩, h6, by simp only; omega⟩, h3⟩

theorem Applied.some {σ : Sb} {t : Nd} {B : Nat} {e : Ending} {w' : World} (h : Applied σ t B e w') : ∃ (X : Nd) (G : Int), e = .returned (.tuple #[.agg #[.int .u8 X.k, .string X.s, .int .i64 X.n, .slice X.p X.kids.len X.c], .int .i64 G]) := by
  rcases h.cases with ⟨_, h⟩ | ⟨_, X, h, _⟩
  · exact ⟨⟨0, ⟨#[]⟩, 0, none, 0, .nil⟩, 31, h⟩
  · exact ⟨X, 0, h⟩

theorem Ap.nd_ok {σ : Sb} {t X : Nd} (h : Ap σ t X) (hw : (wk σ t).ok) : X.ok := ⟨by rw [h.k]; exact hw.1, by rw [h.s]; exact hw.2.1, by rw [h.n]; exact hw.2.2.1, h.cap, h.nn, h.ok, trivial⟩

theorem SubAt.wk_ok {S : Nat} {σ : Sb} {n : Nat} {w : World} (h : SubAt S σ n w) {t : Nd} (hok : t.ok) (hat : Ts.At w t.p t.kids) (hsz : t.kids.size ≤ 5000) : (wk σ t).ok := (h.walked ⟨hat, hok, hsz⟩).2.1

theorem SubAt.keeps {S : Nat} {σ : Sb} {n : Nat} {w w' : World} (h : SubAt S σ n w) (hg : w.grownBy w' (some S)) {p : Option Addr} {ts : Ts} (hat : Ts.At w p ts) : Ts.At w' p ts := by
  obtain ⟨q, hh, h1, _⟩ := h.cells
  exact hat.small hg h1 (by simp)

theorem BoxIs.keeps {B S : Nat} {x : Nd} {w w' : World} (h : BoxIs B x w) (hg : w.grownBy w' (some S)) (hne : B ≠ S) : BoxIs B x w' :=
  h.of_block (hg.block B h.lt (fun e => hne (by cases e; rfl)))


end Go.Proofs.YtnmhnaanpjlniaaGreat
/-
  Layer 3: plain facts for the law SubstIdem: what is applied has no bound variables, and each of them occurs.
-/
namespace Go.Proofs.YtnmhnaanpjlniaaGreat
open Go.RowKit

/-- no variable in it is bound -/
def FixT (σ : Sb) : Ts → Prop
  | .nil => True
  | .cons k _ n _ _ kids rest => ((k == 1) = false ∨ σ n = none) ∧ FixT σ kids ∧ FixT σ rest
def FixN (σ : Sb) (x : Nd) : Prop := ((x.k == 1) = false ∨ σ x.n = none) ∧ FixT σ x.kids
def FixL (σ : Sb) (l : List Nd) : Prop := ∀ x ∈ l, FixN σ x

theorem App.fix {σ : Sb} (hE : Ends σ) {l : List Nd} {us : Ts} (h : App σ l us) : FixT σ us := by
  induction h with
  | nil => trivial
  | @cons t _ _ _ _ _ _ _ ih ih' => exact ⟨(wk_spec hE t).ends, ih, ih'⟩

theorem FixT.elems {σ : Sb} : ∀ {ts : Ts}, FixT σ ts → FixL σ (elems ts)
  | .nil, _, x, hx => by simp [Go.Proofs.YtnmhnaanpjlniaaGreat.elems] at hx
  | .cons _ _ _ _ _ _ _, h, x, hx => by
    simp only [Go.Proofs.YtnmhnaanpjlniaaGreat.elems, List.mem_cons] at hx
    rcases hx with rfl | hx
    · exact ⟨h.1, h.2.1⟩
    · exact FixT.elems h.2.2 x hx

theorem FixL.app {σ : Sb} {l m : List Nd} (h : FixL σ l) (h' : FixL σ m) : FixL σ (l ++ m) := fun x hx => (List.mem_append.1 hx).elim (h x) (h' x)




theorem App.append {σ : Sb} {l m : List Nd} {us vs : Ts} (h : App σ l us) (h' : App σ m vs) : App σ (l ++ m) (us.app vs) := by
  induction h with
  | nil => exact h'
  | cons h1 _ _ ih => exact .cons h1 ih







/-- another substitution turns -/
theorem SubAt.apart {S S2 : Nat} {σ σ2 : Sb} {n n2 : Nat} {w w' : World} (h : SubAt S σ n w) (h2 : SubAt S2 σ2 n2 w) (hne : S ≠ S2) (hg : w.grownBy w' (some S2)) : SubAt S σ n w' := by
  obtain ⟨p, hh, h1, h3, h4, h5⟩ := h.cells
  obtain ⟨p2, hh2, g1, _⟩ := h2.cells
  exact ⟨⟨p, hh, (hg.block S h.lt (fun e => hne (by cases e; rfl))).trans h1, h3, h4.grown hg g1 (by simp), h5⟩, h.ends, fun v x hx => ⟨(h.at_ v x hx).1.small hg g1 (by simp), (h.at_ v x hx).2⟩⟩

/-- the term as it is applied, as a list -/
theorem Ap.list {σ : Sb} {t X : Nd} (h : Ap σ t X) : App σ [t] (.cons X.k X.s X.n X.p X.c X.kids .nil) := by
  rw [h.k, h.s, h.n]
  exact .cons h.app .nil


theorem Ap.same {σ : Sb} {t X Y : Nd} (h : Ap σ t X) (h2 : Ap σ t Y) : X.twin Y := ⟨by rw [h.k, h2.k], by rw [h.s, h2.s], by rw [h.n, h2.n], h.app.twin h2.app⟩


end Go.Proofs.YtnmhnaanpjlniaaGreat
/-
  Layer 13: what a term is worth: as a function, and its plain facts.
-/
namespace Go.Proofs.YtnmhnaanpjlniaaGreat
open Go.RowKit

/-- what an operation comes to -/
def opR : Nat → Int → Int → Int × Int
  | 0 => plusR | 1 => minusR | 2 => timesR | 3 => quotR | 4 => remR | 5 => modR | _ => minusR

/-- one operation, behind what its numbers come to -/
noncomputable def rkOp (rec : Nat → Nd → (Int × Int) × Nat) (r : Nat) : Option Nat → List Nd → (Int × Int) × Nat
  | some j, [a] => if (rec r a).1.2 ≠ 0 then ((0, (rec r a).1.2), (rec r a).2) else (opR j 0 (rec r a).1.1, (rec r a).2)
  | some j, [a, b] =>
    if (rec r a).1.2 ≠ 0 then ((0, (rec r a).1.2), (rec r a).2)
    else if (rec (rec r a).2 b).1.2 ≠ 0 then ((0, (rec (rec r a).2 b).1.2), (rec (rec r a).2 b).2)
    else (opR j (rec r a).1.1 (rec (rec r a).2 b).1.1, (rec (rec r a).2 b).2)
  | _, _ => ((0, 21), r)

/-- the operation of a structure -/
noncomputable def opOf (x : Nd) : Option Nat := if (x.k == 4) = true then opIdx (funKey x.s x.kids.len) else none

/-- the number, or the error; and how many nodes may still be walked to -/
noncomputable def rk (σ : Sb) : Nat → Nat → Nd → (Int × Int) × Nat
  | 0, _, _ => ((0, 31), 0)
  | f + 1, r, t =>
    if r = 0 then ((0, 31), 0)
    else if ((wk σ t).k == 1) = true then ((0, 20), r - 1)
    else if ((wk σ t).k == 2) = true then (((wk σ t).n, 0), r - 1)
    else rkOp (rk σ f) (r - 1) (opOf (wk σ t)) (elems (wk σ t).kids)

theorem rkOp_none (rec : Nat → Nd → (Int × Int) × Nat) (r : Nat) (l : List Nd) : rkOp rec r none l = ((0, 21), r) := by
  cases l with
  | nil => rfl
  | cons a l => cases l with
    | nil => rfl
    | cons b l => cases l <;> rfl

/-- in every way alike -/
inductive Rel2 (P : Nd → Nd → Prop) : List Nd → List Nd → Prop
  | nil : Rel2 P [] []
  | cons {x y : Nd} {l m : List Nd} (h : P x y) (h' : Rel2 P l m) : Rel2 P (x :: l) (y :: m)

theorem rkOp_congr {P : Nd → Nd → Prop} {rec rec' : Nat → Nd → (Int × Int) × Nat} {r : Nat} {o : Option Nat} {l m : List Nd} (hl : Rel2 P l m) (h : ∀ r x y, P x y → rec r x = rec' r y) : rkOp rec r o l = rkOp rec' r o m := by
  cases o with
  | none => rw [rkOp_none, rkOp_none]
  | some j =>
    cases hl with
    | nil => rfl
    | cons h1 hl =>
      cases hl with
      | nil => simp only [rkOp, h _ _ _ h1]
      | cons h2 hl =>
        cases hl with
        | nil => simp only [rkOp, h _ _ _ h1, h _ _ _ h2]
        | cons => rfl

theorem rel_tw {l m : List Nd} (h : TwL l m) : Rel2 Nd.twin l m := by
  induction h with
  | nil => exact .nil
  | cons h _ ih => exact .cons h ih

theorem rk_tw {σ ρ : Sb} (h : STw σ ρ) (hE : Ends σ) : ∀ (f r : Nat) {t t' : Nd}, t.twin t' → rk σ f r t = rk ρ f r t'
  | 0, _, _, _, _ => rfl
  | f + 1, r, t, t', ht => by
    have hw := h.wk hE ht
    have ho : opOf (wk σ t) = opOf (wk ρ t') := by unfold opOf; rw [hw.1, hw.2.1, Ts.twin_len _ _ hw.2.2.2]
    simp only [rk]
    rw [hw.1, hw.2.2.1, ho, rkOp_congr (rel_tw (elems_tw hw.2.2.2)) (fun r x y h' => rk_tw h hE f r h')]

/-- applied, or a part of what is -/
structure Apd (σ : Sb) (t X : Nd) : Prop where
  k : X.k = (wk σ t).k
  s : X.s = (wk σ t).s
  n : X.n = (wk σ t).n
  app : App σ (elems (wk σ t).kids) X.kids



theorem Apd.wk {σ : Sb} (hE : Ends σ) {t X : Nd} (h : Apd σ t X) : wk σ X = X := by
  by_cases hk : ((Go.Proofs.YtnmhnaanpjlniaaGreat.wk σ t).k == 1) = true
  · refine wk_stop (.inr ?_)
    rw [h.n]
    rcases (wk_spec hE t).ends with h1 | h1
    · rw [h1] at hk; cases hk
    · exact h1
  · exact wk_stop (.inl (by rw [h.k]; simpa using hk))


theorem rkOp_le {rec : Nat → Nd → (Int × Int) × Nat} (h : ∀ r x, (rec r x).2 ≤ r) (r : Nat) (o : Option Nat) (l : List Nd) : (rkOp rec r o l).2 ≤ r := by
  cases o with
  | none => rw [rkOp_none]; exact Nat.le_refl _
  | some j =>
    cases l with
    | nil => exact Nat.le_refl _
    | cons a l =>
      have h1 := h r a
      cases l with
      | nil => simp only [rkOp]; split <;> exact h1
      | cons b l =>
        have h2 := h (rec r a).2 b
        cases l with
        | nil =>
          simp only [rkOp]
          split
          · exact h1
          · split
            · simp only; omega
            · simp only; omega
        | cons => exact Nat.le_refl _

theorem rk_le (σ : Sb) : ∀ (f r : Nat) (t : Nd), (rk σ f r t).2 ≤ r - 1
  | 0, r, t => by simp [rk]
  | f + 1, r, t => by
    simp only [rk]
    split
    · simp
    · split
      · exact Nat.le_refl _
      · split
        · exact Nat.le_refl _
        · exact rkOp_le (fun r x => by have := rk_le σ f r x; omega) _ _ _




end Go.Proofs.YtnmhnaanpjlniaaGreat
/-
  Layer 4: a unification's visits and walked terms.
-/
namespace Go.Proofs.YtnmhnaanpjlniaaGreat
open Go.RowKit

/-- a unification in memory: where its substitution is, and how many visits there were -/
structure UAt (KB S : Nat) (σ : Sb) (n m : Nat) (w : World) : Prop where
  cell : w.heap[KB]? = some (.cells #[.pointer (some ⟨S, 0, none⟩), .int .i64 (m : Nat)] 156 (0, 0))
  sub : SubAt S σ n w
  ne : KB ≠ S

theorem UAt.c0 {KB S : Nat} {σ : Sb} {n m : Nat} {w : World} (h : UAt KB S σ n m w) : w.cell? ⟨KB, 0, none⟩ = some (.pointer (some ⟨S, 0, none⟩)) := by simp [World.cell?, h.cell]
theorem UAt.c1 {KB S : Nat} {σ : Sb} {n m : Nat} {w : World} (h : UAt KB S σ n m w) : w.cell? ⟨KB, 1, none⟩ = some (.int .i64 (m : Nat)) := by simp [World.cell?, h.cell]
theorem UAt.f1 {KB S : Nat} {σ : Sb} {n m : Nat} {w : World} (h : UAt KB S σ n m w) : w.frozen? ⟨KB, 1, none⟩ = false := by simp [World.frozen?, h.cell]
theorem UAt.lt {KB S : Nat} {σ : Sb} {n m : Nat} {w : World} (h : UAt KB S σ n m w) : KB < w.heap.size := (Array.getElem?_eq_some_iff.1 h.cell).1
theorem UAt.below {KB S : Nat} {σ : Sb} {n m : Nat} {w w' : World} (h : UAt KB S σ n m w) (hB : Below w.heap.size w w') : UAt KB S σ n m w' := ⟨(hB.block KB h.lt).trans h.cell, h.sub.below hB, h.ne⟩

/-- a small block turns -/
theorem SubAt.but {S KB : Nat} {σ : Sb} {n : Nat} {w w' : World} (h : SubAt S σ n w) {cs : Array Value} {t : TypeId} {fr : Nat × Nat} (hK : w.heap[KB]? = some (.cells cs t fr)) (hz : cs.size < 4) (hne : S ≠ KB) (hg : w.grownBy w' (some KB)) : SubAt S σ n w' := by
  obtain ⟨p, hh, h1, h3, h4, h5⟩ := h.cells
  exact ⟨⟨p, hh, (hg.block S h.lt (fun e => hne (by cases e; rfl))).trans h1, h3, h4.grown hg hK (by omega), h5⟩, h.ends, fun v x hx => ⟨(h.at_ v x hx).1.small hg hK hz, (h.at_ v x hx).2⟩⟩

/-- one visit more -/
def seen (KB m : Nat) (w : World) : World := w.setCell ⟨KB, 1, none⟩ (.int .i64 ((m : Int) + 1))

theorem seen_grown (KB m : Nat) (w : World) : w.grownBy (seen KB m w) (some KB) := grown_set w KB 1 _

theorem UAt.seen {KB S : Nat} {σ : Sb} {n m : Nat} {w : World} (h : UAt KB S σ n m w) : UAt KB S σ n (m + 1) (Go.Proofs.YtnmhnaanpjlniaaGreat.seen KB m w) := by
  refine ⟨?_, h.sub.but h.cell (by simp) (fun e => h.ne e.symm) (seen_grown KB m w), h.ne⟩
  simp only [Go.Proofs.YtnmhnaanpjlniaaGreat.seen, World.setCell, Array.getElem?_modify, if_pos, h.cell]
  rfl

def fullP : List PanicEntry := [{ v := .iface 176 (.agg #[]), recovered := false }]

set_option maxHeartbeats 1000000 in
theorem visit_go (KB S : Nat) (σ : Sb) (n m : Nat) (w : World) (h : UAt KB S σ n m w) (hm : m < 4096) :
    Calls Tryz.prog 141 #[.pointer (some ⟨KB, 0, none⟩)] w fun e w' => e = .returned (.tuple #[]) ∧ w' = seen KB m w := by
  have c0 := h.c0
  have c1 := h.c1
  have f1 := h.f1
  have hlt : ¬ ((m : Int) + 1 > 4096) := by omega
  have hlt2 : m ≤ 1000000 := by omega
  clear hm h
  go_enter Tryz.func141, Tryz.ntmps141
  go_wp2
  go_end0
  exact ⟨rfl, rfl⟩

set_option maxHeartbeats 1000000 in
theorem visit_full (KB S : Nat) (σ : Sb) (n m : Nat) (w : World) (h : UAt KB S σ n m w) (hm : m = 4096) :
    Calls Tryz.prog 141 #[.pointer (some ⟨KB, 0, none⟩)] w fun e w' => e = .panicked fullP ∧ w' = seen KB m w := by
  have c0 := h.c0
  have c1 := h.c1
  have f1 := h.f1
  have hlt : (m : Int) + 1 > 4096 := by omega
  have hlt2 : m ≤ 1000000 := by omega
  clear hm h
  go_enter Tryz.func141, Tryz.ntmps141
  go_wp2
  exact ⟨rfl, rfl, rfl⟩

/-- a walked term, or the term itself -/
def WOf (P : Nat → Prop) (x : Nd) (v : Value) (w : World) : Prop := ∃ us q d, v = tv x.k x.s x.n q us.len d ∧ Ts.AtP P w q us ∧ Ts.twin us x.kids ∧ us.ok ∧ (us.len ≤ d ∧ d ≤ 9223372036854775807) ∧ (q = none → d = 0)

theorem WOf.below {P : Nat → Prop} {x : Nd} {v : Value} {w w' : World} (h : WOf P x v w) (hB : Below w.heap.size w w') : WOf P x v w' := by
  obtain ⟨us, q, d, h1, h2, h3⟩ := h
  exact ⟨us, q, d, h1, h2.stay fun b _ hb => hB.block b hb, h3⟩

theorem CloneOf.bel {x : Nd} {B : Nat} {v : Value} {w w' : World} (h : CloneOf x B v w) (hB : Below w.heap.size w w') : CloneOf x B v w' := by
  obtain ⟨us, q, d, h1, h2, h3⟩ := h
  exact ⟨us, q, d, h1, AtB_below h2 hB, h3⟩
theorem CloneOf.mon {x : Nd} {B B' : Nat} {v : Value} {w : World} (h : CloneOf x B v w) (hBB : B' ≤ B) : CloneOf x B' v w := by
  obtain ⟨us, q, d, h1, h2, h3⟩ := h
  exact ⟨us, q, d, h1, AtB_mono h2 hBB, h3⟩

set_option maxRecDepth 10000 in
set_option maxHeartbeats 1000000 in
theorem uwalk_any (KB S : Nat) (σ : Sb) (n m : Nat) (w : World) (h : UAt KB S σ n m w) (P : Nat → Prop) (hP : ∀ b, w.heap.size ≤ b → P b) (t : Nd) (hok : t.ok) (hat : Ts.AtP P w t.p t.kids) (hsz : t.kids.size ≤ 5000) :
    Calls Tryz.prog 142 #[.pointer (some ⟨KB, 0, none⟩), .agg #[.int .u8 t.k, .string t.s, .int .i64 t.n, .slice t.p t.kids.len t.c]] w fun e w' => ∃ v, e = .returned v ∧ WOf P (wk σ t) v w' ∧ Below w.heap.size w w' := by
  have c0 := h.c0
  have HU := Lib.hid h
  have OK := Lib.hid hok
  have AT := Lib.hid hat
  have HP := Lib.hid hP
  have hKl := h.lt
  clear h hok hat hP
  by_cases h1 : (t.k == 1) = true
  · go_enter Tryz.func142, Tryz.ntmps142
    go_upto_region 1 with fail
    obtain ⟨W0, hW0⟩ : ∃ W0, W0 = (w.alloc (.cells #[.int .u8 t.k, .string t.s, .int .i64 t.n, .slice t.p t.kids.len t.c] 25)).alloc (.cells #[.int .u8 0, .string ⟨#[]⟩, .int .i64 0, .slice none 0 0] 25) := ⟨_, rfl⟩
    rw [← hW0]
    obtain ⟨hX0, hY0, hs0, hB0⟩ := boxes2 hW0
    have Z0 := Lib.hid hW0
    have BX := Lib.hid hX0
    have BY := Lib.hid hY0
    have d0 := hX0.c0
    clear hW0 hX0 hY0
    go_upto_region 2 with fail
    have hKl0 : KB < W0.heap.size := by omega
    have c00 := ((stays hB0).1 _ _ hKl).trans c0
    have B0 := Lib.hid hB0
    clear hB0 d0
    refine region_facts_last (fun W_ => Below W0.heap.size W0 W_) [fun u _ => u = .pointer (some ⟨KB, 0, none⟩), fun u _ => u = .pointer (some ⟨KB, 0, none⟩), fun u _ => u = .pointer (some ⟨KB, 0, none⟩), fun u _ => u = .pointer (some ⟨S, 0, none⟩), fun u _ => u = .agg #[.int .u8 t.k, .string t.s, .int .i64 t.n, .slice t.p t.kids.len t.c], fun u W => CloneOf (wk σ t) W0.heap.size u W]
      ⟨.eq _, .eq _, .eq _, .eq _, .eq _, (fun _ _ _ h hB => CloneOf.bel h hB), trivial⟩ (by kernel_rfl) (by kernel_rfl) (by kernel_rfl) (by kernel_rfl) (Below.refl _ _).drew ?_ (by decide)
    refine ⟨?_, ?_, ?_, ?_, ?_, ?_, ?_⟩
    · intro g_ W_ hI hd K hK
      simp only [frameOf, Act.put, List.setIfInBounds_toArray, List.set_cons_zero, List.set_cons_succ]
      go_simp
      refine hK.out (.pointer (some ⟨KB, 0, none⟩)) _ W_ ?_ hI (Below.refl _ _) rfl
      simp only [frameOf, Act.put, List.setIfInBounds_toArray, List.set_cons_zero, List.set_cons_succ, Nat.zero_add, Nat.reduceAdd]
    · intro g_ W_ hI hd K hK
      simp only [frameOf, Act.put, List.setIfInBounds_toArray, List.set_cons_zero, List.set_cons_succ]
      have h0 : g_ 0 = .pointer (some ⟨KB, 0, none⟩) := hd 0 (by kernel_rfl)
      rw [h0]
      go_simp
      refine hK.out (.pointer (some ⟨KB, 0, none⟩)) _ W_ ?_ hI (Below.refl _ _) rfl
      simp only [frameOf, Act.put, List.setIfInBounds_toArray, List.set_cons_zero, List.set_cons_succ, Nat.zero_add, Nat.reduceAdd, h0]
    · intro g_ W_ hI hd K hK
      simp only [frameOf, Act.put, List.setIfInBounds_toArray, List.set_cons_zero, List.set_cons_succ]
      have h1 : g_ 1 = .pointer (some ⟨KB, 0, none⟩) := hd 1 (by kernel_rfl)
      rw [h1]
      go_simp
      refine hK.out (.pointer (some ⟨KB, 0, none⟩)) _ W_ ?_ hI (Below.refl _ _) rfl
      simp only [frameOf, Act.put, List.setIfInBounds_toArray, List.set_cons_zero, List.set_cons_succ, Nat.zero_add, Nat.reduceAdd, h1]
    · intro g_ W_ hI hd K hK
      simp only [frameOf, Act.put, List.setIfInBounds_toArray, List.set_cons_zero, List.set_cons_succ]
      have h2 : g_ 2 = .pointer (some ⟨KB, 0, none⟩) := hd 2 (by kernel_rfl)
      rw [h2]
      have e0 := ((stays hI).1 _ _ hKl0).trans c00
      go_simp
      refine hK.out (.pointer (some ⟨S, 0, none⟩)) _ W_ ?_ hI (Below.refl _ _) rfl
      simp only [frameOf, Act.put, List.setIfInBounds_toArray, List.set_cons_zero, List.set_cons_succ, Nat.zero_add, Nat.reduceAdd, h2]
    · intro g_ W_ hI hd K hK
      simp only [frameOf, Act.put, List.setIfInBounds_toArray, List.set_cons_zero, List.set_cons_succ]
      have XW := BX.out.below hI
      have e0 := XW.c0
      have e1 := XW.c1
      have e2 := XW.c2
      have e3 := XW.c3
      go_simp
      refine hK.out (.agg #[.int .u8 t.k, .string t.s, .int .i64 t.n, .slice t.p t.kids.len t.c]) _ W_ ?_ hI (Below.refl _ _) rfl
      simp only [frameOf, Act.put, List.setIfInBounds_toArray, List.set_cons_zero, List.set_cons_succ, Nat.zero_add, Nat.reduceAdd]
    · intro g_ W_ hI hd K hK
      simp only [frameOf, Act.put, List.setIfInBounds_toArray, List.set_cons_zero, List.set_cons_succ]
      have h3 : g_ 3 = .pointer (some ⟨S, 0, none⟩) := hd 3 (by kernel_rfl)
      have h4 : g_ 4 = .agg #[.int .u8 t.k, .string t.s, .int .i64 t.n, .slice t.p t.kids.len t.c] := hd 4 (by kernel_rfl)
      rw [h3, h4]
      go_simp
      refine (walk_any S σ n W_ ((HU.out.below B0.out).below hI).sub t OK.out ((AtP_at AT.out).below (B0.out.trans (hI.mono B0.out.size))) hsz).mono ?_
      rintro e w' ⟨v', rfl, hC, hB⟩
      refine hK.out v' _ w' ?_ (hI.trans (hB.mono hI.size)) hB (CloneOf.mon hC hI.size)
      simp only [frameOf, Act.put, List.setIfInBounds_toArray, List.set_cons_zero, List.set_cons_succ, Nat.zero_add, Nat.reduceAdd, h3, h4]
    · intro g_ W_ hI hd K hK
      simp only [frameOf, Act.put, List.setIfInBounds_toArray, List.set_cons_zero, List.set_cons_succ]
      obtain ⟨us, q, d, h5, ha5, htw5, hok5, hcl5, hn5⟩ := hd 5 (by decide)
      rw [h5]
      have YW := BY.out.below hI
      have y0 := YW.c0
      have y1 := YW.c1
      have y2 := YW.c2
      have y3 := YW.c3
      have yf := YW.fr
      have P1 := YW.put (y := ⟨(wk σ t).k, (wk σ t).s, (wk σ t).n, q, d, us⟩)
      have HPUT := Lib.hid P1
      have HI := Lib.hid hI
      have A5 := Lib.hid ha5
      have C5 := Lib.hid (And.intro htw5 (And.intro hok5 (And.intro hcl5 hn5)))
      have H5 := Lib.hid h5
      clear hd YW hI ha5 htw5 hok5 hcl5 hn5 P1 h5
      unfold tv
      go_simp
      refine hK.out undef _ _ ?_ ?_
      · simp only [frameOf, Act.put, List.setIfInBounds_toArray, List.set_cons_zero, List.set_cons_succ, Nat.zero_add, Nat.reduceAdd, H5.out]
        rfl
      · simp only [frameOf, Act.put, List.setIfInBounds_toArray, List.set_cons_zero, List.set_cons_succ, Nat.zero_add, Nat.reduceAdd, H5.out]
        clear hK K
        go_wp2
        have p0 := HPUT.out.c0
        have p1 := HPUT.out.c1
        have p2 := HPUT.out.c2
        have p3 := HPUT.out.c3
        exact bodyPost_ret (v := tv (wk σ t).k (wk σ t).s (wk σ t).n q us.len d) (by simp [results, Tryz.results142, go_sem, p0, p1, p2, p3, tv]) rfl ⟨_, rfl, by
          refine ⟨us, q, d, rfl, (AtP_imp (fun b _ hb => ⟨HP.out b (by omega), by omega⟩) (AtB_atP A5.out) : Ts.AtP (fun b => P b ∧ w.heap.size + 2 ≤ b) W_ q us).stay (fun b hb _ => ?_) |> AtP_imp (fun b _ hb => hb.1), C5.out.1, C5.out.2.1, C5.out.2.2.1, C5.out.2.2.2⟩
          rw [Below.heap_setCell _ _ _ _ (by simp; omega), Below.heap_setCell _ _ _ _ (by simp; omega), Below.heap_setCell _ _ _ _ (by simp; omega), Below.heap_setCell _ _ _ _ (by simp; omega)], below_put4 (B0.out.trans (HI.out.mono B0.out.size)) (by omega) _ _ _ _⟩
  · rw [Bool.not_eq_true] at h1
    go_enter Tryz.func142, Tryz.ntmps142
    go_upto_region 1 with fail
    obtain ⟨W0, hW0⟩ : ∃ W0, W0 = (w.alloc (.cells #[.int .u8 t.k, .string t.s, .int .i64 t.n, .slice t.p t.kids.len t.c] 25)).alloc (.cells #[.int .u8 0, .string ⟨#[]⟩, .int .i64 0, .slice none 0 0] 25) := ⟨_, rfl⟩
    rw [← hW0]
    obtain ⟨hX0, hY0, hs0, hB0⟩ := boxes2 hW0
    have Z0 := Lib.hid hW0
    have P1 := hY0.put (y := t)
    have p0 := P1.c0
    have p1 := P1.c1
    have p2 := P1.c2
    have p3 := P1.c3
    clear P1
    have d0 := hX0.c0
    have d1 := hX0.c1
    have d2 := hX0.c2
    have d3 := hX0.c3
    have y0 := hY0.c0
    have y1 := hY0.c1
    have y2 := hY0.c2
    have y3 := hY0.c3
    have yf := hY0.fr
    have B0 := Lib.hid hB0
    clear hW0 hX0 hY0 hB0 hs0
    go_wp2
    exact bodyPost_ret (v := tv t.k t.s t.n t.p t.kids.len t.c) (by simp [results, Tryz.results142, go_sem, p0, p1, p2, p3, tv]) rfl ⟨_, rfl, by
      rw [wk_stop (.inl h1)]
      refine ⟨t.kids, t.p, t.c, rfl, (((AtP_imp (fun b hl hb => ⟨hb, hl⟩) AT.out : Ts.AtP (fun b => P b ∧ b < w.heap.size) w t.p t.kids).stay fun b _ hb => B0.out.block b hb).stay fun b hb _ => ?_) |> AtP_imp (fun b _ hb => hb.1), Ts.twin_refl _, OK.out.2.2.2.2.2.1, OK.out.2.2.2.1, OK.out.2.2.2.2.1⟩
      rw [Below.heap_setCell _ _ _ _ (by simp; omega), Below.heap_setCell _ _ _ _ (by simp; omega), Below.heap_setCell _ _ _ _ (by simp; omega), Below.heap_setCell _ _ _ _ (by simp; omega)], below_put4 B0.out (by omega) _ _ _ _⟩

end Go.Proofs.YtnmhnaanpjlniaaGreat
/-
  Layer 13: the operations, one by one; what they come to is a number of 64 bits.
-/
namespace Go.Proofs.YtnmhnaanpjlniaaGreat
open Go.RowKit

theorem opIdx_ar {s : ByteArray} {n : Nat} {j : Nat} (hs : s.size ≤ 140737488351232) (hn : n ≤ 9223372036854775807) (h : opIdx (funKey s n) = some j) : s = opSyms j ∧ (n : Int) = opAr j ∧ j < 7 := by
  obtain ⟨h1, h2⟩ := opIdx_eq h
  unfold funKey at h1
  have hj : (opSyms j).data.toList.length ≤ maxLen := by
    unfold opSyms maxLen
    split <;> decide
  have h3 := keyBytes_inj (l := [.string s.data.toList, .int .i64 n]) (l' := [.string (opSyms j).data.toList, .int .i64 (opAr j)]) ⟨trivial, rfl, trivial⟩ (by
    intro a ha
    simp only [List.mem_cons, List.not_mem_nil, or_false] at ha
    rcases ha with rfl | rfl
    · show s.data.toList.length ≤ maxLen
      unfold maxLen
      rw [Array.length_toList]
      exact Nat.le_trans hs (by omega)
    · exact wf64 (by omega)) (by
    intro a ha
    simp only [List.mem_cons, List.not_mem_nil, or_false] at ha
    rcases ha with rfl | rfl
    · exact hj
    · refine wf64 ?_
      unfold opAr
      split <;> omega) (by simpa using h1)
  simp only [List.cons.injEq, Lit.string.injEq, Lit.int.injEq, true_and, and_true] at h3
  refine ⟨?_, h3.2, h2⟩
  have h4 := h3.1
  revert h4
  cases s
  cases opSyms j
  intro h4
  simp only [Array.toList_inj] at h4
  rw [h4]

theorem i64_0 : isI64 0 := by unfold isI64; omega

theorem tdiv_bd (a b : Int) (ha : isI64 a) (hc : ¬ (a = -9223372036854775808 ∧ b = -1)) : isI64 (a.tdiv b) := by
  unfold isI64 at *
  have h1 : (a.tdiv b).natAbs = a.natAbs / b.natAbs := Int.natAbs_tdiv a b
  have h2 : a.natAbs / b.natAbs ≤ a.natAbs := Nat.div_le_self _ _
  have h3 : a.tdiv b ≠ 9223372036854775808 := by
    intro he
    rw [he] at h1
    have h4 : b.natAbs ≠ 1 → a.natAbs / b.natAbs ≤ a.natAbs / 2 := fun hb1 => by
      by_cases hz : b.natAbs = 0
      · rw [hz, Nat.div_zero]; omega
      · exact Nat.div_le_div_left (by omega) (by omega)
    have h5 : b.natAbs = 1 := by
      by_cases hb1 : b.natAbs = 1
      · exact hb1
      · have := h4 hb1; omega
    have h6 : b = 1 ∨ b = -1 := by omega
    rcases h6 with rfl | rfl
    · rw [Int.tdiv_one] at he; omega
    · have h7 : a.tdiv (-1) = -a := by rw [Int.tdiv_neg, Int.tdiv_one]
      rw [h7] at he
      omega
  omega

theorem opR_i64 (j : Nat) {a b : Int} (ha : isI64 a) (hb : isI64 b) : isI64 (opR j a b).1 := by
  have hp : isI64 (plusR a b).1 := by unfold plusR; split; (· rename_i h; exact h); exact i64_0
  have hm : isI64 (minusR a b).1 := by unfold minusR; split; (· rename_i h; exact h); exact i64_0
  unfold opR
  split
  · exact hp
  · exact hm
  · unfold timesR; split; (· rename_i h; exact h); exact i64_0
  · unfold quotR
    split
    · exact i64_0
    · split
      · exact i64_0
      · rename_i h; exact tdiv_bd a b ha h
  · unfold remR
    split
    · exact i64_0
    · rename_i h
      have := tmod_bd a b hb h
      unfold isI64
      simp only
      omega
  · unfold modR
    split
    · exact i64_0
    · rename_i h
      have := tmod_bd a b hb h
      unfold isI64 at *
      split
      · rename_i h2; simp only; omega
      · simp only; omega
  · exact hm

theorem plus_enters : ∀ args W, (callFunc 129 args).run Tryz.prog W = .ok (.enter 129 args) W := fun _ _ => by kernel_rfl
theorem minus_enters : ∀ args W, (callFunc 130 args).run Tryz.prog W = .ok (.enter 130 args) W := fun _ _ => by kernel_rfl
theorem times_enters : ∀ args W, (callFunc 131 args).run Tryz.prog W = .ok (.enter 131 args) W := fun _ _ => by kernel_rfl
theorem quotient_enters : ∀ args W, (callFunc 132 args).run Tryz.prog W = .ok (.enter 132 args) W := fun _ _ => by kernel_rfl
theorem remainder_enters : ∀ args W, (callFunc 133 args).run Tryz.prog W = .ok (.enter 133 args) W := fun _ _ => by kernel_rfl
theorem modulo_enters : ∀ args W, (callFunc 134 args).run Tryz.prog W = .ok (.enter 134 args) W := fun _ _ => by kernel_rfl
theorem op_enters (j : Nat) (hj : j < 7) : ∀ args W, (callFunc (opFn j) args).run Tryz.prog W = .ok (.enter (opFn j) args) W := by
  obtain rfl | rfl | rfl | rfl | rfl | rfl | rfl : j = 0 ∨ j = 1 ∨ j = 2 ∨ j = 3 ∨ j = 4 ∨ j = 5 ∨ j = 6 := by omega
  · unfold opFn; exact plus_enters
  · unfold opFn; exact minus_enters
  · unfold opFn; exact times_enters
  · unfold opFn; exact quotient_enters
  · unfold opFn; exact remainder_enters
  · unfold opFn; exact modulo_enters
  · unfold opFn; exact minus_enters

theorem op_any (j : Nat) (hj : j < 7) (a b : Int) (ha : isI64 a) (hb : isI64 b) (W : World) : Calls Tryz.prog (opFn j) #[.int .i64 a, .int .i64 b] W fun e w' => e = endsAs (opR j a b) ∧ w' = W := by
  obtain rfl | rfl | rfl | rfl | rfl | rfl | rfl : j = 0 ∨ j = 1 ∨ j = 2 ∨ j = 3 ∨ j = 4 ∨ j = 5 ∨ j = 6 := by omega
  · unfold opFn opR; exact plus_any a b ha hb W
  · unfold opFn opR; exact minus_any a b ha hb W
  · unfold opFn opR; exact times_any a b ha hb W
  · unfold opFn opR; exact quotient_any a b ha hb W
  · unfold opFn opR; exact remainder_any a b ha hb W
  · unfold opFn opR; exact modulo_any a b ha hb W
  · unfold opFn opR; exact minus_any a b ha hb W

theorem rkOp_i64 {rec : Nat → Nd → (Int × Int) × Nat} {l : List Nd} (h : ∀ r, ∀ x ∈ l, isI64 (rec r x).1.1) (r : Nat) (o : Option Nat) : isI64 (rkOp rec r o l).1.1 := by
  cases o with
  | none => rw [rkOp_none]; exact i64_0
  | some j =>
    cases l with
    | nil => exact i64_0
    | cons a l =>
      cases l with
      | nil =>
        have h1 := h r a (by simp)
        simp only [rkOp]
        split
        · exact i64_0
        · exact opR_i64 j i64_0 h1
      | cons b l =>
        cases l with
        | nil =>
          have h1 := h r a (by simp)
          have h2 := h (rec r a).2 b (by simp)
          simp only [rkOp]
          split
          · exact i64_0
          · split
            · exact i64_0
            · exact opR_i64 j h1 h2
        | cons => exact i64_0

theorem elems_okN : ∀ {ts : Ts}, ts.ok → ∀ x ∈ elems ts, x.ok
  | .nil, _, x, hx => by cases hx
  | .cons k s n p c kids rest, h, x, hx => by
    simp only [elems, List.mem_cons] at hx
    rcases hx with rfl | hx
    · exact ⟨h.1, h.2.1, h.2.2.1, h.2.2.2.1, h.2.2.2.2.1, h.2.2.2.2.2.1, trivial⟩
    · exact elems_okN h.2.2.2.2.2.2 x hx

theorem rk_i64 {σ : Sb} (hE : Ends σ) (hg : ∀ v x, σ v = some x → x.ok) : ∀ (f r : Nat) {t : Nd}, t.ok → isI64 (rk σ f r t).1.1
  | 0, _, _, _ => i64_0
  | f + 1, r, t, ht => by
    have hw : (wk σ t).ok := by
      have key : ∀ {t r : Nd} {m : Nat}, Wk σ t r m → t.ok → r.ok := fun h => by
        induction h with
        | stop => exact id
        | go _ hb _ ih => exact fun _ => ih (hg _ _ hb)
      exact key (wk_spec hE t) ht
    simp only [rk]
    split
    · exact i64_0
    · split
      · exact i64_0
      · split
        · exact hw.2.2.1
        · exact rkOp_i64 (fun r x hx => rk_i64 hE hg f r (elems_okN hw.2.2.2.2.2.1 x hx)) _ _

end Go.Proofs.YtnmhnaanpjlniaaGreat
/-
  Layer 4: unification as a function: what is bound, how many visits are left.
-/
namespace Go.Proofs.YtnmhnaanpjlniaaGreat
open Go.RowKit

/-- what becomes of binding a variable, so many visits being left -/
inductive BO where
  | full
  | no
  | ok (r : Nat)

noncomputable def bnd (r : Nat) (σ : Sb) (v : Int) (t : Nd) : BO :=
  if 0 ≤ posA v 0 (vis σ (r + 1) [t]) ∧ posA v 0 (vis σ (r + 1) [t]) ≤ (r : Int) then .no
  else if r < (vis σ (r + 1) [t]).length then .full
  else if v < 0 then .no else .ok (r - (vis σ (r + 1) [t]).length)

theorem bnd_le {r r' : Nat} {σ : Sb} {v : Int} {t : Nd} (h : bnd r σ v t = .ok r') : r' ≤ r := by
  unfold bnd at h
  split at h
  · cases h
  split at h
  · cases h
  split at h
  · cases h
  cases h
  omega

/-- how a unification ends: full, not, or with what is bound, how many more, and how many visits are left -/
inductive Out where
  | full
  | no
  | ok (σ : Sb) (c r : Nat)

/-- are the heads alike? -/
def headU (x y : Nd) : Bool := (x.k == y.k) && ((x.s.toList == y.s.toList) && ((x.n == y.n) && decide (x.kids.len = y.kids.len)))

/-- a pair, but for its Args -/
inductive OneO where
  | full
  | no
  | ok (σ : Sb) (c r : Nat) (l : List (Nd × Nd))

noncomputable def one (r c : Nat) (σ : Sb) (a b : Nd) : OneO :=
  if ((wk σ a).k == 1) = true then
    (if ((wk σ b).k == 1) = true ∧ (wk σ a).n = (wk σ b).n then .ok σ c r []
     else match bnd r σ (wk σ a).n (wk σ b) with
      | .full => .full
      | .no => .no
      | .ok r' => .ok (σ.put (wk σ a).n (wk σ b)) (c + 1) (min r' r) [])
  else if ((wk σ b).k == 1) = true then
    (match bnd r σ (wk σ b).n (wk σ a) with
      | .full => .full
      | .no => .no
      | .ok r' => .ok (σ.put (wk σ b).n (wk σ a)) (c + 1) (min r' r) [])
  else if headU (wk σ a) (wk σ b) = true then .ok σ c r ((elems (wk σ a).kids).zip (elems (wk σ b).kids))
  else .no

theorem one_le {r c : Nat} {σ : Sb} {a b : Nd} {σ' : Sb} {c' r' : Nat} {l : List (Nd × Nd)} (h : one r c σ a b = .ok σ' c' r' l) : r' ≤ r := by
  unfold one at h
  split at h
  · split at h
    · cases h; exact Nat.le_refl _
    · split at h
      · cases h
      · cases h
      · cases h; exact Nat.min_le_right _ _
  · split at h
    · split at h
      · cases h
      · cases h
      · cases h; exact Nat.min_le_right _ _
    · split at h
      · cases h; exact Nat.le_refl _
      · cases h

noncomputable def un (r c : Nat) (σ : Sb) (l : List (Nd × Nd)) : Out :=
  match l, r with
  | [], r => .ok σ c r
  | _ :: _, 0 => .full
  | (a, b) :: l, r + 1 =>
    match h : one r c σ a b with
    | .full => .full
    | .no => .no
    | .ok σ' c' r' m => un r' c' σ' (m ++ l)
termination_by r
decreasing_by
  have := one_le h
  omega

theorem un_nil (r c : Nat) (σ : Sb) : un r c σ [] = .ok σ c r := by rw [un]
theorem un_zero (c : Nat) (σ : Sb) (p : Nd × Nd) (l : List (Nd × Nd)) : un 0 c σ (p :: l) = .full := by rw [un]
theorem un_full {r c : Nat} {σ : Sb} {a b : Nd} {l : List (Nd × Nd)} (h : one r c σ a b = .full) : un (r + 1) c σ ((a, b) :: l) = .full := by
  rw [un]
  split
  · rfl
  · rename_i h'; rw [h] at h'; cases h'
  · rename_i h'; rw [h] at h'; cases h'
theorem un_no {r c : Nat} {σ : Sb} {a b : Nd} {l : List (Nd × Nd)} (h : one r c σ a b = .no) : un (r + 1) c σ ((a, b) :: l) = .no := by
  rw [un]
  split
  · rename_i h'; rw [h] at h'; cases h'
  · rfl
  · rename_i h'; rw [h] at h'; cases h'
theorem un_ok {r c : Nat} {σ : Sb} {a b : Nd} {l m : List (Nd × Nd)} {σ' : Sb} {c' r' : Nat} (h : one r c σ a b = .ok σ' c' r' m) : un (r + 1) c σ ((a, b) :: l) = un r' c' σ' (m ++ l) := by
  rw [un]
  split
  · rename_i h'; rw [h] at h'; cases h'
  · rename_i h'; rw [h] at h'; cases h'
  · rename_i h'; rw [h] at h'; cases h'; rfl

/-- substitutions that are alike, each bound once more -/
theorem STw.put2 {σ ρ : Sb} (h : STw σ ρ) {v : Int} {x t : Nd} (ht : x.twin t) : STw (σ.put v x) (ρ.put v t) := by
  refine ⟨fun u hu => ?_, fun u y hy => ?_⟩
  · by_cases e : u = v
    · subst e; rw [Sb.put_same] at hu; cases hu
    · rw [Sb.put_other e] at hu ⊢; exact h.no u hu
  · by_cases e : u = v
    · subst e
      rw [Sb.put_same] at hy ⊢
      cases hy
      exact ⟨t, rfl, ht⟩
    · rw [Sb.put_other e] at hy ⊢
      exact h.yes u y hy

theorem posA_tw (v : Int) {a b : List Nd} (h : TwL a b) : ∀ i, posA v i a = posA v i b := by
  induction h with
  | nil => intro i; rfl
  | cons h1 _ ih =>
    intro i
    simp only [posA]
    rw [h1.1, h1.2.2.1, ih]

theorem Nd.twin_symm {x y : Nd} (h : x.twin y) : y.twin x := ⟨h.1.symm, h.2.1.symm, h.2.2.1.symm, Ts.twin_symm _ _ h.2.2.2⟩
theorem Nd.twin_trans {x y z : Nd} (h : x.twin y) (h' : y.twin z) : x.twin z := ⟨h.1.trans h'.1, h.2.1.trans h'.2.1, h.2.2.1.trans h'.2.2.1, Go.Proofs.YtnmhnaanpjlniaaGreat.twin_trans h.2.2.2 h'.2.2.2⟩

theorem bnd_tw {σ ρ : Sb} (h : STw σ ρ) (hE : Ends σ) {r : Nat} {v : Int} {t t' : Nd} (ht : t.twin t') : bnd r σ v t = bnd r ρ v t' := by
  have hv := h.vis hE (r + 1) (.cons ht .nil)
  unfold bnd
  rw [posA_tw v hv, hv.length]

theorem headU_tw {x y x' y' : Nd} (h : x.twin x') (h' : y.twin y') : headU x y = headU x' y' := by
  unfold headU
  rw [h.1, h.2.1, h.2.2.1, h'.1, h'.2.1, h'.2.2.1, Ts.twin_len _ _ h.2.2.2, Ts.twin_len _ _ h'.2.2.2]

/-- pairs that are alike -/
inductive TwP : List (Nd × Nd) → List (Nd × Nd) → Prop
  | nil : TwP [] []
  | cons {a b a' b' : Nd} {l m : List (Nd × Nd)} (h : a.twin a') (h' : b.twin b') (hl : TwP l m) : TwP ((a, b) :: l) ((a', b') :: m)

theorem TwP.app {a b : List (Nd × Nd)} (h : TwP a b) {c d : List (Nd × Nd)} (h' : TwP c d) : TwP (a ++ c) (b ++ d) := by
  induction h with
  | nil => exact h'
  | cons h1 h2 _ ih => exact .cons h1 h2 ih

theorem TwP.refl : ∀ l : List (Nd × Nd), TwP l l
  | [] => .nil
  | (a, b) :: l => .cons (Nd.twin_refl a) (Nd.twin_refl b) (TwP.refl l)

theorem TwL.zip {a a' : List Nd} (h : TwL a a') : ∀ {b b' : List Nd}, TwL b b' → TwP (a.zip b) (a'.zip b') := by
  induction h with
  | nil => intro b b' _; simp only [List.zip_nil_left]; exact .nil
  | cons h1 _ ih =>
    intro b b' hb
    cases hb with
    | nil => simp only [List.zip_nil_right]; exact .nil
    | cons h2 hb => simp only [List.zip_cons_cons]; exact .cons h1 h2 (ih hb)

/-- ends that are alike -/
def OneO.tw : OneO → OneO → Prop
  | .full, .full => True
  | .no, .no => True
  | .ok σ c r l, .ok ρ c' r' l' => STw σ ρ ∧ c = c' ∧ r = r' ∧ TwP l l'
  | _, _ => False
def Out.tw : Out → Out → Prop
  | .full, .full => True
  | .no, .no => True
  | .ok σ c r, .ok ρ c' r' => STw σ ρ ∧ c = c' ∧ r = r'
  | _, _ => False

theorem one_tw {σ ρ : Sb} (h : STw σ ρ) (hE : Ends σ) {r c : Nat} {a b a' b' : Nd} (ha : a.twin a') (hb : b.twin b') : (one r c σ a b).tw (one r c ρ a' b') := by
  have hx := h.wk hE ha
  have hy := h.wk hE hb
  unfold one
  rw [← hx.1, ← hy.1, ← hx.2.2.1, ← hy.2.2.1, ← bnd_tw h hE hy, ← bnd_tw h hE hx, ← headU_tw hx hy]
  split
  · split
    · exact ⟨h, rfl, rfl, .nil⟩
    · split
      · exact trivial
      · exact trivial
      · exact ⟨h.put2 hy, rfl, rfl, .nil⟩
  · split
    · split
      · exact trivial
      · exact trivial
      · exact ⟨h.put2 hx, rfl, rfl, .nil⟩
    · split
      · exact ⟨h, rfl, rfl, (elems_tw hx.2.2.2).zip (elems_tw hy.2.2.2)⟩
      · exact trivial

theorem wk_wk {σ : Sb} (hE : Ends σ) (t : Nd) : wk σ (wk σ t) = wk σ t := wk_stop (wk_spec hE t).ends

theorem bnd_not {r r' : Nat} {σ : Sb} {v : Int} {t : Nd} (h : bnd r σ v t = .ok r') : posA v 0 (vis σ (r + 1) [t]) < 0 ∧ (vis σ (r + 1) [t]).length ≤ r ∧ 0 ≤ v ∧ r' = r - (vis σ (r + 1) [t]).length := by
  unfold bnd at h
  split at h
  · cases h
  · rename_i h1
    split at h
    · cases h
    · rename_i h2
      split at h
      · cases h
      · rename_i h3
        cases h
        have := posA_le v (vis σ (r + 1) [t]) 0
        refine ⟨?_, by omega, by omega, rfl⟩
        omega

theorem bnd_ends {r r' : Nat} {σ : Sb} {v : Int} {t : Nd} (hE : Ends σ) (hv : σ v = none) (h : bnd r σ v t = .ok r') : Ends (σ.put v t) := by
  refine hE.put hv fun hc => ?_
  have h1 := (bnd_not h).1
  simp only [vis, posA] at h1
  rw [if_pos (by rw [hc.1, hc.2]; simp)] at h1
  omega

theorem one_ends {σ σ' : Sb} {r c r' c' : Nat} {a b : Nd} {l : List (Nd × Nd)} (hE : Ends σ) (h : one r c σ a b = .ok σ' c' r' l) : Ends σ' := by
  have free : ∀ t, ((wk σ t).k == 1) = true → σ (wk σ t).n = none := fun t hk => by
    rcases (wk_spec hE t).ends with h | h
    · rw [h] at hk; cases hk
    · exact h
  unfold one at h
  split at h
  · rename_i hk
    split at h
    · cases h; exact hE
    · split at h
      · cases h
      · cases h
      · rename_i hb
        cases h
        exact bnd_ends hE (free _ hk) hb
  · split at h
    · rename_i hk
      split at h
      · cases h
      · cases h
      · rename_i hb
        cases h
        exact bnd_ends hE (free _ hk) hb
    · split at h
      · cases h; exact hE
      · cases h

theorem un_tw : ∀ (r : Nat) {σ ρ : Sb} (c : Nat) {l m : List (Nd × Nd)}, STw σ ρ → Ends σ → TwP l m → (un r c σ l).tw (un r c ρ m) := by
  intro r
  induction r using Nat.strongRecOn with
  | ind r ih =>
  intro σ ρ c l m h hE hl
  cases hl with
  | nil => rw [un_nil, un_nil]; exact ⟨h, rfl, rfl⟩
  | @cons a b a' b' l m ha hb hl =>
    cases r with
    | zero => rw [un_zero, un_zero]; trivial
    | succ r =>
      have h1 := one_tw (r := r) (c := c) h hE ha hb
      cases e1 : one r c σ a b with
      | full =>
        rw [e1] at h1
        cases e2 : one r c ρ a' b' with
        | full => rw [un_full e1, un_full e2]; trivial
        | no => rw [e2] at h1; exact h1.elim
        | ok σ2 c2 r2 l2 => rw [e2] at h1; exact h1.elim
      | no =>
        rw [e1] at h1
        cases e2 : one r c ρ a' b' with
        | full => rw [e2] at h1; exact h1.elim
        | no => rw [un_no e1, un_no e2]; trivial
        | ok σ2 c2 r2 l2 => rw [e2] at h1; exact h1.elim
      | ok σ1 c1 r1 l1 =>
        rw [e1] at h1
        cases e2 : one r c ρ a' b' with
        | full => rw [e2] at h1; exact h1.elim
        | no => rw [e2] at h1; exact h1.elim
        | ok σ2 c2 r2 l2 =>
          rw [e2] at h1
          obtain ⟨g1, rfl, rfl, g4⟩ := h1
          rw [un_ok e1, un_ok e2]
          have := one_le e1
          exact ih r1 (by omega) c1 g1 (one_ends hE e1) (g4.app hl)

end Go.Proofs.YtnmhnaanpjlniaaGreat
