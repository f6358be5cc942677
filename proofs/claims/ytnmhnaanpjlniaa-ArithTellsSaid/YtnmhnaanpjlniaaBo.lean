import Derived.Test.YtnmhnaanpjlniaaBa
import Derived.Test.YtnmhnaanpjlniaaBc
import Derived.Test.YtnmhnaanpjlniaaTv0
/-
  Layer 3: plain facts for the law SubstTells.
-/
namespace Go.Proofs.Ytnmhnaanpjlniaa
open Go.RowKit

theorem App.tw {σ ρ : Sb} (h : STw σ ρ) (hE : Ends σ) {l : List Nd} {us : Ts} (ha : App σ l us) : ∀ {l' : List Nd} {vs : Ts}, TwL l l' → App ρ l' vs → Ts.twin us vs := by
  induction ha with
  | nil => intro l' vs hl hv; cases hl; cases hv; trivial
  | cons _ _ ih1 ih2 =>
    intro l' vs hl hv
    cases hl with
    | cons ht hl =>
      cases hv with
      | cons g1 g2 =>
        have hw := h.wk hE ht
        exact ⟨hw.1, hw.2.1, hw.2.2.1, ih1 (elems_tw hw.2.2.2) g1, ih2 hl g2⟩

/-- how many nodes an applied term has, its own node left out -/
theorem cnt_of {σ : Sb} {t : Nd} (h : (vis σ 4097 [t]).length ≤ 4096) : ∃ n, n ≤ 4096 ∧ Cnt σ (elems (wk σ t).kids) n := by
  obtain ⟨a, b, h1, h2, h3⟩ := Cnt.inv (vis_cnt (σ := σ) 4097 [t] (by omega))
  exact ⟨a, by omega, h1⟩

/-- terms that are alike, told so -/
theorem headAlike_twin {x y : Nd} (h : x.twin y) : headAlike x.k y.k x.s y.s x.n y.n = true := by
  obtain ⟨h1, h2, h3, _⟩ := h
  rw [h1, h2, h3]
  simp [headAlike]

theorem alike_twin {u v : Ts} (h : Ts.twin u v) : alike u v = true := (twin_alike_both h (Ts.twin_refl v)).trans (alike_refl v)

/-- two applied terms, or walked ones, are the same: told so -/
theorem same_twins {x y : Nd} (h : x.twin y) (hox : x.kids.ok) (hoy : y.kids.ok) (hlx : x.kids.len ≤ 1000000) (w : World) (hax : Ts.At w x.p x.kids) (hay : Ts.At w y.p y.kids) :
    Calls Try.prog 18 #[.agg #[.int .u8 x.k, .string x.s, .int .i64 x.n, .slice x.p x.kids.len x.c], .agg #[.int .u8 y.k, .string y.s, .int .i64 y.n, .slice y.p y.kids.len y.c]] w fun e w' => e = .returned (.bool true) ∧ Below w.heap.size w w' := by
  have hly : y.kids.len ≤ 1000000 := by rw [← Ts.twin_len _ _ h.2.2.2]; exact hlx
  refine (same_of x.kids y.kids (fun w p p' c c' ha hb => all_any _ x.kids y.kids (Nat.lt_succ_self _) hox hoy (by omega) (by omega) w p p' c c' ha hb) x.k y.k x.s y.s x.n y.n x.p y.p x.c y.c w hax hay).mono ?_
  rintro e w' ⟨rfl, hB⟩
  rw [headAlike_twin h, alike_twin h.2.2.2]
  exact ⟨rfl, hB⟩

end Go.Proofs.Ytnmhnaanpjlniaa
/-
  Terms made anew, node by node (put, shift): plain facts, and what stands between two rounds.
-/
namespace Go.Proofs.Ytnmhnaanpjlniaa
open Go.RowKit

/-- what becomes of a term, and of each term of a list -/
structure Mapper (f : Nd → Nd) (g : Ts → Ts) : Prop where
  nil : g .nil = .nil
  cons : ∀ k s n p c kids rest, g (.cons k s n p c kids rest) = .cons (f ⟨k, s, n, p, c, kids⟩).k (f ⟨k, s, n, p, c, kids⟩).s (f ⟨k, s, n, p, c, kids⟩).n (f ⟨k, s, n, p, c, kids⟩).p (f ⟨k, s, n, p, c, kids⟩).c (f ⟨k, s, n, p, c, kids⟩).kids (g rest)

/-- a term in the place of a variable -/
def putT (v : Int) (b : Nd) : Ts → Ts
  | .nil => .nil
  | .cons k s n p c kids rest => if ((k == 1) && (n == v)) = true then .cons b.k b.s b.n b.p b.c b.kids (putT v b rest) else .cons k s n p c (putT v b kids) (putT v b rest)

def putN (v : Int) (b : Nd) (x : Nd) : Nd := if ((x.k == 1) && (x.n == v)) = true then b else ⟨x.k, x.s, x.n, x.p, x.c, putT v b x.kids⟩

theorem put_mapper (v : Int) (b : Nd) : Mapper (putN v b) (putT v b) := ⟨rfl, fun k s n p c kids rest => by
  simp only [putT, putN]
  split <;> rfl⟩

/-- a term whose variables' numbers are more by so much -/
def shT (d : Int) : Ts → Ts
  | .nil => .nil
  | .cons k s n p c kids rest => .cons k s (if (k == 1) = true then n + d else n) p c (shT d kids) (shT d rest)

def shN (d : Int) (x : Nd) : Nd := ⟨x.k, x.s, if (x.k == 1) = true then x.n + d else x.n, x.p, x.c, shT d x.kids⟩

theorem sh_mapper (d : Int) : Mapper (shN d) (shT d) := ⟨rfl, fun _ _ _ _ _ _ _ => rfl⟩

theorem putT_len (v : Int) (b : Nd) : ∀ ts : Ts, (putT v b ts).len = ts.len
  | .nil => rfl
  | .cons k s n p c kids rest => by
    simp only [putT]
    split <;> simp only [Ts.len, putT_len v b rest]

/-- a list of its own; the parts of its elements lie there, or in blocks ahead of C -/
def OwnC (C base : Nat) (e : TypeId) (v : Value) (acc : Ts) (w : World) : Prop :=
  w.ownsRow base e 4 v acc.len (cellsL acc) ∧ acc.ok ∧ KidsP (fun b => (b < C ∨ base ≤ b) ∧ v.ownBlock ≠ some b) w acc

theorem OwnC.start (C base : Nat) (e : TypeId) (w : World) : OwnC C base e (.slice none 0 0) .nil w := ⟨World.ownsRow_nil _ _ _ _, trivial, trivial⟩

theorem OwnC.below {C base : Nat} {e : TypeId} {v : Value} {acc : Ts} {w w' : World} (h : OwnC C base e v acc w) (hB : Below w.heap.size w w') : OwnC C base e v acc w' :=
  ⟨h.1.kept (row := none) ⟨hB.os, hB.tape, hB.output, hB.size, fun k hk _ => hB.block k hk⟩ (by cases v.ownBlock <;> simp), h.2.1, KidsP.stay (fun b _ hl => hB.block b hl) (fun _ hb _ => hb) h.2.2⟩

theorem OwnC.push0 {C base m : Nat} {e : TypeId} {v v' : Value} {acc U : Ts} {W W7 : World} (h : OwnC C base e v acc W) (hC : C ≤ base) (hown : W7.ownsRow base e 4 v' (acc.len + U.len) (cellsL acc ++ cellsL U))
    (hg : W.grownBy W7 v.ownBlock) (hob : v'.ownBlock = v.ownBlock ∨ v'.ownBlock = some W.heap.size) (hUok : U.ok) (hk : KidsP (fun b => b < C ∨ m ≤ b) W U) (hm : base ≤ m) (hgm : ∀ q, v.ownBlock = some q → base ≤ q ∧ q < m) : OwnC C base e v' (acc.app U) W7 := by
  obtain ⟨h1, h2, h3⟩ := h
  have hk' : KidsP (fun b => (b < C ∨ base ≤ b) ∧ v.ownBlock ≠ some b) W U := KidsP.stay (fun _ _ _ => rfl) (fun b hb _ => ⟨by omega, fun e => by have := hgm b e; omega⟩) hk
  refine ⟨by rw [app_len, cellsL_app]; exact hown, app_ok h2 hUok, KidsP.stay (w := W) (fun b hb hlt => ?_) (fun b hb hlt => ?_) (KidsP.app h3 hk')⟩
  · exact hg.block b hlt (fun e => hb.2 e.symm)
  · refine ⟨hb.1, ?_⟩
    rcases hob with e | e
    · rw [e]; exact hb.2
    · rw [e]
      intro e2
      have e3 := Option.some.inj e2
      omega

theorem OwnC.read {C base : Nat} {e : TypeId} {v : Value} {acc : Ts} {w : World} (h : OwnC C base e v acc w) : ∃ q c, v = .slice q acc.len c ∧ Ts.AtP (fun b => b < C ∨ base ≤ b) w q acc ∧ (acc.len ≤ c ∧ c ≤ 9223372036854775807) ∧ (q = none → c = 0) := by
  obtain ⟨hrow, hok, hk⟩ := h
  have hlt := hrow.lt
  rcases hrow.2 with ⟨rfl, h0⟩ | ⟨g, cap, cur, rfl, hg1, hg2, hg3, hg4, hg5, hg6⟩
  · exact ⟨none, 0, by rw [h0], ⟨0, 0, .inl (Ts.len_zero h0), by rw [Ts.len_zero h0]; trivial⟩, ⟨by omega, by omega⟩, fun _ => rfl⟩
  obtain ⟨hc, _⟩ := row_cells hg2 hg6 (cellsL_length acc)
  exact ⟨_, cap, rfl, ⟨g, 0, .inr rfl, liesP_cells (.inr (hlt g rfl).1) hc (KidsP.stay (fun _ _ _ => rfl) (fun _ hb _ => hb.1) hk)⟩, ⟨hg3, by unfold maxLen at hg4; omega⟩, fun e => by cases e⟩

theorem OwnC.far {C base : Nat} {e : TypeId} {v : Value} {acc : Ts} {w w' : World} (h : OwnC C base e v acc w) (hb : ∀ b, (b < C ∨ base ≤ b) → w'.heap[b]? = w.heap[b]?) : OwnC C base e v acc w' := by
  refine ⟨⟨h.1.1, ?_⟩, h.2.1, KidsP.stay (fun b hp _ => hb b hp.1) (fun _ hb _ => hb) h.2.2⟩
  rcases h.1.2 with h | ⟨g, cap, cur, e1, hg, h2, h3⟩
  · exact .inl h
  · exact .inr ⟨g, cap, cur, e1, hg, (hb g (.inr hg)).trans h2, h3⟩

/-- what is made of a term -/
def MadeN (C : Nat) (Y : Nd) (B : Nat) (v : Value) (w : World) : Prop := ∃ us q c, v = tv Y.k Y.s Y.n q us.len c ∧ Ts.AtP (fun b => b < C ∨ B ≤ b) w q us ∧ Ts.twin us Y.kids ∧ us.ok ∧ (us.len ≤ c ∧ c ≤ 9223372036854775807) ∧ (q = none → c = 0)

theorem MadeN.below {C : Nat} {X : Nd} {B : Nat} {v : Value} {w w' : World} (h : MadeN C X B v w) (hB : Below w.heap.size w w') : MadeN C X B v w' := by
  obtain ⟨us, q, c, h1, h2, h3⟩ := h
  exact ⟨us, q, c, h1, h2.stay fun b _ hb => hB.block b hb, h3⟩
theorem MadeN.mono {C : Nat} {X : Nd} {B B' : Nat} {v : Value} {w : World} (h : MadeN C X B v w) (hBB : B' ≤ B) : MadeN C X B' v w := by
  obtain ⟨us, q, c, h1, h2, h3⟩ := h
  exact ⟨us, q, c, h1, AtP_imp (fun b _ hb => hb.imp id (Nat.le_trans hBB)) h2, h3⟩

/-- one that was made, in a row of its own -/
def OneN (C : Nat) (Y : Nd) (B : Nat) (v : Value) (w : World) : Prop := ∃ (R : Nat) (q : Option Addr) (c : Nat) (us : Ts), v = .slice (some ⟨R, 0, none⟩) 1 1 ∧ Ts.At w (some ⟨R, 0, none⟩) (.cons Y.k Y.s Y.n q c us .nil) ∧ Ts.ok (.cons Y.k Y.s Y.n q c us .nil) ∧ Ts.AtP (fun b => b < C ∨ B ≤ b) w q us ∧ Ts.twin us Y.kids

theorem OneN.below {C : Nat} {Y : Nd} {B : Nat} {v : Value} {w w' : World} (h : OneN C Y B v w) (hB : Below w.heap.size w w') : OneN C Y B v w' := by
  obtain ⟨R, q, c, us, h1, h2, h3, h4, h5⟩ := h
  exact ⟨R, q, c, us, h1, h2.below hB, h3, h4.stay (fun b _ hb => hB.block b hb), h5⟩

theorem OneN.new {C : Nat} {Y : Nd} {B : Nat} {w : World} {q : Option Addr} {c : Nat} {us : Ts} (hk : 0 ≤ Y.k ∧ Y.k ≤ 255) (hs : Y.s.size ≤ 140737488351232) (hn : -9223372036854775808 ≤ Y.n ∧ Y.n ≤ 9223372036854775807) (hat : Ts.AtP (fun b => b < C ∨ B ≤ b) w q us) (htw : Ts.twin us Y.kids) (hok : us.ok) (hc : us.len ≤ c ∧ c ≤ 9223372036854775807) (hq : q = none → c = 0) :
    OneN C Y B (.slice (some ⟨w.heap.size, 0, none⟩) 1 1) (w.alloc (.cells #[.int .u8 Y.k, .string Y.s, .int .i64 Y.n, .slice q us.len c] 25)) := by
  have hA := BoxIs.new w ⟨Y.k, Y.s, Y.n, q, c, us⟩ 25
  have hB : Below w.heap.size w (w.alloc (.cells #[.int .u8 Y.k, .string Y.s, .int .i64 Y.n, .slice q us.len c] 25)) := (Below.refl _ _).alloc (Nat.le_refl _) _
  exact ⟨w.heap.size, q, c, us, rfl, ⟨_, _, .inr rfl, hA.c0, hA.c1, hA.c2, hA.c3, (AtP_at hat).below hB, trivial⟩, ⟨hk, hs, hn, hc, hq, hok, trivial⟩, hat.stay fun b _ hb => hB.block b hb, htw⟩

/-- between two rounds -/
structure MpIn (g : Ts → Ts) (C : Nat) (X Y : Nd) (T B : Nat) (w W2 : World) (j : Nat) (rv : Value) (acc : Ts) (wr : World) : Prop where
  jl : j ≤ X.kids.len
  al : acc.len = j
  out : OutIs T Y rv wr
  own : OwnC C B 25 rv acc wr
  app : ∀ rs, Ts.twin rs (g (X.kids.drop j)) → Ts.twin (acc.app rs) (g X.kids)
  old : ∀ b, b < T → wr.heap[b]? = W2.heap[b]?
  sz : W2.heap.size ≤ wr.heap.size ∧ B ≤ wr.heap.size
  B : Below w.heap.size w wr

/-- two terms and an empty one, boxed -/
theorem boxes3 {w W0 : World} {x y : Nd} {t : TypeId} (h : W0 = ((w.alloc (.cells #[.int .u8 x.k, .string x.s, .int .i64 x.n, .slice x.p x.kids.len x.c] t)).alloc (.cells #[.int .u8 y.k, .string y.s, .int .i64 y.n, .slice y.p y.kids.len y.c] t)).alloc (.cells #[.int .u8 0, .string ⟨#[]⟩, .int .i64 0, .slice none 0 0] t)) :
    BoxIs w.heap.size x W0 ∧ BoxIs (w.heap.size + 1) y W0 ∧ BoxIs (w.heap.size + 1 + 1) ⟨0, ⟨#[]⟩, 0, none, 0, .nil⟩ W0 ∧ W0.heap.size = w.heap.size + 3 ∧ Below w.heap.size w W0 := by
  subst h
  have h2 := BoxIs.new (w.alloc (.cells #[.int .u8 x.k, .string x.s, .int .i64 x.n, .slice x.p x.kids.len x.c] t)) y t
  have h3 := BoxIs.new ((w.alloc (.cells #[.int .u8 x.k, .string x.s, .int .i64 x.n, .slice x.p x.kids.len x.c] t)).alloc (.cells #[.int .u8 y.k, .string y.s, .int .i64 y.n, .slice y.p y.kids.len y.c] t)) ⟨0, ⟨#[]⟩, 0, none, 0, .nil⟩ t
  rw [World.size_alloc] at h2
  rw [World.size_alloc, World.size_alloc] at h3
  refine ⟨(BoxIs.new w x t).below (below2 _ _ _), h2.below ((Below.refl _ _).alloc (by simp) _), h3, by simp, ?_⟩
  exact (((Below.refl _ _).alloc (Nat.le_refl _) _).alloc (by simp) _).alloc (by rw [World.size_alloc, World.size_alloc]; omega) _

/-- a term and an empty one, boxed -/
theorem boxes2 {w W0 : World} {x : Nd} {t : TypeId} (h : W0 = (w.alloc (.cells #[.int .u8 x.k, .string x.s, .int .i64 x.n, .slice x.p x.kids.len x.c] t)).alloc (.cells #[.int .u8 0, .string ⟨#[]⟩, .int .i64 0, .slice none 0 0] t)) :
    BoxIs w.heap.size x W0 ∧ BoxIs (w.heap.size + 1) ⟨0, ⟨#[]⟩, 0, none, 0, .nil⟩ W0 ∧ W0.heap.size = w.heap.size + 2 ∧ Below w.heap.size w W0 := by
  subst h
  have h2 := BoxIs.new (w.alloc (.cells #[.int .u8 x.k, .string x.s, .int .i64 x.n, .slice x.p x.kids.len x.c] t)) ⟨0, ⟨#[]⟩, 0, none, 0, .nil⟩ t
  rw [World.size_alloc] at h2
  exact ⟨(BoxIs.new w x t).below ((Below.refl _ _).alloc (by simp) _), h2, by simp, below2 _ _ _⟩

end Go.Proofs.Ytnmhnaanpjlniaa
/-
  Layer 3: plain facts for the law SubstMore.
-/
namespace Go.Proofs.Ytnmhnaanpjlniaa
open Go.RowKit

theorem App.put_twin {σ : Sb} {v : Int} {x O : Nd} (hE : Ends σ) (hR : Ends (σ.put v x)) (hv : σ v = none) (h1 : O.k = (wk (σ.put v x) x).k) (h2 : O.s = (wk (σ.put v x) x).s) (h3 : O.n = (wk (σ.put v x) x).n) (h4 : App (σ.put v x) (elems (wk (σ.put v x) x).kids) O.kids)
    {l : List Nd} {us : Ts} (h : App σ l us) : ∀ {vs : Ts}, App (σ.put v x) l vs → Ts.twin vs (putT v O us) := by
  induction h with
  | nil => intro vs h; cases h; trivial
  | @cons t rest p c ks rs h h' ih ih' =>
    intro vs hvs
    cases hvs with
    | cons g g' =>
      by_cases hr : ((wk σ t).k == 1) = true ∧ (wk σ t).n = v
      · have e : wk (σ.put v x) t = wk (σ.put v x) x := wk_eq (Wk.put_on hv (wk_spec hE t) hr (wk_spec hR x))
        rw [e] at g ⊢
        simp only [putT, hr.1, hr.2, beq_self_eq_true, Bool.and_self, if_true]
        exact ⟨h1.symm, h2.symm, h3.symm, g.twin h4, ih' g'⟩
      · have e : wk (σ.put v x) t = wk σ t := wk_eq (Wk.put hv (wk_spec hE t) hr)
        rw [e] at g ⊢
        have hb : (((wk σ t).k == 1) && ((wk σ t).n == v)) = false := by
          rw [Bool.eq_false_iff]
          intro hb
          rw [Bool.and_eq_true] at hb
          exact hr ⟨hb.1, by simpa using hb.2⟩
        simp only [putT, hb, Bool.false_eq_true, if_false]
        exact ⟨rfl, rfl, rfl, ih g, ih' g'⟩

theorem App.size {σ : Sb} {l : List Nd} {us : Ts} (h : App σ l us) : ∀ {n : Nat}, Cnt σ l n → us.size = n := by
  induction h with
  | nil => intro n h; cases h; rfl
  | cons _ _ ih ih' =>
    intro n h
    cases h with
    | cons h h' => simp only [Ts.size, ih h, ih' h']

/-- a term made by applying -/
structure Ap (σ : Sb) (t : Nd) (X : Nd) : Prop where
  k : X.k = (wk σ t).k
  s : X.s = (wk σ t).s
  n : X.n = (wk σ t).n
  app : App σ (elems (wk σ t).kids) X.kids
  ok : X.kids.ok
  cap : X.kids.len ≤ X.c ∧ X.c ≤ 9223372036854775807
  nn : X.p = none → X.c = 0
  sz : X.kids.size < 4096

theorem Applied.cases {σ : Sb} {t : Nd} {B : Nat} {e : Ending} {w' : World} (h : Applied σ t B e w') :
    ((vis σ 4097 [t]).length = 4097 ∧ e = .returned (.tuple #[.agg #[.int .u8 0, .string ⟨#[]⟩, .int .i64 0, .slice none 0 0], .int .i64 31])) ∨
    ((vis σ 4097 [t]).length ≤ 4096 ∧ ∃ X : Nd, e = .returned (.tuple #[.agg #[.int .u8 X.k, .string X.s, .int .i64 X.n, .slice X.p X.kids.len X.c], .int .i64 0]) ∧ Ap σ t X ∧ Ts.AtB B w' X.p X.kids) := by
  rcases h with ⟨h1, h2⟩ | ⟨h1, us, q, h2, h3, h4, h5, h6⟩
  · exact .inl ⟨h1, h2⟩
  · obtain ⟨n, b, hc, _, hn⟩ := Cnt.inv (vis_cnt (σ := σ) 4097 [t] (by omega))
    have hz := h4.size hc
    have hl := Ts.len_size us
    exact .inr ⟨h1, ⟨(wk σ t).k, (wk σ t).s, (wk σ t).n, q, us.len, us⟩, h2, ⟨rfl, rfl, rfl, h4, h5, ⟨Nat.le_refl _, by simp only; omega⟩, h6, by simp only; omega⟩, h3⟩

theorem Applied.some {σ : Sb} {t : Nd} {B : Nat} {e : Ending} {w' : World} (h : Applied σ t B e w') : ∃ (X : Nd) (G : Int), e = .returned (.tuple #[.agg #[.int .u8 X.k, .string X.s, .int .i64 X.n, .slice X.p X.kids.len X.c], .int .i64 G]) := by
  rcases h.cases with ⟨_, h⟩ | ⟨_, X, h, _⟩
  · exact ⟨⟨0, ⟨#[]⟩, 0, none, 0, .nil⟩, 31, h⟩
  · exact ⟨X, 0, h⟩

theorem Ap.nd_ok {σ : Sb} {t X : Nd} (h : Ap σ t X) (hw : (wk σ t).ok) : X.ok := ⟨by rw [h.k]; exact hw.1, by rw [h.s]; exact hw.2.1, by rw [h.n]; exact hw.2.2.1, h.cap, h.nn, h.ok, trivial⟩

theorem SubAt.wk_ok {S : Nat} {σ : Sb} {n : Nat} {w : World} (h : SubAt S σ n w) {t : Nd} (hok : t.ok) (hat : Ts.At w t.p t.kids) (hsz : t.kids.size ≤ 5000) : (wk σ t).ok := (h.walked ⟨hat, hok, hsz⟩).2.1

theorem SubAt.keeps {S : Nat} {σ : Sb} {n : Nat} {w w' : World} (h : SubAt S σ n w) (hg : w.grownBy w' (some S)) {p : Option Addr} {ts : Ts} (hat : Ts.At w p ts) : Ts.At w' p ts := by
  obtain ⟨q, hh, h1, _⟩ := h.cells
  exact hat.small hg h1 (by simp)

theorem BoxIs.keeps {B S : Nat} {x : Nd} {w w' : World} (h : BoxIs B x w) (hg : w.grownBy w' (some S)) (hne : B ≠ S) : BoxIs B x w' :=
  h.of_block (hg.block B h.lt (fun e => hne (by cases e; rfl)))

theorem bindE_nn {σ : Sb} {v : Int} {t : Nd} (h : bindE σ v t = 0) : 0 ≤ v := by
  unfold bindE at h
  by_cases h1 : v < 0
  · rw [if_pos h1] at h; omega
  · omega

end Go.Proofs.Ytnmhnaanpjlniaa
/-
  Layer 3: plain facts for the law SubstIdem: what is applied has no bound variables, and each of them occurs.
-/
namespace Go.Proofs.Ytnmhnaanpjlniaa
open Go.RowKit

/-- no variable in it is bound -/
def FixT (σ : Sb) : Ts → Prop
  | .nil => True
  | .cons k _ n _ _ kids rest => ((k == 1) = false ∨ σ n = none) ∧ FixT σ kids ∧ FixT σ rest
def FixN (σ : Sb) (x : Nd) : Prop := ((x.k == 1) = false ∨ σ x.n = none) ∧ FixT σ x.kids
def FixL (σ : Sb) (l : List Nd) : Prop := ∀ x ∈ l, FixN σ x

theorem App.fix {σ : Sb} (hE : Ends σ) {l : List Nd} {us : Ts} (h : App σ l us) : FixT σ us := by
  induction h with
  | nil => trivial
  | @cons t _ _ _ _ _ _ _ ih ih' => exact ⟨(wk_spec hE t).ends, ih, ih'⟩

theorem FixT.elems {σ : Sb} : ∀ {ts : Ts}, FixT σ ts → FixL σ (elems ts)
  | .nil, _, x, hx => by simp [Go.Proofs.Ytnmhnaanpjlniaa.elems] at hx
  | .cons _ _ _ _ _ _ _, h, x, hx => by
    simp only [Go.Proofs.Ytnmhnaanpjlniaa.elems, List.mem_cons] at hx
    rcases hx with rfl | hx
    · exact ⟨h.1, h.2.1⟩
    · exact FixT.elems h.2.2 x hx

theorem FixL.app {σ : Sb} {l m : List Nd} (h : FixL σ l) (h' : FixL σ m) : FixL σ (l ++ m) := fun x hx => (List.mem_append.1 hx).elim (h x) (h' x)

theorem App.of_fix {σ : Sb} : ∀ {ts : Ts} {vs : Ts}, FixT σ ts → App σ (elems ts) vs → Ts.twin vs ts
  | .nil, vs, _, h => by cases h; trivial
  | .cons k s n p c kids rest, vs, hf, h => by
    cases h with
    | cons g g' =>
      have e : wk σ ⟨k, s, n, p, c, kids⟩ = ⟨k, s, n, p, c, kids⟩ := wk_stop hf.1
      rw [e] at g ⊢
      exact ⟨rfl, rfl, rfl, App.of_fix hf.2.1 g, App.of_fix hf.2.2 g'⟩

def sumL : List Nd → Nat
  | [] => 0
  | x :: l => x.kids.size + 1 + sumL l
theorem sumL_app : ∀ l m : List Nd, sumL (l ++ m) = sumL l + sumL m
  | [], m => by simp [sumL]
  | x :: l, m => by simp only [List.cons_append, sumL, sumL_app l m]; omega
theorem sumL_elems : ∀ ts : Ts, sumL (elems ts) = ts.size
  | .nil => rfl
  | .cons _ _ _ _ _ _ r => by simp only [elems, sumL, Ts.size, sumL_elems r]; omega

theorem vis_fix {σ : Sb} : ∀ (f : Nat) {l : List Nd}, FixL σ l → (vis σ f l).length ≤ sumL l
  | 0, _, _ => by simp [vis]
  | _ + 1, [], _ => by simp [vis]
  | f + 1, t :: rest, h => by
    have e : wk σ t = t := wk_stop (h t (by simp)).1
    simp only [vis, List.length_cons, e, sumL]
    have h2 := vis_fix f (l := elems t.kids ++ rest) ((FixT.elems (h t (by simp)).2).app fun x hx => h x (by simp [hx]))
    rw [sumL_app, sumL_elems] at h2
    omega

theorem App.append {σ : Sb} {l m : List Nd} {us vs : Ts} (h : App σ l us) (h' : App σ m vs) : App σ (l ++ m) (us.app vs) := by
  induction h with
  | nil => exact h'
  | cons h1 _ _ ih => exact .cons h1 ih

theorem nodesOf_app : ∀ t u : Ts, nodesOf (t.app u) = nodesOf t ++ nodesOf u
  | .nil, _ => rfl
  | .cons _ _ _ _ _ _ r, u => by simp only [Ts.app, nodesOf, nodesOf_app r u, List.cons_append, List.append_assoc]

/-- what is visited of a term are the nodes of what it becomes, applied -/
theorem vis_nodes {σ : Sb} : ∀ (f : Nat) {l : List Nd} {us : Ts}, App σ l us → (vis σ f l).length < f → (vis σ f l).map Ts.mark = (nodesOf us).map Ts.mark
  | 0, _, _, _, h => by omega
  | _ + 1, [], _, h, _ => by cases h; rfl
  | f + 1, t :: rest, us, h, hl => by
    cases h with
    | cons h h' =>
      simp only [vis, List.length_cons] at hl
      have ih := vis_nodes f (h.append h') (by omega)
      simp only [vis, List.map_cons, nodesOf, ih, nodesOf_app]
      rfl

theorem posA_mem (v : Int) : ∀ (l : List Nd) (i : Nat), (∃ x ∈ l, (x.k == 1) = true ∧ x.n = v) → 0 ≤ posA v i l
  | [], _, h => by obtain ⟨x, hx, _⟩ := h; cases hx
  | y :: l, i, h => by
    simp only [posA]
    split
    · omega
    · rename_i hn
      refine posA_mem v l (i + 1) ?_
      obtain ⟨x, hx, h1, h2⟩ := h
      rcases List.mem_cons.1 hx with rfl | hx
      · exact absurd (by rw [h1, h2]; simp) hn
      · exact ⟨x, hx, h1, h2⟩

/-- each variable of what a term becomes occurs in it -/
theorem occ_applied {σ : Sb} {t : Nd} {us : Ts} (h : App σ [t] us) (hl : (vis σ 4097 [t]).length ≤ 4096) {v : Int} (hv : v ∈ numsOf ((nodesOf us).map Ts.mark)) : occ v (num 0 (vis σ 4097 [t])) = (true, 0) := by
  rw [← vis_nodes 4097 h (by omega), numsOf_mem] at hv
  obtain ⟨x, hx, h1, h2⟩ := hv
  obtain ⟨y, hy, rfl⟩ := List.mem_map.1 hx
  have hp := posA_mem v _ 0 ⟨y, hy, h1, h2.symm⟩
  have hp2 := posA_le v (vis σ 4097 [t]) 0
  rw [occ_pos v _ 0 (by omega) (by omega), if_pos ⟨hp, by omega⟩]

theorem FixT.of_mem {σ : Sb} : ∀ {ts : Ts}, FixT σ ts → ∀ x ∈ nodesOf ts, (x.k == 1) = false ∨ σ x.n = none
  | .nil, _, x, hx => by cases hx
  | .cons _ _ _ _ _ _ _, h, x, hx => by
    simp only [nodesOf, List.mem_cons, List.mem_append] at hx
    rcases hx with rfl | hx | hx
    · exact h.1
    · exact FixT.of_mem h.2.1 x hx
    · exact FixT.of_mem h.2.2 x hx

/-- a variable of what a term becomes is not bound -/
theorem free_applied {σ : Sb} {us : Ts} (h : FixT σ us) {v : Int} (hv : v ∈ numsOf ((nodesOf us).map Ts.mark)) : σ v = none := by
  rw [numsOf_mem] at hv
  obtain ⟨x, hx, h1, h2⟩ := hv
  obtain ⟨y, hy, rfl⟩ := List.mem_map.1 hx
  rcases FixT.of_mem h y hy with h3 | h3
  · exact absurd h1 (by show ¬ (y.k == 1) = true; rw [h3]; simp)
  · rw [h2]; exact h3

/-- another substitution turns -/
theorem SubAt.apart {S S2 : Nat} {σ σ2 : Sb} {n n2 : Nat} {w w' : World} (h : SubAt S σ n w) (h2 : SubAt S2 σ2 n2 w) (hne : S ≠ S2) (hg : w.grownBy w' (some S2)) : SubAt S σ n w' := by
  obtain ⟨p, hh, h1, h3, h4, h5⟩ := h.cells
  obtain ⟨p2, hh2, g1, _⟩ := h2.cells
  exact ⟨⟨p, hh, (hg.block S h.lt (fun e => hne (by cases e; rfl))).trans h1, h3, h4.grown hg g1 (by simp), h5⟩, h.ends, fun v x hx => ⟨(h.at_ v x hx).1.small hg g1 (by simp), (h.at_ v x hx).2⟩⟩

/-- the term as it is applied, as a list -/
theorem Ap.list {σ : Sb} {t X : Nd} (h : Ap σ t X) : App σ [t] (.cons X.k X.s X.n X.p X.c X.kids .nil) := by
  rw [h.k, h.s, h.n]
  exact .cons h.app .nil

/-- applied again it is the same -/
theorem Ap.again {σ : Sb} {t X Y : Nd} (hE : Ends σ) (h : Ap σ t X) (h2 : Ap σ X Y) : X.twin Y := by
  have hf := h.list.fix hE
  have e : wk σ X = X := wk_stop hf.1
  have h3 := h2.app
  rw [e] at h3
  refine ⟨by rw [h2.k, e], by rw [h2.s, e], by rw [h2.n, e], Ts.twin_symm _ _ (App.of_fix hf.2.1 h3)⟩

theorem Ap.same {σ : Sb} {t X Y : Nd} (h : Ap σ t X) (h2 : Ap σ t Y) : X.twin Y := ⟨by rw [h.k, h2.k], by rw [h.s, h2.s], by rw [h.n, h2.n], h.app.twin h2.app⟩

theorem Ap.few {σ : Sb} {t X : Nd} (hE : Ends σ) (h : Ap σ t X) : (vis σ 4097 [X]).length ≤ 4096 := by
  have hf := h.list.fix hE
  have h1 := vis_fix 4097 (σ := σ) (l := [X]) (fun x hx => by
    simp only [List.mem_singleton] at hx
    subst hx
    exact ⟨hf.1, hf.2.1⟩)
  have := h.sz
  simp only [sumL] at h1
  omega

end Go.Proofs.Ytnmhnaanpjlniaa
