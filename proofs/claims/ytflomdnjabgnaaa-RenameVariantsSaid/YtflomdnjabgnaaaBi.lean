import Derived.Test.YtflomdnjabgnaaaBc
/-
  Terms made anew, node by node (put, shift): plain facts, and what stands between two rounds.
-/
namespace Go.Proofs.Ytflomdnjabgnaaa
open Go.RowKit

/-- what becomes of a term, and of each term of a list -/
structure Mapper (f : Nd → Nd) (g : Ts → Ts) : Prop where
  nil : g .nil = .nil
  cons : ∀ k s n p c kids rest, g (.cons k s n p c kids rest) = .cons (f ⟨k, s, n, p, c, kids⟩).k (f ⟨k, s, n, p, c, kids⟩).s (f ⟨k, s, n, p, c, kids⟩).n (f ⟨k, s, n, p, c, kids⟩).p (f ⟨k, s, n, p, c, kids⟩).c (f ⟨k, s, n, p, c, kids⟩).kids (g rest)

/-- a term in the place of a variable -/
def putT (v : Int) (b : Nd) : Ts → Ts
  | .nil => .nil
  | .cons k s n p c kids rest => if ((k == 1) && (n == v)) = true then .cons b.k b.s b.n b.p b.c b.kids (putT v b rest) else .cons k s n p c (putT v b kids) (putT v b rest)

def putN (v : Int) (b : Nd) (x : Nd) : Nd := if ((x.k == 1) && (x.n == v)) = true then b else ⟨x.k, x.s, x.n, x.p, x.c, putT v b x.kids⟩

theorem put_mapper (v : Int) (b : Nd) : Mapper (putN v b) (putT v b) := ⟨rfl, fun k s n p c kids rest => by
  simp only [putT, putN]
  split <;> rfl⟩

/-- a term whose variables' numbers are more by so much -/
def shT (d : Int) : Ts → Ts
  | .nil => .nil
  | .cons k s n p c kids rest => .cons k s (if (k == 1) = true then n + d else n) p c (shT d kids) (shT d rest)

def shN (d : Int) (x : Nd) : Nd := ⟨x.k, x.s, if (x.k == 1) = true then x.n + d else x.n, x.p, x.c, shT d x.kids⟩

theorem sh_mapper (d : Int) : Mapper (shN d) (shT d) := ⟨rfl, fun _ _ _ _ _ _ _ => rfl⟩

theorem putT_len (v : Int) (b : Nd) : ∀ ts : Ts, (putT v b ts).len = ts.len
  | .nil => rfl
  | .cons k s n p c kids rest => by
    simp only [putT]
    split <;> simp only [Ts.len, putT_len v b rest]

/-- a list of its own; the parts of its elements lie there, or in blocks ahead of C -/
def OwnC (C base : Nat) (e : TypeId) (v : Value) (acc : Ts) (w : World) : Prop :=
  w.ownsRow base e 4 v acc.len (cellsL acc) ∧ acc.ok ∧ KidsP (fun b => (b < C ∨ base ≤ b) ∧ v.ownBlock ≠ some b) w acc

theorem OwnC.start (C base : Nat) (e : TypeId) (w : World) : OwnC C base e (.slice none 0 0) .nil w := ⟨World.ownsRow_nil _ _ _ _, trivial, trivial⟩

theorem OwnC.below {C base : Nat} {e : TypeId} {v : Value} {acc : Ts} {w w' : World} (h : OwnC C base e v acc w) (hB : Below w.heap.size w w') : OwnC C base e v acc w' :=
  ⟨h.1.kept (row := none) ⟨hB.os, hB.tape, hB.output, hB.size, fun k hk _ => hB.block k hk⟩ (by cases v.ownBlock <;> simp), h.2.1, KidsP.stay (fun b _ hl => hB.block b hl) (fun _ hb _ => hb) h.2.2⟩

theorem OwnC.push0 {C base m : Nat} {e : TypeId} {v v' : Value} {acc U : Ts} {W W7 : World} (h : OwnC C base e v acc W) (hC : C ≤ base) (hown : W7.ownsRow base e 4 v' (acc.len + U.len) (cellsL acc ++ cellsL U))
    (hg : W.grownBy W7 v.ownBlock) (hob : v'.ownBlock = v.ownBlock ∨ v'.ownBlock = some W.heap.size) (hUok : U.ok) (hk : KidsP (fun b => b < C ∨ m ≤ b) W U) (hm : base ≤ m) (hgm : ∀ q, v.ownBlock = some q → base ≤ q ∧ q < m) : OwnC C base e v' (acc.app U) W7 := by
  obtain ⟨h1, h2, h3⟩ := h
  have hk' : KidsP (fun b => (b < C ∨ base ≤ b) ∧ v.ownBlock ≠ some b) W U := KidsP.stay (fun _ _ _ => rfl) (fun b hb _ => ⟨by omega, fun e => by have := hgm b e; omega⟩) hk
  refine ⟨by rw [app_len, cellsL_app]; exact hown, app_ok h2 hUok, KidsP.stay (w := W) (fun b hb hlt => ?_) (fun b hb hlt => ?_) (KidsP.app h3 hk')⟩
  · exact hg.block b hlt (fun e => hb.2 e.symm)
  · refine ⟨hb.1, ?_⟩
    rcases hob with e | e
    · rw [e]; exact hb.2
    · rw [e]
      intro e2
      have e3 := Option.some.inj e2
      omega

theorem OwnC.read {C base : Nat} {e : TypeId} {v : Value} {acc : Ts} {w : World} (h : OwnC C base e v acc w) : ∃ q c, v = .slice q acc.len c ∧ Ts.AtP (fun b => b < C ∨ base ≤ b) w q acc ∧ (acc.len ≤ c ∧ c ≤ 9223372036854775807) ∧ (q = none → c = 0) := by
  obtain ⟨hrow, hok, hk⟩ := h
  have hlt := hrow.lt
  rcases hrow.2 with ⟨rfl, h0⟩ | ⟨g, cap, cur, rfl, hg1, hg2, hg3, hg4, hg5, hg6⟩
  · exact ⟨none, 0, by rw [h0], ⟨0, 0, .inl (Ts.len_zero h0), by rw [Ts.len_zero h0]; trivial⟩, ⟨by omega, by omega⟩, fun _ => rfl⟩
  obtain ⟨hc, _⟩ := row_cells hg2 hg6 (cellsL_length acc)
  exact ⟨_, cap, rfl, ⟨g, 0, .inr rfl, liesP_cells (.inr (hlt g rfl).1) hc (KidsP.stay (fun _ _ _ => rfl) (fun _ hb _ => hb.1) hk)⟩, ⟨hg3, by unfold maxLen at hg4; omega⟩, fun e => by cases e⟩

theorem OwnC.far {C base : Nat} {e : TypeId} {v : Value} {acc : Ts} {w w' : World} (h : OwnC C base e v acc w) (hb : ∀ b, (b < C ∨ base ≤ b) → w'.heap[b]? = w.heap[b]?) : OwnC C base e v acc w' := by
  refine ⟨⟨h.1.1, ?_⟩, h.2.1, KidsP.stay (fun b hp _ => hb b hp.1) (fun _ hb _ => hb) h.2.2⟩
  rcases h.1.2 with h | ⟨g, cap, cur, e1, hg, h2, h3⟩
  · exact .inl h
  · exact .inr ⟨g, cap, cur, e1, hg, (hb g (.inr hg)).trans h2, h3⟩

/-- what is made of a term -/
def MadeN (C : Nat) (Y : Nd) (B : Nat) (v : Value) (w : World) : Prop := ∃ us q c, v = tv Y.k Y.s Y.n q us.len c ∧ Ts.AtP (fun b => b < C ∨ B ≤ b) w q us ∧ Ts.twin us Y.kids ∧ us.ok ∧ (us.len ≤ c ∧ c ≤ 9223372036854775807) ∧ (q = none → c = 0)

theorem MadeN.below {C : Nat} {X : Nd} {B : Nat} {v : Value} {w w' : World} (h : MadeN C X B v w) (hB : Below w.heap.size w w') : MadeN C X B v w' := by
  obtain ⟨us, q, c, h1, h2, h3⟩ := h
  exact ⟨us, q, c, h1, h2.stay fun b _ hb => hB.block b hb, h3⟩
theorem MadeN.mono {C : Nat} {X : Nd} {B B' : Nat} {v : Value} {w : World} (h : MadeN C X B v w) (hBB : B' ≤ B) : MadeN C X B' v w := by
  obtain ⟨us, q, c, h1, h2, h3⟩ := h
  exact ⟨us, q, c, h1, AtP_imp (fun b _ hb => hb.imp id (Nat.le_trans hBB)) h2, h3⟩

/-- one that was made, in a row of its own -/
def OneN (C : Nat) (Y : Nd) (B : Nat) (v : Value) (w : World) : Prop := ∃ (R : Nat) (q : Option Addr) (c : Nat) (us : Ts), v = .slice (some ⟨R, 0, none⟩) 1 1 ∧ Ts.At w (some ⟨R, 0, none⟩) (.cons Y.k Y.s Y.n q c us .nil) ∧ Ts.ok (.cons Y.k Y.s Y.n q c us .nil) ∧ Ts.AtP (fun b => b < C ∨ B ≤ b) w q us ∧ Ts.twin us Y.kids

theorem OneN.below {C : Nat} {Y : Nd} {B : Nat} {v : Value} {w w' : World} (h : OneN C Y B v w) (hB : Below w.heap.size w w') : OneN C Y B v w' := by
  obtain ⟨R, q, c, us, h1, h2, h3, h4, h5⟩ := h
  exact ⟨R, q, c, us, h1, h2.below hB, h3, h4.stay (fun b _ hb => hB.block b hb), h5⟩

theorem OneN.new {C : Nat} {Y : Nd} {B : Nat} {w : World} {q : Option Addr} {c : Nat} {us : Ts} (hk : 0 ≤ Y.k ∧ Y.k ≤ 255) (hs : Y.s.size ≤ 140737488351232) (hn : -9223372036854775808 ≤ Y.n ∧ Y.n ≤ 9223372036854775807) (hat : Ts.AtP (fun b => b < C ∨ B ≤ b) w q us) (htw : Ts.twin us Y.kids) (hok : us.ok) (hc : us.len ≤ c ∧ c ≤ 9223372036854775807) (hq : q = none → c = 0) :
    OneN C Y B (.slice (some ⟨w.heap.size, 0, none⟩) 1 1) (w.alloc (.cells #[.int .u8 Y.k, .string Y.s, .int .i64 Y.n, .slice q us.len c] 24)) := by
  have hA := BoxIs.new w ⟨Y.k, Y.s, Y.n, q, c, us⟩ 24
  have hB : Below w.heap.size w (w.alloc (.cells #[.int .u8 Y.k, .string Y.s, .int .i64 Y.n, .slice q us.len c] 24)) := (Below.refl _ _).alloc (Nat.le_refl _) _
  exact ⟨w.heap.size, q, c, us, rfl, ⟨_, _, .inr rfl, hA.c0, hA.c1, hA.c2, hA.c3, (AtP_at hat).below hB, trivial⟩, ⟨hk, hs, hn, hc, hq, hok, trivial⟩, hat.stay fun b _ hb => hB.block b hb, htw⟩

/-- between two rounds -/
structure MpIn (g : Ts → Ts) (C : Nat) (X Y : Nd) (T B : Nat) (w W2 : World) (j : Nat) (rv : Value) (acc : Ts) (wr : World) : Prop where
  jl : j ≤ X.kids.len
  al : acc.len = j
  out : OutIs T Y rv wr
  own : OwnC C B 24 rv acc wr
  app : ∀ rs, Ts.twin rs (g (X.kids.drop j)) → Ts.twin (acc.app rs) (g X.kids)
  old : ∀ b, b < T → wr.heap[b]? = W2.heap[b]?
  sz : W2.heap.size ≤ wr.heap.size ∧ B ≤ wr.heap.size
  B : Below w.heap.size w wr

/-- two terms and an empty one, boxed -/
theorem boxes3 {w W0 : World} {x y : Nd} {t : TypeId} (h : W0 = ((w.alloc (.cells #[.int .u8 x.k, .string x.s, .int .i64 x.n, .slice x.p x.kids.len x.c] t)).alloc (.cells #[.int .u8 y.k, .string y.s, .int .i64 y.n, .slice y.p y.kids.len y.c] t)).alloc (.cells #[.int .u8 0, .string ⟨#[]⟩, .int .i64 0, .slice none 0 0] t)) :
    BoxIs w.heap.size x W0 ∧ BoxIs (w.heap.size + 1) y W0 ∧ BoxIs (w.heap.size + 1 + 1) ⟨0, ⟨#[]⟩, 0, none, 0, .nil⟩ W0 ∧ W0.heap.size = w.heap.size + 3 ∧ Below w.heap.size w W0 := by
  subst h
  have h2 := BoxIs.new (w.alloc (.cells #[.int .u8 x.k, .string x.s, .int .i64 x.n, .slice x.p x.kids.len x.c] t)) y t
  have h3 := BoxIs.new ((w.alloc (.cells #[.int .u8 x.k, .string x.s, .int .i64 x.n, .slice x.p x.kids.len x.c] t)).alloc (.cells #[.int .u8 y.k, .string y.s, .int .i64 y.n, .slice y.p y.kids.len y.c] t)) ⟨0, ⟨#[]⟩, 0, none, 0, .nil⟩ t
  rw [World.size_alloc] at h2
  rw [World.size_alloc, World.size_alloc] at h3
  refine ⟨(BoxIs.new w x t).below (below2 _ _ _), h2.below ((Below.refl _ _).alloc (by simp) _), h3, by simp, ?_⟩
  exact (((Below.refl _ _).alloc (Nat.le_refl _) _).alloc (by simp) _).alloc (by rw [World.size_alloc, World.size_alloc]; omega) _

/-- a term and an empty one, boxed -/
theorem boxes2 {w W0 : World} {x : Nd} {t : TypeId} (h : W0 = (w.alloc (.cells #[.int .u8 x.k, .string x.s, .int .i64 x.n, .slice x.p x.kids.len x.c] t)).alloc (.cells #[.int .u8 0, .string ⟨#[]⟩, .int .i64 0, .slice none 0 0] t)) :
    BoxIs w.heap.size x W0 ∧ BoxIs (w.heap.size + 1) ⟨0, ⟨#[]⟩, 0, none, 0, .nil⟩ W0 ∧ W0.heap.size = w.heap.size + 2 ∧ Below w.heap.size w W0 := by
  subst h
  have h2 := BoxIs.new (w.alloc (.cells #[.int .u8 x.k, .string x.s, .int .i64 x.n, .slice x.p x.kids.len x.c] t)) ⟨0, ⟨#[]⟩, 0, none, 0, .nil⟩ t
  rw [World.size_alloc] at h2
  exact ⟨(BoxIs.new w x t).below ((Below.refl _ _).alloc (by simp) _), h2, by simp, below2 _ _ _⟩

end Go.Proofs.Ytflomdnjabgnaaa
