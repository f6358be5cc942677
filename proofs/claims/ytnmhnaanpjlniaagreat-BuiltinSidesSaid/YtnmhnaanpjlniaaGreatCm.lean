import Derived.Test.YtnmhnaanpjlniaaGreatCi
import Derived.Deep.CutBlock
import Derived.Recover
import Derived.Laws.Pointers
/-
  Layer 4: what stands while pairs are unified one behind the other.
-/
namespace Go.Proofs.YtnmhnaanpjlniaaGreat
open Go.RowKit

theorem STw.trans {a b c : Sb} (h : STw a b) (k : STw b c) : STw a c := by
  refine ⟨fun u hu => k.no u (h.no u hu), fun u y hy => ?_⟩
  obtain ⟨t, h1, h2⟩ := h.yes u y hy
  obtain ⟨t2, h3, h4⟩ := k.yes u t h1
  exact ⟨t2, h3, Nd.twin_trans h2 h4⟩

theorem Out.tw_trans {a b c : Out} (h : a.tw b) (k : b.tw c) : a.tw c := by
  cases a <;> cases b <;> cases c <;> first | trivial | exact h.elim | exact k.elim | exact ⟨h.1.trans k.1, h.2.1.trans k.2.1, h.2.2.trans k.2.2⟩

theorem Out.tw_refl : ∀ a : Out, a.tw a
  | .full => trivial
  | .no => trivial
  | .ok σ _ _ => ⟨STw.refl σ, rfl, rfl⟩

theorem Out.tw_full {o : Out} (h : Out.full.tw o) : o = .full := by cases o <;> first | rfl | exact h.elim
theorem Out.tw_no {o : Out} (h : Out.no.tw o) : o = .no := by cases o <;> first | rfl | exact h.elim
theorem Out.tw_ok {o : Out} {σ : Sb} {c r : Nat} (h : (Out.ok σ c r).tw o) : ∃ ρ, o = .ok ρ c r ∧ STw σ ρ := by
  cases o with
  | full => exact h.elim
  | no => exact h.elim
  | ok ρ c' r' => obtain ⟨h1, rfl, rfl⟩ := h; exact ⟨ρ, rfl, h1⟩

theorem one_count {r c : Nat} {σ : Sb} {a b : Nd} {σ' : Sb} {c' r' : Nat} {l : List (Nd × Nd)} (h : one r c σ a b = .ok σ' c' r' l) : c' ≤ c + 1 := by
  unfold one at h
  split at h
  · split at h
    · cases h; omega
    · split at h
      · cases h
      · cases h
      · cases h; exact Nat.le_refl _
  · split at h
    · split at h
      · cases h
      · cases h
      · cases h; exact Nat.le_refl _
    · split at h
      · cases h; omega
      · cases h

theorem liesP_rg {P : Nat → Prop} {LB : Nat} {v : Value} {w w' : World} (hr : RG LB v w w') (hL : Tiny LB w) (hP : ∀ b, P b → v.ownBlock ≠ some b) : ∀ (ts : Ts) {b o : Nat}, ts.liesP P w b o → ts.liesP P w' b o
  | .nil, _, _, _ => trivial
  | .cons k s n p c kids rest, b, o, ⟨hp, h0, h1, h2, h3, ⟨b', o', h4, h5⟩, h6⟩ => by
    have e := fun y => World.cell?_of_block (a := ⟨b, y, none⟩) (hr.block b (World.block_lt_of_cell? _ _ h0) (hL.ne h3) (hP b hp))
    exact ⟨hp, (e _).trans h0, (e _).trans h1, (e _).trans h2, (e _).trans h3, ⟨b', o', h4, liesP_rg hr hL hP kids h5⟩, liesP_rg hr hL hP rest h6⟩
theorem AtP_rg {P : Nat → Prop} {LB : Nat} {v : Value} {w w' : World} (hr : RG LB v w w') (hL : Tiny LB w) (hP : ∀ b, P b → v.ownBlock ≠ some b) {p : Option Addr} {ts : Ts} (h : Ts.AtP P w p ts) : Ts.AtP P w' p ts := by
  obtain ⟨b, o, h1, h2⟩ := h
  exact ⟨b, o, h1, liesP_rg hr hL hP ts h2⟩

theorem LSt.tiny {base LB : Nat} {v : Value} {st : List (Ent × Ent)} {w : World} (h : LSt base LB v st w) : Tiny LB w := ⟨_, _, _, h.box, by simp⟩

theorem own_at {w : World} {base n size : Nat} {e : TypeId} {v : Value} {xs : List Value} (h : w.ownsRow base e size v n xs) {g : Nat} (hg : v.ownBlock = some g) : base ≤ g ∧ ∃ cur, w.heap[g]? = some (.cells cur e (0, 0)) := by
  rcases h.2 with ⟨h1, _⟩ | ⟨g', c, cur, h1, h2, h3, _⟩
  · rw [h1] at hg; cases hg
  · rw [h1] at hg
    simp only [Value.ownBlock, Option.some.injEq] at hg
    subst hg
    exact ⟨h2, cur, h3⟩

theorem own_keep {w w' : World} {base n size : Nat} {e : TypeId} {v : Value} {xs : List Value} (h : w.ownsRow base e size v n xs) (hg : ∀ g, v.ownBlock = some g → w'.heap[g]? = w.heap[g]?) : w'.ownsRow base e size v n xs := by
  refine ⟨h.1, ?_⟩
  rcases h.2 with h1 | ⟨g', c, cur, h1, h2, h3, h4⟩
  · exact .inl h1
  · exact .inr ⟨g', c, cur, h1, h2, (hg g' (by rw [h1]; rfl)).trans h3, h4⟩

theorem LSt.own_lt {base LB : Nat} {v : Value} {st : List (Ent × Ent)} {w : World} (h : LSt base LB v st w) {g : Nat} (hg : v.ownBlock = some g) : base ≤ g ∧ g < w.heap.size := by
  obtain ⟨h1, cur, h2⟩ := own_at h.row hg
  exact ⟨h1, (Array.getElem?_eq_some_iff.1 h2).1⟩

/-- a substitution lives on while the lists that are left turn -/
theorem SubAt.rg {S base LB : Nat} {σ : Sb} {n : Nat} {v : Value} {st : List (Ent × Ent)} {w w' : World} (h : SubAt S σ n w) (hr : RG LB v w w') (hl : LSt base LB v st w) (hS : S ≠ LB ∧ v.ownBlock ≠ some S) (hat : ∀ x t, σ x = some t → Ts.AtP (fun b => v.ownBlock ≠ some b) w t.p t.kids) : SubAt S σ n w' := by
  obtain ⟨p, hh, h1, h3, h4, h5⟩ := h.cells
  refine ⟨⟨p, hh, (hr.block S h.lt hS.1 hS.2).trans h1, h3, h4.stay (Nat.le_refl _) (fun b hb => ?_), h5⟩, h.ends, fun x t hx => ⟨AtP_at (AtP_rg hr hl.tiny (fun _ h => h) (hat x t hx)), (h.at_ x t hx).2⟩⟩
  have hx := hl.box
  refine hr.block b (by rcases hb with ⟨_, _, hb⟩ | ⟨_, _, hb⟩ <;> exact (Array.getElem?_eq_some_iff.1 hb).1) (fun e => ?_) (fun e => ?_)
  · subst e
    rcases hb with ⟨ks, u, hb⟩ | ⟨es, k, hb⟩
    · rw [hx] at hb; injection hb with hb; injection hb with _ e2 _; exact absurd e2 (by decide)
    · rw [hx] at hb; cases hb
  · obtain ⟨_, cur, hc⟩ := own_at hl.row e
    rcases hb with ⟨ks, u, hb⟩ | ⟨es, k, hb⟩
    · rw [hc] at hb; injection hb with hb; injection hb with _ e2 _; exact absurd e2 (by decide)
    · rw [hc] at hb; cases hb

/-- what has been reached -/
structure LFin (KB S : Nat) (σ : Sb) (n m : Nat) (L : List (Nd × Nd)) (w : World) (L' : List (Nd × Nd)) (σp : Sb) (n' m' : Nat) (wr : World) : Prop where
  u : UAt KB S σp n' m' wr
  un_ : (un (4096 - m') n' σp L').tw (un (4096 - m) n σ L)
  m_ : m' ≤ 4096
  n_ : n' ≤ n + m'
  g : G2 KB S w wr
  ks : KB < w.heap.size ∧ S < w.heap.size

/-- and the lists that are left -/
structure LMid (KB S : Nat) (σ : Sb) (n m : Nat) (L : List (Nd × Nd)) (w : World) (LB : Nat) (v : Value) (st : List (Ent × Ent)) (L' : List (Nd × Nd)) (σp : Sb) (n' m' : Nat) (wr : World) : Prop where
  l : LSt w.heap.size LB v st wr
  lb : w.heap.size ≤ LB
  f : LFin KB S σ n m L w L' σp n' m' wr
  sl : st.length ≤ m' + 1
  ap : ∀ x t, σp x = some t → (σ x = some t ∧ Ts.AtP (fun b => b < w.heap.size) wr t.p t.kids) ∨ Ts.AtP (fun b => w.heap.size ≤ b ∧ v.ownBlock ≠ some b) wr t.p t.kids

section
variable {KB S : Nat} {σ : Sb} {n m : Nat} {L : List (Nd × Nd)} {w : World} {LB : Nat} {v : Value} {st : List (Ent × Ent)} {L' : List (Nd × Nd)} {σp : Sb} {n' m' : Nat} {wr : World}

theorem LMid.old_own (h : LMid KB S σ n m L w LB v st L' σp n' m' wr) {b : Nat} (hb : b < w.heap.size) : v.ownBlock ≠ some b := fun e => by
  have := (h.l.own_lt e).1
  omega

theorem LMid.apart (h : LMid KB S σ n m L w LB v st L' σp n' m' wr) : ∀ x t, σp x = some t → Ts.AtP (fun b => v.ownBlock ≠ some b) wr t.p t.kids := fun x t hx => by
  rcases h.ap x t hx with ⟨_, h1⟩ | h1
  · exact AtP_imp (fun b _ hb => h.old_own hb) h1
  · exact AtP_imp (fun b _ hb => hb.2) h1

theorem LMid.uat_rg (h : LMid KB S σ n m L w LB v st L' σp n' m' wr) {w' : World} (hr : RG LB v wr w') : UAt KB S σp n' m' w' := by
  have h1 := h.f.ks
  have h2 := h.lb
  exact ⟨(hr.block KB h.f.u.lt (by omega) (h.old_own h1.1)).trans h.f.u.cell, h.f.u.sub.rg hr h.l ⟨by omega, h.old_own h1.2⟩ h.apart, h.f.u.ne⟩

theorem LMid.g_rg (h : LMid KB S σ n m L w LB v st L' σp n' m' wr) {w' : World} (hr : RG LB v wr w') : G2 KB S w w' :=
  ⟨hr.os.trans h.f.g.os, hr.tape.trans h.f.g.tape, hr.output.trans h.f.g.output, Nat.le_trans h.f.g.size hr.size, fun k hk h1 h2 => (hr.block k (Nat.lt_of_lt_of_le hk h.f.g.size) (by have := h.lb; omega) (h.old_own hk)).trans (h.f.g.block k hk h1 h2)⟩

theorem LMid.ap_rg (h : LMid KB S σ n m L w LB v st L' σp n' m' wr) {w' : World} (hr : RG LB v wr w') : ∀ x t, σp x = some t → (σ x = some t ∧ Ts.AtP (fun b => b < w.heap.size) w' t.p t.kids) ∨ Ts.AtP (fun b => w.heap.size ≤ b ∧ v.ownBlock ≠ some b) w' t.p t.kids := fun x t hx => by
  rcases h.ap x t hx with ⟨h1, h2⟩ | h2
  · exact .inl ⟨h1, AtP_rg hr h.l.tiny (fun b hb => h.old_own hb) h2⟩
  · exact .inr (AtP_rg hr h.l.tiny (fun b hb => hb.2) h2)

/-- a world with more in it, but nothing else -/
theorem LMid.below (h : LMid KB S σ n m L w LB v st L' σp n' m' wr) {w' : World} (hB : Below wr.heap.size wr w') : LMid KB S σ n m L w LB v st L' σp n' m' w' :=
  ⟨⟨(hB.block _ (lt_of_block h.l.box)).trans h.l.box, own_below h.l.row hB, fun e he => by
    obtain ⟨h1, h2, h3⟩ := h.l.ents e he
    exact ⟨h1, h2.imp (fun b _ hb => hB.block b hb) (fun b hb _ => hb), h3.imp (fun b _ hb => hB.block b hb) (fun b hb _ => hb)⟩, ⟨h.l.base_.1, Nat.le_trans h.l.base_.2 hB.size⟩⟩, h.lb, ⟨h.f.u.below hB, h.f.un_, h.f.m_, h.f.n_, h.f.g.trans (.of_below hB), h.f.ks⟩, h.sl, fun x t hx => by
    rcases h.ap x t hx with ⟨h1, h2⟩ | h2
    · exact .inl ⟨h1, h2.stay fun b _ hb => hB.block b hb⟩
    · exact .inr (h2.stay fun b _ hb => hB.block b hb)⟩

/-- two lists are put behind the others -/
theorem LMid.push {X Y : Nd} (h : LMid KB S σ n m L w LB v st ((elems X.kids).zip (elems Y.kids) ++ pairsOf st) σp n' m' wr) (hlen : X.kids.len = Y.kids.len)
    (hX : Ts.AtP (fun b => v.ownBlock ≠ some b) wr X.p X.kids ∧ X.kids.ok ∧ (X.kids.len ≤ X.c ∧ X.c ≤ 9223372036854775807) ∧ (X.p = none → X.c = 0) ∧ X.kids.size ≤ 5000) (hY : Ts.AtP (fun b => v.ownBlock ≠ some b) wr Y.p Y.kids ∧ Y.kids.ok ∧ (Y.kids.len ≤ Y.c ∧ Y.c ≤ 9223372036854775807) ∧ (Y.p = none → Y.c = 0) ∧ Y.kids.size ≤ 5000)
    (hst : st.length ≤ m') {w6 w8 : World} (hB : Below wr.heap.size wr w6) (hg : w6.grownBy w8 v.ownBlock) {v' : Value} (hrow : w8.ownsRow w.heap.size 162 2 v' (st.length + 1) (cellsRE st.reverse ++ [.slice X.p X.kids.len X.c, .slice Y.p Y.kids.len Y.c])) (hob : v'.ownBlock = v.ownBlock ∨ v'.ownBlock = some w6.heap.size) :
    LMid KB S σ n m L w LB v' ((⟨X.p, X.kids, X.c⟩, ⟨Y.p, Y.kids, Y.c⟩) :: st) (pairsOf ((⟨X.p, X.kids, X.c⟩, ⟨Y.p, Y.kids, Y.c⟩) :: st)) σp n' m' (w8.setCell ⟨LB, 0, none⟩ v') := by
  have hLl := lt_of_block h.l.box
  have hwr := h.f.g.size
  have hs6 := hB.size
  have hov : ∀ b, b < wr.heap.size → v.ownBlock ≠ some b → v'.ownBlock ≠ some b := fun b hb hne e => by
    rcases hob with h1 | h1
    · rw [h1] at e; exact hne e
    · rw [h1] at e; injection e with e; omega
  have hov2 : v'.ownBlock ≠ some LB := hov LB hLl h.l.base_.1
  have hgs := grown_set w8 LB 0 v'
  have hR : RG LB v wr (w8.setCell ⟨LB, 0, none⟩ v') := ⟨hgs.os.trans (hg.os.trans hB.os), hgs.tape.trans (hg.tape.trans hB.tape), hgs.output.trans (hg.output.trans hB.output), Nat.le_trans hB.size (Nat.le_trans hg.size hgs.size), fun k hk h1 h2 =>
    (hgs.block k (Nat.lt_of_lt_of_le hk (Nat.le_trans hB.size hg.size)) (fun e => h1 (by cases e; rfl))).trans ((hg.block k (Nat.lt_of_lt_of_le hk hB.size) (fun e => h2 e.symm)).trans (hB.block k hk))⟩
  have imp : ∀ {p : Option Addr} {ts : Ts}, Ts.AtP (fun b => v.ownBlock ≠ some b) wr p ts → Ts.AtP (fun b => v'.ownBlock ≠ some b) (w8.setCell ⟨LB, 0, none⟩ v') p ts := fun hx =>
    AtP_imp (fun b _ hb => hov b hb.2 hb.1) (AtP_rg hR h.l.tiny (fun b hb => hb.1) (AtP_imp (fun b hl hb => ⟨hb, hl⟩) hx : Ts.AtP (fun b => v.ownBlock ≠ some b ∧ b < wr.heap.size) wr _ _))
  refine ⟨⟨?_, ?_, fun e he => ?_, ⟨hov2, Nat.le_trans hwr hR.size⟩⟩, h.lb, ⟨h.uat_rg hR, by simpa [pairsOf] using h.f.un_, h.f.m_, h.f.n_, h.g_rg hR, h.f.ks⟩, by simpa using hst, fun x t hx => ?_⟩
  · exact one_setCell ((hg.block LB (Nat.lt_of_lt_of_le hLl hB.size) (fun e => h.l.base_.1 e.symm)).trans ((hB.block LB hLl).trans h.l.box))
  · have h5 := ownsRow_setCell_other hrow (a := ⟨LB, 0, none⟩) hov2 v'
    simpa [cellsRE_app, cellsRE, Ent.val] using h5
  · rcases List.mem_cons.1 he with rfl | he
    · exact ⟨hlen, ⟨hX.2.2.1, hX.2.1, imp hX.1, fun x hx => Nat.le_trans (Nat.le_of_lt (elems_small hx)) hX.2.2.2.2⟩, ⟨hY.2.2.1, hY.2.1, imp hY.1, fun x hx => Nat.le_trans (Nat.le_of_lt (elems_small hx)) hY.2.2.2.2⟩⟩
    · obtain ⟨g1, g2, g3⟩ := h.l.ents e he
      exact ⟨g1, ⟨g2.cap, g2.ok, imp g2.at_, g2.sz⟩, ⟨g3.cap, g3.ok, imp g3.at_, g3.sz⟩⟩
  · rcases h.ap x t hx with ⟨g1, g2⟩ | g2
    · exact .inl ⟨g1, AtP_rg hR h.l.tiny (fun b hb => h.old_own hb) g2⟩
    · exact .inr (AtP_imp (fun b _ hb => ⟨hb.1.1, hov b hb.2 hb.1.2⟩) (AtP_rg hR h.l.tiny (fun b hb => hb.1.2) (AtP_imp (fun b hl hb => ⟨hb, hl⟩) g2 : Ts.AtP (fun b => (w.heap.size ≤ b ∧ v.ownBlock ≠ some b) ∧ b < wr.heap.size) wr _ _)))

/-- a node that is to be unified -/
def NdOk (v : Value) (a : Nd) (w : World) : Prop := a.ok ∧ Ts.AtP (fun b => v.ownBlock ≠ some b) w a.p a.kids ∧ a.kids.size ≤ 5000

/-- ahead of a round -/
structure LHead (KB S : Nat) (σ : Sb) (n m : Nat) (L : List (Nd × Nd)) (w : World) (LB : Nat) (NB : Nat) (a b : Nd) (bo : Bool) (σp : Sb) (n' m' : Nat) (wr : World) : Prop where
  bx : PairIs NB a b wr
  no : bo = false → LFin KB S σ n m L w [] σp n' m' wr ∧ ∀ x t, σp x = some t → σ x = some t ∨ Ts.AtP (fun b => w.heap.size ≤ b) wr t.p t.kids
  yes : bo = true → ∃ v st, LMid KB S σ n m L w LB v st ((a, b) :: pairsOf st) σp n' m' wr ∧ NdOk v a wr ∧ NdOk v b wr ∧ v.ownBlock ≠ some NB
  far : w.heap.size ≤ NB ∧ NB ≠ LB
  uu : UAt KB S σp n' m' wr

/-- the next pair, if there is one, put into a box -/
theorem LMid.head (h : LMid KB S σ n m L w LB v st (pairsOf st) σp n' m' wr) {w1 : World} (hB : Below wr.heap.size wr w1) {e : Ending} {w' : World} (hn : NextOut w.heap.size LB wr.heap.size v st w1 e w') {NB : Nat} (hNB : wr.heap.size ≤ NB) :
    ∃ a b bo, e = .returned (.tuple #[pairV a b, .bool bo]) ∧ ∀ w2, G2 NB NB w' w2 → PairIs NB a b w2 → LHead KB S σ n m L w LB NB a b bo σp n' m' w2 := by
  have hLl := lt_of_block h.l.box
  have hfs := h.f.g.size
  obtain ⟨hr, hn⟩ := hn
  have RGX : ∀ w2, G2 NB NB w' w2 → RG LB v wr w2 := fun w2 hg => ⟨hg.os.trans (hr.os.trans hB.os), hg.tape.trans (hr.tape.trans hB.tape), hg.output.trans (hr.output.trans hB.output), Nat.le_trans hB.size (Nat.le_trans hr.size hg.size), fun k hk h1 h2 =>
    (hg.block k (Nat.lt_of_lt_of_le hk (Nat.le_trans hB.size hr.size)) (by omega) (by omega)).trans ((hr.block k (Nat.lt_of_lt_of_le hk hB.size) h1 h2).trans (hB.block k hk))⟩
  rcases hn with ⟨h1, rfl⟩ | ⟨a, b, st', v', h1, h2, rfl, h4, h5, h8, h6, h7⟩
  · refine ⟨zeroN, zeroN, false, rfl, fun w2 hg hP => ⟨hP, fun _ => ⟨⟨h.uat_rg (RGX w2 hg), by rw [← h1]; exact h.f.un_, h.f.m_, h.f.n_, h.g_rg (RGX w2 hg), h.f.ks⟩, fun x t hx => ?_⟩, (fun e => by cases e), ⟨by omega, by omega⟩, h.uat_rg (RGX w2 hg)⟩⟩
    rcases h.ap_rg (RGX w2 hg) x t hx with ⟨g1, _⟩ | g1
    · exact .inl g1
    · exact .inr (AtP_imp (fun b _ hb => hb.1) g1)
  · refine ⟨a, b, true, rfl, fun w2 hg hP => ⟨hP, (fun e => by cases e), fun _ => ⟨v', st', ⟨⟨?_, ?_, ?_, ?_⟩, h.lb, ⟨h.uat_rg (RGX w2 hg), by rw [← h1]; exact h.f.un_, h.f.m_, h.f.n_, h.g_rg (RGX w2 hg), h.f.ks⟩, Nat.le_trans h2 h.sl, by rw [h5]; exact h.ap_rg (RGX w2 hg)⟩, ?_, ?_, ?_⟩, ⟨by omega, by omega⟩, h.uat_rg (RGX w2 hg)⟩⟩
    all_goals
      have far : ∀ k, k < wr.heap.size → w2.heap[k]? = w'.heap[k]? := fun k hk => hg.block k (Nat.lt_of_lt_of_le hk (Nat.le_trans hB.size hr.size)) (by omega) (by omega)
      have imp : ∀ {p : Option Addr} {ts : Ts}, Ts.AtP (fun b => v.ownBlock ≠ some b ∧ b < wr.heap.size) w' p ts → Ts.AtP (fun b => v'.ownBlock ≠ some b) w2 p ts := fun h =>
        AtP_imp (fun b _ hb => by rw [h5]; exact hb.1) (h.stay fun b hb _ => far b hb.2)
    · exact (far LB hLl).trans h4.box
    · exact own_keep h4.row fun g hgo => far g (h.l.own_lt (by rw [← h5]; exact hgo)).2
    · intro e he
      obtain ⟨g2, g3⟩ := h8 e he
      exact ⟨(h4.ents e he).1, ⟨g2.cap, g2.ok, imp g2.at_, g2.sz⟩, ⟨g3.cap, g3.ok, imp g3.at_, g3.sz⟩⟩
    · exact ⟨h4.base_.1, Nat.le_trans h4.base_.2 hg.size⟩
    · exact ⟨h6.1, imp h6.2.1, h6.2.2⟩
    · exact ⟨h7.1, imp h7.2.1, h7.2.2⟩
    · intro e
      have := (h.l.own_lt (by rw [← h5]; exact e)).2
      omega

/-- what the next pair asks -/
theorem LMid.ents (h : LMid KB S σ n m L w LB v st L' σp n' m' wr) {w1 : World} (hB : Below wr.heap.size wr w1) : LSt w.heap.size LB v st w1 ∧ ∀ e ∈ st, EntOk (fun b => v.ownBlock ≠ some b ∧ b < wr.heap.size) e.1 w1 ∧ EntOk (fun b => v.ownBlock ≠ some b ∧ b < wr.heap.size) e.2 w1 :=
  ⟨⟨(hB.block _ (lt_of_block h.l.box)).trans h.l.box, own_below h.l.row hB, fun e he => by
    obtain ⟨h1, h2, h3⟩ := h.l.ents e he
    exact ⟨h1, h2.imp (fun b _ hb => hB.block b hb) (fun b hb _ => hb), h3.imp (fun b _ hb => hB.block b hb) (fun b hb _ => hb)⟩, ⟨h.l.base_.1, Nat.le_trans h.l.base_.2 hB.size⟩⟩, fun e he => by
    obtain ⟨_, h2, h3⟩ := h.l.ents e he
    exact ⟨h2.imp (fun b _ hb => hB.block b hb) (fun b hb hl => ⟨hb, hl⟩), h3.imp (fun b _ hb => hB.block b hb) (fun b hb hl => ⟨hb, hl⟩)⟩⟩

/-- what is left of the lists is as it was while a pair is unified -/
theorem LMid.l_g2 (h : LMid KB S σ n m L w LB v st L' σp n' m' wr) {w' : World} (hg : G2 KB S wr w') : LSt w.heap.size LB v st w' := by
  have h1 := h.f.ks
  have h2 := h.lb
  have hK := h.f.u.tinyK
  have hS := h.f.u.sub.tiny
  refine ⟨(hg.block LB (lt_of_block h.l.box) (by omega) (by omega)).trans h.l.box, own_keep h.l.row fun g hgo => ?_, fun e he => ?_, ⟨h.l.base_.1, Nat.le_trans h.l.base_.2 hg.size⟩⟩
  · have := h.l.own_lt hgo
    exact hg.block g this.2 (by omega) (by omega)
  · obtain ⟨h1, h2, h3⟩ := h.l.ents e he
    exact ⟨h1, ⟨h2.cap, h2.ok, AtP_g2 hg hK hS h2.at_, h2.sz⟩, ⟨h3.cap, h3.ok, AtP_g2 hg hK hS h3.at_, h3.sz⟩⟩

end

def UList (KB S : Nat) (σ : Sb) (n m : Nat) (w : World) (L : List (Nd × Nd)) (e : Ending) (w' : World) : Prop :=
  G2 KB S w w' ∧ match un (4096 - m) n σ L with
    | .full => e = .panicked fullP
    | .no => e = .returned (.bool false)
    | .ok ρ c r => e = .returned (.bool true) ∧ ∃ σp m', r = 4096 - m' ∧ m' ≤ 4096 ∧ STw σp ρ ∧ UAt KB S σp c m' w' ∧ ∀ x t, σp x = some t → σ x = some t ∨ Ts.AtP (fun b => w.heap.size ≤ b) w' t.p t.kids

section
variable {KB S : Nat} {σ : Sb} {n m : Nat} {L : List (Nd × Nd)} {w : World} {w' : World}
theorem UList.mk_full (hg : G2 KB S w w') (h : un (4096 - m) n σ L = .full) : UList KB S σ n m w L (.panicked fullP) w' := ⟨hg, by rw [h]⟩
theorem UList.mk_no (hg : G2 KB S w w') (h : un (4096 - m) n σ L = .no) : UList KB S σ n m w L (.returned (.bool false)) w' := ⟨hg, by rw [h]⟩
theorem UList.mk_ok {σp : Sb} {n' m' : Nat} (h : LFin KB S σ n m L w [] σp n' m' w') (ha : ∀ x t, σp x = some t → σ x = some t ∨ Ts.AtP (fun b => w.heap.size ≤ b) w' t.p t.kids) : UList KB S σ n m w L (.returned (.bool true)) w' := by
  have h1 := h.un_
  rw [un_nil] at h1
  obtain ⟨ρ, h2, h3⟩ := Out.tw_ok h1
  exact ⟨h.g, by rw [h2]; exact ⟨rfl, σp, m', rfl, h.m_, h3, h.u, ha⟩⟩
end

/-- one pair more has been unified -/
theorem LMid.step {KB S : Nat} {σ : Sb} {n m : Nat} {L : List (Nd × Nd)} {w : World} {LB : Nat} {v : Value} {st : List (Ent × Ent)} {a b : Nd} {σp : Sb} {n' m' : Nat} {wr : World} (h : LMid KB S σ n m L w LB v st ((a, b) :: pairsOf st) σp n' m' wr) (hm : m' < 4096) {e : Ending} {w' : World} (ho : UOne KB S (fun b => v.ownBlock ≠ some b) σp n' m' wr a b e w') :
    (e = .panicked fullP ∧ UList KB S σ n m w L (.panicked fullP) w') ∨ (∃ X Y : Nd, e = .returned (.tuple #[pairV X Y, .bool false]) ∧ UList KB S σ n m w L (.returned (.bool false)) w') ∨
    ∃ (X Y : Nd) (σq : Sb) (n2 m2 : Nat), e = .returned (.tuple #[pairV X Y, .bool true]) ∧ m' < m2 ∧ G2 KB S wr w' ∧ LMid KB S σ n m L w LB v st ((elems X.kids).zip (elems Y.kids) ++ pairsOf st) σq n2 m2 w' ∧ X.kids.len = Y.kids.len ∧
      (Ts.AtP (fun b => v.ownBlock ≠ some b) w' X.p X.kids ∧ X.kids.ok ∧ (X.kids.len ≤ X.c ∧ X.c ≤ 9223372036854775807) ∧ (X.p = none → X.c = 0) ∧ X.kids.size ≤ 5000) ∧ Ts.AtP (fun b => v.ownBlock ≠ some b) w' Y.p Y.kids ∧ Y.kids.ok ∧ (Y.kids.len ≤ Y.c ∧ Y.c ≤ 9223372036854775807) ∧ (Y.p = none → Y.c = 0) ∧ Y.kids.size ≤ 5000 := by
  obtain ⟨hg, ho⟩ := ho
  have hG := h.f.g.trans hg
  have hu := h.f.un_
  rw [show 4096 - m' = (4095 - m') + 1 by omega] at hu
  cases e1 : one (4095 - m') n' σp a b with
  | full =>
    rw [e1] at ho
    rw [un_full e1] at hu
    exact .inl ⟨ho, .mk_full hG (Out.tw_full hu)⟩
  | no =>
    rw [e1] at ho
    rw [un_no e1] at hu
    obtain ⟨v, rfl, X, Y, rfl⟩ := ho
    exact .inr (.inl ⟨X, Y, rfl, .mk_no hG (Out.tw_no hu)⟩)
  | ok σ2 n2 r2 l2 =>
    rw [e1] at ho
    rw [un_ok e1] at hu
    obtain ⟨X, Y, rfl, ⟨σq, h1, h2, h3⟩, h4, h5, h6, h7⟩ := ho
    have hr2 := one_le e1
    have hc2 := one_count e1
    have hn' := h.f.n_
    have hsl := h.sl
    refine .inr (.inr ⟨X, Y, σq, n2, 4096 - r2, rfl, by omega, hg, ⟨h.l_g2 hg, h.lb, ⟨h2, ?_, by omega, by omega, hG, h.f.ks⟩, by omega, fun x t hx => ?_⟩, h5, h6, h7⟩)
    · rw [show 4096 - (4096 - r2) = r2 by omega]
      exact Out.tw_trans (un_tw r2 n2 h1 h2.sub.ends (h4.app (TwP.refl _))) hu
    · rcases h3 x t hx with g1 | g1
      · rcases h.ap x t g1 with ⟨g2, g3⟩ | g2
        · exact .inl ⟨g2, AtP_g2 hg h.f.u.tinyK h.f.u.sub.tiny g3⟩
        · exact .inr (AtP_g2 hg h.f.u.tinyK h.f.u.sub.tiny g2)
      · refine .inr (AtP_imp (fun b _ hb => ⟨Nat.le_trans h.f.g.size hb, fun e => ?_⟩) g1)
        have := (h.l.own_lt e).2
        omega

theorem LMid.step_full {KB S : Nat} {σ : Sb} {n m : Nat} {L : List (Nd × Nd)} {w : World} {LB : Nat} {v : Value} {st : List (Ent × Ent)} {p : Nd × Nd} {l : List (Nd × Nd)} {σp : Sb} {n' : Nat} {wr w' : World} (h : LMid KB S σ n m L w LB v st (p :: l) σp n' 4096 wr) (hg : G2 KB S wr w') : UList KB S σ n m w L (.panicked fullP) w' := by
  have hu := h.f.un_
  rw [Nat.sub_self, un_zero] at hu
  exact .mk_full (h.f.g.trans hg) (Out.tw_full hu)

end Go.Proofs.YtnmhnaanpjlniaaGreat
/-
  Layer 4: pairs, one behind the other.
-/
namespace Go.Proofs.YtnmhnaanpjlniaaGreat
open Go.RowKit

theorem block_new (w : World) (o : Obj) : (w.alloc o).heap[w.heap.size]? = some o := Array.getElem?_push_size

theorem infoRest : (Tryz.prog.info? 162).map (fun i => (i.zero, i.size, i.bytes)) = some (some (.agg #[.slice none 0 0, .slice none 0 0]), 2, 48) := by kernel_rfl

theorem cell_two_new (w : World) (x y : Value) (t : TypeId) : ∀ j u, [x, y][j]? = some u → (w.alloc (.cells #[x, y] t)).cell? ((⟨w.heap.size, 0, none⟩ : Addr).add j) = some u := by
  intro j u hj
  match j, hj with
  | 0, hj => simp at hj; subst hj; simp [Addr.add]
  | 1, hj => simp at hj; subst hj; simp [Addr.add]

theorem UList.no_below {KB S : Nat} {σ : Sb} {n m : Nat} {L : List (Nd × Nd)} {w w' w2 : World} (h : UList KB S σ n m w L (.returned (.bool false)) w') (hB : Below w'.heap.size w' w2) : UList KB S σ n m w L (.returned (.bool false)) w2 := by
  obtain ⟨h1, h2⟩ := h
  refine ⟨h1.trans (.of_below hB), ?_⟩
  cases e : un (4096 - m) n σ L with
  | full => rw [e] at h2; cases h2
  | no => rfl
  | ok ρ c r => rw [e] at h2; cases h2.1

theorem LMid.start {KB S : Nat} {σ : Sb} {n m : Nat} {w W0 : World} (hU : UAt KB S σ n m w) (hm : m ≤ 4096) {pa : Option Addr} {ta : Ts} {ca : Nat} {pb : Option Addr} {tb : Ts} {cb : Nat} (hlen : ta.len = tb.len) (ha : EntOk (fun _ => True) ⟨pa, ta, ca⟩ w) (hb : EntOk (fun _ => True) ⟨pb, tb, cb⟩ w)
    (hW0 : W0 = (w.alloc (.cells #[.slice pa ta.len ca, .slice pb tb.len cb] 162)).alloc (.cells #[.slice (some ⟨w.heap.size, 0, none⟩) 1 1] 163)) :
    LMid KB S σ n m (pairsOf [(⟨pa, ta, ca⟩, ⟨pb, tb, cb⟩)]) w (w.heap.size + 1) (.slice (some ⟨w.heap.size, 0, none⟩) 1 1) [(⟨pa, ta, ca⟩, ⟨pb, tb, cb⟩)] (pairsOf [(⟨pa, ta, ca⟩, ⟨pb, tb, cb⟩)]) σ n m W0 := by
  have hB : Below w.heap.size w W0 := by
    rw [hW0]
    exact ((Below.refl _ _).alloc (Nat.le_refl _) _).alloc (by simp) _
  have hrow := World.ownsRow_lit (base := w.heap.size) (e := 162) (size := 2) w #[.slice pa ta.len ca, .slice pb tb.len cb] 1 (by simp) (by unfold maxLen; omega) rfl
  have hrow2 := own_below hrow (w' := W0) (by rw [hW0]; exact (Below.refl _ _).alloc (Nat.le_refl _) _)
  have imp : ∀ {x : Ent}, EntOk (fun _ => True) x w → EntOk (fun b => (Value.slice (some ⟨w.heap.size, 0, none⟩) 1 1).ownBlock ≠ some b) x W0 := fun h =>
    h.imp (fun b _ hb => hB.block b hb) (fun b _ hb => by simp only [Value.ownBlock, ne_eq, Option.some.injEq]; omega)
  refine ⟨⟨?_, ?_, fun e he => ?_, ⟨by simp [Value.ownBlock], hB.size⟩⟩, by omega, ⟨hU.below hB, Out.tw_refl _, hm, by omega, .of_below hB, ⟨hU.lt, hU.sub.lt⟩⟩, by simp, fun x t hx => .inl ⟨hx, ?_⟩⟩
  · have := block_new (w.alloc (.cells #[.slice pa ta.len ca, .slice pb tb.len cb] 162)) (.cells #[.slice (some ⟨w.heap.size, 0, none⟩) 1 1] 163)
    rw [World.size_alloc, ← hW0] at this
    exact this
  · simpa [cellsRE, Ent.val] using hrow2
  · obtain rfl : e = (⟨pa, ta, ca⟩, ⟨pb, tb, cb⟩) := by simpa using he
    exact ⟨hlen, imp ha, imp hb⟩
  · exact ((hU.sub.at_ x t hx).1.atP).stay fun b hb _ => hB.block b hb

set_option maxRecDepth 100000 in
set_option maxHeartbeats 8000000 in
theorem lists_any (KB S : Nat) (σ : Sb) (n m : Nat) (w : World) (hU : UAt KB S σ n m w) (hm : m ≤ 4096) (hn : n ≤ 900000) (pa : Option Addr) (ta : Ts) (ca : Nat) (pb : Option Addr) (tb : Ts) (cb : Nat) (hlen : ta.len = tb.len) (ha : EntOk (fun _ => True) ⟨pa, ta, ca⟩ w) (hb : EntOk (fun _ => True) ⟨pb, tb, cb⟩ w) :
    Calls Tryz.prog 128 #[.pointer (some ⟨KB, 0, none⟩), .slice pa ta.len ca, .slice pb tb.len cb] w (UList KB S σ n m w (pairsOf [(⟨pa, ta, ca⟩, ⟨pb, tb, cb⟩)])) := by
  obtain ⟨W0, hW0⟩ : ∃ W0, W0 = (w.alloc (.cells #[.slice pa ta.len ca, .slice pb tb.len cb] 162)).alloc (.cells #[.slice (some ⟨w.heap.size, 0, none⟩) 1 1] 163) := ⟨_, rfl⟩
  have M0 := Lib.hid (LMid.start hU hm hlen ha hb hW0)
  obtain ⟨L, hL⟩ : ∃ L, pairsOf [((⟨pa, ta, ca⟩, ⟨pb, tb, cb⟩) : Ent × Ent)] = L := ⟨_, rfl⟩
  have HL := Lib.hid hL
  have Z0 := Lib.hid hW0
  have hKl := hU.lt
  have hSl := hU.sub.lt
  have UU := Lib.hid hU
  rw [hL]
  clear hW0 hU hm hlen ha hb hL
  go_enter Tryz.func128, Tryz.ntmps128
  go_wp2_with fail
  rw [← Z0.out]
  obtain ⟨LX, EX⟩ := M0.out.ents (Below.refl _ _)
  refine (next_any w.heap.size (w.heap.size + 1) W0.heap.size _ _ W0 LX (by simp) (Nat.le_refl _) EX).mono ?_
  clear LX EX
  intro e wa hN
  have hsa : W0.heap.size ≤ wa.heap.size := hN.1.size
  obtain ⟨a, b, bo, rfl, hH⟩ := M0.out.head (Below.refl _ _) hN (NB := wa.heap.size) hsa
  have HD := Lib.hid (hH (wa.alloc (.cells #[.int .u8 a.k, .string a.s, .int .i64 a.n, .slice a.p a.kids.len a.c, .int .u8 b.k, .string b.s, .int .i64 b.n, .slice b.p b.kids.len b.c] 165)) (.of_below ((Below.refl _ _).alloc (Nat.le_refl _) _)) (PairIs.new wa a b _))
  rw [HL.out] at HD
  clear hN hH
  unfold pairV
  obtain ⟨W1, hW1⟩ : ∃ W1, W1 = wa.alloc (.cells #[.int .u8 a.k, .string a.s, .int .i64 a.n, .slice a.p a.kids.len a.c, .int .u8 b.k, .string b.s, .int .i64 b.n, .slice b.p b.kids.len b.c] 165) := ⟨_, rfl⟩
  rw [← hW1] at HD
  have Z1 := Lib.hid hW1
  have I0 : Hid (LHead KB S σ n m L w (w.heap.size + 1) wa.heap.size a b bo σ n m W1) := HD
  clear hW1 M0 HD UU
  go_upto_block 0 with fail
  rw [← Z1.out]
  go_step
  go_loopw [9, 10] (fun s9 s10 wr => ∃ (NB : Nat) (a b : Nd) (bo : Bool) (σp : Sb) (n' m' : Nat), s9 = .pointer (some ⟨NB, 0, none⟩) ∧ s10 = .bool bo ∧ Hid (LHead KB S σ n m L w (w.heap.size + 1) NB a b bo σp n' m' wr)) (fun _ _ wr => visFar KB wr)
  case atStart =>
    exact ⟨_, a, b, bo, σ, n, m, rfl, rfl, I0⟩
  case round =>
    clear I0 Z1
    obtain ⟨NB, a, b, bo, σp, n', m', rfl, rfl, H⟩ := hrel
    rename World => wr
    cases bo with
    | false =>
      obtain ⟨HF, HA⟩ := H.out.no rfl
      have UL := Lib.hid (UList.mk_ok HF HA)
      clear HF HA
      go_wp2
      go_ret
      exact UL.out
    | true =>
      obtain ⟨v, st, M, A, B, hv⟩ := H.out.yes rfl
      have MM := Lib.hid M
      have AA := Lib.hid A
      have BB := Lib.hid B
      have HV := Lib.hid hv
      have c0 := H.out.bx.c0
      have c1 := H.out.bx.c1
      have c2 := H.out.bx.c2
      have c3 := H.out.bx.c3
      have c4 := H.out.bx.c4
      have c5 := H.out.bx.c5
      have c6 := H.out.bx.c6
      have c7 := H.out.bx.c7
      have hm' := M.f.m_
      have hn' := M.f.n_
      have hwr := M.f.g.size
      have hsl := M.sl
      clear M A B hv
      go_upto_block 1 with fail
      go_cut [11, 12] from 23 to 52 (fun _ _ wx => ∃ (v : Value) (st : List (Ent × Ent)) (σp : Sb) (n' m2 : Nat), m' < m2 ∧ Hid (LMid KB S σ n m L w (w.heap.size + 1) v st (pairsOf st) σp n' m2 wx) ∧ Hid (PairIs NB a b wx) ∧ Hid (v.ownBlock ≠ some NB))
      case first =>
        by_cases hful : m' = 4096
        · have HM := Lib.hid hful
          clear hful c0 c1 c2 c3 c4 c5 c6 c7
          have c0 := H.out.bx.c0
          have c1 := H.out.bx.c1
          have c2 := H.out.bx.c2
          have c3 := H.out.bx.c3
          have c4 := H.out.bx.c4
          have c5 := H.out.bx.c5
          have c6 := H.out.bx.c6
          have c7 := H.out.bx.c7
          go_wp2_with fail
          refine (uone_full KB S σp n' m' wr H.out.uu HM.out a b).mono ?_
          rintro e wc ⟨rfl, hg⟩
          have UL : Hid (UList KB S σ n m w L (.panicked fullP) wc) := Lib.hid (by have h := MM.out; rw [HM.out] at h; exact h.step_full hg)
          clear hg
          go_wp2
          exact ⟨rfl, UL.out⟩
        · have hm4 : m' < 4096 := by omega
          clear hful
          go_wp2_with fail
          refine (uone_any KB S σp n' m' wr H.out.uu hm4 (by omega) (fun b => v.ownBlock ≠ some b) (fun x hx e => by have := (MM.out.l.own_lt e).2; omega) a b AA.out.1 BB.out.1 AA.out.2.1 BB.out.2.1 AA.out.2.2 BB.out.2.2).mono ?_
          intro e wc hO
          have HO := Lib.hid hO
          clear hO c0 c1 c2 c3 c4 c5 c6 c7
          rcases MM.out.step hm4 HO.out with ⟨rfl, hU⟩ | ⟨X, Y, rfl, hU⟩ | ⟨X, Y, σq, n2, m2, rfl, hm2, hg, M2, hlen, hX, hY⟩
          · have UL := Lib.hid hU
            clear hU HO
            go_wp2
            exact ⟨rfl, UL.out⟩
          · have UL := Lib.hid hU
            clear hU HO
            unfold pairV
            go_wp2
            go_ret
            exact UL.out.no_below ((Below.refl _ _).alloc (Nat.le_refl _) _)
          · have BXC := Lib.hid (H.out.bx.of_block (hg.block NB H.out.bx.lt (by have := H.out.far.1; omega) (by have := H.out.far.1; omega)))
            have XX := Lib.hid hX
            have YY := Lib.hid hY
            have HL2 := Lib.hid hlen
            have M3 := Lib.hid M2
            have hXl : X.kids.len ≤ 5000 := Nat.le_trans (Ts.len_size _) hX.2.2.2.2
            have hsc : wr.heap.size ≤ wc.heap.size := hg.size
            have hst2 := M2.sl
            obtain ⟨pv, cv, hpv⟩ : ∃ (p : Option Addr) (c : Nat), v = .slice p st.length c := by
              rcases ownsRow2 M2.l.row with ⟨rfl, h0⟩ | ⟨g, c, rfl, _⟩
              · exact ⟨none, 0, by rw [h0]⟩
              · exact ⟨_, _, rfl⟩
            subst hpv
            clear hX hY hlen M2 hg HO
            unfold pairV
            obtain ⟨W5, hW5⟩ : ∃ W5, W5 = wc.alloc (.cells #[.int .u8 X.k, .string X.s, .int .i64 X.n, .slice X.p X.kids.len X.c, .int .u8 Y.k, .string Y.s, .int .i64 Y.n, .slice Y.p Y.kids.len Y.c] 165) := ⟨_, rfl⟩
            have hB5 : Below wc.heap.size wc W5 := by rw [hW5]; exact (Below.refl _ _).alloc (Nat.le_refl _) _
            have PX : PairIs wc.heap.size X Y W5 := by rw [hW5]; exact PairIs.new wc X Y _
            have hs5 : W5.heap.size = wc.heap.size + 1 := by rw [hW5]; simp
            have x3 := PX.c3
            have x7 := PX.c7
            have M5 := Lib.hid (M3.out.below hB5)
            have B5 := Lib.hid hB5
            have cl := cell_of_one M5.out.l.box
            have fl := free_of_one M5.out.l.box
            have hLl : w.heap.size + 1 < wc.heap.size := lt_of_block M3.out.l.box
            have hT : wc.heap.size < W5.heap.size := by omega
            have hw5 : w.heap.size + 1 < W5.heap.size := by omega
            have hnb5 : NB < W5.heap.size := Nat.lt_of_lt_of_le BXC.out.lt hB5.size
            have Z5 := Lib.hid hW5
            have HS5 := Lib.hid hs5
            obtain ⟨T, hT0⟩ : ∃ T, T = wc.heap.size := ⟨_, rfl⟩
            have HT := Lib.hid hT0
            rw [← hT0] at x3 x7 hT
            clear hB5 PX hW5 hs5 hT0
            go_upto_region 9 with fail
            rw [← Z5.out, ← HT.out]
            by_cases h0 : 0 < X.kids.len
            · have h0' : (0 : Int) < (X.kids.len : Int) := by omega
              have hsl3 : st.length ≤ m2 := by omega
              have hm3 := M3.out.f.m_
              obtain ⟨i0, hi, hz0, hz1, hz2⟩ := info_parts infoRest
              go_wp2_with (at_builtin; refine wpList_append_own_at _ rfl _ _ 163 rfl w.heap.size 162 i0 (.agg #[.slice none 0 0, .slice none 0 0]) 2 48 Tryz.underlying163 hi hz0 hz1 hz2 rfl (by decide) _ _ _ rfl (M5.out.l.row.alloc _) ⟨W5.heap.size, 0, none⟩ 1 1 [.slice X.p X.kids.len X.c, .slice Y.p Y.kids.len Y.c] rfl rfl (cell_two_new _ _ _ _) (by simp [Value.oneCell']) (by unfold maxLen; omega) (by omega) (by simp; omega) ?_; intro v' w8 hown' hgrow hnil hob; obtain ⟨g8, c8, rfl⟩ := _root_.Go.Joins.ownsRow_form hown' (Nat.succ_pos _); have X8 := Lib.hid (And.intro hown' (And.intro hgrow hob)); have bl8 := ((hgrow.block (w.heap.size + 1) (by simp; omega) (fun e => M5.out.l.base_.1 e.symm)).trans (((Below.refl _ _).alloc (Nat.le_refl _) _ : Below W5.heap.size W5 (W5.alloc _)).block _ (by omega) |>.trans M5.out.l.box)); have fl8 := free_of_one bl8; have cl8 := cell_of_one bl8; clear bl8; clear hown' hgrow hnil hob)
              go_meet
              have hrow8 := X8.out.1
              have hgr8 := X8.out.2.1
              have hob8 := X8.out.2.2
              have hB6 : Below wc.heap.size wc (W5.alloc (.cells #[.slice X.p X.kids.len X.c, .slice Y.p Y.kids.len Y.c] 162)) := B5.out.trans ((Below.refl _ _).alloc B5.out.size _)
              refine ⟨_, _, σq, n2, m2, hm2, Lib.hid (M3.out.push HL2.out XX.out YY.out hsl3 hB6 hgr8 hrow8 hob8), Lib.hid (BXC.out.of_block ?_), Lib.hid ?_⟩
              · exact ((grown_set w8 (w.heap.size + 1) 0 _).block NB (Nat.lt_of_lt_of_le (Nat.lt_of_lt_of_le BXC.out.lt hB6.size) hgr8.size) (fun e => H.out.far.2 (by cases e; rfl))).trans ((hgr8.block NB (Nat.lt_of_lt_of_le BXC.out.lt hB6.size) (fun e => HV.out e.symm)).trans (hB6.block NB BXC.out.lt))
              · rcases hob8 with e | e
                · rw [e]; exact HV.out
                · rw [e, World.size_alloc]; intro e2; injection e2 with e2; omega
            · have hxn : X.kids = .nil := Ts.len_zero (by omega)
              have XN := Lib.hid hxn
              have h0' : ¬ (0 : Int) < (X.kids.len : Int) := by omega
              clear hxn
              go_wp2_with fail
              go_meet
              refine ⟨_, st, σq, n2, m2, hm2, Lib.hid ?_, Lib.hid (BXC.out.below B5.out), HV⟩
              have h := M5.out
              rw [XN.out] at h
              exact h
      case rest =>
        clear MM AA BB HV c0 c1 c2 c3 c4 c5 c6 c7 hsl hn' hwr
        obtain ⟨v, st, σp, n', m2, hm2, MM, BX, HV⟩ := hcut
        have c0 := BX.out.c0
        have c1 := BX.out.c1
        have c2 := BX.out.c2
        have c3 := BX.out.c3
        have c4 := BX.out.c4
        have c5 := BX.out.c5
        have c6 := BX.out.c6
        have c7 := BX.out.c7
        obtain ⟨W7, hW7⟩ : ∃ W7, W7 = wc.alloc (.cells #[.int .u8 a.k, .string a.s, .int .i64 a.n, .slice a.p a.kids.len a.c, .int .u8 b.k, .string b.s, .int .i64 b.n, .slice b.p b.kids.len b.c] 165) := ⟨_, rfl⟩
        have hB7 : Below wc.heap.size wc W7 := by rw [hW7]; exact (Below.refl _ _).alloc (Nat.le_refl _) _
        have B7 := Lib.hid hB7
        have PX : Hid (PairIs wc.heap.size a b W7) := Lib.hid (by rw [hW7]; exact PairIs.new wc a b _)
        have Z7 := Lib.hid hW7
        have hm2' := MM.out.f.m_
        have hst2 := MM.out.sl
        clear hW7 hB7
        go_upto_region 5 with fail
        rw [← Z7.out]
        clear c0 c1 c2 c3 c4 c5 c6 c7
        go_wp2_with fail
        obtain ⟨LX, EX⟩ := MM.out.ents B7.out
        refine (next_any w.heap.size (w.heap.size + 1) wc.heap.size v st W7 LX (by omega) B7.out.size EX).mono ?_
        clear LX EX
        intro e wd hN
        obtain ⟨a2, b2, bo2, rfl, hH⟩ := MM.out.head B7.out hN (NB := wc.heap.size) (Nat.le_refl _)
        have PD := Lib.hid (PX.out.of_block (hN.1.block wc.heap.size PX.out.lt (by have := lt_of_block MM.out.l.box; omega) (fun e => by have := (MM.out.l.own_lt e).2; omega)))
        have HD := Lib.hid (hH (putP wd wc.heap.size a2 b2) (.of_K (putP_grown _ _ _ _)) PD.out.put)
        clear hN hH
        have c0 := PD.out.c0
        have c1 := PD.out.c1
        have c2 := PD.out.c2
        have c3 := PD.out.c3
        have c4 := PD.out.c4
        have c5 := PD.out.c5
        have c6 := PD.out.c6
        have c7 := PD.out.c7
        have cf := PD.out.fr
        unfold pairV
        go_wp2_with fail
        refine ⟨⟨wc.heap.size, a2, b2, bo2, σp, n', m2, rfl, rfl, HD⟩, ?_⟩
        have hf : visFar KB (putP wd wc.heap.size a2 b2) < visFar KB wr := by
          rw [HD.out.uu.far, H.out.uu.far]
          omega
        exact hf

end Go.Proofs.YtnmhnaanpjlniaaGreat
/-
  Layer 4: what is recovered.
-/
namespace Go.Proofs.YtnmhnaanpjlniaaGreat
open Go.RowKit

theorem caught_full (b0 b1 b2 : Nat) (x0 x1 x2 : Value) (w : World) (h0 : w.cell? ⟨b0, 0, none⟩ = some x0) (h1 : w.cell? ⟨b1, 0, none⟩ = some x1) (h2 : w.cell? ⟨b2, 0, none⟩ = some x2) (f0 : w.frozen? ⟨b0, 0, none⟩ = false) (f1 : w.frozen? ⟨b1, 0, none⟩ = false) (f2 : w.frozen? ⟨b2, 0, none⟩ = false) (h01 : b1 ≠ b0) (h02 : b2 ≠ b0) (h12 : b2 ≠ b1) :
    CallsD Tryz.prog 126 #[.pointer (some ⟨b0, 0, none⟩), .pointer (some ⟨b1, 0, none⟩), .pointer (some ⟨b2, 0, none⟩)] (.panicking fullP) w fun e u' w' =>
      e = .returned (.tuple #[]) ∧ u' = .panicking [{ v := .iface 176 (.agg #[]), recovered := true }] ∧ w' = ((w.setCell ⟨b0, 0, none⟩ (.pointer none)).setCell ⟨b1, 0, none⟩ (.bool false)).setCell ⟨b2, 0, none⟩ (.int .i64 31) := by
  refine callsD_of_wpS Tryz.func126 rfl fun c₀ cs hu => ?_
  unfold fullP at hu
  apply wpS_seq
  apply wpS_region
  simp [wpOpsS, go_sem, recoverD, hu, Tryz.ntmps126, Exit.thenS]
  refine wpS_cond (t := true) (by simp [Act.eval, Array.replicate]) ?_
  simp only [if_true]
  apply wpS_region
  simp [wpOpsS, go_sem, h0, h1, h2, f0, f1, f2, bodyPostS, results, Tryz.results126]

theorem caught_idle (b0 b1 b2 : Nat) (w : World) :
    CallsD Tryz.prog 126 #[.pointer (some ⟨b0, 0, none⟩), .pointer (some ⟨b1, 0, none⟩), .pointer (some ⟨b2, 0, none⟩)] .returning w fun e u' w' => e = .returned (.tuple #[]) ∧ u' = .returning ∧ w' = w := by
  refine callsD_of_wpS Tryz.func126 rfl fun c₀ cs hu => ?_
  apply wpS_seq
  apply wpS_region
  simp [wpOpsS, go_sem, recoverD, hu, Tryz.ntmps126, Exit.thenS]
  refine wpS_cond (t := false) (by simp [Act.eval, Array.replicate]) ?_
  simp only [Bool.false_eq_true, if_false]
  refine wpS_of_wp (wp_skip ?_)
  cases c₀
  simp_all [bodyPostS, results, Tryz.results126]

end Go.Proofs.YtnmhnaanpjlniaaGreat
