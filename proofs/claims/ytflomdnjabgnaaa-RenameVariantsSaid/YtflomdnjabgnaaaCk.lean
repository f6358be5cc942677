import Derived.Test.YtflomdnjabgnaaaCi
/-
  Layer 4: what stands while pairs are unified one behind the other.
-/
namespace Go.Proofs.Ytflomdnjabgnaaa
open Go.RowKit

theorem STw.trans {a b c : Sb} (h : STw a b) (k : STw b c) : STw a c := by
  refine ⟨fun u hu => k.no u (h.no u hu), fun u y hy => ?_⟩
  obtain ⟨t, h1, h2⟩ := h.yes u y hy
  obtain ⟨t2, h3, h4⟩ := k.yes u t h1
  exact ⟨t2, h3, Nd.twin_trans h2 h4⟩

theorem Out.tw_trans {a b c : Out} (h : a.tw b) (k : b.tw c) : a.tw c := by
  cases a <;> cases b <;> cases c <;> first | trivial | exact h.elim | exact k.elim | exact ⟨h.1.trans k.1, h.2.1.trans k.2.1, h.2.2.trans k.2.2⟩

theorem Out.tw_refl : ∀ a : Out, a.tw a
  | .full => trivial
  | .no => trivial
  | .ok σ _ _ => ⟨STw.refl σ, rfl, rfl⟩

theorem Out.tw_full {o : Out} (h : Out.full.tw o) : o = .full := by cases o <;> first | rfl | exact h.elim
theorem Out.tw_no {o : Out} (h : Out.no.tw o) : o = .no := by cases o <;> first | rfl | exact h.elim
theorem Out.tw_ok {o : Out} {σ : Sb} {c r : Nat} (h : (Out.ok σ c r).tw o) : ∃ ρ, o = .ok ρ c r ∧ STw σ ρ := by
  cases o with
  | full => exact h.elim
  | no => exact h.elim
  | ok ρ c' r' => obtain ⟨h1, rfl, rfl⟩ := h; exact ⟨ρ, rfl, h1⟩

theorem one_count {r c : Nat} {σ : Sb} {a b : Nd} {σ' : Sb} {c' r' : Nat} {l : List (Nd × Nd)} (h : one r c σ a b = .ok σ' c' r' l) : c' ≤ c + 1 := by
  unfold one at h
  split at h
  · split at h
    · cases h; omega
    · split at h
      · cases h
      · cases h
      · cases h; exact Nat.le_refl _
  · split at h
    · split at h
      · cases h
      · cases h
      · cases h; exact Nat.le_refl _
    · split at h
      · cases h; omega
      · cases h

theorem liesP_rg {P : Nat → Prop} {LB : Nat} {v : Value} {w w' : World} (hr : RG LB v w w') (hL : Tiny LB w) (hP : ∀ b, P b → v.ownBlock ≠ some b) : ∀ (ts : Ts) {b o : Nat}, ts.liesP P w b o → ts.liesP P w' b o
  | .nil, _, _, _ => trivial
  | .cons k s n p c kids rest, b, o, ⟨hp, h0, h1, h2, h3, ⟨b', o', h4, h5⟩, h6⟩ => by
    have e := fun y => World.cell?_of_block (a := ⟨b, y, none⟩) (hr.block b (World.block_lt_of_cell? _ _ h0) (hL.ne h3) (hP b hp))
    exact ⟨hp, (e _).trans h0, (e _).trans h1, (e _).trans h2, (e _).trans h3, ⟨b', o', h4, liesP_rg hr hL hP kids h5⟩, liesP_rg hr hL hP rest h6⟩
theorem AtP_rg {P : Nat → Prop} {LB : Nat} {v : Value} {w w' : World} (hr : RG LB v w w') (hL : Tiny LB w) (hP : ∀ b, P b → v.ownBlock ≠ some b) {p : Option Addr} {ts : Ts} (h : Ts.AtP P w p ts) : Ts.AtP P w' p ts := by
  obtain ⟨b, o, h1, h2⟩ := h
  exact ⟨b, o, h1, liesP_rg hr hL hP ts h2⟩

theorem LSt.tiny {base LB : Nat} {v : Value} {st : List (Ent × Ent)} {w : World} (h : LSt base LB v st w) : Tiny LB w := ⟨_, _, _, h.box, by simp⟩

theorem own_at {w : World} {base n size : Nat} {e : TypeId} {v : Value} {xs : List Value} (h : w.ownsRow base e size v n xs) {g : Nat} (hg : v.ownBlock = some g) : base ≤ g ∧ ∃ cur, w.heap[g]? = some (.cells cur e (0, 0)) := by
  rcases h.2 with ⟨h1, _⟩ | ⟨g', c, cur, h1, h2, h3, _⟩
  · rw [h1] at hg; cases hg
  · rw [h1] at hg
    simp only [Value.ownBlock, Option.some.injEq] at hg
    subst hg
    exact ⟨h2, cur, h3⟩

theorem own_keep {w w' : World} {base n size : Nat} {e : TypeId} {v : Value} {xs : List Value} (h : w.ownsRow base e size v n xs) (hg : ∀ g, v.ownBlock = some g → w'.heap[g]? = w.heap[g]?) : w'.ownsRow base e size v n xs := by
  refine ⟨h.1, ?_⟩
  rcases h.2 with h1 | ⟨g', c, cur, h1, h2, h3, h4⟩
  · exact .inl h1
  · exact .inr ⟨g', c, cur, h1, h2, (hg g' (by rw [h1]; rfl)).trans h3, h4⟩

theorem LSt.own_lt {base LB : Nat} {v : Value} {st : List (Ent × Ent)} {w : World} (h : LSt base LB v st w) {g : Nat} (hg : v.ownBlock = some g) : base ≤ g ∧ g < w.heap.size := by
  obtain ⟨h1, cur, h2⟩ := own_at h.row hg
  exact ⟨h1, (Array.getElem?_eq_some_iff.1 h2).1⟩

/-- a substitution lives on while the lists that are left turn -/
theorem SubAt.rg {S base LB : Nat} {σ : Sb} {n : Nat} {v : Value} {st : List (Ent × Ent)} {w w' : World} (h : SubAt S σ n w) (hr : RG LB v w w') (hl : LSt base LB v st w) (hS : S ≠ LB ∧ v.ownBlock ≠ some S) (hat : ∀ x t, σ x = some t → Ts.AtP (fun b => v.ownBlock ≠ some b) w t.p t.kids) : SubAt S σ n w' := by
  obtain ⟨p, hh, h1, h3, h4, h5⟩ := h.cells
  refine ⟨⟨p, hh, (hr.block S h.lt hS.1 hS.2).trans h1, h3, h4.stay (Nat.le_refl _) (fun b hb => ?_), h5⟩, h.ends, fun x t hx => ⟨AtP_at (AtP_rg hr hl.tiny (fun _ h => h) (hat x t hx)), (h.at_ x t hx).2⟩⟩
  have hx := hl.box
  refine hr.block b (by rcases hb with ⟨_, _, hb⟩ | ⟨_, _, hb⟩ <;> exact (Array.getElem?_eq_some_iff.1 hb).1) (fun e => ?_) (fun e => ?_)
  · subst e
    rcases hb with ⟨ks, u, hb⟩ | ⟨es, k, hb⟩
    · rw [hx] at hb; injection hb with hb; injection hb with _ e2 _; exact absurd e2 (by decide)
    · rw [hx] at hb; cases hb
  · obtain ⟨_, cur, hc⟩ := own_at hl.row e
    rcases hb with ⟨ks, u, hb⟩ | ⟨es, k, hb⟩
    · rw [hc] at hb; injection hb with hb; injection hb with _ e2 _; exact absurd e2 (by decide)
    · rw [hc] at hb; cases hb

/-- what has been reached -/
structure LFin (KB S : Nat) (σ : Sb) (n m : Nat) (L : List (Nd × Nd)) (w : World) (L' : List (Nd × Nd)) (σp : Sb) (n' m' : Nat) (wr : World) : Prop where
  u : UAt KB S σp n' m' wr
  un_ : (un (4096 - m') n' σp L').tw (un (4096 - m) n σ L)
  m_ : m' ≤ 4096
  n_ : n' ≤ n + m'
  g : G2 KB S w wr
  ks : KB < w.heap.size ∧ S < w.heap.size

/-- and the lists that are left -/
structure LMid (KB S : Nat) (σ : Sb) (n m : Nat) (L : List (Nd × Nd)) (w : World) (LB : Nat) (v : Value) (st : List (Ent × Ent)) (L' : List (Nd × Nd)) (σp : Sb) (n' m' : Nat) (wr : World) : Prop where
  l : LSt w.heap.size LB v st wr
  lb : w.heap.size ≤ LB
  f : LFin KB S σ n m L w L' σp n' m' wr
  sl : st.length ≤ m' + 1
  ap : ∀ x t, σp x = some t → (σ x = some t ∧ Ts.AtP (fun b => b < w.heap.size) wr t.p t.kids) ∨ Ts.AtP (fun b => w.heap.size ≤ b ∧ v.ownBlock ≠ some b) wr t.p t.kids

section
variable {KB S : Nat} {σ : Sb} {n m : Nat} {L : List (Nd × Nd)} {w : World} {LB : Nat} {v : Value} {st : List (Ent × Ent)} {L' : List (Nd × Nd)} {σp : Sb} {n' m' : Nat} {wr : World}

theorem LMid.old_own (h : LMid KB S σ n m L w LB v st L' σp n' m' wr) {b : Nat} (hb : b < w.heap.size) : v.ownBlock ≠ some b := fun e => by
  have := (h.l.own_lt e).1
  omega

theorem LMid.apart (h : LMid KB S σ n m L w LB v st L' σp n' m' wr) : ∀ x t, σp x = some t → Ts.AtP (fun b => v.ownBlock ≠ some b) wr t.p t.kids := fun x t hx => by
  rcases h.ap x t hx with ⟨_, h1⟩ | h1
  · exact AtP_imp (fun b _ hb => h.old_own hb) h1
  · exact AtP_imp (fun b _ hb => hb.2) h1

theorem LMid.uat_rg (h : LMid KB S σ n m L w LB v st L' σp n' m' wr) {w' : World} (hr : RG LB v wr w') : UAt KB S σp n' m' w' := by
  have h1 := h.f.ks
  have h2 := h.lb
  exact ⟨(hr.block KB h.f.u.lt (by omega) (h.old_own h1.1)).trans h.f.u.cell, h.f.u.sub.rg hr h.l ⟨by omega, h.old_own h1.2⟩ h.apart, h.f.u.ne⟩

theorem LMid.g_rg (h : LMid KB S σ n m L w LB v st L' σp n' m' wr) {w' : World} (hr : RG LB v wr w') : G2 KB S w w' :=
  ⟨hr.os.trans h.f.g.os, hr.tape.trans h.f.g.tape, hr.output.trans h.f.g.output, Nat.le_trans h.f.g.size hr.size, fun k hk h1 h2 => (hr.block k (Nat.lt_of_lt_of_le hk h.f.g.size) (by have := h.lb; omega) (h.old_own hk)).trans (h.f.g.block k hk h1 h2)⟩

theorem LMid.ap_rg (h : LMid KB S σ n m L w LB v st L' σp n' m' wr) {w' : World} (hr : RG LB v wr w') : ∀ x t, σp x = some t → (σ x = some t ∧ Ts.AtP (fun b => b < w.heap.size) w' t.p t.kids) ∨ Ts.AtP (fun b => w.heap.size ≤ b ∧ v.ownBlock ≠ some b) w' t.p t.kids := fun x t hx => by
  rcases h.ap x t hx with ⟨h1, h2⟩ | h2
  · exact .inl ⟨h1, AtP_rg hr h.l.tiny (fun b hb => h.old_own hb) h2⟩
  · exact .inr (AtP_rg hr h.l.tiny (fun b hb => hb.2) h2)

/-- a world with more in it, but nothing else -/
theorem LMid.below (h : LMid KB S σ n m L w LB v st L' σp n' m' wr) {w' : World} (hB : Below wr.heap.size wr w') : LMid KB S σ n m L w LB v st L' σp n' m' w' :=
  ⟨⟨(hB.block _ (lt_of_block h.l.box)).trans h.l.box, own_below h.l.row hB, fun e he => by
    obtain ⟨h1, h2, h3⟩ := h.l.ents e he
    exact ⟨h1, h2.imp (fun b _ hb => hB.block b hb) (fun b hb _ => hb), h3.imp (fun b _ hb => hB.block b hb) (fun b hb _ => hb)⟩, ⟨h.l.base_.1, Nat.le_trans h.l.base_.2 hB.size⟩⟩, h.lb, ⟨h.f.u.below hB, h.f.un_, h.f.m_, h.f.n_, h.f.g.trans (.of_below hB), h.f.ks⟩, h.sl, fun x t hx => by
    rcases h.ap x t hx with ⟨h1, h2⟩ | h2
    · exact .inl ⟨h1, h2.stay fun b _ hb => hB.block b hb⟩
    · exact .inr (h2.stay fun b _ hb => hB.block b hb)⟩

/-- two lists are put behind the others -/
theorem LMid.push {X Y : Nd} (h : LMid KB S σ n m L w LB v st ((elems X.kids).zip (elems Y.kids) ++ pairsOf st) σp n' m' wr) (hlen : X.kids.len = Y.kids.len)
    (hX : Ts.AtP (fun b => v.ownBlock ≠ some b) wr X.p X.kids ∧ X.kids.ok ∧ (X.kids.len ≤ X.c ∧ X.c ≤ 9223372036854775807) ∧ (X.p = none → X.c = 0) ∧ X.kids.size ≤ 5000) (hY : Ts.AtP (fun b => v.ownBlock ≠ some b) wr Y.p Y.kids ∧ Y.kids.ok ∧ (Y.kids.len ≤ Y.c ∧ Y.c ≤ 9223372036854775807) ∧ (Y.p = none → Y.c = 0) ∧ Y.kids.size ≤ 5000)
    (hst : st.length ≤ m') {w6 w8 : World} (hB : Below wr.heap.size wr w6) (hg : w6.grownBy w8 v.ownBlock) {v' : Value} (hrow : w8.ownsRow w.heap.size 110 2 v' (st.length + 1) (cellsRE st.reverse ++ [.slice X.p X.kids.len X.c, .slice Y.p Y.kids.len Y.c])) (hob : v'.ownBlock = v.ownBlock ∨ v'.ownBlock = some w6.heap.size) :
    LMid KB S σ n m L w LB v' ((⟨X.p, X.kids, X.c⟩, ⟨Y.p, Y.kids, Y.c⟩) :: st) (pairsOf ((⟨X.p, X.kids, X.c⟩, ⟨Y.p, Y.kids, Y.c⟩) :: st)) σp n' m' (w8.setCell ⟨LB, 0, none⟩ v') := by
  have hLl := lt_of_block h.l.box
  have hwr := h.f.g.size
  have hs6 := hB.size
  have hov : ∀ b, b < wr.heap.size → v.ownBlock ≠ some b → v'.ownBlock ≠ some b := fun b hb hne e => by
    rcases hob with h1 | h1
    · rw [h1] at e; exact hne e
    · rw [h1] at e; injection e with e; omega
  have hov2 : v'.ownBlock ≠ some LB := hov LB hLl h.l.base_.1
  have hgs := grown_set w8 LB 0 v'
  have hR : RG LB v wr (w8.setCell ⟨LB, 0, none⟩ v') := ⟨hgs.os.trans (hg.os.trans hB.os), hgs.tape.trans (hg.tape.trans hB.tape), hgs.output.trans (hg.output.trans hB.output), Nat.le_trans hB.size (Nat.le_trans hg.size hgs.size), fun k hk h1 h2 =>
    (hgs.block k (Nat.lt_of_lt_of_le hk (Nat.le_trans hB.size hg.size)) (fun e => h1 (by cases e; rfl))).trans ((hg.block k (Nat.lt_of_lt_of_le hk hB.size) (fun e => h2 e.symm)).trans (hB.block k hk))⟩
  have imp : ∀ {p : Option Addr} {ts : Ts}, Ts.AtP (fun b => v.ownBlock ≠ some b) wr p ts → Ts.AtP (fun b => v'.ownBlock ≠ some b) (w8.setCell ⟨LB, 0, none⟩ v') p ts := fun hx =>
    AtP_imp (fun b _ hb => hov b hb.2 hb.1) (AtP_rg hR h.l.tiny (fun b hb => hb.1) (AtP_imp (fun b hl hb => ⟨hb, hl⟩) hx : Ts.AtP (fun b => v.ownBlock ≠ some b ∧ b < wr.heap.size) wr _ _))
  refine ⟨⟨?_, ?_, fun e he => ?_, ⟨hov2, Nat.le_trans hwr hR.size⟩⟩, h.lb, ⟨h.uat_rg hR, by simpa [pairsOf] using h.f.un_, h.f.m_, h.f.n_, h.g_rg hR, h.f.ks⟩, by simpa using hst, fun x t hx => ?_⟩
  · exact one_setCell ((hg.block LB (Nat.lt_of_lt_of_le hLl hB.size) (fun e => h.l.base_.1 e.symm)).trans ((hB.block LB hLl).trans h.l.box))
  · have h5 := ownsRow_setCell_other hrow (a := ⟨LB, 0, none⟩) hov2 v'
    simpa [cellsRE_app, cellsRE, Ent.val] using h5
  · rcases List.mem_cons.1 he with rfl | he
    · exact ⟨hlen, ⟨hX.2.2.1, hX.2.1, imp hX.1, fun x hx => Nat.le_trans (Nat.le_of_lt (elems_small hx)) hX.2.2.2.2⟩, ⟨hY.2.2.1, hY.2.1, imp hY.1, fun x hx => Nat.le_trans (Nat.le_of_lt (elems_small hx)) hY.2.2.2.2⟩⟩
    · obtain ⟨g1, g2, g3⟩ := h.l.ents e he
      exact ⟨g1, ⟨g2.cap, g2.ok, imp g2.at_, g2.sz⟩, ⟨g3.cap, g3.ok, imp g3.at_, g3.sz⟩⟩
  · rcases h.ap x t hx with ⟨g1, g2⟩ | g2
    · exact .inl ⟨g1, AtP_rg hR h.l.tiny (fun b hb => h.old_own hb) g2⟩
    · exact .inr (AtP_imp (fun b _ hb => ⟨hb.1.1, hov b hb.2 hb.1.2⟩) (AtP_rg hR h.l.tiny (fun b hb => hb.1.2) (AtP_imp (fun b hl hb => ⟨hb, hl⟩) g2 : Ts.AtP (fun b => (w.heap.size ≤ b ∧ v.ownBlock ≠ some b) ∧ b < wr.heap.size) wr _ _)))

/-- a node that is to be unified -/
def NdOk (v : Value) (a : Nd) (w : World) : Prop := a.ok ∧ Ts.AtP (fun b => v.ownBlock ≠ some b) w a.p a.kids ∧ a.kids.size ≤ 5000

/-- ahead of a round -/
structure LHead (KB S : Nat) (σ : Sb) (n m : Nat) (L : List (Nd × Nd)) (w : World) (LB : Nat) (NB : Nat) (a b : Nd) (bo : Bool) (σp : Sb) (n' m' : Nat) (wr : World) : Prop where
  bx : PairIs NB a b wr
  no : bo = false → LFin KB S σ n m L w [] σp n' m' wr ∧ ∀ x t, σp x = some t → σ x = some t ∨ Ts.AtP (fun b => w.heap.size ≤ b) wr t.p t.kids
  yes : bo = true → ∃ v st, LMid KB S σ n m L w LB v st ((a, b) :: pairsOf st) σp n' m' wr ∧ NdOk v a wr ∧ NdOk v b wr ∧ v.ownBlock ≠ some NB
  far : w.heap.size ≤ NB ∧ NB ≠ LB
  uu : UAt KB S σp n' m' wr

/-- the next pair, if there is one, put into a box -/
theorem LMid.head (h : LMid KB S σ n m L w LB v st (pairsOf st) σp n' m' wr) {w1 : World} (hB : Below wr.heap.size wr w1) {e : Ending} {w' : World} (hn : NextOut w.heap.size LB wr.heap.size v st w1 e w') {NB : Nat} (hNB : wr.heap.size ≤ NB) :
    ∃ a b bo, e = .returned (.tuple #[pairV a b, .bool bo]) ∧ ∀ w2, G2 NB NB w' w2 → PairIs NB a b w2 → LHead KB S σ n m L w LB NB a b bo σp n' m' w2 := by
  have hLl := lt_of_block h.l.box
  have hfs := h.f.g.size
  obtain ⟨hr, hn⟩ := hn
  have RGX : ∀ w2, G2 NB NB w' w2 → RG LB v wr w2 := fun w2 hg => ⟨hg.os.trans (hr.os.trans hB.os), hg.tape.trans (hr.tape.trans hB.tape), hg.output.trans (hr.output.trans hB.output), Nat.le_trans hB.size (Nat.le_trans hr.size hg.size), fun k hk h1 h2 =>
    (hg.block k (Nat.lt_of_lt_of_le hk (Nat.le_trans hB.size hr.size)) (by omega) (by omega)).trans ((hr.block k (Nat.lt_of_lt_of_le hk hB.size) h1 h2).trans (hB.block k hk))⟩
  rcases hn with ⟨h1, rfl⟩ | ⟨a, b, st', v', h1, h2, rfl, h4, h5, h8, h6, h7⟩
  · refine ⟨zeroN, zeroN, false, rfl, fun w2 hg hP => ⟨hP, fun _ => ⟨⟨h.uat_rg (RGX w2 hg), by rw [← h1]; exact h.f.un_, h.f.m_, h.f.n_, h.g_rg (RGX w2 hg), h.f.ks⟩, fun x t hx => ?_⟩, (fun e => by cases e), ⟨by omega, by omega⟩, h.uat_rg (RGX w2 hg)⟩⟩
    rcases h.ap_rg (RGX w2 hg) x t hx with ⟨g1, _⟩ | g1
    · exact .inl g1
    · exact .inr (AtP_imp (fun b _ hb => hb.1) g1)
  · refine ⟨a, b, true, rfl, fun w2 hg hP => ⟨hP, (fun e => by cases e), fun _ => ⟨v', st', ⟨⟨?_, ?_, ?_, ?_⟩, h.lb, ⟨h.uat_rg (RGX w2 hg), by rw [← h1]; exact h.f.un_, h.f.m_, h.f.n_, h.g_rg (RGX w2 hg), h.f.ks⟩, Nat.le_trans h2 h.sl, by rw [h5]; exact h.ap_rg (RGX w2 hg)⟩, ?_, ?_, ?_⟩, ⟨by omega, by omega⟩, h.uat_rg (RGX w2 hg)⟩⟩
    all_goals
      have far : ∀ k, k < wr.heap.size → w2.heap[k]? = w'.heap[k]? := fun k hk => hg.block k (Nat.lt_of_lt_of_le hk (Nat.le_trans hB.size hr.size)) (by omega) (by omega)
      have imp : ∀ {p : Option Addr} {ts : Ts}, Ts.AtP (fun b => v.ownBlock ≠ some b ∧ b < wr.heap.size) w' p ts → Ts.AtP (fun b => v'.ownBlock ≠ some b) w2 p ts := fun h =>
        AtP_imp (fun b _ hb => by rw [h5]; exact hb.1) (h.stay fun b hb _ => far b hb.2)
    · exact (far LB hLl).trans h4.box
    · exact own_keep h4.row fun g hgo => far g (h.l.own_lt (by rw [← h5]; exact hgo)).2
    · intro e he
      obtain ⟨g2, g3⟩ := h8 e he
      exact ⟨(h4.ents e he).1, ⟨g2.cap, g2.ok, imp g2.at_, g2.sz⟩, ⟨g3.cap, g3.ok, imp g3.at_, g3.sz⟩⟩
    · exact ⟨h4.base_.1, Nat.le_trans h4.base_.2 hg.size⟩
    · exact ⟨h6.1, imp h6.2.1, h6.2.2⟩
    · exact ⟨h7.1, imp h7.2.1, h7.2.2⟩
    · intro e
      have := (h.l.own_lt (by rw [← h5]; exact e)).2
      omega

/-- what the next pair asks -/
theorem LMid.ents (h : LMid KB S σ n m L w LB v st L' σp n' m' wr) {w1 : World} (hB : Below wr.heap.size wr w1) : LSt w.heap.size LB v st w1 ∧ ∀ e ∈ st, EntOk (fun b => v.ownBlock ≠ some b ∧ b < wr.heap.size) e.1 w1 ∧ EntOk (fun b => v.ownBlock ≠ some b ∧ b < wr.heap.size) e.2 w1 :=
  ⟨⟨(hB.block _ (lt_of_block h.l.box)).trans h.l.box, own_below h.l.row hB, fun e he => by
    obtain ⟨h1, h2, h3⟩ := h.l.ents e he
    exact ⟨h1, h2.imp (fun b _ hb => hB.block b hb) (fun b hb _ => hb), h3.imp (fun b _ hb => hB.block b hb) (fun b hb _ => hb)⟩, ⟨h.l.base_.1, Nat.le_trans h.l.base_.2 hB.size⟩⟩, fun e he => by
    obtain ⟨_, h2, h3⟩ := h.l.ents e he
    exact ⟨h2.imp (fun b _ hb => hB.block b hb) (fun b hb hl => ⟨hb, hl⟩), h3.imp (fun b _ hb => hB.block b hb) (fun b hb hl => ⟨hb, hl⟩)⟩⟩

/-- what is left of the lists is as it was while a pair is unified -/
theorem LMid.l_g2 (h : LMid KB S σ n m L w LB v st L' σp n' m' wr) {w' : World} (hg : G2 KB S wr w') : LSt w.heap.size LB v st w' := by
  have h1 := h.f.ks
  have h2 := h.lb
  have hK := h.f.u.tinyK
  have hS := h.f.u.sub.tiny
  refine ⟨(hg.block LB (lt_of_block h.l.box) (by omega) (by omega)).trans h.l.box, own_keep h.l.row fun g hgo => ?_, fun e he => ?_, ⟨h.l.base_.1, Nat.le_trans h.l.base_.2 hg.size⟩⟩
  · have := h.l.own_lt hgo
    exact hg.block g this.2 (by omega) (by omega)
  · obtain ⟨h1, h2, h3⟩ := h.l.ents e he
    exact ⟨h1, ⟨h2.cap, h2.ok, AtP_g2 hg hK hS h2.at_, h2.sz⟩, ⟨h3.cap, h3.ok, AtP_g2 hg hK hS h3.at_, h3.sz⟩⟩

end

def UList (KB S : Nat) (σ : Sb) (n m : Nat) (w : World) (L : List (Nd × Nd)) (e : Ending) (w' : World) : Prop :=
  G2 KB S w w' ∧ match un (4096 - m) n σ L with
    | .full => e = .panicked fullP
    | .no => e = .returned (.bool false)
    | .ok ρ c r => e = .returned (.bool true) ∧ ∃ σp m', r = 4096 - m' ∧ m' ≤ 4096 ∧ STw σp ρ ∧ UAt KB S σp c m' w' ∧ ∀ x t, σp x = some t → σ x = some t ∨ Ts.AtP (fun b => w.heap.size ≤ b) w' t.p t.kids

section
variable {KB S : Nat} {σ : Sb} {n m : Nat} {L : List (Nd × Nd)} {w : World} {w' : World}
theorem UList.mk_full (hg : G2 KB S w w') (h : un (4096 - m) n σ L = .full) : UList KB S σ n m w L (.panicked fullP) w' := ⟨hg, by rw [h]⟩
theorem UList.mk_no (hg : G2 KB S w w') (h : un (4096 - m) n σ L = .no) : UList KB S σ n m w L (.returned (.bool false)) w' := ⟨hg, by rw [h]⟩
theorem UList.mk_ok {σp : Sb} {n' m' : Nat} (h : LFin KB S σ n m L w [] σp n' m' w') (ha : ∀ x t, σp x = some t → σ x = some t ∨ Ts.AtP (fun b => w.heap.size ≤ b) w' t.p t.kids) : UList KB S σ n m w L (.returned (.bool true)) w' := by
  have h1 := h.un_
  rw [un_nil] at h1
  obtain ⟨ρ, h2, h3⟩ := Out.tw_ok h1
  exact ⟨h.g, by rw [h2]; exact ⟨rfl, σp, m', rfl, h.m_, h3, h.u, ha⟩⟩
end

/-- one pair more has been unified -/
theorem LMid.step {KB S : Nat} {σ : Sb} {n m : Nat} {L : List (Nd × Nd)} {w : World} {LB : Nat} {v : Value} {st : List (Ent × Ent)} {a b : Nd} {σp : Sb} {n' m' : Nat} {wr : World} (h : LMid KB S σ n m L w LB v st ((a, b) :: pairsOf st) σp n' m' wr) (hm : m' < 4096) {e : Ending} {w' : World} (ho : UOne KB S (fun b => v.ownBlock ≠ some b) σp n' m' wr a b e w') :
    (e = .panicked fullP ∧ UList KB S σ n m w L (.panicked fullP) w') ∨ (∃ X Y : Nd, e = .returned (.tuple #[pairV X Y, .bool false]) ∧ UList KB S σ n m w L (.returned (.bool false)) w') ∨
    ∃ (X Y : Nd) (σq : Sb) (n2 m2 : Nat), e = .returned (.tuple #[pairV X Y, .bool true]) ∧ m' < m2 ∧ G2 KB S wr w' ∧ LMid KB S σ n m L w LB v st ((elems X.kids).zip (elems Y.kids) ++ pairsOf st) σq n2 m2 w' ∧ X.kids.len = Y.kids.len ∧
      (Ts.AtP (fun b => v.ownBlock ≠ some b) w' X.p X.kids ∧ X.kids.ok ∧ (X.kids.len ≤ X.c ∧ X.c ≤ 9223372036854775807) ∧ (X.p = none → X.c = 0) ∧ X.kids.size ≤ 5000) ∧ Ts.AtP (fun b => v.ownBlock ≠ some b) w' Y.p Y.kids ∧ Y.kids.ok ∧ (Y.kids.len ≤ Y.c ∧ Y.c ≤ 9223372036854775807) ∧ (Y.p = none → Y.c = 0) ∧ Y.kids.size ≤ 5000 := by
  obtain ⟨hg, ho⟩ := ho
  have hG := h.f.g.trans hg
  have hu := h.f.un_
  rw [show 4096 - m' = (4095 - m') + 1 by omega] at hu
  cases e1 : one (4095 - m') n' σp a b with
  | full =>
    rw [e1] at ho
    rw [un_full e1] at hu
    exact .inl ⟨ho, .mk_full hG (Out.tw_full hu)⟩
  | no =>
    rw [e1] at ho
    rw [un_no e1] at hu
    obtain ⟨v, rfl, X, Y, rfl⟩ := ho
    exact .inr (.inl ⟨X, Y, rfl, .mk_no hG (Out.tw_no hu)⟩)
  | ok σ2 n2 r2 l2 =>
    rw [e1] at ho
    rw [un_ok e1] at hu
    obtain ⟨X, Y, rfl, ⟨σq, h1, h2, h3⟩, h4, h5, h6, h7⟩ := ho
    have hr2 := one_le e1
    have hc2 := one_count e1
    have hn' := h.f.n_
    have hsl := h.sl
    refine .inr (.inr ⟨X, Y, σq, n2, 4096 - r2, rfl, by omega, hg, ⟨h.l_g2 hg, h.lb, ⟨h2, ?_, by omega, by omega, hG, h.f.ks⟩, by omega, fun x t hx => ?_⟩, h5, h6, h7⟩)
    · rw [show 4096 - (4096 - r2) = r2 by omega]
      exact Out.tw_trans (un_tw r2 n2 h1 h2.sub.ends (h4.app (TwP.refl _))) hu
    · rcases h3 x t hx with g1 | g1
      · rcases h.ap x t g1 with ⟨g2, g3⟩ | g2
        · exact .inl ⟨g2, AtP_g2 hg h.f.u.tinyK h.f.u.sub.tiny g3⟩
        · exact .inr (AtP_g2 hg h.f.u.tinyK h.f.u.sub.tiny g2)
      · refine .inr (AtP_imp (fun b _ hb => ⟨Nat.le_trans h.f.g.size hb, fun e => ?_⟩) g1)
        have := (h.l.own_lt e).2
        omega

theorem LMid.step_full {KB S : Nat} {σ : Sb} {n m : Nat} {L : List (Nd × Nd)} {w : World} {LB : Nat} {v : Value} {st : List (Ent × Ent)} {p : Nd × Nd} {l : List (Nd × Nd)} {σp : Sb} {n' : Nat} {wr w' : World} (h : LMid KB S σ n m L w LB v st (p :: l) σp n' 4096 wr) (hg : G2 KB S wr w') : UList KB S σ n m w L (.panicked fullP) w' := by
  have hu := h.f.un_
  rw [Nat.sub_self, un_zero] at hu
  exact .mk_full (h.f.g.trans hg) (Out.tw_full hu)

end Go.Proofs.Ytflomdnjabgnaaa
