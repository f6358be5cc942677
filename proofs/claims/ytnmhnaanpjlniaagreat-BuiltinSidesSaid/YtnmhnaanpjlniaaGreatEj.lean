import Derived.Test.YtnmhnaanpjlniaaGreatCc
import Derived.Test.YtnmhnaanpjlniaaGreatTn
import Derived.Test.YtnmhnaanpjlniaaGreatTw
import Derived.Test.YtnmhnaanpjlniaaGreatWe0
/-
  Layer 4: what two blocks that turn leave as it was; plain facts on visits.
-/
namespace Go.Proofs.YtnmhnaanpjlniaaGreat
open Go.RowKit

/-- all blocks but two are as they were -/
structure G2 (KB S : Nat) (w w' : World) : Prop where
  os : w'.os = w.os
  tape : w'.tape = w.tape
  output : w'.output = w.output
  size : w.heap.size ≤ w'.heap.size
  block : ∀ k, k < w.heap.size → k ≠ KB → k ≠ S → w'.heap[k]? = w.heap[k]?

theorem G2.refl (KB S : Nat) (w : World) : G2 KB S w w := ⟨rfl, rfl, rfl, Nat.le_refl _, fun _ _ _ _ => rfl⟩
theorem G2.trans {KB S : Nat} {a b c : World} (h : G2 KB S a b) (k : G2 KB S b c) : G2 KB S a c :=
  ⟨k.os.trans h.os, k.tape.trans h.tape, k.output.trans h.output, Nat.le_trans h.size k.size, fun i hi h1 h2 => (k.block i (Nat.lt_of_lt_of_le hi h.size) h1 h2).trans (h.block i hi h1 h2)⟩
theorem G2.of_below {KB S : Nat} {w w' : World} (h : Below w.heap.size w w') : G2 KB S w w' := ⟨h.os, h.tape, h.output, h.size, fun k hk _ _ => h.block k hk⟩
theorem G2.of_K {KB S : Nat} {w w' : World} (h : w.grownBy w' (some KB)) : G2 KB S w w' := ⟨h.os, h.tape, h.output, h.size, fun k hk h1 _ => h.block k hk (fun e => h1 (by cases e; rfl))⟩
theorem G2.of_S {KB S : Nat} {w w' : World} (h : w.grownBy w' (some S)) : G2 KB S w w' := ⟨h.os, h.tape, h.output, h.size, fun k hk _ h1 => h.block k hk (fun e => h1 (by cases e; rfl))⟩
theorem G2.below {KB S B : Nat} {a w w' : World} (h : Below B a w) (hg : G2 KB S w w') (hB : B ≤ w.heap.size) (h1 : B ≤ KB) (h2 : B ≤ S) : Below B a w' :=
  h.trans ⟨hg.os, hg.tape, hg.output, hg.size, fun k hk => hg.block k (by omega) (by omega) (by omega)⟩

/-- a block holds fewer cells than a term has -/
def Tiny (K : Nat) (w : World) : Prop := ∃ cs t fr, w.heap[K]? = some (.cells cs t fr) ∧ cs.size < 4
theorem Tiny.ne {K b o : Nat} {w : World} (h : Tiny K w) {v : Value} (hc : w.cell? ⟨b, o + 3, none⟩ = some v) : b ≠ K := by
  obtain ⟨cs, t, fr, h1, h2⟩ := h
  intro e
  subst e
  simp only [World.cell?, h1] at hc
  have := (Array.getElem?_eq_some_iff.1 hc).1
  omega
theorem UAt.tinyK {KB S : Nat} {σ : Sb} {n m : Nat} {w : World} (h : UAt KB S σ n m w) : Tiny KB w := ⟨_, _, _, h.cell, by simp⟩
theorem SubAt.tiny {S : Nat} {σ : Sb} {n : Nat} {w : World} (h : SubAt S σ n w) : Tiny S w := by
  obtain ⟨p, hh, h1, _⟩ := h.cells
  exact ⟨_, _, _, h1, by simp⟩

theorem liesP_g2 {P : Nat → Prop} {KB S : Nat} {w w' : World} (hg : G2 KB S w w') (hK : Tiny KB w) (hS : Tiny S w) : ∀ (ts : Ts) {b o : Nat}, ts.liesP P w b o → ts.liesP P w' b o
  | .nil, _, _, _ => trivial
  | .cons k s n p c kids rest, b, o, ⟨hP, h0, h1, h2, h3, ⟨b', o', h4, h5⟩, h6⟩ => by
    have e := fun y => World.cell?_of_block (a := ⟨b, y, none⟩) (hg.block b (World.block_lt_of_cell? _ _ h0) (hK.ne h3) (hS.ne h3))
    exact ⟨hP, (e _).trans h0, (e _).trans h1, (e _).trans h2, (e _).trans h3, ⟨b', o', h4, liesP_g2 hg hK hS kids h5⟩, liesP_g2 hg hK hS rest h6⟩
theorem AtP_g2 {P : Nat → Prop} {KB S : Nat} {w w' : World} (hg : G2 KB S w w') (hK : Tiny KB w) (hS : Tiny S w) {p : Option Addr} {ts : Ts} (h : Ts.AtP P w p ts) : Ts.AtP P w' p ts := by
  obtain ⟨b, o, h1, h2⟩ := h
  exact ⟨b, o, h1, liesP_g2 hg hK hS ts h2⟩
theorem At_g2 {KB S : Nat} {w w' : World} (hg : G2 KB S w w') (hK : Tiny KB w) (hS : Tiny S w) {p : Option Addr} {ts : Ts} (h : Ts.At w p ts) : Ts.At w' p ts := AtP_at (AtP_g2 hg hK hS h.atP)

theorem BoxIs.g2 {B : Nat} {x : Nd} {KB S : Nat} {w w' : World} (h : BoxIs B x w) (hg : G2 KB S w w') (h1 : B ≠ KB) (h2 : B ≠ S) : BoxIs B x w' := h.of_block (hg.block B h.lt h1 h2)

theorem vis_mono {σ : Sb} : ∀ (f g : Nat) {l : List Nd}, (vis σ f l).length < f → f ≤ g → vis σ g l = vis σ f l
  | 0, _, _, h, _ => by omega
  | _ + 1, 0, _, _, h => by omega
  | _ + 1, _ + 1, [], _, _ => rfl
  | f + 1, g + 1, t :: rest, h, hg => by
    simp only [vis, List.length_cons] at h ⊢
    rw [vis_mono f g (by omega) (by omega)]

theorem posA_hit (v : Int) (y : Nd) (rest : List Nd) (hy : ((y.k == 1) && (y.n == v)) = true) : ∀ (pre : List Nd) (i : Nat), posA v i pre < 0 → posA v i (pre ++ y :: rest) = ((i + pre.length + 1 : Nat) : Int)
  | [], i, _ => by simp only [List.nil_append, posA, hy, if_true, List.length_nil, Nat.add_zero]
  | x :: pre, i, h => by
    simp only [posA] at h
    split at h
    · omega
    · rename_i hx
      simp only [List.cons_append, posA, if_neg hx, List.length_cons]
      rw [posA_hit v y rest hy pre (i + 1) h]
      congr 1
      omega

theorem bind_zero_of {r : Nat} {σ : Sb} {v : Int} {t : Nd} (hr : r ≤ 4096) (hv : 0 ≤ v) (hn : σ v = none) (h1 : posA v 0 (vis σ (r + 1) [t]) < 0) (h2 : (vis σ (r + 1) [t]).length ≤ r) : bindE σ v t = 0 := by
  have e := vis_mono (σ := σ) (r + 1) 4097 (l := [t]) (by omega) (by omega)
  have ho : occ v (num 0 (vis σ 4097 [t])) = (false, 0) := by
    rw [e, occ_pos v _ 0 (by omega) (by omega), if_neg (by omega), if_neg (by omega)]
  unfold bindE
  rw [if_neg (by omega), hn, ho]
  simp

/-- how far a unification is from the end of its visits -/
def visFar (KB : Nat) (w : World) : Nat := match w.cell? ⟨KB, 1, none⟩ with
  | some (.int _ m) => 4097 - m.toNat
  | _ => 0
theorem UAt.far {KB S : Nat} {σ : Sb} {n m : Nat} {w : World} (h : UAt KB S σ n m w) : visFar KB w = 4097 - m := by
  unfold visFar
  rw [h.c1]
  simp

theorem G2.one {KB S : Nat} {w w' : World} (h : G2 KB KB w w') : G2 KB S w w' := ⟨h.os, h.tape, h.output, h.size, fun k hk h1 _ => h.block k hk h1 h1⟩

/-- a block turns that was not there -/
theorem G2.fresh {KB S g : Nat} {w a b : World} (h : G2 KB S w a) (hg : a.grownBy b (some g)) (hge : w.heap.size ≤ g) : G2 KB S w b :=
  ⟨hg.os.trans h.os, hg.tape.trans h.tape, hg.output.trans h.output, Nat.le_trans h.size hg.size, fun k hk h1 h2 => (hg.block k (Nat.lt_of_lt_of_le hk h.size) (fun e => by cases e; omega)).trans (h.block k hk h1 h2)⟩

/-- a small block turns, and new ones -/
theorem SubAt.g1 {S KB : Nat} {σ : Sb} {n : Nat} {w w' : World} (h : SubAt S σ n w) (hg : G2 KB KB w w') (hK : Tiny KB w) (hne : S ≠ KB) : SubAt S σ n w' := by
  obtain ⟨p, hh, h1, h3, h4, h5⟩ := h.cells
  obtain ⟨cs, t, fr, k1, k2⟩ := hK
  refine ⟨⟨p, hh, (hg.block S h.lt hne hne).trans h1, h3, h4.stay (Nat.le_refl _) (fun b hb => ?_), h5⟩, h.ends, fun v x hx => ⟨At_g2 hg ⟨cs, t, fr, k1, k2⟩ ⟨cs, t, fr, k1, k2⟩ (h.at_ v x hx).1, (h.at_ v x hx).2⟩⟩
  have hb2 : b < w.heap.size ∧ b ≠ KB := by
    rcases hb with ⟨ks, u, hb⟩ | ⟨es, k, hb⟩
    · refine ⟨(Array.getElem?_eq_some_iff.1 hb).1, fun e => ?_⟩
      rw [e, k1] at hb
      cases hb
      rw [kidCells_size] at k2
      omega
    · refine ⟨(Array.getElem?_eq_some_iff.1 hb).1, fun e => ?_⟩
      rw [e, k1] at hb
      cases hb
  exact hg.block b hb2.1 hb2.2 hb2.2

end Go.Proofs.YtnmhnaanpjlniaaGreat
/-
  Layer 13: the reckoner. (Written by gen_eg.py.)
-/
namespace Go.Proofs.YtnmhnaanpjlniaaGreat
open Go.RowKit

theorem Ts.one_of : ∀ {ts : Ts}, ts.len = 1 → ∃ k s n p c kids, ts = .cons k s n p c kids .nil
  | .nil, h => by simp [Ts.len] at h
  | .cons k s n p c kids .nil, _ => ⟨k, s, n, p, c, kids, rfl⟩
  | .cons _ _ _ _ _ _ (.cons ..), h => by simp [Ts.len] at h
theorem Ts.two_of : ∀ {ts : Ts}, ts.len = 2 → ∃ k s n p c kids k' s' n' p' c' kids', ts = .cons k s n p c kids (.cons k' s' n' p' c' kids' .nil)
  | .nil, h => by simp [Ts.len] at h
  | .cons _ _ _ _ _ _ .nil, h => by simp [Ts.len] at h
  | .cons k s n p c kids (.cons k' s' n' p' c' kids' .nil), _ => ⟨k, s, n, p, c, kids, k', s', n', p', c', kids', rfl⟩
  | .cons _ _ _ _ _ _ (.cons _ _ _ _ _ _ (.cons ..)), h => by simp [Ts.len] at h

/-- an operation's value -/
def opVal : Option Nat → Value
  | some j => .func (.func (opFn j)) #[] #[]
  | none => .nilFunc
theorem opFound_val (k : Lit) : opFound k = opVal (opIdx k) := by
  unfold opFound opVal
  cases opIdx k <;> rfl

theorem rk_zero (σ : Sb) (f : Nat) (t : Nd) : rk σ f 0 t = ((0, 31), 0) := by cases f <;> simp [rk]
theorem STw.reflE (σ : Sb) : STw σ σ := ⟨fun _ h => h, fun _ x h => ⟨x, h, Nd.twin_refl x⟩⟩
theorem rk_var {σ : Sb} {f r : Nat} {t x : Nd} (h : x.twin (wk σ t)) (hx : (x.k == 1) = true) : rk σ (f + 1) (r + 1) t = ((0, 20), r) := by
  simp only [rk]
  rw [if_neg (by omega), if_pos (by rw [← h.1]; exact hx)]
  rfl
theorem rk_int {σ : Sb} {f r : Nat} {t x : Nd} (h : x.twin (wk σ t)) (h1 : ¬ (x.k == 1) = true) (hx : (x.k == 2) = true) : rk σ (f + 1) (r + 1) t = ((x.n, 0), r) := by
  simp only [rk]
  rw [if_neg (by omega), if_neg (by rw [← h.1]; exact h1), if_pos (by rw [← h.1]; exact hx), h.2.2.1]
  rfl
theorem rk_step {σ : Sb} (hE : Ends σ) {f r : Nat} {t x : Nd} (h : x.twin (wk σ t)) (h1 : ¬ (x.k == 1) = true) (h2 : ¬ (x.k == 2) = true) : rk σ (f + 1) (r + 1) t = rkOp (rk σ f) r (opOf x) (elems x.kids) := by
  have ho : opOf (wk σ t) = opOf x := by unfold opOf; rw [h.1, h.2.1, Ts.twin_len _ _ h.2.2.2]
  simp only [rk]
  rw [if_neg (by omega), if_neg (by rw [← h.1]; exact h1), if_neg (by rw [← h.1]; exact h2), ho]
  exact (rkOp_congr (rel_tw (elems_tw h.2.2.2)) (fun r x y h' => rk_tw (STw.reflE σ) hE f r h')).symm

/-- what stands, a node being reckoned -/
structure RkSt (σ : Sb) (t : Nd) (W W' : World) (b S m n T : Nat) (k : Int) (x : Nd) : Prop where
  rk : Rk W' b ⟨S, 0, none⟩ m k
  sub : SubAt S σ n W'
  inv : OpInv m 0 (fun _ => true) W'
  box : BoxIs T x W'
  at_ : Ts.At W' x.p x.kids
  ok : x.ok
  sz : x.kids.size ≤ 5000
  tw : x.twin (wk σ t)
  g : W.grownBy W' (some b)

theorem Rk.tiny {w : World} {b : Nat} {s : Addr} {m : Nat} {k : Int} (h : Rk w b s m k) : Tiny b w := ⟨_, _, _, h.blk, by simp⟩

/-- all but the reckoner's block as it was -/
theorem RkSt.turn {σ : Sb} {t x : Nd} {W W' W2 : World} {b S m n T : Nat} {k k' : Int} (h : RkSt σ t W W' b S m n T k x) (hg : W'.grownBy W2 (some b)) (hr : Rk W2 b ⟨S, 0, none⟩ m k') (hS : S ≠ b) (hm : m ≠ b) (hT : T ≠ b) (hml : m < W'.heap.size) : RkSt σ t W W2 b S m n T k' x :=
  ⟨hr, h.sub.but h.rk.blk (by simp) hS hg, h.inv.same (hg.block m hml (fun e => hm (by cases e; rfl))), h.box.of_block (hg.block T h.box.lt (fun e => hT (by cases e; rfl))), h.at_.small hg h.rk.blk (by simp), h.ok, h.sz, h.tw, h.g.trans hg⟩

theorem RkSt.below {σ : Sb} {t x : Nd} {W W' W2 : World} {b S m n T : Nat} {k : Int} (h : RkSt σ t W W' b S m n T k x) (hB : Below W'.heap.size W' W2) (hml : m < W'.heap.size) : RkSt σ t W W2 b S m n T k x :=
  ⟨h.rk.below hB, h.sub.below hB, h.inv.same (hB.block m hml), h.box.below hB, h.at_.below hB, h.ok, h.sz, h.tw, h.g.trans (grown_but hB b)⟩

set_option maxHeartbeats 1000000 in
theorem reckon_full (σ : Sb) (f : Nat) (t : Nd) (W : World) (b S m : Nat) (hR : Rk W b ⟨S, 0, none⟩ m (4096 - ((0 : Nat) : Int))) :
    Calls Tryz.prog 125 #[.pointer (some ⟨b, 0, none⟩), .agg #[.int .u8 t.k, .string t.s, .int .i64 t.n, .slice t.p t.kids.len t.c]] W fun e w' => e = endsAs (rk σ f 0 t).1 ∧ ((rk σ f 0 t).1.2 = 0 → Rk w' b ⟨S, 0, none⟩ m (4096 - ((rk σ f 0 t).2 : Int))) ∧ W.grownBy w' (some b) := by
  rw [rk_zero]
  have hb := hR.lt
  have c2 : W.cell? ⟨b, 2, none⟩ = some (.int .i64 4096) := hR.nodes
  have cf := hR.free
  clear hR
  go_enter Tryz.func125, Tryz.ntmps125
  go_wp2
  exact ⟨rfl, rfl, (fun h => by cases h), (grown_set W b 2 _).trans (grown_new _ _ b)⟩

theorem RkSt.made {σ : Sb} {t x : Nd} {W Wb W3 : World} {b S m n T : Nat} {k : Int} (hr : Rk Wb b ⟨S, 0, none⟩ m k) (hs : SubAt S σ n Wb) (hi : OpInv m 0 (fun _ => true) Wb) (hm : m < Wb.heap.size) (hg : W.grownBy Wb (some b)) (old : Below Wb.heap.size Wb W3) (hx : BoxIs T x W3) (hat : Ts.At W3 x.p x.kids) (hok : x.ok) (hsz : x.kids.size ≤ 5000) (htw : x.twin (wk σ t)) : RkSt σ t W W3 b S m n T k x :=
  ⟨hr.below old, hs.below old, hi.same (old.block m hm), hx, hat, hok, hsz, htw, hg.trans (grown_but old b)⟩

set_option maxRecDepth 100000 in
set_option maxHeartbeats 16000000 in
theorem reckon_any (σ : Sb) (hgo : ∀ v x, σ v = some x → x.ok) : ∀ (f r : Nat), r ≤ f → r ≤ 4096 → ∀ (t : Nd) (W : World) (b S m n : Nat), Rk W b ⟨S, 0, none⟩ m (4096 - (r : Int)) → SubAt S σ n W → S < b → m < b → OpInv m 0 (fun _ => true) W → t.ok → Ts.At W t.p t.kids → t.kids.size ≤ 5000 →
    Calls Tryz.prog 125 #[.pointer (some ⟨b, 0, none⟩), .agg #[.int .u8 t.k, .string t.s, .int .i64 t.n, .slice t.p t.kids.len t.c]] W fun e w' => e = endsAs (rk σ f r t).1 ∧ ((rk σ f r t).1.2 = 0 → Rk w' b ⟨S, 0, none⟩ m (4096 - ((rk σ f r t).2 : Int))) ∧ W.grownBy w' (some b) := by
  intro f
  induction f with
  | zero =>
    intro r hrf hr4 t W b S m n hR hS hSb hmb hI hok hat hsz
    have hr0 : r = 0 := by omega
    subst hr0
    exact reckon_full σ 0 t W b S m hR
  | succ f ih =>
  intro r hrf hr4 t W b S m n hR hS hSb hmb hI hok hat hsz
  by_cases hr0 : r = 0
  · subst hr0
    exact reckon_full σ (f + 1) t W b S m hR
  obtain ⟨r, rfl⟩ : ∃ r', r = r' + 1 := ⟨r - 1, by omega⟩
  obtain ⟨k, hk⟩ : ∃ k : Int, k = 4096 - ((r + 1 : Nat) : Int) := ⟨_, rfl⟩
  rw [← hk] at hR
  have hk0 : 0 ≤ k := by omega
  have hk1 : k < 4096 := by omega
  have KE := Lib.hid hk
  have IH := Lib.hid ih
  have OK := Lib.hid hok
  have HE := Lib.hid hS.ends
  obtain ⟨Wb, hWb⟩ : ∃ Wb, Wb = W.setCell ⟨b, 2, none⟩ (.int .i64 (k + 1)) := ⟨_, rfl⟩
  have hgb : W.grownBy Wb (some b) := by rw [hWb]; exact grown_set W b 2 _
  have RKb : Hid (Rk Wb b ⟨S, 0, none⟩ m (k + 1)) := Lib.hid (by rw [hWb]; exact hR.put _)
  have SBb := Lib.hid (hS.but hR.blk (by simp) (by omega) hgb)
  have hml : m < W.heap.size := by have := hR.lt; omega
  have OIb := Lib.hid (hI.same (hgb.block m hml (fun e => by cases e; omega)))
  have ATb := Lib.hid (hat.small hgb hR.blk (by simp))
  have GB := Lib.hid hgb
  have hsb : Wb.heap.size = W.heap.size := by rw [hWb]; simp
  have hbW := hR.lt
  have c0 := hR.subst
  have c1 := hR.by_
  have c2 := hR.nodes
  have cf := hR.free
  obtain ⟨W1, hW1⟩ : ∃ W1, W1 = (W.setCell ⟨b, 2, none⟩ (.int .i64 (k + 1))).alloc (.cells #[.int .u8 t.k, .string t.s, .int .i64 t.n, .slice t.p t.kids.len t.c] 25) := ⟨_, rfl⟩
  have hB1 : Below Wb.heap.size Wb W1 := by rw [hW1, hWb]; exact (Below.refl _ _).alloc (Nat.le_refl _) _
  have hX1 : BoxIs W.heap.size t W1 := by
    have h := BoxIs.new (W.setCell ⟨b, 2, none⟩ (.int .i64 (k + 1))) t 25
    rw [show (W.setCell ⟨b, 2, none⟩ (.int .i64 (k + 1))).heap.size = W.heap.size by simp] at h
    rw [hW1]
    exact h
  obtain ⟨T, hT⟩ : ∃ T, T = W.heap.size := ⟨_, rfl⟩
  rw [← hT] at hX1
  have TE := Lib.hid hT
  have BB := Lib.hid hB1
  have XT := Lib.hid hX1
  have Z1 := Lib.hid hW1
  clear hWb hgb hB1 hX1 hW1 hR hS hI hat hok hk ih
  go_enter Tryz.func125, Tryz.ntmps125
  go_upto_region 4 with fail
  rw [← Z1.out, ← hT]
  have RK1 := Lib.hid (RKb.out.below BB.out)
  have SB1 := Lib.hid (SBb.out.below BB.out)
  have AT1 := Lib.hid (ATb.out.below BB.out)
  have hmb' : m < Wb.heap.size := by omega
  have hTb : Wb.heap.size ≤ T := by omega
  clear c0 c1 c2 cf hT
  have x0 := XT.out.c0
  go_upto_if 22 with fail
  obtain ⟨tk, htk⟩ : ∃ tk, tk = (t.k == 1) := ⟨_, rfl⟩
  rw [← htk]
  have TK := Lib.hid htk
  clear htk
  go_cut [] from 23 to 28 (fun wx => ∃ x : Nd, Hid (RkSt σ t W wx b S m n T (k + 1) x))
  case first =>
    cases tk with
    | true =>
      go_upto_region 5 with fail
      clear x0
      refine region_facts_last (fun W_ => Below W1.heap.size W1 W_) [fun u _ => u = .pointer (some ⟨b, 0, none⟩), fun u _ => u = .pointer (some ⟨b, 0, none⟩), fun u _ => u = .pointer (some ⟨b, 0, none⟩), fun u _ => u = .pointer (some ⟨S, 0, none⟩), fun u _ => u = .agg #[.int .u8 t.k, .string t.s, .int .i64 t.n, .slice t.p t.kids.len t.c], fun u W => CloneOf (wk σ t) W1.heap.size u W]
        ⟨.eq _, .eq _, .eq _, .eq _, .eq _, (fun _ _ _ h hB => CloneOf.bel h hB), trivial⟩ (by kernel_rfl) (by kernel_rfl) (by kernel_rfl) (by kernel_rfl) (Below.refl _ _).drew ?_ (by decide)
      refine ⟨?_, ?_, ?_, ?_, ?_, ?_, ?_⟩
      · intro g_ W_ hI hd K hK
        simp only [frameOf, Act.put, List.setIfInBounds_toArray, List.set_cons_zero, List.set_cons_succ]
        go_simp
        refine hK.out (.pointer (some ⟨b, 0, none⟩)) _ W_ ?_ hI (Below.refl _ _) rfl
        simp only [frameOf, Act.put, List.setIfInBounds_toArray, List.set_cons_zero, List.set_cons_succ, Nat.zero_add, Nat.reduceAdd]
      · intro g_ W_ hI hd K hK
        simp only [frameOf, Act.put, List.setIfInBounds_toArray, List.set_cons_zero, List.set_cons_succ]
        have h0 : g_ 0 = .pointer (some ⟨b, 0, none⟩) := hd 0 (by kernel_rfl)
        rw [h0]
        go_simp
        refine hK.out (.pointer (some ⟨b, 0, none⟩)) _ W_ ?_ hI (Below.refl _ _) rfl
        simp only [frameOf, Act.put, List.setIfInBounds_toArray, List.set_cons_zero, List.set_cons_succ, Nat.zero_add, Nat.reduceAdd, h0]
      · intro g_ W_ hI hd K hK
        simp only [frameOf, Act.put, List.setIfInBounds_toArray, List.set_cons_zero, List.set_cons_succ]
        have h1 : g_ 1 = .pointer (some ⟨b, 0, none⟩) := hd 1 (by kernel_rfl)
        rw [h1]
        go_simp
        refine hK.out (.pointer (some ⟨b, 0, none⟩)) _ W_ ?_ hI (Below.refl _ _) rfl
        simp only [frameOf, Act.put, List.setIfInBounds_toArray, List.set_cons_zero, List.set_cons_succ, Nat.zero_add, Nat.reduceAdd, h1]
      · intro g_ W_ hI hd K hK
        simp only [frameOf, Act.put, List.setIfInBounds_toArray, List.set_cons_zero, List.set_cons_succ]
        have h2 : g_ 2 = .pointer (some ⟨b, 0, none⟩) := hd 2 (by kernel_rfl)
        rw [h2]
        have e0 := (RK1.out.below hI).subst
        go_simp
        refine hK.out (.pointer (some ⟨S, 0, none⟩)) _ W_ ?_ hI (Below.refl _ _) rfl
        simp only [frameOf, Act.put, List.setIfInBounds_toArray, List.set_cons_zero, List.set_cons_succ, Nat.zero_add, Nat.reduceAdd, h2]
      · intro g_ W_ hI hd K hK
        simp only [frameOf, Act.put, List.setIfInBounds_toArray, List.set_cons_zero, List.set_cons_succ]
        have XW := XT.out.below hI
        have e0 := XW.c0
        have e1 := XW.c1
        have e2 := XW.c2
        have e3 := XW.c3
        go_simp
        refine hK.out (.agg #[.int .u8 t.k, .string t.s, .int .i64 t.n, .slice t.p t.kids.len t.c]) _ W_ ?_ hI (Below.refl _ _) rfl
        simp only [frameOf, Act.put, List.setIfInBounds_toArray, List.set_cons_zero, List.set_cons_succ, Nat.zero_add, Nat.reduceAdd]
      · intro g_ W_ hI hd K hK
        simp only [frameOf, Act.put, List.setIfInBounds_toArray, List.set_cons_zero, List.set_cons_succ]
        have h3 : g_ 3 = .pointer (some ⟨S, 0, none⟩) := hd 3 (by kernel_rfl)
        have h4 : g_ 4 = .agg #[.int .u8 t.k, .string t.s, .int .i64 t.n, .slice t.p t.kids.len t.c] := hd 4 (by kernel_rfl)
        rw [h3, h4]
        go_simp
        refine (walk_any S σ n W_ (SB1.out.below hI) t OK.out (AT1.out.below hI) hsz).mono ?_
        rintro e w' ⟨v', rfl, hC, hB⟩
        refine hK.out v' _ w' ?_ (hI.trans (hB.mono hI.size)) hB (CloneOf.mon hC hI.size)
        simp only [frameOf, Act.put, List.setIfInBounds_toArray, List.set_cons_zero, List.set_cons_succ, Nat.zero_add, Nat.reduceAdd, h3, h4]
      · intro g_ W_ hI hd K hK
        simp only [frameOf, Act.put, List.setIfInBounds_toArray, List.set_cons_zero, List.set_cons_succ]
        obtain ⟨us, q, d, h5, ha5, htw5, hok5, hcl5, hn5⟩ := hd 5 (by decide)
        rw [h5]
        have YW := XT.out.below hI
        have y0 := YW.c0
        have y1 := YW.c1
        have y2 := YW.c2
        have y3 := YW.c3
        have yf := YW.fr
        have hTW : T < W1.heap.size := XT.out.lt
        have HPUT := Lib.hid (YW.put (y := ⟨(wk σ t).k, (wk σ t).s, (wk σ t).n, q, d, us⟩))
        have HI := Lib.hid hI
        have A5 := Lib.hid ha5
        have C5 := Lib.hid (And.intro htw5 (And.intro hok5 (And.intro hcl5 hn5)))
        have H5 := Lib.hid h5
        clear hd YW hI ha5 htw5 hok5 hcl5 hn5 h5
        unfold tv
        go_simp
        refine hK.out undef _ _ ?_ ?_
        · simp only [frameOf, Act.put, List.setIfInBounds_toArray, List.set_cons_zero, List.set_cons_succ, Nat.zero_add, Nat.reduceAdd, H5.out]
          rfl
        · simp (decide := true) only [frameOf, Act.put, List.setIfInBounds_toArray, List.set_cons_zero, List.set_cons_succ, Nat.zero_add, Nat.reduceAdd, H5.out, upd, ↓reduceIte]
          clear hK K
          go_wp2
          go_meet
          have hwo := SBb.out.wk_ok OK.out ATb.out hsz
          exact ⟨⟨(wk σ t).k, (wk σ t).s, (wk σ t).n, q, d, us⟩, Lib.hid (RkSt.made RKb.out SBb.out OIb.out hmb' GB.out (below_put4 (BB.out.trans (HI.out.mono BB.out.size)) hTb _ _ _ _) HPUT.out ((AtB_atP A5.out).stay (fun i hi _ => by
            rw [Below.heap_setCell _ _ _ _ (by simp; omega), Below.heap_setCell _ _ _ _ (by simp; omega), Below.heap_setCell _ _ _ _ (by simp; omega), Below.heap_setCell _ _ _ _ (by simp; omega)]) |> AtP_at) ⟨hwo.1, hwo.2.1, hwo.2.2.1, C5.out.2.2.1, C5.out.2.2.2, C5.out.2.1, trivial⟩ (by have h1 := Ts.twin_size _ _ C5.out.1; have h2 := (SBb.out.walked ⟨ATb.out, OK.out, hsz⟩).2.2; simp only; omega) ⟨rfl, rfl, rfl, C5.out.1⟩)⟩
    | false =>
      have h1 := TK.out.symm
      have RS : Hid (RkSt σ t W W1 b S m n T (k + 1) t) := Lib.hid (RkSt.made RKb.out SBb.out OIb.out hmb' GB.out BB.out XT.out AT1.out OK.out hsz (by rw [wk_stop (.inl h1)]; exact Nd.twin_refl t))
      clear h1
      go_wp2
      go_meet
      exact ⟨t, RS⟩
  case rest =>
    obtain ⟨x, ST⟩ := hcut
    clear x0 XT RK1 SB1 AT1 RKb SBb OIb ATb BB Z1
    have GW := Lib.hid ST.out.g
    have y0 := ST.out.box.c0
    have y1 := ST.out.box.c1
    have y2 := ST.out.box.c2
    have y3 := ST.out.box.c3
    by_cases x1 : (x.k == 1) = true
    · have RKE := Lib.hid (rk_var (f := f) (r := r) ST.out.tw x1)
      have x2 : (x.k == 2) = false := by rw [beq_iff_eq] at x1; rw [x1]; rfl
      go_wp2
      refine ⟨rfl, ?_⟩
      rw [RKE.out]
      exact ⟨rfl, (fun h => by cases h), GW.out⟩
    by_cases x2 : (x.k == 2) = true
    · have RKE := Lib.hid (rk_int (f := f) (r := r) ST.out.tw x1 x2)
      have RN : Hid (Rk wc b ⟨S, 0, none⟩ m (4096 - (r : Int))) := Lib.hid ⟨by rw [show (4096 - (r : Int)) = k + 1 by have := KE.out; omega]; exact ST.out.rk.blk⟩
      rw [Bool.not_eq_true] at x1
      go_wp2
      go_ret
      rw [RKE.out]
      exact ⟨rfl, (fun _ => RN.out), GW.out⟩
    have RKS := Lib.hid (rk_step (f := f) (r := r) HE.out ST.out.tw x1 x2)
    rw [Bool.not_eq_true] at x1 x2
    have hxl : x.kids.len ≤ 9223372036854775807 := by have h := ST.out.ok.2.2.2.1; omega
    obtain ⟨o, ho⟩ : ∃ o, o = opIdx (funKey x.s x.kids.len) := ⟨_, rfl⟩
    have OE := Lib.hid ho
    clear ho
    obtain ⟨F, hF⟩ : ∃ F, F = opFound (funKey x.s x.kids.len) := ⟨_, rfl⟩
    have FE : Hid (F = opVal o) := Lib.hid (by rw [hF, OE.out]; exact opFound_val _)
    have hl : ∀ nq, (Instr.lookup 149 (.map (some m)) (.agg #[.string x.s, .int .i64 x.kids.len]) false).run Tryz.prog (wc.drewN nq) = .ok F (wc.drewN nq) := fun nq => by
      have h := (ST.out.inv.same (w' := wc.drewN nq) (by simp)).lookup x.s x.kids.len (by have h := ST.out.ok.2.1; unfold maxLen; omega) (wf64 (by omega))
      rw [← hF] at h
      exact h
    have d1 := ST.out.rk.by_
    clear hF
    go_upto_region 11 with fail
    go_quiet (fail)
    go_upto_region 12 with fail
    obtain ⟨Wd, hWd⟩ : ∃ Wd, Wd = wc.drewN nq := ⟨_, rfl⟩
    rw [← hWd]
    have hBd : Below wc.heap.size wc Wd := by rw [hWd]; exact below_drewN (Below.refl _ _) _
    have hmc : m < wc.heap.size := by have := ST.out.rk.lt; omega
    replace ST := Lib.hid (ST.out.below hBd hmc)
    replace GW := Lib.hid ST.out.g
    clear hWd hBd hl y0 y1 y2 y3 d1
    have y0 := ST.out.box.c0
    have y1 := ST.out.box.c1
    have y2 := ST.out.box.c2
    have y3 := ST.out.box.c3
    have hfn : ∀ (q : Nat) w, (binOp .eql 160 (.func (.func q) #[] #[]) .nilFunc).run Tryz.prog w = .ok (.bool false) w := fun q w => by kernel_rfl
    have hnf : ∀ w, (binOp .eql 160 .nilFunc .nilFunc).run Tryz.prog w = .ok (.bool true) w := fun w => by kernel_rfl
    by_cases x4 : (x.k == 4) = true
    · have x4n : (x.k != 4) = false := by simpa using x4
      cases o with
      | none =>
        have RKE : Hid (rk σ (f + 1) (r + 1) t = ((0, 21), r)) := Lib.hid (by rw [RKS.out, show opOf x = none by unfold opOf; rw [if_pos x4, ← OE.out], rkOp_none])
        have hf : F = _ := FE.out
        unfold opVal at hf
        subst hf
        go_wp2
        refine ⟨rfl, ?_⟩
        rw [RKE.out]
        exact ⟨rfl, (fun h => by cases h), GW.out⟩
      | some j =>
        obtain ⟨hs, hln, hj⟩ := opIdx_ar ST.out.ok.2.1 hxl OE.out.symm
        have OJ : Hid (opOf x = some j) := Lib.hid (by unfold opOf; rw [if_pos x4, ← OE.out])
        rw [OJ.out] at RKS
        have JL := Lib.hid hj
        have hcf := op_enters j hj
        have ha12 : opAr j = 1 ∨ opAr j = 2 := by unfold opAr; split <;> simp
        have hln2 : x.kids.len = 1 ∨ x.kids.len = 2 := by rcases ha12 with h | h <;> rw [h] at hln <;> omega
        have hTb2 : T ≠ b := by have := TE.out; omega
        have hmd : m < Wd.heap.size := by have := ST.out.rk.lt; omega
        have hKE : (4096 - (r : Int)) = k + 1 := by have := KE.out; omega
        have HK := Lib.hid hKE
        have hf := FE.out
        unfold opVal at hf
        subst hf
        have OX := Lib.hid ST.out.ok.2.2.2.2.2.1
        have SX := Lib.hid ST.out.sz
        clear y3 hln ha12 hs hKE
        rcases hln2 with hl1 | hl2
        · obtain ⟨k0, s0, n0, p0, c0, ks0, hx⟩ := Ts.one_of hl1
          have HX := Lib.hid hx
          rw [hx] at OX SX
          have hz0 : ks0.size ≤ 5000 := by have := SX.out; simp only [Ts.size] at this; omega
          have OK0 : Hid (Nd.ok ⟨k0, s0, n0, p0, c0, ks0⟩) := Lib.hid ⟨OX.out.1, OX.out.2.1, OX.out.2.2.1, OX.out.2.2.2.1, OX.out.2.2.2.2.1, OX.out.2.2.2.2.2.1, trivial⟩
          have RKT : Hid (rk σ (f + 1) (r + 1) t = rkOp (rk σ f) r (some j) [⟨k0, s0, n0, p0, c0, ks0⟩]) := Lib.hid (by rw [RKS.out, hx]; rfl)
          clear hx hl1 RKS
          obtain ⟨P0, hP0⟩ : ∃ P, P = rk σ f r ⟨k0, s0, n0, p0, c0, ks0⟩ := ⟨_, rfl⟩
          have P0E := Lib.hid hP0
          have IY : Hid (isI64 P0.1.1) := Lib.hid (by rw [hP0]; exact rk_i64 HE.out hgo f r OK0.out)
          have IX : Hid (isI64 0) := Lib.hid i64_0
          clear hP0
          have hat := ST.out.at_
          rw [HX.out] at hat
          obtain ⟨B, o, hp, hl⟩ := hat
          have hp2 : x.p = some ⟨B, o, none⟩ := by
            rcases hp with h | h
            · cases h
            · exact h
          have y3 := ST.out.box.c3
          rw [hp2, HX.out] at y3
          simp only [Ts.len] at y3
          obtain ⟨g0, g1, g2, g3, ha0, -⟩ := hl
          have AK0 := Lib.hid ha0
          clear hp hp2 ha0
          go_wp2_with fail
          refine (IH.out r (by omega) (by omega) ⟨k0, s0, n0, p0, c0, ks0⟩ Wd b S m n ⟨by rw [show (4096 - ((r : Nat) : Int)) = k + 1 from HK.out]; exact ST.out.rk.blk⟩ ST.out.sub hSb hmb ST.out.inv OK0.out AK0.out hz0).mono ?_
          rintro e w0 ⟨rfl, hR, hG⟩
          rw [← P0E.out] at hR ⊢
          have HR0 := Lib.hid hR
          have HG0 := Lib.hid hG
          clear hR hG
          by_cases e0 : P0.1.2 = 0
          · rw [show endsAs P0.1 = .returned (.int .i64 P0.1.1) from if_pos e0]
            have hwb : m < _ := hmc
            replace ST := Lib.hid (ST.out.turn HG0.out (HR0.out e0) (by omega) (by omega) hTb2 hmd)
            replace GW := Lib.hid ST.out.g
            have hmd : m < w0.heap.size := by have := ST.out.rk.lt; omega
            clear g0 g1 g2 g3 y3
            have y3 := ST.out.box.c3
            have IO := Lib.hid (opR_i64 j IX.out IY.out)
            obtain ⟨R, hRR⟩ : ∃ R, R = opR j 0 P0.1.1 := ⟨_, rfl⟩
            have hop := fun W => op_any j JL.out 0 P0.1.1 IX.out IY.out W
            rw [← hRR] at hop
            have HOP := Lib.hid hop
            have RKE : Hid (rk σ (f + 1) (r + 1) t = (R, P0.2)) := Lib.hid (by rw [hRR]; rw [RKT.out]; simp only [rkOp]; rw [← P0E.out, if_neg (by simpa using e0)])
            clear hop hRR
            go_wp2_with fail
            refine (HOP.out _).mono ?_
            rintro e w9 ⟨rfl, rfl⟩
            by_cases hE : R.2 = 0
            · rw [show endsAs R = .returned (.int .i64 R.1) from if_pos hE]
              go_wp2
              go_ret
              rw [RKE.out]
              exact ⟨(if_pos hE).symm, (fun _ => ST.out.rk), GW.out⟩
            · rw [show endsAs R = .panicked (thrown R.2) from if_neg hE]
              refine ⟨rfl, ?_⟩
              rw [RKE.out]
              exact ⟨(if_neg hE).symm, (fun h => absurd h hE), GW.out⟩
          · have RKE : Hid (rk σ (f + 1) (r + 1) t = ((0, P0.1.2), P0.2)) := Lib.hid (by rw [RKT.out]; simp only [rkOp]; rw [← P0E.out, if_pos e0])
            rw [show endsAs P0.1 = .panicked (thrown P0.1.2) from if_neg e0]
            refine ⟨rfl, ?_⟩
            rw [RKE.out]
            exact ⟨(if_neg e0).symm, (fun h => absurd h e0), GW.out.trans HG0.out⟩
        · obtain ⟨k0, s0, n0, p0, c0, ks0, k1, s1, n1, p1, c1, ks1, hx⟩ := Ts.two_of hl2
          have HX := Lib.hid hx
          rw [hx] at OX SX
          have hz0 : ks0.size ≤ 5000 := by have := SX.out; simp only [Ts.size] at this; omega
          have hz1 : ks1.size ≤ 5000 := by have := SX.out; simp only [Ts.size] at this; omega
          have OK0 : Hid (Nd.ok ⟨k0, s0, n0, p0, c0, ks0⟩) := Lib.hid ⟨OX.out.1, OX.out.2.1, OX.out.2.2.1, OX.out.2.2.2.1, OX.out.2.2.2.2.1, OX.out.2.2.2.2.2.1, trivial⟩
          have OK1 : Hid (Nd.ok ⟨k1, s1, n1, p1, c1, ks1⟩) := Lib.hid OX.out.2.2.2.2.2.2
          have RKT : Hid (rk σ (f + 1) (r + 1) t = rkOp (rk σ f) r (some j) [⟨k0, s0, n0, p0, c0, ks0⟩, ⟨k1, s1, n1, p1, c1, ks1⟩]) := Lib.hid (by rw [RKS.out, hx]; rfl)
          clear hx hl2 RKS
          obtain ⟨P0, hP0⟩ : ∃ P, P = rk σ f r ⟨k0, s0, n0, p0, c0, ks0⟩ := ⟨_, rfl⟩
          have P0E := Lib.hid hP0
          have IX : Hid (isI64 P0.1.1) := Lib.hid (by rw [hP0]; exact rk_i64 HE.out hgo f r OK0.out)
          have hle0 : P0.2 ≤ r := by have := rk_le σ f r ⟨k0, s0, n0, p0, c0, ks0⟩; rw [← hP0] at this; omega
          obtain ⟨P1, hP1⟩ : ∃ P, P = rk σ f P0.2 ⟨k1, s1, n1, p1, c1, ks1⟩ := ⟨_, rfl⟩
          have P1E := Lib.hid hP1
          have IY : Hid (isI64 P1.1.1) := Lib.hid (by rw [hP1]; exact rk_i64 HE.out hgo f P0.2 OK1.out)
          clear hP0 hP1
          have hat := ST.out.at_
          rw [HX.out] at hat
          obtain ⟨B, o, hp, hl⟩ := hat
          have hp2 : x.p = some ⟨B, o, none⟩ := by
            rcases hp with h | h
            · cases h
            · exact h
          have y3 := ST.out.box.c3
          rw [hp2, HX.out] at y3
          simp only [Ts.len] at y3
          obtain ⟨g0, g1, g2, g3, ha0, g4, g5, g6, g7, ha1, -⟩ := hl
          have AK0 := Lib.hid ha0
          have AK1 := Lib.hid ha1
          clear hp hp2 ha0 ha1
          go_wp2_with fail
          refine (IH.out r (by omega) (by omega) ⟨k0, s0, n0, p0, c0, ks0⟩ Wd b S m n ⟨by rw [show (4096 - ((r : Nat) : Int)) = k + 1 from HK.out]; exact ST.out.rk.blk⟩ ST.out.sub hSb hmb ST.out.inv OK0.out AK0.out hz0).mono ?_
          rintro e w0 ⟨rfl, hR, hG⟩
          rw [← P0E.out] at hR ⊢
          have HR0 := Lib.hid hR
          have HG0 := Lib.hid hG
          clear hR hG
          by_cases e0 : P0.1.2 = 0
          · rw [show endsAs P0.1 = .returned (.int .i64 P0.1.1) from if_pos e0]
            have hwb : m < _ := hmc
            replace ST := Lib.hid (ST.out.turn HG0.out (HR0.out e0) (by omega) (by omega) hTb2 hmd)
            replace GW := Lib.hid ST.out.g
            have hmd : m < w0.heap.size := by have := ST.out.rk.lt; omega
            clear g0 g1 g2 g3 g4 g5 g6 g7 y3 AK0 AK1
            have hat := ST.out.at_
            rw [HX.out] at hat
            obtain ⟨B, o, hp, hl⟩ := hat
            have hp2 : x.p = some ⟨B, o, none⟩ := by
              rcases hp with h | h
              · cases h
              · exact h
            have y3 := ST.out.box.c3
            rw [hp2, HX.out] at y3
            simp only [Ts.len] at y3
            obtain ⟨g0, g1, g2, g3, ha0, g4, g5, g6, g7, ha1, -⟩ := hl
            have AK0 := Lib.hid ha0
            have AK1 := Lib.hid ha1
            clear hp hp2 ha0 ha1
            go_upto_region 17 with fail
            go_wp2_with fail
            refine (IH.out P0.2 (by omega) (by omega) ⟨k1, s1, n1, p1, c1, ks1⟩ w0 b S m n ⟨by rw [show (4096 - ((P0.2 : Nat) : Int)) = (4096 - ((P0.2 : Nat) : Int)) from rfl]; exact ST.out.rk.blk⟩ ST.out.sub hSb hmb ST.out.inv OK1.out AK1.out hz1).mono ?_
            rintro e w1 ⟨rfl, hR, hG⟩
            rw [← P1E.out] at hR ⊢
            have HR1 := Lib.hid hR
            have HG1 := Lib.hid hG
            clear hR hG
            by_cases e1 : P1.1.2 = 0
            · rw [show endsAs P1.1 = .returned (.int .i64 P1.1.1) from if_pos e1]
              have hwb : m < _ := hmc
              replace ST := Lib.hid (ST.out.turn HG1.out (HR1.out e1) (by omega) (by omega) hTb2 hmd)
              replace GW := Lib.hid ST.out.g
              have hmd : m < w1.heap.size := by have := ST.out.rk.lt; omega
              clear g0 g1 g2 g3 g4 g5 g6 g7 y3
              have IO := Lib.hid (opR_i64 j IX.out IY.out)
              obtain ⟨R, hRR⟩ : ∃ R, R = opR j P0.1.1 P1.1.1 := ⟨_, rfl⟩
              have hop := fun W => op_any j JL.out P0.1.1 P1.1.1 IX.out IY.out W
              rw [← hRR] at hop
              have HOP := Lib.hid hop
              have RKE : Hid (rk σ (f + 1) (r + 1) t = (R, P1.2)) := Lib.hid (by rw [hRR]; rw [RKT.out]; simp only [rkOp]; rw [← P0E.out, ← P1E.out, if_neg (by simpa using e0), if_neg (by simpa using e1)])
              clear hop hRR
              go_wp2_with fail
              refine (HOP.out _).mono ?_
              rintro e w9 ⟨rfl, rfl⟩
              by_cases hE : R.2 = 0
              · rw [show endsAs R = .returned (.int .i64 R.1) from if_pos hE]
                go_wp2
                go_ret
                rw [RKE.out]
                exact ⟨(if_pos hE).symm, (fun _ => ST.out.rk), GW.out⟩
              · rw [show endsAs R = .panicked (thrown R.2) from if_neg hE]
                refine ⟨rfl, ?_⟩
                rw [RKE.out]
                exact ⟨(if_neg hE).symm, (fun h => absurd h hE), GW.out⟩
            · have RKE : Hid (rk σ (f + 1) (r + 1) t = ((0, P1.1.2), P1.2)) := Lib.hid (by rw [RKT.out]; simp only [rkOp]; rw [← P0E.out, ← P1E.out, if_neg (by simpa using e0), if_pos e1])
              rw [show endsAs P1.1 = .panicked (thrown P1.1.2) from if_neg e1]
              refine ⟨rfl, ?_⟩
              rw [RKE.out]
              exact ⟨(if_neg e1).symm, (fun h => absurd h e1), GW.out.trans HG1.out⟩
          · have RKE : Hid (rk σ (f + 1) (r + 1) t = ((0, P0.1.2), P0.2)) := Lib.hid (by rw [RKT.out]; simp only [rkOp]; rw [← P0E.out, if_pos e0])
            rw [show endsAs P0.1 = .panicked (thrown P0.1.2) from if_neg e0]
            refine ⟨rfl, ?_⟩
            rw [RKE.out]
            exact ⟨(if_neg e0).symm, (fun h => absurd h e0), GW.out.trans HG0.out⟩
    · have x4n : (x.k != 4) = true := by simpa using x4
      have RKE : Hid (rk σ (f + 1) (r + 1) t = ((0, 21), r)) := Lib.hid (by rw [RKS.out, show opOf x = none by unfold opOf; rw [if_neg x4], rkOp_none])
      go_wp2
      refine ⟨rfl, ?_⟩
      rw [RKE.out]
      exact ⟨rfl, (fun h => by cases h), GW.out⟩

end Go.Proofs.YtnmhnaanpjlniaaGreat
/-
  Layer 13: Eval, of whatever term; known numbers.
-/
namespace Go.Proofs.YtnmhnaanpjlniaaGreat
open Go.RowKit

/-- what is answered of a number, or an error -/
def ansOf (R : Int × Int) : Value := .tuple #[.int .i64 (if R.2 = 0 then R.1 else 0), .int .i64 R.2]

theorem eval_gen (S : Nat) (σ : Sb) (n : Nat) (w : World) (hS : SubAt S σ n w) (t : Nd) (hok : t.ok) (hat : Ts.At w t.p t.kids) (hsz : t.kids.size ≤ 5000) :
    Calls Tryz.prog 111 #[.pointer (some ⟨S, 0, none⟩), .agg #[.int .u8 t.k, .string t.s, .int .i64 t.n, .slice t.p t.kids.len t.c]] w fun e w' => e = .returned (ansOf (rk σ 4096 4096 t).1) ∧ Below w.heap.size w w' := by
  refine (eval_any _ _ _ _ w ⟨S, 0, none⟩ (rk σ 4096 4096 t).1 ?_).mono ?_
  · intro W b m hB hm hmb hR hO
    have hSl := hS.lt
    refine (reckon_any σ (fun v x hx => (hS.at_ v x hx).2.1) 4096 4096 (Nat.le_refl _) (Nat.le_refl _) t W b S m n ⟨hR.blk⟩ (hS.below hB) (by omega) hmb hO hok (hat.below hB) hsz).mono ?_
    rintro e w' ⟨rfl, _, hg⟩
    have hb := hR.lt
    exact ⟨rfl, hg.os, hg.tape, hg.output, hg.size, fun k hk => hg.block k (by omega) (fun e => by cases e; omega)⟩
  · rintro e w' ⟨rfl, hB⟩
    exact ⟨rfl, hB⟩

theorem rk_succ (σ : Sb) (f r : Nat) (t : Nd) : rk σ (f + 1) r t = if r = 0 then ((0, 31), 0) else if ((wk σ t).k == 1) = true then ((0, 20), r - 1) else if ((wk σ t).k == 2) = true then (((wk σ t).n, 0), r - 1) else rkOp (rk σ f) (r - 1) (opOf (wk σ t)) (elems (wk σ t).kids) := rfl
theorem wk_none (t : Nd) : wk Sb.none t = t := wk_stop (.inr rfl)

/-- two leaves and a name -/
def twoN (c : ByteArray) (k : Int) (x : Int) (k' : Int) (y : Int) : Nd := ⟨4, c, 0, none, 0, .cons k ⟨#[]⟩ x none 0 .nil (.cons k' ⟨#[]⟩ y none 0 .nil .nil)⟩

theorem rk_leaf (f r : Nat) (x : Int) (hr : 0 < r) : rk Sb.none (f + 1) r ⟨2, ⟨#[]⟩, x, none, 0, .nil⟩ = ((x, 0), r - 1) := by
  rw [rk_succ, wk_none]
  rw [if_neg (by omega), if_neg (by simp), if_pos (by rfl)]
theorem rk_two (c : ByteArray) (x y : Int) {j : Nat} (hj : opIdx (funKey c 2) = some j) : (rk Sb.none 4096 4096 (twoN c 2 x 2 y)).1 = opR j x y := by
  have e : rk Sb.none (4095 + 1) 4096 (twoN c 2 x 2 y) = rkOp (rk Sb.none 4095) 4095 (some j) [⟨2, ⟨#[]⟩, x, none, 0, .nil⟩, ⟨2, ⟨#[]⟩, y, none, 0, .nil⟩] := by
    rw [rk_succ, wk_none]
    have ho : opOf (twoN c 2 x 2 y) = some j := by
      unfold opOf
      rw [if_pos (by rfl)]
      exact hj
    rw [if_neg (by omega), if_neg (by simp [twoN]), if_neg (by simp [twoN]), ho]
    rfl
  rw [e]
  simp only [rkOp]
  rw [rk_leaf 4094 4095 x (by omega), if_neg (by simp)]
  simp only
  rw [rk_leaf 4094 4094 y (by omega), if_neg (by simp)]
theorem rk_atom : (rk Sb.none 4096 4096 ⟨3, ⟨#[97]⟩, 0, none, 0, .nil⟩).1 = (0, 21) := by
  have e : rk Sb.none (4095 + 1) 4096 ⟨3, ⟨#[97]⟩, 0, none, 0, .nil⟩ = ((0, 21), 4095) := by
    rw [rk_succ, wk_none]
    have ho : opOf ⟨3, ⟨#[97]⟩, 0, none, 0, .nil⟩ = none := by
      unfold opOf
      rw [if_neg (by decide)]
    rw [if_neg (by omega), if_neg (by decide), if_neg (by decide), ho, rkOp_none]
  rw [e]


end Go.Proofs.YtnmhnaanpjlniaaGreat
/-
  Layer 13: the law's known numbers.
-/
namespace Go.Proofs.YtnmhnaanpjlniaaGreat
open Go.RowKit







end Go.Proofs.YtnmhnaanpjlniaaGreat
/-
  Layer 13: the law ArithApplied: its plain facts.
-/
namespace Go.Proofs.YtnmhnaanpjlniaaGreat
open Go.RowKit





theorem bGreat_1000 {l : List (Int × Nd)} {t : Nd} (h : bGreat l t = false) : t.kids.size ≤ 1000 := by
  unfold bGreat at h
  by_cases h40 : 40 < l.length
  · rw [if_pos h40] at h; cases h
  · rw [if_neg h40] at h
    have := small_of_many (ts := .cons t.k t.s t.n t.p t.c t.kids (bsTs l)) (by simpa using h)
    simp only [Ts.size] at this
    omega



/-- what Apply tells -/
def ApG (σ : Sb) (t X : Nd) (G : Int) (w : World) : Prop :=
  ((vis σ 4097 [t]).length = 4097 ∧ X = ⟨0, ⟨#[]⟩, 0, none, 0, .nil⟩ ∧ G = 31) ∨ ((vis σ 4097 [t]).length ≤ 4096 ∧ G = 0 ∧ Ap σ t X ∧ Ts.At w X.p X.kids)

theorem ApG.below {σ : Sb} {t X : Nd} {G : Int} {w w' : World} (h : ApG σ t X G w) (hB : Below w.heap.size w w') : ApG σ t X G w' := by
  rcases h with h | ⟨h1, h2, h3, h4⟩
  · exact .inl h
  · exact .inr ⟨h1, h2, h3, h4.below hB⟩

theorem Applied.formG {σ : Sb} {t : Nd} {B : Nat} {e : Ending} {w' : World} (h : Applied σ t B e w') : ∃ (X : Nd) (G : Int), e = .returned (.tuple #[.agg #[.int .u8 X.k, .string X.s, .int .i64 X.n, .slice X.p X.kids.len X.c], .int .i64 G]) ∧ ApG σ t X G w' := by
  rcases h.cases with ⟨h1, h2⟩ | ⟨h1, X, h2, h3, h4⟩
  · exact ⟨⟨0, ⟨#[]⟩, 0, none, 0, .nil⟩, 31, h2, .inl ⟨h1, rfl, rfl⟩⟩
  · exact ⟨X, 0, h2, .inr ⟨h1, rfl, h3, h4.at⟩⟩

end Go.Proofs.YtnmhnaanpjlniaaGreat
