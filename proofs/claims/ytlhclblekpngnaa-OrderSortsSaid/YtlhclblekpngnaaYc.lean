/-
  Layer 2: a row of terms in a block, as a function of places; insertion puts it in order.
-/
import Derived.Test.YtlhclblekpngnaaYb
import Derived.Test.YtlhclblekpngnaaXf
namespace Go.Proofs.Ytlhclblekpngnaa
open Go.RowKit

structure It where
  k : Int
  s : ByteArray
  n : Int
  p : Option Addr
  c : Nat
  us : Ts

def It.ok (x : It) : Prop := Ts.ok (.cons x.k x.s x.n x.p x.c x.us .nil)

def It.lies (x : It) (R : Nat) (w : World) (o : Nat) : Prop := w.cell? ⟨R, o, none⟩ = some (.int .u8 x.k) ∧ w.cell? ⟨R, o + 1, none⟩ = some (.string x.s) ∧ w.cell? ⟨R, o + 2, none⟩ = some (.int .i64 x.n) ∧ w.cell? ⟨R, o + 3, none⟩ = some (.slice x.p x.us.len x.c) ∧ Ts.AtB (R + 1) w x.p x.us

def cmI (x y : It) : Int := cmpT x.k y.k x.s y.s x.n y.n x.us y.us (cmpL x.us y.us)

theorem cmI_cmp : Cmp cmI := ⟨fun _ _ => cmpT_neg (cmpL_neg _ _), fun _ _ _ => cmpT_tri fun h h' => cmpL_tri _ _ _ h h'⟩

/-- a list of its own, to write into, by places -/
structure OwnF (R n : Nat) (d : Nat → It) (w : World) : Prop where
  lt : R < w.heap.size
  fr : ∀ x, w.frozen? ⟨R, x, none⟩ = false
  row : ∀ i, i < n → (d i).lies R w (i * 4)
  ok : ∀ i, i < n → (d i).ok

theorem OwnF.below {R n : Nat} {d : Nat → It} {w w' : World} (h : OwnF R n d w) (hB : Below w.heap.size w w') : OwnF R n d w' :=
  ⟨Nat.lt_of_lt_of_le h.lt hB.size, fun x => ((stays hB).2 _ _ h.lt).trans (h.fr x), fun i hi => by
    obtain ⟨h0, h1, h2, h3, h4⟩ := h.row i hi
    exact ⟨((stays hB).1 _ _ h.lt).trans h0, ((stays hB).1 _ _ h.lt).trans h1, ((stays hB).1 _ _ h.lt).trans h2, ((stays hB).1 _ _ h.lt).trans h3, h4.stay (Nat.le_refl _) fun b y _ hl => (stays hB).1 _ _ hl⟩, h.ok⟩

/-- two places have changed what they hold -/
theorem swapF_step {R n : Nat} {W w : World} {d : Nat → It} {i j : Nat} (h : OwnF R n d W) (hi : i < n) (hj : j < n) (hij : i ≠ j) (hB : Below R w W) :
    ∃ W', W' = ((((((((W.setCell ⟨R, i * 4, none⟩ (.int .u8 (d j).k)).setCell ⟨R, i * 4 + 1, none⟩ (.string (d j).s)).setCell ⟨R, i * 4 + 2, none⟩ (.int .i64 (d j).n)).setCell ⟨R, i * 4 + 3, none⟩ (.slice (d j).p (d j).us.len (d j).c)).setCell ⟨R, j * 4, none⟩ (.int .u8 (d i).k)).setCell ⟨R, j * 4 + 1, none⟩ (.string (d i).s)).setCell ⟨R, j * 4 + 2, none⟩ (.int .i64 (d i).n)).setCell ⟨R, j * 4 + 3, none⟩ (.slice (d i).p (d i).us.len (d i).c)) ∧
      OwnF R n (swp d i j) W' ∧ Below R w W' := by
  obtain ⟨a0, a1, a2, a3, a4⟩ := h.row i hi
  obtain ⟨b0, b1, b2, b3, b4⟩ := h.row j hj
  obtain ⟨V, hV, sV, oV, rV, v0, v1, v2, v3, fV, bV⟩ := put4 W R (i * 4) (.int .u8 (d j).k) (.string (d j).s) (.int .i64 (d j).n) (.slice (d j).p (d j).us.len (d j).c) (by rw [a0]; rfl) (by rw [a1]; rfl) (by rw [a2]; rfl) (by rw [a3]; rfl)
  obtain ⟨U, hU, sU, oU, rU, u0, u1, u2, u3, fU, bU⟩ := put4 V R (j * 4) (.int .u8 (d i).k) (.string (d i).s) (.int .i64 (d i).n) (.slice (d i).p (d i).us.len (d i).c) (by rw [rV _ (by omega), b0]; rfl) (by rw [rV _ (by omega), b1]; rfl) (by rw [rV _ (by omega), b2]; rfl) (by rw [rV _ (by omega), b3]; rfl)
  have ho : ∀ b y, b ≠ R → U.cell? ⟨b, y, none⟩ = W.cell? ⟨b, y, none⟩ := fun b y hb => (oU b y hb).trans (oV b y hb)
  have hat : ∀ (x : It), Ts.AtB (R + 1) W x.p x.us → Ts.AtB (R + 1) U x.p x.us := fun x hx => hx.stay (Nat.le_refl _) fun b y hb _ => ho b y (by omega)
  refine ⟨U, by rw [hU, hV], ⟨by rw [sU, sV]; exact h.lt, fun x => by rw [fU, fV]; exact h.fr x, fun m hm => ?_, fun m hm => ?_⟩, bU _ _ (Nat.le_refl _) (bV _ _ (Nat.le_refl _) hB)⟩
  · rw [swp_at]
    by_cases e1 : m = j
    · subst e1
      rw [if_pos rfl]
      exact ⟨u0, u1, u2, u3, hat _ a4⟩
    · rw [if_neg e1]
      by_cases e2 : m = i
      · subst e2
        rw [if_pos rfl]
        exact ⟨(rU _ (by omega)).trans v0, (rU _ (by omega)).trans v1, (rU _ (by omega)).trans v2, (rU _ (by omega)).trans v3, hat _ b4⟩
      · rw [if_neg e2]
        obtain ⟨c0, c1, c2, c3, c4⟩ := h.row m hm
        exact ⟨((rU _ (by omega)).trans (rV _ (by omega))).trans c0, ((rU _ (by omega)).trans (rV _ (by omega))).trans c1, ((rU _ (by omega)).trans (rV _ (by omega))).trans c2, ((rU _ (by omega)).trans (rV _ (by omega))).trans c3, hat _ c4⟩
  · rw [swp_at]
    split
    · exact h.ok i hi
    · split
      · exact h.ok j hj
      · exact h.ok m hm

/-- a list's things by their places -/
def itemAt (ts : Ts) (i : Nat) : It := match ts.drop i with
  | .cons k s n p c us _ => ⟨k, s, n, p, c, us⟩
  | .nil => ⟨0, ⟨#[]⟩, 0, none, 0, .nil⟩

theorem itemAt_eq {ts : Ts} {i : Nat} {k : Int} {s : ByteArray} {n : Int} {p : Option Addr} {c : Nat} {us r : Ts} (h : ts.drop i = .cons k s n p c us r) : itemAt ts i = ⟨k, s, n, p, c, us⟩ := by
  unfold itemAt
  rw [h]

theorem OwnS.toF {R : Nat} {us : Ts} {w : World} (h : OwnS R us w) : OwnF R us.len (itemAt us) w := by
  refine ⟨h.lt, h.fr, fun i hi => ?_, fun i hi => ?_⟩
  · obtain ⟨k, s, n, p, c, ks, r, hd⟩ := Ts.drop_cons hi
    obtain ⟨h0, h1, h2, h3, h4, _⟩ := h.row.get hd
    rw [itemAt_eq hd]
    simp only [Nat.zero_add] at h0 h1 h2 h3
    exact ⟨h0, h1, h2, h3, h4⟩
  · obtain ⟨k, s, n, p, c, ks, r, hd⟩ := Ts.drop_cons hi
    have hok := Ts.ok_drop i us h.ok
    rw [hd] at hok
    rw [itemAt_eq hd]
    exact ⟨hok.1, hok.2.1, hok.2.2.1, hok.2.2.2.1, hok.2.2.2.2.1, hok.2.2.2.2.2.1, trivial⟩

theorem itemAt_cons (k : Int) (s : ByteArray) (n : Int) (p : Option Addr) (c : Nat) (us r : Ts) (i : Nat) : itemAt (.cons k s n p c us r) (i + 1) = itemAt r i := rfl
theorem itemAt_zero (k : Int) (s : ByteArray) (n : Int) (p : Option Addr) (c : Nat) (us r : Ts) : itemAt (.cons k s n p c us r) 0 = ⟨k, s, n, p, c, us⟩ := rfl

theorem itemAt_swap : ∀ (j : Nat) (ts : Ts), j + 1 < ts.len → itemAt (ts.swap j) = swp (itemAt ts) (j + 1) j
  | _, .nil, h => by simp [Ts.len] at h
  | 0, .cons _ _ _ _ _ _ .nil, h => by simp [Ts.len] at h
  | 0, .cons k s n p c us (.cons k' s' n' p' c' us' r), _ => by
    funext i
    rw [swp_at]
    match i with
    | 0 => rfl
    | 1 => rfl
    | i + 2 => rfl
  | j + 1, .cons k s n p c us r, h => by
    have ih := itemAt_swap j r (by simp only [Ts.len] at h; omega)
    funext i
    rw [swp_at]
    match i with
    | 0 => rfl
    | i + 1 =>
      have e : itemAt (Ts.swap (j + 1) (.cons k s n p c us r)) (i + 1) = itemAt (r.swap j) i := rfl
      rw [e, ih, swp_at]
      by_cases h1 : i = j
      · rw [if_pos h1, if_pos (show i + 1 = j + 1 by omega)]; rfl
      · rw [if_neg h1, if_neg (show ¬ i + 1 = j + 1 by omega)]
        by_cases h2 : i = j + 1
        · rw [if_pos h2, if_pos (show i + 1 = j + 1 + 1 by omega)]; rfl
        · rw [if_neg h2, if_neg (show ¬ i + 1 = j + 1 + 1 by omega)]; rfl

theorem ltAt_eq {ts : Ts} {j : Nat} (h : j + 1 < ts.len) : ltAt j ts = decide (cmI (itemAt ts (j + 1)) (itemAt ts j) < 0) := by
  obtain ⟨k, s, n, p, c, ks, k', s', n', p', c', ks', r, hd⟩ := two_at h
  have hd' := Ts.drop_succ j ts hd
  unfold ltAt
  rw [hd, itemAt_eq hd, itemAt_eq hd']
  rfl

theorem insIn_facts {a i : Nat} {d0 : Nat → It} (hs : SortedF cmI d0 a i) : ∀ (j : Nat) (ts : Ts), i < ts.len → a ≤ j → j ≤ i → itemAt ts = movedDown d0 i j → (∀ k, j ≤ k → k < i → cmI (d0 i) (d0 k) < 0) →
    SortedF cmI (itemAt (insIn a j ts)) a (i + 1) ∧ PermF a (i + 1) (itemAt ts) (itemAt (insIn a j ts))
  | 0, ts, _, ha, _, he, hl => by
    refine ⟨?_, PermF.refl _ _ _⟩
    show SortedF cmI (itemAt ts) a (i + 1)
    rw [he]
    exact down_sorted cmI_cmp hs ha (Nat.zero_le _) (fun k _ h => by omega) hl
  | j + 1, ts, hlen, ha, hji, he, hl => by
    by_cases hgo : a < j + 1 ∧ ltAt j ts = true
    · rw [insIn_go hgo.1 hgo.2]
      have hlt := hgo.2
      rw [ltAt_eq (by omega), he] at hlt
      have hx : cmI (d0 i) (d0 j) < 0 := by
        have h1 : movedDown d0 i (j + 1) (j + 1) = d0 i := by unfold movedDown; rw [if_neg (by omega), if_pos rfl]
        have h2 : movedDown d0 i (j + 1) j = d0 j := by unfold movedDown; rw [if_neg (by omega), if_neg (by omega)]
        rw [h1, h2] at hlt
        simpa using hlt
      have hsw := itemAt_swap j ts (by omega)
      obtain ⟨r1, r2⟩ := insIn_facts hs j (ts.swap j) (by rw [swap_len]; exact hlen) (by omega) (by omega) (by rw [hsw, he, movedDown_step d0 hji]) (fun k h1 h2 => by
        by_cases e : k = j
        · rw [e]; exact hx
        · exact hl k (by omega) h2)
      refine ⟨r1, PermF.trans ?_ r2⟩
      rw [hsw]
      exact PermF.swp _ (by omega) (by omega)
    · have hstop : insIn a (j + 1) ts = ts := by
        unfold insIn
        rw [if_neg hgo]
      rw [hstop]
      refine ⟨?_, PermF.refl _ _ _⟩
      rw [he]
      refine down_sorted cmI_cmp hs ha hji (fun k h1 h2 => ?_) hl
      by_cases haj : a < j + 1
      · have hnl : ¬ ltAt j ts = true := fun h => hgo ⟨haj, h⟩
        rw [ltAt_eq (by omega), he] at hnl
        have h3 : movedDown d0 i (j + 1) (j + 1) = d0 i := by unfold movedDown; rw [if_neg (by omega), if_pos rfl]
        have h4 : movedDown d0 i (j + 1) j = d0 j := by unfold movedDown; rw [if_neg (by omega), if_neg (by omega)]
        rw [h3, h4] at hnl
        exact down_less cmI_cmp (d0 i) hs (by omega) (by simpa using hnl) k h1 h2
      · omega

theorem insOut_facts {a b : Nat} : ∀ (m i : Nat) (ts : Ts), m = b - i → a < i → b ≤ ts.len → SortedF cmI (itemAt ts) a i → SortedF cmI (itemAt (insOut a m i ts)) a (max b i) ∧ PermF a (max b i) (itemAt ts) (itemAt (insOut a m i ts))
  | 0, i, ts, hm, _, _, hs => by
    rw [show max b i = i by omega]
    exact ⟨hs, PermF.refl _ _ _⟩
  | m + 1, i, ts, hm, hai, hb, hs => by
    have hib : i < b := by omega
    obtain ⟨s1, p1⟩ := insIn_facts hs i ts (by omega) (by omega) (Nat.le_refl _) (movedDown_start _ _).symm (fun k h1 h2 => by omega)
    obtain ⟨s2, p2⟩ := insOut_facts (a := a) (b := b) m (i + 1) (insIn a i ts) (by omega) (by omega) (by rw [insIn_len]; exact hb) s1
    rw [show max b (i + 1) = max b i by omega] at s2 p2
    exact ⟨s2, (p1.wide (Nat.le_refl _) (by omega)).trans p2⟩

/-- insertion puts in order -/
theorem insOut_sorted {a b : Nat} {ts : Ts} (hab : a ≤ b) (hb : b ≤ ts.len) : SortedF cmI (itemAt (insOut a (b - (a + 1)) (a + 1) ts)) a b ∧ PermF a b (itemAt ts) (itemAt (insOut a (b - (a + 1)) (a + 1) ts)) := by
  by_cases h : a < b
  · have := insOut_facts (a := a) (b := b) (b - (a + 1)) (a + 1) ts rfl (by omega) hb (SortedF.small cmI_cmp _ (by omega))
    rwa [show max b (a + 1) = b by omega] at this
  · rw [show b - (a + 1) = 0 by omega]
    exact ⟨SortedF.small cmI_cmp _ (by omega), PermF.refl _ _ _⟩

end Go.Proofs.Ytlhclblekpngnaa
