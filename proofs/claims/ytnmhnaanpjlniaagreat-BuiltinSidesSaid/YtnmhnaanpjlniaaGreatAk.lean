import Derived.Test.YtnmhnaanpjlniaaGreatAd
import Derived.Test.YtnmhnaanpjlniaaGreatXa
import Derived.Deep.DeepCutAuto
/-
  Layer 3: a term walked.
-/
namespace Go.Proofs.YtnmhnaanpjlniaaGreat
open Go.RowKit Go.Maps

def Nd.ok (x : Nd) : Prop := Ts.ok (.cons x.k x.s x.n x.p x.c x.kids .nil)

theorem wkn_same {σ : Sb} (hE : Ends σ) {x y : Nd} (hk : x.k = y.k) (hn : x.n = y.n) : wkn σ x = wkn σ y := by
  by_cases h : (x.k == 1) = true
  · cases hb : σ x.n with
    | none => rw [wkn_eq (.stop (.inr hb)), wkn_eq (.stop (.inr (by rw [← hn]; exact hb)))]
    | some b =>
      have h' : (y.k == 1) = true := by rw [← hk]; exact h
      have hb' : σ y.n = some b := by rw [← hn]; exact hb
      rw [wkn_go hE h hb, wkn_go hE h' hb']
  · rw [Bool.not_eq_true] at h
    rw [wkn_eq (.stop (.inl h)), wkn_eq (.stop (.inl (by rw [← hk]; exact h)))]

/-- how far a term in a box is from being walked -/
noncomputable def boxFar (σ : Sb) (B : Nat) (w : World) : Nat :=
  match w.cell? ⟨B, 0, none⟩, w.cell? ⟨B, 2, none⟩ with
  | some (.int _ k), some (.int _ n) => wkn σ ⟨k, ⟨#[]⟩, n, none, 0, .nil⟩
  | _, _ => 0

structure BoxIs (B : Nat) (x : Nd) (w : World) : Prop where
  c0 : w.cell? ⟨B, 0, none⟩ = some (.int .u8 x.k)
  c1 : w.cell? ⟨B, 1, none⟩ = some (.string x.s)
  c2 : w.cell? ⟨B, 2, none⟩ = some (.int .i64 x.n)
  c3 : w.cell? ⟨B, 3, none⟩ = some (.slice x.p x.kids.len x.c)
  fr : ∀ i, w.frozen? ⟨B, i, none⟩ = false

theorem BoxIs.far {σ : Sb} (hE : Ends σ) {B : Nat} {x : Nd} {w : World} (h : BoxIs B x w) : boxFar σ B w = wkn σ x := by
  unfold boxFar
  rw [h.c0, h.c2]
  exact wkn_same hE rfl rfl

theorem BoxIs.lt {B : Nat} {x : Nd} {w : World} (h : BoxIs B x w) : B < w.heap.size := World.block_lt_of_cell? _ _ h.c0

theorem BoxIs.below {B : Nat} {x : Nd} {w w' : World} (h : BoxIs B x w) (hB : Below w.heap.size w w') : BoxIs B x w' := by
  have hl := h.lt
  exact ⟨((stays hB).1 _ _ hl).trans h.c0, ((stays hB).1 _ _ hl).trans h.c1, ((stays hB).1 _ _ hl).trans h.c2, ((stays hB).1 _ _ hl).trans h.c3, fun i => ((stays hB).2 _ _ hl).trans (h.fr i)⟩

theorem BoxIs.of_block {B : Nat} {x : Nd} {w w' : World} (h : BoxIs B x w) (hb : w'.heap[B]? = w.heap[B]?) : BoxIs B x w' := by
  have e := fun i => World.cell?_of_block (w := w) (w' := w') (a := ⟨B, i, none⟩) hb
  exact ⟨(e 0).trans h.c0, (e 1).trans h.c1, (e 2).trans h.c2, (e 3).trans h.c3, fun i => (World.frozen?_of_block (w := w) (w' := w') (a := ⟨B, i, none⟩) hb).trans (h.fr i)⟩

theorem BoxIs.new (w : World) (x : Nd) (t : TypeId) : BoxIs w.heap.size x (w.alloc (.cells #[.int .u8 x.k, .string x.s, .int .i64 x.n, .slice x.p x.kids.len x.c] t)) := by
  obtain ⟨W, hW, hs, hB, hc, hf⟩ := alloc_new w #[.int .u8 x.k, .string x.s, .int .i64 x.n, .slice x.p x.kids.len x.c] t
  rw [← hW]
  exact ⟨hc 0 _ rfl, hc 1 _ rfl, hc 2 _ rfl, hc 3 _ rfl, hf⟩

/-- a box's term is put away for another one -/
theorem BoxIs.put {B : Nat} {x y : Nd} {w : World} (h : BoxIs B x w) : BoxIs B y ((((w.setCell ⟨B, 0, none⟩ (.int .u8 y.k)).setCell ⟨B, 1, none⟩ (.string y.s)).setCell ⟨B, 2, none⟩ (.int .i64 y.n)).setCell ⟨B, 3, none⟩ (.slice y.p y.kids.len y.c)) := by
  obtain ⟨W, hW, hs, ho, hr, q0, q1, q2, q3, hf, _⟩ := put4 w B 0 (.int .u8 y.k) (.string y.s) (.int .i64 y.n) (.slice y.p y.kids.len y.c) (by rw [h.c0]; rfl) (by rw [h.c1]; rfl) (by rw [h.c2]; rfl) (by rw [h.c3]; rfl)
  simp only [Nat.zero_add] at hW q0 q1 q2 q3
  rw [← hW]
  exact ⟨q0, q1, q2, q3, fun i => (hf _ _).trans (h.fr i)⟩

set_option maxRecDepth 100000 in
set_option maxHeartbeats 4000000 in
theorem walked_any (S : Nat) (σ : Sb) (m : Nat) (w : World) (h : SubAt S σ m w) (k : Int) (s : ByteArray) (n : Int) (p : Option Addr) (kids : Ts) (c : Nat) (hn : -9223372036854775808 ≤ n ∧ n ≤ 9223372036854775807) :
    Calls Tryz.prog 43 #[.pointer (some ⟨S, 0, none⟩), .agg #[.int .u8 k, .string s, .int .i64 n, .slice p kids.len c]] w fun e w' => e = .returned (wk σ ⟨k, s, n, p, c, kids⟩).val ∧ Below w.heap.size w w' := by
  have SB := Lib.hid h
  have hSl := h.lt
  clear h
  go_enter Tryz.func43, Tryz.ntmps43
  go_wp2_with fail
  obtain ⟨W0, hW0⟩ : ∃ W0, W0 = (w.alloc (.cells #[.int .u8 k, .string s, .int .i64 n, .slice p kids.len c] 25)).alloc (.cells #[.int .u8 0, .string ⟨#[]⟩, .int .i64 0, .slice none 0 0] 25) := ⟨_, rfl⟩
  rw [← hW0]
  have hs0 : W0.heap.size = w.heap.size + 2 := by rw [hW0]; simp
  have hB0 : Below w.heap.size w W0 := by rw [hW0]; exact below2 _ _ _
  have hX0 : BoxIs w.heap.size ⟨k, s, n, p, c, kids⟩ W0 := by rw [hW0]; exact (BoxIs.new w ⟨k, s, n, p, c, kids⟩ _).below ((Below.refl _ _).alloc (Nat.le_refl _) _)
  have hY0 : BoxIs (w.heap.size + 1) ⟨0, ⟨#[]⟩, 0, none, 0, .nil⟩ W0 := by
    have := BoxIs.new (w.alloc (.cells #[.int .u8 k, .string s, .int .i64 n, .slice p kids.len c] 25)) ⟨0, ⟨#[]⟩, 0, none, 0, .nil⟩ 25
    rw [World.size_alloc] at this
    rw [hW0]; exact this
  have X0 := Lib.hid hX0
  have Y0 := Lib.hid hY0
  have B0 := Lib.hid hB0
  have Z0 := Lib.hid hs0
  clear hW0 hX0 hY0 hB0 hs0
  go_loopw [] (fun wr => ∃ x : Nd, Hid (BoxIs w.heap.size x wr) ∧ Hid (BoxIs (w.heap.size + 1) ⟨0, ⟨#[]⟩, 0, none, 0, .nil⟩ wr) ∧ Hid (Below w.heap.size w wr) ∧ Hid (wk σ x = wk σ ⟨k, s, n, p, c, kids⟩) ∧ (-9223372036854775808 ≤ x.n ∧ x.n ≤ 9223372036854775807)) (fun wr => boxFar σ w.heap.size wr)
  case atStart => exact ⟨⟨k, s, n, p, c, kids⟩, X0, Y0, B0, Lib.hid rfl, hn⟩
  case round =>
    obtain ⟨x, XX, YY, BB, WK, hxn⟩ := hrel
    have FAR := Lib.hid (XX.out.far SB.out.ends : boxFar σ w.heap.size wr = wkn σ x)
    have c0 := XX.out.c0
    have c1 := XX.out.c1
    have c2 := XX.out.c2
    have c3 := XX.out.c3
    have f0 := XX.out.fr
    have y0 := YY.out.c0
    have y1 := YY.out.c1
    have y2 := YY.out.c2
    have y3 := YY.out.c3
    have g0 := YY.out.fr
    by_cases hk : (x.k == 1) = true
    · have hsl : S < wr.heap.size := Nat.lt_of_lt_of_le hSl BB.out.size
      go_wp2_with fail
      refine (binding_any S σ m wr (SB.out.below BB.out) x.n hxn).mono ?_
      rintro e w1 ⟨rfl, hB1⟩
      replace XX := Lib.hid (XX.out.below hB1)
      replace YY := Lib.hid (YY.out.below hB1)
      replace BB := Lib.hid (BB.out.trans (hB1.mono BB.out.size))
      clear hB1 c0 c1 c2 c3 f0 y0 y1 y2 y3 g0 hsl
      cases hb : σ x.n with
      | none =>
        have HW := Lib.hid (wk_stop (.inr hb) : wk σ x = x)
        rw [valOf_none]
        clear hb
        obtain ⟨W2, hW2⟩ : ∃ W2, W2 = w1.alloc (.cells #[.int .u8 0, .string ⟨#[]⟩, .int .i64 0, .slice none 0 0] 25) := ⟨_, rfl⟩
        have hB2 : Below w1.heap.size w1 W2 := by rw [hW2]; exact (Below.refl _ _).alloc (Nat.le_refl _) _
        replace XX := Lib.hid (XX.out.below hB2)
        replace YY := Lib.hid (YY.out.below hB2)
        replace BB := Lib.hid (BB.out.trans (hB2.mono BB.out.size))
        have c0 := XX.out.c0
        have c1 := XX.out.c1
        have c2 := XX.out.c2
        have c3 := XX.out.c3
        have y0 := YY.out.c0
        have y1 := YY.out.c1
        have y2 := YY.out.c2
        have y3 := YY.out.c3
        have g0 := YY.out.fr
        have Z2 := Lib.hid hW2
        clear hB2 hW2
        go_upto_region 3 with fail
        rw [← Z2.out]
        go_wp2
        have P := YY.out.put (y := x)
        have p0 := P.c0
        have p1 := P.c1
        have p2 := P.c2
        have p3 := P.c3
        exact bodyPost_ret (v := x.val) (by simp [results, Tryz.results43, go_sem, p0, p1, p2, p3, Nd.val]) rfl ⟨by rw [← WK.out, HW.out], below_put4 BB.out (Nat.le_succ _) _ _ _ _⟩
      | some b =>
        have HW := Lib.hid (wk_go SB.out.ends hk hb : wk σ x = wk σ b)
        have HM := Lib.hid (wkn_go SB.out.ends hk hb : wkn σ x = wkn σ b + 1)
        have hbn := (SB.out.at_ _ _ hb).2.1.2.2.1
        rw [valOf_some]
        clear hb
        obtain ⟨W2, hW2⟩ : ∃ W2, W2 = w1.alloc (.cells #[.int .u8 b.k, .string b.s, .int .i64 b.n, .slice b.p b.kids.len b.c] 25) := ⟨_, rfl⟩
        have hB2 : Below w1.heap.size w1 W2 := by rw [hW2]; exact (Below.refl _ _).alloc (Nat.le_refl _) _
        have NB := BoxIs.new w1 b 25
        rw [← hW2] at NB
        have hlt : w.heap.size + 1 < w1.heap.size := YY.out.lt
        replace XX := Lib.hid (XX.out.below hB2)
        replace YY := Lib.hid (YY.out.below hB2)
        replace BB := Lib.hid (BB.out.trans (hB2.mono BB.out.size))
        have c0 := XX.out.c0
        have c1 := XX.out.c1
        have c2 := XX.out.c2
        have c3 := XX.out.c3
        have g0 := XX.out.fr
        have y0 := NB.c0
        have y1 := NB.c1
        have y2 := NB.c2
        have y3 := NB.c3
        have Z2 := Lib.hid hW2
        clear hB2 hW2 NB
        go_upto_region 3 with fail
        rw [← Z2.out]
        go_wp2
        go_roundw
        case rel =>
          refine ⟨b, Lib.hid XX.out.put, Lib.hid (YY.out.of_block ?_), Lib.hid (below_put4 BB.out (Nat.le_refl _) _ _ _ _), Lib.hid (by rw [← HW.out]; exact WK.out), hbn⟩
          rw [Below.heap_setCell _ _ _ _ (by simp), Below.heap_setCell _ _ _ _ (by simp), Below.heap_setCell _ _ _ _ (by simp), Below.heap_setCell _ _ _ _ (by simp)]
        case measure =>
          rw [(XX.out.put (y := b)).far SB.out.ends, FAR.out, HM.out]
          omega
    · rw [Bool.not_eq_true] at hk
      have HK := Lib.hid hk
      go_wp2
      have P := YY.out.put (y := x)
      have p0 := P.c0
      have p1 := P.c1
      have p2 := P.c2
      have p3 := P.c3
      exact bodyPost_ret (v := x.val) (by simp [results, Tryz.results43, go_sem, p0, p1, p2, p3, Nd.val]) rfl ⟨by rw [← WK.out, wk_stop (.inl HK.out)], below_put4 BB.out (Nat.le_succ _) _ _ _ _⟩

/-- a term cloned: elsewhere, and alike -/
def CloneOf (x : Nd) (B : Nat) (v : Value) (w : World) : Prop := ∃ us q d, v = tv x.k x.s x.n q us.len d ∧ Ts.AtB B w q us ∧ Ts.twin us x.kids ∧ us.ok ∧ (us.len ≤ d ∧ d ≤ 9223372036854775807) ∧ (q = none → d = 0)

set_option maxRecDepth 100000 in
set_option maxHeartbeats 4000000 in
theorem walk_any (S : Nat) (σ : Sb) (m : Nat) (w : World) (h : SubAt S σ m w) (t : Nd) (hok : t.ok) (hat : Ts.At w t.p t.kids) (hsz : t.kids.size ≤ 5000) :
    Calls Tryz.prog 15 #[.pointer (some ⟨S, 0, none⟩), .agg #[.int .u8 t.k, .string t.s, .int .i64 t.n, .slice t.p t.kids.len t.c]] w fun e w' => ∃ v, e = .returned v ∧ CloneOf (wk σ t) w.heap.size v w' ∧ Below w.heap.size w w' := by
  have SB := Lib.hid h
  have hSl := h.lt
  have hn := hok.2.2.1
  obtain ⟨hwat, hwok, hwsz⟩ := h.walked ⟨hat, hok, hsz⟩
  have WA := Lib.hid hwat
  have WO := Lib.hid hwok
  clear h hwat hwok hok hat
  go_enter Tryz.func15, Tryz.ntmps15
  go_wp2_with fail
  obtain ⟨W0, hW0⟩ : ∃ W0, W0 = (w.alloc (.cells #[.int .u8 t.k, .string t.s, .int .i64 t.n, .slice t.p t.kids.len t.c] 25)).alloc (.cells #[.int .u8 0, .string ⟨#[]⟩, .int .i64 0, .slice none 0 0] 25) := ⟨_, rfl⟩
  rw [← hW0]
  have hB0 : Below w.heap.size w W0 := by rw [hW0]; exact below2 _ _ _
  have hY0 : BoxIs (w.heap.size + 1) ⟨0, ⟨#[]⟩, 0, none, 0, .nil⟩ W0 := by
    have := BoxIs.new (w.alloc (.cells #[.int .u8 t.k, .string t.s, .int .i64 t.n, .slice t.p t.kids.len t.c] 25)) ⟨0, ⟨#[]⟩, 0, none, 0, .nil⟩ 25
    rw [World.size_alloc] at this
    rw [hW0]; exact this
  have B0 := Lib.hid hB0
  have Y0 := Lib.hid hY0
  clear hW0 hB0 hY0
  refine (walked_any S σ m W0 (SB.out.below B0.out) t.k t.s t.n t.p t.kids t.c hn).mono ?_
  rintro e w1 ⟨rfl, hB1⟩
  have B1 := Lib.hid (B0.out.trans (hB1.mono B0.out.size))
  replace Y0 := Lib.hid (Y0.out.below hB1)
  clear hB1
  have hlt : w.heap.size + 1 < w1.heap.size := Y0.out.lt
  unfold Nd.val
  go_wp2_with fail
  refine (sclone_any _ (wk σ t).kids (Nat.lt_succ_self _) (by omega) WO.out.2.2.2.2.2.1 (wk σ t).k (wk σ t).s (wk σ t).n w1 (wk σ t).p (wk σ t).c (WA.out.below B1.out)).mono ?_
  rintro e w2 ⟨us, q, d, rfl, hat2, htw, hok2, hcl, hqn, hB2⟩
  unfold tv
  have B2 := Lib.hid (B1.out.trans (hB2.mono B1.out.size))
  replace Y0 := Lib.hid (Y0.out.below hB2)
  have hs1 := B1.out.size
  have AT2 := Lib.hid hat2
  have TW := Lib.hid htw
  have OK2 := Lib.hid hok2
  have QN := Lib.hid hqn
  have y0 := Y0.out.c0
  have y1 := Y0.out.c1
  have y2 := Y0.out.c2
  have y3 := Y0.out.c3
  have g0 := Y0.out.fr
  clear hB2 hat2 htw hok2 hqn
  go_wp2
  have P := Y0.out.put (y := ⟨(wk σ t).k, (wk σ t).s, (wk σ t).n, q, d, us⟩)
  have p0 := P.c0
  have p1 := P.c1
  have p2 := P.c2
  have p3 := P.c3
  simp only at p0 p1 p2 p3
  refine bodyPost_ret (v := tv (wk σ t).k (wk σ t).s (wk σ t).n q us.len d) (by simp [results, Tryz.results15, go_sem, p0, p1, p2, p3, tv]) rfl ⟨_, rfl, ⟨us, q, d, rfl, ?_, TW.out, OK2.out, hcl, QN.out⟩, below_put4 B2.out (Nat.le_succ _) _ _ _ _⟩
  refine AT2.out.stay hs1 fun b y hb _ => World.cell?_of_block (a := ⟨b, y, none⟩) ?_
  rw [Below.heap_setCell _ _ _ _ (by simp; omega), Below.heap_setCell _ _ _ _ (by simp; omega), Below.heap_setCell _ _ _ _ (by simp; omega), Below.heap_setCell _ _ _ _ (by simp; omega)]

end Go.Proofs.YtnmhnaanpjlniaaGreat
/-
  Layer 5: lists of terms with other numbers, taken out of a room: what lies where.
-/
namespace Go.Proofs.YtnmhnaanpjlniaaGreat
open Go.RowKit

namespace Ts
/-- like lies, each element within places that are allowed -/
def liesQ (Q : Nat → Nat → Prop) (w : World) : Nat → Nat → Ts → Prop
  | _, _, .nil => True
  | b, o, .cons k s n p cap kids rest =>
    (∀ y, o ≤ y → y < o + 4 → Q b y) ∧ w.cell? ⟨b, o, none⟩ = some (.int .u8 k) ∧ w.cell? ⟨b, o + 1, none⟩ = some (.string s) ∧ w.cell? ⟨b, o + 2, none⟩ = some (.int .i64 n) ∧ w.cell? ⟨b, o + 3, none⟩ = some (.slice p kids.len cap) ∧
    (∃ b' o', (kids = .nil ∨ p = some ⟨b', o', none⟩) ∧ liesQ Q w b' o' kids) ∧ liesQ Q w b (o + 4) rest

def AtQ (Q : Nat → Nat → Prop) (w : World) (p : Option Addr) (ts : Ts) : Prop := ∃ b o, (ts = .nil ∨ p = some ⟨b, o, none⟩) ∧ ts.liesQ Q w b o

theorem liesQ_lies {Q : Nat → Nat → Prop} {w : World} : ∀ (ts : Ts) {b o : Nat}, ts.liesQ Q w b o → ts.lies w b o
  | .nil, _, _, _ => trivial
  | .cons _ _ _ _ _ kids rest, _, _, ⟨_, h0, h1, h2, h3, ⟨b', o', h4, h5⟩, h6⟩ => ⟨h0, h1, h2, h3, ⟨b', o', h4, liesQ_lies kids h5⟩, liesQ_lies rest h6⟩

theorem AtQ.at {Q : Nat → Nat → Prop} {w : World} {p : Option Addr} {ts : Ts} (h : AtQ Q w p ts) : At w p ts := by
  obtain ⟨b, o, h1, h2⟩ := h
  exact ⟨b, o, h1, liesQ_lies ts h2⟩

theorem liesQ_stay {Q Q' : Nat → Nat → Prop} {w w' : World} (hQ : ∀ b y, Q b y → Q' b y) (hc : ∀ b y, Q b y → w'.cell? ⟨b, y, none⟩ = w.cell? ⟨b, y, none⟩) : ∀ (ts : Ts) {b o : Nat}, ts.liesQ Q w b o → ts.liesQ Q' w' b o
  | .nil, _, _, _ => trivial
  | .cons k s n p cap kids rest, b, o, ⟨hq, h0, h1, h2, h3, ⟨b', o', h4, h5⟩, h6⟩ =>
    ⟨fun y hy hy' => hQ _ _ (hq y hy hy'), (hc _ _ (hq _ (by omega) (by omega))).trans h0, (hc _ _ (hq _ (by omega) (by omega))).trans h1, (hc _ _ (hq _ (by omega) (by omega))).trans h2, (hc _ _ (hq _ (by omega) (by omega))).trans h3, ⟨b', o', h4, liesQ_stay hQ hc kids h5⟩, liesQ_stay hQ hc rest h6⟩

theorem AtQ.stay {Q Q' : Nat → Nat → Prop} {w w' : World} {p : Option Addr} {ts : Ts} (h : AtQ Q w p ts) (hQ : ∀ b y, Q b y → Q' b y) (hc : ∀ b y, Q b y → w'.cell? ⟨b, y, none⟩ = w.cell? ⟨b, y, none⟩) : AtQ Q' w' p ts := by
  obtain ⟨b, o, h1, h2⟩ := h
  exact ⟨b, o, h1, liesQ_stay hQ hc ts h2⟩

theorem liesQ_liesB {Q : Nat → Nat → Prop} {B : Nat} {w : World} (hQ : ∀ b y, Q b y → B ≤ b) : ∀ (ts : Ts) {b o : Nat}, ts.liesQ Q w b o → ts.liesB B w b o
  | .nil, _, _, _ => trivial
  | .cons _ _ _ _ _ kids rest, _, _, ⟨hq, h0, h1, h2, h3, ⟨b', o', h4, h5⟩, h6⟩ => ⟨hQ _ _ (hq _ (Nat.le_refl _) (by omega)), h0, h1, h2, h3, ⟨b', o', h4, liesQ_liesB hQ kids h5⟩, liesQ_liesB hQ rest h6⟩


end Ts

/-- terms with other numbers of variables; what the names remember goes from node to node -/
def renT {σ : Type} (step : σ → Int → Int × σ) : Ts → σ → Ts × σ
  | .nil, st => (.nil, st)
  | .cons k s n _ _ kids rest, st =>
    (.cons k s (if (k == 1) = true then step st n else (n, st)).1 none 0 (renT step kids (if (k == 1) = true then step st n else (n, st)).2).1 (renT step rest (renT step kids (if (k == 1) = true then step st n else (n, st)).2).2).1,
      (renT step rest (renT step kids (if (k == 1) = true then step st n else (n, st)).2).2).2)

theorem renT_len {σ : Type} (step : σ → Int → Int × σ) : ∀ (ts : Ts) (st : σ), (renT step ts st).1.len = ts.len
  | .nil, _ => rfl
  | .cons _ _ _ _ _ _ rest, st => by simp only [renT, Ts.len, renT_len step rest]


/-- how much the names remember grows by one a node at most -/
theorem renT_cnt {σ : Type} (step : σ → Int → Int × σ) (cnt : σ → Nat) (hcnt : ∀ st n, cnt (step st n).2 ≤ cnt st + 1) : ∀ (ts : Ts) (st : σ), cnt (renT step ts st).2 ≤ cnt st + ts.size
  | .nil, _ => by simp [renT, Ts.size]
  | .cons k s n _ _ kids rest, st => by
    have h0 : cnt (if (k == 1) = true then step st n else (n, st)).2 ≤ cnt st + 1 := by
      split
      · exact hcnt st n
      · simp
    have h1 := renT_cnt step cnt hcnt kids (if (k == 1) = true then step st n else (n, st)).2
    have h2 := renT_cnt step cnt hcnt rest (renT step kids (if (k == 1) = true then step st n else (n, st)).2).2
    simp only [renT, Ts.size]
    omega

/-- places of a row -/
def inR (RB lo hi : Nat) (b y : Nat) : Prop := b = RB ∧ lo ≤ y ∧ y < hi

/-- the room that is left -/
structure Room (RM RB o rem : Nat) (w : World) : Prop where
  rm : ∃ o', w.cell? ⟨RM, 0, none⟩ = some (.slice (some ⟨RB, o', none⟩) rem rem) ∧ (rem = 0 ∨ o' = o)
  rmf : w.frozen? ⟨RM, 0, none⟩ = false
  here : ∀ y, o ≤ y → y < o + rem * 4 → (w.cell? ⟨RB, y, none⟩).isSome
  free : ∀ y, o ≤ y → y < o + rem * 4 → w.frozen? ⟨RB, y, none⟩ = false

/-- the first elements have been put -/
def DoneR (RB o lo hi : Nat) (w : World) (R : Ts) (j : Nat) : Prop := ∀ m, m < j → ∀ k s n p c kids rest, R.drop m = .cons k s n p c kids rest →
  ∃ q kids', w.cell? ⟨RB, o + m * 4, none⟩ = some (.int .u8 k) ∧ w.cell? ⟨RB, o + m * 4 + 1, none⟩ = some (.string s) ∧ w.cell? ⟨RB, o + m * 4 + 2, none⟩ = some (.int .i64 n) ∧ w.cell? ⟨RB, o + m * 4 + 3, none⟩ = some (.slice q kids'.len kids'.len) ∧
    Ts.AtQ (inR RB lo hi) w q kids' ∧ Ts.twin kids' kids ∧ kids'.ok ∧ (q = none → kids'.len = 0) ∧ kids'.len ≤ 1000000 ∧ (0 ≤ k ∧ k ≤ 255) ∧ s.size ≤ 140737488351232 ∧ (-9223372036854775808 ≤ n ∧ n ≤ 9223372036854775807)

theorem DoneR.made {RB o lo hi : Nat} {w : World} {R : Ts} (h : DoneR RB o lo hi w R R.len) (hlo : o ≤ lo) (hhi : o + R.len * 4 ≤ hi) : ∃ us : Ts, us.liesQ (inR RB o hi) w RB o ∧ Ts.twin us R ∧ us.ok := by
  have build : ∀ i, i ≤ R.len → ∃ us : Ts, us.liesQ (inR RB o hi) w RB (o + (R.len - i) * 4) ∧ Ts.twin us (R.drop (R.len - i)) ∧ us.ok := by
    intro i
    induction i with
    | zero =>
      intro _
      refine ⟨.nil, trivial, ?_, trivial⟩
      rw [Ts.len_zero (ts := R.drop (R.len - 0)) (by rw [Ts.drop_len]; omega)]
      trivial
    | succ i ih =>
      intro hi'
      obtain ⟨us, h1, h2, h3⟩ := ih (by omega)
      have hlt : R.len - (i + 1) < R.len := by omega
      obtain ⟨k, s, n, p, c, kids, rest, hd⟩ := Ts.drop_cons hlt
      obtain ⟨q, kids', c0, c1, c2, c3, hat, ht, hok', hq, hl, hk, hs, hn⟩ := h _ hlt _ _ _ _ _ _ _ hd
      have hsd := Ts.drop_succ _ R hd
      rw [show R.len - (i + 1) + 1 = R.len - i from by omega] at hsd
      rw [hsd] at h2
      refine ⟨.cons k s n q kids'.len kids' us, ⟨fun y hy hy' => ⟨rfl, by omega, by omega⟩, c0, c1, c2, c3, hat.stay (fun b y hb => ⟨hb.1, by have := hb.2.1; omega, hb.2.2⟩) (fun _ _ _ => rfl), ?_⟩, ?_, ⟨hk, hs, hn, ⟨Nat.le_refl _, by omega⟩, hq, hok', h3⟩⟩
      · rw [show o + (R.len - (i + 1)) * 4 + 4 = o + (R.len - i) * 4 from by omega]; exact h1
      · rw [hd]; exact ⟨rfl, rfl, rfl, ht, h2⟩
  obtain ⟨us, h1, h2, h3⟩ := build R.len (Nat.le_refl _)
  rw [Nat.sub_self] at h1 h2
  exact ⟨us, by simpa using h1, h2, h3⟩
end Go.Proofs.YtnmhnaanpjlniaaGreat
/-
  Layer 5: lists of terms with other numbers, taken out of a room: what a round does.
-/
namespace Go.Proofs.YtnmhnaanpjlniaaGreat
open Go.RowKit

namespace Ts
theorem liesP_drop {P : Nat → Prop} {w : World} : ∀ (i : Nat) (ts : Ts) {b o : Nat}, ts.liesP P w b o → (ts.drop i).liesP P w b (o + i * 4)
  | 0, _, _, _, h => by simpa [drop] using h
  | _ + 1, .nil, _, _, _ => trivial
  | i + 1, .cons _ _ _ _ _ _ r, b, o, h => by
    have := liesP_drop i r h.2.2.2.2.2.2
    rw [show o + (i + 1) * 4 = o + 4 + i * 4 from by omega]
    exact this

/-- an element of a list that lies in blocks that are allowed -/
theorem elemP {P : Nat → Prop} {w : World} {ts : Ts} {b o j : Nat} (hl : ts.liesP P w b o) (hok : ts.ok) (h : j < ts.len) :
    ∃ (k : Int) (s : ByteArray) (n : Int) (p : Option Addr) (c : Nat) (kids rest : Ts), Hid (ts.drop j = .cons k s n p c kids rest) ∧ El b (o + j * 4) k s n p c kids w ∧ Ts.AtP P w p kids ∧ P b ∧ kids.size + rest.size + 1 ≤ ts.size ∧ Ts.ok (.cons k s n p c kids .nil) := by
  obtain ⟨k, s, n, p, c, kids, rest, hd⟩ := Ts.drop_cons h
  have h1 := liesP_drop j ts hl
  have hokd := Ts.ok_drop j ts hok
  have hsz := Ts.drop_size j ts
  rw [hd] at h1 hokd hsz
  obtain ⟨hP, c0, c1, c2, c3, ⟨b', o', h4, h5⟩, _⟩ := h1
  have h6 : ∀ (us : Ts) {y z : Nat}, us.liesP P w y z → us.lies w y z := by
    intro us
    induction us with
    | nil => intro _ _ _; trivial
    | cons k s n p c kids rest ih1 ih2 =>
      intro y z ⟨_, g1, g2, g3, g4, ⟨b2, o2, g5, g6⟩, g7⟩
      exact ⟨g1, g2, g3, g4, ⟨b2, o2, g5, ih1 g6⟩, ih2 g7⟩
  simp only [Ts.size] at hsz
  exact ⟨k, s, n, p, c, kids, rest, Lib.hid hd, ⟨World.block_lt_of_cell? _ _ c0, c0, c1, c2, c3, ⟨b', o', h4, h6 kids h5⟩⟩, ⟨b', o', h4, h5⟩, hP, hsz, hokd.1, hokd.2.1, hokd.2.2.1, hokd.2.2.2.1, hokd.2.2.2.2.1, hokd.2.2.2.2.2.1, trivial⟩
end Ts

/-- what a call leaves as it was -/
structure Kp (B0 RM RB : Nat) (NS : Nat → Prop) (w w' : World) : Prop where
  size : w.heap.size ≤ w'.heap.size
  B : Below B0 w w'
  old : ∀ b, b < w.heap.size → b ≠ RM → b ≠ RB → ¬ NS b → w'.heap[b]? = w.heap[b]?

theorem Kp.refl {B0 RM RB : Nat} {NS : Nat → Prop} (w : World) : Kp B0 RM RB NS w w := ⟨Nat.le_refl _, Below.refl _ _, fun _ _ _ _ _ => rfl⟩

theorem Kp.trans {B0 RM RB : Nat} {NS : Nat → Prop} {w w1 w2 : World} (h : Kp B0 RM RB NS w w1) (h' : Kp B0 RM RB NS w1 w2) : Kp B0 RM RB NS w w2 :=
  ⟨Nat.le_trans h.size h'.size, h.B.trans h'.B, fun b hb h1 h2 h3 => (h'.old b (Nat.lt_of_lt_of_le hb h.size) h1 h2 h3).trans (h.old b hb h1 h2 h3)⟩

theorem Kp.alloc {B0 RM RB : Nat} {NS : Nat → Prop} {w w1 : World} (h : Kp B0 RM RB NS w w1) (hB : B0 ≤ w1.heap.size) (o : Obj) : Kp B0 RM RB NS w (w1.alloc o) :=
  ⟨Nat.le_trans h.size (by simp), h.B.alloc hB _, fun b hb h1 h2 h3 => (Below.heap_alloc _ _ _ (Nat.lt_of_lt_of_le hb h.size)).trans (h.old b hb h1 h2 h3)⟩

theorem Kp.cell {B0 RM RB : Nat} {NS : Nat → Prop} {w w1 : World} (h : Kp B0 RM RB NS w w1) {b : Nat} (hb : b < w.heap.size) (h1 : b ≠ RM) (h2 : b ≠ RB) (h3 : ¬ NS b) (y : Nat) : w1.cell? ⟨b, y, none⟩ = w.cell? ⟨b, y, none⟩ :=
  World.cell?_of_block (a := ⟨b, y, none⟩) (h.old b hb h1 h2 h3)

theorem Kp.frozen {B0 RM RB : Nat} {NS : Nat → Prop} {w w1 : World} (h : Kp B0 RM RB NS w w1) {b : Nat} (hb : b < w.heap.size) (h1 : b ≠ RM) (h2 : b ≠ RB) (h3 : ¬ NS b) (y : Nat) : w1.frozen? ⟨b, y, none⟩ = w.frozen? ⟨b, y, none⟩ :=
  World.frozen?_of_block (a := ⟨b, y, none⟩) (h.old b hb h1 h2 h3)

/-- a name: what it gives, what it remembers, and where -/
structure Nm {σ : Type} (step : σ → Int → Int × σ) (cnt : σ → Nat) (g NB : Nat) (NI : σ → World → Prop) (NS : Nat → Prop) (B0 Bn : Nat) : Prop where
  own : ∀ b, NS b → b < Bn
  stay : ∀ st W W', NI st W → (∀ b, NS b → W'.heap[b]? = W.heap[b]?) → W.heap.size ≤ W'.heap.size → NI st W'
  grow : ∀ st n, cnt (step st n).2 ≤ cnt st + 1
  fits : ∀ st W n, NI st W → (-9223372036854775808 ≤ n ∧ n ≤ 9223372036854775807) → cnt st < 1000000 → (-9223372036854775808 ≤ (step st n).1 ∧ (step st n).1 ≤ 9223372036854775807)
  call : ∀ st W n, NI st W → cnt st < 1000000 → (-9223372036854775808 ≤ n ∧ n ≤ 9223372036854775807) → Bn ≤ W.heap.size →
    Calls Tryz.prog g #[.int .i64 n, .pointer (some ⟨NB, 0, none⟩)] W fun e w' => e = .returned (.int .i64 (step st n).1) ∧ NI (step st n).2 w' ∧ W.heap.size ≤ w'.heap.size ∧ Below B0 W w' ∧ ∀ b, b < W.heap.size → ¬ NS b → w'.heap[b]? = W.heap[b]?

theorem put_heap (w' : World) (T R x : Nat) (v v0 v1 v2 v3 : Value) (b : Nat) (h1 : b ≠ T) (h2 : b ≠ R) :
    (((((w'.setCell ⟨T, 3, none⟩ v).setCell ⟨R, x, none⟩ v0).setCell ⟨R, x + 1, none⟩ v1).setCell ⟨R, x + 2, none⟩ v2).setCell ⟨R, x + 3, none⟩ v3).heap[b]? = w'.heap[b]? := by
  rw [Below.heap_setCell _ _ _ _ (by simpa using h2), Below.heap_setCell _ _ _ _ (by simpa using h2), Below.heap_setCell _ _ _ _ (by simpa using h2), Below.heap_setCell _ _ _ _ (by simpa using h2), Below.heap_setCell _ _ _ _ (by simpa using h1)]

theorem Nm.mono {σ : Type} {step : σ → Int → Int × σ} {cnt : σ → Nat} {g NB : Nat} {NI : σ → World → Prop} {NS : Nat → Prop} {B0 Bn Bn' : Nat} (N : Nm step cnt g NB NI NS B0 Bn) (h : Bn ≤ Bn') : Nm step cnt g NB NI NS B0 Bn' :=
  ⟨fun b hb => Nat.lt_of_lt_of_le (N.own b hb) h, N.stay, N.grow, N.fits, fun st W n h1 h2 h3 h4 => N.call st W n h1 h2 h3 (Nat.le_trans h h4)⟩

/-- between two rounds -/
structure RIn {σ : Type} (step : σ → Int → Int × σ) (cnt : σ → Nat) (NI : σ → World → Prop) (NS : Nat → Prop) (B0 RM RB o rem : Nat) (ts R : Ts) (fin : σ) (w wr : World) (st : σ) (j oc rem' : Nat) : Prop where
  kp : Kp B0 RM RB NS w wr
  room : Room RM RB oc rem' wr
  ni : NI st wr
  e1 : oc + rem' * 4 = o + rem * 4
  e2 : oc + ((ts.drop j).size - (ts.drop j).len) * 4 = o + ts.size * 4
  e3 : o + ts.len * 4 ≤ oc
  done : DoneR RB o (o + ts.len * 4) oc wr R j
  row : ∀ y, o ≤ y → y < o + ts.len * 4 → (wr.cell? ⟨RB, y, none⟩).isSome
  frow : ∀ y, wr.frozen? ⟨RB, y, none⟩ = w.frozen? ⟨RB, y, none⟩
  out : ∀ y, y < o ∨ oc ≤ y → wr.cell? ⟨RB, y, none⟩ = w.cell? ⟨RB, y, none⟩
  rest : renT step (ts.drop j) st = (R.drop j, fin)
  cnt : cnt st + (ts.drop j).size ≤ 1000000

theorem RIn.step {σ : Type} {step : σ → Int → Int × σ} {cnt : σ → Nat} {NI : σ → World → Prop} {NS : Nat → Prop} {B0 Bn RM RB o rem : Nat} {ts R : Ts} {fin : σ} {w wr : World} {st : σ} {j oc rem' : Nat}
    (h : RIn step cnt NI NS B0 RM RB o rem ts R fin w wr st j oc rem') {g NB : Nat} (N : Nm step cnt g NB NI NS B0 Bn) (hRM : B0 ≤ RM ∧ RM < Bn ∧ ¬ NS RM) (hRB : B0 ≤ RB ∧ RB < Bn ∧ ¬ NS RB) (hne : RM ≠ RB) (hBn : Bn ≤ w.heap.size) (hj : j < ts.len)
    {k : Int} {s : ByteArray} {n : Int} {pp : Option Addr} {cc : Nat} {kids rest : Ts} (hd : ts.drop j = .cons k s n pp cc kids rest) (hk : 0 ≤ k ∧ k ≤ 255) (hs : s.size ≤ 140737488351232) {n1 : Int} {st1 : σ} (hn1 : (if (k == 1) = true then step st n else (n, st)) = (n1, st1))
    (hn : -9223372036854775808 ≤ n1 ∧ n1 ≤ 9223372036854775807) {W4 w5 W6 : World} (k4 : Kp B0 RM RB NS wr W4) (hT4 : wr.heap.size < W4.heap.size) (c4 : ∀ y, W4.cell? ⟨RB, y, none⟩ = wr.cell? ⟨RB, y, none⟩) (f4 : ∀ y, W4.frozen? ⟨RB, y, none⟩ = wr.frozen? ⟨RB, y, none⟩)
    {us : Ts} {q : Option Addr} (hat : Ts.AtQ (inR RB oc (oc + kids.size * 4)) w5 q us) (htw : Ts.twin us (renT step kids st1).1) (hok : us.ok) (hq : q = none → us.len = 0) (hroom : Room RM RB (oc + kids.size * 4) (rem' - kids.size) w5) (hni : NI (renT step kids st1).2 w5) (k5 : Kp B0 RM RB NS W4 w5)
    (c5 : ∀ y, y < oc ∨ oc + kids.size * 4 ≤ y → w5.cell? ⟨RB, y, none⟩ = W4.cell? ⟨RB, y, none⟩) (f5 : ∀ y, w5.frozen? ⟨RB, y, none⟩ = W4.frozen? ⟨RB, y, none⟩)
    (hW6 : W6 = (((((w5.setCell ⟨wr.heap.size, 3, none⟩ (.slice q us.len us.len)).setCell ⟨RB, o + j * 4, none⟩ (.int .u8 k)).setCell ⟨RB, o + j * 4 + 1, none⟩ (.string s)).setCell ⟨RB, o + j * 4 + 2, none⟩ (.int .i64 n1)).setCell ⟨RB, o + j * 4 + 3, none⟩ (.slice q us.len us.len)))
    (hul : kids.size ≤ 900000) (hkr : kids.size ≤ rem') :
    RIn step cnt NI NS B0 RM RB o rem ts R fin w W6 (renT step kids st1).2 (j + 1) (oc + kids.size * 4) (rem' - kids.size) := by
  have hws := h.kp.size
  have hTB : wr.heap.size ≠ RB := by omega
  have hTM : wr.heap.size ≠ RM := by omega
  have e3 := h.e3
  have row5 : ∀ y, o ≤ y → y < o + ts.len * 4 → (w5.cell? ⟨RB, y, none⟩).isSome := fun y h1 h2 => by
    rw [c5 y (.inl (by omega)), c4 y]; exact h.row y h1 h2
  obtain ⟨W, hW, z1, z2, z3, q0, q1, q2, q3, z4, z5⟩ := put_step w5 wr.heap.size RB (o + j * 4) (.slice q us.len us.len) (.int .u8 k) (.string s) (.int .i64 n1) (.slice q us.len us.len) hTB (row5 _ (by omega) (by omega)) (row5 _ (by omega) (by omega)) (row5 _ (by omega) (by omega)) (row5 _ (by omega) (by omega))
  have hheap : ∀ b, b ≠ wr.heap.size → b ≠ RB → W6.heap[b]? = w5.heap[b]? := fun b h1 h2 => by rw [hW6]; exact put_heap _ _ _ _ _ _ _ _ _ b h1 h2
  rw [← hW6] at hW
  subst hW
  clear hW6
  have hrest := h.rest
  rw [hd] at hrest
  simp only [renT, hn1] at hrest
  have hR : R.drop j = .cons k s n1 none 0 (renT step kids st1).1 (renT step rest (renT step kids st1).2).1 := (congrArg Prod.fst hrest).symm
  have hF : (renT step rest (renT step kids st1).2).2 = fin := congrArg Prod.snd hrest
  have sd := Ts.drop_succ j ts hd
  have sR := Ts.drop_succ j R hR
  have he2 := h.e2
  rw [hd] at he2
  simp only [Ts.size, Ts.len] at he2
  have hlr := Ts.len_size rest
  have hlk := Ts.twin_len _ _ htw
  rw [renT_len] at hlk
  have hlk2 := Ts.len_size kids
  have k6 : Kp B0 RM RB NS w W := by
    refine ⟨by have := k4.size; have := k5.size; omega, z5 _ _ (by omega) hRB.1 ((h.kp.trans k4).trans k5).B, fun b hb h1 h2 h3 => ?_⟩
    rw [hheap b (by omega) h2]
    exact ((h.kp.trans k4).trans k5).old b hb h1 h2 h3
  have cRB : ∀ y, y < o + j * 4 ∨ o + j * 4 + 4 ≤ y → y < oc ∨ oc + kids.size * 4 ≤ y → W.cell? ⟨RB, y, none⟩ = wr.cell? ⟨RB, y, none⟩ := fun y h1 h2 => (z3 y h1).trans ((c5 y h2).trans (c4 y))
  refine ⟨k6, ?_, ?_, ?_, ?_, by omega, ?_, ?_, ?_, ?_, ?_, ?_⟩
  · obtain ⟨⟨o', r1, r2⟩, r3, r4, r5⟩ := hroom
    refine ⟨⟨o', (z2 RM 0 (Ne.symm hTM) hne).trans r1, r2⟩, (z4 _ _).trans r3, fun y h1 h2 => ?_, fun y h1 h2 => (z4 _ _).trans (r5 y h1 h2)⟩
    rw [z3 y (.inr (by omega))]
    exact r4 y h1 h2
  · refine N.stay _ _ _ hni (fun b hb => hheap b ?_ ?_) (by rw [z1]; exact Nat.le_refl _)
    · have := N.own b hb; omega
    · intro e; subst e; exact hRB.2.2 hb
  · have := h.e1; omega
  · rw [sd]; omega
  · intro m hm k' s' n' p' c' kd rs hmd
    by_cases e : m = j
    · subst e
      rw [hR] at hmd
      injection hmd with e1 e2 e3' e4 e5 e6 e7
      subst e1 e2 e3' e4 e5 e6 e7
      exact ⟨q, us, q0, q1, q2, q3, hat.stay (fun b y hb => ⟨hb.1, by have := hb.2.1; omega, hb.2.2⟩) (fun b y hb => by obtain ⟨rfl, h1, h2⟩ := hb; exact z3 y (.inr (by omega))), htw, hok, hq, by omega, hk, hs, hn⟩
    · obtain ⟨q', kd', d0, d1, d2, d3, d4, d5⟩ := h.done m (by omega) _ _ _ _ _ _ _ hmd
      have hy : ∀ i, i < 4 → W.cell? ⟨RB, o + m * 4 + i, none⟩ = wr.cell? ⟨RB, o + m * 4 + i, none⟩ := fun i hi => cRB _ (.inl (by omega)) (.inl (by omega))
      refine ⟨q', kd', (hy 0 (by omega)).trans d0, (hy 1 (by omega)).trans d1, (hy 2 (by omega)).trans d2, (hy 3 (by omega)).trans d3, d4.stay (fun b y hb => ⟨hb.1, hb.2.1, by have := hb.2.2; omega⟩) (fun b y hb => by obtain ⟨rfl, h1, h2⟩ := hb; exact cRB y (.inr (by omega)) (.inl h2)), d5⟩
  · intro y h1 h2
    by_cases hx : y < o + j * 4 ∨ o + j * 4 + 4 ≤ y
    · rw [z3 y hx]; exact row5 y h1 h2
    · obtain hx | hx | hx | hx : y = o + j * 4 ∨ y = o + j * 4 + 1 ∨ y = o + j * 4 + 2 ∨ y = o + j * 4 + 3 := by omega
      · rw [hx, q0]; rfl
      · rw [hx, q1]; rfl
      · rw [hx, q2]; rfl
      · rw [hx, q3]; rfl
  · exact fun y => (z4 _ _).trans ((f5 y).trans ((f4 y).trans (h.frow y)))
  · intro y hy
    exact (cRB y (by omega) (by omega)).trans (h.out y (by omega))
  · rw [sd, sR, ← hF]
  · have h1 := h.cnt
    rw [hd] at h1
    simp only [Ts.size] at h1
    have h2 : cnt st1 ≤ cnt st + 1 := by
      have : (if (k == 1) = true then step st n else (n, st)).2 = st1 := by rw [hn1]
      rw [← this]
      split
      · exact N.grow st n
      · simp
    have h3 := renT_cnt step cnt N.grow kids st1
    rw [sd]
    omega

theorem RIn.start {σ : Type} {step : σ → Int → Int × σ} {cnt : σ → Nat} {NI : σ → World → Prop} {NS : Nat → Prop} {B0 Bn RM RB o rem : Nat} {ts : Ts} {w : World} {st : σ} {g NB : Nat} (N : Nm step cnt g NB NI NS B0 Bn) (hRM : B0 ≤ RM ∧ RM < Bn ∧ ¬ NS RM) (_hRB : B0 ≤ RB ∧ RB < Bn ∧ ¬ NS RB) (hne : RM ≠ RB)
    (hroom : Room RM RB o rem w) (hni : NI st w) (hrem : ts.size ≤ rem) (hcnt : cnt st + ts.size ≤ 1000000) {o2 m : Nat} (hm : m = rem - ts.len) (ho : m = 0 ∨ o2 = o + ts.len * 4) :
    RIn step cnt NI NS B0 RM RB o rem ts (renT step ts st).1 (renT step ts st).2 w (w.setCell ⟨RM, 0, none⟩ (.slice (some ⟨RB, o2, none⟩) m m)) st 0 (o + ts.len * 4) (rem - ts.len) := by
  have hls := Ts.len_size ts
  have hb : ∀ b, b ≠ RM → (w.setCell ⟨RM, 0, none⟩ (.slice (some ⟨RB, o2, none⟩) m m)).heap[b]? = w.heap[b]? := fun b h => Below.heap_setCell _ _ _ _ (by simpa using h)
  have hcl : ∀ b y, b ≠ RM → (w.setCell ⟨RM, 0, none⟩ (.slice (some ⟨RB, o2, none⟩) m m)).cell? ⟨b, y, none⟩ = w.cell? ⟨b, y, none⟩ := fun b y h => World.cell?_of_block (a := ⟨b, y, none⟩) (hb b h)
  obtain ⟨⟨o', r1, r2⟩, r3, r4, r5⟩ := hroom
  refine ⟨⟨by simp, (Below.refl _ _).setCell (p := ⟨RM, 0, none⟩) hRM.1 _, fun b _ h1 _ _ => hb b h1⟩, ⟨⟨o2, ?_, by rw [← hm]; exact ho⟩, by rw [World.frozen?_setCell]; exact r3, fun y h1 h2 => ?_, fun y h1 h2 => ?_⟩, ?_, by omega, ?_, Nat.le_refl _, fun m hm => by omega, fun y h1 h2 => ?_, fun y => World.frozen?_setCell _ _ _ _, fun y _ => hcl _ _ (Ne.symm hne), rfl, hcnt⟩
  · rw [World.cell?_setCell_same _ _ _ r1, hm]
  · rw [hcl _ _ (Ne.symm hne)]; exact r4 y (by omega) (by omega)
  · rw [World.frozen?_setCell]; exact r5 y (by omega) (by omega)
  · exact N.stay _ _ _ hni (fun b hb' => hb b (fun e => hRM.2.2 (e ▸ hb'))) (by simp)
  · simp only [Ts.drop]; omega
  · rw [hcl _ _ (Ne.symm hne)]; exact r4 y (by omega) (by omega)

end Go.Proofs.YtnmhnaanpjlniaaGreat
/-
  Layer 3: a term applied, out of a room: what stands between two rounds.
-/
namespace Go.Proofs.YtnmhnaanpjlniaaGreat
open Go.RowKit

abbrev KpA (B0 RM RB : Nat) (w w' : World) : Prop := Kp B0 RM RB (fun _ => False) w w'

/-- the first elements have been put, applied -/
def DoneA (σ : Sb) (RB o lo hi : Nat) (w : World) (K : Ts) (j : Nat) : Prop := ∀ m, m < j → ∀ k s n p c kids rest, K.drop m = .cons k s n p c kids rest →
  ∃ q us, w.cell? ⟨RB, o + m * 4, none⟩ = some (.int .u8 (wk σ ⟨k, s, n, p, c, kids⟩).k) ∧ w.cell? ⟨RB, o + m * 4 + 1, none⟩ = some (.string (wk σ ⟨k, s, n, p, c, kids⟩).s) ∧ w.cell? ⟨RB, o + m * 4 + 2, none⟩ = some (.int .i64 (wk σ ⟨k, s, n, p, c, kids⟩).n) ∧ w.cell? ⟨RB, o + m * 4 + 3, none⟩ = some (.slice q us.len us.len) ∧
    Ts.AtQ (inR RB lo hi) w q us ∧ App σ (elems (wk σ ⟨k, s, n, p, c, kids⟩).kids) us ∧ us.ok ∧ (q = none → us.len = 0) ∧ us.len ≤ 1000000 ∧ (wk σ ⟨k, s, n, p, c, kids⟩).ok

theorem DoneA.made {σ : Sb} {RB o lo hi : Nat} {w : World} {K : Ts} (h : DoneA σ RB o lo hi w K K.len) (hlo : o ≤ lo) (hhi : o + K.len * 4 ≤ hi) : ∃ us : Ts, us.liesQ (inR RB o hi) w RB o ∧ App σ (elems K) us ∧ us.ok := by
  have build : ∀ i, i ≤ K.len → ∃ us : Ts, us.liesQ (inR RB o hi) w RB (o + (K.len - i) * 4) ∧ App σ (elems (K.drop (K.len - i))) us ∧ us.ok := by
    intro i
    induction i with
    | zero =>
      intro _
      refine ⟨.nil, trivial, ?_, trivial⟩
      rw [Ts.len_zero (ts := K.drop (K.len - 0)) (by rw [Ts.drop_len]; omega)]
      exact .nil
    | succ i ih =>
      intro hi'
      obtain ⟨us, h1, h2, h3⟩ := ih (by omega)
      have hlt : K.len - (i + 1) < K.len := by omega
      obtain ⟨k, s, n, p, c, kids, rest, hd⟩ := Ts.drop_cons hlt
      obtain ⟨q, ks, c0, c1, c2, c3, hat, ha, hok', hq, hl, hy⟩ := h _ hlt _ _ _ _ _ _ _ hd
      have hsd := Ts.drop_succ _ K hd
      rw [show K.len - (i + 1) + 1 = K.len - i from by omega] at hsd
      rw [hsd] at h2
      refine ⟨.cons _ _ _ q ks.len ks us, ⟨fun y hy hy' => ⟨rfl, by omega, by omega⟩, c0, c1, c2, c3, hat.stay (fun b y hb => ⟨hb.1, by have := hb.2.1; omega, hb.2.2⟩) (fun _ _ _ => rfl), ?_⟩, ?_, ⟨hy.1, hy.2.1, hy.2.2.1, ⟨Nat.le_refl _, by omega⟩, hq, hok', h3⟩⟩
      · rw [show o + (K.len - (i + 1)) * 4 + 4 = o + (K.len - i) * 4 from by omega]; exact h1
      · rw [hd]; exact .cons ha h2
  obtain ⟨us, h1, h2, h3⟩ := build K.len (Nat.le_refl _)
  rw [Nat.sub_self] at h1 h2
  exact ⟨us, by simpa using h1, h2, h3⟩

/-- between two rounds -/
structure AIn (σ : Sb) (B0 RM RB o rem n : Nat) (K : Ts) (w wr : World) (j oc rem' nj : Nat) : Prop where
  kp : KpA B0 RM RB w wr
  room : Room RM RB oc rem' wr
  e1 : oc + rem' * 4 = o + rem * 4
  e2 : oc + (nj - (K.drop j).len) * 4 = o + n * 4
  e3 : o + K.len * 4 ≤ oc
  cnt : Cnt σ (elems (K.drop j)) nj
  done : DoneA σ RB o (o + K.len * 4) oc wr K j
  row : ∀ y, o ≤ y → y < o + K.len * 4 → (wr.cell? ⟨RB, y, none⟩).isSome
  frow : ∀ y, wr.frozen? ⟨RB, y, none⟩ = w.frozen? ⟨RB, y, none⟩
  out : ∀ y, y < o ∨ oc ≤ y → wr.cell? ⟨RB, y, none⟩ = w.cell? ⟨RB, y, none⟩

theorem AIn.step {σ : Sb} {B0 RM RB o rem n : Nat} {K : Ts} {w wr : World} {j oc rem' nj : Nat} (h : AIn σ B0 RM RB o rem n K w wr j oc rem' nj) (_hRM : B0 ≤ RM) (hRB : B0 ≤ RB) (hne : RM ≠ RB) (hBs : RM < w.heap.size ∧ RB < w.heap.size ∧ B0 ≤ w.heap.size) (hj : j < K.len)
    {k : Int} {s : ByteArray} {z : Int} {pp : Option Addr} {cc : Nat} {kids rest : Ts} (hd : K.drop j = .cons k s z pp cc kids rest) {X : Nd} (hX : wk σ ⟨k, s, z, pp, cc, kids⟩ = X) (hXo : X.ok) {a b : Nat} (_hca : Cnt σ (elems X.kids) a) (hcb : Cnt σ (elems rest) b) (hab : nj = a + b + 1)
    {W4 w5 : World} (k4 : KpA B0 RM RB wr W4) (c4 : ∀ y, W4.cell? ⟨RB, y, none⟩ = wr.cell? ⟨RB, y, none⟩) (f4 : ∀ y, W4.frozen? ⟨RB, y, none⟩ = wr.frozen? ⟨RB, y, none⟩)
    {us : Ts} {q : Option Addr} (hat : Ts.AtQ (inR RB oc (oc + a * 4)) w5 q us) (happ : App σ (elems X.kids) us) (hok : us.ok) (hq : q = none → us.len = 0) (hul : us.len ≤ 1000000) (hroom : Room RM RB (oc + a * 4) (rem' - a) w5) (k5 : KpA B0 RM RB W4 w5)
    (c5 : ∀ y, y < oc ∨ oc + a * 4 ≤ y → w5.cell? ⟨RB, y, none⟩ = W4.cell? ⟨RB, y, none⟩) (f5 : ∀ y, w5.frozen? ⟨RB, y, none⟩ = W4.frozen? ⟨RB, y, none⟩) (har : a ≤ rem') :
    AIn σ B0 RM RB o rem n K w ((((w5.setCell ⟨RB, o + j * 4, none⟩ (.int .u8 X.k)).setCell ⟨RB, o + j * 4 + 1, none⟩ (.string X.s)).setCell ⟨RB, o + j * 4 + 2, none⟩ (.int .i64 X.n)).setCell ⟨RB, o + j * 4 + 3, none⟩ (.slice q us.len us.len)) (j + 1) (oc + a * 4) (rem' - a) b := by
  have hws := h.kp.size
  have e3 := h.e3
  have row5 : ∀ y, o ≤ y → y < o + K.len * 4 → (w5.cell? ⟨RB, y, none⟩).isSome := fun y h1 h2 => by
    rw [c5 y (.inl (by omega)), c4 y]; exact h.row y h1 h2
  obtain ⟨W, hW, z1, z2, z3, q0, q1, q2, q3, z4, z5⟩ := put4 w5 RB (o + j * 4) (.int .u8 X.k) (.string X.s) (.int .i64 X.n) (.slice q us.len us.len) (row5 _ (by omega) (by omega)) (row5 _ (by omega) (by omega)) (row5 _ (by omega) (by omega)) (row5 _ (by omega) (by omega))
  rw [← hW]
  have hheap : ∀ b, b ≠ RB → W.heap[b]? = w5.heap[b]? := fun b h1 => by
    rw [hW, Below.heap_setCell _ _ _ _ (by simpa using h1), Below.heap_setCell _ _ _ _ (by simpa using h1), Below.heap_setCell _ _ _ _ (by simpa using h1), Below.heap_setCell _ _ _ _ (by simpa using h1)]
  have sd := Ts.drop_succ j K hd
  have he2 := h.e2
  rw [hd] at he2
  simp only [Ts.len] at he2
  have hlb := hcb.len
  rw [elems_length] at hlb
  have k45 := (h.kp.trans k4).trans k5
  have cRB : ∀ y, y < o + j * 4 ∨ o + j * 4 + 4 ≤ y → y < oc ∨ oc + a * 4 ≤ y → W.cell? ⟨RB, y, none⟩ = wr.cell? ⟨RB, y, none⟩ := fun y h1 h2 => (z3 y h1).trans ((c5 y h2).trans (c4 y))
  refine ⟨⟨by rw [z1]; exact k45.size, z5 _ _ hRB k45.B, fun x hx h1 h2 h3 => (hheap x h2).trans (k45.old x hx h1 h2 h3)⟩, ?_, ?_, ?_, by omega, ?_, ?_, ?_, ?_, ?_⟩
  · obtain ⟨⟨o', r1, r2⟩, r3, r4, r5⟩ := hroom
    refine ⟨⟨o', (z2 RM 0 hne).trans r1, r2⟩, (z4 _ _).trans r3, fun y h1 h2 => ?_, fun y h1 h2 => (z4 _ _).trans (r5 y h1 h2)⟩
    rw [z3 y (.inr (by omega))]
    exact r4 y h1 h2
  · have := h.e1; omega
  · rw [sd]; omega
  · rw [sd]; exact hcb
  · intro m hm k' s' n' p' c' kd rs hmd
    by_cases e : m = j
    · subst e
      rw [hd] at hmd
      injection hmd with e1 e2 e3' e4 e5 e6 e7
      subst e1 e2 e3' e4 e5 e6 e7
      rw [hX]
      exact ⟨q, us, q0, q1, q2, q3, hat.stay (fun b y hb => ⟨hb.1, by have := hb.2.1; omega, hb.2.2⟩) (fun b y hb => by obtain ⟨rfl, h1, h2⟩ := hb; exact z3 y (.inr (by omega))), happ, hok, hq, hul, hXo⟩
    · obtain ⟨q', us', d0, d1, d2, d3, d4, d5⟩ := h.done m (by omega) _ _ _ _ _ _ _ hmd
      have hy : ∀ i, i < 4 → W.cell? ⟨RB, o + m * 4 + i, none⟩ = wr.cell? ⟨RB, o + m * 4 + i, none⟩ := fun i hi => cRB _ (.inl (by omega)) (.inl (by omega))
      exact ⟨q', us', (hy 0 (by omega)).trans d0, (hy 1 (by omega)).trans d1, (hy 2 (by omega)).trans d2, (hy 3 (by omega)).trans d3, d4.stay (fun b y hb => ⟨hb.1, hb.2.1, by have := hb.2.2; omega⟩) (fun b y hb => by obtain ⟨rfl, h1, h2⟩ := hb; exact cRB y (.inr (by omega)) (.inl h2)), d5⟩
  · intro y h1 h2
    by_cases hx : y < o + j * 4 ∨ o + j * 4 + 4 ≤ y
    · rw [z3 y hx]; exact row5 y h1 h2
    · obtain hx | hx | hx | hx : y = o + j * 4 ∨ y = o + j * 4 + 1 ∨ y = o + j * 4 + 2 ∨ y = o + j * 4 + 3 := by omega
      · rw [hx, q0]; rfl
      · rw [hx, q1]; rfl
      · rw [hx, q2]; rfl
      · rw [hx, q3]; rfl
  · exact fun y => (z4 _ _).trans ((f5 y).trans ((f4 y).trans (h.frow y)))
  · intro y hy
    exact (cRB y (by omega) (by omega)).trans (h.out y (by omega))

theorem AIn.start {σ : Sb} {B0 RM RB o rem n : Nat} {K : Ts} {w : World} (hRM : B0 ≤ RM) (hne : RM ≠ RB) (hc : Cnt σ (elems K) n) (hroom : Room RM RB o rem w) (hrem : n ≤ rem) {o2 m : Nat} (hm : m = rem - K.len) (ho : m = 0 ∨ o2 = o + K.len * 4) :
    AIn σ B0 RM RB o rem n K w (w.setCell ⟨RM, 0, none⟩ (.slice (some ⟨RB, o2, none⟩) m m)) 0 (o + K.len * 4) (rem - K.len) n := by
  have hls := hc.len
  rw [elems_length] at hls
  have hb : ∀ b, b ≠ RM → (w.setCell ⟨RM, 0, none⟩ (.slice (some ⟨RB, o2, none⟩) m m)).heap[b]? = w.heap[b]? := fun b h => Below.heap_setCell _ _ _ _ (by simpa using h)
  have hcl : ∀ b y, b ≠ RM → (w.setCell ⟨RM, 0, none⟩ (.slice (some ⟨RB, o2, none⟩) m m)).cell? ⟨b, y, none⟩ = w.cell? ⟨b, y, none⟩ := fun b y h => World.cell?_of_block (a := ⟨b, y, none⟩) (hb b h)
  obtain ⟨⟨o', r1, r2⟩, r3, r4, r5⟩ := hroom
  refine ⟨⟨by simp, (Below.refl _ _).setCell (p := ⟨RM, 0, none⟩) hRM _, fun b _ h1 _ _ => hb b h1⟩, ⟨⟨o2, ?_, by rw [← hm]; exact ho⟩, by rw [World.frozen?_setCell]; exact r3, fun y h1 h2 => ?_, fun y h1 h2 => ?_⟩, by omega, ?_, Nat.le_refl _, hc, fun m hm => by omega, fun y h1 h2 => ?_, fun y => World.frozen?_setCell _ _ _ _, fun y _ => hcl _ _ (Ne.symm hne)⟩
  · rw [World.cell?_setCell_same _ _ _ r1, hm]
  · rw [hcl _ _ (Ne.symm hne)]; exact r4 y (by omega) (by omega)
  · rw [World.frozen?_setCell]; exact r5 y (by omega) (by omega)
  · simp only [Ts.drop]; omega
  · rw [hcl _ _ (Ne.symm hne)]; exact r4 y (by omega) (by omega)

theorem Room.stay {RM RB o rem : Nat} {w w' : World} (h : Room RM RB o rem w) (h1 : w'.heap[RM]? = w.heap[RM]?) (h2 : w'.heap[RB]? = w.heap[RB]?) : Room RM RB o rem w' := by
  obtain ⟨⟨o', r1, r2⟩, r3, r4, r5⟩ := h
  exact ⟨⟨o', (World.cell?_of_block (a := ⟨RM, 0, none⟩) h1).trans r1, r2⟩, (World.frozen?_of_block (a := ⟨RM, 0, none⟩) h1).trans r3, fun y a b => by rw [World.cell?_of_block (a := ⟨RB, y, none⟩) h2]; exact r4 y a b, fun y a b => (World.frozen?_of_block (a := ⟨RB, y, none⟩) h2).trans (r5 y a b)⟩

end Go.Proofs.YtnmhnaanpjlniaaGreat
