import Derived.Test.YtflomdnjabgnaaaAd
/-
  Layer 3: a term walked.
-/
namespace Go.Proofs.Ytflomdnjabgnaaa
open Go.RowKit Go.Maps

def Nd.ok (x : Nd) : Prop := Ts.ok (.cons x.k x.s x.n x.p x.c x.kids .nil)

theorem wkn_same {σ : Sb} (hE : Ends σ) {x y : Nd} (hk : x.k = y.k) (hn : x.n = y.n) : wkn σ x = wkn σ y := by
  by_cases h : (x.k == 1) = true
  · cases hb : σ x.n with
    | none => rw [wkn_eq (.stop (.inr hb)), wkn_eq (.stop (.inr (by rw [← hn]; exact hb)))]
    | some b =>
      have h' : (y.k == 1) = true := by rw [← hk]; exact h
      have hb' : σ y.n = some b := by rw [← hn]; exact hb
      rw [wkn_go hE h hb, wkn_go hE h' hb']
  · rw [Bool.not_eq_true] at h
    rw [wkn_eq (.stop (.inl h)), wkn_eq (.stop (.inl (by rw [← hk]; exact h)))]

/-- how far a term in a box is from being walked -/
noncomputable def boxFar (σ : Sb) (B : Nat) (w : World) : Nat :=
  match w.cell? ⟨B, 0, none⟩, w.cell? ⟨B, 2, none⟩ with
  | some (.int _ k), some (.int _ n) => wkn σ ⟨k, ⟨#[]⟩, n, none, 0, .nil⟩
  | _, _ => 0

structure BoxIs (B : Nat) (x : Nd) (w : World) : Prop where
  c0 : w.cell? ⟨B, 0, none⟩ = some (.int .u8 x.k)
  c1 : w.cell? ⟨B, 1, none⟩ = some (.string x.s)
  c2 : w.cell? ⟨B, 2, none⟩ = some (.int .i64 x.n)
  c3 : w.cell? ⟨B, 3, none⟩ = some (.slice x.p x.kids.len x.c)
  fr : ∀ i, w.frozen? ⟨B, i, none⟩ = false

theorem BoxIs.far {σ : Sb} (hE : Ends σ) {B : Nat} {x : Nd} {w : World} (h : BoxIs B x w) : boxFar σ B w = wkn σ x := by
  unfold boxFar
  rw [h.c0, h.c2]
  exact wkn_same hE rfl rfl

theorem BoxIs.lt {B : Nat} {x : Nd} {w : World} (h : BoxIs B x w) : B < w.heap.size := World.block_lt_of_cell? _ _ h.c0

theorem BoxIs.below {B : Nat} {x : Nd} {w w' : World} (h : BoxIs B x w) (hB : Below w.heap.size w w') : BoxIs B x w' := by
  have hl := h.lt
  exact ⟨((stays hB).1 _ _ hl).trans h.c0, ((stays hB).1 _ _ hl).trans h.c1, ((stays hB).1 _ _ hl).trans h.c2, ((stays hB).1 _ _ hl).trans h.c3, fun i => ((stays hB).2 _ _ hl).trans (h.fr i)⟩

theorem BoxIs.of_block {B : Nat} {x : Nd} {w w' : World} (h : BoxIs B x w) (hb : w'.heap[B]? = w.heap[B]?) : BoxIs B x w' := by
  have e := fun i => World.cell?_of_block (w := w) (w' := w') (a := ⟨B, i, none⟩) hb
  exact ⟨(e 0).trans h.c0, (e 1).trans h.c1, (e 2).trans h.c2, (e 3).trans h.c3, fun i => (World.frozen?_of_block (w := w) (w' := w') (a := ⟨B, i, none⟩) hb).trans (h.fr i)⟩

theorem BoxIs.new (w : World) (x : Nd) (t : TypeId) : BoxIs w.heap.size x (w.alloc (.cells #[.int .u8 x.k, .string x.s, .int .i64 x.n, .slice x.p x.kids.len x.c] t)) := by
  obtain ⟨W, hW, hs, hB, hc, hf⟩ := alloc_new w #[.int .u8 x.k, .string x.s, .int .i64 x.n, .slice x.p x.kids.len x.c] t
  rw [← hW]
  exact ⟨hc 0 _ rfl, hc 1 _ rfl, hc 2 _ rfl, hc 3 _ rfl, hf⟩

/-- a box's term is put away for another one -/
theorem BoxIs.put {B : Nat} {x y : Nd} {w : World} (h : BoxIs B x w) : BoxIs B y ((((w.setCell ⟨B, 0, none⟩ (.int .u8 y.k)).setCell ⟨B, 1, none⟩ (.string y.s)).setCell ⟨B, 2, none⟩ (.int .i64 y.n)).setCell ⟨B, 3, none⟩ (.slice y.p y.kids.len y.c)) := by
  obtain ⟨W, hW, hs, ho, hr, q0, q1, q2, q3, hf, _⟩ := put4 w B 0 (.int .u8 y.k) (.string y.s) (.int .i64 y.n) (.slice y.p y.kids.len y.c) (by rw [h.c0]; rfl) (by rw [h.c1]; rfl) (by rw [h.c2]; rfl) (by rw [h.c3]; rfl)
  simp only [Nat.zero_add] at hW q0 q1 q2 q3
  rw [← hW]
  exact ⟨q0, q1, q2, q3, fun i => (hf _ _).trans (h.fr i)⟩

set_option maxRecDepth 100000 in
set_option maxHeartbeats 4000000 in
theorem walked_any (S : Nat) (σ : Sb) (m : Nat) (w : World) (h : SubAt S σ m w) (k : Int) (s : ByteArray) (n : Int) (p : Option Addr) (kids : Ts) (c : Nat) (hn : -9223372036854775808 ≤ n ∧ n ≤ 9223372036854775807) :
    Calls Try.prog 61 #[.pointer (some ⟨S, 0, none⟩), .agg #[.int .u8 k, .string s, .int .i64 n, .slice p kids.len c]] w fun e w' => e = .returned (wk σ ⟨k, s, n, p, c, kids⟩).val ∧ Below w.heap.size w w' := by
  have SB := Lib.hid h
  have hSl := h.lt
  clear h
  go_enter Try.func61, Try.ntmps61
  go_wp2_with fail
  obtain ⟨W0, hW0⟩ : ∃ W0, W0 = (w.alloc (.cells #[.int .u8 k, .string s, .int .i64 n, .slice p kids.len c] 24)).alloc (.cells #[.int .u8 0, .string ⟨#[]⟩, .int .i64 0, .slice none 0 0] 24) := ⟨_, rfl⟩
  rw [← hW0]
  have hs0 : W0.heap.size = w.heap.size + 2 := by rw [hW0]; simp
  have hB0 : Below w.heap.size w W0 := by rw [hW0]; exact below2 _ _ _
  have hX0 : BoxIs w.heap.size ⟨k, s, n, p, c, kids⟩ W0 := by rw [hW0]; exact (BoxIs.new w ⟨k, s, n, p, c, kids⟩ _).below ((Below.refl _ _).alloc (Nat.le_refl _) _)
  have hY0 : BoxIs (w.heap.size + 1) ⟨0, ⟨#[]⟩, 0, none, 0, .nil⟩ W0 := by
    have := BoxIs.new (w.alloc (.cells #[.int .u8 k, .string s, .int .i64 n, .slice p kids.len c] 24)) ⟨0, ⟨#[]⟩, 0, none, 0, .nil⟩ 24
    rw [World.size_alloc] at this
    rw [hW0]; exact this
  have X0 := Lib.hid hX0
  have Y0 := Lib.hid hY0
  have B0 := Lib.hid hB0
  have Z0 := Lib.hid hs0
  clear hW0 hX0 hY0 hB0 hs0
  go_loopw [] (fun wr => ∃ x : Nd, Hid (BoxIs w.heap.size x wr) ∧ Hid (BoxIs (w.heap.size + 1) ⟨0, ⟨#[]⟩, 0, none, 0, .nil⟩ wr) ∧ Hid (Below w.heap.size w wr) ∧ Hid (wk σ x = wk σ ⟨k, s, n, p, c, kids⟩) ∧ (-9223372036854775808 ≤ x.n ∧ x.n ≤ 9223372036854775807)) (fun wr => boxFar σ w.heap.size wr)
  case atStart => exact ⟨⟨k, s, n, p, c, kids⟩, X0, Y0, B0, Lib.hid rfl, hn⟩
  case round =>
    obtain ⟨x, XX, YY, BB, WK, hxn⟩ := hrel
    have FAR := Lib.hid (XX.out.far SB.out.ends : boxFar σ w.heap.size wr = wkn σ x)
    have c0 := XX.out.c0
    have c1 := XX.out.c1
    have c2 := XX.out.c2
    have c3 := XX.out.c3
    have f0 := XX.out.fr
    have y0 := YY.out.c0
    have y1 := YY.out.c1
    have y2 := YY.out.c2
    have y3 := YY.out.c3
    have g0 := YY.out.fr
    by_cases hk : (x.k == 1) = true
    · have hsl : S < wr.heap.size := Nat.lt_of_lt_of_le hSl BB.out.size
      go_wp2_with fail
      refine (binding_any S σ m wr (SB.out.below BB.out) x.n hxn).mono ?_
      rintro e w1 ⟨rfl, hB1⟩
      replace XX := Lib.hid (XX.out.below hB1)
      replace YY := Lib.hid (YY.out.below hB1)
      replace BB := Lib.hid (BB.out.trans (hB1.mono BB.out.size))
      clear hB1 c0 c1 c2 c3 f0 y0 y1 y2 y3 g0 hsl
      cases hb : σ x.n with
      | none =>
        have HW := Lib.hid (wk_stop (.inr hb) : wk σ x = x)
        rw [valOf_none]
        clear hb
        obtain ⟨W2, hW2⟩ : ∃ W2, W2 = w1.alloc (.cells #[.int .u8 0, .string ⟨#[]⟩, .int .i64 0, .slice none 0 0] 24) := ⟨_, rfl⟩
        have hB2 : Below w1.heap.size w1 W2 := by rw [hW2]; exact (Below.refl _ _).alloc (Nat.le_refl _) _
        replace XX := Lib.hid (XX.out.below hB2)
        replace YY := Lib.hid (YY.out.below hB2)
        replace BB := Lib.hid (BB.out.trans (hB2.mono BB.out.size))
        have c0 := XX.out.c0
        have c1 := XX.out.c1
        have c2 := XX.out.c2
        have c3 := XX.out.c3
        have y0 := YY.out.c0
        have y1 := YY.out.c1
        have y2 := YY.out.c2
        have y3 := YY.out.c3
        have g0 := YY.out.fr
        have Z2 := Lib.hid hW2
        clear hB2 hW2
        go_upto_region 3 with fail
        rw [← Z2.out]
        go_wp2
        have P := YY.out.put (y := x)
        have p0 := P.c0
        have p1 := P.c1
        have p2 := P.c2
        have p3 := P.c3
        exact bodyPost_ret (v := x.val) (by simp [results, Try.results61, go_sem, p0, p1, p2, p3, Nd.val]) rfl ⟨by rw [← WK.out, HW.out], below_put4 BB.out (Nat.le_succ _) _ _ _ _⟩
      | some b =>
        have HW := Lib.hid (wk_go SB.out.ends hk hb : wk σ x = wk σ b)
        have HM := Lib.hid (wkn_go SB.out.ends hk hb : wkn σ x = wkn σ b + 1)
        have hbn := (SB.out.at_ _ _ hb).2.1.2.2.1
        rw [valOf_some]
        clear hb
        obtain ⟨W2, hW2⟩ : ∃ W2, W2 = w1.alloc (.cells #[.int .u8 b.k, .string b.s, .int .i64 b.n, .slice b.p b.kids.len b.c] 24) := ⟨_, rfl⟩
        have hB2 : Below w1.heap.size w1 W2 := by rw [hW2]; exact (Below.refl _ _).alloc (Nat.le_refl _) _
        have NB := BoxIs.new w1 b 24
        rw [← hW2] at NB
        have hlt : w.heap.size + 1 < w1.heap.size := YY.out.lt
        replace XX := Lib.hid (XX.out.below hB2)
        replace YY := Lib.hid (YY.out.below hB2)
        replace BB := Lib.hid (BB.out.trans (hB2.mono BB.out.size))
        have c0 := XX.out.c0
        have c1 := XX.out.c1
        have c2 := XX.out.c2
        have c3 := XX.out.c3
        have g0 := XX.out.fr
        have y0 := NB.c0
        have y1 := NB.c1
        have y2 := NB.c2
        have y3 := NB.c3
        have Z2 := Lib.hid hW2
        clear hB2 hW2 NB
        go_upto_region 3 with fail
        rw [← Z2.out]
        go_wp2
        go_roundw
        case rel =>
          refine ⟨b, Lib.hid XX.out.put, Lib.hid (YY.out.of_block ?_), Lib.hid (below_put4 BB.out (Nat.le_refl _) _ _ _ _), Lib.hid (by rw [← HW.out]; exact WK.out), hbn⟩
          rw [Below.heap_setCell _ _ _ _ (by simp), Below.heap_setCell _ _ _ _ (by simp), Below.heap_setCell _ _ _ _ (by simp), Below.heap_setCell _ _ _ _ (by simp)]
        case measure =>
          rw [(XX.out.put (y := b)).far SB.out.ends, FAR.out, HM.out]
          omega
    · rw [Bool.not_eq_true] at hk
      have HK := Lib.hid hk
      go_wp2
      have P := YY.out.put (y := x)
      have p0 := P.c0
      have p1 := P.c1
      have p2 := P.c2
      have p3 := P.c3
      exact bodyPost_ret (v := x.val) (by simp [results, Try.results61, go_sem, p0, p1, p2, p3, Nd.val]) rfl ⟨by rw [← WK.out, wk_stop (.inl HK.out)], below_put4 BB.out (Nat.le_succ _) _ _ _ _⟩

/-- a term cloned: elsewhere, and alike -/
def CloneOf (x : Nd) (B : Nat) (v : Value) (w : World) : Prop := ∃ us q d, v = tv x.k x.s x.n q us.len d ∧ Ts.AtB B w q us ∧ Ts.twin us x.kids ∧ us.ok ∧ (us.len ≤ d ∧ d ≤ 9223372036854775807) ∧ (q = none → d = 0)

set_option maxRecDepth 100000 in
set_option maxHeartbeats 4000000 in
theorem walk_any (S : Nat) (σ : Sb) (m : Nat) (w : World) (h : SubAt S σ m w) (t : Nd) (hok : t.ok) (hat : Ts.At w t.p t.kids) (hsz : t.kids.size ≤ 5000) :
    Calls Try.prog 22 #[.pointer (some ⟨S, 0, none⟩), .agg #[.int .u8 t.k, .string t.s, .int .i64 t.n, .slice t.p t.kids.len t.c]] w fun e w' => ∃ v, e = .returned v ∧ CloneOf (wk σ t) w.heap.size v w' ∧ Below w.heap.size w w' := by
  have SB := Lib.hid h
  have hSl := h.lt
  have hn := hok.2.2.1
  obtain ⟨hwat, hwok, hwsz⟩ := h.walked ⟨hat, hok, hsz⟩
  have WA := Lib.hid hwat
  have WO := Lib.hid hwok
  clear h hwat hwok hok hat
  go_enter Try.func22, Try.ntmps22
  go_wp2_with fail
  obtain ⟨W0, hW0⟩ : ∃ W0, W0 = (w.alloc (.cells #[.int .u8 t.k, .string t.s, .int .i64 t.n, .slice t.p t.kids.len t.c] 24)).alloc (.cells #[.int .u8 0, .string ⟨#[]⟩, .int .i64 0, .slice none 0 0] 24) := ⟨_, rfl⟩
  rw [← hW0]
  have hB0 : Below w.heap.size w W0 := by rw [hW0]; exact below2 _ _ _
  have hY0 : BoxIs (w.heap.size + 1) ⟨0, ⟨#[]⟩, 0, none, 0, .nil⟩ W0 := by
    have := BoxIs.new (w.alloc (.cells #[.int .u8 t.k, .string t.s, .int .i64 t.n, .slice t.p t.kids.len t.c] 24)) ⟨0, ⟨#[]⟩, 0, none, 0, .nil⟩ 24
    rw [World.size_alloc] at this
    rw [hW0]; exact this
  have B0 := Lib.hid hB0
  have Y0 := Lib.hid hY0
  clear hW0 hB0 hY0
  refine (walked_any S σ m W0 (SB.out.below B0.out) t.k t.s t.n t.p t.kids t.c hn).mono ?_
  rintro e w1 ⟨rfl, hB1⟩
  have B1 := Lib.hid (B0.out.trans (hB1.mono B0.out.size))
  replace Y0 := Lib.hid (Y0.out.below hB1)
  clear hB1
  have hlt : w.heap.size + 1 < w1.heap.size := Y0.out.lt
  unfold Nd.val
  go_wp2_with fail
  refine (sclone_any _ (wk σ t).kids (Nat.lt_succ_self _) (by omega) WO.out.2.2.2.2.2.1 (wk σ t).k (wk σ t).s (wk σ t).n w1 (wk σ t).p (wk σ t).c (WA.out.below B1.out)).mono ?_
  rintro e w2 ⟨us, q, d, rfl, hat2, htw, hok2, hcl, hqn, hB2⟩
  unfold tv
  have B2 := Lib.hid (B1.out.trans (hB2.mono B1.out.size))
  replace Y0 := Lib.hid (Y0.out.below hB2)
  have hs1 := B1.out.size
  have AT2 := Lib.hid hat2
  have TW := Lib.hid htw
  have OK2 := Lib.hid hok2
  have QN := Lib.hid hqn
  have y0 := Y0.out.c0
  have y1 := Y0.out.c1
  have y2 := Y0.out.c2
  have y3 := Y0.out.c3
  have g0 := Y0.out.fr
  clear hB2 hat2 htw hok2 hqn
  go_wp2
  have P := Y0.out.put (y := ⟨(wk σ t).k, (wk σ t).s, (wk σ t).n, q, d, us⟩)
  have p0 := P.c0
  have p1 := P.c1
  have p2 := P.c2
  have p3 := P.c3
  simp only at p0 p1 p2 p3
  refine bodyPost_ret (v := tv (wk σ t).k (wk σ t).s (wk σ t).n q us.len d) (by simp [results, Try.results22, go_sem, p0, p1, p2, p3, tv]) rfl ⟨_, rfl, ⟨us, q, d, rfl, ?_, TW.out, OK2.out, hcl, QN.out⟩, below_put4 B2.out (Nat.le_succ _) _ _ _ _⟩
  refine AT2.out.stay hs1 fun b y hb _ => World.cell?_of_block (a := ⟨b, y, none⟩) ?_
  rw [Below.heap_setCell _ _ _ _ (by simp; omega), Below.heap_setCell _ _ _ _ (by simp; omega), Below.heap_setCell _ _ _ _ (by simp; omega), Below.heap_setCell _ _ _ _ (by simp; omega)]

end Go.Proofs.Ytflomdnjabgnaaa
/-
  Layer 3: the document's bindings in a list: what a number is bound to, and a term walked.
-/
namespace Go.Proofs.Ytflomdnjabgnaaa
open Go.RowKit

/-- bindings that lie in memory -/
def BsLies (w : World) : Nat → Nat → List (Int × Nd) → Prop
  | _, _, [] => True
  | b, o, (v, x) :: l => w.cell? ⟨b, o, none⟩ = some (.int .i64 v) ∧ w.cell? ⟨b, o + 1, none⟩ = some (.int .u8 x.k) ∧ w.cell? ⟨b, o + 2, none⟩ = some (.string x.s) ∧ w.cell? ⟨b, o + 3, none⟩ = some (.int .i64 x.n) ∧ w.cell? ⟨b, o + 4, none⟩ = some (.slice x.p x.kids.len x.c) ∧ Ts.At w x.p x.kids ∧ BsLies w b (o + 5) l

def BsAt (w : World) (p : Option Addr) (l : List (Int × Nd)) : Prop := ∃ b o, (l = [] ∨ p = some ⟨b, o, none⟩) ∧ BsLies w b o l

theorem BsLies.stay {w w' : World} (hc : ∀ b o, b < w.heap.size → w'.cell? ⟨b, o, none⟩ = w.cell? ⟨b, o, none⟩) : ∀ {l : List (Int × Nd)} {b o : Nat}, BsLies w b o l → BsLies w' b o l
  | [], _, _, _ => trivial
  | (v, x) :: l, b, o, ⟨h0, h1, h2, h3, h4, h5, h6⟩ => by
    have hlt : b < w.heap.size := World.block_lt_of_cell? _ _ h0
    exact ⟨(hc _ _ hlt).trans h0, (hc _ _ hlt).trans h1, (hc _ _ hlt).trans h2, (hc _ _ hlt).trans h3, (hc _ _ hlt).trans h4, h5.stay hc, BsLies.stay hc h6⟩

theorem BsAt.below {w w' : World} {p : Option Addr} {l : List (Int × Nd)} (h : BsAt w p l) (hB : Below w.heap.size w w') : BsAt w' p l := by
  obtain ⟨b, o, h1, h2⟩ := h
  exact ⟨b, o, h1, h2.stay (stays hB).1⟩

theorem BsAt.drewN {w : World} {p : Option Addr} {l : List (Int × Nd)} (h : BsAt w p l) (q : Nat) : BsAt (w.drewN q) p l := by
  obtain ⟨b, o, h1, h2⟩ := h
  exact ⟨b, o, h1, BsLies.stay (w := w) (w' := w.drewN q) (fun _ _ _ => rfl) h2⟩

/-- an element -/
structure Bel (b o : Nat) (v : Int) (x : Nd) (w : World) : Prop where
  lt : b < w.heap.size
  c0 : w.cell? ⟨b, o, none⟩ = some (.int .i64 v)
  c1 : w.cell? ⟨b, o + 1, none⟩ = some (.int .u8 x.k)
  c2 : w.cell? ⟨b, o + 2, none⟩ = some (.string x.s)
  c3 : w.cell? ⟨b, o + 3, none⟩ = some (.int .i64 x.n)
  c4 : w.cell? ⟨b, o + 4, none⟩ = some (.slice x.p x.kids.len x.c)
  at_ : Ts.At w x.p x.kids

theorem BsLies.get {w : World} : ∀ {l : List (Int × Nd)} {b o : Nat}, BsLies w b o l → ∀ {j : Nat} {v : Int} {x : Nd}, l[j]? = some (v, x) → Bel b (o + j * 5) v x w
  | [], _, _, _, _, _, _, h => by simp at h
  | (v', x') :: l, b, o, ⟨h0, h1, h2, h3, h4, h5, h6⟩, 0, v, x, h => by
    simp at h
    obtain ⟨rfl, rfl⟩ := h
    simp only [Nat.zero_mul, Nat.add_zero]
    exact ⟨World.block_lt_of_cell? _ _ h0, h0, h1, h2, h3, h4, h5⟩
  | _ :: l, b, o, ⟨_, _, _, _, _, _, h6⟩, j + 1, v, x, h => by
    have := BsLies.get h6 (j := j) (v := v) (x := x) (by simpa using h)
    rw [show o + (j + 1) * 5 = o + 5 + j * 5 from by omega]
    exact this

/-- what a number is bound to: the first in the list -/
def look : List (Int × Nd) → Sb
  | [], _ => none
  | (u, x) :: l, v => if (u == v) = true then some x else look l v

theorem look_drop {l : List (Int × Nd)} {v u : Int} {x : Nd} {j : Nat} (h : l[j]? = some (u, x)) : look (l.drop j) v = if (u == v) = true then some x else look (l.drop (j + 1)) v := by
  have hlt := (List.getElem?_eq_some_iff.1 h).1
  have hd : l.drop j = (u, x) :: l.drop (j + 1) := by
    rw [List.drop_eq_getElem_cons hlt, (List.getElem?_eq_some_iff.1 h).2]
  rw [hd]
  rfl

theorem look_mem : ∀ {l : List (Int × Nd)} {v : Int} {x : Nd}, look l v = some x → (v, x) ∈ l
  | [], _, _, h => by simp [look] at h
  | (u, y) :: l, v, x, h => by
    simp only [look] at h
    split at h
    · rename_i e
      have : u = v := by simpa using e
      cases h; subst this; exact List.mem_cons_self ..
    · exact List.mem_cons_of_mem _ (look_mem h)

theorem look_end (l : List (Int × Nd)) (v : Int) : look (l.drop l.length) v = none := by rw [List.drop_length]; rfl

set_option maxRecDepth 100000 in
set_option maxHeartbeats 4000000 in
theorem of_any (l : List (Int × Nd)) (hl : l.length ≤ 1000000) (w : World) (p : Option Addr) (c : Nat) (hat : BsAt w p l) (v : Int) :
    Calls Try.prog 65 #[.slice p l.length c, .int .i64 v] w fun e w' => e = .returned (.tuple #[valOf (look l v), .bool (look l v).isSome]) ∧ Below w.heap.size w w' := by
  obtain ⟨b, o, hp, hlies⟩ := hat
  have HP := Lib.hid hp
  have LI := Lib.hid hlies
  clear hp hlies
  go_enter Try.func65, Try.ntmps65
  go_wp2_with fail
  obtain ⟨W0, hW0⟩ : ∃ W0, W0 = w.alloc (.cells #[.int .u8 0, .string ⟨#[]⟩, .int .i64 0, .slice none 0 0] 24) := ⟨_, rfl⟩
  rw [← hW0]
  have Z0 := Lib.hid hW0
  have hB0 : Below w.heap.size w W0 := by rw [hW0]; exact (Below.refl _ _).alloc (Nat.le_refl _) _
  have Y0 : Hid (BoxIs w.heap.size ⟨0, ⟨#[]⟩, 0, none, 0, .nil⟩ W0) := Lib.hid (by rw [hW0]; exact BoxIs.new w ⟨0, ⟨#[]⟩, 0, none, 0, .nil⟩ _)
  have B0 := Lib.hid hB0
  have L0 : Hid (BsLies W0 b o l) := Lib.hid (LI.out.stay (stays hB0).1)
  clear hW0 hB0
  go_loop [6] (fun i => ∃ j : Nat, j ≤ l.length ∧ i = .int .i64 j ∧ Hid (look l v = look (l.drop j) v)) (fun i => l.length - (intOf i).toNat)
  case atStart => exact ⟨0, Nat.zero_le _, rfl, Lib.hid rfl⟩
  case round =>
    obtain ⟨j, hj, rfl, LK⟩ := hrel
    by_cases hlt : j < l.length
    · have hpp : p = some ⟨b, o, none⟩ := by
        rcases HP.out with h | h
        · rw [h] at hlt; simp at hlt
        · exact h
      subst hpp
      obtain ⟨⟨u, x⟩, hux⟩ : ∃ ux, l[j]? = some ux := ⟨_, List.getElem?_eq_getElem hlt⟩
      have EL := L0.out.get hux
      have hd := look_drop (v := v) hux
      have c0 := EL.c0
      have c1 := EL.c1
      have c2 := EL.c2
      have c3 := EL.c3
      have c4 := EL.c4
      have HD := Lib.hid hd
      clear EL hux hd
      by_cases hu : (u == v) = true
      · have y0 := Y0.out.c0
        have y1 := Y0.out.c1
        have y2 := Y0.out.c2
        have y3 := Y0.out.c3
        have yf := Y0.out.fr
        have HS : Hid (look l v = some x) := Lib.hid (by rw [LK.out, HD.out, if_pos hu])
        go_wp2
        have P := Y0.out.put (y := x)
        have p0 := P.c0
        have p1 := P.c1
        have p2 := P.c2
        have p3 := P.c3
        exact bodyPost_ret (v := .tuple #[x.val, .bool true]) (by simp [results, Try.results65, go_sem, p0, p1, p2, p3, Nd.val]) rfl ⟨by rw [HS.out]; rfl, below_put4 B0.out (Nat.le_refl _) _ _ _ _⟩
      · rw [Bool.not_eq_true] at hu
        go_wp2
        go_round
        case rel => exact ⟨j + 1, by omega, by go_num, Lib.hid (by rw [LK.out, HD.out, if_neg (by rw [hu]; simp)])⟩
        case measure => simp [intOf]; omega
    · have hjl : j = l.length := by omega
      have HS : Hid (look l v = none) := Lib.hid (by rw [LK.out, hjl, look_end])
      have y0 := Y0.out.c0
      have y1 := Y0.out.c1
      have y2 := Y0.out.c2
      have y3 := Y0.out.c3
      have yf := Y0.out.fr
      clear hjl
      go_wp2
      have P := Y0.out.put (y := ⟨0, ⟨#[]⟩, 0, none, 0, .nil⟩)
      have p0 := P.c0
      have p1 := P.c1
      have p2 := P.c2
      have p3 := P.c3
      simp only [Ts.len] at p0 p1 p2 p3
      exact bodyPost_ret (v := .tuple #[.agg #[.int .u8 0, .string ⟨#[]⟩, .int .i64 0, .slice none 0 0], .bool false]) (by simp [results, Try.results65, go_sem, p0, p1, p2, p3]) rfl ⟨by rw [HS.out]; rfl, below_put4 B0.out (Nat.le_refl _) _ _ _ _⟩

end Go.Proofs.Ytflomdnjabgnaaa
/-
  Layer 3: the document's walked terms: as many steps as there are bindings are enough.
-/
namespace Go.Proofs.Ytflomdnjabgnaaa
open Go.RowKit

theorem nodup_le : ∀ (a b : List Int), a.Nodup → (∀ x ∈ a, x ∈ b) → a.length ≤ b.length
  | [], _, _, _ => Nat.zero_le _
  | x :: a, b, hn, hs => by
    have hx := hs x (List.mem_cons_self ..)
    have hn' := List.nodup_cons.1 hn
    have h := nodup_le a (b.erase x) hn'.2 fun y hy => (List.mem_erase_of_ne (fun e => hn'.1 (by rw [← e]; exact hy))).2 (hs y (List.mem_cons_of_mem _ hy))
    rw [List.length_erase_of_mem hx] at h
    have : 0 < b.length := List.length_pos_of_mem hx
    simp only [List.length_cons]
    omega

/-- the numbers that are passed when a term is walked -/
theorem Wk.passed {σ : Sb} {t r : Nd} {m : Nat} (h : Wk σ t r m) : ∃ vs : List Int, vs.length = m ∧ vs.Nodup ∧ ∀ v ∈ vs, σ v ≠ none ∧ ∃ j, j ≤ m ∧ ∀ y : Nd, (y.k == 1) = true → y.n = v → Wk σ y r j := by
  induction h with
  | stop _ => exact ⟨[], rfl, List.nodup_nil, fun v hv => by cases hv⟩
  | @go t b r m hk hb h ih =>
    obtain ⟨vs, h1, h2, h3⟩ := ih
    have hown : ∀ y : Nd, (y.k == 1) = true → y.n = t.n → Wk σ y r (m + 1) := fun y hy hn => .go hy (by rw [hn]; exact hb) h
    refine ⟨t.n :: vs, by simp [h1], List.nodup_cons.2 ⟨fun hm => ?_, h2⟩, fun v hv => ?_⟩
    · obtain ⟨_, j, hj, hw⟩ := h3 _ hm
      have := ((hw t hk rfl).det (hown t hk rfl)).2
      omega
    · rcases List.mem_cons.1 hv with rfl | hv
      · exact ⟨by rw [hb]; simp, m + 1, Nat.le_refl _, hown⟩
      · obtain ⟨g1, j, g2, g3⟩ := h3 v hv
        exact ⟨g1, j, by omega, g3⟩

theorem look_key {l : List (Int × Nd)} {v : Int} (h : look l v ≠ none) : v ∈ l.map Prod.fst := by
  cases hx : look l v with
  | none => exact absurd hx h
  | some x => exact List.mem_map.2 ⟨(v, x), look_mem hx, rfl⟩

theorem wkn_le {l : List (Int × Nd)} (hE : Ends (look l)) (t : Nd) : wkn (look l) t ≤ l.length := by
  obtain ⟨vs, h1, h2, h3⟩ := (wk_spec hE t).passed
  rw [← h1, show l.length = (l.map Prod.fst).length from by simp]
  exact nodup_le _ _ h2 fun v hv => look_key (h3 v hv).1

set_option maxRecDepth 100000 in
set_option maxHeartbeats 4000000 in
theorem rwalk_any (l : List (Int × Nd)) (hl : l.length ≤ 1000000) (hE : Ends (look l)) (w : World) (p : Option Addr) (cl : Nat) (hat : BsAt w p l) (k : Int) (s : ByteArray) (n : Int) (q : Option Addr) (kids : Ts) (c : Nat) :
    Calls Try.prog 26 #[.slice p l.length cl, .agg #[.int .u8 k, .string s, .int .i64 n, .slice q kids.len c]] w fun e w' => e = .returned (wk (look l) ⟨k, s, n, q, c, kids⟩).val ∧ Below w.heap.size w w' := by
  have HE := Lib.hid hE
  have AT := Lib.hid hat
  have hN := wkn_le hE ⟨k, s, n, q, c, kids⟩
  clear hE hat
  go_enter Try.func26, Try.ntmps26
  go_wp2_with fail
  obtain ⟨W0, hW0⟩ : ∃ W0, W0 = (w.alloc (.cells #[.int .u8 k, .string s, .int .i64 n, .slice q kids.len c] 24)).alloc (.cells #[.int .u8 0, .string ⟨#[]⟩, .int .i64 0, .slice none 0 0] 24) := ⟨_, rfl⟩
  rw [← hW0]
  have hB0 : Below w.heap.size w W0 := by rw [hW0]; exact below2 _ _ _
  have hX0 : BoxIs w.heap.size ⟨k, s, n, q, c, kids⟩ W0 := by rw [hW0]; exact (BoxIs.new w ⟨k, s, n, q, c, kids⟩ _).below ((Below.refl _ _).alloc (Nat.le_refl _) _)
  have hY0 : BoxIs (w.heap.size + 1) ⟨0, ⟨#[]⟩, 0, none, 0, .nil⟩ W0 := by
    have := BoxIs.new (w.alloc (.cells #[.int .u8 k, .string s, .int .i64 n, .slice q kids.len c] 24)) ⟨0, ⟨#[]⟩, 0, none, 0, .nil⟩ 24
    rw [World.size_alloc] at this
    rw [hW0]; exact this
  have X0 := Lib.hid hX0
  have Y0 := Lib.hid hY0
  have B0 := Lib.hid hB0
  clear hW0 hX0 hY0 hB0
  go_loopw [5] (fun i wr => ∃ (j : Nat) (x : Nd), i = .int .i64 j ∧ Hid (BoxIs w.heap.size x wr) ∧ Hid (BoxIs (w.heap.size + 1) ⟨0, ⟨#[]⟩, 0, none, 0, .nil⟩ wr) ∧ Hid (Below w.heap.size w wr) ∧ Hid (wk (look l) x = wk (look l) ⟨k, s, n, q, c, kids⟩) ∧ wkn (look l) x + j ≤ l.length) (fun i _ => l.length + 1 - (intOf i).toNat)
  case atStart => exact ⟨0, ⟨k, s, n, q, c, kids⟩, rfl, X0, Y0, B0, Lib.hid rfl, by omega⟩
  case round =>
    obtain ⟨j, x, rfl, XX, YY, BB, WK, hj⟩ := hrel
    have hjl : j ≤ l.length := by omega
    have c0 := XX.out.c0
    have c1 := XX.out.c1
    have c2 := XX.out.c2
    have c3 := XX.out.c3
    have f0 := XX.out.fr
    have y0 := YY.out.c0
    have y1 := YY.out.c1
    have y2 := YY.out.c2
    have y3 := YY.out.c3
    have g0 := YY.out.fr
    by_cases hk : (x.k == 1) = true
    · go_wp2_with fail
      refine (of_any l hl wr p cl (AT.out.below BB.out) x.n).mono ?_
      rintro e w1 ⟨rfl, hB1⟩
      replace XX := Lib.hid (XX.out.below hB1)
      replace YY := Lib.hid (YY.out.below hB1)
      replace BB := Lib.hid (BB.out.trans (hB1.mono BB.out.size))
      clear hB1 c0 c1 c2 c3 f0 y0 y1 y2 y3 g0
      cases hb : look l x.n with
      | none =>
        have HW := Lib.hid (wk_stop (.inr hb) : wk (look l) x = x)
        rw [valOf_none]
        clear hb
        obtain ⟨W2, hW2⟩ : ∃ W2, W2 = w1.alloc (.cells #[.int .u8 0, .string ⟨#[]⟩, .int .i64 0, .slice none 0 0] 24) := ⟨_, rfl⟩
        have hB2 : Below w1.heap.size w1 W2 := by rw [hW2]; exact (Below.refl _ _).alloc (Nat.le_refl _) _
        replace XX := Lib.hid (XX.out.below hB2)
        replace YY := Lib.hid (YY.out.below hB2)
        replace BB := Lib.hid (BB.out.trans (hB2.mono BB.out.size))
        have c0 := XX.out.c0
        have c1 := XX.out.c1
        have c2 := XX.out.c2
        have c3 := XX.out.c3
        have y0 := YY.out.c0
        have y1 := YY.out.c1
        have y2 := YY.out.c2
        have y3 := YY.out.c3
        have g0 := YY.out.fr
        have Z2 := Lib.hid hW2
        clear hB2 hW2
        go_upto_region 5 with fail
        rw [← Z2.out]
        go_wp2
        have P := YY.out.put (y := x)
        have p0 := P.c0
        have p1 := P.c1
        have p2 := P.c2
        have p3 := P.c3
        exact bodyPost_ret (v := x.val) (by simp [results, Try.results26, go_sem, p0, p1, p2, p3, Nd.val]) rfl ⟨by rw [← WK.out, HW.out], below_put4 BB.out (Nat.le_succ _) _ _ _ _⟩
      | some b =>
        have HW := Lib.hid (wk_go HE.out hk hb : wk (look l) x = wk (look l) b)
        have hm := (wkn_go HE.out hk hb : wkn (look l) x = wkn (look l) b + 1)
        have hj2 : wkn (look l) b + (j + 1) ≤ l.length := by omega
        rw [valOf_some]
        clear hb hm
        obtain ⟨W2, hW2⟩ : ∃ W2, W2 = w1.alloc (.cells #[.int .u8 b.k, .string b.s, .int .i64 b.n, .slice b.p b.kids.len b.c] 24) := ⟨_, rfl⟩
        have hB2 : Below w1.heap.size w1 W2 := by rw [hW2]; exact (Below.refl _ _).alloc (Nat.le_refl _) _
        have NB := BoxIs.new w1 b 24
        rw [← hW2] at NB
        have hlt : w.heap.size + 1 < w1.heap.size := YY.out.lt
        replace XX := Lib.hid (XX.out.below hB2)
        replace YY := Lib.hid (YY.out.below hB2)
        replace BB := Lib.hid (BB.out.trans (hB2.mono BB.out.size))
        have c0 := XX.out.c0
        have c1 := XX.out.c1
        have c2 := XX.out.c2
        have c3 := XX.out.c3
        have g0 := XX.out.fr
        have y0 := NB.c0
        have y1 := NB.c1
        have y2 := NB.c2
        have y3 := NB.c3
        have Z2 := Lib.hid hW2
        clear hB2 hW2 NB
        go_upto_region 5 with fail
        rw [← Z2.out]
        go_wp2
        go_roundw
        case rel =>
          refine ⟨j + 1, b, by go_num, Lib.hid XX.out.put, Lib.hid (YY.out.of_block ?_), Lib.hid (below_put4 BB.out (Nat.le_refl _) _ _ _ _), Lib.hid (by rw [← HW.out]; exact WK.out), hj2⟩
          rw [Below.heap_setCell _ _ _ _ (by simp), Below.heap_setCell _ _ _ _ (by simp), Below.heap_setCell _ _ _ _ (by simp), Below.heap_setCell _ _ _ _ (by simp)]
        case measure => simp [intOf]; omega
    · rw [Bool.not_eq_true] at hk
      have HK := Lib.hid hk
      go_wp2
      have P := YY.out.put (y := x)
      have p0 := P.c0
      have p1 := P.c1
      have p2 := P.c2
      have p3 := P.c3
      exact bodyPost_ret (v := x.val) (by simp [results, Try.results26, go_sem, p0, p1, p2, p3, Nd.val]) rfl ⟨by rw [← WK.out, wk_stop (.inl HK.out)], below_put4 BB.out (Nat.le_succ _) _ _ _ _⟩

end Go.Proofs.Ytflomdnjabgnaaa
