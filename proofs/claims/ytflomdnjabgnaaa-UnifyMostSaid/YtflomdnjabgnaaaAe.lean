import Derived.Test.YtflomdnjabgnaaaAd
import Derived.Test.YtflomdnjabgnaaaTz
import Derived.Test.YtflomdnjabgnaaaTi
import Derived.Test.YtflomdnjabgnaaaXf0
/-
  Layer 3: a term walked.
-/
namespace Go.Proofs.Ytflomdnjabgnaaa
open Go.RowKit Go.Maps

def Nd.ok (x : Nd) : Prop := Ts.ok (.cons x.k x.s x.n x.p x.c x.kids .nil)

theorem wkn_same {σ : Sb} (hE : Ends σ) {x y : Nd} (hk : x.k = y.k) (hn : x.n = y.n) : wkn σ x = wkn σ y := by
  by_cases h : (x.k == 1) = true
  · cases hb : σ x.n with
    | none => rw [wkn_eq (.stop (.inr hb)), wkn_eq (.stop (.inr (by rw [← hn]; exact hb)))]
    | some b =>
      have h' : (y.k == 1) = true := by rw [← hk]; exact h
      have hb' : σ y.n = some b := by rw [← hn]; exact hb
      rw [wkn_go hE h hb, wkn_go hE h' hb']
  · rw [Bool.not_eq_true] at h
    rw [wkn_eq (.stop (.inl h)), wkn_eq (.stop (.inl (by rw [← hk]; exact h)))]

/-- how far a term in a box is from being walked -/
noncomputable def boxFar (σ : Sb) (B : Nat) (w : World) : Nat :=
  match w.cell? ⟨B, 0, none⟩, w.cell? ⟨B, 2, none⟩ with
  | some (.int _ k), some (.int _ n) => wkn σ ⟨k, ⟨#[]⟩, n, none, 0, .nil⟩
  | _, _ => 0

structure BoxIs (B : Nat) (x : Nd) (w : World) : Prop where
  c0 : w.cell? ⟨B, 0, none⟩ = some (.int .u8 x.k)
  c1 : w.cell? ⟨B, 1, none⟩ = some (.string x.s)
  c2 : w.cell? ⟨B, 2, none⟩ = some (.int .i64 x.n)
  c3 : w.cell? ⟨B, 3, none⟩ = some (.slice x.p x.kids.len x.c)
  fr : ∀ i, w.frozen? ⟨B, i, none⟩ = false

theorem BoxIs.far {σ : Sb} (hE : Ends σ) {B : Nat} {x : Nd} {w : World} (h : BoxIs B x w) : boxFar σ B w = wkn σ x := by
  unfold boxFar
  rw [h.c0, h.c2]
  exact wkn_same hE rfl rfl

theorem BoxIs.lt {B : Nat} {x : Nd} {w : World} (h : BoxIs B x w) : B < w.heap.size := World.block_lt_of_cell? _ _ h.c0

theorem BoxIs.below {B : Nat} {x : Nd} {w w' : World} (h : BoxIs B x w) (hB : Below w.heap.size w w') : BoxIs B x w' := by
  have hl := h.lt
  exact ⟨((stays hB).1 _ _ hl).trans h.c0, ((stays hB).1 _ _ hl).trans h.c1, ((stays hB).1 _ _ hl).trans h.c2, ((stays hB).1 _ _ hl).trans h.c3, fun i => ((stays hB).2 _ _ hl).trans (h.fr i)⟩

theorem BoxIs.of_block {B : Nat} {x : Nd} {w w' : World} (h : BoxIs B x w) (hb : w'.heap[B]? = w.heap[B]?) : BoxIs B x w' := by
  have e := fun i => World.cell?_of_block (w := w) (w' := w') (a := ⟨B, i, none⟩) hb
  exact ⟨(e 0).trans h.c0, (e 1).trans h.c1, (e 2).trans h.c2, (e 3).trans h.c3, fun i => (World.frozen?_of_block (w := w) (w' := w') (a := ⟨B, i, none⟩) hb).trans (h.fr i)⟩

theorem BoxIs.new (w : World) (x : Nd) (t : TypeId) : BoxIs w.heap.size x (w.alloc (.cells #[.int .u8 x.k, .string x.s, .int .i64 x.n, .slice x.p x.kids.len x.c] t)) := by
  obtain ⟨W, hW, hs, hB, hc, hf⟩ := alloc_new w #[.int .u8 x.k, .string x.s, .int .i64 x.n, .slice x.p x.kids.len x.c] t
  rw [← hW]
  exact ⟨hc 0 _ rfl, hc 1 _ rfl, hc 2 _ rfl, hc 3 _ rfl, hf⟩

/-- a box's term is put away for another one -/
theorem BoxIs.put {B : Nat} {x y : Nd} {w : World} (h : BoxIs B x w) : BoxIs B y ((((w.setCell ⟨B, 0, none⟩ (.int .u8 y.k)).setCell ⟨B, 1, none⟩ (.string y.s)).setCell ⟨B, 2, none⟩ (.int .i64 y.n)).setCell ⟨B, 3, none⟩ (.slice y.p y.kids.len y.c)) := by
  obtain ⟨W, hW, hs, ho, hr, q0, q1, q2, q3, hf, _⟩ := put4 w B 0 (.int .u8 y.k) (.string y.s) (.int .i64 y.n) (.slice y.p y.kids.len y.c) (by rw [h.c0]; rfl) (by rw [h.c1]; rfl) (by rw [h.c2]; rfl) (by rw [h.c3]; rfl)
  simp only [Nat.zero_add] at hW q0 q1 q2 q3
  rw [← hW]
  exact ⟨q0, q1, q2, q3, fun i => (hf _ _).trans (h.fr i)⟩

set_option maxRecDepth 100000 in
set_option maxHeartbeats 4000000 in
theorem walked_any (S : Nat) (σ : Sb) (m : Nat) (w : World) (h : SubAt S σ m w) (k : Int) (s : ByteArray) (n : Int) (p : Option Addr) (kids : Ts) (c : Nat) (hn : -9223372036854775808 ≤ n ∧ n ≤ 9223372036854775807) :
    Calls Try.prog 61 #[.pointer (some ⟨S, 0, none⟩), .agg #[.int .u8 k, .string s, .int .i64 n, .slice p kids.len c]] w fun e w' => e = .returned (wk σ ⟨k, s, n, p, c, kids⟩).val ∧ Below w.heap.size w w' := by
  have SB := Lib.hid h
  have hSl := h.lt
  clear h
  go_enter Try.func61, Try.ntmps61
  go_wp2_with fail
  obtain ⟨W0, hW0⟩ : ∃ W0, W0 = (w.alloc (.cells #[.int .u8 k, .string s, .int .i64 n, .slice p kids.len c] 24)).alloc (.cells #[.int .u8 0, .string ⟨#[]⟩, .int .i64 0, .slice none 0 0] 24) := ⟨_, rfl⟩
  rw [← hW0]
  have hs0 : W0.heap.size = w.heap.size + 2 := by rw [hW0]; simp
  have hB0 : Below w.heap.size w W0 := by rw [hW0]; exact below2 _ _ _
  have hX0 : BoxIs w.heap.size ⟨k, s, n, p, c, kids⟩ W0 := by rw [hW0]; exact (BoxIs.new w ⟨k, s, n, p, c, kids⟩ _).below ((Below.refl _ _).alloc (Nat.le_refl _) _)
  have hY0 : BoxIs (w.heap.size + 1) ⟨0, ⟨#[]⟩, 0, none, 0, .nil⟩ W0 := by
    have := BoxIs.new (w.alloc (.cells #[.int .u8 k, .string s, .int .i64 n, .slice p kids.len c] 24)) ⟨0, ⟨#[]⟩, 0, none, 0, .nil⟩ 24
    rw [World.size_alloc] at this
    rw [hW0]; exact this
  have X0 := Lib.hid hX0
  have Y0 := Lib.hid hY0
  have B0 := Lib.hid hB0
  have Z0 := Lib.hid hs0
  clear hW0 hX0 hY0 hB0 hs0
  go_loopw [] (fun wr => ∃ x : Nd, Hid (BoxIs w.heap.size x wr) ∧ Hid (BoxIs (w.heap.size + 1) ⟨0, ⟨#[]⟩, 0, none, 0, .nil⟩ wr) ∧ Hid (Below w.heap.size w wr) ∧ Hid (wk σ x = wk σ ⟨k, s, n, p, c, kids⟩) ∧ (-9223372036854775808 ≤ x.n ∧ x.n ≤ 9223372036854775807)) (fun wr => boxFar σ w.heap.size wr)
  case atStart => exact ⟨⟨k, s, n, p, c, kids⟩, X0, Y0, B0, Lib.hid rfl, hn⟩
  case round =>
    obtain ⟨x, XX, YY, BB, WK, hxn⟩ := hrel
    have FAR := Lib.hid (XX.out.far SB.out.ends : boxFar σ w.heap.size wr = wkn σ x)
    have c0 := XX.out.c0
    have c1 := XX.out.c1
    have c2 := XX.out.c2
    have c3 := XX.out.c3
    have f0 := XX.out.fr
    have y0 := YY.out.c0
    have y1 := YY.out.c1
    have y2 := YY.out.c2
    have y3 := YY.out.c3
    have g0 := YY.out.fr
    by_cases hk : (x.k == 1) = true
    · have hsl : S < wr.heap.size := Nat.lt_of_lt_of_le hSl BB.out.size
      go_wp2_with fail
      refine (binding_any S σ m wr (SB.out.below BB.out) x.n hxn).mono ?_
      rintro e w1 ⟨rfl, hB1⟩
      replace XX := Lib.hid (XX.out.below hB1)
      replace YY := Lib.hid (YY.out.below hB1)
      replace BB := Lib.hid (BB.out.trans (hB1.mono BB.out.size))
      clear hB1 c0 c1 c2 c3 f0 y0 y1 y2 y3 g0 hsl
      cases hb : σ x.n with
      | none =>
        have HW := Lib.hid (wk_stop (.inr hb) : wk σ x = x)
        rw [valOf_none]
        clear hb
        obtain ⟨W2, hW2⟩ : ∃ W2, W2 = w1.alloc (.cells #[.int .u8 0, .string ⟨#[]⟩, .int .i64 0, .slice none 0 0] 24) := ⟨_, rfl⟩
        have hB2 : Below w1.heap.size w1 W2 := by rw [hW2]; exact (Below.refl _ _).alloc (Nat.le_refl _) _
        replace XX := Lib.hid (XX.out.below hB2)
        replace YY := Lib.hid (YY.out.below hB2)
        replace BB := Lib.hid (BB.out.trans (hB2.mono BB.out.size))
        have c0 := XX.out.c0
        have c1 := XX.out.c1
        have c2 := XX.out.c2
        have c3 := XX.out.c3
        have y0 := YY.out.c0
        have y1 := YY.out.c1
        have y2 := YY.out.c2
        have y3 := YY.out.c3
        have g0 := YY.out.fr
        have Z2 := Lib.hid hW2
        clear hB2 hW2
        go_upto_region 3 with fail
        rw [← Z2.out]
        go_wp2
        have P := YY.out.put (y := x)
        have p0 := P.c0
        have p1 := P.c1
        have p2 := P.c2
        have p3 := P.c3
        exact bodyPost_ret (v := x.val) (by simp [results, Try.results61, go_sem, p0, p1, p2, p3, Nd.val]) rfl ⟨by rw [← WK.out, HW.out], below_put4 BB.out (Nat.le_succ _) _ _ _ _⟩
      | some b =>
        have HW := Lib.hid (wk_go SB.out.ends hk hb : wk σ x = wk σ b)
        have HM := Lib.hid (wkn_go SB.out.ends hk hb : wkn σ x = wkn σ b + 1)
        have hbn := (SB.out.at_ _ _ hb).2.1.2.2.1
        rw [valOf_some]
        clear hb
        obtain ⟨W2, hW2⟩ : ∃ W2, W2 = w1.alloc (.cells #[.int .u8 b.k, .string b.s, .int .i64 b.n, .slice b.p b.kids.len b.c] 24) := ⟨_, rfl⟩
        have hB2 : Below w1.heap.size w1 W2 := by rw [hW2]; exact (Below.refl _ _).alloc (Nat.le_refl _) _
        have NB := BoxIs.new w1 b 24
        rw [← hW2] at NB
        have hlt : w.heap.size + 1 < w1.heap.size := YY.out.lt
        replace XX := Lib.hid (XX.out.below hB2)
        replace YY := Lib.hid (YY.out.below hB2)
        replace BB := Lib.hid (BB.out.trans (hB2.mono BB.out.size))
        have c0 := XX.out.c0
        have c1 := XX.out.c1
        have c2 := XX.out.c2
        have c3 := XX.out.c3
        have g0 := XX.out.fr
        have y0 := NB.c0
        have y1 := NB.c1
        have y2 := NB.c2
        have y3 := NB.c3
        have Z2 := Lib.hid hW2
        clear hB2 hW2 NB
        go_upto_region 3 with fail
        rw [← Z2.out]
        go_wp2
        go_roundw
        case rel =>
          refine ⟨b, Lib.hid XX.out.put, Lib.hid (YY.out.of_block ?_), Lib.hid (below_put4 BB.out (Nat.le_refl _) _ _ _ _), Lib.hid (by rw [← HW.out]; exact WK.out), hbn⟩
          rw [Below.heap_setCell _ _ _ _ (by simp), Below.heap_setCell _ _ _ _ (by simp), Below.heap_setCell _ _ _ _ (by simp), Below.heap_setCell _ _ _ _ (by simp)]
        case measure =>
          rw [(XX.out.put (y := b)).far SB.out.ends, FAR.out, HM.out]
          omega
    · rw [Bool.not_eq_true] at hk
      have HK := Lib.hid hk
      go_wp2
      have P := YY.out.put (y := x)
      have p0 := P.c0
      have p1 := P.c1
      have p2 := P.c2
      have p3 := P.c3
      exact bodyPost_ret (v := x.val) (by simp [results, Try.results61, go_sem, p0, p1, p2, p3, Nd.val]) rfl ⟨by rw [← WK.out, wk_stop (.inl HK.out)], below_put4 BB.out (Nat.le_succ _) _ _ _ _⟩

/-- a term cloned: elsewhere, and alike -/
def CloneOf (x : Nd) (B : Nat) (v : Value) (w : World) : Prop := ∃ us q d, v = tv x.k x.s x.n q us.len d ∧ Ts.AtB B w q us ∧ Ts.twin us x.kids ∧ us.ok ∧ (us.len ≤ d ∧ d ≤ 9223372036854775807) ∧ (q = none → d = 0)

set_option maxRecDepth 100000 in
set_option maxHeartbeats 4000000 in
theorem walk_any (S : Nat) (σ : Sb) (m : Nat) (w : World) (h : SubAt S σ m w) (t : Nd) (hok : t.ok) (hat : Ts.At w t.p t.kids) (hsz : t.kids.size ≤ 5000) :
    Calls Try.prog 22 #[.pointer (some ⟨S, 0, none⟩), .agg #[.int .u8 t.k, .string t.s, .int .i64 t.n, .slice t.p t.kids.len t.c]] w fun e w' => ∃ v, e = .returned v ∧ CloneOf (wk σ t) w.heap.size v w' ∧ Below w.heap.size w w' := by
  have SB := Lib.hid h
  have hSl := h.lt
  have hn := hok.2.2.1
  obtain ⟨hwat, hwok, hwsz⟩ := h.walked ⟨hat, hok, hsz⟩
  have WA := Lib.hid hwat
  have WO := Lib.hid hwok
  clear h hwat hwok hok hat
  go_enter Try.func22, Try.ntmps22
  go_wp2_with fail
  obtain ⟨W0, hW0⟩ : ∃ W0, W0 = (w.alloc (.cells #[.int .u8 t.k, .string t.s, .int .i64 t.n, .slice t.p t.kids.len t.c] 24)).alloc (.cells #[.int .u8 0, .string ⟨#[]⟩, .int .i64 0, .slice none 0 0] 24) := ⟨_, rfl⟩
  rw [← hW0]
  have hB0 : Below w.heap.size w W0 := by rw [hW0]; exact below2 _ _ _
  have hY0 : BoxIs (w.heap.size + 1) ⟨0, ⟨#[]⟩, 0, none, 0, .nil⟩ W0 := by
    have := BoxIs.new (w.alloc (.cells #[.int .u8 t.k, .string t.s, .int .i64 t.n, .slice t.p t.kids.len t.c] 24)) ⟨0, ⟨#[]⟩, 0, none, 0, .nil⟩ 24
    rw [World.size_alloc] at this
    rw [hW0]; exact this
  have B0 := Lib.hid hB0
  have Y0 := Lib.hid hY0
  clear hW0 hB0 hY0
  refine (walked_any S σ m W0 (SB.out.below B0.out) t.k t.s t.n t.p t.kids t.c hn).mono ?_
  rintro e w1 ⟨rfl, hB1⟩
  have B1 := Lib.hid (B0.out.trans (hB1.mono B0.out.size))
  replace Y0 := Lib.hid (Y0.out.below hB1)
  clear hB1
  have hlt : w.heap.size + 1 < w1.heap.size := Y0.out.lt
  unfold Nd.val
  go_wp2_with fail
  refine (sclone_any _ (wk σ t).kids (Nat.lt_succ_self _) (by omega) WO.out.2.2.2.2.2.1 (wk σ t).k (wk σ t).s (wk σ t).n w1 (wk σ t).p (wk σ t).c (WA.out.below B1.out)).mono ?_
  rintro e w2 ⟨us, q, d, rfl, hat2, htw, hok2, hcl, hqn, hB2⟩
  unfold tv
  have B2 := Lib.hid (B1.out.trans (hB2.mono B1.out.size))
  replace Y0 := Lib.hid (Y0.out.below hB2)
  have hs1 := B1.out.size
  have AT2 := Lib.hid hat2
  have TW := Lib.hid htw
  have OK2 := Lib.hid hok2
  have QN := Lib.hid hqn
  have y0 := Y0.out.c0
  have y1 := Y0.out.c1
  have y2 := Y0.out.c2
  have y3 := Y0.out.c3
  have g0 := Y0.out.fr
  clear hB2 hat2 htw hok2 hqn
  go_wp2
  have P := Y0.out.put (y := ⟨(wk σ t).k, (wk σ t).s, (wk σ t).n, q, d, us⟩)
  have p0 := P.c0
  have p1 := P.c1
  have p2 := P.c2
  have p3 := P.c3
  simp only at p0 p1 p2 p3
  refine bodyPost_ret (v := tv (wk σ t).k (wk σ t).s (wk σ t).n q us.len d) (by simp [results, Try.results22, go_sem, p0, p1, p2, p3, tv]) rfl ⟨_, rfl, ⟨us, q, d, rfl, ?_, TW.out, OK2.out, hcl, QN.out⟩, below_put4 B2.out (Nat.le_succ _) _ _ _ _⟩
  refine AT2.out.stay hs1 fun b y hb _ => World.cell?_of_block (a := ⟨b, y, none⟩) ?_
  rw [Below.heap_setCell _ _ _ _ (by simp; omega), Below.heap_setCell _ _ _ _ (by simp; omega), Below.heap_setCell _ _ _ _ (by simp; omega), Below.heap_setCell _ _ _ _ (by simp; omega)]

end Go.Proofs.Ytflomdnjabgnaaa
/-
  A law for a region that draws its order and writes too: one invariant of what has come up, of the slots' values and of the world; one step an operation.
-/
namespace Go.Proofs.Ytflomdnjabgnaaa
open Go.RowKit

def updL (L : Nat → Bool) (i : Nat) : Nat → Bool := fun j => if j = i then true else L j

def GStep (P : Program) (ops : Array Oper) (Q : Exit → Act → World → Prop) (frame : (Nat → Value) → Act) (G : (Nat → Bool) → (Nat → Value) → World → Prop) (i : Nat) (o : Oper) : Prop :=
  ∀ (L : Nat → Bool) (f : Nat → Value) (w : World), L i = false → (∀ j, waitsOn o j = true → L j = true) → G L f w → ∀ K : Act → World → Prop, Hid (∀ v a' w', a' = (frame f).put o.dst v → G (updL L i) (upd f i v) w' → K a' w') →
    if Region.wanted o (yielded ops (frame f).tmps) = true then Oper.wp P o (frame f) w K Q else K ((frame f).put o.dst undef) w

def GSteps (P : Program) (ops : Array Oper) (Q : Exit → Act → World → Prop) (frame : (Nat → Value) → Act) (G : (Nat → Bool) → (Nat → Value) → World → Prop) : List Oper → Nat → Prop
  | [], _ => True
  | o :: l, i => GStep P ops Q frame G i o ∧ GSteps P ops Q frame G l (i + 1)

theorem GSteps.get {P : Program} {ops : Array Oper} {Q : Exit → Act → World → Prop} {frame : (Nat → Value) → Act} {G : (Nat → Bool) → (Nat → Value) → World → Prop} : ∀ {l : List Oper} {k : Nat}, GSteps P ops Q frame G l k → ∀ {i : Nat} {o : Oper}, l[i]? = some o → GStep P ops Q frame G (k + i) o
  | [], _, _, _, _, h => by simp at h
  | _ :: _, _, h, 0, _, ho => by cases ho; exact h.1
  | _ :: l, k, h, i + 1, o, ho => by
    have := GSteps.get h.2 (i := i) (o := o) (by simpa using ho)
    rw [show k + (i + 1) = k + 1 + i from by omega]
    exact this

section
variable {P : Program} {ops : Array Oper} {Q : Exit → Act → World → Prop} {frame : (Nat → Value) → Act} {G : (Nat → Bool) → (Nat → Value) → World → Prop}

theorem any_inv (hdag : dagB ops.toList 0 = true) (hput : Puts frame ops.toList 0) (hstep : GSteps P ops Q frame G ops.toList 0)
    (hdone : ∀ L f w, (∀ j, j < ops.size → L j = true) → G L f w → Q .normal (frame f) w) :
    ∀ (fuel : Nat) (listed : Array Bool) (f : Nat → Value) (w : World), listed.size = ops.size → listed.toList.count false ≤ fuel → G (fun j => listed.getD j false) f w → wpAny P .any ops Q fuel listed (frame f) w := by
  have all_of : ∀ (listed : Array Bool), listed.size = ops.size → Region.ready .any ops listed = [] → ∀ j, j < ops.size → listed.getD j false = true := by
    intro listed hs hr j
    induction j using Nat.strongRecOn with
    | ind j ih =>
      intro hj
      cases hb : listed.getD j false with
      | true => rfl
      | false =>
        exfalso
        have hm : j ∈ Region.ready .any ops listed := by
          rw [ready_iff]
          refine ⟨hj, ?_, ops[j], by simp [hj], fun i hi => ?_⟩
          · simp only [Array.getD] at hb ⊢
            rw [dif_pos (by omega)] at hb ⊢
            exact hb
          · simp only [waitsOn, Array.any_eq_true', Bool.and_eq_true, beq_iff_eq] at hi
            obtain ⟨e, he, hbe, rfl⟩ := hi
            have := dagB_get hdag (i := j) (o := ops[j]) (by simp [hj]) e he hbe
            exact ih _ (by omega) (by omega)
        rw [hr] at hm; cases hm
  intro fuel
  induction fuel with
  | zero =>
    intro listed f w hs hc hG
    have hall : ∀ j, j < ops.size → listed.getD j false = true := fun j hj => by
      cases hb : listed.getD j false with
      | true => rfl
      | false =>
        exfalso
        have h1 : false ∈ listed.toList := by
          simp only [Array.getD] at hb
          rw [dif_pos (by omega)] at hb
          rw [← hb]
          simp
        have := List.count_pos_iff.2 h1
        omega
    refine ⟨?_, hdone _ f w (fun j hj => hall j hj) hG⟩
    refine List.eq_nil_iff_forall_not_mem.2 fun i hi => ?_
    obtain ⟨h1, h2, _⟩ := (ready_iff listed i).1 hi
    have h3 := hall i h1
    simp only [Array.getD] at h2 h3
    rw [dif_pos (by omega)] at h2 h3
    rw [h2] at h3; cases h3
  | succ fuel ih =>
    intro listed f w hs hc hG
    refine ⟨fun hr => hdone _ f w (fun j hj => all_of listed hs hr j hj) hG, fun i hi => ?_⟩
    obtain ⟨h1, h2, o, ho, h3⟩ := (ready_iff listed i).1 hi
    have hol : ops.toList[i]? = some o := by simpa using ho
    have hli : listed.toList[i]? = some false := by
      simp only [Array.getD] at h2
      rw [dif_pos (by omega)] at h2
      simp only [Array.getElem?_toList]
      rw [Array.getElem?_eq_getElem (by omega)]
      exact congrArg some h2
    have hLi : (fun j => listed.getD j false) i = false := by
      show listed.getD i false = false
      simp only [Array.getD] at h2 ⊢
      rw [dif_pos (by omega)] at h2 ⊢
      exact h2
    have hL : (fun j => (listed.setIfInBounds i true).getD j false) = updL (fun j => listed.getD j false) i := by
      funext j
      simp only [updL]
      by_cases e : j = i
      · subst e
        rw [if_pos rfl]
        simp only [Array.getD, Array.size_setIfInBounds]
        rw [dif_pos (by omega), Array.getInternal_eq_getElem]
        simp
      · rw [if_neg e]
        simp only [Array.getD, Array.size_setIfInBounds]
        split
        · rw [Array.getInternal_eq_getElem, Array.getInternal_eq_getElem, Array.getElem_setIfInBounds_ne _ (fun h => e h.symm)]
        · rfl
    refine wpOp_step ho fun K' hK => ?_
    have hst := GSteps.get hstep hol (fun j => listed.getD j false) f w
    rw [Nat.zero_add] at hst
    refine hst hLi (fun j hj => h3 j hj) hG K' (Lib.hid fun v a' w' ha' hG' => ha' ▸ hK _ _ ?_)
    have hp := Puts.get hput hol f v
    rw [Nat.zero_add] at hp
    rw [hp]
    refine ih _ _ _ (by simp [hs]) ?_ (by rw [hL]; exact hG')
    have := count_set hli
    rw [Array.toList_setIfInBounds]
    omega
end

theorem region_by_inv {P : Program} {ops : Array Oper} {Q : Exit → Act → World → Prop} {id : Nat} {a : Act} {w : World} (G : (Nat → Bool) → (Nat → Value) → World → Prop) (hm : P.follows .mixedOrders = true) (hdag : dagB ops.toList 0 = true) (hap : apartB ops.toList = true)
    (h0 : ∀ f, G (fun _ => false) f w.drew) (hstep : GSteps P ops Q (frameOf a ops.toList 0) G ops.toList 0)
    (hdone : ∀ L f w, (∀ j, j < ops.size → L j = true) → G L f w → Q .normal (frameOf a ops.toList 0 f) w) : (Code.region id ops true).wp P Q a w := by
  rw [← frameOf_self a ops ops.toList 0 fun k => by simp] 
  refine wp_region_any hm ?_
  rw [frameOf_self a ops ops.toList 0 fun k => by simp]
  have h := any_inv hdag (puts_of _ _ (frameOf_put a _ _ hap)) hstep hdone ops.size (Array.replicate ops.size false) (fun j => slotOf a ((ops[j]?).bind (·.dst))) w.drew (by simp) (by simp) (by
    have e : (fun j => (Array.replicate ops.size false).getD j false) = fun _ => false := by
      funext j
      simp only [Array.getD]
      split <;> simp
    rw [e]
    exact h0 _)
  rw [frameOf_self a ops ops.toList 0 fun k => by simp] at h
  exact h

/-- no node of kind 0 -/
def kindsN : Ts → Prop
  | .nil => True
  | .cons k _ _ _ _ kids rest => k ≠ 0 ∧ kindsN kids ∧ kindsN rest

/-- a block in which a node of another kind lies -/
def Marked (w : World) (b : Nat) : Prop := ∃ (o : Nat) (k : Int), w.cell? ⟨b, o, none⟩ = some (.int .u8 k) ∧ k ≠ 0

theorem lies_marked {w w' : World} (h : ∀ b, Marked w b → ∀ y, w'.cell? ⟨b, y, none⟩ = w.cell? ⟨b, y, none⟩) : ∀ {ts : Ts} {b o : Nat}, kindsN ts → ts.lies w b o → ts.lies w' b o
  | .nil, _, _, _, _ => trivial
  | .cons k s n p c kids rest, b, o, ⟨hk, hk1, hk2⟩, ⟨h0, h1, h2, h3, ⟨b', o', h4, h5⟩, h6⟩ => by
    have hm := h b ⟨o, k, h0, hk⟩
    exact ⟨(hm _).trans h0, (hm _).trans h1, (hm _).trans h2, (hm _).trans h3, ⟨b', o', h4, lies_marked h hk1 h5⟩, lies_marked h hk2 h6⟩

theorem At_marked {w w' : World} {p : Option Addr} {ts : Ts} (h : ∀ b, Marked w b → ∀ y, w'.cell? ⟨b, y, none⟩ = w.cell? ⟨b, y, none⟩) (hk : kindsN ts) (hat : Ts.At w p ts) : Ts.At w' p ts := by
  obtain ⟨b, o, h1, h2⟩ := hat
  exact ⟨b, o, h1, lies_marked h hk h2⟩

theorem headB_kind {k : Int} {s : ByteArray} {n : Int} {len : Nat} (h : headB k s n len = true) : k ≠ 0 := by
  rintro rfl
  unfold headB at h
  rw [if_neg (by decide), if_neg (by decide), if_neg (by decide)] at h
  simp at h

theorem shape_kinds : ∀ {ts : Ts}, shapeL ts = true → kindsN ts
  | .nil, _ => trivial
  | .cons _ _ _ _ _ _ _, h => by
    simp only [shapeL, Bool.and_eq_true] at h
    exact ⟨headB_kind h.1.2, shape_kinds h.1.1, shape_kinds h.2⟩

theorem kinds_twin : ∀ {us ts : Ts}, Ts.twin us ts → kindsN ts → kindsN us
  | .nil, .nil, _, _ => trivial
  | .cons .., .cons .., ⟨rfl, _, _, h1, h2⟩, ⟨g0, g1, g2⟩ => ⟨g0, kinds_twin h1 g1, kinds_twin h2 g2⟩
  | .nil, .cons .., h, _ => h.elim
  | .cons .., .nil, h, _ => h.elim

end Go.Proofs.Ytflomdnjabgnaaa
/-
  A law for a region that draws its order and whose last operation writes: each of the others leaves a fact that no growth of memory takes away.
-/
namespace Go.Proofs.Ytflomdnjabgnaaa
open Go.RowKit

/-- each operation but the last is waited for -/
def sinkB (ops : Array Oper) : Bool := (List.range (ops.size - 1)).all fun j => (List.range ops.size).any fun k => decide (j < k) && ((ops[k]?.map fun o => waitsOn o j).getD false)

theorem sink_all {ops : Array Oper} (h : sinkB ops = true) {L : Nat → Bool} (hcl : ∀ (i : Nat) (o : Oper), ops[i]? = some o → (L i = true ∨ i = ops.size - 1) → ∀ j, waitsOn o j = true → L j = true) : ∀ (d j : Nat), j + d = ops.size - 1 → j < ops.size - 1 → L j = true := by
  intro d
  induction d using Nat.strongRecOn with
  | ind d ih =>
    intro j hj hlt
    simp only [sinkB, List.all_eq_true, List.mem_range, List.any_eq_true, Bool.and_eq_true, decide_eq_true_eq] at h
    obtain ⟨k, hk, hjk, hw⟩ := h j hlt
    cases ho : ops[k]? with
    | none => rw [ho] at hw; cases hw
    | some o =>
      rw [ho] at hw
      by_cases e : k = ops.size - 1
      · exact hcl k o ho (.inr e) j hw
      · exact hcl k o ho (.inl (ih (ops.size - 1 - k) (by omega) k (by omega) (by omega))) j hw

/-- the last operation: from the facts of all others to what follows -/
def LastStep (P : Program) (ops : Array Oper) (Q : Exit → Act → World → Prop) (frame : (Nat → Value) → Act) (I : World → Prop) (F : Nat → Value → World → Prop) (i : Nat) (o : Oper) : Prop :=
  ∀ (f : Nat → Value) (w : World), I w → (∀ j, j < i → F j (f j) w) → ∀ K : Act → World → Prop, Hid (∀ v a' w', a' = (frame f).put o.dst v → Q .normal (frame (upd f i v)) w' → K a' w') →
    if Region.wanted o (yielded ops (frame f).tmps) = true then Oper.wp P o (frame f) w K Q else K ((frame f).put o.dst undef) w

def LSteps (P : Program) (ops : Array Oper) (Q : Exit → Act → World → Prop) (frame : (Nat → Value) → Act) (I : World → Prop) (F : Nat → Value → World → Prop) : List Oper → Nat → Prop
  | [], _ => True
  | [o], i => LastStep P ops Q frame I F i o
  | o :: o' :: l, i => RStep P ops Q frame I F i o ∧ LSteps P ops Q frame I F (o' :: l) (i + 1)

theorem LSteps.get {P : Program} {ops : Array Oper} {Q : Exit → Act → World → Prop} {frame : (Nat → Value) → Act} {I : World → Prop} {F : Nat → Value → World → Prop} : ∀ {l : List Oper} {k : Nat}, LSteps P ops Q frame I F l k → ∀ {i : Nat} {o : Oper}, l[i]? = some o → (i + 1 < l.length → RStep P ops Q frame I F (k + i) o) ∧ (i + 1 = l.length → LastStep P ops Q frame I F (k + i) o)
  | [], _, _, _, _, h => by simp at h
  | [_], _, h, 0, _, ho => by cases ho; exact ⟨fun h' => by simp at h', fun _ => h⟩
  | [_], _, _, i + 1, _, ho => by simp at ho
  | _ :: _ :: _, _, h, 0, _, ho => by cases ho; exact ⟨fun _ => h.1, fun h' => by simp at h'⟩
  | _ :: b :: l, k, h, i + 1, o, ho => by
    have := LSteps.get (l := b :: l) h.2 (i := i) (o := o) (by simpa using ho)
    rw [show k + (i + 1) = k + 1 + i from by omega]
    simp only [List.length_cons] at this ⊢
    exact ⟨fun h' => this.1 (by omega), fun h' => this.2 (by omega)⟩

theorem region_facts_last {P : Program} {ops : Array Oper} {Q : Exit → Act → World → Prop} {id : Nat} {a : Act} {w : World} (I : World → Prop) (L : List (Value → World → Prop)) (hL : StableAll L) (hm : P.follows .mixedOrders = true) (hdag : dagB ops.toList 0 = true) (hap : apartB ops.toList = true) (hsink : sinkB ops = true)
    (h0 : I w.drew) (hstep : LSteps P ops Q (frameOf a ops.toList 0) I (factOf L) ops.toList 0) (hne : 0 < ops.size) : (Code.region id ops true).wp P Q a w := by
  have hopt : ∀ {i : Nat} {o : Oper}, ops.toList[i]? = some o → ops[i]? = some o := fun h => by simpa using h
  refine region_by_inv (fun M f W => (∀ (i : Nat) (o : Oper), ops[i]? = some o → M i = true → ∀ j, waitsOn o j = true → M j = true) ∧ (M (ops.size - 1) = false → I W ∧ ∀ j, j < ops.size - 1 → M j = true → factOf L j (f j) W) ∧ (M (ops.size - 1) = true → (∀ j, j < ops.size - 1 → M j = true) ∧ Q .normal (frameOf a ops.toList 0 f) W)) hm hdag hap
    (fun f => ⟨(fun _ _ _ h => by cases h), (fun _ => ⟨h0, (fun _ _ h => by cases h)⟩), (fun h => by cases h)⟩) ?_ (fun M f W hall hG => (hG.2.2 (hall _ (by omega))).2)
  have build : ∀ (l : List Oper) (k : Nat), (∀ i o, l[i]? = some o → GStep P ops Q (frameOf a ops.toList 0) (fun M f W => (∀ (i : Nat) (o : Oper), ops[i]? = some o → M i = true → ∀ j, waitsOn o j = true → M j = true) ∧ (M (ops.size - 1) = false → I W ∧ ∀ j, j < ops.size - 1 → M j = true → factOf L j (f j) W) ∧ (M (ops.size - 1) = true → (∀ j, j < ops.size - 1 → M j = true) ∧ Q .normal (frameOf a ops.toList 0 f) W)) (k + i) o) → GSteps P ops Q (frameOf a ops.toList 0) (fun M f W => (∀ (i : Nat) (o : Oper), ops[i]? = some o → M i = true → ∀ j, waitsOn o j = true → M j = true) ∧ (M (ops.size - 1) = false → I W ∧ ∀ j, j < ops.size - 1 → M j = true → factOf L j (f j) W) ∧ (M (ops.size - 1) = true → (∀ j, j < ops.size - 1 → M j = true) ∧ Q .normal (frameOf a ops.toList 0 f) W)) l k := by
    intro l
    induction l with
    | nil => intro _ _; trivial
    | cons o l ih =>
      intro k h
      exact ⟨h 0 o rfl, ih (k + 1) fun i o' ho => by rw [show k + 1 + i = k + (i + 1) from by omega]; exact h (i + 1) o' (by simpa using ho)⟩
  refine build _ 0 fun i o ho => ?_
  rw [Nat.zero_add]
  have hi : i < ops.size := by have := (List.getElem?_eq_some_iff.1 ho).1; simpa using this
  have hg := LSteps.get hstep ho
  rw [Nat.zero_add] at hg
  simp only [Array.length_toList] at hg
  intro M f W hMi hwait hG K hK
  have hdg : ∀ j, waitsOn o j = true → j < i := fun j hj => by
    simp only [waitsOn, Array.any_eq_true', Bool.and_eq_true, beq_iff_eq] at hj
    obtain ⟨e, he, hbe, rfl⟩ := hj
    have := dagB_get hdag ho e he hbe
    omega
  have hclosed : ∀ (i' : Nat) (o' : Oper), ops[i']? = some o' → updL M i i' = true → ∀ j, waitsOn o' j = true → updL M i j = true := by
    intro i' o' ho' hi' j hj
    simp only [updL] at hi' ⊢
    split
    · rfl
    · by_cases e : i' = i
      · subst e
        rw [hopt ho] at ho'
        cases ho'
        exact hwait j hj
      · rw [if_neg e] at hi'
        exact hG.1 i' o' ho' hi' j hj
  by_cases hlast : i = ops.size - 1
  · -- the last one
    have hMl : M (ops.size - 1) = false := by rw [← hlast]; exact hMi
    have hall : ∀ j, j < ops.size - 1 → M j = true := fun j hj => sink_all hsink (L := M) (fun i' o' ho' h j hj => by
      rcases h with h | h
      · exact hG.1 i' o' ho' h j hj
      · rw [h, ← hlast, hopt ho] at ho'
        cases ho'
        exact hwait j hj) (ops.size - 1 - j) j (by omega) hj
    obtain ⟨hI, hF⟩ := hG.2.1 hMl
    refine hg.2 (by omega) f W hI (fun j hj => hF j (by omega) (hall j (by omega))) K (Lib.hid fun v a' w' ha hq => hK.out v a' w' ha ⟨hclosed, fun h => ?_, fun _ => ⟨fun j hj => ?_, hq⟩⟩)
    · simp only [updL] at h; rw [if_pos hlast.symm] at h; cases h
    · simp only [updL]; rw [if_neg (by omega)]; exact hall j hj
  · have hMl : M (ops.size - 1) = false := by
      cases hb : M (ops.size - 1) with
      | false => rfl
      | true => have := (hG.2.2 hb).1 i (by omega); rw [hMi] at this; cases this
    obtain ⟨hI, hF⟩ := hG.2.1 hMl
    refine hg.1 (by omega) f W hI (fun j hj => hF j (by have := hdg j hj; omega) (hwait j hj)) K (Lib.hid fun v a' w' ha hI' hB hf => hK.out v a' w' ha ⟨hclosed, fun _ => ⟨hI', fun j hj hjt => ?_⟩, fun h => ?_⟩)
    · simp only [updL, upd] at hjt ⊢
      by_cases e : j = i
      · subst e; rw [if_pos rfl]; exact hf
      · rw [if_neg e] at hjt ⊢
        exact factOf_stable hL j _ _ _ (hF j hj hjt) hB
    · simp only [updL] at h; rw [if_neg (fun e => hlast e.symm), hMl] at h; cases h

end Go.Proofs.Ytflomdnjabgnaaa
