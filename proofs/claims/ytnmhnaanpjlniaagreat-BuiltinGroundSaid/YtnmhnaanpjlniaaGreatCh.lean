import Derived.Test.YtnmhnaanpjlniaaGreatCe
import Derived.Test.YtnmhnaanpjlniaaGreatAe
/-
  Layer 4: what stands while two terms are walked and put into boxes, in whatever order. (Written by gen_cf.py.)
-/
namespace Go.Proofs.YtnmhnaanpjlniaaGreat
open Go.RowKit

/-- a box of its own, with nothing in it yet -/
def ZB (B0 : Nat) (v : Value) (w : World) : Prop := ∃ T, v = .pointer (some ⟨T, 0, none⟩) ∧ B0 ≤ T ∧ BoxIs T ⟨0, ⟨#[]⟩, 0, none, 0, .nil⟩ w

/-- a box, with a term in it -/
def FB (B0 : Nat) (v u : Value) (w : World) : Prop := ∃ T k s n p len c, v = .pointer (some ⟨T, 0, none⟩) ∧ u = tv k s n p len c ∧ B0 ≤ T ∧ T < w.heap.size ∧
  w.cell? ⟨T, 0, none⟩ = some (.int .u8 k) ∧ w.cell? ⟨T, 1, none⟩ = some (.string s) ∧ w.cell? ⟨T, 2, none⟩ = some (.int .i64 n) ∧ w.cell? ⟨T, 3, none⟩ = some (.slice p len c)

theorem ZB.below {B0 : Nat} {v : Value} {w w' : World} (h : ZB B0 v w) (hB : Below w.heap.size w w') : ZB B0 v w' := by
  obtain ⟨T, h1, h2, h3⟩ := h
  exact ⟨T, h1, h2, h3.below hB⟩

theorem FB.of_block {B0 T : Nat} {v u : Value} {w w' : World} (h : FB B0 v u w) (hs : w.heap.size ≤ w'.heap.size) (hb : ∀ b, b < w.heap.size → b ≠ T → w'.heap[b]? = w.heap[b]?) (hne : v ≠ .pointer (some ⟨T, 0, none⟩)) : FB B0 v u w' := by
  obtain ⟨T', k, s, n, p, len, c, rfl, h2, h0, h3, c0, c1, c2, c3⟩ := h
  have e := fun y => World.cell?_of_block (a := ⟨T', y, none⟩) (hb T' h3 (fun e => hne (by rw [e])))
  exact ⟨T', k, s, n, p, len, c, rfl, h2, h0, by omega, (e _).trans c0, (e _).trans c1, (e _).trans c2, (e _).trans c3⟩

theorem FB.below {B0 : Nat} {v u : Value} {w w' : World} (h : FB B0 v u w) (hB : Below w.heap.size w w') : FB B0 v u w' := by
  obtain ⟨T', k, s, n, p, len, c, rfl, h2, h0, h3, c0, c1, c2, c3⟩ := h
  exact ⟨T', k, s, n, p, len, c, rfl, h2, h0, Nat.lt_of_lt_of_le h3 hB.size, ((stays hB).1 _ _ h3).trans c0, ((stays hB).1 _ _ h3).trans c1, ((stays hB).1 _ _ h3).trans c2, ((stays hB).1 _ _ h3).trans c3⟩

theorem ZB.of_block {B0 T : Nat} {v : Value} {w w' : World} (h : ZB B0 v w) (hb : ∀ b, b < w.heap.size → b ≠ T → w'.heap[b]? = w.heap[b]?) (hne : v ≠ .pointer (some ⟨T, 0, none⟩)) : ZB B0 v w' := by
  obtain ⟨T', rfl, h2, h3⟩ := h
  exact ⟨T', rfl, h2, h3.of_block (hb T' h3.lt (fun e => hne (by rw [e])))⟩

theorem zb_alloc {B0 : Nat} {W : World} {ty : TypeId} (hB : B0 ≤ W.heap.size) : ZB B0 (.pointer (some ⟨W.heap.size, 0, none⟩)) (W.alloc (.cells #[.int .u8 0, .string ⟨#[]⟩, .int .i64 0, .slice none 0 0] ty)) :=
  ⟨_, rfl, hB, BoxIs.new W ⟨0, ⟨#[]⟩, 0, none, 0, .nil⟩ ty⟩

theorem zb_other {B0 : Nat} {v : Value} {W : World} (h : ZB B0 v W) : v ≠ .pointer (some ⟨W.heap.size, 0, none⟩) := by
  obtain ⟨T, rfl, _, h3⟩ := h
  intro e
  injection e with e
  injection e with e
  injection e with e
  have := h3.lt
  omega

/-- blocks that no box of these is -/
def AV (L : Nat → Bool) (f : Nat → Value) (P : Nat → Prop) (b : Nat) : Prop := P b ∧ (L 8 = true → f 8 ≠ .pointer (some ⟨b, 0, none⟩)) ∧ (L 9 = true → f 9 ≠ .pointer (some ⟨b, 0, none⟩))

theorem WOf.imp {P Q : Nat → Prop} {x : Nd} {v : Value} {w : World} (h : WOf P x v w) (hi : ∀ b, b < w.heap.size → P b → Q b) : WOf Q x v w := by
  obtain ⟨us, q, d, h1, h2, h3⟩ := h
  exact ⟨us, q, d, h1, AtP_imp hi h2, h3⟩
theorem WOf.of_block {P : Nat → Prop} {T : Nat} {x : Nd} {v : Value} {w w' : World} (h : WOf P x v w) (hb : ∀ b, b < w.heap.size → b ≠ T → w'.heap[b]? = w.heap[b]?) (hP : ∀ b, P b → b ≠ T) : WOf P x v w' := by
  obtain ⟨us, q, d, h1, h2, h3⟩ := h
  exact ⟨us, q, d, h1, h2.stay fun b hp hl => hb b hl (hP b hp), h3⟩

structure GU (Ws : World) (P : Nat → Prop) (kb pa pb va vb : Value) (x y : Nd) (L : Nat → Bool) (f : Nat → Value) (W : World) : Prop where
  B : Below Ws.heap.size Ws W
  f0 : L 0 = true → f 0 = kb
  f1 : L 1 = true → f 1 = pa
  f2 : L 2 = true → f 2 = va
  f3 : L 3 = true → WOf (AV L f P) x (f 3) W
  f4 : L 4 = true → f 4 = kb
  f5 : L 5 = true → f 5 = pb
  f6 : L 6 = true → f 6 = vb
  f7 : L 7 = true → WOf (AV L f P) y (f 7) W
  f8 : L 8 = true → L 10 = false → ZB Ws.heap.size (f 8) W
  f9 : L 9 = true → L 11 = false → ZB Ws.heap.size (f 9) W
  ne : L 8 = true → L 9 = true → f 8 ≠ f 9
  w10 : L 10 = true → L 8 = true ∧ L 3 = true ∧ L 9 = true ∧ L 7 = true ∧ FB Ws.heap.size (f 8) (f 3) W
  w11 : L 11 = true → L 10 = true ∧ FB Ws.heap.size (f 9) (f 7) W

theorem GU.keep {Ws : World} {P : Nat → Prop} {kb pa pb va vb : Value} {x y : Nd} {L : Nat → Bool} {f : Nat → Value} {W W' : World} (h : GU Ws P kb pa pb va vb x y L f W) (hB : Below W.heap.size W W') : GU Ws P kb pa pb va vb x y L f W' :=
  ⟨h.B.trans (hB.mono h.B.size), h.f0, h.f1, h.f2, fun a => (h.f3 a).below hB, h.f4, h.f5, h.f6, fun a => (h.f7 a).below hB, fun a b => (h.f8 a b).below hB, fun a b => (h.f9 a b).below hB, h.ne,
    fun a => ⟨(h.w10 a).1, (h.w10 a).2.1, (h.w10 a).2.2.1, (h.w10 a).2.2.2.1, (h.w10 a).2.2.2.2.below hB⟩, fun a => ⟨(h.w11 a).1, (h.w11 a).2.below hB⟩⟩

theorem noU {b : Bool} {p : Prop} (h : b = true) (h' : b = false) : p := by rw [h] at h'; cases h'

section
variable {Ws : World} {P : Nat → Prop} {kb pa pb va vb : Value} {x y : Nd} {L : Nat → Bool} {f : Nat → Value} {W : World}

theorem AV.same {L L' : Nat → Bool} {f f' : Nat → Value} (h8 : L' 8 = L 8) (h9 : L' 9 = L 9) (g8 : f' 8 = f 8) (g9 : f' 9 = f 9) : AV L' f' P = AV L f P := by
  funext b
  unfold AV
  rw [h8, h9, g8, g9]
theorem GU.set0 {v : Value} (h : GU Ws P kb pa pb va vb x y L f W) (_hi : L 0 = false) (hv : v = kb) : GU Ws P kb pa pb va vb x y (updL L 0) (upd f 0 v) W :=
  ⟨h.B, fun _ => hv, h.f1, h.f2, h.f3, h.f4, h.f5, h.f6, h.f7, h.f8, h.f9, h.ne, h.w10, h.w11⟩

theorem GU.set1 {v : Value} (h : GU Ws P kb pa pb va vb x y L f W) (_hi : L 1 = false) (hv : v = pa) : GU Ws P kb pa pb va vb x y (updL L 1) (upd f 1 v) W :=
  ⟨h.B, h.f0, fun _ => hv, h.f2, h.f3, h.f4, h.f5, h.f6, h.f7, h.f8, h.f9, h.ne, h.w10, h.w11⟩

theorem GU.set2 {v : Value} (h : GU Ws P kb pa pb va vb x y L f W) (_hi : L 2 = false) (hv : v = va) : GU Ws P kb pa pb va vb x y (updL L 2) (upd f 2 v) W :=
  ⟨h.B, h.f0, h.f1, fun _ => hv, h.f3, h.f4, h.f5, h.f6, h.f7, h.f8, h.f9, h.ne, h.w10, h.w11⟩

theorem GU.set3 {v : Value} (h : GU Ws P kb pa pb va vb x y L f W) (hi : L 3 = false) (hv : WOf (AV L f P) x v W) : GU Ws P kb pa pb va vb x y (updL L 3) (upd f 3 v) W :=
  ⟨h.B, h.f0, h.f1, h.f2, fun _ => hv, h.f4, h.f5, h.f6, h.f7, h.f8, h.f9, h.ne, fun a => noU (h.w10 a).2.1 hi, h.w11⟩

theorem GU.set4 {v : Value} (h : GU Ws P kb pa pb va vb x y L f W) (_hi : L 4 = false) (hv : v = kb) : GU Ws P kb pa pb va vb x y (updL L 4) (upd f 4 v) W :=
  ⟨h.B, h.f0, h.f1, h.f2, h.f3, fun _ => hv, h.f5, h.f6, h.f7, h.f8, h.f9, h.ne, h.w10, h.w11⟩

theorem GU.set5 {v : Value} (h : GU Ws P kb pa pb va vb x y L f W) (_hi : L 5 = false) (hv : v = pb) : GU Ws P kb pa pb va vb x y (updL L 5) (upd f 5 v) W :=
  ⟨h.B, h.f0, h.f1, h.f2, h.f3, h.f4, fun _ => hv, h.f6, h.f7, h.f8, h.f9, h.ne, h.w10, h.w11⟩

theorem GU.set6 {v : Value} (h : GU Ws P kb pa pb va vb x y L f W) (_hi : L 6 = false) (hv : v = vb) : GU Ws P kb pa pb va vb x y (updL L 6) (upd f 6 v) W :=
  ⟨h.B, h.f0, h.f1, h.f2, h.f3, h.f4, h.f5, fun _ => hv, h.f7, h.f8, h.f9, h.ne, h.w10, h.w11⟩

theorem GU.set7 {v : Value} (h : GU Ws P kb pa pb va vb x y L f W) (hi : L 7 = false) (hv : WOf (AV L f P) y v W) : GU Ws P kb pa pb va vb x y (updL L 7) (upd f 7 v) W :=
  ⟨h.B, h.f0, h.f1, h.f2, h.f3, h.f4, h.f5, h.f6, fun _ => hv, h.f8, h.f9, h.ne, fun a => noU (h.w10 a).2.2.2.1 hi, fun a => noU (h.w10 (h.w11 a).1).2.2.2.1 hi⟩

theorem GU.new8 (h : GU Ws P kb pa pb va vb x y L f W) (hi : L 8 = false) (ty : TypeId) : GU Ws P kb pa pb va vb x y (updL L 8) (upd f 8 (.pointer (some ⟨W.heap.size, 0, none⟩))) (W.alloc (.cells #[.int .u8 0, .string ⟨#[]⟩, .int .i64 0, .slice none 0 0] ty)) := by
  have hB : Below W.heap.size W (W.alloc (.cells #[.int .u8 0, .string ⟨#[]⟩, .int .i64 0, .slice none 0 0] ty)) := (Below.refl _ _).alloc (Nat.le_refl _) _
  have k := h.keep hB
  have tr : ∀ b, b < W.heap.size → AV L f P b → AV (updL L 8) (upd f 8 (.pointer (some ⟨W.heap.size, 0, none⟩))) P b := fun b hb hp => ⟨hp.1, fun _ e => by
    have e : Value.pointer (some ⟨W.heap.size, 0, none⟩) = Value.pointer (some ⟨b, 0, none⟩) := e
    injection e with e
    injection e with e
    injection e with e
    omega, hp.2.2⟩
  refine ⟨k.B, k.f0, k.f1, k.f2, fun a => ((h.f3 a).imp tr).below hB, k.f4, k.f5, k.f6, fun a => ((h.f7 a).imp tr).below hB, fun _ _ => zb_alloc h.B.size, k.f9, fun _ b => ?_, fun a => noU (h.w10 a).1 hi, k.w11⟩
  cases h11 : L 11 with
  | false => exact (zb_other (h.f9 b h11)).symm
  | true => exact noU (h.w10 (h.w11 h11).1).1 hi

theorem GU.new9 (h : GU Ws P kb pa pb va vb x y L f W) (hi : L 9 = false) (ty : TypeId) : GU Ws P kb pa pb va vb x y (updL L 9) (upd f 9 (.pointer (some ⟨W.heap.size, 0, none⟩))) (W.alloc (.cells #[.int .u8 0, .string ⟨#[]⟩, .int .i64 0, .slice none 0 0] ty)) := by
  have hB : Below W.heap.size W (W.alloc (.cells #[.int .u8 0, .string ⟨#[]⟩, .int .i64 0, .slice none 0 0] ty)) := (Below.refl _ _).alloc (Nat.le_refl _) _
  have k := h.keep hB
  have tr : ∀ b, b < W.heap.size → AV L f P b → AV (updL L 9) (upd f 9 (.pointer (some ⟨W.heap.size, 0, none⟩))) P b := fun b hb hp => ⟨hp.1, hp.2.1, fun _ e => by
    have e : Value.pointer (some ⟨W.heap.size, 0, none⟩) = Value.pointer (some ⟨b, 0, none⟩) := e
    injection e with e
    injection e with e
    injection e with e
    omega⟩
  refine ⟨k.B, k.f0, k.f1, k.f2, fun a => ((h.f3 a).imp tr).below hB, k.f4, k.f5, k.f6, fun a => ((h.f7 a).imp tr).below hB, k.f8, fun _ _ => zb_alloc h.B.size, fun a _ => ?_, fun a => noU (h.w10 a).2.2.1 hi, fun a => noU (h.w10 (h.w11 a).1).2.2.1 hi⟩
  cases h10 : L 10 with
  | false => exact zb_other (h.f8 a h10)
  | true => exact noU (h.w10 h10).2.2.1 hi
end

/-- a term put into an empty box -/
theorem zb_store {B0 : Nat} {v : Value} {W : World} {k : Int} {s : ByteArray} {n : Int} {p : Option Addr} {len c : Nat} (h : ZB B0 v W) :
    ∃ T, v = .pointer (some ⟨T, 0, none⟩) ∧ B0 ≤ T ∧ BoxIs T ⟨0, ⟨#[]⟩, 0, none, 0, .nil⟩ W ∧ ∃ W', W' = ((((W.setCell ⟨T, 0, none⟩ (.int .u8 k)).setCell ⟨T, 1, none⟩ (.string s)).setCell ⟨T, 2, none⟩ (.int .i64 n)).setCell ⟨T, 3, none⟩ (.slice p len c)) ∧
      FB B0 v (tv k s n p len c) W' ∧ W'.heap.size = W.heap.size ∧ (∀ b, b < W.heap.size → b ≠ T → W'.heap[b]? = W.heap[b]?) ∧ (∀ (w : World), Below B0 w W → Below B0 w W') := by
  obtain ⟨T, rfl, h2, h3⟩ := h
  have hl := h3.lt
  obtain ⟨W', hW, hs, ho, _, c0, c1, c2, c3, hf, hb⟩ := put4 W T 0 (.int .u8 k) (.string s) (.int .i64 n) (.slice p len c) (by rw [h3.c0]; rfl) (by rw [h3.c1]; rfl) (by rw [h3.c2]; rfl) (by rw [h3.c3]; rfl)
  refine ⟨T, rfl, h2, h3, W', hW, ⟨T, k, s, n, p, len, c, rfl, rfl, h2, by omega, c0, c1, c2, c3⟩, hs, fun b _ hne => ?_, fun w => hb B0 w h2⟩
  rw [hW, Below.heap_setCell _ _ _ _ (by simpa using hne), Below.heap_setCell _ _ _ _ (by simpa using hne), Below.heap_setCell _ _ _ _ (by simpa using hne), Below.heap_setCell _ _ _ _ (by simpa using hne)]

theorem FB.cells {B0 : Nat} {v : Value} {k : Int} {s : ByteArray} {n : Int} {p : Option Addr} {len c : Nat} {w : World} (h : FB B0 v (tv k s n p len c) w) : ∃ T, v = .pointer (some ⟨T, 0, none⟩) ∧ B0 ≤ T ∧ T < w.heap.size ∧
    w.cell? ⟨T, 0, none⟩ = some (.int .u8 k) ∧ w.cell? ⟨T, 1, none⟩ = some (.string s) ∧ w.cell? ⟨T, 2, none⟩ = some (.int .i64 n) ∧ w.cell? ⟨T, 3, none⟩ = some (.slice p len c) := by
  obtain ⟨T, k', s', n', p', len', c', e1, e2, h1, h2, c0, c1, c2, c3⟩ := h
  unfold tv at e2
  injection e2 with e2
  simp only [Array.mk.injEq, List.cons.injEq, Value.int.injEq, Value.string.injEq, Value.slice.injEq, true_and, and_true] at e2
  obtain ⟨rfl, rfl, rfl, rfl, rfl, rfl⟩ := e2
  exact ⟨T, e1, h1, h2, c0, c1, c2, c3⟩

theorem zb_past {B0 : Nat} {v : Value} {W : World} (h : ZB B0 v W) {b : Nat} (hb : W.heap.size ≤ b) (e : v = .pointer (some ⟨b, 0, none⟩)) : False := by
  obtain ⟨T, rfl, _, h3⟩ := h
  injection e with e
  injection e with e
  injection e with e
  have := h3.lt
  omega
theorem zb_old {B0 : Nat} {v : Value} {W : World} (h : ZB B0 v W) {b : Nat} (hb : b < B0) (e : v = .pointer (some ⟨b, 0, none⟩)) : False := by
  obtain ⟨T, rfl, h2, h3⟩ := h
  injection e with e
  injection e with e
  injection e with e
  omega

/-- two terms in a box -/
structure PairIs (N : Nat) (a b : Nd) (w : World) : Prop where
  c0 : w.cell? ⟨N, 0, none⟩ = some (.int .u8 a.k)
  c1 : w.cell? ⟨N, 1, none⟩ = some (.string a.s)
  c2 : w.cell? ⟨N, 2, none⟩ = some (.int .i64 a.n)
  c3 : w.cell? ⟨N, 3, none⟩ = some (.slice a.p a.kids.len a.c)
  c4 : w.cell? ⟨N, 4, none⟩ = some (.int .u8 b.k)
  c5 : w.cell? ⟨N, 5, none⟩ = some (.string b.s)
  c6 : w.cell? ⟨N, 6, none⟩ = some (.int .i64 b.n)
  c7 : w.cell? ⟨N, 7, none⟩ = some (.slice b.p b.kids.len b.c)
  fr : ∀ i, w.frozen? ⟨N, i, none⟩ = false

def pairV (a b : Nd) : Value := .agg #[.int .u8 a.k, .string a.s, .int .i64 a.n, .slice a.p a.kids.len a.c, .int .u8 b.k, .string b.s, .int .i64 b.n, .slice b.p b.kids.len b.c]
def zeroN : Nd := ⟨0, ⟨#[]⟩, 0, none, 0, .nil⟩

theorem PairIs.lt {N : Nat} {a b : Nd} {w : World} (h : PairIs N a b w) : N < w.heap.size := World.block_lt_of_cell? _ _ h.c0
theorem PairIs.of_block {N : Nat} {a b : Nd} {w w' : World} (h : PairIs N a b w) (hb : w'.heap[N]? = w.heap[N]?) : PairIs N a b w' := by
  have e := fun y => World.cell?_of_block (a := ⟨N, y, none⟩) hb
  exact ⟨(e _).trans h.c0, (e _).trans h.c1, (e _).trans h.c2, (e _).trans h.c3, (e _).trans h.c4, (e _).trans h.c5, (e _).trans h.c6, (e _).trans h.c7, fun i => (World.frozen?_of_block (a := ⟨N, i, none⟩) hb).trans (h.fr i)⟩
theorem PairIs.below {N : Nat} {a b : Nd} {w w' : World} (h : PairIs N a b w) (hB : Below w.heap.size w w') : PairIs N a b w' := h.of_block (hB.block _ h.lt)
theorem PairIs.new (w : World) (a b : Nd) (t : TypeId) : PairIs w.heap.size a b (w.alloc (.cells #[.int .u8 a.k, .string a.s, .int .i64 a.n, .slice a.p a.kids.len a.c, .int .u8 b.k, .string b.s, .int .i64 b.n, .slice b.p b.kids.len b.c] t)) := by
  obtain ⟨W, hW, hs, hB, hc, hf⟩ := alloc_new w #[.int .u8 a.k, .string a.s, .int .i64 a.n, .slice a.p a.kids.len a.c, .int .u8 b.k, .string b.s, .int .i64 b.n, .slice b.p b.kids.len b.c] t
  rw [← hW]
  exact ⟨hc 0 _ rfl, hc 1 _ rfl, hc 2 _ rfl, hc 3 _ rfl, hc 4 _ rfl, hc 5 _ rfl, hc 6 _ rfl, hc 7 _ rfl, hf⟩

end Go.Proofs.YtnmhnaanpjlniaaGreat
/-
  A law for a region that draws its order and writes one known block: facts that a relation between worlds keeps.
-/
namespace Go.Proofs.YtnmhnaanpjlniaaGreat
open Go.RowKit

def RStepR (P : Program) (ops : Array Oper) (Q : Exit → Act → World → Prop) (frame : (Nat → Value) → Act) (ρ : World → World → Prop) (I : World → Prop) (F : Nat → Value → World → Prop) (i : Nat) (o : Oper) : Prop :=
  ∀ (f : Nat → Value) (w : World), I w → (∀ j, waitsOn o j = true → F j (f j) w) → ∀ K : Act → World → Prop, Hid (∀ v a' w', a' = (frame f).put o.dst v → I w' → ρ w w' → F i v w' → K a' w') →
    if Region.wanted o (yielded ops (frame f).tmps) = true then Oper.wp P o (frame f) w K Q else K ((frame f).put o.dst undef) w

def RStepsR (P : Program) (ops : Array Oper) (Q : Exit → Act → World → Prop) (frame : (Nat → Value) → Act) (ρ : World → World → Prop) (I : World → Prop) (F : Nat → Value → World → Prop) : List Oper → Nat → Prop
  | [], _ => True
  | o :: l, i => RStepR P ops Q frame ρ I F i o ∧ RStepsR P ops Q frame ρ I F l (i + 1)

theorem RStepsR.gsteps {P : Program} {ops : Array Oper} {Q : Exit → Act → World → Prop} {frame : (Nat → Value) → Act} {ρ : World → World → Prop} {I : World → Prop} {F : Nat → Value → World → Prop} (hρ : ∀ j u w w', F j u w → ρ w w' → F j u w') : ∀ {l : List Oper} {k : Nat}, RStepsR P ops Q frame ρ I F l k → GSteps P ops Q frame (fun M f W => I W ∧ ∀ j, M j = true → F j (f j) W) l k
  | [], _, _ => trivial
  | o :: l, k, h => by
    refine ⟨?_, RStepsR.gsteps hρ h.2⟩
    intro M f w hMi hwait hG K hK
    refine h.1 f w hG.1 (fun j hj => hG.2 j (hwait j hj)) K (Lib.hid fun v a' w' ha hI hr hF => hK.out v a' w' ha ⟨hI, fun j hj => ?_⟩)
    simp only [updL, upd] at hj ⊢
    by_cases e : j = k
    · subst e; rw [if_pos rfl]; exact hF
    · rw [if_neg e] at hj ⊢
      exact hρ _ _ _ _ (hG.2 j hj) hr

theorem region_by_rel {P : Program} {ops : Array Oper} {Q : Exit → Act → World → Prop} {id : Nat} {a : Act} {w : World} (ρ : World → World → Prop) (I : World → Prop) (L : List (Value → World → Prop)) (hρ : ∀ j u w w', factOf L j u w → ρ w w' → factOf L j u w') (hm : P.follows .mixedOrders = true) (hdag : dagB ops.toList 0 = true) (hap : apartB ops.toList = true)
    (h0 : I w.drew) (hstep : RStepsR P ops Q (frameOf a ops.toList 0) ρ I (factOf L) ops.toList 0)
    (hdone : ∀ f w, I w → (∀ j, j < ops.size → factOf L j (f j) w) → Q .normal (frameOf a ops.toList 0 f) w) : (Code.region id ops true).wp P Q a w :=
  region_by_inv (fun M f W => I W ∧ ∀ j, M j = true → factOf L j (f j) W) hm hdag hap (fun _ => ⟨h0, fun _ h => by cases h⟩) (hstep.gsteps hρ) fun M f W hall hG => hdone f W hG.1 fun j hj => hG.2 j (hall j hj)

def Keeps (ρ : World → World → Prop) (p : Value → World → Prop) : Prop := ∀ v w w', p v w → ρ w w' → p v w'
def KeepsAll (ρ : World → World → Prop) : List (Value → World → Prop) → Prop
  | [] => True
  | p :: l => Keeps ρ p ∧ KeepsAll ρ l
theorem Keeps.eq {ρ : World → World → Prop} (u : Value) : Keeps ρ fun v _ => v = u := fun _ _ _ h _ => h
theorem factOf_keeps {ρ : World → World → Prop} : ∀ {L : List (Value → World → Prop)}, KeepsAll ρ L → ∀ i, Keeps ρ (factOf L i)
  | [], _, _ => fun _ _ _ _ _ => trivial
  | _ :: _, h, 0 => h.1
  | _ :: l, h, i + 1 => factOf_keeps (L := l) h.2 i

/-- one block turns, and what is to stand in it stays when it has come -/
structure TurnsTo (R : Nat) (F : World → Prop) (w w' : World) : Prop where
  g : G2 R R w w'
  f : F w → F w'

theorem G2.fresh2 {KB S R : Nat} {w a b : World} (h : G2 KB S w a) (hg : G2 R R a b) (hge : w.heap.size ≤ R) : G2 KB S w b :=
  ⟨hg.os.trans h.os, hg.tape.trans h.tape, hg.output.trans h.output, Nat.le_trans h.size hg.size, fun k hk h1 h2 => (hg.block k (Nat.lt_of_lt_of_le hk h.size) (by omega) (by omega)).trans (h.block k hk h1 h2)⟩

end Go.Proofs.YtnmhnaanpjlniaaGreat
