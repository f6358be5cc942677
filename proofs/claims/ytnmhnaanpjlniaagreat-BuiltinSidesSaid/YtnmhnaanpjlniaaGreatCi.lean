import Derived.Test.YtnmhnaanpjlniaaGreatCg
import Derived.Test.YtnmhnaanpjlniaaGreatCj
import Derived.BigRegion
import Derived.OneCell
/-
  Layer 4: the next pair.
-/
namespace Go.Proofs.YtnmhnaanpjlniaaGreat
open Go.RowKit

/-- what is left: lists of pairs -/
def cellsRE : List (Ent × Ent) → List Value
  | [] => []
  | e :: l => e.1.val :: e.2.val :: cellsRE l

theorem cellsRE_app : ∀ l m : List (Ent × Ent), cellsRE (l ++ m) = cellsRE l ++ cellsRE m
  | [], _ => rfl
  | e :: l, m => by simp only [List.cons_append, cellsRE, cellsRE_app l m]
theorem cellsRE_length : ∀ l : List (Ent × Ent), (cellsRE l).length = l.length * 2
  | [] => rfl
  | e :: l => by simp only [cellsRE, List.length_cons, cellsRE_length l]; omega

def pairsOf : List (Ent × Ent) → List (Nd × Nd)
  | [] => []
  | e :: st => (elems e.1.ts).zip (elems e.2.ts) ++ pairsOf st

structure EntOk (P : Nat → Prop) (e : Ent) (w : World) : Prop where
  cap : e.ts.len ≤ e.c ∧ e.c ≤ 9223372036854775807
  ok : e.ts.ok
  at_ : Ts.AtP P w e.p e.ts
  sz : ∀ x ∈ elems e.ts, x.kids.size ≤ 5000

theorem EntOk.imp {P Q : Nat → Prop} {e : Ent} {w w' : World} (h : EntOk P e w) (hb : ∀ b, P b → b < w.heap.size → w'.heap[b]? = w.heap[b]?) (hq : ∀ b, P b → b < w.heap.size → Q b) : EntOk Q e w' :=
  ⟨h.cap, h.ok, AtP_imp (fun _b _ hp => hp.2) ((AtP_imp (fun b hl hp => ⟨hp, hq b hp hl⟩) h.at_ : Ts.AtP (fun b => P b ∧ Q b) w e.p e.ts).stay fun b hp hl => hb b hp.1 hl), h.sz⟩

/-- where it lies -/
structure LSt (base LB : Nat) (v : Value) (st : List (Ent × Ent)) (w : World) : Prop where
  box : w.heap[LB]? = some (.cells #[v] 163 (0, 0))
  row : w.ownsRow base 162 2 v st.length (cellsRE st.reverse)
  ents : ∀ e ∈ st, e.1.ts.len = e.2.ts.len ∧ EntOk (fun b => v.ownBlock ≠ some b) e.1 w ∧ EntOk (fun b => v.ownBlock ≠ some b) e.2 w
  base_ : v.ownBlock ≠ some LB ∧ base ≤ w.heap.size

/-- two blocks may have turned: the variable's and the row's -/
structure RG (LB : Nat) (v : Value) (w w' : World) : Prop where
  os : w'.os = w.os
  tape : w'.tape = w.tape
  output : w'.output = w.output
  size : w.heap.size ≤ w'.heap.size
  block : ∀ k, k < w.heap.size → k ≠ LB → v.ownBlock ≠ some k → w'.heap[k]? = w.heap[k]?

theorem RG.of_below {LB : Nat} {v : Value} {w w' : World} (h : Below w.heap.size w w') : RG LB v w w' := ⟨h.os, h.tape, h.output, h.size, fun k hk _ _ => h.block k hk⟩
theorem RG.trans {LB : Nat} {v : Value} {a b c : World} (h : RG LB v a b) (k : RG LB v b c) : RG LB v a c :=
  ⟨k.os.trans h.os, k.tape.trans h.tape, k.output.trans h.output, Nat.le_trans h.size k.size, fun i hi h1 h2 => (k.block i (Nat.lt_of_lt_of_le hi h.size) h1 h2).trans (h.block i hi h1 h2)⟩

def NextOut (base LB C : Nat) (v : Value) (st : List (Ent × Ent)) (w : World) (e : Ending) (w' : World) : Prop :=
  RG LB v w w' ∧ ((pairsOf st = [] ∧ e = .returned (.tuple #[pairV zeroN zeroN, .bool false])) ∨
    ∃ (a b : Nd) (st' : List (Ent × Ent)) (v' : Value), pairsOf st = (a, b) :: pairsOf st' ∧ st'.length ≤ st.length ∧ e = .returned (.tuple #[pairV a b, .bool true]) ∧ LSt base LB v' st' w' ∧ v'.ownBlock = v.ownBlock ∧ (∀ e ∈ st', EntOk (fun b => v.ownBlock ≠ some b ∧ b < C) e.1 w' ∧ EntOk (fun b => v.ownBlock ≠ some b ∧ b < C) e.2 w') ∧ (a.ok ∧ Ts.AtP (fun b => v.ownBlock ≠ some b ∧ b < C) w' a.p a.kids ∧ a.kids.size ≤ 5000) ∧ b.ok ∧ Ts.AtP (fun b => v.ownBlock ≠ some b ∧ b < C) w' b.p b.kids ∧ b.kids.size ≤ 5000)

def leftLen (LB : Nat) (w : World) : Nat := match w.cell? ⟨LB, 0, none⟩ with
  | some (.slice _ n _) => n
  | _ => 0

theorem ownsRow2 {w : World} {base n : Nat} {e : TypeId} {size : Nat} {v : Value} {xs : List Value} (h : w.ownsRow base e size v n xs) : (v = .slice none 0 0 ∧ n = 0) ∨ ∃ g c, v = .slice (some ⟨g, 0, none⟩) n c ∧ base ≤ g ∧ g < w.heap.size ∧ n ≤ c := by
  rcases h.2 with h | ⟨g, c, cur, rfl, hg, hh, hn, _⟩
  · exact .inl h
  · exact .inr ⟨g, c, rfl, hg, (Array.getElem?_eq_some_iff.1 hh).1, hn⟩

theorem row_shorter {w : World} {base n size : Nat} {e : TypeId} {g c : Nat} {xs ys : List Value} (h : w.ownsRow base e size (.slice (some ⟨g, 0, none⟩) (n + 1) c) (n + 1) (xs ++ ys)) (hl : xs.length = n * size) : w.ownsRow base e size (.slice (some ⟨g, 0, none⟩) n c) n xs := by
  refine ⟨hl, ?_⟩
  rcases h.2 with ⟨h1, _⟩ | ⟨g', c', cur, h1, h2, h3, h4, h5, h6, h7⟩
  · cases h1
  · cases h1
    refine .inr ⟨g, c, cur, rfl, h2, h3, by omega, h5, h6, ?_⟩
    have hle : n * size ≤ (n + 1) * size := Nat.mul_le_mul_right _ (by omega)
    have h8 := congrArg (List.take (n * size)) h7
    rw [List.take_take, Nat.min_eq_left hle] at h8
    rw [h8, ← hl, List.take_left]

/-- while a pair is made and boxed -/
structure Q4 (wr : World) (na nb : Nd) (M : Nat → Bool) (W : World) : Prop where
  B : Below wr.heap.size wr W
  none_ : M 13 = false → W.heap.size = wr.heap.size
  zero : M 13 = true → M 14 = false → PairIs wr.heap.size zeroN zeroN W
  done : M 13 = true → M 14 = true → PairIs wr.heap.size na nb W

theorem Q4.start (wr : World) (na nb : Nd) : Q4 wr na nb (fun _ => false) wr.drew := ⟨(Below.refl _ _).drew, (fun _ => rfl), (fun h => by cases h), fun h => by cases h⟩
theorem Q4.read {wr : World} {na nb : Nd} {M : Nat → Bool} {W : World} (h : Q4 wr na nb M W) {i : Nat} (hi : i ≠ 13 ∧ i ≠ 14) : Q4 wr na nb (updL M i) W := by
  have e1 : updL M i 13 = M 13 := by simp only [updL]; rw [if_neg (fun e => hi.1 e.symm)]
  have e2 : updL M i 14 = M 14 := by simp only [updL]; rw [if_neg (fun e => hi.2 e.symm)]
  exact ⟨h.B, by rw [e1]; exact h.none_, by rw [e1, e2]; exact h.zero, by rw [e1, e2]; exact h.done⟩
theorem Q4.alloc {wr : World} {na nb : Nd} {M : Nat → Bool} {W : World} (h : Q4 wr na nb M W) (h13 : M 13 = false) (t : TypeId) (h14 : M 14 = false) : Q4 wr na nb (updL M 13) (W.alloc (.cells #[.int .u8 0, .string ⟨#[]⟩, .int .i64 0, .slice none 0 0, .int .u8 0, .string ⟨#[]⟩, .int .i64 0, .slice none 0 0] t)) := by
  have e2 : updL M 13 14 = M 14 := rfl
  refine ⟨h.B.alloc h.B.size _, (fun h => by cases h), fun _ _ => ?_, fun _ h' => by rw [e2, h14] at h'; cases h'⟩
  have := PairIs.new W zeroN zeroN t
  rw [h.none_ h13] at this
  exact this
theorem Q4.put {wr : World} {na nb : Nd} {M : Nat → Bool} {W : World} (h : Q4 wr na nb M W) (h13 : M 13 = true) (h14 : M 14 = false) : Q4 wr na nb (updL M 14) (putP W wr.heap.size na nb) := by
  have e1 : updL M 14 13 = M 13 := rfl
  exact ⟨h.B.grown (putP_grown W wr.heap.size na nb) h.B.size (fun k e => by cases e; exact Nat.le_refl _), (fun h => by rw [e1, h13] at h; cases h), (fun _ h => by cases h), fun _ _ => (h.zero h13 h14).put⟩

/-- while two rests are made shorter -/
structure Q5 (w4 : World) (base g n c : Nat) (xs : List Value) (A A' B B' : Value) (M : Nat → Bool) (W : World) : Prop where
  tw : G2 g g w4 W
  row : ∃ a b, W.ownsRow base 162 2 (.slice (some ⟨g, 0, none⟩) n c) n (xs ++ [a, b]) ∧ (M 14 = false → a = A) ∧ (M 14 = true → a = A') ∧ (M 17 = false → b = B) ∧ (M 17 = true → b = B')

section
variable {w4 : World} {base g n c : Nat} {xs : List Value} {A A' B B' : Value} {M : Nat → Bool} {W : World}
theorem Q5.start (h : w4.ownsRow base 162 2 (.slice (some ⟨g, 0, none⟩) n c) n (xs ++ [A, B])) : Q5 w4 base g n c xs A A' B B' (fun _ => false) w4.drew :=
  ⟨.of_below (Below.refl _ _).drew, A, B, own_below h (Below.refl _ _).drew, (fun _ => rfl), (fun h => by cases h), (fun _ => rfl), (fun h => by cases h)⟩
theorem Q5.read (h : Q5 w4 base g n c xs A A' B B' M W) {i : Nat} (hi : i ≠ 14 ∧ i ≠ 17) : Q5 w4 base g n c xs A A' B B' (updL M i) W := by
  have e1 : updL M i 14 = M 14 := by simp only [updL]; rw [if_neg (fun e => hi.1 e.symm)]
  have e2 : updL M i 17 = M 17 := by simp only [updL]; rw [if_neg (fun e => hi.2 e.symm)]
  exact ⟨h.tw, by rw [e1, e2]; exact h.row⟩
theorem Q5.fr (h : Q5 w4 base g n c xs A A' B B' M W) : ∀ j, W.frozen? ⟨g, j, none⟩ = false := by
  obtain ⟨a, b, h1, _⟩ := h.row
  exact h1.frozenAt
variable {k : Nat}
theorem Q5.cells (h : W.ownsRow base 162 2 (.slice (some ⟨g, 0, none⟩) (k + 1) c) (k + 1) (xs ++ [A, B])) (hx : xs.length = k * 2) : W.cell? ⟨g, k * 2, none⟩ = some A ∧ W.cell? ⟨g, k * 2 + 1, none⟩ = some B := by
  have h1 := h.cellAt (k * 2) (by omega)
  have h2 := h.cellAt (k * 2 + 1) (by omega)
  rw [List.getElem?_append_right (by omega), hx] at h1 h2
  simp only [Nat.sub_self, List.getElem?_cons_zero] at h1
  rw [show k * 2 + 1 - k * 2 = 1 by omega] at h2
  exact ⟨h1, h2⟩
theorem Q5.cellA (h : Q5 w4 base g (k + 1) c xs A A' B B' M W) (hx : xs.length = k * 2) (hM : M 14 = false) : W.cell? ⟨g, k * 2, none⟩ = some A := by
  obtain ⟨a, b, h1, h2, _⟩ := h.row
  rw [← h2 hM]
  exact (Q5.cells h1 hx).1
theorem Q5.cellB (h : Q5 w4 base g (k + 1) c xs A A' B B' M W) (hx : xs.length = k * 2) (hM : M 17 = false) : W.cell? ⟨g, k * 2 + 1, none⟩ = some B := by
  obtain ⟨a, b, h1, _, _, h2, _⟩ := h.row
  rw [← h2 hM]
  exact (Q5.cells h1 hx).2
theorem Q5.anyA (h : Q5 w4 base g (k + 1) c xs A A' B B' M W) (hx : xs.length = k * 2) : ∃ a, W.cell? ⟨g, k * 2, none⟩ = some a := by
  obtain ⟨a, b, h1, _⟩ := h.row
  exact ⟨a, (Q5.cells h1 hx).1⟩
theorem Q5.anyB (h : Q5 w4 base g (k + 1) c xs A A' B B' M W) (hx : xs.length = k * 2) : ∃ a, W.cell? ⟨g, k * 2 + 1, none⟩ = some a := by
  obtain ⟨a, b, h1, _⟩ := h.row
  exact ⟨b, (Q5.cells h1 hx).2⟩
theorem Q5.putA (h : Q5 w4 base g (k + 1) c xs A A' B B' M W) (hx : xs.length = k * 2) : Q5 w4 base g (k + 1) c xs A A' B B' (updL M 14) (W.setCell ⟨g, k * 2, none⟩ A') := by
  obtain ⟨a, b, h1, _, _, h4, h5⟩ := h.row
  obtain ⟨h6, h7⟩ := h1.stored (k * 2) A'
  have e : (xs ++ [a, b]).set (k * 2) A' = xs ++ [A', b] := by rw [← hx]; simp
  rw [e] at h6
  exact ⟨h.tw.trans (.of_K h7), A', b, h6, (fun h => by cases h), (fun _ => rfl), h4, h5⟩
theorem Q5.putB (h : Q5 w4 base g (k + 1) c xs A A' B B' M W) (hx : xs.length = k * 2) : Q5 w4 base g (k + 1) c xs A A' B B' (updL M 17) (W.setCell ⟨g, k * 2 + 1, none⟩ B') := by
  obtain ⟨a, b, h1, h4, h5, _, _⟩ := h.row
  obtain ⟨h6, h7⟩ := h1.stored (k * 2 + 1) B'
  have e : (xs ++ [a, b]).set (k * 2 + 1) B' = xs ++ [a, B'] := by rw [← hx]; simp []
  rw [e] at h6
  exact ⟨h.tw.trans (.of_K h7), a, B', h6, h4, h5, (fun h => by cases h), (fun _ => rfl)⟩
theorem Q5.done (h : Q5 w4 base g n c xs A A' B B' M W) (h14 : M 14 = true) (h17 : M 17 = true) : W.ownsRow base 162 2 (.slice (some ⟨g, 0, none⟩) n c) n (xs ++ [A', B']) := by
  obtain ⟨a, b, h1, _, h2, _, h3⟩ := h.row
  rw [← h2 h14, ← h3 h17]
  exact h1
end

/-- between two rounds -/
structure NSt (base LB C : Nat) (v : Value) (st : List (Ent × Ent)) (w : World) (v' : Value) (st' : List (Ent × Ent)) (wr : World) : Prop where
  l : LSt base LB v' st' wr
  ps : pairsOf st' = pairsOf st
  ob : v'.ownBlock = v.ownBlock
  le : st'.length ≤ st.length
  g : RG LB v w wr
  bx : PairIs w.heap.size zeroN zeroN wr
  big : base ≤ w.heap.size
  en : ∀ e ∈ st', e.1.ts.len = e.2.ts.len ∧ EntOk (fun b => v'.ownBlock ≠ some b ∧ b < C) e.1 wr ∧ EntOk (fun b => v'.ownBlock ≠ some b ∧ b < C) e.2 wr

set_option maxRecDepth 100000 in
set_option maxHeartbeats 8000000 in
theorem next_any (base LB C : Nat) (v : Value) (st : List (Ent × Ent)) (w : World) (hL : LSt base LB v st w) (hst : st.length ≤ 1000000) (hC : C ≤ w.heap.size) (hen : ∀ e ∈ st, EntOk (fun b => v.ownBlock ≠ some b ∧ b < C) e.1 w ∧ EntOk (fun b => v.ownBlock ≠ some b ∧ b < C) e.2 w) :
    Calls Tryz.prog 135 #[.pointer (some ⟨LB, 0, none⟩)] w (NextOut base LB C v st w) := by
  have LL := Lib.hid hL
  have EN0 := Lib.hid hen
  clear hL hen
  go_enter Tryz.func135, Tryz.ntmps135
  go_upto_region 1 with fail
  obtain ⟨W0, hW0⟩ : ∃ W0, W0 = w.alloc (.cells #[.int .u8 0, .string ⟨#[]⟩, .int .i64 0, .slice none 0 0, .int .u8 0, .string ⟨#[]⟩, .int .i64 0, .slice none 0 0] 165) := ⟨_, rfl⟩
  rw [← hW0]
  have IN : Hid (NSt base LB C v st w v st W0) := Lib.hid (by
    have hB : Below w.heap.size w W0 := by rw [hW0]; exact (Below.refl _ _).alloc (Nat.le_refl _) _
    have hLl := lt_of_block LL.out.box
    refine ⟨⟨(hB.block _ hLl).trans LL.out.box, own_below LL.out.row hB, fun e he => ?_, ⟨LL.out.base_.1, Nat.le_trans LL.out.base_.2 hB.size⟩⟩, rfl, rfl, Nat.le_refl _, .of_below hB, by rw [hW0]; exact PairIs.new w zeroN zeroN _, LL.out.base_.2, fun e he => ?_⟩
    · obtain ⟨h1, h2, h3⟩ := LL.out.ents e he
      exact ⟨h1, h2.imp (fun b _ hb => hB.block b hb) (fun b hb _ => hb), h3.imp (fun b _ hb => hB.block b hb) (fun b hb _ => hb)⟩
    · have h1 := (LL.out.ents e he).1
      obtain ⟨h2, h3⟩ := EN0.out e he
      exact ⟨h1, h2.imp (fun b _ hb => hB.block b hb) (fun b hb hl => hb), h3.imp (fun b _ hb => hB.block b hb) (fun b hb hl => hb)⟩)
  clear hW0
  go_loopw [2] (fun s2 wr => s2 = .bool false ∧ ∃ (v' : Value) (st' : List (Ent × Ent)), Hid (NSt base LB C v st w v' st' wr)) (fun _ wr => leftLen LB wr)
  case atStart => exact ⟨rfl, v, st, IN⟩
  case round =>
    obtain ⟨rfl, v', st', H⟩ := hrel
    have hrow := H.out.l.row
    have c0 := cell_of_one H.out.l.box
    have f0 := free_of_one H.out.l.box
    have hbig := H.out.big
    have hsz := H.out.g.size
    have hle := H.out.le
    have hLl := lt_of_block H.out.l.box
    have hLw : LB < w.heap.size := lt_of_block LL.out.box
    cases st' with
    | nil =>
      have PR3 := Lib.hid H.out.bx
      have PE : Hid (pairsOf st = []) := Lib.hid H.out.ps.symm
      have RGF := Lib.hid H.out.g
      change wr.ownsRow _ _ 2 _ 0 [] at hrow
      rcases ownsRow2 hrow with ⟨rfl, _⟩ | ⟨g, cg, rfl, -, -, -⟩
      all_goals
        clear hrow
        have y0 := PR3.out.c0
        have y1 := PR3.out.c1
        have y2 := PR3.out.c2
        have y3 := PR3.out.c3
        have y4 := PR3.out.c4
        have y5 := PR3.out.c5
        have y6 := PR3.out.c6
        have y7 := PR3.out.c7
        have yf := PR3.out.fr
        simp only [zeroN, Ts.len] at y0 y1 y2 y3 y4 y5 y6 y7
        go_wp2
        have P0 := PR3.out.put (x := zeroN) (y := zeroN)
        have p0 := P0.c0
        have p1 := P0.c1
        have p2 := P0.c2
        have p3 := P0.c3
        have p4 := P0.c4
        have p5 := P0.c5
        have p6 := P0.c6
        have p7 := P0.c7
        have PS := Lib.hid (putP_self PR3.out)
        simp only [putP, zeroN, Ts.len] at p0 p1 p2 p3 p4 p5 p6 p7
        clear P0
        exact bodyPost_ret (v := .tuple #[pairV zeroN zeroN, .bool false]) (by simp [results, Tryz.results135, go_sem, p0, p1, p2, p3, p4, p5, p6, p7, pairV, zeroN, Ts.len]) rfl ((by rw [PS.out]; exact ⟨RGF.out, .inl ⟨PE.out, rfl⟩⟩) : NextOut base LB C v st w _ (putP _ w.heap.size zeroN zeroN))
    | cons e st' =>
      obtain ⟨g, cg, rfl⟩ := _root_.Go.Joins.ownsRow_form hrow (Nat.succ_pos _)
      have hLg : g ≠ LB := fun e => H.out.l.base_.1 (by simp [Value.ownBlock, e])
      simp only [List.reverse_cons, cellsRE_app, cellsRE, List.length_cons] at hrow
      have hA := hrow.cellAt (st'.length * 2) (by omega)
      have hBc := hrow.cellAt (st'.length * 2 + 1) (by omega)
      have hcl : (cellsRE st'.reverse).length = st'.length * 2 := by rw [cellsRE_length, List.length_reverse]
      rw [List.getElem?_append_right (by omega), hcl] at hA hBc
      simp only [Nat.sub_self, List.getElem?_cons_zero] at hA
      rw [show st'.length * 2 + 1 - st'.length * 2 = 1 by omega] at hBc
      simp only [List.getElem?_cons_succ, List.getElem?_cons_zero] at hBc
      have hfg := hrow.frozenAt
      have hgb := hrow.lt g rfl
      obtain ⟨hlen, hEa, hEb⟩ := H.out.en e (List.mem_cons_self ..)
      obtain ⟨⟨pa, ta, ca⟩, ⟨pb, tb, cb⟩⟩ := e
      simp only [Ent.val, List.length_cons] at hA hBc hlen hle ⊢
      have EA := Lib.hid hEa
      have EB := Lib.hid hEb
      have ROW := Lib.hid hrow
      have HLEN := Lib.hid hlen
      clear hrow hcl hEa hEb
      have hcgl : st'.length + 1 ≤ cg := by
        rcases ROW.out.2 with ⟨h, _⟩ | ⟨g', c', cur, h, _, _, h2, _⟩
        · cases h
        · cases h; exact h2
      have hidx : ((st'.length : Nat) : Int) < (st'.length : Int) + 1 := by omega
      by_cases h0 : ta.len = 0
      · have hta : ta = .nil := Ts.len_zero h0
        have htb : tb = .nil := Ts.len_zero (by have := HLEN.out; omega)
        subst hta htb
        clear h0 hlen
        simp only [Ts.len] at hA hBc
        go_wp2
        have hgs := grown_set wr LB 0 (.slice (some ⟨g, 0, none⟩) st'.length cg)
        have hg2 : G2 LB LB wr (wr.setCell ⟨LB, 0, none⟩ (.slice (some ⟨g, 0, none⟩) st'.length cg)) := .of_K hgs
        have hTL : Tiny LB wr := ⟨_, _, _, H.out.l.box, by simp⟩
        refine ⟨⟨rfl, _, st', Lib.hid ⟨⟨one_setCell H.out.l.box, ownsRow_setCell_other (row_shorter ROW.out (by rw [cellsRE_length, List.length_reverse])) (by simp only [Value.ownBlock, ne_eq, Option.some.injEq]; omega) _, fun e he => ?_, ⟨H.out.l.base_.1, by simpa using H.out.l.base_.2⟩⟩, H.out.ps, H.out.ob, by omega, H.out.g.trans ⟨hgs.os, hgs.tape, hgs.output, hgs.size, fun k hk h1 _ => hgs.block k hk (fun e => h1 (by cases e; rfl))⟩, H.out.bx.of_block (hgs.block _ H.out.bx.lt (fun e => by cases e; omega)), H.out.big, fun e he => ?_⟩⟩, ?_⟩
        · obtain ⟨h1, h2, h3⟩ := H.out.l.ents e (List.mem_cons_of_mem _ he)
          exact ⟨h1, ⟨h2.cap, h2.ok, AtP_g2 hg2 hTL hTL h2.at_, h2.sz⟩, ⟨h3.cap, h3.ok, AtP_g2 hg2 hTL hTL h3.at_, h3.sz⟩⟩
        · obtain ⟨h1, h2, h3⟩ := H.out.en e (List.mem_cons_of_mem _ he)
          exact ⟨h1, ⟨h2.cap, h2.ok, AtP_g2 hg2 hTL hTL h2.at_, h2.sz⟩, ⟨h3.cap, h3.ok, AtP_g2 hg2 hTL hTL h3.at_, h3.sz⟩⟩
        · unfold leftLen
          rw [c0, cell_of_one (one_setCell H.out.l.box)]
          simp only [List.length_cons]
          omega
      · have h0' : (0 : Int) < (ta.len : Int) := by omega
        obtain ⟨ka, sa, xa, qa, da, ja, ra, rfl⟩ : ∃ ka sa xa qa da ja ra, ta = .cons ka sa xa qa da ja ra := by
          cases ta with
          | nil => exact absurd rfl h0
          | cons k s n p c kids rest => exact ⟨k, s, n, p, c, kids, rest, rfl⟩
        obtain ⟨kb, sb, xb, qb, db, jb, rb, rfl⟩ : ∃ kb sb xb qb db jb rb, tb = .cons kb sb xb qb db jb rb := by
          cases tb with
          | nil => have := HLEN.out; simp [Ts.len] at this
          | cons k s n p c kids rest => exact ⟨k, s, n, p, c, kids, rest, rfl⟩
        obtain ⟨ba, oa, hpa, hna, a0, a1, a2, a3, hja, hra⟩ := EA.out.at_
        obtain rfl : pa = some ⟨ba, oa, none⟩ := by
          rcases hpa with h | h
          · cases h
          · exact h
        obtain ⟨bb, ob, hpb, hnb, b0, b1, b2, b3, hjb, hrb⟩ := EB.out.at_
        obtain rfl : pb = some ⟨bb, ob, none⟩ := by
          rcases hpb with h | h
          · cases h
          · exact h
        have hba : ba < wr.heap.size := World.block_lt_of_cell? _ _ a0
        have hbb : bb < wr.heap.size := World.block_lt_of_cell? _ _ b0
        obtain ⟨na, hna'⟩ : ∃ na : Nd, na = ⟨ka, sa, xa, qa, da, ja⟩ := ⟨_, rfl⟩
        obtain ⟨nb, hnb'⟩ : ∃ nb : Nd, nb = ⟨kb, sb, xb, qb, db, jb⟩ := ⟨_, rfl⟩
        have NA := Lib.hid hna'
        have NB := Lib.hid hnb'
        replace a0 : wr.cell? ⟨ba, oa, none⟩ = some (.int .u8 na.k) := by rw [hna']; exact a0
        replace a1 : wr.cell? ⟨ba, oa + 1, none⟩ = some (.string na.s) := by rw [hna']; exact a1
        replace a2 : wr.cell? ⟨ba, oa + 2, none⟩ = some (.int .i64 na.n) := by rw [hna']; exact a2
        replace a3 : wr.cell? ⟨ba, oa + 3, none⟩ = some (.slice na.p na.kids.len na.c) := by rw [hna']; exact a3
        replace b0 : wr.cell? ⟨bb, ob, none⟩ = some (.int .u8 nb.k) := by rw [hnb']; exact b0
        replace b1 : wr.cell? ⟨bb, ob + 1, none⟩ = some (.string nb.s) := by rw [hnb']; exact b1
        replace b2 : wr.cell? ⟨bb, ob + 2, none⟩ = some (.int .i64 nb.n) := by rw [hnb']; exact b2
        replace b3 : wr.cell? ⟨bb, ob + 3, none⟩ = some (.slice nb.p nb.kids.len nb.c) := by rw [hnb']; exact b3
        have hca := EA.out.cap
        have hcb := EB.out.cap
        simp only [Ts.len] at hA hBc h0' hca hcb
        obtain ⟨qA, hqA⟩ : ∃ q, (if ca = 1 then some (⟨ba, oa, none⟩ : Addr) else some ⟨ba, oa + 4, none⟩) = q := ⟨_, rfl⟩
        obtain ⟨qB, hqB⟩ : ∃ q, (if cb = 1 then some (⟨bb, ob, none⟩ : Addr) else some ⟨bb, ob + 4, none⟩) = q := ⟨_, rfl⟩
        have QAA : Hid (Ts.AtP (fun b => g ≠ b ∧ b < C) wr qA ra) := Lib.hid (by
          have hrl : ca = 1 → ra = .nil := fun h => Ts.len_zero (by omega)
          rw [← hqA]
          by_cases h1 : ca = 1
          · rw [if_pos h1, hrl h1]; exact ⟨0, 0, .inl rfl, trivial⟩
          · rw [if_neg h1]; exact ⟨ba, oa + 4, .inr rfl, by simpa [Value.ownBlock] using hra⟩)
        have QBB : Hid (Ts.AtP (fun b => g ≠ b ∧ b < C) wr qB rb) := Lib.hid (by
          have hrl : cb = 1 → rb = .nil := fun h => Ts.len_zero (by omega)
          rw [← hqB]
          by_cases h1 : cb = 1
          · rw [if_pos h1, hrl h1]; exact ⟨0, 0, .inl rfl, trivial⟩
          · rw [if_neg h1]; exact ⟨bb, ob + 4, .inr rfl, by simpa [Value.ownBlock] using hrb⟩)
        have JAA : Hid (Ts.AtP (fun b => g ≠ b ∧ b < C) wr na.p na.kids) := Lib.hid (by
          rw [NA.out]
          have h : Ts.AtP (fun b => g ≠ b ∧ b < C) wr qa ja := by simpa [Value.ownBlock, Ts.AtP] using hja
          exact h)
        have JBB : Hid (Ts.AtP (fun b => g ≠ b ∧ b < C) wr nb.p nb.kids) := Lib.hid (by
          rw [NB.out]
          have h : Ts.AtP (fun b => g ≠ b ∧ b < C) wr qb jb := by simpa [Value.ownBlock, Ts.AtP] using hjb
          exact h)
        have HQA := Lib.hid hqA
        have HQB := Lib.hid hqB
        clear hna' hnb' hpa hpb hna hnb hja hra hjb hrb h0 hlen hqA hqB
        go_upto_region 4 with fail
        refine region_known (valOf2 [.pointer (some ⟨g, st'.length * 2, none⟩), .pointer (some ⟨g, st'.length * 2, none⟩), .pointer (some ⟨g, st'.length * 2, none⟩), .slice (some ⟨ba, oa, none⟩) (ra.len + 1) ca, .pointer (some ⟨ba, oa, none⟩), .agg #[.int .u8 na.k, .string na.s, .int .i64 na.n, .slice na.p na.kids.len na.c], .pointer (some ⟨g, st'.length * 2, none⟩), .pointer (some ⟨g, st'.length * 2, none⟩), .pointer (some ⟨g, st'.length * 2 + 1, none⟩), .slice (some ⟨bb, ob, none⟩) (rb.len + 1) cb, .pointer (some ⟨bb, ob, none⟩), .agg #[.int .u8 nb.k, .string nb.s, .int .i64 nb.n, .slice nb.p nb.kids.len nb.c], .agg #[.int .u8 na.k, .string na.s, .int .i64 na.n, .slice na.p na.kids.len na.c, .int .u8 nb.k, .string nb.s, .int .i64 nb.n, .slice nb.p nb.kids.len nb.c], .pointer (some ⟨wr.heap.size, 0, none⟩), undef]) (Q4 wr na nb) (by kernel_rfl) (by kernel_rfl) (by kernel_rfl) (Q4.start wr na nb) ?steps4 ?done4
        case steps4 =>
          refine ⟨?_, ?_, ?_, ?_, ?_, ?_, ?_, ?_, ?_, ?_, ?_, ?_, ?_, ?_, ?_, trivial⟩
          · intro M g_ W_ hM hC hd hP K hK
            simp only [frameOf, Act.put, List.setIfInBounds_toArray, List.set_cons_zero, List.set_cons_succ]
            go_simp
            refine hK.out _ W_ ?_ (hP.read (by decide))
            simp only [frameOf, Act.put, List.setIfInBounds_toArray, List.set_cons_zero, List.set_cons_succ, Nat.zero_add, Nat.reduceAdd] <;> rfl
          · intro M g_ W_ hM hC hd hP K hK
            simp only [frameOf, Act.put, List.setIfInBounds_toArray, List.set_cons_zero, List.set_cons_succ]
            have h0 : g_ 0 = .pointer (some ⟨g, st'.length * 2, none⟩) := (hd 0 (by kernel_rfl)).1
            rw [h0]
            go_simp
            refine hK.out _ W_ ?_ (hP.read (by decide))
            simp only [frameOf, Act.put, List.setIfInBounds_toArray, List.set_cons_zero, List.set_cons_succ, Nat.zero_add, Nat.reduceAdd, h0] <;> rfl
          · intro M g_ W_ hM hC hd hP K hK
            simp only [frameOf, Act.put, List.setIfInBounds_toArray, List.set_cons_zero, List.set_cons_succ]
            have h1 : g_ 1 = .pointer (some ⟨g, st'.length * 2, none⟩) := (hd 1 (by kernel_rfl)).1
            rw [h1]
            go_simp
            refine hK.out _ W_ ?_ (hP.read (by decide))
            simp only [frameOf, Act.put, List.setIfInBounds_toArray, List.set_cons_zero, List.set_cons_succ, Nat.zero_add, Nat.reduceAdd, h1] <;> rfl
          · intro M g_ W_ hM hC hd hP K hK
            simp only [frameOf, Act.put, List.setIfInBounds_toArray, List.set_cons_zero, List.set_cons_succ]
            have h2 : g_ 2 = .pointer (some ⟨g, st'.length * 2, none⟩) := (hd 2 (by kernel_rfl)).1
            rw [h2]
            have e9 := ((stays hP.B).1 _ _ hgb.2).trans hA
            go_simp
            refine hK.out _ W_ ?_ (hP.read (by decide))
            simp only [frameOf, Act.put, List.setIfInBounds_toArray, List.set_cons_zero, List.set_cons_succ, Nat.zero_add, Nat.reduceAdd, h2] <;> rfl
          · intro M g_ W_ hM hC hd hP K hK
            simp only [frameOf, Act.put, List.setIfInBounds_toArray, List.set_cons_zero, List.set_cons_succ]
            have h3 : g_ 3 = .slice (some ⟨ba, oa, none⟩) (ra.len + 1) ca := (hd 3 (by kernel_rfl)).1
            rw [h3]
            go_simp
            refine hK.out _ W_ ?_ (hP.read (by decide))
            simp only [frameOf, Act.put, List.setIfInBounds_toArray, List.set_cons_zero, List.set_cons_succ, Nat.zero_add, Nat.reduceAdd, h3] <;> rfl
          · intro M g_ W_ hM hC hd hP K hK
            simp only [frameOf, Act.put, List.setIfInBounds_toArray, List.set_cons_zero, List.set_cons_succ]
            have h4 : g_ 4 = .pointer (some ⟨ba, oa, none⟩) := (hd 4 (by kernel_rfl)).1
            rw [h4]
            have e0 := ((stays hP.B).1 _ _ hba).trans a0
            have e1 := ((stays hP.B).1 _ _ hba).trans a1
            have e2 := ((stays hP.B).1 _ _ hba).trans a2
            have e3 := ((stays hP.B).1 _ _ hba).trans a3
            go_simp
            refine hK.out _ W_ ?_ (hP.read (by decide))
            simp only [frameOf, Act.put, List.setIfInBounds_toArray, List.set_cons_zero, List.set_cons_succ, Nat.zero_add, Nat.reduceAdd, h4] <;> rfl
          · intro M g_ W_ hM hC hd hP K hK
            simp only [frameOf, Act.put, List.setIfInBounds_toArray, List.set_cons_zero, List.set_cons_succ]
            go_simp
            refine hK.out _ W_ ?_ (hP.read (by decide))
            simp only [frameOf, Act.put, List.setIfInBounds_toArray, List.set_cons_zero, List.set_cons_succ, Nat.zero_add, Nat.reduceAdd] <;> rfl
          · intro M g_ W_ hM hC hd hP K hK
            simp only [frameOf, Act.put, List.setIfInBounds_toArray, List.set_cons_zero, List.set_cons_succ]
            have h6 : g_ 6 = .pointer (some ⟨g, st'.length * 2, none⟩) := (hd 6 (by kernel_rfl)).1
            rw [h6]
            go_simp
            refine hK.out _ W_ ?_ (hP.read (by decide))
            simp only [frameOf, Act.put, List.setIfInBounds_toArray, List.set_cons_zero, List.set_cons_succ, Nat.zero_add, Nat.reduceAdd, h6] <;> rfl
          · intro M g_ W_ hM hC hd hP K hK
            simp only [frameOf, Act.put, List.setIfInBounds_toArray, List.set_cons_zero, List.set_cons_succ]
            have h7 : g_ 7 = .pointer (some ⟨g, st'.length * 2, none⟩) := (hd 7 (by kernel_rfl)).1
            rw [h7]
            go_simp
            refine hK.out _ W_ ?_ (hP.read (by decide))
            simp only [frameOf, Act.put, List.setIfInBounds_toArray, List.set_cons_zero, List.set_cons_succ, Nat.zero_add, Nat.reduceAdd, h7] <;> rfl
          · intro M g_ W_ hM hC hd hP K hK
            simp only [frameOf, Act.put, List.setIfInBounds_toArray, List.set_cons_zero, List.set_cons_succ]
            have h8 : g_ 8 = .pointer (some ⟨g, st'.length * 2 + 1, none⟩) := (hd 8 (by kernel_rfl)).1
            rw [h8]
            have e9 := ((stays hP.B).1 _ _ hgb.2).trans hBc
            go_simp
            refine hK.out _ W_ ?_ (hP.read (by decide))
            simp only [frameOf, Act.put, List.setIfInBounds_toArray, List.set_cons_zero, List.set_cons_succ, Nat.zero_add, Nat.reduceAdd, h8] <;> rfl
          · intro M g_ W_ hM hC hd hP K hK
            simp only [frameOf, Act.put, List.setIfInBounds_toArray, List.set_cons_zero, List.set_cons_succ]
            have h9 : g_ 9 = .slice (some ⟨bb, ob, none⟩) (rb.len + 1) cb := (hd 9 (by kernel_rfl)).1
            rw [h9]
            go_simp
            refine hK.out _ W_ ?_ (hP.read (by decide))
            simp only [frameOf, Act.put, List.setIfInBounds_toArray, List.set_cons_zero, List.set_cons_succ, Nat.zero_add, Nat.reduceAdd, h9] <;> rfl
          · intro M g_ W_ hM hC hd hP K hK
            simp only [frameOf, Act.put, List.setIfInBounds_toArray, List.set_cons_zero, List.set_cons_succ]
            have h10 : g_ 10 = .pointer (some ⟨bb, ob, none⟩) := (hd 10 (by kernel_rfl)).1
            rw [h10]
            have e0 := ((stays hP.B).1 _ _ hbb).trans b0
            have e1 := ((stays hP.B).1 _ _ hbb).trans b1
            have e2 := ((stays hP.B).1 _ _ hbb).trans b2
            have e3 := ((stays hP.B).1 _ _ hbb).trans b3
            go_simp
            refine hK.out _ W_ ?_ (hP.read (by decide))
            simp only [frameOf, Act.put, List.setIfInBounds_toArray, List.set_cons_zero, List.set_cons_succ, Nat.zero_add, Nat.reduceAdd, h10] <;> rfl
          · intro M g_ W_ hM hC hd hP K hK
            simp only [frameOf, Act.put, List.setIfInBounds_toArray, List.set_cons_zero, List.set_cons_succ]
            have h5 : g_ 5 = .agg #[.int .u8 na.k, .string na.s, .int .i64 na.n, .slice na.p na.kids.len na.c] := (hd 5 (by kernel_rfl)).1
            have h11 : g_ 11 = .agg #[.int .u8 nb.k, .string nb.s, .int .i64 nb.n, .slice nb.p nb.kids.len nb.c] := (hd 11 (by kernel_rfl)).1
            rw [h5, h11]
            go_simp
            refine hK.out _ W_ ?_ (hP.read (by decide))
            simp only [frameOf, Act.put, List.setIfInBounds_toArray, List.set_cons_zero, List.set_cons_succ, Nat.zero_add, Nat.reduceAdd, h5, h11] <;> rfl
          · intro M g_ W_ hM hC hd hP K hK
            simp only [frameOf, Act.put, List.setIfInBounds_toArray, List.set_cons_zero, List.set_cons_succ]
            have hs := hP.none_ hM
            have h14 : M 14 = false := by cases h : M 14 with | false => rfl | true => exact absurd (hC 14 _ rfl h 13 (by kernel_rfl)) (by rw [show M 13 = false from hM]; simp)
            have HS := Lib.hid hs
            clear hs
            go_simp
            refine hK.out _ _ ?_ (hP.alloc hM _ h14)
            rw [HS.out]
            simp only [frameOf, Act.put, List.setIfInBounds_toArray, List.set_cons_zero, List.set_cons_succ, Nat.zero_add, Nat.reduceAdd] <;> rfl
          · intro M g_ W_ hM hC hd hP K hK
            simp only [frameOf, Act.put, List.setIfInBounds_toArray, List.set_cons_zero, List.set_cons_succ]
            have h13 : g_ 13 = .pointer (some ⟨wr.heap.size, 0, none⟩) := (hd 13 (by kernel_rfl)).1
            have h12 : g_ 12 = .agg #[.int .u8 na.k, .string na.s, .int .i64 na.n, .slice na.p na.kids.len na.c, .int .u8 nb.k, .string nb.s, .int .i64 nb.n, .slice nb.p nb.kids.len nb.c] := (hd 12 (by kernel_rfl)).1
            rw [h13, h12]
            have hpz := hP.zero (hd 13 (by kernel_rfl)).2 hM
            have q0 := hpz.c0
            have q1 := hpz.c1
            have q2 := hpz.c2
            have q3 := hpz.c3
            have q4 := hpz.c4
            have q5 := hpz.c5
            have q6 := hpz.c6
            have q7 := hpz.c7
            have qf := hpz.fr
            simp only [zeroN, Ts.len] at q0 q1 q2 q3 q4 q5 q6 q7
            go_simp
            refine hK.out _ (putP W_ wr.heap.size na nb) ?_ (hP.put (hd 13 (by kernel_rfl)).2 hM)
            simp only [frameOf, Act.put, List.setIfInBounds_toArray, List.set_cons_zero, List.set_cons_succ, Nat.zero_add, Nat.reduceAdd, h13, h12] <;> rfl
        case done4 =>
          intro M f_ W_ hd hP
          have h4 : f_ 13 = .pointer (some ⟨wr.heap.size, 0, none⟩) := (hd 13 (by decide)).2
          simp only [frameOf, Act.put, List.setIfInBounds_toArray, List.set_cons_zero, List.set_cons_succ, Nat.zero_add, Nat.reduceAdd, h4]
          have B4 := Lib.hid hP.B
          have PP := Lib.hid (hP.done (hd 13 (by decide)).1 (hd 14 (by decide)).1)
          have hA4 := ((stays hP.B).1 _ _ hgb.2).trans hA
          have hB4 := ((stays hP.B).1 _ _ hgb.2).trans hBc
          have hfg4 : ∀ j, W_.frozen? ⟨g, j, none⟩ = false := fun j => ((stays hP.B).2 _ _ hgb.2).trans (hfg j)
          have hg4 : g < W_.heap.size := Nat.lt_of_lt_of_le hgb.2 hP.B.size
          clear hd hP h4 hA hBc hfg
          have ROW4 : Hid (W_.ownsRow base 162 2 (.slice (some ⟨g, 0, none⟩) (st'.length + 1) cg) (st'.length + 1) (cellsRE st'.reverse ++ [.slice (some ⟨ba, oa, none⟩) (ra.len + 1) ca, .slice (some ⟨bb, ob, none⟩) (rb.len + 1) cb])) := Lib.hid (own_below ROW.out B4.out)
          have hgw : g < w.heap.size := by
            rcases ownsRow2 LL.out.row with ⟨h, _⟩ | ⟨g', c', h, _, h3, _⟩
            · have := H.out.ob; rw [h] at this; simp [Value.ownBlock] at this
            · have := H.out.ob; rw [h] at this; simp only [Value.ownBlock, Option.some.injEq] at this; omega
          have hcl : (cellsRE st'.reverse).length = st'.length * 2 := by rw [cellsRE_length, List.length_reverse]
          obtain ⟨w4, hw4⟩ : ∃ w4, w4 = W_ := ⟨_, rfl⟩
          subst hw4
          go_upto_region 5 with fail
          refine region_known (valOf2 [.pointer (some ⟨g, st'.length * 2, none⟩), .pointer (some ⟨g, st'.length * 2, none⟩), .pointer (some ⟨g, st'.length * 2, none⟩), .pointer (some ⟨g, st'.length * 2, none⟩), .pointer (some ⟨g, st'.length * 2, none⟩), .slice (some ⟨ba, oa, none⟩) (ra.len + 1) ca, .slice qA ra.len (ca - 1), .pointer (some ⟨g, st'.length * 2, none⟩), .pointer (some ⟨g, st'.length * 2, none⟩), .pointer (some ⟨g, st'.length * 2 + 1, none⟩), .slice (some ⟨bb, ob, none⟩) (rb.len + 1) cb, .slice qB rb.len (cb - 1), .pointer (some ⟨g, st'.length * 2, none⟩), .pointer (some ⟨g, st'.length * 2, none⟩), undef, .pointer (some ⟨g, st'.length * 2, none⟩), .pointer (some ⟨g, st'.length * 2 + 1, none⟩), undef]) (Q5 w4 base g (st'.length + 1) cg (cellsRE st'.reverse) (.slice (some ⟨ba, oa, none⟩) (ra.len + 1) ca) (.slice qA ra.len (ca - 1)) (.slice (some ⟨bb, ob, none⟩) (rb.len + 1) cb) (.slice qB rb.len (cb - 1))) (by kernel_rfl) (by kernel_rfl) (by kernel_rfl) (Q5.start ROW4.out) ?steps5 ?done5
          case steps5 =>
            refine ⟨?_, ?_, ?_, ?_, ?_, ?_, ?_, ?_, ?_, ?_, ?_, ?_, ?_, ?_, ?_, ?_, ?_, ?_, trivial⟩
            · intro M g_ W_ hM hC hd hP K hK
              simp only [frameOf, Act.put, List.setIfInBounds_toArray, List.set_cons_zero, List.set_cons_succ]
              go_simp
              refine hK.out _ W_ ?_ (hP.read (by decide))
              simp only [frameOf, Act.put, List.setIfInBounds_toArray, List.set_cons_zero, List.set_cons_succ, Nat.zero_add, Nat.reduceAdd] <;> rfl
            · intro M g_ W_ hM hC hd hP K hK
              simp only [frameOf, Act.put, List.setIfInBounds_toArray, List.set_cons_zero, List.set_cons_succ]
              go_simp
              refine hK.out _ W_ ?_ (hP.read (by decide))
              simp only [frameOf, Act.put, List.setIfInBounds_toArray, List.set_cons_zero, List.set_cons_succ, Nat.zero_add, Nat.reduceAdd] <;> rfl
            · intro M g_ W_ hM hC hd hP K hK
              simp only [frameOf, Act.put, List.setIfInBounds_toArray, List.set_cons_zero, List.set_cons_succ]
              go_simp
              refine hK.out _ W_ ?_ (hP.read (by decide))
              simp only [frameOf, Act.put, List.setIfInBounds_toArray, List.set_cons_zero, List.set_cons_succ, Nat.zero_add, Nat.reduceAdd] <;> rfl
            · intro M g_ W_ hM hC hd hP K hK
              simp only [frameOf, Act.put, List.setIfInBounds_toArray, List.set_cons_zero, List.set_cons_succ]
              have h2 : g_ 2 = .pointer (some ⟨g, st'.length * 2, none⟩) := (hd 2 (by kernel_rfl)).1
              rw [h2]
              go_simp
              refine hK.out _ W_ ?_ (hP.read (by decide))
              simp only [frameOf, Act.put, List.setIfInBounds_toArray, List.set_cons_zero, List.set_cons_succ, Nat.zero_add, Nat.reduceAdd, h2] <;> rfl
            · intro M g_ W_ hM hC hd hP K hK
              simp only [frameOf, Act.put, List.setIfInBounds_toArray, List.set_cons_zero, List.set_cons_succ]
              have h3 : g_ 3 = .pointer (some ⟨g, st'.length * 2, none⟩) := (hd 3 (by kernel_rfl)).1
              rw [h3]
              go_simp
              refine hK.out _ W_ ?_ (hP.read (by decide))
              simp only [frameOf, Act.put, List.setIfInBounds_toArray, List.set_cons_zero, List.set_cons_succ, Nat.zero_add, Nat.reduceAdd, h3] <;> rfl
            · intro M g_ W_ hM hC hd hP K hK
              simp only [frameOf, Act.put, List.setIfInBounds_toArray, List.set_cons_zero, List.set_cons_succ]
              have h4 : g_ 4 = .pointer (some ⟨g, st'.length * 2, none⟩) := (hd 4 (by kernel_rfl)).1
              rw [h4]
              have hno : M 14 = false := by cases h : M 14 with | false => rfl | true => exact absurd (hC 14 _ rfl h 5 (by kernel_rfl)) (by rw [show M 5 = false from hM]; simp)
              have e9 := hP.cellA hcl hno
              clear hno
              go_simp
              refine hK.out _ W_ ?_ (hP.read (by decide))
              simp only [frameOf, Act.put, List.setIfInBounds_toArray, List.set_cons_zero, List.set_cons_succ, Nat.zero_add, Nat.reduceAdd, h4] <;> rfl
            · intro M g_ W_ hM hC hd hP K hK
              simp only [frameOf, Act.put, List.setIfInBounds_toArray, List.set_cons_zero, List.set_cons_succ]
              have h5 : g_ 5 = .slice (some ⟨ba, oa, none⟩) (ra.len + 1) ca := (hd 5 (by kernel_rfl)).1
              rw [h5]
              go_simp
              rw [HQA.out, if_pos (show (1 : Int) ≤ (ra.len : Int) + 1 by omega)]
              refine hK.out _ W_ ?_ (hP.read (by decide))
              simp only [frameOf, Act.put, List.setIfInBounds_toArray, List.set_cons_zero, List.set_cons_succ, Nat.zero_add, Nat.reduceAdd, h5] <;> rfl
            · intro M g_ W_ hM hC hd hP K hK
              simp only [frameOf, Act.put, List.setIfInBounds_toArray, List.set_cons_zero, List.set_cons_succ]
              go_simp
              refine hK.out _ W_ ?_ (hP.read (by decide))
              simp only [frameOf, Act.put, List.setIfInBounds_toArray, List.set_cons_zero, List.set_cons_succ, Nat.zero_add, Nat.reduceAdd] <;> rfl
            · intro M g_ W_ hM hC hd hP K hK
              simp only [frameOf, Act.put, List.setIfInBounds_toArray, List.set_cons_zero, List.set_cons_succ]
              have h7 : g_ 7 = .pointer (some ⟨g, st'.length * 2, none⟩) := (hd 7 (by kernel_rfl)).1
              rw [h7]
              go_simp
              refine hK.out _ W_ ?_ (hP.read (by decide))
              simp only [frameOf, Act.put, List.setIfInBounds_toArray, List.set_cons_zero, List.set_cons_succ, Nat.zero_add, Nat.reduceAdd, h7] <;> rfl
            · intro M g_ W_ hM hC hd hP K hK
              simp only [frameOf, Act.put, List.setIfInBounds_toArray, List.set_cons_zero, List.set_cons_succ]
              have h8 : g_ 8 = .pointer (some ⟨g, st'.length * 2, none⟩) := (hd 8 (by kernel_rfl)).1
              rw [h8]
              go_simp
              refine hK.out _ W_ ?_ (hP.read (by decide))
              simp only [frameOf, Act.put, List.setIfInBounds_toArray, List.set_cons_zero, List.set_cons_succ, Nat.zero_add, Nat.reduceAdd, h8] <;> rfl
            · intro M g_ W_ hM hC hd hP K hK
              simp only [frameOf, Act.put, List.setIfInBounds_toArray, List.set_cons_zero, List.set_cons_succ]
              have h9 : g_ 9 = .pointer (some ⟨g, st'.length * 2 + 1, none⟩) := (hd 9 (by kernel_rfl)).1
              rw [h9]
              have hno : M 17 = false := by cases h : M 17 with | false => rfl | true => exact absurd (hC 17 _ rfl h 10 (by kernel_rfl)) (by rw [show M 10 = false from hM]; simp)
              have e9 := hP.cellB hcl hno
              clear hno
              go_simp
              refine hK.out _ W_ ?_ (hP.read (by decide))
              simp only [frameOf, Act.put, List.setIfInBounds_toArray, List.set_cons_zero, List.set_cons_succ, Nat.zero_add, Nat.reduceAdd, h9] <;> rfl
            · intro M g_ W_ hM hC hd hP K hK
              simp only [frameOf, Act.put, List.setIfInBounds_toArray, List.set_cons_zero, List.set_cons_succ]
              have h10 : g_ 10 = .slice (some ⟨bb, ob, none⟩) (rb.len + 1) cb := (hd 10 (by kernel_rfl)).1
              rw [h10]
              go_simp
              rw [HQB.out, if_pos (show (1 : Int) ≤ (rb.len : Int) + 1 by omega)]
              refine hK.out _ W_ ?_ (hP.read (by decide))
              simp only [frameOf, Act.put, List.setIfInBounds_toArray, List.set_cons_zero, List.set_cons_succ, Nat.zero_add, Nat.reduceAdd, h10] <;> rfl
            · intro M g_ W_ hM hC hd hP K hK
              simp only [frameOf, Act.put, List.setIfInBounds_toArray, List.set_cons_zero, List.set_cons_succ]
              have h0 : g_ 0 = .pointer (some ⟨g, st'.length * 2, none⟩) := (hd 0 (by kernel_rfl)).1
              rw [h0]
              go_simp
              refine hK.out _ W_ ?_ (hP.read (by decide))
              simp only [frameOf, Act.put, List.setIfInBounds_toArray, List.set_cons_zero, List.set_cons_succ, Nat.zero_add, Nat.reduceAdd, h0] <;> rfl
            · intro M g_ W_ hM hC hd hP K hK
              simp only [frameOf, Act.put, List.setIfInBounds_toArray, List.set_cons_zero, List.set_cons_succ]
              have h12 : g_ 12 = .pointer (some ⟨g, st'.length * 2, none⟩) := (hd 12 (by kernel_rfl)).1
              rw [h12]
              go_simp
              refine hK.out _ W_ ?_ (hP.read (by decide))
              simp only [frameOf, Act.put, List.setIfInBounds_toArray, List.set_cons_zero, List.set_cons_succ, Nat.zero_add, Nat.reduceAdd, h12] <;> rfl
            · intro M g_ W_ hM hC hd hP K hK
              simp only [frameOf, Act.put, List.setIfInBounds_toArray, List.set_cons_zero, List.set_cons_succ]
              have h13 : g_ 13 = .pointer (some ⟨g, st'.length * 2, none⟩) := (hd 13 (by kernel_rfl)).1
              have h6 : g_ 6 = .slice qA ra.len (ca - 1) := (hd 6 (by kernel_rfl)).1
              rw [h13, h6]
              obtain ⟨va, hca9⟩ := hP.anyA hcl
              have f9 := hP.fr
              go_simp
              refine hK.out _ (W_.setCell ⟨g, st'.length * 2, none⟩ (.slice qA ra.len (ca - 1))) ?_ (hP.putA hcl)
              simp only [frameOf, Act.put, List.setIfInBounds_toArray, List.set_cons_zero, List.set_cons_succ, Nat.zero_add, Nat.reduceAdd, h13, h6] <;> rfl
            · intro M g_ W_ hM hC hd hP K hK
              simp only [frameOf, Act.put, List.setIfInBounds_toArray, List.set_cons_zero, List.set_cons_succ]
              have h1 : g_ 1 = .pointer (some ⟨g, st'.length * 2, none⟩) := (hd 1 (by kernel_rfl)).1
              rw [h1]
              go_simp
              refine hK.out _ W_ ?_ (hP.read (by decide))
              simp only [frameOf, Act.put, List.setIfInBounds_toArray, List.set_cons_zero, List.set_cons_succ, Nat.zero_add, Nat.reduceAdd, h1] <;> rfl
            · intro M g_ W_ hM hC hd hP K hK
              simp only [frameOf, Act.put, List.setIfInBounds_toArray, List.set_cons_zero, List.set_cons_succ]
              have h15 : g_ 15 = .pointer (some ⟨g, st'.length * 2, none⟩) := (hd 15 (by kernel_rfl)).1
              rw [h15]
              go_simp
              refine hK.out _ W_ ?_ (hP.read (by decide))
              simp only [frameOf, Act.put, List.setIfInBounds_toArray, List.set_cons_zero, List.set_cons_succ, Nat.zero_add, Nat.reduceAdd, h15] <;> rfl
            · intro M g_ W_ hM hC hd hP K hK
              simp only [frameOf, Act.put, List.setIfInBounds_toArray, List.set_cons_zero, List.set_cons_succ]
              have h16 : g_ 16 = .pointer (some ⟨g, st'.length * 2 + 1, none⟩) := (hd 16 (by kernel_rfl)).1
              have h11 : g_ 11 = .slice qB rb.len (cb - 1) := (hd 11 (by kernel_rfl)).1
              rw [h16, h11]
              obtain ⟨vb, hcb9⟩ := hP.anyB hcl
              have f9 := hP.fr
              go_simp
              refine hK.out _ (W_.setCell ⟨g, st'.length * 2 + 1, none⟩ (.slice qB rb.len (cb - 1))) ?_ (hP.putB hcl)
              simp only [frameOf, Act.put, List.setIfInBounds_toArray, List.set_cons_zero, List.set_cons_succ, Nat.zero_add, Nat.reduceAdd, h16, h11] <;> rfl
          case done5 =>
            intro M f_ W_ hd hP
            simp only [frameOf, Act.put, List.setIfInBounds_toArray, List.set_cons_zero, List.set_cons_succ, Nat.zero_add, Nat.reduceAdd]
            have G5 := Lib.hid hP.tw
            have ROW5 := Lib.hid (hP.done (hd 14 (by decide)).1 (hd 17 (by decide)).1)
            have hgN : g ≠ w.heap.size := by omega
            have hgR : g ≠ wr.heap.size := by omega
            have PP5 := Lib.hid (PP.out.of_block (G5.out.block _ PP.out.lt (Ne.symm hgR) (Ne.symm hgR)))
            have BX4 := H.out.bx.below B4.out
            have PR3 := Lib.hid (BX4.of_block (G5.out.block _ BX4.lt (Ne.symm hgN) (Ne.symm hgN)))
            have e0 := PP5.out.c0
            have e1 := PP5.out.c1
            have e2 := PP5.out.c2
            have e3 := PP5.out.c3
            have e4 := PP5.out.c4
            have e5 := PP5.out.c5
            have e6 := PP5.out.c6
            have e7 := PP5.out.c7
            have y0 := PR3.out.c0
            have y1 := PR3.out.c1
            have y2 := PR3.out.c2
            have y3 := PR3.out.c3
            have y4 := PR3.out.c4
            have y5 := PR3.out.c5
            have y6 := PR3.out.c6
            have y7 := PR3.out.c7
            have yf := PR3.out.fr
            simp only [zeroN, Ts.len] at y0 y1 y2 y3 y4 y5 y6 y7
            clear hd hP BX4
            have far : ∀ k, k < wr.heap.size → k ≠ g → k ≠ w.heap.size → (putP W_ w.heap.size na nb).heap[k]? = wr.heap[k]? := fun k hk h1 h2 =>
              (putP_block h2).trans ((G5.out.block k (Nat.lt_of_lt_of_le hk B4.out.size) h1 h1).trans (B4.out.block k hk))
            have FAR := Lib.hid far
            have SZ : Hid (wr.heap.size ≤ (putP W_ w.heap.size na nb).heap.size) := Lib.hid (Nat.le_trans B4.out.size (Nat.le_trans G5.out.size (putP_grown W_ w.heap.size na nb).size))
            have EQS : Hid ((putP W_ w.heap.size na nb).os = wr.os ∧ (putP W_ w.heap.size na nb).tape = wr.tape ∧ (putP W_ w.heap.size na nb).output = wr.output) := Lib.hid ⟨(putP_grown W_ w.heap.size na nb).os.trans (G5.out.os.trans B4.out.os), (putP_grown W_ w.heap.size na nb).tape.trans (G5.out.tape.trans B4.out.tape), (putP_grown W_ w.heap.size na nb).output.trans (G5.out.output.trans B4.out.output)⟩
            have NO : Hid (NextOut base LB C v st w (.returned (.tuple #[pairV na nb, .bool true])) (putP W_ w.heap.size na nb)) := Lib.hid (by
              have hob : v.ownBlock = some g := H.out.ob.symm
              have imp2 : ∀ {p : Option Addr} {ts : Ts}, Ts.AtP (fun b => g ≠ b ∧ b < C) wr p ts → Ts.AtP (fun b => g ≠ b ∧ b < C) (putP W_ w.heap.size na nb) p ts := fun h =>
                h.stay fun b hb hl => FAR.out b hl (Ne.symm hb.1) (by have := hb.2; omega)
              have imp : ∀ {p : Option Addr} {ts : Ts}, Ts.AtP (fun b => g ≠ b ∧ b < C) wr p ts → Ts.AtP (fun b => g ≠ b) (putP W_ w.heap.size na nb) p ts := fun h =>
                AtP_imp (fun b _ hb => hb.1) (imp2 h)
              refine ⟨⟨EQS.out.1.trans H.out.g.os, EQS.out.2.1.trans H.out.g.tape, EQS.out.2.2.trans H.out.g.output, Nat.le_trans hsz SZ.out, fun k hk h1 h2 => ?_⟩, .inr ⟨na, nb, (⟨qA, ra, ca - 1⟩, ⟨qB, rb, cb - 1⟩) :: st', .slice (some ⟨g, 0, none⟩) (st'.length + 1) cg, ?_, by simpa using hle, rfl, ⟨?_, ?_, fun e he => ?_, ⟨H.out.l.base_.1, Nat.le_trans H.out.l.base_.2 SZ.out⟩⟩, H.out.ob, fun e he => ?_, ?_⟩⟩
              · rw [hob] at h2
                exact (FAR.out k (by omega) (fun e => h2 (by rw [e])) (by omega)).trans (H.out.g.block k hk h1 (by rw [hob]; exact h2))
              · have h := H.out.ps
                simp only [pairsOf, elems, List.zip_cons_cons, List.cons_append] at h
                rw [← h, NA.out, NB.out]
                rfl
              · exact (FAR.out LB hLl (by omega) (by omega)).trans H.out.l.box
              · have h5 := ROW5.out.kept (putP_grown W_ w.heap.size na nb) (.inr (by simp only [Value.ownBlock, ne_eq, Option.some.injEq]; omega))
                simpa [cellsRE_app, cellsRE, Ent.val] using h5
              · rcases List.mem_cons.1 he with rfl | he
                · refine ⟨by have := HLEN.out; simp only [Ts.len] at this; simpa using this, ⟨by simp only; omega, EA.out.ok.2.2.2.2.2.2, by simpa [Value.ownBlock] using imp QAA.out, fun x hx => EA.out.sz x (by simp [elems, hx])⟩, ⟨by simp only; omega, EB.out.ok.2.2.2.2.2.2, by simpa [Value.ownBlock] using imp QBB.out, fun x hx => EB.out.sz x (by simp [elems, hx])⟩⟩
                · obtain ⟨h1, h2, h3⟩ := H.out.en e (List.mem_cons_of_mem _ he)
                  exact ⟨h1, ⟨h2.cap, h2.ok, by simpa [Value.ownBlock] using imp (by simpa [Value.ownBlock] using h2.at_), h2.sz⟩, ⟨h3.cap, h3.ok, by simpa [Value.ownBlock] using imp (by simpa [Value.ownBlock] using h3.at_), h3.sz⟩⟩
              · rw [hob]
                rcases List.mem_cons.1 he with rfl | he
                · exact ⟨⟨by simp only; omega, EA.out.ok.2.2.2.2.2.2, by simpa using imp2 QAA.out, fun x hx => EA.out.sz x (by simp [elems, hx])⟩, ⟨by simp only; omega, EB.out.ok.2.2.2.2.2.2, by simpa using imp2 QBB.out, fun x hx => EB.out.sz x (by simp [elems, hx])⟩⟩
                · obtain ⟨_, h2, h3⟩ := H.out.en e (List.mem_cons_of_mem _ he)
                  exact ⟨⟨h2.cap, h2.ok, by simpa using imp2 (by simpa [Value.ownBlock] using h2.at_), h2.sz⟩, ⟨h3.cap, h3.ok, by simpa using imp2 (by simpa [Value.ownBlock] using h3.at_), h3.sz⟩⟩
              · rw [hob]
                refine ⟨⟨?_, by simpa using imp2 JAA.out, ?_⟩, ?_, by simpa using imp2 JBB.out, ?_⟩
                · rw [NA.out]; exact ⟨EA.out.ok.1, EA.out.ok.2.1, EA.out.ok.2.2.1, EA.out.ok.2.2.2.1, EA.out.ok.2.2.2.2.1, EA.out.ok.2.2.2.2.2.1, trivial⟩
                · rw [NA.out]; exact EA.out.sz _ (by simp [elems])
                · rw [NB.out]; exact ⟨EB.out.ok.1, EB.out.ok.2.1, EB.out.ok.2.2.1, EB.out.ok.2.2.2.1, EB.out.ok.2.2.2.2.1, EB.out.ok.2.2.2.2.2.1, trivial⟩
                · rw [NB.out]; exact EB.out.sz _ (by simp [elems]))
            clear far
            go_wp2
            have P0 := PR3.out.put (x := na) (y := nb)
            have p0 := P0.c0
            have p1 := P0.c1
            have p2 := P0.c2
            have p3 := P0.c3
            have p4 := P0.c4
            have p5 := P0.c5
            have p6 := P0.c6
            have p7 := P0.c7
            simp only [putP] at p0 p1 p2 p3 p4 p5 p6 p7
            clear P0
            exact bodyPost_ret (v := .tuple #[pairV na nb, .bool true]) (by simp [results, Tryz.results135, go_sem, p0, p1, p2, p3, p4, p5, p6, p7, pairV]) rfl (NO.out)


end Go.Proofs.YtnmhnaanpjlniaaGreat
