import Derived.Test.YtnmhnaanpjlniaaGreatZa
import Derived.Test.YtnmhnaanpjlniaaGreatEc
import Derived.Test.YtnmhnaanpjlniaaGreatAm
import Derived.WalkKit
import Derived.WalkSpells
import Derived.WalkSmall
import Derived.Deep.QuietTactic
import Derived.BigQuiet
import Derived.Deep.RegionWith
import Derived.Defers
import Derived.Recover
import Derived.Test.YtnmhnaanpjlniaaGreatAe
import Derived.Test.YtnmhnaanpjlniaaGreatVd
import Derived.Test.YtnmhnaanpjlniaaGreatXc
import Derived.Laws.AppendOwnNone
import Derived.Test.YtnmhnaanpjlniaaGreatAi
import Derived.Deep.DeepCutAuto
import Derived.Test.YtnmhnaanpjlniaaGreatTs
/-
  Eval: the deferred function, and what Eval answers for two numbers, for an atom, and for an unbound variable.
-/
namespace Go.Proofs.YtnmhnaanpjlniaaGreat
open Go.RowKit

/-- the reckoner's own block -/
structure Rk (w : World) (b : Nat) (s : Addr) (m : Nat) (k : Int) : Prop where
  blk : w.heap[b]? = some (.cells #[.pointer (some s), .map (some m), .int .i64 k] 152 (0, 0))

theorem Rk.lt {w : World} {b : Nat} {s : Addr} {m : Nat} {k : Int} (h : Rk w b s m k) : b < w.heap.size := (Array.getElem?_eq_some_iff.1 h.blk).1
theorem Rk.subst {w : World} {b : Nat} {s : Addr} {m : Nat} {k : Int} (h : Rk w b s m k) : w.cell? ⟨b, 0, none⟩ = some (.pointer (some s)) := by simp [World.cell?, h.blk]
theorem Rk.by_ {w : World} {b : Nat} {s : Addr} {m : Nat} {k : Int} (h : Rk w b s m k) : w.cell? ⟨b, 1, none⟩ = some (.map (some m)) := by simp [World.cell?, h.blk]
theorem Rk.nodes {w : World} {b : Nat} {s : Addr} {m : Nat} {k : Int} (h : Rk w b s m k) : w.cell? ⟨b, 2, none⟩ = some (.int .i64 k) := by simp [World.cell?, h.blk]
theorem Rk.free {w : World} {b : Nat} {s : Addr} {m : Nat} {k : Int} (h : Rk w b s m k) : w.frozen? ⟨b, 2, none⟩ = false := by simp [World.frozen?, h.blk]
theorem Rk.put {w : World} {b : Nat} {s : Addr} {m : Nat} {k : Int} (h : Rk w b s m k) (k' : Int) : Rk (w.setCell ⟨b, 2, none⟩ (.int .i64 k')) b s m k' := by
  refine ⟨?_⟩
  simp only [World.setCell, Array.getElem?_modify, if_pos, h.blk]
  rfl
theorem Rk.below {w w' : World} {b : Nat} {s : Addr} {m : Nat} {k : Int} (h : Rk w b s m k) (hB : Below w.heap.size w w') : Rk w' b s m k := ⟨(hB.block b h.lt).trans h.blk⟩

set_option maxHeartbeats 1000000 in
/-- the deferred function, a number of an error being thrown -/
theorem catch_thrown (bn be : Nat) (n : Int) (w : World) (v0 : Int) (e0 : Int) (_hne : bn ≠ be)
    (c0 : w.cell? ⟨bn, 0, none⟩ = some (.int .i64 v0)) (f0 : w.frozen? ⟨bn, 0, none⟩ = false) (c1 : w.cell? ⟨be, 0, none⟩ = some (.int .i64 e0)) (f1 : w.frozen? ⟨be, 0, none⟩ = false) :
    CallsD Tryz.prog 123 #[.pointer (some ⟨bn, 0, none⟩), .pointer (some ⟨be, 0, none⟩)] (.panicking ({ v := .iface 35 (.int .i64 n), recovered := false } :: [])) w fun e u' w' =>
      e = .returned (.tuple #[]) ∧ u' = .panicking ({ v := .iface 35 (.int .i64 n), recovered := true } :: []) ∧ w' = (w.setCell ⟨bn, 0, none⟩ (.int .i64 0)).setCell ⟨be, 0, none⟩ (.int .i64 n) := by
  have hta : ∀ w : World, (Instr.typeAssert (.iface 35 (.int .i64 n)) 20 35 true).run Tryz.prog w = .ok (.tuple #[.int .i64 n, .bool true]) w := fun _ => by kernel_rfl
  refine callsD_of_wpS Tryz.func123 rfl fun c₀ cs hu => ?_
  apply wpS_seq
  apply wpS_region
  simp [wpOpsS, go_sem, recoverD, hu, Tryz.ntmps123, Exit.thenS, hta]
  apply wpS_seq
  apply wpS_region
  simp [wpOpsS, go_sem, Exit.thenS]
  refine wpS_cond (t := true) (by simp [Act.eval, Array.replicate]) ?_
  simp only [if_true]
  apply wpS_region
  simp [wpOpsS, go_sem, c0, f0, c1, f1, bodyPostS, results, Tryz.results123]

set_option maxHeartbeats 1000000 in
/-- the deferred function, nothing being thrown -/
theorem catch_idle (bn be : Nat) (w : World) :
    CallsD Tryz.prog 123 #[.pointer (some ⟨bn, 0, none⟩), .pointer (some ⟨be, 0, none⟩)] .returning w fun e u' w' =>
      e = .returned (.tuple #[]) ∧ u' = .returning ∧ w' = w := by
  have hta : ∀ w : World, (Instr.typeAssert .nilIface 20 35 true).run Tryz.prog w = .ok (.tuple #[.int .i64 0, .bool false]) w := fun _ => by kernel_rfl
  refine callsD_of_wpS Tryz.func123 rfl fun c₀ cs hu => ?_
  apply wpS_seq
  apply wpS_region
  simp [wpOpsS, go_sem, recoverD, hu, Tryz.ntmps123, Exit.thenS, hta]
  apply wpS_seq
  apply wpS_region
  simp [wpOpsS, go_sem, Exit.thenS]
  refine wpS_cond (t := false) (by simp [Act.eval, Array.replicate]) ?_
  simp only [Bool.false_eq_true, if_false]
  refine wpS_of_wp (wp_skip ?_)
  cases c₀
  simp_all [bodyPostS, results, Tryz.results123]

set_option maxHeartbeats 1000000 in
/-- Eval, by what the reckoner comes to -/
theorem eval_any (t0 t1 t2 t3 : Value) (w : World) (s : Addr) (R : Int × Int)
    (hrec : ∀ (W : World) (b m : Nat), Below w.heap.size w W → w.heap.size ≤ m → m < b → Rk W b s m 0 → OpInv m 0 (fun _ => true) W →
      Calls Tryz.prog 125 #[.pointer (some ⟨b, 0, none⟩), .agg #[t0, t1, t2, t3]] W fun e w' => e = endsAs R ∧ Below b W w') :
    Calls Tryz.prog 111 #[.pointer (some s), .agg #[t0, t1, t2, t3]] w fun e w' =>
      e = .returned (.tuple #[.int .i64 (if R.2 = 0 then R.1 else 0), .int .i64 R.2]) ∧ Below w.heap.size w w' := by
  have hmf : ∀ (fn : Fn) (first cap : Array Value) (w : World), (Instr.makeFunc fn first cap).run Tryz.prog w = .ok (.func fn first cap) w := fun _ _ _ _ => rfl
  have HR := Lib.hid hrec
  clear hrec
  go_enter_defers Tryz.func111, Tryz.ntmps111
  go_wp2_with fail
  refine (operators_any _).mono ?_
  rintro e w1 ⟨rfl, hB, hO⟩
  obtain ⟨hc, hf⟩ := stays hB
  have hlt : w.heap.size + 3 < w1.heap.size := by
    obtain ⟨D, n, hown, _⟩ := hO.has
    have := hown.lt
    simpa using this
  have hz0 : w.heap.size < w1.heap.size := by omega
  have hz1 : w.heap.size + 1 < w1.heap.size := by omega
  have hz2 : w.heap.size + 1 + 1 < w1.heap.size := by omega
  have HO := Lib.hid hO
  clear hO
  go_wp2_with fail
  have hm : (((w.alloc (Obj.cells #[t0, t1, t2, t3] 25)).alloc (Obj.cells #[Value.int IntKind.i64 0] 2)).alloc (Obj.cells #[Value.int IntKind.i64 0] 35)).heap.size = w.heap.size + 1 + 1 + 1 := by simp
  rw [hm] at HO
  have B1 : Below w.heap.size w w1 := ((((Below.refl _ _).alloc (Nat.le_refl _) _).alloc (by simp) _).alloc (by simp; omega) _).trans (hB.mono (by simp; omega))
  refine (HR.out _ w1.heap.size (w.heap.size + 1 + 1 + 1) ?_ ?_ ?_ ?_ ?_).mono ?_
  · exact B1.alloc (by omega) _
  · omega
  · omega
  · exact ⟨by show (Array.push _ _)[w1.heap.size]? = _; rw [Array.getElem?_push_size]⟩
  · exact HO.out.same (Below.heap_alloc _ _ _ (by omega))
  rintro e w2 ⟨rfl, hB2⟩
  have B2 : Below w.heap.size w w2 := (B1.alloc (by omega) _).trans (hB2.mono (by omega))
  have hc2 : ∀ b o, b < w1.heap.size → w2.cell? ⟨b, o, none⟩ = w1.cell? ⟨b, o, none⟩ := fun b o hb => (hB2.cell (p := ⟨b, o, none⟩) hb).trans (World.cell?_alloc_past _ _ _ hb)
  have hf2 : ∀ b o, b < w1.heap.size → w2.frozen? ⟨b, o, none⟩ = w1.frozen? ⟨b, o, none⟩ := fun b o hb => (hB2.frozen (p := ⟨b, o, none⟩) hb).trans (World.frozen?_alloc_past _ _ _ hb)
  have hs2 : w1.heap.size < w2.heap.size := by have := hB2.size; simp at this; omega
  by_cases hR : R.2 = 0
  · rw [show endsAs R = .returned (.int .i64 R.1) from if_pos hR]
    go_wp2
    refine leaves_cons (f := 123) (args := #[.pointer (some ⟨w.heap.size + 1, 0, none⟩), .pointer (some ⟨w.heap.size + 1 + 1, 0, none⟩)]) (by simp) (by simp [go_sem]) ?_
    refine (catch_idle (w.heap.size + 1) (w.heap.size + 1 + 1) _).mono ?_
    rintro e u' w3 ⟨rfl, rfl, rfl⟩
    simp [Leaves, settle, results, Tryz.results111, go_sem, hc2, hz1, hz2, hc]
    repeat (first | exact B2 | refine Below.setCell (p := ⟨w.heap.size + 1, _, none⟩) ?_ (by simp) _ | refine Below.setCell (p := ⟨w.heap.size + 1 + 1, _, none⟩) ?_ (by simp; omega) _)
  · rw [show endsAs R = .panicked (thrown R.2) from if_neg hR]
    refine leaves_cons (f := 123) (args := #[.pointer (some ⟨w.heap.size + 1, 0, none⟩), .pointer (some ⟨w.heap.size + 1 + 1, 0, none⟩)]) (by simp) (by simp [go_sem]) ?_
    refine (catch_thrown (w.heap.size + 1) (w.heap.size + 1 + 1) R.2 _ 0 0 (by omega) ?_ ?_ ?_ ?_).mono ?_
    · simp [go_sem, hc2, hz1, hc]
    · simp [go_sem, hf2, hz1, hf]
    · simp [go_sem, hc2, hz2, hc]
    · simp [go_sem, hf2, hz2, hf]
    rintro e u' w3 ⟨rfl, rfl, rfl⟩
    simp [Leaves, settle, results, Tryz.results111, go_sem, hc2, hz1, hz2, hc]
    refine ⟨fun h => absurd h hR, ?_⟩
    repeat (first | exact B2 | refine Below.setCell (p := ⟨w.heap.size + 1, _, none⟩) ?_ (by simp) _ | refine Below.setCell (p := ⟨w.heap.size + 1 + 1, _, none⟩) ?_ (by simp; omega) _)

end Go.Proofs.YtnmhnaanpjlniaaGreat
/-
  A law for a region that draws its order and whose last two operations stand one behind the other: the one but last may write; each of the others leaves a fact that no growth of memory takes away.
-/
namespace Go.Proofs.YtnmhnaanpjlniaaGreat
open Go.RowKit



/-- the last operation, from what stands -/
def TailStep (P : Program) (ops : Array Oper) (Q : Exit → Act → World → Prop) (frame : (Nat → Value) → Act) (i : Nat) (o : Oper) (f : Nat → Value) (w : World) : Prop :=
  ∀ K : Act → World → Prop, Hid (∀ v a' w', a' = (frame f).put o.dst v → Q .normal (frame (upd f i v)) w' → K a' w') →
    if Region.wanted o (yielded ops (frame f).tmps) = true then Oper.wp P o (frame f) w K Q else K ((frame f).put o.dst undef) w

/-- an operation before the last two: as 'RStep', and the last one's slot is still as it was -/
def RStepZ (P : Program) (ops : Array Oper) (Q : Exit → Act → World → Prop) (frame : (Nat → Value) → Act) (I : World → Prop) (F : Nat → Value → World → Prop) (v0 : Value) (i : Nat) (o : Oper) : Prop :=
  ∀ (f : Nat → Value) (w : World), f (ops.size - 1) = v0 → I w → (∀ j, waitsOn o j = true → F j (f j) w) → ∀ K : Act → World → Prop, Hid (∀ v a' w', a' = (frame f).put o.dst v → I w' → Below w.heap.size w w' → F i v w' → K a' w') →
    if Region.wanted o (yielded ops (frame f).tmps) = true then Oper.wp P o (frame f) w K Q else K ((frame f).put o.dst undef) w


/-- the one but last: from the facts of all others to the last -/
def MidStep (P : Program) (ops : Array Oper) (Q : Exit → Act → World → Prop) (frame : (Nat → Value) → Act) (I : World → Prop) (F : Nat → Value → World → Prop) (v0 : Value) (i : Nat) (o o' : Oper) : Prop :=
  ∀ (f : Nat → Value) (w : World), f (ops.size - 1) = v0 → I w → (∀ j, j < i → F j (f j) w) → ∀ K : Act → World → Prop, Hid (∀ v a' w', a' = (frame f).put o.dst v → TailStep P ops Q frame (i + 1) o' (upd f i v) w' → K a' w') →
    if Region.wanted o (yielded ops (frame f).tmps) = true then Oper.wp P o (frame f) w K Q else K ((frame f).put o.dst undef) w

def MSteps (P : Program) (ops : Array Oper) (Q : Exit → Act → World → Prop) (frame : (Nat → Value) → Act) (I : World → Prop) (F : Nat → Value → World → Prop) (v0 : Value) : List Oper → Nat → Prop
  | [], _ => True
  | [_], _ => True
  | [o, o'], i => MidStep P ops Q frame I F v0 i o o'
  | o :: o' :: o'' :: l, i => RStepZ P ops Q frame I F v0 i o ∧ MSteps P ops Q frame I F v0 (o' :: o'' :: l) (i + 1)

theorem MSteps.get {P : Program} {ops : Array Oper} {Q : Exit → Act → World → Prop} {frame : (Nat → Value) → Act} {I : World → Prop} {F : Nat → Value → World → Prop} {v0 : Value} : ∀ {l : List Oper} {k : Nat}, MSteps P ops Q frame I F v0 l k → ∀ {i : Nat} {o : Oper}, l[i]? = some o → (i + 2 < l.length → RStepZ P ops Q frame I F v0 (k + i) o) ∧ (i + 2 = l.length → ∀ o', l[i + 1]? = some o' → MidStep P ops Q frame I F v0 (k + i) o o')
  | [], _, _, _, _, h => by simp at h
  | [_], _, h, 0, _, ho => ⟨fun h' => by simp at h', fun h' => by simp at h'⟩
  | [_], _, _, i + 1, _, ho => by simp at ho
  | [_, _], _, h, 0, _, ho => by cases ho; exact ⟨fun h' => by simp at h', fun _ o' ho' => by cases ho'; exact h⟩
  | [_, _], _, h, i + 1, _, ho => ⟨fun h' => by simp only [List.length_cons, List.length_nil] at h'; omega, fun h' => by simp only [List.length_cons, List.length_nil] at h'; omega⟩
  | _ :: _ :: _ :: _, _, h, 0, _, ho => by cases ho; exact ⟨fun _ => h.1, fun h' => by simp at h'⟩
  | _ :: b :: c :: l, k, h, i + 1, o, ho => by
    have := MSteps.get (l := b :: c :: l) h.2 (i := i) (o := o) (by simpa using ho)
    rw [show k + (i + 1) = k + 1 + i from by omega]
    simp only [List.length_cons] at this ⊢
    exact ⟨fun h' => this.1 (by omega), fun h' o' ho' => this.2 (by omega) o' (by simpa using ho')⟩


end Go.Proofs.YtnmhnaanpjlniaaGreat
/-
  Layer 3: the document's bindings in a list: what a number is bound to, and a term walked.
-/
namespace Go.Proofs.YtnmhnaanpjlniaaGreat
open Go.RowKit

/-- bindings that lie in memory -/
def BsLies (w : World) : Nat → Nat → List (Int × Nd) → Prop
  | _, _, [] => True
  | b, o, (v, x) :: l => w.cell? ⟨b, o, none⟩ = some (.int .i64 v) ∧ w.cell? ⟨b, o + 1, none⟩ = some (.int .u8 x.k) ∧ w.cell? ⟨b, o + 2, none⟩ = some (.string x.s) ∧ w.cell? ⟨b, o + 3, none⟩ = some (.int .i64 x.n) ∧ w.cell? ⟨b, o + 4, none⟩ = some (.slice x.p x.kids.len x.c) ∧ Ts.At w x.p x.kids ∧ BsLies w b (o + 5) l

def BsAt (w : World) (p : Option Addr) (l : List (Int × Nd)) : Prop := ∃ b o, (l = [] ∨ p = some ⟨b, o, none⟩) ∧ BsLies w b o l

theorem BsLies.stay {w w' : World} (hc : ∀ b o, b < w.heap.size → w'.cell? ⟨b, o, none⟩ = w.cell? ⟨b, o, none⟩) : ∀ {l : List (Int × Nd)} {b o : Nat}, BsLies w b o l → BsLies w' b o l
  | [], _, _, _ => trivial
  | (v, x) :: l, b, o, ⟨h0, h1, h2, h3, h4, h5, h6⟩ => by
    have hlt : b < w.heap.size := World.block_lt_of_cell? _ _ h0
    exact ⟨(hc _ _ hlt).trans h0, (hc _ _ hlt).trans h1, (hc _ _ hlt).trans h2, (hc _ _ hlt).trans h3, (hc _ _ hlt).trans h4, h5.stay hc, BsLies.stay hc h6⟩

theorem BsAt.below {w w' : World} {p : Option Addr} {l : List (Int × Nd)} (h : BsAt w p l) (hB : Below w.heap.size w w') : BsAt w' p l := by
  obtain ⟨b, o, h1, h2⟩ := h
  exact ⟨b, o, h1, h2.stay (stays hB).1⟩

theorem BsAt.drewN {w : World} {p : Option Addr} {l : List (Int × Nd)} (h : BsAt w p l) (q : Nat) : BsAt (w.drewN q) p l := by
  obtain ⟨b, o, h1, h2⟩ := h
  exact ⟨b, o, h1, BsLies.stay (w := w) (w' := w.drewN q) (fun _ _ _ => rfl) h2⟩

/-- an element -/
structure Bel (b o : Nat) (v : Int) (x : Nd) (w : World) : Prop where
  lt : b < w.heap.size
  c0 : w.cell? ⟨b, o, none⟩ = some (.int .i64 v)
  c1 : w.cell? ⟨b, o + 1, none⟩ = some (.int .u8 x.k)
  c2 : w.cell? ⟨b, o + 2, none⟩ = some (.string x.s)
  c3 : w.cell? ⟨b, o + 3, none⟩ = some (.int .i64 x.n)
  c4 : w.cell? ⟨b, o + 4, none⟩ = some (.slice x.p x.kids.len x.c)
  at_ : Ts.At w x.p x.kids

theorem BsLies.get {w : World} : ∀ {l : List (Int × Nd)} {b o : Nat}, BsLies w b o l → ∀ {j : Nat} {v : Int} {x : Nd}, l[j]? = some (v, x) → Bel b (o + j * 5) v x w
  | [], _, _, _, _, _, _, h => by simp at h
  | (v', x') :: l, b, o, ⟨h0, h1, h2, h3, h4, h5, h6⟩, 0, v, x, h => by
    simp at h
    obtain ⟨rfl, rfl⟩ := h
    simp only [Nat.zero_mul, Nat.add_zero]
    exact ⟨World.block_lt_of_cell? _ _ h0, h0, h1, h2, h3, h4, h5⟩
  | _ :: l, b, o, ⟨_, _, _, _, _, _, h6⟩, j + 1, v, x, h => by
    have := BsLies.get h6 (j := j) (v := v) (x := x) (by simpa using h)
    rw [show o + (j + 1) * 5 = o + 5 + j * 5 from by omega]
    exact this

/-- what a number is bound to: the first in the list -/
def look : List (Int × Nd) → Sb
  | [], _ => none
  | (u, x) :: l, v => if (u == v) = true then some x else look l v





end Go.Proofs.YtnmhnaanpjlniaaGreat
/-
  Layer 3: the document's walked terms: as many steps as there are bindings are enough.
-/
namespace Go.Proofs.YtnmhnaanpjlniaaGreat
open Go.RowKit






end Go.Proofs.YtnmhnaanpjlniaaGreat
/-
  The cells of a list of terms, one behind the other.
-/
namespace Go.Proofs.YtnmhnaanpjlniaaGreat
open Go.RowKit

/-- the cells of a list, one behind the other -/
def cellsL : Ts → List Value
  | .nil => []
  | .cons k s n p c kids rest => .int .u8 k :: .string s :: .int .i64 n :: .slice p kids.len c :: cellsL rest

theorem cellsL_length : ∀ ts : Ts, (cellsL ts).length = ts.len * 4
  | .nil => rfl
  | .cons _ _ _ _ _ _ r => by simp only [cellsL, List.length_cons, cellsL_length r, Ts.len]; omega

theorem cellsL_one : ∀ (ts : Ts), ∀ u ∈ cellsL ts, u.oneCell' = true
  | .nil, u, h => by cases h
  | .cons _ _ _ _ _ _ r, u, h => by
    simp only [cellsL, List.mem_cons] at h
    rcases h with rfl | rfl | rfl | rfl | h
    · rfl
    · rfl
    · rfl
    · rfl
    · exact cellsL_one r u h



theorem row_cells {w : World} {g n size : Nat} {e : TypeId} {cur : Array Value} {xs : List Value} (hg : w.heap[g]? = some (.cells cur e (0, 0))) (ht : cur.toList.take (n * size) = xs) (hl : xs.length = n * size) :
    (∀ j u, xs[j]? = some u → w.cell? ⟨g, 0 + j, none⟩ = some u) ∧ ∀ y, w.frozen? ⟨g, y, none⟩ = false := by
  refine ⟨fun j u hj => ?_, fun y => ?_⟩
  · have hjl : j < n * size := by have := (List.getElem?_eq_some_iff.1 hj).1; omega
    rw [← ht, List.getElem?_take_of_lt hjl, Array.getElem?_toList] at hj
    simp only [World.cell?, hg, Nat.zero_add]
    exact hj
  · simp [World.frozen?, hg]

end Go.Proofs.YtnmhnaanpjlniaaGreat
/-
  Plain facts of lists of terms, one behind the other.
-/
namespace Go.Proofs.YtnmhnaanpjlniaaGreat
open Go.RowKit

/-- one list behind the other -/
def Ts.app : Ts → Ts → Ts
  | .nil, u => u
  | .cons k s n p c kids rest, u => .cons k s n p c kids (rest.app u)



theorem app_len : ∀ t u : Ts, (t.app u).len = t.len + u.len
  | .nil, u => by simp [Ts.app, Ts.len]
  | .cons k s n p c kids rest, u => by simp only [Ts.app, Ts.len, app_len rest u]; omega

theorem cellsL_app : ∀ t u : Ts, cellsL (t.app u) = cellsL t ++ cellsL u
  | .nil, u => rfl
  | .cons k s n p c kids rest, u => by simp only [Ts.app, cellsL, cellsL_app rest u, List.cons_append]


theorem twin_trans : ∀ {t u v : Ts}, Ts.twin t u → Ts.twin u v → Ts.twin t v
  | .nil, .nil, .nil, _, _ => trivial
  | .cons _ _ _ _ _ _ _, .cons _ _ _ _ _ _ _, .cons _ _ _ _ _ _ _, h, h' => ⟨h.1.trans h'.1, h.2.1.trans h'.2.1, h.2.2.1.trans h'.2.2.1, twin_trans h.2.2.2.1 h'.2.2.2.1, twin_trans h.2.2.2.2 h'.2.2.2.2⟩
  | .nil, .cons .., _, h, _ => h.elim
  | .cons .., .nil, _, h, _ => h.elim
  | .nil, .nil, .cons .., _, h => h.elim
  | .cons .., .cons .., .nil, _, h => h.elim

theorem app_ok : ∀ {t u : Ts}, t.ok → u.ok → (t.app u).ok
  | .nil, _, _, h => h
  | .cons _k _s _n _p _c _kids _rest, _, h, h' => ⟨h.1, h.2.1, h.2.2.1, h.2.2.2.1, h.2.2.2.2.1, h.2.2.2.2.2.1, app_ok h.2.2.2.2.2.2 h'⟩

/-- the parts of a list's elements lie where they say -/
def KidsAt (w : World) : Ts → Prop
  | .nil => True
  | .cons _ _ _ p _ kids rest => Ts.At w p kids ∧ KidsAt w rest

theorem KidsAt.below {w w' : World} (hB : Below w.heap.size w w') : ∀ {ts : Ts}, KidsAt w ts → KidsAt w' ts
  | .nil, _ => trivial
  | .cons _ _ _ _ _ _ _, h => ⟨h.1.below hB, KidsAt.below hB h.2⟩

theorem KidsAt.app {w : World} : ∀ {t u : Ts}, KidsAt w t → KidsAt w u → KidsAt w (t.app u)
  | .nil, _, _, h => h
  | .cons _ _ _ _ _ _ _, _, h, h' => ⟨h.1, KidsAt.app h.2 h'⟩

theorem lies_cells {w : World} : ∀ {ts : Ts} {b o : Nat}, (∀ (j : Nat) (u : Value), (cellsL ts)[j]? = some u → w.cell? ⟨b, o + j, none⟩ = some u) → KidsAt w ts → ts.lies w b o
  | .nil, _, _, _, _ => trivial
  | .cons k s n p c kids rest, b, o, h, hk => by
    refine ⟨h 0 _ rfl, h 1 _ rfl, h 2 _ rfl, h 3 _ rfl, hk.1, lies_cells (fun j u hj => ?_) hk.2⟩
    have := h (j + 4) u (by simpa [cellsL] using hj)
    rw [show o + 4 + j = o + (j + 4) from by omega]
    exact this

end Go.Proofs.YtnmhnaanpjlniaaGreat
/-
  Layer 3: a list of terms put behind a row of one's own: the run, the step of a walk.
-/
namespace Go.Proofs.YtnmhnaanpjlniaaGreat
open Go.RowKit




/-- a row of one's own, as a list of terms -/
theorem row_terms {w : World} {base : Nat} {v : Value} {n : Nat} {ts : Ts} (h : w.ownsRow base 25 4 v n (cellsL ts)) (hn : n = ts.len) (hk : KidsAt w ts) : ∃ q c, v = .slice q ts.len c ∧ Ts.At w q ts ∧ (ts.len ≤ c ∧ c ≤ 9223372036854775807) ∧ (q = none → c = 0) ∧ ∀ y, q = some y → base ≤ y.block := by
  subst hn
  rcases h.2 with ⟨rfl, h0⟩ | ⟨g, cap, cur, rfl, hg1, hg2, hg3, hg4, hg5, hg6⟩
  · have := Ts.len_zero h0
    subst this
    exact ⟨none, 0, rfl, ⟨0, 0, .inl rfl, trivial⟩, ⟨by simp [Ts.len], by omega⟩, fun _ => rfl, fun y hy => by cases hy⟩
  · obtain ⟨hrow, _⟩ := row_cells hg2 hg6 (cellsL_length ts)
    have : cap ≤ 9223372036854775807 := by unfold maxLen at hg4; omega
    exact ⟨some ⟨g, 0, none⟩, cap, rfl, ⟨g, 0, .inr rfl, lies_cells hrow hk⟩, ⟨hg3, this⟩, (fun h => by cases h), fun y hy => by cases hy; exact hg1⟩

/-- the list's elements' parts -/
theorem kidsAt_lies {w : World} : ∀ {ts : Ts} {b o : Nat}, ts.lies w b o → KidsAt w ts
  | .nil, _, _, _ => trivial
  | .cons _ _ _ _ _ _ _, _, _, ⟨_, _, _, _, h, h'⟩ => ⟨h, kidsAt_lies h'⟩

theorem kidsAt_at {w : World} {p : Option Addr} {ts : Ts} (h : Ts.At w p ts) : KidsAt w ts := by
  obtain ⟨b, o, _, h⟩ := h
  exact kidsAt_lies h

end Go.Proofs.YtnmhnaanpjlniaaGreat
/-
  Layer 3: the document's nodes: how many are visited, and where a variable is first visited: plain facts.
-/
namespace Go.Proofs.YtnmhnaanpjlniaaGreat
open Go.RowKit

/-- where a variable is first visited, counted from 1 on; -1: it is not -/
def posA (v : Int) : Nat → List Nd → Int
  | _, [] => -1
  | i, x :: l => if ((x.k == 1) && (x.n == v)) = true then ((i + 1 : Nat) : Int) else posA v (i + 1) l

theorem posA_le (v : Int) : ∀ (l : List Nd) (i : Nat), -1 ≤ posA v i l ∧ posA v i l ≤ ((i + l.length : Nat) : Int)
  | [], i => by simp only [posA, List.length_nil]; omega
  | x :: l, i => by
    simp only [posA, List.length_cons]
    split
    · omega
    · have := posA_le v l (i + 1); omega

theorem posA_app (v : Int) (x : Nd) : ∀ (l : List Nd) (i : Nat), posA v i (l ++ [x]) = if posA v i l < 0 then (if ((x.k == 1) && (x.n == v)) = true then ((i + l.length + 1 : Nat) : Int) else -1) else posA v i l
  | [], i => by simp [posA]
  | y :: l, i => by
    simp only [List.cons_append, posA, List.length_cons]
    split
    · rw [if_neg (by omega)]
    · rw [posA_app v x l (i + 1), show i + 1 + l.length + 1 = i + (l.length + 1) + 1 by omega]

/-- the two ways of telling -/
theorem occ_pos (v : Int) : ∀ (l : List Nd) (i : Nat), i + l.length ≤ 4097 → i ≤ 4096 →
    occ v (num i l) = if 0 ≤ posA v i l ∧ posA v i l ≤ 4096 then (true, 0) else if 4096 < i + l.length then (false, 31) else (false, 0)
  | [], i, _, h => by
    have hp : posA v i [] = -1 := rfl
    rw [hp, if_neg (by omega), if_neg (by simp only [List.length_nil]; omega)]
    rfl
  | x :: l, i, h, h' => by
    simp only [List.length_cons] at h ⊢
    have ih := occ_pos v l (i + 1)
    have hb := posA_le v l (i + 1)
    have e1 : posA v i (x :: l) = if ((x.k == 1) && (x.n == v)) = true then ((i + 1 : Nat) : Int) else posA v (i + 1) l := rfl
    have e2 : occ v (num i (x :: l)) = if 4096 < i + 1 then (false, 31) else if ((x.k == 1) && (x.n == v)) = true then (true, 0) else occ v (num (i + 1) l) := rfl
    rw [e1, e2]
    have e3 : posA v (i + 1) [] = -1 := rfl
    generalize posA v i (x :: l) = z at *
    by_cases h1 : 4096 < i + 1
    · rw [if_pos h1]
      have hl : l = [] := List.eq_nil_of_length_eq_zero (by omega)
      subst hl
      rw [e3]
      by_cases h2 : ((x.k == 1) && (x.n == v)) = true
      · rw [if_pos h2, if_neg (by omega), if_pos (by simp only [List.length_nil]; omega)]
      · rw [if_neg h2, if_neg (by omega), if_pos (by simp only [List.length_nil]; omega)]
    · rw [if_neg h1]
      by_cases h2 : ((x.k == 1) && (x.n == v)) = true
      · rw [if_pos h2, if_pos h2, if_pos (by omega)]
      · rw [if_neg h2, if_neg h2, ih (by omega) (by omega), show i + 1 + l.length = i + (l.length + 1) by omega]

theorem elems_small : ∀ {ts : Ts} {x : Nd}, x ∈ elems ts → x.kids.size < ts.size
  | .nil, _, h => by simp [elems] at h
  | .cons k s n p c kids rest, x, h => by
    simp only [elems, List.mem_cons] at h
    simp only [Ts.size]
    rcases h with rfl | h
    · simp only; omega
    · have := elems_small h; omega

theorem elems_app : ∀ t u : Ts, elems (t.app u) = elems t ++ elems u
  | .nil, _ => rfl
  | .cons k s n p c kids rest, u => by simp only [Ts.app, elems, elems_app rest u, List.cons_append]

theorem own_below {w w' : World} {base n size : Nat} {e : TypeId} {v : Value} {xs : List Value} (h : w.ownsRow base e size v n xs) (hB : Below w.heap.size w w') : w'.ownsRow base e size v n xs :=
  h.kept (row := none) ⟨hB.os, hB.tape, hB.output, hB.size, fun k hk _ => hB.block k hk⟩ (by cases v.ownBlock <;> simp)

/-- a list of terms that is still to be visited -/
structure Td (q : Option Addr) (c : Nat) (td : Ts) (w : World) : Prop where
  at_ : Ts.At w q td
  ok : td.ok
  sm : ∀ x ∈ elems td, x.kids.size ≤ 5000
  cap : td.len ≤ c ∧ c ≤ 9223372036854775807
  nn : q = none → c = 0

theorem Td.below {q : Option Addr} {c : Nat} {td : Ts} {w w' : World} (h : Td q c td w) (hB : Below w.heap.size w w') : Td q c td w' := ⟨h.at_.below hB, h.ok, h.sm, h.cap, h.nn⟩




/-- the first that is to be visited, and the others -/
theorem Td.head {q : Option Addr} {c : Nat} {k : Int} {s : ByteArray} {n : Int} {p : Option Addr} {d : Nat} {kids rest : Ts} {w : World} (h : Td q c (.cons k s n p d kids rest) w) : ∃ b o, q = some ⟨b, o, none⟩ ∧ b < w.heap.size ∧
    (w.cell? ⟨b, o, none⟩ = some (.int .u8 k) ∧ w.cell? ⟨b, o + 1, none⟩ = some (.string s) ∧ w.cell? ⟨b, o + 2, none⟩ = some (.int .i64 n) ∧ w.cell? ⟨b, o + 3, none⟩ = some (.slice p kids.len d)) ∧
    Nd.ok ⟨k, s, n, p, d, kids⟩ ∧ kids.size ≤ 5000 ∧ Ts.At w p kids ∧ ∃ q', (if c = 1 then some (⟨b, o, none⟩ : Addr) else some ⟨b, o + 4, none⟩) = q' ∧ Td q' (c - 1) rest w := by
  obtain ⟨b, o, h1, h2⟩ := h.at_
  obtain ⟨c0, c1, c2, c3, hk, hr⟩ := h2
  have hq : q = some ⟨b, o, none⟩ := by
    rcases h1 with h1 | h1
    · cases h1
    · exact h1
  obtain ⟨o1, o2, o3, o4, o5, o6, o7⟩ := h.ok
  have hcap := h.cap
  simp only [Ts.len] at hcap
  refine ⟨b, o, hq, World.block_lt_of_cell? _ _ c0, ⟨c0, c1, c2, c3⟩, ⟨o1, o2, o3, o4, o5, o6, trivial⟩, h.sm ⟨k, s, n, p, d, kids⟩ (by simp [elems]), hk, _, rfl, ?_, o7, fun x hx => h.sm x (by simp [elems, hx]), ⟨by omega, by omega⟩, fun hn => ?_⟩
  · by_cases e : c = 1
    · have : rest = .nil := Ts.len_zero (by omega)
      subst this
      exact ⟨0, 0, .inl rfl, trivial⟩
    · rw [if_neg e]
      exact ⟨b, o + 4, .inr rfl, hr⟩
  · split at hn <;> cases hn

/-- what is to be visited next -/
theorem Td.next {w : World} {base : Nat} {v : Value} {n : Nat} {xk rest : Ts} {q : Option Addr} {c : Nat} (h : w.ownsRow base 25 4 v n (cellsL xk ++ cellsL rest)) (hn : n = xk.len + rest.len) (hx : Ts.At w q xk) (hok : xk.ok) (hsz : xk.size ≤ 5000) {q' : Option Addr} (hr : Td q' c rest w) :
    ∃ q'' c'', v = .slice q'' (xk.app rest).len c'' ∧ Td q'' c'' (xk.app rest) w := by
  rw [← cellsL_app] at h
  obtain ⟨q'', c'', h1, h2, h3, h4, _⟩ := row_terms h (by rw [hn, app_len]) ((kidsAt_at hx).app (kidsAt_at hr.at_))
  refine ⟨q'', c'', h1, h2, app_ok hok hr.ok, fun x hm => ?_, h3, h4⟩
  rw [elems_app, List.mem_append] at hm
  rcases hm with hm | hm
  · have := elems_small hm; omega
  · exact hr.sm x hm

end Go.Proofs.YtnmhnaanpjlniaaGreat
/-
  Whether terms are too great, as a Boolean that is known.
-/
namespace Go.Proofs.YtnmhnaanpjlniaaGreat
open Go.RowKit

theorem great_is (ts : Ts) (hok : ts.ok) (b : Bool) (hb : decide (1000 < manyP ts 0) = b) (w : World) (p : Option Addr) (c : Nat) (hat : Ts.At w p ts) (hl : ts.len ≤ 9223372036854775807) :
    Calls Tryz.prog 22 #[.slice p ts.len c] w fun e w' => e = .returned (.bool b) ∧ Below w.heap.size w w' := by
  subst hb
  refine (great_any ts w p c hat hok hl).mono ?_
  rintro e w' ⟨rfl, q, rfl⟩
  exact ⟨rfl, below_drewN (Below.refl _ _) q⟩

end Go.Proofs.YtnmhnaanpjlniaaGreat
/-
  Layer 3: whether bindings and a term are too great.
-/
namespace Go.Proofs.YtnmhnaanpjlniaaGreat
open Go.RowKit

/-- the terms that are bound -/
def bsTs : List (Int × Nd) → Ts
  | [] => .nil
  | (_, x) :: l => .cons x.k x.s x.n x.p x.c x.kids (bsTs l)

theorem bsTs_len : ∀ l : List (Int × Nd), (bsTs l).len = l.length
  | [] => rfl
  | (_, _) :: l => by simp only [bsTs, Ts.len, List.length_cons, bsTs_len l]

theorem bsTs_app : ∀ l m : List (Int × Nd), bsTs (l ++ m) = (bsTs l).app (bsTs m)
  | [], _ => rfl
  | (_, x) :: l, m => by simp only [List.cons_append, bsTs, Ts.app, bsTs_app l m]

theorem BsLies.kids {w : World} : ∀ {l : List (Int × Nd)} {b o : Nat}, BsLies w b o l → KidsAt w (bsTs l)
  | [], _, _, _ => trivial
  | (_, _) :: _, _, _, ⟨_, _, _, _, _, h, h'⟩ => ⟨h, BsLies.kids h'⟩

theorem BsAt.kids {w : World} {p : Option Addr} {l : List (Int × Nd)} (h : BsAt w p l) : KidsAt w (bsTs l) := by
  obtain ⟨b, o, _, h⟩ := h
  exact h.kids

/-- more than forty bindings, or a thousand nodes -/
def bGreat (l : List (Int × Nd)) (t : Nd) : Bool := if 40 < l.length then true else decide (1000 < manyP (.cons t.k t.s t.n t.p t.c t.kids (bsTs l)) 0)


set_option maxRecDepth 100000 in
set_option maxHeartbeats 4000000 in
theorem bgreat_any (l : List (Int × Nd)) (t : Nd) (hl63 : l.length ≤ 9223372036854775807) (hbok : (bsTs l).ok) (w : World) (lp : Option Addr) (lc : Nat) (hat : BsAt w lp l) (hok : t.ok) (htat : Ts.At w t.p t.kids) :
    Calls Tryz.prog 8 #[.slice lp l.length lc, .agg #[.int .u8 t.k, .string t.s, .int .i64 t.n, .slice t.p t.kids.len t.c]] w fun e w' => e = .returned (.bool (bGreat l t)) ∧ Below w.heap.size w w' := by
  by_cases h40 : 40 < l.length
  · have R := Lib.hid (by unfold bGreat; rw [if_pos h40] : bGreat l t = true)
    clear hbok hat hok htat
    go_enter Tryz.func8, Tryz.ntmps8
    go_wp2
    go_ret
    exact ⟨by rw [R.out]; rfl, (Below.refl _ _).alloc (Nat.le_refl _) _⟩
  · obtain ⟨g, hg⟩ : ∃ g, g = decide (1000 < manyP (.cons t.k t.s t.n t.p t.c t.kids (bsTs l)) 0) := ⟨_, rfl⟩
    have R := Lib.hid (by unfold bGreat; rw [if_neg h40, hg] : bGreat l t = g)
    have HG := Lib.hid hg
    obtain ⟨b, o, hp, hlies⟩ := hat
    have HP := Lib.hid hp
    have LI := Lib.hid hlies
    have BOK := Lib.hid hbok
    have OK := Lib.hid hok
    have TAT := Lib.hid htat
    obtain ⟨i0, hi, hz0, hz1, hz2⟩ := info_parts infoTerm
    clear hg hp hlies hbok hok htat
    go_enter Tryz.func8, Tryz.ntmps8
    go_wp2_with fail
    obtain ⟨W0, hW0⟩ : ∃ W0, W0 = (w.alloc (.cells #[.int .u8 t.k, .string t.s, .int .i64 t.n, .slice t.p t.kids.len t.c] 25)).alloc (.cells #[.int .u8 t.k, .string t.s, .int .i64 t.n, .slice t.p t.kids.len t.c] 25) := ⟨_, rfl⟩
    rw [← hW0]
    have hB0 : Below w.heap.size w W0 := by rw [hW0]; exact below2 _ _ _
    have hrow0 : W0.ownsRow w.heap.size 25 4 (.slice (some ⟨w.heap.size + 1, 0, none⟩) 1 1) (0 + 1) (cellsL (.cons t.k t.s t.n t.p t.c t.kids (bsTs (l.take 0)))) := by
      refine ⟨rfl, .inr ⟨w.heap.size + 1, 1, #[.int .u8 t.k, .string t.s, .int .i64 t.n, .slice t.p t.kids.len t.c], rfl, by omega, ?_, by omega, by decide, rfl, rfl⟩⟩
      rw [hW0]
      have h := World.size_alloc w (.cells #[.int .u8 t.k, .string t.s, .int .i64 t.n, .slice t.p t.kids.len t.c] 25)
      rw [← h]
      exact heap_alloc_new _ _
    have BB0 := Lib.hid hB0
    clear hB0 hW0
    go_loopw [5, 6] (fun s5 s6 wr => ∃ j : Nat, j ≤ l.length ∧ s6 = .int .i64 j ∧ wr.ownsRow w.heap.size 25 4 s5 (j + 1) (cellsL (.cons t.k t.s t.n t.p t.c t.kids (bsTs (l.take j)))) ∧ Hid (Below w.heap.size w wr)) (fun _ i _ => l.length - (intOf i).toNat)
    case atStart => exact ⟨0, by omega, rfl, hrow0, BB0⟩
    case round =>
      obtain ⟨j, hj, rfl, hrow, BB⟩ := hrel
      have RW := Lib.hid hrow
      clear hrow hrow0
      by_cases hlt : j < l.length
      · have hpp : lp = some ⟨b, o, none⟩ := by
          rcases HP.out with h | h
          · rw [h] at hlt; simp at hlt
          · exact h
        subst hpp
        obtain ⟨⟨u, x⟩, hux⟩ : ∃ ux, l[j]? = some ux := ⟨_, List.getElem?_eq_getElem hlt⟩
        have EL := (LI.out.stay (stays BB.out).1).get hux
        have c1 := EL.c1
        have c2 := EL.c2
        have c3 := EL.c3
        have c4 := EL.c4
        obtain ⟨U, hU⟩ : ∃ U : Ts, U = .cons x.k x.s x.n x.p x.c x.kids .nil := ⟨_, rfl⟩
        have htk : (Ts.cons t.k t.s t.n t.p t.c t.kids (bsTs (l.take (j + 1)))) = (Ts.cons t.k t.s t.n t.p t.c t.kids (bsTs (l.take j))).app U := by
          have h := List.getElem?_eq_some_iff.1 hux
          rw [List.take_add_one, hux, Option.toList, bsTs_app, hU]
          rfl
        have HT := Lib.hid htk
        have hU1 : U.len = 1 := by rw [hU]; rfl
        have hcu : (cellsL U).length = 1 * 4 := by rw [cellsL_length, hU1]
        have hnews : ∀ i v, (cellsL U)[i]? = some v → (wr.alloc (.cells #[.int .u8 x.k, .string x.s, .int .i64 x.n, .slice x.p x.kids.len x.c] 25)).cell? ((⟨wr.heap.size, 0, none⟩ : Addr).add i) = some v := by
          obtain ⟨W6, hW6, hs6, hB6, hc6, -⟩ := alloc_new wr #[.int .u8 x.k, .string x.s, .int .i64 x.n, .slice x.p x.kids.len x.c] 25
          intro i v hiv
          rw [Go.WideShapes.add_plain, Nat.zero_add, ← hW6]
          refine hc6 i v ?_
          rw [hU] at hiv
          simpa [cellsL] using hiv
        have hBs := BB.out.size
        have hwl := BB.out
        have hown0 := RW.out.alloc (.cells #[.int .u8 x.k, .string x.s, .int .i64 x.n, .slice x.p x.kids.len x.c] 25)
        have O0 := Lib.hid hown0
        have N0 := Lib.hid hnews
        have U1 := Lib.hid hU1
        have CU := Lib.hid hcu
        clear EL hux htk hU hU1 hcu hnews hown0 hwl
        go_wp2_with (at_builtin; refine wpList_append_own_at _ rfl _ _ 23 rfl w.heap.size 25 i0 zeroTerm 4 56 Tryz.underlying23 hi hz0 hz1 hz2 rfl (by decide) _ _ _ rfl O0.out ⟨wr.heap.size, 0, none⟩ 1 1 (cellsL U) rfl CU.out N0.out (cellsL_one U) (by unfold maxLen; omega) (by omega) (by simp; omega) ?_; intro v5 W7 hown2 hgrow2 hnil hob; have X := Lib.hid (And.intro hown2 hgrow2); clear hown2 hgrow2 hnil hob)
        have BW7 := Lib.hid ((BB.out.alloc hBs (.cells #[.int .u8 x.k, .string x.s, .int .i64 x.n, .slice x.p x.kids.len x.c] 25)).grown X.out.2 (by simp; omega) (fun q' hq' => (RW.out.lt q' hq').1))
        go_roundw
        case rel =>
          refine ⟨j + 1, by omega, by go_num, ?_, BW7⟩
          rw [HT.out, cellsL_app]
          exact X.out.1
        case measure => simp [intOf]; omega
      · obtain rfl : j = l.length := by omega
        have hrow := RW.out
        rw [List.take_length] at hrow
        obtain ⟨q, cc, rfl, h2, h3, h4, _⟩ := row_terms hrow (by simp only [Ts.len, bsTs_len]) ⟨TAT.out.below BB.out, (BsAt.kids (p := some ⟨b, o, none⟩) ⟨b, o, .inr rfl, LI.out.stay (stays BB.out).1⟩)⟩
        have A2 := Lib.hid h2
        clear hrow h2 h3 h4 RW
        go_wp2_with fail
        refine (great_is (.cons t.k t.s t.n t.p t.c t.kids (bsTs l)) ⟨OK.out.1, OK.out.2.1, OK.out.2.2.1, OK.out.2.2.2.1, OK.out.2.2.2.2.1, OK.out.2.2.2.2.2.1, BOK.out⟩ g HG.out.symm wr q cc A2.out (by simp only [Ts.len, bsTs_len]; omega)).mono ?_
        rintro e w8 ⟨rfl, hB⟩
        have B8 := Lib.hid (BB.out.trans (hB.mono BB.out.size))
        clear hB
        go_wp2
        go_ret
        exact ⟨by rw [R.out]; rfl, B8.out⟩

end Go.Proofs.YtnmhnaanpjlniaaGreat
