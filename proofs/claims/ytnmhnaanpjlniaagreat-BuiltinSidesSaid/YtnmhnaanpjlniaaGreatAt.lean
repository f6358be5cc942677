import Derived.Test.YtnmhnaanpjlniaaGreatXf0
import Derived.Test.YtnmhnaanpjlniaaGreatTa
import Derived.Test.YtnmhnaanpjlniaaGreatAm
import Derived.WalkKit
import Derived.WalkSpells
import Derived.WalkSmall
import Derived.Deep.QuietTactic
import Derived.BigQuiet
import Derived.Deep.RegionWith
import Derived.Defers
import Derived.Recover
import Derived.Test.YtnmhnaanpjlniaaGreatAh
import Derived.Test.YtnmhnaanpjlniaaGreatAk
import Derived.Test.YtnmhnaanpjlniaaGreatXa
import Derived.Laws.AppendOwnNone
/-
  Eval: the deferred function, and what Eval answers for two numbers, for an atom, and for an unbound variable.
-/
namespace Go.Proofs.YtnmhnaanpjlniaaGreat
open Go.RowKit

/-- the reckoner's own block -/
structure Rk (w : World) (b : Nat) (s : Addr) (m : Nat) (k : Int) : Prop where
  blk : w.heap[b]? = some (.cells #[.pointer (some s), .map (some m), .int .i64 k] 152 (0, 0))

theorem Rk.lt {w : World} {b : Nat} {s : Addr} {m : Nat} {k : Int} (h : Rk w b s m k) : b < w.heap.size := (Array.getElem?_eq_some_iff.1 h.blk).1
theorem Rk.subst {w : World} {b : Nat} {s : Addr} {m : Nat} {k : Int} (h : Rk w b s m k) : w.cell? ⟨b, 0, none⟩ = some (.pointer (some s)) := by simp [World.cell?, h.blk]
theorem Rk.by_ {w : World} {b : Nat} {s : Addr} {m : Nat} {k : Int} (h : Rk w b s m k) : w.cell? ⟨b, 1, none⟩ = some (.map (some m)) := by simp [World.cell?, h.blk]
theorem Rk.nodes {w : World} {b : Nat} {s : Addr} {m : Nat} {k : Int} (h : Rk w b s m k) : w.cell? ⟨b, 2, none⟩ = some (.int .i64 k) := by simp [World.cell?, h.blk]
theorem Rk.free {w : World} {b : Nat} {s : Addr} {m : Nat} {k : Int} (h : Rk w b s m k) : w.frozen? ⟨b, 2, none⟩ = false := by simp [World.frozen?, h.blk]
theorem Rk.put {w : World} {b : Nat} {s : Addr} {m : Nat} {k : Int} (h : Rk w b s m k) (k' : Int) : Rk (w.setCell ⟨b, 2, none⟩ (.int .i64 k')) b s m k' := by
  refine ⟨?_⟩
  simp only [World.setCell, Array.getElem?_modify, if_pos, h.blk]
  rfl
theorem Rk.below {w w' : World} {b : Nat} {s : Addr} {m : Nat} {k : Int} (h : Rk w b s m k) (hB : Below w.heap.size w w') : Rk w' b s m k := ⟨(hB.block b h.lt).trans h.blk⟩

set_option maxHeartbeats 1000000 in
/-- the deferred function, a number of an error being thrown -/
theorem catch_thrown (bn be : Nat) (n : Int) (w : World) (v0 : Int) (e0 : Int) (_hne : bn ≠ be)
    (c0 : w.cell? ⟨bn, 0, none⟩ = some (.int .i64 v0)) (f0 : w.frozen? ⟨bn, 0, none⟩ = false) (c1 : w.cell? ⟨be, 0, none⟩ = some (.int .i64 e0)) (f1 : w.frozen? ⟨be, 0, none⟩ = false) :
    CallsD Tryz.prog 123 #[.pointer (some ⟨bn, 0, none⟩), .pointer (some ⟨be, 0, none⟩)] (.panicking ({ v := .iface 35 (.int .i64 n), recovered := false } :: [])) w fun e u' w' =>
      e = .returned (.tuple #[]) ∧ u' = .panicking ({ v := .iface 35 (.int .i64 n), recovered := true } :: []) ∧ w' = (w.setCell ⟨bn, 0, none⟩ (.int .i64 0)).setCell ⟨be, 0, none⟩ (.int .i64 n) := by
  have hta : ∀ w : World, (Instr.typeAssert (.iface 35 (.int .i64 n)) 20 35 true).run Tryz.prog w = .ok (.tuple #[.int .i64 n, .bool true]) w := fun _ => by kernel_rfl
  refine callsD_of_wpS Tryz.func123 rfl fun c₀ cs hu => ?_
  apply wpS_seq
  apply wpS_region
  simp [wpOpsS, go_sem, recoverD, hu, Tryz.ntmps123, Exit.thenS, hta]
  apply wpS_seq
  apply wpS_region
  simp [wpOpsS, go_sem, Exit.thenS]
  refine wpS_cond (t := true) (by simp [Act.eval, Array.replicate]) ?_
  simp only [if_true]
  apply wpS_region
  simp [wpOpsS, go_sem, c0, f0, c1, f1, bodyPostS, results, Tryz.results123]

set_option maxHeartbeats 1000000 in
/-- the deferred function, nothing being thrown -/
theorem catch_idle (bn be : Nat) (w : World) :
    CallsD Tryz.prog 123 #[.pointer (some ⟨bn, 0, none⟩), .pointer (some ⟨be, 0, none⟩)] .returning w fun e u' w' =>
      e = .returned (.tuple #[]) ∧ u' = .returning ∧ w' = w := by
  have hta : ∀ w : World, (Instr.typeAssert .nilIface 20 35 true).run Tryz.prog w = .ok (.tuple #[.int .i64 0, .bool false]) w := fun _ => by kernel_rfl
  refine callsD_of_wpS Tryz.func123 rfl fun c₀ cs hu => ?_
  apply wpS_seq
  apply wpS_region
  simp [wpOpsS, go_sem, recoverD, hu, Tryz.ntmps123, Exit.thenS, hta]
  apply wpS_seq
  apply wpS_region
  simp [wpOpsS, go_sem, Exit.thenS]
  refine wpS_cond (t := false) (by simp [Act.eval, Array.replicate]) ?_
  simp only [Bool.false_eq_true, if_false]
  refine wpS_of_wp (wp_skip ?_)
  cases c₀
  simp_all [bodyPostS, results, Tryz.results123]

set_option maxHeartbeats 1000000 in
/-- Eval, by what the reckoner comes to -/
theorem eval_any (t0 t1 t2 t3 : Value) (w : World) (s : Addr) (R : Int × Int)
    (hrec : ∀ (W : World) (b m : Nat), Below w.heap.size w W → w.heap.size ≤ m → m < b → Rk W b s m 0 → OpInv m 0 (fun _ => true) W →
      Calls Tryz.prog 125 #[.pointer (some ⟨b, 0, none⟩), .agg #[t0, t1, t2, t3]] W fun e w' => e = endsAs R ∧ Below b W w') :
    Calls Tryz.prog 111 #[.pointer (some s), .agg #[t0, t1, t2, t3]] w fun e w' =>
      e = .returned (.tuple #[.int .i64 (if R.2 = 0 then R.1 else 0), .int .i64 R.2]) ∧ Below w.heap.size w w' := by
  have hmf : ∀ (fn : Fn) (first cap : Array Value) (w : World), (Instr.makeFunc fn first cap).run Tryz.prog w = .ok (.func fn first cap) w := fun _ _ _ _ => rfl
  have HR := Lib.hid hrec
  clear hrec
  go_enter_defers Tryz.func111, Tryz.ntmps111
  go_wp2_with fail
  refine (operators_any _).mono ?_
  rintro e w1 ⟨rfl, hB, hO⟩
  obtain ⟨hc, hf⟩ := stays hB
  have hlt : w.heap.size + 3 < w1.heap.size := by
    obtain ⟨D, n, hown, _⟩ := hO.has
    have := hown.lt
    simpa using this
  have hz0 : w.heap.size < w1.heap.size := by omega
  have hz1 : w.heap.size + 1 < w1.heap.size := by omega
  have hz2 : w.heap.size + 1 + 1 < w1.heap.size := by omega
  have HO := Lib.hid hO
  clear hO
  go_wp2_with fail
  have hm : (((w.alloc (Obj.cells #[t0, t1, t2, t3] 25)).alloc (Obj.cells #[Value.int IntKind.i64 0] 2)).alloc (Obj.cells #[Value.int IntKind.i64 0] 35)).heap.size = w.heap.size + 1 + 1 + 1 := by simp
  rw [hm] at HO
  have B1 : Below w.heap.size w w1 := ((((Below.refl _ _).alloc (Nat.le_refl _) _).alloc (by simp) _).alloc (by simp; omega) _).trans (hB.mono (by simp; omega))
  refine (HR.out _ w1.heap.size (w.heap.size + 1 + 1 + 1) ?_ ?_ ?_ ?_ ?_).mono ?_
  · exact B1.alloc (by omega) _
  · omega
  · omega
  · exact ⟨by show (Array.push _ _)[w1.heap.size]? = _; rw [Array.getElem?_push_size]⟩
  · exact HO.out.same (Below.heap_alloc _ _ _ (by omega))
  rintro e w2 ⟨rfl, hB2⟩
  have B2 : Below w.heap.size w w2 := (B1.alloc (by omega) _).trans (hB2.mono (by omega))
  have hc2 : ∀ b o, b < w1.heap.size → w2.cell? ⟨b, o, none⟩ = w1.cell? ⟨b, o, none⟩ := fun b o hb => (hB2.cell (p := ⟨b, o, none⟩) hb).trans (World.cell?_alloc_past _ _ _ hb)
  have hf2 : ∀ b o, b < w1.heap.size → w2.frozen? ⟨b, o, none⟩ = w1.frozen? ⟨b, o, none⟩ := fun b o hb => (hB2.frozen (p := ⟨b, o, none⟩) hb).trans (World.frozen?_alloc_past _ _ _ hb)
  have hs2 : w1.heap.size < w2.heap.size := by have := hB2.size; simp at this; omega
  by_cases hR : R.2 = 0
  · rw [show endsAs R = .returned (.int .i64 R.1) from if_pos hR]
    go_wp2
    refine leaves_cons (f := 123) (args := #[.pointer (some ⟨w.heap.size + 1, 0, none⟩), .pointer (some ⟨w.heap.size + 1 + 1, 0, none⟩)]) (by simp) (by simp [go_sem]) ?_
    refine (catch_idle (w.heap.size + 1) (w.heap.size + 1 + 1) _).mono ?_
    rintro e u' w3 ⟨rfl, rfl, rfl⟩
    simp [Leaves, settle, results, Tryz.results111, go_sem, hc2, hz1, hz2, hc]
    repeat (first | exact B2 | refine Below.setCell (p := ⟨w.heap.size + 1, _, none⟩) ?_ (by simp) _ | refine Below.setCell (p := ⟨w.heap.size + 1 + 1, _, none⟩) ?_ (by simp; omega) _)
  · rw [show endsAs R = .panicked (thrown R.2) from if_neg hR]
    refine leaves_cons (f := 123) (args := #[.pointer (some ⟨w.heap.size + 1, 0, none⟩), .pointer (some ⟨w.heap.size + 1 + 1, 0, none⟩)]) (by simp) (by simp [go_sem]) ?_
    refine (catch_thrown (w.heap.size + 1) (w.heap.size + 1 + 1) R.2 _ 0 0 (by omega) ?_ ?_ ?_ ?_).mono ?_
    · simp [go_sem, hc2, hz1, hc]
    · simp [go_sem, hf2, hz1, hf]
    · simp [go_sem, hc2, hz2, hc]
    · simp [go_sem, hf2, hz2, hf]
    rintro e u' w3 ⟨rfl, rfl, rfl⟩
    simp [Leaves, settle, results, Tryz.results111, go_sem, hc2, hz1, hz2, hc]
    refine ⟨fun h => absurd h hR, ?_⟩
    repeat (first | exact B2 | refine Below.setCell (p := ⟨w.heap.size + 1, _, none⟩) ?_ (by simp) _ | refine Below.setCell (p := ⟨w.heap.size + 1 + 1, _, none⟩) ?_ (by simp; omega) _)

end Go.Proofs.YtnmhnaanpjlniaaGreat
/-
  A law for a region that draws its order and whose last two operations stand one behind the other: the one but last may write; each of the others leaves a fact that no growth of memory takes away.
-/
namespace Go.Proofs.YtnmhnaanpjlniaaGreat
open Go.RowKit

/-- each operation but the last two is waited for by one of those up to the one but last, and the last waits for the one but last -/
def sinkB2 (ops : Array Oper) : Bool := ((List.range (ops.size - 2)).all fun j => (List.range (ops.size - 1)).any fun k => decide (j < k) && ((ops[k]?.map fun o => waitsOn o j).getD false)) && ((ops[ops.size - 1]?.map fun o => waitsOn o (ops.size - 2)).getD false)

theorem sink_all2 {ops : Array Oper} (h : sinkB2 ops = true) {L : Nat → Bool} (hcl : ∀ (i : Nat) (o : Oper), ops[i]? = some o → (L i = true ∨ i = ops.size - 2) → ∀ j, waitsOn o j = true → L j = true) : ∀ (d j : Nat), j + d = ops.size - 2 → j < ops.size - 2 → L j = true := by
  intro d
  induction d using Nat.strongRecOn with
  | ind d ih =>
    intro j hj hlt
    simp only [sinkB2, Bool.and_eq_true, List.all_eq_true, List.mem_range, List.any_eq_true, decide_eq_true_eq] at h
    obtain ⟨k, hk, hjk, hw⟩ := h.1 j hlt
    cases ho : ops[k]? with
    | none => rw [ho] at hw; cases hw
    | some o =>
      rw [ho] at hw
      by_cases e : k = ops.size - 2
      · exact hcl k o ho (.inr e) j hw
      · exact hcl k o ho (.inl (ih (ops.size - 2 - k) (by omega) k (by omega) (by omega))) j hw

/-- the last operation, from what stands -/
def TailStep (P : Program) (ops : Array Oper) (Q : Exit → Act → World → Prop) (frame : (Nat → Value) → Act) (i : Nat) (o : Oper) (f : Nat → Value) (w : World) : Prop :=
  ∀ K : Act → World → Prop, Hid (∀ v a' w', a' = (frame f).put o.dst v → Q .normal (frame (upd f i v)) w' → K a' w') →
    if Region.wanted o (yielded ops (frame f).tmps) = true then Oper.wp P o (frame f) w K Q else K ((frame f).put o.dst undef) w

/-- an operation before the last two: as 'RStep', and the last one's slot is still as it was -/
def RStepZ (P : Program) (ops : Array Oper) (Q : Exit → Act → World → Prop) (frame : (Nat → Value) → Act) (I : World → Prop) (F : Nat → Value → World → Prop) (v0 : Value) (i : Nat) (o : Oper) : Prop :=
  ∀ (f : Nat → Value) (w : World), f (ops.size - 1) = v0 → I w → (∀ j, waitsOn o j = true → F j (f j) w) → ∀ K : Act → World → Prop, Hid (∀ v a' w', a' = (frame f).put o.dst v → I w' → Below w.heap.size w w' → F i v w' → K a' w') →
    if Region.wanted o (yielded ops (frame f).tmps) = true then Oper.wp P o (frame f) w K Q else K ((frame f).put o.dst undef) w

/-- 'region_by_inv' from the slots as they are -/
theorem region_by_inv0 {P : Program} {ops : Array Oper} {Q : Exit → Act → World → Prop} {id : Nat} {a : Act} {w : World} (G : (Nat → Bool) → (Nat → Value) → World → Prop) (hm : P.follows .mixedOrders = true) (hdag : dagB ops.toList 0 = true) (hap : apartB ops.toList = true)
    (h0 : G (fun _ => false) (fun j => slotOf a ((ops[j]?).bind (·.dst))) w.drew) (hstep : GSteps P ops Q (frameOf a ops.toList 0) G ops.toList 0)
    (hdone : ∀ L f w, (∀ j, j < ops.size → L j = true) → G L f w → Q .normal (frameOf a ops.toList 0 f) w) : (Code.region id ops true).wp P Q a w := by
  rw [← frameOf_self a ops ops.toList 0 fun k => by simp]
  refine wp_region_any hm ?_
  rw [frameOf_self a ops ops.toList 0 fun k => by simp]
  have h := any_inv hdag (puts_of _ _ (frameOf_put a _ _ hap)) hstep hdone ops.size (Array.replicate ops.size false) (fun j => slotOf a ((ops[j]?).bind (·.dst))) w.drew (by simp) (by simp) (by
    have e : (fun j => (Array.replicate ops.size false).getD j false) = fun _ => false := by
      funext j
      simp only [Array.getD]
      split <;> simp
    rw [e]
    exact h0)
  rw [frameOf_self a ops ops.toList 0 fun k => by simp] at h
  exact h

/-- the one but last: from the facts of all others to the last -/
def MidStep (P : Program) (ops : Array Oper) (Q : Exit → Act → World → Prop) (frame : (Nat → Value) → Act) (I : World → Prop) (F : Nat → Value → World → Prop) (v0 : Value) (i : Nat) (o o' : Oper) : Prop :=
  ∀ (f : Nat → Value) (w : World), f (ops.size - 1) = v0 → I w → (∀ j, j < i → F j (f j) w) → ∀ K : Act → World → Prop, Hid (∀ v a' w', a' = (frame f).put o.dst v → TailStep P ops Q frame (i + 1) o' (upd f i v) w' → K a' w') →
    if Region.wanted o (yielded ops (frame f).tmps) = true then Oper.wp P o (frame f) w K Q else K ((frame f).put o.dst undef) w

def MSteps (P : Program) (ops : Array Oper) (Q : Exit → Act → World → Prop) (frame : (Nat → Value) → Act) (I : World → Prop) (F : Nat → Value → World → Prop) (v0 : Value) : List Oper → Nat → Prop
  | [], _ => True
  | [_], _ => True
  | [o, o'], i => MidStep P ops Q frame I F v0 i o o'
  | o :: o' :: o'' :: l, i => RStepZ P ops Q frame I F v0 i o ∧ MSteps P ops Q frame I F v0 (o' :: o'' :: l) (i + 1)

theorem MSteps.get {P : Program} {ops : Array Oper} {Q : Exit → Act → World → Prop} {frame : (Nat → Value) → Act} {I : World → Prop} {F : Nat → Value → World → Prop} {v0 : Value} : ∀ {l : List Oper} {k : Nat}, MSteps P ops Q frame I F v0 l k → ∀ {i : Nat} {o : Oper}, l[i]? = some o → (i + 2 < l.length → RStepZ P ops Q frame I F v0 (k + i) o) ∧ (i + 2 = l.length → ∀ o', l[i + 1]? = some o' → MidStep P ops Q frame I F v0 (k + i) o o')
  | [], _, _, _, _, h => by simp at h
  | [_], _, h, 0, _, ho => ⟨fun h' => by simp at h', fun h' => by simp at h'⟩
  | [_], _, _, i + 1, _, ho => by simp at ho
  | [_, _], _, h, 0, _, ho => by cases ho; exact ⟨fun h' => by simp at h', fun _ o' ho' => by cases ho'; exact h⟩
  | [_, _], _, h, i + 1, _, ho => ⟨fun h' => by simp only [List.length_cons, List.length_nil] at h'; omega, fun h' => by simp only [List.length_cons, List.length_nil] at h'; omega⟩
  | _ :: _ :: _ :: _, _, h, 0, _, ho => by cases ho; exact ⟨fun _ => h.1, fun h' => by simp at h'⟩
  | _ :: b :: c :: l, k, h, i + 1, o, ho => by
    have := MSteps.get (l := b :: c :: l) h.2 (i := i) (o := o) (by simpa using ho)
    rw [show k + (i + 1) = k + 1 + i from by omega]
    simp only [List.length_cons] at this ⊢
    exact ⟨fun h' => this.1 (by omega), fun h' o' ho' => this.2 (by omega) o' (by simpa using ho')⟩

theorem region_facts_last2 {P : Program} {ops : Array Oper} {Q : Exit → Act → World → Prop} {id : Nat} {a : Act} {w : World} (I : World → Prop) (L : List (Value → World → Prop)) (hL : StableAll L) (hm : P.follows .mixedOrders = true) (hdag : dagB ops.toList 0 = true) (hap : apartB ops.toList = true) (hsink : sinkB2 ops = true) (v0 : Value) (hv0 : slotOf a ((ops[ops.size - 1]?).bind (·.dst)) = v0)
    (h0 : I w.drew) (hstep : MSteps P ops Q (frameOf a ops.toList 0) I (factOf L) v0 ops.toList 0) (hne : 1 < ops.size) : (Code.region id ops true).wp P Q a w := by
  have hopt : ∀ {i : Nat} {o : Oper}, ops.toList[i]? = some o → ops[i]? = some o := fun h => by simpa using h
  obtain ⟨ol, hol⟩ : ∃ ol, ops[ops.size - 1]? = some ol := ⟨_, Array.getElem?_eq_getElem (by omega)⟩
  have hwl : waitsOn ol (ops.size - 2) = true := by
    simp only [sinkB2, Bool.and_eq_true] at hsink
    have := hsink.2
    rw [hol] at this
    exact this
  let G : (Nat → Bool) → (Nat → Value) → World → Prop := fun M f W => (∀ (i : Nat) (o : Oper), ops[i]? = some o → M i = true → ∀ j, waitsOn o j = true → M j = true) ∧
    (M (ops.size - 1) = false → f (ops.size - 1) = v0) ∧ (M (ops.size - 2) = false → I W ∧ ∀ j, j < ops.size - 2 → M j = true → factOf L j (f j) W) ∧
    (M (ops.size - 2) = true → (∀ j, j < ops.size - 2 → M j = true) ∧ (M (ops.size - 1) = false → TailStep P ops Q (frameOf a ops.toList 0) (ops.size - 1) ol f W) ∧ (M (ops.size - 1) = true → Q .normal (frameOf a ops.toList 0 f) W))
  refine region_by_inv0 G hm hdag hap
    ⟨(fun _ _ _ h => by cases h), (fun _ => hv0), (fun _ => ⟨h0, (fun _ _ h => by cases h)⟩), (fun h => by cases h)⟩ ?_ (fun M f W hall hG => (hG.2.2.2 (hall _ (by omega))).2.2 (hall _ (by omega)))
  have build : ∀ (l : List Oper) (k : Nat), (∀ i o, l[i]? = some o → GStep P ops Q (frameOf a ops.toList 0) G (k + i) o) → GSteps P ops Q (frameOf a ops.toList 0) G l k := by
    intro l
    induction l with
    | nil => intro _ _; trivial
    | cons o l ih =>
      intro k h
      exact ⟨h 0 o rfl, ih (k + 1) fun i o' ho => by rw [show k + 1 + i = k + (i + 1) from by omega]; exact h (i + 1) o' (by simpa using ho)⟩
  refine build _ 0 fun i o ho => ?_
  rw [Nat.zero_add]
  have hi : i < ops.size := by have := (List.getElem?_eq_some_iff.1 ho).1; simpa using this
  have hg := MSteps.get hstep ho
  rw [Nat.zero_add] at hg
  simp only [Array.length_toList] at hg
  intro M f W hMi hwait hG K hK
  have hdg : ∀ j, waitsOn o j = true → j < i := fun j hj => by
    simp only [waitsOn, Array.any_eq_true', Bool.and_eq_true, beq_iff_eq] at hj
    obtain ⟨e, he, hbe, rfl⟩ := hj
    have := dagB_get hdag ho e he hbe
    omega
  have hclosed : ∀ (i' : Nat) (o' : Oper), ops[i']? = some o' → updL M i i' = true → ∀ j, waitsOn o' j = true → updL M i j = true := by
    intro i' o' ho' hi' j hj
    simp only [updL] at hi' ⊢
    split
    · rfl
    · by_cases e : i' = i
      · subst e
        rw [hopt ho] at ho'
        cases ho'
        exact hwait j hj
      · rw [if_neg e] at hi'
        exact hG.1 i' o' ho' hi' j hj
  by_cases hlast : i = ops.size - 1
  · -- the last one
    have heq : o = ol := by
      have := hopt ho
      rw [hlast, hol] at this
      cases this; rfl
    subst heq
    have hM2 : M (ops.size - 2) = true := hwait _ hwl
    obtain ⟨h1, h2, h3⟩ := hG.2.2.2 hM2
    have hMl : M (ops.size - 1) = false := by rw [← hlast]; exact hMi
    refine (h2 hMl) K (Lib.hid fun v a' w' ha hq => hK.out v a' w' ha ⟨hclosed, fun h => ?_, fun h => ?_, fun _ => ⟨fun j hj => ?_, fun h => ?_, fun _ => ?_⟩⟩)
    · simp only [updL] at h; rw [if_pos hlast.symm] at h; cases h
    · simp only [updL] at h; rw [if_neg (by omega), hM2] at h; cases h
    · simp only [updL]; rw [if_neg (by omega)]; exact h1 j hj
    · simp only [updL] at h; rw [if_pos hlast.symm] at h; cases h
    · rw [hlast]; exact hq
  · by_cases hmid : i = ops.size - 2
    · have hMl : M (ops.size - 2) = false := by rw [← hmid]; exact hMi
      have hM1 : M (ops.size - 1) = false := by
        cases hb : M (ops.size - 1) with
        | false => rfl
        | true => have := hG.1 _ _ hol hb _ hwl; rw [hMl] at this; cases this
      have hall : ∀ j, j < ops.size - 2 → M j = true := fun j hj => sink_all2 hsink (L := M) (fun i' o' ho' h j hj => by
        rcases h with h | h
        · exact hG.1 i' o' ho' h j hj
        · rw [h, ← hmid, hopt ho] at ho'
          cases ho'
          exact hwait j hj) (ops.size - 2 - j) j (by omega) hj
      obtain ⟨hI, hF⟩ := hG.2.2.1 hMl
      refine hg.2 (by omega) ol (by rw [show i + 1 = ops.size - 1 by omega]; simpa using hol) f W (hG.2.1 hM1) hI (fun j hj => hF j (by omega) (hall j (by omega))) K (Lib.hid fun v a' w' ha ht => hK.out v a' w' ha ⟨hclosed, fun _ => ?_, fun h => ?_, fun _ => ⟨fun j hj => ?_, fun _ => ?_, fun h => ?_⟩⟩)
      · simp only [upd]; rw [if_neg (by omega)]; exact hG.2.1 hM1
      · simp only [updL] at h; rw [if_pos hmid.symm] at h; cases h
      · simp only [updL]; rw [if_neg (by omega)]; exact hall j hj
      · rw [show ops.size - 1 = i + 1 by omega]; exact ht
      · simp only [updL] at h; rw [if_neg (by omega), hM1] at h; cases h
    · have hMl : M (ops.size - 2) = false := by
        cases hb : M (ops.size - 2) with
        | false => rfl
        | true => have := (hG.2.2.2 hb).1 i (by omega); rw [hMi] at this; cases this
      obtain ⟨hI, hF⟩ := hG.2.2.1 hMl
      have hM1 : M (ops.size - 1) = false := by
        cases hb : M (ops.size - 1) with
        | false => rfl
        | true => have := hG.1 _ _ hol hb _ hwl; rw [hMl] at this; cases this
      refine hg.1 (by omega) f W (hG.2.1 hM1) hI (fun j hj => hF j (by have := hdg j hj; omega) (hwait j hj)) K (Lib.hid fun v a' w' ha hI' hB hf => hK.out v a' w' ha ⟨hclosed, fun _ => ?_, fun _ => ⟨hI', fun j hj hjt => ?_⟩, fun h => ?_⟩)
      · simp only [upd]; rw [if_neg (by omega)]; exact hG.2.1 hM1
      · simp only [updL, upd] at hjt ⊢
        by_cases e : j = i
        · subst e; rw [if_pos rfl]; exact hf
        · rw [if_neg e] at hjt ⊢
          exact factOf_stable hL j _ _ _ (hF j hj hjt) hB
      · simp only [updL] at h; rw [if_neg (fun e => hmid e.symm), hMl] at h; cases h

end Go.Proofs.YtnmhnaanpjlniaaGreat
/-
  Layer 3: the document's bindings in a list: what a number is bound to, and a term walked.
-/
namespace Go.Proofs.YtnmhnaanpjlniaaGreat
open Go.RowKit

/-- bindings that lie in memory -/
def BsLies (w : World) : Nat → Nat → List (Int × Nd) → Prop
  | _, _, [] => True
  | b, o, (v, x) :: l => w.cell? ⟨b, o, none⟩ = some (.int .i64 v) ∧ w.cell? ⟨b, o + 1, none⟩ = some (.int .u8 x.k) ∧ w.cell? ⟨b, o + 2, none⟩ = some (.string x.s) ∧ w.cell? ⟨b, o + 3, none⟩ = some (.int .i64 x.n) ∧ w.cell? ⟨b, o + 4, none⟩ = some (.slice x.p x.kids.len x.c) ∧ Ts.At w x.p x.kids ∧ BsLies w b (o + 5) l

def BsAt (w : World) (p : Option Addr) (l : List (Int × Nd)) : Prop := ∃ b o, (l = [] ∨ p = some ⟨b, o, none⟩) ∧ BsLies w b o l

theorem BsLies.stay {w w' : World} (hc : ∀ b o, b < w.heap.size → w'.cell? ⟨b, o, none⟩ = w.cell? ⟨b, o, none⟩) : ∀ {l : List (Int × Nd)} {b o : Nat}, BsLies w b o l → BsLies w' b o l
  | [], _, _, _ => trivial
  | (v, x) :: l, b, o, ⟨h0, h1, h2, h3, h4, h5, h6⟩ => by
    have hlt : b < w.heap.size := World.block_lt_of_cell? _ _ h0
    exact ⟨(hc _ _ hlt).trans h0, (hc _ _ hlt).trans h1, (hc _ _ hlt).trans h2, (hc _ _ hlt).trans h3, (hc _ _ hlt).trans h4, h5.stay hc, BsLies.stay hc h6⟩

theorem BsAt.below {w w' : World} {p : Option Addr} {l : List (Int × Nd)} (h : BsAt w p l) (hB : Below w.heap.size w w') : BsAt w' p l := by
  obtain ⟨b, o, h1, h2⟩ := h
  exact ⟨b, o, h1, h2.stay (stays hB).1⟩

theorem BsAt.drewN {w : World} {p : Option Addr} {l : List (Int × Nd)} (h : BsAt w p l) (q : Nat) : BsAt (w.drewN q) p l := by
  obtain ⟨b, o, h1, h2⟩ := h
  exact ⟨b, o, h1, BsLies.stay (w := w) (w' := w.drewN q) (fun _ _ _ => rfl) h2⟩

/-- an element -/
structure Bel (b o : Nat) (v : Int) (x : Nd) (w : World) : Prop where
  lt : b < w.heap.size
  c0 : w.cell? ⟨b, o, none⟩ = some (.int .i64 v)
  c1 : w.cell? ⟨b, o + 1, none⟩ = some (.int .u8 x.k)
  c2 : w.cell? ⟨b, o + 2, none⟩ = some (.string x.s)
  c3 : w.cell? ⟨b, o + 3, none⟩ = some (.int .i64 x.n)
  c4 : w.cell? ⟨b, o + 4, none⟩ = some (.slice x.p x.kids.len x.c)
  at_ : Ts.At w x.p x.kids

theorem BsLies.get {w : World} : ∀ {l : List (Int × Nd)} {b o : Nat}, BsLies w b o l → ∀ {j : Nat} {v : Int} {x : Nd}, l[j]? = some (v, x) → Bel b (o + j * 5) v x w
  | [], _, _, _, _, _, _, h => by simp at h
  | (v', x') :: l, b, o, ⟨h0, h1, h2, h3, h4, h5, h6⟩, 0, v, x, h => by
    simp at h
    obtain ⟨rfl, rfl⟩ := h
    simp only [Nat.zero_mul, Nat.add_zero]
    exact ⟨World.block_lt_of_cell? _ _ h0, h0, h1, h2, h3, h4, h5⟩
  | _ :: l, b, o, ⟨_, _, _, _, _, _, h6⟩, j + 1, v, x, h => by
    have := BsLies.get h6 (j := j) (v := v) (x := x) (by simpa using h)
    rw [show o + (j + 1) * 5 = o + 5 + j * 5 from by omega]
    exact this

/-- what a number is bound to: the first in the list -/
def look : List (Int × Nd) → Sb
  | [], _ => none
  | (u, x) :: l, v => if (u == v) = true then some x else look l v

theorem look_drop {l : List (Int × Nd)} {v u : Int} {x : Nd} {j : Nat} (h : l[j]? = some (u, x)) : look (l.drop j) v = if (u == v) = true then some x else look (l.drop (j + 1)) v := by
  have hlt := (List.getElem?_eq_some_iff.1 h).1
  have hd : l.drop j = (u, x) :: l.drop (j + 1) := by
    rw [List.drop_eq_getElem_cons hlt, (List.getElem?_eq_some_iff.1 h).2]
  rw [hd]
  rfl

theorem look_mem : ∀ {l : List (Int × Nd)} {v : Int} {x : Nd}, look l v = some x → (v, x) ∈ l
  | [], _, _, h => by simp [look] at h
  | (u, y) :: l, v, x, h => by
    simp only [look] at h
    split at h
    · rename_i e
      have : u = v := by simpa using e
      cases h; subst this; exact List.mem_cons_self ..
    · exact List.mem_cons_of_mem _ (look_mem h)

theorem look_end (l : List (Int × Nd)) (v : Int) : look (l.drop l.length) v = none := by rw [List.drop_length]; rfl

set_option maxRecDepth 100000 in
set_option maxHeartbeats 4000000 in
theorem of_any (l : List (Int × Nd)) (hl : l.length ≤ 1000000) (w : World) (p : Option Addr) (c : Nat) (hat : BsAt w p l) (v : Int) :
    Calls Tryz.prog 37 #[.slice p l.length c, .int .i64 v] w fun e w' => e = .returned (.tuple #[valOf (look l v), .bool (look l v).isSome]) ∧ Below w.heap.size w w' := by
  obtain ⟨b, o, hp, hlies⟩ := hat
  have HP := Lib.hid hp
  have LI := Lib.hid hlies
  clear hp hlies
  go_enter Tryz.func37, Tryz.ntmps37
  go_wp2_with fail
  obtain ⟨W0, hW0⟩ : ∃ W0, W0 = w.alloc (.cells #[.int .u8 0, .string ⟨#[]⟩, .int .i64 0, .slice none 0 0] 25) := ⟨_, rfl⟩
  rw [← hW0]
  have Z0 := Lib.hid hW0
  have hB0 : Below w.heap.size w W0 := by rw [hW0]; exact (Below.refl _ _).alloc (Nat.le_refl _) _
  have Y0 : Hid (BoxIs w.heap.size ⟨0, ⟨#[]⟩, 0, none, 0, .nil⟩ W0) := Lib.hid (by rw [hW0]; exact BoxIs.new w ⟨0, ⟨#[]⟩, 0, none, 0, .nil⟩ _)
  have B0 := Lib.hid hB0
  have L0 : Hid (BsLies W0 b o l) := Lib.hid (LI.out.stay (stays hB0).1)
  clear hW0 hB0
  go_loop [6] (fun i => ∃ j : Nat, j ≤ l.length ∧ i = .int .i64 j ∧ Hid (look l v = look (l.drop j) v)) (fun i => l.length - (intOf i).toNat)
  case atStart => exact ⟨0, Nat.zero_le _, rfl, Lib.hid rfl⟩
  case round =>
    obtain ⟨j, hj, rfl, LK⟩ := hrel
    by_cases hlt : j < l.length
    · have hpp : p = some ⟨b, o, none⟩ := by
        rcases HP.out with h | h
        · rw [h] at hlt; simp at hlt
        · exact h
      subst hpp
      obtain ⟨⟨u, x⟩, hux⟩ : ∃ ux, l[j]? = some ux := ⟨_, List.getElem?_eq_getElem hlt⟩
      have EL := L0.out.get hux
      have hd := look_drop (v := v) hux
      have c0 := EL.c0
      have c1 := EL.c1
      have c2 := EL.c2
      have c3 := EL.c3
      have c4 := EL.c4
      have HD := Lib.hid hd
      clear EL hux hd
      by_cases hu : (u == v) = true
      · have y0 := Y0.out.c0
        have y1 := Y0.out.c1
        have y2 := Y0.out.c2
        have y3 := Y0.out.c3
        have yf := Y0.out.fr
        have HS : Hid (look l v = some x) := Lib.hid (by rw [LK.out, HD.out, if_pos hu])
        go_wp2
        have P := Y0.out.put (y := x)
        have p0 := P.c0
        have p1 := P.c1
        have p2 := P.c2
        have p3 := P.c3
        exact bodyPost_ret (v := .tuple #[x.val, .bool true]) (by simp [results, Tryz.results37, go_sem, p0, p1, p2, p3, Nd.val]) rfl ⟨by rw [HS.out]; rfl, below_put4 B0.out (Nat.le_refl _) _ _ _ _⟩
      · rw [Bool.not_eq_true] at hu
        go_wp2
        go_round
        case rel => exact ⟨j + 1, by omega, by go_num, Lib.hid (by rw [LK.out, HD.out, if_neg (by rw [hu]; simp)])⟩
        case measure => simp [intOf]; omega
    · have hjl : j = l.length := by omega
      have HS : Hid (look l v = none) := Lib.hid (by rw [LK.out, hjl, look_end])
      have y0 := Y0.out.c0
      have y1 := Y0.out.c1
      have y2 := Y0.out.c2
      have y3 := Y0.out.c3
      have yf := Y0.out.fr
      clear hjl
      go_wp2
      have P := Y0.out.put (y := ⟨0, ⟨#[]⟩, 0, none, 0, .nil⟩)
      have p0 := P.c0
      have p1 := P.c1
      have p2 := P.c2
      have p3 := P.c3
      simp only [Ts.len] at p0 p1 p2 p3
      exact bodyPost_ret (v := .tuple #[.agg #[.int .u8 0, .string ⟨#[]⟩, .int .i64 0, .slice none 0 0], .bool false]) (by simp [results, Tryz.results37, go_sem, p0, p1, p2, p3]) rfl ⟨by rw [HS.out]; rfl, below_put4 B0.out (Nat.le_refl _) _ _ _ _⟩

end Go.Proofs.YtnmhnaanpjlniaaGreat
/-
  Layer 3: the document's walked terms: as many steps as there are bindings are enough.
-/
namespace Go.Proofs.YtnmhnaanpjlniaaGreat
open Go.RowKit

theorem nodup_le : ∀ (a b : List Int), a.Nodup → (∀ x ∈ a, x ∈ b) → a.length ≤ b.length
  | [], _, _, _ => Nat.zero_le _
  | x :: a, b, hn, hs => by
    have hx := hs x (List.mem_cons_self ..)
    have hn' := List.nodup_cons.1 hn
    have h := nodup_le a (b.erase x) hn'.2 fun y hy => (List.mem_erase_of_ne (fun e => hn'.1 (by rw [← e]; exact hy))).2 (hs y (List.mem_cons_of_mem _ hy))
    rw [List.length_erase_of_mem hx] at h
    have : 0 < b.length := List.length_pos_of_mem hx
    simp only [List.length_cons]
    omega

/-- the numbers that are passed when a term is walked -/
theorem Wk.passed {σ : Sb} {t r : Nd} {m : Nat} (h : Wk σ t r m) : ∃ vs : List Int, vs.length = m ∧ vs.Nodup ∧ ∀ v ∈ vs, σ v ≠ none ∧ ∃ j, j ≤ m ∧ ∀ y : Nd, (y.k == 1) = true → y.n = v → Wk σ y r j := by
  induction h with
  | stop _ => exact ⟨[], rfl, List.nodup_nil, fun v hv => by cases hv⟩
  | @go t b r m hk hb h ih =>
    obtain ⟨vs, h1, h2, h3⟩ := ih
    have hown : ∀ y : Nd, (y.k == 1) = true → y.n = t.n → Wk σ y r (m + 1) := fun y hy hn => .go hy (by rw [hn]; exact hb) h
    refine ⟨t.n :: vs, by simp [h1], List.nodup_cons.2 ⟨fun hm => ?_, h2⟩, fun v hv => ?_⟩
    · obtain ⟨_, j, hj, hw⟩ := h3 _ hm
      have := ((hw t hk rfl).det (hown t hk rfl)).2
      omega
    · rcases List.mem_cons.1 hv with rfl | hv
      · exact ⟨by rw [hb]; simp, m + 1, Nat.le_refl _, hown⟩
      · obtain ⟨g1, j, g2, g3⟩ := h3 v hv
        exact ⟨g1, j, by omega, g3⟩

theorem look_key {l : List (Int × Nd)} {v : Int} (h : look l v ≠ none) : v ∈ l.map Prod.fst := by
  cases hx : look l v with
  | none => exact absurd hx h
  | some x => exact List.mem_map.2 ⟨(v, x), look_mem hx, rfl⟩

theorem wkn_le {l : List (Int × Nd)} (hE : Ends (look l)) (t : Nd) : wkn (look l) t ≤ l.length := by
  obtain ⟨vs, h1, h2, h3⟩ := (wk_spec hE t).passed
  rw [← h1, show l.length = (l.map Prod.fst).length from by simp]
  exact nodup_le _ _ h2 fun v hv => look_key (h3 v hv).1

set_option maxRecDepth 100000 in
set_option maxHeartbeats 4000000 in
theorem rwalk_any (l : List (Int × Nd)) (hl : l.length ≤ 1000000) (hE : Ends (look l)) (w : World) (p : Option Addr) (cl : Nat) (hat : BsAt w p l) (k : Int) (s : ByteArray) (n : Int) (q : Option Addr) (kids : Ts) (c : Nat) :
    Calls Tryz.prog 59 #[.slice p l.length cl, .agg #[.int .u8 k, .string s, .int .i64 n, .slice q kids.len c]] w fun e w' => e = .returned (wk (look l) ⟨k, s, n, q, c, kids⟩).val ∧ Below w.heap.size w w' := by
  have HE := Lib.hid hE
  have AT := Lib.hid hat
  have hN := wkn_le hE ⟨k, s, n, q, c, kids⟩
  clear hE hat
  go_enter Tryz.func59, Tryz.ntmps59
  go_wp2_with fail
  obtain ⟨W0, hW0⟩ : ∃ W0, W0 = (w.alloc (.cells #[.int .u8 k, .string s, .int .i64 n, .slice q kids.len c] 25)).alloc (.cells #[.int .u8 0, .string ⟨#[]⟩, .int .i64 0, .slice none 0 0] 25) := ⟨_, rfl⟩
  rw [← hW0]
  have hB0 : Below w.heap.size w W0 := by rw [hW0]; exact below2 _ _ _
  have hX0 : BoxIs w.heap.size ⟨k, s, n, q, c, kids⟩ W0 := by rw [hW0]; exact (BoxIs.new w ⟨k, s, n, q, c, kids⟩ _).below ((Below.refl _ _).alloc (Nat.le_refl _) _)
  have hY0 : BoxIs (w.heap.size + 1) ⟨0, ⟨#[]⟩, 0, none, 0, .nil⟩ W0 := by
    have := BoxIs.new (w.alloc (.cells #[.int .u8 k, .string s, .int .i64 n, .slice q kids.len c] 25)) ⟨0, ⟨#[]⟩, 0, none, 0, .nil⟩ 25
    rw [World.size_alloc] at this
    rw [hW0]; exact this
  have X0 := Lib.hid hX0
  have Y0 := Lib.hid hY0
  have B0 := Lib.hid hB0
  clear hW0 hX0 hY0 hB0
  go_loopw [5] (fun i wr => ∃ (j : Nat) (x : Nd), i = .int .i64 j ∧ Hid (BoxIs w.heap.size x wr) ∧ Hid (BoxIs (w.heap.size + 1) ⟨0, ⟨#[]⟩, 0, none, 0, .nil⟩ wr) ∧ Hid (Below w.heap.size w wr) ∧ Hid (wk (look l) x = wk (look l) ⟨k, s, n, q, c, kids⟩) ∧ wkn (look l) x + j ≤ l.length) (fun i _ => l.length + 1 - (intOf i).toNat)
  case atStart => exact ⟨0, ⟨k, s, n, q, c, kids⟩, rfl, X0, Y0, B0, Lib.hid rfl, by omega⟩
  case round =>
    obtain ⟨j, x, rfl, XX, YY, BB, WK, hj⟩ := hrel
    have hjl : j ≤ l.length := by omega
    have c0 := XX.out.c0
    have c1 := XX.out.c1
    have c2 := XX.out.c2
    have c3 := XX.out.c3
    have f0 := XX.out.fr
    have y0 := YY.out.c0
    have y1 := YY.out.c1
    have y2 := YY.out.c2
    have y3 := YY.out.c3
    have g0 := YY.out.fr
    by_cases hk : (x.k == 1) = true
    · go_wp2_with fail
      refine (of_any l hl wr p cl (AT.out.below BB.out) x.n).mono ?_
      rintro e w1 ⟨rfl, hB1⟩
      replace XX := Lib.hid (XX.out.below hB1)
      replace YY := Lib.hid (YY.out.below hB1)
      replace BB := Lib.hid (BB.out.trans (hB1.mono BB.out.size))
      clear hB1 c0 c1 c2 c3 f0 y0 y1 y2 y3 g0
      cases hb : look l x.n with
      | none =>
        have HW := Lib.hid (wk_stop (.inr hb) : wk (look l) x = x)
        rw [valOf_none]
        clear hb
        obtain ⟨W2, hW2⟩ : ∃ W2, W2 = w1.alloc (.cells #[.int .u8 0, .string ⟨#[]⟩, .int .i64 0, .slice none 0 0] 25) := ⟨_, rfl⟩
        have hB2 : Below w1.heap.size w1 W2 := by rw [hW2]; exact (Below.refl _ _).alloc (Nat.le_refl _) _
        replace XX := Lib.hid (XX.out.below hB2)
        replace YY := Lib.hid (YY.out.below hB2)
        replace BB := Lib.hid (BB.out.trans (hB2.mono BB.out.size))
        have c0 := XX.out.c0
        have c1 := XX.out.c1
        have c2 := XX.out.c2
        have c3 := XX.out.c3
        have y0 := YY.out.c0
        have y1 := YY.out.c1
        have y2 := YY.out.c2
        have y3 := YY.out.c3
        have g0 := YY.out.fr
        have Z2 := Lib.hid hW2
        clear hB2 hW2
        go_upto_region 5 with fail
        rw [← Z2.out]
        go_wp2
        have P := YY.out.put (y := x)
        have p0 := P.c0
        have p1 := P.c1
        have p2 := P.c2
        have p3 := P.c3
        exact bodyPost_ret (v := x.val) (by simp [results, Tryz.results59, go_sem, p0, p1, p2, p3, Nd.val]) rfl ⟨by rw [← WK.out, HW.out], below_put4 BB.out (Nat.le_succ _) _ _ _ _⟩
      | some b =>
        have HW := Lib.hid (wk_go HE.out hk hb : wk (look l) x = wk (look l) b)
        have hm := (wkn_go HE.out hk hb : wkn (look l) x = wkn (look l) b + 1)
        have hj2 : wkn (look l) b + (j + 1) ≤ l.length := by omega
        rw [valOf_some]
        clear hb hm
        obtain ⟨W2, hW2⟩ : ∃ W2, W2 = w1.alloc (.cells #[.int .u8 b.k, .string b.s, .int .i64 b.n, .slice b.p b.kids.len b.c] 25) := ⟨_, rfl⟩
        have hB2 : Below w1.heap.size w1 W2 := by rw [hW2]; exact (Below.refl _ _).alloc (Nat.le_refl _) _
        have NB := BoxIs.new w1 b 25
        rw [← hW2] at NB
        have hlt : w.heap.size + 1 < w1.heap.size := YY.out.lt
        replace XX := Lib.hid (XX.out.below hB2)
        replace YY := Lib.hid (YY.out.below hB2)
        replace BB := Lib.hid (BB.out.trans (hB2.mono BB.out.size))
        have c0 := XX.out.c0
        have c1 := XX.out.c1
        have c2 := XX.out.c2
        have c3 := XX.out.c3
        have g0 := XX.out.fr
        have y0 := NB.c0
        have y1 := NB.c1
        have y2 := NB.c2
        have y3 := NB.c3
        have Z2 := Lib.hid hW2
        clear hB2 hW2 NB
        go_upto_region 5 with fail
        rw [← Z2.out]
        go_wp2
        go_roundw
        case rel =>
          refine ⟨j + 1, b, by go_num, Lib.hid XX.out.put, Lib.hid (YY.out.of_block ?_), Lib.hid (below_put4 BB.out (Nat.le_refl _) _ _ _ _), Lib.hid (by rw [← HW.out]; exact WK.out), hj2⟩
          rw [Below.heap_setCell _ _ _ _ (by simp), Below.heap_setCell _ _ _ _ (by simp), Below.heap_setCell _ _ _ _ (by simp), Below.heap_setCell _ _ _ _ (by simp)]
        case measure => simp [intOf]; omega
    · rw [Bool.not_eq_true] at hk
      have HK := Lib.hid hk
      go_wp2
      have P := YY.out.put (y := x)
      have p0 := P.c0
      have p1 := P.c1
      have p2 := P.c2
      have p3 := P.c3
      exact bodyPost_ret (v := x.val) (by simp [results, Tryz.results59, go_sem, p0, p1, p2, p3, Nd.val]) rfl ⟨by rw [← WK.out, wk_stop (.inl HK.out)], below_put4 BB.out (Nat.le_succ _) _ _ _ _⟩

end Go.Proofs.YtnmhnaanpjlniaaGreat
/-
  The cells of a list of terms, one behind the other.
-/
namespace Go.Proofs.YtnmhnaanpjlniaaGreat
open Go.RowKit

/-- the cells of a list, one behind the other -/
def cellsL : Ts → List Value
  | .nil => []
  | .cons k s n p c kids rest => .int .u8 k :: .string s :: .int .i64 n :: .slice p kids.len c :: cellsL rest

theorem cellsL_length : ∀ ts : Ts, (cellsL ts).length = ts.len * 4
  | .nil => rfl
  | .cons _ _ _ _ _ _ r => by simp only [cellsL, List.length_cons, cellsL_length r, Ts.len]; omega

theorem cellsL_one : ∀ (ts : Ts), ∀ u ∈ cellsL ts, u.oneCell' = true
  | .nil, u, h => by cases h
  | .cons _ _ _ _ _ _ r, u, h => by
    simp only [cellsL, List.mem_cons] at h
    rcases h with rfl | rfl | rfl | rfl | h
    · rfl
    · rfl
    · rfl
    · rfl
    · exact cellsL_one r u h

theorem cellsL_of {w : World} : ∀ (ts : Ts) {b o : Nat}, ts.lies w b o → ∀ (j : Nat) (u : Value), (cellsL ts)[j]? = some u → w.cell? ⟨b, o + j, none⟩ = some u
  | .nil, _, _, _, j, u, h => by simp [cellsL] at h
  | .cons _ _ _ _ _ _ r, b, o, hl, j, u, h => by
    obtain ⟨h0, h1, h2, h3, _, h5⟩ := hl
    match j, h with
    | 0, h => simp [cellsL] at h; subst h; exact h0
    | 1, h => simp [cellsL] at h; subst h; exact h1
    | 2, h => simp [cellsL] at h; subst h; exact h2
    | 3, h => simp [cellsL] at h; subst h; exact h3
    | j + 4, h =>
      have := cellsL_of r h5 j u (by simpa [cellsL] using h)
      rw [show o + (j + 4) = o + 4 + j from by omega]
      exact this


theorem row_cells {w : World} {g n size : Nat} {e : TypeId} {cur : Array Value} {xs : List Value} (hg : w.heap[g]? = some (.cells cur e (0, 0))) (ht : cur.toList.take (n * size) = xs) (hl : xs.length = n * size) :
    (∀ j u, xs[j]? = some u → w.cell? ⟨g, 0 + j, none⟩ = some u) ∧ ∀ y, w.frozen? ⟨g, y, none⟩ = false := by
  refine ⟨fun j u hj => ?_, fun y => ?_⟩
  · have hjl : j < n * size := by have := (List.getElem?_eq_some_iff.1 hj).1; omega
    rw [← ht, List.getElem?_take_of_lt hjl, Array.getElem?_toList] at hj
    simp only [World.cell?, hg, Nat.zero_add]
    exact hj
  · simp [World.frozen?, hg]

end Go.Proofs.YtnmhnaanpjlniaaGreat
/-
  Plain facts of lists of terms, one behind the other.
-/
namespace Go.Proofs.YtnmhnaanpjlniaaGreat
open Go.RowKit

/-- one list behind the other -/
def Ts.app : Ts → Ts → Ts
  | .nil, u => u
  | .cons k s n p c kids rest, u => .cons k s n p c kids (rest.app u)

theorem app_nil : ∀ t : Ts, t.app .nil = t
  | .nil => rfl
  | .cons k s n p c kids rest => by simp only [Ts.app, app_nil rest]

theorem app_assoc : ∀ t u v : Ts, (t.app u).app v = t.app (u.app v)
  | .nil, _, _ => rfl
  | .cons k s n p c kids rest, u, v => by simp only [Ts.app, app_assoc rest u v]

theorem app_len : ∀ t u : Ts, (t.app u).len = t.len + u.len
  | .nil, u => by simp [Ts.app, Ts.len]
  | .cons k s n p c kids rest, u => by simp only [Ts.app, Ts.len, app_len rest u]; omega

theorem cellsL_app : ∀ t u : Ts, cellsL (t.app u) = cellsL t ++ cellsL u
  | .nil, u => rfl
  | .cons k s n p c kids rest, u => by simp only [Ts.app, cellsL, cellsL_app rest u, List.cons_append]


theorem twin_trans : ∀ {t u v : Ts}, Ts.twin t u → Ts.twin u v → Ts.twin t v
  | .nil, .nil, .nil, _, _ => trivial
  | .cons _ _ _ _ _ _ _, .cons _ _ _ _ _ _ _, .cons _ _ _ _ _ _ _, h, h' => ⟨h.1.trans h'.1, h.2.1.trans h'.2.1, h.2.2.1.trans h'.2.2.1, twin_trans h.2.2.2.1 h'.2.2.2.1, twin_trans h.2.2.2.2 h'.2.2.2.2⟩
  | .nil, .cons .., _, h, _ => h.elim
  | .cons .., .nil, _, h, _ => h.elim
  | .nil, .nil, .cons .., _, h => h.elim
  | .cons .., .cons .., .nil, _, h => h.elim

theorem app_ok : ∀ {t u : Ts}, t.ok → u.ok → (t.app u).ok
  | .nil, _, _, h => h
  | .cons _k _s _n _p _c _kids _rest, _, h, h' => ⟨h.1, h.2.1, h.2.2.1, h.2.2.2.1, h.2.2.2.2.1, h.2.2.2.2.2.1, app_ok h.2.2.2.2.2.2 h'⟩

/-- the parts of a list's elements lie where they say -/
def KidsAt (w : World) : Ts → Prop
  | .nil => True
  | .cons _ _ _ p _ kids rest => Ts.At w p kids ∧ KidsAt w rest

theorem KidsAt.below {w w' : World} (hB : Below w.heap.size w w') : ∀ {ts : Ts}, KidsAt w ts → KidsAt w' ts
  | .nil, _ => trivial
  | .cons _ _ _ _ _ _ _, h => ⟨h.1.below hB, KidsAt.below hB h.2⟩

theorem KidsAt.app {w : World} : ∀ {t u : Ts}, KidsAt w t → KidsAt w u → KidsAt w (t.app u)
  | .nil, _, _, h => h
  | .cons _ _ _ _ _ _ _, _, h, h' => ⟨h.1, KidsAt.app h.2 h'⟩

theorem lies_cells {w : World} : ∀ {ts : Ts} {b o : Nat}, (∀ (j : Nat) (u : Value), (cellsL ts)[j]? = some u → w.cell? ⟨b, o + j, none⟩ = some u) → KidsAt w ts → ts.lies w b o
  | .nil, _, _, _, _ => trivial
  | .cons k s n p c kids rest, b, o, h, hk => by
    refine ⟨h 0 _ rfl, h 1 _ rfl, h 2 _ rfl, h 3 _ rfl, hk.1, lies_cells (fun j u hj => ?_) hk.2⟩
    have := h (j + 4) u (by simpa [cellsL] using hj)
    rw [show o + 4 + j = o + (j + 4) from by omega]
    exact this

end Go.Proofs.YtnmhnaanpjlniaaGreat
/-
  Layer 3: a list of terms put behind a row of one's own: the run, the step of a walk.
-/
namespace Go.Proofs.YtnmhnaanpjlniaaGreat
open Go.RowKit

theorem run_app_terms (w : World) (ty : TypeId) (base : Nat) (v : Value) (n : Nat) (xs : List Value) (hown : w.ownsRow base 25 4 v n xs) (p : Option Addr) (ts : Ts) (c : Nat) (hp : p = none → c = 0) (hat : Ts.At w p ts) (hsm : n + ts.len ≤ 1000000000) (hbase : base ≤ w.heap.size) :
    ∃ v' w', (Builtin.append_ #[23, 23] ty #[v, .slice p ts.len c]).run Tryz.prog w = .ok v' w' ∧ w'.ownsRow base 25 4 v' (n + ts.len) (xs ++ cellsL ts) ∧ w.grownBy w' v.ownBlock ∧ (v'.ownBlock = v.ownBlock ∨ v'.ownBlock = some w.heap.size) := by
  obtain ⟨i0, hi, hz0, hz1, hz2⟩ := info_parts infoTerm
  obtain ⟨b, o, h1, h2⟩ := hat
  cases p with
  | none =>
    have hn : ts = .nil := by
      rcases h1 with h | h
      · exact h
      · cases h
    subst hn
    obtain rfl := hp rfl
    refine ⟨v, w, run_append_owned_none (P := Tryz.prog) w base 23 ty 25 i0 4 Tryz.underlying23 hi v n xs hown, ?_, ?_, .inl rfl⟩
    · simpa [Ts.len, cellsL] using hown
    · exact ⟨rfl, rfl, rfl, Nat.le_refl _, fun _ _ _ => rfl⟩
  | some ad =>
    have hnews : ∀ j u, (cellsL ts)[j]? = some u → w.cell? (ad.add j) = some u := by
      rcases h1 with rfl | h
      · intro j u h; simp [cellsL] at h
      · cases h
        intro j u hj
        rw [Go.WideShapes.add_plain]
        exact cellsL_of ts h2 j u hj
    obtain ⟨v', w', h1, h2, h3, _, h5⟩ := run_append_own_at (P := Tryz.prog) w base 23 ty 25 i0 zeroTerm 4 56 Tryz.underlying23 hi hz0 hz1 hz2 rfl (by decide) v n xs hown ad ts.len c (cellsL ts) (cellsL_length ts) hnews (cellsL_one ts) (by unfold maxLen; omega) (by omega) hbase
    exact ⟨v', w', h1, h2, h3, h5⟩

theorem wp_app_terms {o : Oper} {a : Act} {w : World} {K : Act → World → Prop} {Q : Exit → Act → World → Prop} (s x : Operand) (ho : o.op = .call { callee := .builtin .append, args := #[s, x], argTypes := #[23, 23] })
    (base : Nat) (v : Value) (n : Nat) (xs : List Value) (hs : a.eval s = v) (hown : w.ownsRow base 25 4 v n xs) (p : Option Addr) (ts : Ts) (c : Nat) (hx : a.eval x = .slice p ts.len c) (hp : p = none → c = 0) (hat : Ts.At w p ts) (hsm : n + ts.len ≤ 1000000000) (hbase : base ≤ w.heap.size)
    (h : ∀ v' w', w'.ownsRow base 25 4 v' (n + ts.len) (xs ++ cellsL ts) → w.grownBy w' v.ownBlock → (v'.ownBlock = v.ownBlock ∨ v'.ownBlock = some w.heap.size) → K (a.put o.dst v') w') : Oper.wp Tryz.prog o a w K Q := by
  obtain ⟨v', w', hr, h2, h3, h5⟩ := run_app_terms w o.type base v n xs hown p ts c hp hat hsm hbase
  unfold Oper.wp execOp
  simp only [ho, resolve, invoke, builtin, Sem.run_bind, Sem.run_pure, Result.andThen_ok, List.map_toArray, List.map_cons, List.map_nil, hs, hx, hr]
  exact h v' w' h2 h3 h5

theorem if_wanted {o : Oper} {ys : Nat → Option Bool} {A B : Prop} (h : o.guard = none) (ha : A) : if Region.wanted o ys = true then A else B := by
  rw [if_pos (by unfold Region.wanted; rw [h])]
  exact ha

/-- a row of one's own, as a list of terms -/
theorem row_terms {w : World} {base : Nat} {v : Value} {n : Nat} {ts : Ts} (h : w.ownsRow base 25 4 v n (cellsL ts)) (hn : n = ts.len) (hk : KidsAt w ts) : ∃ q c, v = .slice q ts.len c ∧ Ts.At w q ts ∧ (ts.len ≤ c ∧ c ≤ 9223372036854775807) ∧ (q = none → c = 0) ∧ ∀ y, q = some y → base ≤ y.block := by
  subst hn
  rcases h.2 with ⟨rfl, h0⟩ | ⟨g, cap, cur, rfl, hg1, hg2, hg3, hg4, hg5, hg6⟩
  · have := Ts.len_zero h0
    subst this
    exact ⟨none, 0, rfl, ⟨0, 0, .inl rfl, trivial⟩, ⟨by simp [Ts.len], by omega⟩, fun _ => rfl, fun y hy => by cases hy⟩
  · obtain ⟨hrow, _⟩ := row_cells hg2 hg6 (cellsL_length ts)
    have : cap ≤ 9223372036854775807 := by unfold maxLen at hg4; omega
    exact ⟨some ⟨g, 0, none⟩, cap, rfl, ⟨g, 0, .inr rfl, lies_cells hrow hk⟩, ⟨hg3, this⟩, (fun h => by cases h), fun y hy => by cases hy; exact hg1⟩

/-- the list's elements' parts -/
theorem kidsAt_lies {w : World} : ∀ {ts : Ts} {b o : Nat}, ts.lies w b o → KidsAt w ts
  | .nil, _, _, _ => trivial
  | .cons _ _ _ _ _ _ _, _, _, ⟨_, _, _, _, h, h'⟩ => ⟨h, kidsAt_lies h'⟩

theorem kidsAt_at {w : World} {p : Option Addr} {ts : Ts} (h : Ts.At w p ts) : KidsAt w ts := by
  obtain ⟨b, o, _, h⟩ := h
  exact kidsAt_lies h

end Go.Proofs.YtnmhnaanpjlniaaGreat
