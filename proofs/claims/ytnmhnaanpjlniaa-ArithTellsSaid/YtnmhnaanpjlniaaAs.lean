import Derived.Test.YtnmhnaanpjlniaaEb
import Derived.Test.YtnmhnaanpjlniaaEc
import Derived.Test.YtnmhnaanpjlniaaAm
import Derived.WalkKit
import Derived.WalkSpells
import Derived.WalkSmall
import Derived.Deep.QuietTactic
import Derived.BigQuiet
import Derived.Deep.RegionWith
import Derived.Defers
import Derived.Recover
import Derived.Test.YtnmhnaanpjlniaaAe
/-
  Eval: the deferred function, and what Eval answers for two numbers, for an atom, and for an unbound variable.
-/
namespace Go.Proofs.Ytnmhnaanpjlniaa
open Go.RowKit

/-- the reckoner's own block -/
structure Rk (w : World) (b : Nat) (s : Addr) (m : Nat) (k : Int) : Prop where
  blk : w.heap[b]? = some (.cells #[.pointer (some s), .map (some m), .int .i64 k] 79 (0, 0))

theorem Rk.lt {w : World} {b : Nat} {s : Addr} {m : Nat} {k : Int} (h : Rk w b s m k) : b < w.heap.size := (Array.getElem?_eq_some_iff.1 h.blk).1
theorem Rk.subst {w : World} {b : Nat} {s : Addr} {m : Nat} {k : Int} (h : Rk w b s m k) : w.cell? ⟨b, 0, none⟩ = some (.pointer (some s)) := by simp [World.cell?, h.blk]
theorem Rk.by_ {w : World} {b : Nat} {s : Addr} {m : Nat} {k : Int} (h : Rk w b s m k) : w.cell? ⟨b, 1, none⟩ = some (.map (some m)) := by simp [World.cell?, h.blk]
theorem Rk.nodes {w : World} {b : Nat} {s : Addr} {m : Nat} {k : Int} (h : Rk w b s m k) : w.cell? ⟨b, 2, none⟩ = some (.int .i64 k) := by simp [World.cell?, h.blk]
theorem Rk.free {w : World} {b : Nat} {s : Addr} {m : Nat} {k : Int} (h : Rk w b s m k) : w.frozen? ⟨b, 2, none⟩ = false := by simp [World.frozen?, h.blk]
theorem Rk.put {w : World} {b : Nat} {s : Addr} {m : Nat} {k : Int} (h : Rk w b s m k) (k' : Int) : Rk (w.setCell ⟨b, 2, none⟩ (.int .i64 k')) b s m k' := by
  refine ⟨?_⟩
  simp only [World.setCell, Array.getElem?_modify, if_pos, h.blk]
  rfl
theorem Rk.below {w w' : World} {b : Nat} {s : Addr} {m : Nat} {k : Int} (h : Rk w b s m k) (hB : Below w.heap.size w w') : Rk w' b s m k := ⟨(hB.block b h.lt).trans h.blk⟩

set_option maxHeartbeats 1000000 in
/-- the deferred function, a number of an error being thrown -/
theorem catch_thrown (bn be : Nat) (n : Int) (w : World) (v0 : Int) (e0 : Int) (_hne : bn ≠ be)
    (c0 : w.cell? ⟨bn, 0, none⟩ = some (.int .i64 v0)) (f0 : w.frozen? ⟨bn, 0, none⟩ = false) (c1 : w.cell? ⟨be, 0, none⟩ = some (.int .i64 e0)) (f1 : w.frozen? ⟨be, 0, none⟩ = false) :
    CallsD Try.prog 54 #[.pointer (some ⟨bn, 0, none⟩), .pointer (some ⟨be, 0, none⟩)] (.panicking ({ v := .iface 31 (.int .i64 n), recovered := false } :: [])) w fun e u' w' =>
      e = .returned (.tuple #[]) ∧ u' = .panicking ({ v := .iface 31 (.int .i64 n), recovered := true } :: []) ∧ w' = (w.setCell ⟨bn, 0, none⟩ (.int .i64 0)).setCell ⟨be, 0, none⟩ (.int .i64 n) := by
  have hta : ∀ w : World, (Instr.typeAssert (.iface 31 (.int .i64 n)) 20 31 true).run Try.prog w = .ok (.tuple #[.int .i64 n, .bool true]) w := fun _ => by kernel_rfl
  refine callsD_of_wpS Try.func54 rfl fun c₀ cs hu => ?_
  apply wpS_seq
  apply wpS_region
  simp [wpOpsS, go_sem, recoverD, hu, Try.ntmps54, Exit.thenS, hta]
  apply wpS_seq
  apply wpS_region
  simp [wpOpsS, go_sem, Exit.thenS]
  refine wpS_cond (t := true) (by simp [Act.eval, Array.replicate]) ?_
  simp only [if_true]
  apply wpS_region
  simp [wpOpsS, go_sem, c0, f0, c1, f1, bodyPostS, results, Try.results54]

set_option maxHeartbeats 1000000 in
/-- the deferred function, nothing being thrown -/
theorem catch_idle (bn be : Nat) (w : World) :
    CallsD Try.prog 54 #[.pointer (some ⟨bn, 0, none⟩), .pointer (some ⟨be, 0, none⟩)] .returning w fun e u' w' =>
      e = .returned (.tuple #[]) ∧ u' = .returning ∧ w' = w := by
  have hta : ∀ w : World, (Instr.typeAssert .nilIface 20 31 true).run Try.prog w = .ok (.tuple #[.int .i64 0, .bool false]) w := fun _ => by kernel_rfl
  refine callsD_of_wpS Try.func54 rfl fun c₀ cs hu => ?_
  apply wpS_seq
  apply wpS_region
  simp [wpOpsS, go_sem, recoverD, hu, Try.ntmps54, Exit.thenS, hta]
  apply wpS_seq
  apply wpS_region
  simp [wpOpsS, go_sem, Exit.thenS]
  refine wpS_cond (t := false) (by simp [Act.eval, Array.replicate]) ?_
  simp only [Bool.false_eq_true, if_false]
  refine wpS_of_wp (wp_skip ?_)
  cases c₀
  simp_all [bodyPostS, results, Try.results54]

set_option maxHeartbeats 1000000 in
/-- Eval, by what the reckoner comes to -/
theorem eval_any (t0 t1 t2 t3 : Value) (w : World) (s : Addr) (R : Int × Int)
    (hrec : ∀ (W : World) (b m : Nat), Below w.heap.size w W → w.heap.size ≤ m → m < b → Rk W b s m 0 → OpInv m 0 (fun _ => true) W →
      Calls Try.prog 56 #[.pointer (some ⟨b, 0, none⟩), .agg #[t0, t1, t2, t3]] W fun e w' => e = endsAs R ∧ Below b W w') :
    Calls Try.prog 14 #[.pointer (some s), .agg #[t0, t1, t2, t3]] w fun e w' =>
      e = .returned (.tuple #[.int .i64 (if R.2 = 0 then R.1 else 0), .int .i64 R.2]) ∧ Below w.heap.size w w' := by
  have hmf : ∀ (fn : Fn) (first cap : Array Value) (w : World), (Instr.makeFunc fn first cap).run Try.prog w = .ok (.func fn first cap) w := fun _ _ _ _ => rfl
  have HR := Lib.hid hrec
  clear hrec
  go_enter_defers Try.func14, Try.ntmps14
  go_wp2_with fail
  refine (operators_any _).mono ?_
  rintro e w1 ⟨rfl, hB, hO⟩
  obtain ⟨hc, hf⟩ := stays hB
  have hlt : w.heap.size + 3 < w1.heap.size := by
    obtain ⟨D, n, hown, _⟩ := hO.has
    have := hown.lt
    simpa using this
  have hz0 : w.heap.size < w1.heap.size := by omega
  have hz1 : w.heap.size + 1 < w1.heap.size := by omega
  have hz2 : w.heap.size + 1 + 1 < w1.heap.size := by omega
  have HO := Lib.hid hO
  clear hO
  go_wp2_with fail
  have hm : (((w.alloc (Obj.cells #[t0, t1, t2, t3] 25)).alloc (Obj.cells #[Value.int IntKind.i64 0] 2)).alloc (Obj.cells #[Value.int IntKind.i64 0] 31)).heap.size = w.heap.size + 1 + 1 + 1 := by simp
  rw [hm] at HO
  have B1 : Below w.heap.size w w1 := ((((Below.refl _ _).alloc (Nat.le_refl _) _).alloc (by simp) _).alloc (by simp; omega) _).trans (hB.mono (by simp; omega))
  refine (HR.out _ w1.heap.size (w.heap.size + 1 + 1 + 1) ?_ ?_ ?_ ?_ ?_).mono ?_
  · exact B1.alloc (by omega) _
  · omega
  · omega
  · exact ⟨by show (Array.push _ _)[w1.heap.size]? = _; rw [Array.getElem?_push_size]⟩
  · exact HO.out.same (Below.heap_alloc _ _ _ (by omega))
  rintro e w2 ⟨rfl, hB2⟩
  have B2 : Below w.heap.size w w2 := (B1.alloc (by omega) _).trans (hB2.mono (by omega))
  have hc2 : ∀ b o, b < w1.heap.size → w2.cell? ⟨b, o, none⟩ = w1.cell? ⟨b, o, none⟩ := fun b o hb => (hB2.cell (p := ⟨b, o, none⟩) hb).trans (World.cell?_alloc_past _ _ _ hb)
  have hf2 : ∀ b o, b < w1.heap.size → w2.frozen? ⟨b, o, none⟩ = w1.frozen? ⟨b, o, none⟩ := fun b o hb => (hB2.frozen (p := ⟨b, o, none⟩) hb).trans (World.frozen?_alloc_past _ _ _ hb)
  have hs2 : w1.heap.size < w2.heap.size := by have := hB2.size; simp at this; omega
  by_cases hR : R.2 = 0
  · rw [show endsAs R = .returned (.int .i64 R.1) from if_pos hR]
    go_wp2
    refine leaves_cons (f := 54) (args := #[.pointer (some ⟨w.heap.size + 1, 0, none⟩), .pointer (some ⟨w.heap.size + 1 + 1, 0, none⟩)]) (by simp) (by simp [go_sem]) ?_
    refine (catch_idle (w.heap.size + 1) (w.heap.size + 1 + 1) _).mono ?_
    rintro e u' w3 ⟨rfl, rfl, rfl⟩
    simp [Leaves, settle, results, Try.results14, go_sem, hc2, hz1, hz2, hc]
    repeat (first | exact B2 | refine Below.setCell (p := ⟨w.heap.size + 1, _, none⟩) ?_ (by simp) _ | refine Below.setCell (p := ⟨w.heap.size + 1 + 1, _, none⟩) ?_ (by simp; omega) _)
  · rw [show endsAs R = .panicked (thrown R.2) from if_neg hR]
    refine leaves_cons (f := 54) (args := #[.pointer (some ⟨w.heap.size + 1, 0, none⟩), .pointer (some ⟨w.heap.size + 1 + 1, 0, none⟩)]) (by simp) (by simp [go_sem]) ?_
    refine (catch_thrown (w.heap.size + 1) (w.heap.size + 1 + 1) R.2 _ 0 0 (by omega) ?_ ?_ ?_ ?_).mono ?_
    · simp [go_sem, hc2, hz1, hc]
    · simp [go_sem, hf2, hz1, hf]
    · simp [go_sem, hc2, hz2, hc]
    · simp [go_sem, hf2, hz2, hf]
    rintro e u' w3 ⟨rfl, rfl, rfl⟩
    simp [Leaves, settle, results, Try.results14, go_sem, hc2, hz1, hz2, hc]
    refine ⟨fun h => absurd h hR, ?_⟩
    repeat (first | exact B2 | refine Below.setCell (p := ⟨w.heap.size + 1, _, none⟩) ?_ (by simp) _ | refine Below.setCell (p := ⟨w.heap.size + 1 + 1, _, none⟩) ?_ (by simp; omega) _)

end Go.Proofs.Ytnmhnaanpjlniaa
/-
  A law for a region that draws its order and whose last two operations stand one behind the other: the one but last may write; each of the others leaves a fact that no growth of memory takes away.
-/
namespace Go.Proofs.Ytnmhnaanpjlniaa
open Go.RowKit

/-- each operation but the last two is waited for by one of those up to the one but last, and the last waits for the one but last -/
def sinkB2 (ops : Array Oper) : Bool := ((List.range (ops.size - 2)).all fun j => (List.range (ops.size - 1)).any fun k => decide (j < k) && ((ops[k]?.map fun o => waitsOn o j).getD false)) && ((ops[ops.size - 1]?.map fun o => waitsOn o (ops.size - 2)).getD false)

theorem sink_all2 {ops : Array Oper} (h : sinkB2 ops = true) {L : Nat → Bool} (hcl : ∀ (i : Nat) (o : Oper), ops[i]? = some o → (L i = true ∨ i = ops.size - 2) → ∀ j, waitsOn o j = true → L j = true) : ∀ (d j : Nat), j + d = ops.size - 2 → j < ops.size - 2 → L j = true := by
  intro d
  induction d using Nat.strongRecOn with
  | ind d ih =>
    intro j hj hlt
    simp only [sinkB2, Bool.and_eq_true, List.all_eq_true, List.mem_range, List.any_eq_true, decide_eq_true_eq] at h
    obtain ⟨k, hk, hjk, hw⟩ := h.1 j hlt
    cases ho : ops[k]? with
    | none => rw [ho] at hw; cases hw
    | some o =>
      rw [ho] at hw
      by_cases e : k = ops.size - 2
      · exact hcl k o ho (.inr e) j hw
      · exact hcl k o ho (.inl (ih (ops.size - 2 - k) (by omega) k (by omega) (by omega))) j hw

/-- the last operation, from what stands -/
def TailStep (P : Program) (ops : Array Oper) (Q : Exit → Act → World → Prop) (frame : (Nat → Value) → Act) (i : Nat) (o : Oper) (f : Nat → Value) (w : World) : Prop :=
  ∀ K : Act → World → Prop, Hid (∀ v a' w', a' = (frame f).put o.dst v → Q .normal (frame (upd f i v)) w' → K a' w') →
    if Region.wanted o (yielded ops (frame f).tmps) = true then Oper.wp P o (frame f) w K Q else K ((frame f).put o.dst undef) w

/-- an operation before the last two: as 'RStep', and the last one's slot is still as it was -/
def RStepZ (P : Program) (ops : Array Oper) (Q : Exit → Act → World → Prop) (frame : (Nat → Value) → Act) (I : World → Prop) (F : Nat → Value → World → Prop) (v0 : Value) (i : Nat) (o : Oper) : Prop :=
  ∀ (f : Nat → Value) (w : World), f (ops.size - 1) = v0 → I w → (∀ j, waitsOn o j = true → F j (f j) w) → ∀ K : Act → World → Prop, Hid (∀ v a' w', a' = (frame f).put o.dst v → I w' → Below w.heap.size w w' → F i v w' → K a' w') →
    if Region.wanted o (yielded ops (frame f).tmps) = true then Oper.wp P o (frame f) w K Q else K ((frame f).put o.dst undef) w

/-- 'region_by_inv' from the slots as they are -/
theorem region_by_inv0 {P : Program} {ops : Array Oper} {Q : Exit → Act → World → Prop} {id : Nat} {a : Act} {w : World} (G : (Nat → Bool) → (Nat → Value) → World → Prop) (hm : P.follows .mixedOrders = true) (hdag : dagB ops.toList 0 = true) (hap : apartB ops.toList = true)
    (h0 : G (fun _ => false) (fun j => slotOf a ((ops[j]?).bind (·.dst))) w.drew) (hstep : GSteps P ops Q (frameOf a ops.toList 0) G ops.toList 0)
    (hdone : ∀ L f w, (∀ j, j < ops.size → L j = true) → G L f w → Q .normal (frameOf a ops.toList 0 f) w) : (Code.region id ops true).wp P Q a w := by
  rw [← frameOf_self a ops ops.toList 0 fun k => by simp]
  refine wp_region_any hm ?_
  rw [frameOf_self a ops ops.toList 0 fun k => by simp]
  have h := any_inv hdag (puts_of _ _ (frameOf_put a _ _ hap)) hstep hdone ops.size (Array.replicate ops.size false) (fun j => slotOf a ((ops[j]?).bind (·.dst))) w.drew (by simp) (by simp) (by
    have e : (fun j => (Array.replicate ops.size false).getD j false) = fun _ => false := by
      funext j
      simp only [Array.getD]
      split <;> simp
    rw [e]
    exact h0)
  rw [frameOf_self a ops ops.toList 0 fun k => by simp] at h
  exact h

/-- the one but last: from the facts of all others to the last -/
def MidStep (P : Program) (ops : Array Oper) (Q : Exit → Act → World → Prop) (frame : (Nat → Value) → Act) (I : World → Prop) (F : Nat → Value → World → Prop) (v0 : Value) (i : Nat) (o o' : Oper) : Prop :=
  ∀ (f : Nat → Value) (w : World), f (ops.size - 1) = v0 → I w → (∀ j, j < i → F j (f j) w) → ∀ K : Act → World → Prop, Hid (∀ v a' w', a' = (frame f).put o.dst v → TailStep P ops Q frame (i + 1) o' (upd f i v) w' → K a' w') →
    if Region.wanted o (yielded ops (frame f).tmps) = true then Oper.wp P o (frame f) w K Q else K ((frame f).put o.dst undef) w

def MSteps (P : Program) (ops : Array Oper) (Q : Exit → Act → World → Prop) (frame : (Nat → Value) → Act) (I : World → Prop) (F : Nat → Value → World → Prop) (v0 : Value) : List Oper → Nat → Prop
  | [], _ => True
  | [_], _ => True
  | [o, o'], i => MidStep P ops Q frame I F v0 i o o'
  | o :: o' :: o'' :: l, i => RStepZ P ops Q frame I F v0 i o ∧ MSteps P ops Q frame I F v0 (o' :: o'' :: l) (i + 1)

theorem MSteps.get {P : Program} {ops : Array Oper} {Q : Exit → Act → World → Prop} {frame : (Nat → Value) → Act} {I : World → Prop} {F : Nat → Value → World → Prop} {v0 : Value} : ∀ {l : List Oper} {k : Nat}, MSteps P ops Q frame I F v0 l k → ∀ {i : Nat} {o : Oper}, l[i]? = some o → (i + 2 < l.length → RStepZ P ops Q frame I F v0 (k + i) o) ∧ (i + 2 = l.length → ∀ o', l[i + 1]? = some o' → MidStep P ops Q frame I F v0 (k + i) o o')
  | [], _, _, _, _, h => by simp at h
  | [_], _, h, 0, _, ho => ⟨fun h' => by simp at h', fun h' => by simp at h'⟩
  | [_], _, _, i + 1, _, ho => by simp at ho
  | [_, _], _, h, 0, _, ho => by cases ho; exact ⟨fun h' => by simp at h', fun _ o' ho' => by cases ho'; exact h⟩
  | [_, _], _, h, i + 1, _, ho => ⟨fun h' => by simp only [List.length_cons, List.length_nil] at h'; omega, fun h' => by simp only [List.length_cons, List.length_nil] at h'; omega⟩
  | _ :: _ :: _ :: _, _, h, 0, _, ho => by cases ho; exact ⟨fun _ => h.1, fun h' => by simp at h'⟩
  | _ :: b :: c :: l, k, h, i + 1, o, ho => by
    have := MSteps.get (l := b :: c :: l) h.2 (i := i) (o := o) (by simpa using ho)
    rw [show k + (i + 1) = k + 1 + i from by omega]
    simp only [List.length_cons] at this ⊢
    exact ⟨fun h' => this.1 (by omega), fun h' o' ho' => this.2 (by omega) o' (by simpa using ho')⟩

theorem region_facts_last2 {P : Program} {ops : Array Oper} {Q : Exit → Act → World → Prop} {id : Nat} {a : Act} {w : World} (I : World → Prop) (L : List (Value → World → Prop)) (hL : StableAll L) (hm : P.follows .mixedOrders = true) (hdag : dagB ops.toList 0 = true) (hap : apartB ops.toList = true) (hsink : sinkB2 ops = true) (v0 : Value) (hv0 : slotOf a ((ops[ops.size - 1]?).bind (·.dst)) = v0)
    (h0 : I w.drew) (hstep : MSteps P ops Q (frameOf a ops.toList 0) I (factOf L) v0 ops.toList 0) (hne : 1 < ops.size) : (Code.region id ops true).wp P Q a w := by
  have hopt : ∀ {i : Nat} {o : Oper}, ops.toList[i]? = some o → ops[i]? = some o := fun h => by simpa using h
  obtain ⟨ol, hol⟩ : ∃ ol, ops[ops.size - 1]? = some ol := ⟨_, Array.getElem?_eq_getElem (by omega)⟩
  have hwl : waitsOn ol (ops.size - 2) = true := by
    simp only [sinkB2, Bool.and_eq_true] at hsink
    have := hsink.2
    rw [hol] at this
    exact this
  let G : (Nat → Bool) → (Nat → Value) → World → Prop := fun M f W => (∀ (i : Nat) (o : Oper), ops[i]? = some o → M i = true → ∀ j, waitsOn o j = true → M j = true) ∧
    (M (ops.size - 1) = false → f (ops.size - 1) = v0) ∧ (M (ops.size - 2) = false → I W ∧ ∀ j, j < ops.size - 2 → M j = true → factOf L j (f j) W) ∧
    (M (ops.size - 2) = true → (∀ j, j < ops.size - 2 → M j = true) ∧ (M (ops.size - 1) = false → TailStep P ops Q (frameOf a ops.toList 0) (ops.size - 1) ol f W) ∧ (M (ops.size - 1) = true → Q .normal (frameOf a ops.toList 0 f) W))
  refine region_by_inv0 G hm hdag hap
    ⟨(fun _ _ _ h => by cases h), (fun _ => hv0), (fun _ => ⟨h0, (fun _ _ h => by cases h)⟩), (fun h => by cases h)⟩ ?_ (fun M f W hall hG => (hG.2.2.2 (hall _ (by omega))).2.2 (hall _ (by omega)))
  have build : ∀ (l : List Oper) (k : Nat), (∀ i o, l[i]? = some o → GStep P ops Q (frameOf a ops.toList 0) G (k + i) o) → GSteps P ops Q (frameOf a ops.toList 0) G l k := by
    intro l
    induction l with
    | nil => intro _ _; trivial
    | cons o l ih =>
      intro k h
      exact ⟨h 0 o rfl, ih (k + 1) fun i o' ho => by rw [show k + 1 + i = k + (i + 1) from by omega]; exact h (i + 1) o' (by simpa using ho)⟩
  refine build _ 0 fun i o ho => ?_
  rw [Nat.zero_add]
  have hi : i < ops.size := by have := (List.getElem?_eq_some_iff.1 ho).1; simpa using this
  have hg := MSteps.get hstep ho
  rw [Nat.zero_add] at hg
  simp only [Array.length_toList] at hg
  intro M f W hMi hwait hG K hK
  have hdg : ∀ j, waitsOn o j = true → j < i := fun j hj => by
    simp only [waitsOn, Array.any_eq_true', Bool.and_eq_true, beq_iff_eq] at hj
    obtain ⟨e, he, hbe, rfl⟩ := hj
    have := dagB_get hdag ho e he hbe
    omega
  have hclosed : ∀ (i' : Nat) (o' : Oper), ops[i']? = some o' → updL M i i' = true → ∀ j, waitsOn o' j = true → updL M i j = true := by
    intro i' o' ho' hi' j hj
    simp only [updL] at hi' ⊢
    split
    · rfl
    · by_cases e : i' = i
      · subst e
        rw [hopt ho] at ho'
        cases ho'
        exact hwait j hj
      · rw [if_neg e] at hi'
        exact hG.1 i' o' ho' hi' j hj
  by_cases hlast : i = ops.size - 1
  · -- the last one
    have heq : o = ol := by
      have := hopt ho
      rw [hlast, hol] at this
      cases this; rfl
    subst heq
    have hM2 : M (ops.size - 2) = true := hwait _ hwl
    obtain ⟨h1, h2, h3⟩ := hG.2.2.2 hM2
    have hMl : M (ops.size - 1) = false := by rw [← hlast]; exact hMi
    refine (h2 hMl) K (Lib.hid fun v a' w' ha hq => hK.out v a' w' ha ⟨hclosed, fun h => ?_, fun h => ?_, fun _ => ⟨fun j hj => ?_, fun h => ?_, fun _ => ?_⟩⟩)
    · simp only [updL] at h; rw [if_pos hlast.symm] at h; cases h
    · simp only [updL] at h; rw [if_neg (by omega), hM2] at h; cases h
    · simp only [updL]; rw [if_neg (by omega)]; exact h1 j hj
    · simp only [updL] at h; rw [if_pos hlast.symm] at h; cases h
    · rw [hlast]; exact hq
  · by_cases hmid : i = ops.size - 2
    · have hMl : M (ops.size - 2) = false := by rw [← hmid]; exact hMi
      have hM1 : M (ops.size - 1) = false := by
        cases hb : M (ops.size - 1) with
        | false => rfl
        | true => have := hG.1 _ _ hol hb _ hwl; rw [hMl] at this; cases this
      have hall : ∀ j, j < ops.size - 2 → M j = true := fun j hj => sink_all2 hsink (L := M) (fun i' o' ho' h j hj => by
        rcases h with h | h
        · exact hG.1 i' o' ho' h j hj
        · rw [h, ← hmid, hopt ho] at ho'
          cases ho'
          exact hwait j hj) (ops.size - 2 - j) j (by omega) hj
      obtain ⟨hI, hF⟩ := hG.2.2.1 hMl
      refine hg.2 (by omega) ol (by rw [show i + 1 = ops.size - 1 by omega]; simpa using hol) f W (hG.2.1 hM1) hI (fun j hj => hF j (by omega) (hall j (by omega))) K (Lib.hid fun v a' w' ha ht => hK.out v a' w' ha ⟨hclosed, fun _ => ?_, fun h => ?_, fun _ => ⟨fun j hj => ?_, fun _ => ?_, fun h => ?_⟩⟩)
      · simp only [upd]; rw [if_neg (by omega)]; exact hG.2.1 hM1
      · simp only [updL] at h; rw [if_pos hmid.symm] at h; cases h
      · simp only [updL]; rw [if_neg (by omega)]; exact hall j hj
      · rw [show ops.size - 1 = i + 1 by omega]; exact ht
      · simp only [updL] at h; rw [if_neg (by omega), hM1] at h; cases h
    · have hMl : M (ops.size - 2) = false := by
        cases hb : M (ops.size - 2) with
        | false => rfl
        | true => have := (hG.2.2.2 hb).1 i (by omega); rw [hMi] at this; cases this
      obtain ⟨hI, hF⟩ := hG.2.2.1 hMl
      have hM1 : M (ops.size - 1) = false := by
        cases hb : M (ops.size - 1) with
        | false => rfl
        | true => have := hG.1 _ _ hol hb _ hwl; rw [hMl] at this; cases this
      refine hg.1 (by omega) f W (hG.2.1 hM1) hI (fun j hj => hF j (by have := hdg j hj; omega) (hwait j hj)) K (Lib.hid fun v a' w' ha hI' hB hf => hK.out v a' w' ha ⟨hclosed, fun _ => ?_, fun _ => ⟨hI', fun j hj hjt => ?_⟩, fun h => ?_⟩)
      · simp only [upd]; rw [if_neg (by omega)]; exact hG.2.1 hM1
      · simp only [updL, upd] at hjt ⊢
        by_cases e : j = i
        · subst e; rw [if_pos rfl]; exact hf
        · rw [if_neg e] at hjt ⊢
          exact factOf_stable hL j _ _ _ (hF j hj hjt) hB
      · simp only [updL] at h; rw [if_neg (fun e => hmid e.symm), hMl] at h; cases h

end Go.Proofs.Ytnmhnaanpjlniaa
