import Derived.Test.YtnmhnaanpjlniaaGreatTw
import Derived.Test.YtnmhnaanpjlniaaGreatTj
import Derived.Test.YtnmhnaanpjlniaaGreatTn
import Derived.Test.YtnmhnaanpjlniaaGreatAk
import Derived.Test.YtnmhnaanpjlniaaGreatTo
import Derived.Sort.CutIn
/-
  A law for a region that draws its order and writes too: one invariant of what has come up, of the slots' values and of the world; one step an operation.
-/
namespace Go.Proofs.YtnmhnaanpjlniaaGreat
open Go.RowKit

def updL (L : Nat → Bool) (i : Nat) : Nat → Bool := fun j => if j = i then true else L j

def GStep (P : Program) (ops : Array Oper) (Q : Exit → Act → World → Prop) (frame : (Nat → Value) → Act) (G : (Nat → Bool) → (Nat → Value) → World → Prop) (i : Nat) (o : Oper) : Prop :=
  ∀ (L : Nat → Bool) (f : Nat → Value) (w : World), L i = false → (∀ j, waitsOn o j = true → L j = true) → G L f w → ∀ K : Act → World → Prop, Hid (∀ v a' w', a' = (frame f).put o.dst v → G (updL L i) (upd f i v) w' → K a' w') →
    if Region.wanted o (yielded ops (frame f).tmps) = true then Oper.wp P o (frame f) w K Q else K ((frame f).put o.dst undef) w

def GSteps (P : Program) (ops : Array Oper) (Q : Exit → Act → World → Prop) (frame : (Nat → Value) → Act) (G : (Nat → Bool) → (Nat → Value) → World → Prop) : List Oper → Nat → Prop
  | [], _ => True
  | o :: l, i => GStep P ops Q frame G i o ∧ GSteps P ops Q frame G l (i + 1)

theorem GSteps.get {P : Program} {ops : Array Oper} {Q : Exit → Act → World → Prop} {frame : (Nat → Value) → Act} {G : (Nat → Bool) → (Nat → Value) → World → Prop} : ∀ {l : List Oper} {k : Nat}, GSteps P ops Q frame G l k → ∀ {i : Nat} {o : Oper}, l[i]? = some o → GStep P ops Q frame G (k + i) o
  | [], _, _, _, _, h => by simp at h
  | _ :: _, _, h, 0, _, ho => by cases ho; exact h.1
  | _ :: l, k, h, i + 1, o, ho => by
    have := GSteps.get h.2 (i := i) (o := o) (by simpa using ho)
    rw [show k + (i + 1) = k + 1 + i from by omega]
    exact this

section
variable {P : Program} {ops : Array Oper} {Q : Exit → Act → World → Prop} {frame : (Nat → Value) → Act} {G : (Nat → Bool) → (Nat → Value) → World → Prop}

theorem any_inv (hdag : dagB ops.toList 0 = true) (hput : Puts frame ops.toList 0) (hstep : GSteps P ops Q frame G ops.toList 0)
    (hdone : ∀ L f w, (∀ j, j < ops.size → L j = true) → G L f w → Q .normal (frame f) w) :
    ∀ (fuel : Nat) (listed : Array Bool) (f : Nat → Value) (w : World), listed.size = ops.size → listed.toList.count false ≤ fuel → G (fun j => listed.getD j false) f w → wpAny P .any ops Q fuel listed (frame f) w := by
  have all_of : ∀ (listed : Array Bool), listed.size = ops.size → Region.ready .any ops listed = [] → ∀ j, j < ops.size → listed.getD j false = true := by
    intro listed hs hr j
    induction j using Nat.strongRecOn with
    | ind j ih =>
      intro hj
      cases hb : listed.getD j false with
      | true => rfl
      | false =>
        exfalso
        have hm : j ∈ Region.ready .any ops listed := by
          rw [ready_iff]
          refine ⟨hj, ?_, ops[j], by simp [hj], fun i hi => ?_⟩
          · simp only [Array.getD] at hb ⊢
            rw [dif_pos (by omega)] at hb ⊢
            exact hb
          · simp only [waitsOn, Array.any_eq_true', Bool.and_eq_true, beq_iff_eq] at hi
            obtain ⟨e, he, hbe, rfl⟩ := hi
            have := dagB_get hdag (i := j) (o := ops[j]) (by simp [hj]) e he hbe
            exact ih _ (by omega) (by omega)
        rw [hr] at hm; cases hm
  intro fuel
  induction fuel with
  | zero =>
    intro listed f w hs hc hG
    have hall : ∀ j, j < ops.size → listed.getD j false = true := fun j hj => by
      cases hb : listed.getD j false with
      | true => rfl
      | false =>
        exfalso
        have h1 : false ∈ listed.toList := by
          simp only [Array.getD] at hb
          rw [dif_pos (by omega)] at hb
          rw [← hb]
          simp
        have := List.count_pos_iff.2 h1
        omega
    refine ⟨?_, hdone _ f w (fun j hj => hall j hj) hG⟩
    refine List.eq_nil_iff_forall_not_mem.2 fun i hi => ?_
    obtain ⟨h1, h2, _⟩ := (ready_iff listed i).1 hi
    have h3 := hall i h1
    simp only [Array.getD] at h2 h3
    rw [dif_pos (by omega)] at h2 h3
    rw [h2] at h3; cases h3
  | succ fuel ih =>
    intro listed f w hs hc hG
    refine ⟨fun hr => hdone _ f w (fun j hj => all_of listed hs hr j hj) hG, fun i hi => ?_⟩
    obtain ⟨h1, h2, o, ho, h3⟩ := (ready_iff listed i).1 hi
    have hol : ops.toList[i]? = some o := by simpa using ho
    have hli : listed.toList[i]? = some false := by
      simp only [Array.getD] at h2
      rw [dif_pos (by omega)] at h2
      simp only [Array.getElem?_toList]
      rw [Array.getElem?_eq_getElem (by omega)]
      exact congrArg some h2
    have hLi : (fun j => listed.getD j false) i = false := by
      show listed.getD i false = false
      simp only [Array.getD] at h2 ⊢
      rw [dif_pos (by omega)] at h2 ⊢
      exact h2
    have hL : (fun j => (listed.setIfInBounds i true).getD j false) = updL (fun j => listed.getD j false) i := by
      funext j
      simp only [updL]
      by_cases e : j = i
      · subst e
        rw [if_pos rfl]
        simp only [Array.getD, Array.size_setIfInBounds]
        rw [dif_pos (by omega), Array.getInternal_eq_getElem]
        simp
      · rw [if_neg e]
        simp only [Array.getD, Array.size_setIfInBounds]
        split
        · rw [Array.getInternal_eq_getElem, Array.getInternal_eq_getElem, Array.getElem_setIfInBounds_ne _ (fun h => e h.symm)]
        · rfl
    refine wpOp_step ho fun K' hK => ?_
    have hst := GSteps.get hstep hol (fun j => listed.getD j false) f w
    rw [Nat.zero_add] at hst
    refine hst hLi (fun j hj => h3 j hj) hG K' (Lib.hid fun v a' w' ha' hG' => ha' ▸ hK _ _ ?_)
    have hp := Puts.get hput hol f v
    rw [Nat.zero_add] at hp
    rw [hp]
    refine ih _ _ _ (by simp [hs]) ?_ (by rw [hL]; exact hG')
    have := count_set hli
    rw [Array.toList_setIfInBounds]
    omega
end

theorem region_by_inv {P : Program} {ops : Array Oper} {Q : Exit → Act → World → Prop} {id : Nat} {a : Act} {w : World} (G : (Nat → Bool) → (Nat → Value) → World → Prop) (hm : P.follows .mixedOrders = true) (hdag : dagB ops.toList 0 = true) (hap : apartB ops.toList = true)
    (h0 : ∀ f, G (fun _ => false) f w.drew) (hstep : GSteps P ops Q (frameOf a ops.toList 0) G ops.toList 0)
    (hdone : ∀ L f w, (∀ j, j < ops.size → L j = true) → G L f w → Q .normal (frameOf a ops.toList 0 f) w) : (Code.region id ops true).wp P Q a w := by
  rw [← frameOf_self a ops ops.toList 0 fun k => by simp] 
  refine wp_region_any hm ?_
  rw [frameOf_self a ops ops.toList 0 fun k => by simp]
  have h := any_inv hdag (puts_of _ _ (frameOf_put a _ _ hap)) hstep hdone ops.size (Array.replicate ops.size false) (fun j => slotOf a ((ops[j]?).bind (·.dst))) w.drew (by simp) (by simp) (by
    have e : (fun j => (Array.replicate ops.size false).getD j false) = fun _ => false := by
      funext j
      simp only [Array.getD]
      split <;> simp
    rw [e]
    exact h0 _)
  rw [frameOf_self a ops ops.toList 0 fun k => by simp] at h
  exact h








end Go.Proofs.YtnmhnaanpjlniaaGreat
/-
  A law for a region that draws its order and whose last operation writes: each of the others leaves a fact that no growth of memory takes away.
-/
namespace Go.Proofs.YtnmhnaanpjlniaaGreat
open Go.RowKit

/-- each operation but the last is waited for -/
def sinkB (ops : Array Oper) : Bool := (List.range (ops.size - 1)).all fun j => (List.range ops.size).any fun k => decide (j < k) && ((ops[k]?.map fun o => waitsOn o j).getD false)

theorem sink_all {ops : Array Oper} (h : sinkB ops = true) {L : Nat → Bool} (hcl : ∀ (i : Nat) (o : Oper), ops[i]? = some o → (L i = true ∨ i = ops.size - 1) → ∀ j, waitsOn o j = true → L j = true) : ∀ (d j : Nat), j + d = ops.size - 1 → j < ops.size - 1 → L j = true := by
  intro d
  induction d using Nat.strongRecOn with
  | ind d ih =>
    intro j hj hlt
    simp only [sinkB, List.all_eq_true, List.mem_range, List.any_eq_true, Bool.and_eq_true, decide_eq_true_eq] at h
    obtain ⟨k, hk, hjk, hw⟩ := h j hlt
    cases ho : ops[k]? with
    | none => rw [ho] at hw; cases hw
    | some o =>
      rw [ho] at hw
      by_cases e : k = ops.size - 1
      · exact hcl k o ho (.inr e) j hw
      · exact hcl k o ho (.inl (ih (ops.size - 1 - k) (by omega) k (by omega) (by omega))) j hw

/-- the last operation: from the facts of all others to what follows -/
def LastStep (P : Program) (ops : Array Oper) (Q : Exit → Act → World → Prop) (frame : (Nat → Value) → Act) (I : World → Prop) (F : Nat → Value → World → Prop) (i : Nat) (o : Oper) : Prop :=
  ∀ (f : Nat → Value) (w : World), I w → (∀ j, j < i → F j (f j) w) → ∀ K : Act → World → Prop, Hid (∀ v a' w', a' = (frame f).put o.dst v → Q .normal (frame (upd f i v)) w' → K a' w') →
    if Region.wanted o (yielded ops (frame f).tmps) = true then Oper.wp P o (frame f) w K Q else K ((frame f).put o.dst undef) w

def LSteps (P : Program) (ops : Array Oper) (Q : Exit → Act → World → Prop) (frame : (Nat → Value) → Act) (I : World → Prop) (F : Nat → Value → World → Prop) : List Oper → Nat → Prop
  | [], _ => True
  | [o], i => LastStep P ops Q frame I F i o
  | o :: o' :: l, i => RStep P ops Q frame I F i o ∧ LSteps P ops Q frame I F (o' :: l) (i + 1)

theorem LSteps.get {P : Program} {ops : Array Oper} {Q : Exit → Act → World → Prop} {frame : (Nat → Value) → Act} {I : World → Prop} {F : Nat → Value → World → Prop} : ∀ {l : List Oper} {k : Nat}, LSteps P ops Q frame I F l k → ∀ {i : Nat} {o : Oper}, l[i]? = some o → (i + 1 < l.length → RStep P ops Q frame I F (k + i) o) ∧ (i + 1 = l.length → LastStep P ops Q frame I F (k + i) o)
  | [], _, _, _, _, h => by simp at h
  | [_], _, h, 0, _, ho => by cases ho; exact ⟨fun h' => by simp at h', fun _ => h⟩
  | [_], _, _, i + 1, _, ho => by simp at ho
  | _ :: _ :: _, _, h, 0, _, ho => by cases ho; exact ⟨fun _ => h.1, fun h' => by simp at h'⟩
  | _ :: b :: l, k, h, i + 1, o, ho => by
    have := LSteps.get (l := b :: l) h.2 (i := i) (o := o) (by simpa using ho)
    rw [show k + (i + 1) = k + 1 + i from by omega]
    simp only [List.length_cons] at this ⊢
    exact ⟨fun h' => this.1 (by omega), fun h' => this.2 (by omega)⟩

theorem region_facts_last {P : Program} {ops : Array Oper} {Q : Exit → Act → World → Prop} {id : Nat} {a : Act} {w : World} (I : World → Prop) (L : List (Value → World → Prop)) (hL : StableAll L) (hm : P.follows .mixedOrders = true) (hdag : dagB ops.toList 0 = true) (hap : apartB ops.toList = true) (hsink : sinkB ops = true)
    (h0 : I w.drew) (hstep : LSteps P ops Q (frameOf a ops.toList 0) I (factOf L) ops.toList 0) (hne : 0 < ops.size) : (Code.region id ops true).wp P Q a w := by
  have hopt : ∀ {i : Nat} {o : Oper}, ops.toList[i]? = some o → ops[i]? = some o := fun h => by simpa using h
  refine region_by_inv (fun M f W => (∀ (i : Nat) (o : Oper), ops[i]? = some o → M i = true → ∀ j, waitsOn o j = true → M j = true) ∧ (M (ops.size - 1) = false → I W ∧ ∀ j, j < ops.size - 1 → M j = true → factOf L j (f j) W) ∧ (M (ops.size - 1) = true → (∀ j, j < ops.size - 1 → M j = true) ∧ Q .normal (frameOf a ops.toList 0 f) W)) hm hdag hap
    (fun f => ⟨(fun _ _ _ h => by cases h), (fun _ => ⟨h0, (fun _ _ h => by cases h)⟩), (fun h => by cases h)⟩) ?_ (fun M f W hall hG => (hG.2.2 (hall _ (by omega))).2)
  have build : ∀ (l : List Oper) (k : Nat), (∀ i o, l[i]? = some o → GStep P ops Q (frameOf a ops.toList 0) (fun M f W => (∀ (i : Nat) (o : Oper), ops[i]? = some o → M i = true → ∀ j, waitsOn o j = true → M j = true) ∧ (M (ops.size - 1) = false → I W ∧ ∀ j, j < ops.size - 1 → M j = true → factOf L j (f j) W) ∧ (M (ops.size - 1) = true → (∀ j, j < ops.size - 1 → M j = true) ∧ Q .normal (frameOf a ops.toList 0 f) W)) (k + i) o) → GSteps P ops Q (frameOf a ops.toList 0) (fun M f W => (∀ (i : Nat) (o : Oper), ops[i]? = some o → M i = true → ∀ j, waitsOn o j = true → M j = true) ∧ (M (ops.size - 1) = false → I W ∧ ∀ j, j < ops.size - 1 → M j = true → factOf L j (f j) W) ∧ (M (ops.size - 1) = true → (∀ j, j < ops.size - 1 → M j = true) ∧ Q .normal (frameOf a ops.toList 0 f) W)) l k := by
    intro l
    induction l with
    | nil => intro _ _; trivial
    | cons o l ih =>
      intro k h
      exact ⟨h 0 o rfl, ih (k + 1) fun i o' ho => by rw [show k + 1 + i = k + (i + 1) from by omega]; exact h (i + 1) o' (by simpa using ho)⟩
  refine build _ 0 fun i o ho => ?_
  rw [Nat.zero_add]
  have hi : i < ops.size := by have := (List.getElem?_eq_some_iff.1 ho).1; simpa using this
  have hg := LSteps.get hstep ho
  rw [Nat.zero_add] at hg
  simp only [Array.length_toList] at hg
  intro M f W hMi hwait hG K hK
  have hdg : ∀ j, waitsOn o j = true → j < i := fun j hj => by
    simp only [waitsOn, Array.any_eq_true', Bool.and_eq_true, beq_iff_eq] at hj
    obtain ⟨e, he, hbe, rfl⟩ := hj
    have := dagB_get hdag ho e he hbe
    omega
  have hclosed : ∀ (i' : Nat) (o' : Oper), ops[i']? = some o' → updL M i i' = true → ∀ j, waitsOn o' j = true → updL M i j = true := by
    intro i' o' ho' hi' j hj
    simp only [updL] at hi' ⊢
    split
    · rfl
    · by_cases e : i' = i
      · subst e
        rw [hopt ho] at ho'
        cases ho'
        exact hwait j hj
      · rw [if_neg e] at hi'
        exact hG.1 i' o' ho' hi' j hj
  by_cases hlast : i = ops.size - 1
  · -- the last one
    have hMl : M (ops.size - 1) = false := by rw [← hlast]; exact hMi
    have hall : ∀ j, j < ops.size - 1 → M j = true := fun j hj => sink_all hsink (L := M) (fun i' o' ho' h j hj => by
      rcases h with h | h
      · exact hG.1 i' o' ho' h j hj
      · rw [h, ← hlast, hopt ho] at ho'
        cases ho'
        exact hwait j hj) (ops.size - 1 - j) j (by omega) hj
    obtain ⟨hI, hF⟩ := hG.2.1 hMl
    refine hg.2 (by omega) f W hI (fun j hj => hF j (by omega) (hall j (by omega))) K (Lib.hid fun v a' w' ha hq => hK.out v a' w' ha ⟨hclosed, fun h => ?_, fun _ => ⟨fun j hj => ?_, hq⟩⟩)
    · simp only [updL] at h; rw [if_pos hlast.symm] at h; cases h
    · simp only [updL]; rw [if_neg (by omega)]; exact hall j hj
  · have hMl : M (ops.size - 1) = false := by
      cases hb : M (ops.size - 1) with
      | false => rfl
      | true => have := (hG.2.2 hb).1 i (by omega); rw [hMi] at this; cases this
    obtain ⟨hI, hF⟩ := hG.2.1 hMl
    refine hg.1 (by omega) f W hI (fun j hj => hF j (by have := hdg j hj; omega) (hwait j hj)) K (Lib.hid fun v a' w' ha hI' hB hf => hK.out v a' w' ha ⟨hclosed, fun _ => ⟨hI', fun j hj hjt => ?_⟩, fun h => ?_⟩)
    · simp only [updL, upd] at hjt ⊢
      by_cases e : j = i
      · subst e; rw [if_pos rfl]; exact hf
      · rw [if_neg e] at hjt ⊢
        exact factOf_stable hL j _ _ _ (hF j hj hjt) hB
    · simp only [updL] at h; rw [if_neg (fun e => hlast e.symm), hMl] at h; cases h

end Go.Proofs.YtnmhnaanpjlniaaGreat
/-
  Layer 3: what is visited of a term, one by one: the iterator.
-/
namespace Go.Proofs.YtnmhnaanpjlniaaGreat
open Go.RowKit
attribute [local go_sem] Oper.semAt_some

/-- visited nodes with their numbers -/
def num : Nat → List Nd → List (Nat × Nd)
  | _, [] => []
  | i, x :: l => (i + 1, x) :: num (i + 1) l

theorem num_length : ∀ (i : Nat) (l : List Nd), (num i l).length = l.length
  | _, [] => rfl
  | i, _ :: l => by simp [num, num_length (i + 1) l]

def todo : List Ent → List Nd
  | [] => []
  | e :: st => elems e.ts ++ todo st

theorem SubAt.old {S : Nat} {σ : Sb} {n : Nat} {w w' : World} (h : SubAt S σ n w) (hb : ∀ b, b < w.heap.size → w'.heap[b]? = w.heap[b]?) : SubAt S σ n w' := by
  obtain ⟨p, hh, h1, h2, h3, h4⟩ := h.cells
  refine ⟨⟨p, hh, (hb S h.lt).trans h1, h2, h3.stay (Nat.le_refl _) (fun b hx => hb b ?_), h4⟩, h.ends, fun v x hx => ⟨(h.at_ v x hx).1.stay (fun b o hlt => World.cell?_of_block (a := ⟨b, o, none⟩) (hb b hlt)), (h.at_ v x hx).2⟩⟩
  rcases hx with ⟨_, _, h⟩ | ⟨_, _, h⟩
  all_goals exact (Array.getElem?_eq_some_iff.1 h).1

/-- between two rounds -/
structure Vst (σ : Sb) (w0 : World) (B1 : Nat) (Sb Sv : Nat) (M : Nat → Prop) (all : List (Nat × Nd)) (J : List (Nat × Nd) → World → Prop) (j : Nat) (v : Value) (pre : List (Nat × Nd)) (st : List Ent) (f : Nat) (wr : World) : Prop where
  row : wr.ownsRow (B1 + 1) 23 1 v st.length (st.reverse.map Ent.val)
  size : B1 < wr.heap.size
  ents : ∀ e ∈ st, e.ts ≠ .nil ∧ (e.ts.len ≤ e.c ∧ e.c ≤ 9223372036854775807) ∧ e.ts.ok ∧ Ts.AtP (fun b => b < w0.heap.size ∨ b = B1) wr e.p e.ts
  all_ : pre ++ num j (vis σ f (todo st)) = all
  jl : pre.length = j
  fuel : j + f = 4097
  J_ : J pre wr
  old : ∀ b, b < w0.heap.size → wr.heap[b]? = w0.heap[b]?
  box : wr.cell? ⟨Sb, 0, none⟩ = some (.pointer (some ⟨Sv, 0, none⟩))
  stl : st.length ≤ j + 1

theorem wk_cases {σ : Sb} (hE : Ends σ) (t : Nd) : wk σ t = t ∨ ∃ v, σ v = some (wk σ t) := by
  have h := wk_spec hE t
  generalize wk σ t = r at *
  generalize wkn σ t = m at *
  induction h with
  | stop _ => exact .inl rfl
  | go _ hb _ ih =>
    rcases ih with h | h
    · exact .inr ⟨_, by rw [hb, h]⟩
    · exact .inr h

theorem grownBy_of_below {w w' : World} (h : Below w.heap.size w w') : w.grownBy w' none := ⟨h.os, h.tape, h.output, h.size, fun k hk _ => h.block k hk⟩

theorem AtP_mono {P Q : Nat → Prop} (h : ∀ b, P b → Q b) {w : World} : ∀ (ts : Ts) {b o : Nat}, Ts.liesP P w b o ts → Ts.liesP Q w b o ts
  | .nil, _, _, _ => trivial
  | .cons _ _ _ _ _ kids rest, _, _, ⟨h0, h1, h2, h3, h4, ⟨b', o', h5, h6⟩, h7⟩ => ⟨h _ h0, h1, h2, h3, h4, ⟨b', o', h5, AtP_mono h kids h6⟩, AtP_mono h rest h7⟩

theorem elems_ne {ts : Ts} (h : ts ≠ .nil) : ∃ k s n p c kids rest, ts = .cons k s n p c kids rest := by
  cases ts with
  | nil => exact absurd rfl h
  | cons k s n p c kids rest => exact ⟨k, s, n, p, c, kids, rest, rfl⟩

set_option maxRecDepth 100000 in
set_option maxHeartbeats 4000000 in
theorem visits_seq (S : Nat) (σ : Sb) (m : Nat) (w0 : World) (hS : SubAt S σ m w0) (t : Nd) (hok : t.ok) (hat : Ts.At w0 t.p t.kids) (hsz : t.kids.size ≤ 5000) (M : Nat → Prop) (Tb Sb : Nat) (w : World) (hB0 : Below w0.heap.size w0 w) (hM : ∀ b, M b → w0.heap.size ≤ b ∧ b < w.heap.size)
    (hTb : BoxIs Tb t w) (hSb : w.cell? ⟨Sb, 0, none⟩ = some (.pointer (some ⟨S, 0, none⟩))) (hTM : ¬ M Tb) (hSM : ¬ M Sb) :
    Seq Fence.wide 7 Tryz.prog 102 #[.pointer (some ⟨Tb, 0, none⟩), .pointer (some ⟨Sb, 0, none⟩)] (fun x : Nat × Nd => #[.int .i64 x.1, x.2.val]) (fun _ => M) (fun ys => ys = num 0 (vis σ 4097 [t])) (fun pre => pre <+: num 0 (vis σ 4097 [t])) w := by
  intro l J Jx W hBW hnew _ hJ hJx hY h0
  have hbox' : BoxIs Tb t W := hTb.of_block (hBW.block _ hTb.lt)
  have hsb' : W.cell? ⟨Sb, 0, none⟩ = some (.pointer (some ⟨S, 0, none⟩)) := (hBW.cell (p := ⟨Sb, 0, none⟩) (World.block_lt_of_cell? _ _ hSb)).trans hSb
  have hSbl := World.block_lt_of_cell? _ _ hSb
  have c0 := hbox'.c0
  have c1 := hbox'.c1
  have c2 := hbox'.c2
  have c3 := hbox'.c3
  have H1 := Lib.hid hnew
  have H3 := Lib.hid hJ
  have H4 := Lib.hid hJx
  have H5 := Lib.hid hY
  have H6 := Lib.hid h0
  have HS := Lib.hid hS
  have SB1 := Lib.hid hsb'
  have HSM := Lib.hid hSM
  have HM := Lib.hid hM
  have OK := Lib.hid hok
  have AT := Lib.hid hat
  clear hnew hJ hJx hY h0 hsb' hTb hSb hbox' hS hSM hTM hM hok hat
  refine callsIn_of_wp Tryz.func102 rfl trivial ?_ rfl
  simp only [Tryz.ntmps102, List.size_toArray, List.length_cons, List.length_nil, Nat.reduceAdd, Nat.reduceSub, Array.replicate_succ, Array.replicate_zero, List.push_toArray, List.append_toArray, List.nil_append, List.cons_append]
  gi_wp2
  gi_loopw [4, 5] (fun s4 v wr => ∃ (j : Nat) (pre : List (Nat × Nd)) (st : List Ent) (f : Nat), s4 = .int .i64 j ∧ j ≤ 4096 ∧ Vst σ w0 W.heap.size Sb S M (num 0 (vis σ 4097 [t])) J j v pre st f wr) (fun s4 _ _ => 4097 - (intOf s4).toNat)
  case atStart =>
    have hgr : W.grownBy (W.alloc (.cells #[.int .u8 t.k, .string t.s, .int .i64 t.n, .slice t.p t.kids.len t.c] 25)) none := World.grownBy_alloc _ _ none
    have hgr2 : (W.alloc (.cells #[.int .u8 t.k, .string t.s, .int .i64 t.n, .slice t.p t.kids.len t.c] 25)).grownBy ((W.alloc (.cells #[.int .u8 t.k, .string t.s, .int .i64 t.n, .slice t.p t.kids.len t.c] 25)).alloc (.cells #[.slice (some ⟨W.heap.size, 0, none⟩) 1 1] 23)) none := World.grownBy_alloc _ _ none
    have hWs := hBW.size
    have hws := hB0.size
    have hb2 : ∀ x, x < W.heap.size → ((W.alloc (.cells #[.int .u8 t.k, .string t.s, .int .i64 t.n, .slice t.p t.kids.len t.c] 25)).alloc (.cells #[.slice (some ⟨W.heap.size, 0, none⟩) 1 1] 23)).heap[x]? = W.heap[x]? := fun x hx => (hgr2.block x (by simp; omega) (by simp)).trans (hgr.block x hx (by simp))
    have hold : ∀ x, x < w0.heap.size → ((W.alloc (.cells #[.int .u8 t.k, .string t.s, .int .i64 t.n, .slice t.p t.kids.len t.c] 25)).alloc (.cells #[.slice (some ⟨W.heap.size, 0, none⟩) 1 1] 23)).heap[x]? = w0.heap[x]? := fun x hx => (hb2 x (by omega)).trans ((hBW.block x (by omega)).trans (hB0.block x hx))
    have hbx : BoxIs W.heap.size t ((W.alloc (.cells #[.int .u8 t.k, .string t.s, .int .i64 t.n, .slice t.p t.kids.len t.c] 25)).alloc (.cells #[.slice (some ⟨W.heap.size, 0, none⟩) 1 1] 23)) := (BoxIs.new W t _).below ((Below.refl _ _).alloc (Nat.le_refl _) _)
    have hrow := World.ownsRow_lit (base := W.heap.size + 1) (e := 23) (size := 1) (W.alloc (.cells #[.int .u8 t.k, .string t.s, .int .i64 t.n, .slice t.p t.kids.len t.c] 25)) #[.slice (some ⟨W.heap.size, 0, none⟩) 1 1] 1 (by simp) (by unfold maxLen; omega) rfl
    rw [World.size_alloc] at hrow
    refine ⟨0, [], [⟨some ⟨W.heap.size, 0, none⟩, .cons t.k t.s t.n t.p t.c t.kids .nil, 1⟩], 4097, rfl, by omega, hrow, by simp; omega, fun e he => ?_, ?_, rfl, rfl, ?_, hold, ?_, by simp⟩
    · obtain rfl : e = ⟨some ⟨W.heap.size, 0, none⟩, .cons t.k t.s t.n t.p t.c t.kids .nil, 1⟩ := by simpa using he
      obtain ⟨b2, o2, h3, h4⟩ := AT.out.atP
      refine ⟨by simp, ⟨by simp [Ts.len], by simp⟩, OK.out, W.heap.size, 0, .inr rfl, .inr rfl, hbx.c0, hbx.c1, hbx.c2, hbx.c3, ⟨b2, o2, h3, AtP_mono (fun b hb => .inl hb) t.kids (Ts.liesP_stay (fun x hx _ => hold x hx) t.kids h4)⟩, trivial⟩
    · simp [todo, elems]
    · exact H3.out _ _ _ none (H3.out _ _ _ none H6.out hgr (fun r e => by cases e)) hgr2 (fun r e => by cases e)
    · have hl : Sb < W.heap.size := by omega
      exact (World.cell?_of_block (w := W) (a := ⟨Sb, 0, none⟩) (hb2 Sb hl)).trans SB1.out
  case round =>
    obtain ⟨j, pre, st, f, rfl, hj, V⟩ := hrel
    have VV := Lib.hid V
    have hrow := V.row
    have hBs := V.size
    have hstl := V.stl
    have hfuel := V.fuel
    clear V
    cases st with
    | nil =>
      change wr.ownsRow _ _ 1 _ 0 [] at hrow
      have JE : Hid (J (num 0 (vis σ 4097 [t])) wr) := Lib.hid (by have h := VV.out.all_; simp only [todo, vis_nil, num, List.append_nil] at h; rw [← h]; exact VV.out.J_)
      rcases _root_.Go.Joins.ownsRow_forms hrow with ⟨rfl, _⟩ | ⟨g, cg, rfl⟩
      · gi_wp2
        go_end0
        first | exact ⟨⟨_, rfl⟩, .inl JE.out⟩ | exact ⟨⟨_, rfl⟩, .inl ⟨_, rfl, JE.out⟩⟩
      · gi_wp2
        go_end0
        first | exact ⟨⟨_, rfl⟩, .inl JE.out⟩ | exact ⟨⟨_, rfl⟩, .inl ⟨_, rfl, JE.out⟩⟩
    | cons e st =>
      obtain ⟨g, cg, rfl⟩ := _root_.Go.Joins.ownsRow_form hrow (Nat.succ_pos _)
      have hce := hrow.cellAt st.length (by simp)
      have hcell : wr.cell? ⟨g, st.length, none⟩ = some e.val := by rw [hce]; simp
      have hfr := hrow.frozenAt st.length
      have hgb := hrow.lt g rfl
      have hcgl : st.length + 1 ≤ cg := by
        rcases hrow.2 with ⟨h, _⟩ | ⟨g', c', cur, h, _, _, h2, _⟩
        · cases h
        · cases h; exact h2
      have ROW := Lib.hid hrow
      clear hce hrow
      obtain ⟨ep, ets, ec⟩ := e
      obtain ⟨hne, ⟨hec, hec2⟩, hoke, hate⟩ := VV.out.ents _ (List.mem_cons_self ..)
      obtain ⟨kk, s1, nn, pp, cc, kids, rest, rfl⟩ := elems_ne hne
      obtain ⟨b, o, hpo, hb, l0, l1, l2, l3, ⟨b', o', hpp, hlk⟩, hlr⟩ := hate
      obtain rfl : ep = some ⟨b, o, none⟩ := by
        rcases hpo with h | h
        · cases h
        · exact h
      simp only [Ent.val, List.length_cons, Ts.len] at hcell hstl hec
      simp only [List.length_cons]
      change ec ≤ 9223372036854775807 at hec2
      have hec0 : 0 < ec := by omega
      have hnn : -9223372036854775808 ≤ nn ∧ nn ≤ 9223372036854775807 := hoke.2.2.1
      have hbw : b < wr.heap.size := World.block_lt_of_cell? _ _ l0
      have hgne : g ≠ b := by
        have := hBW.size
        have := hB0.size
        rcases hb with h | h
        · omega
        · omega
      have hsb := VV.out.box
      have SBr : Hid (SubAt S σ m wr) := Lib.hid (HS.out.old VV.out.old)
      have hidx : ((st.length : Nat) : Int) < (st.length : Int) + 1 := by omega
      have SBL : Hid (Sb < wr.heap.size) := Lib.hid (World.block_lt_of_cell? _ _ hsb)
      gi_upto_region 4 with fail
      gi_cut [7] from 11 (fun s7 wc => ∃ T, s7 = .pointer (some ⟨T, 0, none⟩) ∧ Hid (BoxIs T (wk σ ⟨kk, s1, nn, pp, cc, kids⟩) wc) ∧ Hid (Below wr.heap.size wr wc) ∧ wr.heap.size ≤ T ∧ T < wc.heap.size)
      case first =>
        refine wpIn_wide.2 ?_
        refine region_facts_last (fun W_ => Below wr.heap.size wr W_) [fun u _ => u = .pointer (some ⟨S, 0, none⟩), fun u _ => u = .slice (some ⟨g, 0, none⟩) (st.length + 1) cg, fun u _ => u = .int .i64 (st.length : Nat), fun u _ => u = .pointer (some ⟨g, st.length, none⟩), fun u _ => u = .slice (some ⟨b, o, none⟩) (rest.len + 1) ec, fun u _ => u = .pointer (some ⟨b, o, none⟩), fun u _ => u = .agg #[.int .u8 kk, .string s1, .int .i64 nn, .slice pp kids.len cc], fun u _ => u = (wk σ ⟨kk, s1, nn, pp, cc, kids⟩).val, fun u W => ∃ T, u = .pointer (some ⟨T, 0, none⟩) ∧ BoxIs T ⟨0, ⟨#[]⟩, 0, none, 0, .nil⟩ W ∧ wr.heap.size ≤ T]
          ⟨.eq _, .eq _, .eq _, .eq _, .eq _, .eq _, .eq _, .eq _, (fun _ _ _ ⟨T, h1, h2, h3⟩ hB => ⟨T, h1, h2.below hB, h3⟩), trivial⟩ (by kernel_rfl) (by kernel_rfl) (by kernel_rfl) (by kernel_rfl) (Below.refl _ _).drew ?_ (by decide)
        refine ⟨?_, ?_, ?_, ?_, ?_, ?_, ?_, ?_, ?_, ?_⟩
        · intro g_ W_ hI hd K hK
          simp only [frameOf, Act.put, List.setIfInBounds_toArray, List.set_cons_zero, List.set_cons_succ]
          have c0 := (hI.cell (p := ⟨Sb, 0, none⟩) SBL.out).trans hsb
          go_simp
          refine hK.out (.pointer (some ⟨S, 0, none⟩)) _ W_ ?_ hI (Below.refl _ _) rfl
          simp only [frameOf, Act.put, List.setIfInBounds_toArray, List.set_cons_zero, List.set_cons_succ, Nat.zero_add, Nat.reduceAdd]
        · intro g_ W_ hI hd K hK
          simp only [frameOf, Act.put, List.setIfInBounds_toArray, List.set_cons_zero, List.set_cons_succ]
          go_simp
          refine hK.out (.slice (some ⟨g, 0, none⟩) (st.length + 1) cg) _ W_ ?_ hI (Below.refl _ _) rfl
          simp only [frameOf, Act.put, List.setIfInBounds_toArray, List.set_cons_zero, List.set_cons_succ, Nat.zero_add, Nat.reduceAdd]
        · intro g_ W_ hI hd K hK
          simp only [frameOf, Act.put, List.setIfInBounds_toArray, List.set_cons_zero, List.set_cons_succ]
          go_simp
          refine hK.out (.int .i64 (st.length : Nat)) _ W_ ?_ hI (Below.refl _ _) rfl
          simp only [frameOf, Act.put, List.setIfInBounds_toArray, List.set_cons_zero, List.set_cons_succ, Nat.zero_add, Nat.reduceAdd]
        · intro g_ W_ hI hd K hK
          simp only [frameOf, Act.put, List.setIfInBounds_toArray, List.set_cons_zero, List.set_cons_succ]
          have h1 : g_ 1 = .slice (some ⟨g, 0, none⟩) (st.length + 1) cg := hd 1 (by kernel_rfl)
          have h2 : g_ 2 = .int .i64 (st.length : Nat) := hd 2 (by kernel_rfl)
          rw [h1, h2]
          go_simp
          refine hK.out (.pointer (some ⟨g, st.length, none⟩)) _ W_ ?_ hI (Below.refl _ _) rfl
          simp only [frameOf, Act.put, List.setIfInBounds_toArray, List.set_cons_zero, List.set_cons_succ, Nat.zero_add, Nat.reduceAdd, h1, h2]
        · intro g_ W_ hI hd K hK
          simp only [frameOf, Act.put, List.setIfInBounds_toArray, List.set_cons_zero, List.set_cons_succ]
          have h3 : g_ 3 = .pointer (some ⟨g, st.length, none⟩) := hd 3 (by kernel_rfl)
          rw [h3]
          have c0 := (hI.cell (p := ⟨g, st.length, none⟩) hgb.2).trans hcell
          go_simp
          refine hK.out (.slice (some ⟨b, o, none⟩) (rest.len + 1) ec) _ W_ ?_ hI (Below.refl _ _) rfl
          simp only [frameOf, Act.put, List.setIfInBounds_toArray, List.set_cons_zero, List.set_cons_succ, Nat.zero_add, Nat.reduceAdd, h3]
        · intro g_ W_ hI hd K hK
          simp only [frameOf, Act.put, List.setIfInBounds_toArray, List.set_cons_zero, List.set_cons_succ]
          have h4 : g_ 4 = .slice (some ⟨b, o, none⟩) (rest.len + 1) ec := hd 4 (by kernel_rfl)
          rw [h4]
          go_simp
          refine hK.out (.pointer (some ⟨b, o, none⟩)) _ W_ ?_ hI (Below.refl _ _) rfl
          simp only [frameOf, Act.put, List.setIfInBounds_toArray, List.set_cons_zero, List.set_cons_succ, Nat.zero_add, Nat.reduceAdd, h4]
        · intro g_ W_ hI hd K hK
          simp only [frameOf, Act.put, List.setIfInBounds_toArray, List.set_cons_zero, List.set_cons_succ]
          have h5 : g_ 5 = .pointer (some ⟨b, o, none⟩) := hd 5 (by kernel_rfl)
          rw [h5]
          have c0 := (hI.cell (p := ⟨b, o, none⟩) hbw).trans l0
          have c1 := (hI.cell (p := ⟨b, o + 1, none⟩) hbw).trans l1
          have c2 := (hI.cell (p := ⟨b, o + 2, none⟩) hbw).trans l2
          have c3 := (hI.cell (p := ⟨b, o + 3, none⟩) hbw).trans l3
          go_simp
          refine hK.out (.agg #[.int .u8 kk, .string s1, .int .i64 nn, .slice pp kids.len cc]) _ W_ ?_ hI (Below.refl _ _) rfl
          simp only [frameOf, Act.put, List.setIfInBounds_toArray, List.set_cons_zero, List.set_cons_succ, Nat.zero_add, Nat.reduceAdd, h5]
        · intro g_ W_ hI hd K hK
          simp only [frameOf, Act.put, List.setIfInBounds_toArray, List.set_cons_zero, List.set_cons_succ]
          have h0 : g_ 0 = .pointer (some ⟨S, 0, none⟩) := hd 0 (by kernel_rfl)
          have h6 : g_ 6 = .agg #[.int .u8 kk, .string s1, .int .i64 nn, .slice pp kids.len cc] := hd 6 (by kernel_rfl)
          rw [h0, h6]
          go_simp
          refine (walked_any S σ m W_ (SBr.out.below hI) kk s1 nn pp kids cc hnn).mono ?_
          rintro e w' ⟨rfl, hB⟩
          refine hK.out ((wk σ ⟨kk, s1, nn, pp, cc, kids⟩).val) _ _ ?_ (hI.trans (hB.mono hI.size)) hB rfl
          simp only [frameOf, Act.put, List.setIfInBounds_toArray, List.set_cons_zero, List.set_cons_succ, Nat.zero_add, Nat.reduceAdd, h0, h6]
        · intro g_ W_ hI hd K hK
          simp only [frameOf, Act.put, List.setIfInBounds_toArray, List.set_cons_zero, List.set_cons_succ]
          go_simp
          refine hK.out (.pointer (some ⟨W_.heap.size, 0, none⟩)) _ _ ?_ (hI.alloc hI.size _) ((Below.refl _ _).alloc (Nat.le_refl _) _) ⟨_, rfl, BoxIs.new W_ ⟨0, ⟨#[]⟩, 0, none, 0, .nil⟩ _, hI.size⟩
          simp only [frameOf, Act.put, List.setIfInBounds_toArray, List.set_cons_zero, List.set_cons_succ, Nat.zero_add, Nat.reduceAdd]
        · intro g_ W_ hI hd K hK
          simp only [frameOf, Act.put, List.setIfInBounds_toArray, List.set_cons_zero, List.set_cons_succ]
          obtain ⟨T, h8, hbx, hTw⟩ := hd 8 (by decide)
          have h7 : g_ 7 = (wk σ ⟨kk, s1, nn, pp, cc, kids⟩).val := hd 7 (by decide)
          rw [h8, h7]
          have x0 := hbx.c0
          have x1 := hbx.c1
          have x2 := hbx.c2
          have x3 := hbx.c3
          have xf := hbx.fr
          have BX := Lib.hid hbx
          have BI := Lib.hid hI
          clear hd hbx hI
          unfold Nd.val
          go_simp
          refine hK.out undef _ _ ?_ ?_
          · simp only [frameOf, Act.put, List.setIfInBounds_toArray, List.set_cons_zero, List.set_cons_succ, Nat.zero_add, Nat.reduceAdd, h8, h7]
            rfl
          · simp only [frameOf, Act.put, List.setIfInBounds_toArray, List.set_cons_zero, List.set_cons_succ]
            go_wp2
            gi_meet
            exact ⟨T, by simp [upd, h8], Lib.hid BX.out.put, Lib.hid (below_put4 BI.out hTw _ _ _ _), hTw, by simpa using BX.out.lt⟩
      case rest =>
        obtain ⟨T, rfl, BX, BC, hT, hTl⟩ := hcut
        rename World => wa
        obtain ⟨X, hX⟩ : ∃ X, wk σ ⟨kk, s1, nn, pp, cc, kids⟩ = X := ⟨_, rfl⟩
        rw [hX] at BX
        have HX := Lib.hid hX
        clear hX
        have hgc := (World.cell?_of_block (w := wr) (w' := wa) (a := ⟨g, st.length, none⟩) (BC.out.block g hgb.2)).trans hcell
        have hgf := (World.frozen?_of_block (w := wr) (w' := wa) (a := ⟨g, st.length, none⟩) (BC.out.block g hgb.2)).trans hfr
        have LR : Hid (Ts.liesP (fun b => b < w0.heap.size ∨ b = W.heap.size) wr b (o + 4) rest) := Lib.hid hlr
        have LK : Hid (Ts.AtP (fun b => b < w0.heap.size ∨ b = W.heap.size) wr pp kids) := Lib.hid ⟨b', o', hpp, hlk⟩
        have HB := Lib.hid hb
        have HOK := Lib.hid hoke
        clear hcell hfr l0 l1 l2 l3 hlr hpp hlk hsb hpo hb hoke
        gi_upto_region 5 with fail
        gi_cut [] from 11 (fun w5 => ∃ (q : Option Addr) (c' : Nat), Hid (w5 = wa.setCell ⟨g, st.length, none⟩ (.slice q rest.len c')) ∧ (rest.len ≤ c' ∧ c' ≤ 9223372036854775807) ∧ Hid (Ts.AtP (fun b => b < w0.heap.size ∨ b = W.heap.size) wr q rest))
        case first =>
          by_cases hec1 : ec = 1
          · have hrn : rest = .nil := Ts.len_zero (by omega)
            have RN := Lib.hid hrn
            clear hrn
            gi_wp2
            gi_meet
            exact ⟨some ⟨b, o, none⟩, 0, Lib.hid rfl, by rw [RN.out]; exact ⟨Nat.le_refl _, by omega⟩, Lib.hid (by rw [RN.out]; exact ⟨0, 0, .inl rfl, trivial⟩)⟩
          · gi_wp2
            gi_meet
            exact ⟨some ⟨b, o + 4, none⟩, ec - 1, Lib.hid rfl, by omega, Lib.hid ⟨b, o + 4, .inr rfl, LR.out⟩⟩
        case rest =>
          rename World => w5
          obtain ⟨q, c', W5, hq, ATQ⟩ := hcut
          have hrow0 := ownsRow_block ROW.out (BC.out.block g hgb.2)
          simp only [List.reverse_cons, List.map_append, List.map_cons, List.map_nil, List.length_cons] at hrow0
          obtain ⟨hrowS, hgrS⟩ := hrow0.stored st.length (.slice q rest.len c')
          rw [set_last _ _ _ _ (by simp), ← W5.out] at hrowS
          rw [← W5.out] at hgrS
          have hc5 : w5.cell? ⟨g, st.length, none⟩ = some (.slice q rest.len c') := by rw [hrowS.cellAt st.length (by simp)]; simp
          have hs5 : w5.heap.size = wa.heap.size := by rw [W5.out]; simp
          have hgM : ¬ M g := H1.out g (by omega)
          have hTg : T ≠ g := by omega
          have hfar : ∀ x, (x < w0.heap.size ∨ x = W.heap.size) → w5.heap[x]? = wr.heap[x]? := fun x hx => by
            have h1 := hBW.size
            have h2 := hB0.size
            have hxg : x ≠ g := by rcases hx with h | h <;> omega
            have hxr : x < wr.heap.size := by rcases hx with h | h <;> omega
            exact (hgrS.block x (by have := BC.out.size; omega) (by simpa using hxg)).trans (BC.out.block x hxr)
          have J5 : Hid (J pre w5) := Lib.hid (H3.out _ _ _ (some g) (H3.out _ _ _ none VV.out.J_ (grownBy_of_below BC.out) (fun r e => by cases e)) hgrS (fun r e => by cases e; exact ⟨by omega, hgM⟩))
          have BX5 : Hid (BoxIs T X w5) := Lib.hid (BX.out.of_block (hgrS.block T hTl (by simpa using hTg)))
          have OLD5 : Hid (∀ b, b < w0.heap.size → w5.heap[b]? = w0.heap[b]?) := Lib.hid fun x hx => (hfar x (.inl hx)).trans (VV.out.old x hx)
          have SB5 : Hid (w5.cell? ⟨Sb, 0, none⟩ = some (.pointer (some ⟨S, 0, none⟩))) := Lib.hid (by
            have h1 := World.block_lt_of_cell? _ _ VV.out.box
            have h1 : Sb < wr.heap.size := h1
            have h2 : Sb ≠ g := by have := hBW.size; omega
            exact ((World.cell?_of_block (w := wa) (w' := w5) (a := ⟨Sb, 0, none⟩) (hgrS.block Sb (by have := BC.out.size; omega) (by simpa using h2))).trans (World.cell?_of_block (w := wr) (w' := wa) (a := ⟨Sb, 0, none⟩) (BC.out.block Sb h1))).trans VV.out.box)
          have hsz5 : wr.heap.size < w5.heap.size := by omega
          have ENT : Hid (∀ e ∈ st, e.ts ≠ .nil ∧ (e.ts.len ≤ e.c ∧ e.c ≤ 9223372036854775807) ∧ e.ts.ok ∧ Ts.AtP (fun b => b < w0.heap.size ∨ b = W.heap.size) w5 e.p e.ts) := Lib.hid fun e he => by
            obtain ⟨h1, h2, h3, h4⟩ := VV.out.ents e (List.mem_cons_of_mem _ he)
            exact ⟨h1, h2, h3, h4.stay fun x hx _ => hfar x hx⟩
          have ATQ5 : Hid (Ts.AtP (fun b => b < w0.heap.size ∨ b = W.heap.size) w5 q rest) := Lib.hid (ATQ.out.stay fun x hx _ => hfar x hx)
          have LK5 : Hid (Ts.AtP (fun b => b < w0.heap.size ∨ b = W.heap.size) w5 pp kids) := Lib.hid (LK.out.stay fun x hx _ => hfar x hx)
          have ROW5 := Lib.hid hrowS
          clear hrow0 hrowS hgrS hfar hs5 hgc hgf W5 BC BX
          go_step
          gi_step
          gi_cut [5] from 11 (fun s5 w6 => ∃ st' : List Ent, s5 = .slice (some ⟨g, 0, none⟩) st'.length cg ∧ Hid (w6 = w5) ∧ Hid (w5.ownsRow (W.heap.size + 1) 23 1 (.slice (some ⟨g, 0, none⟩) st'.length cg) st'.length (st'.reverse.map Ent.val)) ∧
            Hid (∀ e ∈ st', e.ts ≠ .nil ∧ (e.ts.len ≤ e.c ∧ e.c ≤ 9223372036854775807) ∧ e.ts.ok ∧ Ts.AtP (fun b => b < w0.heap.size ∨ b = W.heap.size) w5 e.p e.ts) ∧ Hid (todo st' = elems rest ++ todo st) ∧ st'.length ≤ st.length + 1)
          case first =>
            have hfr5 := ROW5.out.frozenAt st.length
            by_cases hr0 : ((rest.len : Int) == 0) = true
            · have hrn : rest = .nil := Ts.len_zero (by simp at hr0; omega)
              have RN := Lib.hid hrn
              clear hrn
              gi_wp2
              gi_meet
              exact ⟨st, rfl, Lib.hid rfl, Lib.hid (ownsRow_pop (by simp) ROW5.out), ENT, Lib.hid (by rw [RN.out]; simp [elems]), by omega⟩
            · rw [Bool.not_eq_true] at hr0
              have hrn : rest ≠ .nil := fun e => by rw [e] at hr0; simp [Ts.len] at hr0
              have RN := Lib.hid hrn
              clear hrn
              gi_wp2
              gi_meet
              refine ⟨⟨q, rest, c'⟩ :: st, rfl, Lib.hid rfl, Lib.hid (by simpa [Ent.val] using ROW5.out), Lib.hid fun e he => ?_, Lib.hid rfl, by simp⟩
              rcases List.mem_cons.1 he with rfl | he
              · exact ⟨RN.out, hq, HOK.out.2.2.2.2.2.2, ATQ5.out⟩
              · exact ENT.out e he
          case rest =>
            obtain ⟨st', rfl, W6, ROW6, ENT6, TD6, hst'⟩ := hcut
            have hw6 := W6.out
            subst hw6
            clear W6
            rename World => w6
            obtain ⟨f', hf'⟩ : ∃ f', f = f' + 1 := ⟨f - 1, by omega⟩
            have hall : (pre ++ [(j + 1, X)]) ++ num (j + 1) (vis σ f' (elems X.kids ++ todo st')) = num 0 (vis σ 4097 [t]) := by
              rw [← VV.out.all_, hf', TD6.out]
              simp only [todo, elems, List.cons_append, vis, num, List.append_assoc, List.nil_append, HX.out]
            have hprel : pre ++ [(j + 1, X)] <+: num 0 (vis σ 4097 [t]) := ⟨_, hall⟩
            obtain ⟨fn, tmps, assign, body, hy, hR⟩ := H5.out pre (j + 1, X) w6 J5.out hprel
            have e1 : (((j + 1, X) : Nat × Nd).fst : Int) = (j : Int) + 1 := by simp
            have e2 : ((j + 1, X) : Nat × Nd).snd.val = .agg #[.int .u8 X.k, .string X.s, .int .i64 X.n, .slice X.p X.kids.len X.c] := rfl
            rw [e1, e2] at hy
            have x0 := BX5.out.c0
            have x1 := BX5.out.c1
            have x2 := BX5.out.c2
            have x3 := BX5.out.c3
            have hTM : ¬ M T := H1.out T (by omega)
            have hgM : ¬ M g := H1.out g (by omega)
            have hT6 : T < w6.heap.size := BX5.out.lt
            have hg6 : g < w6.heap.size := by have := hgb.2; omega
            have HALL := Lib.hid hall
            have HF' := Lib.hid hf'
            have HPRE := Lib.hid hprel
            clear e1 e2 hall hf' hprel
            by_cases hlast : ((j : Int) + 1 > 4096)
            · gi_wp2
              refine hR.mono ?_
              rintro e W3 (⟨rfl, hJ3, hk3⟩ | ⟨rfl, hJx3⟩)
              · have JE : Hid (J (num 0 (vis σ 4097 [t])) W3) := Lib.hid (by
                  have h2 := HF'.out
                  obtain rfl : f' = 0 := by omega
                  have h : pre ++ [(j + 1, X)] = num 0 (vis σ 4097 [t]) := by rw [← HALL.out]; simp [vis, num]
                  rw [← h]; exact hJ3)
                clear hJ3 hk3
                gi_wp2
                refine bodyPost_ret (results_none rfl _ _ _) rfl ?_
                first | exact ⟨⟨_, rfl⟩, .inl JE.out⟩ | exact ⟨⟨_, rfl⟩, .inl ⟨_, rfl, JE.out⟩⟩
              · have JX : Hid (∃ pre, pre <+: num 0 (vis σ 4097 [t]) ∧ Jx pre W3) := Lib.hid ⟨_, HPRE.out, hJx3⟩
                clear hJx3
                gi_wp2
                refine bodyPost_ret (results_none rfl _ _ _) rfl ?_
                exact ⟨⟨_, rfl⟩, .inr JX.out⟩
            · gi_wp2
              refine hR.mono ?_
              rintro e W3 (⟨rfl, hJ3, hk3⟩ | ⟨rfl, hJx3⟩)
              · have hs3 : w6.heap.size ≤ W3.heap.size := hk3.1
                have kept : ∀ x, (x < w.heap.size ∨ W.heap.size ≤ x) → x < w6.heap.size → ¬ M x → W3.heap[x]? = w6.heap[x]? := fun x h1 h2 h3 => (hk3.2.1 x h1 h2 h3).1
                have hold : ∀ x, x < w0.heap.size → ¬ M x := fun x hx hm => by have := (HM.out x hm).1; omega
                have hWs := hBW.size
                have hws := hB0.size
                have far3 : ∀ x, (x < w0.heap.size ∨ x = W.heap.size) → W3.heap[x]? = w6.heap[x]? := fun x hx => kept x (by omega) (by omega) (by
                  rcases hx with hx | hx
                  · exact hold x hx
                  · exact H1.out x (by omega))
                have XX3 : BoxIs T X W3 := BX5.out.of_block (kept T (.inr (by omega)) hT6 hTM)
                have z3 := XX3.c3
                have row3 := ownsRow_block ROW6.out (kept g (.inr (by omega)) hg6 hgM)
                have J3 := Lib.hid hJ3
                have F3 := Lib.hid far3
                have R3 := Lib.hid row3
                have O3 : Hid (∀ b, b < w0.heap.size → W3.heap[b]? = w0.heap[b]?) := Lib.hid fun x hx => (far3 x (.inl hx)).trans (OLD5.out x hx)
                have S3 : Hid (W3.cell? ⟨Sb, 0, none⟩ = some (.pointer (some ⟨S, 0, none⟩))) := Lib.hid ((World.cell?_of_block (w := w6) (w' := W3) (a := ⟨Sb, 0, none⟩) (kept Sb (.inl hSbl) (World.block_lt_of_cell? _ _ SB5.out) HSM.out)).trans SB5.out)
                have E3 : Hid (∀ e ∈ st', e.ts ≠ .nil ∧ (e.ts.len ≤ e.c ∧ e.c ≤ 9223372036854775807) ∧ e.ts.ok ∧ Ts.AtP (fun b => b < w0.heap.size ∨ b = W.heap.size) W3 e.p e.ts) := Lib.hid fun e he => by
                  obtain ⟨h1, h2, h3, h4⟩ := ENT6.out e he
                  exact ⟨h1, h2, h3, h4.stay fun x hx _ => far3 x hx⟩
                have XK : Hid (X.ok ∧ Ts.AtP (fun b => b < w0.heap.size ∨ b = W.heap.size) W3 X.p X.kids) := Lib.hid (by
                  rcases wk_cases HS.out.ends ⟨kk, s1, nn, pp, cc, kids⟩ with h | ⟨v, h⟩
                  · rw [HX.out] at h
                    rw [h]
                    exact ⟨⟨HOK.out.1, HOK.out.2.1, HOK.out.2.2.1, HOK.out.2.2.2.1, HOK.out.2.2.2.2.1, HOK.out.2.2.2.2.2.1, trivial⟩, LK5.out.stay fun x hx _ => far3 x hx⟩
                  · rw [HX.out] at h
                    obtain ⟨h1, h2, _⟩ := HS.out.at_ v X h
                    obtain ⟨b2, o2, h3, h4⟩ := h1.atP
                    exact ⟨h2, b2, o2, h3, AtP_mono (fun b hb => .inl hb) X.kids (Ts.liesP_stay (w := w0) (w' := W3) (fun x hx _ => O3.out x hx) X.kids h4)⟩)
                have hsz3 : W.heap.size < W3.heap.size := by omega
                have HS3 := Lib.hid hs3
                clear hJ3 hk3 kept hold far3 XX3 row3 hs3
                by_cases hk0 : (0 < X.kids.len)
                · have hkn : X.kids ≠ .nil := fun e => by rw [e] at hk0; simp [Ts.len] at hk0
                  have KN := Lib.hid hkn
                  have hk0' : (0 : Int) < (X.kids.len : Int) := by omega
                  clear hkn
                  obtain ⟨i0, hi, hz0, hz1, hz2⟩ := info_parts infoTerms
                  have hb1 : st'.length + 1 ≤ maxLen := by unfold maxLen; omega
                  have hb2 : (st'.length + 1) * 24 ≤ 140737488355328 := by omega
                  have hb3 : W.heap.size + 1 ≤ (W3.alloc (.cells #[.slice X.p X.kids.len X.c] 23)).heap.size := by simp; omega
                  gi_wp2_with (gi_at_builtin; refine wpListIn_append_own_at _ rfl _ _ 118 rfl (W.heap.size + 1) 23 i0 (.slice none 0 0) 1 24 Tryz.underlying118 hi hz0 hz1 hz2 rfl (by decide) _ _ _ rfl (R3.out.alloc _) ⟨W3.heap.size, 0, none⟩ 1 1 [.slice X.p X.kids.len X.c] rfl rfl (cell_one_new _ _ _) (by simp [Value.oneCell']) hb1 hb2 hb3 ?_; intro v' w1 hown' hgrow hnil hob; obtain ⟨g', cap', rfl⟩ := ownsRow_succ hown')
                  have hgrow : (W3.alloc (.cells #[.slice X.p X.kids.len X.c] 23)).grownBy w1 (some g) := hgrow
                  have hgrB : W3.grownBy (W3.alloc (.cells #[.slice X.p X.kids.len X.c] 23)) none := World.grownBy_alloc _ _ none
                  have hgb1 := hgb.1
                  have hs3 := HS3.out
                  have hWs := hBW.size
                  have hws := hB0.size
                  have far : ∀ x, (x < w0.heap.size ∨ x = W.heap.size) → w1.heap[x]? = W3.heap[x]? := fun x hx => by
                    have hxg : x ≠ g := by omega
                    rw [hgrow.block x (by simp; omega) (by simpa using hxg), Below.heap_alloc _ _ _ (by omega)]
                  have J1 := H3.out _ _ _ (some g) (H3.out _ _ _ none J3.out hgrB (fun r e => by cases e)) hgrow (fun r e => by cases e; exact ⟨by omega, hgM⟩)
                  have hsz1 : (W3.alloc (.cells #[.slice X.p X.kids.len X.c] 23)).heap.size ≤ w1.heap.size := hgrow.size
                  simp only [World.size_alloc] at hsz1
                  have hSbg : Sb ≠ g := by omega
                  go_roundw
                  case rel =>
                    refine ⟨j + 1, pre ++ [(j + 1, X)], ⟨X.p, X.kids, X.c⟩ :: st', f', by go_num, by omega, by simpa [Ent.val] using hown', by omega, fun e he => ?_, HALL.out, ?_, ?_, J1, fun x hx => (far x (.inl hx)).trans (O3.out x hx), ?_, ?_⟩
                    · rcases List.mem_cons.1 he with rfl | he
                      · exact ⟨KN.out, XK.out.1.2.2.2.1, XK.out.1.2.2.2.2.2.1, XK.out.2.stay fun x hx _ => far x hx⟩
                      · obtain ⟨h1, h2, h3, h4⟩ := E3.out e he
                        exact ⟨h1, h2, h3, h4.stay fun x hx _ => far x hx⟩
                    · have := VV.out.jl; simp; omega
                    · have := HF'.out; omega
                    · have hl : Sb < W3.heap.size := World.block_lt_of_cell? _ _ S3.out
                      refine (World.cell?_of_block (w := W3) (w' := w1) (a := ⟨Sb, 0, none⟩) ?_).trans S3.out
                      show w1.heap[Sb]? = W3.heap[Sb]?
                      rw [hgrow.block Sb (by simp; omega) (by simpa using hSbg), Below.heap_alloc _ _ _ hl]
                    · simp; omega
                  case measure => simp [intOf]; omega
                · have hkn : X.kids = .nil := Ts.len_zero (by omega)
                  have KN := Lib.hid hkn
                  clear hkn
                  gi_wp2
                  go_roundw
                  case rel =>
                    refine ⟨j + 1, pre ++ [(j + 1, X)], st', f', by go_num, by omega, R3.out, hsz3, E3.out, ?_, ?_, ?_, J3.out, O3.out, S3.out, by omega⟩
                    · have h := HALL.out
                      rw [KN.out] at h
                      simpa [elems] using h
                    · have := VV.out.jl; simp; omega
                    · have := HF'.out; omega
                  case measure => simp [intOf]; omega
              · have JX : Hid (∃ pre, pre <+: num 0 (vis σ 4097 [t]) ∧ Jx pre W3) := Lib.hid ⟨_, HPRE.out, hJx3⟩
                clear hJx3
                gi_wp2
                refine bodyPost_ret (results_none rfl _ _ _) rfl ?_
                exact ⟨⟨_, rfl⟩, .inr JX.out⟩

end Go.Proofs.YtnmhnaanpjlniaaGreat
