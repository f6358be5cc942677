import Derived.Test.YtflomdnjabgnaaaAe
/-
  A law for a region that draws its order and whose last two operations stand one behind the other: the one but last may write; each of the others leaves a fact that no growth of memory takes away.
-/
namespace Go.Proofs.Ytflomdnjabgnaaa
open Go.RowKit

/-- each operation but the last two is waited for by one of those up to the one but last, and the last waits for the one but last -/
def sinkB2 (ops : Array Oper) : Bool := ((List.range (ops.size - 2)).all fun j => (List.range (ops.size - 1)).any fun k => decide (j < k) && ((ops[k]?.map fun o => waitsOn o j).getD false)) && ((ops[ops.size - 1]?.map fun o => waitsOn o (ops.size - 2)).getD false)

theorem sink_all2 {ops : Array Oper} (h : sinkB2 ops = true) {L : Nat → Bool} (hcl : ∀ (i : Nat) (o : Oper), ops[i]? = some o → (L i = true ∨ i = ops.size - 2) → ∀ j, waitsOn o j = true → L j = true) : ∀ (d j : Nat), j + d = ops.size - 2 → j < ops.size - 2 → L j = true := by
  intro d
  induction d using Nat.strongRecOn with
  | ind d ih =>
    intro j hj hlt
    simp only [sinkB2, Bool.and_eq_true, List.all_eq_true, List.mem_range, List.any_eq_true, decide_eq_true_eq] at h
    obtain ⟨k, hk, hjk, hw⟩ := h.1 j hlt
    cases ho : ops[k]? with
    | none => rw [ho] at hw; cases hw
    | some o =>
      rw [ho] at hw
      by_cases e : k = ops.size - 2
      · exact hcl k o ho (.inr e) j hw
      · exact hcl k o ho (.inl (ih (ops.size - 2 - k) (by omega) k (by omega) (by omega))) j hw

/-- the last operation, from what stands -/
def TailStep (P : Program) (ops : Array Oper) (Q : Exit → Act → World → Prop) (frame : (Nat → Value) → Act) (i : Nat) (o : Oper) (f : Nat → Value) (w : World) : Prop :=
  ∀ K : Act → World → Prop, Hid (∀ v a' w', a' = (frame f).put o.dst v → Q .normal (frame (upd f i v)) w' → K a' w') →
    if Region.wanted o (yielded ops (frame f).tmps) = true then Oper.wp P o (frame f) w K Q else K ((frame f).put o.dst undef) w

/-- an operation before the last two: as 'RStep', and the last one's slot is still as it was -/
def RStepZ (P : Program) (ops : Array Oper) (Q : Exit → Act → World → Prop) (frame : (Nat → Value) → Act) (I : World → Prop) (F : Nat → Value → World → Prop) (v0 : Value) (i : Nat) (o : Oper) : Prop :=
  ∀ (f : Nat → Value) (w : World), f (ops.size - 1) = v0 → I w → (∀ j, waitsOn o j = true → F j (f j) w) → ∀ K : Act → World → Prop, Hid (∀ v a' w', a' = (frame f).put o.dst v → I w' → Below w.heap.size w w' → F i v w' → K a' w') →
    if Region.wanted o (yielded ops (frame f).tmps) = true then Oper.wp P o (frame f) w K Q else K ((frame f).put o.dst undef) w

/-- 'region_by_inv' from the slots as they are -/
theorem region_by_inv0 {P : Program} {ops : Array Oper} {Q : Exit → Act → World → Prop} {id : Nat} {a : Act} {w : World} (G : (Nat → Bool) → (Nat → Value) → World → Prop) (hm : P.follows .mixedOrders = true) (hdag : dagB ops.toList 0 = true) (hap : apartB ops.toList = true)
    (h0 : G (fun _ => false) (fun j => slotOf a ((ops[j]?).bind (·.dst))) w.drew) (hstep : GSteps P ops Q (frameOf a ops.toList 0) G ops.toList 0)
    (hdone : ∀ L f w, (∀ j, j < ops.size → L j = true) → G L f w → Q .normal (frameOf a ops.toList 0 f) w) : (Code.region id ops true).wp P Q a w := by
  rw [← frameOf_self a ops ops.toList 0 fun k => by simp]
  refine wp_region_any hm ?_
  rw [frameOf_self a ops ops.toList 0 fun k => by simp]
  have h := any_inv hdag (puts_of _ _ (frameOf_put a _ _ hap)) hstep hdone ops.size (Array.replicate ops.size false) (fun j => slotOf a ((ops[j]?).bind (·.dst))) w.drew (by simp) (by simp) (by
    have e : (fun j => (Array.replicate ops.size false).getD j false) = fun _ => false := by
      funext j
      simp only [Array.getD]
      split <;> simp
    rw [e]
    exact h0)
  rw [frameOf_self a ops ops.toList 0 fun k => by simp] at h
  exact h

/-- the one but last: from the facts of all others to the last -/
def MidStep (P : Program) (ops : Array Oper) (Q : Exit → Act → World → Prop) (frame : (Nat → Value) → Act) (I : World → Prop) (F : Nat → Value → World → Prop) (v0 : Value) (i : Nat) (o o' : Oper) : Prop :=
  ∀ (f : Nat → Value) (w : World), f (ops.size - 1) = v0 → I w → (∀ j, j < i → F j (f j) w) → ∀ K : Act → World → Prop, Hid (∀ v a' w', a' = (frame f).put o.dst v → TailStep P ops Q frame (i + 1) o' (upd f i v) w' → K a' w') →
    if Region.wanted o (yielded ops (frame f).tmps) = true then Oper.wp P o (frame f) w K Q else K ((frame f).put o.dst undef) w

def MSteps (P : Program) (ops : Array Oper) (Q : Exit → Act → World → Prop) (frame : (Nat → Value) → Act) (I : World → Prop) (F : Nat → Value → World → Prop) (v0 : Value) : List Oper → Nat → Prop
  | [], _ => True
  | [_], _ => True
  | [o, o'], i => MidStep P ops Q frame I F v0 i o o'
  | o :: o' :: o'' :: l, i => RStepZ P ops Q frame I F v0 i o ∧ MSteps P ops Q frame I F v0 (o' :: o'' :: l) (i + 1)

theorem MSteps.get {P : Program} {ops : Array Oper} {Q : Exit → Act → World → Prop} {frame : (Nat → Value) → Act} {I : World → Prop} {F : Nat → Value → World → Prop} {v0 : Value} : ∀ {l : List Oper} {k : Nat}, MSteps P ops Q frame I F v0 l k → ∀ {i : Nat} {o : Oper}, l[i]? = some o → (i + 2 < l.length → RStepZ P ops Q frame I F v0 (k + i) o) ∧ (i + 2 = l.length → ∀ o', l[i + 1]? = some o' → MidStep P ops Q frame I F v0 (k + i) o o')
  | [], _, _, _, _, h => by simp at h
  | [_], _, h, 0, _, ho => ⟨fun h' => by simp at h', fun h' => by simp at h'⟩
  | [_], _, _, i + 1, _, ho => by simp at ho
  | [_, _], _, h, 0, _, ho => by cases ho; exact ⟨fun h' => by simp at h', fun _ o' ho' => by cases ho'; exact h⟩
  | [_, _], _, h, i + 1, _, ho => ⟨fun h' => by simp only [List.length_cons, List.length_nil] at h'; omega, fun h' => by simp only [List.length_cons, List.length_nil] at h'; omega⟩
  | _ :: _ :: _ :: _, _, h, 0, _, ho => by cases ho; exact ⟨fun _ => h.1, fun h' => by simp at h'⟩
  | _ :: b :: c :: l, k, h, i + 1, o, ho => by
    have := MSteps.get (l := b :: c :: l) h.2 (i := i) (o := o) (by simpa using ho)
    rw [show k + (i + 1) = k + 1 + i from by omega]
    simp only [List.length_cons] at this ⊢
    exact ⟨fun h' => this.1 (by omega), fun h' o' ho' => this.2 (by omega) o' (by simpa using ho')⟩

theorem region_facts_last2 {P : Program} {ops : Array Oper} {Q : Exit → Act → World → Prop} {id : Nat} {a : Act} {w : World} (I : World → Prop) (L : List (Value → World → Prop)) (hL : StableAll L) (hm : P.follows .mixedOrders = true) (hdag : dagB ops.toList 0 = true) (hap : apartB ops.toList = true) (hsink : sinkB2 ops = true) (v0 : Value) (hv0 : slotOf a ((ops[ops.size - 1]?).bind (·.dst)) = v0)
    (h0 : I w.drew) (hstep : MSteps P ops Q (frameOf a ops.toList 0) I (factOf L) v0 ops.toList 0) (hne : 1 < ops.size) : (Code.region id ops true).wp P Q a w := by
  have hopt : ∀ {i : Nat} {o : Oper}, ops.toList[i]? = some o → ops[i]? = some o := fun h => by simpa using h
  obtain ⟨ol, hol⟩ : ∃ ol, ops[ops.size - 1]? = some ol := ⟨_, Array.getElem?_eq_getElem (by omega)⟩
  have hwl : waitsOn ol (ops.size - 2) = true := by
    simp only [sinkB2, Bool.and_eq_true] at hsink
    have := hsink.2
    rw [hol] at this
    exact this
  let G : (Nat → Bool) → (Nat → Value) → World → Prop := fun M f W => (∀ (i : Nat) (o : Oper), ops[i]? = some o → M i = true → ∀ j, waitsOn o j = true → M j = true) ∧
    (M (ops.size - 1) = false → f (ops.size - 1) = v0) ∧ (M (ops.size - 2) = false → I W ∧ ∀ j, j < ops.size - 2 → M j = true → factOf L j (f j) W) ∧
    (M (ops.size - 2) = true → (∀ j, j < ops.size - 2 → M j = true) ∧ (M (ops.size - 1) = false → TailStep P ops Q (frameOf a ops.toList 0) (ops.size - 1) ol f W) ∧ (M (ops.size - 1) = true → Q .normal (frameOf a ops.toList 0 f) W))
  refine region_by_inv0 G hm hdag hap
    ⟨(fun _ _ _ h => by cases h), (fun _ => hv0), (fun _ => ⟨h0, (fun _ _ h => by cases h)⟩), (fun h => by cases h)⟩ ?_ (fun M f W hall hG => (hG.2.2.2 (hall _ (by omega))).2.2 (hall _ (by omega)))
  have build : ∀ (l : List Oper) (k : Nat), (∀ i o, l[i]? = some o → GStep P ops Q (frameOf a ops.toList 0) G (k + i) o) → GSteps P ops Q (frameOf a ops.toList 0) G l k := by
    intro l
    induction l with
    | nil => intro _ _; trivial
    | cons o l ih =>
      intro k h
      exact ⟨h 0 o rfl, ih (k + 1) fun i o' ho => by rw [show k + 1 + i = k + (i + 1) from by omega]; exact h (i + 1) o' (by simpa using ho)⟩
  refine build _ 0 fun i o ho => ?_
  rw [Nat.zero_add]
  have hi : i < ops.size := by have := (List.getElem?_eq_some_iff.1 ho).1; simpa using this
  have hg := MSteps.get hstep ho
  rw [Nat.zero_add] at hg
  simp only [Array.length_toList] at hg
  intro M f W hMi hwait hG K hK
  have hdg : ∀ j, waitsOn o j = true → j < i := fun j hj => by
    simp only [waitsOn, Array.any_eq_true', Bool.and_eq_true, beq_iff_eq] at hj
    obtain ⟨e, he, hbe, rfl⟩ := hj
    have := dagB_get hdag ho e he hbe
    omega
  have hclosed : ∀ (i' : Nat) (o' : Oper), ops[i']? = some o' → updL M i i' = true → ∀ j, waitsOn o' j = true → updL M i j = true := by
    intro i' o' ho' hi' j hj
    simp only [updL] at hi' ⊢
    split
    · rfl
    · by_cases e : i' = i
      · subst e
        rw [hopt ho] at ho'
        cases ho'
        exact hwait j hj
      · rw [if_neg e] at hi'
        exact hG.1 i' o' ho' hi' j hj
  by_cases hlast : i = ops.size - 1
  · -- the last one
    have heq : o = ol := by
      have := hopt ho
      rw [hlast, hol] at this
      cases this; rfl
    subst heq
    have hM2 : M (ops.size - 2) = true := hwait _ hwl
    obtain ⟨h1, h2, h3⟩ := hG.2.2.2 hM2
    have hMl : M (ops.size - 1) = false := by rw [← hlast]; exact hMi
    refine (h2 hMl) K (Lib.hid fun v a' w' ha hq => hK.out v a' w' ha ⟨hclosed, fun h => ?_, fun h => ?_, fun _ => ⟨fun j hj => ?_, fun h => ?_, fun _ => ?_⟩⟩)
    · simp only [updL] at h; rw [if_pos hlast.symm] at h; cases h
    · simp only [updL] at h; rw [if_neg (by omega), hM2] at h; cases h
    · simp only [updL]; rw [if_neg (by omega)]; exact h1 j hj
    · simp only [updL] at h; rw [if_pos hlast.symm] at h; cases h
    · rw [hlast]; exact hq
  · by_cases hmid : i = ops.size - 2
    · have hMl : M (ops.size - 2) = false := by rw [← hmid]; exact hMi
      have hM1 : M (ops.size - 1) = false := by
        cases hb : M (ops.size - 1) with
        | false => rfl
        | true => have := hG.1 _ _ hol hb _ hwl; rw [hMl] at this; cases this
      have hall : ∀ j, j < ops.size - 2 → M j = true := fun j hj => sink_all2 hsink (L := M) (fun i' o' ho' h j hj => by
        rcases h with h | h
        · exact hG.1 i' o' ho' h j hj
        · rw [h, ← hmid, hopt ho] at ho'
          cases ho'
          exact hwait j hj) (ops.size - 2 - j) j (by omega) hj
      obtain ⟨hI, hF⟩ := hG.2.2.1 hMl
      refine hg.2 (by omega) ol (by rw [show i + 1 = ops.size - 1 by omega]; simpa using hol) f W (hG.2.1 hM1) hI (fun j hj => hF j (by omega) (hall j (by omega))) K (Lib.hid fun v a' w' ha ht => hK.out v a' w' ha ⟨hclosed, fun _ => ?_, fun h => ?_, fun _ => ⟨fun j hj => ?_, fun _ => ?_, fun h => ?_⟩⟩)
      · simp only [upd]; rw [if_neg (by omega)]; exact hG.2.1 hM1
      · simp only [updL] at h; rw [if_pos hmid.symm] at h; cases h
      · simp only [updL]; rw [if_neg (by omega)]; exact hall j hj
      · rw [show ops.size - 1 = i + 1 by omega]; exact ht
      · simp only [updL] at h; rw [if_neg (by omega), hM1] at h; cases h
    · have hMl : M (ops.size - 2) = false := by
        cases hb : M (ops.size - 2) with
        | false => rfl
        | true => have := (hG.2.2.2 hb).1 i (by omega); rw [hMi] at this; cases this
      obtain ⟨hI, hF⟩ := hG.2.2.1 hMl
      have hM1 : M (ops.size - 1) = false := by
        cases hb : M (ops.size - 1) with
        | false => rfl
        | true => have := hG.1 _ _ hol hb _ hwl; rw [hMl] at this; cases this
      refine hg.1 (by omega) f W (hG.2.1 hM1) hI (fun j hj => hF j (by have := hdg j hj; omega) (hwait j hj)) K (Lib.hid fun v a' w' ha hI' hB hf => hK.out v a' w' ha ⟨hclosed, fun _ => ?_, fun _ => ⟨hI', fun j hj hjt => ?_⟩, fun h => ?_⟩)
      · simp only [upd]; rw [if_neg (by omega)]; exact hG.2.1 hM1
      · simp only [updL, upd] at hjt ⊢
        by_cases e : j = i
        · subst e; rw [if_pos rfl]; exact hf
        · rw [if_neg e] at hjt ⊢
          exact factOf_stable hL j _ _ _ (hF j hj hjt) hB
      · simp only [updL] at h; rw [if_neg (fun e => hmid e.symm), hMl] at h; cases h

end Go.Proofs.Ytflomdnjabgnaaa
/-
  Layer 3: the document's bindings in a list: what a number is bound to, and a term walked.
-/
namespace Go.Proofs.Ytflomdnjabgnaaa
open Go.RowKit

/-- bindings that lie in memory -/
def BsLies (w : World) : Nat → Nat → List (Int × Nd) → Prop
  | _, _, [] => True
  | b, o, (v, x) :: l => w.cell? ⟨b, o, none⟩ = some (.int .i64 v) ∧ w.cell? ⟨b, o + 1, none⟩ = some (.int .u8 x.k) ∧ w.cell? ⟨b, o + 2, none⟩ = some (.string x.s) ∧ w.cell? ⟨b, o + 3, none⟩ = some (.int .i64 x.n) ∧ w.cell? ⟨b, o + 4, none⟩ = some (.slice x.p x.kids.len x.c) ∧ Ts.At w x.p x.kids ∧ BsLies w b (o + 5) l

def BsAt (w : World) (p : Option Addr) (l : List (Int × Nd)) : Prop := ∃ b o, (l = [] ∨ p = some ⟨b, o, none⟩) ∧ BsLies w b o l

theorem BsLies.stay {w w' : World} (hc : ∀ b o, b < w.heap.size → w'.cell? ⟨b, o, none⟩ = w.cell? ⟨b, o, none⟩) : ∀ {l : List (Int × Nd)} {b o : Nat}, BsLies w b o l → BsLies w' b o l
  | [], _, _, _ => trivial
  | (v, x) :: l, b, o, ⟨h0, h1, h2, h3, h4, h5, h6⟩ => by
    have hlt : b < w.heap.size := World.block_lt_of_cell? _ _ h0
    exact ⟨(hc _ _ hlt).trans h0, (hc _ _ hlt).trans h1, (hc _ _ hlt).trans h2, (hc _ _ hlt).trans h3, (hc _ _ hlt).trans h4, h5.stay hc, BsLies.stay hc h6⟩

theorem BsAt.below {w w' : World} {p : Option Addr} {l : List (Int × Nd)} (h : BsAt w p l) (hB : Below w.heap.size w w') : BsAt w' p l := by
  obtain ⟨b, o, h1, h2⟩ := h
  exact ⟨b, o, h1, h2.stay (stays hB).1⟩

theorem BsAt.drewN {w : World} {p : Option Addr} {l : List (Int × Nd)} (h : BsAt w p l) (q : Nat) : BsAt (w.drewN q) p l := by
  obtain ⟨b, o, h1, h2⟩ := h
  exact ⟨b, o, h1, BsLies.stay (w := w) (w' := w.drewN q) (fun _ _ _ => rfl) h2⟩

/-- an element -/
structure Bel (b o : Nat) (v : Int) (x : Nd) (w : World) : Prop where
  lt : b < w.heap.size
  c0 : w.cell? ⟨b, o, none⟩ = some (.int .i64 v)
  c1 : w.cell? ⟨b, o + 1, none⟩ = some (.int .u8 x.k)
  c2 : w.cell? ⟨b, o + 2, none⟩ = some (.string x.s)
  c3 : w.cell? ⟨b, o + 3, none⟩ = some (.int .i64 x.n)
  c4 : w.cell? ⟨b, o + 4, none⟩ = some (.slice x.p x.kids.len x.c)
  at_ : Ts.At w x.p x.kids

theorem BsLies.get {w : World} : ∀ {l : List (Int × Nd)} {b o : Nat}, BsLies w b o l → ∀ {j : Nat} {v : Int} {x : Nd}, l[j]? = some (v, x) → Bel b (o + j * 5) v x w
  | [], _, _, _, _, _, _, h => by simp at h
  | (v', x') :: l, b, o, ⟨h0, h1, h2, h3, h4, h5, h6⟩, 0, v, x, h => by
    simp at h
    obtain ⟨rfl, rfl⟩ := h
    simp only [Nat.zero_mul, Nat.add_zero]
    exact ⟨World.block_lt_of_cell? _ _ h0, h0, h1, h2, h3, h4, h5⟩
  | _ :: l, b, o, ⟨_, _, _, _, _, _, h6⟩, j + 1, v, x, h => by
    have := BsLies.get h6 (j := j) (v := v) (x := x) (by simpa using h)
    rw [show o + (j + 1) * 5 = o + 5 + j * 5 from by omega]
    exact this

/-- what a number is bound to: the first in the list -/
def look : List (Int × Nd) → Sb
  | [], _ => none
  | (u, x) :: l, v => if (u == v) = true then some x else look l v

theorem look_drop {l : List (Int × Nd)} {v u : Int} {x : Nd} {j : Nat} (h : l[j]? = some (u, x)) : look (l.drop j) v = if (u == v) = true then some x else look (l.drop (j + 1)) v := by
  have hlt := (List.getElem?_eq_some_iff.1 h).1
  have hd : l.drop j = (u, x) :: l.drop (j + 1) := by
    rw [List.drop_eq_getElem_cons hlt, (List.getElem?_eq_some_iff.1 h).2]
  rw [hd]
  rfl

theorem look_mem : ∀ {l : List (Int × Nd)} {v : Int} {x : Nd}, look l v = some x → (v, x) ∈ l
  | [], _, _, h => by simp [look] at h
  | (u, y) :: l, v, x, h => by
    simp only [look] at h
    split at h
    · rename_i e
      have : u = v := by simpa using e
      cases h; subst this; exact List.mem_cons_self ..
    · exact List.mem_cons_of_mem _ (look_mem h)

theorem look_end (l : List (Int × Nd)) (v : Int) : look (l.drop l.length) v = none := by rw [List.drop_length]; rfl

set_option maxRecDepth 100000 in
set_option maxHeartbeats 4000000 in
theorem of_any (l : List (Int × Nd)) (hl : l.length ≤ 1000000) (w : World) (p : Option Addr) (c : Nat) (hat : BsAt w p l) (v : Int) :
    Calls Try.prog 65 #[.slice p l.length c, .int .i64 v] w fun e w' => e = .returned (.tuple #[valOf (look l v), .bool (look l v).isSome]) ∧ Below w.heap.size w w' := by
  obtain ⟨b, o, hp, hlies⟩ := hat
  have HP := Lib.hid hp
  have LI := Lib.hid hlies
  clear hp hlies
  go_enter Try.func65, Try.ntmps65
  go_wp2_with fail
  obtain ⟨W0, hW0⟩ : ∃ W0, W0 = w.alloc (.cells #[.int .u8 0, .string ⟨#[]⟩, .int .i64 0, .slice none 0 0] 24) := ⟨_, rfl⟩
  rw [← hW0]
  have Z0 := Lib.hid hW0
  have hB0 : Below w.heap.size w W0 := by rw [hW0]; exact (Below.refl _ _).alloc (Nat.le_refl _) _
  have Y0 : Hid (BoxIs w.heap.size ⟨0, ⟨#[]⟩, 0, none, 0, .nil⟩ W0) := Lib.hid (by rw [hW0]; exact BoxIs.new w ⟨0, ⟨#[]⟩, 0, none, 0, .nil⟩ _)
  have B0 := Lib.hid hB0
  have L0 : Hid (BsLies W0 b o l) := Lib.hid (LI.out.stay (stays hB0).1)
  clear hW0 hB0
  go_loop [6] (fun i => ∃ j : Nat, j ≤ l.length ∧ i = .int .i64 j ∧ Hid (look l v = look (l.drop j) v)) (fun i => l.length - (intOf i).toNat)
  case atStart => exact ⟨0, Nat.zero_le _, rfl, Lib.hid rfl⟩
  case round =>
    obtain ⟨j, hj, rfl, LK⟩ := hrel
    by_cases hlt : j < l.length
    · have hpp : p = some ⟨b, o, none⟩ := by
        rcases HP.out with h | h
        · rw [h] at hlt; simp at hlt
        · exact h
      subst hpp
      obtain ⟨⟨u, x⟩, hux⟩ : ∃ ux, l[j]? = some ux := ⟨_, List.getElem?_eq_getElem hlt⟩
      have EL := L0.out.get hux
      have hd := look_drop (v := v) hux
      have c0 := EL.c0
      have c1 := EL.c1
      have c2 := EL.c2
      have c3 := EL.c3
      have c4 := EL.c4
      have HD := Lib.hid hd
      clear EL hux hd
      by_cases hu : (u == v) = true
      · have y0 := Y0.out.c0
        have y1 := Y0.out.c1
        have y2 := Y0.out.c2
        have y3 := Y0.out.c3
        have yf := Y0.out.fr
        have HS : Hid (look l v = some x) := Lib.hid (by rw [LK.out, HD.out, if_pos hu])
        go_wp2
        have P := Y0.out.put (y := x)
        have p0 := P.c0
        have p1 := P.c1
        have p2 := P.c2
        have p3 := P.c3
        exact bodyPost_ret (v := .tuple #[x.val, .bool true]) (by simp [results, Try.results65, go_sem, p0, p1, p2, p3, Nd.val]) rfl ⟨by rw [HS.out]; rfl, below_put4 B0.out (Nat.le_refl _) _ _ _ _⟩
      · rw [Bool.not_eq_true] at hu
        go_wp2
        go_round
        case rel => exact ⟨j + 1, by omega, by go_num, Lib.hid (by rw [LK.out, HD.out, if_neg (by rw [hu]; simp)])⟩
        case measure => simp [intOf]; omega
    · have hjl : j = l.length := by omega
      have HS : Hid (look l v = none) := Lib.hid (by rw [LK.out, hjl, look_end])
      have y0 := Y0.out.c0
      have y1 := Y0.out.c1
      have y2 := Y0.out.c2
      have y3 := Y0.out.c3
      have yf := Y0.out.fr
      clear hjl
      go_wp2
      have P := Y0.out.put (y := ⟨0, ⟨#[]⟩, 0, none, 0, .nil⟩)
      have p0 := P.c0
      have p1 := P.c1
      have p2 := P.c2
      have p3 := P.c3
      simp only [Ts.len] at p0 p1 p2 p3
      exact bodyPost_ret (v := .tuple #[.agg #[.int .u8 0, .string ⟨#[]⟩, .int .i64 0, .slice none 0 0], .bool false]) (by simp [results, Try.results65, go_sem, p0, p1, p2, p3]) rfl ⟨by rw [HS.out]; rfl, below_put4 B0.out (Nat.le_refl _) _ _ _ _⟩

end Go.Proofs.Ytflomdnjabgnaaa
/-
  Layer 3: the document's walked terms: as many steps as there are bindings are enough.
-/
namespace Go.Proofs.Ytflomdnjabgnaaa
open Go.RowKit

theorem nodup_le : ∀ (a b : List Int), a.Nodup → (∀ x ∈ a, x ∈ b) → a.length ≤ b.length
  | [], _, _, _ => Nat.zero_le _
  | x :: a, b, hn, hs => by
    have hx := hs x (List.mem_cons_self ..)
    have hn' := List.nodup_cons.1 hn
    have h := nodup_le a (b.erase x) hn'.2 fun y hy => (List.mem_erase_of_ne (fun e => hn'.1 (by rw [← e]; exact hy))).2 (hs y (List.mem_cons_of_mem _ hy))
    rw [List.length_erase_of_mem hx] at h
    have : 0 < b.length := List.length_pos_of_mem hx
    simp only [List.length_cons]
    omega

/-- the numbers that are passed when a term is walked -/
theorem Wk.passed {σ : Sb} {t r : Nd} {m : Nat} (h : Wk σ t r m) : ∃ vs : List Int, vs.length = m ∧ vs.Nodup ∧ ∀ v ∈ vs, σ v ≠ none ∧ ∃ j, j ≤ m ∧ ∀ y : Nd, (y.k == 1) = true → y.n = v → Wk σ y r j := by
  induction h with
  | stop _ => exact ⟨[], rfl, List.nodup_nil, fun v hv => by cases hv⟩
  | @go t b r m hk hb h ih =>
    obtain ⟨vs, h1, h2, h3⟩ := ih
    have hown : ∀ y : Nd, (y.k == 1) = true → y.n = t.n → Wk σ y r (m + 1) := fun y hy hn => .go hy (by rw [hn]; exact hb) h
    refine ⟨t.n :: vs, by simp [h1], List.nodup_cons.2 ⟨fun hm => ?_, h2⟩, fun v hv => ?_⟩
    · obtain ⟨_, j, hj, hw⟩ := h3 _ hm
      have := ((hw t hk rfl).det (hown t hk rfl)).2
      omega
    · rcases List.mem_cons.1 hv with rfl | hv
      · exact ⟨by rw [hb]; simp, m + 1, Nat.le_refl _, hown⟩
      · obtain ⟨g1, j, g2, g3⟩ := h3 v hv
        exact ⟨g1, j, by omega, g3⟩

theorem look_key {l : List (Int × Nd)} {v : Int} (h : look l v ≠ none) : v ∈ l.map Prod.fst := by
  cases hx : look l v with
  | none => exact absurd hx h
  | some x => exact List.mem_map.2 ⟨(v, x), look_mem hx, rfl⟩

theorem wkn_le {l : List (Int × Nd)} (hE : Ends (look l)) (t : Nd) : wkn (look l) t ≤ l.length := by
  obtain ⟨vs, h1, h2, h3⟩ := (wk_spec hE t).passed
  rw [← h1, show l.length = (l.map Prod.fst).length from by simp]
  exact nodup_le _ _ h2 fun v hv => look_key (h3 v hv).1

set_option maxRecDepth 100000 in
set_option maxHeartbeats 4000000 in
theorem rwalk_any (l : List (Int × Nd)) (hl : l.length ≤ 1000000) (hE : Ends (look l)) (w : World) (p : Option Addr) (cl : Nat) (hat : BsAt w p l) (k : Int) (s : ByteArray) (n : Int) (q : Option Addr) (kids : Ts) (c : Nat) :
    Calls Try.prog 26 #[.slice p l.length cl, .agg #[.int .u8 k, .string s, .int .i64 n, .slice q kids.len c]] w fun e w' => e = .returned (wk (look l) ⟨k, s, n, q, c, kids⟩).val ∧ Below w.heap.size w w' := by
  have HE := Lib.hid hE
  have AT := Lib.hid hat
  have hN := wkn_le hE ⟨k, s, n, q, c, kids⟩
  clear hE hat
  go_enter Try.func26, Try.ntmps26
  go_wp2_with fail
  obtain ⟨W0, hW0⟩ : ∃ W0, W0 = (w.alloc (.cells #[.int .u8 k, .string s, .int .i64 n, .slice q kids.len c] 24)).alloc (.cells #[.int .u8 0, .string ⟨#[]⟩, .int .i64 0, .slice none 0 0] 24) := ⟨_, rfl⟩
  rw [← hW0]
  have hB0 : Below w.heap.size w W0 := by rw [hW0]; exact below2 _ _ _
  have hX0 : BoxIs w.heap.size ⟨k, s, n, q, c, kids⟩ W0 := by rw [hW0]; exact (BoxIs.new w ⟨k, s, n, q, c, kids⟩ _).below ((Below.refl _ _).alloc (Nat.le_refl _) _)
  have hY0 : BoxIs (w.heap.size + 1) ⟨0, ⟨#[]⟩, 0, none, 0, .nil⟩ W0 := by
    have := BoxIs.new (w.alloc (.cells #[.int .u8 k, .string s, .int .i64 n, .slice q kids.len c] 24)) ⟨0, ⟨#[]⟩, 0, none, 0, .nil⟩ 24
    rw [World.size_alloc] at this
    rw [hW0]; exact this
  have X0 := Lib.hid hX0
  have Y0 := Lib.hid hY0
  have B0 := Lib.hid hB0
  clear hW0 hX0 hY0 hB0
  go_loopw [5] (fun i wr => ∃ (j : Nat) (x : Nd), i = .int .i64 j ∧ Hid (BoxIs w.heap.size x wr) ∧ Hid (BoxIs (w.heap.size + 1) ⟨0, ⟨#[]⟩, 0, none, 0, .nil⟩ wr) ∧ Hid (Below w.heap.size w wr) ∧ Hid (wk (look l) x = wk (look l) ⟨k, s, n, q, c, kids⟩) ∧ wkn (look l) x + j ≤ l.length) (fun i _ => l.length + 1 - (intOf i).toNat)
  case atStart => exact ⟨0, ⟨k, s, n, q, c, kids⟩, rfl, X0, Y0, B0, Lib.hid rfl, by omega⟩
  case round =>
    obtain ⟨j, x, rfl, XX, YY, BB, WK, hj⟩ := hrel
    have hjl : j ≤ l.length := by omega
    have c0 := XX.out.c0
    have c1 := XX.out.c1
    have c2 := XX.out.c2
    have c3 := XX.out.c3
    have f0 := XX.out.fr
    have y0 := YY.out.c0
    have y1 := YY.out.c1
    have y2 := YY.out.c2
    have y3 := YY.out.c3
    have g0 := YY.out.fr
    by_cases hk : (x.k == 1) = true
    · go_wp2_with fail
      refine (of_any l hl wr p cl (AT.out.below BB.out) x.n).mono ?_
      rintro e w1 ⟨rfl, hB1⟩
      replace XX := Lib.hid (XX.out.below hB1)
      replace YY := Lib.hid (YY.out.below hB1)
      replace BB := Lib.hid (BB.out.trans (hB1.mono BB.out.size))
      clear hB1 c0 c1 c2 c3 f0 y0 y1 y2 y3 g0
      cases hb : look l x.n with
      | none =>
        have HW := Lib.hid (wk_stop (.inr hb) : wk (look l) x = x)
        rw [valOf_none]
        clear hb
        obtain ⟨W2, hW2⟩ : ∃ W2, W2 = w1.alloc (.cells #[.int .u8 0, .string ⟨#[]⟩, .int .i64 0, .slice none 0 0] 24) := ⟨_, rfl⟩
        have hB2 : Below w1.heap.size w1 W2 := by rw [hW2]; exact (Below.refl _ _).alloc (Nat.le_refl _) _
        replace XX := Lib.hid (XX.out.below hB2)
        replace YY := Lib.hid (YY.out.below hB2)
        replace BB := Lib.hid (BB.out.trans (hB2.mono BB.out.size))
        have c0 := XX.out.c0
        have c1 := XX.out.c1
        have c2 := XX.out.c2
        have c3 := XX.out.c3
        have y0 := YY.out.c0
        have y1 := YY.out.c1
        have y2 := YY.out.c2
        have y3 := YY.out.c3
        have g0 := YY.out.fr
        have Z2 := Lib.hid hW2
        clear hB2 hW2
        go_upto_region 5 with fail
        rw [← Z2.out]
        go_wp2
        have P := YY.out.put (y := x)
        have p0 := P.c0
        have p1 := P.c1
        have p2 := P.c2
        have p3 := P.c3
        exact bodyPost_ret (v := x.val) (by simp [results, Try.results26, go_sem, p0, p1, p2, p3, Nd.val]) rfl ⟨by rw [← WK.out, HW.out], below_put4 BB.out (Nat.le_succ _) _ _ _ _⟩
      | some b =>
        have HW := Lib.hid (wk_go HE.out hk hb : wk (look l) x = wk (look l) b)
        have hm := (wkn_go HE.out hk hb : wkn (look l) x = wkn (look l) b + 1)
        have hj2 : wkn (look l) b + (j + 1) ≤ l.length := by omega
        rw [valOf_some]
        clear hb hm
        obtain ⟨W2, hW2⟩ : ∃ W2, W2 = w1.alloc (.cells #[.int .u8 b.k, .string b.s, .int .i64 b.n, .slice b.p b.kids.len b.c] 24) := ⟨_, rfl⟩
        have hB2 : Below w1.heap.size w1 W2 := by rw [hW2]; exact (Below.refl _ _).alloc (Nat.le_refl _) _
        have NB := BoxIs.new w1 b 24
        rw [← hW2] at NB
        have hlt : w.heap.size + 1 < w1.heap.size := YY.out.lt
        replace XX := Lib.hid (XX.out.below hB2)
        replace YY := Lib.hid (YY.out.below hB2)
        replace BB := Lib.hid (BB.out.trans (hB2.mono BB.out.size))
        have c0 := XX.out.c0
        have c1 := XX.out.c1
        have c2 := XX.out.c2
        have c3 := XX.out.c3
        have g0 := XX.out.fr
        have y0 := NB.c0
        have y1 := NB.c1
        have y2 := NB.c2
        have y3 := NB.c3
        have Z2 := Lib.hid hW2
        clear hB2 hW2 NB
        go_upto_region 5 with fail
        rw [← Z2.out]
        go_wp2
        go_roundw
        case rel =>
          refine ⟨j + 1, b, by go_num, Lib.hid XX.out.put, Lib.hid (YY.out.of_block ?_), Lib.hid (below_put4 BB.out (Nat.le_refl _) _ _ _ _), Lib.hid (by rw [← HW.out]; exact WK.out), hj2⟩
          rw [Below.heap_setCell _ _ _ _ (by simp), Below.heap_setCell _ _ _ _ (by simp), Below.heap_setCell _ _ _ _ (by simp), Below.heap_setCell _ _ _ _ (by simp)]
        case measure => simp [intOf]; omega
    · rw [Bool.not_eq_true] at hk
      have HK := Lib.hid hk
      go_wp2
      have P := YY.out.put (y := x)
      have p0 := P.c0
      have p1 := P.c1
      have p2 := P.c2
      have p3 := P.c3
      exact bodyPost_ret (v := x.val) (by simp [results, Try.results26, go_sem, p0, p1, p2, p3, Nd.val]) rfl ⟨by rw [← WK.out, wk_stop (.inl HK.out)], below_put4 BB.out (Nat.le_succ _) _ _ _ _⟩

end Go.Proofs.Ytflomdnjabgnaaa
