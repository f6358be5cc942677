import Derived.Test.YtnmhnaanpjlniaaTv0
import Derived.RegionTactic
/-
  A law for a region that draws its order: each operation, behind those that it waits for, leaves a fact of its value that no growth of memory takes away; so behind all of them, in whatever order, all facts hold.
-/
namespace Go.Proofs.Ytnmhnaanpjlniaa
open Go.RowKit

def upd (f : Nat → Value) (i : Nat) (v : Value) : Nat → Value := fun j => if j = i then v else f j

/-- what an operation waits for -/
def waitsOn (o : Oper) (j : Nat) : Bool := o.after.any fun e => Region.binds .any e && e.on == j

/-- one operation: from the facts of those that it waits for to its own -/
def RStep (P : Program) (ops : Array Oper) (Q : Exit → Act → World → Prop) (frame : (Nat → Value) → Act) (I : World → Prop) (F : Nat → Value → World → Prop) (i : Nat) (o : Oper) : Prop :=
  ∀ (f : Nat → Value) (w : World), I w → (∀ j, waitsOn o j = true → F j (f j) w) → ∀ K : Act → World → Prop, Hid (∀ v a' w', a' = (frame f).put o.dst v → I w' → Below w.heap.size w w' → F i v w' → K a' w') →
    if Region.wanted o (yielded ops (frame f).tmps) = true then Oper.wp P o (frame f) w K Q else K ((frame f).put o.dst undef) w

def Puts (frame : (Nat → Value) → Act) : List Oper → Nat → Prop
  | [], _ => True
  | o :: l, i => (∀ f v, (frame f).put o.dst v = frame (upd f i v)) ∧ Puts frame l (i + 1)

def RSteps (P : Program) (ops : Array Oper) (Q : Exit → Act → World → Prop) (frame : (Nat → Value) → Act) (I : World → Prop) (F : Nat → Value → World → Prop) : List Oper → Nat → Prop
  | [], _ => True
  | o :: l, i => RStep P ops Q frame I F i o ∧ RSteps P ops Q frame I F l (i + 1)

/-- each operation waits for earlier ones alone -/
def dagB : List Oper → Nat → Bool
  | [], _ => true
  | o :: l, i => (o.after.all fun e => !Region.binds .any e || decide (e.on < i)) && dagB l (i + 1)

theorem Puts.get {frame : (Nat → Value) → Act} : ∀ {l : List Oper} {k : Nat}, Puts frame l k → ∀ {i : Nat} {o : Oper}, l[i]? = some o → ∀ f v, (frame f).put o.dst v = frame (upd f (k + i) v)
  | [], _, _, _, _, h => by simp at h
  | _ :: _, _, h, 0, _, ho => by cases ho; exact h.1
  | _ :: l, k, h, i + 1, o, ho => by
    have := Puts.get h.2 (i := i) (o := o) (by simpa using ho)
    rw [show k + (i + 1) = k + 1 + i from by omega]
    exact this

theorem RSteps.get {P : Program} {ops : Array Oper} {Q : Exit → Act → World → Prop} {frame : (Nat → Value) → Act} {I : World → Prop} {F : Nat → Value → World → Prop} : ∀ {l : List Oper} {k : Nat}, RSteps P ops Q frame I F l k → ∀ {i : Nat} {o : Oper}, l[i]? = some o → RStep P ops Q frame I F (k + i) o
  | [], _, _, _, _, h => by simp at h
  | _ :: _, _, h, 0, _, ho => by cases ho; exact h.1
  | _ :: l, k, h, i + 1, o, ho => by
    have := RSteps.get h.2 (i := i) (o := o) (by simpa using ho)
    rw [show k + (i + 1) = k + 1 + i from by omega]
    exact this

theorem dagB_get : ∀ {l : List Oper} {k : Nat}, dagB l k = true → ∀ {i : Nat} {o : Oper}, l[i]? = some o → ∀ e ∈ o.after, Region.binds .any e = true → e.on < k + i
  | [], _, _, _, _, h => by simp at h
  | _ :: _, _, h, 0, _, ho => by
    cases ho
    simp only [dagB, Bool.and_eq_true, Array.all_eq_true'] at h
    intro e he hb
    have := h.1 e he
    rw [hb] at this
    simpa using this
  | _ :: l, k, h, i + 1, o, ho => by
    simp only [dagB, Bool.and_eq_true] at h
    have := dagB_get h.2 (i := i) (o := o) (by simpa using ho)
    rw [show k + (i + 1) = k + 1 + i from by omega]
    exact this

theorem count_set {l : List Bool} : ∀ {i : Nat}, l[i]? = some false → (l.set i true).count false + 1 = l.count false := by
  induction l with
  | nil => intro i h; simp at h
  | cons b l ih =>
    intro i h
    cases i with
    | zero => simp at h; subst h; simp
    | succ i =>
      have := ih (i := i) (by simpa using h)
      simp only [List.set_cons_succ, List.count_cons]
      omega

section
variable {P : Program} {ops : Array Oper} {Q : Exit → Act → World → Prop} {frame : (Nat → Value) → Act} {I : World → Prop} {F : Nat → Value → World → Prop}

theorem ready_iff (listed : Array Bool) (i : Nat) : i ∈ Region.ready .any ops listed ↔ i < ops.size ∧ listed.getD i true = false ∧ ∃ o, ops[i]? = some o ∧ ∀ j, waitsOn o j = true → listed.getD j false = true := by
  unfold Region.ready
  rw [List.mem_filter, List.mem_range]
  constructor
  · rintro ⟨h, hb⟩
    simp only [Bool.and_eq_true, Bool.not_eq_eq_eq_not, Bool.not_true] at hb
    refine ⟨h, hb.1, ops[i], by simp [h], fun j hj => ?_⟩
    have h2 := hb.2
    simp only [h, getElem?_pos, Option.map_some, Option.getD_some, Array.all_eq_true'] at h2
    simp only [waitsOn, Array.any_eq_true', Bool.and_eq_true, beq_iff_eq] at hj
    obtain ⟨e, he, h3, rfl⟩ := hj
    have := h2 e he
    simpa [h3] using this
  · rintro ⟨h, hb, o, ho, hw⟩
    refine ⟨h, ?_⟩
    rw [hb, ho]
    simp only [Bool.not_false, Bool.true_and, Option.map_some, Option.getD_some, Array.all_eq_true']
    intro e he
    cases h3 : Region.binds .any e with
    | false => rfl
    | true =>
      simp only [Bool.not_true, Bool.false_or]
      exact hw e.on (by simp only [waitsOn, Array.any_eq_true', Bool.and_eq_true, beq_iff_eq]; exact ⟨e, he, h3, rfl⟩)

theorem any_facts (hdag : dagB ops.toList 0 = true) (hput : Puts frame ops.toList 0) (hmono : ∀ j u w w', F j u w → Below w.heap.size w w' → F j u w') (hstep : RSteps P ops Q frame I F ops.toList 0)
    (hdone : ∀ f w, I w → (∀ j, j < ops.size → F j (f j) w) → Q .normal (frame f) w) :
    ∀ (fuel : Nat) (listed : Array Bool) (f : Nat → Value) (w : World), listed.size = ops.size → listed.toList.count false ≤ fuel → I w → (∀ j, listed.getD j false = true → F j (f j) w) → wpAny P .any ops Q fuel listed (frame f) w := by
  have all_of : ∀ (listed : Array Bool), listed.size = ops.size → Region.ready .any ops listed = [] → ∀ j, j < ops.size → listed.getD j false = true := by
    intro listed hs hr j
    induction j using Nat.strongRecOn with
    | ind j ih =>
      intro hj
      cases hb : listed.getD j false with
      | true => rfl
      | false =>
        exfalso
        have hm : j ∈ Region.ready .any ops listed := by
          rw [ready_iff]
          refine ⟨hj, ?_, ops[j], by simp [hj], fun i hi => ?_⟩
          · simp only [Array.getD] at hb ⊢
            rw [dif_pos (by omega)] at hb ⊢
            exact hb
          · simp only [waitsOn, Array.any_eq_true', Bool.and_eq_true, beq_iff_eq] at hi
            obtain ⟨e, he, hbe, rfl⟩ := hi
            have := dagB_get hdag (i := j) (o := ops[j]) (by simp [hj]) e he hbe
            exact ih _ (by omega) (by omega)
        rw [hr] at hm; cases hm
  intro fuel
  induction fuel with
  | zero =>
    intro listed f w hs hc hI hF
    have hall : ∀ j, j < ops.size → listed.getD j false = true := fun j hj => by
      cases hb : listed.getD j false with
      | true => rfl
      | false =>
        exfalso
        have h1 : false ∈ listed.toList := by
          simp only [Array.getD] at hb
          rw [dif_pos (by omega)] at hb
          rw [← hb]
          simp
        have := List.count_pos_iff.2 h1
        omega
    refine ⟨?_, hdone f w hI fun j hj => hF j (hall j hj)⟩
    refine List.eq_nil_iff_forall_not_mem.2 fun i hi => ?_
    obtain ⟨h1, h2, _⟩ := (ready_iff listed i).1 hi
    have h3 := hall i h1
    simp only [Array.getD] at h2 h3
    rw [dif_pos (by omega)] at h2 h3
    rw [h2] at h3; cases h3
  | succ fuel ih =>
    intro listed f w hs hc hI hF
    refine ⟨fun hr => hdone f w hI fun j hj => hF j (all_of listed hs hr j hj), fun i hi => ?_⟩
    obtain ⟨h1, h2, o, ho, h3⟩ := (ready_iff listed i).1 hi
    have hol : ops.toList[i]? = some o := by simpa using ho
    refine wpOp_step ho fun K' hK => ?_
    have hst := RSteps.get hstep hol f w hI
    rw [Nat.zero_add] at hst
    refine hst (fun j hj => hF j (h3 j hj)) K' (Lib.hid fun v a' w' ha' hI' hB hFi => ha' ▸ hK _ _ ?_)
    have hp := Puts.get hput hol f v
    rw [Nat.zero_add] at hp
    rw [hp]
    have hli : listed.toList[i]? = some false := by
      simp only [Array.getD] at h2
      rw [dif_pos (by omega)] at h2
      simp only [Array.getElem?_toList]
      rw [Array.getElem?_eq_getElem (by omega)]
      exact congrArg some h2
    refine ih _ _ _ (by simp [hs]) ?_ hI' fun j hj => ?_
    · have := count_set hli
      rw [Array.toList_setIfInBounds]
      omega
    · by_cases e : j = i
      · subst e
        simp only [upd, if_pos]
        exact hFi
      · simp only [upd, if_neg e]
        refine hmono _ _ _ _ (hF j ?_) hB
        simp only [Array.getD, Array.size_setIfInBounds] at hj ⊢
        split at hj
        · rename_i hlt
          rw [dif_pos hlt]
          rw [Array.getInternal_eq_getElem] at *
          rwa [Array.getElem_setIfInBounds_ne _ (fun h => e h.symm)] at hj
        · cases hj

/-- the law -/
theorem region_facts {id : Nat} {a : Act} {w : World} (f0 : Nat → Value) (hm : P.follows .mixedOrders = true) (ha : a = frame f0) (hdag : dagB ops.toList 0 = true) (hput : Puts frame ops.toList 0)
    (hmono : ∀ j u w w', F j u w → Below w.heap.size w w' → F j u w') (h0 : I w.drew) (hstep : RSteps P ops Q frame I F ops.toList 0) (hdone : ∀ f w, I w → (∀ j, j < ops.size → F j (f j) w) → Q .normal (frame f) w) :
    (Code.region id ops true).wp P Q a w := by
  subst ha
  refine wp_region_any hm ?_
  refine any_facts hdag hput hmono hstep hdone _ _ _ _ (by simp) (by simp) h0 fun j hj => ?_
  simp only [Array.getD] at hj
  split at hj
  · simp at hj
  · cases hj
end

/-- the frame with the slots that the operations write -/
def frameOf (a : Act) : List Oper → Nat → (Nat → Value) → Act
  | [], _, _ => a
  | o :: l, i, f => (frameOf a l (i + 1) f).put o.dst (f i)

def apartB : List Oper → Bool
  | [] => true
  | o :: l => (l.all fun o' => o.dst.isNone || o'.dst != o.dst) && apartB l

theorem put_put (a : Act) (d : Option Tmp) (u v : Value) : (a.put d u).put d v = a.put d v := by
  cases d with
  | none => rfl
  | some d => simp [Act.put]

theorem frameOf_upd_lt (a : Act) : ∀ (l : List Oper) (i : Nat) (f : Nat → Value) (j : Nat) (v : Value), j < i → frameOf a l i (upd f j v) = frameOf a l i f
  | [], _, _, _, _, _ => rfl
  | o :: l, i, f, j, v, h => by
    simp only [frameOf]
    rw [frameOf_upd_lt a l (i + 1) f j v (by omega), show upd f j v i = f i from by simp only [upd]; rw [if_neg (by omega)]]

theorem frameOf_put (a : Act) : ∀ (l : List Oper) (i : Nat), apartB l = true → ∀ (k : Nat) (o : Oper), l[k]? = some o → ∀ f v, (frameOf a l i f).put o.dst v = frameOf a l i (upd f (i + k) v)
  | [], _, _, _, _, h, _, _ => by simp at h
  | o0 :: l, i, _, 0, o, h, f, v => by
    cases h
    simp only [frameOf]
    rw [put_put, frameOf_upd_lt a l (i + 1) f (i + 0) v (by omega)]
    simp [upd]
  | o0 :: l, i, hap, k + 1, o, h, f, v => by
    simp only [apartB, Bool.and_eq_true, List.all_eq_true, Bool.or_eq_true, bne_iff_ne] at hap
    have ho : l[k]? = some o := by simpa using h
    have ih := frameOf_put a l (i + 1) hap.2 k o ho f v
    simp only [frameOf]
    have hne : ∀ d, o0.dst = some d → o.dst ≠ some d := fun d hd => by
      rcases hap.1 o (List.mem_of_getElem? ho) with h1 | h1
      · rw [hd] at h1; cases h1
      · rw [← hd]; exact h1
    rw [Act.put_comm _ _ _ hne, ih, show i + 1 + k = i + (k + 1) from by omega, show upd f (i + (k + 1)) v i = f i from by simp only [upd]; rw [if_neg (by omega)]]

theorem puts_of {frame : (Nat → Value) → Act} : ∀ (l : List Oper) (i : Nat), (∀ (k : Nat) (o : Oper), l[k]? = some o → ∀ f v, (frame f).put o.dst v = frame (upd f (i + k) v)) → Puts frame l i
  | [], _, _ => trivial
  | o :: l, i, h => ⟨fun f v => h 0 o rfl f v, puts_of l (i + 1) fun k o' ho f v => by
      rw [show i + 1 + k = i + (k + 1) from by omega]
      exact h (k + 1) o' (by simpa using ho) f v⟩

/-- what a slot holds -/
def slotOf (a : Act) (d : Option Tmp) : Value := match d with
  | some d => a.tmps.getD d undef
  | none => undef

theorem put_slot (a : Act) (d : Option Tmp) : a.put d (slotOf a d) = a := by
  cases d with
  | none => rfl
  | some d =>
    obtain ⟨t, ds⟩ := a
    simp only [Act.put, slotOf, Act.mk.injEq, and_true]
    apply Array.ext
    · simp
    · intro i h1 h2
      rw [Array.getElem_setIfInBounds]
      split
      · rename_i h
        subst h
        simp [h2]
      · rfl

theorem frameOf_self (a : Act) (ops : Array Oper) : ∀ (l : List Oper) (i : Nat), (∀ k, l[k]? = ops[i + k]?) → frameOf a l i (fun j => slotOf a ((ops[j]?).bind (·.dst))) = a
  | [], _, _ => rfl
  | o :: l, i, h => by
    have h0 : ops[i]? = some o := (h 0).symm
    simp only [frameOf]
    rw [frameOf_self a ops l (i + 1) fun k => by have := h (k + 1); rw [show i + 1 + k = i + (k + 1) from by omega, ← this]; rfl]
    rw [h0]
    exact put_slot a o.dst

/-- no growth of memory takes it away -/
def Stable (p : Value → World → Prop) : Prop := ∀ v w w', p v w → Below w.heap.size w w' → p v w'
def StableAll : List (Value → World → Prop) → Prop
  | [] => True
  | p :: l => Stable p ∧ StableAll l
def factOf (L : List (Value → World → Prop)) (i : Nat) : Value → World → Prop := L.getD i fun _ _ => True

theorem Stable.eq (u : Value) : Stable fun v _ => v = u := fun _ _ _ h _ => h

theorem factOf_stable : ∀ {L : List (Value → World → Prop)}, StableAll L → ∀ i, Stable (factOf L i)
  | [], _, _ => fun _ _ _ _ _ => trivial
  | _ :: _, h, 0 => h.1
  | _ :: l, h, i + 1 => factOf_stable (L := l) h.2 i

/-- the law, over the frame as it stands -/
theorem region_by_facts {P : Program} {ops : Array Oper} {Q : Exit → Act → World → Prop} {id : Nat} {a : Act} {w : World} (I : World → Prop) (L : List (Value → World → Prop)) (hL : StableAll L) (hm : P.follows .mixedOrders = true) (hdag : dagB ops.toList 0 = true) (hap : apartB ops.toList = true)
    (h0 : I w.drew) (hstep : RSteps P ops Q (frameOf a ops.toList 0) I (factOf L) ops.toList 0)
    (hdone : ∀ f w, I w → (∀ j, j < ops.size → factOf L j (f j) w) → Q .normal (frameOf a ops.toList 0 f) w) : (Code.region id ops true).wp P Q a w :=
  region_facts _ hm (frameOf_self a ops ops.toList 0 fun k => by simp).symm hdag (puts_of _ _ (frameOf_put a _ _ hap)) (fun j u w w' => factOf_stable hL j u w w') h0 hstep hdone

end Go.Proofs.Ytnmhnaanpjlniaa
/-
  The law TermParts: plain facts of lists.
-/
namespace Go.Proofs.Ytnmhnaanpjlniaa
open Go.RowKit

theorem alike_symm : ∀ (ts us : Ts), alike ts us = alike us ts
  | .nil, .nil => rfl
  | .cons k s n _ _ kids rest, .cons k' s' n' _ _ kids' rest' => by
    simp only [alike, alike_symm kids kids', alike_symm rest rest']
    rw [Bool.beq_comm (a := k), Bool.beq_comm (a := n)]
    have : (s.toList == s'.toList) = (s'.toList == s.toList) := Bool.beq_comm
    rw [this]
  | .nil, .cons .. => by simp [alike]
  | .cons .., .nil => by simp [alike]

theorem twin_alike_both {us ts vs ws : Ts} (h : Ts.twin us ts) (h' : Ts.twin vs ws) : alike us vs = alike ts ws := by
  rw [Ts.twin_alike us ts vs h, alike_symm, Ts.twin_alike vs ws ts h', alike_symm]

theorem goodL_step (d : Nat) (k : Int) (s : ByteArray) (n : Int) (p : Option Addr) (c : Nat) (kids rest : Ts) : goodL d (.cons k s n p c kids rest) = (goodB d k s n kids && goodL d rest) := goodL_cons d k s n p c kids rest

theorem good_parts (name : ByteArray) (ts : Ts) (h0 : 0 < ts.len) :
    goodB 64 4 name 0 ts = (((decide (ts.len ≤ 16) && nameB name) && goodL 64 ts) && decide (depthL ts + 1 ≤ 64)) := by
  simp only [goodB, goodL, headB]
  have e1 : decide (0 < ts.len) = true := decide_eq_true h0
  rw [e1]
  by_cases h1 : depthL ts + 1 ≤ 64
  · have h2 : depthL ts ≤ 64 := by omega
    simp only [h1, h2, decide_true, Bool.true_and, Bool.and_true]
    simp
    cases shapeL ts <;> cases nameB name <;> simp
  · simp [h1]

theorem good_name (name : ByteArray) : goodB 64 3 name 0 .nil = nameB name := by
  simp [goodB, headB, depthL, shapeL, Ts.len]

theorem nodes_str {name : ByteArray} {p : Option Addr} {c : Nat} {us ts : Ts} (h : Ts.twin us ts) : numsOf ((nodesOf (.cons 4 name 0 p c us .nil)).map Ts.mark) = numsOf ((nodesOf ts).map Ts.mark) := by
  simp only [nodesOf, List.append_nil, List.map_cons, Ts.twin_marks us ts h]
  rw [numsOf, List.foldl_cons]
  rfl

theorem noVar_str {name : ByteArray} {p : Option Addr} {c : Nat} {us ts : Ts} (h : Ts.twin us ts) : noVar (nodesOf (.cons 4 name 0 p c us .nil)) = noVar (nodesOf ts) := by
  rw [noVar_marks, noVar_marks]
  simp only [nodesOf, List.append_nil, List.map_cons, Ts.twin_marks us ts h, List.all_cons, Ts.mark]
  rfl

theorem noVar_two (k : Int) (s : ByteArray) (n : Int) (p : Option Addr) (c : Nat) (kids rest : Ts) : noVar (nodesOf (.cons k s n p c kids rest)) = (noVar (nodesOf (.cons k s n p c kids .nil)) && noVar (nodesOf rest)) := by
  rw [nodesOf_two, noVar, List.all_append]
  rfl

/-- an element of a list, where it lies -/
structure El (b o : Nat) (k : Int) (s : ByteArray) (n : Int) (p : Option Addr) (c : Nat) (us : Ts) (W : World) : Prop where
  lt : b < W.heap.size
  c0 : W.cell? ⟨b, o, none⟩ = some (.int .u8 k)
  c1 : W.cell? ⟨b, o + 1, none⟩ = some (.string s)
  c2 : W.cell? ⟨b, o + 2, none⟩ = some (.int .i64 n)
  c3 : W.cell? ⟨b, o + 3, none⟩ = some (.slice p us.len c)
  tat : Ts.At W p us

theorem El.below {b o : Nat} {k : Int} {s : ByteArray} {n : Int} {p : Option Addr} {c : Nat} {us : Ts} {W W' : World} (h : El b o k s n p c us W) (hB : Below W.heap.size W W') : El b o k s n p c us W' :=
  ⟨Nat.lt_of_lt_of_le h.lt hB.size, ((stays hB).1 _ _ h.lt).trans h.c0, ((stays hB).1 _ _ h.lt).trans h.c1, ((stays hB).1 _ _ h.lt).trans h.c2, ((stays hB).1 _ _ h.lt).trans h.c3, h.tat.below hB⟩

theorem Ts.elem {W wr : World} {ts : Ts} {b o j : Nat} (hl : ts.lies W b o) (hB : Below W.heap.size W wr) (hok : ts.ok) (h : j < ts.len) :
    ∃ (k : Int) (s : ByteArray) (n : Int) (p : Option Addr) (c : Nat) (kids rest : Ts), Hid (ts.drop j = .cons k s n p c kids rest) ∧ El b (o + j * 4) k s n p c kids wr ∧ kids.size + rest.size + 1 ≤ ts.size ∧ Ts.ok (.cons k s n p c kids .nil) := by
  obtain ⟨k, s, n, p, c, kids, rest, hd, c0, c1, c2, c3, hat, hok', hc, hsz, hk, hs, hn⟩ := Ts.open_at hl hB hok h
  have hokd := Ts.ok_drop j ts hok
  rw [hd.out] at hokd
  exact ⟨k, s, n, p, c, kids, rest, hd, ⟨World.block_lt_of_cell? _ _ c0, c0, c1, c2, c3, hat.out⟩, hsz, hokd.1, hokd.2.1, hokd.2.2.1, hokd.2.2.2.1, hokd.2.2.2.2.1, hokd.2.2.2.2.2.1, trivial⟩

end Go.Proofs.Ytnmhnaanpjlniaa
