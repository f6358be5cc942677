import Derived.WalkKit
import Derived.Lib.Hide
import Derived.Maps.OwnOps
import Derived.Maps.Views
import Derived.Orders
import Derived.Test.YtnmhnaanpjlniaaGreatRows
import Derived.DeepKeys4
import Derived.ProofKit
import Derived.WalkSpells
import Derived.WalkLawsBesides
import Derived.WalkSmall
/-
  A map of the call's own, told by the list of its keys and values, the newest ahead.
-/
namespace Go.Proofs.YtnmhnaanpjlniaaGreat
open Go.RowKit Go.Maps

/-- any value, as it stands -/
def anyElem (v : Value) : Option (DataW Value × List MemPlace) := some (.held v, [])

/-- what is looked up -/
def lookL : List (Lit × Value) → Lit → DataW Value → DataW Value
  | [], _, z => z
  | e :: r, k, z => if e.1.sameKey k = true then .held e.2 else lookL r k z
def valL : List (Lit × Value) → Lit → Value → Value
  | [], _, z => z
  | e :: r, k, z => if e.1.sameKey k = true then e.2 else valL r k z

theorem lookL_val (l : List (Lit × Value)) (k : Lit) (z : Value) : lookL l k (.held z) = .held (valL l k z) := by
  induction l with
  | nil => rfl
  | cons e r ih =>
    unfold lookL valL
    split
    · rfl
    · exact ih

structure MapL (P : Program) (kt : TypeId) (B : Nat) (l : List (Lit × Value)) (w : World) : Prop where
  has : ∃ D, w.ownsMap P kt anyElem B l.length D ∧ IsMap D ∧ ∀ k z, D.atKey k z = lookL l k z

theorem MapL.made (P : Program) (kt : TypeId) (w : World) : MapL P kt w.heap.size [] (w.alloc (.map #[] 0)) :=
  ⟨_, World.ownsMap_made w P kt anyElem, isMap_empty, fun _ _ => rfl⟩

theorem MapL.lt {P : Program} {kt : TypeId} {B : Nat} {l : List (Lit × Value)} {w : World} (h : MapL P kt B l w) : B < w.heap.size := by
  obtain ⟨D, h1, _⟩ := h.has
  exact h1.lt

theorem MapL.same {P : Program} {kt : TypeId} {B : Nat} {l : List (Lit × Value)} {w w' : World} (h : MapL P kt B l w) (e : w'.heap[B]? = w.heap[B]?) : MapL P kt B l w' := by
  obtain ⟨D, ⟨es, clock, hb, h1, h2, h3⟩, h4, h5⟩ := h.has
  exact ⟨D, ⟨es, clock, e.trans hb, h1, h2, h3⟩, h4, h5⟩

theorem MapL.below {P : Program} {kt : TypeId} {B : Nat} {l : List (Lit × Value)} {w w' : World} (h : MapL P kt B l w) (hB : Below w.heap.size w w') : MapL P kt B l w' := h.same (hB.block B h.lt)

theorem MapL.put {P : Program} {kt t e : TypeId} {B : Nat} {l : List (Lit × Value)} {w : World} (h : MapL P kt B l w) (K : Keyed P kt) (ht : P.underlying t = some (.map kt e)) (hn : l.length < maxLen)
    {key : Value} {kl : Lit} (hkey : keyOf P kt key = some kl) (val : Value) : ∃ w', (Instr.mapUpdate t (.map (some B)) key val).run P w = .ok () w' ∧ MapL P kt B ((kl, val) :: l) w' ∧ w.grownBy w' (some B) := by
  obtain ⟨D, hown, hD, hlook⟩ := h.has
  obtain ⟨w', hrun, hown', hg⟩ := hown.update K ht hn hkey (rfl : anyElem val = some (.held val, []))
  refine ⟨w', hrun, ⟨_, hown', hD.put _ _, fun k z => ?_⟩, hg⟩
  unfold lookL
  by_cases hk : k = kl
  · subst hk
    rw [atKey_put_same hD (K.key hkey)]
    have : k.sameKey k = true := by
      have h1 := atKey_put_same hD (K.key hkey) (.held val) (.agg [])
      have h2 := WideAt.sameKey_self (K.key hkey)
      exact h2
    simp [this]
  · rw [atKey_put_other hk, hlook]
    have : kl.sameKey k = false := sameKey_ne (fun e => hk e.symm)
    simp [this]

theorem MapL.lookup {P : Program} {kt t e : TypeId} {B : Nat} {l : List (Lit × Value)} {w : World} (h : MapL P kt B l w) (K : Keyed P kt) (ht : P.underlying t = some (.map kt e)) {z : Value} (hz : (zeroValue e).run P w = .ok z w)
    {key : Value} {kl : Lit} (hkey : keyOf P kt key = some kl) : (Instr.lookup t (.map (some B)) key false).run P w = .ok (valL l kl z) w := by
  obtain ⟨D, hown, _, hlook⟩ := h.has
  obtain ⟨v, ps, hrun, hv⟩ := hown.lookup K ht hz (rfl : anyElem z = some (.held z, [])) hkey
  rw [hlook, lookL_val] at hv
  rw [hrun]
  unfold anyElem at hv
  simp only [Option.some.injEq, Prod.mk.injEq, DataW.held.injEq] at hv
  rw [hv.1]

/-- a store into it, in the walk -/
theorem wpList_updateL {P : Program} (w : World) {ops : Array Oper} {rest : List Oper} {o : Oper} {a : Act} {Q : Exit → Act → World → Prop}
    (hg : o.guard = none) (m x v : Operand) (t : TypeId) (hop : o.op = Op.mapUpdate t m x v) (k e : TypeId) (K : Keyed P k) (ht : P.underlying t = some (.map k e)) (b : Nat) (l : List (Lit × Value))
    (hm : a.eval m = .map (some b)) (hown : MapL P k b l w) (hn : l.length < maxLen) (key val : Value) (kl : Lit) (hx : a.eval x = key) (hv : a.eval v = val) (hkey : keyOf P k key = some kl)
    (hK : ∀ w', MapL P k b ((kl, val) :: l) w' → w.grownBy w' (some b) → wpList P ops Q rest (a.put o.dst undef) w') :
    wpList P ops Q (o :: rest) a w := by
  refine wpList_plain hg fun K' hK' => ?_
  obtain ⟨w', hrun, r1, r2⟩ := hown.put K ht hn hkey val
  unfold Oper.wp
  simp [execOp, hop, hm, hx, hv, hrun, Result.andThen]
  exact hK' _ _ (hK w' r1 r2)

theorem wpList_insertL {P : Program} (w : World) {ops : Array Oper} {rest : List Oper} {o : Oper} {a : Act} {Q : Exit → Act → World → Prop}
    (hg : o.guard = none) (m x v : Operand) (t : TypeId) (hop : o.op = Op.insert t m x v) (k e : TypeId) (K : Keyed P k) (ht : P.underlying t = some (.map k e)) (b : Nat) (l : List (Lit × Value))
    (hm : a.eval m = .map (some b)) (hown : MapL P k b l w) (hn : l.length < maxLen) (key val : Value) (kl : Lit) (hx : a.eval x = key) (hv : a.eval v = val) (hkey : keyOf P k key = some kl)
    (hK : ∀ w', MapL P k b ((kl, val) :: l) w' → w.grownBy w' (some b) → wpList P ops Q rest (a.put o.dst undef) w') :
    wpList P ops Q (o :: rest) a w := by
  refine wpList_plain hg fun K' hK' => ?_
  obtain ⟨w', hrun, r1, r2⟩ := hown.put K ht hn hkey val
  unfold Oper.wp
  simp [execOp, hop, hm, hx, hv, hrun, Result.andThen]
  exact hK' _ _ (hK w' r1 r2)

end Go.Proofs.YtnmhnaanpjlniaaGreat
/-
  A region whose order is open, walked by one invariant that looks at which operations have been done, whatever the order was.
-/
namespace Go.Proofs.YtnmhnaanpjlniaaGreat

theorem count_setR (l : List Bool) (i : Nat) (h : l[i]? = some false) : (l.set i true).count false + 1 = l.count false := by
  induction l generalizing i with
  | nil => simp at h
  | cons b r ih =>
    cases i with
    | zero =>
      simp at h
      subst h
      simp
    | succ i =>
      have h1 : r[i]? = some false := by simpa using h
      have := ih i h1
      simp only [List.set_cons_succ, List.count_cons]
      omega

theorem ready_false {md : Region.Mode} {ops : Array Oper} {listed : Array Bool} {i : Nat} (h : i ∈ Region.ready md ops listed) :
    listed.getD i true = false ∧ ∀ o, ops[i]? = some o → ∀ e ∈ o.after, Region.binds md e = true → listed.getD e.on false = true := by
  unfold Region.ready at h
  simp only [List.mem_filter, Bool.and_eq_true, Bool.not_eq_true'] at h
  refine ⟨h.2.1, fun o ho e he hb => ?_⟩
  have h2 := h.2.2
  rw [ho] at h2
  simp only [Option.map_some, Option.getD_some] at h2
  have h3 := (Array.all_eq_true_iff_forall_mem.1 h2) e he
  simpa [hb] using h3

theorem ready_nil_of_all {md : Region.Mode} {ops : Array Oper} {listed : Array Bool} (h : listed.toList.count false = 0) : Region.ready md ops listed = [] := by
  rw [List.eq_nil_iff_forall_not_mem]
  intro i hi
  have h1 := (ready_false hi).1
  have h2 : listed[i]? = some false := by
    rw [Array.getD_eq_getD_getElem?] at h1
    cases hl : listed[i]? with
    | none => rw [hl] at h1; simp at h1
    | some b => rw [hl] at h1; simp at h1; rw [h1]
  have h3 : false ∈ listed.toList := by
    have := Array.mem_of_getElem? h2
    simpa using this
  have := List.count_pos_iff.2 h3
  omega

/-- an invariant that every operation keeps, whichever is taken next -/
theorem wpAny_inv {P : Program} {md : Region.Mode} {ops : Array Oper} {Q : Exit → Act → World → Prop} (I : Nat → Array Bool → Act → World → Prop)
    (hstep : ∀ fuel listed a w i, i ∈ Region.ready md ops listed → I (fuel + 1) listed a w → wpOp P ops Q i (I fuel (listed.setIfInBounds i true)) a w)
    (hend : ∀ fuel listed a w, Region.ready md ops listed = [] → I fuel listed a w → Q .normal a w) :
    ∀ (fuel : Nat) (listed : Array Bool) (a : Act) (w : World), listed.toList.count false = fuel → I fuel listed a w → wpAny P md ops Q fuel listed a w := by
  intro fuel
  induction fuel with
  | zero => exact fun listed a w hc h => ⟨ready_nil_of_all hc, hend _ _ _ _ (ready_nil_of_all hc) h⟩
  | succ fuel ih =>
    intro listed a w hc h
    refine ⟨fun hr => hend _ _ _ _ hr h, fun i hi => ?_⟩
    refine wpOp_mono (fun a' w' h' => ih _ a' w' ?_ h') (hstep _ _ _ _ i hi h)
    have h1 := (ready_false hi).1
    have h2 : listed.toList[i]? = some false := by
      rw [Array.getD_eq_getD_getElem?] at h1
      rw [Array.getElem?_toList]
      cases hl : listed[i]? with
      | none => rw [hl] at h1; simp at h1
      | some b => rw [hl] at h1; simp at h1; rw [h1]
    have := count_setR _ i h2
    simp only [Array.toList_setIfInBounds]
    omega

end Go.Proofs.YtnmhnaanpjlniaaGreat
/-
  The table of operators: one call makes a new map in which each functor has its operation.
-/
namespace Go.Proofs.YtnmhnaanpjlniaaGreat
open Go.RowKit Go.Maps

theorem Tryz.laidOut : laidOutB Tryz.prog = true := by kernel_rfl
theorem rowK : 158 < Tryz.prog.types.size := of_decide_eq_true (by kernel_rfl)
theorem wideK : (match Tryz.prog.underlying 158 with | some (.array _ _) | some (.struct _) => true | _ => false) = true := by kernel_rfl
set_option maxRecDepth 100000 in
theorem keyed : Keyed Tryz.prog 158 := Keyed.of_law (deep_law_laid Tryz.laidOut (m := 2) (by omega) rowK (by kernel_rfl) wideK)

/-- a functor as a value, and as a key -/
def fun2 (s : ByteArray) (n : Int) : Value := .agg #[.string s, .int .i64 n]
def funKey (s : ByteArray) (n : Int) : Lit := .string (keyBytes [.string s.data.toList, .int .i64 n])

theorem key_of (s : ByteArray) (n : Int) (hs : s.size ≤ maxLen) (hn : (Lit.int .i64 n).wf = true) : keyOf Tryz.prog 158 (fun2 s n) = some (funKey s n) := by
  unfold keyOf
  rw [Tryz.underlying158]
  have h1 : Tryz.prog.keyType 158 = true := by kernel_rfl
  have hw : (Lit.int .i64 n).wf = true := hn
  obtain ⟨T, hsz⟩ : ∃ T, Tryz.prog.types.size + 1 = T + 1 + 1 := ⟨Tryz.prog.types.size - 1, by have := rowK; omega⟩
  simp only [h1, Bool.true_and]
  have hc : Tryz.prog.cellsOf 158 = 2 := by kernel_rfl
  have hcs : Tryz.prog.cellsOf 9 = 1 := by kernel_rfl
  have hci : Tryz.prog.cellsOf 3 = 1 := by kernel_rfl
  have hf : Value.formed Tryz.prog 158 (fun2 s n) = true := by
    simp [Value.formed, fun2, Tryz.underlying158, hc]
  rw [if_pos hf, hsz]
  have hl : Tryz.prog.keyLits (T + 1 + 1) 158 (fun2 s n).cells.toList = some [.string s.data.toList, .int .i64 n] := by
    unfold Program.keyLits
    rw [Tryz.underlying158]
    simp only [fun2, Value.cells, hc]
    have e1 : Tryz.prog.keyLits (T + 1) 9 [.string s] = some [.string s.data.toList] := by
      unfold Program.keyLits
      rw [Tryz.underlying9]
      simp only [if_pos hs]
    have e2 : Tryz.prog.keyLits (T + 1) 3 [.int .i64 n] = some [.int .i64 n] := by
      unfold Program.keyLits
      rw [Tryz.underlying3]
      simp only [hw, and_self, if_true]
    rw [if_pos ⟨rfl, by decide +kernel⟩]
    simp [hcs, hci, e1, e2]
  rw [hl]
  rfl

def opSyms : Nat → ByteArray
  | 0 => ⟨#[43]⟩ | 1 => ⟨#[45]⟩ | 2 => ⟨#[42]⟩ | 3 => ⟨#[47, 47]⟩ | 4 => ⟨#[114, 101, 109]⟩ | 5 => ⟨#[109, 111, 100]⟩ | _ => ⟨#[45]⟩
def opAr : Nat → Int
  | 6 => 1 | _ => 2
def opFn : Nat → Nat
  | 0 => 129 | 1 => 130 | 2 => 131 | 3 => 132 | 4 => 133 | 5 => 134 | _ => 130

abbrev RF (v : Value) : Option (DataW Unit × List MemPlace) :=
  match v with
  | .func (.func n) x y => if x.size = 0 ∧ y.size = 0 then some (.lit (.int .i64 n), []) else none
  | .nilFunc => some (.nil, [])
  | _ => none

theorem key_ops (j : Nat) (_hj : j < 7) : keyOf Tryz.prog 158 (fun2 (opSyms j) (opAr j)) = some (funKey (opSyms j) (opAr j)) := by
  refine key_of _ _ ?_ ?_
  · unfold opSyms; split <;> decide
  · unfold opAr; split <;> decide

/-- which entry a key is -/
def opIdx (k : Lit) : Option Nat := (List.range 7).find? (fun j => (funKey (opSyms j) (opAr j)).sameKey k)

theorem opIdx_self : ∀ j, j < 7 → opIdx (funKey (opSyms j) (opAr j)) = some j := by decide
theorem opIdx_eq {k : Lit} {j : Nat} (h : opIdx k = some j) : k = funKey (opSyms j) (opAr j) ∧ j < 7 := by
  unfold opIdx at h
  have h1 := List.find?_some h
  have h2 := List.mem_of_find?_eq_some h
  exact ⟨(WideAt.sameKey_eq h1).symm, by simpa using h2⟩

/-- what the table has of a key, when some of its entries are in -/
def opLook (inn : Nat → Bool) (k : Lit) (z : DataW Unit) : DataW Unit :=
  match opIdx k with
  | some j => if inn j then .lit (.int .i64 (opFn j)) else z
  | none => z

structure OpInv (B : Nat) (fuel : Nat) (inn : Nat → Bool) (w : World) : Prop where
  has : ∃ D n, w.ownsMap Tryz.prog 158 RF B n D ∧ n + fuel ≤ 17 ∧ IsMap D ∧ ∀ k z, D.atKey k z = opLook inn k z

theorem OpInv.put {B fuel : Nat} {inn : Nat → Bool} {w : World} (h : OpInv B (fuel + 1) inn w) (j : Nat) (hj : j < 7) :
    ∃ w', (Instr.mapUpdate 149 (.map (some B)) (fun2 (opSyms j) (opAr j)) (.func (.func (opFn j)) #[] #[])).run Tryz.prog w = .ok () w' ∧
      OpInv B fuel (fun i => inn i || i == j) w' ∧ w.grownBy w' (some B) := by
  obtain ⟨D, n, hown, hn, hD, hlook⟩ := h.has
  have hv : RF (.func (.func (opFn j)) #[] #[]) = some (.lit (.int .i64 (opFn j)), []) := rfl
  obtain ⟨w', hrun, hown', hg⟩ := hown.update keyed Tryz.underlying149 (by unfold maxLen; omega) (key_ops j hj) hv
  refine ⟨w', hrun, ⟨_, _, hown', by omega, hD.put _ _, fun k z => ?_⟩, hg⟩
  by_cases hk : k = funKey (opSyms j) (opAr j)
  · subst hk
    rw [atKey_put_same hD (keyed.key (key_ops j hj))]
    unfold opLook
    rw [opIdx_self j hj]
    simp
  · rw [atKey_put_other hk, hlook]
    unfold opLook
    cases hi : opIdx k with
    | none => rfl
    | some i =>
      have h1 := opIdx_eq hi
      have h2 : (i == j) = false := by
        rw [beq_eq_false_iff_ne]
        intro he
        subst he
        exact hk h1.1
      simp [h2]

theorem opLook_congr {inn inn' : Nat → Bool} (e : ∀ j, j < 7 → inn j = inn' j) (k : Lit) (z : DataW Unit) : opLook inn k z = opLook inn' k z := by
  unfold opLook
  cases hk : opIdx k with
  | none => rfl
  | some j => simp only [e j (opIdx_eq hk).2]

theorem OpInv.to {B f f' : Nat} {inn inn' : Nat → Bool} {w : World} (h : OpInv B f inn w) (hf : f' ≤ f) (e : ∀ j, j < 7 → inn j = inn' j) : OpInv B f' inn' w := by
  obtain ⟨D, n, h1, h2, h3, h4⟩ := h.has
  exact ⟨D, n, h1, by omega, h3, fun k z => by rw [h4, opLook_congr e]⟩

/-- the region's invariant -/
structure RegInv (w0 : World) (fuel : Nat) (l : Array Bool) (a : Act) (w : World) : Prop where
  defers : a.defers = []
  size : a.tmps.size = 10
  lsize : l.size = 17
  fuelle : fuel ≤ 17
  below : Below w0.heap.size w0 w
  made : l.getD 0 false = true → a.tmps[1]? = some (.map (some w0.heap.size)) ∧ OpInv w0.heap.size fuel (fun j => l.getD (2 * j + 2) false) w
  fresh : l.getD 0 false = false → w.heap.size = w0.heap.size ∧ ∀ j, j < 7 → l.getD (2 * j + 2) false = false
  built : ∀ j, j < 7 → l.getD (2 * j + 1) false = true → a.tmps[2 + j]? = some (fun2 (opSyms j) (opAr j))
  moved : l.getD 15 false = true → a.tmps[9]? = some (.map (some w0.heap.size))
  given : l.getD 16 false = true → a.tmps[0]? = some (.map (some w0.heap.size))

/-- the region's operations -/
structure OpsAre (ops : Array Oper) : Prop where
  size : ops.size = 17
  make : ∃ o, ops[0]? = some o ∧ o.dst = some 1 ∧ o.guard = none ∧ o.op = .makeMap 149 none
  build : ∀ j, j < 7 → ∃ o, ops[2 * j + 1]? = some o ∧ o.dst = some (2 + j) ∧ o.guard = none ∧ o.op = .build 158 #[(0, .const (.string (opSyms j))), (1, .const (.int .i64 (opAr j)))]
  insert : ∀ j, j < 7 → ∃ o, ops[2 * j + 2]? = some o ∧ o.dst = none ∧ o.guard = none ∧ o.op = .insert 149 (.tmp 1) (.tmp (2 + j)) (.func (opFn j)) ∧
    (⟨0, .data⟩ : Edge) ∈ o.after ∧ (⟨2 * j + 1, .data⟩ : Edge) ∈ o.after
  move : ∃ o, ops[15]? = some o ∧ o.dst = some 9 ∧ o.guard = none ∧ o.op = .move (.tmp 1) ∧ (⟨0, .data⟩ : Edge) ∈ o.after
  give : ∃ o, ops[16]? = some o ∧ o.dst = some 0 ∧ o.guard = none ∧ o.op = .assign (.tmp 9) ∧ (⟨15, .data⟩ : Edge) ∈ o.after ∧ ∀ j, j < 7 → ∃ e, e ∈ o.after ∧ e.on = 2 * j + 2 ∧ Region.binds .any e = true

theorem set_getD (l : Array Bool) (i j : Nat) (d : Bool) (hi : i < l.size) : (l.setIfInBounds i true).getD j d = if j = i then true else l.getD j d := by
  rw [Array.getD_eq_getD_getElem?, Array.getD_eq_getD_getElem?, Array.getElem?_setIfInBounds]
  by_cases h : i = j
  · subst h
    simp [hi]
  · have h' : ¬ j = i := fun e => h e.symm
    simp [h, h']

theorem put_tmp (a : Act) (d : Nat) (v : Value) (t : Nat) (hd : d < a.tmps.size) : (a.put (some d) v).tmps[t]? = if t = d then some v else a.tmps[t]? := by
  show (a.tmps.setIfInBounds d v)[t]? = _
  rw [Array.getElem?_setIfInBounds]
  by_cases h : d = t
  · subst h
    simp [hd]
  · have h' : ¬ t = d := fun e => h e.symm
    simp [h, h']

theorem wpOp_value {P : Program} {ops : Array Oper} {Q : Exit → Act → World → Prop} {i : Nat} {K : Act → World → Prop} {a : Act} {w w' : World} {o : Oper} {v : Value}
    (ho : ops[i]? = some o) (hg : o.guard = none) (hr : (execOp a.eval o).run P w = .ok (.value v) w') (hK : K (a.put o.dst v) w') : wpOp P ops Q i K a w := by
  unfold wpOp
  simp only [ho, Region.wanted, hg, if_true]
  refine .inl ?_
  unfold Oper.wp
  rw [hr]
  exact hK

theorem wpOp_skip {P : Program} {ops : Array Oper} {Q : Exit → Act → World → Prop} {i : Nat} {K : Act → World → Prop} {a : Act} {w w' : World} {o : Oper}
    (ho : ops[i]? = some o) (hg : o.guard = none) (hr : (execOp a.eval o).run P w = .ok .skip w') (hK : K (a.put o.dst undef) w') : wpOp P ops Q i K a w := by
  unfold wpOp
  simp only [ho, Region.wanted, hg, if_true]
  refine .inl ?_
  unfold Oper.wp
  rw [hr]
  exact hK

theorem ops_step {ops : Array Oper} {Q : Exit → Act → World → Prop} (O : OpsAre ops) (w : World) (fuel : Nat) (l : Array Bool) (a : Act) (w1 : World) (i : Nat)
    (hi : i ∈ Region.ready .any ops l) (h : RegInv w (fuel + 1) l a w1) : wpOp Tryz.prog ops Q i (RegInv w fuel (l.setIfInBounds i true)) a w1 := by
  obtain ⟨h1, h2⟩ := ready_false hi
  have hlt : i < 17 := by
    have := (List.mem_filter.1 hi).1
    rw [O.size] at this
    simpa using this
  have hls := h.lsize
  have hts := h.size
  have G := fun j d => set_getD l i j d (by omega)
  have hcase : i = 0 ∨ (∃ j, j < 7 ∧ i = 2 * j + 1) ∨ (∃ j, j < 7 ∧ i = 2 * j + 2) ∨ i = 15 ∨ i = 16 := by
    rcases Nat.lt_or_ge i 15 with h15 | h15
    · rcases Nat.eq_zero_or_pos i with h0 | h0
      · exact .inl h0
      · rcases Nat.mod_two_eq_zero_or_one i with hm | hm
        · exact .inr (.inr (.inl ⟨i / 2 - 1, by omega, by omega⟩))
        · exact .inr (.inl ⟨i / 2, by omega, by omega⟩)
    · exact .inr (.inr (.inr (by omega)))
  rcases hcase with rfl | ⟨j, hj, rfl⟩ | ⟨j, hj, rfl⟩ | rfl | rfl
  · obtain ⟨o, ho, hd, hg, hop⟩ := O.make
    have hf : l.getD 0 false = false := by
      rw [Array.getD_eq_getD_getElem?] at h1 ⊢
      cases hx : l[0]? <;> simp_all
    obtain ⟨hsz, hno⟩ := h.fresh hf
    refine wpOp_value (w' := w1.alloc (.map #[] 0)) (v := .map (some w.heap.size)) ho hg (by simp [execOp, hop, run_makeMap, Result.andThen, hsz]) ?_
    rw [hd]
    refine ⟨h.defers, by simp [Act.put, hts], by simp [hls], by have := h.fuelle; omega, h.below.alloc (by omega) _, ?_, ?_, ?_, ?_, ?_⟩
    · intro _
      refine ⟨by rw [put_tmp _ _ _ _ (by omega)]; simp, ⟨_, 0, by rw [← hsz]; exact World.ownsMap_made _ _ _ _, by have := h.fuelle; omega, isMap_empty, fun k z => ?_⟩⟩
      show z = _
      unfold opLook
      cases hk : opIdx k with
      | none => rfl
      | some j =>
        have hj := (opIdx_eq hk).2
        simp only [G]
        simp [hno j hj]
    · intro hc
      rw [G] at hc
      simp at hc
    · intro j hj hb
      rw [G, if_neg (by omega)] at hb
      rw [put_tmp _ _ _ _ (by omega), if_neg (by omega)]
      exact h.built j hj hb
    · intro hb
      rw [G, if_neg (by omega)] at hb
      rw [put_tmp _ _ _ _ (by omega), if_neg (by omega)]
      exact h.moved hb
    · intro hb
      rw [G, if_neg (by omega)] at hb
      rw [put_tmp _ _ _ _ (by omega), if_neg (by omega)]
      exact h.given hb
  · obtain ⟨o, ho, hd, hg, hop⟩ := O.build j hj
    refine wpOp_value (w' := w1) (v := fun2 (opSyms j) (opAr j)) ho hg (by simp [execOp, hop, go_sem, Act.eval, fun2]) ?_
    rw [hd]
    refine ⟨h.defers, by simp [Act.put, hts], by simp [hls], by have := h.fuelle; omega, h.below, ?_, ?_, ?_, ?_, ?_⟩
    · intro hb
      rw [G, if_neg (by omega)] at hb
      obtain ⟨p1, p2⟩ := h.made hb
      exact ⟨by rw [put_tmp _ _ _ _ (by omega), if_neg (by omega)]; exact p1, p2.to (by omega) (fun k hk => by rw [G, if_neg (by omega)])⟩
    · intro hc
      rw [G, if_neg (by omega)] at hc
      obtain ⟨q1, q2⟩ := h.fresh hc
      exact ⟨q1, fun k hk => by rw [G, if_neg (by omega)]; exact q2 k hk⟩
    · intro k hk hb
      rw [put_tmp _ _ _ _ (by omega)]
      by_cases hkj : k = j
      · subst hkj; simp
      · rw [G, if_neg (by omega)] at hb
        rw [if_neg (by omega)]
        exact h.built k hk hb
    · intro hb
      rw [G, if_neg (by omega)] at hb
      rw [put_tmp _ _ _ _ (by omega), if_neg (by omega)]
      exact h.moved hb
    · intro hb
      rw [G, if_neg (by omega)] at hb
      rw [put_tmp _ _ _ _ (by omega), if_neg (by omega)]
      exact h.given hb
  · obtain ⟨o, ho, hd, hg, hop, he0, he1⟩ := O.insert j hj
    have g0 := h2 o ho _ he0 rfl
    have g1 := h2 o ho _ he1 rfl
    obtain ⟨p1, p2⟩ := h.made g0
    have p3 := h.built j hj g1
    obtain ⟨w', hrun, hinv, hgrow⟩ := p2.put j hj
    refine wpOp_skip (w' := w') ho hg ?_ ?_
    · have t1 : a.eval (.tmp 1) = .map (some w.heap.size) := by simp [Act.eval, p1]
      have t2 : a.eval (.tmp (2 + j)) = fun2 (opSyms j) (opAr j) := by simp [Act.eval, p3]
      have t3 : a.eval (.func (opFn j)) = .func (.func (opFn j)) #[] #[] := by simp [Act.eval]
      simp [execOp, hop, t1, t2, t3, hrun, Result.andThen]
    rw [hd]
    refine ⟨h.defers, hts, by simp [hls], by have := h.fuelle; omega, h.below.grown hgrow h.below.size (by simp), ?_, ?_, ?_, ?_, ?_⟩
    · intro hb
      refine ⟨p1, hinv.to (Nat.le_refl _) (fun k hk => ?_)⟩
      rw [G]
      by_cases hkj : k = j
      · subst hkj; simp
      · have : (k == j) = false := beq_eq_false_iff_ne.2 hkj
        rw [if_neg (by omega), this, Bool.or_false]
    · intro hc
      rw [G, if_neg (by omega), g0] at hc
      cases hc
    · intro k hk hb
      rw [G, if_neg (by omega)] at hb
      exact h.built k hk hb
    · intro hb
      rw [G, if_neg (by omega)] at hb
      exact h.moved hb
    · intro hb
      rw [G, if_neg (by omega)] at hb
      exact h.given hb
  · obtain ⟨o, ho, hd, hg, hop, he0⟩ := O.move
    have g0 := h2 o ho _ he0 rfl
    obtain ⟨p1, p2⟩ := h.made g0
    refine wpOp_value (w' := w1) (v := .map (some w.heap.size)) ho hg (by simp [execOp, hop, go_sem, Act.eval, p1]) ?_
    rw [hd]
    refine ⟨h.defers, by simp [Act.put, hts], by simp [hls], by have := h.fuelle; omega, h.below, ?_, ?_, ?_, ?_, ?_⟩
    · intro hb
      exact ⟨by rw [put_tmp _ _ _ _ (by omega), if_neg (by omega)]; exact p1, p2.to (by omega) (fun k hk => by rw [G, if_neg (by omega)])⟩
    · intro hc
      rw [G, if_neg (by omega), g0] at hc
      cases hc
    · intro k hk hb
      rw [G, if_neg (by omega)] at hb
      rw [put_tmp _ _ _ _ (by omega), if_neg (by omega)]
      exact h.built k hk hb
    · intro _
      rw [put_tmp _ _ _ _ (by omega), if_pos rfl]
    · intro hb
      rw [G, if_neg (by omega)] at hb
      rw [put_tmp _ _ _ _ (by omega), if_neg (by omega)]
      exact h.given hb
  · obtain ⟨o, ho, hd, hg, hop, he15, _⟩ := O.give
    have g15 := h2 o ho _ he15 rfl
    have p9 := h.moved g15
    refine wpOp_value (w' := w1) (v := .map (some w.heap.size)) ho hg (by simp [execOp, hop, go_sem, Act.eval, p9]) ?_
    rw [hd]
    refine ⟨h.defers, by simp [Act.put, hts], by simp [hls], by have := h.fuelle; omega, h.below, ?_, ?_, ?_, ?_, ?_⟩
    · intro hb
      rw [G, if_neg (by omega)] at hb
      obtain ⟨p1, p2⟩ := h.made hb
      exact ⟨by rw [put_tmp _ _ _ _ (by omega), if_neg (by omega)]; exact p1, p2.to (by omega) (fun k hk => by rw [G, if_neg (by omega)])⟩
    · intro hc
      rw [G, if_neg (by omega)] at hc
      obtain ⟨q1, q2⟩ := h.fresh hc
      exact ⟨q1, fun k hk => by rw [G, if_neg (by omega)]; exact q2 k hk⟩
    · intro k hk hb
      rw [G, if_neg (by omega)] at hb
      rw [put_tmp _ _ _ _ (by omega), if_neg (by omega)]
      exact h.built k hk hb
    · intro hb
      rw [G, if_neg (by omega)] at hb
      rw [put_tmp _ _ _ _ (by omega), if_neg (by omega)]
      exact h.moved hb
    · intro _
      rw [put_tmp _ _ _ _ (by omega), if_pos rfl]

/-- nothing is left: then all is done -/
theorem all_done {ops : Array Oper} (O : ops.size = 17) (wf : (List.range 17).all (fun i => match ops[i]? with | some o => o.after.all (fun e => decide (e.on < i)) | none => true) = true) {l : Array Bool} (hl : l.size = 17) (h : Region.ready .any ops l = []) : ∀ i, i < 17 → l.getD i false = true := by
  intro i
  induction i using Nat.strongRecOn with
  | ind i ih =>
    intro hi
    cases hx : l.getD i false with
    | true => rfl
    | false =>
      exfalso
      have hm : i ∈ Region.ready .any ops l := by
        unfold Region.ready
        rw [List.mem_filter]
        have hsz := O
        refine ⟨by simpa [hsz] using hi, ?_⟩
        have h1 : l.getD i true = false := by
          rw [Array.getD_eq_getD_getElem?] at hx ⊢
          have : i < l.size := by omega
          simp [this] at hx ⊢
          exact hx
        have h2 : ∃ o, ops[i]? = some o := ⟨ops[i]'(by omega), by simp [hsz, hi]⟩
        obtain ⟨o, ho⟩ := h2
        rw [h1, ho]
        simp only [Bool.not_false, Bool.true_and, Option.map_some, Option.getD_some]
        rw [Array.all_eq_true_iff_forall_mem]
        intro e he
        have hw := List.all_eq_true.1 wf i (by simpa using hi)
        rw [ho] at hw
        have := of_decide_eq_true (Array.all_eq_true_iff_forall_mem.1 hw e he)
        rw [ih e.on this (by omega)]
        simp
      rw [h] at hm
      cases hm

set_option maxHeartbeats 1000000 in
theorem operators_any (w : World) :
    Calls Tryz.prog 124 #[] w fun e w' => e = .returned (.map (some w.heap.size)) ∧ Below w.heap.size w w' ∧ OpInv w.heap.size 0 (fun _ => true) w' := by
  go_enter Tryz.func124, Tryz.ntmps124
  go_wp2
  rename_i Q K hK
  refine wp_region_any (by kernel_rfl) ?_
  refine wpAny_inv (RegInv w) ?_ ?_ _ _ _ _ (by decide) ?_
  · intro fuel l a w1 i hi h
    refine ops_step ?_ w fuel l a w1 i hi h
    refine ⟨rfl, ⟨_, rfl, rfl, rfl, rfl⟩, ?_, ?_, ⟨_, rfl, rfl, rfl, rfl, by simp⟩, ⟨_, rfl, rfl, rfl, rfl, by simp, ?_⟩⟩
    · intro j hj
      match j, hj with
      | 0, _ | 1, _ | 2, _ | 3, _ | 4, _ | 5, _ | 6, _ => exact ⟨_, rfl, rfl, rfl, rfl⟩
    · intro j hj
      match j, hj with
      | 0, _ | 1, _ | 2, _ | 3, _ | 4, _ | 5, _ | 6, _ => exact ⟨_, rfl, rfl, rfl, rfl, by simp, by simp⟩
    · intro j hj
      refine ⟨⟨2 * j + 2, .phase⟩, ?_, rfl, rfl⟩
      match j, hj with
      | 0, _ | 1, _ | 2, _ | 3, _ | 4, _ | 5, _ | 6, _ => simp
  · intro fuel l a w1 hr h
    have D := all_done rfl (by kernel_rfl) h.lsize hr
    · have h0 := h.given (D 16 (by omega))
      obtain ⟨_, h2⟩ := h.made (D 0 (by omega))
      have h3 : OpInv w.heap.size 0 (fun _ => true) w1 := h2.to (by omega) (fun j hj => D (2 * j + 2) (by omega))
      have h4 := h.below
      have h5 := h.defers
      refine hK a w1 (wp_ret ?_)
      refine bodyPost_ret (v := .map (some w.heap.size)) ?_ h5 ⟨rfl, h4, h3⟩
      rw [results_tmp rfl]
      simp [h0]
  · have hz : ∀ i, (Array.replicate 17 false).getD i false = false := fun i => by
      rw [Array.getD_eq_getD_getElem?, Array.getElem?_replicate]
      split <;> rfl
    refine ⟨rfl, rfl, rfl, by decide, (Below.refl _ _).drew, ?_, ?_, ?_, ?_, ?_⟩
    · intro hc; cases (hz 0).symm.trans hc
    · exact fun _ => ⟨rfl, fun j hj => hz _⟩
    · intro j _ hc; cases (hz _).symm.trans hc
    · intro hc; cases (hz _).symm.trans hc
    · intro hc; cases (hz _).symm.trans hc

/-- what a look-up of a functor finds -/
def opFound (k : Lit) : Value :=
  match opIdx k with
  | some j => .func (.func (opFn j)) #[] #[]
  | none => .nilFunc

theorem RF_lit {v : Value} {n : Int} {ps : List MemPlace} (h : RF v = some (.lit (.int .i64 n), ps)) : ∃ f : Nat, n = f ∧ v = .func (.func f) #[] #[] := by
  unfold RF at h
  split at h
  · rename_i f x y
    split at h
    · rename_i hxy
      obtain rfl := Array.eq_empty_of_size_eq_zero hxy.1
      obtain rfl := Array.eq_empty_of_size_eq_zero hxy.2
      simp at h
      exact ⟨f, h.1.symm, rfl⟩
    · cases h
  · simp at h
  · cases h

theorem RF_nil {v : Value} {ps : List MemPlace} (h : RF v = some (.nil, ps)) : v = .nilFunc := by
  unfold RF at h
  split at h
  · split at h <;> simp at h
  · rfl
  · cases h

theorem zeroOp (w : World) : (zeroValue 160).run Tryz.prog w = .ok .nilFunc w := by kernel_rfl

theorem OpInv.lookup {B : Nat} {w : World} (h : OpInv B 0 (fun _ => true) w) (s : ByteArray) (n : Int) (hs : s.size ≤ maxLen) (hn : (Lit.int .i64 n).wf = true) :
    (Instr.lookup 149 (.map (some B)) (fun2 s n) false).run Tryz.prog w = .ok (opFound (funKey s n)) w := by
  obtain ⟨D, m, hown, _, hD, hlook⟩ := h.has
  obtain ⟨v, ps, hrun, hv⟩ := hown.lookup keyed Tryz.underlying149 (zeroOp w) (zd := .nil) (zp := []) rfl (key_of s n hs hn)
  rw [hlook] at hv
  rw [hrun]
  unfold opLook at hv
  unfold opFound
  cases hk : opIdx (funKey s n) with
  | none =>
    rw [hk] at hv
    rw [RF_nil hv]
  | some j =>
    rw [hk] at hv
    simp only [if_true] at hv
    obtain ⟨f, hf, rfl⟩ := RF_lit hv
    have : f = opFn j := by omega
    rw [this]

/-- the table stays while its block stays -/
theorem OpInv.same {B f : Nat} {inn : Nat → Bool} {w w' : World} (h : OpInv B f inn w) (e : w'.heap[B]? = w.heap[B]?) : OpInv B f inn w' := by
  obtain ⟨D, n, ⟨es, clock, hb, h1, h2, h3⟩, h4, h5, h6⟩ := h.has
  exact ⟨D, n, ⟨es, clock, e.trans hb, h1, h2, h3⟩, h4, h5, h6⟩

end Go.Proofs.YtnmhnaanpjlniaaGreat
/-
  Lists of terms as they lie in memory: a list is a first term, its parts, and the rest; and whatever reads as a list of terms, or as a term, lies so.
-/
namespace Go.Proofs.YtnmhnaanpjlniaaGreat
open Go.RowKit Go.WideShapes

/-- a list of terms, with the places where their parts lie -/
inductive Ts where
  | nil
  | cons (k : Int) (s : ByteArray) (n : Int) (p : Option Addr) (cap : Nat) (kids rest : Ts)

namespace Ts
def len : Ts → Nat
  | .nil => 0
  | .cons _ _ _ _ _ _ r => r.len + 1

/-- how many nodes -/
def size : Ts → Nat
  | .nil => 0
  | .cons _ _ _ _ _ k r => k.size + r.size + 1

/-- the cells lie from a place on, and those of the parts where the pointers lead -/
def lies (w : World) : Nat → Nat → Ts → Prop
  | _, _, .nil => True
  | b, o, .cons k s n p cap kids rest =>
    w.cell? ⟨b, o, none⟩ = some (.int .u8 k) ∧ w.cell? ⟨b, o + 1, none⟩ = some (.string s) ∧ w.cell? ⟨b, o + 2, none⟩ = some (.int .i64 n) ∧ w.cell? ⟨b, o + 3, none⟩ = some (.slice p kids.len cap) ∧
    (∃ b' o', (kids = .nil ∨ p = some ⟨b', o', none⟩) ∧ lies w b' o' kids) ∧ lies w b (o + 4) rest

/-- a slice's value leads to a list -/
def At (w : World) (p : Option Addr) (ts : Ts) : Prop := ∃ b o, (ts = .nil ∨ p = some ⟨b, o, none⟩) ∧ ts.lies w b o

/-- numbers are of their kinds, names and lists not too long -/
def ok : Ts → Prop
  | .nil => True
  | .cons k s n p cap kids rest => (0 ≤ k ∧ k ≤ 255) ∧ s.size ≤ 140737488351232 ∧ (-9223372036854775808 ≤ n ∧ n ≤ 9223372036854775807) ∧ (kids.len ≤ cap ∧ cap ≤ 9223372036854775807) ∧ (p = none → cap = 0) ∧ kids.ok ∧ rest.ok

def drop : Nat → Ts → Ts
  | 0, ts => ts
  | _ + 1, .nil => .nil
  | i + 1, .cons _ _ _ _ _ _ r => r.drop i

theorem len_zero {ts : Ts} (h : ts.len = 0) : ts = .nil := by
  cases ts with
  | nil => rfl
  | cons => simp [len] at h

theorem drop_len : ∀ (i : Nat) (ts : Ts), (ts.drop i).len = ts.len - i
  | 0, _ => rfl
  | _ + 1, .nil => by simp [drop, len]
  | i + 1, .cons _ _ _ _ _ _ r => by simp only [drop, len]; rw [drop_len i r]; omega

theorem drop_succ : ∀ (i : Nat) (ts : Ts) {k s n p cap kids rest}, ts.drop i = .cons k s n p cap kids rest → ts.drop (i + 1) = rest
  | 0, .cons _ _ _ _ _ _ r, _, _, _, _, _, _, _, h => by cases h; cases r <;> rfl
  | _ + 1, .nil, _, _, _, _, _, _, _, h => by simp [drop] at h
  | i + 1, .cons _ _ _ _ _ _ r, _, _, _, _, _, _, _, h => drop_succ i r h

theorem drop_cons {i : Nat} {ts : Ts} (h : i < ts.len) : ∃ k s n p cap kids rest, ts.drop i = .cons k s n p cap kids rest := by
  have h1 := drop_len i ts
  cases hd : ts.drop i with
  | nil => rw [hd] at h1; simp [len] at h1; omega
  | cons k s n p cap kids rest => exact ⟨_, _, _, _, _, _, _, rfl⟩

theorem drop_size : ∀ (i : Nat) (ts : Ts), (ts.drop i).size ≤ ts.size
  | 0, _ => Nat.le_refl _
  | _ + 1, .nil => Nat.le_refl _
  | i + 1, .cons _ _ _ _ _ _ r => by have := drop_size i r; simp only [drop, size]; omega

theorem lies_drop {w : World} : ∀ (i : Nat) (ts : Ts) {b o : Nat}, ts.lies w b o → (ts.drop i).lies w b (o + 4 * i)
  | 0, _, _, _, h => h
  | _ + 1, .nil, _, _, _ => trivial
  | i + 1, .cons _ _ _ _ _ _ r, b, o, h => by
    have := lies_drop i r h.2.2.2.2.2
    rw [show o + 4 * (i + 1) = o + 4 + 4 * i from by omega]
    exact this

theorem ok_drop : ∀ (i : Nat) (ts : Ts), ts.ok → (ts.drop i).ok
  | 0, _, h => h
  | _ + 1, .nil, h => h
  | i + 1, .cons _ _ _ _ _ _ r, h => ok_drop i r h.2.2.2.2.2.2

/-- it lies there while old cells stay -/
theorem lies_stay {w w' : World} (hc : ∀ b o, b < w.heap.size → w'.cell? ⟨b, o, none⟩ = w.cell? ⟨b, o, none⟩) : ∀ (ts : Ts) {b o : Nat}, ts.lies w b o → ts.lies w' b o
  | .nil, _, _, _ => trivial
  | .cons k s n p cap kids rest, b, o, ⟨h0, h1, h2, h3, ⟨b', o', h4, h5⟩, h6⟩ => by
    have hb : b < w.heap.size := World.block_lt_of_cell? _ _ h0
    exact ⟨(hc _ _ hb).trans h0, (hc _ _ hb).trans h1, (hc _ _ hb).trans h2, (hc _ _ hb).trans h3, ⟨b', o', h4, lies_stay hc kids h5⟩, lies_stay hc rest h6⟩

theorem At.stay {w w' : World} {p : Option Addr} {ts : Ts} (h : At w p ts) (hc : ∀ b o, b < w.heap.size → w'.cell? ⟨b, o, none⟩ = w.cell? ⟨b, o, none⟩) : At w' p ts := by
  obtain ⟨b, o, h1, h2⟩ := h
  exact ⟨b, o, h1, lies_stay hc ts h2⟩

theorem At.below {w w' : World} {p : Option Addr} {ts : Ts} (h : At w p ts) (hB : Below w.heap.size w w') : At w' p ts :=
  h.stay fun b o hb => hB.cell (p := ⟨b, o, none⟩) hb
end Ts

theorem u8_of_wf {n : Int} (h : (Lit.int .u8 n).wf = true) : 0 ≤ n ∧ n ≤ 255 := by
  have hmin : IntKind.u8.min = 0 := rfl
  have hmax : IntKind.u8.max = 255 := rfl
  simp only [Lit.wf, Bool.and_eq_true, decide_eq_true_eq, hmin, hmax] at h
  exact h
theorem i64_of_wf {n : Int} (h : (Lit.int .i64 n).wf = true) : -9223372036854775808 ≤ n ∧ n ≤ 9223372036854775807 := by
  have hmin : IntKind.i64.min = -9223372036854775808 := rfl
  have hmax : IntKind.i64.max = 9223372036854775807 := rfl
  simp only [Lit.wf, Bool.and_eq_true, decide_eq_true_eq, hmin, hmax] at h
  exact h

section
variable {H : Type} {enc : TypeId × Value → H} {base : Nat} {sp : Nat → Bool} {hd : Bool}

theorem cellsTerm : Tryz.prog.cellsOf 25 = 4 := by kernel_rfl
theorem cellsU8 : Tryz.prog.cellsOf 5 = 1 := by kernel_rfl
theorem cellsStr : Tryz.prog.cellsOf 9 = 1 := by kernel_rfl
theorem cellsI64 : Tryz.prog.cellsOf 2 = 1 := by kernel_rfl
theorem cellsTerms : Tryz.prog.cellsOf 23 = 1 := by kernel_rfl

theorem bytesTerm : Tryz.prog.bytesOf 25 = 56 := by kernel_rfl

theorem reach_eq : reachBytes = 140737488351232 := rfl

theorem weights_all {P : Program} {e : TypeId} : ∀ {ds : List (DataW H)} {d : DataW H}, d ∈ ds → ∀ n ∈ d.weights P e, n ∈ DataW.weightsAll P e ds
  | d0 :: ds, d, hd, n, hn => by
    simp only [DataW.weightsAll, List.mem_append]
    rcases List.mem_cons.1 hd with rfl | h
    · exact .inl hn
    · exact .inr (weights_all h n hn)

set_option maxRecDepth 4000 in
/-- a term's cells, as they read -/
theorem open_term_cells {w : World} {fuel : Nat} {cs : List Value} {x : DataW H × List MemPlace} (h : DataW.trod enc Tryz.prog w base sp hd fuel 25 cs = some x)
    (hw : ∀ m ∈ x.1.weights Tryz.prog 25, m ≤ reachBytes) :
    ∃ (k : Int) (s : ByteArray) (n : Int) (v : Value) (y : DataW H × List MemPlace) (m : Nat), m < fuel ∧ cs = [.int .u8 k, .string s, .int .i64 n, v] ∧ (0 ≤ k ∧ k ≤ 255) ∧ s.size ≤ 140737488351232 ∧ (-9223372036854775808 ≤ n ∧ n ≤ 9223372036854775807) ∧
      DataW.trod enc Tryz.prog w base sp hd m 23 [v] = some y ∧ (∀ m ∈ y.1.weights Tryz.prog 23, m ≤ reachBytes) := by
  obtain ⟨xs, m, rfl, rfl, hl, hlen, hf⟩ := DataW.trod_struct Tryz.underlying25 h
  rw [cellsTerm] at hl
  match cs, hl with
  | [c0, c1, c2, c3], _ =>
    match xs, hlen with
    | [x0, x1, x2, x3], _ =>
      have f0 : DataW.trod enc Tryz.prog w base sp hd m 5 [c0] = some x0 := by have := hf 0 _ rfl; simpa [cellsU8] using this
      have f1 : DataW.trod enc Tryz.prog w base sp hd m 9 [c1] = some x1 := by have := hf 1 _ rfl; simpa [cellsStr] using this
      have f2 : DataW.trod enc Tryz.prog w base sp hd m 2 [c2] = some x2 := by have := hf 2 _ rfl; simpa [cellsI64] using this
      have f3 : DataW.trod enc Tryz.prog w base sp hd m 23 [c3] = some x3 := by have := hf 3 _ rfl; simpa [cellsTerms] using this
      obtain ⟨k, e0, _, w0⟩ := DataW.trod_int Tryz.underlying5 f0
      obtain ⟨s, e1, rfl, w1⟩ := DataW.trod_string Tryz.underlying9 f1
      obtain ⟨n, e2, _, w2⟩ := DataW.trod_int Tryz.underlying2 f2
      simp only [List.cons.injEq, and_true] at e0 e1 e2
      subst e0 e1 e2
      have hin : ∀ q, q ∈ DataW.weightsEach Tryz.prog [5, 9, 2, 23] [x0.1, .lit (.string s.data.toList), x2.1, x3.1] → q ≤ reachBytes := fun q hq => by
        refine hw q ?_
        simp only [List.map_cons, List.map_nil, DataW.weights, Tryz.underlying25]
        exact hq
      have hs : s.size ≤ 140737488351232 := by
        have := hin s.data.toList.length (DataW.weights_mem_each (j := 1) rfl rfl _ (by simp [DataW.weights]))
        rw [reach_eq] at this
        simpa using this
      exact ⟨k, s, n, c3, x3, m, Nat.lt_succ_self _, rfl, u8_of_wf w0, hs, i64_of_wf w2, f3, fun q hq => hin q (DataW.weights_mem_each (j := 3) rfl rfl q hq)⟩

set_option maxRecDepth 100000 in
/-- whatever reads as a list of terms lies as one -/
theorem open_terms {w : World} : ∀ (fuel : Nat) {v : Value} {x : DataW H × List MemPlace}, DataW.trod enc Tryz.prog w base (fun _ => true) hd fuel 23 [v] = some x →
    (∀ m ∈ x.1.weights Tryz.prog 23, m ≤ reachBytes) →
    ∃ (p : Option Addr) (ts : Ts) (cap : Nat), v = .slice p ts.len cap ∧ Ts.At w p ts ∧ ts.ok ∧ ts.len ≤ cap ∧ cap * 56 ≤ 140737488351232 ∧ (p = none → cap = 0) := by
  intro fuel
  induction fuel using Nat.strongRecOn with
  | ind fuel ih =>
    intro v x h hw
    rcases DataW.trod_slice Tryz.underlying23 h with ⟨hcs, rfl⟩ | ⟨a, len, cap, elems, rest, n, rfl, hcs, rfl, hb, hl, hm, hlen, hel, hsp, _⟩
    · simp only [List.cons.injEq, and_true] at hcs
      subst hcs
      exact ⟨none, .nil, 0, rfl, ⟨0, 0, .inl rfl, trivial⟩, trivial, Nat.le_refl _, by omega, fun _ => rfl⟩
    · simp only [List.cons.injEq, and_true] at hcs
      subst hcs
      have hrest := (hsp rfl).1
      have hW : ∀ q, q ∈ ((elems.map (·.1)).length + (rest.map (·.1)).length) * 56 :: (DataW.weightsAll Tryz.prog 25 (elems.map (·.1)) ++ DataW.weightsAll Tryz.prog 25 (rest.map (·.1))) → q ≤ reachBytes := fun q hq => by
        refine hw q ?_
        simp only [DataW.weights, Tryz.underlying23, bytesTerm]
        exact hq
      have hcap : cap * 56 ≤ 140737488351232 := by
        have h1 := hW _ (List.mem_cons_self ..)
        simp only [List.length_map, hlen, hrest] at h1
        rw [reach_eq] at h1
        rw [show len + (cap - len) = cap from by omega] at h1
        exact h1
      have hspot0 : 0 < len → a.spot = none := fun h0 => by
        have hi := hel 0 h0
        have hlt : 0 < elems.length := by omega
        rw [List.getElem?_eq_getElem hlt] at hi
        obtain ⟨cs, hcs, _⟩ := Option.bind_eq_some_iff.1 hi
        rw [cellsTerm] at hcs
        obtain ⟨_, hcl, hcell⟩ := World.cells?_some hcs
        have h1 := hcell 0 (by omega)
        rw [List.getElem?_eq_getElem (by omega)] at h1
        have h2 := World.cell?_spot h1
        simpa [Addr.add] using h2
      have build : ∀ j, j ≤ len → ∃ ts : Ts, ts.len = j ∧ ts.lies w a.block (a.off + 4 * (len - j)) ∧ ts.ok ∧ (ts = .nil ∨ a.spot = none) := by
        intro j
        induction j with
        | zero => exact fun _ => ⟨.nil, rfl, trivial, trivial, .inl rfl⟩
        | succ j ihj =>
          intro hj
          obtain ⟨ts, h1, h2, h3, _⟩ := ihj (by omega)
          have hi := hel (len - (j + 1)) (by omega)
          have hget : ∃ y, elems[len - (j + 1)]? = some y ∧ y ∈ elems := by
            have hlt : len - (j + 1) < elems.length := by omega
            exact ⟨elems[len - (j + 1)], List.getElem?_eq_getElem hlt, List.getElem_mem hlt⟩
          obtain ⟨y, hy, hmem⟩ := hget
          rw [hy] at hi
          obtain ⟨cs, hcs, hread⟩ := Option.bind_eq_some_iff.1 hi
          rw [cellsTerm] at hcs
          obtain ⟨_, hcl, hcell⟩ := World.cells?_some hcs
          obtain ⟨k, s, m', v', y', f, hf, rfl, hk, hs, hm', hkid, hkw⟩ := open_term_cells hread (fun q hq => hW q (List.mem_cons_of_mem _ (List.mem_append_left _ (weights_all (List.mem_map.2 ⟨y, hmem, rfl⟩) q hq))))
          obtain ⟨p, ks, kc, rfl, hat, hok, hkl, hkc, hpn⟩ := ih f (by omega) hkid hkw
          have hspot := hspot0 (by omega)
          obtain ⟨b, off, spot⟩ := a
          simp only at hspot
          subst hspot
          have c0 := hcell 0 (by omega)
          have c1 := hcell 1 (by omega)
          have c2 := hcell 2 (by omega)
          have c3 := hcell 3 (by omega)
          simp only [add_plain, List.getElem?_cons_zero, List.getElem?_cons_succ] at c0 c1 c2 c3
          have eo : off + (len - (j + 1)) * 4 = off + 4 * (len - (j + 1)) := by omega
          rw [eo] at c0 c1 c2 c3
          refine ⟨.cons k s m' p kc ks ts, by simp [Ts.len, h1], ⟨c0, c1, c2, c3, hat, ?_⟩, ⟨hk, hs, hm', ⟨hkl, by omega⟩, hpn, hok, h3⟩, .inr rfl⟩
          rw [show off + 4 * (len - (j + 1)) + 4 = off + 4 * (len - j) from by omega]
          exact h2
      obtain ⟨ts, h1, h2, h3, h4⟩ := build len (Nat.le_refl _)
      refine ⟨some a, ts, cap, by rw [h1], ?_, h3, by omega, hcap, fun h => by cases h⟩
      rcases h4 with rfl | h4
      · exact ⟨0, 0, .inl rfl, trivial⟩
      · obtain ⟨b, off, spot⟩ := a
        simp only at h4
        subst h4
        rw [show off + 4 * (len - len) = off from by omega] at h2
        exact ⟨b, off, .inr rfl, h2⟩
end

end Go.Proofs.YtnmhnaanpjlniaaGreat
