import Derived.Test.YtnmhnaanpjlniaaGreatRows
import Derived.Test.YtnmhnaanpjlniaaGreatTa
import Derived.DeepKeys4
/-
  The table of reserved predicates, and whether a predicate is a builtin. (Written by gen_fb.py.)
-/
namespace Go.Proofs.YtnmhnaanpjlniaaGreat
open Go.RowKit Go.Maps

theorem prLaid : laidOutB Tryz.prog = true := by kernel_rfl
theorem prRow : 69 < Tryz.prog.types.size := of_decide_eq_true (by kernel_rfl)
theorem prWide : (match Tryz.prog.underlying 69 with | some (.array _ _) | some (.struct _) => true | _ => false) = true := by kernel_rfl
set_option maxRecDepth 100000 in
theorem prKeyed : Keyed Tryz.prog 69 := Keyed.of_law (deep_law_laid prLaid (m := 2) (by omega) prRow (by kernel_rfl) prWide)

/-- a predicate as a value, and as a key -/
def prV (s : ByteArray) (n : Int) : Value := .agg #[.string s, .int .i64 n]
def prKey (s : ByteArray) (n : Int) : Lit := .string (keyBytes [.string s.data.toList, .int .i64 n])

theorem prKey_of (s : ByteArray) (n : Int) (hs : s.size ≤ maxLen) (hn : (Lit.int .i64 n).wf = true) : keyOf Tryz.prog 69 (prV s n) = some (prKey s n) := by
  unfold keyOf
  rw [Tryz.underlying69]
  have h1 : Tryz.prog.keyType 69 = true := by kernel_rfl
  have hw : (Lit.int .i64 n).wf = true := hn
  obtain ⟨T, hsz⟩ : ∃ T, Tryz.prog.types.size + 1 = T + 1 + 1 := ⟨Tryz.prog.types.size - 1, by have := prRow; omega⟩
  simp only [h1, Bool.true_and]
  have hc : Tryz.prog.cellsOf 69 = 2 := by kernel_rfl
  have hcs : Tryz.prog.cellsOf 9 = 1 := by kernel_rfl
  have hci : Tryz.prog.cellsOf 3 = 1 := by kernel_rfl
  have hf : Value.formed Tryz.prog 69 (prV s n) = true := by
    simp [Value.formed, prV, Tryz.underlying69, hc]
  rw [if_pos hf, hsz]
  have hl : Tryz.prog.keyLits (T + 1 + 1) 69 (prV s n).cells.toList = some [.string s.data.toList, .int .i64 n] := by
    unfold Program.keyLits
    rw [Tryz.underlying69]
    simp only [prV, Value.cells, hc]
    have e1 : Tryz.prog.keyLits (T + 1) 9 [.string s] = some [.string s.data.toList] := by
      unfold Program.keyLits
      rw [Tryz.underlying9]
      simp only [if_pos hs]
    have e2 : Tryz.prog.keyLits (T + 1) 3 [.int .i64 n] = some [.int .i64 n] := by
      unfold Program.keyLits
      rw [Tryz.underlying3]
      simp only [hw, and_self, if_true]
    rw [if_pos ⟨rfl, by decide +kernel⟩]
    simp [hcs, hci, e1, e2]
  rw [hl]
  rfl

def rsSym : Nat → ByteArray
  | 0 => ⟨#[33]⟩
  | 1 => ⟨#[44]⟩
  | 2 => ⟨#[59]⟩
  | 3 => ⟨#[45, 62]⟩
  | 4 => ⟨#[92, 43]⟩
  | 5 => ⟨#[58, 45]⟩
  | 6 => ⟨#[58, 45]⟩
  | 7 => ⟨#[116, 114, 117, 101]⟩
  | 8 => ⟨#[102, 97, 105, 108]⟩
  | 9 => ⟨#[118, 97, 114]⟩
  | 10 => ⟨#[110, 111, 110, 118, 97, 114]⟩
  | 11 => ⟨#[97, 116, 111, 109]⟩
  | 12 => ⟨#[105, 110, 116, 101, 103, 101, 114]⟩
  | 13 => ⟨#[97, 116, 111, 109, 105, 99]⟩
  | 14 => ⟨#[99, 111, 109, 112, 111, 117, 110, 100]⟩
  | 15 => ⟨#[61]⟩
  | 16 => ⟨#[92, 61]⟩
  | 17 => ⟨#[61, 61]⟩
  | 18 => ⟨#[92, 61, 61]⟩
  | 19 => ⟨#[64, 60]⟩
  | 20 => ⟨#[64, 62]⟩
  | 21 => ⟨#[64, 61, 60]⟩
  | 22 => ⟨#[64, 62, 61]⟩
  | 23 => ⟨#[105, 115]⟩
  | 24 => ⟨#[61, 58, 61]⟩
  | 25 => ⟨#[61, 92, 61]⟩
  | 26 => ⟨#[60]⟩
  | 27 => ⟨#[62]⟩
  | 28 => ⟨#[61, 60]⟩
  | 29 => ⟨#[62, 61]⟩
  | _ => ⟨#[]⟩
def rsAr : Nat → Int
  | 0 => 0
  | 1 => 2
  | 2 => 2
  | 3 => 2
  | 4 => 1
  | 5 => 2
  | 6 => 1
  | 7 => 0
  | 8 => 0
  | 9 => 1
  | 10 => 1
  | 11 => 1
  | 12 => 1
  | 13 => 1
  | 14 => 1
  | 15 => 2
  | 16 => 2
  | 17 => 2
  | 18 => 2
  | 19 => 2
  | 20 => 2
  | 21 => 2
  | 22 => 2
  | 23 => 2
  | 24 => 2
  | 25 => 2
  | 26 => 2
  | 27 => 2
  | 28 => 2
  | 29 => 2
  | _ => 0
def rsW : Nat → Int
  | 0 => 2
  | 1 => 3
  | 2 => 3
  | 3 => 3
  | 4 => 3
  | 5 => 3
  | 6 => 3
  | 7 => 1
  | 8 => 1
  | 9 => 1
  | 10 => 1
  | 11 => 1
  | 12 => 1
  | 13 => 1
  | 14 => 1
  | 15 => 1
  | 16 => 1
  | 17 => 1
  | 18 => 1
  | 19 => 1
  | 20 => 1
  | 21 => 1
  | 22 => 1
  | 23 => 1
  | 24 => 1
  | 25 => 1
  | 26 => 1
  | 27 => 1
  | 28 => 1
  | 29 => 1
  | _ => 0

theorem rsSym_size (j : Nat) (hj : j < 30) : (rsSym j).size ≤ maxLen := by unfold rsSym; split <;> decide
theorem rsAr_wf (j : Nat) (hj : j < 30) : (Lit.int .i64 (rsAr j)).wf = true := by unfold rsAr; split <;> decide
theorem rs_key (j : Nat) (hj : j < 30) : keyOf Tryz.prog 69 (prV (rsSym j) (rsAr j)) = some (prKey (rsSym j) (rsAr j)) := prKey_of _ _ (rsSym_size j hj) (rsAr_wf j hj)

/-- which entry a key is -/
def rsIdx (k : Lit) : Option Nat := (List.range 30).find? (fun j => (prKey (rsSym j) (rsAr j)).sameKey k)
set_option maxRecDepth 100000 in
theorem rsIdx_self : ∀ j, j < 30 → rsIdx (prKey (rsSym j) (rsAr j)) = some j := by decide +kernel
theorem rsIdx_eq {k : Lit} {j : Nat} (h : rsIdx k = some j) : k = prKey (rsSym j) (rsAr j) ∧ j < 30 := by
  unfold rsIdx at h
  have h1 := List.find?_some h
  have h2 := List.mem_of_find?_eq_some h
  exact ⟨(WideAt.sameKey_eq h1).symm, by simpa using h2⟩

/-- what the table has of a key, when some of its entries are in -/
def rsLook (inn : Nat → Bool) (k : Lit) (z : DataW Value) : DataW Value :=
  match rsIdx k with
  | some j => if inn j then .held (.int .i64 (rsW j)) else z
  | none => z

structure RsInv (B fuel : Nat) (inn : Nat → Bool) (w : World) : Prop where
  has : ∃ l, MapL Tryz.prog 69 B l w ∧ l.length + fuel ≤ 60 ∧ ∀ k z, lookL l k z = rsLook inn k z

theorem RsInv.cons {B fuel : Nat} {inn : Nat → Bool} {l : List (Lit × Value)} {w w' : World} (hl : ∀ k z, lookL l k z = rsLook inn k z) (hn : l.length + (fuel + 1) ≤ 60) (j : Nat) (hj : j < 30)
    (hM : MapL Tryz.prog 69 B ((prKey (rsSym j) (rsAr j), .int .i64 (rsW j)) :: l) w') : RsInv B fuel (fun i => inn i || i == j) w' := by
  refine ⟨_, hM, by simp only [List.length_cons]; omega, fun k z => ?_⟩
  unfold lookL
  by_cases hk : k = prKey (rsSym j) (rsAr j)
  · subst hk
    rw [if_pos (WideAt.sameKey_self (prKeyed.key (rs_key j hj)))]
    unfold rsLook
    rw [rsIdx_self j hj]
    simp
  · rw [if_neg (by rw [sameKey_ne (fun e => hk e.symm)]; simp), hl]
    unfold rsLook
    cases hi : rsIdx k with
    | none => rfl
    | some i =>
      have h1 := rsIdx_eq hi
      have h2 : (i == j) = false := by
        rw [beq_eq_false_iff_ne]
        intro he
        subst he
        exact hk h1.1
      simp [h2]

theorem RsInv.put {B fuel : Nat} {inn : Nat → Bool} {w : World} (h : RsInv B (fuel + 1) inn w) (j : Nat) (hj : j < 30) :
    ∃ w', (Instr.mapUpdate 108 (.map (some B)) (prV (rsSym j) (rsAr j)) (.int .i64 (rsW j))).run Tryz.prog w = .ok () w' ∧
      RsInv B fuel (fun i => inn i || i == j) w' ∧ w.grownBy w' (some B) := by
  obtain ⟨l, hM, hn, hl⟩ := h.has
  obtain ⟨w', hrun, hM', hg⟩ := hM.put prKeyed Tryz.underlying108 (by unfold maxLen; omega) (rs_key j hj) (.int .i64 (rsW j))
  exact ⟨w', hrun, RsInv.cons (w := w) hl hn j hj hM', hg⟩

theorem rsLook_congr {inn inn' : Nat → Bool} (e : ∀ j, j < 30 → inn j = inn' j) (k : Lit) (z : DataW Value) : rsLook inn k z = rsLook inn' k z := by
  unfold rsLook
  cases hk : rsIdx k with
  | none => rfl
  | some j => simp only [e j (rsIdx_eq hk).2]

theorem RsInv.to {B f f' : Nat} {inn inn' : Nat → Bool} {w : World} (h : RsInv B f inn w) (hf : f' ≤ f) (e : ∀ j, j < 30 → inn j = inn' j) : RsInv B f' inn' w := by
  obtain ⟨l, h1, h2, h3⟩ := h.has
  exact ⟨l, h1, by omega, fun k z => by rw [h3, rsLook_congr e]⟩

theorem RsInv.same {B f : Nat} {inn : Nat → Bool} {w w' : World} (h : RsInv B f inn w) (e : w'.heap[B]? = w.heap[B]?) : RsInv B f inn w' := by
  obtain ⟨l, h1, h2, h3⟩ := h.has
  exact ⟨l, h1.same e, h2, h3⟩

/-- which entries are in, when some of the region's operations have been done -/
def rsIn (l : Array Bool) (j : Nat) : Bool := decide (j < 9) && l.getD (2 * j + 2) false

/-- the region's invariant -/
structure RsReg (w0 : World) (fuel : Nat) (l : Array Bool) (a : Act) (w : World) : Prop where
  defers : a.defers = []
  size : a.tmps.size = 34
  lsize : l.size = 21
  fuelle : fuel ≤ 21
  below : Below w0.heap.size w0 w
  made : l.getD 0 false = true → a.tmps[6]? = some (.map (some w0.heap.size)) ∧ RsInv w0.heap.size (fuel + 30) (rsIn l) w
  fresh : l.getD 0 false = false → w.heap.size = w0.heap.size ∧ ∀ j, j < 9 → l.getD (2 * j + 2) false = false
  built : ∀ j, j < 9 → l.getD (2 * j + 1) false = true → a.tmps[7 + j]? = some (prV (rsSym j) (rsAr j))
  moved : l.getD 19 false = true → a.tmps[16]? = some (.map (some w0.heap.size))
  given : l.getD 20 false = true → a.tmps[1]? = some (.map (some w0.heap.size))

/-- the region's operations -/
structure RsOps (ops : Array Oper) : Prop where
  size : ops.size = 21
  make : ∃ o, ops[0]? = some o ∧ o.dst = some 6 ∧ o.guard = none ∧ o.op = .makeMap 108 none
  build : ∀ j, j < 9 → ∃ o, ops[2 * j + 1]? = some o ∧ o.dst = some (7 + j) ∧ o.guard = none ∧ ∀ (a : Act) (w : World), (execOp a.eval o).run Tryz.prog w = .ok (.value (prV (rsSym j) (rsAr j))) w
  insert : ∀ j, j < 9 → ∃ o, ops[2 * j + 2]? = some o ∧ o.dst = none ∧ o.guard = none ∧ o.op = .insert 108 (.tmp 6) (.tmp (7 + j)) (.const (.int .i64 (rsW j))) ∧
    (⟨0, .data⟩ : Edge) ∈ o.after ∧ (⟨2 * j + 1, .data⟩ : Edge) ∈ o.after
  move : ∃ o, ops[19]? = some o ∧ o.dst = some 16 ∧ o.guard = none ∧ o.op = .move (.tmp 6) ∧ (⟨0, .data⟩ : Edge) ∈ o.after
  give : ∃ o, ops[20]? = some o ∧ o.dst = some 1 ∧ o.guard = none ∧ o.op = .assign (.tmp 16) ∧ (⟨19, .data⟩ : Edge) ∈ o.after

theorem rset_getD (l : Array Bool) (i j : Nat) (d : Bool) (hi : i < l.size) : (l.setIfInBounds i true).getD j d = if j = i then true else l.getD j d := by
  rw [Array.getD_eq_getD_getElem?, Array.getD_eq_getD_getElem?, Array.getElem?_setIfInBounds]
  by_cases h : i = j
  · subst h
    simp [hi]
  · have h' : ¬ j = i := fun e => h e.symm
    simp [h, h']

theorem rput_tmp (a : Act) (d : Nat) (v : Value) (t : Nat) (hd : d < a.tmps.size) : (a.put (some d) v).tmps[t]? = if t = d then some v else a.tmps[t]? := by
  show (a.tmps.setIfInBounds d v)[t]? = _
  rw [Array.getElem?_setIfInBounds]
  by_cases h : d = t
  · subst h
    simp [hd]
  · have h' : ¬ t = d := fun e => h e.symm
    simp [h, h']

theorem rOp_value {P : Program} {ops : Array Oper} {Q : Exit → Act → World → Prop} {i : Nat} {K : Act → World → Prop} {a : Act} {w w' : World} {o : Oper} {v : Value}
    (ho : ops[i]? = some o) (hg : o.guard = none) (hr : (execOp a.eval o).run P w = .ok (.value v) w') (hK : K (a.put o.dst v) w') : wpOp P ops Q i K a w := by
  unfold wpOp
  simp only [ho, Region.wanted, hg, if_true]
  refine .inl ?_
  unfold Oper.wp
  rw [hr]
  exact hK

theorem rOp_skip {P : Program} {ops : Array Oper} {Q : Exit → Act → World → Prop} {i : Nat} {K : Act → World → Prop} {a : Act} {w w' : World} {o : Oper}
    (ho : ops[i]? = some o) (hg : o.guard = none) (hr : (execOp a.eval o).run P w = .ok .skip w') (hK : K (a.put o.dst undef) w') : wpOp P ops Q i K a w := by
  unfold wpOp
  simp only [ho, Region.wanted, hg, if_true]
  refine .inl ?_
  unfold Oper.wp
  rw [hr]
  exact hK

theorem rsIn_set (l : Array Bool) (hl : l.size = 21) (j : Nat) (hj : j < 9) (k : Nat) : rsIn (l.setIfInBounds (2 * j + 2) true) k = (rsIn l k || k == j) := by
  unfold rsIn
  rw [rset_getD l _ _ _ (by omega)]
  by_cases hkj : k = j
  · subst hkj; simp [hj]
  · have : (k == j) = false := beq_eq_false_iff_ne.2 hkj
    rw [if_neg (by omega), this, Bool.or_false]

set_option maxHeartbeats 1000000 in
theorem rs_step {ops : Array Oper} {Q : Exit → Act → World → Prop} (O : RsOps ops) (w : World) (fuel : Nat) (l : Array Bool) (a : Act) (w1 : World) (i : Nat)
    (hi : i ∈ Region.ready .any ops l) (h : RsReg w (fuel + 1) l a w1) : wpOp Tryz.prog ops Q i (RsReg w fuel (l.setIfInBounds i true)) a w1 := by
  obtain ⟨h1, h2⟩ := ready_false hi
  have hlt : i < 21 := by
    have := (List.mem_filter.1 hi).1
    rw [O.size] at this
    simpa using this
  have hls := h.lsize
  have hts := h.size
  have G := fun j d => rset_getD l i j d (by omega)
  have hcase : i = 0 ∨ (∃ j, j < 9 ∧ i = 2 * j + 1) ∨ (∃ j, j < 9 ∧ i = 2 * j + 2) ∨ i = 19 ∨ i = 20 := by
    rcases Nat.lt_or_ge i 19 with h15 | h15
    · rcases Nat.eq_zero_or_pos i with h0 | h0
      · exact .inl h0
      · rcases Nat.mod_two_eq_zero_or_one i with hm | hm
        · exact .inr (.inr (.inl ⟨i / 2 - 1, by omega, by omega⟩))
        · exact .inr (.inl ⟨i / 2, by omega, by omega⟩)
    · exact .inr (.inr (.inr (by omega)))
  rcases hcase with rfl | ⟨j, hj, rfl⟩ | ⟨j, hj, rfl⟩ | rfl | rfl
  · obtain ⟨o, ho, hd, hg, hop⟩ := O.make
    have hf : l.getD 0 false = false := by
      rw [Array.getD_eq_getD_getElem?] at h1 ⊢
      cases hx : l[0]? <;> simp_all
    obtain ⟨hsz, hno⟩ := h.fresh hf
    refine rOp_value (w' := w1.alloc (.map #[] 0)) (v := .map (some w.heap.size)) ho hg (by simp [execOp, hop, run_makeMap, Result.andThen, hsz]) ?_
    rw [hd]
    refine ⟨h.defers, by simp [Act.put, hts], by simp [hls], by have := h.fuelle; omega, h.below.alloc (by omega) _, ?_, ?_, ?_, ?_, ?_⟩
    · intro _
      refine ⟨by rw [rput_tmp _ _ _ _ (by omega)]; simp, ⟨[], by rw [← hsz]; exact MapL.made _ _ _, by have := h.fuelle; simp only [List.length_nil]; omega, fun k z => ?_⟩⟩
      show z = _
      unfold rsLook
      cases hk : rsIdx k with
      | none => rfl
      | some j =>
        have : rsIn (l.setIfInBounds 0 true) j = false := by
          unfold rsIn
          by_cases h9 : j < 9
          · rw [G, if_neg (by omega), hno j h9, Bool.and_false]
          · simp [h9]
        simp [this]
    · intro hc
      rw [G] at hc
      simp at hc
    · intro j hj hb
      rw [G, if_neg (by omega)] at hb
      rw [rput_tmp _ _ _ _ (by omega), if_neg (by omega)]
      exact h.built j hj hb
    · intro hb
      rw [G, if_neg (by omega)] at hb
      rw [rput_tmp _ _ _ _ (by omega), if_neg (by omega)]
      exact h.moved hb
    · intro hb
      rw [G, if_neg (by omega)] at hb
      rw [rput_tmp _ _ _ _ (by omega), if_neg (by omega)]
      exact h.given hb
  · obtain ⟨o, ho, hd, hg, hrun⟩ := O.build j hj
    refine rOp_value (w' := w1) (v := prV (rsSym j) (rsAr j)) ho hg (hrun _ _) ?_
    rw [hd]
    refine ⟨h.defers, by simp [Act.put, hts], by simp [hls], by have := h.fuelle; omega, h.below, ?_, ?_, ?_, ?_, ?_⟩
    · intro hb
      rw [G, if_neg (by omega)] at hb
      obtain ⟨p1, p2⟩ := h.made hb
      exact ⟨by rw [rput_tmp _ _ _ _ (by omega), if_neg (by omega)]; exact p1, p2.to (by omega) (fun k hk => by unfold rsIn; by_cases h9 : k < 9 <;> simp only [h9, decide_true, decide_false, Bool.true_and, Bool.false_and]; rw [G, if_neg (by omega)])⟩
    · intro hc
      rw [G, if_neg (by omega)] at hc
      obtain ⟨q1, q2⟩ := h.fresh hc
      exact ⟨q1, fun k hk => by rw [G, if_neg (by omega)]; exact q2 k hk⟩
    · intro k hk hb
      rw [rput_tmp _ _ _ _ (by omega)]
      by_cases hkj : k = j
      · subst hkj; simp
      · rw [G, if_neg (by omega)] at hb
        rw [if_neg (by omega)]
        exact h.built k hk hb
    · intro hb
      rw [G, if_neg (by omega)] at hb
      rw [rput_tmp _ _ _ _ (by omega), if_neg (by omega)]
      exact h.moved hb
    · intro hb
      rw [G, if_neg (by omega)] at hb
      rw [rput_tmp _ _ _ _ (by omega), if_neg (by omega)]
      exact h.given hb
  · obtain ⟨o, ho, hd, hg, hop, he0, he1⟩ := O.insert j hj
    have g0 := h2 o ho _ he0 rfl
    have g1 := h2 o ho _ he1 rfl
    obtain ⟨p1, p2⟩ := h.made g0
    have p3 := h.built j hj g1
    obtain ⟨w', hrun, hinv, hgrow⟩ := RsInv.put (fuel := fuel + 30) (p2.to (by omega) (fun _ _ => rfl)) j (by omega)
    refine rOp_skip (w' := w') ho hg ?_ ?_
    · have t1 : a.eval (.tmp 6) = .map (some w.heap.size) := by simp [Act.eval, p1]
      have t2 : a.eval (.tmp (7 + j)) = prV (rsSym j) (rsAr j) := by simp [Act.eval, p3]
      have t3 : a.eval (.const (.int .i64 (rsW j))) = .int .i64 (rsW j) := by simp [Act.eval]
      simp [execOp, hop, t1, t2, t3, hrun, Result.andThen]
    rw [hd]
    refine ⟨h.defers, hts, by simp [hls], by have := h.fuelle; omega, h.below.grown hgrow h.below.size (by simp), ?_, ?_, ?_, ?_, ?_⟩
    · intro hb
      exact ⟨p1, hinv.to (Nat.le_refl _) (fun k _ => (rsIn_set l hls j hj k).symm)⟩
    · intro hc
      rw [G, if_neg (by omega), g0] at hc
      cases hc
    · intro k hk hb
      rw [G, if_neg (by omega)] at hb
      exact h.built k hk hb
    · intro hb
      rw [G, if_neg (by omega)] at hb
      exact h.moved hb
    · intro hb
      rw [G, if_neg (by omega)] at hb
      exact h.given hb
  · obtain ⟨o, ho, hd, hg, hop, he0⟩ := O.move
    have g0 := h2 o ho _ he0 rfl
    obtain ⟨p1, p2⟩ := h.made g0
    refine rOp_value (w' := w1) (v := .map (some w.heap.size)) ho hg (by simp [execOp, hop, go_sem, Act.eval, p1]) ?_
    rw [hd]
    refine ⟨h.defers, by simp [Act.put, hts], by simp [hls], by have := h.fuelle; omega, h.below, ?_, ?_, ?_, ?_, ?_⟩
    · intro hb
      rw [G, if_neg (by omega)] at hb
      obtain ⟨p1, p2⟩ := h.made hb
      exact ⟨by rw [rput_tmp _ _ _ _ (by omega), if_neg (by omega)]; exact p1, p2.to (by omega) (fun k hk => by unfold rsIn; by_cases h9 : k < 9 <;> simp only [h9, decide_true, decide_false, Bool.true_and, Bool.false_and]; rw [G, if_neg (by omega)])⟩
    · intro hc
      rw [G, if_neg (by omega)] at hc
      obtain ⟨q1, q2⟩ := h.fresh hc
      exact ⟨q1, fun k hk => by rw [G, if_neg (by omega)]; exact q2 k hk⟩
    · intro j hj hb
      rw [G, if_neg (by omega)] at hb
      rw [rput_tmp _ _ _ _ (by omega), if_neg (by omega)]
      exact h.built j hj hb
    · intro _
      rw [rput_tmp _ _ _ _ (by omega), if_pos rfl]
    · intro hb
      rw [G, if_neg (by omega)] at hb
      rw [rput_tmp _ _ _ _ (by omega), if_neg (by omega)]
      exact h.given hb
  · obtain ⟨o, ho, hd, hg, hop, he15⟩ := O.give
    have g15 := h2 o ho _ he15 rfl
    have p9 := h.moved g15
    refine rOp_value (w' := w1) (v := .map (some w.heap.size)) ho hg (by simp [execOp, hop, go_sem, Act.eval, p9]) ?_
    rw [hd]
    refine ⟨h.defers, by simp [Act.put, hts], by simp [hls], by have := h.fuelle; omega, h.below, ?_, ?_, ?_, ?_, ?_⟩
    · intro hb
      rw [G, if_neg (by omega)] at hb
      obtain ⟨p1, p2⟩ := h.made hb
      exact ⟨by rw [rput_tmp _ _ _ _ (by omega), if_neg (by omega)]; exact p1, p2.to (by omega) (fun k hk => by unfold rsIn; by_cases h9 : k < 9 <;> simp only [h9, decide_true, decide_false, Bool.true_and, Bool.false_and]; rw [G, if_neg (by omega)])⟩
    · intro hc
      rw [G, if_neg (by omega)] at hc
      obtain ⟨q1, q2⟩ := h.fresh hc
      exact ⟨q1, fun k hk => by rw [G, if_neg (by omega)]; exact q2 k hk⟩
    · intro j hj hb
      rw [G, if_neg (by omega)] at hb
      rw [rput_tmp _ _ _ _ (by omega), if_neg (by omega)]
      exact h.built j hj hb
    · intro hb
      rw [G, if_neg (by omega)] at hb
      rw [rput_tmp _ _ _ _ (by omega), if_neg (by omega)]
      exact h.moved hb
    · intro _
      rw [rput_tmp _ _ _ _ (by omega), if_pos rfl]
theorem rs_lit (A : Array Value) (h : A.size = 34) : ∃ f : Nat → Value, A = #[f 0, f 1, f 2, f 3, f 4, f 5, f 6, f 7, f 8, f 9, f 10, f 11, f 12, f 13, f 14, f 15, f 16, f 17, f 18, f 19, f 20, f 21, f 22, f 23, f 24, f 25, f 26, f 27, f 28, f 29, f 30, f 31, f 32, f 33] := by
  refine ⟨fun i => A.getD i undef, ?_⟩
  apply Array.ext
  · simpa using h
  intro i h1 h2
  rw [h] at h1
  have e : A[i] = A.getD i undef := by rw [Array.getD_eq_getD_getElem?]; simp [h, h1]
  rw [e]
  clear e
  revert h2
  match i, h1 with
  | 0, _ | 1, _ | 2, _ | 3, _ | 4, _ | 5, _ | 6, _ | 7, _ | 8, _ | 9, _ | 10, _ | 11, _ | 12, _ | 13, _ | 14, _ | 15, _ | 16, _ | 17, _ | 18, _ | 19, _ | 20, _ | 21, _ | 22, _ | 23, _ | 24, _ | 25, _ | 26, _ | 27, _ | 28, _ | 29, _ | 30, _ | 31, _ | 32, _ | 33, _ => exact fun _ => rfl
  | n + 34, h => exact fun _ => absurd h (by omega)

theorem inn_step (j n : Nat) : (decide (j < n) || j == n) = decide (j < n + 1) := by
  rw [Bool.eq_iff_iff]
  simp only [Bool.or_eq_true, decide_eq_true_eq, beq_iff_eq]
  omega


/-- nothing is left: then all is done -/
theorem rs_done {ops : Array Oper} (O : ops.size = 21) (wf : (List.range 21).all (fun i => match ops[i]? with | some o => o.after.all (fun e => decide (e.on < i)) | none => true) = true) {l : Array Bool} (hl : l.size = 21) (h : Region.ready .any ops l = []) : ∀ i, i < 21 → l.getD i false = true := by
  intro i
  induction i using Nat.strongRecOn with
  | ind i ih =>
    intro hi
    cases hx : l.getD i false with
    | true => rfl
    | false =>
      exfalso
      have hm : i ∈ Region.ready .any ops l := by
        unfold Region.ready
        rw [List.mem_filter]
        have hsz := O
        refine ⟨by simpa [hsz] using hi, ?_⟩
        have h1 : l.getD i true = false := by
          rw [Array.getD_eq_getD_getElem?] at hx ⊢
          have : i < l.size := by omega
          simp [this] at hx ⊢
          exact hx
        have h2 : ∃ o, ops[i]? = some o := ⟨ops[i]'(by omega), by simp [hsz, hi]⟩
        obtain ⟨o, ho⟩ := h2
        rw [h1, ho]
        simp only [Bool.not_false, Bool.true_and, Option.map_some, Option.getD_some]
        rw [Array.all_eq_true_iff_forall_mem]
        intro e he
        have hw := List.all_eq_true.1 wf i (by simpa using hi)
        rw [ho] at hw
        have := of_decide_eq_true (Array.all_eq_true_iff_forall_mem.1 hw e he)
        rw [ih e.on this (by omega)]
        simp
      rw [h] at hm
      cases hm


theorem zeroInt (w : World) : (zeroValue 3).run Tryz.prog w = .ok (.int .i64 0) w := by kernel_rfl

set_option maxRecDepth 100000 in
set_option maxHeartbeats 4000000 in
theorem reserved_any (w : World) :
    Calls Tryz.prog 71 #[] w fun e w' => e = .returned (.map (some w.heap.size)) ∧ Below w.heap.size w w' ∧ RsInv w.heap.size 0 (fun _ => true) w' := by
  go_enter Tryz.func71, Tryz.ntmps71
  go_wp2
  rename_i Q K hK
  refine wp_region_any (by kernel_rfl) ?_
  refine wpAny_inv (RsReg w) ?_ ?_ _ _ _ _ (by decide) ?_
  · intro fuel l a w1 i hi h
    refine rs_step ?_ w fuel l a w1 i hi h
    refine ⟨rfl, ⟨_, rfl, rfl, rfl, rfl⟩, ?_, ?_, ⟨_, rfl, rfl, rfl, rfl, by simp⟩, ⟨_, rfl, rfl, rfl, rfl, by simp⟩⟩
    · intro j hj
      match j, hj with
      | 0, _ | 1, _ | 2, _ | 3, _ | 4, _ | 5, _ | 6, _ | 7, _ | 8, _ => exact ⟨_, rfl, rfl, rfl, fun a w => by kernel_rfl⟩
    · intro j hj
      match j, hj with
      | 0, _ | 1, _ | 2, _ | 3, _ | 4, _ | 5, _ | 6, _ | 7, _ | 8, _ => exact ⟨_, rfl, rfl, rfl, rfl, by simp, by simp⟩
  · intro fuel l a w1 hr h
    have D := rs_done rfl (by kernel_rfl) h.lsize hr
    have h0 := h.given (D 20 (by omega))
    obtain ⟨_, h2⟩ := h.made (D 0 (by omega))
    have h3 : RsInv w.heap.size 30 (fun j => decide (j < 9)) w1 := h2.to (by omega) (fun j hj => by unfold rsIn; by_cases h9 : j < 9 <;> simp only [h9, decide_true, decide_false, Bool.true_and, Bool.false_and]; exact D _ (by omega))
    have h4 := h.below
    have h5 := h.defers
    obtain ⟨f, hf⟩ := rs_lit a.tmps h.size
    have hf1 : f 1 = .map (some w.heap.size) := by rw [hf] at h0; simpa using h0
    clear h h0 h2 D hr
    obtain ⟨tm, df⟩ := a
    simp only at hf h5
    subst hf h5
    refine hK _ w1 ?_
    rw [hf1]
    clear hK K hf1
    have BW := Lib.hid h4
    have RI := Lib.hid h3
    clear h3 h4
    go_wp2
    go_loopw [3, 18] (fun _ i wr => ∃ k : Nat, k ≤ 6 ∧ i = .int .i64 k ∧ Hid (Below w.heap.size w wr) ∧ Hid (RsInv w.heap.size (30 - k) (fun j => decide (j < 9 + k)) wr)) (fun _ i _ => 6 - (intOf i).toNat)
    case atStart => exact ⟨0, by omega, rfl, BW, RI⟩
    case round =>
      obtain ⟨k, hk, rfl, BW, RI⟩ := hrel
      obtain ⟨l, hM, hn, hl⟩ := RI.out.has
      have HM := Lib.hid hM
      have HN := Lib.hid hn
      have HL := Lib.hid hl
      clear hM hn hl RI
      have hcase : k = 0 ∨ k = 1 ∨ k = 2 ∨ k = 3 ∨ k = 4 ∨ k = 5 ∨ k = 6 := by omega
      rcases hcase with rfl | rfl | rfl | rfl | rfl | rfl | rfl
      · have hn' : l.length < maxLen := by have := HN.out; unfold maxLen; omega
        have hix : ∀ w, (Instr.index 131 (.agg #[.string ⟨#[118, 97, 114]⟩, .string ⟨#[110, 111, 110, 118, 97, 114]⟩, .string ⟨#[97, 116, 111, 109]⟩, .string ⟨#[105, 110, 116, 101, 103, 101, 114]⟩, .string ⟨#[97, 116, 111, 109, 105, 99]⟩, .string ⟨#[99, 111, 109, 112, 111, 117, 110, 100]⟩]) (.int .i64 0)).run Tryz.prog w = .ok (.string ⟨#[118, 97, 114]⟩) w := fun _ => by kernel_rfl
        go_wp2_with (at_mapUpdate; refine wpList_updateL _ rfl _ _ _ 108 rfl 69 3 prKeyed Tryz.underlying108 w.heap.size l rfl HM.out hn' _ _ _ rfl rfl (rs_key 9 (by omega)) ?_; intro w1 hM1 hg1; have X := Lib.hid (And.intro hM1 hg1); clear hM1 hg1)
        go_roundw
        case rel =>
          refine ⟨1, by omega, rfl, Lib.hid (BW.out.grown X.out.2 BW.out.size (by simp)), Lib.hid ((RsInv.cons (w := w) (fuel := 29) HL.out (by have := HN.out; omega) 9 (by omega) X.out.1).to (by omega) (fun j _ => ?_))⟩
          exact inn_step _ _
        case measure => simp [intOf]
      · have hn' : l.length < maxLen := by have := HN.out; unfold maxLen; omega
        have hix : ∀ w, (Instr.index 131 (.agg #[.string ⟨#[118, 97, 114]⟩, .string ⟨#[110, 111, 110, 118, 97, 114]⟩, .string ⟨#[97, 116, 111, 109]⟩, .string ⟨#[105, 110, 116, 101, 103, 101, 114]⟩, .string ⟨#[97, 116, 111, 109, 105, 99]⟩, .string ⟨#[99, 111, 109, 112, 111, 117, 110, 100]⟩]) (.int .i64 1)).run Tryz.prog w = .ok (.string ⟨#[110, 111, 110, 118, 97, 114]⟩) w := fun _ => by kernel_rfl
        go_wp2_with (at_mapUpdate; refine wpList_updateL _ rfl _ _ _ 108 rfl 69 3 prKeyed Tryz.underlying108 w.heap.size l rfl HM.out hn' _ _ _ rfl rfl (rs_key 10 (by omega)) ?_; intro w1 hM1 hg1; have X := Lib.hid (And.intro hM1 hg1); clear hM1 hg1)
        go_roundw
        case rel =>
          refine ⟨2, by omega, rfl, Lib.hid (BW.out.grown X.out.2 BW.out.size (by simp)), Lib.hid ((RsInv.cons (w := w) (fuel := 28) HL.out (by have := HN.out; omega) 10 (by omega) X.out.1).to (by omega) (fun j _ => ?_))⟩
          exact inn_step _ _
        case measure => simp [intOf]
      · have hn' : l.length < maxLen := by have := HN.out; unfold maxLen; omega
        have hix : ∀ w, (Instr.index 131 (.agg #[.string ⟨#[118, 97, 114]⟩, .string ⟨#[110, 111, 110, 118, 97, 114]⟩, .string ⟨#[97, 116, 111, 109]⟩, .string ⟨#[105, 110, 116, 101, 103, 101, 114]⟩, .string ⟨#[97, 116, 111, 109, 105, 99]⟩, .string ⟨#[99, 111, 109, 112, 111, 117, 110, 100]⟩]) (.int .i64 2)).run Tryz.prog w = .ok (.string ⟨#[97, 116, 111, 109]⟩) w := fun _ => by kernel_rfl
        go_wp2_with (at_mapUpdate; refine wpList_updateL _ rfl _ _ _ 108 rfl 69 3 prKeyed Tryz.underlying108 w.heap.size l rfl HM.out hn' _ _ _ rfl rfl (rs_key 11 (by omega)) ?_; intro w1 hM1 hg1; have X := Lib.hid (And.intro hM1 hg1); clear hM1 hg1)
        go_roundw
        case rel =>
          refine ⟨3, by omega, rfl, Lib.hid (BW.out.grown X.out.2 BW.out.size (by simp)), Lib.hid ((RsInv.cons (w := w) (fuel := 27) HL.out (by have := HN.out; omega) 11 (by omega) X.out.1).to (by omega) (fun j _ => ?_))⟩
          exact inn_step _ _
        case measure => simp [intOf]
      · have hn' : l.length < maxLen := by have := HN.out; unfold maxLen; omega
        have hix : ∀ w, (Instr.index 131 (.agg #[.string ⟨#[118, 97, 114]⟩, .string ⟨#[110, 111, 110, 118, 97, 114]⟩, .string ⟨#[97, 116, 111, 109]⟩, .string ⟨#[105, 110, 116, 101, 103, 101, 114]⟩, .string ⟨#[97, 116, 111, 109, 105, 99]⟩, .string ⟨#[99, 111, 109, 112, 111, 117, 110, 100]⟩]) (.int .i64 3)).run Tryz.prog w = .ok (.string ⟨#[105, 110, 116, 101, 103, 101, 114]⟩) w := fun _ => by kernel_rfl
        go_wp2_with (at_mapUpdate; refine wpList_updateL _ rfl _ _ _ 108 rfl 69 3 prKeyed Tryz.underlying108 w.heap.size l rfl HM.out hn' _ _ _ rfl rfl (rs_key 12 (by omega)) ?_; intro w1 hM1 hg1; have X := Lib.hid (And.intro hM1 hg1); clear hM1 hg1)
        go_roundw
        case rel =>
          refine ⟨4, by omega, rfl, Lib.hid (BW.out.grown X.out.2 BW.out.size (by simp)), Lib.hid ((RsInv.cons (w := w) (fuel := 26) HL.out (by have := HN.out; omega) 12 (by omega) X.out.1).to (by omega) (fun j _ => ?_))⟩
          exact inn_step _ _
        case measure => simp [intOf]
      · have hn' : l.length < maxLen := by have := HN.out; unfold maxLen; omega
        have hix : ∀ w, (Instr.index 131 (.agg #[.string ⟨#[118, 97, 114]⟩, .string ⟨#[110, 111, 110, 118, 97, 114]⟩, .string ⟨#[97, 116, 111, 109]⟩, .string ⟨#[105, 110, 116, 101, 103, 101, 114]⟩, .string ⟨#[97, 116, 111, 109, 105, 99]⟩, .string ⟨#[99, 111, 109, 112, 111, 117, 110, 100]⟩]) (.int .i64 4)).run Tryz.prog w = .ok (.string ⟨#[97, 116, 111, 109, 105, 99]⟩) w := fun _ => by kernel_rfl
        go_wp2_with (at_mapUpdate; refine wpList_updateL _ rfl _ _ _ 108 rfl 69 3 prKeyed Tryz.underlying108 w.heap.size l rfl HM.out hn' _ _ _ rfl rfl (rs_key 13 (by omega)) ?_; intro w1 hM1 hg1; have X := Lib.hid (And.intro hM1 hg1); clear hM1 hg1)
        go_roundw
        case rel =>
          refine ⟨5, by omega, rfl, Lib.hid (BW.out.grown X.out.2 BW.out.size (by simp)), Lib.hid ((RsInv.cons (w := w) (fuel := 25) HL.out (by have := HN.out; omega) 13 (by omega) X.out.1).to (by omega) (fun j _ => ?_))⟩
          exact inn_step _ _
        case measure => simp [intOf]
      · have hn' : l.length < maxLen := by have := HN.out; unfold maxLen; omega
        have hix : ∀ w, (Instr.index 131 (.agg #[.string ⟨#[118, 97, 114]⟩, .string ⟨#[110, 111, 110, 118, 97, 114]⟩, .string ⟨#[97, 116, 111, 109]⟩, .string ⟨#[105, 110, 116, 101, 103, 101, 114]⟩, .string ⟨#[97, 116, 111, 109, 105, 99]⟩, .string ⟨#[99, 111, 109, 112, 111, 117, 110, 100]⟩]) (.int .i64 5)).run Tryz.prog w = .ok (.string ⟨#[99, 111, 109, 112, 111, 117, 110, 100]⟩) w := fun _ => by kernel_rfl
        go_wp2_with (at_mapUpdate; refine wpList_updateL _ rfl _ _ _ 108 rfl 69 3 prKeyed Tryz.underlying108 w.heap.size l rfl HM.out hn' _ _ _ rfl rfl (rs_key 14 (by omega)) ?_; intro w1 hM1 hg1; have X := Lib.hid (And.intro hM1 hg1); clear hM1 hg1)
        go_roundw
        case rel =>
          refine ⟨6, by omega, rfl, Lib.hid (BW.out.grown X.out.2 BW.out.size (by simp)), Lib.hid ((RsInv.cons (w := w) (fuel := 24) HL.out (by have := HN.out; omega) 14 (by omega) X.out.1).to (by omega) (fun j _ => ?_))⟩
          exact inn_step _ _
        case measure => simp [intOf]
      · have RI : Hid (RsInv w.heap.size 24 (fun j => decide (j < 15)) wr) := Lib.hid ⟨l, HM.out, HN.out, HL.out⟩
        clear HM HN HL
        rw [show ((6 : Nat) : Int) = 6 from rfl]
        go_wp2
        go_loopw [5, 26] (fun _ i wr => ∃ k : Nat, k ≤ 15 ∧ i = .int .i64 k ∧ Hid (Below w.heap.size w wr) ∧ Hid (RsInv w.heap.size (24 - k) (fun j => decide (j < 15 + k)) wr)) (fun _ i _ => 15 - (intOf i).toNat)
        case atStart => exact ⟨0, by omega, rfl, BW, RI⟩
        case round =>
          obtain ⟨k, hk, rfl, BW, RI⟩ := hrel
          obtain ⟨l, hM, hn, hl⟩ := RI.out.has
          have HM := Lib.hid hM
          have HN := Lib.hid hn
          have HL := Lib.hid hl
          clear hM hn hl RI
          have hcase : k = 0 ∨ k = 1 ∨ k = 2 ∨ k = 3 ∨ k = 4 ∨ k = 5 ∨ k = 6 ∨ k = 7 ∨ k = 8 ∨ k = 9 ∨ k = 10 ∨ k = 11 ∨ k = 12 ∨ k = 13 ∨ k = 14 ∨ k = 15 := by omega
          rcases hcase with rfl | rfl | rfl | rfl | rfl | rfl | rfl | rfl | rfl | rfl | rfl | rfl | rfl | rfl | rfl | rfl
          · have hn' : l.length < maxLen := by have := HN.out; unfold maxLen; omega
            have hix : ∀ w, (Instr.index 132 (.agg #[.string ⟨#[61]⟩, .string ⟨#[92, 61]⟩, .string ⟨#[61, 61]⟩, .string ⟨#[92, 61, 61]⟩, .string ⟨#[64, 60]⟩, .string ⟨#[64, 62]⟩, .string ⟨#[64, 61, 60]⟩, .string ⟨#[64, 62, 61]⟩, .string ⟨#[105, 115]⟩, .string ⟨#[61, 58, 61]⟩, .string ⟨#[61, 92, 61]⟩, .string ⟨#[60]⟩, .string ⟨#[62]⟩, .string ⟨#[61, 60]⟩, .string ⟨#[62, 61]⟩]) (.int .i64 0)).run Tryz.prog w = .ok (.string ⟨#[61]⟩) w := fun _ => by kernel_rfl
            go_wp2_with (at_mapUpdate; refine wpList_updateL _ rfl _ _ _ 108 rfl 69 3 prKeyed Tryz.underlying108 w.heap.size l rfl HM.out hn' _ _ _ rfl rfl (rs_key 15 (by omega)) ?_; intro w1 hM1 hg1; have X := Lib.hid (And.intro hM1 hg1); clear hM1 hg1)
            go_roundw
            case rel =>
              refine ⟨1, by omega, rfl, Lib.hid (BW.out.grown X.out.2 BW.out.size (by simp)), Lib.hid ((RsInv.cons (w := w) (fuel := 23) HL.out (by have := HN.out; omega) 15 (by omega) X.out.1).to (by omega) (fun j _ => ?_))⟩
              exact inn_step _ _
            case measure => simp [intOf]
          · have hn' : l.length < maxLen := by have := HN.out; unfold maxLen; omega
            have hix : ∀ w, (Instr.index 132 (.agg #[.string ⟨#[61]⟩, .string ⟨#[92, 61]⟩, .string ⟨#[61, 61]⟩, .string ⟨#[92, 61, 61]⟩, .string ⟨#[64, 60]⟩, .string ⟨#[64, 62]⟩, .string ⟨#[64, 61, 60]⟩, .string ⟨#[64, 62, 61]⟩, .string ⟨#[105, 115]⟩, .string ⟨#[61, 58, 61]⟩, .string ⟨#[61, 92, 61]⟩, .string ⟨#[60]⟩, .string ⟨#[62]⟩, .string ⟨#[61, 60]⟩, .string ⟨#[62, 61]⟩]) (.int .i64 1)).run Tryz.prog w = .ok (.string ⟨#[92, 61]⟩) w := fun _ => by kernel_rfl
            go_wp2_with (at_mapUpdate; refine wpList_updateL _ rfl _ _ _ 108 rfl 69 3 prKeyed Tryz.underlying108 w.heap.size l rfl HM.out hn' _ _ _ rfl rfl (rs_key 16 (by omega)) ?_; intro w1 hM1 hg1; have X := Lib.hid (And.intro hM1 hg1); clear hM1 hg1)
            go_roundw
            case rel =>
              refine ⟨2, by omega, rfl, Lib.hid (BW.out.grown X.out.2 BW.out.size (by simp)), Lib.hid ((RsInv.cons (w := w) (fuel := 22) HL.out (by have := HN.out; omega) 16 (by omega) X.out.1).to (by omega) (fun j _ => ?_))⟩
              exact inn_step _ _
            case measure => simp [intOf]
          · have hn' : l.length < maxLen := by have := HN.out; unfold maxLen; omega
            have hix : ∀ w, (Instr.index 132 (.agg #[.string ⟨#[61]⟩, .string ⟨#[92, 61]⟩, .string ⟨#[61, 61]⟩, .string ⟨#[92, 61, 61]⟩, .string ⟨#[64, 60]⟩, .string ⟨#[64, 62]⟩, .string ⟨#[64, 61, 60]⟩, .string ⟨#[64, 62, 61]⟩, .string ⟨#[105, 115]⟩, .string ⟨#[61, 58, 61]⟩, .string ⟨#[61, 92, 61]⟩, .string ⟨#[60]⟩, .string ⟨#[62]⟩, .string ⟨#[61, 60]⟩, .string ⟨#[62, 61]⟩]) (.int .i64 2)).run Tryz.prog w = .ok (.string ⟨#[61, 61]⟩) w := fun _ => by kernel_rfl
            go_wp2_with (at_mapUpdate; refine wpList_updateL _ rfl _ _ _ 108 rfl 69 3 prKeyed Tryz.underlying108 w.heap.size l rfl HM.out hn' _ _ _ rfl rfl (rs_key 17 (by omega)) ?_; intro w1 hM1 hg1; have X := Lib.hid (And.intro hM1 hg1); clear hM1 hg1)
            go_roundw
            case rel =>
              refine ⟨3, by omega, rfl, Lib.hid (BW.out.grown X.out.2 BW.out.size (by simp)), Lib.hid ((RsInv.cons (w := w) (fuel := 21) HL.out (by have := HN.out; omega) 17 (by omega) X.out.1).to (by omega) (fun j _ => ?_))⟩
              exact inn_step _ _
            case measure => simp [intOf]
          · have hn' : l.length < maxLen := by have := HN.out; unfold maxLen; omega
            have hix : ∀ w, (Instr.index 132 (.agg #[.string ⟨#[61]⟩, .string ⟨#[92, 61]⟩, .string ⟨#[61, 61]⟩, .string ⟨#[92, 61, 61]⟩, .string ⟨#[64, 60]⟩, .string ⟨#[64, 62]⟩, .string ⟨#[64, 61, 60]⟩, .string ⟨#[64, 62, 61]⟩, .string ⟨#[105, 115]⟩, .string ⟨#[61, 58, 61]⟩, .string ⟨#[61, 92, 61]⟩, .string ⟨#[60]⟩, .string ⟨#[62]⟩, .string ⟨#[61, 60]⟩, .string ⟨#[62, 61]⟩]) (.int .i64 3)).run Tryz.prog w = .ok (.string ⟨#[92, 61, 61]⟩) w := fun _ => by kernel_rfl
            go_wp2_with (at_mapUpdate; refine wpList_updateL _ rfl _ _ _ 108 rfl 69 3 prKeyed Tryz.underlying108 w.heap.size l rfl HM.out hn' _ _ _ rfl rfl (rs_key 18 (by omega)) ?_; intro w1 hM1 hg1; have X := Lib.hid (And.intro hM1 hg1); clear hM1 hg1)
            go_roundw
            case rel =>
              refine ⟨4, by omega, rfl, Lib.hid (BW.out.grown X.out.2 BW.out.size (by simp)), Lib.hid ((RsInv.cons (w := w) (fuel := 20) HL.out (by have := HN.out; omega) 18 (by omega) X.out.1).to (by omega) (fun j _ => ?_))⟩
              exact inn_step _ _
            case measure => simp [intOf]
          · have hn' : l.length < maxLen := by have := HN.out; unfold maxLen; omega
            have hix : ∀ w, (Instr.index 132 (.agg #[.string ⟨#[61]⟩, .string ⟨#[92, 61]⟩, .string ⟨#[61, 61]⟩, .string ⟨#[92, 61, 61]⟩, .string ⟨#[64, 60]⟩, .string ⟨#[64, 62]⟩, .string ⟨#[64, 61, 60]⟩, .string ⟨#[64, 62, 61]⟩, .string ⟨#[105, 115]⟩, .string ⟨#[61, 58, 61]⟩, .string ⟨#[61, 92, 61]⟩, .string ⟨#[60]⟩, .string ⟨#[62]⟩, .string ⟨#[61, 60]⟩, .string ⟨#[62, 61]⟩]) (.int .i64 4)).run Tryz.prog w = .ok (.string ⟨#[64, 60]⟩) w := fun _ => by kernel_rfl
            go_wp2_with (at_mapUpdate; refine wpList_updateL _ rfl _ _ _ 108 rfl 69 3 prKeyed Tryz.underlying108 w.heap.size l rfl HM.out hn' _ _ _ rfl rfl (rs_key 19 (by omega)) ?_; intro w1 hM1 hg1; have X := Lib.hid (And.intro hM1 hg1); clear hM1 hg1)
            go_roundw
            case rel =>
              refine ⟨5, by omega, rfl, Lib.hid (BW.out.grown X.out.2 BW.out.size (by simp)), Lib.hid ((RsInv.cons (w := w) (fuel := 19) HL.out (by have := HN.out; omega) 19 (by omega) X.out.1).to (by omega) (fun j _ => ?_))⟩
              exact inn_step _ _
            case measure => simp [intOf]
          · have hn' : l.length < maxLen := by have := HN.out; unfold maxLen; omega
            have hix : ∀ w, (Instr.index 132 (.agg #[.string ⟨#[61]⟩, .string ⟨#[92, 61]⟩, .string ⟨#[61, 61]⟩, .string ⟨#[92, 61, 61]⟩, .string ⟨#[64, 60]⟩, .string ⟨#[64, 62]⟩, .string ⟨#[64, 61, 60]⟩, .string ⟨#[64, 62, 61]⟩, .string ⟨#[105, 115]⟩, .string ⟨#[61, 58, 61]⟩, .string ⟨#[61, 92, 61]⟩, .string ⟨#[60]⟩, .string ⟨#[62]⟩, .string ⟨#[61, 60]⟩, .string ⟨#[62, 61]⟩]) (.int .i64 5)).run Tryz.prog w = .ok (.string ⟨#[64, 62]⟩) w := fun _ => by kernel_rfl
            go_wp2_with (at_mapUpdate; refine wpList_updateL _ rfl _ _ _ 108 rfl 69 3 prKeyed Tryz.underlying108 w.heap.size l rfl HM.out hn' _ _ _ rfl rfl (rs_key 20 (by omega)) ?_; intro w1 hM1 hg1; have X := Lib.hid (And.intro hM1 hg1); clear hM1 hg1)
            go_roundw
            case rel =>
              refine ⟨6, by omega, rfl, Lib.hid (BW.out.grown X.out.2 BW.out.size (by simp)), Lib.hid ((RsInv.cons (w := w) (fuel := 18) HL.out (by have := HN.out; omega) 20 (by omega) X.out.1).to (by omega) (fun j _ => ?_))⟩
              exact inn_step _ _
            case measure => simp [intOf]
          · have hn' : l.length < maxLen := by have := HN.out; unfold maxLen; omega
            have hix : ∀ w, (Instr.index 132 (.agg #[.string ⟨#[61]⟩, .string ⟨#[92, 61]⟩, .string ⟨#[61, 61]⟩, .string ⟨#[92, 61, 61]⟩, .string ⟨#[64, 60]⟩, .string ⟨#[64, 62]⟩, .string ⟨#[64, 61, 60]⟩, .string ⟨#[64, 62, 61]⟩, .string ⟨#[105, 115]⟩, .string ⟨#[61, 58, 61]⟩, .string ⟨#[61, 92, 61]⟩, .string ⟨#[60]⟩, .string ⟨#[62]⟩, .string ⟨#[61, 60]⟩, .string ⟨#[62, 61]⟩]) (.int .i64 6)).run Tryz.prog w = .ok (.string ⟨#[64, 61, 60]⟩) w := fun _ => by kernel_rfl
            go_wp2_with (at_mapUpdate; refine wpList_updateL _ rfl _ _ _ 108 rfl 69 3 prKeyed Tryz.underlying108 w.heap.size l rfl HM.out hn' _ _ _ rfl rfl (rs_key 21 (by omega)) ?_; intro w1 hM1 hg1; have X := Lib.hid (And.intro hM1 hg1); clear hM1 hg1)
            go_roundw
            case rel =>
              refine ⟨7, by omega, rfl, Lib.hid (BW.out.grown X.out.2 BW.out.size (by simp)), Lib.hid ((RsInv.cons (w := w) (fuel := 17) HL.out (by have := HN.out; omega) 21 (by omega) X.out.1).to (by omega) (fun j _ => ?_))⟩
              exact inn_step _ _
            case measure => simp [intOf]
          · have hn' : l.length < maxLen := by have := HN.out; unfold maxLen; omega
            have hix : ∀ w, (Instr.index 132 (.agg #[.string ⟨#[61]⟩, .string ⟨#[92, 61]⟩, .string ⟨#[61, 61]⟩, .string ⟨#[92, 61, 61]⟩, .string ⟨#[64, 60]⟩, .string ⟨#[64, 62]⟩, .string ⟨#[64, 61, 60]⟩, .string ⟨#[64, 62, 61]⟩, .string ⟨#[105, 115]⟩, .string ⟨#[61, 58, 61]⟩, .string ⟨#[61, 92, 61]⟩, .string ⟨#[60]⟩, .string ⟨#[62]⟩, .string ⟨#[61, 60]⟩, .string ⟨#[62, 61]⟩]) (.int .i64 7)).run Tryz.prog w = .ok (.string ⟨#[64, 62, 61]⟩) w := fun _ => by kernel_rfl
            go_wp2_with (at_mapUpdate; refine wpList_updateL _ rfl _ _ _ 108 rfl 69 3 prKeyed Tryz.underlying108 w.heap.size l rfl HM.out hn' _ _ _ rfl rfl (rs_key 22 (by omega)) ?_; intro w1 hM1 hg1; have X := Lib.hid (And.intro hM1 hg1); clear hM1 hg1)
            go_roundw
            case rel =>
              refine ⟨8, by omega, rfl, Lib.hid (BW.out.grown X.out.2 BW.out.size (by simp)), Lib.hid ((RsInv.cons (w := w) (fuel := 16) HL.out (by have := HN.out; omega) 22 (by omega) X.out.1).to (by omega) (fun j _ => ?_))⟩
              exact inn_step _ _
            case measure => simp [intOf]
          · have hn' : l.length < maxLen := by have := HN.out; unfold maxLen; omega
            have hix : ∀ w, (Instr.index 132 (.agg #[.string ⟨#[61]⟩, .string ⟨#[92, 61]⟩, .string ⟨#[61, 61]⟩, .string ⟨#[92, 61, 61]⟩, .string ⟨#[64, 60]⟩, .string ⟨#[64, 62]⟩, .string ⟨#[64, 61, 60]⟩, .string ⟨#[64, 62, 61]⟩, .string ⟨#[105, 115]⟩, .string ⟨#[61, 58, 61]⟩, .string ⟨#[61, 92, 61]⟩, .string ⟨#[60]⟩, .string ⟨#[62]⟩, .string ⟨#[61, 60]⟩, .string ⟨#[62, 61]⟩]) (.int .i64 8)).run Tryz.prog w = .ok (.string ⟨#[105, 115]⟩) w := fun _ => by kernel_rfl
            go_wp2_with (at_mapUpdate; refine wpList_updateL _ rfl _ _ _ 108 rfl 69 3 prKeyed Tryz.underlying108 w.heap.size l rfl HM.out hn' _ _ _ rfl rfl (rs_key 23 (by omega)) ?_; intro w1 hM1 hg1; have X := Lib.hid (And.intro hM1 hg1); clear hM1 hg1)
            go_roundw
            case rel =>
              refine ⟨9, by omega, rfl, Lib.hid (BW.out.grown X.out.2 BW.out.size (by simp)), Lib.hid ((RsInv.cons (w := w) (fuel := 15) HL.out (by have := HN.out; omega) 23 (by omega) X.out.1).to (by omega) (fun j _ => ?_))⟩
              exact inn_step _ _
            case measure => simp [intOf]
          · have hn' : l.length < maxLen := by have := HN.out; unfold maxLen; omega
            have hix : ∀ w, (Instr.index 132 (.agg #[.string ⟨#[61]⟩, .string ⟨#[92, 61]⟩, .string ⟨#[61, 61]⟩, .string ⟨#[92, 61, 61]⟩, .string ⟨#[64, 60]⟩, .string ⟨#[64, 62]⟩, .string ⟨#[64, 61, 60]⟩, .string ⟨#[64, 62, 61]⟩, .string ⟨#[105, 115]⟩, .string ⟨#[61, 58, 61]⟩, .string ⟨#[61, 92, 61]⟩, .string ⟨#[60]⟩, .string ⟨#[62]⟩, .string ⟨#[61, 60]⟩, .string ⟨#[62, 61]⟩]) (.int .i64 9)).run Tryz.prog w = .ok (.string ⟨#[61, 58, 61]⟩) w := fun _ => by kernel_rfl
            go_wp2_with (at_mapUpdate; refine wpList_updateL _ rfl _ _ _ 108 rfl 69 3 prKeyed Tryz.underlying108 w.heap.size l rfl HM.out hn' _ _ _ rfl rfl (rs_key 24 (by omega)) ?_; intro w1 hM1 hg1; have X := Lib.hid (And.intro hM1 hg1); clear hM1 hg1)
            go_roundw
            case rel =>
              refine ⟨10, by omega, rfl, Lib.hid (BW.out.grown X.out.2 BW.out.size (by simp)), Lib.hid ((RsInv.cons (w := w) (fuel := 14) HL.out (by have := HN.out; omega) 24 (by omega) X.out.1).to (by omega) (fun j _ => ?_))⟩
              exact inn_step _ _
            case measure => simp [intOf]
          · have hn' : l.length < maxLen := by have := HN.out; unfold maxLen; omega
            have hix : ∀ w, (Instr.index 132 (.agg #[.string ⟨#[61]⟩, .string ⟨#[92, 61]⟩, .string ⟨#[61, 61]⟩, .string ⟨#[92, 61, 61]⟩, .string ⟨#[64, 60]⟩, .string ⟨#[64, 62]⟩, .string ⟨#[64, 61, 60]⟩, .string ⟨#[64, 62, 61]⟩, .string ⟨#[105, 115]⟩, .string ⟨#[61, 58, 61]⟩, .string ⟨#[61, 92, 61]⟩, .string ⟨#[60]⟩, .string ⟨#[62]⟩, .string ⟨#[61, 60]⟩, .string ⟨#[62, 61]⟩]) (.int .i64 10)).run Tryz.prog w = .ok (.string ⟨#[61, 92, 61]⟩) w := fun _ => by kernel_rfl
            go_wp2_with (at_mapUpdate; refine wpList_updateL _ rfl _ _ _ 108 rfl 69 3 prKeyed Tryz.underlying108 w.heap.size l rfl HM.out hn' _ _ _ rfl rfl (rs_key 25 (by omega)) ?_; intro w1 hM1 hg1; have X := Lib.hid (And.intro hM1 hg1); clear hM1 hg1)
            go_roundw
            case rel =>
              refine ⟨11, by omega, rfl, Lib.hid (BW.out.grown X.out.2 BW.out.size (by simp)), Lib.hid ((RsInv.cons (w := w) (fuel := 13) HL.out (by have := HN.out; omega) 25 (by omega) X.out.1).to (by omega) (fun j _ => ?_))⟩
              exact inn_step _ _
            case measure => simp [intOf]
          · have hn' : l.length < maxLen := by have := HN.out; unfold maxLen; omega
            have hix : ∀ w, (Instr.index 132 (.agg #[.string ⟨#[61]⟩, .string ⟨#[92, 61]⟩, .string ⟨#[61, 61]⟩, .string ⟨#[92, 61, 61]⟩, .string ⟨#[64, 60]⟩, .string ⟨#[64, 62]⟩, .string ⟨#[64, 61, 60]⟩, .string ⟨#[64, 62, 61]⟩, .string ⟨#[105, 115]⟩, .string ⟨#[61, 58, 61]⟩, .string ⟨#[61, 92, 61]⟩, .string ⟨#[60]⟩, .string ⟨#[62]⟩, .string ⟨#[61, 60]⟩, .string ⟨#[62, 61]⟩]) (.int .i64 11)).run Tryz.prog w = .ok (.string ⟨#[60]⟩) w := fun _ => by kernel_rfl
            go_wp2_with (at_mapUpdate; refine wpList_updateL _ rfl _ _ _ 108 rfl 69 3 prKeyed Tryz.underlying108 w.heap.size l rfl HM.out hn' _ _ _ rfl rfl (rs_key 26 (by omega)) ?_; intro w1 hM1 hg1; have X := Lib.hid (And.intro hM1 hg1); clear hM1 hg1)
            go_roundw
            case rel =>
              refine ⟨12, by omega, rfl, Lib.hid (BW.out.grown X.out.2 BW.out.size (by simp)), Lib.hid ((RsInv.cons (w := w) (fuel := 12) HL.out (by have := HN.out; omega) 26 (by omega) X.out.1).to (by omega) (fun j _ => ?_))⟩
              exact inn_step _ _
            case measure => simp [intOf]
          · have hn' : l.length < maxLen := by have := HN.out; unfold maxLen; omega
            have hix : ∀ w, (Instr.index 132 (.agg #[.string ⟨#[61]⟩, .string ⟨#[92, 61]⟩, .string ⟨#[61, 61]⟩, .string ⟨#[92, 61, 61]⟩, .string ⟨#[64, 60]⟩, .string ⟨#[64, 62]⟩, .string ⟨#[64, 61, 60]⟩, .string ⟨#[64, 62, 61]⟩, .string ⟨#[105, 115]⟩, .string ⟨#[61, 58, 61]⟩, .string ⟨#[61, 92, 61]⟩, .string ⟨#[60]⟩, .string ⟨#[62]⟩, .string ⟨#[61, 60]⟩, .string ⟨#[62, 61]⟩]) (.int .i64 12)).run Tryz.prog w = .ok (.string ⟨#[62]⟩) w := fun _ => by kernel_rfl
            go_wp2_with (at_mapUpdate; refine wpList_updateL _ rfl _ _ _ 108 rfl 69 3 prKeyed Tryz.underlying108 w.heap.size l rfl HM.out hn' _ _ _ rfl rfl (rs_key 27 (by omega)) ?_; intro w1 hM1 hg1; have X := Lib.hid (And.intro hM1 hg1); clear hM1 hg1)
            go_roundw
            case rel =>
              refine ⟨13, by omega, rfl, Lib.hid (BW.out.grown X.out.2 BW.out.size (by simp)), Lib.hid ((RsInv.cons (w := w) (fuel := 11) HL.out (by have := HN.out; omega) 27 (by omega) X.out.1).to (by omega) (fun j _ => ?_))⟩
              exact inn_step _ _
            case measure => simp [intOf]
          · have hn' : l.length < maxLen := by have := HN.out; unfold maxLen; omega
            have hix : ∀ w, (Instr.index 132 (.agg #[.string ⟨#[61]⟩, .string ⟨#[92, 61]⟩, .string ⟨#[61, 61]⟩, .string ⟨#[92, 61, 61]⟩, .string ⟨#[64, 60]⟩, .string ⟨#[64, 62]⟩, .string ⟨#[64, 61, 60]⟩, .string ⟨#[64, 62, 61]⟩, .string ⟨#[105, 115]⟩, .string ⟨#[61, 58, 61]⟩, .string ⟨#[61, 92, 61]⟩, .string ⟨#[60]⟩, .string ⟨#[62]⟩, .string ⟨#[61, 60]⟩, .string ⟨#[62, 61]⟩]) (.int .i64 13)).run Tryz.prog w = .ok (.string ⟨#[61, 60]⟩) w := fun _ => by kernel_rfl
            go_wp2_with (at_mapUpdate; refine wpList_updateL _ rfl _ _ _ 108 rfl 69 3 prKeyed Tryz.underlying108 w.heap.size l rfl HM.out hn' _ _ _ rfl rfl (rs_key 28 (by omega)) ?_; intro w1 hM1 hg1; have X := Lib.hid (And.intro hM1 hg1); clear hM1 hg1)
            go_roundw
            case rel =>
              refine ⟨14, by omega, rfl, Lib.hid (BW.out.grown X.out.2 BW.out.size (by simp)), Lib.hid ((RsInv.cons (w := w) (fuel := 10) HL.out (by have := HN.out; omega) 28 (by omega) X.out.1).to (by omega) (fun j _ => ?_))⟩
              exact inn_step _ _
            case measure => simp [intOf]
          · have hn' : l.length < maxLen := by have := HN.out; unfold maxLen; omega
            have hix : ∀ w, (Instr.index 132 (.agg #[.string ⟨#[61]⟩, .string ⟨#[92, 61]⟩, .string ⟨#[61, 61]⟩, .string ⟨#[92, 61, 61]⟩, .string ⟨#[64, 60]⟩, .string ⟨#[64, 62]⟩, .string ⟨#[64, 61, 60]⟩, .string ⟨#[64, 62, 61]⟩, .string ⟨#[105, 115]⟩, .string ⟨#[61, 58, 61]⟩, .string ⟨#[61, 92, 61]⟩, .string ⟨#[60]⟩, .string ⟨#[62]⟩, .string ⟨#[61, 60]⟩, .string ⟨#[62, 61]⟩]) (.int .i64 14)).run Tryz.prog w = .ok (.string ⟨#[62, 61]⟩) w := fun _ => by kernel_rfl
            go_wp2_with (at_mapUpdate; refine wpList_updateL _ rfl _ _ _ 108 rfl 69 3 prKeyed Tryz.underlying108 w.heap.size l rfl HM.out hn' _ _ _ rfl rfl (rs_key 29 (by omega)) ?_; intro w1 hM1 hg1; have X := Lib.hid (And.intro hM1 hg1); clear hM1 hg1)
            go_roundw
            case rel =>
              refine ⟨15, by omega, rfl, Lib.hid (BW.out.grown X.out.2 BW.out.size (by simp)), Lib.hid ((RsInv.cons (w := w) (fuel := 9) HL.out (by have := HN.out; omega) 29 (by omega) X.out.1).to (by omega) (fun j _ => ?_))⟩
              exact inn_step _ _
            case measure => simp [intOf]
          · have RI : Hid (RsInv w.heap.size 9 (fun j => decide (j < 30)) wr) := Lib.hid ⟨l, HM.out, HN.out, HL.out⟩
            clear HM HN HL
            rw [show ((15 : Nat) : Int) = 15 from rfl]
            go_wp2
            go_ret
            exact ⟨rfl, BW.out, RI.out.to (by omega) (fun j hj => by simp [hj])⟩
  · have hz : ∀ i, (Array.replicate 21 false).getD i false = false := fun i => by
      rw [Array.getD_eq_getD_getElem?, Array.getElem?_replicate]
      split <;> rfl
    refine ⟨rfl, rfl, rfl, by decide, (Below.refl _ _).drew, ?_, ?_, ?_, ?_, ?_⟩
    · intro hc; cases (hz 0).symm.trans hc
    · exact fun _ => ⟨rfl, fun j hj => hz _⟩
    · intro j _ hc; cases (hz _).symm.trans hc
    · intro hc; cases (hz _).symm.trans hc
    · intro hc; cases (hz _).symm.trans hc

end Go.Proofs.YtnmhnaanpjlniaaGreat
