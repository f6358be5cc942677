import Derived.Test.YtnmhnaanpjlniaaGreatTs
import Derived.Deep.RegionWith
import Derived.RegionTactic
/-
  What Vars returns as a list of numbers; lists of numbers, each once.
-/
namespace Go.Proofs.YtnmhnaanpjlniaaGreat
open Go.RowKit


theorem IsInts.stay {w w' : World} {p : Option Addr} {zs : List Int} (h : IsInts w p zs) (hc : ∀ b o, b < w.heap.size → w'.cell? ⟨b, o, none⟩ = w.cell? ⟨b, o, none⟩) : IsInts w' p zs := by
  obtain ⟨b, o, h1, h2⟩ := h
  exact ⟨b, o, h1, fun i hi => (hc _ _ (World.block_lt_of_cell? _ _ (h2 i hi))).trans (h2 i hi)⟩

theorem IsInts.below {w w' : World} {p : Option Addr} {zs : List Int} (h : IsInts w p zs) (hB : Below w.heap.size w w') : IsInts w' p zs := h.stay (stays hB).1

theorem IsInts.take {w : World} {p : Option Addr} {zs : List Int} (h : IsInts w p zs) (n : Nat) : IsInts w p (zs.take n) := by
  obtain ⟨b, o, h1, h2⟩ := h
  refine ⟨b, o, ?_, fun i hi => ?_⟩
  · rcases h1 with rfl | h1
    · exact .inl (by simp)
    · exact .inr h1
  · rw [List.length_take] at hi
    rw [List.getElem_take]
    exact h2 i (by omega)













/-- a list's first element alone, and the rest behind -/
theorem lies_two {w : World} {b : Nat} {k1 : Int} {s1 : ByteArray} {n1 : Int} {p1 : Option Addr} {c1 : Nat} {t1 : Ts} {k2 : Int} {s2 : ByteArray} {n2 : Int} {p2 : Option Addr} {c2 : Nat} {t2 : Ts} {A : Array Value}
    (hA : A = #[.int .u8 k1, .string s1, .int .i64 n1, .slice p1 t1.len c1, .int .u8 k2, .string s2, .int .i64 n2, .slice p2 t2.len c2]) (hc : ∀ i u, A[i]? = some u → w.cell? ⟨b, i, none⟩ = some u) (h1 : Ts.At w p1 t1) (h2 : Ts.At w p2 t2) :
    Ts.At w (some ⟨b, 0, none⟩) (.cons k1 s1 n1 p1 c1 t1 (.cons k2 s2 n2 p2 c2 t2 .nil)) := by
  subst hA
  exact ⟨b, 0, .inr rfl, hc 0 _ rfl, hc 1 _ rfl, hc 2 _ rfl, hc 3 _ rfl, h1, hc 4 _ rfl, hc 5 _ rfl, hc 6 _ rfl, hc 7 _ rfl, h2, trivial⟩

theorem lies_one {w : World} {b : Nat} {k1 : Int} {s1 : ByteArray} {n1 : Int} {p1 : Option Addr} {c1 : Nat} {t1 : Ts} {A : Array Value}
    (hA : A = #[.int .u8 k1, .string s1, .int .i64 n1, .slice p1 t1.len c1]) (hc : ∀ i u, A[i]? = some u → w.cell? ⟨b, i, none⟩ = some u) (h1 : Ts.At w p1 t1) :
    Ts.At w (some ⟨b, 0, none⟩) (.cons k1 s1 n1 p1 c1 t1 .nil) := by
  subst hA
  exact ⟨b, 0, .inr rfl, hc 0 _ rfl, hc 1 _ rfl, hc 2 _ rfl, hc 3 _ rfl, h1, trivial⟩

end Go.Proofs.YtnmhnaanpjlniaaGreat
/-
  Terms that are known.
-/
namespace Go.Proofs.YtnmhnaanpjlniaaGreat
open Go.RowKit

/-- a term lies in a box, and its parts where they may -/
structure TT (w0 : World) (T : Nat) (k : Int) (s : ByteArray) (n : Int) (p : Option Addr) (c : Nat) (us : Ts) (W : World) : Prop where
  B : Below w0.heap.size w0 W
  lt : T < W.heap.size
  c0 : W.cell? ⟨T, 0, none⟩ = some (.int .u8 k)
  c1 : W.cell? ⟨T, 1, none⟩ = some (.string s)
  c2 : W.cell? ⟨T, 2, none⟩ = some (.int .i64 n)
  c3 : W.cell? ⟨T, 3, none⟩ = some (.slice p us.len c)
  tat : Ts.At W p us

theorem TT.below {w0 : World} {T : Nat} {k : Int} {s : ByteArray} {n : Int} {p : Option Addr} {c : Nat} {us : Ts} {W W' : World} (h : TT w0 T k s n p c us W) (hB : Below W.heap.size W W') : TT w0 T k s n p c us W' :=
  ⟨h.B.trans (hB.mono h.B.size), Nat.lt_of_lt_of_le h.lt hB.size, ((stays hB).1 _ _ h.lt).trans h.c0, ((stays hB).1 _ _ h.lt).trans h.c1, ((stays hB).1 _ _ h.lt).trans h.c2, ((stays hB).1 _ _ h.lt).trans h.c3, h.tat.below hB⟩

theorem TT.alloc {w0 : World} {T : Nat} {k : Int} {s : ByteArray} {n : Int} {p : Option Addr} {c : Nat} {us : Ts} {W : World} (h : TT w0 T k s n p c us W) (o : Obj) : TT w0 T k s n p c us (W.alloc o) :=
  h.below ((Below.refl _ _).alloc (Nat.le_refl _) _)

theorem TT.drewN {w0 : World} {T : Nat} {k : Int} {s : ByteArray} {n : Int} {p : Option Addr} {c : Nat} {us : Ts} {W : World} (h : TT w0 T k s n p c us W) (q : Nat) : TT w0 T k s n p c us (W.drewN q) :=
  h.below (below_drewN (Below.refl _ _) q)

end Go.Proofs.YtnmhnaanpjlniaaGreat
/-
  Small forms of contracts.
-/
namespace Go.Proofs.YtnmhnaanpjlniaaGreat
open Go.RowKit



theorem IsInts.heap {w w' : World} {p : Option Addr} {zs : List Int} (h : IsInts w p zs) (hh : w'.heap = w.heap) : IsInts w' p zs := by
  obtain ⟨b, o, h1, h2⟩ := h
  refine ⟨b, o, h1, fun i hi => ?_⟩
  have := h2 i hi
  simp only [World.cell?] at this ⊢
  rw [hh]
  exact this



/-- a list of numbers that a call has told -/
def VarsOf (zs : List Int) (v : Value) (w : World) : Prop := ∃ p c, v = .slice p zs.length c ∧ IsInts w p zs ∧ zs.length ≤ c ∧ c ≤ 9223372036854775807

theorem VarsOf.below {zs : List Int} {v : Value} {w w' : World} (h : VarsOf zs v w) (hB : Below w.heap.size w w') : VarsOf zs v w' := by
  obtain ⟨p, c, h1, h2, h3⟩ := h
  exact ⟨p, c, h1, h2.below hB, h3⟩

/-- a slice of a block of terms -/
def ListOf (ts : Ts) (v : Value) (w : World) : Prop := ∃ b, v = .slice (some ⟨b, 0, none⟩) ts.len ts.len ∧ Ts.At w (some ⟨b, 0, none⟩) ts

theorem ListOf.below {ts : Ts} {v : Value} {w w' : World} (h : ListOf ts v w) (hB : Below w.heap.size w w') : ListOf ts v w' := by
  obtain ⟨b, h1, h2⟩ := h
  exact ⟨b, h1, h2.below hB⟩

theorem ListOf.one {k : Int} {s : ByteArray} {n : Int} {p : Option Addr} {c : Nat} {t : Ts} {w : World} (h : Ts.At w p t) (ty : TypeId) :
    ListOf (.cons k s n p c t .nil) (.slice (some ⟨w.heap.size, 0, none⟩) 1 1) (w.alloc (.cells #[.int .u8 k, .string s, .int .i64 n, .slice p t.len c] ty)) := by
  obtain ⟨W, hW, _, hB, hc⟩ := box1 w #[.int .u8 k, .string s, .int .i64 n, .slice p t.len c] ty
  rw [← hW]
  exact ⟨_, rfl, lies_one rfl hc (h.below hB)⟩

theorem ListOf.two {k : Int} {s : ByteArray} {n : Int} {p : Option Addr} {c : Nat} {t : Ts} {k' : Int} {s' : ByteArray} {n' : Int} {p' : Option Addr} {c' : Nat} {t' : Ts} {w : World} (h : Ts.At w p t) (h' : Ts.At w p' t') (ty : TypeId) :
    ListOf (.cons k s n p c t (.cons k' s' n' p' c' t' .nil)) (.slice (some ⟨w.heap.size, 0, none⟩) 2 2) (w.alloc (.cells #[.int .u8 k, .string s, .int .i64 n, .slice p t.len c, .int .u8 k', .string s', .int .i64 n', .slice p' t'.len c'] ty)) := by
  obtain ⟨W, hW, _, hB, hc⟩ := box1 w #[.int .u8 k, .string s, .int .i64 n, .slice p t.len c, .int .u8 k', .string s', .int .i64 n', .slice p' t'.len c'] ty
  rw [← hW]
  exact ⟨_, rfl, lies_two rfl hc (h.below hB) (h'.below hB)⟩


end Go.Proofs.YtnmhnaanpjlniaaGreat
/-
  A law for a region that draws its order: each operation, behind those that it waits for, leaves a fact of its value that no growth of memory takes away; so behind all of them, in whatever order, all facts hold.
-/
namespace Go.Proofs.YtnmhnaanpjlniaaGreat
open Go.RowKit

def upd (f : Nat → Value) (i : Nat) (v : Value) : Nat → Value := fun j => if j = i then v else f j

/-- what an operation waits for -/
def waitsOn (o : Oper) (j : Nat) : Bool := o.after.any fun e => Region.binds .any e && e.on == j

/-- one operation: from the facts of those that it waits for to its own -/
def RStep (P : Program) (ops : Array Oper) (Q : Exit → Act → World → Prop) (frame : (Nat → Value) → Act) (I : World → Prop) (F : Nat → Value → World → Prop) (i : Nat) (o : Oper) : Prop :=
  ∀ (f : Nat → Value) (w : World), I w → (∀ j, waitsOn o j = true → F j (f j) w) → ∀ K : Act → World → Prop, Hid (∀ v a' w', a' = (frame f).put o.dst v → I w' → Below w.heap.size w w' → F i v w' → K a' w') →
    if Region.wanted o (yielded ops (frame f).tmps) = true then Oper.wp P o (frame f) w K Q else K ((frame f).put o.dst undef) w

def Puts (frame : (Nat → Value) → Act) : List Oper → Nat → Prop
  | [], _ => True
  | o :: l, i => (∀ f v, (frame f).put o.dst v = frame (upd f i v)) ∧ Puts frame l (i + 1)

def RSteps (P : Program) (ops : Array Oper) (Q : Exit → Act → World → Prop) (frame : (Nat → Value) → Act) (I : World → Prop) (F : Nat → Value → World → Prop) : List Oper → Nat → Prop
  | [], _ => True
  | o :: l, i => RStep P ops Q frame I F i o ∧ RSteps P ops Q frame I F l (i + 1)

/-- each operation waits for earlier ones alone -/
def dagB : List Oper → Nat → Bool
  | [], _ => true
  | o :: l, i => (o.after.all fun e => !Region.binds .any e || decide (e.on < i)) && dagB l (i + 1)

theorem Puts.get {frame : (Nat → Value) → Act} : ∀ {l : List Oper} {k : Nat}, Puts frame l k → ∀ {i : Nat} {o : Oper}, l[i]? = some o → ∀ f v, (frame f).put o.dst v = frame (upd f (k + i) v)
  | [], _, _, _, _, h => by simp at h
  | _ :: _, _, h, 0, _, ho => by cases ho; exact h.1
  | _ :: l, k, h, i + 1, o, ho => by
    have := Puts.get h.2 (i := i) (o := o) (by simpa using ho)
    rw [show k + (i + 1) = k + 1 + i from by omega]
    exact this

theorem RSteps.get {P : Program} {ops : Array Oper} {Q : Exit → Act → World → Prop} {frame : (Nat → Value) → Act} {I : World → Prop} {F : Nat → Value → World → Prop} : ∀ {l : List Oper} {k : Nat}, RSteps P ops Q frame I F l k → ∀ {i : Nat} {o : Oper}, l[i]? = some o → RStep P ops Q frame I F (k + i) o
  | [], _, _, _, _, h => by simp at h
  | _ :: _, _, h, 0, _, ho => by cases ho; exact h.1
  | _ :: l, k, h, i + 1, o, ho => by
    have := RSteps.get h.2 (i := i) (o := o) (by simpa using ho)
    rw [show k + (i + 1) = k + 1 + i from by omega]
    exact this

theorem dagB_get : ∀ {l : List Oper} {k : Nat}, dagB l k = true → ∀ {i : Nat} {o : Oper}, l[i]? = some o → ∀ e ∈ o.after, Region.binds .any e = true → e.on < k + i
  | [], _, _, _, _, h => by simp at h
  | _ :: _, _, h, 0, _, ho => by
    cases ho
    simp only [dagB, Bool.and_eq_true, Array.all_eq_true'] at h
    intro e he hb
    have := h.1 e he
    rw [hb] at this
    simpa using this
  | _ :: l, k, h, i + 1, o, ho => by
    simp only [dagB, Bool.and_eq_true] at h
    have := dagB_get h.2 (i := i) (o := o) (by simpa using ho)
    rw [show k + (i + 1) = k + 1 + i from by omega]
    exact this

theorem count_set {l : List Bool} : ∀ {i : Nat}, l[i]? = some false → (l.set i true).count false + 1 = l.count false := by
  induction l with
  | nil => intro i h; simp at h
  | cons b l ih =>
    intro i h
    cases i with
    | zero => simp at h; subst h; simp
    | succ i =>
      have := ih (i := i) (by simpa using h)
      simp only [List.set_cons_succ, List.count_cons]
      omega

section
variable {P : Program} {ops : Array Oper} {Q : Exit → Act → World → Prop} {frame : (Nat → Value) → Act} {I : World → Prop} {F : Nat → Value → World → Prop}

theorem ready_iff (listed : Array Bool) (i : Nat) : i ∈ Region.ready .any ops listed ↔ i < ops.size ∧ listed.getD i true = false ∧ ∃ o, ops[i]? = some o ∧ ∀ j, waitsOn o j = true → listed.getD j false = true := by
  unfold Region.ready
  rw [List.mem_filter, List.mem_range]
  constructor
  · rintro ⟨h, hb⟩
    simp only [Bool.and_eq_true, Bool.not_eq_eq_eq_not, Bool.not_true] at hb
    refine ⟨h, hb.1, ops[i], by simp [h], fun j hj => ?_⟩
    have h2 := hb.2
    simp only [h, getElem?_pos, Option.map_some, Option.getD_some, Array.all_eq_true'] at h2
    simp only [waitsOn, Array.any_eq_true', Bool.and_eq_true, beq_iff_eq] at hj
    obtain ⟨e, he, h3, rfl⟩ := hj
    have := h2 e he
    simpa [h3] using this
  · rintro ⟨h, hb, o, ho, hw⟩
    refine ⟨h, ?_⟩
    rw [hb, ho]
    simp only [Bool.not_false, Bool.true_and, Option.map_some, Option.getD_some, Array.all_eq_true']
    intro e he
    cases h3 : Region.binds .any e with
    | false => rfl
    | true =>
      simp only [Bool.not_true, Bool.false_or]
      exact hw e.on (by simp only [waitsOn, Array.any_eq_true', Bool.and_eq_true, beq_iff_eq]; exact ⟨e, he, h3, rfl⟩)

theorem any_facts (hdag : dagB ops.toList 0 = true) (hput : Puts frame ops.toList 0) (hmono : ∀ j u w w', F j u w → Below w.heap.size w w' → F j u w') (hstep : RSteps P ops Q frame I F ops.toList 0)
    (hdone : ∀ f w, I w → (∀ j, j < ops.size → F j (f j) w) → Q .normal (frame f) w) :
    ∀ (fuel : Nat) (listed : Array Bool) (f : Nat → Value) (w : World), listed.size = ops.size → listed.toList.count false ≤ fuel → I w → (∀ j, listed.getD j false = true → F j (f j) w) → wpAny P .any ops Q fuel listed (frame f) w := by
  have all_of : ∀ (listed : Array Bool), listed.size = ops.size → Region.ready .any ops listed = [] → ∀ j, j < ops.size → listed.getD j false = true := by
    intro listed hs hr j
    induction j using Nat.strongRecOn with
    | ind j ih =>
      intro hj
      cases hb : listed.getD j false with
      | true => rfl
      | false =>
        exfalso
        have hm : j ∈ Region.ready .any ops listed := by
          rw [ready_iff]
          refine ⟨hj, ?_, ops[j], by simp [hj], fun i hi => ?_⟩
          · simp only [Array.getD] at hb ⊢
            rw [dif_pos (by omega)] at hb ⊢
            exact hb
          · simp only [waitsOn, Array.any_eq_true', Bool.and_eq_true, beq_iff_eq] at hi
            obtain ⟨e, he, hbe, rfl⟩ := hi
            have := dagB_get hdag (i := j) (o := ops[j]) (by simp [hj]) e he hbe
            exact ih _ (by omega) (by omega)
        rw [hr] at hm; cases hm
  intro fuel
  induction fuel with
  | zero =>
    intro listed f w hs hc hI hF
    have hall : ∀ j, j < ops.size → listed.getD j false = true := fun j hj => by
      cases hb : listed.getD j false with
      | true => rfl
      | false =>
        exfalso
        have h1 : false ∈ listed.toList := by
          simp only [Array.getD] at hb
          rw [dif_pos (by omega)] at hb
          rw [← hb]
          simp
        have := List.count_pos_iff.2 h1
        omega
    refine ⟨?_, hdone f w hI fun j hj => hF j (hall j hj)⟩
    refine List.eq_nil_iff_forall_not_mem.2 fun i hi => ?_
    obtain ⟨h1, h2, _⟩ := (ready_iff listed i).1 hi
    have h3 := hall i h1
    simp only [Array.getD] at h2 h3
    rw [dif_pos (by omega)] at h2 h3
    rw [h2] at h3; cases h3
  | succ fuel ih =>
    intro listed f w hs hc hI hF
    refine ⟨fun hr => hdone f w hI fun j hj => hF j (all_of listed hs hr j hj), fun i hi => ?_⟩
    obtain ⟨h1, h2, o, ho, h3⟩ := (ready_iff listed i).1 hi
    have hol : ops.toList[i]? = some o := by simpa using ho
    refine wpOp_step ho fun K' hK => ?_
    have hst := RSteps.get hstep hol f w hI
    rw [Nat.zero_add] at hst
    refine hst (fun j hj => hF j (h3 j hj)) K' (Lib.hid fun v a' w' ha' hI' hB hFi => ha' ▸ hK _ _ ?_)
    have hp := Puts.get hput hol f v
    rw [Nat.zero_add] at hp
    rw [hp]
    have hli : listed.toList[i]? = some false := by
      simp only [Array.getD] at h2
      rw [dif_pos (by omega)] at h2
      simp only [Array.getElem?_toList]
      rw [Array.getElem?_eq_getElem (by omega)]
      exact congrArg some h2
    refine ih _ _ _ (by simp [hs]) ?_ hI' fun j hj => ?_
    · have := count_set hli
      rw [Array.toList_setIfInBounds]
      omega
    · by_cases e : j = i
      · subst e
        simp only [upd, if_pos]
        exact hFi
      · simp only [upd, if_neg e]
        refine hmono _ _ _ _ (hF j ?_) hB
        simp only [Array.getD, Array.size_setIfInBounds] at hj ⊢
        split at hj
        · rename_i hlt
          rw [dif_pos hlt]
          rw [Array.getInternal_eq_getElem] at *
          rwa [Array.getElem_setIfInBounds_ne _ (fun h => e h.symm)] at hj
        · cases hj

/-- the law -/
theorem region_facts {id : Nat} {a : Act} {w : World} (f0 : Nat → Value) (hm : P.follows .mixedOrders = true) (ha : a = frame f0) (hdag : dagB ops.toList 0 = true) (hput : Puts frame ops.toList 0)
    (hmono : ∀ j u w w', F j u w → Below w.heap.size w w' → F j u w') (h0 : I w.drew) (hstep : RSteps P ops Q frame I F ops.toList 0) (hdone : ∀ f w, I w → (∀ j, j < ops.size → F j (f j) w) → Q .normal (frame f) w) :
    (Code.region id ops true).wp P Q a w := by
  subst ha
  refine wp_region_any hm ?_
  refine any_facts hdag hput hmono hstep hdone _ _ _ _ (by simp) (by simp) h0 fun j hj => ?_
  simp only [Array.getD] at hj
  split at hj
  · simp at hj
  · cases hj
end

/-- the frame with the slots that the operations write -/
def frameOf (a : Act) : List Oper → Nat → (Nat → Value) → Act
  | [], _, _ => a
  | o :: l, i, f => (frameOf a l (i + 1) f).put o.dst (f i)

def apartB : List Oper → Bool
  | [] => true
  | o :: l => (l.all fun o' => o.dst.isNone || o'.dst != o.dst) && apartB l

theorem put_put (a : Act) (d : Option Tmp) (u v : Value) : (a.put d u).put d v = a.put d v := by
  cases d with
  | none => rfl
  | some d => simp [Act.put]

theorem frameOf_upd_lt (a : Act) : ∀ (l : List Oper) (i : Nat) (f : Nat → Value) (j : Nat) (v : Value), j < i → frameOf a l i (upd f j v) = frameOf a l i f
  | [], _, _, _, _, _ => rfl
  | o :: l, i, f, j, v, h => by
    simp only [frameOf]
    rw [frameOf_upd_lt a l (i + 1) f j v (by omega), show upd f j v i = f i from by simp only [upd]; rw [if_neg (by omega)]]

theorem frameOf_put (a : Act) : ∀ (l : List Oper) (i : Nat), apartB l = true → ∀ (k : Nat) (o : Oper), l[k]? = some o → ∀ f v, (frameOf a l i f).put o.dst v = frameOf a l i (upd f (i + k) v)
  | [], _, _, _, _, h, _, _ => by simp at h
  | o0 :: l, i, _, 0, o, h, f, v => by
    cases h
    simp only [frameOf]
    rw [put_put, frameOf_upd_lt a l (i + 1) f (i + 0) v (by omega)]
    simp [upd]
  | o0 :: l, i, hap, k + 1, o, h, f, v => by
    simp only [apartB, Bool.and_eq_true, List.all_eq_true, Bool.or_eq_true, bne_iff_ne] at hap
    have ho : l[k]? = some o := by simpa using h
    have ih := frameOf_put a l (i + 1) hap.2 k o ho f v
    simp only [frameOf]
    have hne : ∀ d, o0.dst = some d → o.dst ≠ some d := fun d hd => by
      rcases hap.1 o (List.mem_of_getElem? ho) with h1 | h1
      · rw [hd] at h1; cases h1
      · rw [← hd]; exact h1
    rw [Act.put_comm _ _ _ hne, ih, show i + 1 + k = i + (k + 1) from by omega, show upd f (i + (k + 1)) v i = f i from by simp only [upd]; rw [if_neg (by omega)]]

theorem puts_of {frame : (Nat → Value) → Act} : ∀ (l : List Oper) (i : Nat), (∀ (k : Nat) (o : Oper), l[k]? = some o → ∀ f v, (frame f).put o.dst v = frame (upd f (i + k) v)) → Puts frame l i
  | [], _, _ => trivial
  | o :: l, i, h => ⟨fun f v => h 0 o rfl f v, puts_of l (i + 1) fun k o' ho f v => by
      rw [show i + 1 + k = i + (k + 1) from by omega]
      exact h (k + 1) o' (by simpa using ho) f v⟩

/-- what a slot holds -/
def slotOf (a : Act) (d : Option Tmp) : Value := match d with
  | some d => a.tmps.getD d undef
  | none => undef

theorem put_slot (a : Act) (d : Option Tmp) : a.put d (slotOf a d) = a := by
  cases d with
  | none => rfl
  | some d =>
    obtain ⟨t, ds⟩ := a
    simp only [Act.put, slotOf, Act.mk.injEq, and_true]
    apply Array.ext
    · simp
    · intro i h1 h2
      rw [Array.getElem_setIfInBounds]
      split
      · rename_i h
        subst h
        simp [h2]
      · rfl

theorem frameOf_self (a : Act) (ops : Array Oper) : ∀ (l : List Oper) (i : Nat), (∀ k, l[k]? = ops[i + k]?) → frameOf a l i (fun j => slotOf a ((ops[j]?).bind (·.dst))) = a
  | [], _, _ => rfl
  | o :: l, i, h => by
    have h0 : ops[i]? = some o := (h 0).symm
    simp only [frameOf]
    rw [frameOf_self a ops l (i + 1) fun k => by have := h (k + 1); rw [show i + 1 + k = i + (k + 1) from by omega, ← this]; rfl]
    rw [h0]
    exact put_slot a o.dst

/-- no growth of memory takes it away -/
def Stable (p : Value → World → Prop) : Prop := ∀ v w w', p v w → Below w.heap.size w w' → p v w'
def StableAll : List (Value → World → Prop) → Prop
  | [] => True
  | p :: l => Stable p ∧ StableAll l
def factOf (L : List (Value → World → Prop)) (i : Nat) : Value → World → Prop := L.getD i fun _ _ => True

theorem Stable.eq (u : Value) : Stable fun v _ => v = u := fun _ _ _ h _ => h

theorem factOf_stable : ∀ {L : List (Value → World → Prop)}, StableAll L → ∀ i, Stable (factOf L i)
  | [], _, _ => fun _ _ _ _ _ => trivial
  | _ :: _, h, 0 => h.1
  | _ :: l, h, i + 1 => factOf_stable (L := l) h.2 i

/-- the law, over the frame as it stands -/
theorem region_by_facts {P : Program} {ops : Array Oper} {Q : Exit → Act → World → Prop} {id : Nat} {a : Act} {w : World} (I : World → Prop) (L : List (Value → World → Prop)) (hL : StableAll L) (hm : P.follows .mixedOrders = true) (hdag : dagB ops.toList 0 = true) (hap : apartB ops.toList = true)
    (h0 : I w.drew) (hstep : RSteps P ops Q (frameOf a ops.toList 0) I (factOf L) ops.toList 0)
    (hdone : ∀ f w, I w → (∀ j, j < ops.size → factOf L j (f j) w) → Q .normal (frameOf a ops.toList 0 f) w) : (Code.region id ops true).wp P Q a w :=
  region_facts _ hm (frameOf_self a ops ops.toList 0 fun k => by simp).symm hdag (puts_of _ _ (frameOf_put a _ _ hap)) (fun j u w w' => factOf_stable hL j u w w') h0 hstep hdone

end Go.Proofs.YtnmhnaanpjlniaaGreat
