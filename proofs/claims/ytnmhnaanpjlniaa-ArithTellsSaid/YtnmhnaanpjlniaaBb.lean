import Derived.Test.YtnmhnaanpjlniaaAs
/-
  A law for a region that draws its order and in which one operation in the middle may write: those that it waits for leave facts that no growth of memory takes away; others, that nothing but the last one waits for, are known values at any time; the last one may write too.
-/
namespace Go.Proofs.Ytnmhnaanpjlniaa
open Go.RowKit

section
variable (P : Program) (ops : Array Oper) (Q : Exit → Act → World → Prop) (frame : (Nat → Value) → Act) (I : World → Prop) (F : Nat → Value → World → Prop) (J : Value → World → Prop) (m : Nat) (late : Nat → Option Value) (v0 : Value)

/-- one of those whose value is known -/
def KLate (c : Value) (o : Oper) : Prop :=
  ∀ (f : Nat → Value) (w : World), f (ops.size - 1) = v0 → ∀ K : Act → World → Prop, Hid (∀ a', a' = (frame f).put o.dst c → K a' w) →
    if Region.wanted o (yielded ops (frame f).tmps) = true then Oper.wp P o (frame f) w K Q else K ((frame f).put o.dst undef) w

/-- the one in the middle -/
def KMid (o : Oper) : Prop :=
  ∀ (f : Nat → Value) (w : World), f (ops.size - 1) = v0 → I w → (∀ j, j < ops.size - 1 → j ≠ m → late j = none → F j (f j) w) → ∀ K : Act → World → Prop, Hid (∀ v a' w', a' = (frame f).put o.dst v → J v w' → K a' w') →
    if Region.wanted o (yielded ops (frame f).tmps) = true then Oper.wp P o (frame f) w K Q else K ((frame f).put o.dst undef) w

/-- the last one -/
def KLast (i : Nat) (o : Oper) : Prop :=
  ∀ (f : Nat → Value) (w : World), f (ops.size - 1) = v0 → J (f m) w → (∀ j c, late j = some c → f j = c) → ∀ K : Act → World → Prop, Hid (∀ v a' w', a' = (frame f).put o.dst v → Q .normal (frame (upd f i v)) w' → K a' w') →
    if Region.wanted o (yielded ops (frame f).tmps) = true then Oper.wp P o (frame f) w K Q else K ((frame f).put o.dst undef) w

structure KStep (i : Nat) (o : Oper) : Prop where
  mid : i = m → KMid P ops Q frame I F J m late v0 o
  last : i + 1 = ops.size → KLast P ops Q frame J m late v0 i o
  lat : ∀ c, late i = some c → KLate P ops Q frame v0 c o
  early : i ≠ m → i + 1 ≠ ops.size → late i = none → RStepZ P ops Q frame I F v0 i o

def KSteps : List Oper → Nat → Prop
  | [], _ => True
  | o :: l, i => KStep P ops Q frame I F J m late v0 i o ∧ KSteps l (i + 1)
end

section
variable {P : Program} {ops : Array Oper} {Q : Exit → Act → World → Prop} {frame : (Nat → Value) → Act} {I : World → Prop} {F : Nat → Value → World → Prop} {J : Value → World → Prop} {m : Nat} {late : Nat → Option Value} {v0 : Value}

theorem KStep.of_early {i : Nat} {o : Oper} (h1 : i ≠ m) (h2 : i + 1 ≠ ops.size) (h3 : late i = none) (h : RStepZ P ops Q frame I F v0 i o) : KStep P ops Q frame I F J m late v0 i o :=
  ⟨fun e => absurd e h1, fun e => absurd e h2, (fun c e => by rw [h3] at e; cases e), fun _ _ _ => h⟩
theorem KStep.of_late {i : Nat} {o : Oper} {c : Value} (h1 : i ≠ m) (h2 : i + 1 ≠ ops.size) (h3 : late i = some c) (h : KLate P ops Q frame v0 c o) : KStep P ops Q frame I F J m late v0 i o :=
  ⟨fun e => absurd e h1, fun e => absurd e h2, (fun c' e => by rw [h3] at e; cases e; exact h), fun _ _ e => by rw [h3] at e; cases e⟩
theorem KStep.of_mid {i : Nat} {o : Oper} (h1 : i = m) (h2 : i + 1 ≠ ops.size) (h3 : late i = none) (h : KMid P ops Q frame I F J m late v0 o) : KStep P ops Q frame I F J m late v0 i o :=
  ⟨fun _ => h, fun e => absurd e h2, (fun c e => by rw [h3] at e; cases e), fun e => absurd h1 e⟩
theorem KStep.of_last {i : Nat} {o : Oper} (h1 : i ≠ m) (h2 : i + 1 = ops.size) (h3 : late i = none) (h : KLast P ops Q frame J m late v0 i o) : KStep P ops Q frame I F J m late v0 i o :=
  ⟨fun e => absurd e h1, fun _ => h, (fun c e => by rw [h3] at e; cases e), fun _ e => absurd h2 e⟩

theorem KSteps.get : ∀ {l : List Oper} {k : Nat}, KSteps P ops Q frame I F J m late v0 l k → ∀ {i : Nat} {o : Oper}, l[i]? = some o → KStep P ops Q frame I F J m late v0 (k + i) o
  | [], _, _, _, _, h => by simp at h
  | _ :: _, _, h, 0, _, ho => by cases ho; exact h.1
  | _ :: l, k, h, i + 1, o, ho => by
    have := KSteps.get h.2 (i := i) (o := o) (by simpa using ho)
    rw [show k + (i + 1) = k + 1 + i from by omega]
    exact this
end

/-- each early one is waited for by an early one or by the one in the middle; the last one waits for that and for the known ones -/
def sinkK (ops : Array Oper) (m : Nat) (late : Nat → Option Value) : Bool :=
  ((List.range (ops.size - 1)).all fun j => j == m || (late j).isSome || (List.range (ops.size - 1)).any fun k => decide (j < k) && ((late k).isNone && ((ops[k]?.map fun o => waitsOn o j).getD false) && decide (k ≤ m))) &&
  ((ops[ops.size - 1]?.map fun o => waitsOn o m && (List.range (ops.size - 1)).all fun j => (late j).isNone || waitsOn o j).getD false)

theorem sink_allK {ops : Array Oper} {m : Nat} {late : Nat → Option Value} (h : sinkK ops m late = true) {M : Nat → Bool} (hcl : ∀ (i : Nat) (o : Oper), ops[i]? = some o → (M i = true ∨ i = m) → ∀ j, waitsOn o j = true → M j = true) : ∀ (d j : Nat), j + d = ops.size - 1 → j < ops.size - 1 → j ≠ m → late j = none → M j = true := by
  intro d
  induction d using Nat.strongRecOn with
  | ind d ih =>
    intro j hj hlt hm hl
    simp only [sinkK, Bool.and_eq_true, List.all_eq_true, List.mem_range] at h
    have h1 := h.1 j hlt
    rw [hl] at h1
    simp only [Option.isSome_none, Bool.or_false, Bool.or_eq_true, beq_iff_eq, List.any_eq_true, List.mem_range, Bool.and_eq_true, decide_eq_true_eq] at h1
    rcases h1 with h1 | ⟨k, hk, hjk, ⟨hkl, hw⟩, hkm⟩
    · exact absurd h1 hm
    · cases ho : ops[k]? with
      | none => rw [ho] at hw; cases hw
      | some o =>
        rw [ho] at hw
        by_cases e : k = m
        · exact hcl k o ho (.inr e) j hw
        · exact hcl k o ho (.inl (ih (ops.size - 1 - k) (by omega) k (by omega) hk e (by simpa using hkl))) j hw

theorem region_facts_mid {P : Program} {ops : Array Oper} {Q : Exit → Act → World → Prop} {id : Nat} {a : Act} {w : World} (I : World → Prop) (L : List (Value → World → Prop)) (J : Value → World → Prop) (m : Nat) (late : Nat → Option Value) (hL : StableAll L) (hm : P.follows .mixedOrders = true) (hdag : dagB ops.toList 0 = true) (hap : apartB ops.toList = true) (hsink : sinkK ops m late = true) (v0 : Value) (hv0 : slotOf a ((ops[ops.size - 1]?).bind (·.dst)) = v0)
    (h0 : I w.drew) (hstep : KSteps P ops Q (frameOf a ops.toList 0) I (factOf L) J m late v0 ops.toList 0) (hml : m < ops.size - 1) (hlm : late m = none) (hll : ∀ j c, late j = some c → j < ops.size - 1) (hlf : ∀ j c, late j = some c → ∀ W, factOf L j c W) : (Code.region id ops true).wp P Q a w := by
  have hopt : ∀ {i : Nat} {o : Oper}, ops.toList[i]? = some o → ops[i]? = some o := fun h => by simpa using h
  obtain ⟨ol, hol⟩ : ∃ ol, ops[ops.size - 1]? = some ol := ⟨_, Array.getElem?_eq_getElem (by omega)⟩
  have hlast : waitsOn ol m = true ∧ ∀ j c, late j = some c → waitsOn ol j = true := by
    have h := hsink
    simp only [sinkK, Bool.and_eq_true] at h
    have h2 := h.2
    rw [hol] at h2
    simp only [Option.map_some, Option.getD_some, Bool.and_eq_true, List.all_eq_true, List.mem_range, Bool.or_eq_true] at h2
    refine ⟨h2.1, fun j c hj => ?_⟩
    rcases h2.2 j (hll j c hj) with h3 | h3
    · rw [hj] at h3; cases h3
    · exact h3
  let G : (Nat → Bool) → (Nat → Value) → World → Prop := fun M f W => (∀ (i : Nat) (o : Oper), ops[i]? = some o → M i = true → ∀ j, waitsOn o j = true → M j = true) ∧
    (M (ops.size - 1) = false → f (ops.size - 1) = v0) ∧ (∀ j c, late j = some c → M j = true → f j = c) ∧
    (M m = false → I W ∧ ∀ j, j < ops.size - 1 → j ≠ m → late j = none → M j = true → factOf L j (f j) W) ∧
    (M m = true → (∀ j, j < ops.size - 1 → j ≠ m → late j = none → M j = true) ∧ (M (ops.size - 1) = false → J (f m) W) ∧ (M (ops.size - 1) = true → Q .normal (frameOf a ops.toList 0 f) W))
  refine region_by_inv0 G hm hdag hap
    ⟨(fun _ _ _ h => by cases h), (fun _ => hv0), (fun _ _ _ h => by cases h), (fun _ => ⟨h0, (fun _ _ _ _ h => by cases h)⟩), (fun h => by cases h)⟩ ?_ (fun M f W hall hG => (hG.2.2.2.2 (hall _ (by omega))).2.2 (hall _ (by omega)))
  have build : ∀ (l : List Oper) (k : Nat), (∀ i o, l[i]? = some o → GStep P ops Q (frameOf a ops.toList 0) G (k + i) o) → GSteps P ops Q (frameOf a ops.toList 0) G l k := by
    intro l
    induction l with
    | nil => intro _ _; trivial
    | cons o l ih =>
      intro k h
      exact ⟨h 0 o rfl, ih (k + 1) fun i o' ho => by rw [show k + 1 + i = k + (i + 1) from by omega]; exact h (i + 1) o' (by simpa using ho)⟩
  refine build _ 0 fun i o ho => ?_
  rw [Nat.zero_add]
  have hi : i < ops.size := by have := (List.getElem?_eq_some_iff.1 ho).1; simpa using this
  have hg := KSteps.get hstep ho
  rw [Nat.zero_add] at hg
  intro M f W hMi hwait hG K hK
  have hdg : ∀ j, waitsOn o j = true → j < i := fun j hj => by
    simp only [waitsOn, Array.any_eq_true', Bool.and_eq_true, beq_iff_eq] at hj
    obtain ⟨e, he, hbe, rfl⟩ := hj
    have := dagB_get hdag ho e he hbe
    omega
  have hclosed : ∀ (i' : Nat) (o' : Oper), ops[i']? = some o' → updL M i i' = true → ∀ j, waitsOn o' j = true → updL M i j = true := by
    intro i' o' ho' hi' j hj
    simp only [updL] at hi' ⊢
    split
    · rfl
    · by_cases e : i' = i
      · subst e
        rw [hopt ho] at ho'
        cases ho'
        exact hwait j hj
      · rw [if_neg e] at hi'
        exact hG.1 i' o' ho' hi' j hj
  -- while the one in the middle is to come, the last one is
  have hfl : M m = false → M (ops.size - 1) = false := fun h => by
    cases hb : M (ops.size - 1) with
    | false => rfl
    | true => have := hG.1 _ _ hol hb _ hlast.1; rw [h] at this; cases this
  by_cases hil : i = ops.size - 1
  · have heq : o = ol := by
      have := hopt ho
      rw [hil, hol] at this
      cases this; rfl
    subst heq
    have hMm : M m = true := hwait _ hlast.1
    obtain ⟨h1, h2, h3⟩ := hG.2.2.2.2 hMm
    have hMl : M (ops.size - 1) = false := by rw [← hil]; exact hMi
    refine hg.last (by omega) f W (hG.2.1 hMl) (h2 hMl) (fun j c hj => hG.2.2.1 j c hj (hwait _ (hlast.2 j c hj))) K (Lib.hid fun v a' w' ha hq => hK.out v a' w' ha ⟨hclosed, fun h => ?_, fun j c hj h => ?_, fun h => ?_, fun _ => ⟨fun j hj hjm hjl => ?_, fun h => ?_, fun _ => hq⟩⟩)
    · simp only [updL] at h; rw [if_pos hil.symm] at h; cases h
    · have := hll j c hj
      simp only [updL] at h
      rw [if_neg (by omega)] at h
      simp only [upd]; rw [if_neg (by omega)]
      exact hG.2.2.1 j c hj h
    · simp only [updL] at h; rw [if_neg (by omega), hMm] at h; cases h
    · simp only [updL]; rw [if_neg (by omega)]; exact h1 j hj hjm hjl
    · simp only [updL] at h; rw [if_pos hil.symm] at h; cases h
  · by_cases him : i = m
    · have hMm : M m = false := by rw [← him]; exact hMi
      have hMl := hfl hMm
      have hall : ∀ j, j < ops.size - 1 → j ≠ m → late j = none → M j = true := fun j hj hjm hjl => sink_allK hsink (M := M) (fun i' o' ho' h j hj => by
        rcases h with h | h
        · exact hG.1 i' o' ho' h j hj
        · rw [h, ← him, hopt ho] at ho'
          cases ho'
          exact hwait j hj) (ops.size - 1 - j) j (by omega) hj hjm hjl
      obtain ⟨hI, hF⟩ := hG.2.2.2.1 hMm
      refine hg.mid him f W (hG.2.1 hMl) hI (fun j hj hjm hjl => hF j hj hjm hjl (hall j hj hjm hjl)) K (Lib.hid fun v a' w' ha hJ => hK.out v a' w' ha ⟨hclosed, fun _ => ?_, fun j c hj h => ?_, fun h => ?_, fun _ => ⟨fun j hj hjm hjl => ?_, fun _ => ?_, fun h => ?_⟩⟩)
      · simp only [upd]; rw [if_neg (by omega)]; exact hG.2.1 hMl
      · have hjm : j ≠ i := fun e => by rw [e, him, hlm] at hj; cases hj
        simp only [updL] at h; rw [if_neg hjm] at h
        simp only [upd]; rw [if_neg hjm]
        exact hG.2.2.1 j c hj h
      · simp only [updL] at h; rw [if_pos him.symm] at h; cases h
      · simp only [updL]; rw [if_neg (by omega)]; exact hall j hj hjm hjl
      · simp only [upd]; rw [if_pos him.symm]; exact hJ
      · simp only [updL] at h; rw [if_neg (by omega), hMl] at h; cases h
    · cases hlate : late i with
      | some c =>
        refine hg.lat c hlate f W (hG.2.1 ?_) K (Lib.hid fun a' ha => hK.out c a' W ha ⟨hclosed, fun h => ?_, fun j c' hj h => ?_, fun h => ?_, fun h => ⟨fun j hj hjm hjl => ?_, fun h' => ?_, fun h' => ?_⟩⟩)
        · cases hb : M (ops.size - 1) with
          | false => rfl
          | true => have := hG.1 _ _ hol hb _ (hlast.2 i c hlate); rw [hMi] at this; cases this
        · simp only [updL] at h; rw [if_neg (by omega)] at h
          simp only [upd]; rw [if_neg (by omega)]; exact hG.2.1 h
        · by_cases e : j = i
          · subst e; rw [hlate] at hj; cases hj; simp [upd]
          · simp only [updL] at h; rw [if_neg e] at h
            simp only [upd]; rw [if_neg e]; exact hG.2.2.1 j c' hj h
        · simp only [updL] at h; rw [if_neg (by omega)] at h
          obtain ⟨hI, hF⟩ := hG.2.2.2.1 h
          refine ⟨hI, fun j hj hjm hjl hjt => ?_⟩
          have hji : j ≠ i := fun e => by rw [e, hlate] at hjl; cases hjl
          simp only [updL] at hjt; rw [if_neg hji] at hjt
          simp only [upd]; rw [if_neg hji]; exact hF j hj hjm hjl hjt
        · simp only [updL] at h; rw [if_neg (by omega)] at h
          have hji : j ≠ i := fun e => by rw [e, hlate] at hjl; cases hjl
          simp only [updL]; rw [if_neg hji]; exact (hG.2.2.2.2 h).1 j hj hjm hjl
        · simp only [updL] at h h'; rw [if_neg (by omega)] at h h'
          simp only [upd]; rw [if_neg (by omega)]; exact (hG.2.2.2.2 h).2.1 h'
        · exfalso
          simp only [updL] at h'; rw [if_neg (by omega)] at h'
          have := hG.1 _ _ hol h' _ (hlast.2 i c hlate); rw [hMi] at this; cases this
      | none =>
        have hMm : M m = false := by
          cases hb : M m with
          | false => rfl
          | true => have := (hG.2.2.2.2 hb).1 i (by omega) him hlate; rw [hMi] at this; cases this
        have hMl := hfl hMm
        obtain ⟨hI, hF⟩ := hG.2.2.2.1 hMm
        refine hg.early him (by omega) hlate f W (hG.2.1 hMl) hI (fun j hj => ?_) K (Lib.hid fun v a' w' ha hI' hB hf => hK.out v a' w' ha ⟨hclosed, fun _ => ?_, fun j c hj h => ?_, fun _ => ⟨hI', fun j hj hjm hjl hjt => ?_⟩, fun h => ?_⟩)
        · have hMj := hwait j hj
          have := hdg j hj
          cases hlj : late j with
          | some c => rw [hG.2.2.1 j c hlj hMj]; exact hlf j c hlj W
          | none => exact hF j (by omega) (fun e => by rw [e, hMm] at hMj; cases hMj) hlj hMj
        · simp only [upd]; rw [if_neg (by omega)]; exact hG.2.1 hMl
        · have hji : j ≠ i := fun e => by rw [e, hlate] at hj; cases hj
          simp only [updL] at h; rw [if_neg hji] at h
          simp only [upd]; rw [if_neg hji]; exact hG.2.2.1 j c hj h
        · simp only [updL, upd] at hjt ⊢
          by_cases e : j = i
          · subst e; rw [if_pos rfl]; exact hf
          · rw [if_neg e] at hjt ⊢
            exact factOf_stable hL j _ _ _ (hF j hj hjm hjl hjt) hB
        · simp only [updL] at h; rw [if_neg (by omega), hMm] at h; cases h

end Go.Proofs.Ytnmhnaanpjlniaa
