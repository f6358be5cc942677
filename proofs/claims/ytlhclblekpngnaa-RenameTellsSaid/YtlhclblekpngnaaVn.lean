/-
  Layer 5: plain facts of shifted terms and of canonical forms.
-/
import Derived.Test.YtlhclblekpngnaaVm
namespace Go.Proofs.Ytlhclblekpngnaa
open Go.RowKit

/-- numbers of variables are none that are less than 0, and none beyond a bound -/
def numsIn (M : Int) : Ts → Prop
  | .nil => True
  | .cons k _ n _ _ kids rest => ((k == 1) = true → 0 ≤ n ∧ n ≤ M) ∧ numsIn M kids ∧ numsIn M rest

theorem numsIn_fit {M : Int} (hM : M < 4611686018427387904) : ∀ {ts : Ts}, numsIn M ts → numsFit ts
  | .nil, _ => trivial
  | .cons _ _ _ _ _ _ _, h => ⟨fun hk => by have := h.1 hk; omega, numsIn_fit hM h.2.1, numsIn_fit hM h.2.2⟩

theorem wrap64_in {x : Int} (h : -9223372036854775808 ≤ x ∧ x ≤ 9223372036854775807) : wrap64 x = x := by
  unfold wrap64
  omega

theorem shift_shift {M : Int} (hM : M ≤ 1099511627776) (a b : Int) (ha : 0 ≤ a ∧ a ≤ 1099511627776) (hb : 0 ≤ b ∧ b ≤ 1099511627776) : ∀ {ts : Ts}, numsIn M ts → (renT (stepS b) (renT (stepS a) ts ()).1 ()).1 = (renT (stepS (a + b)) ts ()).1
  | .nil, _ => rfl
  | .cons k s n p c kids rest, h => by
    have h1 := shift_shift hM a b ha hb h.2.1
    have h2 := shift_shift hM a b ha hb h.2.2
    have h3 : ∀ st : Unit, st = () := fun _ => rfl
    simp only [renT]
    have hn : (if (k == 1) = true then stepS b () (if (k == 1) = true then stepS a () n else (n, ())).1 else ((if (k == 1) = true then stepS a () n else (n, ())).1, ())).1 = (if (k == 1) = true then stepS (a + b) () n else (n, ())).1 := by
      by_cases hk : (k == 1) = true
      · simp only [hk, if_true, stepS]
        have := h.1 hk
        rw [wrap64_in (x := n + a) (by omega), wrap64_in (by omega), wrap64_in (by omega)]
        omega
      · simp only [hk, if_false, Bool.false_eq_true]
    rw [hn]
    congr 1

theorem shift_in {M : Int} (hM : M ≤ 1099511627776) (a : Int) (ha : 0 ≤ a ∧ a ≤ 1099511627776) : ∀ {ts : Ts}, numsIn M ts → numsIn (M + a) (renT (stepS a) ts ()).1
  | .nil, _ => trivial
  | .cons k s n p c kids rest, h => by
    refine ⟨fun hk => ?_, shift_in hM a ha h.2.1, shift_in hM a ha h.2.2⟩
    simp only [hk, if_true, stepS]
    have := h.1 hk
    rw [wrap64_in (by omega)]
    omega

theorem shift_cnt {M : Int} (hM : M ≤ 1099511627776) (a : Int) (ha : 0 ≤ a ∧ a ≤ 1099511627776) : ∀ {ts : Ts}, numsIn M ts → (noVar (nodesOf ts) = true → cntL (renT (stepS a) ts ()).1 = 0 ∧ cntL ts = 0) ∧ (noVar (nodesOf ts) = false → cntL (renT (stepS a) ts ()).1 = cntL ts + a.toNat)
  | .nil, _ => ⟨fun _ => ⟨rfl, rfl⟩, (fun h => by cases h)⟩
  | .cons k s n p c kids rest, h => by
    have h1 := shift_cnt hM a ha h.2.1
    have h2 := shift_cnt hM a ha h.2.2
    have hv : noVar (nodesOf (.cons k s n p c kids rest)) = (!(k == 1) && (noVar (nodesOf kids) && noVar (nodesOf rest))) := by
      simp only [noVar, nodesOf, List.all_cons, List.all_append]
    rw [hv]
    simp only [renT, cntL]
    have e1 : ∀ st : Unit, (renT (stepS a) rest st).1 = (renT (stepS a) rest ()).1 := fun _ => rfl
    have e2 : ∀ st : Unit, (renT (stepS a) kids st).1 = (renT (stepS a) kids ()).1 := fun _ => rfl
    rw [e1, e2]
    by_cases hk : (k == 1) = true
    · simp only [hk, if_true, stepS, Bool.not_true, Bool.false_and]
      have hn := h.1 hk
      rw [wrap64_in (by omega)]
      refine ⟨(fun h => by cases h), fun _ => ?_⟩
      have e3 : (n + a).toNat = n.toNat + a.toNat := by omega
      cases hvk : noVar (nodesOf kids) <;> cases hvr : noVar (nodesOf rest)
      · have := h1.2 hvk; have := h2.2 hvr; omega
      · have := h1.2 hvk; have := h2.1 hvr; omega
      · have := h1.1 hvk; have := h2.2 hvr; omega
      · have := h1.1 hvk; have := h2.1 hvr; omega
    · simp only [hk, if_false, Bool.false_eq_true]
      cases hvk : noVar (nodesOf kids) <;> cases hvr : noVar (nodesOf rest)
      · have := h1.2 hvk; have := h2.2 hvr; simp; omega
      · have := h1.2 hvk; have := h2.1 hvr; simp; omega
      · have := h1.1 hvk; have := h2.2 hvr; simp; omega
      · have := h1.1 hvk; have := h2.1 hvr; simp; omega

theorem stepC_new (st : List Int) (n : Int) : (stepC st n).2 = newNum st (1, n) := by
  unfold stepC newNum
  split
  · rfl
  · rfl

theorem canon_state : ∀ (ts : Ts) (st : List Int), (renT stepC ts st).2 = ((nodesOf ts).map Ts.mark).foldl newNum st
  | .nil, _ => rfl
  | .cons k s n p c kids rest, st => by
    simp only [renT, nodesOf, List.map_cons, List.map_append, List.foldl_cons, List.foldl_append]
    rw [canon_state rest, canon_state kids]
    congr 2
    by_cases hk : (k == 1) = true
    · rw [if_pos hk, stepC_new]
      have : k = 1 := by simpa using hk
      rw [this]; rfl
    · rw [if_neg hk]
      show st = newNum st (k, n)
      rw [newNum, if_neg hk]

theorem stepC_cnt (st : List Int) (n : Int) : 0 ≤ (stepC st n).1 ∧ max st.length ((stepC st n).1.toNat + 1) = (stepC st n).2.length := by
  unfold stepC
  split
  · rename_i h
    have hm : n ∈ st := by simpa using h
    have := List.idxOf_lt_length_iff.2 hm
    simp only
    omega
  · simp only [List.length_append, List.length_cons, List.length_nil]
    omega

theorem canon_cnt : ∀ (ts : Ts) (st : List Int), max st.length (cntL (renT stepC ts st).1) = (renT stepC ts st).2.length
  | .nil, st => by simp [renT, cntL]
  | .cons k s n p c kids rest, st => by
    simp only [renT, cntL]
    have h1 := canon_cnt kids (if (k == 1) = true then stepC st n else (n, st)).2
    have h2 := canon_cnt rest (renT stepC kids (if (k == 1) = true then stepC st n else (n, st)).2).2
    by_cases hk : (k == 1) = true
    · simp only [hk, if_true] at h1 h2 ⊢
      have h3 := stepC_cnt st n
      omega
    · simp only [hk, if_false, Bool.false_eq_true] at h1 h2 ⊢
      omega

theorem canon_in : ∀ (ts : Ts) (st : List Int), st.length + ts.size ≤ 1000000 → numsIn 1000000 (renT stepC ts st).1
  | .nil, _, _ => trivial
  | .cons k s n p c kids rest, st, h => by
    simp only [Ts.size] at h
    have hg : ∀ st n, (stepC st n).2.length ≤ st.length + 1 := fun st n => (nm_counter 0 1 0 2 (by omega) (by omega) (by omega) (by omega)).grow st n
    have h0 : (if (k == 1) = true then stepC st n else (n, st)).2.length ≤ st.length + 1 := by
      split
      · exact hg st n
      · simp
    have h1 := renT_cnt stepC List.length hg kids (if (k == 1) = true then stepC st n else (n, st)).2
    refine ⟨fun hk => ?_, canon_in kids _ (by omega), canon_in rest _ (by omega)⟩
    simp only [hk, if_true]
    have h3 := stepC_cnt st n
    have h4 := hg st n
    omega

/-- the numbers of a good term's variables, none beyond a bound -/
theorem good_in {M : Int} : ∀ {ts : Ts}, shapeL ts = true → (∀ x ∈ (nodesOf ts).map Ts.mark, (x.1 == 1) = true → x.2 ≤ M) → numsIn M ts
  | .nil, _, _ => trivial
  | .cons k s n p c kids rest, hs, hb => by
    simp only [shapeL, Bool.and_eq_true] at hs
    refine ⟨fun hk => ⟨?_, hb (k, n) (by simp [nodesOf, Ts.mark]) hk⟩, good_in hs.1.1 (fun x hx => hb x (by simp only [nodesOf, List.map_cons, List.map_append]; exact List.mem_cons_of_mem _ (List.mem_append_left _ hx))), good_in hs.2 (fun x hx => hb x (by simp only [nodesOf, List.map_cons, List.map_append]; exact List.mem_cons_of_mem _ (List.mem_append_right _ hx)))⟩
    have h1 := hs.1.2
    have hk1 : k = 1 := by simpa using hk
    rw [headB, if_pos hk1] at h1
    simp only [Bool.and_eq_true, decide_eq_true_eq] at h1
    exact h1.1
end Go.Proofs.Ytlhclblekpngnaa
