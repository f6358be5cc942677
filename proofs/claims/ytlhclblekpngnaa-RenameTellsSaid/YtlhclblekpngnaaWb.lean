/-
  Plain facts for the law RenameTells: shifts there and back, the variables of a shifted term, counts by the variables' list.
-/
import Derived.Test.YtlhclblekpngnaaVo0
import Derived.Test.YtlhclblekpngnaaWa
namespace Go.Proofs.Ytlhclblekpngnaa
open Go.RowKit

theorem wrap64_back (n m : Int) (h : -9223372036854775808 ≤ n ∧ n ≤ 9223372036854775807) : wrap64 (wrap64 (n + m) + wrap64 (-m)) = n := by
  unfold wrap64
  omega

/-- shifted there and back: alike -/
theorem shift_back (m : Int) : ∀ {ts us vs : Ts}, ts.ok → Ts.twin us (renT (stepS m) ts ()).1 → Ts.twin vs (renT (stepS (wrap64 (-m))) us ()).1 → alike vs ts = true := by
  intro ts us vs hok hu hv
  rw [renT_twin _ hu] at hv
  rw [Ts.twin_alike _ _ ts hv]
  clear hu hv
  induction ts with
  | nil => rfl
  | cons k s n p c kids rest ih1 ih2 =>
    have e : ∀ (q : Int) (t : Ts) (u : Unit), (renT (stepS q) t u).1 = (renT (stepS q) t ()).1 := fun _ _ _ => rfl
    simp only [renT, alike]
    rw [e _ (renT (stepS m) kids _).1, e _ (renT (stepS m) rest _).1, e m kids, e m rest, ih1 hok.2.2.2.2.2.1, ih2 hok.2.2.2.2.2.2]
    have hn : (if (k == 1) = true then stepS (wrap64 (-m)) () (if (k == 1) = true then stepS m () n else (n, ())).1 else ((if (k == 1) = true then stepS m () n else (n, ())).1, ())).1 = n := by
      by_cases hk : (k == 1) = true
      · simp only [hk, if_true, stepS]
        exact wrap64_back n m hok.2.2.1
      · simp only [hk, if_false, Bool.false_eq_true]
    rw [hn]
    simp

theorem shN_back (m k n : Int) (h : -9223372036854775808 ≤ n ∧ n ≤ 9223372036854775807) : shN (wrap64 (-m)) k (shN m k n) = n := by
  unfold shN
  split
  · exact wrap64_back n m h
  · rfl

theorem shift_marks (m : Int) : ∀ (ts : Ts), (nodesOf (renT (stepS m) ts ()).1).map Ts.mark = ((nodesOf ts).map Ts.mark).map fun x => (x.1, if (x.1 == 1) = true then wrap64 (x.2 + m) else x.2)
  | .nil => rfl
  | .cons k s n p c kids rest => by
    have e : ∀ (t : Ts) (u : Unit), (renT (stepS m) t u).1 = (renT (stepS m) t ()).1 := fun _ _ => rfl
    simp only [renT, nodesOf, List.map_cons, List.map_append]
    rw [e kids, e rest, shift_marks m kids, shift_marks m rest]
    congr 1
    simp only [Ts.mark]
    by_cases hk : (k == 1) = true
    · simp only [hk, if_true, stepS]
    · simp only [hk, if_false, Bool.false_eq_true]

theorem wrap64_inj {x y m : Int} (hx : -9223372036854775808 ≤ x ∧ x ≤ 9223372036854775807) (hy : -9223372036854775808 ≤ y ∧ y ≤ 9223372036854775807) (h : wrap64 (x + m) = wrap64 (y + m)) : x = y := by
  unfold wrap64 at h
  omega

theorem nums_map (m : Int) : ∀ (l : List (Int × Int)) (acc : List Int), (∀ x ∈ l, -9223372036854775808 ≤ x.2 ∧ x.2 ≤ 9223372036854775807) → (∀ x ∈ acc, -9223372036854775808 ≤ x ∧ x ≤ 9223372036854775807) →
    (l.map fun x => (x.1, if (x.1 == 1) = true then wrap64 (x.2 + m) else x.2)).foldl newNum (acc.map fun n => wrap64 (n + m)) = (l.foldl newNum acc).map fun n => wrap64 (n + m)
  | [], _, _, _ => rfl
  | x :: l, acc, hl, ha => by
    simp only [List.map_cons, List.foldl_cons]
    have hx := hl x (List.mem_cons_self ..)
    have hl' : ∀ y ∈ l, -9223372036854775808 ≤ y.2 ∧ y.2 ≤ 9223372036854775807 := fun y hy => hl y (List.mem_cons_of_mem _ hy)
    have hstep : newNum (acc.map fun n => wrap64 (n + m)) (x.1, if (x.1 == 1) = true then wrap64 (x.2 + m) else x.2) = (newNum acc x).map fun n => wrap64 (n + m) := by
      unfold newNum
      by_cases hk : (x.1 == 1) = true
      · simp only [hk, if_true]
        have hc : ((acc.map fun n => wrap64 (n + m)).contains (wrap64 (x.2 + m))) = acc.contains x.2 := by
          rw [Bool.eq_iff_iff]
          simp only [List.contains_iff_mem, List.mem_map]
          constructor
          · rintro ⟨y, hy, hyx⟩
            rw [← wrap64_inj (ha y hy) hx hyx]
            exact hy
          · intro h
            exact ⟨_, h, rfl⟩
        rw [hc]
        split
        · rfl
        · simp
      · simp only [hk, if_false, Bool.false_eq_true]
    rw [hstep]
    refine nums_map m l _ hl' ?_
    intro y hy
    unfold newNum at hy
    split at hy
    · split at hy
      · exact ha y hy
      · rcases List.mem_append.1 hy with hy | hy
        · exact ha y hy
        · have : y = x.2 := by simpa using hy
          rw [this]; exact hx
    · exact ha y hy

/-- the variables of a shifted term are the variables, shifted -/
theorem shift_vars (m : Int) {ts us : Ts} (hok : ts.ok) (hu : Ts.twin us (renT (stepS m) ts ()).1) : numsOf ((nodesOf us).map Ts.mark) = (numsOf ((nodesOf ts).map Ts.mark)).map fun n => wrap64 (n + m) := by
  rw [Ts.twin_marks us _ hu, shift_marks]
  refine nums_map m _ [] ?_ (by simp)
  intro x hx
  obtain ⟨y, hy, rfl⟩ := List.mem_map.1 hx
  exact nodes_wf ts hok y hy

theorem marks_in {M : Int} : ∀ {ts : Ts}, (∀ x ∈ (nodesOf ts).map Ts.mark, (x.1 == 1) = true → 0 ≤ x.2 ∧ x.2 ≤ M) → numsIn M ts
  | .nil, _ => trivial
  | .cons k s n p c kids rest, hb => by
    refine ⟨fun hk => hb (k, n) (by simp [nodesOf, Ts.mark]) hk, marks_in (fun x hx => hb x (by simp only [nodesOf, List.map_cons, List.map_append]; exact List.mem_cons_of_mem _ (List.mem_append_left _ hx))), marks_in (fun x hx => hb x (by simp only [nodesOf, List.map_cons, List.map_append]; exact List.mem_cons_of_mem _ (List.mem_append_right _ hx)))⟩

theorem vars_in {M : Int} {ts : Ts} (h : ∀ n ∈ numsOf ((nodesOf ts).map Ts.mark), 0 ≤ n ∧ n ≤ M) : numsIn M ts :=
  marks_in fun x hx hk => h x.2 ((numsOf_mem _ _).2 ⟨x, hx, hk, rfl⟩)

theorem cntL_ge : ∀ (ts : Ts), ∀ x ∈ (nodesOf ts).map Ts.mark, (x.1 == 1) = true → x.2 + 1 ≤ ((cntL ts : Nat) : Int)
  | .nil, x, hx, _ => by cases hx
  | .cons k s n p c kids rest, x, hx, hk => by
    simp only [nodesOf, List.map_cons, List.map_append, List.mem_cons, List.mem_append] at hx
    simp only [cntL]
    rcases hx with rfl | hx | hx
    · have hk' : (k == 1) = true := hk
      rw [if_pos hk']
      show n + 1 ≤ _
      omega
    · have := cntL_ge kids x hx hk; omega
    · have := cntL_ge rest x hx hk; omega

theorem cntL_is : ∀ (ts : Ts), cntL ts = 0 ∨ ∃ x ∈ (nodesOf ts).map Ts.mark, (x.1 == 1) = true ∧ cntL ts = x.2.toNat + 1
  | .nil => .inl rfl
  | .cons k s n p c kids rest => by
    simp only [nodesOf, List.map_cons, List.map_append, List.mem_cons, List.mem_append, cntL]
    have h1 := cntL_is kids
    have h2 := cntL_is rest
    rcases Nat.le_total (max (if (k == 1) = true then n.toNat + 1 else 0) (cntL kids)) (cntL rest) with hm | hm
    · rw [Nat.max_eq_right hm]
      rcases h2 with h2 | ⟨x, hx, h3⟩
      · exact .inl h2
      · exact .inr ⟨x, .inr (.inr hx), h3⟩
    · rw [Nat.max_eq_left hm]
      rcases Nat.le_total (if (k == 1) = true then n.toNat + 1 else 0) (cntL kids) with hm' | hm'
      · rw [Nat.max_eq_right hm']
        rcases h1 with h1 | ⟨x, hx, h3⟩
        · exact .inl h1
        · exact .inr ⟨x, .inr (.inl hx), h3⟩
      · rw [Nat.max_eq_left hm']
        by_cases hk : (k == 1) = true
        · rw [if_pos hk]
          exact .inr ⟨_, .inl rfl, hk, rfl⟩
        · rw [if_neg hk]
          exact .inl rfl

/-- the greatest, or -1 -/
def mostL (zs : List Int) : Int := zs.foldl max (-1)

theorem foldl_max_ge : ∀ (zs : List Int) (m : Int), m ≤ zs.foldl max m ∧ (∀ z ∈ zs, z ≤ zs.foldl max m) ∧ (zs.foldl max m = m ∨ zs.foldl max m ∈ zs)
  | [], m => ⟨Int.le_refl _, (fun z hz => by cases hz), .inl rfl⟩
  | z :: zs, m => by
    obtain ⟨h1, h2, h3⟩ := foldl_max_ge zs (max m z)
    simp only [List.foldl_cons]
    refine ⟨by omega, ?_, ?_⟩
    · intro y hy
      rcases List.mem_cons.1 hy with rfl | hy
      · omega
      · exact h2 y hy
    · rcases h3 with h3 | h3
      · rcases Int.le_total m z with hmz | hmz
        · right; rw [h3, Int.max_eq_right hmz]; exact List.mem_cons_self ..
        · left; rw [h3, Int.max_eq_left hmz]
      · exact .inr (List.mem_cons_of_mem _ h3)

/-- the count is one more than the greatest variable -/
theorem cnt_most {ts : Ts} (h : ∀ n ∈ numsOf ((nodesOf ts).map Ts.mark), 0 ≤ n) : ((cntL ts : Nat) : Int) = mostL (numsOf ((nodesOf ts).map Ts.mark)) + 1 := by
  obtain ⟨h1, h2, h3⟩ := foldl_max_ge (numsOf ((nodesOf ts).map Ts.mark)) (-1)
  change -1 ≤ mostL _ at h1
  have h2' : ∀ z ∈ numsOf ((nodesOf ts).map Ts.mark), z ≤ mostL (numsOf ((nodesOf ts).map Ts.mark)) := h2
  have h3' : mostL (numsOf ((nodesOf ts).map Ts.mark)) = -1 ∨ mostL (numsOf ((nodesOf ts).map Ts.mark)) ∈ numsOf ((nodesOf ts).map Ts.mark) := h3
  have hup : ((cntL ts : Nat) : Int) ≤ mostL (numsOf ((nodesOf ts).map Ts.mark)) + 1 := by
    rcases cntL_is ts with h0 | ⟨x, hx, hk, h0⟩
    · rw [h0]; omega
    · have hm := (numsOf_mem _ _).2 ⟨x, hx, hk, rfl⟩
      have := h2' _ hm
      have := h _ hm
      rw [h0]; omega
  have hdn : mostL (numsOf ((nodesOf ts).map Ts.mark)) + 1 ≤ ((cntL ts : Nat) : Int) := by
    rcases h3' with h0 | h0
    · omega
    · obtain ⟨x, hx, hk, he⟩ := (numsOf_mem _ _).1 h0
      rw [he]
      exact cntL_ge ts x hx hk
  omega

end Go.Proofs.Ytlhclblekpngnaa
