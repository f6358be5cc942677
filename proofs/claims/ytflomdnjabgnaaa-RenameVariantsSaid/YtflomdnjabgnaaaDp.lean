import Derived.Test.YtflomdnjabgnaaaVn
import Derived.Test.YtflomdnjabgnaaaDl
import Derived.Test.YtflomdnjabgnaaaDi
/-
  Layer 5: the law RenameVariants: its plain facts.
-/
namespace Go.Proofs.Ytflomdnjabgnaaa
open Go.RowKit

/-- 0, 1, .. -/
def rng (n : Nat) : List Int := (List.range n).map fun (i : Nat) => (i : Int)
theorem rng_len (n : Nat) : (rng n).length = n := by simp [rng]
theorem rng_succ (n : Nat) : rng (n + 1) = rng n ++ [(n : Int)] := by simp [rng, List.range_succ]
theorem rng_mem {n : Nat} {i : Int} : i ∈ rng n ↔ 0 ≤ i ∧ i < n := by
  simp only [rng, List.mem_map, List.mem_range]
  constructor
  · rintro ⟨a, h, rfl⟩; omega
  · intro h; exact ⟨i.toNat, by omega, by omega⟩
theorem rng_idx : ∀ {n i : Nat}, i < n → (rng n).idxOf (i : Int) = i
  | 0, _, h => by omega
  | n + 1, i, h => by
    rw [rng_succ, List.idxOf_append]
    by_cases e : i < n
    · rw [if_pos (rng_mem.2 (by omega)), rng_idx e]
    · have e2 : i = n := by omega
      subst e2
      rw [if_neg (fun h => by have := (rng_mem.1 h).2; omega), rng_len]
      simp

theorem step_rng (st : List Int) (n : Int) : stepC (rng st.length) (stepC st n).1 = ((stepC st n).1, rng (stepC st n).2.length) := by
  unfold stepC
  by_cases h : st.contains n = true
  · rw [if_pos h]
    have hlt : st.idxOf n < st.length := List.idxOf_lt_length_iff.2 (by simpa using h)
    simp only
    rw [if_pos (by simp only [List.contains_iff_mem]; exact rng_mem.2 (by omega)), rng_idx hlt]
  · rw [if_neg h]
    simp only
    rw [if_neg (by simp only [List.contains_iff_mem]; intro h2; have := (rng_mem.1 h2).2; omega), rng_len, List.length_append, List.length_singleton, rng_succ]

/-- a canonical form is its own -/
theorem canon_canon : ∀ (ts : Ts) (st : List Int), renT stepC (renT stepC ts st).1 (rng st.length) = ((renT stepC ts st).1, rng (renT stepC ts st).2.length)
  | .nil, st => rfl
  | .cons k s n p c kids rest, st => by
    simp only [renT]
    have h1 : (if (k == 1) = true then stepC (rng st.length) (if (k == 1) = true then stepC st n else (n, st)).1 else ((if (k == 1) = true then stepC st n else (n, st)).1, rng st.length)) = ((if (k == 1) = true then stepC st n else (n, st)).1, rng (if (k == 1) = true then stepC st n else (n, st)).2.length) := by
      by_cases hk : (k == 1) = true
      · simp only [if_pos hk]; exact step_rng st n
      · simp only [if_neg hk]
    rw [h1]
    simp only
    rw [canon_canon kids]
    simp only
    rw [canon_canon rest]

theorem idx_map (m n : Int) : ∀ st : List Int, (st.map (· + m)).idxOf (n + m) = st.idxOf n
  | [] => rfl
  | x :: st => by
    simp only [List.map_cons, List.idxOf_cons]
    rw [idx_map m n st]
    by_cases e : x = n
    · subst e; simp
    · have e2 : ((x + m) == (n + m)) = false := by simp; omega
      have e3 : (x == n) = false := by simpa using e
      rw [e2, e3]

theorem step_map (m : Int) (st : List Int) (n : Int) : stepC (st.map (· + m)) (n + m) = ((stepC st n).1, (stepC st n).2.map (· + m)) := by
  unfold stepC
  have hc : (st.map (· + m)).contains (n + m) = st.contains n := by
    rw [Bool.eq_iff_iff]
    simp only [List.contains_iff_mem, List.mem_map]
    constructor
    · rintro ⟨a, h, e⟩
      have : a = n := by omega
      rw [← this]; exact h
    · intro h; exact ⟨n, h, rfl⟩
  rw [hc]
  split
  · rw [idx_map]
  · simp

/-- a shifted term's canonical form is the term's -/
theorem canon_shift {M m : Int} (hM : M + m ≤ 9223372036854775807) (hm : 0 ≤ m) : ∀ (ts : Ts) (st : List Int), numsIn M ts → renT stepC (renT (stepS m) ts ()).1 (st.map (· + m)) = ((renT stepC ts st).1, (renT stepC ts st).2.map (· + m))
  | .nil, st, _ => rfl
  | .cons k s n p c kids rest, st, h => by
    have e1 : ∀ u : Unit, (renT (stepS m) rest u).1 = (renT (stepS m) rest ()).1 := fun _ => rfl
    have e2 : ∀ u : Unit, (renT (stepS m) kids u).1 = (renT (stepS m) kids ()).1 := fun _ => rfl
    simp only [renT]
    rw [e1, e2]
    have h1 : (if (k == 1) = true then stepC (st.map (· + m)) (if (k == 1) = true then stepS m () n else (n, ())).1 else ((if (k == 1) = true then stepS m () n else (n, ())).1, st.map (· + m))) = ((if (k == 1) = true then stepC st n else (n, st)).1, (if (k == 1) = true then stepC st n else (n, st)).2.map (· + m)) := by
      by_cases hk : (k == 1) = true
      · simp only [if_pos hk, stepS]
        have := h.1 hk
        rw [wrap64_in (by omega), step_map]
      · simp only [if_neg hk]
    rw [h1]
    simp only
    rw [canon_shift hM hm kids _ h.2.1]
    simp only
    rw [canon_shift hM hm rest _ h.2.2]

theorem canon_sm {M : Nat} : ∀ (ts : Ts) (st : List Int), shapeL ts = true → st.length + ts.size ≤ M → smT (M : Int) (renT stepC ts st).1
  | .nil, _, _, _ => trivial
  | .cons k s n p c kids rest, st, hs, h => by
    simp only [Ts.size] at h
    simp only [shapeL, Bool.and_eq_true] at hs
    have hg : ∀ st n, (stepC st n).2.length ≤ st.length + 1 := fun st n => (nm_counter 0 1 0 2 (by omega) (by omega) (by omega) (by omega)).grow st n
    have h0 : (if (k == 1) = true then stepC st n else (n, st)).2.length ≤ st.length + 1 := by
      split
      · exact hg st n
      · simp
    have h1 := renT_cnt stepC List.length hg kids (if (k == 1) = true then stepC st n else (n, st)).2
    refine ⟨fun hk => ?_, canon_sm kids _ hs.1.1 (by omega), canon_sm rest _ hs.2 (by omega)⟩
    obtain ⟨_, hl⟩ := headB_var hs.1.2 hk
    have hkn := Ts.len_zero hl
    subst hkn
    simp only [hk, if_true]
    have h3 := stepC_cnt st n
    have h4 := hg st n
    exact ⟨h3.1, by omega, rfl⟩

theorem shift_sht {M m : Int} (hM : M + m ≤ 9223372036854775807) (hm : 0 ≤ m) : ∀ {ts us vs : Ts}, numsIn M ts → Ts.twin us ts → Ts.twin vs (renT (stepS m) ts ()).1 → ShT m us vs
  | .nil, .nil, .nil, _, _, _ => trivial
  | .nil, .cons .., _, _, h, _ => h.elim
  | .nil, _, .cons .., _, _, h => h.elim
  | .cons .., .nil, _, _, h, _ => h.elim
  | .cons .., _, .nil, _, _, h => h.elim
  | .cons k s n p c kids rest, .cons k1 s1 n1 p1 c1 kids1 rest1, .cons k2 s2 n2 p2 c2 kids2 rest2, hn, h, h' => by
    obtain ⟨rfl, rfl, rfl, h1, h2⟩ := h
    obtain ⟨g1, g2, g3, g4, g5⟩ := h'
    refine ⟨g1, g2, ?_, shift_sht hM hm hn.2.1 h1 g4, shift_sht hM hm hn.2.2 h2 g5⟩
    rw [g3]
    by_cases hk : (k1 == 1) = true
    · simp only [if_pos hk, stepS]
      have := hn.1 hk
      rw [wrap64_in (by omega)]
    · simp only [if_neg hk]

theorem twin_sm {M : Int} : ∀ {ts us : Ts}, Ts.twin us ts → smT M ts → smT M us
  | .nil, .nil, _, _ => trivial
  | .nil, .cons .., h, _ => h.elim
  | .cons .., .nil, h, _ => h.elim
  | .cons k s n p c kids rest, .cons k1 s1 n1 p1 c1 kids1 rest1, h, hs => by
    obtain ⟨rfl, rfl, rfl, h1, h2⟩ := h
    refine ⟨fun hk => ?_, twin_sm h1 hs.2.1, twin_sm h2 hs.2.2⟩
    obtain ⟨a1, a2, a3⟩ := hs.1 hk
    subst a3
    refine ⟨a1, a2, ?_⟩
    cases kids1 with
    | nil => rfl
    | cons => exact h1.elim

theorem twin_mark : ∀ {ts us : Ts}, Ts.twin us ts → (nodesOf us).map Ts.mark = (nodesOf ts).map Ts.mark
  | .nil, .nil, _ => rfl
  | .nil, .cons .., h => h.elim
  | .cons .., .nil, h => h.elim
  | .cons k s n p c kids rest, .cons k1 s1 n1 p1 c1 kids1 rest1, h => by
    obtain ⟨rfl, rfl, rfl, h1, h2⟩ := h
    simp only [nodesOf, List.map_cons, List.map_append, twin_mark h1, twin_mark h2]
    rfl

theorem canon_nums (ts : Ts) : (numsOf ((nodesOf (renT stepC ts []).1).map Ts.mark)).length = (numsOf ((nodesOf ts).map Ts.mark)).length := by
  unfold numsOf
  rw [← canon_state, ← canon_state]
  have h := canon_canon ts []
  have h2 : rng ([] : List Int).length = [] := rfl
  rw [h2] at h
  rw [h]
  simp only [rng_len]

/-- what the law asks, of canonical forms and shifted ones as they lie in memory -/
structure Cans (ta us vs : Ts) (m : Int) : Prop where
  shape : shapeL ta = true
  size : ta.size ≤ 1000
  mm : 1000 ≤ m ∧ m ≤ 4611686018427388904
  hu : Ts.twin us (renT stepC ta []).1
  hv : Ts.twin vs (renT (stepS m) us ()).1

theorem Cans.nums {ta us vs : Ts} {m : Int} (h : Cans ta us vs m) : numsIn 1000000 (renT stepC ta []).1 := canon_in ta [] (by have := h.size; simp; omega)
theorem Cans.own {ta us vs : Ts} {m : Int} (h : Cans ta us vs m) : (renT stepC us []).1 = (renT stepC ta []).1 := by
  rw [renT_twin stepC h.hu]
  have h1 := canon_canon ta []
  have h2 : rng ([] : List Int).length = [] := rfl
  rw [h2] at h1
  rw [h1]
theorem Cans.up {ta us vs : Ts} {m : Int} (h : Cans ta us vs m) : (renT stepC vs []).1 = (renT stepC ta []).1 := by
  rw [renT_twin stepC h.hv, renT_twin (stepS m) h.hu]
  have h1 := canon_shift (M := 1000000) (m := m) (by have := h.mm; omega) (by have := h.mm; omega) (renT stepC ta []).1 [] h.nums
  rw [List.map_nil] at h1
  rw [h1]
  have h3 := canon_canon ta []
  have h2 : rng ([] : List Int).length = [] := rfl
  rw [h2] at h3
  rw [h3]

theorem Cans.un {ta us vs : Ts} {m : Int} (h : Cans ta us vs m) : ∃ ρ r, outL us vs = .ok ρ (numsOf ((nodesOf ta).map Ts.mark)).length r := by
  have hsh : ShT m us vs := shift_sht (M := 1000000) (by have := h.mm; omega) (by have := h.mm; omega) h.nums h.hu (by rw [← renT_twin (stepS m) h.hu]; exact h.hv)
  have hsm : smT (1000 : Nat) us := twin_sm h.hu (canon_sm ta [] h.shape (by have := h.size; simp; omega))
  have hsz : us.size ≤ 1000 := by rw [Ts.twin_size _ _ h.hu, renT_size]; exact h.size
  have hln := hsh.len
  obtain ⟨ρ, c', r', h1, h2⟩ := un_shift (M := (1000 : Nat)) (d := m) ⟨by have := h.mm; omega, by have := h.mm; omega⟩ 4096 (c := 0) (σ := Sb.none) (acc := []) (l := (elems us).zip (elems vs)) ⟨(fun v hv => by simp at hv), (fun v _ => rfl), (fun v hv => by simp at hv)⟩ (fun p hp => hsh.zip hsm p hp) (by rw [tot_zip hln]; omega)
  refine ⟨ρ, r', ?_⟩
  unfold outL
  rw [if_pos hln, h1]
  have e : (numsOf ((nodesOf ta).map Ts.mark)).length = c' := by
    rw [mks_zip hln, twin_mark h.hu] at h2
    simp only [List.length_nil, Nat.add_zero, Nat.zero_add] at h2
    rw [h2, ← canon_nums]
    rfl
  rw [e]

theorem varB_symm (a b : Ts) : varB a b [] [] = varB b a [] [] := alike_symm _ _
theorem varB_trans {a b c : Ts} (h1 : varB a b [] [] = true) (h2 : varB b c [] [] = true) : varB a c [] [] = true := alike_twin (twin_trans (alike_is h1) (alike_is h2))
theorem Cans.var_us {ta us vs : Ts} {m : Int} (h : Cans ta us vs m) : varB ta us [] [] = true := by
  unfold varB
  rw [h.own]
  exact alike_refl _
theorem Cans.var_vs {ta us vs : Ts} {m : Int} (h : Cans ta us vs m) : varB ta vs [] [] = true := by
  unfold varB
  rw [h.up]
  exact alike_refl _

/-- good terms, one by one -/
theorem shape_elems : ∀ {ts : Ts}, (∀ x ∈ elems ts, goodB 64 x.k x.s x.n x.kids = true) → shapeL ts = true
  | .nil, _ => rfl
  | .cons k s n p c kids rest, h => by
    have h1 := h ⟨k, s, n, p, c, kids⟩ (by simp [elems])
    have h2 : shapeL kids = true ∧ headB k s n kids.len = true := by
      unfold goodB at h1
      simp only [Bool.and_eq_true] at h1
      exact h1.2
    simp only [shapeL, h2.1, h2.2, shape_elems (ts := rest) (fun x hx => h x (by simp only [elems]; exact List.mem_cons_of_mem _ hx)), Bool.and_self]

end Go.Proofs.Ytflomdnjabgnaaa
