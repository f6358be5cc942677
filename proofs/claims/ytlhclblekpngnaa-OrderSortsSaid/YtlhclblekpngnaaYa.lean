/-
  Layer 2: plain facts of rows that are put in order by changing places: what stays, what is counted, what is sorted.
-/
import Derived.Test.YtlhclblekpngnaaXd
namespace Go.Proofs.Ytlhclblekpngnaa

/-- a row with another thing at a place -/
def updF {α : Type} (d : Nat → α) (i : Nat) (x : α) : Nat → α := fun k => if k = i then x else d k

/-- two places changed -/
def swp {α : Type} (d : Nat → α) (i j : Nat) : Nat → α := updF (updF d i (d j)) j (d i)

def cntF {α : Type} (p : α → Bool) : Nat → (Nat → α) → Nat
  | 0, _ => 0
  | n + 1, d => cntF p n d + (if p (d n) then 1 else 0)

section
variable {α : Type}

theorem cntF_congr (p : α → Bool) : ∀ (n : Nat) (d d' : Nat → α), (∀ k, k < n → d k = d' k) → cntF p n d = cntF p n d'
  | 0, _, _, _ => rfl
  | n + 1, d, d', h => by
    simp only [cntF]
    rw [cntF_congr p n d d' (fun k hk => h k (by omega)), h n (by omega)]

theorem cntF_upd (p : α → Bool) (x : α) : ∀ (n i : Nat) (d : Nat → α), i < n → cntF p n (updF d i x) + (if p (d i) then 1 else 0) = cntF p n d + (if p x then 1 else 0)
  | 0, _, _, h => by omega
  | n + 1, i, d, h => by
    simp only [cntF]
    by_cases e : i = n
    · subst e
      rw [cntF_congr p i (updF d i x) d (fun k hk => by simp only [updF]; rw [if_neg (by omega)])]
      simp only [updF, if_pos]
      omega
    · have := cntF_upd p x n i d (by omega)
      have e2 : updF d i x n = d n := by simp only [updF]; rw [if_neg (by omega)]
      rw [e2]
      omega

theorem cntF_swp (p : α → Bool) (n i j : Nat) (d : Nat → α) (hi : i < n) (hj : j < n) : cntF p n (swp d i j) = cntF p n d := by
  have h1 := cntF_upd p (d j) n i d hi
  have h2 := cntF_upd p (d i) n j (updF d i (d j)) hj
  have h3 : updF d i (d j) j = d j := by
    simp only [updF]
    split
    · rfl
    · rfl
  rw [h3] at h2
  unfold swp
  omega

theorem swp_at (d : Nat → α) (i j k : Nat) : swp d i j k = if k = j then d i else if k = i then d j else d k := rfl

/-- the same things, in another order, between two places -/
structure PermF (a b : Nat) (d d' : Nat → α) : Prop where
  out : ∀ k, (k < a ∨ b ≤ k) → d' k = d k
  inn : ∀ k, a ≤ k → k < b → ∃ l, a ≤ l ∧ l < b ∧ d' k = d l
  cnt : ∀ (p : α → Bool) (n : Nat), b ≤ n → cntF p n d' = cntF p n d

theorem PermF.refl (a b : Nat) (d : Nat → α) : PermF a b d d := ⟨fun _ _ => rfl, fun k h h' => ⟨k, h, h', rfl⟩, fun _ _ _ => rfl⟩

theorem PermF.trans {a b : Nat} {d d' d'' : Nat → α} (h : PermF a b d d') (h' : PermF a b d' d'') : PermF a b d d'' := by
  refine ⟨fun k hk => (h'.out k hk).trans (h.out k hk), fun k h1 h2 => ?_, fun p n hn => (h'.cnt p n hn).trans (h.cnt p n hn)⟩
  obtain ⟨l, l1, l2, l3⟩ := h'.inn k h1 h2
  obtain ⟨m, m1, m2, m3⟩ := h.inn l l1 l2
  exact ⟨m, m1, m2, l3.trans m3⟩

theorem PermF.wide {a b a' b' : Nat} {d d' : Nat → α} (h : PermF a b d d') (ha : a' ≤ a) (hb : b ≤ b') : PermF a' b' d d' := by
  refine ⟨fun k hk => h.out k (by omega), fun k h1 h2 => ?_, fun p n hn => h.cnt p n (by omega)⟩
  by_cases e : a ≤ k ∧ k < b
  · obtain ⟨l, l1, l2, l3⟩ := h.inn k e.1 e.2
    exact ⟨l, by omega, by omega, l3⟩
  · exact ⟨k, h1, h2, h.out k (by omega)⟩

theorem PermF.swp (d : Nat → α) {a b i j : Nat} (hi : a ≤ i ∧ i < b) (hj : a ≤ j ∧ j < b) : PermF a b d (swp d i j) := by
  refine ⟨fun k hk => ?_, fun k h1 h2 => ?_, fun p n hn => cntF_swp p n i j d (by omega) (by omega)⟩
  · rw [swp_at, if_neg (by omega), if_neg (by omega)]
  · rw [swp_at]
    split
    · exact ⟨i, hi.1, hi.2, rfl⟩
    · split
      · exact ⟨j, hj.1, hj.2, rfl⟩
      · exact ⟨k, h1, h2, rfl⟩

theorem PermF.congr {a b : Nat} {d d' e : Nat → α} (h : PermF a b d d') (he : ∀ k, e k = d' k) : PermF a b d e := by
  have : e = d' := funext he
  rw [this]; exact h
end

/-- an order of things, by comparison -/
structure Cmp {α : Type} (cm : α → α → Int) : Prop where
  neg : ∀ x y, cm y x = -(cm x y)
  tri : ∀ x y z, Tri (cm x y) (cm y z) (cm x z)

section
variable {α : Type} {cm : α → α → Int}

theorem Cmp.trans (h : Cmp cm) {x y z : α} (h1 : cm x y ≤ 0) (h2 : cm y z ≤ 0) : cm x z ≤ 0 := ((h.tri x y z).1 h1 h2).1

theorem Cmp.refl (h : Cmp cm) (x : α) : cm x x = 0 := by
  have := h.neg x x
  omega

theorem Cmp.of_lt (h : Cmp cm) {x y : α} (h1 : ¬ cm x y < 0) : cm y x ≤ 0 := by
  have := h.neg x y
  omega

def SortedF (cm : α → α → Int) (d : Nat → α) (a b : Nat) : Prop := ∀ i j, a ≤ i → i ≤ j → j < b → cm (d i) (d j) ≤ 0

theorem SortedF.sub {d : Nat → α} {a b a' b' : Nat} (h : SortedF cm d a b) (ha : a ≤ a') (hb : b' ≤ b) : SortedF cm d a' b' := fun i j h1 h2 h3 => h i j (by omega) h2 (by omega)

theorem SortedF.congr {d d' : Nat → α} {a b : Nat} (h : SortedF cm d a b) (he : ∀ k, a ≤ k → k < b → d' k = d k) : SortedF cm d' a b := fun i j h1 h2 h3 => by
  rw [he i (by omega) (by omega), he j (by omega) (by omega)]
  exact h i j h1 h2 h3

theorem SortedF.small (hc : Cmp cm) (d : Nat → α) {a b : Nat} (h : b ≤ a + 1) : SortedF cm d a b := fun i j h1 h2 h3 => by
  obtain rfl : i = j := by omega
  rw [hc.refl]
  omega

/-- two sorted parts, all of the first ahead of all of the second -/
theorem SortedF.join {d : Nat → α} {a m b : Nat} (h1 : SortedF cm d a m) (h2 : SortedF cm d m b) (h : ∀ i j, a ≤ i → i < m → m ≤ j → j < b → cm (d i) (d j) ≤ 0) : SortedF cm d a b := fun i j g1 g2 g3 => by
  by_cases e : j < m
  · exact h1 i j g1 g2 e
  · by_cases e' : m ≤ i
    · exact h2 i j e' g2 g3
    · exact h i j g1 (by omega) (by omega) g3

/-- parts that have been put in order by themselves -/
theorem SortedF.halves {d d1 d2 : Nat → α} {a m b : Nat} (p1 : PermF a m d d1) (p2 : PermF m b d1 d2) (s1 : SortedF cm d1 a m) (s2 : SortedF cm d2 m b) (h : ∀ i j, a ≤ i → i < m → m ≤ j → j < b → cm (d i) (d j) ≤ 0) : SortedF cm d2 a b := by
  refine SortedF.join (s1.congr fun k _ hk => p2.out k (.inl hk)) s2 fun i j g1 g2 g3 g4 => ?_
  obtain ⟨l, l1, l2, l3⟩ := p1.inn i g1 g2
  obtain ⟨r, r1, r2, r3⟩ := p2.inn j g3 g4
  rw [p2.out i (.inl g2), l3, r3, p1.out r (.inr r1)]
  exact h l r l1 l2 r1 r2

/-- a thing that has moved up: what was at a is at i, what was between is one lower -/
def movedUp (d : Nat → α) (a i : Nat) : Nat → α := fun k => if a ≤ k ∧ k < i then d (k + 1) else if k = i then d a else d k

theorem movedUp_start (d : Nat → α) (a : Nat) : movedUp d a a = d := by
  funext k
  unfold movedUp
  rw [if_neg (by omega)]
  split
  · rename_i h; rw [h]
  · rfl

theorem movedUp_step (d : Nat → α) {a i : Nat} (h : a ≤ i) : movedUp d a (i + 1) = swp (movedUp d a i) i (i + 1) := by
  funext k
  rw [swp_at]
  unfold movedUp
  repeat' split
  all_goals first | rfl | (exfalso; omega) | (congr 1; omega)

/-- a thing that has moved down -/
def movedDown (d : Nat → α) (m i : Nat) : Nat → α := fun k => if i < k ∧ k ≤ m then d (k - 1) else if k = i then d m else d k

theorem movedDown_start (d : Nat → α) (m : Nat) : movedDown d m m = d := by
  funext k
  unfold movedDown
  rw [if_neg (by omega)]
  split
  · rename_i h; rw [h]
  · rfl

theorem movedDown_step (d : Nat → α) {m i : Nat} (h : i + 1 ≤ m) : movedDown d m i = swp (movedDown d m (i + 1)) (i + 1) i := by
  funext k
  rw [swp_at]
  unfold movedDown
  repeat' split
  all_goals first | rfl | (exfalso; omega) | (congr 1; omega)

/-- one thing and a sorted part: put in its place -/
theorem up_sorted (hc : Cmp cm) {d : Nat → α} {a b i : Nat} (hs : SortedF cm d (a + 1) b) (ha : a + 1 ≤ i) (hib : i ≤ b) (h1 : ∀ k, a + 1 ≤ k → k < i → cm (d k) (d a) < 0) (h2 : ∀ k, i ≤ k → k < b → ¬ cm (d k) (d a) < 0) : SortedF cm (movedUp d a (i - 1)) a b := by
  intro x y hx hxy hy
  unfold movedUp
  by_cases c1 : a ≤ x ∧ x < i - 1
  · rw [if_pos c1]
    by_cases c2 : a ≤ y ∧ y < i - 1
    · rw [if_pos c2]; exact hs _ _ (by omega) (by omega) (by omega)
    · rw [if_neg c2]
      by_cases c3 : y = i - 1
      · rw [if_pos c3]; have := h1 (x + 1) (by omega) (by omega); omega
      · rw [if_neg c3]; exact hs _ _ (by omega) (by omega) (by omega)
  · rw [if_neg c1]
    have c2 : ¬ (a ≤ y ∧ y < i - 1) := by omega
    rw [if_neg c2]
    by_cases c3 : x = i - 1
    · rw [if_pos c3]
      by_cases c4 : y = i - 1
      · rw [if_pos c4, hc.refl]; omega
      · rw [if_neg c4]; exact hc.of_lt (h2 y (by omega) hy)
    · rw [if_neg c3, if_neg (by omega)]; exact hs _ _ (by omega) (by omega) (by omega)

theorem down_sorted (hc : Cmp cm) {d : Nat → α} {a m i : Nat} (hs : SortedF cm d a m) (ha : a ≤ i) (him : i ≤ m) (h1 : ∀ k, a ≤ k → k < i → ¬ cm (d m) (d k) < 0) (h2 : ∀ k, i ≤ k → k < m → cm (d m) (d k) < 0) : SortedF cm (movedDown d m i) a (m + 1) := by
  intro x y hx hxy hy
  unfold movedDown
  by_cases c1 : i < x ∧ x ≤ m
  · rw [if_pos c1, if_pos (by omega)]; exact hs _ _ (by omega) (by omega) (by omega)
  · rw [if_neg c1]
    by_cases c2 : x = i
    · rw [if_pos c2]
      by_cases c3 : i < y ∧ y ≤ m
      · rw [if_pos c3]; have := h2 (y - 1) (by omega) (by omega); omega
      · rw [if_neg c3]
        by_cases c4 : y = i
        · rw [if_pos c4, hc.refl]; omega
        · omega
    · rw [if_neg c2]
      by_cases c3 : i < y ∧ y ≤ m
      · rw [if_pos c3]; exact hs _ _ (by omega) (by omega) (by omega)
      · rw [if_neg c3]
        by_cases c4 : y = i
        · rw [if_pos c4]; exact hc.of_lt (h1 x (by omega) (by omega))
        · rw [if_neg c4]; exact hs _ _ (by omega) (by omega) (by omega)
end

end Go.Proofs.Ytlhclblekpngnaa
