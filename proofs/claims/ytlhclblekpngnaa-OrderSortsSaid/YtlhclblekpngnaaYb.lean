/-
  Layer 2: plain facts of blocks that change places, and of two sorted parts that are merged so.
-/
import Derived.Test.YtlhclblekpngnaaYa
namespace Go.Proofs.Ytlhclblekpngnaa

section
variable {α : Type} {cm : α → α → Int}

/-- two blocks of n changed -/
def swpR (d : Nat → α) (a b n : Nat) : Nat → α := fun k => if a ≤ k ∧ k < a + n then d (k + (b - a)) else if b ≤ k ∧ k < b + n then d (k - (b - a)) else d k

/-- two neighbouring blocks changed -/
def rotF (d : Nat → α) (a m b : Nat) : Nat → α := fun k => if a ≤ k ∧ k < a + (b - m) then d (k + (m - a)) else if a + (b - m) ≤ k ∧ k < b then d (k - (b - m)) else d k

theorem swpR_start (d : Nat → α) (a b : Nat) : swpR d a b 0 = d := by
  funext k
  unfold swpR
  rw [if_neg (by omega), if_neg (by omega)]

theorem swpR_step (d : Nat → α) {a b i : Nat} (h : a + (i + 1) ≤ b) : swpR d a b (i + 1) = swp (swpR d a b i) (a + i) (b + i) := by
  funext k
  rw [swp_at]
  unfold swpR
  repeat' split
  all_goals first | rfl | (exfalso; omega) | (congr 1; omega)

theorem swpR_perm (d : Nat → α) {lo hi a b : Nat} (ha : lo ≤ a) : ∀ n, a + n ≤ b → b + n ≤ hi → PermF lo hi d (swpR d a b n)
  | 0, _, _ => by rw [swpR_start]; exact PermF.refl _ _ _
  | n + 1, h1, h2 => by
    rw [swpR_step d (by omega)]
    exact (swpR_perm d ha n (by omega) (by omega)).trans (PermF.swp _ (by omega) (by omega))

theorem rot_gt (d : Nat → α) {m i j : Nat} (hi : i ≤ m) (h : j < i) : rotF (swpR d (m - i) m j) (m - (i - j)) m (m + j) = rotF d (m - i) m (m + j) := by
  funext k
  unfold rotF swpR
  repeat' split
  all_goals first | rfl | (exfalso; omega) | (congr 1; omega)

theorem rot_lt (d : Nat → α) {m i j : Nat} (hi : i ≤ m) (h : i < j) : rotF (swpR d (m - i) (m + j - i) i) (m - i) m (m + (j - i)) = rotF d (m - i) m (m + j) := by
  funext k
  unfold rotF swpR
  repeat' split
  all_goals first | rfl | (exfalso; omega) | (congr 1; omega)

theorem rot_eq (d : Nat → α) {m i : Nat} (hi : i ≤ m) : swpR d (m - i) m i = rotF d (m - i) m (m + i) := by
  funext k
  unfold rotF swpR
  repeat' split
  all_goals first | rfl | (exfalso; omega) | (congr 1; omega)

theorem rot_left (d : Nat → α) (m b : Nat) : rotF d m m b = d := by
  funext k
  unfold rotF
  repeat' split
  all_goals first | rfl | (exfalso; omega) | (congr 1; omega)

theorem rot_right (d : Nat → α) (a m : Nat) : rotF d a m m = d := by
  funext k
  unfold rotF
  repeat' split
  all_goals first | rfl | (exfalso; omega) | (congr 1; omega)

theorem Cmp.le_lt (h : Cmp cm) {x y z : α} (h1 : cm x y ≤ 0) (h2 : cm y z < 0) : cm x z < 0 := by
  have := (h.tri x y z).1 h1 (by omega)
  omega

theorem Cmp.lt_le (h : Cmp cm) {x y z : α} (h1 : cm x y < 0) (h2 : cm y z ≤ 0) : cm x z < 0 := by
  have := (h.tri x y z).1 (by omega) h2
  omega

/-- where to look for the place of a thing among those behind it -/
theorem up_less (hc : Cmp cm) {d : Nat → α} {m b h : Nat} (x : α) (hs : SortedF cm d m b) (hh : h < b) (hl : cm (d h) x < 0) : ∀ k, m ≤ k → k < h + 1 → cm (d k) x < 0 :=
  fun k h1 h2 => hc.le_lt (hs k h h1 (by omega) hh) hl

theorem up_more (hc : Cmp cm) {d : Nat → α} {m b h : Nat} (x : α) (hs : SortedF cm d m b) (hh : m ≤ h) (hl : ¬ cm (d h) x < 0) : ∀ k, h ≤ k → k < b → ¬ cm (d k) x < 0 :=
  fun k h1 h2 hk => hl (hc.le_lt (hs h k hh h1 h2) hk)

theorem down_less (hc : Cmp cm) {d : Nat → α} {a m h : Nat} (x : α) (hs : SortedF cm d a m) (hh : h < m) (hl : ¬ cm x (d h) < 0) : ∀ k, a ≤ k → k < h + 1 → ¬ cm x (d k) < 0 :=
  fun k h1 h2 hk => hl (hc.lt_le hk (hs k h h1 (by omega) hh))

theorem down_more (hc : Cmp cm) {d : Nat → α} {a m h : Nat} (x : α) (hs : SortedF cm d a m) (hh : a ≤ h) (hl : cm x (d h) < 0) : ∀ k, h ≤ k → k < m → cm x (d k) < 0 :=
  fun k h1 h2 => hc.lt_le hl (hs h k hh h1 h2)

theorem sym_less (hc : Cmp cm) {d : Nat → α} {a m b p c : Nat} (hs1 : SortedF cm d a m) (hs2 : SortedF cm d m b) (hcm : c < m) (hpb : m ≤ p - c) {lo : Nat} (hlo : a ≤ lo) (hp : p < b + lo) (hcp : c ≤ p) (hl : ¬ cm (d (p - c)) (d c) < 0) : ∀ k, lo ≤ k → k < c + 1 → ¬ cm (d (p - k)) (d k) < 0 :=
  fun k h1 h2 hk => hl (hc.le_lt (hs2 (p - c) (p - k) hpb (by omega) (by omega)) (hc.lt_le hk (hs1 k c (by omega) (by omega) hcm)))

theorem sym_more (hc : Cmp cm) {d : Nat → α} {a m b p c : Nat} (hs1 : SortedF cm d a m) (hs2 : SortedF cm d m b) (hac : a ≤ c) (hpc : p - c < b) {hi : Nat} (hhi : hi ≤ m) (hp : m + hi ≤ p + 1) (hl : cm (d (p - c)) (d c) < 0) : ∀ k, c ≤ k → k < hi → cm (d (p - k)) (d k) < 0 :=
  fun k h1 h2 => hc.lt_le (hc.le_lt (hs2 (p - k) (p - c) (by omega) (by omega) hpc) hl) (hs1 c k hac h1 (by omega))

/-- what the search has found: the halves, behind the change of blocks, are two sorted parts each, and the one is ahead of the other -/
theorem sym_found (hc : Cmp cm) {d : Nat → α} {a m b mid st lo hi : Nat} (ham : a < m) (hmb : m < b) (hmid : mid = (a + b) / 2)
    (hw : (mid < m ∧ lo = mid + m - b ∧ hi = mid) ∨ (m ≤ mid ∧ lo = a ∧ hi = m)) (hlo : lo ≤ st) (hhi : st ≤ hi)
    (hs1 : SortedF cm d a m) (hs2 : SortedF cm d m b) (h1 : ∀ c, lo ≤ c → c < st → ¬ cm (d (mid + m - 1 - c)) (d c) < 0) (h2 : ∀ c, st ≤ c → c < hi → cm (d (mid + m - 1 - c)) (d c) < 0) :
    a ≤ st ∧ st ≤ m ∧ m ≤ mid + m - st ∧ mid + m - st ≤ b ∧ st ≤ mid ∧ mid ≤ mid + m - st ∧
    SortedF cm (rotF d st m (mid + m - st)) a st ∧ SortedF cm (rotF d st m (mid + m - st)) st mid ∧ SortedF cm (rotF d st m (mid + m - st)) mid (mid + m - st) ∧ SortedF cm (rotF d st m (mid + m - st)) (mid + m - st) b ∧
    (∀ i j, a ≤ i → i < mid → mid ≤ j → j < b → cm (rotF d st m (mid + m - st) i) (rotF d st m (mid + m - st) j) ≤ 0) := by
  have b1 : a ≤ st := by omega
  have b2 : st ≤ m := by omega
  have b3 : m ≤ mid + m - st := by omega
  have b4 : mid + m - st ≤ b := by omega
  have b5 : st ≤ mid := by omega
  have b6 : mid ≤ mid + m - st := by omega
  obtain ⟨en, hen⟩ : ∃ en, mid + m - st = en := ⟨_, rfl⟩
  rw [hen] at b3 b4 b6 ⊢
  have e1 : ∀ k, a ≤ k → k < st → rotF d st m en k = d k := fun k _ hk => by
    unfold rotF; rw [if_neg (by omega), if_neg (by omega)]
  have e2 : ∀ k, st ≤ k → k < mid → rotF d st m en k = d (k + (m - st)) := fun k hk hk' => by
    unfold rotF; rw [if_pos (by omega)]
  have e3 : ∀ k, mid ≤ k → k < en → rotF d st m en k = d (k - (en - m)) := fun k hk hk' => by
    unfold rotF; rw [if_neg (by omega), if_pos (by omega)]
  have e4 : ∀ k, en ≤ k → k < b → rotF d st m en k = d k := fun k hk _ => by
    unfold rotF; rw [if_neg (by omega), if_neg (by omega)]
  refine ⟨b1, b2, b3, b4, b5, b6, fun i j g1 g2 g3 => ?_, fun i j g1 g2 g3 => ?_, fun i j g1 g2 g3 => ?_, fun i j g1 g2 g3 => ?_, fun i j g1 g2 g3 g4 => ?_⟩
  · rw [e1 i g1 (by omega), e1 j (by omega) g3]; exact hs1 i j g1 g2 (by omega)
  · rw [e2 i g1 (by omega), e2 j (by omega) g3]; exact hs2 _ _ (by omega) (by omega) (by omega)
  · rw [e3 i g1 (by omega), e3 j (by omega) g3]; exact hs1 _ _ (by omega) (by omega) (by omega)
  · rw [e4 i g1 (by omega), e4 j (by omega) g3]; exact hs2 i j (by omega) g2 g3
  · by_cases c1 : i < st
    · rw [e1 i g1 c1]
      by_cases c2 : j < en
      · rw [e3 j g3 c2]; exact hs1 _ _ g1 (by omega) (by omega)
      · rw [e4 j (by omega) g4]
        have hst : lo < st := by omega
        have hq := h1 (st - 1) (by omega) (by omega)
        rw [show mid + m - 1 - (st - 1) = en by omega] at hq
        exact hc.trans (hc.trans (hs1 i (st - 1) g1 (by omega) (by omega)) (hc.of_lt hq)) (hs2 en j (by omega) (by omega) g4)
    · rw [e2 i (by omega) g2]
      by_cases c2 : j < en
      · rw [e3 j g3 c2]
        have hst : st < hi := by omega
        have hq := h2 st (by omega) hst
        rw [show mid + m - 1 - st = en - 1 by omega] at hq
        have q1 := hc.le_lt (hs2 (i + (m - st)) (en - 1) (by omega) (by omega) (by omega)) hq
        have q2 := hc.lt_le q1 (hs1 st (j - (en - m)) (by omega) (by omega) (by omega))
        omega
      · rw [e4 j (by omega) g4]; exact hs2 _ _ (by omega) (by omega) g4
end

end Go.Proofs.Ytlhclblekpngnaa
