/-
  Layer 2: plain facts of the order: it turns round, it goes on, it is zero just where two are alike, and it looks at no memory.
-/
import Derived.Test.YtlhclblekpngnaaXb
import Derived.Test.YtlhclblekpngnaaTr
namespace Go.Proofs.Ytlhclblekpngnaa
open Go.RowKit

theorem ci_neg (x y : Int) : ci y x = -(ci x y) := by
  unfold ci
  split <;> split <;> first | omega | (split <;> omega)

theorem ci_self (x : Int) : ci x x = 0 := by
  unfold ci
  rw [if_neg (by omega), if_neg (by omega)]

theorem ci_range (x y : Int) : -1 ≤ ci x y ∧ ci x y ≤ 1 := by
  unfold ci
  split
  · omega
  · split <;> omega

theorem cB_cons (a b : UInt8) (l m : List UInt8) : Lib.compareBytes (a :: l) (b :: m) = or0 (ci a.toNat b.toNat) (Lib.compareBytes l m) := by
  simp only [Lib.compareBytes]
  have h1 : (a < b) ↔ (a.toNat < b.toNat) := UInt8.lt_iff_toNat_lt
  have h2 : (b < a) ↔ (b.toNat < a.toNat) := UInt8.lt_iff_toNat_lt
  unfold or0 ci
  by_cases ha : a.toNat < b.toNat
  · rw [if_pos (h1.2 ha), if_pos (show ((a.toNat : Nat) : Int) < (b.toNat : Nat) by omega), if_neg (by omega)]
  · rw [if_neg (fun h => ha (h1.1 h)), if_neg (show ¬ ((a.toNat : Nat) : Int) < (b.toNat : Nat) by omega)]
    by_cases hb : b.toNat < a.toNat
    · rw [if_pos (h2.2 hb), if_pos (show ((b.toNat : Nat) : Int) < (a.toNat : Nat) by omega), if_neg (by omega)]
    · rw [if_neg (fun h => hb (h2.1 h)), if_neg (show ¬ ((b.toNat : Nat) : Int) < (a.toNat : Nat) by omega), if_pos rfl]

theorem or0_neg {a b a' b' : Int} (h : a' = -a) (h' : b' = -b) : or0 a' b' = -(or0 a b) := by
  unfold or0
  split <;> split <;> omega

theorem cB_neg : ∀ (l m : List UInt8), Lib.compareBytes m l = -(Lib.compareBytes l m)
  | [], [] => rfl
  | [], _ :: _ => rfl
  | _ :: _, [] => rfl
  | a :: l, b :: m => by rw [cB_cons, cB_cons]; exact or0_neg (ci_neg _ _) (cB_neg l m)

theorem cB_range : ∀ (l m : List UInt8), -1 ≤ Lib.compareBytes l m ∧ Lib.compareBytes l m ≤ 1
  | [], [] => by decide
  | [], _ :: _ => by simp [Lib.compareBytes]
  | _ :: _, [] => by simp [Lib.compareBytes]
  | a :: l, b :: m => by
    rw [cB_cons]
    have h1 := ci_range a.toNat b.toNat
    have h2 := cB_range l m
    unfold or0
    split <;> omega

theorem cB_zero : ∀ (l m : List UInt8), Lib.compareBytes l m = 0 ↔ l = m
  | [], [] => by simp [Lib.compareBytes]
  | [], _ :: _ => by simp [Lib.compareBytes]
  | _ :: _, [] => by simp [Lib.compareBytes]
  | a :: l, b :: m => by
    rw [cB_cons, List.cons.injEq, ← cB_zero l m]
    unfold or0
    constructor
    · intro h
      split at h
      · rename_i h0
        have := ci_zero h0
        exact ⟨UInt8.toNat_inj.1 this, h⟩
      · omega
    · rintro ⟨rfl, h⟩
      rw [ci_self, if_pos rfl]
      exact h

theorem cb_zero (s t : ByteArray) : cb s t = 0 ↔ (s.toList == t.toList) = true := by
  unfold cb
  rw [cB_zero, beq_iff_eq, ByteArray.toList_eq, ByteArray.toList_eq]

theorem cb_self (s : ByteArray) : cb s s = 0 := (cB_zero _ _).2 rfl

theorem ci_zero_iff (x y : Int) : ci x y = 0 ↔ (x == y) = true := by
  rw [beq_iff_eq]
  unfold ci
  constructor
  · intro h
    split at h
    · omega
    · split at h <;> omega
  · rintro rfl
    rw [if_neg (by omega), if_neg (by omega)]

theorem or0_zero (a b : Int) : or0 a b = 0 ↔ a = 0 ∧ b = 0 := by
  unfold or0
  split <;> omega

theorem or0_range {a b : Int} (h : -1 ≤ a ∧ a ≤ 1) (h' : -1 ≤ b ∧ b ≤ 1) : -1 ≤ or0 a b ∧ or0 a b ≤ 1 := by
  unfold or0
  split <;> omega

theorem cmpT_neg {k k' : Int} {s s' : ByteArray} {n n' : Int} {ts us : Ts} {r r' : Int} (h : r' = -r) : cmpT k' k s' s n' n us ts r' = -(cmpT k k' s s' n n' ts us r) :=
  or0_neg (ci_neg _ _) (or0_neg (ci_neg _ _) (or0_neg (ci_neg _ _) (or0_neg (cB_neg _ _) h)))

theorem cmpL_neg : ∀ (ts us : Ts), cmpL us ts = -(cmpL ts us)
  | .nil, .nil => rfl
  | .nil, .cons .. => rfl
  | .cons .., .nil => rfl
  | .cons k s n p c ks r, .cons k' s' n' p' c' ks' r' => by
    simp only [cmpL]
    exact or0_neg (cmpT_neg (cmpL_neg ks ks')) (cmpL_neg r r')

theorem cmpT_range {k k' : Int} {s s' : ByteArray} {n n' : Int} {ts us : Ts} {r : Int} (h : -1 ≤ r ∧ r ≤ 1) : -1 ≤ cmpT k k' s s' n n' ts us r ∧ cmpT k k' s s' n n' ts us r ≤ 1 :=
  or0_range (ci_range _ _) (or0_range (ci_range _ _) (or0_range (ci_range _ _) (or0_range (cB_range _ _) h)))

theorem cmpL_range : ∀ (ts us : Ts), -1 ≤ cmpL ts us ∧ cmpL ts us ≤ 1
  | .nil, .nil => by decide
  | .nil, .cons .. => by simp [cmpL]
  | .cons .., .nil => by simp [cmpL]
  | .cons k s n p c ks r, .cons k' s' n' p' c' ks' r' => by
    simp only [cmpL]
    exact or0_range (cmpT_range (cmpL_range ks ks')) (cmpL_range r r')

/-- zero, just where two are alike -/
theorem cmpL_zero : ∀ (ts us : Ts), ts.len = us.len → (cmpL ts us = 0 ↔ alike ts us = true)
  | .nil, .nil, _ => by simp [cmpL, alike]
  | .nil, .cons .., h => by simp [Ts.len] at h
  | .cons .., .nil, h => by simp [Ts.len] at h
  | .cons k s n p c ks r, .cons k' s' n' p' c' ks' r', h => by
    have hr : r.len = r'.len := by simp only [Ts.len] at h; omega
    simp only [cmpL, cmpT, alike, or0_zero, ci_zero_iff, cb_zero, Bool.and_eq_true, cmpL_zero r r' hr]
    constructor
    · rintro ⟨⟨h1, h2, h3, h4, h5⟩, h6⟩
      have hl : ks.len = ks'.len := by rw [beq_iff_eq] at h3; omega
      exact ⟨h1, h4, h2, (cmpL_zero ks ks' hl).1 h5, h6⟩
    · rintro ⟨h1, h4, h2, h5, h6⟩
      have hl := alike_len _ _ h5
      exact ⟨⟨h1, h2, by rw [hl]; simp, h4, (cmpL_zero ks ks' hl).2 h5⟩, h6⟩

theorem cmpT_zero (k k' : Int) (s s' : ByteArray) (n n' : Int) (ts us : Ts) : cmpT k k' s s' n n' ts us (cmpL ts us) = 0 ↔ (headAlike k k' s s' n n' && alike ts us) = true := by
  simp only [cmpT, headAlike, or0_zero, ci_zero_iff, cb_zero, Bool.and_eq_true]
  constructor
  · rintro ⟨h1, h2, h3, h4, h5⟩
    have hl : ts.len = us.len := by rw [beq_iff_eq] at h3; omega
    exact ⟨⟨h1, h4, h2⟩, (cmpL_zero _ _ hl).1 h5⟩
  · rintro ⟨⟨h1, h4, h2⟩, h5⟩
    have hl := alike_len _ _ h5
    exact ⟨h1, h2, by rw [hl]; simp, h4, (cmpL_zero _ _ hl).2 h5⟩

/-- of three, two and two, and the outer two -/
def Tri (x y z : Int) : Prop := (x ≤ 0 → y ≤ 0 → z ≤ 0 ∧ (z = 0 → x = 0 ∧ y = 0)) ∧ (0 ≤ x → 0 ≤ y → 0 ≤ z ∧ (z = 0 → x = 0 ∧ y = 0))

theorem or0_tri {x y z x' y' z' : Int} (h : Tri x y z) (h' : x = 0 → y = 0 → z = 0 → Tri x' y' z') : Tri (or0 x x') (or0 y y') (or0 z z') := by
  unfold Tri at *
  unfold or0
  obtain ⟨h1, h2⟩ := h
  by_cases hx : x = 0 <;> by_cases hy : y = 0 <;> by_cases hz : z = 0
  · obtain ⟨g1, g2⟩ := h' hx hy hz
    rw [if_pos hx, if_pos hy, if_pos hz]
    exact ⟨g1, g2⟩
  all_goals
    simp only [hx, hy, hz, if_true, if_false]
    constructor
    · intro ha hb; constructor <;> first | trivial | omega | (intro h; first | exact h.elim | omega)
    · intro ha hb; constructor <;> first | trivial | omega | (intro h; first | exact h.elim | omega)

theorem ci_tri (x y z : Int) : Tri (ci x y) (ci y z) (ci x z) := by
  unfold Tri ci
  by_cases h1 : x < y <;> by_cases h2 : y < x <;> by_cases h3 : y < z <;> by_cases h4 : z < y <;> by_cases h5 : x < z <;> by_cases h6 : z < x <;> simp [h1, h2, h3, h4, h5, h6] <;> omega

theorem cB_tri : ∀ (l m n : List UInt8), Tri (Lib.compareBytes l m) (Lib.compareBytes m n) (Lib.compareBytes l n)
  | [], [], [] => by simp [Tri, Lib.compareBytes]
  | [], [], _ :: _ => by simp [Tri, Lib.compareBytes]
  | [], _ :: _, [] => by simp [Tri, Lib.compareBytes]
  | _ :: _, [], [] => by simp [Tri, Lib.compareBytes]
  | _ :: _, [], _ :: _ => by simp [Tri, Lib.compareBytes]
  | a :: l, b :: m, [] => by
    have := cB_range (a :: l) (b :: m)
    simp only [Tri, Lib.compareBytes] at *
    omega
  | [], b :: m, c :: n => by
    have := cB_range (b :: m) (c :: n)
    simp only [Tri, Lib.compareBytes] at *
    omega
  | a :: l, b :: m, c :: n => by
    rw [cB_cons, cB_cons, cB_cons]
    exact or0_tri (ci_tri _ _ _) fun _ _ _ => cB_tri l m n

theorem cmpT_tri {k k' k'' : Int} {s s' s'' : ByteArray} {n n' n'' : Int} {ts us vs : Ts} {r r' r'' : Int} (h : ts.len = us.len → us.len = vs.len → Tri r r' r'') :
    Tri (cmpT k k' s s' n n' ts us r) (cmpT k' k'' s' s'' n' n'' us vs r') (cmpT k k'' s s'' n n'' ts vs r'') :=
  or0_tri (ci_tri _ _ _) fun _ _ _ => or0_tri (ci_tri _ _ _) fun _ _ _ => or0_tri (ci_tri _ _ _) fun h1 h2 _ => or0_tri (cB_tri _ _ _) fun _ _ _ => h (ci_zero h1) (ci_zero h2)

theorem cmpL_tri : ∀ (ts us vs : Ts), ts.len = us.len → us.len = vs.len → Tri (cmpL ts us) (cmpL us vs) (cmpL ts vs)
  | .nil, .nil, .nil, _, _ => by simp [Tri, cmpL]
  | .nil, .nil, .cons .., _, h => by simp [Ts.len] at h
  | .nil, .cons .., _, h, _ => by simp [Ts.len] at h
  | .cons .., .nil, _, h, _ => by simp [Ts.len] at h
  | .cons .., .cons .., .nil, _, h => by simp [Ts.len] at h
  | .cons k s n p c ks r, .cons k' s' n' p' c' ks' r', .cons k'' s'' n'' p'' c'' ks'' r'', h, h' => by
    simp only [cmpL]
    exact or0_tri (cmpT_tri fun h1 h2 => cmpL_tri ks ks' ks'' h1 h2) fun _ _ _ => cmpL_tri r r' r'' (by simp only [Ts.len] at h; omega) (by simp only [Ts.len] at h'; omega)

theorem cmpL_twin : ∀ {t u t' u' : Ts}, Ts.twin t t' → Ts.twin u u' → cmpL t u = cmpL t' u'
  | .nil, _, .nil, _, _, _ => by simp [cmpL]
  | .cons .., .nil, .cons .., .nil, _, _ => by simp [cmpL]
  | .cons .., .cons .., .cons .., .cons .., ⟨rfl, rfl, rfl, h1, h2⟩, ⟨rfl, rfl, rfl, h3, h4⟩ => by
    simp only [cmpL, cmpT]
    rw [cmpL_twin h1 h3, cmpL_twin h2 h4, Ts.twin_len _ _ h1, Ts.twin_len _ _ h3]
  | .nil, _, .cons .., _, h, _ => h.elim
  | .cons .., _, .nil, _, h, _ => h.elim
  | .cons .., .nil, .cons .., .cons .., _, h => h.elim
  | .cons .., .cons .., .cons .., .nil, _, h => h.elim

theorem cmpT_twin {k k' : Int} {s s' : ByteArray} {n n' : Int} {t u t' u' : Ts} (h : Ts.twin t t') (h' : Ts.twin u u') : cmpT k k' s s' n n' t u (cmpL t u) = cmpT k k' s s' n n' t' u' (cmpL t' u') := by
  unfold cmpT
  rw [cmpL_twin h h', Ts.twin_len _ _ h, Ts.twin_len _ _ h']

theorem cmpL_refl (ts : Ts) : cmpL ts ts = 0 := (cmpL_zero ts ts rfl).2 (alike_refl ts)

theorem cmpT_refl (k : Int) (s : ByteArray) (n : Int) (ts : Ts) : cmpT k k s s n n ts ts (cmpL ts ts) = 0 := by
  rw [cmpT_zero, alike_refl]
  simp [headAlike]

end Go.Proofs.Ytlhclblekpngnaa
