import Derived.Test.YtflomdnjabgnaaaCt
/-
  Layer 4: a unifier is found if there is one, it is the most general one, and nothing is bound where nothing need be.
-/
namespace Go.Proofs.Ytflomdnjabgnaaa
open Go.RowKit

theorem zip_fwd {f : Nd → Tm} : ∀ {l m : List Nd}, l.map f = m.map f → ∀ p ∈ l.zip m, f p.1 = f p.2
  | [], _, _, p, hp => by simp at hp
  | _ :: _, [], h, _, _ => by simp at h
  | x :: l, y :: m, h, p, hp => by
    simp only [List.map_cons, List.cons.injEq] at h
    simp only [List.zip_cons_cons, List.mem_cons] at hp
    rcases hp with rfl | hp
    · exact h.1
    · exact zip_fwd h.2 p hp

theorem zip_back {f : Nd → Tm} : ∀ {l m : List Nd}, l.length = m.length → (∀ p ∈ l.zip m, f p.1 = f p.2) → l.map f = m.map f
  | [], [], _, _ => rfl
  | [], _ :: _, h, _ => by simp at h
  | _ :: _, [], h, _ => by simp at h
  | x :: l, y :: m, h, hp => by
    simp only [List.length_cons, Nat.add_right_cancel_iff] at h
    simp only [List.map_cons]
    rw [hp (x, y) (by simp), zip_back h (fun p h1 => hp p (by simp [h1]))]

theorem bnd_fwd {θ : Int → Tm} {σ : Sb} (hs : Sat θ σ) (hE : Ends σ) (hg : goodS σ) {r : Nat} {v : Int} {y : Nd} (hy : goodN y) (hw : wk σ y = y) (hv : 0 ≤ v) (he : θ v = ev θ y) (hne : ¬ ((y.k == 1) = true ∧ y.n = v)) : bnd r σ v y ≠ .no := by
  unfold bnd
  split
  · rename_i h
    obtain ⟨z, hz, h1, h2⟩ := posA_hits h.1
    obtain ⟨t, ht, h3⟩ := vis_part hs hE hg (r + 1) (l := [y]) (fun t ht => by simp only [List.mem_singleton] at ht; subst ht; exact hy) z hz
    simp only [List.mem_singleton] at ht
    subst ht
    rcases h3 with h3 | h3
    · rw [hw] at h3; subst h3; exact absurd ⟨h1, h2⟩ hne
    · rw [← he, ev, if_pos h1, h2] at h3; omega
  · split
    · exact fun e => by cases e
    · rw [if_neg (by omega)]; exact fun e => by cases e

theorem headU_iff {θ : Int → Tm} {x y : Nd} (hx : (x.k == 1) = false) (hy : (y.k == 1) = false) (h : ev θ x = ev θ y) : headU x y = true ∧ (elems x.kids).map (ev θ) = (elems y.kids).map (ev θ) := by
  rw [ev, ev, if_neg (by rw [hx]; simp), if_neg (by rw [hy]; simp)] at h
  injection h with h1 h2 h3 h4
  rw [evs_elems, evs_elems] at h4
  have hl := congrArg List.length h4
  rw [List.length_map, List.length_map, elems_length, elems_length] at hl
  exact ⟨by simp [headU, h1, h2, h3, hl], h4⟩

theorem headU_ev {θ : Int → Tm} {x y : Nd} (hx : (x.k == 1) = false) (hy : (y.k == 1) = false) (h : headU x y = true) (hk : ∀ p ∈ (elems x.kids).zip (elems y.kids), ev θ p.1 = ev θ p.2) : ev θ x = ev θ y := by
  unfold headU at h
  simp only [Bool.and_eq_true, beq_iff_eq, decide_eq_true_eq] at h
  obtain ⟨h1, h2, h3, h4⟩ := h
  rw [ev, ev, if_neg (by rw [hx]; simp), if_neg (by rw [hy]; simp), h1, h2, h3, evs_elems, evs_elems, zip_back (by rw [elems_length, elems_length]; exact h4) hk]

theorem wk_free {σ : Sb} (hE : Ends σ) {t : Nd} (hk : ((wk σ t).k == 1) = true) : σ (wk σ t).n = none := by
  rcases (wk_spec hE t).ends with h | h
  · rw [h] at hk; cases hk
  · exact h

theorem one_fwd {θ : Int → Tm} {σ : Sb} {r c : Nat} {a b : Nd} (hs : Sat θ σ) (hE : Ends σ) (hg : goodS σ) (ha : goodN a) (hb : goodN b) (he : ev θ a = ev θ b) :
    one r c σ a b ≠ .no ∧ ∀ σ' c' r' l, one r c σ a b = .ok σ' c' r' l → Sat θ σ' ∧ goodS σ' ∧ ∀ p ∈ l, goodN p.1 ∧ goodN p.2 ∧ ev θ p.1 = ev θ p.2 := by
  have hxy : ev θ (wk σ a) = ev θ (wk σ b) := by rw [ev_wk hs hE, ev_wk hs hE]; exact he
  have gx := good_wk hg hE ha
  have gy := good_wk hg hE hb
  by_cases kx : ((wk σ a).k == 1) = true
  · have ex : θ (wk σ a).n = ev θ (wk σ b) := by rw [← hxy, ev, if_pos kx]
    by_cases hsm : ((wk σ b).k == 1) = true ∧ (wk σ a).n = (wk σ b).n
    · rw [one_same kx hsm.1 hsm.2]
      refine ⟨(fun e => by cases e), fun σ' c' r' l h => ?_⟩
      cases h
      exact ⟨hs, hg, fun p hp => by cases hp⟩
    · have hb0 := bnd_fwd hs hE hg (r := r) gy (wk_wk hE b) (gx.1 kx).1 ex (fun h => hsm ⟨h.1, h.2.symm⟩)
      rw [one_x kx hsm]
      cases e : bnd r σ (wk σ a).n (wk σ b) with
      | full => exact ⟨(fun e => by cases e), fun σ' c' r' l h => by cases h⟩
      | no => exact absurd e hb0
      | ok r2 =>
        refine ⟨(fun e => by cases e), fun σ' c' r' l h => ?_⟩
        cases h
        exact ⟨hs.put ex, goodS_put hg gy, fun p hp => by cases hp⟩
  · rw [Bool.not_eq_true] at kx
    by_cases ky : ((wk σ b).k == 1) = true
    · have ey : θ (wk σ b).n = ev θ (wk σ a) := by rw [hxy, ev, if_pos ky]
      have hb0 := bnd_fwd hs hE hg (r := r) gx (wk_wk hE a) (gy.1 ky).1 ey (fun h => by rw [kx] at h; cases h.1)
      rw [one_y kx ky]
      cases e : bnd r σ (wk σ b).n (wk σ a) with
      | full => exact ⟨(fun e => by cases e), fun σ' c' r' l h => by cases h⟩
      | no => exact absurd e hb0
      | ok r2 =>
        refine ⟨(fun e => by cases e), fun σ' c' r' l h => ?_⟩
        cases h
        exact ⟨hs.put ey, goodS_put hg gx, fun p hp => by cases hp⟩
    · rw [Bool.not_eq_true] at ky
      obtain ⟨hh, hm⟩ := headU_iff kx ky hxy
      rw [one_struct kx ky, if_pos hh]
      refine ⟨(fun e => by cases e), fun σ' c' r' l h => ?_⟩
      cases h
      refine ⟨hs, hg, fun p hp => ?_⟩
      obtain ⟨h1, h2⟩ := List.of_mem_zip (a := p.1) (b := p.2) hp
      exact ⟨goodT_elems gx.2 _ h1, goodT_elems gy.2 _ h2, zip_fwd hm p hp⟩

theorem un_fwd {θ : Int → Tm} : ∀ (r : Nat) {c : Nat} {σ : Sb} {l : List (Nd × Nd)}, Sat θ σ → Ends σ → goodS σ → (∀ p ∈ l, goodN p.1 ∧ goodN p.2 ∧ ev θ p.1 = ev θ p.2) → un r c σ l ≠ .no ∧ ∀ ρ c' r', un r c σ l = .ok ρ c' r' → Sat θ ρ := by
  intro r
  induction r using Nat.strongRecOn with
  | ind r ih =>
  intro c σ l hs hE hg hl
  cases l with
  | nil => rw [un_nil]; exact ⟨(fun e => by cases e), fun ρ c' r' h => by cases h; exact hs⟩
  | cons p l =>
    obtain ⟨a, b⟩ := p
    cases r with
    | zero => rw [un_zero]; exact ⟨(fun e => by cases e), fun ρ c' r' h => by cases h⟩
    | succ r =>
      obtain ⟨ha, hb, he⟩ := hl (a, b) (List.mem_cons_self ..)
      obtain ⟨h1, h2⟩ := one_fwd (r := r) (c := c) hs hE hg ha hb he
      cases e : one r c σ a b with
      | full => rw [un_full e]; exact ⟨(fun e => by cases e), fun ρ c' r' h => by cases h⟩
      | no => exact absurd e h1
      | ok σ1 c1 r1 m =>
        rw [un_ok e]
        obtain ⟨g1, g2, g3⟩ := h2 _ _ _ _ e
        have hr := one_le e
        refine ih r1 (by omega) g1 (one_ends hE e) g2 fun p hp => ?_
        rcases List.mem_append.1 hp with hp | hp
        · exact g3 p hp
        · exact hl p (List.mem_cons_of_mem _ hp)

theorem one_back {θ : Int → Tm} {σ σ' : Sb} {r c c' r' : Nat} {a b : Nd} {l : List (Nd × Nd)} (hE : Ends σ) (h : one r c σ a b = .ok σ' c' r' l) (hs : Sat θ σ') (hl : ∀ p ∈ l, ev θ p.1 = ev θ p.2) : Sat θ σ ∧ ev θ a = ev θ b := by
  suffices hx : Sat θ σ ∧ ev θ (wk σ a) = ev θ (wk σ b) by
    rw [ev_wk hx.1 hE, ev_wk hx.1 hE] at hx
    exact hx
  by_cases kx : ((wk σ a).k == 1) = true
  · by_cases hsm : ((wk σ b).k == 1) = true ∧ (wk σ a).n = (wk σ b).n
    · rw [one_same kx hsm.1 hsm.2] at h
      cases h
      exact ⟨hs, by rw [ev, ev, if_pos kx, if_pos hsm.1, hsm.2]⟩
    · rw [one_x kx hsm] at h
      split at h
      · cases h
      · cases h
      · cases h
        obtain ⟨h1, h2⟩ := hs.of_put (wk_free hE kx)
        exact ⟨h1, by rw [ev, if_pos kx, h2]⟩
  · rw [Bool.not_eq_true] at kx
    by_cases ky : ((wk σ b).k == 1) = true
    · rw [one_y kx ky] at h
      split at h
      · cases h
      · cases h
      · cases h
        obtain ⟨h1, h2⟩ := hs.of_put (wk_free hE ky)
        refine ⟨h1, ?_⟩
        rw [← h2]
        conv => rhs; rw [ev, if_pos ky]
    · rw [Bool.not_eq_true] at ky
      rw [one_struct kx ky] at h
      split at h
      · rename_i hh
        cases h
        exact ⟨hs, headU_ev kx ky hh hl⟩
      · cases h

theorem un_back {θ : Int → Tm} : ∀ (r : Nat) {c : Nat} {σ : Sb} {l : List (Nd × Nd)} {ρ : Sb} {c' r' : Nat}, Ends σ → un r c σ l = .ok ρ c' r' → Sat θ ρ → Sat θ σ ∧ ∀ p ∈ l, ev θ p.1 = ev θ p.2 := by
  intro r
  induction r using Nat.strongRecOn with
  | ind r ih =>
  intro c σ l ρ c' r' hE h hs
  cases l with
  | nil => rw [un_nil] at h; cases h; exact ⟨hs, fun p hp => by cases hp⟩
  | cons p l =>
    obtain ⟨a, b⟩ := p
    cases r with
    | zero => rw [un_zero] at h; cases h
    | succ r =>
      cases e : one r c σ a b with
      | full => rw [un_full e] at h; cases h
      | no => rw [un_no e] at h; cases h
      | ok σ1 c1 r1 m =>
        rw [un_ok e] at h
        have hr := one_le e
        obtain ⟨h1, h2⟩ := ih r1 (by omega) (one_ends hE e) h hs
        obtain ⟨h3, h4⟩ := one_back hE e h1 (fun p hp => h2 p (List.mem_append_left _ hp))
        refine ⟨h3, fun p hp => ?_⟩
        rcases List.mem_cons.1 hp with rfl | hp
        · exact h4
        · exact h2 p (List.mem_append_right _ hp)

theorem one_mg {θ : Int → Tm} {σ σ' : Sb} {r c c' r' : Nat} {a b : Nd} {l : List (Nd × Nd)} (hm : Mg θ σ) (hE : Ends σ) (h : one r c σ a b = .ok σ' c' r' l) : ∃ θ', Mg θ' σ' := by
  have bind : ∀ {v : Int} {t : Nd} {r2 : Nat}, σ v = none → bnd r σ v t = .ok r2 → ∃ θ', Mg θ' (σ.put v t) := fun {v t r2} hv hb => by
    obtain ⟨h1, h2, _, _⟩ := bnd_not hb
    exact ⟨_, hm.put hv (vis_has hm hE (r + 1) (by omega) (posA_no h1) t (List.mem_singleton.2 rfl))⟩
  by_cases kx : ((wk σ a).k == 1) = true
  · by_cases hsm : ((wk σ b).k == 1) = true ∧ (wk σ a).n = (wk σ b).n
    · rw [one_same kx hsm.1 hsm.2] at h
      cases h
      exact ⟨θ, hm⟩
    · rw [one_x kx hsm] at h
      split at h
      · cases h
      · cases h
      · rename_i hb
        cases h
        exact bind (wk_free hE kx) hb
  · rw [Bool.not_eq_true] at kx
    by_cases ky : ((wk σ b).k == 1) = true
    · rw [one_y kx ky] at h
      split at h
      · cases h
      · cases h
      · rename_i hb
        cases h
        exact bind (wk_free hE ky) hb
    · rw [Bool.not_eq_true] at ky
      rw [one_struct kx ky] at h
      split at h
      · cases h
        exact ⟨θ, hm⟩
      · cases h

theorem un_mg : ∀ (r : Nat) {θ : Int → Tm} {c : Nat} {σ : Sb} {l : List (Nd × Nd)} {ρ : Sb} {c' r' : Nat}, Mg θ σ → Ends σ → un r c σ l = .ok ρ c' r' → ∃ θ', Mg θ' ρ := by
  intro r
  induction r using Nat.strongRecOn with
  | ind r ih =>
  intro θ c σ l ρ c' r' hm hE h
  cases l with
  | nil => rw [un_nil] at h; cases h; exact ⟨θ, hm⟩
  | cons p l =>
    obtain ⟨a, b⟩ := p
    cases r with
    | zero => rw [un_zero] at h; cases h
    | succ r =>
      cases e : one r c σ a b with
      | full => rw [un_full e] at h; cases h
      | no => rw [un_no e] at h; cases h
      | ok σ1 c1 r1 m =>
        rw [un_ok e] at h
        have hr := one_le e
        obtain ⟨θ1, h1⟩ := one_mg hm hE e
        exact ih r1 (by omega) h1 (one_ends hE e) h

/-- what is alike already binds nothing -/
theorem un_stay {θ : Int → Tm} {σ : Sb} (hm : Mg θ σ) (hE : Ends σ) : ∀ (r c : Nat) {l : List (Nd × Nd)}, (∀ p ∈ l, ev θ p.1 = ev θ p.2) → un r c σ l = .full ∨ ∃ r', un r c σ l = .ok σ c r' := by
  intro r
  induction r using Nat.strongRecOn with
  | ind r ih =>
  intro c l hl
  cases l with
  | nil => exact .inr ⟨r, un_nil _ _ _⟩
  | cons p l =>
    obtain ⟨a, b⟩ := p
    cases r with
    | zero => exact .inl (un_zero _ _ _ _)
    | succ r =>
      have hxy : ev θ (wk σ a) = ev θ (wk σ b) := by rw [ev_wk hm.1 hE, ev_wk hm.1 hE]; exact hl (a, b) (List.mem_cons_self ..)
      have hl2 : ∀ p ∈ l, ev θ p.1 = ev θ p.2 := fun p hp => hl p (List.mem_cons_of_mem _ hp)
      by_cases kx : ((wk σ a).k == 1) = true
      · have hfx := hm.2 _ (wk_free hE kx)
        by_cases ky : ((wk σ b).k == 1) = true
        · have hfy := hm.2 _ (wk_free hE ky)
          rw [ev, ev, if_pos kx, if_pos ky, hfx, hfy] at hxy
          injection hxy with hn
          rw [un_ok (one_same kx ky hn), List.nil_append]
          exact ih r (by omega) c hl2
        · rw [ev, ev, if_pos kx, if_neg ky, hfx] at hxy
          cases hxy
      · by_cases ky : ((wk σ b).k == 1) = true
        · have hfy := hm.2 _ (wk_free hE ky)
          rw [ev, ev, if_neg kx, if_pos ky, hfy] at hxy
          cases hxy
        · rw [Bool.not_eq_true] at kx ky
          obtain ⟨hh, hmp⟩ := headU_iff kx ky hxy
          have e : one r c σ a b = .ok σ c r ((elems (wk σ a).kids).zip (elems (wk σ b).kids)) := by rw [one_struct kx ky, if_pos hh]
          rw [un_ok e]
          refine ih r (by omega) c fun p hp => ?_
          rcases List.mem_append.1 hp with hp | hp
          · exact zip_fwd hmp p hp
          · exact hl2 p hp

def tot : List (Nd × Nd) → Nat
  | [] => 0
  | p :: l => p.1.kids.size + 1 + tot l
theorem tot_app : ∀ l m : List (Nd × Nd), tot (l ++ m) = tot l + tot m
  | [], m => by simp [tot]
  | p :: l, m => by simp only [List.cons_append, tot, tot_app l m]; omega
theorem tot_elems : ∀ ts : Ts, tot ((elems ts).zip (elems ts)) = ts.size
  | .nil => rfl
  | .cons k s n p c kids rest => by simp only [elems, List.zip_cons_cons, tot, tot_elems rest, Ts.size]; omega
theorem zip_self {l : List Nd} : ∀ p ∈ l.zip l, p.1 = p.2 := by
  induction l with
  | nil => intro p hp; simp at hp
  | cons x l ih =>
    intro p hp
    simp only [List.zip_cons_cons, List.mem_cons] at hp
    rcases hp with rfl | hp
    · rfl
    · exact ih p hp
theorem headU_self (x : Nd) : headU x x = true := by simp [headU]

/-- a term with itself -/
theorem un_self : ∀ (r c : Nat) {l : List (Nd × Nd)}, (∀ p ∈ l, p.1 = p.2) → tot l ≤ r → ∃ r', un r c Sb.none l = .ok Sb.none c r' := by
  intro r
  induction r using Nat.strongRecOn with
  | ind r ih =>
  intro c l hl ht
  cases l with
  | nil => exact ⟨r, un_nil _ _ _⟩
  | cons p l =>
    obtain ⟨a, b⟩ := p
    have hab : a = b := hl (a, b) (List.mem_cons_self ..)
    subst hab
    simp only [tot] at ht
    cases r with
    | zero => omega
    | succ r =>
      have hw : wk Sb.none a = a := wk_stop (.inr rfl)
      have hl2 : ∀ p ∈ l, p.1 = p.2 := fun p hp => hl p (List.mem_cons_of_mem _ hp)
      by_cases kx : (a.k == 1) = true
      · rw [un_ok (one_same (by rw [hw]; exact kx) (by rw [hw]; exact kx) rfl), List.nil_append]
        exact ih r (by omega) c hl2 (by omega)
      · rw [Bool.not_eq_true] at kx
        have e : one r c Sb.none a a = .ok Sb.none c r ((elems a.kids).zip (elems a.kids)) := by rw [one_struct (by rw [hw]; exact kx) (by rw [hw]; exact kx), hw, if_pos (headU_self a)]
        rw [un_ok e]
        refine ih r (by omega) c (fun p hp => ?_) (by rw [tot_app, tot_elems]; omega)
        rcases List.mem_append.1 hp with hp | hp
        · exact zip_self p hp
        · exact hl2 p hp

theorem Mg.none : Mg Tm.var Sb.none := ⟨(fun v x hx => by cases hx), fun v _ => rfl⟩
theorem goodS.none : goodS Sb.none := fun v x hx => by cases hx

/-- the other way round -/
theorem un_turned {r r2 c c2 : Nat} {a b : Nd} (ha : goodN a) (hb : goodN b) {ρ : Sb} {c' r' : Nat} (h : un r c Sb.none [(a, b)] = .ok ρ c' r') : un r2 c2 Sb.none [(b, a)] ≠ .no := by
  obtain ⟨θ, hm⟩ := un_mg r Mg.none Ends.none h
  obtain ⟨h1, h2⟩ := un_back r Ends.none h hm.1
  refine (un_fwd r2 h1 Ends.none goodS.none fun p hp => ?_).1
  simp only [List.mem_singleton] at hp
  subst hp
  exact ⟨hb, ha, (h2 (a, b) (List.mem_singleton.2 rfl)).symm⟩

theorem un_endsOk : ∀ (r : Nat) {c : Nat} {σ : Sb} {l : List (Nd × Nd)} {ρ : Sb} {c' r' : Nat}, Ends σ → un r c σ l = .ok ρ c' r' → Ends ρ := by
  intro r
  induction r using Nat.strongRecOn with
  | ind r ih =>
  intro c σ l ρ c' r' hE h
  cases l with
  | nil => rw [un_nil] at h; cases h; exact hE
  | cons p l =>
    obtain ⟨a, b⟩ := p
    cases r with
    | zero => rw [un_zero] at h; cases h
    | succ r =>
      cases e : one r c σ a b with
      | full => rw [un_full e] at h; cases h
      | no => rw [un_no e] at h; cases h
      | ok σ1 c1 r1 m =>
        rw [un_ok e] at h
        have hr := one_le e
        exact ih r1 (by omega) (one_ends hE e) h

theorem STw.symm {σ ρ : Sb} (h : STw σ ρ) : STw ρ σ := by
  refine ⟨fun u hu => ?_, fun u y hy => ?_⟩
  · cases e : σ u with
    | none => rfl
    | some x => obtain ⟨t, h1, _⟩ := h.yes u x e; rw [hu] at h1; cases h1
  · cases e : σ u with
    | none => rw [h.no u e] at hy; cases hy
    | some x =>
      obtain ⟨t, h1, h2⟩ := h.yes u x e
      rw [hy] at h1
      cases h1
      exact ⟨x, rfl, Nd.twin_symm h2⟩

theorem Mg.tw {θ : Int → Tm} {σ ρ : Sb} (hm : Mg θ ρ) (h : STw σ ρ) : Mg θ σ := by
  refine ⟨fun v x hx => ?_, fun v hv => hm.2 v (h.no v hv)⟩
  obtain ⟨t, h1, h2⟩ := h.yes v x hx
  rw [hm.1 v t h1, ev_twin θ h2]

/-- unified once more -/
theorem un_again {r r2 c c2 : Nat} {a b : Nd} {ρ σp : Sb} {c' r' : Nat} (h : un r c Sb.none [(a, b)] = .ok ρ c' r') (ht : STw σp ρ) : un r2 c2 σp [(a, b)] = .full ∨ ∃ r3, un r2 c2 σp [(a, b)] = .ok σp c2 r3 := by
  obtain ⟨θ, hm⟩ := un_mg r Mg.none Ends.none h
  obtain ⟨_, h2⟩ := un_back r Ends.none h hm.1
  exact un_stay (hm.tw ht) (ht.symm.ends (un_endsOk r Ends.none h)) r2 c2 h2

end Go.Proofs.Ytflomdnjabgnaaa
/-
  Layer 4: what is applied, as plain terms.
-/
namespace Go.Proofs.Ytflomdnjabgnaaa
open Go.RowKit

/-- what is applied becomes what the terms become -/
theorem App_ev {θ : Int → Tm} {σ : Sb} (hs : Sat θ σ) (hE : Ends σ) {l : List Nd} {us : Ts} (h : App σ l us) : evs θ us = l.map (ev θ) := by
  induction h with
  | nil => rfl
  | @cons t rest p c ks rs h1 h2 ih1 ih2 =>
    simp only [evs, List.map_cons, ih1, ih2]
    congr 1
    rw [← ev_wk hs hE t, ev, evs_elems]

/-- how many are visited -/
theorem vis_len {θ : Int → Tm} {σ : Sb} (hm : Mg θ σ) (hE : Ends σ) (hg : goodS σ) : ∀ (f : Nat) {l : List Nd}, (∀ t ∈ l, goodN t) → (vis σ f l).length = min f (szs (l.map (ev θ)))
  | 0, l, _ => by simp [vis]
  | f + 1, [], _ => by simp [vis, szs]
  | f + 1, t :: rest, hl => by
    have hgt := good_wk hg hE (hl t (List.mem_cons_self ..))
    have ih := vis_len hm hE hg f (l := elems (wk σ t).kids ++ rest) (fun x hx => by
      rcases List.mem_append.1 hx with hx | hx
      · exact goodT_elems hgt.2 x hx
      · exact hl x (List.mem_cons_of_mem _ hx))
    have app : ∀ a b : List Tm, szs (a ++ b) = szs a + szs b := by
      intro a b
      induction a with
      | nil => simp [szs]
      | cons x a ih => simp only [List.cons_append, szs, ih]; omega
    have hz : (ev θ t).sz = szs ((elems (wk σ t).kids).map (ev θ)) + 1 := by
      rw [← ev_wk hm.1 hE]
      by_cases hk : ((wk σ t).k == 1) = true
      · rw [ev, if_pos hk, hm.2 _ (wk_free hE hk), (hgt.1 hk).2]
        simp [Tm.sz, elems, szs]
      · rw [ev, if_neg hk, Tm.sz, evs_elems]
    simp only [vis, List.length_cons, List.map_cons, szs]
    rw [ih, List.map_append, app, hz]
    omega

/-- terms whose variables have no name -/
def nameT : Ts → Prop
  | .nil => True
  | .cons k s _ _ _ kids rest => ((k == 1) = true → s = ⟨#[]⟩ ∧ kids = .nil) ∧ nameT kids ∧ nameT rest

theorem toList_inj {a b : ByteArray} (h : a.toList = b.toList) : a = b := by
  rw [ByteArray.toList_eq, ByteArray.toList_eq] at h
  cases a
  cases b
  simp only [Array.toList_inj] at h
  rw [h]

/-- under plain variables a term can be told from another -/
theorem evs_inj : ∀ {us vs : Ts}, nameT us → nameT vs → evs Tm.var us = evs Tm.var vs → Ts.twin us vs
  | .nil, .nil, _, _, _ => trivial
  | .nil, .cons .., _, _, h => by simp [evs] at h
  | .cons .., .nil, _, _, h => by simp [evs] at h
  | .cons k s n p c kids rest, .cons k' s' n' p' c' kids' rest', h1, h2, h => by
    simp only [evs, List.cons.injEq] at h
    obtain ⟨h3, h4⟩ := h
    have hr := evs_inj h1.2.2 h2.2.2 h4
    by_cases e1 : (k == 1) = true
    · by_cases e2 : (k' == 1) = true
      · rw [if_pos e1, if_pos e2] at h3
        injection h3 with h3
        obtain ⟨g1, g2⟩ := h1.1 e1
        obtain ⟨g3, g4⟩ := h2.1 e2
        subst g1 g2 g3 g4 h3
        simp only [beq_iff_eq] at e1 e2
        exact ⟨e1.trans e2.symm, rfl, rfl, trivial, hr⟩
      · rw [if_pos e1, if_neg e2] at h3
        cases h3
    · by_cases e2 : (k' == 1) = true
      · rw [if_neg e1, if_pos e2] at h3
        cases h3
      · rw [if_neg e1, if_neg e2] at h3
        injection h3 with a1 a2 a3 a4
        exact ⟨a1, toList_inj a2, a3, evs_inj h1.2.1 h2.2.1 a4, hr⟩

/-- what is applied whole: its variables are not bound -/
theorem evs_fix {θ : Int → Tm} {σ : Sb} (hm : Mg θ σ) : ∀ {us : Ts}, FixT σ us → evs θ us = evs Tm.var us
  | .nil, _ => rfl
  | .cons k s n p c kids rest, h => by
    simp only [evs, evs_fix hm h.2.1, evs_fix hm h.2.2]
    congr 1
    by_cases e : (k == 1) = true
    · rw [if_pos e, if_pos e]
      rcases h.1 with h1 | h1
      · rw [h1] at e; cases e
      · exact hm.2 n h1
    · rw [if_neg e, if_neg e]

end Go.Proofs.Ytflomdnjabgnaaa
