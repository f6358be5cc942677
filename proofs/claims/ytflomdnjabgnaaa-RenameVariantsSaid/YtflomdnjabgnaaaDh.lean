import Derived.Test.YtflomdnjabgnaaaCt
import Derived.Test.YtflomdnjabgnaaaTv0
/-
  Layer 4: a unifier is found if there is one, it is the most general one, and nothing is bound where nothing need be.
-/
namespace Go.Proofs.Ytflomdnjabgnaaa
open Go.RowKit

theorem zip_fwd {f : Nd → Tm} : ∀ {l m : List Nd}, l.map f = m.map f → ∀ p ∈ l.zip m, f p.1 = f p.2
  | [], _, _, p, hp => by simp at hp
  | _ :: _, [], h, _, _ => by simp at h
  | x :: l, y :: m, h, p, hp => by
    simp only [List.map_cons, List.cons.injEq] at h
    simp only [List.zip_cons_cons, List.mem_cons] at hp
    rcases hp with rfl | hp
    · exact h.1
    · exact zip_fwd h.2 p hp

theorem zip_back {f : Nd → Tm} : ∀ {l m : List Nd}, l.length = m.length → (∀ p ∈ l.zip m, f p.1 = f p.2) → l.map f = m.map f
  | [], [], _, _ => rfl
  | [], _ :: _, h, _ => by simp at h
  | _ :: _, [], h, _ => by simp at h
  | x :: l, y :: m, h, hp => by
    simp only [List.length_cons, Nat.add_right_cancel_iff] at h
    simp only [List.map_cons]
    rw [hp (x, y) (by simp), zip_back h (fun p h1 => hp p (by simp [h1]))]

theorem bnd_fwd {θ : Int → Tm} {σ : Sb} (hs : Sat θ σ) (hE : Ends σ) (hg : goodS σ) {r : Nat} {v : Int} {y : Nd} (hy : goodN y) (hw : wk σ y = y) (hv : 0 ≤ v) (he : θ v = ev θ y) (hne : ¬ ((y.k == 1) = true ∧ y.n = v)) : bnd r σ v y ≠ .no := by
  unfold bnd
  split
  · rename_i h
    obtain ⟨z, hz, h1, h2⟩ := posA_hits h.1
    obtain ⟨t, ht, h3⟩ := vis_part hs hE hg (r + 1) (l := [y]) (fun t ht => by simp only [List.mem_singleton] at ht; subst ht; exact hy) z hz
    simp only [List.mem_singleton] at ht
    subst ht
    rcases h3 with h3 | h3
    · rw [hw] at h3; subst h3; exact absurd ⟨h1, h2⟩ hne
    · rw [← he, ev, if_pos h1, h2] at h3; omega
  · split
    · exact fun e => by cases e
    · rw [if_neg (by omega)]; exact fun e => by cases e

theorem headU_iff {θ : Int → Tm} {x y : Nd} (hx : (x.k == 1) = false) (hy : (y.k == 1) = false) (h : ev θ x = ev θ y) : headU x y = true ∧ (elems x.kids).map (ev θ) = (elems y.kids).map (ev θ) := by
  rw [ev, ev, if_neg (by rw [hx]; simp), if_neg (by rw [hy]; simp)] at h
  injection h with h1 h2 h3 h4
  rw [evs_elems, evs_elems] at h4
  have hl := congrArg List.length h4
  rw [List.length_map, List.length_map, elems_length, elems_length] at hl
  exact ⟨by simp [headU, h1, h2, h3, hl], h4⟩

theorem headU_ev {θ : Int → Tm} {x y : Nd} (hx : (x.k == 1) = false) (hy : (y.k == 1) = false) (h : headU x y = true) (hk : ∀ p ∈ (elems x.kids).zip (elems y.kids), ev θ p.1 = ev θ p.2) : ev θ x = ev θ y := by
  unfold headU at h
  simp only [Bool.and_eq_true, beq_iff_eq, decide_eq_true_eq] at h
  obtain ⟨h1, h2, h3, h4⟩ := h
  rw [ev, ev, if_neg (by rw [hx]; simp), if_neg (by rw [hy]; simp), h1, h2, h3, evs_elems, evs_elems, zip_back (by rw [elems_length, elems_length]; exact h4) hk]

theorem wk_free {σ : Sb} (hE : Ends σ) {t : Nd} (hk : ((wk σ t).k == 1) = true) : σ (wk σ t).n = none := by
  rcases (wk_spec hE t).ends with h | h
  · rw [h] at hk; cases hk
  · exact h

theorem one_fwd {θ : Int → Tm} {σ : Sb} {r c : Nat} {a b : Nd} (hs : Sat θ σ) (hE : Ends σ) (hg : goodS σ) (ha : goodN a) (hb : goodN b) (he : ev θ a = ev θ b) :
    one r c σ a b ≠ .no ∧ ∀ σ' c' r' l, one r c σ a b = .ok σ' c' r' l → Sat θ σ' ∧ goodS σ' ∧ ∀ p ∈ l, goodN p.1 ∧ goodN p.2 ∧ ev θ p.1 = ev θ p.2 := by
  have hxy : ev θ (wk σ a) = ev θ (wk σ b) := by rw [ev_wk hs hE, ev_wk hs hE]; exact he
  have gx := good_wk hg hE ha
  have gy := good_wk hg hE hb
  by_cases kx : ((wk σ a).k == 1) = true
  · have ex : θ (wk σ a).n = ev θ (wk σ b) := by rw [← hxy, ev, if_pos kx]
    by_cases hsm : ((wk σ b).k == 1) = true ∧ (wk σ a).n = (wk σ b).n
    · rw [one_same kx hsm.1 hsm.2]
      refine ⟨(fun e => by cases e), fun σ' c' r' l h => ?_⟩
      cases h
      exact ⟨hs, hg, fun p hp => by cases hp⟩
    · have hb0 := bnd_fwd hs hE hg (r := r) gy (wk_wk hE b) (gx.1 kx).1 ex (fun h => hsm ⟨h.1, h.2.symm⟩)
      rw [one_x kx hsm]
      cases e : bnd r σ (wk σ a).n (wk σ b) with
      | full => exact ⟨(fun e => by cases e), fun σ' c' r' l h => by cases h⟩
      | no => exact absurd e hb0
      | ok r2 =>
        refine ⟨(fun e => by cases e), fun σ' c' r' l h => ?_⟩
        cases h
        exact ⟨hs.put ex, goodS_put hg gy, fun p hp => by cases hp⟩
  · rw [Bool.not_eq_true] at kx
    by_cases ky : ((wk σ b).k == 1) = true
    · have ey : θ (wk σ b).n = ev θ (wk σ a) := by rw [hxy, ev, if_pos ky]
      have hb0 := bnd_fwd hs hE hg (r := r) gx (wk_wk hE a) (gy.1 ky).1 ey (fun h => by rw [kx] at h; cases h.1)
      rw [one_y kx ky]
      cases e : bnd r σ (wk σ b).n (wk σ a) with
      | full => exact ⟨(fun e => by cases e), fun σ' c' r' l h => by cases h⟩
      | no => exact absurd e hb0
      | ok r2 =>
        refine ⟨(fun e => by cases e), fun σ' c' r' l h => ?_⟩
        cases h
        exact ⟨hs.put ey, goodS_put hg gx, fun p hp => by cases hp⟩
    · rw [Bool.not_eq_true] at ky
      obtain ⟨hh, hm⟩ := headU_iff kx ky hxy
      rw [one_struct kx ky, if_pos hh]
      refine ⟨(fun e => by cases e), fun σ' c' r' l h => ?_⟩
      cases h
      refine ⟨hs, hg, fun p hp => ?_⟩
      obtain ⟨h1, h2⟩ := List.of_mem_zip (a := p.1) (b := p.2) hp
      exact ⟨goodT_elems gx.2 _ h1, goodT_elems gy.2 _ h2, zip_fwd hm p hp⟩

theorem un_fwd {θ : Int → Tm} : ∀ (r : Nat) {c : Nat} {σ : Sb} {l : List (Nd × Nd)}, Sat θ σ → Ends σ → goodS σ → (∀ p ∈ l, goodN p.1 ∧ goodN p.2 ∧ ev θ p.1 = ev θ p.2) → un r c σ l ≠ .no ∧ ∀ ρ c' r', un r c σ l = .ok ρ c' r' → Sat θ ρ := by
  intro r
  induction r using Nat.strongRecOn with
  | ind r ih =>
  intro c σ l hs hE hg hl
  cases l with
  | nil => rw [un_nil]; exact ⟨(fun e => by cases e), fun ρ c' r' h => by cases h; exact hs⟩
  | cons p l =>
    obtain ⟨a, b⟩ := p
    cases r with
    | zero => rw [un_zero]; exact ⟨(fun e => by cases e), fun ρ c' r' h => by cases h⟩
    | succ r =>
      obtain ⟨ha, hb, he⟩ := hl (a, b) (List.mem_cons_self ..)
      obtain ⟨h1, h2⟩ := one_fwd (r := r) (c := c) hs hE hg ha hb he
      cases e : one r c σ a b with
      | full => rw [un_full e]; exact ⟨(fun e => by cases e), fun ρ c' r' h => by cases h⟩
      | no => exact absurd e h1
      | ok σ1 c1 r1 m =>
        rw [un_ok e]
        obtain ⟨g1, g2, g3⟩ := h2 _ _ _ _ e
        have hr := one_le e
        refine ih r1 (by omega) g1 (one_ends hE e) g2 fun p hp => ?_
        rcases List.mem_append.1 hp with hp | hp
        · exact g3 p hp
        · exact hl p (List.mem_cons_of_mem _ hp)

theorem one_back {θ : Int → Tm} {σ σ' : Sb} {r c c' r' : Nat} {a b : Nd} {l : List (Nd × Nd)} (hE : Ends σ) (h : one r c σ a b = .ok σ' c' r' l) (hs : Sat θ σ') (hl : ∀ p ∈ l, ev θ p.1 = ev θ p.2) : Sat θ σ ∧ ev θ a = ev θ b := by
  suffices hx : Sat θ σ ∧ ev θ (wk σ a) = ev θ (wk σ b) by
    rw [ev_wk hx.1 hE, ev_wk hx.1 hE] at hx
    exact hx
  by_cases kx : ((wk σ a).k == 1) = true
  · by_cases hsm : ((wk σ b).k == 1) = true ∧ (wk σ a).n = (wk σ b).n
    · rw [one_same kx hsm.1 hsm.2] at h
      cases h
      exact ⟨hs, by rw [ev, ev, if_pos kx, if_pos hsm.1, hsm.2]⟩
    · rw [one_x kx hsm] at h
      split at h
      · cases h
      · cases h
      · cases h
        obtain ⟨h1, h2⟩ := hs.of_put (wk_free hE kx)
        exact ⟨h1, by rw [ev, if_pos kx, h2]⟩
  · rw [Bool.not_eq_true] at kx
    by_cases ky : ((wk σ b).k == 1) = true
    · rw [one_y kx ky] at h
      split at h
      · cases h
      · cases h
      · cases h
        obtain ⟨h1, h2⟩ := hs.of_put (wk_free hE ky)
        refine ⟨h1, ?_⟩
        rw [← h2]
        conv => rhs; rw [ev, if_pos ky]
    · rw [Bool.not_eq_true] at ky
      rw [one_struct kx ky] at h
      split at h
      · rename_i hh
        cases h
        exact ⟨hs, headU_ev kx ky hh hl⟩
      · cases h

theorem un_back {θ : Int → Tm} : ∀ (r : Nat) {c : Nat} {σ : Sb} {l : List (Nd × Nd)} {ρ : Sb} {c' r' : Nat}, Ends σ → un r c σ l = .ok ρ c' r' → Sat θ ρ → Sat θ σ ∧ ∀ p ∈ l, ev θ p.1 = ev θ p.2 := by
  intro r
  induction r using Nat.strongRecOn with
  | ind r ih =>
  intro c σ l ρ c' r' hE h hs
  cases l with
  | nil => rw [un_nil] at h; cases h; exact ⟨hs, fun p hp => by cases hp⟩
  | cons p l =>
    obtain ⟨a, b⟩ := p
    cases r with
    | zero => rw [un_zero] at h; cases h
    | succ r =>
      cases e : one r c σ a b with
      | full => rw [un_full e] at h; cases h
      | no => rw [un_no e] at h; cases h
      | ok σ1 c1 r1 m =>
        rw [un_ok e] at h
        have hr := one_le e
        obtain ⟨h1, h2⟩ := ih r1 (by omega) (one_ends hE e) h hs
        obtain ⟨h3, h4⟩ := one_back hE e h1 (fun p hp => h2 p (List.mem_append_left _ hp))
        refine ⟨h3, fun p hp => ?_⟩
        rcases List.mem_cons.1 hp with rfl | hp
        · exact h4
        · exact h2 p (List.mem_append_right _ hp)

theorem one_mg {θ : Int → Tm} {σ σ' : Sb} {r c c' r' : Nat} {a b : Nd} {l : List (Nd × Nd)} (hm : Mg θ σ) (hE : Ends σ) (h : one r c σ a b = .ok σ' c' r' l) : ∃ θ', Mg θ' σ' := by
  have bind : ∀ {v : Int} {t : Nd} {r2 : Nat}, σ v = none → bnd r σ v t = .ok r2 → ∃ θ', Mg θ' (σ.put v t) := fun {v t r2} hv hb => by
    obtain ⟨h1, h2, _, _⟩ := bnd_not hb
    exact ⟨_, hm.put hv (vis_has hm hE (r + 1) (by omega) (posA_no h1) t (List.mem_singleton.2 rfl))⟩
  by_cases kx : ((wk σ a).k == 1) = true
  · by_cases hsm : ((wk σ b).k == 1) = true ∧ (wk σ a).n = (wk σ b).n
    · rw [one_same kx hsm.1 hsm.2] at h
      cases h
      exact ⟨θ, hm⟩
    · rw [one_x kx hsm] at h
      split at h
      · cases h
      · cases h
      · rename_i hb
        cases h
        exact bind (wk_free hE kx) hb
  · rw [Bool.not_eq_true] at kx
    by_cases ky : ((wk σ b).k == 1) = true
    · rw [one_y kx ky] at h
      split at h
      · cases h
      · cases h
      · rename_i hb
        cases h
        exact bind (wk_free hE ky) hb
    · rw [Bool.not_eq_true] at ky
      rw [one_struct kx ky] at h
      split at h
      · cases h
        exact ⟨θ, hm⟩
      · cases h

theorem un_mg : ∀ (r : Nat) {θ : Int → Tm} {c : Nat} {σ : Sb} {l : List (Nd × Nd)} {ρ : Sb} {c' r' : Nat}, Mg θ σ → Ends σ → un r c σ l = .ok ρ c' r' → ∃ θ', Mg θ' ρ := by
  intro r
  induction r using Nat.strongRecOn with
  | ind r ih =>
  intro θ c σ l ρ c' r' hm hE h
  cases l with
  | nil => rw [un_nil] at h; cases h; exact ⟨θ, hm⟩
  | cons p l =>
    obtain ⟨a, b⟩ := p
    cases r with
    | zero => rw [un_zero] at h; cases h
    | succ r =>
      cases e : one r c σ a b with
      | full => rw [un_full e] at h; cases h
      | no => rw [un_no e] at h; cases h
      | ok σ1 c1 r1 m =>
        rw [un_ok e] at h
        have hr := one_le e
        obtain ⟨θ1, h1⟩ := one_mg hm hE e
        exact ih r1 (by omega) h1 (one_ends hE e) h

/-- what is alike already binds nothing -/
theorem un_stay {θ : Int → Tm} {σ : Sb} (hm : Mg θ σ) (hE : Ends σ) : ∀ (r c : Nat) {l : List (Nd × Nd)}, (∀ p ∈ l, ev θ p.1 = ev θ p.2) → un r c σ l = .full ∨ ∃ r', un r c σ l = .ok σ c r' := by
  intro r
  induction r using Nat.strongRecOn with
  | ind r ih =>
  intro c l hl
  cases l with
  | nil => exact .inr ⟨r, un_nil _ _ _⟩
  | cons p l =>
    obtain ⟨a, b⟩ := p
    cases r with
    | zero => exact .inl (un_zero _ _ _ _)
    | succ r =>
      have hxy : ev θ (wk σ a) = ev θ (wk σ b) := by rw [ev_wk hm.1 hE, ev_wk hm.1 hE]; exact hl (a, b) (List.mem_cons_self ..)
      have hl2 : ∀ p ∈ l, ev θ p.1 = ev θ p.2 := fun p hp => hl p (List.mem_cons_of_mem _ hp)
      by_cases kx : ((wk σ a).k == 1) = true
      · have hfx := hm.2 _ (wk_free hE kx)
        by_cases ky : ((wk σ b).k == 1) = true
        · have hfy := hm.2 _ (wk_free hE ky)
          rw [ev, ev, if_pos kx, if_pos ky, hfx, hfy] at hxy
          injection hxy with hn
          rw [un_ok (one_same kx ky hn), List.nil_append]
          exact ih r (by omega) c hl2
        · rw [ev, ev, if_pos kx, if_neg ky, hfx] at hxy
          cases hxy
      · by_cases ky : ((wk σ b).k == 1) = true
        · have hfy := hm.2 _ (wk_free hE ky)
          rw [ev, ev, if_neg kx, if_pos ky, hfy] at hxy
          cases hxy
        · rw [Bool.not_eq_true] at kx ky
          obtain ⟨hh, hmp⟩ := headU_iff kx ky hxy
          have e : one r c σ a b = .ok σ c r ((elems (wk σ a).kids).zip (elems (wk σ b).kids)) := by rw [one_struct kx ky, if_pos hh]
          rw [un_ok e]
          refine ih r (by omega) c fun p hp => ?_
          rcases List.mem_append.1 hp with hp | hp
          · exact zip_fwd hmp p hp
          · exact hl2 p hp

def tot : List (Nd × Nd) → Nat
  | [] => 0
  | p :: l => p.1.kids.size + 1 + tot l
theorem tot_app : ∀ l m : List (Nd × Nd), tot (l ++ m) = tot l + tot m
  | [], m => by simp [tot]
  | p :: l, m => by simp only [List.cons_append, tot, tot_app l m]; omega
theorem tot_elems : ∀ ts : Ts, tot ((elems ts).zip (elems ts)) = ts.size
  | .nil => rfl
  | .cons k s n p c kids rest => by simp only [elems, List.zip_cons_cons, tot, tot_elems rest, Ts.size]; omega
theorem zip_self {l : List Nd} : ∀ p ∈ l.zip l, p.1 = p.2 := by
  induction l with
  | nil => intro p hp; simp at hp
  | cons x l ih =>
    intro p hp
    simp only [List.zip_cons_cons, List.mem_cons] at hp
    rcases hp with rfl | hp
    · rfl
    · exact ih p hp
theorem headU_self (x : Nd) : headU x x = true := by simp [headU]

/-- a term with itself -/
theorem un_self : ∀ (r c : Nat) {l : List (Nd × Nd)}, (∀ p ∈ l, p.1 = p.2) → tot l ≤ r → ∃ r', un r c Sb.none l = .ok Sb.none c r' := by
  intro r
  induction r using Nat.strongRecOn with
  | ind r ih =>
  intro c l hl ht
  cases l with
  | nil => exact ⟨r, un_nil _ _ _⟩
  | cons p l =>
    obtain ⟨a, b⟩ := p
    have hab : a = b := hl (a, b) (List.mem_cons_self ..)
    subst hab
    simp only [tot] at ht
    cases r with
    | zero => omega
    | succ r =>
      have hw : wk Sb.none a = a := wk_stop (.inr rfl)
      have hl2 : ∀ p ∈ l, p.1 = p.2 := fun p hp => hl p (List.mem_cons_of_mem _ hp)
      by_cases kx : (a.k == 1) = true
      · rw [un_ok (one_same (by rw [hw]; exact kx) (by rw [hw]; exact kx) rfl), List.nil_append]
        exact ih r (by omega) c hl2 (by omega)
      · rw [Bool.not_eq_true] at kx
        have e : one r c Sb.none a a = .ok Sb.none c r ((elems a.kids).zip (elems a.kids)) := by rw [one_struct (by rw [hw]; exact kx) (by rw [hw]; exact kx), hw, if_pos (headU_self a)]
        rw [un_ok e]
        refine ih r (by omega) c (fun p hp => ?_) (by rw [tot_app, tot_elems]; omega)
        rcases List.mem_append.1 hp with hp | hp
        · exact zip_self p hp
        · exact hl2 p hp

theorem Mg.none : Mg Tm.var Sb.none := ⟨(fun v x hx => by cases hx), fun v _ => rfl⟩
theorem goodS.none : goodS Sb.none := fun v x hx => by cases hx

/-- the other way round -/
theorem un_turned {r r2 c c2 : Nat} {a b : Nd} (ha : goodN a) (hb : goodN b) {ρ : Sb} {c' r' : Nat} (h : un r c Sb.none [(a, b)] = .ok ρ c' r') : un r2 c2 Sb.none [(b, a)] ≠ .no := by
  obtain ⟨θ, hm⟩ := un_mg r Mg.none Ends.none h
  obtain ⟨h1, h2⟩ := un_back r Ends.none h hm.1
  refine (un_fwd r2 h1 Ends.none goodS.none fun p hp => ?_).1
  simp only [List.mem_singleton] at hp
  subst hp
  exact ⟨hb, ha, (h2 (a, b) (List.mem_singleton.2 rfl)).symm⟩

theorem un_endsOk : ∀ (r : Nat) {c : Nat} {σ : Sb} {l : List (Nd × Nd)} {ρ : Sb} {c' r' : Nat}, Ends σ → un r c σ l = .ok ρ c' r' → Ends ρ := by
  intro r
  induction r using Nat.strongRecOn with
  | ind r ih =>
  intro c σ l ρ c' r' hE h
  cases l with
  | nil => rw [un_nil] at h; cases h; exact hE
  | cons p l =>
    obtain ⟨a, b⟩ := p
    cases r with
    | zero => rw [un_zero] at h; cases h
    | succ r =>
      cases e : one r c σ a b with
      | full => rw [un_full e] at h; cases h
      | no => rw [un_no e] at h; cases h
      | ok σ1 c1 r1 m =>
        rw [un_ok e] at h
        have hr := one_le e
        exact ih r1 (by omega) (one_ends hE e) h

theorem STw.symm {σ ρ : Sb} (h : STw σ ρ) : STw ρ σ := by
  refine ⟨fun u hu => ?_, fun u y hy => ?_⟩
  · cases e : σ u with
    | none => rfl
    | some x => obtain ⟨t, h1, _⟩ := h.yes u x e; rw [hu] at h1; cases h1
  · cases e : σ u with
    | none => rw [h.no u e] at hy; cases hy
    | some x =>
      obtain ⟨t, h1, h2⟩ := h.yes u x e
      rw [hy] at h1
      cases h1
      exact ⟨x, rfl, Nd.twin_symm h2⟩

theorem Mg.tw {θ : Int → Tm} {σ ρ : Sb} (hm : Mg θ ρ) (h : STw σ ρ) : Mg θ σ := by
  refine ⟨fun v x hx => ?_, fun v hv => hm.2 v (h.no v hv)⟩
  obtain ⟨t, h1, h2⟩ := h.yes v x hx
  rw [hm.1 v t h1, ev_twin θ h2]

/-- unified once more -/
theorem un_again {r r2 c c2 : Nat} {a b : Nd} {ρ σp : Sb} {c' r' : Nat} (h : un r c Sb.none [(a, b)] = .ok ρ c' r') (ht : STw σp ρ) : un r2 c2 σp [(a, b)] = .full ∨ ∃ r3, un r2 c2 σp [(a, b)] = .ok σp c2 r3 := by
  obtain ⟨θ, hm⟩ := un_mg r Mg.none Ends.none h
  obtain ⟨_, h2⟩ := un_back r Ends.none h hm.1
  exact un_stay (hm.tw ht) (ht.symm.ends (un_endsOk r Ends.none h)) r2 c2 h2

end Go.Proofs.Ytflomdnjabgnaaa
/-
  Layer 4: a term and a structure whose one argument it is.
-/
namespace Go.Proofs.Ytflomdnjabgnaaa
open Go.RowKit

theorem un_own (s : List UInt8) : ∀ (sz : Nat) {x y : Nd}, x.kids.size ≤ sz → y.k = 4 → y.s.toList = s → y.n = 0 → elems y.kids = [x] → ∀ (r c : Nat), sz + 4 ≤ r → un r c Sb.none [(x, y)] = .no := by
  intro sz
  induction sz using Nat.strongRecOn with
  | ind sz ih =>
  intro x y hsz hk hs hn he r c hr
  obtain ⟨r, rfl⟩ : ∃ r', r = r' + 1 := ⟨r - 1, by omega⟩
  have wx : wk Sb.none x = x := wk_stop (.inr rfl)
  have wy : wk Sb.none y = y := wk_stop (.inr rfl)
  have ky : (y.k == 1) = false := by rw [hk]; rfl
  by_cases kx : (x.k == 1) = true
  · have hb : bnd r Sb.none x.n y = .no := by
      obtain ⟨r2, rfl⟩ : ∃ r', r = r' + 1 := ⟨r - 1, by omega⟩
      have hv : ∃ m, vis Sb.none (r2 + 1 + 1) [y] = y :: x :: m := by
        simp only [vis, wy, he, List.append_nil, List.cons_append, List.nil_append, wx]
        exact ⟨_, rfl⟩
      obtain ⟨m, hm⟩ := hv
      have hp : posA x.n 0 (y :: x :: m) = 2 := by
        simp only [posA, ky, Bool.false_and, Bool.false_eq_true, if_false]
        rw [if_pos (by rw [kx]; simp)]
        rfl
      unfold bnd
      rw [hm, hp, if_pos ⟨by omega, by omega⟩]
    have h1 : one r c Sb.none x y = .no := by
      rw [one_x (by rw [wx]; exact kx) (by rw [wy, ky]; simp), wx, wy, hb]
    exact un_no h1
  · rw [Bool.not_eq_true] at kx
    have ho : one r c Sb.none x y = if headU x y = true then .ok Sb.none c r ((elems x.kids).zip (elems y.kids)) else .no := by
      rw [one_struct (by rw [wx]; exact kx) (by rw [wy]; exact ky), wx, wy]
    by_cases hh : headU x y = true
    · rw [if_pos hh] at ho
      rw [un_ok ho, List.append_nil, he]
      unfold headU at hh
      simp only [Bool.and_eq_true, beq_iff_eq, decide_eq_true_eq] at hh
      obtain ⟨g1, g2, g3, g4⟩ := hh
      have hl : (elems x.kids).length = 1 := by rw [elems_length, g4, ← elems_length, he]; rfl
      cases hc : elems x.kids with
      | nil => rw [hc] at hl; cases hl
      | cons x' l =>
        rw [hc] at hl
        cases l with
        | cons => simp at hl
        | nil =>
          have hx' : x'.kids.size < x.kids.size := elems_small (by rw [hc]; simp)
          simp only [List.zip_cons_cons, List.zip_nil_right]
          exact ih x'.kids.size (by omega) (Nat.le_refl _) (by rw [g1, hk]) (by rw [g2, hs]) (by rw [g3, hn]) hc r c (by omega)
    · rw [if_neg hh] at ho
      exact un_no ho

end Go.Proofs.Ytflomdnjabgnaaa
/-
  Layer 4: a term and its like with other variables.
-/
namespace Go.Proofs.Ytflomdnjabgnaaa
open Go.RowKit

/-- a list's like with other variables -/
def ShT (d : Int) : Ts → Ts → Prop
  | .nil, .nil => True
  | .cons k s n _ _ kids rest, .cons k' s' n' _ _ kids' rest' => k' = k ∧ s' = s ∧ n' = (if (k == 1) = true then n + d else n) ∧ ShT d kids kids' ∧ ShT d rest rest'
  | _, _ => False
def ShN (d : Int) (x y : Nd) : Prop := y.k = x.k ∧ y.s = x.s ∧ y.n = (if (x.k == 1) = true then x.n + d else x.n) ∧ ShT d x.kids y.kids

/-- variables of small numbers, with no Args -/
def smT (M : Int) : Ts → Prop
  | .nil => True
  | .cons k _ n _ _ kids rest => ((k == 1) = true → 0 ≤ n ∧ n < M ∧ kids = .nil) ∧ smT M kids ∧ smT M rest
def smN (M : Int) (x : Nd) : Prop := ((x.k == 1) = true → 0 ≤ x.n ∧ x.n < M ∧ x.kids = .nil) ∧ smT M x.kids

theorem ShT.len {d : Int} : ∀ {a b : Ts}, ShT d a b → a.len = b.len
  | .nil, .nil, _ => rfl
  | .nil, .cons .., h => h.elim
  | .cons .., .nil, h => h.elim
  | .cons _ _ _ _ _ _ r, .cons _ _ _ _ _ _ r', h => by simp only [Ts.len, ShT.len h.2.2.2.2]

theorem ShT.zip {d M : Int} : ∀ {a b : Ts}, ShT d a b → smT M a → ∀ p ∈ (elems a).zip (elems b), ShN d p.1 p.2 ∧ smN M p.1
  | .nil, .nil, _, _, p, hp => by simp [elems] at hp
  | .nil, .cons .., h, _, _, _ => h.elim
  | .cons .., .nil, h, _, _, _ => h.elim
  | .cons k s n p0 c kids r, .cons k' s' n' p0' c' kids' r', h, hs, p, hp => by
    simp only [elems, List.zip_cons_cons, List.mem_cons] at hp
    rcases hp with rfl | hp
    · exact ⟨⟨h.1, h.2.1, h.2.2.1, h.2.2.2.1⟩, hs.1, hs.2.1⟩
    · exact ShT.zip h.2.2.2.2 hs.2.2 p hp

def mks : List (Nd × Nd) → List (Int × Int)
  | [] => []
  | p :: l => (p.1.k, p.1.n) :: ((nodesOf p.1.kids).map Ts.mark ++ mks l)
theorem mks_app : ∀ l m : List (Nd × Nd), mks (l ++ m) = mks l ++ mks m
  | [], m => rfl
  | p :: l, m => by simp only [List.cons_append, mks, mks_app l m, List.append_assoc]
theorem mks_zip : ∀ {a b : Ts}, a.len = b.len → mks ((elems a).zip (elems b)) = (nodesOf a).map Ts.mark
  | .nil, .nil, _ => rfl
  | .nil, .cons .., h => by simp [Ts.len] at h
  | .cons .., .nil, h => by simp [Ts.len] at h
  | .cons k s n p c kids r, .cons k' s' n' p' c' kids' r', h => by
    simp only [Ts.len, Nat.add_right_cancel_iff] at h
    simp only [elems, List.zip_cons_cons, mks, mks_zip h, nodesOf, List.map_cons, List.map_append]
    rfl
theorem tot_zip : ∀ {a b : Ts}, a.len = b.len → tot ((elems a).zip (elems b)) = a.size
  | .nil, .nil, _ => rfl
  | .nil, .cons .., h => by simp [Ts.len] at h
  | .cons .., .nil, h => by simp [Ts.len] at h
  | .cons k s n p c kids r, .cons k' s' n' p' c' kids' r', h => by
    simp only [Ts.len, Nat.add_right_cancel_iff] at h
    simp only [elems, List.zip_cons_cons, tot, tot_zip h, Ts.size]
    omega

/-- what has been bound -/
structure ShI (M d : Int) (σ : Sb) (acc : List Int) : Prop where
  yes : ∀ v, v ∈ acc → ∃ y, σ v = some y ∧ (y.k == 1) = true ∧ y.n = v + d
  no : ∀ v, ¬ v ∈ acc → σ v = none
  sm : ∀ v, v ∈ acc → 0 ≤ v ∧ v < M

theorem un_shift {M d : Int} (hd : M ≤ d ∧ 0 < d) : ∀ (r : Nat) {c : Nat} {σ : Sb} {acc : List Int} {l : List (Nd × Nd)}, ShI M d σ acc → (∀ p ∈ l, ShN d p.1 p.2 ∧ smN M p.1) → 2 * tot l ≤ r → ∃ σ' c' r', un r c σ l = .ok σ' c' r' ∧ c' + acc.length = c + ((mks l).foldl newNum acc).length := by
  intro r
  induction r using Nat.strongRecOn with
  | ind r ih =>
  intro c σ acc l hI hl ht
  cases l with
  | nil => exact ⟨σ, c, r, un_nil _ _ _, rfl⟩
  | cons p l =>
    obtain ⟨x, y⟩ := p
    obtain ⟨⟨h1, h2, h3, h4⟩, h5, h6⟩ := hl (x, y) (List.mem_cons_self ..)
    simp only at h1 h2 h3 h4 h5 h6
    simp only [tot] at ht
    have hl2 : ∀ p ∈ l, ShN d p.1 p.2 ∧ smN M p.1 := fun p hp => hl p (List.mem_cons_of_mem _ hp)
    obtain ⟨r, rfl⟩ : ∃ r', r = r' + 1 := ⟨r - 1, by omega⟩
    by_cases kx : (x.k == 1) = true
    · obtain ⟨hv0, hv1, hkn⟩ := h5 kx
      rw [if_pos kx] at h3
      have ky : (y.k == 1) = true := by rw [h1]; exact kx
      have hyn : σ y.n = none := hI.no _ fun hm => by have := (hI.sm _ hm).2; omega
      have wy : wk σ y = y := wk_stop (.inr hyn)
      have hykn : y.kids = .nil := by
        rw [hkn] at h4
        cases hc : y.kids with
        | nil => rfl
        | cons => rw [hc] at h4; exact h4.elim
      by_cases hm : x.n ∈ acc
      · obtain ⟨z, hz, kz, nz⟩ := hI.yes _ hm
        have hzn : σ z.n = none := hI.no _ fun hm2 => by have := (hI.sm _ hm2).2; omega
        have wx : wk σ x = z := wk_eq (.go kx hz (.stop (.inr hzn)))
        have e : one r c σ x y = .ok σ c r [] := one_same (by rw [wx]; exact kz) (by rw [wy]; exact ky) (by rw [wx, wy, nz, h3])
        obtain ⟨σ', c', r', g1, g2⟩ := ih r (by omega) (c := c) hI hl2 (by omega)
        refine ⟨σ', c', r', by rw [un_ok e, List.nil_append]; exact g1, ?_⟩
        simp only [mks, hkn, nodesOf, List.map_nil, List.nil_append, List.foldl_cons]
        rw [newNum_old (by exact kx) (by simpa using hm)]
        exact g2
      · have hxn : σ x.n = none := hI.no _ hm
        have wx : wk σ x = x := wk_stop (.inr hxn)
        have e : one r c σ x y = .ok (σ.put x.n y) (c + 1) (r - 1) [] := one_leaf (by omega) wx wy kx hv0 hykn (by rw [ky, h3]; simp; omega)
        have hI2 : ShI M d (σ.put x.n y) (acc ++ [x.n]) := by
          refine ⟨fun v hv => ?_, fun v hv => ?_, fun v hv => ?_⟩
          · rcases List.mem_append.1 hv with hv | hv
            · have hne : v ≠ x.n := fun e => hm (e ▸ hv)
              rw [Sb.put_other hne]
              exact hI.yes v hv
            · simp only [List.mem_singleton] at hv
              subst hv
              exact ⟨y, Sb.put_same _ _ _, ky, h3⟩
          · simp only [List.mem_append, List.mem_singleton, not_or] at hv
            rw [Sb.put_other hv.2]
            exact hI.no v hv.1
          · rcases List.mem_append.1 hv with hv | hv
            · exact hI.sm v hv
            · simp only [List.mem_singleton] at hv
              subst hv
              exact ⟨hv0, hv1⟩
        obtain ⟨σ', c', r', g1, g2⟩ := ih (r - 1) (by omega) (c := c + 1) hI2 hl2 (by omega)
        refine ⟨σ', c', r', by rw [un_ok e, List.nil_append]; exact g1, ?_⟩
        simp only [mks, hkn, nodesOf, List.map_nil, List.nil_append, List.foldl_cons]
        rw [newNum_new (by exact kx) (by simpa using hm)]
        simp only [List.length_append, List.length_cons, List.length_nil] at g2
        simp only
        omega
    · have kx2 : (x.k == 1) = false := by simpa using kx
      have ky2 : (y.k == 1) = false := by rw [h1]; exact kx2
      rw [if_neg kx] at h3
      have wx : wk σ x = x := wk_stop (.inl kx2)
      have wy : wk σ y = y := wk_stop (.inl ky2)
      have hln := h4.len
      have hh : headU x y = true := by simp [headU, h1, h2, h3, hln]
      have e : one r c σ x y = .ok σ c r ((elems x.kids).zip (elems y.kids)) := by rw [one_struct (by rw [wx]; exact kx2) (by rw [wy]; exact ky2), wx, wy, if_pos hh]
      obtain ⟨σ', c', r', g1, g2⟩ := ih r (by omega) (c := c) (l := (elems x.kids).zip (elems y.kids) ++ l) hI (fun p hp => by
        rcases List.mem_append.1 hp with hp | hp
        · exact h4.zip h6 p hp
        · exact hl2 p hp) (by rw [tot_app, tot_zip hln]; omega)
      refine ⟨σ', c', r', by rw [un_ok e]; exact g1, ?_⟩
      rw [mks_app, mks_zip hln] at g2
      simp only [mks, List.foldl_cons]
      rw [newNum_no (by exact kx)]
      exact g2

end Go.Proofs.Ytflomdnjabgnaaa
