import Derived.Test.YtflomdnjabgnaaaCo
import Derived.Test.YtflomdnjabgnaaaAn
/-
  Layer 4: unifications of terms that are known.
-/
namespace Go.Proofs.Ytflomdnjabgnaaa
open Go.RowKit

def nV (n : Int) : Nd := ⟨1, ⟨#[]⟩, n, none, 0, .nil⟩
def nA : Nd := ⟨3, ⟨#[97]⟩, 0, none, 0, .nil⟩
def nF (ks : Ts) : Nd := ⟨4, ⟨#[102]⟩, 0, none, 0, ks⟩
def tV (n : Int) (r : Ts) : Ts := .cons 1 ⟨#[]⟩ n none 0 .nil r
def tA : Ts := .cons 3 ⟨#[97]⟩ 0 none 0 .nil .nil
/-- what the first one binds -/
noncomputable def sb2 : Sb := (Sb.none.put 0 (nV 1)).put 1 nA

theorem vis_leaf {σ : Sb} {r : Nat} {t : Nd} (hw : wk σ t = t) (hk : t.kids = .nil) : vis σ (r + 1) [t] = [t] := by
  simp only [vis, hw, hk, elems, List.nil_append, vis_nil]

theorem bnd_leaf {r : Nat} {σ : Sb} {v : Int} {t : Nd} (hr : 1 ≤ r) (hv : 0 ≤ v) (hw : wk σ t = t) (hk : t.kids = .nil) (hne : ((t.k == 1) && (t.n == v)) = false) : bnd r σ v t = .ok (r - 1) := by
  unfold bnd
  rw [vis_leaf hw hk]
  simp only [posA, hne, Bool.false_eq_true, if_false, List.length_cons, List.length_nil]
  rw [if_neg (by omega), if_neg (by omega), if_neg (by omega)]

theorem one_leaf {r c : Nat} {σ : Sb} {a b : Nd} (hr : 1 ≤ r) (hwa : wk σ a = a) (hwb : wk σ b = b) (ha : (a.k == 1) = true) (hv : 0 ≤ a.n) (hk : b.kids = .nil) (hne : ((b.k == 1) && (b.n == a.n)) = false) : one r c σ a b = .ok (σ.put a.n b) (c + 1) (r - 1) [] := by
  have h2 : ¬ (((wk σ b).k == 1) = true ∧ (wk σ a).n = (wk σ b).n) := by
    rw [hwa, hwb]
    rintro ⟨h, h'⟩
    rw [h, h'] at hne
    simp at hne
  rw [one_x (by rw [hwa]; exact ha) h2, hwa, hwb, bnd_leaf hr hv hwb hk hne]
  simp only
  rw [Nat.min_eq_left (by omega)]

theorem un_first : un 4096 0 Sb.none [(nF (tV 0 (tV 1 .nil)), nF (tV 1 tA))] = .ok sb2 2 4091 := by
  have wF : ∀ ks, wk Sb.none (nF ks) = nF ks := fun ks => wk_stop (.inl rfl)
  have h1 : one 4095 0 Sb.none (nF (tV 0 (tV 1 .nil))) (nF (tV 1 tA)) = .ok Sb.none 0 4095 [(nV 0, nV 1), (nV 1, nA)] := by
    rw [one_struct (by rw [wF]; rfl) (by rw [wF]; rfl), wF, wF, if_pos (by decide +kernel)]
    rfl
  have h2 : one 4094 0 Sb.none (nV 0) (nV 1) = .ok (Sb.none.put 0 (nV 1)) 1 4093 [] := one_leaf (by omega) (wk_stop (.inr rfl)) (wk_stop (.inr rfl)) rfl (by decide) rfl rfl
  have n1 : (Sb.none.put 0 (nV 1)) (nV 1).n = none := by rw [Sb.put_other (by decide)]; rfl
  have h3 : one 4092 1 (Sb.none.put 0 (nV 1)) (nV 1) nA = .ok sb2 2 4091 [] := one_leaf (by omega) (wk_stop (.inr n1)) (wk_stop (.inl rfl)) rfl (by decide) rfl rfl
  rw [show (4096 : Nat) = 4095 + 1 from rfl, un_ok h1, List.append_nil, show (4095 : Nat) = 4094 + 1 from rfl, un_ok h2, List.nil_append, show (4093 : Nat) = 4092 + 1 from rfl, un_ok h3, List.nil_append, un_nil]

theorem un_second : un 4096 0 Sb.none [(nV 0, nF (tV 0 .nil))] = .no := by
  have w0 : wk Sb.none (nV 0) = nV 0 := wk_stop (.inr rfl)
  have wF : wk Sb.none (nF (tV 0 .nil)) = nF (tV 0 .nil) := wk_stop (.inl rfl)
  have h1 : one 4095 0 Sb.none (nV 0) (nF (tV 0 .nil)) = .no := by
    have hb : bnd 4095 Sb.none 0 (nF (tV 0 .nil)) = .no := by
      have hv : vis Sb.none (4095 + 1) [nF (tV 0 .nil)] = [nF (tV 0 .nil), nV 0] := by
        have w0' : wk Sb.none ⟨1, ⟨#[]⟩, 0, none, 0, .nil⟩ = ⟨1, ⟨#[]⟩, 0, none, 0, .nil⟩ := w0
        have wF' : wk Sb.none ⟨4, ⟨#[102]⟩, 0, none, 0, .cons 1 ⟨#[]⟩ 0 none 0 .nil .nil⟩ = ⟨4, ⟨#[102]⟩, 0, none, 0, .cons 1 ⟨#[]⟩ 0 none 0 .nil .nil⟩ := wF
        simp only [nF, nV, tV, vis, wF', elems, List.append_nil, w0', vis_nil]
      unfold bnd
      rw [hv]
      rw [if_pos (by simp [posA, nF, nV])]
    rw [one_x (by rw [w0]; rfl) (by rw [wF]; rintro ⟨h, _⟩; exact absurd h (by decide)), w0, wF, show (nV 0).n = 0 from rfl, hb]
  rw [show (4096 : Nat) = 4095 + 1 from rfl, un_no h1]

theorem un_third : un 4096 0 Sb.none [(nA, ⟨2, ⟨#[]⟩, 1, none, 0, .nil⟩)] = .no := by
  have w0 : wk Sb.none nA = nA := wk_stop (.inl rfl)
  have w1 : wk Sb.none ⟨2, ⟨#[]⟩, 1, none, 0, .nil⟩ = ⟨2, ⟨#[]⟩, 1, none, 0, .nil⟩ := wk_stop (.inl rfl)
  have h1 : one 4095 0 Sb.none nA ⟨2, ⟨#[]⟩, 1, none, 0, .nil⟩ = .no := by
    rw [one_struct (by rw [w0]; rfl) (by rw [w1]; rfl), w0, w1, if_neg (by decide +kernel)]
  rw [show (4096 : Nat) = 4095 + 1 from rfl, un_no h1]

theorem LRes.no_of {w w' : World} {X Y X' Y' : Nd} {e : Ending} (h : LRes Sb.none 0 w [(X, Y)] e w') (hx : X.twin X') (hy : Y.twin Y') (hu : un 4096 0 Sb.none [(X', Y')] = .no) : e = .returned (.tuple #[.pointer none, .bool false, .int .i64 0]) := by
  have ht := un_tw 4096 0 (STw.refl Sb.none) Ends.none (.cons hx hy .nil)
  rw [hu] at ht
  obtain ⟨_, h2⟩ := h
  cases hE : un 4096 0 Sb.none [(X, Y)] with
  | full => rw [hE] at ht; exact ht.elim
  | no => rw [hE] at h2; exact h2
  | ok ρ c r => rw [hE] at ht; exact ht.elim

theorem LRes.ok_of {w w' : World} {X Y X' Y' : Nd} {e : Ending} (h : LRes Sb.none 0 w [(X, Y)] e w') (hx : X.twin X') (hy : Y.twin Y') {ρ : Sb} {c r : Nat} (hu : un 4096 0 Sb.none [(X', Y')] = .ok ρ c r) : ∃ S2 σp, e = .returned (.tuple #[.pointer (some ⟨S2, 0, none⟩), .bool true, .int .i64 0]) ∧ w.heap.size ≤ S2 ∧ STw σp ρ ∧ SubAt S2 σp c w' := by
  have ht := un_tw 4096 0 (STw.refl Sb.none) Ends.none (.cons hx hy .nil)
  rw [hu] at ht
  obtain ⟨_, h2⟩ := h
  cases hE : un 4096 0 Sb.none [(X, Y)] with
  | full => rw [hE] at ht; exact ht.elim
  | no => rw [hE] at ht; exact ht.elim
  | ok ρ2 c2 r2 =>
    rw [hE] at ht h2
    obtain ⟨g1, rfl, rfl⟩ := ht
    obtain ⟨S2, σp, k1, k2, k3, k4, _⟩ := h2
    exact ⟨S2, σp, k1, k2, k3.trans g1, k4⟩

/-- the first variable, applied -/
theorem applied_first {σp : Sb} (h : STw σp sb2) (hE : Ends σp) {B : Nat} {e : Ending} {w' : World} (ha : Applied σp (nV 0) B e w') : ∃ q, e = .returned (.tuple #[.agg #[.int .u8 3, .string ⟨#[97]⟩, .int .i64 0, .slice q 0 0], .int .i64 0]) ∧ Ts.At w' q .nil := by
  have hE2 : Ends sb2 := h.ends hE
  have b0 : sb2 (nV 0).n = some (nV 1) := by unfold sb2; rw [Sb.put_other (by decide)]; exact Sb.put_same _ _ _
  have b1 : sb2 (nV 1).n = some nA := by unfold sb2; exact Sb.put_same _ _ _
  have hw2 : wk sb2 (nV 0) = nA := by rw [wk_go hE2 rfl b0, wk_go hE2 rfl b1]; exact wk_stop (.inl rfl)
  have hw := h.wk hE (Nd.twin_refl (nV 0))
  rw [hw2] at hw
  obtain ⟨hk, hs, hn, hkd⟩ := hw
  have hnil : (wk σp (nV 0)).kids = .nil := by
    cases hc : (wk σp (nV 0)).kids with
    | nil => rfl
    | cons => rw [hc] at hkd; exact hkd.elim
  have hvis : (vis σp 4097 [nV 0]).length = 1 := by
    simp only [vis, hnil, elems, List.nil_append, vis_nil, List.length_cons, List.length_nil]
  rcases ha with ⟨h1, _⟩ | ⟨_, us, q, h1, h2, h3, h4, h5⟩
  · omega
  · rw [hnil] at h3
    have hus : us = .nil := by
      cases us with
      | nil => rfl
      | cons => cases h3
    subst hus
    rw [hk, hs, hn] at h1
    exact ⟨q, h1, h2.at⟩

end Go.Proofs.Ytflomdnjabgnaaa
/-
  Layer 4: what unification finds, as plain terms: a unifier, the most general one; and none where there is none.
-/
namespace Go.Proofs.Ytflomdnjabgnaaa
open Go.RowKit

/-- plain terms -/
inductive Tm where
  | var (n : Int)
  | node (k : Int) (s : List UInt8) (n : Int) (kids : List Tm)

mutual
def Tm.sz : Tm → Nat
  | .var _ => 1
  | .node _ _ _ ks => szs ks + 1
def szs : List Tm → Nat
  | [] => 0
  | t :: r => t.sz + szs r
end

mutual
/-- a variable stands in it -/
def Tm.has (v : Int) : Tm → Prop
  | .var n => n = v
  | .node _ _ _ ks => hass v ks
def hass (v : Int) : List Tm → Prop
  | [] => False
  | t :: r => t.has v ∨ hass v r
end

mutual
/-- a variable replaced -/
def rp (v : Int) (T : Tm) : Tm → Tm
  | .var n => if n = v then T else .var n
  | .node k s n ks => .node k s n (reps v T ks)
def reps (v : Int) (T : Tm) : List Tm → List Tm
  | [] => []
  | t :: r => rp v T t :: reps v T r
end

mutual
theorem rp_no (v : Int) (T : Tm) : ∀ t : Tm, ¬ t.has v → rp v T t = t
  | .var n, h => by
    simp only [Tm.has] at h
    simp only [rp, if_neg h]
  | .node k s n ks, h => by
    simp only [Tm.has] at h
    simp only [rp, reps_no v T ks h]
theorem reps_no (v : Int) (T : Tm) : ∀ l : List Tm, ¬ hass v l → reps v T l = l
  | [], _ => rfl
  | t :: r, h => by
    simp only [hass, not_or] at h
    simp only [reps, rp_no v T t h.1, reps_no v T r h.2]
end

theorem hass_mem {v : Int} : ∀ {l : List Tm}, hass v l → ∃ t ∈ l, t.has v
  | [], h => h.elim
  | t :: r, h => by
    simp only [hass] at h
    rcases h with h | h
    · exact ⟨t, List.mem_cons_self .., h⟩
    · obtain ⟨u, h1, h2⟩ := hass_mem h
      exact ⟨u, List.mem_cons_of_mem _ h1, h2⟩

theorem szs_mem {t : Tm} : ∀ {l : List Tm}, t ∈ l → t.sz ≤ szs l
  | [], h => by cases h
  | u :: r, h => by
    simp only [szs]
    rcases List.mem_cons.1 h with rfl | h
    · omega
    · have := szs_mem h; omega

/-- what a term becomes -/
def evs (θ : Int → Tm) : Ts → List Tm
  | .nil => []
  | .cons k s n _ _ kids rest => (if (k == 1) = true then θ n else .node k s.toList n (evs θ kids)) :: evs θ rest
def ev (θ : Int → Tm) (x : Nd) : Tm := if (x.k == 1) = true then θ x.n else .node x.k x.s.toList x.n (evs θ x.kids)

theorem evs_elems (θ : Int → Tm) : ∀ ts : Ts, evs θ ts = (elems ts).map (ev θ)
  | .nil => rfl
  | .cons k s n p c kids rest => by
    simp only [evs, elems, List.map_cons, evs_elems θ rest]
    rfl

theorem evs_rep (θ : Int → Tm) (v : Int) (T : Tm) : ∀ ts : Ts, evs (fun x => rp v T (θ x)) ts = reps v T (evs θ ts)
  | .nil => rfl
  | .cons k s n p c kids rest => by
    simp only [evs, reps, evs_rep θ v T rest, evs_rep θ v T kids]
    split
    · rfl
    · rfl
theorem ev_rep (θ : Int → Tm) (v : Int) (T : Tm) (x : Nd) : ev (fun x => rp v T (θ x)) x = rp v T (ev θ x) := by
  unfold ev
  rw [evs_rep]
  split
  · rfl
  · rfl

theorem evs_twin (θ : Int → Tm) : ∀ {ts us : Ts}, Ts.twin ts us → evs θ ts = evs θ us
  | .nil, .nil, _ => rfl
  | .nil, .cons .., h => h.elim
  | .cons .., .nil, h => h.elim
  | .cons k s n p c kids rest, .cons k' s' n' p' c' kids' rest', ⟨h1, h2, h3, h4, h5⟩ => by
    subst h1 h2 h3
    simp only [evs, evs_twin θ h4, evs_twin θ h5]
theorem ev_twin (θ : Int → Tm) {x y : Nd} (h : x.twin y) : ev θ x = ev θ y := by
  unfold ev
  rw [h.1, h.2.1, h.2.2.1, evs_twin θ h.2.2.2]

/-- terms are so that what is bound is like what it is bound to -/
def Sat (θ : Int → Tm) (σ : Sb) : Prop := ∀ v x, σ v = some x → θ v = ev θ x
/-- and what is not bound stays -/
def Mg (θ : Int → Tm) (σ : Sb) : Prop := Sat θ σ ∧ ∀ v, σ v = none → θ v = .var v

theorem ev_Wk {θ : Int → Tm} {σ : Sb} (hs : Sat θ σ) {t r : Nd} {m : Nat} (h : Wk σ t r m) : ev θ r = ev θ t := by
  induction h with
  | stop => rfl
  | @go t b r m hk hb _ ih =>
    rw [ih]
    have h1 := hs _ _ hb
    have h2 : ev θ t = θ t.n := by unfold ev; rw [if_pos hk]
    rw [h2, h1]
theorem ev_wk {θ : Int → Tm} {σ : Sb} (hs : Sat θ σ) (hE : Ends σ) (t : Nd) : ev θ (wk σ t) = ev θ t := ev_Wk hs (wk_spec hE t)

/-- variables have no Args, and no negative number -/
def goodT : Ts → Prop
  | .nil => True
  | .cons k _ n _ _ kids rest => ((k == 1) = true → 0 ≤ n ∧ kids = .nil) ∧ goodT kids ∧ goodT rest
def goodN (x : Nd) : Prop := ((x.k == 1) = true → 0 ≤ x.n ∧ x.kids = .nil) ∧ goodT x.kids
def goodS (σ : Sb) : Prop := ∀ v x, σ v = some x → goodN x

theorem goodT_elems : ∀ {ts : Ts}, goodT ts → ∀ x ∈ elems ts, goodN x
  | .nil, _, x, hx => by cases hx
  | .cons k s n p c kids rest, h, x, hx => by
    simp only [elems, List.mem_cons] at hx
    rcases hx with rfl | hx
    · exact ⟨h.1, h.2.1⟩
    · exact goodT_elems h.2.2 x hx

theorem good_Wk {σ : Sb} (hg : goodS σ) {t r : Nd} {m : Nat} (h : Wk σ t r m) (ht : goodN t) : goodN r := by
  induction h with
  | stop => exact ht
  | go _ hb _ ih => exact ih (hg _ _ hb)
theorem good_wk {σ : Sb} (hg : goodS σ) (hE : Ends σ) {t : Nd} (ht : goodN t) : goodN (wk σ t) := good_Wk hg (wk_spec hE t) ht

theorem goodS_put {σ : Sb} (hg : goodS σ) {v : Int} {x : Nd} (hx : goodN x) : goodS (σ.put v x) := fun u y hy => by
  by_cases e : u = v
  · subst e; rw [Sb.put_same] at hy; cases hy; exact hx
  · rw [Sb.put_other e] at hy; exact hg u y hy

theorem Sat.put {θ : Int → Tm} {σ : Sb} (h : Sat θ σ) {v : Int} {x : Nd} (hx : θ v = ev θ x) : Sat θ (σ.put v x) := fun u y hy => by
  by_cases e : u = v
  · subst e; rw [Sb.put_same] at hy; cases hy; exact hx
  · rw [Sb.put_other e] at hy; exact h u y hy
theorem Sat.of_put {θ : Int → Tm} {σ : Sb} {v : Int} {x : Nd} (h : Sat θ (σ.put v x)) (hv : σ v = none) : Sat θ σ ∧ θ v = ev θ x :=
  ⟨fun u y hy => h u y (by rw [Sb.put_other (fun e => by rw [e, hv] at hy; cases hy)]; exact hy), h v x (Sb.put_same _ _ _)⟩

theorem posA_hits {v : Int} : ∀ {l : List Nd} {i : Nat}, 0 ≤ posA v i l → ∃ y ∈ l, (y.k == 1) = true ∧ y.n = v
  | [], _, h => by simp only [posA] at h; omega
  | x :: l, i, h => by
    simp only [posA] at h
    split at h
    · rename_i hx
      simp only [Bool.and_eq_true, beq_iff_eq] at hx
      exact ⟨x, List.mem_cons_self .., by rw [hx.1]; rfl, hx.2⟩
    · obtain ⟨y, h1, h2⟩ := posA_hits h
      exact ⟨y, List.mem_cons_of_mem _ h1, h2⟩
theorem posA_no {v : Int} : ∀ {l : List Nd} {i : Nat}, posA v i l < 0 → ∀ y ∈ l, ¬ ((y.k == 1) = true ∧ y.n = v)
  | [], _, _, y, hy => by cases hy
  | x :: l, i, h, y, hy => by
    simp only [posA] at h
    split at h
    · omega
    · rename_i hx
      rcases List.mem_cons.1 hy with rfl | hy
      · rintro ⟨h1, h2⟩; exact hx (by rw [h1, h2]; simp)
      · exact posA_no h y hy

/-- what is visited is a part -/
theorem vis_part {θ : Int → Tm} {σ : Sb} (hs : Sat θ σ) (hE : Ends σ) (hg : goodS σ) : ∀ (f : Nat) {l : List Nd}, (∀ t ∈ l, goodN t) → ∀ y ∈ vis σ f l, ∃ t ∈ l, y = wk σ t ∨ (ev θ y).sz < (ev θ t).sz
  | 0, _, _, y, hy => by simp only [vis] at hy; cases hy
  | _ + 1, [], _, y, hy => by simp only [vis] at hy; cases hy
  | f + 1, t :: rest, hl, y, hy => by
    simp only [vis] at hy
    rcases List.mem_cons.1 hy with rfl | hy
    · exact ⟨t, List.mem_cons_self .., .inl rfl⟩
    · have hgt := good_wk hg hE (hl t (List.mem_cons_self ..))
      obtain ⟨u, hu, h1⟩ := vis_part hs hE hg f (l := elems (wk σ t).kids ++ rest) (fun x hx => by
        rcases List.mem_append.1 hx with hx | hx
        · exact goodT_elems hgt.2 x hx
        · exact hl x (List.mem_cons_of_mem _ hx)) y hy
      rcases List.mem_append.1 hu with hu | hu
      · refine ⟨t, List.mem_cons_self .., .inr ?_⟩
        have hk : ¬ ((wk σ t).k == 1) = true := fun hk => by
          rw [(hgt.1 hk).2] at hu; cases hu
        have h2 : (ev θ u).sz < (ev θ (wk σ t)).sz := by
          have h3 : ev θ (wk σ t) = .node (wk σ t).k (wk σ t).s.toList (wk σ t).n (evs θ (wk σ t).kids) := by rw [ev, if_neg hk]
          rw [h3, Tm.sz, evs_elems]
          have := szs_mem (List.mem_map_of_mem (f := ev θ) hu)
          omega
        rw [ev_wk hs hE] at h2
        rcases h1 with rfl | h1
        · rw [ev_wk hs hE]; exact h2
        · omega
      · exact ⟨u, List.mem_cons_of_mem _ hu, h1⟩

/-- a variable that is not visited does not stand in what the terms become -/
theorem vis_has {θ : Int → Tm} {σ : Sb} (hm : Mg θ σ) (hE : Ends σ) {v : Int} : ∀ (f : Nat) {l : List Nd}, (vis σ f l).length < f → (∀ y ∈ vis σ f l, ¬ ((y.k == 1) = true ∧ y.n = v)) → ∀ t ∈ l, ¬ (ev θ t).has v
  | 0, _, h, _, _, _ => by omega
  | _ + 1, [], _, _, t, ht => by cases ht
  | f + 1, t :: rest, h, hy, u, hu => by
    simp only [vis, List.length_cons] at h hy
    have ih := vis_has hm hE (v := v) f (l := elems (wk σ t).kids ++ rest) (by omega) (fun y h1 => hy y (List.mem_cons_of_mem _ h1))
    rcases List.mem_cons.1 hu with rfl | hu
    · rw [← ev_wk hm.1 hE]
      by_cases hk : ((wk σ u).k == 1) = true
      · rw [ev, if_pos hk]
        have hn : σ (wk σ u).n = none := by
          rcases (wk_spec hE u).ends with h1 | h1
          · rw [h1] at hk; cases hk
          · exact h1
        rw [hm.2 _ hn, Tm.has]
        exact fun e => hy _ (List.mem_cons_self ..) ⟨hk, e⟩
      · rw [ev, if_neg hk, Tm.has, evs_elems]
        intro hh
        obtain ⟨x, hx, h2⟩ := hass_mem hh
        obtain ⟨z, hz, rfl⟩ := List.mem_map.1 hx
        exact ih z (List.mem_append_left _ hz) h2
    · exact ih u (List.mem_append_right _ hu)

theorem Mg.put {θ : Int → Tm} {σ : Sb} (hm : Mg θ σ) {v : Int} {x : Nd} (hv : σ v = none) (hn : ¬ (ev θ x).has v) : Mg (fun u => rp v (ev θ x) (θ u)) (σ.put v x) := by
  refine ⟨fun u y hy => ?_, fun u hu => ?_⟩
  · rw [ev_rep]
    by_cases e : u = v
    · subst e
      rw [Sb.put_same] at hy
      cases hy
      rw [rp_no _ _ _ hn]
      show rp u (ev θ x) (θ u) = ev θ x
      rw [hm.2 u hv, rp, if_pos rfl]
    · rw [Sb.put_other e] at hy
      show rp v (ev θ x) (θ u) = _
      rw [hm.1 u y hy]
  · by_cases e : u = v
    · subst e; rw [Sb.put_same] at hu; cases hu
    · rw [Sb.put_other e] at hu
      show rp v (ev θ x) (θ u) = .var u
      rw [hm.2 u hu, rp, if_neg e]

end Go.Proofs.Ytflomdnjabgnaaa
