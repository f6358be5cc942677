import Derived.Test.YtflomdnjabgnaaaCy
import Derived.Test.YtflomdnjabgnaaaCv
/-
  Layer 4: lists against structures: what is asked of both.
-/
namespace Go.Proofs.Ytflomdnjabgnaaa
open Go.RowKit

theorem ListsLen_any (S : Nat) (pa : Option Addr) (la ca : Nat) (pb : Option Addr) (lb cb : Nat) (hl : ((la : Int) != (lb : Int)) = true) (w : World) : Calls Try.prog 35 #[.pointer (some ⟨S, 0, none⟩), .slice pa la ca, .slice pb lb cb] w fun e w' => e = .returned (.tuple #[.pointer none, .bool false, .int .i64 0]) ∧ Below w.heap.size w w' := by
  go_enter_defers Try.func35, Try.ntmps35
  go_wp2_with fail
  simp only [bodyPostD, Leaves]
  exact ⟨.tuple #[.pointer none, .bool false, .int .i64 0], by simp [results, Try.results35, go_sem], rfl, (((Below.refl _ _).alloc (Nat.le_refl _) _).alloc (by simp) _).alloc (by simp; omega) _⟩

/-- what comes of lists of any lengths -/
noncomputable def outL (ta tb : Ts) : Out := if ta.len = tb.len then un 4096 0 Sb.none ((elems ta).zip (elems tb)) else .no

theorem ListsU_any (S : Nat) (w : World) (hS : SubAt S Sb.none 0 w) (pa : Option Addr) (ta : Ts) (ca : Nat) (pb : Option Addr) (tb : Ts) (cb : Nat) (ha : EntOk (fun _ => True) ⟨pa, ta, ca⟩ w) (hb : EntOk (fun _ => True) ⟨pb, tb, cb⟩ w) :
    Calls Try.prog 35 #[.pointer (some ⟨S, 0, none⟩), .slice pa ta.len ca, .slice pb tb.len cb] w fun e w' => ∃ p, e = .returned (.tuple #[p, .bool (okU (outL ta tb)), .int .i64 (gU (outL ta tb))]) ∧ PU (outL ta tb) p w' ∧ Below w.heap.size w w' := by
  by_cases hl : ta.len = tb.len
  · refine (Lists_any S Sb.none 0 w hS (by omega) pa ta ca pb tb cb hl ha hb).mono ?_
    intro e w' h
    obtain ⟨p, h1, h2⟩ := h.pu
    have e1 : outL ta tb = un 4096 0 Sb.none (pairsOf [((⟨pa, ta, ca⟩, ⟨pb, tb, cb⟩) : Ent × Ent)]) := by
      unfold outL
      rw [if_pos hl]
      simp [pairsOf]
    rw [e1]
    exact ⟨p, h1, h2, h.1⟩
  · refine (ListsLen_any S pa ta.len ca pb tb.len cb (by simp only [bne_iff_ne, ne_eq]; omega) w).mono ?_
    rintro e w' ⟨rfl, hB⟩
    have e1 : outL ta tb = .no := by unfold outL; rw [if_neg hl]
    rw [e1]
    exact ⟨_, rfl, rfl, hB⟩

theorem ent_list {p : Option Addr} {ts : Ts} {c : Nat} {w : World} (hok : ts.ok) (hat : Ts.At w p ts) (hc : ts.len ≤ c ∧ c ≤ 9223372036854775807) (hsz : ts.size ≤ 1000) : EntOk (fun _ => True) ⟨p, ts, c⟩ w := by
  obtain ⟨b, o, h1, h2⟩ := hat.atP
  exact ⟨hc, hok, ⟨b, o, h1, liesP_imp (fun _ _ _ => trivial) ts h2⟩, fun x hx => by have h : x.kids.size < ts.size := elems_small hx; omega⟩

theorem out_structs {A B : Ts} {X Y : Nd} (hx : X.k = 4 ∧ Y.k = 4 ∧ X.s = Y.s ∧ X.n = Y.n) (hA : Ts.twin X.kids A) (hB : Ts.twin Y.kids B) :
    (un 4096 0 Sb.none [(X, Y)] = .no → outL A B = .no) ∧ ∀ ρ c r, un 4096 0 Sb.none [(X, Y)] = .ok ρ c r → ∃ ρ' r', outL A B = .ok ρ' c r' ∧ STw ρ ρ' := by
  unfold outL
  by_cases hl : A.len = B.len
  · rw [if_pos hl]
    exact un_structs hx hA hB hl
  · rw [if_neg hl, un_lens ⟨hx.1, hx.2.1⟩ hA hB hl]
    exact ⟨fun _ => rfl, fun _ _ _ h => by cases h⟩

/-- what Apply tells -/
def ApF (σ : Sb) (t X : Nd) (G : Int) (w : World) : Prop :=
  ((vis σ 4097 [t]).length = 4097 ∧ X = ⟨0, ⟨#[]⟩, 0, none, 0, .nil⟩ ∧ G = 31) ∨ ((vis σ 4097 [t]).length ≤ 4096 ∧ G = 0 ∧ Ap σ t X ∧ Ts.At w X.p X.kids)

theorem ApF.below {σ : Sb} {t X : Nd} {G : Int} {w w' : World} (h : ApF σ t X G w) (hB : Below w.heap.size w w') : ApF σ t X G w' := by
  rcases h with h | ⟨h1, h2, h3, h4⟩
  · exact .inl h
  · exact .inr ⟨h1, h2, h3, h4.below hB⟩

theorem Applied.form {σ : Sb} {t : Nd} {B : Nat} {e : Ending} {w' : World} (h : Applied σ t B e w') : ∃ (X : Nd) (G : Int), e = .returned (.tuple #[.agg #[.int .u8 X.k, .string X.s, .int .i64 X.n, .slice X.p X.kids.len X.c], .int .i64 G]) ∧ ApF σ t X G w' := by
  rcases h.cases with ⟨h1, h2⟩ | ⟨h1, X, h2, h3, h4⟩
  · exact ⟨⟨0, ⟨#[]⟩, 0, none, 0, .nil⟩, 31, h2, .inl ⟨h1, rfl, rfl⟩⟩
  · exact ⟨X, 0, h2, .inr ⟨h1, rfl, h3, h4.at⟩⟩

/-- applied by two substitutions that are alike -/
theorem ApF.both {σ ρ : Sb} (h : STw σ ρ) (hE : Ends σ) {t X Y : Nd} {G K : Int} {w w' : World} (h1 : ApF σ t X G w) (h2 : ApF ρ t Y K w') :
    G = K ∧ X.twin Y ∧ X.kids.ok ∧ Y.kids.ok ∧ X.kids.len ≤ 1000000 ∧ Ts.At w X.p X.kids ∧ Ts.At w' Y.p Y.kids := by
  have hv := (h.vis hE 4097 (.cons (Nd.twin_refl t) .nil)).length
  rcases h1 with ⟨g1, rfl, rfl⟩ | ⟨g1, rfl, g3, g4⟩
  · rcases h2 with ⟨k1, rfl, rfl⟩ | ⟨k1, rfl, k3, k4⟩
    · exact ⟨rfl, Nd.twin_refl _, trivial, trivial, by simp [Ts.len], ⟨0, 0, .inl rfl, trivial⟩, ⟨0, 0, .inl rfl, trivial⟩⟩
    · omega
  · rcases h2 with ⟨k1, rfl, rfl⟩ | ⟨k1, rfl, k3, k4⟩
    · omega
    · have hw := h.wk hE (Nd.twin_refl t)
      refine ⟨rfl, ⟨by rw [g3.k, k3.k, hw.1], by rw [g3.s, k3.s, hw.2.1], by rw [g3.n, k3.n, hw.2.2.1], App.tw h hE g3.app (elems_tw hw.2.2.2) k3.app⟩, g3.ok, k3.ok, ?_, g4, k4⟩
      have := g3.sz
      have := Ts.len_size X.kids
      omega

theorem app_sz : ∀ t u : Ts, (t.app u).size = t.size + u.size
  | .nil, u => by simp [Ts.app, Ts.size]
  | .cons k s n p c kids rest, u => by simp only [Ts.app, Ts.size, app_sz rest u]; omega

theorem nodes_app : ∀ t u : Ts, nodesOf (t.app u) = nodesOf t ++ nodesOf u
  | .nil, u => rfl
  | .cons k s n p c kids rest, u => by simp only [Ts.app, nodesOf, nodes_app rest u, List.cons_append, List.append_assoc]

end Go.Proofs.Ytflomdnjabgnaaa
/-
  Layer 4: the most general unifier, told of Apply's answers.
-/
namespace Go.Proofs.Ytflomdnjabgnaaa
open Go.RowKit

/-- what is applied becomes what the term becomes -/
theorem Ap.ev {θ : Int → Tm} {σ : Sb} (hs : Sat θ σ) (hE : Ends σ) {t X : Nd} (h : Ap σ t X) : ev θ X = ev θ t := by
  have h1 := App_ev hs hE h.list
  simp only [evs, List.map_cons, List.map_nil, List.cons.injEq, and_true] at h1
  exact h1

/-- what is applied whole can be told from another -/
theorem Ap.inj {θ : Int → Tm} {σ : Sb} (hm : Mg θ σ) (hE : Ends σ) {t u X Y : Nd} (h : Ap σ t X) (h' : Ap σ u Y) (hx : nameT (.cons X.k X.s X.n X.p X.c X.kids .nil)) (hy : nameT (.cons Y.k Y.s Y.n Y.p Y.c Y.kids .nil)) (he : Go.Proofs.Ytflomdnjabgnaaa.ev θ X = Go.Proofs.Ytflomdnjabgnaaa.ev θ Y) : X.twin Y := by
  have fx := evs_fix hm (h.list.fix hE)
  have fy := evs_fix hm (h'.list.fix hE)
  have e1 : evs θ (.cons X.k X.s X.n X.p X.c X.kids .nil) = [Go.Proofs.Ytflomdnjabgnaaa.ev θ X] := rfl
  have e2 : evs θ (.cons Y.k Y.s Y.n Y.p Y.c Y.kids .nil) = [Go.Proofs.Ytflomdnjabgnaaa.ev θ Y] := rfl
  have ht := evs_inj hx hy (by rw [← fx, ← fy, e1, e2, he])
  exact ⟨ht.1, ht.2.1, ht.2.2.1, ht.2.2.2.1⟩

/-- variables have no name: of a node -/
def nameN (x : Nd) : Prop := ((x.k == 1) = true → x.s = ⟨#[]⟩ ∧ x.kids = .nil) ∧ nameT x.kids
def nameS (σ : Sb) : Prop := ∀ v x, σ v = some x → nameN x

theorem nameT_elems : ∀ {ts : Ts}, nameT ts → ∀ x ∈ elems ts, nameN x
  | .nil, _, x, hx => by cases hx
  | .cons k s n p c kids rest, h, x, hx => by
    simp only [elems, List.mem_cons] at hx
    rcases hx with rfl | hx
    · exact ⟨h.1, h.2.1⟩
    · exact nameT_elems h.2.2 x hx

theorem name_Wk {σ : Sb} (hg : nameS σ) {t r : Nd} {m : Nat} (h : Wk σ t r m) (ht : nameN t) : nameN r := by
  induction h with
  | stop => exact ht
  | go _ hb _ ih => exact ih (hg _ _ hb)

theorem App_name {σ : Sb} (hg : nameS σ) (hE : Ends σ) {l : List Nd} {us : Ts} (h : App σ l us) : (∀ t ∈ l, nameN t) → nameT us := by
  induction h with
  | nil => intro _; trivial
  | @cons t rest p c ks rs h1 h2 ih1 ih2 =>
    intro hl
    have hw := name_Wk hg (wk_spec hE t) (hl t (List.mem_cons_self ..))
    refine ⟨fun hk => ?_, ih1 (nameT_elems hw.2), ih2 fun x hx => hl x (List.mem_cons_of_mem _ hx)⟩
    obtain ⟨g1, g2⟩ := hw.1 hk
    refine ⟨g1, ?_⟩
    rw [g2] at h1
    cases h1
    rfl

/-- how many nodes are visited hangs on what the term becomes -/
theorem vis_same {θ : Int → Tm} {σ : Sb} (hm : Mg θ σ) (hE : Ends σ) (hg : goodS σ) {a b : Nd} (ha : goodN a) (hb : goodN b) (he : ev θ a = ev θ b) : (vis σ 4097 [a]).length = (vis σ 4097 [b]).length := by
  rw [vis_len hm hE hg 4097 (fun t ht => by simp only [List.mem_singleton] at ht; subst ht; exact ha), vis_len hm hE hg 4097 (fun t ht => by simp only [List.mem_singleton] at ht; subst ht; exact hb)]
  simp only [List.map_cons, List.map_nil, he]

end Go.Proofs.Ytflomdnjabgnaaa
/-
  Layer 4: the law UnifyMost: its plain facts.
-/
namespace Go.Proofs.Ytflomdnjabgnaaa
open Go.RowKit

/-- told alike, they are -/
theorem alike_is : ∀ {ts us : Ts}, alike ts us = true → Ts.twin ts us
  | .nil, .nil, _ => trivial
  | .cons k s n p c kids rest, .cons k' s' n' p' c' kids' rest', h => by
    simp only [alike, Bool.and_eq_true, beq_iff_eq] at h
    exact ⟨h.1, toList_inj h.2.1, h.2.2.1, alike_is h.2.2.2.1, alike_is h.2.2.2.2⟩
  | .nil, .cons .., h => by simp [alike] at h
  | .cons .., .nil, h => by simp [alike] at h

def sameB (x y : Nd) : Bool := headAlike x.k y.k x.s y.s x.n y.n && alike x.kids y.kids
theorem sameB_is {x y : Nd} (h : sameB x y = true) : x.twin y := by
  unfold sameB headAlike at h
  simp only [Bool.and_eq_true, beq_iff_eq] at h
  exact ⟨h.1.1, toList_inj h.1.2.1, h.1.2.2, alike_is h.2⟩

theorem same_any {x y : Nd} (hox : x.kids.ok) (hoy : y.kids.ok) (hlx : x.kids.len ≤ 1000000) (hly : y.kids.len ≤ 1000000) (w : World) (hax : Ts.At w x.p x.kids) (hay : Ts.At w y.p y.kids) :
    Calls Try.prog 21 #[.agg #[.int .u8 x.k, .string x.s, .int .i64 x.n, .slice x.p x.kids.len x.c], .agg #[.int .u8 y.k, .string y.s, .int .i64 y.n, .slice y.p y.kids.len y.c]] w fun e w' => e = .returned (.bool (sameB x y)) ∧ Below w.heap.size w w' :=
  same_of x.kids y.kids (fun w p p' c c' ha hb => all_any _ x.kids y.kids (Nat.lt_succ_self _) hox hoy (by omega) (by omega) w p p' c c' ha hb) x.k y.k x.s y.s x.n y.n x.p y.p x.c y.c w hax hay

theorem boxOne {w W : World} {b : Nd} (h : W = w.alloc (.cells #[.int .u8 b.k, .string b.s, .int .i64 b.n, .slice b.p b.kids.len b.c] 24)) (hat : Ts.At w b.p b.kids) : Below w.heap.size w W ∧ Ts.At W (some ⟨w.heap.size, 0, none⟩) (.cons b.k b.s b.n b.p b.c b.kids .nil) := by
  obtain ⟨W', hW, _, hB, hc⟩ := box1 w #[.int .u8 b.k, .string b.s, .int .i64 b.n, .slice b.p b.kids.len b.c] 24
  rw [← hW] at h
  subst h
  exact ⟨hB, lies_one rfl hc (hat.below hB)⟩

theorem boxTwo {w W : World} {a b : Nd} (h : W = w.alloc (.cells #[.int .u8 a.k, .string a.s, .int .i64 a.n, .slice a.p a.kids.len a.c, .int .u8 b.k, .string b.s, .int .i64 b.n, .slice b.p b.kids.len b.c] 24)) (hata : Ts.At w a.p a.kids) (hatb : Ts.At w b.p b.kids) : Below w.heap.size w W ∧ Ts.At W (some ⟨w.heap.size, 0, none⟩) (.cons a.k a.s a.n a.p a.c a.kids (.cons b.k b.s b.n b.p b.c b.kids .nil)) := by
  obtain ⟨W', hW, _, hB, hc⟩ := box1 w #[.int .u8 a.k, .string a.s, .int .i64 a.n, .slice a.p a.kids.len a.c, .int .u8 b.k, .string b.s, .int .i64 b.n, .slice b.p b.kids.len b.c] 24
  rw [← hW] at h
  subst h
  exact ⟨hB, lies_two rfl hc (hata.below hB) (hatb.below hB)⟩

theorem Ap.len {σ : Sb} {t X : Nd} (h : Ap σ t X) : X.kids.len ≤ 1000000 := by
  have := h.sz
  have := Ts.len_size X.kids
  omega

/-- variables of good terms have no name -/
theorem headB_name {k : Int} {s : ByteArray} {n : Int} {len : Nat} (h : headB k s n len = true) (hk : (k == 1) = true) : s = ⟨#[]⟩ ∧ len = 0 := by
  have e : k = 1 := by simpa using hk
  subst e
  unfold headB at h
  simp only [if_pos, Bool.and_eq_true, beq_iff_eq, decide_eq_true_eq] at h
  obtain ⟨_, h2, h3⟩ := h
  refine ⟨?_, by omega⟩
  rw [ByteArray.toList_eq] at h2
  cases s
  simp at h2
  rw [h2]
theorem shape_name : ∀ {ts : Ts}, shapeL ts = true → nameT ts
  | .nil, _ => trivial
  | .cons k s n p c kids rest, h => by
    simp only [shapeL, Bool.and_eq_true] at h
    obtain ⟨⟨h1, h2⟩, h3⟩ := h
    refine ⟨fun hk => ?_, shape_name h1, shape_name h3⟩
    obtain ⟨g1, g2⟩ := headB_name h2 hk
    exact ⟨g1, Ts.len_zero g2⟩
theorem name_nd {a : Nd} (h : goodB 64 a.k a.s a.n a.kids = true) : nameN a := by
  have h1 : shapeL a.kids = true ∧ headB a.k a.s a.n a.kids.len = true := by
    unfold goodB at h
    simp only [Bool.and_eq_true] at h
    exact h.2
  refine ⟨fun hk => ?_, shape_name h1.1⟩
  obtain ⟨g1, g2⟩ := headB_name h1.2 hk
  exact ⟨g1, Ts.len_zero g2⟩

/-- what is bound are parts of what is unified -/
theorem all_Wk {P : Nd → Prop} {σ : Sb} (hg : ∀ v x, σ v = some x → P x) {t r : Nd} {m : Nat} (h : Wk σ t r m) (ht : P t) : P r := by
  induction h with
  | stop => exact ht
  | go _ hb _ ih => exact ih (hg _ _ hb)
theorem put_all {P : Nd → Prop} {σ : Sb} (hg : ∀ v x, σ v = some x → P x) {v : Int} {t : Nd} (ht : P t) : ∀ u x, (σ.put v t) u = some x → P x := fun u y hy => by
  by_cases e : u = v
  · subst e; rw [Sb.put_same] at hy; cases hy; exact ht
  · rw [Sb.put_other e] at hy; exact hg u y hy

theorem one_all {P : Nd → Prop} (hP : ∀ x, P x → ∀ y ∈ elems x.kids, P y) {σ σ' : Sb} {r c c' r' : Nat} {a b : Nd} {l : List (Nd × Nd)} (hE : Ends σ) (hg : ∀ v x, σ v = some x → P x) (ha : P a) (hb : P b) (h : one r c σ a b = .ok σ' c' r' l) : (∀ v x, σ' v = some x → P x) ∧ ∀ p ∈ l, P p.1 ∧ P p.2 := by
  have wa := all_Wk hg (wk_spec hE a) ha
  have wb := all_Wk hg (wk_spec hE b) hb
  by_cases kx : ((wk σ a).k == 1) = true
  · by_cases hsm : ((wk σ b).k == 1) = true ∧ (wk σ a).n = (wk σ b).n
    · rw [one_same kx hsm.1 hsm.2] at h
      cases h
      exact ⟨hg, fun p hp => by cases hp⟩
    · rw [one_x kx hsm] at h
      split at h
      · cases h
      · cases h
      · cases h
        exact ⟨put_all hg wb, fun p hp => by cases hp⟩
  · rw [Bool.not_eq_true] at kx
    by_cases ky : ((wk σ b).k == 1) = true
    · rw [one_y kx ky] at h
      split at h
      · cases h
      · cases h
      · cases h
        exact ⟨put_all hg wa, fun p hp => by cases hp⟩
    · rw [Bool.not_eq_true] at ky
      rw [one_struct kx ky] at h
      split at h
      · cases h
        refine ⟨hg, fun p hp => ?_⟩
        obtain ⟨h1, h2⟩ := List.of_mem_zip (a := p.1) (b := p.2) hp
        exact ⟨hP _ wa _ h1, hP _ wb _ h2⟩
      · cases h

theorem un_all {P : Nd → Prop} (hP : ∀ x, P x → ∀ y ∈ elems x.kids, P y) : ∀ (r : Nat) {c : Nat} {σ : Sb} {l : List (Nd × Nd)} {ρ : Sb} {c' r' : Nat}, Ends σ → (∀ v x, σ v = some x → P x) → (∀ p ∈ l, P p.1 ∧ P p.2) → un r c σ l = .ok ρ c' r' → ∀ v x, ρ v = some x → P x := by
  intro r
  induction r using Nat.strongRecOn with
  | ind r ih =>
  intro c σ l ρ c' r' hE hg hl h
  cases l with
  | nil => rw [un_nil] at h; cases h; exact hg
  | cons p l =>
    obtain ⟨a, b⟩ := p
    cases r with
    | zero => rw [un_zero] at h; cases h
    | succ r =>
      cases e : one r c σ a b with
      | full => rw [un_full e] at h; cases h
      | no => rw [un_no e] at h; cases h
      | ok σ1 c1 r1 m =>
        rw [un_ok e] at h
        have hr := one_le e
        have hab := hl (a, b) (List.mem_cons_self ..)
        obtain ⟨h1, h2⟩ := one_all hP hE hg hab.1 hab.2 e
        exact ih r1 (by omega) (one_ends hE e) h1 (fun p hp => by
          rcases List.mem_append.1 hp with hp | hp
          · exact h2 p hp
          · exact hl p (List.mem_cons_of_mem _ hp)) h

/-- good, and of variables without names -/
def GN (x : Nd) : Prop := goodN x ∧ nameN x
theorem GN.kids : ∀ x, GN x → ∀ y ∈ elems x.kids, GN y := fun _ h y hy => ⟨goodT_elems h.1.2 y hy, nameT_elems h.2.2 y hy⟩
theorem twin_good : ∀ {ts us : Ts}, Ts.twin ts us → goodT ts → nameT ts → goodT us ∧ nameT us
  | .nil, .nil, _, _, _ => ⟨trivial, trivial⟩
  | .nil, .cons .., h, _, _ => h.elim
  | .cons .., .nil, h, _, _ => h.elim
  | .cons k s n p c kids rest, .cons k' s' n' p' c' kids' rest', ⟨h1, h2, h3, h4, h5⟩, hg, hn => by
    subst h1 h2 h3
    obtain ⟨a1, a2⟩ := twin_good h4 hg.2.1 hn.2.1
    obtain ⟨b1, b2⟩ := twin_good h5 hg.2.2 hn.2.2
    have hk : (k == 1) = true → kids' = .nil := fun e => by
      rw [(hg.1 e).2] at h4
      cases kids' with
      | nil => rfl
      | cons => exact h4.elim
    exact ⟨⟨fun e => ⟨(hg.1 e).1, hk e⟩, a1, b1⟩, ⟨fun e => ⟨(hn.1 e).1, hk e⟩, a2, b2⟩⟩
theorem GN.twin {x y : Nd} (h : GN x) (ht : x.twin y) : GN y := by
  have h1 : goodT (.cons x.k x.s x.n x.p x.c x.kids .nil) := ⟨h.1.1, h.1.2, trivial⟩
  have h2 : nameT (.cons x.k x.s x.n x.p x.c x.kids .nil) := ⟨h.2.1, h.2.2, trivial⟩
  obtain ⟨g1, g2⟩ := twin_good (ts := .cons x.k x.s x.n x.p x.c x.kids .nil) (us := .cons y.k y.s y.n y.p y.c y.kids .nil) ⟨ht.1, ht.2.1, ht.2.2.1, ht.2.2.2, trivial⟩ h1 h2
  exact ⟨⟨g1.1, g1.2.1⟩, ⟨g2.1, g2.2.1⟩⟩
theorem GN.tw {σ ρ : Sb} (h : STw σ ρ) (hg : ∀ v x, ρ v = some x → GN x) : ∀ v x, σ v = some x → GN x := fun v x hx => by
  obtain ⟨t, h1, h2⟩ := h.yes v x hx
  exact (hg v t h1).twin (Nd.twin_symm h2)

theorem Ap.name {σ : Sb} (hg : nameS σ) (hE : Ends σ) {t X : Nd} (h : Ap σ t X) (ht : nameN t) : nameT (.cons X.k X.s X.n X.p X.c X.kids .nil) :=
  App_name hg hE h.list (fun x hx => by simp only [List.mem_singleton] at hx; subst hx; exact ht)

/-- what is applied, of terms that become alike, is alike -/
theorem Ap.alike {θ : Int → Tm} {σ : Sb} (hm : Mg θ σ) (hE : Ends σ) (hg : nameS σ) {t u X Y : Nd} (h : Ap σ t X) (h' : Ap σ u Y) (ht : nameN t) (hu : nameN u) (he : Go.Proofs.Ytflomdnjabgnaaa.ev θ t = Go.Proofs.Ytflomdnjabgnaaa.ev θ u) : X.twin Y :=
  Ap.inj hm hE h h' (h.name hg hE ht) (h'.name hg hE hu) (by rw [Ap.ev hm.1 hE h, Ap.ev hm.1 hE h', he])

/-- a candidate -/
structure Cand (σ : Sb) : Prop where
  mg : ∃ θ, Mg θ σ
  ends : Ends σ
  good : ∀ v x, σ v = some x → GN x
theorem Cand.names {σ : Sb} (h : Cand σ) : nameS σ := fun v x hx => (h.good v x hx).2
theorem Cand.goods {σ : Sb} (h : Cand σ) : goodS σ := fun v x hx => (h.good v x hx).1

theorem Chain.good {l : List (Int × Nd)} (hl : ∀ e ∈ l, GN e.2) {had : List (Int × Nd)} (h : Chain l had) : ∀ v x, look had v = some x → GN x := by
  induction h with
  | nil => intro v x hx; cases hx
  | @snoc had v x _ hm h0 ih =>
    rw [look_put (bindE_zero h0)]
    exact put_all ih (hl _ hm)
theorem Chain.cand {l : List (Int × Nd)} (hl : ∀ e ∈ l, GN e.2) {had : List (Int × Nd)} (h : Chain l had) {σ : Sb} (ht : STw σ (look had)) : Cand σ := by
  obtain ⟨⟨θ, hm⟩, _, hE⟩ := h.mg (fun e he => (hl e he).1)
  exact ⟨⟨θ, hm.tw ht⟩, ht.symm.ends hE, GN.tw ht (h.good hl)⟩

/-- the unifier -/
theorem un_cand {a b : Nd} (ha : GN a) (hb : GN b) {ρ σ : Sb} {c' r' : Nat} (h : un 4096 0 Sb.none [(a, b)] = .ok ρ c' r') (ht : STw σ ρ) : Cand σ ∧ ∃ θ, Mg θ σ ∧ ev θ a = ev θ b := by
  obtain ⟨θ, hm⟩ := un_mg 4096 Mg.none Ends.none h
  obtain ⟨_, h2⟩ := un_back 4096 Ends.none h hm.1
  have hE := un_endsOk 4096 Ends.none h
  have hall := un_all GN.kids 4096 Ends.none (fun v x hx => by cases hx) (fun p hp => by simp only [List.mem_singleton] at hp; subst hp; exact ⟨ha, hb⟩) h
  exact ⟨⟨⟨θ, hm.tw ht⟩, ht.symm.ends hE, GN.tw ht hall⟩, θ, hm.tw ht, h2 (a, b) (List.mem_singleton.2 rfl)⟩

theorem most_fwd {a b X Y : Nd} (ha : GN a) (hb : GN b) {σ : Sb} (hc : Cand σ) (hX : Ap σ a X) (hY : Ap σ b Y) (he : X.twin Y) :
    ∃ θ, Mg θ σ ∧ un 4096 0 Sb.none [(a, b)] ≠ .no ∧ ∀ ρ c r, un 4096 0 Sb.none [(a, b)] = .ok ρ c r → Sat θ ρ := by
  obtain ⟨θ, hm⟩ := hc.mg
  have e : ev θ a = ev θ b := by rw [← Ap.ev hm.1 hc.ends hX, ← Ap.ev hm.1 hc.ends hY, ev_twin θ he]
  obtain ⟨h1, h2⟩ := un_fwd 4096 (c := 0) (θ := θ) (σ := Sb.none) (l := [(a, b)]) (fun v x hx => by cases hx) Ends.none goodS.none (fun p hp => by simp only [List.mem_singleton] at hp; subst hp; exact ⟨ha.1, hb.1, e⟩)
  exact ⟨θ, hm, h1, fun ρ c r h => h2 ρ c r h⟩

/-- both applied by the unifier -/
theorem most_both {a b X Y : Nd} {G K : Int} {w w' : World} (ha : GN a) (hb : GN b) {σ : Sb} (hc : Cand σ) {θ : Int → Tm} (hm : Mg θ σ) (he : ev θ a = ev θ b) (h1 : ApF σ a X G w) (h2 : ApF σ b Y K w') :
    (G = 31 ∧ K = 31) ∨ (G = 0 ∧ K = 0 ∧ X.twin Y ∧ X.kids.ok ∧ Y.kids.ok ∧ X.kids.len ≤ 1000000 ∧ Ts.At w X.p X.kids ∧ Ts.At w' Y.p Y.kids) := by
  have hv := vis_same hm hc.ends hc.goods ha.1 hb.1 he
  rcases h1 with ⟨g1, rfl, rfl⟩ | ⟨g1, rfl, g3, g4⟩
  · rcases h2 with ⟨k1, rfl, rfl⟩ | ⟨k1, rfl, k3, k4⟩
    · exact .inl ⟨rfl, rfl⟩
    · omega
  · rcases h2 with ⟨k1, rfl, rfl⟩ | ⟨k1, rfl, k3, k4⟩
    · omega
    · refine .inr ⟨rfl, rfl, Ap.alike hm hc.ends hc.names g3 k3 ha.2 hb.2 he, g3.ok, k3.ok, ?_, g4, k4⟩
      have := g3.sz
      have := Ts.len_size X.kids
      omega

/-- a variable, and what the unifier makes of it, applied by a candidate -/
theorem most_var {t u X Y : Nd} {σs σc : Sb} (hs : Cand σs) (hc : Cand σc) (ht : nameN t) {θ : Int → Tm} (hm : Mg θ σc) (hθ : Sat θ σs) (hu : Ap σs t u) (hX : Ap σc u X) (hY : Ap σc t Y) : X.twin Y := by
  have e : ev θ u = ev θ t := Ap.ev hθ hs.ends hu
  have hn := hu.name hs.names hs.ends ht
  exact Ap.alike hm hc.ends hc.names hX hY ⟨hn.1, hn.2.1⟩ ht e

end Go.Proofs.Ytflomdnjabgnaaa
