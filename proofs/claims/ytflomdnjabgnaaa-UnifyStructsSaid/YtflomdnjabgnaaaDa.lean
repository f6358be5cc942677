import Derived.Test.YtflomdnjabgnaaaCy
import Derived.Test.YtflomdnjabgnaaaCv
/-
  Layer 4: lists against structures: what is asked of both.
-/
namespace Go.Proofs.Ytflomdnjabgnaaa
open Go.RowKit

theorem ListsLen_any (S : Nat) (pa : Option Addr) (la ca : Nat) (pb : Option Addr) (lb cb : Nat) (hl : ((la : Int) != (lb : Int)) = true) (w : World) : Calls Try.prog 35 #[.pointer (some ⟨S, 0, none⟩), .slice pa la ca, .slice pb lb cb] w fun e w' => e = .returned (.tuple #[.pointer none, .bool false, .int .i64 0]) ∧ Below w.heap.size w w' := by
  go_enter_defers Try.func35, Try.ntmps35
  go_wp2_with fail
  simp only [bodyPostD, Leaves]
  exact ⟨.tuple #[.pointer none, .bool false, .int .i64 0], by simp [results, Try.results35, go_sem], rfl, (((Below.refl _ _).alloc (Nat.le_refl _) _).alloc (by simp) _).alloc (by simp; omega) _⟩

/-- what comes of lists of any lengths -/
noncomputable def outL (ta tb : Ts) : Out := if ta.len = tb.len then un 4096 0 Sb.none ((elems ta).zip (elems tb)) else .no

theorem ListsU_any (S : Nat) (w : World) (hS : SubAt S Sb.none 0 w) (pa : Option Addr) (ta : Ts) (ca : Nat) (pb : Option Addr) (tb : Ts) (cb : Nat) (ha : EntOk (fun _ => True) ⟨pa, ta, ca⟩ w) (hb : EntOk (fun _ => True) ⟨pb, tb, cb⟩ w) :
    Calls Try.prog 35 #[.pointer (some ⟨S, 0, none⟩), .slice pa ta.len ca, .slice pb tb.len cb] w fun e w' => ∃ p, e = .returned (.tuple #[p, .bool (okU (outL ta tb)), .int .i64 (gU (outL ta tb))]) ∧ PU (outL ta tb) p w' ∧ Below w.heap.size w w' := by
  by_cases hl : ta.len = tb.len
  · refine (Lists_any S Sb.none 0 w hS (by omega) pa ta ca pb tb cb hl ha hb).mono ?_
    intro e w' h
    obtain ⟨p, h1, h2⟩ := h.pu
    have e1 : outL ta tb = un 4096 0 Sb.none (pairsOf [((⟨pa, ta, ca⟩, ⟨pb, tb, cb⟩) : Ent × Ent)]) := by
      unfold outL
      rw [if_pos hl]
      simp [pairsOf]
    rw [e1]
    exact ⟨p, h1, h2, h.1⟩
  · refine (ListsLen_any S pa ta.len ca pb tb.len cb (by simp only [bne_iff_ne, ne_eq]; omega) w).mono ?_
    rintro e w' ⟨rfl, hB⟩
    have e1 : outL ta tb = .no := by unfold outL; rw [if_neg hl]
    rw [e1]
    exact ⟨_, rfl, rfl, hB⟩

theorem ent_list {p : Option Addr} {ts : Ts} {c : Nat} {w : World} (hok : ts.ok) (hat : Ts.At w p ts) (hc : ts.len ≤ c ∧ c ≤ 9223372036854775807) (hsz : ts.size ≤ 1000) : EntOk (fun _ => True) ⟨p, ts, c⟩ w := by
  obtain ⟨b, o, h1, h2⟩ := hat.atP
  exact ⟨hc, hok, ⟨b, o, h1, liesP_imp (fun _ _ _ => trivial) ts h2⟩, fun x hx => by have h : x.kids.size < ts.size := elems_small hx; omega⟩

theorem out_structs {A B : Ts} {X Y : Nd} (hx : X.k = 4 ∧ Y.k = 4 ∧ X.s = Y.s ∧ X.n = Y.n) (hA : Ts.twin X.kids A) (hB : Ts.twin Y.kids B) :
    (un 4096 0 Sb.none [(X, Y)] = .no → outL A B = .no) ∧ ∀ ρ c r, un 4096 0 Sb.none [(X, Y)] = .ok ρ c r → ∃ ρ' r', outL A B = .ok ρ' c r' ∧ STw ρ ρ' := by
  unfold outL
  by_cases hl : A.len = B.len
  · rw [if_pos hl]
    exact un_structs hx hA hB hl
  · rw [if_neg hl, un_lens ⟨hx.1, hx.2.1⟩ hA hB hl]
    exact ⟨fun _ => rfl, fun _ _ _ h => by cases h⟩

/-- what Apply tells -/
def ApF (σ : Sb) (t X : Nd) (G : Int) (w : World) : Prop :=
  ((vis σ 4097 [t]).length = 4097 ∧ X = ⟨0, ⟨#[]⟩, 0, none, 0, .nil⟩ ∧ G = 31) ∨ ((vis σ 4097 [t]).length ≤ 4096 ∧ G = 0 ∧ Ap σ t X ∧ Ts.At w X.p X.kids)

theorem ApF.below {σ : Sb} {t X : Nd} {G : Int} {w w' : World} (h : ApF σ t X G w) (hB : Below w.heap.size w w') : ApF σ t X G w' := by
  rcases h with h | ⟨h1, h2, h3, h4⟩
  · exact .inl h
  · exact .inr ⟨h1, h2, h3, h4.below hB⟩

theorem Applied.form {σ : Sb} {t : Nd} {B : Nat} {e : Ending} {w' : World} (h : Applied σ t B e w') : ∃ (X : Nd) (G : Int), e = .returned (.tuple #[.agg #[.int .u8 X.k, .string X.s, .int .i64 X.n, .slice X.p X.kids.len X.c], .int .i64 G]) ∧ ApF σ t X G w' := by
  rcases h.cases with ⟨h1, h2⟩ | ⟨h1, X, h2, h3, h4⟩
  · exact ⟨⟨0, ⟨#[]⟩, 0, none, 0, .nil⟩, 31, h2, .inl ⟨h1, rfl, rfl⟩⟩
  · exact ⟨X, 0, h2, .inr ⟨h1, rfl, h3, h4.at⟩⟩

/-- applied by two substitutions that are alike -/
theorem ApF.both {σ ρ : Sb} (h : STw σ ρ) (hE : Ends σ) {t X Y : Nd} {G K : Int} {w w' : World} (h1 : ApF σ t X G w) (h2 : ApF ρ t Y K w') :
    G = K ∧ X.twin Y ∧ X.kids.ok ∧ Y.kids.ok ∧ X.kids.len ≤ 1000000 ∧ Ts.At w X.p X.kids ∧ Ts.At w' Y.p Y.kids := by
  have hv := (h.vis hE 4097 (.cons (Nd.twin_refl t) .nil)).length
  rcases h1 with ⟨g1, rfl, rfl⟩ | ⟨g1, rfl, g3, g4⟩
  · rcases h2 with ⟨k1, rfl, rfl⟩ | ⟨k1, rfl, k3, k4⟩
    · exact ⟨rfl, Nd.twin_refl _, trivial, trivial, by simp [Ts.len], ⟨0, 0, .inl rfl, trivial⟩, ⟨0, 0, .inl rfl, trivial⟩⟩
    · omega
  · rcases h2 with ⟨k1, rfl, rfl⟩ | ⟨k1, rfl, k3, k4⟩
    · omega
    · have hw := h.wk hE (Nd.twin_refl t)
      refine ⟨rfl, ⟨by rw [g3.k, k3.k, hw.1], by rw [g3.s, k3.s, hw.2.1], by rw [g3.n, k3.n, hw.2.2.1], App.tw h hE g3.app (elems_tw hw.2.2.2) k3.app⟩, g3.ok, k3.ok, ?_, g4, k4⟩
      have := g3.sz
      have := Ts.len_size X.kids
      omega

theorem app_sz : ∀ t u : Ts, (t.app u).size = t.size + u.size
  | .nil, u => by simp [Ts.app, Ts.size]
  | .cons k s n p c kids rest, u => by simp only [Ts.app, Ts.size, app_sz rest u]; omega

theorem nodes_app : ∀ t u : Ts, nodesOf (t.app u) = nodesOf t ++ nodesOf u
  | .nil, u => rfl
  | .cons k s n p c kids rest, u => by simp only [Ts.app, nodesOf, nodes_app rest u, List.cons_append, List.append_assoc]

end Go.Proofs.Ytflomdnjabgnaaa
