import Derived.Test.YtflomdnjabgnaaaTz
import Derived.Laws.AppendOwnNone
import Derived.Test.YtflomdnjabgnaaaAs
import Derived.Test.YtflomdnjabgnaaaAr
/-
  The cells of a list of terms, one behind the other.
-/
namespace Go.Proofs.Ytflomdnjabgnaaa
open Go.RowKit

/-- the cells of a list, one behind the other -/
def cellsL : Ts → List Value
  | .nil => []
  | .cons k s n p c kids rest => .int .u8 k :: .string s :: .int .i64 n :: .slice p kids.len c :: cellsL rest

theorem cellsL_length : ∀ ts : Ts, (cellsL ts).length = ts.len * 4
  | .nil => rfl
  | .cons _ _ _ _ _ _ r => by simp only [cellsL, List.length_cons, cellsL_length r, Ts.len]; omega

theorem cellsL_one : ∀ (ts : Ts), ∀ u ∈ cellsL ts, u.oneCell' = true
  | .nil, u, h => by cases h
  | .cons _ _ _ _ _ _ r, u, h => by
    simp only [cellsL, List.mem_cons] at h
    rcases h with rfl | rfl | rfl | rfl | h
    · rfl
    · rfl
    · rfl
    · rfl
    · exact cellsL_one r u h

theorem cellsL_of {w : World} : ∀ (ts : Ts) {b o : Nat}, ts.lies w b o → ∀ (j : Nat) (u : Value), (cellsL ts)[j]? = some u → w.cell? ⟨b, o + j, none⟩ = some u
  | .nil, _, _, _, j, u, h => by simp [cellsL] at h
  | .cons _ _ _ _ _ _ r, b, o, hl, j, u, h => by
    obtain ⟨h0, h1, h2, h3, _, h5⟩ := hl
    match j, h with
    | 0, h => simp [cellsL] at h; subst h; exact h0
    | 1, h => simp [cellsL] at h; subst h; exact h1
    | 2, h => simp [cellsL] at h; subst h; exact h2
    | 3, h => simp [cellsL] at h; subst h; exact h3
    | j + 4, h =>
      have := cellsL_of r h5 j u (by simpa [cellsL] using h)
      rw [show o + (j + 4) = o + 4 + j from by omega]
      exact this

theorem lies_copy {W W' : World} (hst : ∀ b o, b < W.heap.size → W'.cell? ⟨b, o, none⟩ = W.cell? ⟨b, o, none⟩) : ∀ (ts : Ts) {b o b' o' : Nat}, ts.lies W b o → (∀ (j : Nat) (u : Value), (cellsL ts)[j]? = some u → W'.cell? ⟨b', o' + j, none⟩ = some u) → ts.lies W' b' o'
  | .nil, _, _, _, _, _, _ => trivial
  | .cons _ _ _ _ _ kids r, b, o, b', o', hl, h => by
    obtain ⟨_, _, _, _, ⟨bb, oo, hk, hlk⟩, h5⟩ := hl
    refine ⟨h 0 _ rfl, h 1 _ rfl, h 2 _ rfl, h 3 _ rfl, ⟨bb, oo, hk, Ts.lies_stay hst kids hlk⟩, lies_copy hst r h5 fun j u hj => ?_⟩
    have := h (j + 4) u (by simpa [cellsL] using hj)
    rw [show o' + 4 + j = o' + (j + 4) from by omega]
    exact this

theorem row_cells {w : World} {g n size : Nat} {e : TypeId} {cur : Array Value} {xs : List Value} (hg : w.heap[g]? = some (.cells cur e (0, 0))) (ht : cur.toList.take (n * size) = xs) (hl : xs.length = n * size) :
    (∀ j u, xs[j]? = some u → w.cell? ⟨g, 0 + j, none⟩ = some u) ∧ ∀ y, w.frozen? ⟨g, y, none⟩ = false := by
  refine ⟨fun j u hj => ?_, fun y => ?_⟩
  · have hjl : j < n * size := by have := (List.getElem?_eq_some_iff.1 hj).1; omega
    rw [← ht, List.getElem?_take_of_lt hjl, Array.getElem?_toList] at hj
    simp only [World.cell?, hg, Nat.zero_add]
    exact hj
  · simp [World.frozen?, hg]

end Go.Proofs.Ytflomdnjabgnaaa
/-
  Plain facts of lists of terms, one behind the other.
-/
namespace Go.Proofs.Ytflomdnjabgnaaa
open Go.RowKit

/-- one list behind the other -/
def Ts.app : Ts → Ts → Ts
  | .nil, u => u
  | .cons k s n p c kids rest, u => .cons k s n p c kids (rest.app u)

theorem app_nil : ∀ t : Ts, t.app .nil = t
  | .nil => rfl
  | .cons k s n p c kids rest => by simp only [Ts.app, app_nil rest]

theorem app_assoc : ∀ t u v : Ts, (t.app u).app v = t.app (u.app v)
  | .nil, _, _ => rfl
  | .cons k s n p c kids rest, u, v => by simp only [Ts.app, app_assoc rest u v]

theorem app_len : ∀ t u : Ts, (t.app u).len = t.len + u.len
  | .nil, u => by simp [Ts.app, Ts.len]
  | .cons k s n p c kids rest, u => by simp only [Ts.app, Ts.len, app_len rest u]; omega

theorem cellsL_app : ∀ t u : Ts, cellsL (t.app u) = cellsL t ++ cellsL u
  | .nil, u => rfl
  | .cons k s n p c kids rest, u => by simp only [Ts.app, cellsL, cellsL_app rest u, List.cons_append]

theorem app_twin : ∀ {t u v : Ts}, Ts.twin u v → Ts.twin (t.app u) (t.app v)
  | .nil, _, _, h => h
  | .cons _k _s _n _p _c kids rest, _, _, h => ⟨rfl, rfl, rfl, Ts.twin_refl kids, app_twin (t := rest) h⟩

theorem twin_trans : ∀ {t u v : Ts}, Ts.twin t u → Ts.twin u v → Ts.twin t v
  | .nil, .nil, .nil, _, _ => trivial
  | .cons _ _ _ _ _ _ _, .cons _ _ _ _ _ _ _, .cons _ _ _ _ _ _ _, h, h' => ⟨h.1.trans h'.1, h.2.1.trans h'.2.1, h.2.2.1.trans h'.2.2.1, twin_trans h.2.2.2.1 h'.2.2.2.1, twin_trans h.2.2.2.2 h'.2.2.2.2⟩
  | .nil, .cons .., _, h, _ => h.elim
  | .cons .., .nil, _, h, _ => h.elim
  | .nil, .nil, .cons .., _, h => h.elim
  | .cons .., .cons .., .nil, _, h => h.elim

theorem app_ok : ∀ {t u : Ts}, t.ok → u.ok → (t.app u).ok
  | .nil, _, _, h => h
  | .cons _k _s _n _p _c _kids _rest, _, h, h' => ⟨h.1, h.2.1, h.2.2.1, h.2.2.2.1, h.2.2.2.2.1, h.2.2.2.2.2.1, app_ok h.2.2.2.2.2.2 h'⟩

/-- the parts of a list's elements lie where they say -/
def KidsAt (w : World) : Ts → Prop
  | .nil => True
  | .cons _ _ _ p _ kids rest => Ts.At w p kids ∧ KidsAt w rest

theorem KidsAt.below {w w' : World} (hB : Below w.heap.size w w') : ∀ {ts : Ts}, KidsAt w ts → KidsAt w' ts
  | .nil, _ => trivial
  | .cons _ _ _ _ _ _ _, h => ⟨h.1.below hB, KidsAt.below hB h.2⟩

theorem KidsAt.app {w : World} : ∀ {t u : Ts}, KidsAt w t → KidsAt w u → KidsAt w (t.app u)
  | .nil, _, _, h => h
  | .cons _ _ _ _ _ _ _, _, h, h' => ⟨h.1, KidsAt.app h.2 h'⟩

theorem lies_cells {w : World} : ∀ {ts : Ts} {b o : Nat}, (∀ (j : Nat) (u : Value), (cellsL ts)[j]? = some u → w.cell? ⟨b, o + j, none⟩ = some u) → KidsAt w ts → ts.lies w b o
  | .nil, _, _, _, _ => trivial
  | .cons k s n p c kids rest, b, o, h, hk => by
    refine ⟨h 0 _ rfl, h 1 _ rfl, h 2 _ rfl, h 3 _ rfl, hk.1, lies_cells (fun j u hj => ?_) hk.2⟩
    have := h (j + 4) u (by simpa [cellsL] using hj)
    rw [show o + 4 + j = o + (j + 4) from by omega]
    exact this

end Go.Proofs.Ytflomdnjabgnaaa
/-
  Layer 3: a list of terms put behind a row of one's own: the run, the step of a walk.
-/
namespace Go.Proofs.Ytflomdnjabgnaaa
open Go.RowKit

theorem run_app_terms (w : World) (ty : TypeId) (base : Nat) (v : Value) (n : Nat) (xs : List Value) (hown : w.ownsRow base 24 4 v n xs) (p : Option Addr) (ts : Ts) (c : Nat) (hp : p = none → c = 0) (hat : Ts.At w p ts) (hsm : n + ts.len ≤ 1000000000) (hbase : base ≤ w.heap.size) :
    ∃ v' w', (Builtin.append_ #[22, 22] ty #[v, .slice p ts.len c]).run Try.prog w = .ok v' w' ∧ w'.ownsRow base 24 4 v' (n + ts.len) (xs ++ cellsL ts) ∧ w.grownBy w' v.ownBlock ∧ (v'.ownBlock = v.ownBlock ∨ v'.ownBlock = some w.heap.size) := by
  obtain ⟨i0, hi, hz0, hz1, hz2⟩ := info_parts infoTerm
  obtain ⟨b, o, h1, h2⟩ := hat
  cases p with
  | none =>
    have hn : ts = .nil := by
      rcases h1 with h | h
      · exact h
      · cases h
    subst hn
    obtain rfl := hp rfl
    refine ⟨v, w, run_append_owned_none (P := Try.prog) w base 22 ty 24 i0 4 Try.underlying22 hi v n xs hown, ?_, ?_, .inl rfl⟩
    · simpa [Ts.len, cellsL] using hown
    · exact ⟨rfl, rfl, rfl, Nat.le_refl _, fun _ _ _ => rfl⟩
  | some ad =>
    have hnews : ∀ j u, (cellsL ts)[j]? = some u → w.cell? (ad.add j) = some u := by
      rcases h1 with rfl | h
      · intro j u h; simp [cellsL] at h
      · cases h
        intro j u hj
        rw [Go.WideShapes.add_plain]
        exact cellsL_of ts h2 j u hj
    obtain ⟨v', w', h1, h2, h3, _, h5⟩ := run_append_own_at (P := Try.prog) w base 22 ty 24 i0 zeroTerm 4 56 Try.underlying22 hi hz0 hz1 hz2 rfl (by decide) v n xs hown ad ts.len c (cellsL ts) (cellsL_length ts) hnews (cellsL_one ts) (by unfold maxLen; omega) (by omega) hbase
    exact ⟨v', w', h1, h2, h3, h5⟩

theorem wp_app_terms {o : Oper} {a : Act} {w : World} {K : Act → World → Prop} {Q : Exit → Act → World → Prop} (s x : Operand) (ho : o.op = .call { callee := .builtin .append, args := #[s, x], argTypes := #[22, 22] })
    (base : Nat) (v : Value) (n : Nat) (xs : List Value) (hs : a.eval s = v) (hown : w.ownsRow base 24 4 v n xs) (p : Option Addr) (ts : Ts) (c : Nat) (hx : a.eval x = .slice p ts.len c) (hp : p = none → c = 0) (hat : Ts.At w p ts) (hsm : n + ts.len ≤ 1000000000) (hbase : base ≤ w.heap.size)
    (h : ∀ v' w', w'.ownsRow base 24 4 v' (n + ts.len) (xs ++ cellsL ts) → w.grownBy w' v.ownBlock → (v'.ownBlock = v.ownBlock ∨ v'.ownBlock = some w.heap.size) → K (a.put o.dst v') w') : Oper.wp Try.prog o a w K Q := by
  obtain ⟨v', w', hr, h2, h3, h5⟩ := run_app_terms w o.type base v n xs hown p ts c hp hat hsm hbase
  unfold Oper.wp execOp
  simp only [ho, resolve, invoke, builtin, Sem.run_bind, Sem.run_pure, Result.andThen_ok, List.map_toArray, List.map_cons, List.map_nil, hs, hx, hr]
  exact h v' w' h2 h3 h5

theorem if_wanted {o : Oper} {ys : Nat → Option Bool} {A B : Prop} (h : o.guard = none) (ha : A) : if Region.wanted o ys = true then A else B := by
  rw [if_pos (by unfold Region.wanted; rw [h])]
  exact ha

/-- a row of one's own, as a list of terms -/
theorem row_terms {w : World} {base : Nat} {v : Value} {n : Nat} {ts : Ts} (h : w.ownsRow base 24 4 v n (cellsL ts)) (hn : n = ts.len) (hk : KidsAt w ts) : ∃ q c, v = .slice q ts.len c ∧ Ts.At w q ts ∧ (ts.len ≤ c ∧ c ≤ 9223372036854775807) ∧ (q = none → c = 0) ∧ ∀ y, q = some y → base ≤ y.block := by
  subst hn
  rcases h.2 with ⟨rfl, h0⟩ | ⟨g, cap, cur, rfl, hg1, hg2, hg3, hg4, hg5, hg6⟩
  · have := Ts.len_zero h0
    subst this
    exact ⟨none, 0, rfl, ⟨0, 0, .inl rfl, trivial⟩, ⟨by simp [Ts.len], by omega⟩, fun _ => rfl, fun y hy => by cases hy⟩
  · obtain ⟨hrow, _⟩ := row_cells hg2 hg6 (cellsL_length ts)
    have : cap ≤ 9223372036854775807 := by unfold maxLen at hg4; omega
    exact ⟨some ⟨g, 0, none⟩, cap, rfl, ⟨g, 0, .inr rfl, lies_cells hrow hk⟩, ⟨hg3, this⟩, (fun h => by cases h), fun y hy => by cases hy; exact hg1⟩

/-- the list's elements' parts -/
theorem kidsAt_lies {w : World} : ∀ {ts : Ts} {b o : Nat}, ts.lies w b o → KidsAt w ts
  | .nil, _, _, _ => trivial
  | .cons _ _ _ _ _ _ _, _, _, ⟨_, _, _, _, h, h'⟩ => ⟨h, kidsAt_lies h'⟩

theorem kidsAt_at {w : World} {p : Option Addr} {ts : Ts} (h : Ts.At w p ts) : KidsAt w ts := by
  obtain ⟨b, o, _, h⟩ := h
  exact kidsAt_lies h

end Go.Proofs.Ytflomdnjabgnaaa
