import Derived.Test.YtnmhnaanpjlniaaUe0
import Derived.Test.YtnmhnaanpjlniaaAs
import Derived.Test.YtnmhnaanpjlniaaAi
import Derived.Test.YtnmhnaanpjlniaaTz
import Derived.Deep.DeepCutAuto
/-
  Plain facts of lists of terms, one behind the other.
-/
namespace Go.Proofs.Ytnmhnaanpjlniaa
open Go.RowKit

/-- one list behind the other -/
def Ts.app : Ts → Ts → Ts
  | .nil, u => u
  | .cons k s n p c kids rest, u => .cons k s n p c kids (rest.app u)

theorem app_nil : ∀ t : Ts, t.app .nil = t
  | .nil => rfl
  | .cons k s n p c kids rest => by simp only [Ts.app, app_nil rest]

theorem app_assoc : ∀ t u v : Ts, (t.app u).app v = t.app (u.app v)
  | .nil, _, _ => rfl
  | .cons k s n p c kids rest, u, v => by simp only [Ts.app, app_assoc rest u v]

theorem app_len : ∀ t u : Ts, (t.app u).len = t.len + u.len
  | .nil, u => by simp [Ts.app, Ts.len]
  | .cons k s n p c kids rest, u => by simp only [Ts.app, Ts.len, app_len rest u]; omega

theorem cellsL_app : ∀ t u : Ts, cellsL (t.app u) = cellsL t ++ cellsL u
  | .nil, u => rfl
  | .cons k s n p c kids rest, u => by simp only [Ts.app, cellsL, cellsL_app rest u, List.cons_append]

theorem app_twin : ∀ {t u v : Ts}, Ts.twin u v → Ts.twin (t.app u) (t.app v)
  | .nil, _, _, h => h
  | .cons _k _s _n _p _c kids rest, _, _, h => ⟨rfl, rfl, rfl, Ts.twin_refl kids, app_twin (t := rest) h⟩

theorem twin_trans : ∀ {t u v : Ts}, Ts.twin t u → Ts.twin u v → Ts.twin t v
  | .nil, .nil, .nil, _, _ => trivial
  | .cons _ _ _ _ _ _ _, .cons _ _ _ _ _ _ _, .cons _ _ _ _ _ _ _, h, h' => ⟨h.1.trans h'.1, h.2.1.trans h'.2.1, h.2.2.1.trans h'.2.2.1, twin_trans h.2.2.2.1 h'.2.2.2.1, twin_trans h.2.2.2.2 h'.2.2.2.2⟩
  | .nil, .cons .., _, h, _ => h.elim
  | .cons .., .nil, _, h, _ => h.elim
  | .nil, .nil, .cons .., _, h => h.elim
  | .cons .., .cons .., .nil, _, h => h.elim

theorem app_ok : ∀ {t u : Ts}, t.ok → u.ok → (t.app u).ok
  | .nil, _, _, h => h
  | .cons _k _s _n _p _c _kids _rest, _, h, h' => ⟨h.1, h.2.1, h.2.2.1, h.2.2.2.1, h.2.2.2.2.1, h.2.2.2.2.2.1, app_ok h.2.2.2.2.2.2 h'⟩

/-- the parts of a list's elements lie where they say -/
def KidsAt (w : World) : Ts → Prop
  | .nil => True
  | .cons _ _ _ p _ kids rest => Ts.At w p kids ∧ KidsAt w rest

theorem KidsAt.below {w w' : World} (hB : Below w.heap.size w w') : ∀ {ts : Ts}, KidsAt w ts → KidsAt w' ts
  | .nil, _ => trivial
  | .cons _ _ _ _ _ _ _, h => ⟨h.1.below hB, KidsAt.below hB h.2⟩

theorem KidsAt.app {w : World} : ∀ {t u : Ts}, KidsAt w t → KidsAt w u → KidsAt w (t.app u)
  | .nil, _, _, h => h
  | .cons _ _ _ _ _ _ _, _, h, h' => ⟨h.1, KidsAt.app h.2 h'⟩

theorem lies_cells {w : World} : ∀ {ts : Ts} {b o : Nat}, (∀ (j : Nat) (u : Value), (cellsL ts)[j]? = some u → w.cell? ⟨b, o + j, none⟩ = some u) → KidsAt w ts → ts.lies w b o
  | .nil, _, _, _, _ => trivial
  | .cons k s n p c kids rest, b, o, h, hk => by
    refine ⟨h 0 _ rfl, h 1 _ rfl, h 2 _ rfl, h 3 _ rfl, hk.1, lies_cells (fun j u hj => ?_) hk.2⟩
    have := h (j + 4) u (by simpa [cellsL] using hj)
    rw [show o + 4 + j = o + (j + 4) from by omega]
    exact this

end Go.Proofs.Ytnmhnaanpjlniaa
/-
  Layer 3: a list of terms put behind a row of one's own: the run, the step of a walk.
-/
namespace Go.Proofs.Ytnmhnaanpjlniaa
open Go.RowKit

theorem run_app_terms (w : World) (ty : TypeId) (base : Nat) (v : Value) (n : Nat) (xs : List Value) (hown : w.ownsRow base 25 4 v n xs) (p : Option Addr) (ts : Ts) (c : Nat) (hp : p = none → c = 0) (hat : Ts.At w p ts) (hsm : n + ts.len ≤ 1000000000) (hbase : base ≤ w.heap.size) :
    ∃ v' w', (Builtin.append_ #[23, 23] ty #[v, .slice p ts.len c]).run Try.prog w = .ok v' w' ∧ w'.ownsRow base 25 4 v' (n + ts.len) (xs ++ cellsL ts) ∧ w.grownBy w' v.ownBlock ∧ (v'.ownBlock = v.ownBlock ∨ v'.ownBlock = some w.heap.size) := by
  obtain ⟨i0, hi, hz0, hz1, hz2⟩ := info_parts infoTerm
  obtain ⟨b, o, h1, h2⟩ := hat
  cases p with
  | none =>
    have hn : ts = .nil := by
      rcases h1 with h | h
      · exact h
      · cases h
    subst hn
    obtain rfl := hp rfl
    refine ⟨v, w, run_append_owned_none (P := Try.prog) w base 23 ty 25 i0 4 Try.underlying23 hi v n xs hown, ?_, ?_, .inl rfl⟩
    · simpa [Ts.len, cellsL] using hown
    · exact ⟨rfl, rfl, rfl, Nat.le_refl _, fun _ _ _ => rfl⟩
  | some ad =>
    have hnews : ∀ j u, (cellsL ts)[j]? = some u → w.cell? (ad.add j) = some u := by
      rcases h1 with rfl | h
      · intro j u h; simp [cellsL] at h
      · cases h
        intro j u hj
        rw [Go.WideShapes.add_plain]
        exact cellsL_of ts h2 j u hj
    obtain ⟨v', w', h1, h2, h3, _, h5⟩ := run_append_own_at (P := Try.prog) w base 23 ty 25 i0 zeroTerm 4 56 Try.underlying23 hi hz0 hz1 hz2 rfl (by decide) v n xs hown ad ts.len c (cellsL ts) (cellsL_length ts) hnews (cellsL_one ts) (by unfold maxLen; omega) (by omega) hbase
    exact ⟨v', w', h1, h2, h3, h5⟩

theorem wp_app_terms {o : Oper} {a : Act} {w : World} {K : Act → World → Prop} {Q : Exit → Act → World → Prop} (s x : Operand) (ho : o.op = .call { callee := .builtin .append, args := #[s, x], argTypes := #[23, 23] })
    (base : Nat) (v : Value) (n : Nat) (xs : List Value) (hs : a.eval s = v) (hown : w.ownsRow base 25 4 v n xs) (p : Option Addr) (ts : Ts) (c : Nat) (hx : a.eval x = .slice p ts.len c) (hp : p = none → c = 0) (hat : Ts.At w p ts) (hsm : n + ts.len ≤ 1000000000) (hbase : base ≤ w.heap.size)
    (h : ∀ v' w', w'.ownsRow base 25 4 v' (n + ts.len) (xs ++ cellsL ts) → w.grownBy w' v.ownBlock → (v'.ownBlock = v.ownBlock ∨ v'.ownBlock = some w.heap.size) → K (a.put o.dst v') w') : Oper.wp Try.prog o a w K Q := by
  obtain ⟨v', w', hr, h2, h3, h5⟩ := run_app_terms w o.type base v n xs hown p ts c hp hat hsm hbase
  unfold Oper.wp execOp
  simp only [ho, resolve, invoke, builtin, Sem.run_bind, Sem.run_pure, Result.andThen_ok, List.map_toArray, List.map_cons, List.map_nil, hs, hx, hr]
  exact h v' w' h2 h3 h5

theorem if_wanted {o : Oper} {ys : Nat → Option Bool} {A B : Prop} (h : o.guard = none) (ha : A) : if Region.wanted o ys = true then A else B := by
  rw [if_pos (by unfold Region.wanted; rw [h])]
  exact ha

/-- a row of one's own, as a list of terms -/
theorem row_terms {w : World} {base : Nat} {v : Value} {n : Nat} {ts : Ts} (h : w.ownsRow base 25 4 v n (cellsL ts)) (hn : n = ts.len) (hk : KidsAt w ts) : ∃ q c, v = .slice q ts.len c ∧ Ts.At w q ts ∧ (ts.len ≤ c ∧ c ≤ 9223372036854775807) ∧ (q = none → c = 0) ∧ ∀ y, q = some y → base ≤ y.block := by
  subst hn
  rcases h.2 with ⟨rfl, h0⟩ | ⟨g, cap, cur, rfl, hg1, hg2, hg3, hg4, hg5, hg6⟩
  · have := Ts.len_zero h0
    subst this
    exact ⟨none, 0, rfl, ⟨0, 0, .inl rfl, trivial⟩, ⟨by simp [Ts.len], by omega⟩, fun _ => rfl, fun y hy => by cases hy⟩
  · obtain ⟨hrow, _⟩ := row_cells hg2 hg6 (cellsL_length ts)
    have : cap ≤ 9223372036854775807 := by unfold maxLen at hg4; omega
    exact ⟨some ⟨g, 0, none⟩, cap, rfl, ⟨g, 0, .inr rfl, lies_cells hrow hk⟩, ⟨hg3, this⟩, (fun h => by cases h), fun y hy => by cases hy; exact hg1⟩

/-- the list's elements' parts -/
theorem kidsAt_lies {w : World} : ∀ {ts : Ts} {b o : Nat}, ts.lies w b o → KidsAt w ts
  | .nil, _, _, _ => trivial
  | .cons _ _ _ _ _ _ _, _, _, ⟨_, _, _, _, h, h'⟩ => ⟨h, kidsAt_lies h'⟩

theorem kidsAt_at {w : World} {p : Option Addr} {ts : Ts} (h : Ts.At w p ts) : KidsAt w ts := by
  obtain ⟨b, o, _, h⟩ := h
  exact kidsAt_lies h

end Go.Proofs.Ytnmhnaanpjlniaa
/-
  Layer 3: the document's nodes: how many are visited, and where a variable is first visited: plain facts.
-/
namespace Go.Proofs.Ytnmhnaanpjlniaa
open Go.RowKit

/-- where a variable is first visited, counted from 1 on; -1: it is not -/
def posA (v : Int) : Nat → List Nd → Int
  | _, [] => -1
  | i, x :: l => if ((x.k == 1) && (x.n == v)) = true then ((i + 1 : Nat) : Int) else posA v (i + 1) l

theorem posA_le (v : Int) : ∀ (l : List Nd) (i : Nat), -1 ≤ posA v i l ∧ posA v i l ≤ ((i + l.length : Nat) : Int)
  | [], i => by simp only [posA, List.length_nil]; omega
  | x :: l, i => by
    simp only [posA, List.length_cons]
    split
    · omega
    · have := posA_le v l (i + 1); omega

theorem posA_app (v : Int) (x : Nd) : ∀ (l : List Nd) (i : Nat), posA v i (l ++ [x]) = if posA v i l < 0 then (if ((x.k == 1) && (x.n == v)) = true then ((i + l.length + 1 : Nat) : Int) else -1) else posA v i l
  | [], i => by simp [posA]
  | y :: l, i => by
    simp only [List.cons_append, posA, List.length_cons]
    split
    · rw [if_neg (by omega)]
    · rw [posA_app v x l (i + 1), show i + 1 + l.length + 1 = i + (l.length + 1) + 1 by omega]

/-- the two ways of telling -/
theorem occ_pos (v : Int) : ∀ (l : List Nd) (i : Nat), i + l.length ≤ 4097 → i ≤ 4096 →
    occ v (num i l) = if 0 ≤ posA v i l ∧ posA v i l ≤ 4096 then (true, 0) else if 4096 < i + l.length then (false, 31) else (false, 0)
  | [], i, _, h => by
    have hp : posA v i [] = -1 := rfl
    rw [hp, if_neg (by omega), if_neg (by simp only [List.length_nil]; omega)]
    rfl
  | x :: l, i, h, h' => by
    simp only [List.length_cons] at h ⊢
    have ih := occ_pos v l (i + 1)
    have hb := posA_le v l (i + 1)
    have e1 : posA v i (x :: l) = if ((x.k == 1) && (x.n == v)) = true then ((i + 1 : Nat) : Int) else posA v (i + 1) l := rfl
    have e2 : occ v (num i (x :: l)) = if 4096 < i + 1 then (false, 31) else if ((x.k == 1) && (x.n == v)) = true then (true, 0) else occ v (num (i + 1) l) := rfl
    rw [e1, e2]
    have e3 : posA v (i + 1) [] = -1 := rfl
    generalize posA v i (x :: l) = z at *
    by_cases h1 : 4096 < i + 1
    · rw [if_pos h1]
      have hl : l = [] := List.eq_nil_of_length_eq_zero (by omega)
      subst hl
      rw [e3]
      by_cases h2 : ((x.k == 1) && (x.n == v)) = true
      · rw [if_pos h2, if_neg (by omega), if_pos (by simp only [List.length_nil]; omega)]
      · rw [if_neg h2, if_neg (by omega), if_pos (by simp only [List.length_nil]; omega)]
    · rw [if_neg h1]
      by_cases h2 : ((x.k == 1) && (x.n == v)) = true
      · rw [if_pos h2, if_pos h2, if_pos (by omega)]
      · rw [if_neg h2, if_neg h2, ih (by omega) (by omega), show i + 1 + l.length = i + (l.length + 1) by omega]

theorem elems_small : ∀ {ts : Ts} {x : Nd}, x ∈ elems ts → x.kids.size < ts.size
  | .nil, _, h => by simp [elems] at h
  | .cons k s n p c kids rest, x, h => by
    simp only [elems, List.mem_cons] at h
    simp only [Ts.size]
    rcases h with rfl | h
    · simp only; omega
    · have := elems_small h; omega

theorem elems_app : ∀ t u : Ts, elems (t.app u) = elems t ++ elems u
  | .nil, _ => rfl
  | .cons k s n p c kids rest, u => by simp only [Ts.app, elems, elems_app rest u, List.cons_append]

theorem own_below {w w' : World} {base n size : Nat} {e : TypeId} {v : Value} {xs : List Value} (h : w.ownsRow base e size v n xs) (hB : Below w.heap.size w w') : w'.ownsRow base e size v n xs :=
  h.kept (row := none) ⟨hB.os, hB.tape, hB.output, hB.size, fun k hk _ => hB.block k hk⟩ (by cases v.ownBlock <;> simp)

/-- a list of terms that is still to be visited -/
structure Td (q : Option Addr) (c : Nat) (td : Ts) (w : World) : Prop where
  at_ : Ts.At w q td
  ok : td.ok
  sm : ∀ x ∈ elems td, x.kids.size ≤ 5000
  cap : td.len ≤ c ∧ c ≤ 9223372036854775807
  nn : q = none → c = 0

theorem Td.below {q : Option Addr} {c : Nat} {td : Ts} {w w' : World} (h : Td q c td w) (hB : Below w.heap.size w w') : Td q c td w' := ⟨h.at_.below hB, h.ok, h.sm, h.cap, h.nn⟩

/-- what is bound, in memory -/
theorem BsAt.of_look {w : World} {p : Option Addr} {l : List (Int × Nd)} (h : BsAt w p l) {v : Int} {x : Nd} (hx : look l v = some x) : Ts.At w x.p x.kids := by
  obtain ⟨b, o, _, hl⟩ := h
  obtain ⟨j, hj⟩ := List.getElem?_of_mem (look_mem hx)
  exact (hl.get hj).at_

/-- what is bound is not great -/
def Small (σ : Sb) : Prop := ∀ u x, σ u = some x → x.ok ∧ x.kids.size ≤ 5000

/-- a term walked, in memory -/
theorem walked_lies {l : List (Int × Nd)} (hE : Ends (look l)) (hS : Small (look l)) {w : World} {p : Option Addr} (hat : BsAt w p l) {t : Nd} (hok : t.ok) (hsz : t.kids.size ≤ 5000) (ht : Ts.At w t.p t.kids) :
    (wk (look l) t).ok ∧ (wk (look l) t).kids.size ≤ 5000 ∧ Ts.At w (wk (look l) t).p (wk (look l) t).kids := by
  rcases wk_cases hE t with h | ⟨v, h⟩
  · rw [h]; exact ⟨hok, hsz, ht⟩
  · exact ⟨(hS _ _ h).1, (hS _ _ h).2, hat.of_look h⟩

/-- the first that is to be visited, and the others -/
theorem Td.head {q : Option Addr} {c : Nat} {k : Int} {s : ByteArray} {n : Int} {p : Option Addr} {d : Nat} {kids rest : Ts} {w : World} (h : Td q c (.cons k s n p d kids rest) w) : ∃ b o, q = some ⟨b, o, none⟩ ∧ b < w.heap.size ∧
    (w.cell? ⟨b, o, none⟩ = some (.int .u8 k) ∧ w.cell? ⟨b, o + 1, none⟩ = some (.string s) ∧ w.cell? ⟨b, o + 2, none⟩ = some (.int .i64 n) ∧ w.cell? ⟨b, o + 3, none⟩ = some (.slice p kids.len d)) ∧
    Nd.ok ⟨k, s, n, p, d, kids⟩ ∧ kids.size ≤ 5000 ∧ Ts.At w p kids ∧ ∃ q', (if c = 1 then some (⟨b, o, none⟩ : Addr) else some ⟨b, o + 4, none⟩) = q' ∧ Td q' (c - 1) rest w := by
  obtain ⟨b, o, h1, h2⟩ := h.at_
  obtain ⟨c0, c1, c2, c3, hk, hr⟩ := h2
  have hq : q = some ⟨b, o, none⟩ := by
    rcases h1 with h1 | h1
    · cases h1
    · exact h1
  obtain ⟨o1, o2, o3, o4, o5, o6, o7⟩ := h.ok
  have hcap := h.cap
  simp only [Ts.len] at hcap
  refine ⟨b, o, hq, World.block_lt_of_cell? _ _ c0, ⟨c0, c1, c2, c3⟩, ⟨o1, o2, o3, o4, o5, o6, trivial⟩, h.sm ⟨k, s, n, p, d, kids⟩ (by simp [elems]), hk, _, rfl, ?_, o7, fun x hx => h.sm x (by simp [elems, hx]), ⟨by omega, by omega⟩, fun hn => ?_⟩
  · by_cases e : c = 1
    · have : rest = .nil := Ts.len_zero (by omega)
      subst this
      exact ⟨0, 0, .inl rfl, trivial⟩
    · rw [if_neg e]
      exact ⟨b, o + 4, .inr rfl, hr⟩
  · split at hn <;> cases hn

/-- what is to be visited next -/
theorem Td.next {w : World} {base : Nat} {v : Value} {n : Nat} {xk rest : Ts} {q : Option Addr} {c : Nat} (h : w.ownsRow base 25 4 v n (cellsL xk ++ cellsL rest)) (hn : n = xk.len + rest.len) (hx : Ts.At w q xk) (hok : xk.ok) (hsz : xk.size ≤ 5000) {q' : Option Addr} (hr : Td q' c rest w) :
    ∃ q'' c'', v = .slice q'' (xk.app rest).len c'' ∧ Td q'' c'' (xk.app rest) w := by
  rw [← cellsL_app] at h
  obtain ⟨q'', c'', h1, h2, h3, h4, _⟩ := row_terms h (by rw [hn, app_len]) ((kidsAt_at hx).app (kidsAt_at hr.at_))
  refine ⟨q'', c'', h1, h2, app_ok hok hr.ok, fun x hm => ?_, h3, h4⟩
  rw [elems_app, List.mem_append] at hm
  rcases hm with hm | hm
  · have := elems_small hm; omega
  · exact hr.sm x hm

end Go.Proofs.Ytnmhnaanpjlniaa
/-
  Whether terms are too great, as a Boolean that is known.
-/
namespace Go.Proofs.Ytnmhnaanpjlniaa
open Go.RowKit

theorem great_is (ts : Ts) (hok : ts.ok) (b : Bool) (hb : decide (1000 < manyP ts 0) = b) (w : World) (p : Option Addr) (c : Nat) (hat : Ts.At w p ts) (hl : ts.len ≤ 9223372036854775807) :
    Calls Try.prog 25 #[.slice p ts.len c] w fun e w' => e = .returned (.bool b) ∧ Below w.heap.size w w' := by
  subst hb
  refine (great_any ts w p c hat hok hl).mono ?_
  rintro e w' ⟨rfl, q, rfl⟩
  exact ⟨rfl, below_drewN (Below.refl _ _) q⟩

end Go.Proofs.Ytnmhnaanpjlniaa
