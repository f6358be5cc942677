import Derived.Test.YtnmhnaanpjlniaaAs
import Derived.Test.YtnmhnaanpjlniaaWd0
import Derived.Test.YtnmhnaanpjlniaaAi
import Derived.Test.YtnmhnaanpjlniaaTz
import Derived.Deep.DeepCutAuto
import Derived.Test.YtnmhnaanpjlniaaTq
/-
  Layer 3: a list of terms put behind a row of one's own: the run, the step of a walk.
-/
namespace Go.Proofs.Ytnmhnaanpjlniaa
open Go.RowKit

theorem run_app_terms (w : World) (ty : TypeId) (base : Nat) (v : Value) (n : Nat) (xs : List Value) (hown : w.ownsRow base 25 4 v n xs) (p : Option Addr) (ts : Ts) (c : Nat) (hp : p = none → c = 0) (hat : Ts.At w p ts) (hsm : n + ts.len ≤ 1000000000) (hbase : base ≤ w.heap.size) :
    ∃ v' w', (Builtin.append_ #[23, 23] ty #[v, .slice p ts.len c]).run Try.prog w = .ok v' w' ∧ w'.ownsRow base 25 4 v' (n + ts.len) (xs ++ cellsL ts) ∧ w.grownBy w' v.ownBlock ∧ (v'.ownBlock = v.ownBlock ∨ v'.ownBlock = some w.heap.size) := by
  obtain ⟨i0, hi, hz0, hz1, hz2⟩ := info_parts infoTerm
  obtain ⟨b, o, h1, h2⟩ := hat
  cases p with
  | none =>
    have hn : ts = .nil := by
      rcases h1 with h | h
      · exact h
      · cases h
    subst hn
    obtain rfl := hp rfl
    refine ⟨v, w, run_append_owned_none (P := Try.prog) w base 23 ty 25 i0 4 Try.underlying23 hi v n xs hown, ?_, ?_, .inl rfl⟩
    · simpa [Ts.len, cellsL] using hown
    · exact ⟨rfl, rfl, rfl, Nat.le_refl _, fun _ _ _ => rfl⟩
  | some ad =>
    have hnews : ∀ j u, (cellsL ts)[j]? = some u → w.cell? (ad.add j) = some u := by
      rcases h1 with rfl | h
      · intro j u h; simp [cellsL] at h
      · cases h
        intro j u hj
        rw [Go.WideShapes.add_plain]
        exact cellsL_of ts h2 j u hj
    obtain ⟨v', w', h1, h2, h3, _, h5⟩ := run_append_own_at (P := Try.prog) w base 23 ty 25 i0 zeroTerm 4 56 Try.underlying23 hi hz0 hz1 hz2 rfl (by decide) v n xs hown ad ts.len c (cellsL ts) (cellsL_length ts) hnews (cellsL_one ts) (by unfold maxLen; omega) (by omega) hbase
    exact ⟨v', w', h1, h2, h3, h5⟩

theorem wp_app_terms {o : Oper} {a : Act} {w : World} {K : Act → World → Prop} {Q : Exit → Act → World → Prop} (s x : Operand) (ho : o.op = .call { callee := .builtin .append, args := #[s, x], argTypes := #[23, 23] })
    (base : Nat) (v : Value) (n : Nat) (xs : List Value) (hs : a.eval s = v) (hown : w.ownsRow base 25 4 v n xs) (p : Option Addr) (ts : Ts) (c : Nat) (hx : a.eval x = .slice p ts.len c) (hp : p = none → c = 0) (hat : Ts.At w p ts) (hsm : n + ts.len ≤ 1000000000) (hbase : base ≤ w.heap.size)
    (h : ∀ v' w', w'.ownsRow base 25 4 v' (n + ts.len) (xs ++ cellsL ts) → w.grownBy w' v.ownBlock → (v'.ownBlock = v.ownBlock ∨ v'.ownBlock = some w.heap.size) → K (a.put o.dst v') w') : Oper.wp Try.prog o a w K Q := by
  obtain ⟨v', w', hr, h2, h3, h5⟩ := run_app_terms w o.type base v n xs hown p ts c hp hat hsm hbase
  unfold Oper.wp execOp
  simp only [ho, resolve, invoke, builtin, Sem.run_bind, Sem.run_pure, Result.andThen_ok, List.map_toArray, List.map_cons, List.map_nil, hs, hx, hr]
  exact h v' w' h2 h3 h5

theorem if_wanted {o : Oper} {ys : Nat → Option Bool} {A B : Prop} (h : o.guard = none) (ha : A) : if Region.wanted o ys = true then A else B := by
  rw [if_pos (by unfold Region.wanted; rw [h])]
  exact ha

/-- a row of one's own, as a list of terms -/
theorem row_terms {w : World} {base : Nat} {v : Value} {n : Nat} {ts : Ts} (h : w.ownsRow base 25 4 v n (cellsL ts)) (hn : n = ts.len) (hk : KidsAt w ts) : ∃ q c, v = .slice q ts.len c ∧ Ts.At w q ts ∧ (ts.len ≤ c ∧ c ≤ 9223372036854775807) ∧ (q = none → c = 0) ∧ ∀ y, q = some y → base ≤ y.block := by
  subst hn
  rcases h.2 with ⟨rfl, h0⟩ | ⟨g, cap, cur, rfl, hg1, hg2, hg3, hg4, hg5, hg6⟩
  · have := Ts.len_zero h0
    subst this
    exact ⟨none, 0, rfl, ⟨0, 0, .inl rfl, trivial⟩, ⟨by simp [Ts.len], by omega⟩, fun _ => rfl, fun y hy => by cases hy⟩
  · obtain ⟨hrow, _⟩ := row_cells hg2 hg6 (cellsL_length ts)
    have : cap ≤ 9223372036854775807 := by unfold maxLen at hg4; omega
    exact ⟨some ⟨g, 0, none⟩, cap, rfl, ⟨g, 0, .inr rfl, lies_cells hrow hk⟩, ⟨hg3, this⟩, (fun h => by cases h), fun y hy => by cases hy; exact hg1⟩

/-- the list's elements' parts -/
theorem kidsAt_lies {w : World} : ∀ {ts : Ts} {b o : Nat}, ts.lies w b o → KidsAt w ts
  | .nil, _, _, _ => trivial
  | .cons _ _ _ _ _ _ _, _, _, ⟨_, _, _, _, h, h'⟩ => ⟨h, kidsAt_lies h'⟩

theorem kidsAt_at {w : World} {p : Option Addr} {ts : Ts} (h : Ts.At w p ts) : KidsAt w ts := by
  obtain ⟨b, o, _, h⟩ := h
  exact kidsAt_lies h

end Go.Proofs.Ytnmhnaanpjlniaa
/-
  Layer 3: the document's nodes: how many are visited, and where a variable is first visited: plain facts.
-/
namespace Go.Proofs.Ytnmhnaanpjlniaa
open Go.RowKit

/-- where a variable is first visited, counted from 1 on; -1: it is not -/
def posA (v : Int) : Nat → List Nd → Int
  | _, [] => -1
  | i, x :: l => if ((x.k == 1) && (x.n == v)) = true then ((i + 1 : Nat) : Int) else posA v (i + 1) l

theorem posA_le (v : Int) : ∀ (l : List Nd) (i : Nat), -1 ≤ posA v i l ∧ posA v i l ≤ ((i + l.length : Nat) : Int)
  | [], i => by simp only [posA, List.length_nil]; omega
  | x :: l, i => by
    simp only [posA, List.length_cons]
    split
    · omega
    · have := posA_le v l (i + 1); omega

theorem posA_app (v : Int) (x : Nd) : ∀ (l : List Nd) (i : Nat), posA v i (l ++ [x]) = if posA v i l < 0 then (if ((x.k == 1) && (x.n == v)) = true then ((i + l.length + 1 : Nat) : Int) else -1) else posA v i l
  | [], i => by simp [posA]
  | y :: l, i => by
    simp only [List.cons_append, posA, List.length_cons]
    split
    · rw [if_neg (by omega)]
    · rw [posA_app v x l (i + 1), show i + 1 + l.length + 1 = i + (l.length + 1) + 1 by omega]

/-- the two ways of telling -/
theorem occ_pos (v : Int) : ∀ (l : List Nd) (i : Nat), i + l.length ≤ 4097 → i ≤ 4096 →
    occ v (num i l) = if 0 ≤ posA v i l ∧ posA v i l ≤ 4096 then (true, 0) else if 4096 < i + l.length then (false, 31) else (false, 0)
  | [], i, _, h => by
    have hp : posA v i [] = -1 := rfl
    rw [hp, if_neg (by omega), if_neg (by simp only [List.length_nil]; omega)]
    rfl
  | x :: l, i, h, h' => by
    simp only [List.length_cons] at h ⊢
    have ih := occ_pos v l (i + 1)
    have hb := posA_le v l (i + 1)
    have e1 : posA v i (x :: l) = if ((x.k == 1) && (x.n == v)) = true then ((i + 1 : Nat) : Int) else posA v (i + 1) l := rfl
    have e2 : occ v (num i (x :: l)) = if 4096 < i + 1 then (false, 31) else if ((x.k == 1) && (x.n == v)) = true then (true, 0) else occ v (num (i + 1) l) := rfl
    rw [e1, e2]
    have e3 : posA v (i + 1) [] = -1 := rfl
    generalize posA v i (x :: l) = z at *
    by_cases h1 : 4096 < i + 1
    · rw [if_pos h1]
      have hl : l = [] := List.eq_nil_of_length_eq_zero (by omega)
      subst hl
      rw [e3]
      by_cases h2 : ((x.k == 1) && (x.n == v)) = true
      · rw [if_pos h2, if_neg (by omega), if_pos (by simp only [List.length_nil]; omega)]
      · rw [if_neg h2, if_neg (by omega), if_pos (by simp only [List.length_nil]; omega)]
    · rw [if_neg h1]
      by_cases h2 : ((x.k == 1) && (x.n == v)) = true
      · rw [if_pos h2, if_pos h2, if_pos (by omega)]
      · rw [if_neg h2, if_neg h2, ih (by omega) (by omega), show i + 1 + l.length = i + (l.length + 1) by omega]

theorem elems_small : ∀ {ts : Ts} {x : Nd}, x ∈ elems ts → x.kids.size < ts.size
  | .nil, _, h => by simp [elems] at h
  | .cons k s n p c kids rest, x, h => by
    simp only [elems, List.mem_cons] at h
    simp only [Ts.size]
    rcases h with rfl | h
    · simp only; omega
    · have := elems_small h; omega

theorem elems_app : ∀ t u : Ts, elems (t.app u) = elems t ++ elems u
  | .nil, _ => rfl
  | .cons k s n p c kids rest, u => by simp only [Ts.app, elems, elems_app rest u, List.cons_append]

theorem own_below {w w' : World} {base n size : Nat} {e : TypeId} {v : Value} {xs : List Value} (h : w.ownsRow base e size v n xs) (hB : Below w.heap.size w w') : w'.ownsRow base e size v n xs :=
  h.kept (row := none) ⟨hB.os, hB.tape, hB.output, hB.size, fun k hk _ => hB.block k hk⟩ (by cases v.ownBlock <;> simp)

/-- a list of terms that is still to be visited -/
structure Td (q : Option Addr) (c : Nat) (td : Ts) (w : World) : Prop where
  at_ : Ts.At w q td
  ok : td.ok
  sm : ∀ x ∈ elems td, x.kids.size ≤ 5000
  cap : td.len ≤ c ∧ c ≤ 9223372036854775807
  nn : q = none → c = 0

theorem Td.below {q : Option Addr} {c : Nat} {td : Ts} {w w' : World} (h : Td q c td w) (hB : Below w.heap.size w w') : Td q c td w' := ⟨h.at_.below hB, h.ok, h.sm, h.cap, h.nn⟩

/-- what is bound, in memory -/
theorem BsAt.of_look {w : World} {p : Option Addr} {l : List (Int × Nd)} (h : BsAt w p l) {v : Int} {x : Nd} (hx : look l v = some x) : Ts.At w x.p x.kids := by
  obtain ⟨b, o, _, hl⟩ := h
  obtain ⟨j, hj⟩ := List.getElem?_of_mem (look_mem hx)
  exact (hl.get hj).at_

/-- what is bound is not great -/
def Small (σ : Sb) : Prop := ∀ u x, σ u = some x → x.ok ∧ x.kids.size ≤ 5000

/-- a term walked, in memory -/
theorem walked_lies {l : List (Int × Nd)} (hE : Ends (look l)) (hS : Small (look l)) {w : World} {p : Option Addr} (hat : BsAt w p l) {t : Nd} (hok : t.ok) (hsz : t.kids.size ≤ 5000) (ht : Ts.At w t.p t.kids) :
    (wk (look l) t).ok ∧ (wk (look l) t).kids.size ≤ 5000 ∧ Ts.At w (wk (look l) t).p (wk (look l) t).kids := by
  rcases wk_cases hE t with h | ⟨v, h⟩
  · rw [h]; exact ⟨hok, hsz, ht⟩
  · exact ⟨(hS _ _ h).1, (hS _ _ h).2, hat.of_look h⟩

/-- the first that is to be visited, and the others -/
theorem Td.head {q : Option Addr} {c : Nat} {k : Int} {s : ByteArray} {n : Int} {p : Option Addr} {d : Nat} {kids rest : Ts} {w : World} (h : Td q c (.cons k s n p d kids rest) w) : ∃ b o, q = some ⟨b, o, none⟩ ∧ b < w.heap.size ∧
    (w.cell? ⟨b, o, none⟩ = some (.int .u8 k) ∧ w.cell? ⟨b, o + 1, none⟩ = some (.string s) ∧ w.cell? ⟨b, o + 2, none⟩ = some (.int .i64 n) ∧ w.cell? ⟨b, o + 3, none⟩ = some (.slice p kids.len d)) ∧
    Nd.ok ⟨k, s, n, p, d, kids⟩ ∧ kids.size ≤ 5000 ∧ Ts.At w p kids ∧ ∃ q', (if c = 1 then some (⟨b, o, none⟩ : Addr) else some ⟨b, o + 4, none⟩) = q' ∧ Td q' (c - 1) rest w := by
  obtain ⟨b, o, h1, h2⟩ := h.at_
  obtain ⟨c0, c1, c2, c3, hk, hr⟩ := h2
  have hq : q = some ⟨b, o, none⟩ := by
    rcases h1 with h1 | h1
    · cases h1
    · exact h1
  obtain ⟨o1, o2, o3, o4, o5, o6, o7⟩ := h.ok
  have hcap := h.cap
  simp only [Ts.len] at hcap
  refine ⟨b, o, hq, World.block_lt_of_cell? _ _ c0, ⟨c0, c1, c2, c3⟩, ⟨o1, o2, o3, o4, o5, o6, trivial⟩, h.sm ⟨k, s, n, p, d, kids⟩ (by simp [elems]), hk, _, rfl, ?_, o7, fun x hx => h.sm x (by simp [elems, hx]), ⟨by omega, by omega⟩, fun hn => ?_⟩
  · by_cases e : c = 1
    · have : rest = .nil := Ts.len_zero (by omega)
      subst this
      exact ⟨0, 0, .inl rfl, trivial⟩
    · rw [if_neg e]
      exact ⟨b, o + 4, .inr rfl, hr⟩
  · split at hn <;> cases hn

/-- what is to be visited next -/
theorem Td.next {w : World} {base : Nat} {v : Value} {n : Nat} {xk rest : Ts} {q : Option Addr} {c : Nat} (h : w.ownsRow base 25 4 v n (cellsL xk ++ cellsL rest)) (hn : n = xk.len + rest.len) (hx : Ts.At w q xk) (hok : xk.ok) (hsz : xk.size ≤ 5000) {q' : Option Addr} (hr : Td q' c rest w) :
    ∃ q'' c'', v = .slice q'' (xk.app rest).len c'' ∧ Td q'' c'' (xk.app rest) w := by
  rw [← cellsL_app] at h
  obtain ⟨q'', c'', h1, h2, h3, h4, _⟩ := row_terms h (by rw [hn, app_len]) ((kidsAt_at hx).app (kidsAt_at hr.at_))
  refine ⟨q'', c'', h1, h2, app_ok hok hr.ok, fun x hm => ?_, h3, h4⟩
  rw [elems_app, List.mem_append] at hm
  rcases hm with hm | hm
  · have := elems_small hm; omega
  · exact hr.sm x hm

end Go.Proofs.Ytnmhnaanpjlniaa
/-
  Whether terms are too great, as a Boolean that is known.
-/
namespace Go.Proofs.Ytnmhnaanpjlniaa
open Go.RowKit

theorem great_is (ts : Ts) (hok : ts.ok) (b : Bool) (hb : decide (1000 < manyP ts 0) = b) (w : World) (p : Option Addr) (c : Nat) (hat : Ts.At w p ts) (hl : ts.len ≤ 9223372036854775807) :
    Calls Try.prog 25 #[.slice p ts.len c] w fun e w' => e = .returned (.bool b) ∧ Below w.heap.size w w' := by
  subst hb
  refine (great_any ts w p c hat hok hl).mono ?_
  rintro e w' ⟨rfl, q, rfl⟩
  exact ⟨rfl, below_drewN (Below.refl _ _) q⟩

end Go.Proofs.Ytnmhnaanpjlniaa
/-
  Layer 3: whether bindings and a term are too great.
-/
namespace Go.Proofs.Ytnmhnaanpjlniaa
open Go.RowKit

/-- the terms that are bound -/
def bsTs : List (Int × Nd) → Ts
  | [] => .nil
  | (_, x) :: l => .cons x.k x.s x.n x.p x.c x.kids (bsTs l)

theorem bsTs_len : ∀ l : List (Int × Nd), (bsTs l).len = l.length
  | [] => rfl
  | (_, _) :: l => by simp only [bsTs, Ts.len, List.length_cons, bsTs_len l]

theorem bsTs_app : ∀ l m : List (Int × Nd), bsTs (l ++ m) = (bsTs l).app (bsTs m)
  | [], _ => rfl
  | (_, x) :: l, m => by simp only [List.cons_append, bsTs, Ts.app, bsTs_app l m]

theorem BsLies.kids {w : World} : ∀ {l : List (Int × Nd)} {b o : Nat}, BsLies w b o l → KidsAt w (bsTs l)
  | [], _, _, _ => trivial
  | (_, _) :: _, _, _, ⟨_, _, _, _, _, h, h'⟩ => ⟨h, BsLies.kids h'⟩

theorem BsAt.kids {w : World} {p : Option Addr} {l : List (Int × Nd)} (h : BsAt w p l) : KidsAt w (bsTs l) := by
  obtain ⟨b, o, _, h⟩ := h
  exact h.kids

/-- more than forty bindings, or a thousand nodes -/
def bGreat (l : List (Int × Nd)) (t : Nd) : Bool := if 40 < l.length then true else decide (1000 < manyP (.cons t.k t.s t.n t.p t.c t.kids (bsTs l)) 0)

theorem bGreat_size {l : List (Int × Nd)} {t : Nd} (h : bGreat l t = false) : l.length ≤ 40 ∧ t.kids.size ≤ 5000 ∧ (bsTs l).size ≤ 5000 := by
  unfold bGreat at h
  by_cases h40 : 40 < l.length
  · rw [if_pos h40] at h; cases h
  · rw [if_neg h40] at h
    have := small_of_many (ts := .cons t.k t.s t.n t.p t.c t.kids (bsTs l)) (by simpa using h)
    simp only [Ts.size] at this
    omega

set_option maxRecDepth 100000 in
set_option maxHeartbeats 4000000 in
theorem bgreat_any (l : List (Int × Nd)) (t : Nd) (hl63 : l.length ≤ 9223372036854775807) (hbok : (bsTs l).ok) (w : World) (lp : Option Addr) (lc : Nat) (hat : BsAt w lp l) (hok : t.ok) (htat : Ts.At w t.p t.kids) :
    Calls Try.prog 10 #[.slice lp l.length lc, .agg #[.int .u8 t.k, .string t.s, .int .i64 t.n, .slice t.p t.kids.len t.c]] w fun e w' => e = .returned (.bool (bGreat l t)) ∧ Below w.heap.size w w' := by
  by_cases h40 : 40 < l.length
  · have R := Lib.hid (by unfold bGreat; rw [if_pos h40] : bGreat l t = true)
    clear hbok hat hok htat
    go_enter Try.func10, Try.ntmps10
    go_wp2
    go_ret
    exact ⟨by rw [R.out]; rfl, (Below.refl _ _).alloc (Nat.le_refl _) _⟩
  · obtain ⟨g, hg⟩ : ∃ g, g = decide (1000 < manyP (.cons t.k t.s t.n t.p t.c t.kids (bsTs l)) 0) := ⟨_, rfl⟩
    have R := Lib.hid (by unfold bGreat; rw [if_neg h40, hg] : bGreat l t = g)
    have HG := Lib.hid hg
    obtain ⟨b, o, hp, hlies⟩ := hat
    have HP := Lib.hid hp
    have LI := Lib.hid hlies
    have BOK := Lib.hid hbok
    have OK := Lib.hid hok
    have TAT := Lib.hid htat
    obtain ⟨i0, hi, hz0, hz1, hz2⟩ := info_parts infoTerm
    clear hg hp hlies hbok hok htat
    go_enter Try.func10, Try.ntmps10
    go_wp2_with fail
    obtain ⟨W0, hW0⟩ : ∃ W0, W0 = (w.alloc (.cells #[.int .u8 t.k, .string t.s, .int .i64 t.n, .slice t.p t.kids.len t.c] 25)).alloc (.cells #[.int .u8 t.k, .string t.s, .int .i64 t.n, .slice t.p t.kids.len t.c] 25) := ⟨_, rfl⟩
    rw [← hW0]
    have hB0 : Below w.heap.size w W0 := by rw [hW0]; exact below2 _ _ _
    have hrow0 : W0.ownsRow w.heap.size 25 4 (.slice (some ⟨w.heap.size + 1, 0, none⟩) 1 1) (0 + 1) (cellsL (.cons t.k t.s t.n t.p t.c t.kids (bsTs (l.take 0)))) := by
      refine ⟨rfl, .inr ⟨w.heap.size + 1, 1, #[.int .u8 t.k, .string t.s, .int .i64 t.n, .slice t.p t.kids.len t.c], rfl, by omega, ?_, by omega, by decide, rfl, rfl⟩⟩
      rw [hW0]
      have h := World.size_alloc w (.cells #[.int .u8 t.k, .string t.s, .int .i64 t.n, .slice t.p t.kids.len t.c] 25)
      rw [← h]
      exact heap_alloc_new _ _
    have BB0 := Lib.hid hB0
    clear hB0 hW0
    go_loopw [5, 6] (fun s5 s6 wr => ∃ j : Nat, j ≤ l.length ∧ s6 = .int .i64 j ∧ wr.ownsRow w.heap.size 25 4 s5 (j + 1) (cellsL (.cons t.k t.s t.n t.p t.c t.kids (bsTs (l.take j)))) ∧ Hid (Below w.heap.size w wr)) (fun _ i _ => l.length - (intOf i).toNat)
    case atStart => exact ⟨0, by omega, rfl, hrow0, BB0⟩
    case round =>
      obtain ⟨j, hj, rfl, hrow, BB⟩ := hrel
      have RW := Lib.hid hrow
      clear hrow hrow0
      by_cases hlt : j < l.length
      · have hpp : lp = some ⟨b, o, none⟩ := by
          rcases HP.out with h | h
          · rw [h] at hlt; simp at hlt
          · exact h
        subst hpp
        obtain ⟨⟨u, x⟩, hux⟩ : ∃ ux, l[j]? = some ux := ⟨_, List.getElem?_eq_getElem hlt⟩
        have EL := (LI.out.stay (stays BB.out).1).get hux
        have c1 := EL.c1
        have c2 := EL.c2
        have c3 := EL.c3
        have c4 := EL.c4
        obtain ⟨U, hU⟩ : ∃ U : Ts, U = .cons x.k x.s x.n x.p x.c x.kids .nil := ⟨_, rfl⟩
        have htk : (Ts.cons t.k t.s t.n t.p t.c t.kids (bsTs (l.take (j + 1)))) = (Ts.cons t.k t.s t.n t.p t.c t.kids (bsTs (l.take j))).app U := by
          have h := List.getElem?_eq_some_iff.1 hux
          rw [List.take_add_one, hux, Option.toList, bsTs_app, hU]
          rfl
        have HT := Lib.hid htk
        have hU1 : U.len = 1 := by rw [hU]; rfl
        have hcu : (cellsL U).length = 1 * 4 := by rw [cellsL_length, hU1]
        have hnews : ∀ i v, (cellsL U)[i]? = some v → (wr.alloc (.cells #[.int .u8 x.k, .string x.s, .int .i64 x.n, .slice x.p x.kids.len x.c] 25)).cell? ((⟨wr.heap.size, 0, none⟩ : Addr).add i) = some v := by
          obtain ⟨W6, hW6, hs6, hB6, hc6, -⟩ := alloc_new wr #[.int .u8 x.k, .string x.s, .int .i64 x.n, .slice x.p x.kids.len x.c] 25
          intro i v hiv
          rw [Go.WideShapes.add_plain, Nat.zero_add, ← hW6]
          refine hc6 i v ?_
          rw [hU] at hiv
          simpa [cellsL] using hiv
        have hBs := BB.out.size
        have hwl := BB.out
        have hown0 := RW.out.alloc (.cells #[.int .u8 x.k, .string x.s, .int .i64 x.n, .slice x.p x.kids.len x.c] 25)
        have O0 := Lib.hid hown0
        have N0 := Lib.hid hnews
        have U1 := Lib.hid hU1
        have CU := Lib.hid hcu
        clear EL hux htk hU hU1 hcu hnews hown0 hwl
        go_wp2_with (at_builtin; refine wpList_append_own_at _ rfl _ _ 23 rfl w.heap.size 25 i0 zeroTerm 4 56 Try.underlying23 hi hz0 hz1 hz2 rfl (by decide) _ _ _ rfl O0.out ⟨wr.heap.size, 0, none⟩ 1 1 (cellsL U) rfl CU.out N0.out (cellsL_one U) (by unfold maxLen; omega) (by omega) (by simp; omega) ?_; intro v5 W7 hown2 hgrow2 hnil hob; have X := Lib.hid (And.intro hown2 hgrow2); clear hown2 hgrow2 hnil hob)
        have BW7 := Lib.hid ((BB.out.alloc hBs (.cells #[.int .u8 x.k, .string x.s, .int .i64 x.n, .slice x.p x.kids.len x.c] 25)).grown X.out.2 (by simp; omega) (fun q' hq' => (RW.out.lt q' hq').1))
        go_roundw
        case rel =>
          refine ⟨j + 1, by omega, by go_num, ?_, BW7⟩
          rw [HT.out, cellsL_app]
          exact X.out.1
        case measure => simp [intOf]; omega
      · obtain rfl : j = l.length := by omega
        have hrow := RW.out
        rw [List.take_length] at hrow
        obtain ⟨q, cc, rfl, h2, h3, h4, _⟩ := row_terms hrow (by simp only [Ts.len, bsTs_len]) ⟨TAT.out.below BB.out, (BsAt.kids (p := some ⟨b, o, none⟩) ⟨b, o, .inr rfl, LI.out.stay (stays BB.out).1⟩)⟩
        have A2 := Lib.hid h2
        clear hrow h2 h3 h4 RW
        go_wp2_with fail
        refine (great_is (.cons t.k t.s t.n t.p t.c t.kids (bsTs l)) ⟨OK.out.1, OK.out.2.1, OK.out.2.2.1, OK.out.2.2.2.1, OK.out.2.2.2.2.1, OK.out.2.2.2.2.2.1, BOK.out⟩ g HG.out.symm wr q cc A2.out (by simp only [Ts.len, bsTs_len]; omega)).mono ?_
        rintro e w8 ⟨rfl, hB⟩
        have B8 := Lib.hid (BB.out.trans (hB.mono BB.out.size))
        clear hB
        go_wp2
        go_ret
        exact ⟨by rw [R.out]; rfl, B8.out⟩

end Go.Proofs.Ytnmhnaanpjlniaa
