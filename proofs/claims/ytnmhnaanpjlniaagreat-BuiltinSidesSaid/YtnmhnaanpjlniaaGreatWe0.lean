import Derived.Test.YtnmhnaanpjlniaaGreatAt
import Derived.Test.YtnmhnaanpjlniaaGreatAi
import Derived.Test.YtnmhnaanpjlniaaGreatXa
import Derived.Deep.DeepCutAuto
import Derived.Test.YtnmhnaanpjlniaaGreatTs
import Derived.Test.YtnmhnaanpjlniaaGreatAj
import Derived.Test.YtnmhnaanpjlniaaGreatTn
/-
  Layer 3: the document's nodes: how many are visited, and where a variable is first visited: plain facts.
-/
namespace Go.Proofs.YtnmhnaanpjlniaaGreat
open Go.RowKit

/-- where a variable is first visited, counted from 1 on; -1: it is not -/
def posA (v : Int) : Nat → List Nd → Int
  | _, [] => -1
  | i, x :: l => if ((x.k == 1) && (x.n == v)) = true then ((i + 1 : Nat) : Int) else posA v (i + 1) l

theorem posA_le (v : Int) : ∀ (l : List Nd) (i : Nat), -1 ≤ posA v i l ∧ posA v i l ≤ ((i + l.length : Nat) : Int)
  | [], i => by simp only [posA, List.length_nil]; omega
  | x :: l, i => by
    simp only [posA, List.length_cons]
    split
    · omega
    · have := posA_le v l (i + 1); omega

theorem posA_app (v : Int) (x : Nd) : ∀ (l : List Nd) (i : Nat), posA v i (l ++ [x]) = if posA v i l < 0 then (if ((x.k == 1) && (x.n == v)) = true then ((i + l.length + 1 : Nat) : Int) else -1) else posA v i l
  | [], i => by simp [posA]
  | y :: l, i => by
    simp only [List.cons_append, posA, List.length_cons]
    split
    · rw [if_neg (by omega)]
    · rw [posA_app v x l (i + 1), show i + 1 + l.length + 1 = i + (l.length + 1) + 1 by omega]

/-- the two ways of telling -/
theorem occ_pos (v : Int) : ∀ (l : List Nd) (i : Nat), i + l.length ≤ 4097 → i ≤ 4096 →
    occ v (num i l) = if 0 ≤ posA v i l ∧ posA v i l ≤ 4096 then (true, 0) else if 4096 < i + l.length then (false, 31) else (false, 0)
  | [], i, _, h => by
    have hp : posA v i [] = -1 := rfl
    rw [hp, if_neg (by omega), if_neg (by simp only [List.length_nil]; omega)]
    rfl
  | x :: l, i, h, h' => by
    simp only [List.length_cons] at h ⊢
    have ih := occ_pos v l (i + 1)
    have hb := posA_le v l (i + 1)
    have e1 : posA v i (x :: l) = if ((x.k == 1) && (x.n == v)) = true then ((i + 1 : Nat) : Int) else posA v (i + 1) l := rfl
    have e2 : occ v (num i (x :: l)) = if 4096 < i + 1 then (false, 31) else if ((x.k == 1) && (x.n == v)) = true then (true, 0) else occ v (num (i + 1) l) := rfl
    rw [e1, e2]
    have e3 : posA v (i + 1) [] = -1 := rfl
    generalize posA v i (x :: l) = z at *
    by_cases h1 : 4096 < i + 1
    · rw [if_pos h1]
      have hl : l = [] := List.eq_nil_of_length_eq_zero (by omega)
      subst hl
      rw [e3]
      by_cases h2 : ((x.k == 1) && (x.n == v)) = true
      · rw [if_pos h2, if_neg (by omega), if_pos (by simp only [List.length_nil]; omega)]
      · rw [if_neg h2, if_neg (by omega), if_pos (by simp only [List.length_nil]; omega)]
    · rw [if_neg h1]
      by_cases h2 : ((x.k == 1) && (x.n == v)) = true
      · rw [if_pos h2, if_pos h2, if_pos (by omega)]
      · rw [if_neg h2, if_neg h2, ih (by omega) (by omega), show i + 1 + l.length = i + (l.length + 1) by omega]

theorem elems_small : ∀ {ts : Ts} {x : Nd}, x ∈ elems ts → x.kids.size < ts.size
  | .nil, _, h => by simp [elems] at h
  | .cons k s n p c kids rest, x, h => by
    simp only [elems, List.mem_cons] at h
    simp only [Ts.size]
    rcases h with rfl | h
    · simp only; omega
    · have := elems_small h; omega

theorem elems_app : ∀ t u : Ts, elems (t.app u) = elems t ++ elems u
  | .nil, _ => rfl
  | .cons k s n p c kids rest, u => by simp only [Ts.app, elems, elems_app rest u, List.cons_append]

theorem own_below {w w' : World} {base n size : Nat} {e : TypeId} {v : Value} {xs : List Value} (h : w.ownsRow base e size v n xs) (hB : Below w.heap.size w w') : w'.ownsRow base e size v n xs :=
  h.kept (row := none) ⟨hB.os, hB.tape, hB.output, hB.size, fun k hk _ => hB.block k hk⟩ (by cases v.ownBlock <;> simp)

/-- a list of terms that is still to be visited -/
structure Td (q : Option Addr) (c : Nat) (td : Ts) (w : World) : Prop where
  at_ : Ts.At w q td
  ok : td.ok
  sm : ∀ x ∈ elems td, x.kids.size ≤ 5000
  cap : td.len ≤ c ∧ c ≤ 9223372036854775807
  nn : q = none → c = 0

theorem Td.below {q : Option Addr} {c : Nat} {td : Ts} {w w' : World} (h : Td q c td w) (hB : Below w.heap.size w w') : Td q c td w' := ⟨h.at_.below hB, h.ok, h.sm, h.cap, h.nn⟩

/-- what is bound, in memory -/
theorem BsAt.of_look {w : World} {p : Option Addr} {l : List (Int × Nd)} (h : BsAt w p l) {v : Int} {x : Nd} (hx : look l v = some x) : Ts.At w x.p x.kids := by
  obtain ⟨b, o, _, hl⟩ := h
  obtain ⟨j, hj⟩ := List.getElem?_of_mem (look_mem hx)
  exact (hl.get hj).at_

/-- what is bound is not great -/
def Small (σ : Sb) : Prop := ∀ u x, σ u = some x → x.ok ∧ x.kids.size ≤ 5000

/-- a term walked, in memory -/
theorem walked_lies {l : List (Int × Nd)} (hE : Ends (look l)) (hS : Small (look l)) {w : World} {p : Option Addr} (hat : BsAt w p l) {t : Nd} (hok : t.ok) (hsz : t.kids.size ≤ 5000) (ht : Ts.At w t.p t.kids) :
    (wk (look l) t).ok ∧ (wk (look l) t).kids.size ≤ 5000 ∧ Ts.At w (wk (look l) t).p (wk (look l) t).kids := by
  rcases wk_cases hE t with h | ⟨v, h⟩
  · rw [h]; exact ⟨hok, hsz, ht⟩
  · exact ⟨(hS _ _ h).1, (hS _ _ h).2, hat.of_look h⟩

/-- the first that is to be visited, and the others -/
theorem Td.head {q : Option Addr} {c : Nat} {k : Int} {s : ByteArray} {n : Int} {p : Option Addr} {d : Nat} {kids rest : Ts} {w : World} (h : Td q c (.cons k s n p d kids rest) w) : ∃ b o, q = some ⟨b, o, none⟩ ∧ b < w.heap.size ∧
    (w.cell? ⟨b, o, none⟩ = some (.int .u8 k) ∧ w.cell? ⟨b, o + 1, none⟩ = some (.string s) ∧ w.cell? ⟨b, o + 2, none⟩ = some (.int .i64 n) ∧ w.cell? ⟨b, o + 3, none⟩ = some (.slice p kids.len d)) ∧
    Nd.ok ⟨k, s, n, p, d, kids⟩ ∧ kids.size ≤ 5000 ∧ Ts.At w p kids ∧ ∃ q', (if c = 1 then some (⟨b, o, none⟩ : Addr) else some ⟨b, o + 4, none⟩) = q' ∧ Td q' (c - 1) rest w := by
  obtain ⟨b, o, h1, h2⟩ := h.at_
  obtain ⟨c0, c1, c2, c3, hk, hr⟩ := h2
  have hq : q = some ⟨b, o, none⟩ := by
    rcases h1 with h1 | h1
    · cases h1
    · exact h1
  obtain ⟨o1, o2, o3, o4, o5, o6, o7⟩ := h.ok
  have hcap := h.cap
  simp only [Ts.len] at hcap
  refine ⟨b, o, hq, World.block_lt_of_cell? _ _ c0, ⟨c0, c1, c2, c3⟩, ⟨o1, o2, o3, o4, o5, o6, trivial⟩, h.sm ⟨k, s, n, p, d, kids⟩ (by simp [elems]), hk, _, rfl, ?_, o7, fun x hx => h.sm x (by simp [elems, hx]), ⟨by omega, by omega⟩, fun hn => ?_⟩
  · by_cases e : c = 1
    · have : rest = .nil := Ts.len_zero (by omega)
      subst this
      exact ⟨0, 0, .inl rfl, trivial⟩
    · rw [if_neg e]
      exact ⟨b, o + 4, .inr rfl, hr⟩
  · split at hn <;> cases hn

/-- what is to be visited next -/
theorem Td.next {w : World} {base : Nat} {v : Value} {n : Nat} {xk rest : Ts} {q : Option Addr} {c : Nat} (h : w.ownsRow base 25 4 v n (cellsL xk ++ cellsL rest)) (hn : n = xk.len + rest.len) (hx : Ts.At w q xk) (hok : xk.ok) (hsz : xk.size ≤ 5000) {q' : Option Addr} (hr : Td q' c rest w) :
    ∃ q'' c'', v = .slice q'' (xk.app rest).len c'' ∧ Td q'' c'' (xk.app rest) w := by
  rw [← cellsL_app] at h
  obtain ⟨q'', c'', h1, h2, h3, h4, _⟩ := row_terms h (by rw [hn, app_len]) ((kidsAt_at hx).app (kidsAt_at hr.at_))
  refine ⟨q'', c'', h1, h2, app_ok hok hr.ok, fun x hm => ?_, h3, h4⟩
  rw [elems_app, List.mem_append] at hm
  rcases hm with hm | hm
  · have := elems_small hm; omega
  · exact hr.sm x hm

end Go.Proofs.YtnmhnaanpjlniaaGreat
/-
  Whether terms are too great, as a Boolean that is known.
-/
namespace Go.Proofs.YtnmhnaanpjlniaaGreat
open Go.RowKit

theorem great_is (ts : Ts) (hok : ts.ok) (b : Bool) (hb : decide (1000 < manyP ts 0) = b) (w : World) (p : Option Addr) (c : Nat) (hat : Ts.At w p ts) (hl : ts.len ≤ 9223372036854775807) :
    Calls Tryz.prog 22 #[.slice p ts.len c] w fun e w' => e = .returned (.bool b) ∧ Below w.heap.size w w' := by
  subst hb
  refine (great_any ts w p c hat hok hl).mono ?_
  rintro e w' ⟨rfl, q, rfl⟩
  exact ⟨rfl, below_drewN (Below.refl _ _) q⟩

end Go.Proofs.YtnmhnaanpjlniaaGreat
/-
  Layer 3: whether bindings and a term are too great.
-/
namespace Go.Proofs.YtnmhnaanpjlniaaGreat
open Go.RowKit

/-- the terms that are bound -/
def bsTs : List (Int × Nd) → Ts
  | [] => .nil
  | (_, x) :: l => .cons x.k x.s x.n x.p x.c x.kids (bsTs l)

theorem bsTs_len : ∀ l : List (Int × Nd), (bsTs l).len = l.length
  | [] => rfl
  | (_, _) :: l => by simp only [bsTs, Ts.len, List.length_cons, bsTs_len l]

theorem bsTs_app : ∀ l m : List (Int × Nd), bsTs (l ++ m) = (bsTs l).app (bsTs m)
  | [], _ => rfl
  | (_, x) :: l, m => by simp only [List.cons_append, bsTs, Ts.app, bsTs_app l m]

theorem BsLies.kids {w : World} : ∀ {l : List (Int × Nd)} {b o : Nat}, BsLies w b o l → KidsAt w (bsTs l)
  | [], _, _, _ => trivial
  | (_, _) :: _, _, _, ⟨_, _, _, _, _, h, h'⟩ => ⟨h, BsLies.kids h'⟩

theorem BsAt.kids {w : World} {p : Option Addr} {l : List (Int × Nd)} (h : BsAt w p l) : KidsAt w (bsTs l) := by
  obtain ⟨b, o, _, h⟩ := h
  exact h.kids

/-- more than forty bindings, or a thousand nodes -/
def bGreat (l : List (Int × Nd)) (t : Nd) : Bool := if 40 < l.length then true else decide (1000 < manyP (.cons t.k t.s t.n t.p t.c t.kids (bsTs l)) 0)

theorem bGreat_size {l : List (Int × Nd)} {t : Nd} (h : bGreat l t = false) : l.length ≤ 40 ∧ t.kids.size ≤ 5000 ∧ (bsTs l).size ≤ 5000 := by
  unfold bGreat at h
  by_cases h40 : 40 < l.length
  · rw [if_pos h40] at h; cases h
  · rw [if_neg h40] at h
    have := small_of_many (ts := .cons t.k t.s t.n t.p t.c t.kids (bsTs l)) (by simpa using h)
    simp only [Ts.size] at this
    omega

set_option maxRecDepth 100000 in
set_option maxHeartbeats 4000000 in
theorem bgreat_any (l : List (Int × Nd)) (t : Nd) (hl63 : l.length ≤ 9223372036854775807) (hbok : (bsTs l).ok) (w : World) (lp : Option Addr) (lc : Nat) (hat : BsAt w lp l) (hok : t.ok) (htat : Ts.At w t.p t.kids) :
    Calls Tryz.prog 8 #[.slice lp l.length lc, .agg #[.int .u8 t.k, .string t.s, .int .i64 t.n, .slice t.p t.kids.len t.c]] w fun e w' => e = .returned (.bool (bGreat l t)) ∧ Below w.heap.size w w' := by
  by_cases h40 : 40 < l.length
  · have R := Lib.hid (by unfold bGreat; rw [if_pos h40] : bGreat l t = true)
    clear hbok hat hok htat
    go_enter Tryz.func8, Tryz.ntmps8
    go_wp2
    go_ret
    exact ⟨by rw [R.out]; rfl, (Below.refl _ _).alloc (Nat.le_refl _) _⟩
  · obtain ⟨g, hg⟩ : ∃ g, g = decide (1000 < manyP (.cons t.k t.s t.n t.p t.c t.kids (bsTs l)) 0) := ⟨_, rfl⟩
    have R := Lib.hid (by unfold bGreat; rw [if_neg h40, hg] : bGreat l t = g)
    have HG := Lib.hid hg
    obtain ⟨b, o, hp, hlies⟩ := hat
    have HP := Lib.hid hp
    have LI := Lib.hid hlies
    have BOK := Lib.hid hbok
    have OK := Lib.hid hok
    have TAT := Lib.hid htat
    obtain ⟨i0, hi, hz0, hz1, hz2⟩ := info_parts infoTerm
    clear hg hp hlies hbok hok htat
    go_enter Tryz.func8, Tryz.ntmps8
    go_wp2_with fail
    obtain ⟨W0, hW0⟩ : ∃ W0, W0 = (w.alloc (.cells #[.int .u8 t.k, .string t.s, .int .i64 t.n, .slice t.p t.kids.len t.c] 25)).alloc (.cells #[.int .u8 t.k, .string t.s, .int .i64 t.n, .slice t.p t.kids.len t.c] 25) := ⟨_, rfl⟩
    rw [← hW0]
    have hB0 : Below w.heap.size w W0 := by rw [hW0]; exact below2 _ _ _
    have hrow0 : W0.ownsRow w.heap.size 25 4 (.slice (some ⟨w.heap.size + 1, 0, none⟩) 1 1) (0 + 1) (cellsL (.cons t.k t.s t.n t.p t.c t.kids (bsTs (l.take 0)))) := by
      refine ⟨rfl, .inr ⟨w.heap.size + 1, 1, #[.int .u8 t.k, .string t.s, .int .i64 t.n, .slice t.p t.kids.len t.c], rfl, by omega, ?_, by omega, by decide, rfl, rfl⟩⟩
      rw [hW0]
      have h := World.size_alloc w (.cells #[.int .u8 t.k, .string t.s, .int .i64 t.n, .slice t.p t.kids.len t.c] 25)
      rw [← h]
      exact heap_alloc_new _ _
    have BB0 := Lib.hid hB0
    clear hB0 hW0
    go_loopw [5, 6] (fun s5 s6 wr => ∃ j : Nat, j ≤ l.length ∧ s6 = .int .i64 j ∧ wr.ownsRow w.heap.size 25 4 s5 (j + 1) (cellsL (.cons t.k t.s t.n t.p t.c t.kids (bsTs (l.take j)))) ∧ Hid (Below w.heap.size w wr)) (fun _ i _ => l.length - (intOf i).toNat)
    case atStart => exact ⟨0, by omega, rfl, hrow0, BB0⟩
    case round =>
      obtain ⟨j, hj, rfl, hrow, BB⟩ := hrel
      have RW := Lib.hid hrow
      clear hrow hrow0
      by_cases hlt : j < l.length
      · have hpp : lp = some ⟨b, o, none⟩ := by
          rcases HP.out with h | h
          · rw [h] at hlt; simp at hlt
          · exact h
        subst hpp
        obtain ⟨⟨u, x⟩, hux⟩ : ∃ ux, l[j]? = some ux := ⟨_, List.getElem?_eq_getElem hlt⟩
        have EL := (LI.out.stay (stays BB.out).1).get hux
        have c1 := EL.c1
        have c2 := EL.c2
        have c3 := EL.c3
        have c4 := EL.c4
        obtain ⟨U, hU⟩ : ∃ U : Ts, U = .cons x.k x.s x.n x.p x.c x.kids .nil := ⟨_, rfl⟩
        have htk : (Ts.cons t.k t.s t.n t.p t.c t.kids (bsTs (l.take (j + 1)))) = (Ts.cons t.k t.s t.n t.p t.c t.kids (bsTs (l.take j))).app U := by
          have h := List.getElem?_eq_some_iff.1 hux
          rw [List.take_add_one, hux, Option.toList, bsTs_app, hU]
          rfl
        have HT := Lib.hid htk
        have hU1 : U.len = 1 := by rw [hU]; rfl
        have hcu : (cellsL U).length = 1 * 4 := by rw [cellsL_length, hU1]
        have hnews : ∀ i v, (cellsL U)[i]? = some v → (wr.alloc (.cells #[.int .u8 x.k, .string x.s, .int .i64 x.n, .slice x.p x.kids.len x.c] 25)).cell? ((⟨wr.heap.size, 0, none⟩ : Addr).add i) = some v := by
          obtain ⟨W6, hW6, hs6, hB6, hc6, -⟩ := alloc_new wr #[.int .u8 x.k, .string x.s, .int .i64 x.n, .slice x.p x.kids.len x.c] 25
          intro i v hiv
          rw [Go.WideShapes.add_plain, Nat.zero_add, ← hW6]
          refine hc6 i v ?_
          rw [hU] at hiv
          simpa [cellsL] using hiv
        have hBs := BB.out.size
        have hwl := BB.out
        have hown0 := RW.out.alloc (.cells #[.int .u8 x.k, .string x.s, .int .i64 x.n, .slice x.p x.kids.len x.c] 25)
        have O0 := Lib.hid hown0
        have N0 := Lib.hid hnews
        have U1 := Lib.hid hU1
        have CU := Lib.hid hcu
        clear EL hux htk hU hU1 hcu hnews hown0 hwl
        go_wp2_with (at_builtin; refine wpList_append_own_at _ rfl _ _ 23 rfl w.heap.size 25 i0 zeroTerm 4 56 Tryz.underlying23 hi hz0 hz1 hz2 rfl (by decide) _ _ _ rfl O0.out ⟨wr.heap.size, 0, none⟩ 1 1 (cellsL U) rfl CU.out N0.out (cellsL_one U) (by unfold maxLen; omega) (by omega) (by simp; omega) ?_; intro v5 W7 hown2 hgrow2 hnil hob; have X := Lib.hid (And.intro hown2 hgrow2); clear hown2 hgrow2 hnil hob)
        have BW7 := Lib.hid ((BB.out.alloc hBs (.cells #[.int .u8 x.k, .string x.s, .int .i64 x.n, .slice x.p x.kids.len x.c] 25)).grown X.out.2 (by simp; omega) (fun q' hq' => (RW.out.lt q' hq').1))
        go_roundw
        case rel =>
          refine ⟨j + 1, by omega, by go_num, ?_, BW7⟩
          rw [HT.out, cellsL_app]
          exact X.out.1
        case measure => simp [intOf]; omega
      · obtain rfl : j = l.length := by omega
        have hrow := RW.out
        rw [List.take_length] at hrow
        obtain ⟨q, cc, rfl, h2, h3, h4, _⟩ := row_terms hrow (by simp only [Ts.len, bsTs_len]) ⟨TAT.out.below BB.out, (BsAt.kids (p := some ⟨b, o, none⟩) ⟨b, o, .inr rfl, LI.out.stay (stays BB.out).1⟩)⟩
        have A2 := Lib.hid h2
        clear hrow h2 h3 h4 RW
        go_wp2_with fail
        refine (great_is (.cons t.k t.s t.n t.p t.c t.kids (bsTs l)) ⟨OK.out.1, OK.out.2.1, OK.out.2.2.1, OK.out.2.2.2.1, OK.out.2.2.2.2.1, OK.out.2.2.2.2.2.1, BOK.out⟩ g HG.out.symm wr q cc A2.out (by simp only [Ts.len, bsTs_len]; omega)).mono ?_
        rintro e w8 ⟨rfl, hB⟩
        have B8 := Lib.hid (BB.out.trans (hB.mono BB.out.size))
        clear hB
        go_wp2
        go_ret
        exact ⟨by rw [R.out]; rfl, B8.out⟩

end Go.Proofs.YtnmhnaanpjlniaaGreat
/-
  Layer 3: substitutions that are alike: what is walked, visited and bound is alike.
-/
namespace Go.Proofs.YtnmhnaanpjlniaaGreat
open Go.RowKit

theorem Nd.twin_refl (x : Nd) : x.twin x := ⟨rfl, rfl, rfl, Ts.twin_refl _⟩

/-- lists of terms that are alike -/
inductive TwL : List Nd → List Nd → Prop
  | nil : TwL [] []
  | cons {x y : Nd} {l m : List Nd} (h : x.twin y) (h' : TwL l m) : TwL (x :: l) (y :: m)

theorem TwL.app {a b : List Nd} (h : TwL a b) {c d : List Nd} (h' : TwL c d) : TwL (a ++ c) (b ++ d) := by
  induction h with
  | nil => exact h'
  | cons h1 _ ih => exact .cons h1 ih

theorem TwL.length {a b : List Nd} (h : TwL a b) : a.length = b.length := by
  induction h with
  | nil => rfl
  | cons _ _ ih => simp [ih]

theorem elems_tw : ∀ {u v : Ts}, Ts.twin u v → TwL (elems u) (elems v)
  | .nil, .nil, _ => .nil
  | .cons _ _ _ _ _ _ _, .cons _ _ _ _ _ _ _, h => .cons ⟨h.1, h.2.1, h.2.2.1, h.2.2.2.1⟩ (elems_tw h.2.2.2.2)
  | .nil, .cons .., h => h.elim
  | .cons .., .nil, h => h.elim

/-- substitutions that are alike -/
structure STw (σ ρ : Sb) : Prop where
  no : ∀ v, σ v = none → ρ v = none
  yes : ∀ v x, σ v = some x → ∃ y, ρ v = some y ∧ x.twin y

theorem STw.isSome {σ ρ : Sb} (h : STw σ ρ) (v : Int) : (σ v).isSome = (ρ v).isSome := by
  cases hv : σ v with
  | none => rw [h.no v hv]
  | some x => obtain ⟨y, hy, _⟩ := h.yes v x hv; rw [hy]; rfl

theorem Wk.tw {σ ρ : Sb} (h : STw σ ρ) {t r : Nd} {m : Nat} (hw : Wk σ t r m) : ∀ {t' : Nd}, t.twin t' → ∃ r', Wk ρ t' r' m ∧ r.twin r' := by
  induction hw with
  | @stop t hs =>
    intro t' ht
    refine ⟨t', .stop ?_, ht⟩
    rcases hs with hs | hs
    · exact .inl (by rw [← ht.1]; exact hs)
    · exact .inr (by rw [← ht.2.2.1]; exact h.no _ hs)
  | @go t b r m hk hb _ ih =>
    intro t' ht
    obtain ⟨y, hy, hty⟩ := h.yes _ _ hb
    obtain ⟨r', h1, h2⟩ := ih hty
    exact ⟨r', .go (by rw [← ht.1]; exact hk) (by rw [← ht.2.2.1]; exact hy) h1, h2⟩

theorem STw.ends {σ ρ : Sb} (h : STw σ ρ) (hE : Ends σ) : Ends ρ := fun t => by
  obtain ⟨r, m, hw⟩ := hE t
  obtain ⟨r', h1, _⟩ := hw.tw h (Nd.twin_refl t)
  exact ⟨r', m, h1⟩

theorem STw.wk {σ ρ : Sb} (h : STw σ ρ) (hE : Ends σ) {t t' : Nd} (ht : t.twin t') : (wk σ t).twin (Go.Proofs.YtnmhnaanpjlniaaGreat.wk ρ t') := by
  obtain ⟨r', h1, h2⟩ := (wk_spec hE t).tw h ht
  rw [wk_eq h1]
  exact h2

theorem STw.vis {σ ρ : Sb} (h : STw σ ρ) (hE : Ends σ) : ∀ (f : Nat) {l l' : List Nd}, TwL l l' → TwL (vis σ f l) (Go.Proofs.YtnmhnaanpjlniaaGreat.vis ρ f l')
  | 0, _, _, _ => by simp only [Go.Proofs.YtnmhnaanpjlniaaGreat.vis]; exact .nil
  | f + 1, _, _, .nil => by simp only [Go.Proofs.YtnmhnaanpjlniaaGreat.vis]; exact .nil
  | f + 1, _, _, .cons ht hl => by
    simp only [Go.Proofs.YtnmhnaanpjlniaaGreat.vis]
    have hw := h.wk hE ht
    exact .cons hw (h.vis hE f ((elems_tw hw.2.2.2).app hl))

theorem occ_tw (v : Int) {a b : List Nd} (h : TwL a b) : ∀ i, occ v (num i a) = occ v (num i b) := by
  induction h with
  | nil => intro i; rfl
  | cons h1 _ ih =>
    intro i
    simp only [num, occ]
    rw [h1.1, h1.2.2.1, ih]

theorem bindE_tw {σ ρ : Sb} (h : STw σ ρ) (hE : Ends σ) (v : Int) (t : Nd) : bindE σ v t = bindE ρ v t := by
  unfold bindE
  rw [h.isSome, occ_tw v (h.vis hE 4097 (.cons (Nd.twin_refl t) .nil)) 0]

theorem STw.none : STw Sb.none (look []) := ⟨fun _ _ => rfl, fun _ _ h => by cases h⟩

theorem look_snoc : ∀ (l : List (Int × Nd)) (v : Int) (x : Nd) (u : Int), look (l ++ [(v, x)]) u = (look l u).or (if (v == u) = true then some x else Option.none)
  | [], v, x, u => by simp only [List.nil_append, look]; split <;> rfl
  | (a, y) :: l, v, x, u => by
    simp only [List.cons_append, look]
    split
    · rfl
    · exact look_snoc l v x u

theorem STw.put {σ : Sb} {l : List (Int × Nd)} (h : STw σ (look l)) {v : Int} {x t : Nd} (hn : look l v = Option.none) (ht : x.twin t) : STw (σ.put v x) (look (l ++ [(v, t)])) := by
  refine ⟨fun u hu => ?_, fun u y hy => ?_⟩
  · by_cases e : u = v
    · subst e; rw [Sb.put_same] at hu; cases hu
    · rw [Sb.put_other e] at hu
      rw [look_snoc, h.no u hu, if_neg (by simpa using fun e' => e e'.symm)]
      rfl
  · by_cases e : u = v
    · subst e
      rw [Sb.put_same] at hy
      cases hy
      exact ⟨t, by rw [look_snoc, hn]; simp, ht⟩
    · rw [Sb.put_other e] at hy
      obtain ⟨z, hz, hyz⟩ := h.yes u y hy
      exact ⟨z, by rw [look_snoc, hz]; rfl, hyz⟩

/-- the cells of bindings, one behind the other -/
def cellsB : List (Int × Nd) → List Value
  | [] => []
  | (v, x) :: l => .int .i64 v :: .int .u8 x.k :: .string x.s :: .int .i64 x.n :: .slice x.p x.kids.len x.c :: cellsB l

theorem cellsB_length : ∀ l : List (Int × Nd), (cellsB l).length = l.length * 5
  | [] => rfl
  | (_, _) :: l => by simp only [cellsB, List.length_cons, cellsB_length l]; omega

theorem cellsB_app : ∀ l m : List (Int × Nd), cellsB (l ++ m) = cellsB l ++ cellsB m
  | [], _ => rfl
  | (_, _) :: l, m => by simp only [List.cons_append, cellsB, cellsB_app l m]

theorem cellsB_one : ∀ (l : List (Int × Nd)), ∀ u ∈ cellsB l, u.oneCell' = true
  | [], u, h => by cases h
  | (_, _) :: l, u, h => by
    simp only [cellsB, List.mem_cons] at h
    rcases h with rfl | rfl | rfl | rfl | rfl | h
    · rfl
    · rfl
    · rfl
    · rfl
    · rfl
    · exact cellsB_one l u h

theorem bsLies_cells {w : World} : ∀ {l : List (Int × Nd)} {b o : Nat}, (∀ (j : Nat) (u : Value), (cellsB l)[j]? = some u → w.cell? ⟨b, o + j, none⟩ = some u) → KidsAt w (bsTs l) → BsLies w b o l
  | [], _, _, _, _ => trivial
  | (v, x) :: l, b, o, h, hk => by
    refine ⟨h 0 _ rfl, h 1 _ rfl, h 2 _ rfl, h 3 _ rfl, h 4 _ rfl, hk.1, bsLies_cells (fun j u hj => ?_) hk.2⟩
    have := h (j + 5) u (by simpa [cellsB] using hj)
    rw [show o + 5 + j = o + (j + 5) from by omega]
    exact this

theorem bsRow_cells {w : World} {g n : Nat} {e : TypeId} {cur : Array Value} {xs : List Value} (hg : w.heap[g]? = some (.cells cur e (0, 0))) (ht : cur.toList.take (n * 5) = xs) (hl : xs.length = n * 5) : ∀ j u, xs[j]? = some u → w.cell? ⟨g, 0 + j, none⟩ = some u := by
  exact (row_cells (size := 5) hg ht hl).1

/-- a row of one's own, as bindings -/
theorem row_bs {w : World} {base : Nat} {v : Value} {l : List (Int × Nd)} (h : w.ownsRow base 56 5 v l.length (cellsB l)) (hk : KidsAt w (bsTs l)) : ∃ q c, v = .slice q l.length c ∧ BsAt w q l := by
  rcases h.2 with ⟨rfl, h0⟩ | ⟨g, cap, cur, rfl, hg1, hg2, hg3, hg4, hg5, hg6⟩
  · have : l = [] := List.eq_nil_of_length_eq_zero h0
    subst this
    exact ⟨none, 0, rfl, 0, 0, .inl rfl, trivial⟩
  · exact ⟨some ⟨g, 0, none⟩, cap, rfl, g, 0, .inr rfl, bsLies_cells (bsRow_cells hg2 hg6 (cellsB_length l)) hk⟩

/-- an element of bindings that are not great -/
theorem bsTs_get : ∀ {l : List (Int × Nd)} {j : Nat} {v : Int} {x : Nd}, (bsTs l).ok → l[j]? = some (v, x) → x.ok ∧ x.kids.size ≤ (bsTs l).size
  | [], _, _, _, _, h => by simp at h
  | (u, y) :: l, 0, v, x, hok, h => by
    simp at h
    obtain ⟨rfl, rfl⟩ := h
    obtain ⟨o1, o2, o3, o4, o5, o6, o7⟩ := hok
    exact ⟨⟨o1, o2, o3, o4, o5, o6, trivial⟩, by simp only [bsTs, Ts.size]; omega⟩
  | (u, y) :: l, j + 1, v, x, hok, h => by
    have := bsTs_get (l := l) hok.2.2.2.2.2.2 (j := j) (v := v) (x := x) (by simpa using h)
    exact ⟨this.1, by simp only [bsTs, Ts.size]; omega⟩

theorem small_of {l : List (Int × Nd)} (h : ∀ e ∈ l, e.2.ok ∧ e.2.kids.size ≤ 5000) : Small (look l) := fun _ _ hx => h _ (look_mem hx)

end Go.Proofs.YtnmhnaanpjlniaaGreat
/-
  Layer 3: the document's nodes: how many are visited, and where a variable is first visited. (Written by gen_av.py.)
-/
namespace Go.Proofs.YtnmhnaanpjlniaaGreat
open Go.RowKit

set_option maxRecDepth 100000 in
set_option maxHeartbeats 8000000 in
theorem bnodes_any (l : List (Int × Nd)) (hl : l.length ≤ 1000000) (hE : Ends (look l)) (hS : Small (look l)) (w : World) (lp : Option Addr) (lc : Nat) (hat : BsAt w lp l) (t : Nd) (hok : t.ok) (hsz : t.kids.size ≤ 5000) (htat : Ts.At w t.p t.kids) (v : Int) :
    Calls Tryz.prog 26 #[.slice lp l.length lc, .agg #[.int .u8 t.k, .string t.s, .int .i64 t.n, .slice t.p t.kids.len t.c], .int .i64 v] w fun e w' => e = .returned (.tuple #[.int .i64 ((vis (look l) 4097 [t]).length : Nat), .int .i64 (posA v 0 (vis (look l) 4097 [t]))]) ∧ Below w.heap.size w w' := by
  have HE := Lib.hid hE
  have HSM := Lib.hid hS
  have AT := Lib.hid hat
  obtain ⟨all, hall⟩ : ∃ all, all = vis (look l) 4097 [t] := ⟨_, rfl⟩
  rw [← hall]
  have HALL := Lib.hid hall
  have OK := Lib.hid hok
  have TAT := Lib.hid htat
  clear hE hS hat hall hok htat
  go_enter Tryz.func26, Tryz.ntmps26
  go_wp2_with fail
  obtain ⟨W0, hW0⟩ : ∃ W0, W0 = (w.alloc (.cells #[.int .u8 t.k, .string t.s, .int .i64 t.n, .slice t.p t.kids.len t.c] 25)).alloc (.cells #[.int .u8 t.k, .string t.s, .int .i64 t.n, .slice t.p t.kids.len t.c] 25) := ⟨_, rfl⟩
  rw [← hW0]
  have hB0 : Below w.heap.size w W0 := by rw [hW0]; exact below2 _ _ _
  have hTd : Td (some ⟨w.heap.size + 1, 0, none⟩) 1 (.cons t.k t.s t.n t.p t.c t.kids .nil) W0 := by
    have hX := BoxIs.new (w.alloc (.cells #[.int .u8 t.k, .string t.s, .int .i64 t.n, .slice t.p t.kids.len t.c] 25)) t 25
    rw [World.size_alloc] at hX
    rw [hW0]
    exact ⟨⟨_, _, .inr rfl, hX.c0, hX.c1, hX.c2, hX.c3, TAT.out.below (below2 _ _ _), trivial⟩, OK.out, (fun x hx => by simp [elems] at hx; rw [hx]; exact hsz), ⟨by simp [Ts.len], by omega⟩, (fun h => by cases h)⟩
  have TD0 := Lib.hid hTd
  have BB0 := Lib.hid hB0
  clear hTd hB0 hW0
  go_loopw [8, 9, 10] (fun s8 s9 s10 wr => ∃ (j f : Nat) (td : Ts) (q : Option Addr) (c : Nat) (pre : List Nd), s8 = .slice q td.len c ∧ s9 = .int .i64 j ∧ s10 = .int .i64 (posA v 0 pre) ∧ Hid (pre.length = j) ∧ j + f = 4097 ∧ td.len ≤ 1 + 5000 * j ∧ Hid (all = pre ++ vis (look l) f (elems td)) ∧ Hid (Td q c td wr) ∧ Hid (Below w.heap.size w wr)) (fun _ s9 _ _ => 4097 - (intOf s9).toNat)
  case atStart => exact ⟨0, 4097, .cons t.k t.s t.n t.p t.c t.kids .nil, some ⟨w.heap.size + 1, 0, none⟩, 1, [], by simp [Ts.len], rfl, rfl, Lib.hid rfl, rfl, by simp [Ts.len], Lib.hid (by rw [HALL.out]; rfl), TD0, BB0⟩
  case round =>
    obtain ⟨j, f, td, q, c, pre, rfl, rfl, rfl, PL, hjf, htl, HA, TD, BB⟩ := hrel
    obtain ⟨at_, hat_⟩ : ∃ z, z = posA v 0 pre := ⟨_, rfl⟩
    rw [← hat_]
    have AP := Lib.hid hat_
    have hpos := posA_le v pre 0
    rw [← hat_, PL.out] at hpos
    clear hat_
    by_cases hj : j ≤ 4096
    · obtain ⟨f', rfl⟩ : ∃ f', f = f' + 1 := ⟨f - 1, by omega⟩
      cases td with
      | nil =>
        have hlen : Ts.nil.len = 0 := rfl
        rw [hlen]
        have R1 : Hid (all.length = j ∧ posA v 0 all = at_) := Lib.hid (by
          have h := HA.out
          simp only [elems, vis_nil, List.append_nil] at h
          exact ⟨by rw [h, PL.out], by rw [h, AP.out]⟩)
        clear hlen
        go_wp2
        exact bodyPost_ret (v := .tuple #[.int .i64 (j : Nat), .int .i64 at_]) (by simp [results, Tryz.results26, go_sem]) rfl ⟨by rw [R1.out.1, R1.out.2], BB.out⟩
      | cons k s n p d kids rest =>
        obtain ⟨b, o, hq, hb, ⟨c0, c1, c2, c3⟩, hok1, hsz1, hat1, q', hq', hrest⟩ := TD.out.head
        subst hq
        obtain ⟨N, hN⟩ : ∃ N : Nat, N = (Ts.cons k s n p d kids rest).len := ⟨_, rfl⟩
        have hN1 : N = rest.len + 1 := hN
        have HN := Lib.hid hN
        rw [← hN] at htl ⊢
        have h0N : 0 < N := by omega
        have hc1 : N ≤ c := by have := TD.out.cap; simp only [Ts.len] at this; omega
        have OK1 := Lib.hid hok1
        have AT1 := Lib.hid hat1
        have HQ := Lib.hid hq'
        have RT := Lib.hid hrest
        clear hN hok1 hat1 hq' hrest hN1
        go_wp2_with fail
        refine (rwalk_any l hl HE.out wr lp lc (AT.out.below BB.out) k s n p kids d).mono ?_
        rintro e w1 ⟨rfl, hB1⟩
        obtain ⟨X, hX⟩ : ∃ X, X = wk (look l) ⟨k, s, n, p, d, kids⟩ := ⟨_, rfl⟩
        rw [← hX]
        have HX := Lib.hid hX
        replace RT := Lib.hid (RT.out.below hB1)
        replace AT1 := Lib.hid (AT1.out.below hB1)
        replace BB := Lib.hid (BB.out.trans (hB1.mono BB.out.size))
        have hxw := walked_lies HE.out HSM.out (AT.out.below BB.out) OK1.out hsz1 AT1.out
        rw [← hX] at hxw
        clear hX c0 c1 c2 c3 hB1
        unfold Nd.val
        obtain ⟨W2, hW2⟩ : ∃ W2, W2 = w1.alloc (.cells #[.int .u8 X.k, .string X.s, .int .i64 X.n, .slice X.p X.kids.len X.c] 25) := ⟨_, rfl⟩
        have hB2 : Below w1.heap.size w1 W2 := by rw [hW2]; exact (Below.refl _ _).alloc (Nat.le_refl _) _
        have NB := BoxIs.new w1 X 25
        rw [← hW2] at NB
        have c0 := NB.c0
        have c2 := NB.c2
        have XB := Lib.hid NB
        replace RT := Lib.hid (RT.out.below hB2)
        have hsx := hxw.2.1
        have XW : Hid (X.ok ∧ Ts.At W2 X.p X.kids) := Lib.hid ⟨hxw.1, hxw.2.2.below hB2⟩
        replace BB := Lib.hid (BB.out.trans (hB2.mono BB.out.size))
        have Z2 := Lib.hid hW2
        have hkl : X.kids.len ≤ 5000 := Nat.le_trans (Ts.len_size _) hsx
        clear hB2 hW2 NB hxw
        go_upto_region 6 with fail
        rw [← Z2.out]
        obtain ⟨hit, hhit⟩ : ∃ hit : Bool, hit = ((X.k == 1) && ((X.n == v) && decide (at_ < 0))) := ⟨_, rfl⟩
        have HH := Lib.hid hhit
        have hpa := posA_app v X pre 0
        rw [← AP.out, PL.out, Nat.zero_add] at hpa
        have PA : Hid (posA v 0 (pre ++ [X]) = if hit = true then ((j + 1 : Nat) : Int) else at_) := Lib.hid (by
          rw [hpa, hhit]
          cases (X.k == 1) <;> cases (X.n == v) <;> by_cases ha : at_ < 0 <;> simp [ha] <;> omega)
        clear hpa hhit
        go_cut [40] from 14 to 47 (fun s40 wx => s40 = .bool hit ∧ wx = W2)
        case first =>
          by_cases hk : (X.k == 1) = true
          · by_cases hn : (X.n == v) = true
            · by_cases ha : at_ < 0
              · have R : Hid (hit = true) := Lib.hid (by rw [HH.out, hk, hn]; simp [ha])
                go_wp2
                go_meet
                exact ⟨by rw [R.out], rfl⟩
              · have R : Hid (hit = false) := Lib.hid (by rw [HH.out, hk, hn]; simp [ha])
                go_wp2
                go_meet
                exact ⟨by rw [R.out], rfl⟩
            · rw [Bool.not_eq_true] at hn
              have R : Hid (hit = false) := Lib.hid (by rw [HH.out, hk, hn]; simp)
              go_wp2
              go_meet
              exact ⟨by rw [R.out], rfl⟩
          · rw [Bool.not_eq_true] at hk
            have R : Hid (hit = false) := Lib.hid (by rw [HH.out, hk]; simp)
            go_wp2
            go_meet
            exact ⟨by rw [R.out], rfl⟩
        case rest =>
          obtain ⟨rfl, hw⟩ := hcut
          subst hw
          clear c0 c2
          go_upto_if 40 with fail
          go_cut [10] from 14 to 47 (fun s10 wx => s10 = .int .i64 (posA v 0 (pre ++ [X])) ∧ wx = wc)
          case first =>
            cases hit with
            | true =>
              go_wp2
              go_meet
              exact ⟨by rw [PA.out]; rfl, rfl⟩
            | false =>
              go_wp2
              go_meet
              exact ⟨by rw [PA.out]; rfl, rfl⟩
          case rest =>
            obtain ⟨rfl, hw⟩ := hcut
            subst hw
            go_upto_region 8 with fail
            have BW := Lib.hid BB.out
            have h0rest : (1 : Int) ≤ ((N : Nat) : Int) := by omega
            have hNr : N - 1 = rest.len := by have := HN.out; simp only [Ts.len] at this; omega
            have hrl : rest.len ≤ 30000000 := by omega
            have hbc : wc.heap.size ≤ wc.heap.size := Nat.le_refl _
            have NR := Lib.hid hNr
            clear hNr
            refine region_facts_last2 (fun W_ => Below wc.heap.size wc W_) [fun u _ => u = .pointer (some ⟨w1.heap.size, 3, none⟩), fun u _ => u = .slice X.p X.kids.len X.c, fun u W => W.ownsRow wc.heap.size 25 4 u X.kids.len (cellsL X.kids), fun u _ => u = .slice (some ⟨b, o, none⟩) N c, fun u _ => u = .slice q' rest.len (c - 1)]
              ⟨.eq _, .eq _, (fun _ _ _ h hB => own_below h hB), .eq _, .eq _, trivial⟩ (by kernel_rfl) (by kernel_rfl) (by kernel_rfl) (by kernel_rfl) (.slice (some ⟨b, o, none⟩) N c) rfl (Below.refl _ _).drew ?_ (by decide)
            refine ⟨?_, ?_, ?_, ?_, ?_, ?_⟩
            · intro g_ W_ hz hI hd K hK
              simp only [frameOf, Act.put, List.setIfInBounds_toArray, List.set_cons_zero, List.set_cons_succ]
              replace hz : g_ 6 = .slice (some ⟨b, o, none⟩) N c := hz
              rw [hz]
              go_simp
              refine hK.out (.pointer (some ⟨w1.heap.size, 3, none⟩)) _ W_ ?_ hI (Below.refl _ _) rfl
              simp only [frameOf, Act.put, List.setIfInBounds_toArray, List.set_cons_zero, List.set_cons_succ, Nat.zero_add, Nat.reduceAdd, hz]
            · intro g_ W_ hz hI hd K hK
              simp only [frameOf, Act.put, List.setIfInBounds_toArray, List.set_cons_zero, List.set_cons_succ]
              replace hz : g_ 6 = .slice (some ⟨b, o, none⟩) N c := hz
              have h0 : g_ 0 = .pointer (some ⟨w1.heap.size, 3, none⟩) := hd 0 (by kernel_rfl)
              rw [hz, h0]
              have c3 := (XB.out.below hI).c3
              go_simp
              refine hK.out (.slice X.p X.kids.len X.c) _ W_ ?_ hI (Below.refl _ _) rfl
              simp only [frameOf, Act.put, List.setIfInBounds_toArray, List.set_cons_zero, List.set_cons_succ, Nat.zero_add, Nat.reduceAdd, hz, h0]
            · intro g_ W_ hz hI hd K hK
              simp only [frameOf, Act.put, List.setIfInBounds_toArray, List.set_cons_zero, List.set_cons_succ]
              replace hz : g_ 6 = .slice (some ⟨b, o, none⟩) N c := hz
              have h1 : g_ 1 = .slice X.p X.kids.len X.c := hd 1 (by kernel_rfl)
              rw [hz, h1]
              refine if_wanted rfl ?_
              refine wp_app_terms _ _ rfl wc.heap.size (.slice none 0 0) 0 [] rfl (World.ownsRow_nil _ _ _ _) X.p X.kids X.c rfl XW.out.1.2.2.2.2.1 (XW.out.2.below hI) (by omega) hI.size ?_
              intro v' w' hown hgr hob
              have hB' : Below W_.heap.size W_ w' := (Below.refl _ _).grown (row := none) hgr (Nat.le_refl _) (fun k hk => by cases hk)
              rw [Nat.zero_add, List.nil_append] at hown
              refine hK.out v' _ w' ?_ (hI.trans (hB'.mono hI.size)) hB' hown
              simp only [frameOf, Act.put, List.setIfInBounds_toArray, List.set_cons_zero, List.set_cons_succ, Nat.zero_add, Nat.reduceAdd, hz, h1]
            · intro g_ W_ hz hI hd K hK
              simp only [frameOf, Act.put, List.setIfInBounds_toArray, List.set_cons_zero, List.set_cons_succ]
              replace hz : g_ 6 = .slice (some ⟨b, o, none⟩) N c := hz
              rw [hz]
              go_simp
              refine hK.out (.slice (some ⟨b, o, none⟩) N c) _ W_ ?_ hI (Below.refl _ _) rfl
              simp only [frameOf, Act.put, List.setIfInBounds_toArray, List.set_cons_zero, List.set_cons_succ, Nat.zero_add, Nat.reduceAdd, hz]
            · intro g_ W_ hz hI hd K hK
              simp only [frameOf, Act.put, List.setIfInBounds_toArray, List.set_cons_zero, List.set_cons_succ]
              replace hz : g_ 6 = .slice (some ⟨b, o, none⟩) N c := hz
              have h3 : g_ 3 = .slice (some ⟨b, o, none⟩) N c := hd 3 (by kernel_rfl)
              rw [hz, h3]
              go_simp
              rw [HQ.out, NR.out]
              refine hK.out (.slice q' rest.len (c - 1)) _ W_ ?_ hI (Below.refl _ _) rfl
              simp only [frameOf, Act.put, List.setIfInBounds_toArray, List.set_cons_zero, List.set_cons_succ, Nat.zero_add, Nat.reduceAdd, hz, h3]
            · intro g_ W_ hz hI hd K hK
              simp only [frameOf, Act.put, List.setIfInBounds_toArray, List.set_cons_zero, List.set_cons_succ]
              replace hz : g_ 6 = .slice (some ⟨b, o, none⟩) N c := hz
              have h2 := hd 2 (by decide)
              have h4 : g_ 4 = .slice q' rest.len (c - 1) := hd 4 (by decide)
              replace h2 : W_.ownsRow wc.heap.size 25 4 (g_ 2) X.kids.len (cellsL X.kids) := h2
              rw [hz, h4]
              refine if_wanted rfl ?_
              refine wp_app_terms _ _ rfl wc.heap.size (g_ 2) X.kids.len (cellsL X.kids) rfl h2 q' rest (c - 1) rfl (RT.out.nn) (RT.out.at_.below hI) (by omega) hI.size ?_
              intro v' w' hown hgr hob
              have hlt2 := h2.lt
              have hB' : Below wc.heap.size wc w' := hI.grown (row := (g_ 2).ownBlock) hgr hI.size (fun k hk => (hlt2 k hk).1)
              obtain ⟨q'', c'', rfl, hTd⟩ := Td.next hown rfl (XW.out.2.below hB') XW.out.1.2.2.2.2.2.1 hsx (RT.out.below hB')
              have TN := Lib.hid hTd
              have BN := Lib.hid (BB.out.trans (hB'.mono BB.out.size))
              clear hown hgr hob hlt2 hB' hTd hd h2
              refine hK.out (.slice q'' (X.kids.app rest).len c'') _ w' ?_ ?_
              · simp only [frameOf, Act.put, List.setIfInBounds_toArray, List.set_cons_zero, List.set_cons_succ, Nat.zero_add, Nat.reduceAdd, hz, h4]
              · intro K' hK'
                simp (decide := true) only [frameOf, Act.put, List.setIfInBounds_toArray, List.set_cons_zero, List.set_cons_succ, Nat.zero_add, Nat.reduceAdd, hz, h4, upd, ↓reduceIte]
                refine if_wanted rfl ?_
                go_simp
                refine hK'.out (.slice q'' (X.kids.app rest).len c'') _ w' ?_ ?_
                · simp (decide := true) only [frameOf, Act.put, List.setIfInBounds_toArray, List.set_cons_zero, List.set_cons_succ, Nat.zero_add, Nat.reduceAdd, h4, upd, ↓reduceIte]
                · simp (decide := true) only [frameOf, Act.put, List.setIfInBounds_toArray, List.set_cons_zero, List.set_cons_succ, Nat.zero_add, Nat.reduceAdd, hz, h4, upd, Nat.reduceEqDiff, ↓reduceIte]
                  clear hK K hK' K'
                  go_roundw
                  case rel =>
                    repeat apply Exists.intro
                    refine ⟨?_, rfl⟩
                    refine ⟨j + 1, f', X.kids.app rest, q'', c'', pre ++ [X], rfl, by go_num, rfl, Lib.hid (by rw [List.length_append, PL.out]; rfl), by omega, by rw [app_len]; have := NR.out; omega, Lib.hid ?_, TN, BN⟩
                    have h := HA.out
                    simp only [vis, elems] at h
                    rw [elems_app, List.append_assoc, h, HX.out]
                    rfl
                  case measure => simp [intOf]; omega
    · have hf : f = 0 := by omega
      have R1 : Hid (all.length = j ∧ posA v 0 all = at_) := Lib.hid (by
        have h := HA.out
        rw [hf] at h
        simp only [vis, List.append_nil] at h
        exact ⟨by rw [h, PL.out], by rw [h, AP.out]⟩)
      clear hf
      go_wp2
      all_goals exact bodyPost_ret (v := .tuple #[.int .i64 (j : Nat), .int .i64 at_]) (by simp [results, Tryz.results26, go_sem]) rfl ⟨by rw [R1.out.1, R1.out.2], BB.out⟩

end Go.Proofs.YtnmhnaanpjlniaaGreat
/-
  Layer 3: the document's occurrence.
-/
namespace Go.Proofs.YtnmhnaanpjlniaaGreat
open Go.RowKit

set_option maxRecDepth 100000 in
set_option maxHeartbeats 4000000 in
theorem roccurs_any (l : List (Int × Nd)) (hl : l.length ≤ 1000000) (hE : Ends (look l)) (hS : Small (look l)) (w : World) (lp : Option Addr) (lc : Nat) (hat : BsAt w lp l) (t : Nd) (hok : t.ok) (hsz : t.kids.size ≤ 5000) (htat : Ts.At w t.p t.kids) (v : Int) :
    Calls Tryz.prog 38 #[.slice lp l.length lc, .int .i64 v, .agg #[.int .u8 t.k, .string t.s, .int .i64 t.n, .slice t.p t.kids.len t.c]] w fun e w' => e = .returned (.tuple #[.bool (occ v (num 0 (vis (look l) 4097 [t]))).1, .int .i64 (occ v (num 0 (vis (look l) 4097 [t]))).2]) ∧ Below w.heap.size w w' := by
  have HE := Lib.hid hE
  have HS := Lib.hid hS
  have AT := Lib.hid hat
  have OK := Lib.hid hok
  have TAT := Lib.hid htat
  have hlen := vis_length (look l) 4097 [t]
  have ho := occ_pos v (vis (look l) 4097 [t]) 0 (by omega) (by omega)
  have hpa := posA_le v (vis (look l) 4097 [t]) 0
  rw [Nat.zero_add] at ho hpa
  obtain ⟨oc, hoc⟩ : ∃ oc, oc = occ v (num 0 (vis (look l) 4097 [t])) := ⟨_, rfl⟩
  rw [← hoc] at ho ⊢
  obtain ⟨z, hz⟩ : ∃ z, z = posA v 0 (vis (look l) 4097 [t]) := ⟨_, rfl⟩
  rw [← hz] at ho hpa
  obtain ⟨n, hn⟩ : ∃ n, n = (vis (look l) 4097 [t]).length := ⟨_, rfl⟩
  rw [← hn] at ho hlen hpa
  have OC := Lib.hid ho
  have ZZ := Lib.hid hz
  have NN := Lib.hid hn
  clear hE hS hat hok htat ho hoc hz hn
  go_enter Tryz.func38, Tryz.ntmps38
  go_wp2_with fail
  have hB0 : Below w.heap.size w (w.alloc (.cells #[.int .u8 t.k, .string t.s, .int .i64 t.n, .slice t.p t.kids.len t.c] 25)) := (Below.refl _ _).alloc (Nat.le_refl _) _
  refine (bnodes_any l hl HE.out HS.out _ lp lc (AT.out.below hB0) t OK.out hsz (TAT.out.below hB0) v).mono ?_
  rintro e w1 ⟨rfl, hB1⟩
  rw [← ZZ.out, ← NN.out]
  have BB := Lib.hid (hB0.trans (hB1.mono hB0.size))
  clear hB0 hB1
  by_cases h1 : 0 ≤ z
  · by_cases h2 : z ≤ 4096
    · have R := OC.out
      rw [if_pos ⟨h1, h2⟩] at R
      have RR := Lib.hid R
      clear R
      go_wp2
      exact bodyPost_ret (v := .tuple #[.bool true, .int .i64 0]) (by simp [results, Tryz.results38, go_sem]) rfl ⟨by rw [RR.out], BB.out⟩
    · have h3 : 4096 < n := by omega
      have R := OC.out
      rw [if_neg (by omega), if_pos h3] at R
      have RR := Lib.hid R
      clear R
      go_wp2
      exact bodyPost_ret (v := .tuple #[.bool false, .int .i64 31]) (by simp [results, Tryz.results38, go_sem]) rfl ⟨by rw [RR.out], BB.out⟩
  · by_cases h3 : 4096 < n
    · have R := OC.out
      rw [if_neg (by omega), if_pos h3] at R
      have RR := Lib.hid R
      clear R
      go_wp2
      exact bodyPost_ret (v := .tuple #[.bool false, .int .i64 31]) (by simp [results, Tryz.results38, go_sem]) rfl ⟨by rw [RR.out], BB.out⟩
    · have R := OC.out
      rw [if_neg (by omega), if_neg h3] at R
      have RR := Lib.hid R
      clear R
      go_wp2
      exact bodyPost_ret (v := .tuple #[.bool false, .int .i64 0]) (by simp [results, Tryz.results38, go_sem]) rfl ⟨by rw [RR.out], BB.out⟩

end Go.Proofs.YtnmhnaanpjlniaaGreat
/-
  A growing list of terms of one's own, and the parts of its elements elsewhere: plain facts.
-/
namespace Go.Proofs.YtnmhnaanpjlniaaGreat
open Go.RowKit

theorem liesP_imp {P Q : Nat → Prop} {w : World} (h : ∀ b, b < w.heap.size → P b → Q b) : ∀ (ts : Ts) {b o : Nat}, ts.liesP P w b o → ts.liesP Q w b o
  | .nil, _, _, _ => trivial
  | .cons _ _ _ _ _ kids rest, _, _, ⟨hb, h0, h1, h2, h3, ⟨b', o', h4, h5⟩, h6⟩ => ⟨h _ (World.block_lt_of_cell? _ _ h0) hb, h0, h1, h2, h3, ⟨b', o', h4, liesP_imp h kids h5⟩, liesP_imp h rest h6⟩

theorem AtP_imp {P Q : Nat → Prop} {w : World} (h : ∀ b, b < w.heap.size → P b → Q b) {p : Option Addr} {ts : Ts} (hat : Ts.AtP P w p ts) : Ts.AtP Q w p ts := by
  obtain ⟨b, o, h1, h2⟩ := hat
  exact ⟨b, o, h1, liesP_imp h ts h2⟩

theorem liesP_lies {P : Nat → Prop} {w : World} : ∀ (ts : Ts) {b o : Nat}, ts.liesP P w b o → ts.lies w b o
  | .nil, _, _, _ => trivial
  | .cons _ _ _ _ _ kids rest, _, _, ⟨_, h0, h1, h2, h3, ⟨b', o', h4, h5⟩, h6⟩ => ⟨h0, h1, h2, h3, ⟨b', o', h4, liesP_lies kids h5⟩, liesP_lies rest h6⟩

theorem AtP_at {P : Nat → Prop} {w : World} {p : Option Addr} {ts : Ts} (hat : Ts.AtP P w p ts) : Ts.At w p ts := by
  obtain ⟨b, o, h1, h2⟩ := hat
  exact ⟨b, o, h1, liesP_lies ts h2⟩

/-- the parts of a list's elements lie in blocks of a kind -/
def KidsP (P : Nat → Prop) (w : World) : Ts → Prop
  | .nil => True
  | .cons _ _ _ p _ kids rest => Ts.AtP P w p kids ∧ KidsP P w rest

theorem KidsP.stay {P Q : Nat → Prop} {w w' : World} (hc : ∀ b, P b → b < w.heap.size → w'.heap[b]? = w.heap[b]?) (hPQ : ∀ b, P b → b < w.heap.size → Q b) : ∀ {ts : Ts}, KidsP P w ts → KidsP Q w' ts
  | .nil, _ => trivial
  | .cons _ _ _ _ _ _ _, h => ⟨AtP_imp (P := fun b => P b ∧ Q b) (fun _ _ hb => hb.2) ((AtP_imp (fun b hl hb => ⟨hb, hPQ b hb hl⟩) h.1).stay (fun b hb hl => hc b hb.1 hl)), KidsP.stay hc hPQ h.2⟩

theorem KidsP.app {P : Nat → Prop} {w : World} : ∀ {t u : Ts}, KidsP P w t → KidsP P w u → KidsP P w (t.app u)
  | .nil, _, _, h => h
  | .cons _ _ _ _ _ _ _, _, h, h' => ⟨h.1, KidsP.app h.2 h'⟩

theorem liesP_cells {P : Nat → Prop} {w : World} : ∀ {ts : Ts} {b o : Nat}, P b → (∀ (j : Nat) (u : Value), (cellsL ts)[j]? = some u → w.cell? ⟨b, o + j, none⟩ = some u) → KidsP P w ts → ts.liesP P w b o
  | .nil, _, _, _, _, _ => trivial
  | .cons k s n p c kids rest, b, o, hb, h, hk => by
    refine ⟨hb, h 0 _ rfl, h 1 _ rfl, h 2 _ rfl, h 3 _ rfl, hk.1, liesP_cells hb (fun j u hj => ?_) hk.2⟩
    have := h (j + 4) u (by simpa [cellsL] using hj)
    rw [show o + 4 + j = o + (j + 4) from by omega]
    exact this

/-- a list of its own, and the parts of its elements elsewhere -/
def OwnL (base : Nat) (e : TypeId) (v : Value) (acc : Ts) (w : World) : Prop :=
  w.ownsRow base e 4 v acc.len (cellsL acc) ∧ acc.ok ∧ KidsP (fun b => base ≤ b ∧ v.ownBlock ≠ some b) w acc

theorem OwnL.start (base : Nat) (e : TypeId) (w : World) : OwnL base e (.slice none 0 0) .nil w := ⟨World.ownsRow_nil _ _ _ _, trivial, trivial⟩

theorem OwnL.below {base : Nat} {e : TypeId} {v : Value} {acc : Ts} {w w' : World} (h : OwnL base e v acc w) (hB : Below w.heap.size w w') : OwnL base e v acc w' :=
  ⟨h.1.kept (row := none) ⟨hB.os, hB.tape, hB.output, hB.size, fun k hk _ => hB.block k hk⟩ (by cases v.ownBlock <;> simp), h.2.1, KidsP.stay (fun b _ hl => hB.block b hl) (fun _ hb _ => hb) h.2.2⟩

theorem OwnL.push {base m : Nat} {e : TypeId} {v v' : Value} {acc U : Ts} {W W7 : World} {o : Obj} (h : OwnL base e v acc W) (hown : W7.ownsRow base e 4 v' (acc.len + 1) (cellsL acc ++ cellsL U))
    (hg : (W.alloc o).grownBy W7 v.ownBlock) (hob : v'.ownBlock = v.ownBlock ∨ v'.ownBlock = some (W.alloc o).heap.size) (hU : U.len = 1) (hUok : U.ok) (hk : KidsP (fun b => m ≤ b) W U) (hm : base ≤ m) (hgm : ∀ q, v.ownBlock = some q → q < m) : OwnL base e v' (acc.app U) W7 := by
  obtain ⟨h1, h2, h3⟩ := h
  have hk' : KidsP (fun b => base ≤ b ∧ v.ownBlock ≠ some b) W U := KidsP.stay (fun _ _ _ => rfl) (fun b hb _ => ⟨by omega, fun e => by have := hgm b e; omega⟩) hk
  refine ⟨by rw [app_len, cellsL_app, hU]; exact hown, app_ok h2 hUok, KidsP.stay (w := W) (fun b hb hlt => ?_) (fun b hb hlt => ?_) (KidsP.app h3 hk')⟩
  · exact (hg.block b (by simp; omega) (fun e => hb.2 e.symm)).trans (Below.heap_alloc _ _ _ hlt)
  · refine ⟨hb.1, ?_⟩
    rcases hob with e | e
    · rw [e]; exact hb.2
    · rw [e]
      intro e2
      have e3 := Option.some.inj e2
      simp at e3
      omega

/-- a list of its own, read -/
theorem OwnL.at {base : Nat} {e : TypeId} {v : Value} {acc : Ts} {w : World} (h : OwnL base e v acc w) (hne : 0 < acc.len) : ∃ g c, v = .slice (some ⟨g, 0, none⟩) acc.len c ∧ Ts.AtP (fun b => base ≤ b) w (some ⟨g, 0, none⟩) acc := by
  obtain ⟨hrow, hok, hk⟩ := h
  have hlt := hrow.lt
  rcases hrow.2 with ⟨_, h0⟩ | ⟨g, cap, cur, rfl, hg1, hg2, hg3, hg4, hg5, hg6⟩
  · omega
  obtain ⟨hc, _⟩ := row_cells hg2 hg6 (cellsL_length acc)
  exact ⟨g, cap, rfl, g, 0, .inr rfl, liesP_cells (hlt g rfl).1 hc (KidsP.stay (fun _ _ _ => rfl) (fun _ hb _ => hb.1) hk)⟩

/-- a list of its own is a slice's value -/
theorem OwnL.read {base : Nat} {e : TypeId} {v : Value} {acc : Ts} {w : World} (h : OwnL base e v acc w) : ∃ q c, v = .slice q acc.len c ∧ Ts.AtP (fun b => base ≤ b) w q acc ∧ (acc.len ≤ c ∧ c ≤ 9223372036854775807) ∧ (q = none → c = 0) := by
  obtain ⟨hrow, hok, hk⟩ := h
  have hlt := hrow.lt
  rcases hrow.2 with ⟨rfl, h0⟩ | ⟨g, cap, cur, rfl, hg1, hg2, hg3, hg4, hg5, hg6⟩
  · exact ⟨none, 0, by rw [h0], ⟨0, 0, .inl (Ts.len_zero h0), by rw [Ts.len_zero h0]; trivial⟩, ⟨by omega, by omega⟩, fun _ => rfl⟩
  obtain ⟨hc, _⟩ := row_cells hg2 hg6 (cellsL_length acc)
  exact ⟨_, cap, rfl, ⟨g, 0, .inr rfl, liesP_cells (hlt g rfl).1 hc (KidsP.stay (fun _ _ _ => rfl) (fun _ hb _ => hb.1) hk)⟩, ⟨hg3, by unfold maxLen at hg4; omega⟩, fun e => by cases e⟩

end Go.Proofs.YtnmhnaanpjlniaaGreat
