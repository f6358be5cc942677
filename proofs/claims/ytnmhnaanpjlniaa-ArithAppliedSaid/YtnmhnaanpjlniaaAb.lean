import Derived.Test.YtnmhnaanpjlniaaZa
import Derived.Test.YtnmhnaanpjlniaaTn
/-
  Layer 3: which kid of a node has a number, and whether a number is beyond what nodes have.
-/
namespace Go.Proofs.Ytnmhnaanpjlniaa
open Go.RowKit

/-- which kid of a node of a level has a number -/
def kidOf (v : Int) (l : Nat) : Nat := (v.toNat / 2 ^ (3 + 4 * (l - 1))) % 16
/-- is a number beyond so many levels? -/
def isBeyond (v : Int) (h : Nat) : Prop := ¬ v.toNat / 2 ^ (3 + 4 * h) = 0

theorem kidOf_lt (v : Int) (l : Nat) : kidOf v l < 16 := Nat.mod_lt _ (by omega)

theorem and_15 (n : Nat) (_hn : n < 9223372036854775808) : bits .and .i64 (n : Int) 15 = ((n % 16 : Nat) : Int) := by
  have e1 : BitVec.ofInt 64 (n : Int) = BitVec.ofNat 64 n := by
    apply BitVec.eq_of_toNat_eq
    simp
  have e2 : (BitVec.ofNat 64 n &&& BitVec.ofInt 64 15).toNat = n % 16 := by
    rw [BitVec.toNat_and]
    have : (BitVec.ofInt 64 15).toNat = 2 ^ 4 - 1 := by decide
    rw [this, Nat.and_two_pow_sub_one_eq_mod, BitVec.toNat_ofNat]
    omega
  have e3 : bits .and .i64 (n : Int) 15 = IntKind.i64.wrap ((BitVec.ofInt 64 (n : Int) &&& BitVec.ofInt 64 15).toNat : Int) := rfl
  rw [e3, e1, e2]
  have h16 : n % 16 < 16 := Nat.mod_lt _ (by omega)
  generalize n % 16 = m at *
  exact IntWalk.i64_in _ (by omega)

theorem wf64 {n : Int} (h : -9223372036854775808 ≤ n ∧ n ≤ 9223372036854775807) : (Lit.int .i64 n).wf = true := WalkArith.wf_i64 h

theorem div_cast (v : Int) (hv : 0 ≤ v) (k : Nat) : v / 2 ^ k = ((v.toNat / 2 ^ k : Nat) : Int) := by
  obtain ⟨n, rfl⟩ := Int.eq_ofNat_of_zero_le hv
  simp

set_option maxHeartbeats 1000000 in
theorem kid_any (v : Int) (hv : 0 ≤ v ∧ v ≤ 9223372036854775807) (l : Nat) (hl : 1 ≤ l ∧ l ≤ 15) (w : World) : Calls Try.prog 107 #[.int .i64 v, .int .u64 l] w fun e w' => e = .returned (.int .i64 (kidOf v l)) ∧ w' = w := by
  have h2 : v / 2 ^ (3 + 4 * (l - 1)) = ((v.toNat / 2 ^ (3 + 4 * (l - 1)) : Nat) : Int) := div_cast v hv.1 _
  have h3 : v.toNat / 2 ^ (3 + 4 * (l - 1)) < 9223372036854775808 := Nat.lt_of_le_of_lt (Nat.div_le_self _ _) (by omega)
  have h4 : bits .and .i64 (v / 2 ^ (3 + 4 * (l - 1))) 15 = (kidOf v l : Int) := by rw [h2]; exact and_15 _ h3
  have H4 := Lib.hid h4
  clear h2 h3 h4
  go_enter Try.func107, Try.ntmps107
  go_wp2
  go_ret
  exact ⟨by rw [H4.out]; rfl, rfl⟩

theorem kid_at (v : Int) (hv : 0 ≤ v ∧ v ≤ 9223372036854775807) (l : Nat) (hl : 1 ≤ l ∧ l ≤ 15) (x : Int) (hx : x = (l : Int)) (w : World) : Calls Try.prog 107 #[.int .i64 v, .int .u64 x] w fun e w' => e = .returned (.int .i64 (kidOf v l)) ∧ w' = w := by
  subst hx
  exact kid_any v hv l hl w

set_option maxHeartbeats 1000000 in
theorem beyond_no (v : Int) (hv : 0 ≤ v ∧ v ≤ 9223372036854775807) (h : Nat) (hh : h ≤ 15) (hb : ¬ isBeyond v h) (w : World) : Calls Try.prog 82 #[.int .i64 v, .int .u64 h] w fun e w' => e = .returned (.bool false) ∧ w' = w := by
  have h2 : v / 2 ^ (3 + 4 * h) = 0 := by rw [div_cast v hv.1]; unfold isBeyond at hb; rw [Classical.not_not.1 hb]; rfl
  have H2 := Lib.hid h2
  clear h2
  go_enter Try.func82, Try.ntmps82
  go_wp2
  go_ret
  exact ⟨by rw [H2.out]; rfl, rfl⟩

set_option maxHeartbeats 1000000 in
theorem beyond_yes (v : Int) (hv : 0 ≤ v ∧ v ≤ 9223372036854775807) (h : Nat) (hh : h ≤ 15) (hb : isBeyond v h) (w : World) : Calls Try.prog 82 #[.int .i64 v, .int .u64 h] w fun e w' => e = .returned (.bool true) ∧ w' = w := by
  have h2 : (v / 2 ^ (3 + 4 * h) != 0) = true := by rw [div_cast v hv.1]; unfold isBeyond at hb; generalize v.toNat / 2 ^ (3 + 4 * h) = q at *; simp; omega
  have H2 := Lib.hid h2
  clear h2
  go_enter Try.func82, Try.ntmps82
  go_wp2
  go_ret
  exact ⟨by rw [H2.out]; rfl, rfl⟩

end Go.Proofs.Ytnmhnaanpjlniaa
/-
  Layer 3: what is bound, walked, visited, applied: plain facts.
-/
namespace Go.Proofs.Ytnmhnaanpjlniaa
open Go.RowKit

/-- what numbers are bound to -/
abbrev Sb := Int → Option Nd
def Sb.put (σ : Sb) (v : Int) (x : Nd) : Sb := fun u => if u = v then some x else σ u
def Sb.none : Sb := fun _ => Option.none

theorem Sb.put_same (σ : Sb) (v : Int) (x : Nd) : σ.put v x v = some x := by simp [Sb.put]
theorem Sb.put_other {σ : Sb} {v u : Int} {x : Nd} (h : u ≠ v) : σ.put v x u = σ u := by simp [Sb.put, h]

/-- a term walked, in so many steps -/
inductive Wk (σ : Sb) : Nd → Nd → Nat → Prop
  | stop {t : Nd} (h : (t.k == 1) = false ∨ σ t.n = none) : Wk σ t t 0
  | go {t b r : Nd} {m : Nat} (hk : (t.k == 1) = true) (hb : σ t.n = some b) (h : Wk σ b r m) : Wk σ t r (m + 1)

theorem Wk.det {σ : Sb} {t r : Nd} {m : Nat} (h : Wk σ t r m) : ∀ {r' : Nd} {m' : Nat}, Wk σ t r' m' → r = r' ∧ m = m' := by
  induction h with
  | stop h =>
    intro r' m' h'
    cases h' with
    | stop _ => exact ⟨rfl, rfl⟩
    | go hk hb _ =>
      rcases h with h | h
      · rw [h] at hk; cases hk
      · rw [h] at hb; cases hb
  | go hk hb _ ih =>
    intro r' m' h'
    cases h' with
    | stop h =>
      rcases h with h | h
      · rw [h] at hk; cases hk
      · rw [h] at hb; cases hb
    | go _ hb' h' =>
      rw [hb] at hb'
      cases hb'
      obtain ⟨e1, e2⟩ := ih h'
      exact ⟨e1, by rw [e2]⟩

theorem Wk.ends {σ : Sb} {t r : Nd} {m : Nat} (h : Wk σ t r m) : (r.k == 1) = false ∨ σ r.n = none := by
  induction h with
  | stop h => exact h
  | go _ _ _ ih => exact ih

/-- walking comes to an end -/
def Ends (σ : Sb) : Prop := ∀ t, ∃ r m, Wk σ t r m

open Classical in
noncomputable def wk (σ : Sb) (t : Nd) : Nd := if h : ∃ r m, Wk σ t r m then Classical.choose h else t
open Classical in
noncomputable def wkn (σ : Sb) (t : Nd) : Nat := if h : ∃ m r, Wk σ t r m then Classical.choose h else 0

theorem wk_eq {σ : Sb} {t r : Nd} {m : Nat} (h : Wk σ t r m) : wk σ t = r := by
  have hx : ∃ r m, Wk σ t r m := ⟨r, m, h⟩
  unfold wk
  rw [dif_pos hx]
  obtain ⟨m', h'⟩ := Classical.choose_spec hx
  exact (h'.det h).1
theorem wkn_eq {σ : Sb} {t r : Nd} {m : Nat} (h : Wk σ t r m) : wkn σ t = m := by
  have hx : ∃ m r, Wk σ t r m := ⟨m, r, h⟩
  unfold wkn
  rw [dif_pos hx]
  obtain ⟨r', h'⟩ := Classical.choose_spec hx
  exact (h'.det h).2
theorem wk_spec {σ : Sb} (hE : Ends σ) (t : Nd) : Wk σ t (wk σ t) (wkn σ t) := by
  obtain ⟨r, m, h⟩ := hE t
  rw [wk_eq h, wkn_eq h]
  exact h
theorem wk_stop {σ : Sb} {t : Nd} (h : (t.k == 1) = false ∨ σ t.n = none) : wk σ t = t := wk_eq (.stop h)
theorem wk_go {σ : Sb} (hE : Ends σ) {t b : Nd} (hk : (t.k == 1) = true) (hb : σ t.n = some b) : wk σ t = wk σ b := wk_eq (.go hk hb (wk_spec hE b))
theorem wkn_go {σ : Sb} (hE : Ends σ) {t b : Nd} (hk : (t.k == 1) = true) (hb : σ t.n = some b) : wkn σ t = wkn σ b + 1 := wkn_eq (.go hk hb (wk_spec hE b))

theorem Ends.none : Ends Sb.none := fun t => ⟨t, 0, .stop (.inr rfl)⟩

theorem Wk.put {σ : Sb} {v : Int} {x : Nd} (hv : σ v = none) {t r : Nd} {m : Nat} (h : Wk σ t r m) (hr : ¬ ((r.k == 1) = true ∧ r.n = v)) : Wk (σ.put v x) t r m := by
  induction h with
  | @stop t h =>
    refine .stop ?_
    rcases h with h | h
    · exact .inl h
    · by_cases hk : (t.k == 1) = true
      · exact .inr (by rw [Sb.put_other (fun e => hr ⟨hk, e⟩)]; exact h)
      · exact .inl (by simpa using hk)
  | go hk hb _ ih =>
    refine .go hk ?_ (ih hr)
    rw [Sb.put_other (fun e => by rw [e, hv] at hb; cases hb)]
    exact hb

theorem Wk.put_on {σ : Sb} {v : Int} {x : Nd} (hv : σ v = none) {t r : Nd} {m : Nat} (h : Wk σ t r m) (hr : (r.k == 1) = true ∧ r.n = v) {r' : Nd} {m' : Nat} (hx : Wk (σ.put v x) x r' m') : Wk (σ.put v x) t r' (m + 1 + m') := by
  induction h with
  | stop h =>
    rw [Nat.zero_add, Nat.add_comm]
    exact .go hr.1 (by rw [hr.2, Sb.put_same]) hx
  | go hk hb _ ih =>
    have := ih hr
    rw [show ∀ a : Nat, a + 1 + 1 + m' = a + 1 + m' + 1 by omega]
    refine .go hk ?_ this
    rw [Sb.put_other (fun e => by rw [e, hv] at hb; cases hb)]
    exact hb

theorem Ends.put {σ : Sb} (hE : Ends σ) {v : Int} {x : Nd} (hv : σ v = Option.none) (hx : ¬ (((wk σ x).k == 1) = true ∧ (wk σ x).n = v)) : Ends (σ.put v x) := by
  intro t
  have h1 := Wk.put (x := x) hv (wk_spec hE x) hx
  by_cases h : ((wk σ t).k == 1) = true ∧ (wk σ t).n = v
  · exact ⟨_, _, Wk.put_on hv (wk_spec hE t) h h1⟩
  · exact ⟨_, _, Wk.put hv (wk_spec hE t) h⟩

/-- a list's elements -/
def elems : Ts → List Nd
  | .nil => []
  | .cons k s n p c kids rest => ⟨k, s, n, p, c, kids⟩ :: elems rest

theorem elems_length : ∀ ts : Ts, (elems ts).length = ts.len
  | .nil => rfl
  | .cons _ _ _ _ _ _ r => by simp [elems, Ts.len, elems_length r]

/-- what is visited of terms, so many at most -/
noncomputable def vis (σ : Sb) : Nat → List Nd → List Nd
  | 0, _ => []
  | _ + 1, [] => []
  | f + 1, t :: rest => wk σ t :: vis σ f (elems (wk σ t).kids ++ rest)

theorem vis_nil (σ : Sb) (f : Nat) : vis σ f [] = [] := by cases f <;> rfl

theorem vis_length (σ : Sb) : ∀ (f : Nat) (l : List Nd), (vis σ f l).length ≤ f
  | 0, _ => by simp [vis]
  | _ + 1, [] => by simp [vis]
  | f + 1, t :: rest => by simp only [vis, List.length_cons]; have := vis_length σ f (elems (wk σ t).kids ++ rest); omega

/-- how many nodes terms have, applied -/
inductive Cnt (σ : Sb) : List Nd → Nat → Prop
  | nil : Cnt σ [] 0
  | cons {t : Nd} {rest : List Nd} {a b : Nat} (h : Cnt σ (elems (wk σ t).kids) a) (h' : Cnt σ rest b) : Cnt σ (t :: rest) (a + b + 1)

theorem Cnt.split {σ : Sb} : ∀ (l m : List Nd) {n : Nat}, Cnt σ (l ++ m) n → ∃ x y, Cnt σ l x ∧ Cnt σ m y ∧ n = x + y
  | [], m, n, h => ⟨0, n, .nil, h, by omega⟩
  | t :: l, m, n, h => by
    cases h with
    | cons h h' =>
      obtain ⟨x, y, h1, h2, h3⟩ := Cnt.split l m h'
      exact ⟨_, y, .cons h h1, h2, by omega⟩

theorem vis_cnt {σ : Sb} : ∀ (f : Nat) (l : List Nd), (vis σ f l).length < f → Cnt σ l (vis σ f l).length
  | 0, _, h => by omega
  | _ + 1, [], _ => .nil
  | f + 1, t :: rest, h => by
    simp only [vis, List.length_cons] at h ⊢
    obtain ⟨x, y, h1, h2, h3⟩ := Cnt.split _ _ (vis_cnt (σ := σ) f (elems (wk σ t).kids ++ rest) (by omega))
    rw [h3]
    exact .cons h1 h2

theorem Cnt.len {σ : Sb} {l : List Nd} {n : Nat} (h : Cnt σ l n) : l.length ≤ n := by
  induction h with
  | nil => simp
  | cons _ _ _ ih => simp; omega

/-- terms, applied -/
inductive App (σ : Sb) : List Nd → Ts → Prop
  | nil : App σ [] .nil
  | cons {t : Nd} {rest : List Nd} {p : Option Addr} {c : Nat} {ks rs : Ts} (h : App σ (elems (wk σ t).kids) ks) (h' : App σ rest rs) : App σ (t :: rest) (.cons (wk σ t).k (wk σ t).s (wk σ t).n p c ks rs)

theorem App.twin {σ : Sb} {l : List Nd} {us : Ts} (h : App σ l us) : ∀ {vs : Ts}, App σ l vs → Ts.twin us vs := by
  induction h with
  | nil => intro vs h; cases h; trivial
  | cons _ _ ih1 ih2 => intro vs h; cases h with | cons h h' => exact ⟨rfl, rfl, rfl, ih1 h, ih2 h'⟩

theorem App.len {σ : Sb} {l : List Nd} {us : Ts} (h : App σ l us) : us.len = l.length := by
  induction h with
  | nil => rfl
  | cons _ _ _ ih => simp [Ts.len, ih]

end Go.Proofs.Ytnmhnaanpjlniaa
