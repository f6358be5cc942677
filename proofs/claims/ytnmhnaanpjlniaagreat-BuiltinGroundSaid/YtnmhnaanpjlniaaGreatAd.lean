import Derived.Test.YtnmhnaanpjlniaaGreatZa
import Derived.Test.YtnmhnaanpjlniaaGreatTn
import Derived.Maps.OwnSet
import Derived.Deep.QuietTactic
import Derived.BigQuiet
import Derived.Deep.DeepCutAuto
/-
  Layer 3: which kid of a node has a number, and whether a number is beyond what nodes have.
-/
namespace Go.Proofs.YtnmhnaanpjlniaaGreat
open Go.RowKit

/-- which kid of a node of a level has a number -/
def kidOf (v : Int) (l : Nat) : Nat := (v.toNat / 2 ^ (3 + 4 * (l - 1))) % 16
/-- is a number beyond so many levels? -/
def isBeyond (v : Int) (h : Nat) : Prop := ¬ v.toNat / 2 ^ (3 + 4 * h) = 0

theorem kidOf_lt (v : Int) (l : Nat) : kidOf v l < 16 := Nat.mod_lt _ (by omega)

theorem and_15 (n : Nat) (_hn : n < 9223372036854775808) : bits .and .i64 (n : Int) 15 = ((n % 16 : Nat) : Int) := by
  have e1 : BitVec.ofInt 64 (n : Int) = BitVec.ofNat 64 n := by
    apply BitVec.eq_of_toNat_eq
    simp
  have e2 : (BitVec.ofNat 64 n &&& BitVec.ofInt 64 15).toNat = n % 16 := by
    rw [BitVec.toNat_and]
    have : (BitVec.ofInt 64 15).toNat = 2 ^ 4 - 1 := by decide
    rw [this, Nat.and_two_pow_sub_one_eq_mod, BitVec.toNat_ofNat]
    omega
  have e3 : bits .and .i64 (n : Int) 15 = IntKind.i64.wrap ((BitVec.ofInt 64 (n : Int) &&& BitVec.ofInt 64 15).toNat : Int) := rfl
  rw [e3, e1, e2]
  have h16 : n % 16 < 16 := Nat.mod_lt _ (by omega)
  generalize n % 16 = m at *
  exact IntWalk.i64_in _ (by omega)

theorem wf64 {n : Int} (h : -9223372036854775808 ≤ n ∧ n ≤ 9223372036854775807) : (Lit.int .i64 n).wf = true := WalkArith.wf_i64 h

theorem div_cast (v : Int) (hv : 0 ≤ v) (k : Nat) : v / 2 ^ k = ((v.toNat / 2 ^ k : Nat) : Int) := by
  obtain ⟨n, rfl⟩ := Int.eq_ofNat_of_zero_le hv
  simp

set_option maxHeartbeats 1000000 in
theorem kid_any (v : Int) (hv : 0 ≤ v ∧ v ≤ 9223372036854775807) (l : Nat) (hl : 1 ≤ l ∧ l ≤ 15) (w : World) : Calls Tryz.prog 103 #[.int .i64 v, .int .u64 l] w fun e w' => e = .returned (.int .i64 (kidOf v l)) ∧ w' = w := by
  have h2 : v / 2 ^ (3 + 4 * (l - 1)) = ((v.toNat / 2 ^ (3 + 4 * (l - 1)) : Nat) : Int) := div_cast v hv.1 _
  have h3 : v.toNat / 2 ^ (3 + 4 * (l - 1)) < 9223372036854775808 := Nat.lt_of_le_of_lt (Nat.div_le_self _ _) (by omega)
  have h4 : bits .and .i64 (v / 2 ^ (3 + 4 * (l - 1))) 15 = (kidOf v l : Int) := by rw [h2]; exact and_15 _ h3
  have H4 := Lib.hid h4
  clear h2 h3 h4
  go_enter Tryz.func103, Tryz.ntmps103
  go_wp2
  go_ret
  exact ⟨by rw [H4.out]; rfl, rfl⟩

theorem kid_at (v : Int) (hv : 0 ≤ v ∧ v ≤ 9223372036854775807) (l : Nat) (hl : 1 ≤ l ∧ l ≤ 15) (x : Int) (hx : x = (l : Int)) (w : World) : Calls Tryz.prog 103 #[.int .i64 v, .int .u64 x] w fun e w' => e = .returned (.int .i64 (kidOf v l)) ∧ w' = w := by
  subst hx
  exact kid_any v hv l hl w

set_option maxHeartbeats 1000000 in
theorem beyond_no (v : Int) (hv : 0 ≤ v ∧ v ≤ 9223372036854775807) (h : Nat) (hh : h ≤ 15) (hb : ¬ isBeyond v h) (w : World) : Calls Tryz.prog 69 #[.int .i64 v, .int .u64 h] w fun e w' => e = .returned (.bool false) ∧ w' = w := by
  have h2 : v / 2 ^ (3 + 4 * h) = 0 := by rw [div_cast v hv.1]; unfold isBeyond at hb; rw [Classical.not_not.1 hb]; rfl
  have H2 := Lib.hid h2
  clear h2
  go_enter Tryz.func69, Tryz.ntmps69
  go_wp2
  go_ret
  exact ⟨by rw [H2.out]; rfl, rfl⟩

set_option maxHeartbeats 1000000 in
theorem beyond_yes (v : Int) (hv : 0 ≤ v ∧ v ≤ 9223372036854775807) (h : Nat) (hh : h ≤ 15) (hb : isBeyond v h) (w : World) : Calls Tryz.prog 69 #[.int .i64 v, .int .u64 h] w fun e w' => e = .returned (.bool true) ∧ w' = w := by
  have h2 : (v / 2 ^ (3 + 4 * h) != 0) = true := by rw [div_cast v hv.1]; unfold isBeyond at hb; generalize v.toNat / 2 ^ (3 + 4 * h) = q at *; simp; omega
  have H2 := Lib.hid h2
  clear h2
  go_enter Tryz.func69, Tryz.ntmps69
  go_wp2
  go_ret
  exact ⟨by rw [H2.out]; rfl, rfl⟩

end Go.Proofs.YtnmhnaanpjlniaaGreat
/-
  Layer 3: what is bound, walked, visited, applied: plain facts.
-/
namespace Go.Proofs.YtnmhnaanpjlniaaGreat
open Go.RowKit

/-- what numbers are bound to -/
abbrev Sb := Int → Option Nd
def Sb.put (σ : Sb) (v : Int) (x : Nd) : Sb := fun u => if u = v then some x else σ u
def Sb.none : Sb := fun _ => Option.none

theorem Sb.put_same (σ : Sb) (v : Int) (x : Nd) : σ.put v x v = some x := by simp [Sb.put]
theorem Sb.put_other {σ : Sb} {v u : Int} {x : Nd} (h : u ≠ v) : σ.put v x u = σ u := by simp [Sb.put, h]

/-- a term walked, in so many steps -/
inductive Wk (σ : Sb) : Nd → Nd → Nat → Prop
  | stop {t : Nd} (h : (t.k == 1) = false ∨ σ t.n = none) : Wk σ t t 0
  | go {t b r : Nd} {m : Nat} (hk : (t.k == 1) = true) (hb : σ t.n = some b) (h : Wk σ b r m) : Wk σ t r (m + 1)

theorem Wk.det {σ : Sb} {t r : Nd} {m : Nat} (h : Wk σ t r m) : ∀ {r' : Nd} {m' : Nat}, Wk σ t r' m' → r = r' ∧ m = m' := by
  induction h with
  | stop h =>
    intro r' m' h'
    cases h' with
    | stop _ => exact ⟨rfl, rfl⟩
    | go hk hb _ =>
      rcases h with h | h
      · rw [h] at hk; cases hk
      · rw [h] at hb; cases hb
  | go hk hb _ ih =>
    intro r' m' h'
    cases h' with
    | stop h =>
      rcases h with h | h
      · rw [h] at hk; cases hk
      · rw [h] at hb; cases hb
    | go _ hb' h' =>
      rw [hb] at hb'
      cases hb'
      obtain ⟨e1, e2⟩ := ih h'
      exact ⟨e1, by rw [e2]⟩

theorem Wk.ends {σ : Sb} {t r : Nd} {m : Nat} (h : Wk σ t r m) : (r.k == 1) = false ∨ σ r.n = none := by
  induction h with
  | stop h => exact h
  | go _ _ _ ih => exact ih

/-- walking comes to an end -/
def Ends (σ : Sb) : Prop := ∀ t, ∃ r m, Wk σ t r m

open Classical in
noncomputable def wk (σ : Sb) (t : Nd) : Nd := if h : ∃ r m, Wk σ t r m then Classical.choose h else t
open Classical in
noncomputable def wkn (σ : Sb) (t : Nd) : Nat := if h : ∃ m r, Wk σ t r m then Classical.choose h else 0

theorem wk_eq {σ : Sb} {t r : Nd} {m : Nat} (h : Wk σ t r m) : wk σ t = r := by
  have hx : ∃ r m, Wk σ t r m := ⟨r, m, h⟩
  unfold wk
  rw [dif_pos hx]
  obtain ⟨m', h'⟩ := Classical.choose_spec hx
  exact (h'.det h).1
theorem wkn_eq {σ : Sb} {t r : Nd} {m : Nat} (h : Wk σ t r m) : wkn σ t = m := by
  have hx : ∃ m r, Wk σ t r m := ⟨m, r, h⟩
  unfold wkn
  rw [dif_pos hx]
  obtain ⟨r', h'⟩ := Classical.choose_spec hx
  exact (h'.det h).2
theorem wk_spec {σ : Sb} (hE : Ends σ) (t : Nd) : Wk σ t (wk σ t) (wkn σ t) := by
  obtain ⟨r, m, h⟩ := hE t
  rw [wk_eq h, wkn_eq h]
  exact h
theorem wk_stop {σ : Sb} {t : Nd} (h : (t.k == 1) = false ∨ σ t.n = none) : wk σ t = t := wk_eq (.stop h)
theorem wk_go {σ : Sb} (hE : Ends σ) {t b : Nd} (hk : (t.k == 1) = true) (hb : σ t.n = some b) : wk σ t = wk σ b := wk_eq (.go hk hb (wk_spec hE b))
theorem wkn_go {σ : Sb} (hE : Ends σ) {t b : Nd} (hk : (t.k == 1) = true) (hb : σ t.n = some b) : wkn σ t = wkn σ b + 1 := wkn_eq (.go hk hb (wk_spec hE b))

theorem Ends.none : Ends Sb.none := fun t => ⟨t, 0, .stop (.inr rfl)⟩

theorem Wk.put {σ : Sb} {v : Int} {x : Nd} (hv : σ v = none) {t r : Nd} {m : Nat} (h : Wk σ t r m) (hr : ¬ ((r.k == 1) = true ∧ r.n = v)) : Wk (σ.put v x) t r m := by
  induction h with
  | @stop t h =>
    refine .stop ?_
    rcases h with h | h
    · exact .inl h
    · by_cases hk : (t.k == 1) = true
      · exact .inr (by rw [Sb.put_other (fun e => hr ⟨hk, e⟩)]; exact h)
      · exact .inl (by simpa using hk)
  | go hk hb _ ih =>
    refine .go hk ?_ (ih hr)
    rw [Sb.put_other (fun e => by rw [e, hv] at hb; cases hb)]
    exact hb

theorem Wk.put_on {σ : Sb} {v : Int} {x : Nd} (hv : σ v = none) {t r : Nd} {m : Nat} (h : Wk σ t r m) (hr : (r.k == 1) = true ∧ r.n = v) {r' : Nd} {m' : Nat} (hx : Wk (σ.put v x) x r' m') : Wk (σ.put v x) t r' (m + 1 + m') := by
  induction h with
  | stop h =>
    rw [Nat.zero_add, Nat.add_comm]
    exact .go hr.1 (by rw [hr.2, Sb.put_same]) hx
  | go hk hb _ ih =>
    have := ih hr
    rw [show ∀ a : Nat, a + 1 + 1 + m' = a + 1 + m' + 1 by omega]
    refine .go hk ?_ this
    rw [Sb.put_other (fun e => by rw [e, hv] at hb; cases hb)]
    exact hb

theorem Ends.put {σ : Sb} (hE : Ends σ) {v : Int} {x : Nd} (hv : σ v = Option.none) (hx : ¬ (((wk σ x).k == 1) = true ∧ (wk σ x).n = v)) : Ends (σ.put v x) := by
  intro t
  have h1 := Wk.put (x := x) hv (wk_spec hE x) hx
  by_cases h : ((wk σ t).k == 1) = true ∧ (wk σ t).n = v
  · exact ⟨_, _, Wk.put_on hv (wk_spec hE t) h h1⟩
  · exact ⟨_, _, Wk.put hv (wk_spec hE t) h⟩

/-- a list's elements -/
def elems : Ts → List Nd
  | .nil => []
  | .cons k s n p c kids rest => ⟨k, s, n, p, c, kids⟩ :: elems rest

theorem elems_length : ∀ ts : Ts, (elems ts).length = ts.len
  | .nil => rfl
  | .cons _ _ _ _ _ _ r => by simp [elems, Ts.len, elems_length r]

/-- what is visited of terms, so many at most -/
noncomputable def vis (σ : Sb) : Nat → List Nd → List Nd
  | 0, _ => []
  | _ + 1, [] => []
  | f + 1, t :: rest => wk σ t :: vis σ f (elems (wk σ t).kids ++ rest)

theorem vis_nil (σ : Sb) (f : Nat) : vis σ f [] = [] := by cases f <;> rfl

theorem vis_length (σ : Sb) : ∀ (f : Nat) (l : List Nd), (vis σ f l).length ≤ f
  | 0, _ => by simp [vis]
  | _ + 1, [] => by simp [vis]
  | f + 1, t :: rest => by simp only [vis, List.length_cons]; have := vis_length σ f (elems (wk σ t).kids ++ rest); omega

/-- how many nodes terms have, applied -/
inductive Cnt (σ : Sb) : List Nd → Nat → Prop
  | nil : Cnt σ [] 0
  | cons {t : Nd} {rest : List Nd} {a b : Nat} (h : Cnt σ (elems (wk σ t).kids) a) (h' : Cnt σ rest b) : Cnt σ (t :: rest) (a + b + 1)

theorem Cnt.split {σ : Sb} : ∀ (l m : List Nd) {n : Nat}, Cnt σ (l ++ m) n → ∃ x y, Cnt σ l x ∧ Cnt σ m y ∧ n = x + y
  | [], m, n, h => ⟨0, n, .nil, h, by omega⟩
  | t :: l, m, n, h => by
    cases h with
    | cons h h' =>
      obtain ⟨x, y, h1, h2, h3⟩ := Cnt.split l m h'
      exact ⟨_, y, .cons h h1, h2, by omega⟩

theorem vis_cnt {σ : Sb} : ∀ (f : Nat) (l : List Nd), (vis σ f l).length < f → Cnt σ l (vis σ f l).length
  | 0, _, h => by omega
  | _ + 1, [], _ => .nil
  | f + 1, t :: rest, h => by
    simp only [vis, List.length_cons] at h ⊢
    obtain ⟨x, y, h1, h2, h3⟩ := Cnt.split _ _ (vis_cnt (σ := σ) f (elems (wk σ t).kids ++ rest) (by omega))
    rw [h3]
    exact .cons h1 h2

theorem Cnt.len {σ : Sb} {l : List Nd} {n : Nat} (h : Cnt σ l n) : l.length ≤ n := by
  induction h with
  | nil => simp
  | cons _ _ _ ih => simp; omega

/-- terms, applied -/
inductive App (σ : Sb) : List Nd → Ts → Prop
  | nil : App σ [] .nil
  | cons {t : Nd} {rest : List Nd} {p : Option Addr} {c : Nat} {ks rs : Ts} (h : App σ (elems (wk σ t).kids) ks) (h' : App σ rest rs) : App σ (t :: rest) (.cons (wk σ t).k (wk σ t).s (wk σ t).n p c ks rs)

theorem App.twin {σ : Sb} {l : List Nd} {us : Ts} (h : App σ l us) : ∀ {vs : Ts}, App σ l vs → Ts.twin us vs := by
  induction h with
  | nil => intro vs h; cases h; trivial
  | cons _ _ ih1 ih2 => intro vs h; cases h with | cons h h' => exact ⟨rfl, rfl, rfl, ih1 h, ih2 h'⟩

theorem App.len {σ : Sb} {l : List Nd} {us : Ts} (h : App σ l us) : us.len = l.length := by
  induction h with
  | nil => rfl
  | cons _ _ _ ih => simp [Ts.len, ih]

end Go.Proofs.YtnmhnaanpjlniaaGreat
/-
  Layer 3: nodes of a substitution as they lie in memory.
-/
namespace Go.Proofs.YtnmhnaanpjlniaaGreat
open Go.RowKit Go.Maps

/-- a map's value, kept as it is -/
def heldElem (v : Value) : Option (DataW Value × List MemPlace) := some (.held v, [])

theorem held_inv {v u : Value} {d : DataW Value} {ps : List MemPlace} (h : heldElem v = some (d, ps)) (hd : d = .held u) : v = u := by
  unfold heldElem at h
  have h1 := Option.some.inj h
  have h2 := congrArg Prod.fst h1
  simp only at h2
  rw [hd] at h2
  injection h2

theorem zeroTermRun (w : World) : (zeroValue 25).run Tryz.prog w = .ok zeroTerm w := by kernel_rfl

def valOf : Option Nd → Value
  | none => zeroTerm
  | some x => x.val

/-- a map of terms holds what numbers are bound to -/
def LeafIs (w : World) (c MB : Nat) (f : Sb) : Prop :=
  ∃ m D, m ≤ c ∧ w.ownsMap Tryz.prog 2 heldElem MB m D ∧ ∀ v : Int, (-9223372036854775808 ≤ v ∧ v ≤ 9223372036854775807) → Maps.has D (.int .i64 v) = (f v).isSome ∧ D.atKey (.int .i64 v) (.held zeroTerm) = .held (valOf (f v))

/-- the cells of a node -/
def kidCells (ks : Nat → Option Addr) (last : Value) : Array Value :=
  #[.pointer (ks 0), .pointer (ks 1), .pointer (ks 2), .pointer (ks 3), .pointer (ks 4), .pointer (ks 5), .pointer (ks 6), .pointer (ks 7), .pointer (ks 8), .pointer (ks 9), .pointer (ks 10), .pointer (ks 11), .pointer (ks 12), .pointer (ks 13), .pointer (ks 14), .pointer (ks 15), last]

theorem kidCells_size (ks : Nat → Option Addr) (last : Value) : (kidCells ks last).size = 17 := rfl
theorem kidCells_last (ks : Nat → Option Addr) (last : Value) : (kidCells ks last)[16]? = some last := rfl
theorem sixteen {P : Nat → Prop} (h0 : P 0) (h1 : P 1) (h2 : P 2) (h3 : P 3) (h4 : P 4) (h5 : P 5) (h6 : P 6) (h7 : P 7) (h8 : P 8) (h9 : P 9) (h10 : P 10) (h11 : P 11) (h12 : P 12) (h13 : P 13) (h14 : P 14) (h15 : P 15) : ∀ i, i < 16 → P i := by
  intro i hi
  obtain rfl | rfl | rfl | rfl | rfl | rfl | rfl | rfl | rfl | rfl | rfl | rfl | rfl | rfl | rfl | rfl : i = 0 ∨ i = 1 ∨ i = 2 ∨ i = 3 ∨ i = 4 ∨ i = 5 ∨ i = 6 ∨ i = 7 ∨ i = 8 ∨ i = 9 ∨ i = 10 ∨ i = 11 ∨ i = 12 ∨ i = 13 ∨ i = 14 ∨ i = 15 := by omega
  all_goals assumption
theorem kidCells_kid (ks : Nat → Option Addr) (last : Value) : ∀ i, i < 16 → (kidCells ks last)[i]? = some (.pointer (ks i)) :=
  sixteen rfl rfl rfl rfl rfl rfl rfl rfl rfl rfl rfl rfl rfl rfl rfl rfl

def putKid (ks : Nat → Option Addr) (i : Nat) (q : Option Addr) : Nat → Option Addr := fun j => if j = i then q else ks j
theorem kidCells_put (ks : Nat → Option Addr) (last : Value) (q : Option Addr) : ∀ i, i < 16 → (kidCells ks last).setIfInBounds i (.pointer q) = kidCells (putKid ks i q) last :=
  sixteen rfl rfl rfl rfl rfl rfl rfl rfl rfl rfl rfl rfl rfl rfl rfl rfl

/-- what is bound, of the numbers that a kid has -/
def only (f : Sb) (l i : Nat) : Sb := fun v => if kidOf v l = i then f v else none

/-- a node of a level lies where a pointer leads -/
def NodeAt (w : World) (c : Nat) : Nat → Option Addr → Sb → Prop
  | 0, p, f => (p = none ∧ ∀ v, f v = none) ∨ ∃ N MB, p = some ⟨N, 0, none⟩ ∧ w.heap[N]? = some (.cells (kidCells (fun _ => none) (.map (some MB))) 106 (0, 0)) ∧ LeafIs w c MB f
  | l + 1, p, f => (p = none ∧ ∀ v, f v = none) ∨ ∃ N ks, p = some ⟨N, 0, none⟩ ∧ w.heap[N]? = some (.cells (kidCells ks (.map none)) 106 (0, 0)) ∧ ∀ i, i < 16 → NodeAt w c l (ks i) (only f (l + 1) i)

theorem NodeAt.none (w : World) (c : Nat) : ∀ l, NodeAt w c l none Sb.none
  | 0 => .inl ⟨rfl, fun _ => rfl⟩
  | _ + 1 => .inl ⟨rfl, fun _ => rfl⟩

theorem NodeAt.of_none {w : World} {c : Nat} : ∀ {l : Nat} {f : Sb}, NodeAt w c l Option.none f → ∀ v, f v = Option.none
  | 0, f, h => by
    rcases h with ⟨_, h⟩ | ⟨N, MB, h, _⟩
    · exact h
    · cases h
  | _ + 1, f, h => by
    rcases h with ⟨_, h⟩ | ⟨N, MB, h, _⟩
    · exact h
    · cases h

theorem NodeAt.none_of {w : World} {c : Nat} {f : Sb} (h : ∀ v, f v = Option.none) : ∀ (l : Nat), NodeAt w c l Option.none f
  | 0 => .inl ⟨rfl, h⟩
  | _ + 1 => .inl ⟨rfl, h⟩

theorem LeafIs.mono {w : World} {c c' MB : Nat} {f : Sb} (h : LeafIs w c MB f) (hc : c ≤ c') : LeafIs w c' MB f := by
  obtain ⟨m, D, hm, h1, h2⟩ := h
  exact ⟨m, D, Nat.le_trans hm hc, h1, h2⟩

/-- another world, in which all blocks of nodes and maps are as they were -/
theorem NodeAt.stay {w w' : World} {c c' : Nat} (hc : c ≤ c') (hs : ∀ b : Nat, (∃ ks u, w.heap[b]? = some (Obj.cells (kidCells ks u) 106 (0, 0))) ∨ (∃ es k, w.heap[b]? = some (Obj.map es k)) → w'.heap[b]? = w.heap[b]?) : ∀ {l : Nat} {p : Option Addr} {f : Sb}, NodeAt w c l p f → NodeAt w' c' l p f
  | 0, p, f, h => by
    rcases h with h | ⟨N, MB, h1, h2, m, D, hm, h3, h4⟩
    · exact .inl h
    · obtain ⟨es, clock, hb, F, hz, hD⟩ := h3
      exact .inr ⟨N, MB, h1, (hs N (.inl ⟨_, _, h2⟩)).trans h2, m, D, Nat.le_trans hm hc, ⟨es, clock, (hs MB (.inr ⟨_, _, hb⟩)).trans hb, F, hz, hD⟩, h4⟩
  | l + 1, p, f, h => by
    rcases h with h | ⟨N, ks, h1, h2, h3⟩
    · exact .inl h
    · exact .inr ⟨N, ks, h1, (hs N (.inl ⟨_, _, h2⟩)).trans h2, fun i hi => (h3 i hi).stay hc hs⟩

theorem NodeAt.below {w w' : World} {c : Nat} {l : Nat} {p : Option Addr} {f : Sb} (h : NodeAt w c l p f) (hB : Below w.heap.size w w') : NodeAt w' c l p f :=
  h.stay (Nat.le_refl _) (fun b hb => hB.block b (by
    rcases hb with ⟨_, _, h⟩ | ⟨_, _, h⟩
    all_goals exact (Array.getElem?_eq_some_iff.1 h).1))

/-- a block of three cells turns -/
theorem NodeAt.grown {w w' : World} {c S : Nat} {l : Nat} {p : Option Addr} {f : Sb} (h : NodeAt w c l p f) (hg : w.grownBy w' (some S)) {cs : Array Value} {t : TypeId} {fr : Nat × Nat} (hS : w.heap[S]? = some (.cells cs t fr)) (hz : cs.size ≠ 17) : NodeAt w' c l p f :=
  h.stay (Nat.le_refl _) (fun b hb => hg.block b (by
    rcases hb with ⟨_, _, h⟩ | ⟨_, _, h⟩
    all_goals exact (Array.getElem?_eq_some_iff.1 h).1) (fun e => by
    cases e
    rcases hb with ⟨ks, u, h⟩ | ⟨_, _, h⟩
    · rw [hS] at h
      cases h
      exact hz (kidCells_size _ _)
    · rw [hS] at h
      cases h))

/-- a substitution in memory: where its root is, how many levels it has, and what is bound; what is bound lies in memory -/
structure SubAt (S : Nat) (σ : Sb) (n : Nat) (w : World) : Prop where
  cells : ∃ p h, w.heap[S]? = some (.cells #[.pointer p, .int .u64 (h : Nat), .int .i64 (n : Nat)] 88 (0, 0)) ∧ h ≤ 15 ∧ NodeAt w n h p σ ∧ ∀ v, σ v ≠ none → 0 ≤ v ∧ v ≤ 9223372036854775807 ∧ ¬ isBeyond v h
  ends : Ends σ
  at_ : ∀ v x, σ v = some x → Ts.At w x.p x.kids ∧ Ts.ok (.cons x.k x.s x.n x.p x.c x.kids .nil) ∧ x.kids.size ≤ 5000

theorem SubAt.lt {S : Nat} {σ : Sb} {n : Nat} {w : World} (h : SubAt S σ n w) : S < w.heap.size := by
  obtain ⟨p, hh, h1, _⟩ := h.cells
  exact (Array.getElem?_eq_some_iff.1 h1).1

theorem SubAt.below {S : Nat} {σ : Sb} {n : Nat} {w w' : World} (h : SubAt S σ n w) (hB : Below w.heap.size w w') : SubAt S σ n w' := by
  obtain ⟨p, hh, h1, h2, h3, h4⟩ := h.cells
  exact ⟨⟨p, hh, (hB.block S h.lt).trans h1, h2, h3.below hB, h4⟩, h.ends, fun v x hx => ⟨(h.at_ v x hx).1.below hB, (h.at_ v x hx).2⟩⟩

theorem Ts.lies_small {w w' : World} {S : Nat} (hg : w.grownBy w' (some S)) {cs : Array Value} {t : TypeId} {fr : Nat × Nat} (hS : w.heap[S]? = some (.cells cs t fr)) (hz : cs.size < 4) : ∀ (ts : Ts) {b o : Nat}, ts.lies w b o → ts.lies w' b o
  | .nil, _, _, _ => trivial
  | .cons k s n p cap kids rest, b, o, ⟨h0, h1, h2, h3, ⟨b', o', h4, h5⟩, h6⟩ => by
    have hb : b ≠ S := fun e => by
      subst e
      simp only [World.cell?, hS] at h3
      have := (Array.getElem?_eq_some_iff.1 h3).1
      omega
    have e := fun y => World.cell?_of_block (a := ⟨b, y, none⟩) (hg.block b (World.block_lt_of_cell? _ _ h0) (fun e => hb (by cases e; rfl)))
    exact ⟨(e _).trans h0, (e _).trans h1, (e _).trans h2, (e _).trans h3, ⟨b', o', h4, lies_small hg hS hz kids h5⟩, lies_small hg hS hz rest h6⟩

theorem Ts.At.small {w w' : World} {S : Nat} (hg : w.grownBy w' (some S)) {cs : Array Value} {t : TypeId} {fr : Nat × Nat} (hS : w.heap[S]? = some (.cells cs t fr)) (hz : cs.size < 4) {p : Option Addr} {ts : Ts} (h : Ts.At w p ts) : Ts.At w' p ts := by
  obtain ⟨b, o, h1, h2⟩ := h
  exact ⟨b, o, h1, Ts.lies_small hg hS hz ts h2⟩

/-- a walked term lies in memory -/
theorem SubAt.walked {S : Nat} {σ : Sb} {n : Nat} {w : World} (h : SubAt S σ n w) {t : Nd} (ht : Ts.At w t.p t.kids ∧ Ts.ok (.cons t.k t.s t.n t.p t.c t.kids .nil) ∧ t.kids.size ≤ 5000) :
    Ts.At w (wk σ t).p (wk σ t).kids ∧ Ts.ok (.cons (wk σ t).k (wk σ t).s (wk σ t).n (wk σ t).p (wk σ t).c (wk σ t).kids .nil) ∧ (wk σ t).kids.size ≤ 5000 := by
  have hs := wk_spec h.ends t
  generalize wk σ t = r at *
  generalize wkn σ t = m at *
  induction hs with
  | stop _ => exact ht
  | go _ hb _ ih => exact ih (h.at_ _ _ hb)

end Go.Proofs.YtnmhnaanpjlniaaGreat
/-
  Layer 3: what a number is bound to.
-/
namespace Go.Proofs.YtnmhnaanpjlniaaGreat
open Go.RowKit Go.Maps

theorem valOf_none : valOf Option.none = .agg #[.int .u8 0, .string ⟨#[]⟩, .int .i64 0, .slice Option.none 0 0] := rfl
theorem valOf_some (x : Nd) : valOf (some x) = .agg #[.int .u8 x.k, .string x.s, .int .i64 x.n, .slice x.p x.kids.len x.c] := rfl

theorem SubAt.cell0 {w : World} {S : Nat} {a b c : Value} {t : TypeId} (h : w.heap[S]? = some (.cells #[a, b, c] t (0, 0))) : w.cell? ⟨S, 0, none⟩ = some a ∧ w.cell? ⟨S, 1, none⟩ = some b ∧ w.cell? ⟨S, 2, none⟩ = some c ∧ ∀ i, w.frozen? ⟨S, i, none⟩ = false :=
  ⟨by rw [cell_of_row w S 0 _ _ _ h]; rfl, by rw [cell_of_row w S 1 _ _ _ h]; rfl, by rw [cell_of_row w S 2 _ _ _ h]; rfl, fun i => frozen_of_row w S i _ _ h⟩

theorem below_put4 {B b : Nat} {w W : World} (h : Below B w W) (hb : B ≤ b) (v0 v1 v2 v3 : Value) : Below B w ((((W.setCell ⟨b, 0, none⟩ v0).setCell ⟨b, 1, none⟩ v1).setCell ⟨b, 2, none⟩ v2).setCell ⟨b, 3, none⟩ v3) :=
  (((h.setCell (p := ⟨b, 0, none⟩) hb _).setCell (p := ⟨b, 1, none⟩) hb _).setCell (p := ⟨b, 2, none⟩) hb _).setCell (p := ⟨b, 3, none⟩) hb _

theorem NodeAt.drewN {w : World} {c l : Nat} {p : Option Addr} {f : Sb} (h : NodeAt w c l p f) (k : Nat) : NodeAt (w.drewN k) c l p f :=
  h.stay (Nat.le_refl _) (fun b _ => by rfl)

set_option maxRecDepth 100000 in
set_option maxHeartbeats 4000000 in
theorem binding_any (S : Nat) (σ : Sb) (m : Nat) (w : World) (h : SubAt S σ m w) (v : Int) (hv : -9223372036854775808 ≤ v ∧ v ≤ 9223372036854775807) :
    Calls Tryz.prog 67 #[.pointer (some ⟨S, 0, none⟩), .int .i64 v] w fun e w' => e = .returned (.tuple #[valOf (σ v), .bool (σ v).isSome]) ∧ Below w.heap.size w w' := by
  obtain ⟨p, hh, hS, hh15, hN, hdom⟩ := h.cells
  obtain ⟨h0, h1, -, -⟩ := SubAt.cell0 hS
  have hSl := World.block_lt_of_cell? _ _ h0
  by_cases hv0 : v < 0
  · have hn : σ v = none := by
      cases hs : σ v with
      | none => rfl
      | some x => have := (hdom v (by rw [hs]; simp)).1; omega
    rw [hn, valOf_none]
    clear hdom hn hN h hS
    go_enter Tryz.func67, Tryz.ntmps67
    go_wp2
    exact bodyPost_ret (v := .tuple #[.agg #[.int .u8 0, .string ⟨#[]⟩, .int .i64 0, .slice none 0 0], .bool false]) (by simp [results, Tryz.results67, go_sem]) rfl ⟨rfl, (Below.refl _ _).alloc (Nat.le_refl _) _⟩
  have g0 := fun (o : Obj) => cell_alloc_old o h0
  have g1 := fun (o : Obj) => cell_alloc_old o h1
  by_cases hb : isBeyond v hh
  · have hn : σ v = none := by
      cases hs : σ v with
      | none => rfl
      | some x => exact absurd hb (hdom v (by rw [hs]; simp)).2.2
    rw [hn, valOf_none]
    clear hdom hn hN h hS
    go_enter Tryz.func67, Tryz.ntmps67
    go_wp2_with fail
    refine (beyond_yes v (by omega) hh hh15 hb _).mono ?_
    rintro e w' ⟨rfl, rfl⟩
    go_wp2
    exact bodyPost_ret (v := .tuple #[.agg #[.int .u8 0, .string ⟨#[]⟩, .int .i64 0, .slice none 0 0], .bool false]) (by simp [results, Tryz.results67, go_sem]) rfl ⟨rfl, (Below.refl _ _).alloc (Nat.le_refl _) _⟩
  · have NN : Hid (NodeAt w m hh p σ) := Lib.hid hN
    have K := Maps.int_keyed Tryz.underlying2
    have hkey : keyOf Tryz.prog 2 (.int .i64 v) = some (.int .i64 v) := Maps.keyOf_int_mk Tryz.underlying2 (wf64 (by omega))
    clear hdom hN h hS
    go_enter Tryz.func67, Tryz.ntmps67
    go_wp2_with fail
    refine (beyond_no v (by omega) hh hh15 hb _).mono ?_
    rintro e w' ⟨rfl, rfl⟩
    go_wp2_with fail
    obtain ⟨W0, hW0⟩ : ∃ W0, W0 = w.alloc (.cells #[.int .u8 0, .string ⟨#[]⟩, .int .i64 0, .slice none 0 0] 25) := ⟨_, rfl⟩
    rw [← hW0]
    have hs0 : W0.heap.size = w.heap.size + 1 := by rw [hW0]; simp
    have Z0 := Lib.hid hW0
    have N0 : Hid (NodeAt W0 m hh p σ) := Lib.hid (NN.out.below (by rw [hW0]; exact (Below.refl _ _).alloc (Nat.le_refl _) _))
    clear hW0
    go_loopw [6, 7] (fun s6 s7 wr => ∃ (q : Option Addr) (l : Nat) (f : Sb), s6 = .pointer q ∧ s7 = .int .u64 l ∧ l ≤ 15 ∧ Hid (NodeAt wr m l q f ∧ f v = σ v) ∧ Hid (∃ k, wr = W0.drewN k)) (fun _ i _ => (intOf i).toNat)
    case atStart => exact ⟨p, hh, σ, rfl, rfl, hh15, Lib.hid ⟨N0.out, rfl⟩, Lib.hid ⟨0, rfl⟩⟩
    case round =>
      obtain ⟨q, l, f, rfl, rfl, hl15, NF, WR⟩ := hrel
      have hst : (∃ x : Addr, q = some x) ∨ q = none := by cases q <;> simp
      by_cases hgo : 0 < l ∧ ∃ x : Addr, q = some x
      · obtain ⟨hl0, x, rfl⟩ := hgo
        obtain ⟨l', rfl⟩ : ∃ l', l = l' + 1 := ⟨l - 1, by omega⟩
        obtain ⟨N, ks, hx, hNh, hkids⟩ : ∃ N ks, x = ⟨N, 0, none⟩ ∧ wr.heap[N]? = some (.cells (kidCells ks (.map none)) 106 (0, 0)) ∧ ∀ i, i < 16 → NodeAt wr m l' (ks i) (only f (l' + 1) i) := by
          rcases NF.out.1 with ⟨h, _⟩ | ⟨N, ks, h1, h2, h3⟩
          · cases h
          · cases h1; exact ⟨N, ks, rfl, h2, h3⟩
        subst hx
        have hki := kidOf_lt v (l' + 1)
        have hck : wr.cell? ⟨N, kidOf v (l' + 1), none⟩ = some (.pointer (ks (kidOf v (l' + 1)))) := by rw [cell_of_row wr N _ _ _ _ hNh]; exact kidCells_kid ks _ _ hki
        have NK := Lib.hid hkids
        clear hNh hkids
        have hk0 : 0 ≤ (kidOf v (l' + 1) : Int) := by omega
        have hk16 : (kidOf v (l' + 1) : Int) < 16 := by omega
        go_upto_region 7 with fail
        go_quiet ((go_at_call 103; exact Calls.quiet_of_same (kid_at _ (by omega) (l' + 1) (by omega) _ (by omega) _)))
        go_wp2
        go_roundw
        case rel =>
          refine ⟨ks (kidOf v (l' + 1)), l', only f (l' + 1) (kidOf v (l' + 1)), rfl, by go_num, by omega, Lib.hid ⟨(NK.out _ hki).drewN _, ?_⟩, Lib.hid ?_⟩
          · show (if kidOf v (l' + 1) = kidOf v (l' + 1) then f v else none) = σ v
            rw [if_pos rfl]; exact NF.out.2
          · obtain ⟨k, rfl⟩ := WR.out
            exact ⟨_, World.drewN_drewN _ _ _⟩
        case measure => simp [intOf]
      · obtain ⟨k, hwr⟩ := WR.out
        rw [Z0.out] at hwr
        subst hwr
        have hBw : Below w.heap.size w ((w.alloc (.cells #[.int .u8 0, .string ⟨#[]⟩, .int .i64 0, .slice none 0 0] 25)).drewN k) := below_drewN ((Below.refl _ _).alloc (Nat.le_refl _) _) _
        have BW := Lib.hid hBw
        clear hBw WR Z0
        cases q with
        | none =>
          have hn : σ v = none := by rw [← NF.out.2]; exact NF.out.1.of_none v
          have HN := Lib.hid hn
          clear hn hst hgo
          go_wp2
          exact bodyPost_ret (v := .tuple #[.agg #[.int .u8 0, .string ⟨#[]⟩, .int .i64 0, .slice none 0 0], .bool false]) (by simp [results, Tryz.results67, go_sem]) rfl ⟨by rw [HN.out]; rfl, below_put4 BW.out (Nat.le_refl _) _ _ _ _⟩
        | some x =>
          obtain rfl : l = 0 := by
            cases l with
            | zero => rfl
            | succ l => exact absurd ⟨Nat.succ_pos _, x, rfl⟩ hgo
          clear hst hgo
          obtain ⟨N, MB, hx, hNh, m2, D, hm2, hown, hD⟩ : ∃ N MB, x = ⟨N, 0, none⟩ ∧ ((w.alloc (.cells #[.int .u8 0, .string ⟨#[]⟩, .int .i64 0, .slice none 0 0] 25)).drewN k).heap[N]? = some (.cells (kidCells (fun _ => none) (.map (some MB))) 106 (0, 0)) ∧ LeafIs ((w.alloc (.cells #[.int .u8 0, .string ⟨#[]⟩, .int .i64 0, .slice none 0 0] 25)).drewN k) m MB f := by
            rcases NF.out.1 with ⟨h, _⟩ | ⟨N, ks, h1, h2, h3⟩
            · cases h
            · cases h1; exact ⟨N, ks, rfl, h2, h3⟩
          subst hx
          obtain ⟨hb1, hb2⟩ := hD v hv
          rw [NF.out.2] at hb1 hb2
          have h16 : (w.alloc (.cells #[.int .u8 0, .string ⟨#[]⟩, .int .i64 0, .slice none 0 0] 25)).cell? ⟨N, 16, none⟩ = some (.map (some MB)) := (cell_of_row _ N 16 _ _ _ hNh).trans (kidCells_last _ _)
          have HB := Lib.hid hb1
          have HV := Lib.hid hb2
          have OWN := Lib.hid hown
          clear hb1 hb2 hown hD hNh
          cases hs : σ v with
          | none =>
            rw [hs] at HB HV
            have HS := Lib.hid hs
            clear hs
            go_wp2_with (at_lookup; refine wpList_lookup_own_ok _ rfl _ _ 104 rfl 2 25 K Tryz.underlying104 heldElem (zeroTermRun _) (.held zeroTerm) [] rfl MB m2 D rfl OWN.out _ _ rfl hkey ?_; intro v5 ps hv5; obtain rfl := held_inv hv5 HV.out; clear hv5; rw [HB.out, valOf_none])
            exact bodyPost_ret (v := .tuple #[.agg #[.int .u8 0, .string ⟨#[]⟩, .int .i64 0, .slice none 0 0], .bool false]) (by simp [results, Tryz.results67, go_sem]) rfl ⟨by rw [HS.out]; rfl, (below_put4 BW.out (Nat.le_refl _) _ _ _ _).alloc (by simp) _⟩
          | some y =>
            rw [hs] at HB HV
            have HS := Lib.hid hs
            clear hs
            go_wp2_with (at_lookup; refine wpList_lookup_own_ok _ rfl _ _ 104 rfl 2 25 K Tryz.underlying104 heldElem (zeroTermRun _) (.held zeroTerm) [] rfl MB m2 D rfl OWN.out _ _ rfl hkey ?_; intro v5 ps hv5; obtain rfl := held_inv hv5 HV.out; clear hv5; rw [HB.out, valOf_some])
            exact bodyPost_ret (v := .tuple #[.agg #[.int .u8 y.k, .string y.s, .int .i64 y.n, .slice y.p y.kids.len y.c], .bool true]) (by simp [results, Tryz.results67, go_sem]) rfl ⟨by rw [HS.out]; rfl, (below_put4 BW.out (Nat.le_refl _) _ _ _ _).alloc (by simp) _⟩

end Go.Proofs.YtnmhnaanpjlniaaGreat
