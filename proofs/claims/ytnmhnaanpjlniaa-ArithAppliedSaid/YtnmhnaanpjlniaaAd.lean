import Derived.Test.YtnmhnaanpjlniaaAb
import Derived.Maps.OwnSet
import Derived.Deep.QuietTactic
import Derived.BigQuiet
import Derived.Deep.DeepCutAuto
/-
  Layer 3: nodes of a substitution as they lie in memory.
-/
namespace Go.Proofs.Ytnmhnaanpjlniaa
open Go.RowKit Go.Maps

/-- a map's value, kept as it is -/
def heldElem (v : Value) : Option (DataW Value × List MemPlace) := some (.held v, [])

theorem held_inv {v u : Value} {d : DataW Value} {ps : List MemPlace} (h : heldElem v = some (d, ps)) (hd : d = .held u) : v = u := by
  unfold heldElem at h
  have h1 := Option.some.inj h
  have h2 := congrArg Prod.fst h1
  simp only at h2
  rw [hd] at h2
  injection h2

theorem zeroTermRun (w : World) : (zeroValue 25).run Try.prog w = .ok zeroTerm w := by kernel_rfl

def valOf : Option Nd → Value
  | none => zeroTerm
  | some x => x.val

/-- a map of terms holds what numbers are bound to -/
def LeafIs (w : World) (c MB : Nat) (f : Sb) : Prop :=
  ∃ m D, m ≤ c ∧ w.ownsMap Try.prog 2 heldElem MB m D ∧ ∀ v : Int, (-9223372036854775808 ≤ v ∧ v ≤ 9223372036854775807) → Maps.has D (.int .i64 v) = (f v).isSome ∧ D.atKey (.int .i64 v) (.held zeroTerm) = .held (valOf (f v))

/-- the cells of a node -/
def kidCells (ks : Nat → Option Addr) (last : Value) : Array Value :=
  #[.pointer (ks 0), .pointer (ks 1), .pointer (ks 2), .pointer (ks 3), .pointer (ks 4), .pointer (ks 5), .pointer (ks 6), .pointer (ks 7), .pointer (ks 8), .pointer (ks 9), .pointer (ks 10), .pointer (ks 11), .pointer (ks 12), .pointer (ks 13), .pointer (ks 14), .pointer (ks 15), last]

theorem kidCells_size (ks : Nat → Option Addr) (last : Value) : (kidCells ks last).size = 17 := rfl
theorem kidCells_last (ks : Nat → Option Addr) (last : Value) : (kidCells ks last)[16]? = some last := rfl
theorem sixteen {P : Nat → Prop} (h0 : P 0) (h1 : P 1) (h2 : P 2) (h3 : P 3) (h4 : P 4) (h5 : P 5) (h6 : P 6) (h7 : P 7) (h8 : P 8) (h9 : P 9) (h10 : P 10) (h11 : P 11) (h12 : P 12) (h13 : P 13) (h14 : P 14) (h15 : P 15) : ∀ i, i < 16 → P i := by
  intro i hi
  obtain rfl | rfl | rfl | rfl | rfl | rfl | rfl | rfl | rfl | rfl | rfl | rfl | rfl | rfl | rfl | rfl : i = 0 ∨ i = 1 ∨ i = 2 ∨ i = 3 ∨ i = 4 ∨ i = 5 ∨ i = 6 ∨ i = 7 ∨ i = 8 ∨ i = 9 ∨ i = 10 ∨ i = 11 ∨ i = 12 ∨ i = 13 ∨ i = 14 ∨ i = 15 := by omega
  all_goals assumption
theorem kidCells_kid (ks : Nat → Option Addr) (last : Value) : ∀ i, i < 16 → (kidCells ks last)[i]? = some (.pointer (ks i)) :=
  sixteen rfl rfl rfl rfl rfl rfl rfl rfl rfl rfl rfl rfl rfl rfl rfl rfl

def putKid (ks : Nat → Option Addr) (i : Nat) (q : Option Addr) : Nat → Option Addr := fun j => if j = i then q else ks j
theorem kidCells_put (ks : Nat → Option Addr) (last : Value) (q : Option Addr) : ∀ i, i < 16 → (kidCells ks last).setIfInBounds i (.pointer q) = kidCells (putKid ks i q) last :=
  sixteen rfl rfl rfl rfl rfl rfl rfl rfl rfl rfl rfl rfl rfl rfl rfl rfl

/-- what is bound, of the numbers that a kid has -/
def only (f : Sb) (l i : Nat) : Sb := fun v => if kidOf v l = i then f v else none

/-- a node of a level lies where a pointer leads -/
def NodeAt (w : World) (c : Nat) : Nat → Option Addr → Sb → Prop
  | 0, p, f => (p = none ∧ ∀ v, f v = none) ∨ ∃ N MB, p = some ⟨N, 0, none⟩ ∧ w.heap[N]? = some (.cells (kidCells (fun _ => none) (.map (some MB))) 107 (0, 0)) ∧ LeafIs w c MB f
  | l + 1, p, f => (p = none ∧ ∀ v, f v = none) ∨ ∃ N ks, p = some ⟨N, 0, none⟩ ∧ w.heap[N]? = some (.cells (kidCells ks (.map none)) 107 (0, 0)) ∧ ∀ i, i < 16 → NodeAt w c l (ks i) (only f (l + 1) i)

theorem NodeAt.none (w : World) (c : Nat) : ∀ l, NodeAt w c l none Sb.none
  | 0 => .inl ⟨rfl, fun _ => rfl⟩
  | _ + 1 => .inl ⟨rfl, fun _ => rfl⟩

theorem NodeAt.of_none {w : World} {c : Nat} : ∀ {l : Nat} {f : Sb}, NodeAt w c l Option.none f → ∀ v, f v = Option.none
  | 0, f, h => by
    rcases h with ⟨_, h⟩ | ⟨N, MB, h, _⟩
    · exact h
    · cases h
  | _ + 1, f, h => by
    rcases h with ⟨_, h⟩ | ⟨N, MB, h, _⟩
    · exact h
    · cases h

theorem NodeAt.none_of {w : World} {c : Nat} {f : Sb} (h : ∀ v, f v = Option.none) : ∀ (l : Nat), NodeAt w c l Option.none f
  | 0 => .inl ⟨rfl, h⟩
  | _ + 1 => .inl ⟨rfl, h⟩

theorem LeafIs.mono {w : World} {c c' MB : Nat} {f : Sb} (h : LeafIs w c MB f) (hc : c ≤ c') : LeafIs w c' MB f := by
  obtain ⟨m, D, hm, h1, h2⟩ := h
  exact ⟨m, D, Nat.le_trans hm hc, h1, h2⟩

/-- another world, in which all blocks of nodes and maps are as they were -/
theorem NodeAt.stay {w w' : World} {c c' : Nat} (hc : c ≤ c') (hs : ∀ b : Nat, (∃ ks u, w.heap[b]? = some (Obj.cells (kidCells ks u) 107 (0, 0))) ∨ (∃ es k, w.heap[b]? = some (Obj.map es k)) → w'.heap[b]? = w.heap[b]?) : ∀ {l : Nat} {p : Option Addr} {f : Sb}, NodeAt w c l p f → NodeAt w' c' l p f
  | 0, p, f, h => by
    rcases h with h | ⟨N, MB, h1, h2, m, D, hm, h3, h4⟩
    · exact .inl h
    · obtain ⟨es, clock, hb, F, hz, hD⟩ := h3
      exact .inr ⟨N, MB, h1, (hs N (.inl ⟨_, _, h2⟩)).trans h2, m, D, Nat.le_trans hm hc, ⟨es, clock, (hs MB (.inr ⟨_, _, hb⟩)).trans hb, F, hz, hD⟩, h4⟩
  | l + 1, p, f, h => by
    rcases h with h | ⟨N, ks, h1, h2, h3⟩
    · exact .inl h
    · exact .inr ⟨N, ks, h1, (hs N (.inl ⟨_, _, h2⟩)).trans h2, fun i hi => (h3 i hi).stay hc hs⟩

theorem NodeAt.below {w w' : World} {c : Nat} {l : Nat} {p : Option Addr} {f : Sb} (h : NodeAt w c l p f) (hB : Below w.heap.size w w') : NodeAt w' c l p f :=
  h.stay (Nat.le_refl _) (fun b hb => hB.block b (by
    rcases hb with ⟨_, _, h⟩ | ⟨_, _, h⟩
    all_goals exact (Array.getElem?_eq_some_iff.1 h).1))

/-- a block of three cells turns -/
theorem NodeAt.grown {w w' : World} {c S : Nat} {l : Nat} {p : Option Addr} {f : Sb} (h : NodeAt w c l p f) (hg : w.grownBy w' (some S)) {cs : Array Value} {t : TypeId} {fr : Nat × Nat} (hS : w.heap[S]? = some (.cells cs t fr)) (hz : cs.size ≠ 17) : NodeAt w' c l p f :=
  h.stay (Nat.le_refl _) (fun b hb => hg.block b (by
    rcases hb with ⟨_, _, h⟩ | ⟨_, _, h⟩
    all_goals exact (Array.getElem?_eq_some_iff.1 h).1) (fun e => by
    cases e
    rcases hb with ⟨ks, u, h⟩ | ⟨_, _, h⟩
    · rw [hS] at h
      cases h
      exact hz (kidCells_size _ _)
    · rw [hS] at h
      cases h))

/-- a substitution in memory: where its root is, how many levels it has, and what is bound; what is bound lies in memory -/
structure SubAt (S : Nat) (σ : Sb) (n : Nat) (w : World) : Prop where
  cells : ∃ p h, w.heap[S]? = some (.cells #[.pointer p, .int .u64 (h : Nat), .int .i64 (n : Nat)] 88 (0, 0)) ∧ h ≤ 15 ∧ NodeAt w n h p σ ∧ ∀ v, σ v ≠ none → 0 ≤ v ∧ v ≤ 9223372036854775807 ∧ ¬ isBeyond v h
  ends : Ends σ
  at_ : ∀ v x, σ v = some x → Ts.At w x.p x.kids ∧ Ts.ok (.cons x.k x.s x.n x.p x.c x.kids .nil) ∧ x.kids.size ≤ 5000

theorem SubAt.lt {S : Nat} {σ : Sb} {n : Nat} {w : World} (h : SubAt S σ n w) : S < w.heap.size := by
  obtain ⟨p, hh, h1, _⟩ := h.cells
  exact (Array.getElem?_eq_some_iff.1 h1).1

theorem SubAt.below {S : Nat} {σ : Sb} {n : Nat} {w w' : World} (h : SubAt S σ n w) (hB : Below w.heap.size w w') : SubAt S σ n w' := by
  obtain ⟨p, hh, h1, h2, h3, h4⟩ := h.cells
  exact ⟨⟨p, hh, (hB.block S h.lt).trans h1, h2, h3.below hB, h4⟩, h.ends, fun v x hx => ⟨(h.at_ v x hx).1.below hB, (h.at_ v x hx).2⟩⟩

theorem Ts.lies_small {w w' : World} {S : Nat} (hg : w.grownBy w' (some S)) {cs : Array Value} {t : TypeId} {fr : Nat × Nat} (hS : w.heap[S]? = some (.cells cs t fr)) (hz : cs.size < 4) : ∀ (ts : Ts) {b o : Nat}, ts.lies w b o → ts.lies w' b o
  | .nil, _, _, _ => trivial
  | .cons k s n p cap kids rest, b, o, ⟨h0, h1, h2, h3, ⟨b', o', h4, h5⟩, h6⟩ => by
    have hb : b ≠ S := fun e => by
      subst e
      simp only [World.cell?, hS] at h3
      have := (Array.getElem?_eq_some_iff.1 h3).1
      omega
    have e := fun y => World.cell?_of_block (a := ⟨b, y, none⟩) (hg.block b (World.block_lt_of_cell? _ _ h0) (fun e => hb (by cases e; rfl)))
    exact ⟨(e _).trans h0, (e _).trans h1, (e _).trans h2, (e _).trans h3, ⟨b', o', h4, lies_small hg hS hz kids h5⟩, lies_small hg hS hz rest h6⟩

theorem Ts.At.small {w w' : World} {S : Nat} (hg : w.grownBy w' (some S)) {cs : Array Value} {t : TypeId} {fr : Nat × Nat} (hS : w.heap[S]? = some (.cells cs t fr)) (hz : cs.size < 4) {p : Option Addr} {ts : Ts} (h : Ts.At w p ts) : Ts.At w' p ts := by
  obtain ⟨b, o, h1, h2⟩ := h
  exact ⟨b, o, h1, Ts.lies_small hg hS hz ts h2⟩

/-- a walked term lies in memory -/
theorem SubAt.walked {S : Nat} {σ : Sb} {n : Nat} {w : World} (h : SubAt S σ n w) {t : Nd} (ht : Ts.At w t.p t.kids ∧ Ts.ok (.cons t.k t.s t.n t.p t.c t.kids .nil) ∧ t.kids.size ≤ 5000) :
    Ts.At w (wk σ t).p (wk σ t).kids ∧ Ts.ok (.cons (wk σ t).k (wk σ t).s (wk σ t).n (wk σ t).p (wk σ t).c (wk σ t).kids .nil) ∧ (wk σ t).kids.size ≤ 5000 := by
  have hs := wk_spec h.ends t
  generalize wk σ t = r at *
  generalize wkn σ t = m at *
  induction hs with
  | stop _ => exact ht
  | go _ hb _ ih => exact ih (h.at_ _ _ hb)

end Go.Proofs.Ytnmhnaanpjlniaa
/-
  Layer 3: what a number is bound to.
-/
namespace Go.Proofs.Ytnmhnaanpjlniaa
open Go.RowKit Go.Maps

theorem valOf_none : valOf Option.none = .agg #[.int .u8 0, .string ⟨#[]⟩, .int .i64 0, .slice Option.none 0 0] := rfl
theorem valOf_some (x : Nd) : valOf (some x) = .agg #[.int .u8 x.k, .string x.s, .int .i64 x.n, .slice x.p x.kids.len x.c] := rfl

theorem SubAt.cell0 {w : World} {S : Nat} {a b c : Value} {t : TypeId} (h : w.heap[S]? = some (.cells #[a, b, c] t (0, 0))) : w.cell? ⟨S, 0, none⟩ = some a ∧ w.cell? ⟨S, 1, none⟩ = some b ∧ w.cell? ⟨S, 2, none⟩ = some c ∧ ∀ i, w.frozen? ⟨S, i, none⟩ = false :=
  ⟨by rw [cell_of_row w S 0 _ _ _ h]; rfl, by rw [cell_of_row w S 1 _ _ _ h]; rfl, by rw [cell_of_row w S 2 _ _ _ h]; rfl, fun i => frozen_of_row w S i _ _ h⟩

theorem below_put4 {B b : Nat} {w W : World} (h : Below B w W) (hb : B ≤ b) (v0 v1 v2 v3 : Value) : Below B w ((((W.setCell ⟨b, 0, none⟩ v0).setCell ⟨b, 1, none⟩ v1).setCell ⟨b, 2, none⟩ v2).setCell ⟨b, 3, none⟩ v3) :=
  (((h.setCell (p := ⟨b, 0, none⟩) hb _).setCell (p := ⟨b, 1, none⟩) hb _).setCell (p := ⟨b, 2, none⟩) hb _).setCell (p := ⟨b, 3, none⟩) hb _

theorem NodeAt.drewN {w : World} {c l : Nat} {p : Option Addr} {f : Sb} (h : NodeAt w c l p f) (k : Nat) : NodeAt (w.drewN k) c l p f :=
  h.stay (Nat.le_refl _) (fun b _ => by rfl)

set_option maxRecDepth 100000 in
set_option maxHeartbeats 4000000 in
theorem binding_any (S : Nat) (σ : Sb) (m : Nat) (w : World) (h : SubAt S σ m w) (v : Int) (hv : -9223372036854775808 ≤ v ∧ v ≤ 9223372036854775807) :
    Calls Try.prog 81 #[.pointer (some ⟨S, 0, none⟩), .int .i64 v] w fun e w' => e = .returned (.tuple #[valOf (σ v), .bool (σ v).isSome]) ∧ Below w.heap.size w w' := by
  obtain ⟨p, hh, hS, hh15, hN, hdom⟩ := h.cells
  obtain ⟨h0, h1, -, -⟩ := SubAt.cell0 hS
  have hSl := World.block_lt_of_cell? _ _ h0
  by_cases hv0 : v < 0
  · have hn : σ v = none := by
      cases hs : σ v with
      | none => rfl
      | some x => have := (hdom v (by rw [hs]; simp)).1; omega
    rw [hn, valOf_none]
    clear hdom hn hN h hS
    go_enter Try.func81, Try.ntmps81
    go_wp2
    exact bodyPost_ret (v := .tuple #[.agg #[.int .u8 0, .string ⟨#[]⟩, .int .i64 0, .slice none 0 0], .bool false]) (by simp [results, Try.results81, go_sem]) rfl ⟨rfl, (Below.refl _ _).alloc (Nat.le_refl _) _⟩
  have g0 := fun (o : Obj) => cell_alloc_old o h0
  have g1 := fun (o : Obj) => cell_alloc_old o h1
  by_cases hb : isBeyond v hh
  · have hn : σ v = none := by
      cases hs : σ v with
      | none => rfl
      | some x => exact absurd hb (hdom v (by rw [hs]; simp)).2.2
    rw [hn, valOf_none]
    clear hdom hn hN h hS
    go_enter Try.func81, Try.ntmps81
    go_wp2_with fail
    refine (beyond_yes v (by omega) hh hh15 hb _).mono ?_
    rintro e w' ⟨rfl, rfl⟩
    go_wp2
    exact bodyPost_ret (v := .tuple #[.agg #[.int .u8 0, .string ⟨#[]⟩, .int .i64 0, .slice none 0 0], .bool false]) (by simp [results, Try.results81, go_sem]) rfl ⟨rfl, (Below.refl _ _).alloc (Nat.le_refl _) _⟩
  · have NN : Hid (NodeAt w m hh p σ) := Lib.hid hN
    have K := Maps.int_keyed Try.underlying2
    have hkey : keyOf Try.prog 2 (.int .i64 v) = some (.int .i64 v) := Maps.keyOf_int_mk Try.underlying2 (wf64 (by omega))
    clear hdom hN h hS
    go_enter Try.func81, Try.ntmps81
    go_wp2_with fail
    refine (beyond_no v (by omega) hh hh15 hb _).mono ?_
    rintro e w' ⟨rfl, rfl⟩
    go_wp2_with fail
    obtain ⟨W0, hW0⟩ : ∃ W0, W0 = w.alloc (.cells #[.int .u8 0, .string ⟨#[]⟩, .int .i64 0, .slice none 0 0] 25) := ⟨_, rfl⟩
    rw [← hW0]
    have hs0 : W0.heap.size = w.heap.size + 1 := by rw [hW0]; simp
    have Z0 := Lib.hid hW0
    have N0 : Hid (NodeAt W0 m hh p σ) := Lib.hid (NN.out.below (by rw [hW0]; exact (Below.refl _ _).alloc (Nat.le_refl _) _))
    clear hW0
    go_loopw [6, 7] (fun s6 s7 wr => ∃ (q : Option Addr) (l : Nat) (f : Sb), s6 = .pointer q ∧ s7 = .int .u64 l ∧ l ≤ 15 ∧ Hid (NodeAt wr m l q f ∧ f v = σ v) ∧ Hid (∃ k, wr = W0.drewN k)) (fun _ i _ => (intOf i).toNat)
    case atStart => exact ⟨p, hh, σ, rfl, rfl, hh15, Lib.hid ⟨N0.out, rfl⟩, Lib.hid ⟨0, rfl⟩⟩
    case round =>
      obtain ⟨q, l, f, rfl, rfl, hl15, NF, WR⟩ := hrel
      have hst : (∃ x : Addr, q = some x) ∨ q = none := by cases q <;> simp
      by_cases hgo : 0 < l ∧ ∃ x : Addr, q = some x
      · obtain ⟨hl0, x, rfl⟩ := hgo
        obtain ⟨l', rfl⟩ : ∃ l', l = l' + 1 := ⟨l - 1, by omega⟩
        obtain ⟨N, ks, hx, hNh, hkids⟩ : ∃ N ks, x = ⟨N, 0, none⟩ ∧ wr.heap[N]? = some (.cells (kidCells ks (.map none)) 107 (0, 0)) ∧ ∀ i, i < 16 → NodeAt wr m l' (ks i) (only f (l' + 1) i) := by
          rcases NF.out.1 with ⟨h, _⟩ | ⟨N, ks, h1, h2, h3⟩
          · cases h
          · cases h1; exact ⟨N, ks, rfl, h2, h3⟩
        subst hx
        have hki := kidOf_lt v (l' + 1)
        have hck : wr.cell? ⟨N, kidOf v (l' + 1), none⟩ = some (.pointer (ks (kidOf v (l' + 1)))) := by rw [cell_of_row wr N _ _ _ _ hNh]; exact kidCells_kid ks _ _ hki
        have NK := Lib.hid hkids
        clear hNh hkids
        have hk0 : 0 ≤ (kidOf v (l' + 1) : Int) := by omega
        have hk16 : (kidOf v (l' + 1) : Int) < 16 := by omega
        go_upto_region 7 with fail
        go_quiet ((go_at_call 107; exact Calls.quiet_of_same (kid_at _ (by omega) (l' + 1) (by omega) _ (by omega) _)))
        go_wp2
        go_roundw
        case rel =>
          refine ⟨ks (kidOf v (l' + 1)), l', only f (l' + 1) (kidOf v (l' + 1)), rfl, by go_num, by omega, Lib.hid ⟨(NK.out _ hki).drewN _, ?_⟩, Lib.hid ?_⟩
          · show (if kidOf v (l' + 1) = kidOf v (l' + 1) then f v else none) = σ v
            rw [if_pos rfl]; exact NF.out.2
          · obtain ⟨k, rfl⟩ := WR.out
            exact ⟨_, World.drewN_drewN _ _ _⟩
        case measure => simp [intOf]
      · obtain ⟨k, hwr⟩ := WR.out
        rw [Z0.out] at hwr
        subst hwr
        have hBw : Below w.heap.size w ((w.alloc (.cells #[.int .u8 0, .string ⟨#[]⟩, .int .i64 0, .slice none 0 0] 25)).drewN k) := below_drewN ((Below.refl _ _).alloc (Nat.le_refl _) _) _
        have BW := Lib.hid hBw
        clear hBw WR Z0
        cases q with
        | none =>
          have hn : σ v = none := by rw [← NF.out.2]; exact NF.out.1.of_none v
          have HN := Lib.hid hn
          clear hn hst hgo
          go_wp2
          exact bodyPost_ret (v := .tuple #[.agg #[.int .u8 0, .string ⟨#[]⟩, .int .i64 0, .slice none 0 0], .bool false]) (by simp [results, Try.results81, go_sem]) rfl ⟨by rw [HN.out]; rfl, below_put4 BW.out (Nat.le_refl _) _ _ _ _⟩
        | some x =>
          obtain rfl : l = 0 := by
            cases l with
            | zero => rfl
            | succ l => exact absurd ⟨Nat.succ_pos _, x, rfl⟩ hgo
          clear hst hgo
          obtain ⟨N, MB, hx, hNh, m2, D, hm2, hown, hD⟩ : ∃ N MB, x = ⟨N, 0, none⟩ ∧ ((w.alloc (.cells #[.int .u8 0, .string ⟨#[]⟩, .int .i64 0, .slice none 0 0] 25)).drewN k).heap[N]? = some (.cells (kidCells (fun _ => none) (.map (some MB))) 107 (0, 0)) ∧ LeafIs ((w.alloc (.cells #[.int .u8 0, .string ⟨#[]⟩, .int .i64 0, .slice none 0 0] 25)).drewN k) m MB f := by
            rcases NF.out.1 with ⟨h, _⟩ | ⟨N, ks, h1, h2, h3⟩
            · cases h
            · cases h1; exact ⟨N, ks, rfl, h2, h3⟩
          subst hx
          obtain ⟨hb1, hb2⟩ := hD v hv
          rw [NF.out.2] at hb1 hb2
          have h16 : (w.alloc (.cells #[.int .u8 0, .string ⟨#[]⟩, .int .i64 0, .slice none 0 0] 25)).cell? ⟨N, 16, none⟩ = some (.map (some MB)) := (cell_of_row _ N 16 _ _ _ hNh).trans (kidCells_last _ _)
          have HB := Lib.hid hb1
          have HV := Lib.hid hb2
          have OWN := Lib.hid hown
          clear hb1 hb2 hown hD hNh
          cases hs : σ v with
          | none =>
            rw [hs] at HB HV
            have HS := Lib.hid hs
            clear hs
            go_wp2_with (at_lookup; refine wpList_lookup_own_ok _ rfl _ _ 105 rfl 2 25 K Try.underlying105 heldElem (zeroTermRun _) (.held zeroTerm) [] rfl MB m2 D rfl OWN.out _ _ rfl hkey ?_; intro v5 ps hv5; obtain rfl := held_inv hv5 HV.out; clear hv5; rw [HB.out, valOf_none])
            exact bodyPost_ret (v := .tuple #[.agg #[.int .u8 0, .string ⟨#[]⟩, .int .i64 0, .slice none 0 0], .bool false]) (by simp [results, Try.results81, go_sem]) rfl ⟨by rw [HS.out]; rfl, (below_put4 BW.out (Nat.le_refl _) _ _ _ _).alloc (by simp) _⟩
          | some y =>
            rw [hs] at HB HV
            have HS := Lib.hid hs
            clear hs
            go_wp2_with (at_lookup; refine wpList_lookup_own_ok _ rfl _ _ 105 rfl 2 25 K Try.underlying105 heldElem (zeroTermRun _) (.held zeroTerm) [] rfl MB m2 D rfl OWN.out _ _ rfl hkey ?_; intro v5 ps hv5; obtain rfl := held_inv hv5 HV.out; clear hv5; rw [HB.out, valOf_some])
            exact bodyPost_ret (v := .tuple #[.agg #[.int .u8 y.k, .string y.s, .int .i64 y.n, .slice y.p y.kids.len y.c], .bool true]) (by simp [results, Try.results81, go_sem]) rfl ⟨by rw [HS.out]; rfl, (below_put4 BW.out (Nat.le_refl _) _ _ _ _).alloc (by simp) _⟩

end Go.Proofs.Ytnmhnaanpjlniaa
