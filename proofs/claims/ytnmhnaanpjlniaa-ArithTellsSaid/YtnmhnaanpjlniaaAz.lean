import Derived.Test.YtnmhnaanpjlniaaAv
import Derived.Test.YtnmhnaanpjlniaaWd0
import Derived.Test.YtnmhnaanpjlniaaTn
import Derived.Test.YtnmhnaanpjlniaaAm
/-
  Layer 3: the document's occurrence.
-/
namespace Go.Proofs.Ytnmhnaanpjlniaa
open Go.RowKit

set_option maxRecDepth 100000 in
set_option maxHeartbeats 4000000 in
theorem roccurs_any (l : List (Int × Nd)) (hl : l.length ≤ 1000000) (hE : Ends (look l)) (hS : Small (look l)) (w : World) (lp : Option Addr) (lc : Nat) (hat : BsAt w lp l) (t : Nd) (hok : t.ok) (hsz : t.kids.size ≤ 5000) (htat : Ts.At w t.p t.kids) (v : Int) :
    Calls Try.prog 22 #[.slice lp l.length lc, .int .i64 v, .agg #[.int .u8 t.k, .string t.s, .int .i64 t.n, .slice t.p t.kids.len t.c]] w fun e w' => e = .returned (.tuple #[.bool (occ v (num 0 (vis (look l) 4097 [t]))).1, .int .i64 (occ v (num 0 (vis (look l) 4097 [t]))).2]) ∧ Below w.heap.size w w' := by
  have HE := Lib.hid hE
  have HS := Lib.hid hS
  have AT := Lib.hid hat
  have OK := Lib.hid hok
  have TAT := Lib.hid htat
  have hlen := vis_length (look l) 4097 [t]
  have ho := occ_pos v (vis (look l) 4097 [t]) 0 (by omega) (by omega)
  have hpa := posA_le v (vis (look l) 4097 [t]) 0
  rw [Nat.zero_add] at ho hpa
  obtain ⟨oc, hoc⟩ : ∃ oc, oc = occ v (num 0 (vis (look l) 4097 [t])) := ⟨_, rfl⟩
  rw [← hoc] at ho ⊢
  obtain ⟨z, hz⟩ : ∃ z, z = posA v 0 (vis (look l) 4097 [t]) := ⟨_, rfl⟩
  rw [← hz] at ho hpa
  obtain ⟨n, hn⟩ : ∃ n, n = (vis (look l) 4097 [t]).length := ⟨_, rfl⟩
  rw [← hn] at ho hlen hpa
  have OC := Lib.hid ho
  have ZZ := Lib.hid hz
  have NN := Lib.hid hn
  clear hE hS hat hok htat ho hoc hz hn
  go_enter Try.func22, Try.ntmps22
  go_wp2_with fail
  have hB0 : Below w.heap.size w (w.alloc (.cells #[.int .u8 t.k, .string t.s, .int .i64 t.n, .slice t.p t.kids.len t.c] 25)) := (Below.refl _ _).alloc (Nat.le_refl _) _
  refine (bnodes_any l hl HE.out HS.out _ lp lc (AT.out.below hB0) t OK.out hsz (TAT.out.below hB0) v).mono ?_
  rintro e w1 ⟨rfl, hB1⟩
  rw [← ZZ.out, ← NN.out]
  have BB := Lib.hid (hB0.trans (hB1.mono hB0.size))
  clear hB0 hB1
  by_cases h1 : 0 ≤ z
  · by_cases h2 : z ≤ 4096
    · have R := OC.out
      rw [if_pos ⟨h1, h2⟩] at R
      have RR := Lib.hid R
      clear R
      go_wp2
      exact bodyPost_ret (v := .tuple #[.bool true, .int .i64 0]) (by simp [results, Try.results22, go_sem]) rfl ⟨by rw [RR.out], BB.out⟩
    · have h3 : 4096 < n := by omega
      have R := OC.out
      rw [if_neg (by omega), if_pos h3] at R
      have RR := Lib.hid R
      clear R
      go_wp2
      exact bodyPost_ret (v := .tuple #[.bool false, .int .i64 31]) (by simp [results, Try.results22, go_sem]) rfl ⟨by rw [RR.out], BB.out⟩
  · by_cases h3 : 4096 < n
    · have R := OC.out
      rw [if_neg (by omega), if_pos h3] at R
      have RR := Lib.hid R
      clear R
      go_wp2
      exact bodyPost_ret (v := .tuple #[.bool false, .int .i64 31]) (by simp [results, Try.results22, go_sem]) rfl ⟨by rw [RR.out], BB.out⟩
    · have R := OC.out
      rw [if_neg (by omega), if_neg h3] at R
      have RR := Lib.hid R
      clear R
      go_wp2
      exact bodyPost_ret (v := .tuple #[.bool false, .int .i64 0]) (by simp [results, Try.results22, go_sem]) rfl ⟨by rw [RR.out], BB.out⟩

end Go.Proofs.Ytnmhnaanpjlniaa
/-
  A growing list of terms of one's own, and the parts of its elements elsewhere: plain facts.
-/
namespace Go.Proofs.Ytnmhnaanpjlniaa
open Go.RowKit

theorem liesP_imp {P Q : Nat → Prop} {w : World} (h : ∀ b, b < w.heap.size → P b → Q b) : ∀ (ts : Ts) {b o : Nat}, ts.liesP P w b o → ts.liesP Q w b o
  | .nil, _, _, _ => trivial
  | .cons _ _ _ _ _ kids rest, _, _, ⟨hb, h0, h1, h2, h3, ⟨b', o', h4, h5⟩, h6⟩ => ⟨h _ (World.block_lt_of_cell? _ _ h0) hb, h0, h1, h2, h3, ⟨b', o', h4, liesP_imp h kids h5⟩, liesP_imp h rest h6⟩

theorem AtP_imp {P Q : Nat → Prop} {w : World} (h : ∀ b, b < w.heap.size → P b → Q b) {p : Option Addr} {ts : Ts} (hat : Ts.AtP P w p ts) : Ts.AtP Q w p ts := by
  obtain ⟨b, o, h1, h2⟩ := hat
  exact ⟨b, o, h1, liesP_imp h ts h2⟩

theorem liesP_lies {P : Nat → Prop} {w : World} : ∀ (ts : Ts) {b o : Nat}, ts.liesP P w b o → ts.lies w b o
  | .nil, _, _, _ => trivial
  | .cons _ _ _ _ _ kids rest, _, _, ⟨_, h0, h1, h2, h3, ⟨b', o', h4, h5⟩, h6⟩ => ⟨h0, h1, h2, h3, ⟨b', o', h4, liesP_lies kids h5⟩, liesP_lies rest h6⟩

theorem AtP_at {P : Nat → Prop} {w : World} {p : Option Addr} {ts : Ts} (hat : Ts.AtP P w p ts) : Ts.At w p ts := by
  obtain ⟨b, o, h1, h2⟩ := hat
  exact ⟨b, o, h1, liesP_lies ts h2⟩

/-- the parts of a list's elements lie in blocks of a kind -/
def KidsP (P : Nat → Prop) (w : World) : Ts → Prop
  | .nil => True
  | .cons _ _ _ p _ kids rest => Ts.AtP P w p kids ∧ KidsP P w rest

theorem KidsP.stay {P Q : Nat → Prop} {w w' : World} (hc : ∀ b, P b → b < w.heap.size → w'.heap[b]? = w.heap[b]?) (hPQ : ∀ b, P b → b < w.heap.size → Q b) : ∀ {ts : Ts}, KidsP P w ts → KidsP Q w' ts
  | .nil, _ => trivial
  | .cons _ _ _ _ _ _ _, h => ⟨AtP_imp (P := fun b => P b ∧ Q b) (fun _ _ hb => hb.2) ((AtP_imp (fun b hl hb => ⟨hb, hPQ b hb hl⟩) h.1).stay (fun b hb hl => hc b hb.1 hl)), KidsP.stay hc hPQ h.2⟩

theorem KidsP.app {P : Nat → Prop} {w : World} : ∀ {t u : Ts}, KidsP P w t → KidsP P w u → KidsP P w (t.app u)
  | .nil, _, _, h => h
  | .cons _ _ _ _ _ _ _, _, h, h' => ⟨h.1, KidsP.app h.2 h'⟩

theorem liesP_cells {P : Nat → Prop} {w : World} : ∀ {ts : Ts} {b o : Nat}, P b → (∀ (j : Nat) (u : Value), (cellsL ts)[j]? = some u → w.cell? ⟨b, o + j, none⟩ = some u) → KidsP P w ts → ts.liesP P w b o
  | .nil, _, _, _, _, _ => trivial
  | .cons k s n p c kids rest, b, o, hb, h, hk => by
    refine ⟨hb, h 0 _ rfl, h 1 _ rfl, h 2 _ rfl, h 3 _ rfl, hk.1, liesP_cells hb (fun j u hj => ?_) hk.2⟩
    have := h (j + 4) u (by simpa [cellsL] using hj)
    rw [show o + 4 + j = o + (j + 4) from by omega]
    exact this

/-- a list of its own, and the parts of its elements elsewhere -/
def OwnL (base : Nat) (e : TypeId) (v : Value) (acc : Ts) (w : World) : Prop :=
  w.ownsRow base e 4 v acc.len (cellsL acc) ∧ acc.ok ∧ KidsP (fun b => base ≤ b ∧ v.ownBlock ≠ some b) w acc

theorem OwnL.start (base : Nat) (e : TypeId) (w : World) : OwnL base e (.slice none 0 0) .nil w := ⟨World.ownsRow_nil _ _ _ _, trivial, trivial⟩

theorem OwnL.below {base : Nat} {e : TypeId} {v : Value} {acc : Ts} {w w' : World} (h : OwnL base e v acc w) (hB : Below w.heap.size w w') : OwnL base e v acc w' :=
  ⟨h.1.kept (row := none) ⟨hB.os, hB.tape, hB.output, hB.size, fun k hk _ => hB.block k hk⟩ (by cases v.ownBlock <;> simp), h.2.1, KidsP.stay (fun b _ hl => hB.block b hl) (fun _ hb _ => hb) h.2.2⟩

theorem OwnL.push {base m : Nat} {e : TypeId} {v v' : Value} {acc U : Ts} {W W7 : World} {o : Obj} (h : OwnL base e v acc W) (hown : W7.ownsRow base e 4 v' (acc.len + 1) (cellsL acc ++ cellsL U))
    (hg : (W.alloc o).grownBy W7 v.ownBlock) (hob : v'.ownBlock = v.ownBlock ∨ v'.ownBlock = some (W.alloc o).heap.size) (hU : U.len = 1) (hUok : U.ok) (hk : KidsP (fun b => m ≤ b) W U) (hm : base ≤ m) (hgm : ∀ q, v.ownBlock = some q → q < m) : OwnL base e v' (acc.app U) W7 := by
  obtain ⟨h1, h2, h3⟩ := h
  have hk' : KidsP (fun b => base ≤ b ∧ v.ownBlock ≠ some b) W U := KidsP.stay (fun _ _ _ => rfl) (fun b hb _ => ⟨by omega, fun e => by have := hgm b e; omega⟩) hk
  refine ⟨by rw [app_len, cellsL_app, hU]; exact hown, app_ok h2 hUok, KidsP.stay (w := W) (fun b hb hlt => ?_) (fun b hb hlt => ?_) (KidsP.app h3 hk')⟩
  · exact (hg.block b (by simp; omega) (fun e => hb.2 e.symm)).trans (Below.heap_alloc _ _ _ hlt)
  · refine ⟨hb.1, ?_⟩
    rcases hob with e | e
    · rw [e]; exact hb.2
    · rw [e]
      intro e2
      have e3 := Option.some.inj e2
      simp at e3
      omega

/-- a list of its own, read -/
theorem OwnL.at {base : Nat} {e : TypeId} {v : Value} {acc : Ts} {w : World} (h : OwnL base e v acc w) (hne : 0 < acc.len) : ∃ g c, v = .slice (some ⟨g, 0, none⟩) acc.len c ∧ Ts.AtP (fun b => base ≤ b) w (some ⟨g, 0, none⟩) acc := by
  obtain ⟨hrow, hok, hk⟩ := h
  have hlt := hrow.lt
  rcases hrow.2 with ⟨_, h0⟩ | ⟨g, cap, cur, rfl, hg1, hg2, hg3, hg4, hg5, hg6⟩
  · omega
  obtain ⟨hc, _⟩ := row_cells hg2 hg6 (cellsL_length acc)
  exact ⟨g, cap, rfl, g, 0, .inr rfl, liesP_cells (hlt g rfl).1 hc (KidsP.stay (fun _ _ _ => rfl) (fun _ hb _ => hb.1) hk)⟩

/-- a list of its own is a slice's value -/
theorem OwnL.read {base : Nat} {e : TypeId} {v : Value} {acc : Ts} {w : World} (h : OwnL base e v acc w) : ∃ q c, v = .slice q acc.len c ∧ Ts.AtP (fun b => base ≤ b) w q acc ∧ (acc.len ≤ c ∧ c ≤ 9223372036854775807) ∧ (q = none → c = 0) := by
  obtain ⟨hrow, hok, hk⟩ := h
  have hlt := hrow.lt
  rcases hrow.2 with ⟨rfl, h0⟩ | ⟨g, cap, cur, rfl, hg1, hg2, hg3, hg4, hg5, hg6⟩
  · exact ⟨none, 0, by rw [h0], ⟨0, 0, .inl (Ts.len_zero h0), by rw [Ts.len_zero h0]; trivial⟩, ⟨by omega, by omega⟩, fun _ => rfl⟩
  obtain ⟨hc, _⟩ := row_cells hg2 hg6 (cellsL_length acc)
  exact ⟨_, cap, rfl, ⟨g, 0, .inr rfl, liesP_cells (hlt g rfl).1 hc (KidsP.stay (fun _ _ _ => rfl) (fun _ hb _ => hb.1) hk)⟩, ⟨hg3, by unfold maxLen at hg4; omega⟩, fun e => by cases e⟩

end Go.Proofs.Ytnmhnaanpjlniaa
/-
  Layer 3: bindings made one behind the other: what stands between two of them.
-/
namespace Go.Proofs.Ytnmhnaanpjlniaa
open Go.RowKit

theorem liesB_liesP {B : Nat} {w : World} : ∀ (ts : Ts) {b o : Nat}, ts.liesB B w b o → ts.liesP (B ≤ ·) w b o
  | .nil, _, _, _ => trivial
  | .cons _ _ _ _ _ kids rest, _, _, ⟨hb, h0, h1, h2, h3, ⟨b', o', h4, h5⟩, h6⟩ => ⟨hb, h0, h1, h2, h3, ⟨b', o', h4, liesB_liesP kids h5⟩, liesB_liesP rest h6⟩

theorem AtB_atP {B : Nat} {w : World} {p : Option Addr} {ts : Ts} (hat : Ts.AtB B w p ts) : Ts.AtP (B ≤ ·) w p ts := by
  obtain ⟨b, o, h1, h2⟩ := hat
  exact ⟨b, o, h1, liesB_liesP ts h2⟩

/-- blocks that are no row of bindings and not the substitution's own -/
def Off (row : Option Nat) (S : Nat) (b : Nat) : Prop := row ≠ some b ∧ b ≠ S

/-- a substitution lives on while a row of bindings grows -/
theorem SubAt.row {S : Nat} {σ : Sb} {n : Nat} {w w' : World} (h : SubAt S σ n w) {row : Option Nat} (hg : w.grownBy w' row) (hrow : ∀ g, row = some g → ∃ cur, w.heap[g]? = some (.cells cur 62 (0, 0)))
    (hap : ∀ v x, σ v = some x → Ts.AtP (Off row S) w x.p x.kids) : SubAt S σ n w' := by
  have keep : ∀ b o, w.heap[b]? = some o → (∀ cur, o ≠ Obj.cells cur 62 (0, 0)) → w'.heap[b]? = w.heap[b]? := fun b o ho hne => by
    refine hg.block b (Array.getElem?_eq_some_iff.1 ho).1 fun e => ?_
    obtain ⟨cur, hc⟩ := hrow b e.symm
    rw [ho] at hc
    cases hc
    exact hne cur rfl
  obtain ⟨p, hh, h1, h2, h3, h4⟩ := h.cells
  refine ⟨⟨p, hh, ?_, h2, h3.stay (Nat.le_refl _) fun b hb => ?_, h4⟩, h.ends, fun v x hx => ?_⟩
  · rw [keep _ _ h1 fun cur e => by injection e with _ e2 _; exact absurd e2 (by decide)]
    exact h1
  · rcases hb with ⟨ks, u, hb⟩ | ⟨es, k, hb⟩
    · exact keep _ _ hb fun cur e => by injection e with _ e2 _; exact absurd e2 (by decide)
    · exact keep _ _ hb fun cur e => by cases e
  · obtain ⟨g1, g2⟩ := h.at_ v x hx
    exact ⟨AtP_at ((hap v x hx).stay fun b hb hlt => hg.block b hlt fun e => hb.1 e.symm), g2⟩

/-- what stands between two bindings -/
structure MkIn (w : World) (j : Nat) (hv : Value) (had : List (Int × Nd)) (σ : Sb) (wr : World) : Prop where
  hl : had.length ≤ j
  own : wr.ownsRow w.heap.size 62 5 hv had.length (cellsB had)
  kids : KidsAt w (bsTs had)
  sub : SubAt w.heap.size σ had.length wr
  tw : STw σ (look had)
  sm : ∀ e ∈ had, e.2.ok ∧ e.2.kids.size ≤ 5000
  apart : ∀ v x, σ v = some x → Ts.AtP (Off hv.ownBlock w.heap.size) wr x.p x.kids
  B : Below w.heap.size w wr

/-- what stands when it has been bound, but not yet been put behind the others -/
structure MkMid (w : World) (hv : Value) (had : List (Int × Nd)) (v : Int) (t : Nd) (σ : Sb) (wr : World) : Prop where
  own : wr.ownsRow w.heap.size 62 5 hv had.length (cellsB had)
  sub : SubAt w.heap.size σ (had.length + 1) wr
  tw : STw σ (look (had ++ [(v, t)]))
  apart : ∀ v x, σ v = some x → Ts.AtP (Off hv.ownBlock w.heap.size) wr x.p x.kids
  B : Below w.heap.size w wr

theorem MkIn.ends {w : World} {j : Nat} {hv : Value} {had : List (Int × Nd)} {σ : Sb} {wr : World} (h : MkIn w j hv had σ wr) : Ends (look had) := h.tw.ends h.sub.ends

/-- the row of bindings, read -/
theorem row_read {w : World} {hv : Value} {had : List (Int × Nd)} {wr : World} (own : wr.ownsRow w.heap.size 62 5 hv had.length (cellsB had)) (kids : KidsAt w (bsTs had)) (B : Below w.heap.size w wr) : ∃ q c, hv = .slice q had.length c ∧ BsAt wr q had :=
  row_bs own (kids.below B)

theorem MkIn.same {w : World} {j : Nat} {hv : Value} {had : List (Int × Nd)} {σ : Sb} {wr wx : World} (h : MkIn w j hv had σ wr) (hB : Below wr.heap.size wr wx) : MkIn w j hv had σ wx :=
  ⟨h.hl, own_below h.own hB, h.kids, h.sub.below hB, h.tw, h.sm, fun v x hx => (h.apart v x hx).stay fun b _ hb => hB.block b hb, h.B.trans (hB.mono h.B.size)⟩

theorem MkIn.up {w : World} {j : Nat} {hv : Value} {had : List (Int × Nd)} {σ : Sb} {wr : World} (h : MkIn w j hv had σ wr) : MkIn w (j + 1) hv had σ wr := { h with hl := Nat.le_succ_of_le h.hl }

theorem MkMid.same {w : World} {hv : Value} {had : List (Int × Nd)} {v : Int} {t : Nd} {σ : Sb} {wr wx : World} (h : MkMid w hv had v t σ wr) (hB : Below wr.heap.size wr wx) : MkMid w hv had v t σ wx :=
  ⟨own_below h.own hB, h.sub.below hB, h.tw, fun v x hx => (h.apart v x hx).stay fun b _ hb => hB.block b hb, h.B.trans (hB.mono h.B.size)⟩

/-- the row's block -/
theorem own_block {w : World} {base n size : Nat} {e : TypeId} {v : Value} {xs : List Value} (h : w.ownsRow base e size v n xs) : ∀ g, v.ownBlock = some g → ∃ cur, w.heap[g]? = some (.cells cur e (0, 0)) := by
  intro g hg
  rcases h.2 with ⟨rfl, _⟩ | ⟨g', cap, cur, rfl, _, hg2, _⟩
  · cases hg
  · cases hg; exact ⟨cur, hg2⟩

/-- what a call of Bind leaves alone -/
theorem MkIn.kept {w : World} {j : Nat} {hv : Value} {had : List (Int × Nd)} {σ : Sb} {wr w3 : World} (h : MkIn w j hv had σ wr) (hg : wr.grownBy w3 (some w.heap.size)) :
    w3.ownsRow w.heap.size 62 5 hv had.length (cellsB had) ∧ Below w.heap.size w w3 := by
  refine ⟨h.own.kept hg ?_, h.B.grown hg h.B.size fun k hk => by cases hk; exact Nat.le_refl _⟩
  cases ho : hv.ownBlock with
  | none => exact .inl rfl
  | some g =>
    refine .inr fun e => ?_
    cases e
    obtain ⟨cur, h1⟩ := own_block h.own _ ho
    obtain ⟨p, hh, h2, _⟩ := h.sub.cells
    rw [h1] at h2
    injection h2 with h2
    injection h2 with _ e2 _
    exact absurd e2 (by decide)

theorem MkIn.bound {w : World} {j : Nat} {hv : Value} {had : List (Int × Nd)} {σ : Sb} {wr w3 : World} (h : MkIn w j hv had σ wr) {v : Int} {t : Nd} {e : Ending} (hb : Bound w.heap.size σ had.length wr v t e w3) (h0 : bindE σ v t = 0) (hn : look had v = none) : ∃ σ', MkMid w hv had v t σ' w3 := by
  obtain ⟨x, hx, hS, hat⟩ := hb.yes h0
  obtain ⟨k1, k2⟩ := h.kept hb.grown
  refine ⟨σ.put v x, k1, hS, h.tw.put hn hx, fun u y hy => ?_, k2⟩
  by_cases e : u = v
  · subst e
    rw [Sb.put_same] at hy
    cases hy
    refine AtP_imp (fun b _ hB => ⟨fun e => ?_, fun e => ?_⟩) (AtB_atP hat)
    · have := (h.own.lt b e).2; omega
    · have := h.sub.lt; omega
  · rw [Sb.put_other e] at hy
    exact (h.apart u y hy).stay fun b hb' hlt => hb.grown.block b hlt fun e => hb'.2 (by injection e)

theorem MkMid.push {w : World} {j : Nat} {hv v' : Value} {had : List (Int × Nd)} {v : Int} {t : Nd} {σ : Sb} {wr w' : World} (h : MkMid w hv had v t σ wr) (hl : had.length ≤ j) (hk : KidsAt w (bsTs had)) (hkt : Ts.At w t.p t.kids) (hsm : ∀ e ∈ had, e.2.ok ∧ e.2.kids.size ≤ 5000) (hst : t.ok ∧ t.kids.size ≤ 5000)
    (hown : w'.ownsRow w.heap.size 62 5 v' (had.length + 1) (cellsB had ++ cellsB [(v, t)])) (hg : wr.grownBy w' hv.ownBlock) (hob : v'.ownBlock = hv.ownBlock ∨ v'.ownBlock = some wr.heap.size) : MkIn w (j + 1) v' (had ++ [(v, t)]) σ w' := by
  have hlen : (had ++ [(v, t)]).length = had.length + 1 := by simp
  refine ⟨by rw [hlen]; omega, by rw [hlen, cellsB_app]; exact hown, by rw [bsTs_app]; exact hk.app ⟨hkt, trivial⟩, by rw [hlen]; exact h.sub.row hg (own_block h.own) h.apart, h.tw, fun e he => ?_, fun u x hx => ?_, h.B.grown hg h.B.size fun k hk' => (h.own.lt k hk').1⟩
  · rcases List.mem_append.1 he with he | he
    · exact hsm e he
    · simp at he; rw [he]; exact hst
  · refine AtP_imp (P := fun b => Off hv.ownBlock w.heap.size b ∧ b < wr.heap.size) (fun b _ hb => ?_) ((AtP_imp (fun b hlt hb => ⟨hb, hlt⟩) (h.apart u x hx)).stay fun b hb hlt => hg.block b hlt fun e => hb.1.1 e.symm)
    refine ⟨fun e => ?_, hb.1.2⟩
    rcases hob with ho | ho
    · rw [ho] at e; exact hb.1.1 e
    · rw [ho] at e; injection e with e; omega

end Go.Proofs.Ytnmhnaanpjlniaa
