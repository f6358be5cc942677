import Derived.Test.YtnmhnaanpjlniaaGreatAt
import Derived.Test.YtnmhnaanpjlniaaGreatTn
import Derived.Test.YtnmhnaanpjlniaaGreatAw
import Derived.Test.YtnmhnaanpjlniaaGreatAm
import Derived.Test.YtnmhnaanpjlniaaGreatTw
/-
  A growing list of terms of one's own, and the parts of its elements elsewhere: plain facts.
-/
namespace Go.Proofs.YtnmhnaanpjlniaaGreat
open Go.RowKit

theorem liesP_imp {P Q : Nat → Prop} {w : World} (h : ∀ b, b < w.heap.size → P b → Q b) : ∀ (ts : Ts) {b o : Nat}, ts.liesP P w b o → ts.liesP Q w b o
  | .nil, _, _, _ => trivial
  | .cons _ _ _ _ _ kids rest, _, _, ⟨hb, h0, h1, h2, h3, ⟨b', o', h4, h5⟩, h6⟩ => ⟨h _ (World.block_lt_of_cell? _ _ h0) hb, h0, h1, h2, h3, ⟨b', o', h4, liesP_imp h kids h5⟩, liesP_imp h rest h6⟩

theorem AtP_imp {P Q : Nat → Prop} {w : World} (h : ∀ b, b < w.heap.size → P b → Q b) {p : Option Addr} {ts : Ts} (hat : Ts.AtP P w p ts) : Ts.AtP Q w p ts := by
  obtain ⟨b, o, h1, h2⟩ := hat
  exact ⟨b, o, h1, liesP_imp h ts h2⟩

theorem liesP_lies {P : Nat → Prop} {w : World} : ∀ (ts : Ts) {b o : Nat}, ts.liesP P w b o → ts.lies w b o
  | .nil, _, _, _ => trivial
  | .cons _ _ _ _ _ kids rest, _, _, ⟨_, h0, h1, h2, h3, ⟨b', o', h4, h5⟩, h6⟩ => ⟨h0, h1, h2, h3, ⟨b', o', h4, liesP_lies kids h5⟩, liesP_lies rest h6⟩

theorem AtP_at {P : Nat → Prop} {w : World} {p : Option Addr} {ts : Ts} (hat : Ts.AtP P w p ts) : Ts.At w p ts := by
  obtain ⟨b, o, h1, h2⟩ := hat
  exact ⟨b, o, h1, liesP_lies ts h2⟩

/-- the parts of a list's elements lie in blocks of a kind -/
def KidsP (P : Nat → Prop) (w : World) : Ts → Prop
  | .nil => True
  | .cons _ _ _ p _ kids rest => Ts.AtP P w p kids ∧ KidsP P w rest

theorem KidsP.stay {P Q : Nat → Prop} {w w' : World} (hc : ∀ b, P b → b < w.heap.size → w'.heap[b]? = w.heap[b]?) (hPQ : ∀ b, P b → b < w.heap.size → Q b) : ∀ {ts : Ts}, KidsP P w ts → KidsP Q w' ts
  | .nil, _ => trivial
  | .cons _ _ _ _ _ _ _, h => ⟨AtP_imp (P := fun b => P b ∧ Q b) (fun _ _ hb => hb.2) ((AtP_imp (fun b hl hb => ⟨hb, hPQ b hb hl⟩) h.1).stay (fun b hb hl => hc b hb.1 hl)), KidsP.stay hc hPQ h.2⟩

theorem KidsP.app {P : Nat → Prop} {w : World} : ∀ {t u : Ts}, KidsP P w t → KidsP P w u → KidsP P w (t.app u)
  | .nil, _, _, h => h
  | .cons _ _ _ _ _ _ _, _, h, h' => ⟨h.1, KidsP.app h.2 h'⟩

theorem liesP_cells {P : Nat → Prop} {w : World} : ∀ {ts : Ts} {b o : Nat}, P b → (∀ (j : Nat) (u : Value), (cellsL ts)[j]? = some u → w.cell? ⟨b, o + j, none⟩ = some u) → KidsP P w ts → ts.liesP P w b o
  | .nil, _, _, _, _, _ => trivial
  | .cons k s n p c kids rest, b, o, hb, h, hk => by
    refine ⟨hb, h 0 _ rfl, h 1 _ rfl, h 2 _ rfl, h 3 _ rfl, hk.1, liesP_cells hb (fun j u hj => ?_) hk.2⟩
    have := h (j + 4) u (by simpa [cellsL] using hj)
    rw [show o + 4 + j = o + (j + 4) from by omega]
    exact this

/-- a list of its own, and the parts of its elements elsewhere -/
def OwnL (base : Nat) (e : TypeId) (v : Value) (acc : Ts) (w : World) : Prop :=
  w.ownsRow base e 4 v acc.len (cellsL acc) ∧ acc.ok ∧ KidsP (fun b => base ≤ b ∧ v.ownBlock ≠ some b) w acc

theorem OwnL.start (base : Nat) (e : TypeId) (w : World) : OwnL base e (.slice none 0 0) .nil w := ⟨World.ownsRow_nil _ _ _ _, trivial, trivial⟩

theorem OwnL.below {base : Nat} {e : TypeId} {v : Value} {acc : Ts} {w w' : World} (h : OwnL base e v acc w) (hB : Below w.heap.size w w') : OwnL base e v acc w' :=
  ⟨h.1.kept (row := none) ⟨hB.os, hB.tape, hB.output, hB.size, fun k hk _ => hB.block k hk⟩ (by cases v.ownBlock <;> simp), h.2.1, KidsP.stay (fun b _ hl => hB.block b hl) (fun _ hb _ => hb) h.2.2⟩

theorem OwnL.push {base m : Nat} {e : TypeId} {v v' : Value} {acc U : Ts} {W W7 : World} {o : Obj} (h : OwnL base e v acc W) (hown : W7.ownsRow base e 4 v' (acc.len + 1) (cellsL acc ++ cellsL U))
    (hg : (W.alloc o).grownBy W7 v.ownBlock) (hob : v'.ownBlock = v.ownBlock ∨ v'.ownBlock = some (W.alloc o).heap.size) (hU : U.len = 1) (hUok : U.ok) (hk : KidsP (fun b => m ≤ b) W U) (hm : base ≤ m) (hgm : ∀ q, v.ownBlock = some q → q < m) : OwnL base e v' (acc.app U) W7 := by
  obtain ⟨h1, h2, h3⟩ := h
  have hk' : KidsP (fun b => base ≤ b ∧ v.ownBlock ≠ some b) W U := KidsP.stay (fun _ _ _ => rfl) (fun b hb _ => ⟨by omega, fun e => by have := hgm b e; omega⟩) hk
  refine ⟨by rw [app_len, cellsL_app, hU]; exact hown, app_ok h2 hUok, KidsP.stay (w := W) (fun b hb hlt => ?_) (fun b hb hlt => ?_) (KidsP.app h3 hk')⟩
  · exact (hg.block b (by simp; omega) (fun e => hb.2 e.symm)).trans (Below.heap_alloc _ _ _ hlt)
  · refine ⟨hb.1, ?_⟩
    rcases hob with e | e
    · rw [e]; exact hb.2
    · rw [e]
      intro e2
      have e3 := Option.some.inj e2
      simp at e3
      omega

/-- a list of its own, read -/
theorem OwnL.at {base : Nat} {e : TypeId} {v : Value} {acc : Ts} {w : World} (h : OwnL base e v acc w) (hne : 0 < acc.len) : ∃ g c, v = .slice (some ⟨g, 0, none⟩) acc.len c ∧ Ts.AtP (fun b => base ≤ b) w (some ⟨g, 0, none⟩) acc := by
  obtain ⟨hrow, hok, hk⟩ := h
  have hlt := hrow.lt
  rcases hrow.2 with ⟨_, h0⟩ | ⟨g, cap, cur, rfl, hg1, hg2, hg3, hg4, hg5, hg6⟩
  · omega
  obtain ⟨hc, _⟩ := row_cells hg2 hg6 (cellsL_length acc)
  exact ⟨g, cap, rfl, g, 0, .inr rfl, liesP_cells (hlt g rfl).1 hc (KidsP.stay (fun _ _ _ => rfl) (fun _ hb _ => hb.1) hk)⟩

/-- a list of its own is a slice's value -/
theorem OwnL.read {base : Nat} {e : TypeId} {v : Value} {acc : Ts} {w : World} (h : OwnL base e v acc w) : ∃ q c, v = .slice q acc.len c ∧ Ts.AtP (fun b => base ≤ b) w q acc ∧ (acc.len ≤ c ∧ c ≤ 9223372036854775807) ∧ (q = none → c = 0) := by
  obtain ⟨hrow, hok, hk⟩ := h
  have hlt := hrow.lt
  rcases hrow.2 with ⟨rfl, h0⟩ | ⟨g, cap, cur, rfl, hg1, hg2, hg3, hg4, hg5, hg6⟩
  · exact ⟨none, 0, by rw [h0], ⟨0, 0, .inl (Ts.len_zero h0), by rw [Ts.len_zero h0]; trivial⟩, ⟨by omega, by omega⟩, fun _ => rfl⟩
  obtain ⟨hc, _⟩ := row_cells hg2 hg6 (cellsL_length acc)
  exact ⟨_, cap, rfl, ⟨g, 0, .inr rfl, liesP_cells (hlt g rfl).1 hc (KidsP.stay (fun _ _ _ => rfl) (fun _ hb _ => hb.1) hk)⟩, ⟨hg3, by unfold maxLen at hg4; omega⟩, fun e => by cases e⟩

end Go.Proofs.YtnmhnaanpjlniaaGreat
/-
  Layer 3: bindings made one behind the other: what stands between two of them.
-/
namespace Go.Proofs.YtnmhnaanpjlniaaGreat
open Go.RowKit

theorem liesB_liesP {B : Nat} {w : World} : ∀ (ts : Ts) {b o : Nat}, ts.liesB B w b o → ts.liesP (B ≤ ·) w b o
  | .nil, _, _, _ => trivial
  | .cons _ _ _ _ _ kids rest, _, _, ⟨hb, h0, h1, h2, h3, ⟨b', o', h4, h5⟩, h6⟩ => ⟨hb, h0, h1, h2, h3, ⟨b', o', h4, liesB_liesP kids h5⟩, liesB_liesP rest h6⟩

theorem AtB_atP {B : Nat} {w : World} {p : Option Addr} {ts : Ts} (hat : Ts.AtB B w p ts) : Ts.AtP (B ≤ ·) w p ts := by
  obtain ⟨b, o, h1, h2⟩ := hat
  exact ⟨b, o, h1, liesB_liesP ts h2⟩

/-- blocks that are no row of bindings and not the substitution's own -/
def Off (row : Option Nat) (S : Nat) (b : Nat) : Prop := row ≠ some b ∧ b ≠ S

/-- a substitution lives on while a row of bindings grows -/
theorem SubAt.row {S : Nat} {σ : Sb} {n : Nat} {w w' : World} (h : SubAt S σ n w) {row : Option Nat} (hg : w.grownBy w' row) (hrow : ∀ g, row = some g → ∃ cur, w.heap[g]? = some (.cells cur 56 (0, 0)))
    (hap : ∀ v x, σ v = some x → Ts.AtP (Off row S) w x.p x.kids) : SubAt S σ n w' := by
  have keep : ∀ b o, w.heap[b]? = some o → (∀ cur, o ≠ Obj.cells cur 56 (0, 0)) → w'.heap[b]? = w.heap[b]? := fun b o ho hne => by
    refine hg.block b (Array.getElem?_eq_some_iff.1 ho).1 fun e => ?_
    obtain ⟨cur, hc⟩ := hrow b e.symm
    rw [ho] at hc
    cases hc
    exact hne cur rfl
  obtain ⟨p, hh, h1, h2, h3, h4⟩ := h.cells
  refine ⟨⟨p, hh, ?_, h2, h3.stay (Nat.le_refl _) fun b hb => ?_, h4⟩, h.ends, fun v x hx => ?_⟩
  · rw [keep _ _ h1 fun cur e => by injection e with _ e2 _; exact absurd e2 (by decide)]
    exact h1
  · rcases hb with ⟨ks, u, hb⟩ | ⟨es, k, hb⟩
    · exact keep _ _ hb fun cur e => by injection e with _ e2 _; exact absurd e2 (by decide)
    · exact keep _ _ hb fun cur e => by cases e
  · obtain ⟨g1, g2⟩ := h.at_ v x hx
    exact ⟨AtP_at ((hap v x hx).stay fun b hb hlt => hg.block b hlt fun e => hb.1 e.symm), g2⟩

/-- what stands between two bindings -/
structure MkIn (w : World) (j : Nat) (hv : Value) (had : List (Int × Nd)) (σ : Sb) (wr : World) : Prop where
  hl : had.length ≤ j
  own : wr.ownsRow w.heap.size 56 5 hv had.length (cellsB had)
  kids : KidsAt w (bsTs had)
  sub : SubAt w.heap.size σ had.length wr
  tw : STw σ (look had)
  sm : ∀ e ∈ had, e.2.ok ∧ e.2.kids.size ≤ 5000
  apart : ∀ v x, σ v = some x → Ts.AtP (Off hv.ownBlock w.heap.size) wr x.p x.kids
  B : Below w.heap.size w wr

/-- what stands when it has been bound, but not yet been put behind the others -/
structure MkMid (w : World) (hv : Value) (had : List (Int × Nd)) (v : Int) (t : Nd) (σ : Sb) (wr : World) : Prop where
  own : wr.ownsRow w.heap.size 56 5 hv had.length (cellsB had)
  sub : SubAt w.heap.size σ (had.length + 1) wr
  tw : STw σ (look (had ++ [(v, t)]))
  apart : ∀ v x, σ v = some x → Ts.AtP (Off hv.ownBlock w.heap.size) wr x.p x.kids
  B : Below w.heap.size w wr

theorem MkIn.ends {w : World} {j : Nat} {hv : Value} {had : List (Int × Nd)} {σ : Sb} {wr : World} (h : MkIn w j hv had σ wr) : Ends (look had) := h.tw.ends h.sub.ends

/-- the row of bindings, read -/
theorem row_read {w : World} {hv : Value} {had : List (Int × Nd)} {wr : World} (own : wr.ownsRow w.heap.size 56 5 hv had.length (cellsB had)) (kids : KidsAt w (bsTs had)) (B : Below w.heap.size w wr) : ∃ q c, hv = .slice q had.length c ∧ BsAt wr q had :=
  row_bs own (kids.below B)

theorem MkIn.same {w : World} {j : Nat} {hv : Value} {had : List (Int × Nd)} {σ : Sb} {wr wx : World} (h : MkIn w j hv had σ wr) (hB : Below wr.heap.size wr wx) : MkIn w j hv had σ wx :=
  ⟨h.hl, own_below h.own hB, h.kids, h.sub.below hB, h.tw, h.sm, fun v x hx => (h.apart v x hx).stay fun b _ hb => hB.block b hb, h.B.trans (hB.mono h.B.size)⟩

theorem MkIn.up {w : World} {j : Nat} {hv : Value} {had : List (Int × Nd)} {σ : Sb} {wr : World} (h : MkIn w j hv had σ wr) : MkIn w (j + 1) hv had σ wr := { h with hl := Nat.le_succ_of_le h.hl }

theorem MkMid.same {w : World} {hv : Value} {had : List (Int × Nd)} {v : Int} {t : Nd} {σ : Sb} {wr wx : World} (h : MkMid w hv had v t σ wr) (hB : Below wr.heap.size wr wx) : MkMid w hv had v t σ wx :=
  ⟨own_below h.own hB, h.sub.below hB, h.tw, fun v x hx => (h.apart v x hx).stay fun b _ hb => hB.block b hb, h.B.trans (hB.mono h.B.size)⟩

/-- the row's block -/
theorem own_block {w : World} {base n size : Nat} {e : TypeId} {v : Value} {xs : List Value} (h : w.ownsRow base e size v n xs) : ∀ g, v.ownBlock = some g → ∃ cur, w.heap[g]? = some (.cells cur e (0, 0)) := by
  intro g hg
  rcases h.2 with ⟨rfl, _⟩ | ⟨g', cap, cur, rfl, _, hg2, _⟩
  · cases hg
  · cases hg; exact ⟨cur, hg2⟩

/-- what a call of Bind leaves alone -/
theorem MkIn.kept {w : World} {j : Nat} {hv : Value} {had : List (Int × Nd)} {σ : Sb} {wr w3 : World} (h : MkIn w j hv had σ wr) (hg : wr.grownBy w3 (some w.heap.size)) :
    w3.ownsRow w.heap.size 56 5 hv had.length (cellsB had) ∧ Below w.heap.size w w3 := by
  refine ⟨h.own.kept hg ?_, h.B.grown hg h.B.size fun k hk => by cases hk; exact Nat.le_refl _⟩
  cases ho : hv.ownBlock with
  | none => exact .inl rfl
  | some g =>
    refine .inr fun e => ?_
    cases e
    obtain ⟨cur, h1⟩ := own_block h.own _ ho
    obtain ⟨p, hh, h2, _⟩ := h.sub.cells
    rw [h1] at h2
    injection h2 with h2
    injection h2 with _ e2 _
    exact absurd e2 (by decide)

theorem MkIn.bound {w : World} {j : Nat} {hv : Value} {had : List (Int × Nd)} {σ : Sb} {wr w3 : World} (h : MkIn w j hv had σ wr) {v : Int} {t : Nd} {e : Ending} (hb : Bound w.heap.size σ had.length wr v t e w3) (h0 : bindE σ v t = 0) (hn : look had v = none) : ∃ σ', MkMid w hv had v t σ' w3 := by
  obtain ⟨x, hx, hS, hat⟩ := hb.yes h0
  obtain ⟨k1, k2⟩ := h.kept hb.grown
  refine ⟨σ.put v x, k1, hS, h.tw.put hn hx, fun u y hy => ?_, k2⟩
  by_cases e : u = v
  · subst e
    rw [Sb.put_same] at hy
    cases hy
    refine AtP_imp (fun b _ hB => ⟨fun e => ?_, fun e => ?_⟩) (AtB_atP hat)
    · have := (h.own.lt b e).2; omega
    · have := h.sub.lt; omega
  · rw [Sb.put_other e] at hy
    exact (h.apart u y hy).stay fun b hb' hlt => hb.grown.block b hlt fun e => hb'.2 (by injection e)

theorem MkMid.push {w : World} {j : Nat} {hv v' : Value} {had : List (Int × Nd)} {v : Int} {t : Nd} {σ : Sb} {wr w' : World} (h : MkMid w hv had v t σ wr) (hl : had.length ≤ j) (hk : KidsAt w (bsTs had)) (hkt : Ts.At w t.p t.kids) (hsm : ∀ e ∈ had, e.2.ok ∧ e.2.kids.size ≤ 5000) (hst : t.ok ∧ t.kids.size ≤ 5000)
    (hown : w'.ownsRow w.heap.size 56 5 v' (had.length + 1) (cellsB had ++ cellsB [(v, t)])) (hg : wr.grownBy w' hv.ownBlock) (hob : v'.ownBlock = hv.ownBlock ∨ v'.ownBlock = some wr.heap.size) : MkIn w (j + 1) v' (had ++ [(v, t)]) σ w' := by
  have hlen : (had ++ [(v, t)]).length = had.length + 1 := by simp
  refine ⟨by rw [hlen]; omega, by rw [hlen, cellsB_app]; exact hown, by rw [bsTs_app]; exact hk.app ⟨hkt, trivial⟩, by rw [hlen]; exact h.sub.row hg (own_block h.own) h.apart, h.tw, fun e he => ?_, fun u x hx => ?_, h.B.grown hg h.B.size fun k hk' => (h.own.lt k hk').1⟩
  · rcases List.mem_append.1 he with he | he
    · exact hsm e he
    · simp at he; rw [he]; exact hst
  · refine AtP_imp (P := fun b => Off hv.ownBlock w.heap.size b ∧ b < wr.heap.size) (fun b _ hb => ?_) ((AtP_imp (fun b hlt hb => ⟨hb, hlt⟩) (h.apart u x hx)).stay fun b hb hlt => hg.block b hlt fun e => hb.1.1 e.symm)
    refine ⟨fun e => ?_, hb.1.2⟩
    rcases hob with ho | ho
    · rw [ho] at e; exact hb.1.1 e
    · rw [ho] at e; injection e with e; omega

end Go.Proofs.YtnmhnaanpjlniaaGreat
/-
  Layer 3: bindings made one behind the other, walked.
-/
namespace Go.Proofs.YtnmhnaanpjlniaaGreat
open Go.RowKit

def zeroB : Value := .agg #[.int .i64 0, .int .u8 0, .string ByteArray.empty, .int .i64 0, .slice none 0 0]
theorem infoB : (Tryz.prog.info? 56).map (fun i => (i.zero, i.size, i.bytes)) = some (some zeroB, 5, 64) := by kernel_rfl


theorem valOf_agg (o : Option Nd) : ∃ (k : Int) (s : ByteArray) (n : Int) (p : Option Addr) (L c : Nat), valOf o = .agg #[.int .u8 k, .string s, .int .i64 n, .slice p L c] := by
  cases o with
  | none => exact ⟨0, ⟨#[]⟩, 0, none, 0, 0, rfl⟩
  | some x => exact ⟨x.k, x.s, x.n, x.p, x.kids.len, x.c, rfl⟩

theorem bindE_zero {ρ : Sb} {v : Int} {t : Nd} (h : bindE ρ v t = 0) : ρ v = none := by
  unfold bindE at h
  by_cases h1 : v < 0
  · rw [if_pos h1] at h; omega
  · rw [if_neg h1] at h
    by_cases h2 : (ρ v).isSome = true
    · rw [if_pos h2] at h; omega
    · simpa using h2


end Go.Proofs.YtnmhnaanpjlniaaGreat
/-
  A law for a region that draws its order and in which one operation in the middle may write: those that it waits for leave facts that no growth of memory takes away; others, that nothing but the last one waits for, are known values at any time; the last one may write too.
-/
namespace Go.Proofs.YtnmhnaanpjlniaaGreat
open Go.RowKit

section
variable (P : Program) (ops : Array Oper) (Q : Exit → Act → World → Prop) (frame : (Nat → Value) → Act) (I : World → Prop) (F : Nat → Value → World → Prop) (J : Value → World → Prop) (m : Nat) (late : Nat → Option Value) (v0 : Value)

/-- one of those whose value is known -/
def KLate (c : Value) (o : Oper) : Prop :=
  ∀ (f : Nat → Value) (w : World), f (ops.size - 1) = v0 → ∀ K : Act → World → Prop, Hid (∀ a', a' = (frame f).put o.dst c → K a' w) →
    if Region.wanted o (yielded ops (frame f).tmps) = true then Oper.wp P o (frame f) w K Q else K ((frame f).put o.dst undef) w

/-- the one in the middle -/
def KMid (o : Oper) : Prop :=
  ∀ (f : Nat → Value) (w : World), f (ops.size - 1) = v0 → I w → (∀ j, j < ops.size - 1 → j ≠ m → late j = none → F j (f j) w) → ∀ K : Act → World → Prop, Hid (∀ v a' w', a' = (frame f).put o.dst v → J v w' → K a' w') →
    if Region.wanted o (yielded ops (frame f).tmps) = true then Oper.wp P o (frame f) w K Q else K ((frame f).put o.dst undef) w

/-- the last one -/
def KLast (i : Nat) (o : Oper) : Prop :=
  ∀ (f : Nat → Value) (w : World), f (ops.size - 1) = v0 → J (f m) w → (∀ j c, late j = some c → f j = c) → ∀ K : Act → World → Prop, Hid (∀ v a' w', a' = (frame f).put o.dst v → Q .normal (frame (upd f i v)) w' → K a' w') →
    if Region.wanted o (yielded ops (frame f).tmps) = true then Oper.wp P o (frame f) w K Q else K ((frame f).put o.dst undef) w

structure KStep (i : Nat) (o : Oper) : Prop where
  mid : i = m → KMid P ops Q frame I F J m late v0 o
  last : i + 1 = ops.size → KLast P ops Q frame J m late v0 i o
  lat : ∀ c, late i = some c → KLate P ops Q frame v0 c o
  early : i ≠ m → i + 1 ≠ ops.size → late i = none → RStepZ P ops Q frame I F v0 i o

def KSteps : List Oper → Nat → Prop
  | [], _ => True
  | o :: l, i => KStep P ops Q frame I F J m late v0 i o ∧ KSteps l (i + 1)
end

section
variable {P : Program} {ops : Array Oper} {Q : Exit → Act → World → Prop} {frame : (Nat → Value) → Act} {I : World → Prop} {F : Nat → Value → World → Prop} {J : Value → World → Prop} {m : Nat} {late : Nat → Option Value} {v0 : Value}


theorem KSteps.get : ∀ {l : List Oper} {k : Nat}, KSteps P ops Q frame I F J m late v0 l k → ∀ {i : Nat} {o : Oper}, l[i]? = some o → KStep P ops Q frame I F J m late v0 (k + i) o
  | [], _, _, _, _, h => by simp at h
  | _ :: _, _, h, 0, _, ho => by cases ho; exact h.1
  | _ :: l, k, h, i + 1, o, ho => by
    have := KSteps.get h.2 (i := i) (o := o) (by simpa using ho)
    rw [show k + (i + 1) = k + 1 + i from by omega]
    exact this
end




end Go.Proofs.YtnmhnaanpjlniaaGreat
/-
  Layer 3: the document's applied terms. (Written by gen_bc.py.)
-/
namespace Go.Proofs.YtnmhnaanpjlniaaGreat
open Go.RowKit


/-- a box whose list is being made -/
structure OutIs (T : Nat) (X : Nd) (rv : Value) (w : World) : Prop where
  c0 : w.cell? ⟨T, 0, none⟩ = some (.int .u8 X.k)
  c1 : w.cell? ⟨T, 1, none⟩ = some (.string X.s)
  c2 : w.cell? ⟨T, 2, none⟩ = some (.int .i64 X.n)
  c3 : w.cell? ⟨T, 3, none⟩ = some rv
  fr : ∀ i, w.frozen? ⟨T, i, none⟩ = false

theorem OutIs.of_block {T : Nat} {X : Nd} {rv : Value} {w w' : World} (h : OutIs T X rv w) (hb : w'.heap[T]? = w.heap[T]?) : OutIs T X rv w' :=
  ⟨(World.cell?_of_block (a := ⟨T, 0, none⟩) hb).trans h.c0, (World.cell?_of_block (a := ⟨T, 1, none⟩) hb).trans h.c1, (World.cell?_of_block (a := ⟨T, 2, none⟩) hb).trans h.c2, (World.cell?_of_block (a := ⟨T, 3, none⟩) hb).trans h.c3, fun i => (World.frozen?_of_block (a := ⟨T, i, none⟩) hb).trans (h.fr i)⟩

theorem OutIs.lt {T : Nat} {X : Nd} {rv : Value} {w : World} (h : OutIs T X rv w) : T < w.heap.size := World.block_lt_of_cell? _ _ h.c0

theorem OutIs.put {T : Nat} {X : Nd} {rv : Value} {w : World} (h : OutIs T X rv w) (v : Value) : OutIs T X v (w.setCell ⟨T, 3, none⟩ v) :=
  ⟨by rw [World.cell?_setCell_other _ _ _ _ (by simp)]; exact h.c0, by rw [World.cell?_setCell_other _ _ _ _ (by simp)]; exact h.c1, by rw [World.cell?_setCell_other _ _ _ _ (by simp)]; exact h.c2, World.cell?_setCell_same _ _ _ h.c3, fun i => by simp [h.fr i]⟩

/-- what is made of a term: its node, and its parts applied -/
def RApp (σ : Sb) (X : Nd) (B : Nat) (v : Value) (w : World) : Prop := ∃ us q c, v = tv X.k X.s X.n q us.len c ∧ Ts.AtP (fun b => B ≤ b) w q us ∧ App σ (elems X.kids) us ∧ us.ok ∧ (us.len ≤ c ∧ c ≤ 9223372036854775807) ∧ (q = none → c = 0)

/-- between two rounds -/
structure ApIn (σ : Sb) (X : Nd) (N T B : Nat) (w : World) (j nj : Nat) (rv : Value) (acc : Ts) (wr : World) : Prop where
  jl : j ≤ X.kids.len
  al : acc.len = j
  bx : BoxIs N X wr
  out : OutIs T X rv wr
  res : BoxIs (N + 1) ⟨0, ⟨#[]⟩, 0, none, 0, .nil⟩ wr
  own : OwnL B 25 rv acc wr
  app : ∀ rs, App σ (elems (X.kids.drop j)) rs → App σ (elems X.kids) (acc.app rs)
  cnt : Cnt σ (elems (X.kids.drop j)) nj
  ord : N + 1 < T ∧ T < B ∧ B ≤ wr.heap.size ∧ w.heap.size ≤ N
  B : Below w.heap.size w wr

theorem RApp.below {σ : Sb} {X : Nd} {B : Nat} {v : Value} {w w' : World} (h : RApp σ X B v w) (hB : Below w.heap.size w w') : RApp σ X B v w' := by
  obtain ⟨us, q, c, h1, h2, h3⟩ := h
  exact ⟨us, q, c, h1, h2.stay fun b _ hb => hB.block b hb, h3⟩
theorem RApp.mono {σ : Sb} {X : Nd} {B B' : Nat} {v : Value} {w : World} (h : RApp σ X B v w) (hBB : B' ≤ B) : RApp σ X B' v w := by
  obtain ⟨us, q, c, h1, h2, h3⟩ := h
  exact ⟨us, q, c, h1, AtP_imp (fun b _ hb => Nat.le_trans hBB hb) h2, h3⟩

/-- one term applied, in a row of its own -/
def One (σ : Sb) (t : Nd) (B : Nat) (v : Value) (w : World) : Prop := ∃ (R : Nat) (U : Ts), v = .slice (some ⟨R, 0, none⟩) U.len 1 ∧ U.len = 1 ∧ Ts.At w (some ⟨R, 0, none⟩) U ∧ U.ok ∧ KidsP (fun b => B ≤ b) w U ∧ App σ [t] U
theorem One.below {σ : Sb} {t : Nd} {B : Nat} {v : Value} {w w' : World} (h : One σ t B v w) (hB : Below w.heap.size w w') : One σ t B v w' := by
  obtain ⟨R, U, h1, h2, h3, h4, h5, h6⟩ := h
  exact ⟨R, U, h1, h2, h3.below hB, h4, KidsP.stay (fun b _ hb => hB.block b hb) (fun _ hb _ => hb) h5, h6⟩

theorem One.new {σ : Sb} {t : Nd} {B : Nat} {w : World} {k : Int} {s : ByteArray} {n : Int} {q : Option Addr} {c : Nat} {us : Ts} (e1 : k = (wk σ t).k) (e2 : s = (wk σ t).s) (e3 : n = (wk σ t).n) (hX : (wk σ t).ok) (hat : Ts.AtP (fun b => B ≤ b) w q us) (happ : App σ (elems (wk σ t).kids) us) (hok : us.ok) (hc : us.len ≤ c ∧ c ≤ 9223372036854775807) (hq : q = none → c = 0) :
    One σ t B (.slice (some ⟨w.heap.size, 0, none⟩) 1 1) (w.alloc (.cells #[.int .u8 k, .string s, .int .i64 n, .slice q us.len c] 25)) := by
  have hA := BoxIs.new w ⟨k, s, n, q, c, us⟩ 25
  have hB : Below w.heap.size w (w.alloc (.cells #[.int .u8 k, .string s, .int .i64 n, .slice q us.len c] 25)) := (Below.refl _ _).alloc (Nat.le_refl _) _
  subst e1 e2 e3
  refine ⟨w.heap.size, .cons (wk σ t).k (wk σ t).s (wk σ t).n q c us .nil, rfl, rfl, ⟨_, _, .inr rfl, hA.c0, hA.c1, hA.c2, hA.c3, (AtP_at hat).below hB, trivial⟩, ⟨hX.1, hX.2.1, hX.2.2.1, hc, hq, hok, trivial⟩, ⟨hat.stay fun b _ hb => hB.block b hb, trivial⟩, .cons happ .nil⟩

theorem OwnL.far {base : Nat} {e : TypeId} {v : Value} {acc : Ts} {w w' : World} (h : OwnL base e v acc w) (hb : ∀ b, base ≤ b → w'.heap[b]? = w.heap[b]?) : OwnL base e v acc w' := by
  refine ⟨⟨h.1.1, ?_⟩, h.2.1, KidsP.stay (fun b hp _ => hb b hp.1) (fun _ hb _ => hb) h.2.2⟩
  rcases h.1.2 with h | ⟨g, cap, cur, e1, hg, h2, h3⟩
  · exact .inl h
  · exact .inr ⟨g, cap, cur, e1, hg, (hb g hg).trans h2, h3⟩


theorem Cnt.inv {σ : Sb} {t : Nd} {rest : List Nd} {n : Nat} (h : Cnt σ (t :: rest) n) : ∃ a b, Cnt σ (elems (wk σ t).kids) a ∧ Cnt σ rest b ∧ n = a + b + 1 := by
  cases h with
  | cons h h' => exact ⟨_, _, h, h', rfl⟩


end Go.Proofs.YtnmhnaanpjlniaaGreat
/-
  Layer 3: plain facts for the law SubstTells.
-/
namespace Go.Proofs.YtnmhnaanpjlniaaGreat
open Go.RowKit

theorem App.tw {σ ρ : Sb} (h : STw σ ρ) (hE : Ends σ) {l : List Nd} {us : Ts} (ha : App σ l us) : ∀ {l' : List Nd} {vs : Ts}, TwL l l' → App ρ l' vs → Ts.twin us vs := by
  induction ha with
  | nil => intro l' vs hl hv; cases hl; cases hv; trivial
  | cons _ _ ih1 ih2 =>
    intro l' vs hl hv
    cases hl with
    | cons ht hl =>
      cases hv with
      | cons g1 g2 =>
        have hw := h.wk hE ht
        exact ⟨hw.1, hw.2.1, hw.2.2.1, ih1 (elems_tw hw.2.2.2) g1, ih2 hl g2⟩





end Go.Proofs.YtnmhnaanpjlniaaGreat
/-
  Terms made anew, node by node (put, shift): plain facts, and what stands between two rounds.
-/
namespace Go.Proofs.YtnmhnaanpjlniaaGreat
open Go.RowKit

/-- what becomes of a term, and of each term of a list -/
structure Mapper (f : Nd → Nd) (g : Ts → Ts) : Prop where
  nil : g .nil = .nil
  cons : ∀ k s n p c kids rest, g (.cons k s n p c kids rest) = .cons (f ⟨k, s, n, p, c, kids⟩).k (f ⟨k, s, n, p, c, kids⟩).s (f ⟨k, s, n, p, c, kids⟩).n (f ⟨k, s, n, p, c, kids⟩).p (f ⟨k, s, n, p, c, kids⟩).c (f ⟨k, s, n, p, c, kids⟩).kids (g rest)








/-- a list of its own; the parts of its elements lie there, or in blocks ahead of C -/
def OwnC (C base : Nat) (e : TypeId) (v : Value) (acc : Ts) (w : World) : Prop :=
  w.ownsRow base e 4 v acc.len (cellsL acc) ∧ acc.ok ∧ KidsP (fun b => (b < C ∨ base ≤ b) ∧ v.ownBlock ≠ some b) w acc

theorem OwnC.start (C base : Nat) (e : TypeId) (w : World) : OwnC C base e (.slice none 0 0) .nil w := ⟨World.ownsRow_nil _ _ _ _, trivial, trivial⟩

theorem OwnC.below {C base : Nat} {e : TypeId} {v : Value} {acc : Ts} {w w' : World} (h : OwnC C base e v acc w) (hB : Below w.heap.size w w') : OwnC C base e v acc w' :=
  ⟨h.1.kept (row := none) ⟨hB.os, hB.tape, hB.output, hB.size, fun k hk _ => hB.block k hk⟩ (by cases v.ownBlock <;> simp), h.2.1, KidsP.stay (fun b _ hl => hB.block b hl) (fun _ hb _ => hb) h.2.2⟩


theorem OwnC.read {C base : Nat} {e : TypeId} {v : Value} {acc : Ts} {w : World} (h : OwnC C base e v acc w) : ∃ q c, v = .slice q acc.len c ∧ Ts.AtP (fun b => b < C ∨ base ≤ b) w q acc ∧ (acc.len ≤ c ∧ c ≤ 9223372036854775807) ∧ (q = none → c = 0) := by
  obtain ⟨hrow, hok, hk⟩ := h
  have hlt := hrow.lt
  rcases hrow.2 with ⟨rfl, h0⟩ | ⟨g, cap, cur, rfl, hg1, hg2, hg3, hg4, hg5, hg6⟩
  · exact ⟨none, 0, by rw [h0], ⟨0, 0, .inl (Ts.len_zero h0), by rw [Ts.len_zero h0]; trivial⟩, ⟨by omega, by omega⟩, fun _ => rfl⟩
  obtain ⟨hc, _⟩ := row_cells hg2 hg6 (cellsL_length acc)
  exact ⟨_, cap, rfl, ⟨g, 0, .inr rfl, liesP_cells (.inr (hlt g rfl).1) hc (KidsP.stay (fun _ _ _ => rfl) (fun _ hb _ => hb.1) hk)⟩, ⟨hg3, by unfold maxLen at hg4; omega⟩, fun e => by cases e⟩

theorem OwnC.far {C base : Nat} {e : TypeId} {v : Value} {acc : Ts} {w w' : World} (h : OwnC C base e v acc w) (hb : ∀ b, (b < C ∨ base ≤ b) → w'.heap[b]? = w.heap[b]?) : OwnC C base e v acc w' := by
  refine ⟨⟨h.1.1, ?_⟩, h.2.1, KidsP.stay (fun b hp _ => hb b hp.1) (fun _ hb _ => hb) h.2.2⟩
  rcases h.1.2 with h | ⟨g, cap, cur, e1, hg, h2, h3⟩
  · exact .inl h
  · exact .inr ⟨g, cap, cur, e1, hg, (hb g (.inr hg)).trans h2, h3⟩

/-- what is made of a term -/
def MadeN (C : Nat) (Y : Nd) (B : Nat) (v : Value) (w : World) : Prop := ∃ us q c, v = tv Y.k Y.s Y.n q us.len c ∧ Ts.AtP (fun b => b < C ∨ B ≤ b) w q us ∧ Ts.twin us Y.kids ∧ us.ok ∧ (us.len ≤ c ∧ c ≤ 9223372036854775807) ∧ (q = none → c = 0)

theorem MadeN.below {C : Nat} {X : Nd} {B : Nat} {v : Value} {w w' : World} (h : MadeN C X B v w) (hB : Below w.heap.size w w') : MadeN C X B v w' := by
  obtain ⟨us, q, c, h1, h2, h3⟩ := h
  exact ⟨us, q, c, h1, h2.stay fun b _ hb => hB.block b hb, h3⟩
theorem MadeN.mono {C : Nat} {X : Nd} {B B' : Nat} {v : Value} {w : World} (h : MadeN C X B v w) (hBB : B' ≤ B) : MadeN C X B' v w := by
  obtain ⟨us, q, c, h1, h2, h3⟩ := h
  exact ⟨us, q, c, h1, AtP_imp (fun b _ hb => hb.imp id (Nat.le_trans hBB)) h2, h3⟩

/-- one that was made, in a row of its own -/
def OneN (C : Nat) (Y : Nd) (B : Nat) (v : Value) (w : World) : Prop := ∃ (R : Nat) (q : Option Addr) (c : Nat) (us : Ts), v = .slice (some ⟨R, 0, none⟩) 1 1 ∧ Ts.At w (some ⟨R, 0, none⟩) (.cons Y.k Y.s Y.n q c us .nil) ∧ Ts.ok (.cons Y.k Y.s Y.n q c us .nil) ∧ Ts.AtP (fun b => b < C ∨ B ≤ b) w q us ∧ Ts.twin us Y.kids

theorem OneN.below {C : Nat} {Y : Nd} {B : Nat} {v : Value} {w w' : World} (h : OneN C Y B v w) (hB : Below w.heap.size w w') : OneN C Y B v w' := by
  obtain ⟨R, q, c, us, h1, h2, h3, h4, h5⟩ := h
  exact ⟨R, q, c, us, h1, h2.below hB, h3, h4.stay (fun b _ hb => hB.block b hb), h5⟩

theorem OneN.new {C : Nat} {Y : Nd} {B : Nat} {w : World} {q : Option Addr} {c : Nat} {us : Ts} (hk : 0 ≤ Y.k ∧ Y.k ≤ 255) (hs : Y.s.size ≤ 140737488351232) (hn : -9223372036854775808 ≤ Y.n ∧ Y.n ≤ 9223372036854775807) (hat : Ts.AtP (fun b => b < C ∨ B ≤ b) w q us) (htw : Ts.twin us Y.kids) (hok : us.ok) (hc : us.len ≤ c ∧ c ≤ 9223372036854775807) (hq : q = none → c = 0) :
    OneN C Y B (.slice (some ⟨w.heap.size, 0, none⟩) 1 1) (w.alloc (.cells #[.int .u8 Y.k, .string Y.s, .int .i64 Y.n, .slice q us.len c] 25)) := by
  have hA := BoxIs.new w ⟨Y.k, Y.s, Y.n, q, c, us⟩ 25
  have hB : Below w.heap.size w (w.alloc (.cells #[.int .u8 Y.k, .string Y.s, .int .i64 Y.n, .slice q us.len c] 25)) := (Below.refl _ _).alloc (Nat.le_refl _) _
  exact ⟨w.heap.size, q, c, us, rfl, ⟨_, _, .inr rfl, hA.c0, hA.c1, hA.c2, hA.c3, (AtP_at hat).below hB, trivial⟩, ⟨hk, hs, hn, hc, hq, hok, trivial⟩, hat.stay fun b _ hb => hB.block b hb, htw⟩

/-- between two rounds -/
structure MpIn (g : Ts → Ts) (C : Nat) (X Y : Nd) (T B : Nat) (w W2 : World) (j : Nat) (rv : Value) (acc : Ts) (wr : World) : Prop where
  jl : j ≤ X.kids.len
  al : acc.len = j
  out : OutIs T Y rv wr
  own : OwnC C B 25 rv acc wr
  app : ∀ rs, Ts.twin rs (g (X.kids.drop j)) → Ts.twin (acc.app rs) (g X.kids)
  old : ∀ b, b < T → wr.heap[b]? = W2.heap[b]?
  sz : W2.heap.size ≤ wr.heap.size ∧ B ≤ wr.heap.size
  B : Below w.heap.size w wr


/-- a term and an empty one, boxed -/
theorem boxes2 {w W0 : World} {x : Nd} {t : TypeId} (h : W0 = (w.alloc (.cells #[.int .u8 x.k, .string x.s, .int .i64 x.n, .slice x.p x.kids.len x.c] t)).alloc (.cells #[.int .u8 0, .string ⟨#[]⟩, .int .i64 0, .slice none 0 0] t)) :
    BoxIs w.heap.size x W0 ∧ BoxIs (w.heap.size + 1) ⟨0, ⟨#[]⟩, 0, none, 0, .nil⟩ W0 ∧ W0.heap.size = w.heap.size + 2 ∧ Below w.heap.size w W0 := by
  subst h
  have h2 := BoxIs.new (w.alloc (.cells #[.int .u8 x.k, .string x.s, .int .i64 x.n, .slice x.p x.kids.len x.c] t)) ⟨0, ⟨#[]⟩, 0, none, 0, .nil⟩ t
  rw [World.size_alloc] at h2
  exact ⟨(BoxIs.new w x t).below ((Below.refl _ _).alloc (by simp) _), h2, by simp, below2 _ _ _⟩

end Go.Proofs.YtnmhnaanpjlniaaGreat
/-
  Layer 3: plain facts for the law SubstMore.
-/
namespace Go.Proofs.YtnmhnaanpjlniaaGreat
open Go.RowKit


theorem App.size {σ : Sb} {l : List Nd} {us : Ts} (h : App σ l us) : ∀ {n : Nat}, Cnt σ l n → us.size = n := by
  induction h with
  | nil => intro n h; cases h; rfl
  | cons _ _ ih ih' =>
    intro n h
    cases h with
    | cons h h' => simp only [Ts.size, ih h, ih' h']

/-- a term made by applying -/
structure Ap (σ : Sb) (t : Nd) (X : Nd) : Prop where
  k : X.k = (wk σ t).k
  s : X.s = (wk σ t).s
  n : X.n = (wk σ t).n
  app : App σ (elems (wk σ t).kids) X.kids
  ok : X.kids.ok
  cap : X.kids.len ≤ X.c ∧ X.c ≤ 9223372036854775807
  nn : X.p = none → X.c = 0
  sz : X.kids.size < 4096

theorem Applied.cases {σ : Sb} {t : Nd} {B : Nat} {e : Ending} {w' : World} (h : Applied σ t B e w') :
    ((vis σ 4097 [t]).length = 4097 ∧ e = .returned (.tuple #[.agg #[.int .u8 0, .string ⟨#[]⟩, .int .i64 0, .slice none 0 0], .int .i64 31])) ∨
    ((vis σ 4097 [t]).length ≤ 4096 ∧ ∃ X : Nd, e = .returned (.tuple #[.agg #[.int .u8 X.k, .string X.s, .int .i64 X.n, .slice X.p X.kids.len X.c], .int .i64 0]) ∧ Ap σ t X ∧ Ts.AtB B w' X.p X.kids) := by
  rcases h with ⟨h1, h2⟩ | ⟨h1, us, q, h2, h3, h4, h5, h6⟩
  · exact .inl ⟨h1, h2⟩
  · obtain ⟨n, b, hc, _, hn⟩ := Cnt.inv (vis_cnt (σ := σ) 4097 [t] (by omega))
    have hz := h4.size hc
    have hl := Ts.len_size us
    exact .inr ⟨h1, ⟨(wk σ t).k, (wk σ t).s, (wk σ t).n, q, us.len, us⟩, h2, ⟨rfl, rfl, rfl, h4, h5, ⟨Nat.le_refl _, by simp only; omega⟩, h6, by simp only; omega⟩, h3⟩

theorem Applied.some {σ : Sb} {t : Nd} {B : Nat} {e : Ending} {w' : World} (h : Applied σ t B e w') : ∃ (X : Nd) (G : Int), e = .returned (.tuple #[.agg #[.int .u8 X.k, .string X.s, .int .i64 X.n, .slice X.p X.kids.len X.c], .int .i64 G]) := by
  rcases h.cases with ⟨_, h⟩ | ⟨_, X, h, _⟩
  · exact ⟨⟨0, ⟨#[]⟩, 0, none, 0, .nil⟩, 31, h⟩
  · exact ⟨X, 0, h⟩

theorem Ap.nd_ok {σ : Sb} {t X : Nd} (h : Ap σ t X) (hw : (wk σ t).ok) : X.ok := ⟨by rw [h.k]; exact hw.1, by rw [h.s]; exact hw.2.1, by rw [h.n]; exact hw.2.2.1, h.cap, h.nn, h.ok, trivial⟩

theorem SubAt.wk_ok {S : Nat} {σ : Sb} {n : Nat} {w : World} (h : SubAt S σ n w) {t : Nd} (hok : t.ok) (hat : Ts.At w t.p t.kids) (hsz : t.kids.size ≤ 5000) : (wk σ t).ok := (h.walked ⟨hat, hok, hsz⟩).2.1

theorem SubAt.keeps {S : Nat} {σ : Sb} {n : Nat} {w w' : World} (h : SubAt S σ n w) (hg : w.grownBy w' (some S)) {p : Option Addr} {ts : Ts} (hat : Ts.At w p ts) : Ts.At w' p ts := by
  obtain ⟨q, hh, h1, _⟩ := h.cells
  exact hat.small hg h1 (by simp)

theorem BoxIs.keeps {B S : Nat} {x : Nd} {w w' : World} (h : BoxIs B x w) (hg : w.grownBy w' (some S)) (hne : B ≠ S) : BoxIs B x w' :=
  h.of_block (hg.block B h.lt (fun e => hne (by cases e; rfl)))


end Go.Proofs.YtnmhnaanpjlniaaGreat
/-
  Layer 3: plain facts for the law SubstIdem: what is applied has no bound variables, and each of them occurs.
-/
namespace Go.Proofs.YtnmhnaanpjlniaaGreat
open Go.RowKit

/-- no variable in it is bound -/
def FixT (σ : Sb) : Ts → Prop
  | .nil => True
  | .cons k _ n _ _ kids rest => ((k == 1) = false ∨ σ n = none) ∧ FixT σ kids ∧ FixT σ rest
def FixN (σ : Sb) (x : Nd) : Prop := ((x.k == 1) = false ∨ σ x.n = none) ∧ FixT σ x.kids
def FixL (σ : Sb) (l : List Nd) : Prop := ∀ x ∈ l, FixN σ x

theorem App.fix {σ : Sb} (hE : Ends σ) {l : List Nd} {us : Ts} (h : App σ l us) : FixT σ us := by
  induction h with
  | nil => trivial
  | @cons t _ _ _ _ _ _ _ ih ih' => exact ⟨(wk_spec hE t).ends, ih, ih'⟩

theorem FixT.elems {σ : Sb} : ∀ {ts : Ts}, FixT σ ts → FixL σ (elems ts)
  | .nil, _, x, hx => by simp [Go.Proofs.YtnmhnaanpjlniaaGreat.elems] at hx
  | .cons _ _ _ _ _ _ _, h, x, hx => by
    simp only [Go.Proofs.YtnmhnaanpjlniaaGreat.elems, List.mem_cons] at hx
    rcases hx with rfl | hx
    · exact ⟨h.1, h.2.1⟩
    · exact FixT.elems h.2.2 x hx

theorem FixL.app {σ : Sb} {l m : List Nd} (h : FixL σ l) (h' : FixL σ m) : FixL σ (l ++ m) := fun x hx => (List.mem_append.1 hx).elim (h x) (h' x)




theorem App.append {σ : Sb} {l m : List Nd} {us vs : Ts} (h : App σ l us) (h' : App σ m vs) : App σ (l ++ m) (us.app vs) := by
  induction h with
  | nil => exact h'
  | cons h1 _ _ ih => exact .cons h1 ih







/-- another substitution turns -/
theorem SubAt.apart {S S2 : Nat} {σ σ2 : Sb} {n n2 : Nat} {w w' : World} (h : SubAt S σ n w) (h2 : SubAt S2 σ2 n2 w) (hne : S ≠ S2) (hg : w.grownBy w' (some S2)) : SubAt S σ n w' := by
  obtain ⟨p, hh, h1, h3, h4, h5⟩ := h.cells
  obtain ⟨p2, hh2, g1, _⟩ := h2.cells
  exact ⟨⟨p, hh, (hg.block S h.lt (fun e => hne (by cases e; rfl))).trans h1, h3, h4.grown hg g1 (by simp), h5⟩, h.ends, fun v x hx => ⟨(h.at_ v x hx).1.small hg g1 (by simp), (h.at_ v x hx).2⟩⟩

/-- the term as it is applied, as a list -/
theorem Ap.list {σ : Sb} {t X : Nd} (h : Ap σ t X) : App σ [t] (.cons X.k X.s X.n X.p X.c X.kids .nil) := by
  rw [h.k, h.s, h.n]
  exact .cons h.app .nil


theorem Ap.same {σ : Sb} {t X Y : Nd} (h : Ap σ t X) (h2 : Ap σ t Y) : X.twin Y := ⟨by rw [h.k, h2.k], by rw [h.s, h2.s], by rw [h.n, h2.n], h.app.twin h2.app⟩


end Go.Proofs.YtnmhnaanpjlniaaGreat
/-
  Layer 13: what a term is worth: as a function, and its plain facts.
-/
namespace Go.Proofs.YtnmhnaanpjlniaaGreat
open Go.RowKit

/-- what an operation comes to -/
def opR : Nat → Int → Int → Int × Int
  | 0 => plusR | 1 => minusR | 2 => timesR | 3 => quotR | 4 => remR | 5 => modR | _ => minusR

/-- one operation, behind what its numbers come to -/
noncomputable def rkOp (rec : Nat → Nd → (Int × Int) × Nat) (r : Nat) : Option Nat → List Nd → (Int × Int) × Nat
  | some j, [a] => if (rec r a).1.2 ≠ 0 then ((0, (rec r a).1.2), (rec r a).2) else (opR j 0 (rec r a).1.1, (rec r a).2)
  | some j, [a, b] =>
    if (rec r a).1.2 ≠ 0 then ((0, (rec r a).1.2), (rec r a).2)
    else if (rec (rec r a).2 b).1.2 ≠ 0 then ((0, (rec (rec r a).2 b).1.2), (rec (rec r a).2 b).2)
    else (opR j (rec r a).1.1 (rec (rec r a).2 b).1.1, (rec (rec r a).2 b).2)
  | _, _ => ((0, 21), r)

/-- the operation of a structure -/
noncomputable def opOf (x : Nd) : Option Nat := if (x.k == 4) = true then opIdx (funKey x.s x.kids.len) else none

/-- the number, or the error; and how many nodes may still be walked to -/
noncomputable def rk (σ : Sb) : Nat → Nat → Nd → (Int × Int) × Nat
  | 0, _, _ => ((0, 31), 0)
  | f + 1, r, t =>
    if r = 0 then ((0, 31), 0)
    else if ((wk σ t).k == 1) = true then ((0, 20), r - 1)
    else if ((wk σ t).k == 2) = true then (((wk σ t).n, 0), r - 1)
    else rkOp (rk σ f) (r - 1) (opOf (wk σ t)) (elems (wk σ t).kids)

theorem rkOp_none (rec : Nat → Nd → (Int × Int) × Nat) (r : Nat) (l : List Nd) : rkOp rec r none l = ((0, 21), r) := by
  cases l with
  | nil => rfl
  | cons a l => cases l with
    | nil => rfl
    | cons b l => cases l <;> rfl

/-- in every way alike -/
inductive Rel2 (P : Nd → Nd → Prop) : List Nd → List Nd → Prop
  | nil : Rel2 P [] []
  | cons {x y : Nd} {l m : List Nd} (h : P x y) (h' : Rel2 P l m) : Rel2 P (x :: l) (y :: m)

theorem rkOp_congr {P : Nd → Nd → Prop} {rec rec' : Nat → Nd → (Int × Int) × Nat} {r : Nat} {o : Option Nat} {l m : List Nd} (hl : Rel2 P l m) (h : ∀ r x y, P x y → rec r x = rec' r y) : rkOp rec r o l = rkOp rec' r o m := by
  cases o with
  | none => rw [rkOp_none, rkOp_none]
  | some j =>
    cases hl with
    | nil => rfl
    | cons h1 hl =>
      cases hl with
      | nil => simp only [rkOp, h _ _ _ h1]
      | cons h2 hl =>
        cases hl with
        | nil => simp only [rkOp, h _ _ _ h1, h _ _ _ h2]
        | cons => rfl

theorem rel_tw {l m : List Nd} (h : TwL l m) : Rel2 Nd.twin l m := by
  induction h with
  | nil => exact .nil
  | cons h _ ih => exact .cons h ih

theorem rk_tw {σ ρ : Sb} (h : STw σ ρ) (hE : Ends σ) : ∀ (f r : Nat) {t t' : Nd}, t.twin t' → rk σ f r t = rk ρ f r t'
  | 0, _, _, _, _ => rfl
  | f + 1, r, t, t', ht => by
    have hw := h.wk hE ht
    have ho : opOf (wk σ t) = opOf (wk ρ t') := by unfold opOf; rw [hw.1, hw.2.1, Ts.twin_len _ _ hw.2.2.2]
    simp only [rk]
    rw [hw.1, hw.2.2.1, ho, rkOp_congr (rel_tw (elems_tw hw.2.2.2)) (fun r x y h' => rk_tw h hE f r h')]

/-- applied, or a part of what is -/
structure Apd (σ : Sb) (t X : Nd) : Prop where
  k : X.k = (wk σ t).k
  s : X.s = (wk σ t).s
  n : X.n = (wk σ t).n
  app : App σ (elems (wk σ t).kids) X.kids



theorem Apd.wk {σ : Sb} (hE : Ends σ) {t X : Nd} (h : Apd σ t X) : wk σ X = X := by
  by_cases hk : ((Go.Proofs.YtnmhnaanpjlniaaGreat.wk σ t).k == 1) = true
  · refine wk_stop (.inr ?_)
    rw [h.n]
    rcases (wk_spec hE t).ends with h1 | h1
    · rw [h1] at hk; cases hk
    · exact h1
  · exact wk_stop (.inl (by rw [h.k]; simpa using hk))


theorem rkOp_le {rec : Nat → Nd → (Int × Int) × Nat} (h : ∀ r x, (rec r x).2 ≤ r) (r : Nat) (o : Option Nat) (l : List Nd) : (rkOp rec r o l).2 ≤ r := by
  cases o with
  | none => rw [rkOp_none]; exact Nat.le_refl _
  | some j =>
    cases l with
    | nil => exact Nat.le_refl _
    | cons a l =>
      have h1 := h r a
      cases l with
      | nil => simp only [rkOp]; split <;> exact h1
      | cons b l =>
        have h2 := h (rec r a).2 b
        cases l with
        | nil =>
          simp only [rkOp]
          split
          · exact h1
          · split
            · simp only; omega
            · simp only; omega
        | cons => exact Nat.le_refl _

theorem rk_le (σ : Sb) : ∀ (f r : Nat) (t : Nd), (rk σ f r t).2 ≤ r - 1
  | 0, r, t => by simp [rk]
  | f + 1, r, t => by
    simp only [rk]
    split
    · simp
    · split
      · exact Nat.le_refl _
      · split
        · exact Nat.le_refl _
        · exact rkOp_le (fun r x => by have := rk_le σ f r x; omega) _ _ _




end Go.Proofs.YtnmhnaanpjlniaaGreat
