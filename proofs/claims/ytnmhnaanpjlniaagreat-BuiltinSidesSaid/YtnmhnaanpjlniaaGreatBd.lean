import Derived.Test.YtnmhnaanpjlniaaGreatWe0
import Derived.Test.YtnmhnaanpjlniaaGreatAm
import Derived.Test.YtnmhnaanpjlniaaGreatAt
/-
  Layer 3: bindings made one behind the other: what stands between two of them.
-/
namespace Go.Proofs.YtnmhnaanpjlniaaGreat
open Go.RowKit

theorem liesB_liesP {B : Nat} {w : World} : ∀ (ts : Ts) {b o : Nat}, ts.liesB B w b o → ts.liesP (B ≤ ·) w b o
  | .nil, _, _, _ => trivial
  | .cons _ _ _ _ _ kids rest, _, _, ⟨hb, h0, h1, h2, h3, ⟨b', o', h4, h5⟩, h6⟩ => ⟨hb, h0, h1, h2, h3, ⟨b', o', h4, liesB_liesP kids h5⟩, liesB_liesP rest h6⟩

theorem AtB_atP {B : Nat} {w : World} {p : Option Addr} {ts : Ts} (hat : Ts.AtB B w p ts) : Ts.AtP (B ≤ ·) w p ts := by
  obtain ⟨b, o, h1, h2⟩ := hat
  exact ⟨b, o, h1, liesB_liesP ts h2⟩

/-- blocks that are no row of bindings and not the substitution's own -/
def Off (row : Option Nat) (S : Nat) (b : Nat) : Prop := row ≠ some b ∧ b ≠ S

/-- a substitution lives on while a row of bindings grows -/
theorem SubAt.row {S : Nat} {σ : Sb} {n : Nat} {w w' : World} (h : SubAt S σ n w) {row : Option Nat} (hg : w.grownBy w' row) (hrow : ∀ g, row = some g → ∃ cur, w.heap[g]? = some (.cells cur 56 (0, 0)))
    (hap : ∀ v x, σ v = some x → Ts.AtP (Off row S) w x.p x.kids) : SubAt S σ n w' := by
  have keep : ∀ b o, w.heap[b]? = some o → (∀ cur, o ≠ Obj.cells cur 56 (0, 0)) → w'.heap[b]? = w.heap[b]? := fun b o ho hne => by
    refine hg.block b (Array.getElem?_eq_some_iff.1 ho).1 fun e => ?_
    obtain ⟨cur, hc⟩ := hrow b e.symm
    rw [ho] at hc
    cases hc
    exact hne cur rfl
  obtain ⟨p, hh, h1, h2, h3, h4⟩ := h.cells
  refine ⟨⟨p, hh, ?_, h2, h3.stay (Nat.le_refl _) fun b hb => ?_, h4⟩, h.ends, fun v x hx => ?_⟩
  · rw [keep _ _ h1 fun cur e => by injection e with _ e2 _; exact absurd e2 (by decide)]
    exact h1
  · rcases hb with ⟨ks, u, hb⟩ | ⟨es, k, hb⟩
    · exact keep _ _ hb fun cur e => by injection e with _ e2 _; exact absurd e2 (by decide)
    · exact keep _ _ hb fun cur e => by cases e
  · obtain ⟨g1, g2⟩ := h.at_ v x hx
    exact ⟨AtP_at ((hap v x hx).stay fun b hb hlt => hg.block b hlt fun e => hb.1 e.symm), g2⟩

/-- what stands between two bindings -/
structure MkIn (w : World) (j : Nat) (hv : Value) (had : List (Int × Nd)) (σ : Sb) (wr : World) : Prop where
  hl : had.length ≤ j
  own : wr.ownsRow w.heap.size 56 5 hv had.length (cellsB had)
  kids : KidsAt w (bsTs had)
  sub : SubAt w.heap.size σ had.length wr
  tw : STw σ (look had)
  sm : ∀ e ∈ had, e.2.ok ∧ e.2.kids.size ≤ 5000
  apart : ∀ v x, σ v = some x → Ts.AtP (Off hv.ownBlock w.heap.size) wr x.p x.kids
  B : Below w.heap.size w wr

/-- what stands when it has been bound, but not yet been put behind the others -/
structure MkMid (w : World) (hv : Value) (had : List (Int × Nd)) (v : Int) (t : Nd) (σ : Sb) (wr : World) : Prop where
  own : wr.ownsRow w.heap.size 56 5 hv had.length (cellsB had)
  sub : SubAt w.heap.size σ (had.length + 1) wr
  tw : STw σ (look (had ++ [(v, t)]))
  apart : ∀ v x, σ v = some x → Ts.AtP (Off hv.ownBlock w.heap.size) wr x.p x.kids
  B : Below w.heap.size w wr

theorem MkIn.ends {w : World} {j : Nat} {hv : Value} {had : List (Int × Nd)} {σ : Sb} {wr : World} (h : MkIn w j hv had σ wr) : Ends (look had) := h.tw.ends h.sub.ends

/-- the row of bindings, read -/
theorem row_read {w : World} {hv : Value} {had : List (Int × Nd)} {wr : World} (own : wr.ownsRow w.heap.size 56 5 hv had.length (cellsB had)) (kids : KidsAt w (bsTs had)) (B : Below w.heap.size w wr) : ∃ q c, hv = .slice q had.length c ∧ BsAt wr q had :=
  row_bs own (kids.below B)

theorem MkIn.same {w : World} {j : Nat} {hv : Value} {had : List (Int × Nd)} {σ : Sb} {wr wx : World} (h : MkIn w j hv had σ wr) (hB : Below wr.heap.size wr wx) : MkIn w j hv had σ wx :=
  ⟨h.hl, own_below h.own hB, h.kids, h.sub.below hB, h.tw, h.sm, fun v x hx => (h.apart v x hx).stay fun b _ hb => hB.block b hb, h.B.trans (hB.mono h.B.size)⟩

theorem MkIn.up {w : World} {j : Nat} {hv : Value} {had : List (Int × Nd)} {σ : Sb} {wr : World} (h : MkIn w j hv had σ wr) : MkIn w (j + 1) hv had σ wr := { h with hl := Nat.le_succ_of_le h.hl }

theorem MkMid.same {w : World} {hv : Value} {had : List (Int × Nd)} {v : Int} {t : Nd} {σ : Sb} {wr wx : World} (h : MkMid w hv had v t σ wr) (hB : Below wr.heap.size wr wx) : MkMid w hv had v t σ wx :=
  ⟨own_below h.own hB, h.sub.below hB, h.tw, fun v x hx => (h.apart v x hx).stay fun b _ hb => hB.block b hb, h.B.trans (hB.mono h.B.size)⟩

/-- the row's block -/
theorem own_block {w : World} {base n size : Nat} {e : TypeId} {v : Value} {xs : List Value} (h : w.ownsRow base e size v n xs) : ∀ g, v.ownBlock = some g → ∃ cur, w.heap[g]? = some (.cells cur e (0, 0)) := by
  intro g hg
  rcases h.2 with ⟨rfl, _⟩ | ⟨g', cap, cur, rfl, _, hg2, _⟩
  · cases hg
  · cases hg; exact ⟨cur, hg2⟩

/-- what a call of Bind leaves alone -/
theorem MkIn.kept {w : World} {j : Nat} {hv : Value} {had : List (Int × Nd)} {σ : Sb} {wr w3 : World} (h : MkIn w j hv had σ wr) (hg : wr.grownBy w3 (some w.heap.size)) :
    w3.ownsRow w.heap.size 56 5 hv had.length (cellsB had) ∧ Below w.heap.size w w3 := by
  refine ⟨h.own.kept hg ?_, h.B.grown hg h.B.size fun k hk => by cases hk; exact Nat.le_refl _⟩
  cases ho : hv.ownBlock with
  | none => exact .inl rfl
  | some g =>
    refine .inr fun e => ?_
    cases e
    obtain ⟨cur, h1⟩ := own_block h.own _ ho
    obtain ⟨p, hh, h2, _⟩ := h.sub.cells
    rw [h1] at h2
    injection h2 with h2
    injection h2 with _ e2 _
    exact absurd e2 (by decide)

theorem MkIn.bound {w : World} {j : Nat} {hv : Value} {had : List (Int × Nd)} {σ : Sb} {wr w3 : World} (h : MkIn w j hv had σ wr) {v : Int} {t : Nd} {e : Ending} (hb : Bound w.heap.size σ had.length wr v t e w3) (h0 : bindE σ v t = 0) (hn : look had v = none) : ∃ σ', MkMid w hv had v t σ' w3 := by
  obtain ⟨x, hx, hS, hat⟩ := hb.yes h0
  obtain ⟨k1, k2⟩ := h.kept hb.grown
  refine ⟨σ.put v x, k1, hS, h.tw.put hn hx, fun u y hy => ?_, k2⟩
  by_cases e : u = v
  · subst e
    rw [Sb.put_same] at hy
    cases hy
    refine AtP_imp (fun b _ hB => ⟨fun e => ?_, fun e => ?_⟩) (AtB_atP hat)
    · have := (h.own.lt b e).2; omega
    · have := h.sub.lt; omega
  · rw [Sb.put_other e] at hy
    exact (h.apart u y hy).stay fun b hb' hlt => hb.grown.block b hlt fun e => hb'.2 (by injection e)

theorem MkMid.push {w : World} {j : Nat} {hv v' : Value} {had : List (Int × Nd)} {v : Int} {t : Nd} {σ : Sb} {wr w' : World} (h : MkMid w hv had v t σ wr) (hl : had.length ≤ j) (hk : KidsAt w (bsTs had)) (hkt : Ts.At w t.p t.kids) (hsm : ∀ e ∈ had, e.2.ok ∧ e.2.kids.size ≤ 5000) (hst : t.ok ∧ t.kids.size ≤ 5000)
    (hown : w'.ownsRow w.heap.size 56 5 v' (had.length + 1) (cellsB had ++ cellsB [(v, t)])) (hg : wr.grownBy w' hv.ownBlock) (hob : v'.ownBlock = hv.ownBlock ∨ v'.ownBlock = some wr.heap.size) : MkIn w (j + 1) v' (had ++ [(v, t)]) σ w' := by
  have hlen : (had ++ [(v, t)]).length = had.length + 1 := by simp
  refine ⟨by rw [hlen]; omega, by rw [hlen, cellsB_app]; exact hown, by rw [bsTs_app]; exact hk.app ⟨hkt, trivial⟩, by rw [hlen]; exact h.sub.row hg (own_block h.own) h.apart, h.tw, fun e he => ?_, fun u x hx => ?_, h.B.grown hg h.B.size fun k hk' => (h.own.lt k hk').1⟩
  · rcases List.mem_append.1 he with he | he
    · exact hsm e he
    · simp at he; rw [he]; exact hst
  · refine AtP_imp (P := fun b => Off hv.ownBlock w.heap.size b ∧ b < wr.heap.size) (fun b _ hb => ?_) ((AtP_imp (fun b hlt hb => ⟨hb, hlt⟩) (h.apart u x hx)).stay fun b hb hlt => hg.block b hlt fun e => hb.1.1 e.symm)
    refine ⟨fun e => ?_, hb.1.2⟩
    rcases hob with ho | ho
    · rw [ho] at e; exact hb.1.1 e
    · rw [ho] at e; injection e with e; omega

end Go.Proofs.YtnmhnaanpjlniaaGreat
/-
  Layer 3: bindings made one behind the other, walked.
-/
namespace Go.Proofs.YtnmhnaanpjlniaaGreat
open Go.RowKit

def zeroB : Value := .agg #[.int .i64 0, .int .u8 0, .string ByteArray.empty, .int .i64 0, .slice none 0 0]
theorem infoB : (Tryz.prog.info? 56).map (fun i => (i.zero, i.size, i.bytes)) = some (some zeroB, 5, 64) := by kernel_rfl


theorem valOf_agg (o : Option Nd) : ∃ (k : Int) (s : ByteArray) (n : Int) (p : Option Addr) (L c : Nat), valOf o = .agg #[.int .u8 k, .string s, .int .i64 n, .slice p L c] := by
  cases o with
  | none => exact ⟨0, ⟨#[]⟩, 0, none, 0, 0, rfl⟩
  | some x => exact ⟨x.k, x.s, x.n, x.p, x.kids.len, x.c, rfl⟩

theorem bindE_zero {ρ : Sb} {v : Int} {t : Nd} (h : bindE ρ v t = 0) : ρ v = none := by
  unfold bindE at h
  by_cases h1 : v < 0
  · rw [if_pos h1] at h; omega
  · rw [if_neg h1] at h
    by_cases h2 : (ρ v).isSome = true
    · rw [if_pos h2] at h; omega
    · simpa using h2


end Go.Proofs.YtnmhnaanpjlniaaGreat
/-
  A law for a region that draws its order and in which one operation in the middle may write: those that it waits for leave facts that no growth of memory takes away; others, that nothing but the last one waits for, are known values at any time; the last one may write too.
-/
namespace Go.Proofs.YtnmhnaanpjlniaaGreat
open Go.RowKit

section
variable (P : Program) (ops : Array Oper) (Q : Exit → Act → World → Prop) (frame : (Nat → Value) → Act) (I : World → Prop) (F : Nat → Value → World → Prop) (J : Value → World → Prop) (m : Nat) (late : Nat → Option Value) (v0 : Value)

/-- one of those whose value is known -/
def KLate (c : Value) (o : Oper) : Prop :=
  ∀ (f : Nat → Value) (w : World), f (ops.size - 1) = v0 → ∀ K : Act → World → Prop, Hid (∀ a', a' = (frame f).put o.dst c → K a' w) →
    if Region.wanted o (yielded ops (frame f).tmps) = true then Oper.wp P o (frame f) w K Q else K ((frame f).put o.dst undef) w

/-- the one in the middle -/
def KMid (o : Oper) : Prop :=
  ∀ (f : Nat → Value) (w : World), f (ops.size - 1) = v0 → I w → (∀ j, j < ops.size - 1 → j ≠ m → late j = none → F j (f j) w) → ∀ K : Act → World → Prop, Hid (∀ v a' w', a' = (frame f).put o.dst v → J v w' → K a' w') →
    if Region.wanted o (yielded ops (frame f).tmps) = true then Oper.wp P o (frame f) w K Q else K ((frame f).put o.dst undef) w

/-- the last one -/
def KLast (i : Nat) (o : Oper) : Prop :=
  ∀ (f : Nat → Value) (w : World), f (ops.size - 1) = v0 → J (f m) w → (∀ j c, late j = some c → f j = c) → ∀ K : Act → World → Prop, Hid (∀ v a' w', a' = (frame f).put o.dst v → Q .normal (frame (upd f i v)) w' → K a' w') →
    if Region.wanted o (yielded ops (frame f).tmps) = true then Oper.wp P o (frame f) w K Q else K ((frame f).put o.dst undef) w

structure KStep (i : Nat) (o : Oper) : Prop where
  mid : i = m → KMid P ops Q frame I F J m late v0 o
  last : i + 1 = ops.size → KLast P ops Q frame J m late v0 i o
  lat : ∀ c, late i = some c → KLate P ops Q frame v0 c o
  early : i ≠ m → i + 1 ≠ ops.size → late i = none → RStepZ P ops Q frame I F v0 i o

def KSteps : List Oper → Nat → Prop
  | [], _ => True
  | o :: l, i => KStep P ops Q frame I F J m late v0 i o ∧ KSteps l (i + 1)
end

section
variable {P : Program} {ops : Array Oper} {Q : Exit → Act → World → Prop} {frame : (Nat → Value) → Act} {I : World → Prop} {F : Nat → Value → World → Prop} {J : Value → World → Prop} {m : Nat} {late : Nat → Option Value} {v0 : Value}

theorem KStep.of_early {i : Nat} {o : Oper} (h1 : i ≠ m) (h2 : i + 1 ≠ ops.size) (h3 : late i = none) (h : RStepZ P ops Q frame I F v0 i o) : KStep P ops Q frame I F J m late v0 i o :=
  ⟨fun e => absurd e h1, fun e => absurd e h2, (fun c e => by rw [h3] at e; cases e), fun _ _ _ => h⟩
theorem KStep.of_late {i : Nat} {o : Oper} {c : Value} (h1 : i ≠ m) (h2 : i + 1 ≠ ops.size) (h3 : late i = some c) (h : KLate P ops Q frame v0 c o) : KStep P ops Q frame I F J m late v0 i o :=
  ⟨fun e => absurd e h1, fun e => absurd e h2, (fun c' e => by rw [h3] at e; cases e; exact h), fun _ _ e => by rw [h3] at e; cases e⟩
theorem KStep.of_mid {i : Nat} {o : Oper} (h1 : i = m) (h2 : i + 1 ≠ ops.size) (h3 : late i = none) (h : KMid P ops Q frame I F J m late v0 o) : KStep P ops Q frame I F J m late v0 i o :=
  ⟨fun _ => h, fun e => absurd e h2, (fun c e => by rw [h3] at e; cases e), fun e => absurd h1 e⟩
theorem KStep.of_last {i : Nat} {o : Oper} (h1 : i ≠ m) (h2 : i + 1 = ops.size) (h3 : late i = none) (h : KLast P ops Q frame J m late v0 i o) : KStep P ops Q frame I F J m late v0 i o :=
  ⟨fun e => absurd e h1, fun _ => h, (fun c e => by rw [h3] at e; cases e), fun _ e => absurd h2 e⟩

theorem KSteps.get : ∀ {l : List Oper} {k : Nat}, KSteps P ops Q frame I F J m late v0 l k → ∀ {i : Nat} {o : Oper}, l[i]? = some o → KStep P ops Q frame I F J m late v0 (k + i) o
  | [], _, _, _, _, h => by simp at h
  | _ :: _, _, h, 0, _, ho => by cases ho; exact h.1
  | _ :: l, k, h, i + 1, o, ho => by
    have := KSteps.get h.2 (i := i) (o := o) (by simpa using ho)
    rw [show k + (i + 1) = k + 1 + i from by omega]
    exact this
end

/-- each early one is waited for by an early one or by the one in the middle; the last one waits for that and for the known ones -/
def sinkK (ops : Array Oper) (m : Nat) (late : Nat → Option Value) : Bool :=
  ((List.range (ops.size - 1)).all fun j => j == m || (late j).isSome || (List.range (ops.size - 1)).any fun k => decide (j < k) && ((late k).isNone && ((ops[k]?.map fun o => waitsOn o j).getD false) && decide (k ≤ m))) &&
  ((ops[ops.size - 1]?.map fun o => waitsOn o m && (List.range (ops.size - 1)).all fun j => (late j).isNone || waitsOn o j).getD false)

theorem sink_allK {ops : Array Oper} {m : Nat} {late : Nat → Option Value} (h : sinkK ops m late = true) {M : Nat → Bool} (hcl : ∀ (i : Nat) (o : Oper), ops[i]? = some o → (M i = true ∨ i = m) → ∀ j, waitsOn o j = true → M j = true) : ∀ (d j : Nat), j + d = ops.size - 1 → j < ops.size - 1 → j ≠ m → late j = none → M j = true := by
  intro d
  induction d using Nat.strongRecOn with
  | ind d ih =>
    intro j hj hlt hm hl
    simp only [sinkK, Bool.and_eq_true, List.all_eq_true, List.mem_range] at h
    have h1 := h.1 j hlt
    rw [hl] at h1
    simp only [Option.isSome_none, Bool.or_false, Bool.or_eq_true, beq_iff_eq, List.any_eq_true, List.mem_range, Bool.and_eq_true, decide_eq_true_eq] at h1
    rcases h1 with h1 | ⟨k, hk, hjk, ⟨hkl, hw⟩, hkm⟩
    · exact absurd h1 hm
    · cases ho : ops[k]? with
      | none => rw [ho] at hw; cases hw
      | some o =>
        rw [ho] at hw
        by_cases e : k = m
        · exact hcl k o ho (.inr e) j hw
        · exact hcl k o ho (.inl (ih (ops.size - 1 - k) (by omega) k (by omega) hk e (by simpa using hkl))) j hw

theorem region_facts_mid {P : Program} {ops : Array Oper} {Q : Exit → Act → World → Prop} {id : Nat} {a : Act} {w : World} (I : World → Prop) (L : List (Value → World → Prop)) (J : Value → World → Prop) (m : Nat) (late : Nat → Option Value) (hL : StableAll L) (hm : P.follows .mixedOrders = true) (hdag : dagB ops.toList 0 = true) (hap : apartB ops.toList = true) (hsink : sinkK ops m late = true) (v0 : Value) (hv0 : slotOf a ((ops[ops.size - 1]?).bind (·.dst)) = v0)
    (h0 : I w.drew) (hstep : KSteps P ops Q (frameOf a ops.toList 0) I (factOf L) J m late v0 ops.toList 0) (hml : m < ops.size - 1) (hlm : late m = none) (hll : ∀ j c, late j = some c → j < ops.size - 1) (hlf : ∀ j c, late j = some c → ∀ W, factOf L j c W) : (Code.region id ops true).wp P Q a w := by
  have hopt : ∀ {i : Nat} {o : Oper}, ops.toList[i]? = some o → ops[i]? = some o := fun h => by simpa using h
  obtain ⟨ol, hol⟩ : ∃ ol, ops[ops.size - 1]? = some ol := ⟨_, Array.getElem?_eq_getElem (by omega)⟩
  have hlast : waitsOn ol m = true ∧ ∀ j c, late j = some c → waitsOn ol j = true := by
    have h := hsink
    simp only [sinkK, Bool.and_eq_true] at h
    have h2 := h.2
    rw [hol] at h2
    simp only [Option.map_some, Option.getD_some, Bool.and_eq_true, List.all_eq_true, List.mem_range, Bool.or_eq_true] at h2
    refine ⟨h2.1, fun j c hj => ?_⟩
    rcases h2.2 j (hll j c hj) with h3 | h3
    · rw [hj] at h3; cases h3
    · exact h3
  let G : (Nat → Bool) → (Nat → Value) → World → Prop := fun M f W => (∀ (i : Nat) (o : Oper), ops[i]? = some o → M i = true → ∀ j, waitsOn o j = true → M j = true) ∧
    (M (ops.size - 1) = false → f (ops.size - 1) = v0) ∧ (∀ j c, late j = some c → M j = true → f j = c) ∧
    (M m = false → I W ∧ ∀ j, j < ops.size - 1 → j ≠ m → late j = none → M j = true → factOf L j (f j) W) ∧
    (M m = true → (∀ j, j < ops.size - 1 → j ≠ m → late j = none → M j = true) ∧ (M (ops.size - 1) = false → J (f m) W) ∧ (M (ops.size - 1) = true → Q .normal (frameOf a ops.toList 0 f) W))
  refine region_by_inv0 G hm hdag hap
    ⟨(fun _ _ _ h => by cases h), (fun _ => hv0), (fun _ _ _ h => by cases h), (fun _ => ⟨h0, (fun _ _ _ _ h => by cases h)⟩), (fun h => by cases h)⟩ ?_ (fun M f W hall hG => (hG.2.2.2.2 (hall _ (by omega))).2.2 (hall _ (by omega)))
  have build : ∀ (l : List Oper) (k : Nat), (∀ i o, l[i]? = some o → GStep P ops Q (frameOf a ops.toList 0) G (k + i) o) → GSteps P ops Q (frameOf a ops.toList 0) G l k := by
    intro l
    induction l with
    | nil => intro _ _; trivial
    | cons o l ih =>
      intro k h
      exact ⟨h 0 o rfl, ih (k + 1) fun i o' ho => by rw [show k + 1 + i = k + (i + 1) from by omega]; exact h (i + 1) o' (by simpa using ho)⟩
  refine build _ 0 fun i o ho => ?_
  rw [Nat.zero_add]
  have hi : i < ops.size := by have := (List.getElem?_eq_some_iff.1 ho).1; simpa using this
  have hg := KSteps.get hstep ho
  rw [Nat.zero_add] at hg
  intro M f W hMi hwait hG K hK
  have hdg : ∀ j, waitsOn o j = true → j < i := fun j hj => by
    simp only [waitsOn, Array.any_eq_true', Bool.and_eq_true, beq_iff_eq] at hj
    obtain ⟨e, he, hbe, rfl⟩ := hj
    have := dagB_get hdag ho e he hbe
    omega
  have hclosed : ∀ (i' : Nat) (o' : Oper), ops[i']? = some o' → updL M i i' = true → ∀ j, waitsOn o' j = true → updL M i j = true := by
    intro i' o' ho' hi' j hj
    simp only [updL] at hi' ⊢
    split
    · rfl
    · by_cases e : i' = i
      · subst e
        rw [hopt ho] at ho'
        cases ho'
        exact hwait j hj
      · rw [if_neg e] at hi'
        exact hG.1 i' o' ho' hi' j hj
  -- while the one in the middle is to come, the last one is
  have hfl : M m = false → M (ops.size - 1) = false := fun h => by
    cases hb : M (ops.size - 1) with
    | false => rfl
    | true => have := hG.1 _ _ hol hb _ hlast.1; rw [h] at this; cases this
  by_cases hil : i = ops.size - 1
  · have heq : o = ol := by
      have := hopt ho
      rw [hil, hol] at this
      cases this; rfl
    subst heq
    have hMm : M m = true := hwait _ hlast.1
    obtain ⟨h1, h2, h3⟩ := hG.2.2.2.2 hMm
    have hMl : M (ops.size - 1) = false := by rw [← hil]; exact hMi
    refine hg.last (by omega) f W (hG.2.1 hMl) (h2 hMl) (fun j c hj => hG.2.2.1 j c hj (hwait _ (hlast.2 j c hj))) K (Lib.hid fun v a' w' ha hq => hK.out v a' w' ha ⟨hclosed, fun h => ?_, fun j c hj h => ?_, fun h => ?_, fun _ => ⟨fun j hj hjm hjl => ?_, fun h => ?_, fun _ => hq⟩⟩)
    · simp only [updL] at h; rw [if_pos hil.symm] at h; cases h
    · have := hll j c hj
      simp only [updL] at h
      rw [if_neg (by omega)] at h
      simp only [upd]; rw [if_neg (by omega)]
      exact hG.2.2.1 j c hj h
    · simp only [updL] at h; rw [if_neg (by omega), hMm] at h; cases h
    · simp only [updL]; rw [if_neg (by omega)]; exact h1 j hj hjm hjl
    · simp only [updL] at h; rw [if_pos hil.symm] at h; cases h
  · by_cases him : i = m
    · have hMm : M m = false := by rw [← him]; exact hMi
      have hMl := hfl hMm
      have hall : ∀ j, j < ops.size - 1 → j ≠ m → late j = none → M j = true := fun j hj hjm hjl => sink_allK hsink (M := M) (fun i' o' ho' h j hj => by
        rcases h with h | h
        · exact hG.1 i' o' ho' h j hj
        · rw [h, ← him, hopt ho] at ho'
          cases ho'
          exact hwait j hj) (ops.size - 1 - j) j (by omega) hj hjm hjl
      obtain ⟨hI, hF⟩ := hG.2.2.2.1 hMm
      refine hg.mid him f W (hG.2.1 hMl) hI (fun j hj hjm hjl => hF j hj hjm hjl (hall j hj hjm hjl)) K (Lib.hid fun v a' w' ha hJ => hK.out v a' w' ha ⟨hclosed, fun _ => ?_, fun j c hj h => ?_, fun h => ?_, fun _ => ⟨fun j hj hjm hjl => ?_, fun _ => ?_, fun h => ?_⟩⟩)
      · simp only [upd]; rw [if_neg (by omega)]; exact hG.2.1 hMl
      · have hjm : j ≠ i := fun e => by rw [e, him, hlm] at hj; cases hj
        simp only [updL] at h; rw [if_neg hjm] at h
        simp only [upd]; rw [if_neg hjm]
        exact hG.2.2.1 j c hj h
      · simp only [updL] at h; rw [if_pos him.symm] at h; cases h
      · simp only [updL]; rw [if_neg (by omega)]; exact hall j hj hjm hjl
      · simp only [upd]; rw [if_pos him.symm]; exact hJ
      · simp only [updL] at h; rw [if_neg (by omega), hMl] at h; cases h
    · cases hlate : late i with
      | some c =>
        refine hg.lat c hlate f W (hG.2.1 ?_) K (Lib.hid fun a' ha => hK.out c a' W ha ⟨hclosed, fun h => ?_, fun j c' hj h => ?_, fun h => ?_, fun h => ⟨fun j hj hjm hjl => ?_, fun h' => ?_, fun h' => ?_⟩⟩)
        · cases hb : M (ops.size - 1) with
          | false => rfl
          | true => have := hG.1 _ _ hol hb _ (hlast.2 i c hlate); rw [hMi] at this; cases this
        · simp only [updL] at h; rw [if_neg (by omega)] at h
          simp only [upd]; rw [if_neg (by omega)]; exact hG.2.1 h
        · by_cases e : j = i
          · subst e; rw [hlate] at hj; cases hj; simp [upd]
          · simp only [updL] at h; rw [if_neg e] at h
            simp only [upd]; rw [if_neg e]; exact hG.2.2.1 j c' hj h
        · simp only [updL] at h; rw [if_neg (by omega)] at h
          obtain ⟨hI, hF⟩ := hG.2.2.2.1 h
          refine ⟨hI, fun j hj hjm hjl hjt => ?_⟩
          have hji : j ≠ i := fun e => by rw [e, hlate] at hjl; cases hjl
          simp only [updL] at hjt; rw [if_neg hji] at hjt
          simp only [upd]; rw [if_neg hji]; exact hF j hj hjm hjl hjt
        · simp only [updL] at h; rw [if_neg (by omega)] at h
          have hji : j ≠ i := fun e => by rw [e, hlate] at hjl; cases hjl
          simp only [updL]; rw [if_neg hji]; exact (hG.2.2.2.2 h).1 j hj hjm hjl
        · simp only [updL] at h h'; rw [if_neg (by omega)] at h h'
          simp only [upd]; rw [if_neg (by omega)]; exact (hG.2.2.2.2 h).2.1 h'
        · exfalso
          simp only [updL] at h'; rw [if_neg (by omega)] at h'
          have := hG.1 _ _ hol h' _ (hlast.2 i c hlate); rw [hMi] at this; cases this
      | none =>
        have hMm : M m = false := by
          cases hb : M m with
          | false => rfl
          | true => have := (hG.2.2.2.2 hb).1 i (by omega) him hlate; rw [hMi] at this; cases this
        have hMl := hfl hMm
        obtain ⟨hI, hF⟩ := hG.2.2.2.1 hMm
        refine hg.early him (by omega) hlate f W (hG.2.1 hMl) hI (fun j hj => ?_) K (Lib.hid fun v a' w' ha hI' hB hf => hK.out v a' w' ha ⟨hclosed, fun _ => ?_, fun j c hj h => ?_, fun _ => ⟨hI', fun j hj hjm hjl hjt => ?_⟩, fun h => ?_⟩)
        · have hMj := hwait j hj
          have := hdg j hj
          cases hlj : late j with
          | some c => rw [hG.2.2.1 j c hlj hMj]; exact hlf j c hlj W
          | none => exact hF j (by omega) (fun e => by rw [e, hMm] at hMj; cases hMj) hlj hMj
        · simp only [upd]; rw [if_neg (by omega)]; exact hG.2.1 hMl
        · have hji : j ≠ i := fun e => by rw [e, hlate] at hj; cases hj
          simp only [updL] at h; rw [if_neg hji] at h
          simp only [upd]; rw [if_neg hji]; exact hG.2.2.1 j c hj h
        · simp only [updL, upd] at hjt ⊢
          by_cases e : j = i
          · subst e; rw [if_pos rfl]; exact hf
          · rw [if_neg e] at hjt ⊢
            exact factOf_stable hL j _ _ _ (hF j hj hjm hjl hjt) hB
        · simp only [updL] at h; rw [if_neg (by omega), hMm] at h; cases h

end Go.Proofs.YtnmhnaanpjlniaaGreat
/-
  Layer 3: the document's applied terms. (Written by gen_bc.py.)
-/
namespace Go.Proofs.YtnmhnaanpjlniaaGreat
open Go.RowKit

theorem OwnL.push0 {base m : Nat} {e : TypeId} {v v' : Value} {acc U : Ts} {W W7 : World} (h : OwnL base e v acc W) (hown : W7.ownsRow base e 4 v' (acc.len + U.len) (cellsL acc ++ cellsL U))
    (hg : W.grownBy W7 v.ownBlock) (hob : v'.ownBlock = v.ownBlock ∨ v'.ownBlock = some W.heap.size) (hUok : U.ok) (hk : KidsP (fun b => m ≤ b) W U) (hm : base ≤ m) (hgm : ∀ q, v.ownBlock = some q → q < m) : OwnL base e v' (acc.app U) W7 := by
  obtain ⟨h1, h2, h3⟩ := h
  have hk' : KidsP (fun b => base ≤ b ∧ v.ownBlock ≠ some b) W U := KidsP.stay (fun _ _ _ => rfl) (fun b hb _ => ⟨by omega, fun e => by have := hgm b e; omega⟩) hk
  refine ⟨by rw [app_len, cellsL_app]; exact hown, app_ok h2 hUok, KidsP.stay (w := W) (fun b hb hlt => ?_) (fun b hb hlt => ?_) (KidsP.app h3 hk')⟩
  · exact hg.block b hlt (fun e => hb.2 e.symm)
  · refine ⟨hb.1, ?_⟩
    rcases hob with e | e
    · rw [e]; exact hb.2
    · rw [e]
      intro e2
      have e3 := Option.some.inj e2
      omega

/-- a box whose list is being made -/
structure OutIs (T : Nat) (X : Nd) (rv : Value) (w : World) : Prop where
  c0 : w.cell? ⟨T, 0, none⟩ = some (.int .u8 X.k)
  c1 : w.cell? ⟨T, 1, none⟩ = some (.string X.s)
  c2 : w.cell? ⟨T, 2, none⟩ = some (.int .i64 X.n)
  c3 : w.cell? ⟨T, 3, none⟩ = some rv
  fr : ∀ i, w.frozen? ⟨T, i, none⟩ = false

theorem OutIs.of_block {T : Nat} {X : Nd} {rv : Value} {w w' : World} (h : OutIs T X rv w) (hb : w'.heap[T]? = w.heap[T]?) : OutIs T X rv w' :=
  ⟨(World.cell?_of_block (a := ⟨T, 0, none⟩) hb).trans h.c0, (World.cell?_of_block (a := ⟨T, 1, none⟩) hb).trans h.c1, (World.cell?_of_block (a := ⟨T, 2, none⟩) hb).trans h.c2, (World.cell?_of_block (a := ⟨T, 3, none⟩) hb).trans h.c3, fun i => (World.frozen?_of_block (a := ⟨T, i, none⟩) hb).trans (h.fr i)⟩

theorem OutIs.lt {T : Nat} {X : Nd} {rv : Value} {w : World} (h : OutIs T X rv w) : T < w.heap.size := World.block_lt_of_cell? _ _ h.c0

theorem OutIs.put {T : Nat} {X : Nd} {rv : Value} {w : World} (h : OutIs T X rv w) (v : Value) : OutIs T X v (w.setCell ⟨T, 3, none⟩ v) :=
  ⟨by rw [World.cell?_setCell_other _ _ _ _ (by simp)]; exact h.c0, by rw [World.cell?_setCell_other _ _ _ _ (by simp)]; exact h.c1, by rw [World.cell?_setCell_other _ _ _ _ (by simp)]; exact h.c2, World.cell?_setCell_same _ _ _ h.c3, fun i => by simp [h.fr i]⟩

/-- what is made of a term: its node, and its parts applied -/
def RApp (σ : Sb) (X : Nd) (B : Nat) (v : Value) (w : World) : Prop := ∃ us q c, v = tv X.k X.s X.n q us.len c ∧ Ts.AtP (fun b => B ≤ b) w q us ∧ App σ (elems X.kids) us ∧ us.ok ∧ (us.len ≤ c ∧ c ≤ 9223372036854775807) ∧ (q = none → c = 0)

/-- between two rounds -/
structure ApIn (σ : Sb) (X : Nd) (N T B : Nat) (w : World) (j nj : Nat) (rv : Value) (acc : Ts) (wr : World) : Prop where
  jl : j ≤ X.kids.len
  al : acc.len = j
  bx : BoxIs N X wr
  out : OutIs T X rv wr
  res : BoxIs (N + 1) ⟨0, ⟨#[]⟩, 0, none, 0, .nil⟩ wr
  own : OwnL B 25 rv acc wr
  app : ∀ rs, App σ (elems (X.kids.drop j)) rs → App σ (elems X.kids) (acc.app rs)
  cnt : Cnt σ (elems (X.kids.drop j)) nj
  ord : N + 1 < T ∧ T < B ∧ B ≤ wr.heap.size ∧ w.heap.size ≤ N
  B : Below w.heap.size w wr

theorem RApp.below {σ : Sb} {X : Nd} {B : Nat} {v : Value} {w w' : World} (h : RApp σ X B v w) (hB : Below w.heap.size w w') : RApp σ X B v w' := by
  obtain ⟨us, q, c, h1, h2, h3⟩ := h
  exact ⟨us, q, c, h1, h2.stay fun b _ hb => hB.block b hb, h3⟩
theorem RApp.mono {σ : Sb} {X : Nd} {B B' : Nat} {v : Value} {w : World} (h : RApp σ X B v w) (hBB : B' ≤ B) : RApp σ X B' v w := by
  obtain ⟨us, q, c, h1, h2, h3⟩ := h
  exact ⟨us, q, c, h1, AtP_imp (fun b _ hb => Nat.le_trans hBB hb) h2, h3⟩

/-- one term applied, in a row of its own -/
def One (σ : Sb) (t : Nd) (B : Nat) (v : Value) (w : World) : Prop := ∃ (R : Nat) (U : Ts), v = .slice (some ⟨R, 0, none⟩) U.len 1 ∧ U.len = 1 ∧ Ts.At w (some ⟨R, 0, none⟩) U ∧ U.ok ∧ KidsP (fun b => B ≤ b) w U ∧ App σ [t] U
theorem One.below {σ : Sb} {t : Nd} {B : Nat} {v : Value} {w w' : World} (h : One σ t B v w) (hB : Below w.heap.size w w') : One σ t B v w' := by
  obtain ⟨R, U, h1, h2, h3, h4, h5, h6⟩ := h
  exact ⟨R, U, h1, h2, h3.below hB, h4, KidsP.stay (fun b _ hb => hB.block b hb) (fun _ hb _ => hb) h5, h6⟩

theorem One.new {σ : Sb} {t : Nd} {B : Nat} {w : World} {k : Int} {s : ByteArray} {n : Int} {q : Option Addr} {c : Nat} {us : Ts} (e1 : k = (wk σ t).k) (e2 : s = (wk σ t).s) (e3 : n = (wk σ t).n) (hX : (wk σ t).ok) (hat : Ts.AtP (fun b => B ≤ b) w q us) (happ : App σ (elems (wk σ t).kids) us) (hok : us.ok) (hc : us.len ≤ c ∧ c ≤ 9223372036854775807) (hq : q = none → c = 0) :
    One σ t B (.slice (some ⟨w.heap.size, 0, none⟩) 1 1) (w.alloc (.cells #[.int .u8 k, .string s, .int .i64 n, .slice q us.len c] 25)) := by
  have hA := BoxIs.new w ⟨k, s, n, q, c, us⟩ 25
  have hB : Below w.heap.size w (w.alloc (.cells #[.int .u8 k, .string s, .int .i64 n, .slice q us.len c] 25)) := (Below.refl _ _).alloc (Nat.le_refl _) _
  subst e1 e2 e3
  refine ⟨w.heap.size, .cons (wk σ t).k (wk σ t).s (wk σ t).n q c us .nil, rfl, rfl, ⟨_, _, .inr rfl, hA.c0, hA.c1, hA.c2, hA.c3, (AtP_at hat).below hB, trivial⟩, ⟨hX.1, hX.2.1, hX.2.2.1, hc, hq, hok, trivial⟩, ⟨hat.stay fun b _ hb => hB.block b hb, trivial⟩, .cons happ .nil⟩

theorem OwnL.far {base : Nat} {e : TypeId} {v : Value} {acc : Ts} {w w' : World} (h : OwnL base e v acc w) (hb : ∀ b, base ≤ b → w'.heap[b]? = w.heap[b]?) : OwnL base e v acc w' := by
  refine ⟨⟨h.1.1, ?_⟩, h.2.1, KidsP.stay (fun b hp _ => hb b hp.1) (fun _ hb _ => hb) h.2.2⟩
  rcases h.1.2 with h | ⟨g, cap, cur, e1, hg, h2, h3⟩
  · exact .inl h
  · exact .inr ⟨g, cap, cur, e1, hg, (hb g hg).trans h2, h3⟩

theorem App.one_app {σ : Sb} {t : Nd} {rest : List Nd} {U rs : Ts} (h : App σ [t] U) (h' : App σ rest rs) : App σ (t :: rest) (U.app rs) := by
  cases h with
  | cons h1 h2 => cases h2; exact .cons h1 h'

theorem Cnt.inv {σ : Sb} {t : Nd} {rest : List Nd} {n : Nat} (h : Cnt σ (t :: rest) n) : ∃ a b, Cnt σ (elems (wk σ t).kids) a ∧ Cnt σ rest b ∧ n = a + b + 1 := by
  cases h with
  | cons h h' => exact ⟨_, _, h, h', rfl⟩

set_option maxRecDepth 100000 in
set_option maxHeartbeats 16000000 in
theorem rapply_any (l : List (Int × Nd)) (hl : l.length ≤ 1000000) (hE : Ends (look l)) (hS : Small (look l)) : ∀ (n : Nat) (t : Nd), Cnt (look l) (elems (wk (look l) t).kids) n → n ≤ 4096 → t.ok → t.kids.size ≤ 5000 → ∀ (w : World) (lp : Option Addr) (lc : Nat), BsAt w lp l → Ts.At w t.p t.kids →
    Calls Tryz.prog 30 #[.slice lp l.length lc, .agg #[.int .u8 t.k, .string t.s, .int .i64 t.n, .slice t.p t.kids.len t.c]] w fun e w' => ∃ v, e = .returned v ∧ RApp (look l) (wk (look l) t) w.heap.size v w' ∧ Below w.heap.size w w' := by
  intro n
  induction n using Nat.strongRecOn with
  | ind n ih =>
  intro t hcnt hn hok hsz w lp lc hat htat
  have HE := Lib.hid hE
  have HSM := Lib.hid hS
  have AT := Lib.hid hat
  have hxw := fun (w' : World) (hB : Below w.heap.size w w') => walked_lies hE hS (hat.below hB) hok hsz (htat.below hB)
  obtain ⟨X, hX⟩ : ∃ X, X = wk (look l) t := ⟨_, rfl⟩
  rw [← hX] at hcnt hxw ⊢
  have HX := Lib.hid hX
  have XW := Lib.hid hxw
  have CNT := Lib.hid hcnt
  have hXs := (hxw w (Below.refl _ _)).2.1
  have hXl : X.kids.len ≤ 5000 := Nat.le_trans (Ts.len_size _) hXs
  clear hE hS hat hX hxw hcnt
  obtain ⟨tk, ts, tn, tp, tc, tks⟩ := t
  go_enter Tryz.func30, Tryz.ntmps30
  go_wp2_with fail
  obtain ⟨W0, hW0⟩ : ∃ W0, W0 = (w.alloc (.cells #[.int .u8 tk, .string ts, .int .i64 tn, .slice tp tks.len tc] 25)).alloc (.cells #[.int .u8 0, .string ⟨#[]⟩, .int .i64 0, .slice none 0 0] 25) := ⟨_, rfl⟩
  rw [← hW0]
  have hB0 : Below w.heap.size w W0 := by rw [hW0]; exact below2 _ _ _
  have hX0 : BoxIs w.heap.size ⟨tk, ts, tn, tp, tc, tks⟩ W0 := by rw [hW0]; exact (BoxIs.new w ⟨tk, ts, tn, tp, tc, tks⟩ _).below ((Below.refl _ _).alloc (Nat.le_refl _) _)
  have hY0 : BoxIs (w.heap.size + 1) ⟨0, ⟨#[]⟩, 0, none, 0, .nil⟩ W0 := by
    have := BoxIs.new (w.alloc (.cells #[.int .u8 tk, .string ts, .int .i64 tn, .slice tp tks.len tc] 25)) ⟨0, ⟨#[]⟩, 0, none, 0, .nil⟩ 25
    rw [World.size_alloc] at this
    rw [hW0]; exact this
  have B0 := Lib.hid hB0
  have X0 := Lib.hid hX0
  have Y0 := Lib.hid hY0
  clear hW0 hB0 hX0 hY0
  refine (rwalk_any l hl HE.out W0 lp lc (AT.out.below B0.out) tk ts tn tp tks tc).mono ?_
  rintro e w1 ⟨rfl, hB1⟩
  rw [← HX.out]
  replace X0 := Lib.hid (X0.out.below hB1)
  replace Y0 := Lib.hid (Y0.out.below hB1)
  replace B0 := Lib.hid (B0.out.trans (hB1.mono B0.out.size))
  clear hB1
  unfold Nd.val
  have c0 := X0.out.c0
  have c1 := X0.out.c1
  have c2 := X0.out.c2
  have c3 := X0.out.c3
  have f0 := X0.out.fr
  simp only at c0 c1 c2 c3
  have hlt1 : w.heap.size + 1 < w1.heap.size := Y0.out.lt
  go_upto_region 2 with fail
  obtain ⟨W1, hW1⟩ : ∃ W1, W1 = (((w1.setCell ⟨w.heap.size, 0, none⟩ (.int .u8 X.k)).setCell ⟨w.heap.size, 1, none⟩ (.string X.s)).setCell ⟨w.heap.size, 2, none⟩ (.int .i64 X.n)).setCell ⟨w.heap.size, 3, none⟩ (.slice X.p X.kids.len X.c) := ⟨_, rfl⟩
  have hX1 : BoxIs w.heap.size X W1 := by rw [hW1]; exact X0.out.put (y := X)
  have hY1 : BoxIs (w.heap.size + 1) ⟨0, ⟨#[]⟩, 0, none, 0, .nil⟩ W1 := Y0.out.of_block (by
    rw [hW1, Below.heap_setCell _ _ _ _ (by simp), Below.heap_setCell _ _ _ _ (by simp), Below.heap_setCell _ _ _ _ (by simp), Below.heap_setCell _ _ _ _ (by simp)])
  have hB1 : Below w.heap.size w W1 := by rw [hW1]; exact below_put4 B0.out (Nat.le_refl _) _ _ _ _
  have hs1 : W1.heap.size = w1.heap.size := by rw [hW1]; simp
  rw [← hW1]
  have Z1 := Lib.hid hW1
  clear hW1 X0 Y0 B0 c0 c1 c2 c3 f0
  have c0 := hX1.c0
  have c1 := hX1.c1
  have c2 := hX1.c2
  have c3 := hX1.c3
  go_upto_region 4 with fail
  obtain ⟨T, hT⟩ : ∃ T, T = w1.heap.size := ⟨_, rfl⟩
  rw [← hT] at hs1 hlt1
  obtain ⟨W2, hW2, hs2, hB2, hc2, hf2⟩ := alloc_new W1 #[.int .u8 X.k, .string X.s, .int .i64 X.n, .slice none 0 0] 25
  rw [hs1] at hs2 hc2 hf2
  have hIn : ApIn (look l) X w.heap.size T (T + 1) w 0 n (.slice none 0 0) .nil W2 :=
    ⟨Nat.zero_le _, rfl, hX1.below (by rw [← hs1] at *; exact hB2), ⟨hc2 0 _ rfl, hc2 1 _ rfl, hc2 2 _ rfl, hc2 3 _ rfl, hf2⟩, hY1.below hB2, OwnL.start _ _ _, (fun rs h => h), CNT.out, ⟨hlt1, by omega, by omega, Nat.le_refl _⟩, hB1.trans (hB2.mono hB1.size)⟩
  have IN := Lib.hid hIn
  have Z2 := Lib.hid hW2
  have TT := Lib.hid hT
  clear hIn hc2 hf2 hB2 hX1 hY1 hB1 c0 c1 c2 c3 hW2
  rw [← hT, ← Z2.out]
  clear hT
  go_wp2_with fail
  go_loopw [6] (fun s6 wr => ∃ (j nj : Nat) (rv : Value) (acc : Ts), s6 = .int .i64 j ∧ nj ≤ n ∧ Hid (ApIn (look l) X w.heap.size T (T + 1) w j nj rv acc wr)) (fun i _ => X.kids.len - (intOf i).toNat)
  case atStart => exact ⟨0, n, .slice none 0 0, .nil, rfl, Nat.le_refl _, IN⟩
  case round =>
    obtain ⟨j, nj, rv, acc, rfl, hnj, AI⟩ := hrel
    have hjl := AI.out.jl
    have ho1 := AI.out.ord.1
    have ho2 := AI.out.ord.2.1
    have ho3 := AI.out.ord.2.2.1
    by_cases hlt : j < X.kids.len
    · obtain ⟨hXo, _, b, o, hXp, hlies⟩ := XW.out wr AI.out.B
      replace hXp := Ts.some_of hXp hlt
      obtain ⟨k, s, m, p, c, kids, rest, hd, hEl, hsz1, hok1⟩ := Ts.elem hlies (Below.refl _ _) hXo.2.2.2.2.2.1 hlt
      have hcn := AI.out.cnt
      have happ := AI.out.app
      rw [hd.out] at hcn happ
      obtain ⟨a, nb, hca, hcb, hnab⟩ := Cnt.inv hcn
      have hks : kids.size ≤ 5000 := by omega
      have hdn : X.kids.drop (j + 1) = rest := Ts.drop_succ j _ hd.out
      have c3 := AI.out.bx.c3
      rw [hXp] at c3
      have CA := Lib.hid hca
      have CB := Lib.hid hcb
      have AP := Lib.hid happ
      have DN := Lib.hid hdn
      have EL := Lib.hid hEl
      have OK1 := Lib.hid hok1
      have hblt : b < wr.heap.size := hEl.lt
      have e3 := AI.out.out.c3
      clear hlies hXp hd hEl hok1 hcn happ hca hcb hdn
      go_upto_region 7 with fail
      have LT := Lib.hid hlt
      refine region_facts_mid (fun W_ => Below wr.heap.size wr W_) [fun u _ => u = .pointer (some ⟨T, 3, none⟩), fun u _ => u = rv, fun u _ => u = .slice lp l.length lc, fun u _ => u = .pointer (some ⟨w.heap.size, 3, none⟩), fun u _ => u = .slice (some ⟨b, o, none⟩) X.kids.len X.c, fun u _ => u = .int .i64 j, fun u _ => u = .pointer (some ⟨b, o + j * 4, none⟩), fun u _ => u = .agg #[.int .u8 k, .string s, .int .i64 m, .slice p kids.len c], fun u W => RApp (look l) (wk (look l) ⟨k, s, m, p, c, kids⟩) wr.heap.size u W, fun u W => One (look l) ⟨k, s, m, p, c, kids⟩ wr.heap.size u W] (fun u W => ∃ U : Ts, OwnL (T + 1) 25 u (acc.app U) W ∧ U.len = 1 ∧ App (look l) [⟨k, s, m, p, c, kids⟩] U ∧ Below (T + 1) wr W) 10 (fun i => if i = 11 then some (.pointer (some ⟨T, 3, none⟩)) else none)
        ⟨.eq _, .eq _, .eq _, .eq _, .eq _, .eq _, .eq _, .eq _, (fun _ _ _ h hB => h.below hB), (fun _ _ _ h hB => h.below hB), trivial⟩ (by kernel_rfl) (by kernel_rfl) (by kernel_rfl) (by kernel_rfl) _ rfl (Below.refl _ _).drew ?_ (by decide) rfl ?hll ?hlf
      case hll =>
        intro j' c' h
        by_cases e : j' = 11
        · subst e; decide
        · simp [e] at h
      case hlf =>
        intro j' c' h W'
        by_cases e : j' = 11
        · subst e; trivial
        · simp [e] at h
      refine ⟨?_, ?_, ?_, ?_, ?_, ?_, ?_, ?_, ?_, ?_, ?_, ?_, ?_, trivial⟩
      · refine KStep.of_early (by decide) (by decide) rfl ?_
        intro g_ W_ hz hI hd K hK
        simp only [frameOf, Act.put, List.setIfInBounds_toArray, List.set_cons_zero, List.set_cons_succ]
        go_simp
        refine hK.out (.pointer (some ⟨T, 3, none⟩)) _ W_ ?_ hI (Below.refl _ _) rfl
        simp only [frameOf, Act.put, List.setIfInBounds_toArray, List.set_cons_zero, List.set_cons_succ, Nat.zero_add, Nat.reduceAdd]
      · refine KStep.of_early (by decide) (by decide) rfl ?_
        intro g_ W_ hz hI hd K hK
        simp only [frameOf, Act.put, List.setIfInBounds_toArray, List.set_cons_zero, List.set_cons_succ]
        have h0 : g_ 0 = .pointer (some ⟨T, 3, none⟩) := hd 0 (by kernel_rfl)
        rw [h0]
        have c9 := ((stays hI).1 T 3 (World.block_lt_of_cell? _ _ e3)).trans e3
        go_simp
        refine hK.out rv _ W_ ?_ hI (Below.refl _ _) rfl
        simp only [frameOf, Act.put, List.setIfInBounds_toArray, List.set_cons_zero, List.set_cons_succ, Nat.zero_add, Nat.reduceAdd, h0]
      · refine KStep.of_early (by decide) (by decide) rfl ?_
        intro g_ W_ hz hI hd K hK
        simp only [frameOf, Act.put, List.setIfInBounds_toArray, List.set_cons_zero, List.set_cons_succ]
        go_simp
        refine hK.out (.slice lp l.length lc) _ W_ ?_ hI (Below.refl _ _) rfl
        simp only [frameOf, Act.put, List.setIfInBounds_toArray, List.set_cons_zero, List.set_cons_succ, Nat.zero_add, Nat.reduceAdd]
      · refine KStep.of_early (by decide) (by decide) rfl ?_
        intro g_ W_ hz hI hd K hK
        simp only [frameOf, Act.put, List.setIfInBounds_toArray, List.set_cons_zero, List.set_cons_succ]
        go_simp
        refine hK.out (.pointer (some ⟨w.heap.size, 3, none⟩)) _ W_ ?_ hI (Below.refl _ _) rfl
        simp only [frameOf, Act.put, List.setIfInBounds_toArray, List.set_cons_zero, List.set_cons_succ, Nat.zero_add, Nat.reduceAdd]
      · refine KStep.of_early (by decide) (by decide) rfl ?_
        intro g_ W_ hz hI hd K hK
        simp only [frameOf, Act.put, List.setIfInBounds_toArray, List.set_cons_zero, List.set_cons_succ]
        have h3 : g_ 3 = .pointer (some ⟨w.heap.size, 3, none⟩) := hd 3 (by kernel_rfl)
        rw [h3]
        have c9 := ((stays hI).1 w.heap.size 3 (World.block_lt_of_cell? _ _ c3)).trans c3
        go_simp
        refine hK.out (.slice (some ⟨b, o, none⟩) X.kids.len X.c) _ W_ ?_ hI (Below.refl _ _) rfl
        simp only [frameOf, Act.put, List.setIfInBounds_toArray, List.set_cons_zero, List.set_cons_succ, Nat.zero_add, Nat.reduceAdd, h3]
      · refine KStep.of_early (by decide) (by decide) rfl ?_
        intro g_ W_ hz hI hd K hK
        simp only [frameOf, Act.put, List.setIfInBounds_toArray, List.set_cons_zero, List.set_cons_succ]
        go_simp
        refine hK.out (.int .i64 j) _ W_ ?_ hI (Below.refl _ _) rfl
        simp only [frameOf, Act.put, List.setIfInBounds_toArray, List.set_cons_zero, List.set_cons_succ, Nat.zero_add, Nat.reduceAdd]
      · refine KStep.of_early (by decide) (by decide) rfl ?_
        intro g_ W_ hz hI hd K hK
        simp only [frameOf, Act.put, List.setIfInBounds_toArray, List.set_cons_zero, List.set_cons_succ]
        have h4 : g_ 4 = .slice (some ⟨b, o, none⟩) X.kids.len X.c := hd 4 (by kernel_rfl)
        have h5 : g_ 5 = .int .i64 j := hd 5 (by kernel_rfl)
        rw [h4, h5]
        go_simp
        refine hK.out (.pointer (some ⟨b, o + j * 4, none⟩)) _ W_ ?_ hI (Below.refl _ _) rfl
        simp only [frameOf, Act.put, List.setIfInBounds_toArray, List.set_cons_zero, List.set_cons_succ, Nat.zero_add, Nat.reduceAdd, h4, h5]
      · refine KStep.of_early (by decide) (by decide) rfl ?_
        intro g_ W_ hz hI hd K hK
        simp only [frameOf, Act.put, List.setIfInBounds_toArray, List.set_cons_zero, List.set_cons_succ]
        have h6 : g_ 6 = .pointer (some ⟨b, o + j * 4, none⟩) := hd 6 (by kernel_rfl)
        rw [h6]
        have EW := EL.out.below hI
        have c0 := EW.c0
        have c1 := EW.c1
        have c2 := EW.c2
        have c4 := EW.c3
        go_simp
        refine hK.out (.agg #[.int .u8 k, .string s, .int .i64 m, .slice p kids.len c]) _ W_ ?_ hI (Below.refl _ _) rfl
        simp only [frameOf, Act.put, List.setIfInBounds_toArray, List.set_cons_zero, List.set_cons_succ, Nat.zero_add, Nat.reduceAdd, h6]
      · refine KStep.of_early (by decide) (by decide) rfl ?_
        intro g_ W_ hz hI hd K hK
        simp only [frameOf, Act.put, List.setIfInBounds_toArray, List.set_cons_zero, List.set_cons_succ]
        have h2 : g_ 2 = .slice lp l.length lc := hd 2 (by kernel_rfl)
        have h7 : g_ 7 = .agg #[.int .u8 k, .string s, .int .i64 m, .slice p kids.len c] := hd 7 (by kernel_rfl)
        rw [h2, h7]
        go_simp
        refine (ih a (by omega) ⟨k, s, m, p, c, kids⟩ CA.out (by omega) OK1.out hks W_ lp lc (AT.out.below (AI.out.B.trans (hI.mono AI.out.B.size))) (EL.out.tat.below hI)).mono ?_
        rintro e w' ⟨v', rfl, hR, hB⟩
        refine hK.out v' _ w' ?_ (hI.trans (hB.mono hI.size)) hB (hR.mono hI.size)
        simp only [frameOf, Act.put, List.setIfInBounds_toArray, List.set_cons_zero, List.set_cons_succ, Nat.zero_add, Nat.reduceAdd, h2, h7]
      · refine KStep.of_early (by decide) (by decide) rfl ?_
        intro g_ W_ hz hI hd K hK
        simp only [frameOf, Act.put, List.setIfInBounds_toArray, List.set_cons_zero, List.set_cons_succ]
        obtain ⟨us, q, d, h8, hq8, ha8, hk8, hc8, hn8⟩ := hd 8 (by kernel_rfl)
        rw [h8]
        unfold tv at h8 ⊢
        go_simp
        refine hK.out (.slice (some ⟨W_.heap.size, 0, none⟩) 1 1) _ _ ?_ (hI.alloc hI.size _) ((Below.refl _ _).alloc (Nat.le_refl _) _) (One.new rfl rfl rfl (walked_lies (t := ⟨k, s, m, p, c, kids⟩) HE.out HSM.out (AT.out.below AI.out.B) OK1.out hks EL.out.tat).1 hq8 ha8 hk8 hc8 hn8)
        simp only [frameOf, Act.put, List.setIfInBounds_toArray, List.set_cons_zero, List.set_cons_succ, Nat.zero_add, Nat.reduceAdd, h8]
      · refine KStep.of_mid rfl (by decide) rfl ?_
        intro g_ W_ hz hI hd K hK
        simp only [frameOf, Act.put, List.setIfInBounds_toArray, List.set_cons_zero, List.set_cons_succ]
        have h1 : g_ 1 = rv := hd 1 (by decide) (by decide) rfl
        have h9 := hd 9 (by decide) (by decide) rfl
        replace h9 : One (look l) ⟨k, s, m, p, c, kids⟩ wr.heap.size (g_ 9) W_ := h9
        obtain ⟨R, U, e9, hU1, hUat, hUok, hUk, hUa⟩ := h9
        rw [h1, e9]
        refine if_wanted rfl ?_
        have hown := AI.out.own.below hI
        have hlt2 := hown.1.lt
        have hsI := hI.size
        have hal := AI.out.al
        refine wp_app_terms _ _ rfl (T + 1) rv acc.len (cellsL acc) rfl hown.1 (some ⟨R, 0, none⟩) U 1 rfl (fun h => by cases h) hUat (by omega) (by omega) ?_
        intro v' w' hown' hgr hob
        refine hK.out v' _ w' ?_ ⟨U, OwnL.push0 hown hown' hgr hob hUok hUk ho3 (fun q hq => (AI.out.own.1.lt q hq).2), hU1, hUa, (hI.mono ho3).grown hgr (by omega) (fun q hq => (hlt2 q hq).1)⟩
        simp only [frameOf, Act.put, List.setIfInBounds_toArray, List.set_cons_zero, List.set_cons_succ, Nat.zero_add, Nat.reduceAdd, h1, e9]
      · refine KStep.of_late (by decide) (by decide) rfl ?_
        intro g_ W_ hz K hK
        simp only [frameOf, Act.put, List.setIfInBounds_toArray, List.set_cons_zero, List.set_cons_succ]
        go_simp
        refine hK.out _ ?_
        simp only [frameOf, Act.put, List.setIfInBounds_toArray, List.set_cons_zero, List.set_cons_succ, Nat.zero_add, Nat.reduceAdd]
      · refine KStep.of_last (by decide) rfl rfl ?_
        intro g_ W_ hz hJ hd K hK
        simp only [frameOf, Act.put, List.setIfInBounds_toArray, List.set_cons_zero, List.set_cons_succ]
        obtain ⟨U, hO, hU1, hUa, hBT⟩ := hJ
        have h11 : g_ 11 = .pointer (some ⟨T, 3, none⟩) := hd 11 _ rfl
        obtain ⟨q2, d2, e10, -, -, -⟩ := hO.read
        rw [h11, e10]
        rw [e10] at hO
        have hout := AI.out.out.of_block (hBT.block T ho2)
        have c9 := hout.c3
        have f9 := hout.fr 3
        have HO := Lib.hid hO
        have OU := Lib.hid hout
        have BT := Lib.hid hBT
        have U1 := Lib.hid hU1
        have E10 := Lib.hid e10
        have H11 := Lib.hid h11
        clear hO hout hBT hU1 hd hz h11 e10
        go_simp
        refine hK.out undef _ _ ?_ ?_
        · simp only [frameOf, Act.put, List.setIfInBounds_toArray, List.set_cons_zero, List.set_cons_succ, Nat.zero_add, Nat.reduceAdd, H11.out, E10.out]
        · simp only [frameOf, Act.put, List.setIfInBounds_toArray, List.set_cons_zero, List.set_cons_succ, Nat.zero_add, Nat.reduceAdd, H11.out, E10.out]
          clear hK K
          go_wp2
          go_roundw
          case rel =>
            have hN : ∀ b, b < T + 1 → b ≠ T → (W_.setCell ⟨T, 3, none⟩ (.slice q2 (acc.app U).len d2)).heap[b]? = wr.heap[b]? := fun b hb hne => by
              rw [Below.heap_setCell _ _ _ _ (by simpa using hne)]; exact BT.out.block b hb
            have hBs := BT.out.size
            refine ⟨j + 1, nb, _, acc.app U, by go_num, by omega, Lib.hid ⟨hlt, by rw [app_len, AI.out.al, U1.out], AI.out.bx.of_block (hN _ (by omega) (by omega)), OU.out.put _, AI.out.res.of_block (hN _ (by omega) (by omega)), HO.out.far fun b hb => Below.heap_setCell _ _ _ _ (by simp; omega), fun rs hrs => ?_, by rw [DN.out]; exact CB.out, ⟨ho1, ho2, by simp; omega, AI.out.ord.2.2.2⟩, (AI.out.B.trans (BT.out.mono (by have := AI.out.ord.2.2.2; omega))).setCell (p := ⟨T, 3, none⟩) (by have := AI.out.ord.2.2.2; simp; omega) _⟩⟩
            rw [DN.out] at hrs
            rw [app_assoc]
            exact AP.out _ (hUa.one_app hrs)
          case measure => simp [intOf]; omega
    · obtain ⟨q, c, e1, hqa, hqc, hqn⟩ := AI.out.own.read
      have happ := AI.out.app .nil (by rw [Ts.drop_end hlt]; exact .nil)
      rw [app_nil] at happ
      have o0 := AI.out.out.c0
      have o1 := AI.out.out.c1
      have o2 := AI.out.out.c2
      have o3 := AI.out.out.c3
      rw [e1] at o3
      have c3 := AI.out.bx.c3
      have y0 := AI.out.res.c0
      have y1 := AI.out.res.c1
      have y2 := AI.out.res.c2
      have y3 := AI.out.res.c3
      have yf := AI.out.res.fr
      have QA := Lib.hid hqa
      have QC := Lib.hid (And.intro hqc hqn)
      have AP := Lib.hid happ
      clear e1 hqa hqc hqn happ
      go_wp2
      have P := AI.out.res.put (y := ⟨X.k, X.s, X.n, q, c, acc⟩)
      have p0 := P.c0
      have p1 := P.c1
      have p2 := P.c2
      have p3 := P.c3
      have ho4 := AI.out.ord.2.2.2
      exact bodyPost_ret (v := tv X.k X.s X.n q acc.len c) (by simp [results, Tryz.results30, go_sem, p0, p1, p2, p3, tv]) rfl ⟨_, rfl, ⟨acc, q, c, rfl, (AtP_imp (fun b _ hb => ⟨hb, by omega⟩) QA.out : Ts.AtP (fun b => T + 1 ≤ b ∧ w.heap.size ≤ b) wr q acc).stay (fun b hb _ => by
        rw [Below.heap_setCell _ _ _ _ (by simp; omega), Below.heap_setCell _ _ _ _ (by simp; omega), Below.heap_setCell _ _ _ _ (by simp; omega), Below.heap_setCell _ _ _ _ (by simp; omega)]) |> AtP_imp (fun b _ hb => hb.2), AP.out, AI.out.own.2.1, QC.out.1, QC.out.2⟩, below_put4 AI.out.B (by omega) _ _ _ _⟩

end Go.Proofs.YtnmhnaanpjlniaaGreat
/-
  Layer 3: plain facts for the law SubstTells.
-/
namespace Go.Proofs.YtnmhnaanpjlniaaGreat
open Go.RowKit

theorem App.tw {σ ρ : Sb} (h : STw σ ρ) (hE : Ends σ) {l : List Nd} {us : Ts} (ha : App σ l us) : ∀ {l' : List Nd} {vs : Ts}, TwL l l' → App ρ l' vs → Ts.twin us vs := by
  induction ha with
  | nil => intro l' vs hl hv; cases hl; cases hv; trivial
  | cons _ _ ih1 ih2 =>
    intro l' vs hl hv
    cases hl with
    | cons ht hl =>
      cases hv with
      | cons g1 g2 =>
        have hw := h.wk hE ht
        exact ⟨hw.1, hw.2.1, hw.2.2.1, ih1 (elems_tw hw.2.2.2) g1, ih2 hl g2⟩





end Go.Proofs.YtnmhnaanpjlniaaGreat
